/-
  Parts of my own, one behind the other: QCU4, QCp1, QCp2, QCp3, Qb0, Qb1, Qb2, Qb3, Qb4, Qb5, Qb6, Qb8, Qb9a, GCq, Qb9b.
-/
import Derived.Test.YtllpjoggnfclgaaGreatDoorMrg10
import Derived.Test.YtllpjoggnfclgaaGreatDoorMrg8
import Derived.Test.YtllpjoggnfclgaaGreatDoorMrg9
open Option renaming bind_some→gt, bind→Dp
open Go.IntKind renaming wrap→ne, u8→DD, wrap_u8→DS
open List renaming length_append→Do, replicate→Dq, append_assoc→Dr, drop_eq_nil_of_le→Du, length_cons→Dv, length_nil→Dw, length_drop→Dx, length_take→Dy, drop_eq_getElem_cons→DA, append_nil→DE, flatten_cons→DJ, not_mem_nil→DK, flatten_nil→DL, toArray→DO, mem_cons→DQ, length_replicate→DR, length→DT, getElem_mem→DU, mem_singleton→DY, take_of_length_le→DZ, take_append_drop→D3, mem_cons_of_mem→D4, drop_zero→D5, nil_append→Ec, mem_cons_self→Ed
open Go.Proofs.YtllpjoggnfclgaaGreatDoor.Arr renaming cons→Ds
open Go.Proofs.Tryz renaming prog→Dt
open UInt8 renaming instOfNat→Dz, ofNat→DW
open Bool renaming not_true→DB, not_false→DM
open Go.Lib renaming decDigits→DC
open Int renaming toNat_natCast→DF, fdiv_eq_ediv_of_nonneg→D6, toNat→Eb
open OfNat renaming ofNat→DH
open Nat renaming le_refl→DI, xor_lt_two_pow→D2, lt_or_ge→Ea
open Array renaming toList→DN
open BitVec renaming ofInt→DP
open Decidable renaming decide→DV
open Go.Proofs.YtllpjoggnfclgaaGreatDoor.EnvOK renaming addFn→DX, addBx→D7
open Go.Proofs.YtllpjoggnfclgaaGreatDoor.Td renaming arr→D8, int→D9
namespace Go.Proofs.YtllpjoggnfclgaaGreatDoor
set_option maxRecDepth 100000
open Go.RowKit
set_option linter.unusedVariables false
set_option linter.unusedSimpArgs false
set_option maxRecDepth 100000
theorem aeI {l:List UInt8}(h:sgs l=some []):l=[]:=by
 by_cases hl:l=[]
 ·exact hl
 by_cases hw:(sg l).2=0
 ·rw [th hl hw] at h;cases h
 ·rw [vT hl hw,Option.map_eq_some_iff] at h
  obtain ⟨m,_,h⟩:=h
  cases h
theorem aeH {s:List UInt8}{p x:Nat}{l:List Nat}(h:sgs (s.drop p)=some (x::l)):p<s.length∧(sg (s.drop p)).1=x∧(sg (s.drop p)).2≠0∧p+(sg (s.drop p)).2≤s.length∧sgs (s.drop (p+(sg (s.drop p)).2))=some l:=by
 by_cases hl:s.drop p=[]
 ·rw [hl,xf] at h;cases h
 have hp:p<s.length:=by
  rcases Ea p s.length with h | h
  ·exact h
  ·exact absurd (Du h) hl
 by_cases hw:(sg (s.drop p)).2=0
 ·rw [th hl hw] at h;cases h
 ·rw [vT hl hw,Option.map_eq_some_iff] at h
  obtain ⟨m,h1,h⟩:=h
  injection h with h2 h3
  subst h3
  have:=ale (s.drop p)
  rw [Dx] at this
  rw [List.drop_drop] at h1
  exact ⟨hp,h2,hw,by omega,h1⟩
def un1 (n:Nat):List Int:=if n<65536 then [(n:Int)] else [((55296+(n-65536) / 1024:Nat):Int),((56320+(n-65536) % 1024:Nat):Int)]
def uns (l:List Nat):List Int:=l.flatMap un1
theorem aei {n:Nat}(h:n≤1114111):(∀ x∈un1 n,0≤x∧x<65536)∧(un1 n).length≤2∧1≤(un1 n).length:=by
 unfold un1
 split
 ·refine ⟨fun x hx=> ?_,by simp,by simp⟩
  simp at hx;omega
 ·refine ⟨fun x hx=> ?_,by simp,by simp⟩
  simp at hx;omega
theorem aeh:∀ {l:List Nat},(∀ x∈l,x≤1114111)→(∀ x∈uns l,0≤x∧x<65536)∧(uns l).length≤2*l.length∧l.length≤(uns l).length
 | [],_=>by simp [uns]
 | n::l,h=>by
  obtain ⟨a1,a2,a3⟩:=aei (h n Ed)
  obtain ⟨b1,b2,b3⟩:=aeh (l:=l) (fun x hx=>h x (D4 _ hx))
  have e:uns (n::l)=un1 n++uns l:=rfl
  rw [e]
  refine ⟨fun x hx=> ?_, ?_, ?_⟩
  ·rcases List.mem_append.1 hx with hx | hx
   ·exact a1 x hx
   ·exact b1 x hx
  ·rw [Do,Dv];omega
  ·rw [Do,Dv];omega
theorem alv (a:Nat)(ha:a<2147483648):bits .and .i32 (a:Int) (1023:Int)=((a % 1024:Nat):Int):=by
 show IntKind.i32.wrap ((DP 32 (a:Int)&&&DP 32 1023).toNat:Int)=_
 have h1:(DP 32 (a:Int)).toNat=a:=by rw [BitVec.ofInt_natCast,BitVec.toNat_ofNat];exact Nat.mod_eq_of_lt (by omega)
 have h2:(DP 32 (1023:Int)).toNat=1023:=by decide
 rw [BitVec.toNat_and,h1,h2,Nat.and_two_pow_sub_one_eq_mod a 10,IntKind.wrap_i32]
 omega
section
variable {N:Nat}
theorem wF (s:List UInt8)(hs:s.length<1000000000):∀ (l:List Nat) (p n M:Nat),sgs (s.drop p)=some l→p≤s.length→l.length<M→n≤p→
  gl (fun X c=>aH N X c.1.1 c.2.1 c.2.2.1) M (((n:Int),()),(s,((p:Int),())))=some ((((n+l.length:Nat):Int),()),())
 | [],p,n,M+1,h,hp,hM,hn=>by
  have h0:=aeI h
  have hl:¬ p<s.length:=by have:=congrArg DT h0;rw [Dx] at this;simp at this;omega
  rw [ah]
  simp only [aH,DF,hl,decide_false,cond_false,Dw,Nat.add_zero]
 | x::l,p,n,M+1,h,hp,hM,hn=>by
  obtain ⟨h1,h2,h3,h4,h5⟩:=aeH h
  rw [ah]
  have e1:ne .i64 ((n:Int)+1)=((n+1:Nat):Int):=by rw [ac (by omega) (by omega)];omega
  have e2:(p:Int)+((sg (s.drop p)).2:Int)=((p+(sg (s.drop p)).2:Nat):Int):=by omega
  simp only [aH,DF,h1,decide_true,cond_true,ae1 s p h1,h3,if_false,e1,e2]
  refine (wF s hs l (p+(sg (s.drop p)).2) (n+1) M h5 h4 (by simpa using hM) (by omega)).trans ?_
  rw [Dv,show n+1+l.length=n+(l.length+1) by omega]
theorem vR (hN:10≤N)(s:List UInt8)(hs:s.length<1000000):∀ (M p:Nat) (acc:List Int),s.length-p<M→p≤s.length→acc.length≤p→
  gl (fun X c=>dV N X c.1.1 c.1.2.1 c.2.1) M ((s,((p:Int),())),(acc,()))=some (match sgs (s.drop p) with
   | some l=>.inr ((),(acc++l.map fun n=>((n:Nat):Int),()))
   | none=>.inl (([],(false,())),()))
 | 0,p,acc,h,_,_=>by omega
 | M+1,p,acc,h,hp,ha=>by
  rw [ah]
  by_cases hl:p<s.length
  ·have c1:(p:Int)<(s.length:Int):=by omega
   have hne:s.drop p≠[]:=fun h0=>by have:=congrArg DT h0;rw [Dx] at this;simp at this;omega
   have hle:=ale (s.drop p)
   rw [Dx] at hle
   simp only [dV,c1,decide_true,cond_true,ald hN s p hl (by omega),gt]
   by_cases hw:(sg (s.drop p)).2=0
   ·have hw':((sg (s.drop p)).2:Int)=0:=by omega
    rw [th hne hw]
    simp only [hw',decide_true,cond_true]
   ·have hw':¬ ((sg (s.drop p)).2:Int)=0:=by omega
    have e1:ne .i64 ((p:Int)+((sg (s.drop p)).2:Int))=((p+(sg (s.drop p)).2:Nat):Int):=by rw [ac (by omega) (by omega)];omega
    have r1:ae (acc.length+[((sg (s.drop p)).1:Int)].length) 8=true:=aC (by have:=aJ;simp;omega) (by simp;omega)
    have ih:=vR hN s hs M (p+(sg (s.drop p)).2) (acc++[((sg (s.drop p)).1:Int)]) (by omega) (by omega) (by simp;omega)
    rw [vT hne hw,List.drop_drop]
    simp only [hw',decide_false,cond_false,e1,r1,cond_true]
    refine ih.trans ?_
    cases sgs (s.drop (p+(sg (s.drop p)).2)) with
    | none=>rfl
    | some l=>simp
  ·have c1:¬ (p:Int)<(s.length:Int):=by omega
   rw [Du (by omega),xf]
   simp only [dV,c1,decide_false,cond_false,List.map_nil,DE]
theorem ajd (s:List UInt8)(hs:s.length<1000000)(hN:s.length<N){l:List Nat}(h:sgs s=some l):aV N s=some (l.length:Int):=by
 have hl:=(k9 s.length s l (DI _) h).2
 have:=wF (N:=N) s (by omega) l 0 0 N (by simpa using h) (Nat.zero_le _) (by omega) (DI _)
 have h1:cv N (((0:Int),()),(s,((0:Int),())))=some ((((0+l.length:Nat):Int),()),()):=this
 unfold aV
 rw [h1,gt]
 simp
theorem CG (s:List UInt8)(hs:s.length<1000000)(hN:s.length+10≤N):gp N s=some (match sgs s with
  | some l=>(l.map fun n=>((n:Nat):Int),true)
  | none=>([],false)):=by
 have:=vR (N:=N) (by omega) s hs N 0 [] (by omega) (Nat.zero_le _) (by simp)
 have h1:mY N ((s,((0:Int),())),(([]:List Int),()))=_:=this
 unfold gp
 rw [h1,gt,D5]
 cases sgs s with
 | none=>rfl
 | some l=>simp
def mayN (s:List UInt8):Int:=match sgs s with
 | some l=>if 64<l.length then 8 else 0
 | none=>3
theorem akE (s:List UInt8)(hs:s.length<1000000)(hN:s.length+10≤N):kR N s=some (mayN s):=by
 unfold kR lU mayN
 rw [ah9 s (by omega)]
 cases h:sgs s with
 | none=>rfl
 | some l=>
  simp only [gt,Option.isSome_some,DB,cond_false,ajd (N:=N) s hs (by omega) h]
  by_cases hl:64<l.length
  ·have hl':(64:Int)<(l.length:Int):=by omega
   simp only [hl',hl,decide_true,cond_true,if_true]
  ·have hl':¬ (64:Int)<(l.length:Int):=by omega
   simp only [hl',hl,decide_false,cond_false,if_false]
theorem aeU (s:List UInt8)(hs:s.length<1000000)(hN:s.length+10≤N):lf N s=some (mayN s):=by
 unfold lf mayN
 rw [CG s hs hN]
 cases h:sgs s with
 | none=>rfl
 | some l=>
  simp only [gt,DB,cond_false,List.length_map]
  by_cases hl:64<l.length
  ·have hl':(64:Int)<(l.length:Int):=by omega
   simp only [hl',hl,decide_true,cond_true,if_true]
  ·have hl':¬ (64:Int)<(l.length:Int):=by omega
   simp only [hl',hl,decide_false,cond_false,if_false]
theorem pk {x:Int}(h1:0≤x)(h2:x<65536):ne .u16 x=x:=by
 rw [IntKind.wrap_u16];omega
theorem aee {x:Int}(h1: -2147483648≤x)(h2:x<2147483648):ne .i32 x=x:=by
 rw [IntKind.wrap_i32];omega
theorem vM (s:List UInt8)(hs:s.length<1000000):∀ (l:List Nat) (p M:Nat) (acc:List Int),sgs (s.drop p)=some l→p≤s.length→l.length<M→acc.length≤2*p→
  gl (fun X c=>dQ N X c.2.1 c.2.2.1 c.2.2.2.1) M ((),(acc,(s,((p:Int),()))))=some ((),(acc++uns l,()))
 | [],p,M+1,acc,h,hp,hM,ha=>by
  have h0:=aeI h
  have hl:¬ p<s.length:=by have:=congrArg DT h0;rw [Dx] at this;simp at this;omega
  rw [ah]
  simp only [dQ,DF,hl,decide_false,cond_false,uns,List.flatMap_nil,DE]
 | x::l,p,M+1,acc,h,hp,hM,ha=>by
  obtain ⟨h1,h2,h3,h4,h5⟩:=aeH h
  have hb:=CH (s.drop p)
  rw [h2] at hb
  rw [ah]
  have e2:(p:Int)+((sg (s.drop p)).2:Int)=((p+(sg (s.drop p)).2:Nat):Int):=by omega
  have hu:uns (x::l)=un1 x++uns l:=rfl
  obtain ⟨u1,u2,u3⟩:=aei hb
  have ih:=vM s hs l (p+(sg (s.drop p)).2) M (acc++un1 x) h5 h4 (by simpa using hM) (by rw [Do];omega)
  simp only [dQ,DF,h1,decide_true,cond_true,ae1 s p h1,h3,if_false,e2,h2]
  rw [hu,←Dr]
  by_cases hx:x<65536
  ·have hx':(x:Int)<65536:=by omega
   have e3:ne .u16 (x:Int)=x:=pk (by omega) (by omega)
   have r1:ae (acc.length+[(x:Int)].length) 2=true:=aC (by have:=aJ;simp;omega) (by simp;omega)
   have eu:un1 x=[(x:Int)]:=by simp [un1,hx]
   simp only [hx',decide_true,cond_true,e3,r1]
   rw [eu] at ih ⊢
   exact ih
  ·have hx':¬ (x:Int)<65536:=by omega
   have e3:ne .i32 ((x:Int)-65536)=((x-65536:Nat):Int):=by rw [aee (by omega) (by omega)];omega
   have e4:(2:Int) ^ min (Eb 10) (IntKind.bits IntKind.i32)=1024:=by decide
   have e5:Int.fdiv ((x-65536:Nat):Int) 1024=(((x-65536) / 1024:Nat):Int):=by rw [D6 _ (by decide)];omega
   have e6:ne .i32 (55296+(((x-65536) / 1024:Nat):Int))=((55296+(x-65536) / 1024:Nat):Int):=by rw [aee (by omega) (by omega)];omega
   have e7:ne .u16 ((55296+(x-65536) / 1024:Nat):Int)=((55296+(x-65536) / 1024:Nat):Int):=pk (by omega) (by omega)
   have e8:bits .and .i32 ((x-65536:Nat):Int) (1023:Int)=(((x-65536) % 1024:Nat):Int):=alv _ (by omega)
   have e9:ne .i32 (56320+(((x-65536) % 1024:Nat):Int))=((56320+(x-65536) % 1024:Nat):Int):=by rw [aee (by omega) (by omega)];omega
   have e10:ne .u16 ((56320+(x-65536) % 1024:Nat):Int)=((56320+(x-65536) % 1024:Nat):Int):=pk (by omega) (by omega)
   have eu:un1 x=[((55296+(x-65536) / 1024:Nat):Int),((56320+(x-65536) % 1024:Nat):Int)]:=by simp [un1,hx]
   have r1:ae (acc.length+[((55296+(x-65536) / 1024:Nat):Int),((56320+(x-65536) % 1024:Nat):Int)].length) 2=true:=aC (by have:=aJ;simp;omega) (by simp;omega)
   simp only [hx',decide_false,cond_false,e3,e4,e5,e6,e7,e8,e9,e10,r1,cond_true]
   rw [eu] at ih ⊢
   exact ih
theorem aib (s:List UInt8)(hs:s.length<1000000)(hN:s.length+10≤N):iS N s=some (match sgs s with | some l=>if 64<l.length then [] else uns l | none=>[]):=by
 unfold iS
 rw [akE s hs hN]
 unfold mayN
 cases h:sgs s with
 | none=>rfl
 | some l=>
  have hl:=(k9 s.length s l (DI _) h).2
  by_cases h64:64<l.length
  ·simp only [h64,if_true];rfl
  ·simp only [h64,if_false,gt]
   have:=vM (N:=N) s hs l 0 N [] (by simpa using h) (Nat.zero_le _) (by omega) (by simp)
   have h1:mS N ((),(([]:List Int),(s,((0:Int),()))))=some ((),([]++uns l,())):=this
   simp only [h1,decide_true,DB,cond_false,gt,Ec]
theorem tr (l:List Nat)(hl:l.length<1000000)(hx:∀ x∈l,x≤1114111):∀ (k i M:Nat) (acc:List Int),k+i=l.length→k<M→acc.length≤2*i→
  gl (fun X c=>dU N X c.1.1 c.1.2.1 c.2.1) M (((l.map fun n=>((n:Nat):Int)),((i:Int),())),(acc,()))=some ((),(acc++uns (l.drop i),()))
 | 0,i,M+1,acc,hk,hM,ha=>by
  have c1:¬ (i:Int)<((l.map fun n=>((n:Nat):Int)).length:Int):=by rw [List.length_map];omega
  rw [ah,Du (by omega)]
  simp only [dU,c1,decide_false,cond_false,uns,List.flatMap_nil,DE]
 | k+1,i,M+1,acc,hk,hM,ha=>by
  have hi:i<l.length:=by omega
  have c1:(i:Int)<((l.map fun n=>((n:Nat):Int)).length:Int):=by rw [List.length_map];omega
  obtain ⟨x,hxe⟩:∃ x,x=l[i]:=⟨_,rfl⟩
  have hb:x≤1114111:=by rw [hxe];exact hx _ (DU hi)
  have g1:getI (l.map fun n=>((n:Nat):Int)) (i:Int)=some (x:Int):=by rw [qo,List.getElem?_map,List.getElem?_eq_getElem hi,hxe];rfl
  have e1:ne .i64 ((i:Int)+1)=((i+1:Nat):Int):=by rw [ac (by omega) (by omega)];omega
  obtain ⟨u1,u2,u3⟩:=aei hb
  have ih:=tr l hl hx k (i+1) M (acc++un1 x) (by omega) (by omega) (by rw [Do];omega)
  have hu:uns (l.drop i)=un1 x++uns (l.drop (i+1)):=by rw [DA hi,←hxe];rfl
  rw [ah,hu,←Dr]
  simp only [dU,c1,decide_true,cond_true,g1,gt,e1]
  by_cases hx:x<65536
  ·have hx':(x:Int)<65536:=by omega
   have e3:ne .u16 (x:Int)=x:=pk (by omega) (by omega)
   have r1:ae (acc.length+[(x:Int)].length) 2=true:=aC (by have:=aJ;simp;omega) (by simp;omega)
   have eu:un1 x=[(x:Int)]:=by simp [un1,hx]
   simp only [hx',decide_true,cond_true,e3,r1]
   rw [eu] at ih ⊢
   exact ih
  ·have hx':¬ (x:Int)<65536:=by omega
   have e3:ne .i64 ((x:Int)-65536)=((x-65536:Nat):Int):=by rw [ac (by omega) (by omega)];omega
   have e5:Int.tdiv ((x-65536:Nat):Int) 1024=(((x-65536) / 1024:Nat):Int):=by rw [Int.tdiv_eq_ediv_of_nonneg (by omega)];omega
   have e5':ne .i64 (((x-65536) / 1024:Nat):Int)=(((x-65536) / 1024:Nat):Int):=ac (by omega) (by omega)
   have e6:ne .i64 (55296+(((x-65536) / 1024:Nat):Int))=((55296+(x-65536) / 1024:Nat):Int):=by rw [ac (by omega) (by omega)];omega
   have e7:ne .u16 ((55296+(x-65536) / 1024:Nat):Int)=((55296+(x-65536) / 1024:Nat):Int):=pk (by omega) (by omega)
   have e8:Int.tmod ((x-65536:Nat):Int) 1024=(((x-65536) % 1024:Nat):Int):=by rw [Int.tmod_eq_emod_of_nonneg (by omega)];omega
   have e9:ne .i64 (56320+(((x-65536) % 1024:Nat):Int))=((56320+(x-65536) % 1024:Nat):Int):=by rw [ac (by omega) (by omega)];omega
   have e10:ne .u16 ((56320+(x-65536) % 1024:Nat):Int)=((56320+(x-65536) % 1024:Nat):Int):=pk (by omega) (by omega)
   have eu:un1 x=[((55296+(x-65536) / 1024:Nat):Int),((56320+(x-65536) % 1024:Nat):Int)]:=by simp [un1,hx]
   have r1:ae (acc.length+[((55296+(x-65536) / 1024:Nat):Int),((56320+(x-65536) % 1024:Nat):Int)].length) 2=true:=aC (by have:=aJ;simp;omega) (by simp;omega)
   simp only [hx',decide_false,cond_false,e3,e5,e5',e6,e7,e8,e9,e10,r1,cond_true]
   rw [eu] at ih ⊢
   exact ih
theorem aeO (s:List UInt8)(hs:s.length<1000000)(hN:s.length+10≤N):jf N s=some (match sgs s with | some l=>if 64<l.length then [] else uns l | none=>[]):=by
 unfold jf
 rw [aeU s hs hN,CG s hs hN]
 unfold mayN
 cases h:sgs s with
 | none=>rfl
 | some l=>
  obtain ⟨hx,hl⟩:=k9 s.length s l (DI _) h
  by_cases h64:64<l.length
  ·simp only [h64,if_true];rfl
  ·simp only [h64,if_false,gt]
   have:=tr (N:=N) l (by omega) hx l.length 0 N [] (by omega) (by omega) (by simp)
   have h1:mX N (((l.map fun n=>((n:Nat):Int)),((0:Int),())),(([]:List Int),()))=some ((),([]++uns (l.drop 0),())):=this
   simp only [h1,decide_true,DB,cond_false,gt,Ec,D5]
def by2 (u:Int):List Int:=[u % 256,u / 256]
theorem ar4 (n:Int)(h:0≤n∧n<65536)(hN:100≤N):cm N (ne .u64 n) 2 true=some (by2 n,0):=by
 obtain ⟨M,rfl⟩:∃ M,N=M+3:=⟨N-3,by omega⟩
 have w0:ne .u64 n=n:=aK h.1 (by omega)
 rw [w0]
 show adi (M+3) n 2 true=_
 have r1:ae (Eb 2) 1=true:=by decide
 have r2:Dq (Eb 2) (0:Int)=[0,0]:=rfl
 have w3:ne .i64 ((0:Int)+1)=1:=by decide
 have w4:ne .i64 ((1:Int)+1)=2:=by decide
 have e1:(2:Int) ^ min (Eb 8) (IntKind.bits IntKind.u64)=256:=by decide
 have d1:Int.fdiv n 256=n / 256:=D6 n (by decide)
 have d2:Int.fdiv (n / 256) 256=n / 256 / 256:=D6 _ (by decide)
 have w7:ne .u8 n=n % 256:=by rw [DS]
 have w8:ne .u8 (n / 256)=n / 256:=by rw [DS];omega
 simp only [adi,sH,gl,xK,pu,r1,r2,e1,cond_false,cond_true,gt,w3,w4]
 simp [w3,w4,d1,d2,w7,w8,by2]
theorem C2 (hN:100≤N)(u:List Int)(hu:u.length<1000000)(hx:∀ x∈u,0≤x∧x<65536):∀ (k i M:Nat) (acc:List Int),k+i=u.length→k<M→acc.length≤2*i→
  gl (fun X c=>ff N X c.1.1 c.1.2.1 c.1.2.2.1 c.2.1) M ((u,((u.length:Int),((i:Int),()))),(acc,()))=some ((),(acc++(u.drop i).flatMap by2,()))
 | 0,i,M+1,acc,hk,hM,ha=>by
  have c1:¬ (i:Int)<(u.length:Int):=by omega
  rw [ah,Du (by omega)]
  simp only [ff,c1,decide_false,cond_false,List.flatMap_nil,DE]
 | k+1,i,M+1,acc,hk,hM,ha=>by
  have hi:i<u.length:=by omega
  have c1:(i:Int)<(u.length:Int):=by omega
  have g1:=a7 u i hi
  have e1:ne .i64 ((i:Int)+1)=((i+1:Nat):Int):=by rw [ac (by omega) (by omega)];omega
  have p:=ar4 (N:=N) u[i] (hx _ (DU hi)) hN
  have r1:ae (acc.length+(by2 u[i]).length) 1=true:=aC (by have:=aJ;simp [by2];omega) (by simp [by2];omega)
  have ih:=C2 hN u hu hx k (i+1) M (acc++by2 u[i]) (by omega) (by omega) (by rw [Do];simp [by2];omega)
  rw [ah,DA hi,List.flatMap_cons,←Dr]
  simp only [ff,c1,decide_true,cond_true,g1,gt,e1,p,r1]
  exact ih
theorem zi (u:List Int)(hu:u.length<1000000)(hx:∀ x∈u,0≤x∧x<65536):∀ (k i M:Nat) (acc:List Int),k+i=u.length→k<M→acc.length≤2*i→
  gl (fun X c=>fk N X c.1.1 c.1.2.1 c.2.1) M ((u,((i:Int),())),(acc,()))=some ((),(acc++(u.drop i).flatMap by2,()))
 | 0,i,M+1,acc,hk,hM,ha=>by
  have c1:¬ (i:Int)<(u.length:Int):=by omega
  rw [ah,Du (by omega)]
  simp only [fk,c1,decide_false,cond_false,List.flatMap_nil,DE]
 | k+1,i,M+1,acc,hk,hM,ha=>by
  have hi:i<u.length:=by omega
  have c1:(i:Int)<(u.length:Int):=by omega
  have g1:=a7 u i hi
  have e1:ne .i64 ((i:Int)+1)=((i+1:Nat):Int):=by rw [ac (by omega) (by omega)];omega
  have hb:=hx _ (DU hi)
  have e2:ne .u8 (Int.tmod u[i] 256)=u[i] % 256:=by rw [Int.tmod_eq_emod_of_nonneg hb.1,DS];omega
  have e3:ne .u8 (ne .u16 (Int.tdiv u[i] 256))=u[i] / 256:=by rw [Int.tdiv_eq_ediv_of_nonneg hb.1,pk (by omega) (by omega),DS];omega
  have r1:ae (acc.length+([u[i] % 256,u[i] / 256]:List Int).length) 1=true:=aC (by have:=aJ;simp;omega) (by simp;omega)
  have ih:=zi u hu hx k (i+1) M (acc++by2 u[i]) (by omega) (by omega) (by rw [Do];simp [by2];omega)
  rw [ah,DA hi,List.flatMap_cons,←Dr]
  simp only [fk,c1,decide_true,cond_true,g1,gt,e1,e2,e3,r1]
  exact ih
def layN (s:List UInt8):List Int×Int:=match sgs s with
 | some l=>if 64<l.length then ([],8) else ((uns l).flatMap by2,0)
 | none=>([],3)
theorem aqk (s:List UInt8)(hs:s.length<10000)(hN:2*s.length+100≤N):nk N s=some (layN s)∧nw N s=some (layN s):=by
 unfold nk nw
 rw [akE s (by omega) (by omega),aeU s (by omega) (by omega),aib s (by omega) (by omega),aeO s (by omega) (by omega)]
 unfold mayN layN
 cases h:sgs s with
 | none=>exact ⟨rfl,rfl⟩
 | some l=>
  obtain ⟨hx,hl⟩:=k9 s.length s l (DI _) h
  obtain ⟨u1,u2,u3⟩:=aeh hx
  by_cases h64:64<l.length
  ·simp only [h64,if_true];exact ⟨rfl,rfl⟩
  ·simp only [h64,if_false,gt,decide_true,DB,cond_false]
   have a1:=C2 (N:=N) (by omega) (uns l) (by omega) u1 (uns l).length 0 N [] (by omega) (by omega) (by simp)
   have a2:=zi (N:=N) (uns l) (by omega) u1 (uns l).length 0 N [] (by omega) (by omega) (by simp)
   have b1:oX N ((uns l,(((uns l).length:Int),((0:Int),()))),(([]:List Int),()))=some ((),([]++((uns l).drop 0).flatMap by2,())):=a1
   have b2:o5 N ((uns l,((0:Int),())),(([]:List Int),()))=some ((),([]++((uns l).drop 0).flatMap by2,())):=a2
   rw [b1,b2]
   simp
theorem alU (s:List UInt8):(layN s).1.length≤256∧AllB (layN s).1:=by
 unfold layN
 cases h:sgs s with
 | none=>exact ⟨by simp,AllB.nil⟩
 | some l=>
  obtain ⟨hx,hl⟩:=k9 s.length s l (DI _) h
  obtain ⟨u1,u2,u3⟩:=aeh hx
  by_cases h64:64<l.length
  ·simp only [h64,if_true];exact ⟨by simp,AllB.nil⟩
  ·simp only [h64,if_false]
   have key:∀ u:List Int,(∀ x∈u,0≤x∧x<65536)→(u.flatMap by2).length=2*u.length∧AllB (u.flatMap by2):=fun u=>by
    induction u with
    | nil=>intro _;exact ⟨rfl,AllB.nil⟩
    | cons x u ih=>
     intro hu
     obtain ⟨i1,i2⟩:=ih fun y hy=>hu y (D4 _ hy)
     have hx:=hu x Ed
     rw [List.flatMap_cons]
     exact ⟨by rw [Do,i1];simp [by2];omega,AllB.append (AllB.cons (by omega) (AllB.cons (by omega) AllB.nil)) i2⟩
   obtain ⟨k1,k2⟩:=key (uns l) u1
   exact ⟨by omega,k2⟩
end
theorem CZ (b:List Int)(hb:AllB b)(hl:b.length≤1000):∃ D:Arr Int 16,rQ 200000 [b]=some D∧jZ 200000 b=some D∧AllB D.l:=by
 obtain ⟨D,d1,d2,d3⟩:=aiK [b] (by simp) (fun p hp=>by rw [DY] at hp;subst hp;exact hb) (by simp;omega)
 have hfl:([b]:List (List Int)).flatten=b:=by simp
 rw [hfl] at d3
 exact ⟨D,d2,d3,d1⟩
theorem wf16 {h:Arr Int 16}(w:wfT (.arr 16 (.int .u8)) h):AllB h.l:=fun x hx=>arT (w x hx)
theorem vP (h:Arr Int 16)(hb:AllB h.l):∃ D:Arr Int 16,dz 200000 h=some D∧lZ 200000 h=some D∧AllB D.l:=by
 obtain ⟨D,d1,d2,d3⟩:=CZ h.l hb (by rw [h.h];omega)
 exact ⟨D,by simp only [dz,d1,gt],by simp only [lZ,d2,gt],d3⟩
theorem AllB.zeros (n:Nat):AllB (Dq n 0):=fun x hx=>by
 have:=List.eq_of_mem_replicate hx
 omega
theorem alF (s:List UInt8)(hs:s.length≤600):∃ D e,cN 200000 s=some (D,e)∧pW 200000 s=some (D,e)∧AllB D.l:=by
 obtain ⟨l1,l2⟩:=aqk (N:=200000) s (by omega) (by omega)
 obtain ⟨k1,k2⟩:=alU s
 unfold cN pW
 rw [l1,l2,gt,gt]
 by_cases he:(layN s).2=0
 ·obtain ⟨D,d1,d2,d3⟩:=CZ (layN s).1 k2 (by omega)
  refine ⟨D,0, ?_, ?_,d3⟩
  ·simp only [he,decide_true,DB,cond_false,d1,gt]
  ·simp only [he,decide_true,DB,cond_false,d2,gt]
 ·refine ⟨_,(layN s).2,by simp only [he,decide_false,DM,cond_true];exact rfl,by simp only [he,decide_false,DM,cond_true], ?_⟩
  exact AllB.zeros 16
theorem xb {α:Type}(n:Nat)(l:List α)(h:n≤l.length):∃ a:Arr α n,a.l=l.take n∧dA n l=some a:=⟨⟨l.take n,by rw [Dy];omega⟩,rfl,dif_pos h⟩
theorem afc (h:Arr Int 16)(Z:Arr Int 21)(hZ:Z.l=Dq 21 0):(Z.over h.l).l=h.l++[0,0,0,0,0]:=by
 show h.l.take 21++Z.l.drop h.l.length=_
 rw [h.h,hZ,DZ (by rw [h.h];omega)]
 rfl
theorem aes (h:Arr Int 16)(hb:AllB h.l):∃ t0 t1 t2:Arr Int 7,AllB t0.l∧AllB t1.l∧AllB t2.l∧ez 200000 h=some (Ds t0 (Ds t1 (Ds t2 Arr.nil)))∧cy 200000 h 0=some t0.l∧cy 200000 h 1=some t1.l∧cy 200000 h 2=some t2.l:=by
 obtain ⟨Lg,hLg⟩:∃ L,L=h.l++[0,0,0,0,0]:=⟨_,rfl⟩
 have hlen:Lg.length=21:=by rw [hLg,Do,h.h];rfl
 have hLB:AllB Lg:=by rw [hLg];exact hb.append (AllB.zeros 5)
 obtain ⟨t0,a0,b0⟩:=xb 7 (Lg.take 7) (by rw [Dy];omega)
 obtain ⟨t1,a1,b1⟩:=xb 7 ((Lg.drop 7).take 7) (by rw [Dy,Dx];omega)
 obtain ⟨t2,a2,b2⟩:=xb 7 (Lg.drop 14) (by rw [Dx];omega)
 rw [List.take_take,Nat.min_self] at a0 a1
 have hT:ez 200000 h=some (Ds t0 (Ds t1 (Ds t2 Arr.nil))):=by
  unfold ez
  have hz:=afc h (Ds 0 (Ds 0 (Ds 0 (Ds 0 (Ds 0 (Ds 0 (Ds 0 (Ds 0 (Ds 0 (Ds 0 (Ds 0 (Ds 0 (Ds 0 (Ds 0 (Ds 0 (Ds 0 (Ds 0 (Ds 0 (Ds 0 (Ds 0 (Ds 0 Arr.nil))))))))))))))))))))) rfl
  rw [hz,←hLg]
  have s1:cL Lg (7:Int)=some (Lg.take 7):=ed Lg (i:=7) rfl (by omega)
  have s2:subI Lg (7:Int) (14:Int)=some ((Lg.drop 7).take 7):=gS Lg (i:=7) (j:=14) rfl rfl (by omega) (by omega)
  have s3:bJ Lg (14:Int)=some (Lg.drop 14):=ek Lg (i:=14) rfl (by omega)
  simp only [s1,s2,s3,gt,b0,b1,b2]
 have hR:∀ (n:Nat) (_:n<3),cy 200000 h (n:Int)=some ((Lg.drop (7*n)).take 7):=fun n hn=>by
  have e1:ne .i64 (7*(n:Int))=((7*n:Nat):Int):=by rw [ac (by omega) (by omega)];omega
  have e2:ne .i64 (((7*n:Nat):Int)+7)=((7*n+7:Nat):Int):=by rw [ac (by omega) (by omega)];omega
  have r1:ae h.l.length 1=true:=aC (by have:=aJ;rw [h.h];omega) (by rw [h.h];omega)
  have r2:ae (h.l.length+([0,0,0,0,0]:List Int).length) 1=true:=aC (by have:=aJ;rw [h.h];simp;omega) (by rw [h.h];simp)
  have s1:=gS Lg (i:=7*n) (j:=7*n+7) rfl rfl (by omega) (by omega)
  rw [Nat.add_sub_cancel_left] at s1
  unfold cy
  rw [r1,r2]
  simp only [cond_true,e1,e2,←hLg,s1,gt]
 have h0:=hR 0 (by omega)
 have h1:=hR 1 (by omega)
 have h2:=hR 2 (by omega)
 have e2:(Lg.drop (7*2)).take 7=t2.l:=by rw [a2]
 have e1:(Lg.drop (7*1)).take 7=t1.l:=by rw [a1]
 have e0:(Lg.drop (7*0)).take 7=t0.l:=by rw [a0];rfl
 rw [e0] at h0;rw [e1] at h1;rw [e2] at h2
 refine ⟨t0,t1,t2, ?_, ?_, ?_,hT,h0,h1,h2⟩
 ·rw [←e0];exact (hLB.drop _).take _
 ·rw [←e1];exact (hLB.drop _).take _
 ·rw [←e2];exact (hLB.drop _).take _
section
variable {N:Nat}
def bAt (s:List UInt8):Nat→Nat
 | 0=>0
 | n+1=>if (((s.getD n 0).toNat:Nat):Int)=92 then n+1 else bAt s n
theorem agA (s:List UInt8):∀ n,bAt s n≤n
 | 0=>DI _
 | n+1=>by
  have:=agA s n
  unfold bAt
  split <;> omega
theorem apT (s:List UInt8)(n:Nat)(h:n<s.length):s.getD n 0=s[n]:=by rw [List.getD_eq_getElem?_getD,List.getElem?_eq_getElem h];rfl
theorem aft (s:List UInt8)(hs:s.length≤1000):∀ (n k:Nat),n≤s.length→n<k→gl (fun X c=>aF N X c.1.1 c.1.2.1 c.1.2.2.1) k ((s,((92:Int),(((n:Int)-1),()))),())=some (if bAt s n=0 then .inr ((),()) else .inl ((((bAt s n:Int)-1),()),()))
 | 0,k+1,_,_=>by
  have c1:¬ ((0:Int)≤((0:Nat):Int)-1):=by omega
  rw [ah]
  simp only [aF,c1,decide_false,cond_false,bAt,if_true]
 | n+1,k+1,hn,hk=>by
  have e:((n+1:Nat):Int)-1=(n:Int):=by omega
  have c1:(0:Int)≤(n:Int):=by omega
  have hlt:n<s.length:=by omega
  have g:=a7 s n hlt
  have gd:=apT s n hlt
  have w:ne .i64 ((n:Int)-1)=(n:Int)-1:=ac (by omega) (by omega)
  rw [ah,e]
  by_cases h:((s[n].toNat:Nat):Int)=92
  ·have hb:bAt s (n+1)=n+1:=by unfold bAt;rw [gd,if_pos h]
   rw [hb,if_neg (by omega),e]
   simp only [aF,c1,decide_true,cond_true,g,gt,h]
  ·have hb:bAt s (n+1)=bAt s n:=by rw [bAt,gd,if_neg h]
   rw [hb]
   simp only [aF,c1,decide_true,cond_true,g,gt,h,decide_false,cond_false,w]
   exact aft s hs n k (by omega) (by omega)
theorem agx (s:List UInt8)(hs:s.length≤1000)(hN:10000≤N):gj N s=some (s.drop (bAt s s.length)):=by
 have w1:ne .i64 ((s.length:Int)-1)=(s.length:Int)-1:=ac (by omega) (by omega)
 have h:=aft (N:=N) s hs s.length N (DI _) (by omega)
 have hb:=agA s s.length
 unfold gj cM bH
 rw [w1]
 have h':cY N ((s,((92:Int),(((s.length:Int)-1),()))),())=_:=h
 rw [h']
 by_cases hz:bAt s s.length=0
 ·have w2:ne .i64 ((-1:Int)+1)=0:=by decide
  have d:bJ s (0:Int)=some (s.drop 0):=ek s (i:=0) rfl (by omega)
  rw [if_pos hz,hz]
  simp only [gt,Sum.elim_inr,w2,d]
 ·have w2:ne .i64 (((bAt s s.length:Int)-1)+1)=(bAt s s.length:Int):=by rw [ac (by omega) (by omega)];omega
  have d:bJ s (bAt s s.length:Int)=some (s.drop (bAt s s.length)):=ek s (i:=bAt s s.length) rfl hb
  rw [if_neg hz]
  simp only [gt,Sum.elim_inl,w2,d]
theorem aqO (s:List UInt8)(hs:s.length≤1000)(hN:10000≤N):lg N s=some (s.drop (bAt s s.length)):=by
 have h:ny N ((s,((0:Int),((0:Int),()))),())=some ((s,((bAt s s.length:Int),())),()):=by
  have:=cz (G:=fun X c=>dD N X c.1.1 c.1.2.1 c.1.2.2.1) (fun i=>((s,((bAt s i:Int),((i:Int),()))),())) s.length ((s,((bAt s s.length:Int),())),()) (fun X i hi=> ?_) (fun X=> ?_) N 0 (Nat.zero_le _) (by omega)
  ·exact this
  ·have c1:((i:Int)<(s.length:Int)):=by omega
   have g:=a7 s i hi
   have w:ne .i64 ((i:Int)+1)=((i+1:Nat):Int):=by rw [ac (by omega) (by omega)];omega
   have gd:=apT s i hi
   by_cases h:((s[i].toNat:Nat):Int)=92
   ·have hb:bAt s (i+1)=i+1:=by unfold bAt;rw [gd,if_pos h]
    simp only [dD,c1,decide_true,cond_true,g,gt,h,w,hb]
   ·have hb:bAt s (i+1)=bAt s i:=by rw [bAt,gd,if_neg h]
    simp only [dD,c1,decide_true,cond_true,g,gt,h,decide_false,cond_false,w,hb]
  ·have c1:¬ ((s.length:Int)<(s.length:Int)):=by omega
   simp only [dD,c1,decide_false,cond_false]
 have hb:=agA s s.length
 have d:bJ s (bAt s s.length:Int)=some (s.drop (bAt s s.length)):=ek s (i:=bAt s s.length) rfl hb
 unfold lg
 rw [h]
 simp only [gt,d]
abbrev DIG:List UInt8:=(@DN UInt8 (@DO UInt8 ([(@DH UInt8 (48:Nat) (@Dz (48:Nat))),(@DH UInt8 (49:Nat) (@Dz (49:Nat))),(@DH UInt8 (50:Nat) (@Dz (50:Nat))),(@DH UInt8 (51:Nat) (@Dz (51:Nat))),(@DH UInt8 (52:Nat) (@Dz (52:Nat))),(@DH UInt8 (53:Nat) (@Dz (53:Nat))),(@DH UInt8 (54:Nat) (@Dz (54:Nat))),(@DH UInt8 (55:Nat) (@Dz (55:Nat))),(@DH UInt8 (56:Nat) (@Dz (56:Nat))),(@DH UInt8 (57:Nat) (@Dz (57:Nat))),(@DH UInt8 (65:Nat) (@Dz (65:Nat))),(@DH UInt8 (66:Nat) (@Dz (66:Nat))),(@DH UInt8 (67:Nat) (@Dz (67:Nat))),(@DH UInt8 (68:Nat) (@Dz (68:Nat))),(@DH UInt8 (69:Nat) (@Dz (69:Nat))),(@DH UInt8 (70:Nat) (@Dz (70:Nat)))]:List (UInt8))))
def dg (n:Nat):UInt8:=[48,49,50,51,52,53,54,55,56,57,65,66,67,68,69,70].getD n 0
theorem hx1:∀ n:Nat,n<256→(getI DIG (@Int.fdiv (n:Int) (@HPow.hPow Int Nat Int (@instHPow Int Nat (@instPowNat Int @Int.instNatPow)) (2:Int) (@Min.min Nat @instMinNat (Eb (4:Int)) (@IntKind.bits @DD)))))=some (dg (n / 16)):=by decide +kernel
theorem hx2:∀ n:Nat,n<256→(getI DIG (@Go.bits @Go.BinOp.and @DD (n:Int) (15:Int)))=some (dg (n % 16)):=by decide +kernel
theorem hy1:∀ n:Nat,n<256→(subI DIG (ne .i64 (ne .u8 (@Int.tdiv (n:Int) (16:Int)))) (ne .i64 ((ne .i64 (ne .u8 (@Int.tdiv (n:Int) (16:Int))))+(1:Int))))=some [dg (n / 16)]:=by decide +kernel
theorem hy2:∀ n:Nat,n<256→(subI DIG (ne .i64 (@Int.tmod (n:Int) (16:Int))) (ne .i64 ((ne .i64 (@Int.tmod (n:Int) (16:Int)))+(1:Int))))=some [dg (n % 16)]:=by decide +kernel
def hexS (b:List Int):List UInt8:=b.flatMap fun v=>[dg (v.toNat / 16),dg (v.toNat % 16)]
theorem iI:∀ b:List Int,(hexS b).length=2*b.length
 | []=>rfl
 | v::b=>by
  show (dg (v.toNat / 16)::dg (v.toNat % 16)::hexS b).length=_
  simp only [Dv,iI b];omega
theorem afC (b:List Int)(v:Int):hexS (b++[v])=hexS b++[dg (v.toNat / 16),dg (v.toNat % 16)]:=by
 unfold hexS
 rw [List.flatMap_append]
 rfl
theorem pT:∀ s:List UInt8,toBy (ofB s)=some s
 | []=>rfl
 | x::s=>by
  have h:(0:Int)≤((x.toNat:Nat):Int)∧((x.toNat:Nat):Int)<256:=by
   have:=x.toNat_lt
   omega
  show toBy (((x.toNat:Nat):Int)::ofB s)=_
  unfold toBy
  rw [if_pos h,pT s]
  simp
theorem alG (a b:List UInt8):ofB (a++b)=ofB a++ofB b:=by simp [ofB]
theorem aqu (b:List Int)(hB:AllB b)(hb:b.length≤100)(hN:10000≤N):j6 N b=some (hexS b):=by
 have h:qe N ((b,((b.length:Int),((0:Int),()))),(([]:List Int),()))=some ((),(ofB (hexS b),())):=by
  have:=cz (G:=fun X c=>gJ N X c.1.1 c.1.2.1 c.1.2.2.1 c.2.1) (fun i=>((b,((b.length:Int),((i:Int),()))),(ofB (hexS (b.take i)),()))) b.length ((),(ofB (hexS b),())) (fun X i hi=> ?_) (fun X=> ?_) N 0 (Nat.zero_le _) (by omega)
  ·exact this
  ·have c1:((i:Int)<(b.length:Int)):=by omega
   have g:=a7 b i hi
   have hv:=hB _ (DU hi)
   have w:ne .i64 ((i:Int)+1)=((i+1:Nat):Int):=by rw [ac (by omega) (by omega)];omega
   obtain ⟨n,hn⟩:∃ n:Nat,b[i]=(n:Int):=⟨b[i].toNat,by omega⟩
   have hn2:n<256:=by omega
   have t1:=hx1 n hn2
   have t2:=hx2 n hn2
   have hts:b.take (i+1)=b.take i++[b[i]]:=by rw [List.take_add_one,List.getElem?_eq_getElem hi];rfl
   have hap:ofB (hexS (b.take (i+1)))=ofB (hexS (b.take i))++[(((dg (n / 16)).toNat:Nat):Int),(((dg (n % 16)).toNat:Nat):Int)]:=by
    rw [hts,afC,alG,hn,DF]
    rfl
   have rm:ae ((ofB (hexS (b.take i))).length+([(((dg (n / 16)).toNat:Nat):Int),(((dg (n % 16)).toNat:Nat):Int)]:List Int).length) 1=true:=by
    rw [bm,iI,Dy]
    exact aC (by have:=aJ;simp;omega) (by simp;omega)
   rw [hn] at g
   simp only [gJ,c1,decide_true,cond_true,g,gt,t1,t2,rm,w,hap]
  ·have c1:¬ ((b.length:Int)<(b.length:Int)):=by omega
   simp only [gJ,c1,decide_false,cond_false,List.take_length]
 have w:ne .i64 ((2:Int)*(b.length:Int))=((2*b.length:Nat):Int):=by rw [ac (by omega) (by omega)];omega
 have c0:decide ((0:Int)≤0∧(0:Int)≤((2*b.length:Nat):Int))=true:=decide_eq_true ⟨by omega,by omega⟩
 have r0:ae (Eb ((2*b.length:Nat):Int)) 1=true:=aC (by have:=aJ;omega) (by omega)
 unfold j6
 rw [w,c0,r0]
 simp only [Bool.and_self,cond_true]
 refine (congrArg (fun o=>Dp o _) h).trans ?_
 simp only [gt,pT]
end
theorem adt (l:List UInt8):AllB (ofB l):=fun x hx=>by
 obtain ⟨b,hb,rfl⟩:=List.mem_map.1 hx
 have:=b.toNat_lt
 omega
theorem rK (n:Nat)(l:List Int)(h:l.length=n):dA n l=some ⟨l,h⟩:=by
 subst h
 unfold dA
 rw [dif_pos (DI _)]
 exact congrArg some (Arr.eq List.take_length)
theorem fi {n:Nat}(h:n≤100000):ae n 1=true:=aC (by have:=aJ;omega) (by omega)
def pre8 (D:Arr Int 20):Arr Int 8:=⟨D.l.take 8,by rw [Dy,D.h];rfl⟩
theorem aly (D:Arr Int 20):cL D.l 8=some (pre8 D).l∧dA 8 (pre8 D).l=some (pre8 D):=
 ⟨ed D.l (i:=8) rfl (by rw [D.h];decide),rK 8 _ (pre8 D).h⟩
section
variable {N:Nat}
theorem Au (D:Arr Int 20)(h0:Arr Int 8):∀ (k M i:Nat) (o:Arr Int 8),k+i=8→k<M→
  ∃ K:Arr Int 8,K.l=o.l.take i++(D.l.take 8).drop i∧gl (fun X c=>bX N X c.1.1 c.2.1 c.2.2.1 c.2.2.2.1) M (((i:Int),()),(h0,(D,(o,()))))=some ((),(h0,(K,())))
 | 0,M+1,i,o,hk,hM=>by
  have c1:¬ ((i:Int)<8):=by omega
  have hol:=o.h
  refine ⟨o, ?_, ?_⟩
  ·rw [DZ (by omega),Du (by rw [Dy];omega),DE]
  ·rw [ah]
   simp only [bX,c1,decide_false,cond_false]
 | k+1,M+1,i,o,hk,hM=>by
  have hol:=o.h
  have hDl:=D.h
  have c1:((i:Int)<8):=by omega
  have e0:ne .i64 ((i:Int)+1)=((i+1:Nat):Int):=by rw [ac (by omega) (by omega)];omega
  have c2:(0:Int)≤(i:Int)∧(i:Int)<((20:Nat):Int):=by omega
  have c3:(0:Int)≤(i:Int)∧(i:Int)<((8:Nat):Int):=by omega
  have e1:Eb (i:Int)=i:=DF i
  have g1:D.l[i]? =some (D.l[i]'(by omega)):=List.getElem?_eq_getElem _
  have g2:o.l[i]? =some (o.l[i]'(by omega)):=List.getElem?_eq_getElem _
  obtain ⟨K,h1,h2⟩:=Au D h0 k M (i+1) (o.set i (D.l[i]'(by omega))) (by omega) (by omega)
  refine ⟨K, ?_, ?_⟩
  ·rw [h1]
   have q1:(o.set i (D.l[i]'(by omega))).l.take (i+1)=o.l.take i++[D.l[i]'(by omega)]:=by
    show (o.l.set i _).take (i+1)=_
    rw [List.take_add_one,List.take_set_of_le (DI _),List.getElem?_set_self (by omega)]
    rfl
   rw [q1,Dr]
   congr 1
   have hlt:i<(D.l.take 8).length:=by rw [Dy];omega
   rw [DA hlt,List.getElem_take]
   rfl
  ·rw [ah]
   simp only [bX,c1,decide_true,cond_true,c2,and_self,e1,g1,gt,c3,g2,e0]
   exact h2
theorem amn (p a:Arr Int 16)(s:List UInt8)(hp:AllB p.l)(ha:AllB a.l)(hs:s.length≤300):∃ C:Arr Int 8,AllB C.l∧aQ 200000 p a s=some C∧ef 200000 p a s=some C:=by
 have pl:=p.h
 have al:=a.h
 have b1:=agx (N:=200000) s (by omega) (by omega)
 have b2:=aqO (N:=200000) s (by omega) (by omega)
 have ht:(s.drop (bAt s s.length)).length≤300:=by rw [Dx];omega
 generalize s.drop (bAt s s.length)=t at *
 obtain ⟨D,d1,d2,d3⟩:=nq [p.l,a.l,ofB t] (by simp) (fun q hq=>by
  simp only [DQ,DK,or_false] at hq
  rcases hq with rfl | rfl | rfl
  ·exact hp
  ·exact ha
  ·exact adt _) (by simp only [DJ,DL,Do,bm,Dw];omega)
 simp only [DJ,DL,DE] at d3
 rw [←Dr] at d3
 obtain ⟨q1,q2⟩:=aly D
 refine ⟨pre8 D,d1.take 8, ?_, ?_⟩
 ·unfold aQ
  rw [b1,gt,fi (by omega)]
  simp only [cond_true,d2,q1,q2,gt]
 ·obtain ⟨K,h1,h2⟩:=Au (N:=200000) D ⟨Dq 8 0,rfl⟩ 8 200000 0 ⟨Dq 8 0,rfl⟩ (by omega) (by omega)
  have hK:K=pre8 D:=Arr.eq (by rw [h1];rfl)
  subst hK
  have h2':iE 200000 (((0:Int),()),((⟨Dq 8 0,rfl⟩:Arr Int 8),(D,((⟨Dq 8 0,rfl⟩:Arr Int 8),()))))=some ((),((⟨Dq 8 0,rfl⟩:Arr Int 8),(pre8 D,()))):=h2
  unfold ef
  rw [fi (by omega),fi (by omega),b2]
  simp only [cond_true,gt]
  rw [fi (by rw [Do];omega),d3,gt]
  simp only [cond_true]
  refine (congrArg (fun o=>Dp o _) h2').trans ?_
  rfl
theorem aeV (c:Arr Int 8)(t0 t1 t2:Arr Int 7)(Z:Arr Int 24)(l0 l1 l2:List Int)(s0:hP 200000 t0.l c.l=some (l0,0))(s1:hP 200000 t1.l c.l=some (l1,0))(s2:hP 200000 t2.l c.l=some (l2,0))(n0:l0.length=8)(n1:l1.length=8)(n2:l2.length=8):
  jP 200000 ((c,(Ds t0 (Ds t1 (Ds t2 Arr.nil)),((0:Int),()))),(Z,(([]:List Int),())))=some ((),(Z,(l0++l1++l2,()))):=by
 have w1:ne .i64 ((0:Int)+1)=1:=by decide
 have w2:ne .i64 ((1:Int)+1)=2:=by decide
 have w3:ne .i64 ((2:Int)+1)=3:=by decide
 have g0:getI (Ds t0 (Ds t1 (Ds t2 Arr.nil))).l (0:Int)=some t0:=rfl
 have g1:getI (Ds t0 (Ds t1 (Ds t2 Arr.nil))).l (1:Int)=some t1:=rfl
 have g2:getI (Ds t0 (Ds t1 (Ds t2 Arr.nil))).l (2:Int)=some t2:=rfl
 have r0:ae (([]:List Int).length+l0.length) 1=true:=fi (by simp;omega)
 have r1:ae ((([]:List Int)++l0).length+l1.length) 1=true:=fi (by simp;omega)
 have r2:ae ((([]:List Int)++l0++l1).length+l2.length) 1=true:=fi (by simp;omega)
 have fuel:∀ M,gl (fun X c=>dt 200000 X c.1.1 c.1.2.1 c.1.2.2.1 c.2.1 c.2.2.1) (M+4) ((c,(Ds t0 (Ds t1 (Ds t2 Arr.nil)),((0:Int),()))),(Z,(([]:List Int),())))=some ((),(Z,(([]:List Int)++l0++l1++l2,()))):=by
  intro M
  have d0:((0:Int)<3):=by decide
  have d1:((1:Int)<3):=by decide
  have d2:((2:Int)<3):=by decide
  have d3:¬ ((3:Int)<3):=by decide
  simp only [ah,dt,d0,d1,d2,d3,decide_true,decide_false,cond_true,cond_false,g0,g1,g2,gt,s0,s1,s2,r0,r1,r2,w1,w2,w3]
 have:=fuel 199996
 rw [Ec] at this
 exact this
theorem aqA (c:Arr Int 8)(h:Arr Int 16)(n:Nat)(hn:n<3)(b:List Int)(hb:b.length=8)(h0:Arr Int 24):∀ (k M i:Nat) (o:Arr Int 24),k+i=8→k<M→
  ∃ K:Arr Int 24,K.l=o.l.take (8*n+i)++b.drop i++o.l.drop (8*n+8)∧gl (fun X c=>ct N X c.1.1 c.1.2.1 c.1.2.2.1 c.1.2.2.2.1 c.1.2.2.2.2.1 c.2.1 c.2.2.1) M ((c,(h,((n:Int),(b,((i:Int),()))))),(h0,(o,())))=some ((c,(h,((n:Int),()))),(h0,(K,())))
 | 0,M+1,i,o,hk,hM=>by
  have c1:¬ ((i:Int)<8):=by omega
  have hi:i=8:=by omega
  refine ⟨o, ?_, ?_⟩
  ·have hd:b.drop i=[]:=Du (by omega)
   rw [hd,DE,hi,D3]
  ·rw [ah]
   simp only [ct,c1,decide_false,cond_false,gt]
 | k+1,M+1,i,o,hk,hM=>by
  have hol:=o.h
  have c1:((i:Int)<8):=by omega
  have c4:((i:Int)<(b.length:Int)):=by omega
  have hib:i<b.length:=by omega
  have e0:ne .i64 ((i:Int)+1)=((i+1:Nat):Int):=by rw [ac (by omega) (by omega)];omega
  have e3:ne .i64 ((8:Int)*(n:Int))=((8*n:Nat):Int):=by rw [ac (by omega) (by omega)];omega
  have e4:ne .i64 (((8*n:Nat):Int)+(i:Int))=((8*n+i:Nat):Int):=by rw [ac (by omega) (by omega)];omega
  have c3:(0:Int)≤((8*n+i:Nat):Int)∧((8*n+i:Nat):Int)<((24:Nat):Int):=by omega
  have e1:Eb ((8*n+i:Nat):Int)=8*n+i:=DF _
  have hj:8*n+i<o.l.length:=by omega
  have g1:=a7 b i hib
  have g2:o.l[8*n+i]? =some (o.l[8*n+i]'hj):=List.getElem?_eq_getElem _
  obtain ⟨K,h1,h2⟩:=aqA c h n hn b hb h0 k M (i+1) (o.set (8*n+i) b[i]) (by omega) (by omega)
  refine ⟨K, ?_, ?_⟩
  ·rw [h1]
   have q1:(o.set (8*n+i) b[i]).l.take (8*n+(i+1))=o.l.take (8*n+i)++[b[i]]:=by
    show (o.l.set (8*n+i) _).take (8*n+i+1)=_
    rw [List.take_add_one,List.take_set_of_le (DI _),List.getElem?_set_self hj]
    rfl
   have q2:(o.set (8*n+i) b[i]).l.drop (8*n+8)=o.l.drop (8*n+8):=by
    show (o.l.set (8*n+i) _).drop (8*n+8)=_
    rw [List.drop_set_of_lt (by omega)]
   rw [q1,q2,Dr (List.take _ _) [b[i]] _,List.singleton_append,←DA hib]
  ·rw [ah]
   simp only [ct,c1,decide_true,cond_true,c4,gt,g1,e3,e4,c3,and_self,e1,g2,e0]
   exact h2
theorem afY (c:Arr Int 8)(h:Arr Int 16)(n:Nat)(hn:n<3)(b:List Int)(hb:b.length=8)(h0 o:Arr Int 24):
  ∃ K:Arr Int 24,K.l=o.l.take (8*n)++b++o.l.drop (8*n+8)∧jd 200000 ((c,(h,((n:Int),(b,((0:Int),()))))),(h0,(o,())))=some ((c,(h,((n:Int),()))),(h0,(K,()))):=by
 obtain ⟨K,h1,h2⟩:=aqA (N:=200000) c h n hn b hb h0 8 200000 0 o (by omega) (by omega)
 exact ⟨K,by rw [h1,D5,Nat.add_zero],h2⟩
theorem alp (c:Arr Int 8)(h:Arr Int 16)(hc:AllB c.l)(hh:AllB h.l):∃ R:Arr Int 24,AllB R.l∧bB 200000 c h=some R∧eJ 200000 c h=some R:=by
 obtain ⟨t0,t1,t2,b0,b1,b2,hT,u0,u1,u2⟩:=aes h hh
 obtain ⟨l0,s0,v0,n0,m0⟩:=De.seven8 t0.l c.l b0 hc t0.h c.h
 obtain ⟨l1,s1,v1,n1,m1⟩:=De.seven8 t1.l c.l b1 hc t1.h c.h
 obtain ⟨l2,s2,v2,n2,m2⟩:=De.seven8 t2.l c.l b2 hc t2.h c.h
 have hlen:(l0++l1++l2).length=24:=by rw [Do,Do];omega
 refine ⟨⟨l0++l1++l2,hlen⟩,(m0.append m1).append m2, ?_, ?_⟩
 ·have ta:=rK 24 (l0++l1++l2) hlen
  have hl:=aeV c t0 t1 t2
  unfold bB
  rw [hT,gt,hl _ l0 l1 l2 s0 s1 s2 n0 n1 n2]
  simp only [gt,ta]
 ·have hloop:∀ Z Z0:Arr Int 24,je 200000 ((c,(h,((0:Int),()))),(Z0,(Z,())))=some ((),(Z0,((⟨l0++l1++l2,hlen⟩:Arr Int 24),()))):=by
   intro Z Z0
   obtain ⟨K0,k0,f0⟩:=afY c h 0 (by omega) l0 n0 Z0 Z
   obtain ⟨K1,k1,f1⟩:=afY c h 1 (by omega) l1 n1 Z0 K0
   obtain ⟨K2,k2,f2⟩:=afY c h 2 (by omega) l2 n2 Z0 K1
   have hK:K2=⟨l0++l1++l2,hlen⟩:=Arr.eq (by
    have a0:K0.l.take 8=l0:=by
     rw [k0]
     show (([]++l0)++Z.l.drop 8).take 8=l0
     rw [Ec,List.take_left' n0]
    have a1:K1.l.take 16=l0++l1:=by
     rw [k1,a0]
     exact List.take_left' (by rw [Do];omega)
    have a2:K1.l.drop 24=[]:=Du (by rw [K1.h];omega)
    rw [k2]
    show K1.l.take 16++l2++K1.l.drop 24=_
    rw [a1,a2,DE])
   subst hK
   have w1:ne .i64 (((0:Nat):Int)+1)=((1:Nat):Int):=by decide
   have w2:ne .i64 (((1:Nat):Int)+1)=((2:Nat):Int):=by decide
   have w3:ne .i64 (((2:Nat):Int)+1)=((3:Nat):Int):=by decide
   have u0':cy 200000 h ((0:Nat):Int)=some t0.l:=u0
   have u1':cy 200000 h ((1:Nat):Int)=some t1.l:=u1
   have u2':cy 200000 h ((2:Nat):Int)=some t2.l:=u2
   have fuel:∀ M,gl (fun X c=>bq 200000 X c.1.1 c.1.2.1 c.1.2.2.1 c.2.1 c.2.2.1) (M+4) ((c,(h,(((0:Nat):Int),()))),(Z0,(Z,())))=some ((),(Z0,((⟨l0++l1++l2,hlen⟩:Arr Int 24),()))):=by
    intro M
    have d0:(((0:Nat):Int)<3):=by decide
    have d1:(((1:Nat):Int)<3):=by decide
    have d2:(((2:Nat):Int)<3):=by decide
    have d3:¬ (((3:Nat):Int)<3):=by decide
    generalize h0:((0:Nat):Int)=z0 at *
    generalize h1:((1:Nat):Int)=z1 at *
    generalize h2:((2:Nat):Int)=z2 at *
    generalize h3:((3:Nat):Int)=z3 at *
    rw [ah]
    simp only [bq,d0,decide_true,cond_true,u0',gt,v0,f0,w1]
    rw [ah]
    simp only [bq,d1,decide_true,cond_true,u1',gt,v1,f1,w2]
    rw [ah]
    simp only [bq,d2,decide_true,cond_true,u2',gt,v2,f2,w3]
    rw [ah]
    simp only [bq,d3,decide_false,cond_false]
   exact fuel 199996
  unfold eJ
  rw [hloop]
  simp only [gt]
end
def aeN:List UInt8:=[77,97,103,105,99,32,115,101,114,118,101,114,32,116,111,32,99,108,105,101,110,116,32,115,105,103,110,105,110,103,32,99,111,110,115,116,97,110,116]
def sPad:List UInt8:=[80,97,100,32,116,111,32,109,97,107,101,32,105,116,32,100,111,32,109,111,114,101,32,116,104,97,110,32,111,110,101,32,105,116,101,114,97,116,105,111,110]
def sS:List UInt8:=[83,61]
section
variable {N:Nat}
theorem ad8 (h:Arr Int 16)(r:Arr Int 24)(c:Arr Int 8):cr N h r c=(dz N h).bind fun t=>(fH N [t.l,r.l,ofB aeN]).bind fun d=>(fH N [d.l,c.l,ofB sPad]).bind fun e=>(j6 N e.l).bind fun x=>bif decide ((sS.length+x.length)≤Go.maxLen) then some (sS++x) else none:=by kernel_rfl
end
theorem arr2 {α:Type}(l:Arr α 2):∃ a b,l.l=[a,b]:=by
 obtain ⟨l,h⟩:=l
 match l,h with
 | [a,b],_=>exact ⟨a,b,rfl⟩
theorem bpos {α:Type}{p:Prop}{i:Decidable p}{x y:α}(h:p):(bif @decide p i then x else y)=x:=by rw [decide_eq_true h];rfl
theorem bneg {α:Type}{p:Prop}{i:Decidable p}{x y:α}(h:¬ p):(bif @decide p i then x else y)=y:=by rw [decide_eq_false h];rfl
theorem apV {n b:Nat}(h:n≤100000)(hb:b≤100):ae n b=true:=aC (by have:=aJ;omega) (by
 have:n*b≤100000*100:=Nat.mul_le_mul h hb
 omega)
theorem rpos {α:Type}{n b:Nat}{x y:α}(h:n≤100000)(hb:b≤100):(bif ae n b then x else y)=x:=by rw [apV h hb];rfl
theorem bnd {α β:Type}{o:Option α}{v:α}{k:α→Option β}(h:o=some v):Dp o k=k v:=by rw [h];rfl
theorem bcp {α:Type}{p:Prop}{i:Decidable p}{x y:α}(h:p):(bif (cond true (@decide p i) false) then x else y)=x:=by rw [decide_eq_true h];rfl
theorem bvp {α:Type}{v:Bool}{x y:α}(h:v=true):(bif v then x else y)=x:=by rw [h];rfl
theorem bvn {α:Type}{v:Bool}{x y:α}(h:v=false):(bif v then x else y)=y:=by rw [h];rfl
abbrev Us:Type:=List UInt8×List UInt8
abbrev Ct:Type:=Int×(Int×List Int)
section
variable {N:Nat}
def layK (a b:Int)(v:List Int)(s:List UInt8):Ct:=(a,(b,([ne .u8 (((v.take (min v.length 255)).length:Nat):Int)]++v.take (min v.length 255))++ofB s))
theorem arZ (v:List Int):cL v (minI (((v.length:Nat)):Int) (255:Int))=some (v.take (min v.length 255)):=by
 have hmi:minI (v.length:Int) 255=((min v.length 255:Nat):Int):=by unfold minI;split <;> omega
 rw [hmi]
 exact ed v rfl (by omega)
theorem aqj (a b:Int)(v:List Int)(s:List UInt8)(hs:s.length≤1000):lO 200000 a b v s=some (layK a b v s):=by
 have hl:(v.take (min v.length 255)).length≤255:=by rw [Dy];omega
 unfold lO
 refine (bnd (arZ v)).trans ?_
 refine (rpos (by omega) (by omega)).trans ?_
 have hj:eK 200000 ([([(ne .u8 (((v.take (min v.length 255)).length:Nat):Int))]:List Int),v.take (min v.length 255),ofB s]:List (List Int))=some ([([(ne .u8 (((v.take (min v.length 255)).length:Nat):Int))]:List Int),v.take (min v.length 255),ofB s]:List (List Int)).flatten:=ul (N:=200000) _ (by simp) (fun q hq=>by
  simp only [DQ,DK,or_false] at hq
  rcases hq with rfl | rfl | rfl
  ·simp
  ·omega
  ·rw [bm];omega) (by omega)
 refine (bnd hj).trans ?_
 unfold layK
 simp only [DJ,DL,DE,Dr]
def parK (c:Ct):List Int×List UInt8×Int:=if c.2.2.length=0∨(c.2.2.length:Int)-1<c.2.2.getD 0 0 then ([],([],4)) else (((c.2.2.drop 1).take (c.2.2.getD 0 0).toNat),((c.2.2.drop (1+(c.2.2.getD 0 0).toNat)).map agk,0))
theorem ajk (l:List Int)(h:l.length≤10000):cC 200000 l=some l:=by
 unfold cC cP
 cases l with
 | nil=>rfl
 | cons x l=>
  refine (bvn rfl).trans ((bvn rfl).trans ((rpos (by omega) (by omega)).trans rfl))
theorem ar6 (c:Ct)(hb:AllB c.2.2)(hl:c.2.2.length≤1000):fa 200000 c=some (parK c)∧True:=by
 obtain ⟨c0,c1,d⟩:=c
 simp only at hb hl
 unfold fa parK
 simp only
 by_cases h0:d.length=0
 ·rw [if_pos (.inl h0)]
  exact ⟨bpos (by omega),trivial⟩
 ·have g:getI d (0:Int)=some (d[0]'(by omega)):=a7 d 0 (by omega)
  have gd:d.getD 0 0=d[0]'(by omega):=by rw [List.getD_eq_getElem?_getD,List.getElem?_eq_getElem (by omega)];rfl
  have hx:=hb.get 0 (by omega)
  rw [gd]
  generalize d[0]'(by omega)=x at g hx
  have w1:ne .i64 ((d.length:Int)-1)=(d.length:Int)-1:=ac (by omega) (by omega)
  have w2:ne .i64 x=x:=ac (by omega) (by omega)
  have w3:ne .i64 ((1:Int)+x)=((1+x.toNat:Nat):Int):=by rw [ac (by omega) (by omega)];omega
  simp only [g,w1,w2,w3,gt]
  by_cases h1:(d.length:Int)-1<x
  ·rw [if_pos (.inr h1)]
   rw [decide_eq_true h1]
   exact ⟨(bneg (by omega)).trans rfl,trivial⟩
  ·rw [if_neg (by omega),decide_eq_false h1]
   have s1:subI d (1:Int) ((1+x.toNat:Nat):Int)=some ((d.drop 1).take x.toNat):=by
    rw [gS d (a:=1) (i:=1) (j:=1+x.toNat) rfl rfl (by omega) (by omega)]
    congr 2
    omega
   have s2:bJ d ((1+x.toNat:Nat):Int)=some (d.drop (1+x.toNat)):=ek d rfl (by omega)
   have s3:=xa (hb.drop (1+x.toNat))
   have s4:=ajk ((d.drop 1).take x.toNat) (by rw [Dy,Dx];omega)
   constructor
   ·refine (bneg (by omega)).trans ((bvn rfl).trans ?_)
    exact (bnd s1).trans ((bnd s4).trans ((bnd s2).trans (bnd s3)))
   ·trivial
def ad2 (s:List UInt8):List UInt8:=s.drop (bAt s s.length)
def adJ (b:List UInt8):List Us→Option Us
 | []=>none
 | u::l=>if ad2 u.1=b then some u else adJ b l
def oksU (l:List Us):Prop:=∀ u∈l,u.1.length≤1000∧u.2.length≤1000
theorem aqz (l:List Us)(b:List UInt8)(hl:oksU l)(hlen:l.length≤1000)(h0 h2:Us):∀ (n k i:Nat),i+n=l.length→n<k→
  gl (fun X c=>ap 200000 X c.1.1 c.1.2.1 c.1.2.2.1 c.2.1 c.2.2.1 c.2.2.2.1) k ((l,((l.length:Int),((i:Int),()))),(h0,(b,(h2,()))))=some (match adJ b (l.drop i) with
   | some u=>.inl ((true,()),(h0,(b,(u,()))))
   | none=>.inr ((),(h0,(b,(h2,())))))
 | 0,k+1,i,hi,_=>by
  have c1:¬ ((i:Int)<(l.length:Int)):=by omega
  rw [ah,Du (by omega)]
  simp only [ap,c1,decide_false,cond_false]
  rfl
 | n+1,k+1,i,hi,hk=>by
  have c1:((i:Int)<(l.length:Int)):=by omega
  have hlt:i<l.length:=by omega
  have g:=a7 l i hlt
  have w:ne .i64 ((i:Int)+1)=((i+1:Nat):Int):=by rw [ac (by omega) (by omega)];omega
  have ih:=aqz l b hl hlen h0 h2 n k (i+1) (by omega) (by omega)
  have hb:=agx (N:=200000) (l[i]).1 (hl _ (DU hlt)).1 (by omega)
  rw [ah,DA hlt]
  unfold adJ
  by_cases h:ad2 (l[i]).1=b
  ·have h':(l[i]).1.drop (bAt (l[i]).1 (l[i]).1.length)=b:=h
   rw [if_pos h]
   simp only [ap,c1,decide_true,cond_true,g,gt,hb,h']
  ·have h':¬ (l[i]).1.drop (bAt (l[i]).1 (l[i]).1.length)=b:=h
   rw [if_neg h]
   simp only [ap,c1,decide_true,cond_true,g,gt,hb,h',decide_false,cond_false,w]
   exact ih
def resU (o:Option Us):Us×Bool:=match o with
 | some u=>(u,true)
 | none=>(([],[]),false)
theorem aqy (l:List Us)(m:List UInt8)(hm:m.length≤1000)(hl:oksU l)(hlen:l.length≤1000):iQ 200000 l m=some (resU (adJ (ad2 m) l)):=by
 unfold iQ
 refine (bnd (agx (N:=200000) m hm (by omega))).trans ?_
 have h:bR 200000 ((l,((l.length:Int),(((0:Nat):Int),()))),((([],[]):Us),(ad2 m,((([],[]):Us),()))))=_:=aqz l (ad2 m) hl hlen ([],[]) ([],[]) l.length 200000 0 (by omega) (by omega)
 refine (bnd h).trans ?_
 rw [D5]
 cases adJ (ad2 m) l <;> rfl
end
theorem xR (s:List UInt8):AllB (ofB s):=fun x hx=>by
 unfold ofB at hx
 obtain ⟨c,_,rfl⟩:=List.mem_map.1 hx
 have:=c.toNat_lt
 omega
theorem aql (a b:Int)(v:List Int)(s:List UInt8)(hv:AllB v):AllB (layK a b v s).2.2:=by
 unfold layK
 refine ((AllB.cons ?_ AllB.nil).append (hv.take _)).append (xR s)
 rw [DS]
 omega
theorem q8_of (a:Nat)(ha:a<256):(DP 8 (a:Int)).toNat=a:=by
 rw [BitVec.ofInt_natCast,BitVec.toNat_ofNat];exact Nat.mod_eq_of_lt (by omega)
theorem xor8 (a b:Nat)(ha:a<256)(hb:b<256):bits .xor .u8 (a:Int) (b:Int)=((a ^^^ b:Nat):Int):=by
 have hx:a ^^^ b<2 ^ 8:=D2 (by omega) (by omega)
 show DD.wrap ((DP 8 (a:Int) ^^^ DP 8 (b:Int)).toNat:Int)=_
 rw [BitVec.toNat_xor,q8_of a ha,q8_of b hb,DS]
 omega
theorem arS (a b:Nat)(ha:a<2 ^ 62)(hb:b<2 ^ 62):bits .xor .i64 (a:Int) (b:Int)=((a ^^^ b:Nat):Int):=by
 have hx:a ^^^ b<2 ^ 62:=D2 ha hb
 show IntKind.i64.wrap ((DP 64 (a:Int) ^^^ DP 64 (b:Int)).toNat:Int)=_
 rw [BitVec.toNat_xor,m7 a (by omega),m7 b (by omega),ac (by omega) (by omega)]
theorem or64 (a b:Nat)(ha:a<2 ^ 62)(hb:b<2 ^ 62):bits .or .i64 (a:Int) (b:Int)=((a|||b:Nat):Int):=by
 have hx:a|||b<2 ^ 62:=Nat.or_lt_two_pow ha hb
 show IntKind.i64.wrap ((DP 64 (a:Int)|||DP 64 (b:Int)).toNat:Int)=_
 rw [BitVec.toNat_or,m7 a (by omega),m7 b (by omega),ac (by omega) (by omega)]
theorem xor_zero (a b:Nat):a ^^^ b=0↔a=b:=by
 constructor
 ·intro h
  have h2:a ^^^ b ^^^ b=b:=by rw [h,Nat.zero_xor]
  rw [Nat.xor_assoc,Nat.xor_self,Nat.xor_zero] at h2
  exact h2
 ·rintro rfl;exact Nat.xor_self a
theorem aiy (a b:Nat):a|||b=0↔a=0∧b=0:=by
 constructor
 ·intro h
  constructor
  ·apply Nat.eq_of_testBit_eq;intro i
   have:=congrArg (Nat.testBit · i) h
   simp at this ⊢;exact this.1
  ·apply Nat.eq_of_testBit_eq;intro i
   have:=congrArg (Nat.testBit · i) h
   simp at this ⊢;exact this.2
 ·rintro ⟨rfl,rfl⟩;rfl
def dif (a b:List Int):Nat→Nat
 | 0=>a.length ^^^ b.length
 | i+1=>dif a b i|||((a.getD i 0).toNat ^^^ (b.getD i 0).toNat)
theorem b8 {a:List Int}(h:AllB a)(i:Nat):0≤a.getD i 0∧a.getD i 0<256:=by
 rw [List.getD_eq_getElem?_getD]
 rcases Ea i a.length with hi | hi
 ·rw [List.getElem?_eq_getElem hi];exact h.get i hi
 ·rw [List.getElem?_eq_none hi];exact ⟨Int.le_refl _,by decide⟩
theorem akP {a b:List Int}(ha:AllB a)(hb:AllB b)(la:a.length<100000)(lb:b.length<100000):∀ i,dif a b i<2 ^ 62
 | 0=>D2 (by omega) (by omega)
 | i+1=>by
  have h1:=b8 ha i
  have h2:=b8 hb i
  exact Nat.or_lt_two_pow (akP ha hb la lb i) (D2 (by omega) (by omega))
theorem Dk (a b:List Int):∀ i,dif a b i=0↔a.length=b.length∧∀ j,j<i→(a.getD j 0).toNat=(b.getD j 0).toNat
 | 0=>by
  unfold dif
  rw [xor_zero]
  exact ⟨fun h=>⟨h,fun j hj=>by omega⟩,fun h=>h.1⟩
 | i+1=>by
  unfold dif
  rw [aiy,Dk a b i,xor_zero]
  constructor
  ·rintro ⟨⟨h1,h2⟩,h3⟩
   refine ⟨h1,fun j hj=> ?_⟩
   rcases Ea j i with h | h
   ·exact h2 j h
   ·have:j=i:=by omega
    subst this;exact h3
  ·rintro ⟨h1,h2⟩
   exact ⟨⟨h1,fun j hj=>h2 j (by omega)⟩,h2 i (by omega)⟩
theorem alD (a b:List Int)(ha:AllB a)(hb:AllB b)(la:a.length<100000)(lb:b.length<100000){N:Nat}(hN:200000≤N):fM N a b=some (decide (a=b)):=by
 obtain ⟨m,hm⟩:∃ m,m=min a.length b.length:=⟨_,rfl⟩
 have hmi:minI (a.length:Int) (b.length:Int)=(m:Int):=by unfold minI;split <;> omega
 have hloop:pf N ((a,(b,(((dif a b 0:Nat):Int),((m:Int),((0:Int),()))))),())=some ((((dif a b m:Nat):Int),()),()):=by
  refine cz (G:=fun X c=>fx N X c.1.1 c.1.2.1 c.1.2.2.1 c.1.2.2.2.1 c.1.2.2.2.2.1) (fun i=>((a,(b,(((dif a b i:Nat):Int),((m:Int),(((i:Nat):Int),()))))),())) m _ (fun X i hi=> ?_) (fun X=> ?_) N 0 (Nat.zero_le _) (by omega)
  ·have c1:((i:Int)<(m:Int)):=by omega
   have hia:i<a.length:=by omega
   have hib:i<b.length:=by omega
   have h1:=b8 ha i
   have h2:=b8 hb i
   have e1:a[i]=((a.getD i 0).toNat:Int):=by
    rw [Int.toNat_of_nonneg h1.1,List.getD_eq_getElem?_getD,List.getElem?_eq_getElem hia];rfl
   have e2:b[i]=((b.getD i 0).toNat:Int):=by
    rw [Int.toNat_of_nonneg h2.1,List.getD_eq_getElem?_getD,List.getElem?_eq_getElem hib];rfl
   have hx:(a.getD i 0).toNat ^^^ (b.getD i 0).toNat<2 ^ 8:=D2 (by omega) (by omega)
   have e3:ne .i64 ((i:Int)+1)=((i+1:Nat):Int):=by rw [ac (by omega) (by omega)];omega
   simp only [fx,c1,decide_true,cond_true,a7 a i hia,a7 b i hib,gt,e3]
   rw [e1,e2,xor8 _ _ (by omega) (by omega),ac (by omega) (by omega),or64 _ _ (akP ha hb la lb i) (by omega)]
   rfl
  ·have c1:¬ ((m:Int)<(m:Int)):=by omega
   simp only [fx,c1,decide_false,cond_false]
 have hx:bits .xor .i64 (a.length:Int) (b.length:Int)=((dif a b 0:Nat):Int):=arS _ _ (by omega) (by omega)
 unfold fM
 rw [hx,hmi]
 refine (congrArg (fun o=>Dp o _) hloop).trans ?_
 simp only [gt,Option.some.injEq]
 have key:((dif a b m:Nat):Int)=0↔a=b:=by
  rw [show (((dif a b m:Nat):Int)=0↔dif a b m=0) from by omega,Dk]
  constructor
  ·rintro ⟨h1,h2⟩
   apply List.ext_getElem h1
   intro j hj1 hj2
   have h3:=h2 j (by omega)
   have q1:=b8 ha j
   have q2:=b8 hb j
   rw [List.getD_eq_getElem?_getD,List.getElem?_eq_getElem hj1,Option.getD_some] at h3 q1
   rw [List.getD_eq_getElem?_getD,List.getElem?_eq_getElem hj2,Option.getD_some] at h3 q2
   omega
  ·rintro rfl;exact ⟨rfl,fun _ _=>rfl⟩
 exact decide_eq_decide.2 key
theorem ada (n:Nat)(x:Int)(h:0≤x∧x<256):AllB (Dq n x):=fun y hy=>by rw [(List.mem_replicate.1 hy).2];exact h
def valB (p r:List Int):List Int:=p++Dq 8 0++r++[0]
theorem CB (p:Arr Int 16)(r:Arr Int 24):gM 200000 p r=some (valB p.l r.l):=by
 have hp:=p.h
 have hr:=r.h
 have:eK 200000 [p.l,Dq (Eb 8) 0,r.l,[0]]=some ([p.l,Dq (Eb 8) 0,r.l,[0]]:List (List Int)).flatten:=ul (N:=200000) _ (by simp) (fun q hq=>by
  simp only [DQ,DK,or_false] at hq
  rcases hq with rfl | rfl | rfl | rfl
  ·omega
  ·simp
  ·omega
  ·simp) (by omega)
 unfold gM
 rw [this]
 simp [valB]
def z16:Arr Int 16:=⟨Dq 16 0,rfl⟩
def z24:Arr Int 24:=⟨Dq 24 0,rfl⟩
def o9 (v:List Int)(h:v.length=49):Arr Int 16:=⟨v.take 16,by rw [Dy];omega⟩
def o0 (v:List Int)(h:v.length=49):Arr Int 24:=⟨(v.drop 24).take 24,by rw [Dy,Dx];omega⟩
def afX (v:List Int):Prop:=(v.drop 16).take 8=Dq 8 0∧v.drop 48=[0]
instance (v:List Int):Decidable (afX v):=by unfold afX;infer_instance
theorem aeB (v:List Int)(h:v.length=49):v=v.take 16++(v.drop 16).take 8++(v.drop 24).take 24++v.drop 48:=by
 have e1:(v.drop 16).take 8++v.drop 24=v.drop 16:=by
  have:=D3 8 (v.drop 16)
  rw [List.drop_drop] at this;exact this
 have e2:(v.drop 24).take 24++v.drop 48=v.drop 24:=by
  have:=D3 24 (v.drop 24)
  rw [List.drop_drop] at this;exact this
 rw [Dr,Dr,e2,e1,D3]
theorem sX (v:List Int)(h:v.length=49):valB (o9 v h).l (o0 v h).l=v↔afX v:=by
 show v.take 16++Dq 8 0++(v.drop 24).take 24++[0]=v↔_
 constructor
 ·intro e
  have h1:=aeB v h
  have l1:((v.drop 16).take 8).length=8:=by rw [Dy,Dx];omega
  have l2:(v.drop 48).length=1:=by rw [Dx];omega
  have e2:v.take 16++Dq 8 0++(v.drop 24).take 24++[0]=v.take 16++(v.drop 16).take 8++(v.drop 24).take 24++v.drop 48:=by rw [e];exact h1
  have k1:=List.append_inj' e2 (by rw [l2];rfl)
  have k2:=List.append_inj' k1.1 rfl
  have k3:=List.append_inj' k2.1 (by rw [l1];simp)
  exact ⟨k3.2.symm,k1.2.symm⟩
 ·rintro ⟨h1,h2⟩
  have:=aeB v h
  rw [h1,h2] at this
  exact this.symm
theorem aiw (v:List Int)(hb:AllB v)(hl:v.length≤200):gN 200000 v=some (if h:v.length=49 then (if afX v then (o9 v h,o0 v h,0) else (z16,z24,3)) else (z16,z24,1)):=by
 unfold gN
 by_cases h:v.length=49
 ·have c1:((v.length:Int)=49):=by omega
  have t1:cL v (16:Int)=some (v.take 16):=ed v (i:=16) rfl (by omega)
  have t2:dA 16 (v.take 16)=some (o9 v h):=rK 16 _ (o9 v h).h
  have t3:subI v (24:Int) 48=some ((v.drop 24).take 24):=gS v (i:=24) (j:=48) rfl rfl (by omega) (by omega)
  have t4:dA 24 ((v.drop 24).take 24)=some (o0 v h):=rK 24 _ (o0 v h).h
  have hvl:(valB (o9 v h).l (o0 v h).l).length=49:=by
   have a1:=(o9 v h).h
   have a2:=(o0 v h).h
   simp only [valB,Do,DR,Dv,Dw];omega
  have hvB:AllB (valB (o9 v h).l (o0 v h).l):=(((hb.take 16).append (ada 8 0 (by omega))).append ((hb.drop 24).take 24)).append (AllB.cons (by omega) AllB.nil)
  have hs:fM 200000 (valB (o9 v h).l (o0 v h).l) v=some (decide (valB (o9 v h).l (o0 v h).l=v)):=alD _ _ hvB hb (by omega) (by omega) (by omega)
  rw [dif_pos h,decide_eq_true c1,t1,gt,t2,gt,t3,gt,t4,gt,CB,gt,hs,gt]
  by_cases hf:afX v
  ·rw [if_pos hf,decide_eq_true ((sX v h).2 hf)];rfl
  ·rw [if_neg hf,decide_eq_false (fun e=>hf ((sX v h).1 e))];rfl
 ·have c1:¬ ((v.length:Int)=49):=by omega
  rw [dif_neg h,decide_eq_false c1];rfl
def sUp:List UInt8:=[79,110,32,116,104,101,32,99,108,105,101,110,116,32,115,105,100,101,44,32,116,104,105,115,32,105,115,32,116,104,101,32,115,101,110,100,32,107,101,121,59,32,111,110,32,116,104,101,32,115,101,114,118,101,114,32,115,105,100,101,44,32,105,116,32,105,115,32,116,104,101,32,114,101,99,101,105,118,101,32,107,101,121,46]
def apU:List UInt8:=[79,110,32,116,104,101,32,99,108,105,101,110,116,32,115,105,100,101,44,32,116,104,105,115,32,105,115,32,116,104,101,32,114,101,99,101,105,118,101,32,107,101,121,59,32,111,110,32,116,104,101,32,115,101,114,118,101,114,32,115,105,100,101,44,32,105,116,32,105,115,32,116,104,101,32,115,101,110,100,32,107,101,121,46]
def ali:List UInt8:=[84,104,105,115,32,105,115,32,116,104,101,32,77,80,80,69,32,77,97,115,116,101,114,32,75,101,121]
def Bt (D:Arr Int 20):Arr Int 16:=⟨D.l.take 16,by rw [Dy,D.h];rfl⟩
theorem ae7 {D:Arr Int 20}(h:AllB D.l):AllB (Bt D).l:=h.take 16
theorem CS (D:Arr Int 20):cL D.l 16=some (Bt D).l∧dA 16 (Bt D).l=some (Bt D):=
 ⟨ed D.l (i:=16) rfl (by rw [D.h];decide),rK 16 _ (Bt D).h⟩
section
variable {N:Nat}
theorem adC (h:Arr Int 16)(r:Arr Int 24):gK N h r=(dz N h).bind fun t=>(fH N [t.l,r.l,ofB ali]).bind fun d=>(cL d.l 16).bind fun x=>(dA 16 x).bind fun y=>some y:=by kernel_rfl
theorem afl (h:Arr Int 16)(r:Arr Int 24)(hb:AllB h.l)(rb:AllB r.l):∃ M:Arr Int 16,AllB M.l∧gK 200000 h r=some M:=by
 obtain ⟨t,t2,t3,t1⟩:=vP h hb
 have tl:=t.h
 have rl:=r.h
 have sl:ali.length=27:=rfl
 obtain ⟨D,d1,d2,d3⟩:=nq [t.l,r.l,ofB ali] (by simp) (fun p hp=>by
  simp only [DQ,DK,or_false] at hp
  rcases hp with rfl | rfl | rfl
  ·exact t1
  ·exact rb
  ·exact adt _) (by simp only [DJ,DL,Do,bm,Dw];omega)
 simp only [DJ,DL,DE] at d3
 rw [←Dr] at d3
 obtain ⟨p1,p2⟩:=CS D
 refine ⟨Bt D,ae7 d1, ?_⟩
 ·rw [adC,t2,gt,d2,gt,p1,gt,p2,gt]
theorem alW (m:Arr Int 16)(s:List UInt8):j7 N m s=bif ae s.length 1 then (fH N [m.l,Dq 40 0,ofB s,Dq 40 242]).bind fun d=>(cL d.l 16).bind fun x=>(dA 16 x).bind fun y=>some y else none:=by kernel_rfl
theorem akG (m:Arr Int 16)(s:List UInt8)(hm:AllB m.l)(hs:s.length≤200):∃ K:Arr Int 16,AllB K.l∧j7 200000 m s=some K:=by
 have ml:=m.h
 obtain ⟨D,d1,d2,d3⟩:=nq [m.l,Dq 40 0,ofB s,Dq 40 242] (by simp) (fun p hp=>by
  simp only [DQ,DK,or_false] at hp
  rcases hp with rfl | rfl | rfl | rfl
  ·exact hm
  ·exact ada _ _ (by omega)
  ·exact adt _
  ·exact ada _ _ (by omega)) (by simp only [DJ,DL,Do,bm,Dw,DR];omega)
 simp only [DJ,DL,DE] at d3
 have hfl:m.l++(Dq 40 0++(ofB s++Dq 40 242))=m.l++Dq 40 0++ofB s++Dq 40 242:=by simp only [Dr]
 rw [hfl] at d3
 obtain ⟨p1,p2⟩:=CS D
 refine ⟨Bt D,ae7 d1, ?_⟩
 ·rw [alW,fi (by omega),cond_true,d2,gt,p1,gt,p2,gt]
theorem ap2 (m:Arr Int 16)(b:Bool):rj N m b=(j7 N m sUp).bind fun u=>(j7 N m apU).bind fun d=>bif b then some (d,u) else some (u,d):=by kernel_rfl
theorem alV (m:Arr Int 16)(hm:AllB m.l):∃ U V:Arr Int 16,AllB U.l∧AllB V.l∧∀ b,rj 200000 m b=some (bif b then (V,U) else (U,V)):=by
 obtain ⟨U,u1,u2⟩:=akG m sUp hm (by decide)
 obtain ⟨V,v1,v2⟩:=akG m apU hm (by decide)
 refine ⟨U,V,u1,v1,fun b=> ?_⟩
 rw [ap2,u2,gt,v2,gt];cases b <;> rfl
def ad7 (x y:Arr Int 16):Arr Int 32:=⟨x.l++y.l,by rw [Do,x.h,y.h]⟩
theorem akH (x y:Arr Int 16):eK 200000 [x.l,y.l]=some (x.l++y.l):=by
 have hx:=x.h
 have hy:=y.h
 have:eK 200000 [x.l,y.l]=some ([x.l,y.l]:List (List Int)).flatten:=ul (N:=200000) [x.l,y.l] (by simp) (fun p hp=>by
  simp only [DQ,DK,or_false] at hp
  rcases hp with rfl | rfl <;> omega) (by omega)
 rw [this]
 simp
theorem aia (k:Arr Int 16×Arr Int 16)(b:Bool):lD 200000 k b=some (bif b then ad7 k.2 k.1 else ad7 k.1 k.2):=by
 have h1:=fun x y:Arr Int 16=>rK 32 (x.l++y.l) (ad7 x y).h
 unfold lD
 cases b
 ·rw [cond_false,akH,gt,h1,gt];rfl
 ·rw [cond_true,akH,gt,h1,gt];rfl
theorem al6 (h:Arr Int 16)(r:Arr Int 24)(M U V:Arr Int 16)(hM:gK 200000 h r=some M)(hK:∀ b,rj 200000 M b=some (bif b then (V,U) else (U,V)))(b:Bool):dP 200000 h r b=some (ad7 U V):=by
 unfold dP
 rw [hM,gt,hK b,gt,aia,gt]
 cases b <;> rfl
end
theorem amB {x y:Arr Int 16}(hx:AllB x.l)(hy:AllB y.l):AllB (ad7 x y).l:=hx.append hy
theorem C9 (h:Arr Int 16)(r:Arr Int 24)(hb:AllB h.l)(rb:AllB r.l):∃ K:Arr Int 32,AllB K.l∧∀ b,dP 200000 h r b=some K:=by
 obtain ⟨M,m1,m2⟩:=afl h r hb rb
 obtain ⟨U,V,u1,v1,hk⟩:=alV M m1
 exact ⟨ad7 U V,amB u1 v1,fun b=>al6 h r M U V m2 hk b⟩
theorem n9 {n:Nat}(h:n<10):DC n=[DW (48+n)]:=by rw [DC,dif_pos h]
theorem yA {n:Nat}(h:¬ n<10):DC n=DC (n / 10)++[DW (48+n % 10)]:=by rw [DC,dif_neg h]
theorem yo {d:Nat}(h:d<10):(DW (48+d)).toNat=48+d:=by
 have:(DW (48+d)).toNat=(48+d) % 256:=by simp
 omega
theorem yz {n:Nat}(h:n≤9999):(DC n).length≤4:=by
 by_cases h1:n<10
 ·rw [n9 h1];simp
 ·rw [yA h1]
  by_cases h2:n / 10<10
  ·rw [n9 h2];simp
  ·rw [yA h2]
   by_cases h3:n / 10 / 10<10
   ·rw [n9 h3];simp
   ·rw [yA h3,n9 (by omega:n / 10 / 10 / 10<10)];simp
theorem aiT (n:Nat):Lib.itoa (n:Int)=DC n:=by
 unfold Lib.itoa
 rw [if_neg (by omega)]
 rfl
theorem getB (s:List UInt8)(i:Nat)(h:i<s.length):getI (ofB s) (i:Int)=some ((s[i].toNat:Nat):Int):=by
 rw [qo]
 unfold ofB
 rw [List.getElem?_map,List.getElem?_eq_getElem h]
 rfl
abbrev Fl:Type:=Int×(Bool×((Arr Int 16)×(List UInt8)))
def fin (c:UInt8):Bool:=decide (32≤c.toNat)&&decide (c.toNat≤126)
def asc (s:List UInt8):Bool:=s.all fin
theorem ajv (s:List UInt8)(i:Nat)(h:i<s.length):asc (s.drop i)=(fin s[i]&&asc (s.drop (i+1))):=by
 rw [DA h];rfl
section
variable {N:Nat}
theorem ascP (s:List UInt8)(hs:s.length≤100000):∀ (n k i:Nat),i+n=s.length→n<k→gl (fun X c=>cq N X c.1.1 c.1.2.1 c.1.2.2.1) k ((ofB s,((s.length:Int),((i:Int),()))),())=some (if asc (s.drop i)=true then .inr ((),()) else .inl ((false,()),()))
 | 0,k+1,i,hi,_=>by
  have c1:¬ ((i:Int)<(s.length:Int)):=by omega
  rw [ah,Du (by omega)]
  simp only [cq,c1,decide_false,cond_false]
  rfl
 | n+1,k+1,i,hi,hk=>by
  have c1:((i:Int)<(s.length:Int)):=by omega
  have hlt:i<s.length:=by omega
  have g:=getB s i hlt
  have w:ne .i64 ((i:Int)+1)=((i+1:Nat):Int):=by rw [ac (by omega) (by omega)];omega
  have ih:=ascP s hs n k (i+1) (by omega) (by omega)
  rw [ah,ajv s i hlt]
  by_cases h1:((s[i].toNat:Nat):Int)<32
  ·have e:fin s[i]=false:=by unfold fin;rw [decide_eq_false (by omega)];rfl
   simp only [cq,c1,decide_true,cond_true,g,gt,h1,e,Bool.false_and]
   rfl
  ·by_cases h2:(126:Int)<((s[i].toNat:Nat):Int)
   ·have e:fin s[i]=false:=by unfold fin;rw [decide_eq_false (p:=s[i].toNat≤126) (by omega),Bool.and_false]
    simp only [cq,c1,decide_true,cond_true,g,gt,h1,h2,decide_false,cond_false,e,Bool.false_and]
    rfl
   ·have e:fin s[i]=true:=by unfold fin;rw [decide_eq_true (p:=32≤s[i].toNat) (by omega),decide_eq_true (by omega)];rfl
    simp only [cq,c1,decide_true,cond_true,g,gt,h1,h2,decide_false,cond_false,e,Bool.true_and,w]
    exact ih
theorem asv (s:List UInt8)(hs:s.length≤10000)(hN:20000≤N):iT N s=some (asc s):=by
 unfold iT
 rw [rpos (by omega) (by omega),bm]
 have h:mT N ((ofB s,((s.length:Int),(((0:Nat):Int),()))),())=_:=ascP s (by omega) s.length N 0 (by omega) (by omega)
 refine (bnd h).trans ?_
 rw [D5]
 cases asc s <;> rfl
end
def mE:List UInt8:=[69,61]
def mR:List UInt8:=[32,82,61]
def mC:List UInt8:=[32,67,61]
def mV:List UInt8:=[32,86,61,51,32,77,61]
def L8 (D A H T:List UInt8):List UInt8:=((((((mE++D)++mR)++A)++mC)++H)++mV)++T
def agS (a:Bool):List UInt8:=if a then [49] else [48]
def layF (f:Fl):List UInt8:=L8 (DC f.1.toNat) (agS f.2.1) (hexS f.2.2.1.l) f.2.2.2
def B7 (f:Fl):List Int×Int:=if f.1<0∨9999<f.1 then ([],1) else if asc f.2.2.2=true then (ofB (layF f),0) else ([],3)
theorem akN (f:Fl)(hc:AllB f.2.2.1.l)(ht:f.2.2.2.length≤1000):fC 200000 f=some (B7 f):=by
 obtain ⟨n,ag,c,t⟩:=f
 simp only at hc ht
 have hcl:=c.h
 have bl:=aJ
 unfold B7 fC
 dsimp only
 by_cases h1:n<0∨9999<n
 ·have e:(bif decide (n<0) then some true else some (cond false true (decide (9999<n))))=some true:=by
   by_cases h2:n<0
   ·exact bpos h2
   ·exact (bneg h2).trans (by rw [decide_eq_true (by omega)];rfl)
  rw [if_pos h1]
  exact (bnd e).trans rfl
 ·have e:(bif decide (n<0) then some true else some (cond false true (decide (9999<n))))=some false:=(bneg (by omega)).trans (by rw [decide_eq_false (by omega)];rfl)
  rw [if_neg h1]
  refine (bnd e).trans ?_
  refine (bnd (asv t (by omega) (by omega))).trans ?_
  obtain ⟨m,rfl⟩:∃ m:Nat,n=(m:Int):=⟨n.toNat,by omega⟩
  have hm:m≤9999:=by omega
  have hd:=yz hm
  have hx:=aqu (N:=200000) c.l hc (by omega) (by omega)
  have hxl:=iI c.l
  unfold layF
  simp only [DF]
  rw [aiT]
  generalize DC m=D at hd
  cases hA:asc t
  ·rfl
  ·simp only [DB,cond_false,if_true]
   cases ag
   ·simp only [cond_false]
    refine (bpos (by omega)).trans ?_
    iterate 4 (refine (bpos (by simp only [Do,Dv,Dw];omega)).trans ?_)
    refine (bnd hx).trans ?_
    iterate 3 (refine (bpos (by simp only [Do,Dv,Dw];omega)).trans ?_)
    refine (rpos (by simp only [Do,Dv,Dw];omega) (by omega)).trans ?_
    rfl
   ·simp only [cond_true]
    refine (bpos (by omega)).trans ?_
    iterate 4 (refine (bpos (by simp only [Do,Dv,Dw];omega)).trans ?_)
    refine (bnd hx).trans ?_
    iterate 3 (refine (bpos (by simp only [Do,Dv,Dw];omega)).trans ?_)
    refine (rpos (by simp only [Do,Dv,Dw];omega) (by omega)).trans ?_
    rfl
def numD (a:Nat):List UInt8→Nat
 | []=>a
 | c::r=>numD (10*a+(c.toNat-48)) r
theorem zV:∀ (l:List UInt8) (a:Nat) (c:UInt8),numD a (l++[c])=10*numD a l+(c.toNat-48)
 | [],a,c=>rfl
 | d::l,a,c=>zV l _ c
theorem agb:∀ n:Nat,(∀ c∈DC n,48≤c.toNat∧c.toNat≤57)∧numD 0 (DC n)=n∧DC n≠[]:=by
 intro n
 induction n using Nat.strongRecOn with
 | _ n ih=>
  by_cases h:n<10
  ·rw [n9 h]
   refine ⟨fun c hc=> ?_, ?_,by simp⟩
   ·rw [DY] at hc;subst hc;rw [yo h];omega
   ·have e:numD 0 [DW (48+n)]=10*0+((DW (48+n)).toNat-48):=rfl
    rw [e,yo h];omega
  ·have hm:n % 10<10:=Nat.mod_lt _ (by omega)
   obtain ⟨i1,i2,i3⟩:=ih (n / 10) (by omega)
   rw [yA h]
   refine ⟨fun c hc=> ?_, ?_,by simp⟩
   ·rcases List.mem_append.1 hc with hc | hc
    ·exact i1 c hc
    ·rw [DY] at hc;subst hc;rw [yo hm];omega
   ·rw [zV,i2,yo hm];omega
theorem afi:∀ (l:List UInt8) (a:Nat),a≤numD a l
 | [],a=>DI _
 | c::l,a=>by
  have:=afi l (10*a+(c.toNat-48))
  show a≤numD (10*a+(c.toNat-48)) l
  omega
theorem zN:∀ (l:List UInt8) (a:Nat),(∀ c∈l,48≤c.toNat∧c.toNat≤57)→numD a l≤9999→Lib.parseUint10 a l= .ok (numD a l)
 | [],a,_,_=>rfl
 | c::l,a,h,hn=>by
  have hc:=h c (by simp)
  have hge:10*a+(c.toNat-48)≤9999:=by
   have:=afi l (10*a+(c.toNat-48))
   have:numD a (c::l)=numD (10*a+(c.toNat-48)) l:=rfl
   omega
  unfold Lib.parseUint10
  rw [if_pos hc,if_neg (by omega),if_neg (by omega),show a*10+(c.toNat-48)=10*a+(c.toNat-48) by omega]
  exact zN l _ (fun d hd=>h d (by simp [hd])) hn
theorem aju {n:Nat}(h:n≤9999):Lib.atoiAll (DC n)= .ok (n:Int):=by
 obtain ⟨h1,h2,h3⟩:=agb n
 generalize DC n=l at h1 h2 h3
 match l,h1,h2,h3 with
 | c::r,h1,h2,_=>
  have hc:=h1 c (by simp)
  have hp:Lib.parseMag (c::r)= .ok n:=by
   unfold Lib.parseMag
   rw [if_neg (by simp),zN (c::r) 0 h1 (by omega),h2]
  unfold Lib.atoiAll
  have e1:¬ (c.toNat=43∨c.toNat=45):=by omega
  have e2:¬ (c.toNat=45):=by omega
  have e3:¬ (9223372036854775808≤n):=by omega
  show (match Lib.parseMag (if c.toNat=43∨c.toNat=45 then r else c::r) with
   | .syntax=>Lib.NumEnd.syntax
   | .range=>Lib.NumEnd.range
   | .ok u=>if ¬ c.toNat=45∧9223372036854775808≤u then Lib.NumEnd.range else if c.toNat=45∧9223372036854775808<u then Lib.NumEnd.range else Lib.NumEnd.ok (if c.toNat=45 then -(u:Int) else u))=_
  rw [if_neg e1,hp]
  simp only
  rw [if_neg (by omega),if_neg (by omega),if_neg e2]
theorem age (p t r:List UInt8)(a:UInt8)(h:∀ c∈p,c≠a):Lib.cut (p++(a::t)++r) (a::t)=(p,r,true):=by
 have hi:Lib.index (p++(a::t)++r) (a::t)=(p.length:Int):=by
  refine Lib.index_first (by simp only [Do];omega) ?_ (fun j hj=> ?_)
  ·unfold Lib.occAt
   rw [Dr,List.drop_left,List.isPrefixOf_iff_prefix]
   exact List.prefix_append _ _
  ·unfold Lib.occAt
   rw [Dr,List.drop_append_of_le_length (by omega),DA hj]
   have h1:=h _ (DU hj)
   show ((a==p[j])&&_)=false
   rw [show (a==p[j])=false from beq_eq_false_iff_ne.2 (fun e=>h1 e.symm)]
   rfl
 unfold Lib.cut
 rw [hi,if_pos (by omega),DF]
 refine congr (congrArg _ ?_) (congr (congrArg _ ?_) rfl)
 ·rw [Dr,List.take_left]
 ·rw [show p.length+(a::t).length=(p++(a::t)).length by simp,List.drop_left]
theorem ak5 (p r:List UInt8):Lib.trimPrefix (p++r) p=r:=by
 unfold Lib.trimPrefix Lib.hasPrefix
 rw [if_pos (List.isPrefixOf_iff_prefix.2 (List.prefix_append _ _)),List.drop_left]
theorem afg:∀ {a b:List UInt8},ofB a=ofB b→a=b
 | [],[],_=>rfl
 | [],y::b,h=>by simp [ofB] at h
 | x::a,[],h=>by simp [ofB] at h
 | x::a,y::b,h=>by
  simp only [ofB,List.map_cons,List.cons.injEq] at h
  have h1:x=y:=UInt8.toNat_inj.1 (by omega)
  have h2:a=b:=afg (by unfold ofB;exact h.2)
  rw [h1,h2]
theorem aiA (s:List UInt8)(n:Nat):(ofB s).take n=ofB (s.take n):=by unfold ofB;rw [List.map_take]
theorem aiB (s:List UInt8)(n:Nat):(ofB s).drop n=ofB (s.drop n):=by unfold ofB;rw [List.map_drop]
def z16':Arr Int 16:=⟨Dq 16 0,rfl⟩
def zF:Fl:=(0,(false,(z16',[])))
def t0 (v:List UInt8):List UInt8:=Lib.trimPrefix v mE
def c1 (v:List UInt8):List UInt8×List UInt8×Bool:=Lib.cut (t0 v) mR
def c2 (v:List UInt8):List UInt8×List UInt8×Bool:=Lib.cut (c1 v).2.1 mC
def c3 (v:List UInt8):List UInt8×List UInt8×Bool:=Lib.cut (c2 v).2.1 mV
theorem B5 (N:Nat)(b:List Int):en N b=Dp (toBy b) fun v=>bif decide ((t0 v).length≤1000000) then (bif decide ((c1 v).2.1.length≤1000000) then (bif decide ((c2 v).2.1.length≤1000000) then (bif decide ((c3 v).1.length≤1000000) then (bif decide ((c1 v).1.length≤281474976710656) then
  Sum.elim (fun n=>Dp (some (cond false true (!(decide (oY (c3 v).1=0))))) fun x=>bif x then some (zF,3) else Dp (some (cond false true (!(decide ((((eB (c3 v).1).length:Nat):Int)=16))))) fun y=>bif y then some (zF,3) else
   Dp (dA 16 (eB (c3 v).1)) fun a=>Dp (fC N (n,(decide ((c2 v).1=[49]),(a,(c3 v).2.1)))) fun r=>bif !(decide (r.2=0)) then some (zF,3) else Dp (fM N r.1 b) fun q=>Dp (some (cond false true (!q))) fun z=>bif z then some (zF,3) else some ((n,(decide ((c2 v).1=[49]),(a,(c3 v).2.1))),0))
   (fun _=>some (zF,3)) (atS (c1 v).1) else none) else none) else none) else none) else none:=by kernel_rfl
theorem Cf (s p:List UInt8):(Lib.cut s p).1.length≤s.length∧(Lib.cut s p).2.1.length≤s.length:=by
 unfold Lib.cut
 split
 ·exact ⟨by rw [Dy];omega,by rw [Dx];omega⟩
 ·exact ⟨DI _,by simp⟩
theorem aic (s p:List UInt8):(Lib.trimPrefix s p).length≤s.length:=by
 unfold Lib.trimPrefix
 split
 ·rw [Dx];omega
 ·exact DI _
def fine (f:Fl):Prop:=0≤f.1∧f.1≤9999∧asc f.2.2.2=true∧AllB f.2.2.1.l
theorem wC {f:Fl}(h:fine f):B7 f=(ofB (layF f),0):=by
 unfold B7
 rw [if_neg (by have:=h.1;have:=h.2.1;omega),if_pos h.2.2.1]
theorem B6 (f:Fl)(hc:AllB f.2.2.1.l):(fine f∧B7 f=(ofB (layF f),0))∨(B7 f).2≠0:=by
 unfold B7
 by_cases h1:f.1<0∨9999<f.1
 ·right;rw [if_pos h1];decide
 ·rw [if_neg h1]
  by_cases h2:asc f.2.2.2=true
  ·left;rw [if_pos h2];exact ⟨⟨by omega,by omega,h2,hc⟩,rfl⟩
  ·right;rw [if_neg h2];decide
theorem C3 (f:Fl)(h:fine f):(layF f).length=2+(DC f.1.toNat).length+3+1+3+32+7+f.2.2.2.length:=by
 have:=iI f.2.2.1.l
 have:=f.2.2.1.h
 have e:(agS f.2.1).length=1:=by cases f.2.1 <;> rfl
 unfold layF L8
 simp only [Do,mE,mR,mC,mV,Dv,Dw]
 omega
theorem wq (f:Fl)(h:fine f)(ht:f.2.2.2.length≤2000):(layF f).length≤3000:=by
 rw [C3 f h]
 have:=yz (n:=f.1.toNat) (by have:=h.2.1;omega)
 omega
noncomputable instance fineDec (f:Fl) (s:List UInt8):Decidable (fine f∧layF f=s):=Classical.propDecidable _
noncomputable def endS (f:Fl)(s:List UInt8):Fl×Int:=if fine f∧layF f=s then (f,0) else (zF,3)
theorem al9 (s:List UInt8)(hs:s.length≤1000):en 200000 (ofB s)=some (match atS (c1 s).1 with
  | .inl n=>if h:oY (c3 s).1=0∧(eB (c3 s).1).length=16 then endS (n,(decide ((c2 s).1=[49]),(⟨eB (c3 s).1,h.2⟩,(c3 s).2.1))) s else (zF,3)
  | .inr _=>(zF,3)):=by
 have l0:(t0 s).length≤s.length:=aic s mE
 have l1:=Cf (t0 s) mR
 have l2:=Cf (c1 s).2.1 mC
 have l3:=Cf (c2 s).2.1 mV
 have k1:(c1 s).1.length≤1000:=Nat.le_trans l1.1 (by omega)
 have k2:(c1 s).2.1.length≤1000:=Nat.le_trans l1.2 (by omega)
 have k3:(c2 s).2.1.length≤1000:=Nat.le_trans l2.2 (by omega)
 have k4:(c3 s).1.length≤1000:=Nat.le_trans l3.1 (by omega)
 have k5:(c3 s).2.1.length≤1000:=Nat.le_trans l3.2 (by omega)
 rw [B5]
 refine (bnd (pT s)).trans ?_
 refine (bpos (by omega)).trans ?_
 refine (bpos (by omega)).trans ?_
 refine (bpos (by omega)).trans ?_
 refine (bpos (by omega)).trans ?_
 refine (bpos (by omega)).trans ?_
 generalize atS (c1 s).1=o
 rcases o with n | z
 ·simp only [Sum.elim_inl]
  by_cases e1:oY (c3 s).1=0
  ·by_cases e2:(eB (c3 s).1).length=16
   ·have e3:((((eB (c3 s).1).length:Nat):Int)=16):=by omega
    have t1:dA 16 (eB (c3 s).1)=some ⟨eB (c3 s).1,e2⟩:=rK 16 _ e2
    have hB:AllB (eB (c3 s).1):=xR _
    simp only [e1,e3,decide_true,DB,cond_false,gt,t1,e2,and_self,dif_pos]
    generalize hf:((n,(decide ((c2 s).1=[49]),((⟨eB (c3 s).1,e2⟩:Arr Int 16),(c3 s).2.1))):Fl)=f
    have hc:AllB f.2.2.1.l:=by rw [←hf];exact hB
    have ht:f.2.2.2.length≤1000:=by rw [←hf];exact k5
    refine (bnd (akN f hc ht)).trans ?_
    unfold endS
    rcases B6 f hc with ⟨q1,q2⟩ | q2
    ·rw [q2]
     have hsm:=alD (ofB (layF f)) (ofB s) (xR _) (xR _) (by rw [bm];have:=wq f q1 (by omega);omega) (by rw [bm];omega) (DI 200000)
     simp only [decide_true,DB,cond_false,hsm,gt]
     by_cases he:layF f=s
     ·rw [if_pos ⟨q1,he⟩,he]
      simp only [decide_true,DB,cond_false]
     ·rw [if_neg (fun h=>he h.2),decide_eq_false (fun h=>he (afg h))]
      rfl
    ·rw [if_neg (fun h=>by rw [wC h.1] at q2;exact q2 rfl)]
     simp only [q2,decide_false,DM,cond_true]
   ·have e3:¬ ((((eB (c3 s).1).length:Nat):Int)=16):=by omega
    rw [dif_neg (fun h=>e2 h.2)]
    simp only [e1,e3,decide_true,decide_false,DB,DM,cond_false,cond_true,gt]
  ·rw [dif_neg (fun h=>e1 h.1)]
   simp only [e1,decide_false,DM,cond_true,cond_false,gt]
 ·rfl
theorem aiX:∀ n:Nat,n<16→hv (dg n)=n∧dg n≠32:=by decide +kernel
theorem yU:∀ c:List Int,AllB c→∃ bs,eG (hexS c)=some bs∧ofB bs=c
 | [],_=>⟨[],rfl,rfl⟩
 | v::c,h=>by
  obtain ⟨bs,h1,h2⟩:=yU c (fun x hx=>h x (D4 _ hx))
  have hv':=h v Ed
  have q1:=(aiX (v.toNat / 16) (by omega)).1
  have q2:=(aiX (v.toNat % 16) (by omega)).1
  have e:16*(v.toNat / 16)+v.toNat % 16=v.toNat:=by omega
  refine ⟨DW v.toNat::bs, ?_, ?_⟩
  ·show eG (dg (v.toNat / 16)::dg (v.toNat % 16)::hexS c)=_
   unfold eG
   rw [q1,q2,if_pos (by omega),h1,e]
   rfl
  ·show ((DW v.toNat).toNat:Int)::ofB bs=_
   have e2:(DW v.toNat).toNat=v.toNat % 256:=by simp
   rw [h2,e2]
   congr 1
   omega
theorem aiZ (c:List Int)(h:AllB c):∀ x∈hexS c,x≠32:=fun x hx=>by
 unfold hexS at hx
 obtain ⟨v,hv',hx⟩:=List.mem_flatMap.1 hx
 have:=h v hv'
 simp only [DQ,DK,or_false] at hx
 rcases hx with rfl | rfl
 ·exact (aiX _ (by omega)).2
 ·exact (aiX _ (by omega)).2
theorem af5 {f:Fl}(h:fine f):endS f (layF f)=(f,0):=by
 unfold endS
 rw [if_pos ⟨h,rfl⟩]
theorem ast (f:Fl)(hf:fine f)(ht:f.2.2.2.length≤900):en 200000 (ofB (layF f))=some (f,0):=by
 obtain ⟨h1,h2,h3,h4⟩:=hf
 obtain ⟨m,hm⟩:∃ m:Nat,f.1=(m:Int):=⟨f.1.toNat,by omega⟩
 have hm2:m≤9999:=by omega
 have hmt:f.1.toNat=m:=by omega
 have hl:(layF f).length≤1000:=by
  rw [C3 f ⟨h1,h2,h3,h4⟩]
  have:=yz (n:=f.1.toNat) (by omega)
  omega
 obtain ⟨d1,d2,d3⟩:=agb m
 have hd:=yz hm2
 have e0:t0 (layF f)=DC m++mR++(agS f.2.1++mC++(hexS f.2.2.1.l++mV++f.2.2.2)):=by
  unfold t0 layF L8
  rw [hmt]
  simp only [Dr]
  exact ak5 _ _
 have e1:c1 (layF f)=(DC m,(agS f.2.1++mC++(hexS f.2.2.1.l++mV++f.2.2.2)),true):=by
  unfold c1
  rw [e0]
  exact age _ _ _ 32 (fun c hc=>by
   have:=d1 c hc
   intro e;subst e
   have:(32:UInt8).toNat=32:=rfl
   omega)
 have e2:c2 (layF f)=(agS f.2.1,(hexS f.2.2.1.l++mV++f.2.2.2),true):=by
  unfold c2
  rw [e1]
  exact age _ _ _ 32 (fun c hc=>by
   unfold agS at hc
   split at hc <;> (rw [DY] at hc;subst hc;decide))
 have e3:c3 (layF f)=(hexS f.2.2.1.l,f.2.2.2,true):=by
  unfold c3
  rw [e2]
  exact age _ _ _ 32 (aiZ _ h4)
 obtain ⟨bs,u1,u2⟩:=yU f.2.2.1.l h4
 have uE:oY (hexS f.2.2.1.l)=0:=by unfold oY;rw [u1];rfl
 have uR:eB (hexS f.2.2.1.l)=f.2.2.1.l:=by unfold eB;rw [u1];exact u2
 have uL:(eB (hexS f.2.2.1.l)).length=16:=by rw [uR];exact f.2.2.1.h
 have ha:atS (DC m)= .inl (m:Int):=by unfold atS;rw [aju hm2]
 have hag:decide (agS f.2.1=[49])=f.2.1:=by cases f.2.1 <;> decide
 rw [al9 _ hl,e1,e2,e3]
 simp only [ha]
 rw [dif_pos ⟨uE,uL⟩]
 have hff:((m:Int),(decide (agS f.2.1=[49]),((⟨eB (hexS f.2.2.1.l),uL⟩:Arr Int 16),f.2.2.2)))=f:=by
  rw [hag,←hm]
  have:(⟨eB (hexS f.2.2.1.l),uL⟩:Arr Int 16)=f.2.2.1:=Arr.eq uR
  rw [this]
 rw [hff,af5 ⟨h1,h2,h3,h4⟩]
def gr (c:UInt8):Bool:=(decide (48≤c.toNat)&&decide (c.toNat≤57))||(decide (65≤c.toNat)&&decide (c.toNat≤70))
def grs (s:List UInt8):Bool:=s.all gr
theorem ai1 (s:List UInt8)(i:Nat)(h:i<s.length):grs (s.drop i)=(gr s[i]&&grs (s.drop (i+1))):=by
 rw [DA h];rfl
theorem ai3 (c:UInt8):(48≤c.toNat∧c.toNat≤57∧gr c=true)∨(65≤c.toNat∧c.toNat≤70∧gr c=true)∨(c.toNat<48∧gr c=false)∨(57<c.toNat∧c.toNat<65∧gr c=false)∨(70<c.toNat∧gr c=false):=by
 unfold gr
 rcases Ea c.toNat 48 with h | h
 ·right;right;left
  exact ⟨h,by rw [decide_eq_false (by omega),decide_eq_false (p:=65≤c.toNat) (by omega)];rfl⟩
 ·rcases Ea 57 c.toNat with h2 | h2
  ·rcases Ea c.toNat 65 with h3 | h3
   ·right;right;right;left
    exact ⟨h2,h3,by rw [decide_eq_true (p:=48≤c.toNat) (by omega),decide_eq_false (p:=c.toNat≤57) (by omega),decide_eq_false (p:=65≤c.toNat) (by omega)];rfl⟩
   ·rcases Ea 70 c.toNat with h4 | h4
    ·right;right;right;right
     exact ⟨h4,by rw [decide_eq_true (p:=48≤c.toNat) (by omega),decide_eq_false (p:=c.toNat≤57) (by omega),decide_eq_true (p:=65≤c.toNat) (by omega),decide_eq_false (p:=c.toNat≤70) (by omega)];rfl⟩
    ·right;left
     exact ⟨h3,h4,by rw [decide_eq_true (p:=65≤c.toNat) (by omega),decide_eq_true (p:=c.toNat≤70) (by omega)];simp⟩
  ·left
   exact ⟨h,h2,by rw [decide_eq_true (p:=48≤c.toNat) (by omega),decide_eq_true (p:=c.toNat≤57) (by omega)];rfl⟩
section
variable {N:Nat}
theorem ansP (s:List UInt8)(hs:s.length≤100000):∀ (n k i:Nat),i+n=s.length→n<k→gl (fun X c=>aY N X c.1.1 c.1.2.1 c.1.2.2.1) k ((ofB s,((s.length:Int),((i:Int),()))),())=some (if grs (s.drop i)=true then .inr ((),()) else .inl ((false,()),()))
 | 0,k+1,i,hi,_=>by
  have c1:¬ ((i:Int)<(s.length:Int)):=by omega
  rw [ah,Du (by omega)]
  simp only [aY,c1,decide_false,cond_false]
  rfl
 | n+1,k+1,i,hi,hk=>by
  have c1:((i:Int)<(s.length:Int)):=by omega
  have hlt:i<s.length:=by omega
  have g:=getB s i hlt
  have w:ne .i64 ((i:Int)+1)=((i+1:Nat):Int):=by rw [ac (by omega) (by omega)];omega
  have ih:=ansP s hs n k (i+1) (by omega) (by omega)
  rw [ah,ai1 s i hlt]
  rcases ai3 s[i] with ⟨h1,h2,h3⟩ | ⟨h1,h2,h3⟩ | ⟨h1,h3⟩ | ⟨h1,h2,h3⟩ | ⟨h1,h3⟩
  ·simp only [aY,c1,g,w,show (48:Int)≤((s[i].toNat:Nat):Int) by omega,show ((s[i].toNat:Nat):Int)≤57 by omega,decide_true,cond_true,cond_false,gt,h3,DB,Bool.true_and]
   exact ih
  ·simp only [aY,c1,g,w,show (48:Int)≤((s[i].toNat:Nat):Int) by omega,show ¬ ((s[i].toNat:Nat):Int)≤57 by omega,show (65:Int)≤((s[i].toNat:Nat):Int) by omega,show ((s[i].toNat:Nat):Int)≤70 by omega,decide_true,decide_false,cond_true,cond_false,gt,h3,DB,Bool.true_and]
   exact ih
  ·simp only [aY,c1,g,w,show ¬ (48:Int)≤((s[i].toNat:Nat):Int) by omega,show ¬ (65:Int)≤((s[i].toNat:Nat):Int) by omega,decide_true,decide_false,cond_true,cond_false,gt,h3,DM,Bool.false_and]
   rfl
  ·simp only [aY,c1,g,w,show (48:Int)≤((s[i].toNat:Nat):Int) by omega,show ¬ ((s[i].toNat:Nat):Int)≤57 by omega,show ¬ (65:Int)≤((s[i].toNat:Nat):Int) by omega,decide_true,decide_false,cond_true,cond_false,gt,h3,DM,Bool.false_and]
   rfl
  ·simp only [aY,c1,g,w,show (48:Int)≤((s[i].toNat:Nat):Int) by omega,show ¬ ((s[i].toNat:Nat):Int)≤57 by omega,show (65:Int)≤((s[i].toNat:Nat):Int) by omega,show ¬ ((s[i].toNat:Nat):Int)≤70 by omega,decide_true,decide_false,cond_true,cond_false,gt,h3,DM,Bool.false_and]
   rfl
end
def bt (s:List UInt8)(i:Nat):Int:=((s.getD i 0).toNat:Nat)
theorem al4 (s:List UInt8)(i:Nat)(h:i<s.length):getI (ofB s) (i:Int)=some (bt s i):=by
 rw [getB s i h]
 unfold bt
 rw [List.getD_eq_getElem?_getD,List.getElem?_eq_getElem h]
 rfl
def tOk (s:List UInt8):Prop:=bt s 0=83∧bt s 1=61∧grs ((s.take 42).drop 2)=true∧(42<s.length→bt s 42=32)
instance (s:List UInt8):Decidable (tOk s):=by unfold tOk;infer_instance
def aid (s:List UInt8):List UInt8×Int:=if s.length<42 then ([],4) else if tOk s then (s.take 42,0) else ([],3)
theorem asj (v0 v1:Int):(bif (!(decide (v0=(83:Int)))) then some (true) else Dp (some v1) fun (v3:Int)=>some ((cond false true (!(decide (v3=(61:Int)))))))=some (!(decide (v0=83∧v1=61))):=by
 by_cases h0:v0=83 <;> by_cases h1:v1=61 <;> simp [h0,h1]
theorem ar0 (s:List UInt8):(bif (decide ((42:Int)<(s.length:Int))) then Dp (getI (ofB s) (42:Int)) fun (v4:Int)=>some ((cond false true (cond true (!(decide (v4=(32:Int)))) false))) else some ((cond false true false)))=some (!(decide (42<s.length→bt s 42=32))):=by
 by_cases h:42<s.length
 ·have h':(42:Int)<(s.length:Int):=by omega
  have g:getI (ofB s) (42:Int)=some (bt s 42):=al4 s 42 h
  rw [g]
  by_cases h2:bt s 42=32 <;> simp [h,h',h2]
 ·have h':¬ (42:Int)<(s.length:Int):=by omega
  simp [h,h']
theorem asf (u:List UInt8)(hu:u.length=42):eO 200000 (ofB u)=some (decide (bt u 0=83∧bt u 1=61)&&grs (u.drop 2)):=by
 have g0:getI (ofB u) (0:Int)=some (bt u 0):=al4 u 0 (by omega)
 have g1:getI (ofB u) (1:Int)=some (bt u 1):=al4 u 1 (by omega)
 unfold eO
 rw [g0,g1]
 refine (bnd (v:=bt u 0) rfl).trans ?_
 refine (bnd (asj (bt u 0) (bt u 1))).trans ?_
 cases hh:decide (bt u 0=83∧bt u 1=61)
 ·rfl
 ·have hd:bJ (ofB u) (2:Int)=some (ofB (u.drop 2)):=(ek (ofB u) (a:=2) (i:=2) rfl (by rw [bm];omega)).trans (by rw [aiB])
  have hl:(u.drop 2).length=40:=by rw [Dx];omega
  simp only [DB,cond_false,Bool.true_and]
  refine (bnd hd).trans ?_
  rw [bm]
  have h:jO 200000 ((ofB (u.drop 2),(((u.drop 2).length:Int),(((0:Nat):Int),()))),())=_:=ansP (u.drop 2) (by omega) (u.drop 2).length 200000 0 (by omega) (by omega)
  refine (bnd h).trans ?_
  rw [D5]
  cases grs (u.drop 2) <;> rfl
theorem agn (s:List UInt8)(n i:Nat)(h:i<n):bt (s.take n) i=bt s i:=by
 unfold bt
 rw [List.getD_eq_getElem?_getD,List.getD_eq_getElem?_getD,List.getElem?_take_of_lt h]
theorem apJ (s:List UInt8):iR 200000 (ofB s)=some (aid s):=by
 unfold iR aid
 rw [bm]
 by_cases hl:s.length<42
 ·rw [if_pos hl]
  exact bpos (by omega)
 ·rw [if_neg hl]
  refine (bneg (by omega)).trans ?_
  have tk:cL (ofB s) (42:Int)=some (ofB (s.take 42)):=(ed (ofB s) (a:=42) (i:=42) rfl (by rw [bm];omega)).trans (by rw [aiA])
  have hu:(s.take 42).length=42:=by rw [Dy];omega
  have ha:=asf (s.take 42) hu
  rw [agn s 42 0 (by omega),agn s 42 1 (by omega)] at ha
  refine (bnd tk).trans ?_
  refine (bnd ha).trans ?_
  by_cases k1:bt s 0=83∧bt s 1=61
  ·cases k2:grs ((s.take 42).drop 2)
   ·rw [if_neg (fun h=>by have:=h.2.2.1;rw [k2] at this;cases this)]
    simp only [Bool.and_false,DM,cond_true]
   ·simp only [k1,and_self,decide_true,Bool.and_self,DB,cond_false]
    refine (bnd (ar0 s)).trans ?_
    by_cases k3:42<s.length→bt s 42=32
    ·rw [if_pos ⟨k1.1,k1.2,k2,k3⟩,decide_eq_true k3]
     simp only [DB,cond_false]
     exact (bnd tk).trans (bnd (pT _))
    ·rw [if_neg (fun h=>k3 h.2.2.2),decide_eq_false k3]
     rfl
  ·rw [if_neg (fun h=>k1 ⟨h.1,h.2.1⟩),decide_eq_false k1]
   rfl
def mM:List UInt8:=[32,77,61]
theorem aqw:∀ n:Nat,n<16→gr (dg n)=true:=by decide +kernel
theorem afF:∀ c:List Int,AllB c→grs (hexS c)=true
 | [],_=>rfl
 | v::c,h=>by
  have hv':=h v Ed
  have ih:=afF c (fun x hx=>h x (D4 _ hx))
  show (gr (dg (v.toNat / 16))&&(gr (dg (v.toNat % 16))&&grs (hexS c)))=true
  rw [aqw _ (by omega),aqw _ (by omega),ih]
  rfl
theorem aen (E:List Int)(hE:AllB E)(hl:E.length=20)(t:List UInt8):aid ((sS++hexS E)++mM++t)=(sS++hexS E,0):=by
 have xl:(sS++hexS E).length=42:=by rw [Do,iI,hl];rfl
 have tl:(((sS++hexS E)++mM)++t).length=45+t.length:=by rw [Do,Do,xl];rfl
 have tk:(((sS++hexS E)++mM)++t).take 42=sS++hexS E:=by rw [Dr];exact List.take_left' xl
 have b0:bt (((sS++hexS E)++mM)++t) 0=83:=rfl
 have b1:bt (((sS++hexS E)++mM)++t) 1=61:=rfl
 have b42:bt (((sS++hexS E)++mM)++t) 42=32:=by
  unfold bt
  rw [Dr,List.getD_eq_getElem?_getD,List.getElem?_append_right (by omega),xl]
  rfl
 have dr:((((sS++hexS E)++mM)++t).take 42).drop 2=hexS E:=by rw [tk];rfl
 unfold aid
 rw [if_neg (by omega),if_pos ⟨b0,b1,by rw [dr];exact afF E hE,fun _=>b42⟩,tk]
theorem aqN (l:List Int)(h:l.length≤10000):mP 200000 l=some l:=by
  unfold mP kP
  cases l with
  | nil=>rfl
  | cons x l=>exact (bvn rfl).trans ((bvn rfl).trans ((rpos (by omega) (by omega)).trans rfl))
abbrev As:Type:=List UInt8×(List Us×(Int×(Int×(Arr Int 16×(Int×(Int×(List Int×(Int×(List UInt8×Arr Int 32)))))))))
def z32:Arr Int 32:=⟨Dq 32 0,rfl⟩
def sV:List UInt8:=[115,101,114,118,101,114]
theorem tS (p a:Arr Int 16)(s w:List UInt8)(hp:AllB p.l)(ha:AllB a.l)(hs:s.length≤300)(hw:w.length≤300):∃ (D:Arr Int 16) (e:Int) (W:Arr Int 24),cN 200000 w=some (D,e)∧AllB D.l∧AllB W.l∧cx 200000 p a s w=some (W,e)∧(e=0→∃ C:Arr Int 8,AllB C.l∧aQ 200000 p a s=some C∧bB 200000 C D=some W):=by
  obtain ⟨D,e,d1,d2,d3⟩:=alF w (by omega)
  by_cases he:e=0
  · obtain ⟨C,c1,c2,c3⟩:=amn p a s hp ha hs
    obtain ⟨R,r1,r2,r3⟩:=alp C D c1 d3
    refine ⟨D,e,R,d1,d3,r1, ?_,fun _=>⟨C,c1,c2,r2⟩⟩
    unfold cx
    rw [d2,gt]
    simp only [he,decide_true,DB,cond_false,c3,r3,gt]
  · refine ⟨D,e,⟨Dq 24 0,rfl⟩,d1,d3,AllB.zeros 24, ?_,fun h=>absurd h he⟩
    unfold cx
    rw [d2,gt]
    simp only [he,decide_false,DM,cond_true]
    rfl
theorem aiC (s:List UInt8):(ofB s).map agk=s:=Option.some.inj ((xa (adt s)).symm.trans (pT s))
theorem parG (cd id:Int)(V:List Int)(n:List UInt8)(h:V.length≤255)(hb:AllB V)(hn:n.length≤300):fa 200000 (layK cd id V n)=some (V,(n,0)):=by
  have hw:ne .u8 ((V.length:Nat):Int)=((V.length:Nat):Int):=by rw [DS];omega
  have e:(layK cd id V n).2.2=((V.length:Nat):Int)::(V++ofB n):=by
    unfold layK
    have:min V.length 255=V.length:=by omega
    rw [this,List.take_length]
    show ([ne .u8 ((V.length:Nat):Int)]++V)++ofB n=_
    rw [hw]
    rfl
  have hl:(((V.length:Nat):Int)::(V++ofB n)).length=V.length+1+n.length:=by simp only [Dv,Do,bm];omega
  rw [(ar6 _ (aql cd id V n hb) (by rw [e,hl];omega)).1]
  congr 1
  unfold parK
  rw [e,hl]
  have g:(((V.length:Nat):Int)::(V++ofB n)).getD 0 0=((V.length:Nat):Int):=rfl
  rw [g,if_neg (by omega),DF]
  have t1:((((V.length:Nat):Int)::(V++ofB n)).drop 1).take V.length=V:=by
    show (V++ofB n).take V.length=V
    rw [List.take_left]
  have t2:(((V.length:Nat):Int)::(V++ofB n)).drop (1+V.length)=ofB n:=by
    rw [Nat.add_comm]
    show (V++ofB n).drop V.length=ofB n
    rw [List.drop_left]
  rw [t1,t2,aiC]
theorem akt (p:Arr Int 16)(r:Arr Int 24):(valB p.l r.l).length=49:=by
  have:=r.h
  have:=p.h
  simp only [valB,Do,DR,Dv,Dw];omega
theorem apB (p:Arr Int 16)(r:Arr Int 24)(hp:AllB p.l)(hr:AllB r.l):AllB (valB p.l r.l):=((hp.append (ada 8 0 (by omega))).append hr).append (AllB.cons (by omega) AllB.nil)
theorem ap0 (p:Arr Int 16)(r:Arr Int 24)(hp:AllB p.l)(hr:AllB r.l):gN 200000 (valB p.l r.l)=some (p,(r,0)):=by
  have hpl:=p.h
  have hrl:=r.h
  have hV:=akt p r
  have e1:(valB p.l r.l).take 16=p.l:=by
    unfold valB
    rw [Dr,Dr,List.take_append_of_le_length (by omega),DZ (by omega)]
  have e2:((valB p.l r.l).drop 24).take 24=r.l:=by
    unfold valB
    rw [Dr,List.drop_append_of_le_length (by simp only [Do,DR];omega),Du (by simp only [Do,DR];omega),Ec,List.take_append_of_le_length (by omega),DZ (by omega)]
  have q1:o9 _ hV=p:=Arr.eq e1
  have q2:o0 _ hV=r:=Arr.eq e2
  rw [aiw _ (apB p r hp hr) (by omega),dif_pos hV,if_pos ((sX _ hV).1 (by rw [q1,q2])),q1,q2]
theorem asm (u:Us)(h1:u.1.length≤1000)(h2:u.2.length≤1000):iQ 200000 [u] u.1=some (u,true):=by
  rw [aqy [u] u.1 h1 (fun v hv=>by rw [DY.1 hv];exact ⟨h1,h2⟩) (by simp)]
  unfold adJ
  rw [if_pos rfl]
  rfl
def stU (u:Us)(a:Arr Int 16):As:=(sV,([u],(1,(1,(a,(1,(3,([],(0,([],z32))))))))))
theorem ae6 (u:Us)(a peer:Arr Int 16)(r:Arr Int 24)(hu1:u.1.length≤300)(hu2:u.2.length≤300)(ha:AllB a.l)(hp:AllB peer.l)(hr:AllB r.l):
    ∃ (D:Arr Int 16) (e:Int) (W:Arr Int 24),cN 200000 u.2=some (D,e)∧AllB D.l∧AllB W.l∧cx 200000 peer a u.1 u.2=some (W,e)∧((e=0∧r=W∧(∃ C:Arr Int 8,AllB C.l∧aQ 200000 peer a u.1=some C)∧cu 200000 (stU u a) peer r u.1=some (D,true))∨(¬ (e=0∧r=W)∧∃ Z,cu 200000 (stU u a) peer r u.1=some (Z,false))):=by
  obtain ⟨D,e,W,d1,d2,d3,d4,d5⟩:=tS peer a u.1 u.2 hp ha hu1 hu2
  refine ⟨D,e,W,d1,d2,d3,d4, ?_⟩
  unfold cu
  have hf:=asm u (by omega) (by omega)
  by_cases he:e=0
  · obtain ⟨C,c1,c2,c3⟩:=d5 he
    subst he
    have hW:=W.h
    have hR:=r.h
    have ho:=alD W.l r.l d3 hr (by omega) (by omega) (N:=200000) (by omega)
    by_cases hw:r=W
    · refine .inl ⟨rfl,hw,⟨C,c1,c2⟩, ?_⟩
      subst hw
      rw [decide_eq_true rfl] at ho
      refine (bnd hf).trans ((bvn rfl).trans ((bnd d1).trans ((bvn rfl).trans ((bnd c2).trans ((bnd c3).trans ((bnd ho).trans ?_))))))
      rfl
    · refine .inr ⟨fun h=>hw h.2,z16, ?_⟩
      rw [decide_eq_false (fun h=>hw (Arr.eq h.symm))] at ho
      refine (bnd hf).trans ((bvn rfl).trans ((bnd d1).trans ((bvn rfl).trans ((bnd c2).trans ((bnd c3).trans ((bnd ho).trans ?_))))))
      rfl
  · refine .inr ⟨fun h=>he h.1,z16, ?_⟩
    refine (bnd hf).trans ((bvn rfl).trans ((bnd d1).trans ((bvp (by rw [decide_eq_false he];rfl)).trans ?_)))
    rfl
theorem aai (h:Arr Int 16)(r:Arr Int 24)(c:Arr Int 8)(hb:AllB h.l)(rb:AllB r.l)(cb:AllB c.l):∃ E:Arr Int 20,AllB E.l∧cr 200000 h r c=some (sS++hexS E.l):=by
  obtain ⟨t,t1,t2,t3⟩:=vP h hb
  have tl:=t.h
  have rl:=r.h
  have cl:=c.h
  have sl:aeN.length=39:=rfl
  have pl:sPad.length=41:=rfl
  obtain ⟨D,d1,d2,d3⟩:=nq [t.l,r.l,ofB aeN] (by simp) (fun p hp=>by
    simp only [DQ,DK,or_false] at hp
    rcases hp with rfl | rfl | rfl
    · exact t3
    · exact rb
    · exact adt _) (by simp only [DJ,DL,Do,bm,Dw];omega)
  have Dl:=D.h
  obtain ⟨E,e1,e2,e3⟩:=nq [D.l,c.l,ofB sPad] (by simp) (fun p hp=>by
    simp only [DQ,DK,or_false] at hp
    rcases hp with rfl | rfl | rfl
    · exact d1
    · exact cb
    · exact adt _) (by simp only [DJ,DL,Do,bm,Dw];omega)
  have El:=E.h
  have x1:=aqu (N:=200000) E.l e1 (by omega) (by omega)
  have hx:decide ((sS.length+(hexS E.l).length)≤Go.maxLen)=true:=decide_eq_true (by
    have:=aJ
    rw [iI,show sS.length=2 from rfl];omega)
  refine ⟨E,e1, ?_⟩
  rw [ad8,t1,gt,d2,gt,e2,gt,x1,gt,hx]
  rfl
def sW:List UInt8:=[87,101,108,99,111,109,101]
theorem ala (a:List UInt8)(h:a.length≤1000):fW 200000 a sW=some (ofB ((a++mM)++sW)):=by
  have hb:=aJ
  unfold fW
  refine (bpos ?_).trans ((bpos ?_).trans ((rpos ?_ (by omega)).trans rfl))
  · show a.length+3≤maxLen
    omega
  · show (a++[32,77,61]).length+7≤maxLen
    rw [Do];simp only [Dv,Dw];omega
  · show ((a++[32,77,61])++[87,101,108,99,111,109,101]).length≤100000
    simp only [Do,Dv,Dw];omega
def fU (a:Arr Int 16):Fl:=(691,(false,(a,[78,111])))
theorem B4 (a:Arr Int 16)(ha:AllB a.l):fine (fU a):=⟨by show (0:Int)≤691;omega,by show (691:Int)≤9999;omega,by show asc [78,111]=true;decide,ha⟩
theorem ai6 (a:Arr Int 16)(ha:AllB a.l):fC 200000 (fU a)=some (ofB (layF (fU a)),0):=by
  rw [akN (fU a) ha (by show 2≤1000;omega),wC (B4 a ha)]
theorem adK (a:Arr Int 16)(ha:AllB a.l):en 200000 (ofB (layF (fU a)))=some (fU a,0):=ast _ (B4 a ha) (by show 2≤900;omega)
def enU (u:Us)(a:Arr Int 16)(st cd:Int)(m:List Int)(wh:List UInt8)(k:Arr Int 32):As:=(sV,([u],(st,(1,(a,(1,(3,(m,(cd,(wh,k))))))))))
theorem apK (u:Us)(a:Arr Int 16)(st cd:Int)(m:List Int)(wh:List UInt8)(k:Arr Int 32)(hc:cd≠0)(hm:m.length≤10000):bI 200000 (enU u a st cd m wh k)=some [(cd,(1,m))]:=by
  unfold bI
  refine (bneg hc).trans ?_
  exact (bnd (aqN m hm)).trans rfl
def msgS (E:Arr Int 20):List UInt8:=((sS++hexS E.l)++mM)++sW
theorem alJ (E:Arr Int 20):(msgS E).length=52:=by
  have:=E.h
  unfold msgS
  simp only [Do,iI,show sS.length=2 from rfl,show mM.length=3 from rfl,show sW.length=7 from rfl];omega
theorem aqp (u:Us)(a peer:Arr Int 16)(r:Arr Int 24)(hu1:u.1.length≤300)(hu2:u.2.length≤300)(ha:AllB a.l)(hp:AllB peer.l)(hr:AllB r.l):
    ∃ (D:Arr Int 16) (e:Int) (W:Arr Int 24),cN 200000 u.2=some (D,e)∧AllB W.l∧cx 200000 peer a u.1 u.2=some (W,e)∧
      ((e=0∧r=W∧∃ (k:Arr Int 32) (E:Arr Int 20) (C:Arr Int 8),AllB k.l∧AllB E.l∧(∀ b,dP 200000 D r b=some k)∧aQ 200000 peer a u.1=some C∧cr 200000 D r C=some (sS++hexS E.l)∧bw 200000 (stU u a) (layK 2 1 (valB peer.l r.l) u.1)=some (enU u a 2 3 (ofB (msgS E)) u.1 k,[(3,(1,ofB (msgS E)))]))∨
       (¬ (e=0∧r=W)∧bw 200000 (stU u a) (layK 2 1 (valB peer.l r.l) u.1)=some (enU u a 3 4 (ofB (layF (fU a))) [] z32,[(4,(1,ofB (layF (fU a))))]))):=by
  obtain ⟨D,e,W,d0,d1,d2,d3,d4⟩:=ae6 u a peer r hu1 hu2 ha hp hr
  refine ⟨D,e,W,d0,d2,d3, ?_⟩
  have hpar:=parG 2 1 (valB peer.l r.l) u.1 (by rw [akt];omega) (apB peer r hp hr) hu1
  have hval:=ap0 peer r hp hr
  rcases d4 with ⟨e0,rW,⟨C,c1,c2⟩,hpf⟩ | ⟨hno,Z,hpf⟩
  · obtain ⟨k,k1,k2⟩:=C9 D r d1 hr
    obtain ⟨E,t1,t2⟩:=aai D r C d1 hr c1
    have El:=E.h
    have m1:=ala (sS++hexS E.l) (by rw [Do,iI,show sS.length=2 from rfl];omega)
    refine .inl ⟨e0,rW,k,E,C,k1,t1,k2,c2,t2, ?_⟩
    unfold bw
    refine (bnd hpar).trans ?_
    refine (bvn rfl).trans ?_
    refine (bnd hval).trans ?_
    refine (bvn rfl).trans ?_
    refine (bnd hpf).trans ?_
    refine (bvn rfl).trans ?_
    refine (bnd (k2 true)).trans ?_
    refine (bnd c2).trans ?_
    refine (bnd t2).trans ?_
    refine (bnd m1).trans ?_
    refine (bnd (apK u a 2 3 (ofB (msgS E)) u.1 k (by omega) (by rw [bm,alJ];omega))).trans ?_
    rfl
  · have m1:=ai6 a ha
    have ml:=wq (fU a) (B4 a ha) (by show 2≤2000;omega)
    refine .inr ⟨hno, ?_⟩
    unfold bw
    refine (bnd hpar).trans ?_
    refine (bvn rfl).trans ?_
    refine (bnd hval).trans ?_
    refine (bvn rfl).trans ?_
    refine (bnd hpf).trans ?_
    refine (bvp rfl).trans ?_
    refine (bnd m1).trans ?_
    refine (bnd (apK u a 3 4 (ofB (layF (fU a))) [] z32 (by omega) (by rw [bm];omega))).trans ?_
    rfl
theorem apN (u:Us)(a:Arr Int 16)(v:List Int)(n:List UInt8)(y:As×List (Int×(Int×List Int)))(h:bw 200000 (stU u a) (layK 2 1 v n)=some y):cg 200000 (stU u a) (layK 2 1 v n)=some y:=by
  unfold cg
  refine (bnd (v:=false) rfl).trans ?_
  refine (bvn rfl).trans ?_
  refine (bpos rfl).trans ?_
  exact (bnd h).trans rfl
abbrev Pv:Type:=List UInt8×(List UInt8×(Arr Int 16×(Int×(Int×(List UInt8×(Arr Int 32×Int))))))
def yS (s w:List UInt8)(peer:Arr Int 16)(st id:Int)(t:List UInt8)(k:Arr Int 32)(cd:Int):Pv:=(s,(w,(peer,(st,(id,(t,(k,cd)))))))
def y0 (s w:List UInt8)(peer:Arr Int 16):Pv:=yS s w peer 0 0 [] z32 0
theorem arY (a:Arr Int 16):dA 16 a.l=some a:=rK 16 a.l a.h
theorem apM (s w:List UInt8)(peer a:Arr Int 16)(y:Pv×List Ct)(h:aZ 200000 (y0 s w peer) (layK 1 1 a.l sV)=some y):aB 200000 (y0 s w peer) (layK 1 1 a.l sV)=some y:=by
 unfold aB
 refine (bnd (v:=false) rfl).trans ?_
 refine (bvn rfl).trans ?_
 refine (bpos rfl).trans ?_
 exact (bnd h).trans rfl
theorem ar2 (s w:List UInt8)(peer a:Arr Int 16)(ha:AllB a.l)(D:Arr Int 16)(f:Int)(hf:f≠0)(hof:cN 200000 w=some (D,f)):aZ 200000 (y0 s w peer) (layK 1 1 a.l sV)=some (y0 s w peer,[]):=by
 have al:=a.h
 unfold aZ
 refine (bnd (parG 1 1 a.l sV (by omega) ha (by show 6≤300;omega))).trans ?_
 refine (bvn rfl).trans ?_
 refine (bnd (v:=false) (by rw [decide_eq_true (show (((a.l.length:Nat)):Int)=16 by omega)];rfl)).trans ?_
 refine (bvn rfl).trans ?_
 refine (bnd hof).trans ?_
 exact (bvp (by rw [decide_eq_false hf];rfl)).trans rfl
theorem ar1 (s w:List UInt8)(peer a:Arr Int 16)(hs:s.length≤300)(ha:AllB a.l)(D:Arr Int 16)(C:Arr Int 8)(q:Arr Int 24)(t:List UInt8)(k:Arr Int 32)(hof:cN 200000 w=some (D,0))(hC:aQ 200000 peer a s=some C)(hq:bB 200000 C D=some q)(ht:cr 200000 D q C=some t)(hk:dP 200000 D q false=some k):
  aZ 200000 (y0 s w peer) (layK 1 1 a.l sV)=some (yS s w peer 1 1 t k 0,[layK 2 1 (valB peer.l q.l) s]):=by
 have al:=a.h
 unfold aZ
 refine (bnd (parG 1 1 a.l sV (by omega) ha (by show 6≤300;omega))).trans ?_
 refine (bvn rfl).trans ?_
 refine (bnd (v:=false) (by rw [decide_eq_true (show (((a.l.length:Nat)):Int)=16 by omega)];rfl)).trans ?_
 refine (bvn rfl).trans ?_
 refine (bnd hof).trans ?_
 refine (bvn rfl).trans ?_
 refine (bnd (arY a)).trans ?_
 refine (bnd hC).trans ?_
 refine (bnd hq).trans ?_
 refine (bnd ht).trans ?_
 refine (bnd hk).trans ?_
 refine (bnd (CB peer q)).trans ?_
 refine (bnd (aqj 2 1 (valB peer.l q.l) s (by omega))).trans ?_
 rfl
theorem ash (s w:List UInt8)(peer:Arr Int 16)(t:List UInt8)(k:Arr Int 32)(E:Arr Int 20)(hE:AllB E.l):aB 200000 (yS s w peer 1 1 t k 0) (3,(1,ofB (msgS E)))=some (yS s w peer (if sS++hexS E.l=t then 2 else 3) 1 t k 0,[]):=by
 have htold:iR 200000 (ofB (msgS E))=some (sS++hexS E.l,0):=by
  rw [apJ]
  unfold msgS
  rw [aen E.l hE E.h]
 have h:bN 200000 (yS s w peer 1 1 t k 0) (3,(1,ofB (msgS E)))=some (yS s w peer (if sS++hexS E.l=t then 2 else 3) 1 t k 0):=by
  unfold bN
  refine (bpos rfl).trans ?_
  refine (bnd htold).trans ?_
  by_cases he:sS++hexS E.l=t
  ·refine (bnd (v:=true) ((bpos rfl).trans (by show some (cond true (decide (sS++hexS E.l=t)) false)=_;rw [decide_eq_true he];rfl))).trans ?_
   rw [if_pos he]
   exact (bvp rfl).trans rfl
  ·refine (bnd (v:=false) ((bpos rfl).trans (by show some (cond true (decide (sS++hexS E.l=t)) false)=_;rw [decide_eq_false he];rfl))).trans ?_
   rw [if_neg he]
   exact (bvn rfl).trans rfl
 unfold aB
 refine (bnd (v:=false) rfl).trans ?_
 refine (bvn rfl).trans ?_
 refine (bneg (by show ¬ (3:Int)=1;omega)).trans ?_
 refine (bnd (v:=true) rfl).trans ?_
 refine (bvp rfl).trans ?_
 exact (bnd h).trans rfl
theorem asi (s w:List UInt8)(peer:Arr Int 16)(t:List UInt8)(k:Arr Int 32)(a:Arr Int 16)(ha:AllB a.l):aB 200000 (yS s w peer 1 1 t k 0) (4,(1,ofB (layF (fU a))))=some (yS s w peer 3 1 t k 691,[]):=by
 have h:bN 200000 (yS s w peer 1 1 t k 0) (4,(1,ofB (layF (fU a))))=some (yS s w peer 3 1 t k 691):=by
  unfold bN
  refine (bneg (by show ¬ (4:Int)=3;omega)).trans ?_
  refine (bpos rfl).trans ?_
  exact (bnd (adK a ha)).trans rfl
 unfold aB
 refine (bnd (v:=false) rfl).trans ?_
 refine (bvn rfl).trans ?_
 refine (bneg (by show ¬ (4:Int)=1;omega)).trans ?_
 refine (bnd (v:=true) rfl).trans ?_
 refine (bvp rfl).trans ?_
 exact (bnd h).trans rfl
end Go.Proofs.YtllpjoggnfclgaaGreatDoor
namespace Go.Proofs.YtllpjoggnfclgaaGreatDoor
open Go.RowKit
set_option linter.unusedVariables false
set_option maxRecDepth 100000
section
variable (N:Nat)
noncomputable def iw:LI:=⟨87,0,[],⟨[(6,.lit (.box 0 0)),(7,.lit (.box 1 0)),(9,.lit (.box 2 0)),(11,.lit (.box 3 0)),(12,.ty (.int .i64)),(41,.ty (.sl qz2)),(42,.ty (.int .i64)),(43,.ty (.int .i64)),(54,.ty (.sl qz2)),(55,.ty (.int .i64)),(56,.ty (.int .i64)),(69,.ty (.sl qz2)),(70,.ty (.int .i64)),(71,.ty (.int .i64))],[.box 31 qz0,.box 65 qz1,.box 31 qz0,.box 65 qz1]⟩,[(.exit 4,⟨[(6,.lit (.box 0 0)),(7,.lit (.box 1 0)),(9,.lit (.box 2 0)),(11,.lit (.box 3 0)),(12,.ty (.int .i64)),(41,.ty (.sl qz2)),(42,.ty (.int .i64)),(43,.ty (.int .i64)),(54,.ty (.sl qz2)),(55,.ty (.int .i64)),(56,.ty (.int .i64))],[.box 31 qz0,.box 65 qz1,.box 31 qz0,.box 65 qz1]⟩)]⟩
noncomputable def cV (X:((Int×((List pz4)×(Int×pz32)))×pz17)→Option ((pz32×pz17)))(n12:Int)(x41:List pz4)(x42:Int)(x43:Int)(x54:List pz4)(x55:Int)(x56:Int)(x69:List pz4)(x70:Int)(x71:Int)(h0:List UInt8×pz0)(h1:List UInt8×pz1)(h2:List UInt8×pz0)(h3:List UInt8×pz1):Option ((pz32×pz17)):=
 bif (decide (x71<x70)) then
  Dp (getI x69 x71) fun (v16:pz4)=>
  Dp (aB N h3 v16) fun v17=>
  (X ((n12,(x41,(x42,(x43,(x54,(x55,(x56,(x69,(x70,((ne .i64 (x71+1)),())))))))))),(h0,(h1,(h2,(v17.1,()))))))
 else
  some (((n12,(x41,(x42,(x43,(x54,(x55,(x56,()))))))),(h0,(h1,(h2,(h3,()))))))
noncomputable def iv (c:((Int×((List pz4)×(Int×pz32)))×pz17)):Option ((pz32×pz17)):=gl (fun X c=>cV N X c.1.1 c.1.2.1 c.1.2.2.1 c.1.2.2.2.1 c.1.2.2.2.2.1 c.1.2.2.2.2.2.1 c.1.2.2.2.2.2.2.1 c.1.2.2.2.2.2.2.2.1 c.1.2.2.2.2.2.2.2.2.1 c.1.2.2.2.2.2.2.2.2.2.1 c.2.1 c.2.2.1 c.2.2.2.1 c.2.2.2.2.1) N c
theorem ss (X:((Int×((List pz4)×(Int×pz32)))×pz17)→Option ((pz32×pz17)))(n12:Int)(x41:List pz4)(x42:Int)(x43:Int)(x54:List pz4)(x55:Int)(x56:Int)(x69:List pz4)(x70:Int)(x71:Int)(h0:List UInt8×pz0)(h1:List UInt8×pz1)(h2:List UInt8×pz0)(h3:List UInt8×pz1):(am Dt (amZ N) 400 [24] iw (ak Dt [24] 16) X ((n12,x41,x42,x43,x54,x55,x56,x69,x70,x71,()),(h0,h1,h2,h3,()))).run=cV N X n12 x41 x42 x43 x54 x55 x56 x69 x70 x71 h0 h1 h2 h3:=by kernel_rfl
noncomputable def amY:(R:Type)→Env R:=Env.addLp (amZ N) [24] 0 16 (fun R=>lpK Dt iw (fun X c=>cV N X c.1.1 c.1.2.1 c.1.2.2.1 c.1.2.2.2.1 c.1.2.2.2.2.1 c.1.2.2.2.2.2.1 c.1.2.2.2.2.2.2.1 c.1.2.2.2.2.2.2.2.1 c.1.2.2.2.2.2.2.2.2.1 c.1.2.2.2.2.2.2.2.2.2.1 c.2.1 c.2.2.1 c.2.2.2.1 c.2.2.2.2.1) N)
theorem aau (R:Type):EnvOK Dt (amY N R):=EnvOK.addLp (aav N R) (by kernel_rfl) (aq (li:=iw) hmx (aav N _) (by kernel_rfl) ab (fun X c=>ss N X c.1.1 c.1.2.1 c.1.2.2.1 c.1.2.2.2.1 c.1.2.2.2.2.1 c.1.2.2.2.2.2.1 c.1.2.2.2.2.2.2.1 c.1.2.2.2.2.2.2.2.1 c.1.2.2.2.2.2.2.2.2.1 c.1.2.2.2.2.2.2.2.2.2.1 c.2.1 c.2.2.1 c.2.2.2.1 c.2.2.2.2.1) N)
noncomputable def ix:LI:=⟨87,0,[],⟨[(6,.lit (.box 0 0)),(7,.lit (.box 1 0)),(9,.lit (.box 2 0)),(11,.lit (.box 3 0)),(12,.ty (.int .i64)),(41,.ty (.sl qz2)),(42,.ty (.int .i64)),(43,.ty (.int .i64)),(54,.ty (.sl qz2)),(55,.ty (.int .i64)),(56,.ty (.int .i64))],[.box 31 qz0,.box 65 qz1,.box 31 qz0,.box 65 qz1]⟩,[(.exit 2,⟨[(6,.lit (.box 0 0)),(7,.lit (.box 1 0)),(9,.lit (.box 2 0)),(11,.lit (.box 3 0)),(12,.ty (.int .i64)),(41,.ty (.sl qz2)),(42,.ty (.int .i64)),(43,.ty (.int .i64))],[.box 31 qz0,.box 65 qz1,.box 31 qz0,.box 65 qz1]⟩)]⟩
noncomputable def bS (X:(pz32×pz17)→Option ((pz13×pz17)))(n12:Int)(x41:List pz4)(x42:Int)(x43:Int)(x54:List pz4)(x55:Int)(x56:Int)(h0:List UInt8×pz0)(h1:List UInt8×pz1)(h2:List UInt8×pz0)(h3:List UInt8×pz1):Option ((pz13×pz17)):=
 bif (decide (x56<x55)) then
  Dp (getI x54 x56) fun (v13:pz4)=>
  Dp (cg N h2 v13) fun v14=>
  Dp (iv N (((ne .i64 (n12+1)),(x41,(x42,(x43,(x54,(x55,(x56,(v14.2,((((DT v14.2):Nat):Int),((0:Int),())))))))))),(h0,(h1,(v14.1,(h3,())))))) fun v15=>
  (X ((v15.1.1,(v15.1.2.1,(v15.1.2.2.1,(v15.1.2.2.2.1,(v15.1.2.2.2.2.1,(v15.1.2.2.2.2.2.1,((ne .i64 (v15.1.2.2.2.2.2.2.1+1)),()))))))),(v15.2.1,(v15.2.2.1,(v15.2.2.2.1,(v15.2.2.2.2.1,()))))))
 else
  some (((n12,(x41,(x42,(x43,())))),(h0,(h1,(h2,(h3,()))))))
noncomputable def cJ (c:(pz32×pz17)):Option ((pz13×pz17)):=gl (fun X c=>bS N X c.1.1 c.1.2.1 c.1.2.2.1 c.1.2.2.2.1 c.1.2.2.2.2.1 c.1.2.2.2.2.2.1 c.1.2.2.2.2.2.2.1 c.2.1 c.2.2.1 c.2.2.2.1 c.2.2.2.2.1) N c
theorem su (X:(pz32×pz17)→Option ((pz13×pz17)))(n12:Int)(x41:List pz4)(x42:Int)(x43:Int)(x54:List pz4)(x55:Int)(x56:Int)(h0:List UInt8×pz0)(h1:List UInt8×pz1)(h2:List UInt8×pz0)(h3:List UInt8×pz1):(am Dt (amY N) 400 [24] ix (ak Dt [24] 10) X ((n12,x41,x42,x43,x54,x55,x56,()),(h0,h1,h2,h3,()))).run=bS N X n12 x41 x42 x43 x54 x55 x56 h0 h1 h2 h3:=by kernel_rfl
noncomputable def amX:(R:Type)→Env R:=Env.addLp (amY N) [24] 0 10 (fun R=>lpK Dt ix (fun X c=>bS N X c.1.1 c.1.2.1 c.1.2.2.1 c.1.2.2.2.1 c.1.2.2.2.2.1 c.1.2.2.2.2.2.1 c.1.2.2.2.2.2.2.1 c.2.1 c.2.2.1 c.2.2.2.1 c.2.2.2.2.1) N)
theorem aat (R:Type):EnvOK Dt (amX N R):=EnvOK.addLp (aau N R) (by kernel_rfl) (aq (li:=ix) hmx (aau N _) (by kernel_rfl) ab (fun X c=>su N X c.1.1 c.1.2.1 c.1.2.2.1 c.1.2.2.2.1 c.1.2.2.2.2.1 c.1.2.2.2.2.2.1 c.1.2.2.2.2.2.2.1 c.2.1 c.2.2.1 c.2.2.2.1 c.2.2.2.2.1) N)
noncomputable def jC:LI:=⟨87,0,[],⟨[(6,.lit (.box 0 0)),(7,.lit (.box 1 0)),(9,.lit (.box 2 0)),(11,.lit (.box 3 0)),(12,.ty (.int .i64)),(41,.ty (.sl qz2)),(42,.ty (.int .i64)),(43,.ty (.int .i64))],[.box 31 qz0,.box 65 qz1,.box 31 qz0,.box 65 qz1]⟩,[(.exit 0,⟨[(6,.lit (.box 0 0)),(7,.lit (.box 1 0)),(9,.lit (.box 2 0)),(11,.lit (.box 3 0)),(12,.ty (.int .i64))],[.box 31 qz0,.box 65 qz1,.box 31 qz0,.box 65 qz1]⟩)]⟩
noncomputable def dL (X:(pz13×pz17)→Option (((Int×Unit)×pz17)))(n12:Int)(x41:List pz4)(x42:Int)(x43:Int)(h0:List UInt8×pz0)(h1:List UInt8×pz1)(h2:List UInt8×pz0)(h3:List UInt8×pz1):Option (((Int×Unit)×pz17)):=
 bif (decide (x43<x42)) then
  Dp (getI x41 x43) fun (v10:pz4)=>
  Dp (aB N h3 v10) fun v11=>
  Dp (cJ N ((n12,(x41,(x42,(x43,(v11.2,((((DT v11.2):Nat):Int),((0:Int),()))))))),(h0,(h1,(h2,(v11.1,())))))) fun v12=>
  (X ((v12.1.1,(v12.1.2.1,(v12.1.2.2.1,((ne .i64 (v12.1.2.2.2.1+1)),())))),(v12.2.1,(v12.2.2.1,(v12.2.2.2.1,(v12.2.2.2.2.1,()))))))
 else
  some (((n12,()),(h0,(h1,(h2,(h3,()))))))
noncomputable def fR (c:(pz13×pz17)):Option (((Int×Unit)×pz17)):=gl (fun X c=>dL N X c.1.1 c.1.2.1 c.1.2.2.1 c.1.2.2.2.1 c.2.1 c.2.2.1 c.2.2.2.1 c.2.2.2.2.1) N c
theorem uk (X:(pz13×pz17)→Option (((Int×Unit)×pz17)))(n12:Int)(x41:List pz4)(x42:Int)(x43:Int)(h0:List UInt8×pz0)(h1:List UInt8×pz1)(h2:List UInt8×pz0)(h3:List UInt8×pz1):(am Dt (amX N) 400 [24] jC (ak Dt [24] 5) X ((n12,x41,x42,x43,()),(h0,h1,h2,h3,()))).run=dL N X n12 x41 x42 x43 h0 h1 h2 h3:=by kernel_rfl
noncomputable def amW:(R:Type)→Env R:=Env.addLp (amX N) [24] 0 5 (fun R=>lpK Dt jC (fun X c=>dL N X c.1.1 c.1.2.1 c.1.2.2.1 c.1.2.2.2.1 c.2.1 c.2.2.1 c.2.2.2.1 c.2.2.2.2.1) N)
theorem aas (R:Type):EnvOK Dt (amW N R):=EnvOK.addLp (aat N R) (by kernel_rfl) (aq (li:=jC) hmx (aat N _) (by kernel_rfl) ab (fun X c=>uk N X c.1.1 c.1.2.1 c.1.2.2.1 c.1.2.2.2.1 c.2.1 c.2.2.1 c.2.2.2.1 c.2.2.2.2.1) N)
noncomputable def dn (name0:List UInt8)(passwords1:Arr (List UInt8) 2)(chal2:Arr (Arr Int 16) 2):Option ((List UInt8×pz0)×(List UInt8×pz1)×Int):=
 Dp (getI passwords1.l (0:Int)) fun (v4:(List UInt8))=>
 Dp (getI chal2.l (0:Int)) fun (v5:(Arr Int 16))=>
 Dp (dp N ((DN (DO ([115,101,114,118,101,114]:List UInt8))),((([]:List (pz6))++([(name0,v4)]:List (pz6))),((0:Int),((0:Int),(zc16,((0:Int),((0:Int),(([]:List Int),((0:Int),((DN (DO ([]:List UInt8))),zc32)))))))))) v5) fun v6=>
 Dp (getI passwords1.l (1:Int)) fun (v7:(List UInt8))=>
 Dp (getI chal2.l (1:Int)) fun (v8:(Arr Int 16))=>
 Dp (fR N (((0:Int),(v6.2,((((DT v6.2):Nat):Int),((0:Int),())))),(((DN (DO ([]:List UInt8))),(([]:List (pz6)),((0:Int),((0:Int),(zc16,((0:Int),((0:Int),(([]:List Int),((0:Int),((DN (DO ([]:List UInt8))),zc32)))))))))),(((DN (DO ([]:List UInt8))),((DN (DO ([]:List UInt8))),(zc16,((0:Int),((0:Int),((DN (DO ([]:List UInt8))),(zc32,(0:Int)))))))),(v6.1,((name0,(v7,(v8,((0:Int),((0:Int),((DN (DO ([]:List UInt8))),(zc32,(0:Int)))))))),())))))) fun v9=>
 some ((v9.2.2.2.1,(v9.2.2.2.2.1,v9.1.1)))
theorem Ai (name0:List UInt8)(passwords1:Arr (List UInt8) 2)(chal2:Arr (Arr Int 16) 2):(runK Dt (amW N) 400 24 [.str,(.arr 2 .str),(.arr 2 (.arr 16 (.int .u8)))] [qz0,qz1,(.int .i64)] (name0,passwords1,chal2,())).run=dn N name0 passwords1 chal2:=by kernel_rfl
noncomputable def aq2:(R:Type)→Env R:=Env.addFn (amW N) 24 (fun R=>fnK [.str,(.arr 2 .str),(.arr 2 (.arr 16 (.int .u8)))] [qz0,qz1,(.int .i64)] (fun c=>dn N c.1 c.2.1 c.2.2.1))
theorem ajH (R:Type):EnvOK Dt (aq2 N R):=DX hmx (aas N R) (aas N _) (by kernel_rfl) (fun c=>Ai N c.1 c.2.1 c.2.2.1)
noncomputable def amV:(R:Type)→Env R:=Env.addBx (aq2 N) [(19,0)]
theorem aar (R:Type):EnvOK Dt (amV N R):=D7 (ajH N R) [(19,0)]
noncomputable def lP (N:Nat)(x0:List UInt8×pz0):Option Int:=
 some (x0.2.2.1)
theorem pI (x0:List UInt8×pz0):(runK Dt (amV N) 400 19 [qz0] [(.int .i64)] (x0,())).run=lP N x0:=by kernel_rfl
noncomputable def aq1:(R:Type)→Env R:=Env.addFn (amV N) 19 (fun R=>fnK [qz0] [(.int .i64)] (fun c=>lP N c.1))
theorem ajG (R:Type):EnvOK Dt (aq1 N R):=DX hmx (aar N R) (aar N _) (by kernel_rfl) (fun c=>pI N c.1)
noncomputable def amU:(R:Type)→Env R:=Env.addBx (aq1 N) [(25,0)]
theorem aaq (R:Type):EnvOK Dt (amU N R):=D7 (ajG N R) [(25,0)]
noncomputable def j9 (N:Nat)(x0:List UInt8×pz1):Option Int:=
 some (x0.2.2.2.1)
theorem oU (x0:List UInt8×pz1):(runK Dt (amU N) 400 25 [qz1] [(.int .i64)] (x0,())).run=j9 N x0:=by kernel_rfl
noncomputable def aq0:(R:Type)→Env R:=Env.addFn (amU N) 25 (fun R=>fnK [qz1] [(.int .i64)] (fun c=>j9 N c.1))
theorem ajF (R:Type):EnvOK Dt (aq0 N R):=DX hmx (aaq N R) (aaq N _) (by kernel_rfl) (fun c=>oU N c.1)
noncomputable def amT:(R:Type)→Env R:=Env.addBx (aq0 N) [(21,0)]
theorem aap (R:Type):EnvOK Dt (amT N R):=D7 (ajF N R) [(21,0)]
noncomputable def oe (N:Nat)(x0:List UInt8×pz0):Option (Arr Int 32):=
 some (x0.2.2.2.2.2.2.2.2.2.2)
theorem rF (x0:List UInt8×pz0):(runK Dt (amT N) 400 21 [qz0] [(.arr 32 (.int .u8))] (x0,())).run=oe N x0:=by kernel_rfl
noncomputable def aqZ:(R:Type)→Env R:=Env.addFn (amT N) 21 (fun R=>fnK [qz0] [(.arr 32 (.int .u8))] (fun c=>oe N c.1))
theorem ajE (R:Type):EnvOK Dt (aqZ N R):=DX hmx (aap N R) (aap N _) (by kernel_rfl) (fun c=>rF N c.1)
noncomputable def amS:(R:Type)→Env R:=Env.addBx (aqZ N) [(26,0)]
theorem aao (R:Type):EnvOK Dt (amS N R):=D7 (ajE N R) [(26,0)]
noncomputable def bf (N:Nat)(x0:List UInt8×pz1):Option (Arr Int 32):=
 bif (!(decide (x0.2.2.2.1=(2:Int)))) then
  some (zc32)
 else
  some (x0.2.2.2.2.2.2.1)
theorem qH (x0:List UInt8×pz1):(runK Dt (amS N) 400 26 [qz1] [(.arr 32 (.int .u8))] (x0,())).run=bf N x0:=by kernel_rfl
noncomputable def aqY:(R:Type)→Env R:=Env.addFn (amS N) 26 (fun R=>fnK [qz1] [(.arr 32 (.int .u8))] (fun c=>bf N c.1))
theorem ajD (R:Type):EnvOK Dt (aqY N R):=DX hmx (aao N R) (aao N _) (by kernel_rfl) (fun c=>qH N c.1)
noncomputable def amR:(R:Type)→Env R:=Env.addBx (aqY N) [(47,0)]
theorem aan (R:Type):EnvOK Dt (amR N R):=D7 (ajD N R) [(47,0)]
noncomputable def ka (N:Nat)(x0:List UInt8×pz1):Option (List UInt8):=
 some (x0.2.2.2.2.2.1)
theorem oV (x0:List UInt8×pz1):(runK Dt (amR N) 400 47 [qz1] [.str] (x0,())).run=ka N x0:=by kernel_rfl
noncomputable def amQ:(R:Type)→Env R:=Env.addFn (amR N) 47 (fun R=>fnK [qz1] [.str] (fun c=>ka N c.1))
theorem aam (R:Type):EnvOK Dt (amQ N R):=DX hmx (aan N R) (aan N _) (by kernel_rfl) (fun c=>oV N c.1)
noncomputable def ca:Option Bool:=
 Dp (dn N (DN (DO ([117]:List UInt8))) (@Ds (List UInt8) (1:Nat) (DN (DO ([112]:List UInt8))) (@Ds (List UInt8) (0:Nat) (DN (DO ([112]:List UInt8))) (@Arr.nil (List UInt8)))) (@Ds (Arr Int 16) (1:Nat) (@Ds Int 15 1 zc15) (@Ds (Arr Int 16) (0:Nat) (@Ds Int 15 2 zc15) (@Arr.nil (Arr Int 16))))) fun v1=>
 bif (decide (v1.1.2.2.1=(2:Int))) then
  bif (cond true (decide (v1.2.1.2.2.2.1=(2:Int))) false) then
   bif (cond true (decide (v1.2.2=(1:Int))) false) then
    Dp (bf N v1.2.1) fun v2=>
    bif ((@wfB (@D8 (32:Nat) (@D9 @DD)) v1.1.2.2.2.2.2.2.2.2.2.2)&&(@wfB (@D8 (32:Nat) (@D9 @DD)) v2)) then
     bif (cond true (@DV (@Eq (Arr Int 32) v1.1.2.2.2.2.2.2.2.2.2.2 v2) (@decT (@D8 (32:Nat) (@D9 @DD)) v1.1.2.2.2.2.2.2.2.2.2.2 v2)) false) then
      Dp (bf N v1.2.1) fun v3=>
      bif ((@wfB (@D8 (32:Nat) (@D9 @DD)) v3)&&(@wfB (@D8 (32:Nat) (@D9 @DD)) zc32)) then
       bif (cond true (!(@DV (@Eq (Arr Int 32) v3 zc32) (@decT (@D8 (32:Nat) (@D9 @DD)) v3 zc32))) false) then
        some ((cond true (decide ((((DT v1.2.1.2.2.2.2.2.1):Nat):Int)=(42:Int))) false))
       else
        some (false)
      else
       none
     else
      some (false)
    else
     none
   else
    some (false)
  else
   some (false)
 else
  some (false)
theorem ya:(runK Dt (amQ N) 400 23 [] [.bool] ()).run=ca N:=by kernel_rfl
noncomputable def aqX:(R:Type)→Env R:=Env.addFn (amQ N) 23 (fun R=>fnK [] [.bool] (fun c=>ca N ))
theorem ajC (R:Type):EnvOK Dt (aqX N R):=DX hmx (aam N R) (aam N _) (by kernel_rfl) (fun c=>ya N )
noncomputable def aqW:(R:Type)→Env R:=Env.addBx (aqX N) [(4,0)]
theorem ajB (R:Type):EnvOK Dt (aqW N R):=D7 (ajC N R) [(4,0)]
noncomputable def amP:(R:Type)→Env R:=Env.addBx (aqW N) [(20,0)]
theorem aal (R:Type):EnvOK Dt (amP N R):=D7 (ajB N R) [(20,0)]
noncomputable def na (N:Nat)(x0:List UInt8×pz0):Option (List UInt8):=
 some (x0.2.2.2.2.2.2.2.2.2.1)
theorem qG (x0:List UInt8×pz0):(runK Dt (amP N) 400 20 [qz0] [.str] (x0,())).run=na N x0:=by kernel_rfl
noncomputable def aqV:(R:Type)→Env R:=Env.addFn (amP N) 20 (fun R=>fnK [qz0] [.str] (fun c=>na N c.1))
theorem ajA (R:Type):EnvOK Dt (aqV N R):=DX hmx (aal N R) (aal N _) (by kernel_rfl) (fun c=>qG N c.1)
noncomputable def amO:(R:Type)→Env R:=Env.addBx (aqV N) [(27,0)]
theorem aak (R:Type):EnvOK Dt (amO N R):=D7 (ajA N R) [(27,0)]
noncomputable def lQ (N:Nat)(x0:List UInt8×pz1):Option Int:=
 some (x0.2.2.2.2.2.2.2)
theorem pM (x0:List UInt8×pz1):(runK Dt (amO N) 400 27 [qz1] [(.int .i64)] (x0,())).run=lQ N x0:=by kernel_rfl
noncomputable def aqU:(R:Type)→Env R:=Env.addFn (amO N) 27 (fun R=>fnK [qz1] [(.int .i64)] (fun c=>lQ N c.1))
theorem ajz (R:Type):EnvOK Dt (aqU N R):=DX hmx (aak N R) (aak N _) (by kernel_rfl) (fun c=>pM N c.1)
noncomputable def fS (name0:List UInt8)(passwords1:Arr (List UInt8) 2)(chal2:Arr (Arr Int 16) 2):Option Bool:=
 bif (decide ((200:Int)<(((DT name0):Nat):Int))) then
  Dp (@ca N) fun (v4:Bool)=>
  some (v4)
 else
  Dp (getI passwords1.l (0:Int)) fun (v4:(List UInt8))=>
  Dp (some ((cond false true (decide ((300:Int)<(((DT v4):Nat):Int)))))) fun (v5:Bool)=>
  bif v5 then
   Dp (@ca N) fun (v6:Bool)=>
   some (v6)
  else
   Dp (getI passwords1.l (1:Int)) fun (v6:(List UInt8))=>
   Dp (some ((cond false true (decide ((300:Int)<(((DT v6):Nat):Int)))))) fun (v7:Bool)=>
   bif v7 then
    Dp (@ca N) fun (v8:Bool)=>
    some (v8)
   else
    Dp (getI chal2.l (1:Int)) fun (v8:(Arr Int 16))=>
    Dp (getI chal2.l (0:Int)) fun (v9:(Arr Int 16))=>
    Dp (getI passwords1.l (0:Int)) fun (v10:(List UInt8))=>
    Dp (cx N v8 v9 name0 v10) fun v11=>
    Dp (getI chal2.l (1:Int)) fun (v12:(Arr Int 16))=>
    Dp (getI chal2.l (0:Int)) fun (v13:(Arr Int 16))=>
    Dp (getI passwords1.l (1:Int)) fun (v14:(List UInt8))=>
    Dp (cx N v12 v13 name0 v14) fun v15=>
    Dp (dn N name0 passwords1 chal2) fun v16=>
    bif (!(decide (v15.2=(0:Int)))) then
     bif (decide (v16.2.2=(0:Int))) then
      Dp (some ((cond true (decide (v16.1.2.2.1=(1:Int))) false))) fun (v17:Bool)=>
      bif v17 then
       Dp (some ((cond true (decide (v16.2.1.2.2.2.1=(0:Int))) false))) fun (v18:Bool)=>
       bif v18 then
        Dp (@ca N) fun (v19:Bool)=>
        some ((cond true v19 false))
       else
        some (false)
      else
       some (false)
     else
      some (false)
    else
     Dp (bif (decide (v11.2=(0:Int))) then
       Dp (getI passwords1.l (0:Int)) fun (v17:(List UInt8))=>
       Dp (getI passwords1.l (1:Int)) fun (v18:(List UInt8))=>
       some ((cond true (decide (v17=v18)) false))
      else
       some (false)) fun (v17:Bool)=>
     bif v17 then
      bif (decide (v16.1.2.2.1=(2:Int))) then
       bif (cond true (decide (v16.2.1.2.2.2.1=(2:Int))) false) then
        Dp (bf N v16.2.1) fun v18=>
        bif ((@wfB (@D8 (32:Nat) (@D9 @DD)) v16.1.2.2.2.2.2.2.2.2.2.2)&&(@wfB (@D8 (32:Nat) (@D9 @DD)) v18)) then
         bif (cond true (@DV (@Eq (Arr Int 32) v16.1.2.2.2.2.2.2.2.2.2.2 v18) (@decT (@D8 (32:Nat) (@D9 @DD)) v16.1.2.2.2.2.2.2.2.2.2.2 v18)) false) then
          bif (cond true (decide (v16.1.2.2.2.2.2.2.2.2.2.1=name0)) false) then
           Dp (@ca N) fun (v19:Bool)=>
           some ((cond true v19 false))
          else
           some (false)
         else
          some (false)
        else
         none
       else
        some (false)
      else
       some (false)
     else
      Dp (bif (decide (v11.2=(0:Int))) then
        bif ((@wfB (@D8 (24:Nat) (@D9 @DD)) v11.1)&&(@wfB (@D8 (24:Nat) (@D9 @DD)) v15.1)) then
         some ((cond true (@DV (@Eq (Arr Int 24) v11.1 v15.1) (@decT (@D8 (24:Nat) (@D9 @DD)) v11.1 v15.1)) false))
        else
         none
       else
        some (false)) fun (v18:Bool)=>
      bif v18 then
       bif (decide (v16.1.2.2.1=(2:Int))) then
        Dp (@ca N) fun (v19:Bool)=>
        some ((cond true v19 false))
       else
        some (false)
      else
       bif (decide (v16.1.2.2.1=(3:Int))) then
        Dp (some ((cond true (decide (v16.2.1.2.2.2.1=(3:Int))) false))) fun (v19:Bool)=>
        bif v19 then
         Dp (some ((cond true (decide (v16.2.1.2.2.2.2.2.2.2=(691:Int))) false))) fun (v20:Bool)=>
         bif v20 then
          Dp (bif ((@wfB (@D8 (32:Nat) (@D9 @DD)) v16.1.2.2.2.2.2.2.2.2.2.2)&&(@wfB (@D8 (32:Nat) (@D9 @DD)) zc32)) then
            some ((cond true (@DV (@Eq (Arr Int 32) v16.1.2.2.2.2.2.2.2.2.2.2 zc32) (@decT (@D8 (32:Nat) (@D9 @DD)) v16.1.2.2.2.2.2.2.2.2.2.2 zc32)) false))
           else
            none) fun (v21:Bool)=>
          bif v21 then
           Dp (bf N v16.2.1) fun v22=>
           Dp (bif ((@wfB (@D8 (32:Nat) (@D9 @DD)) v22)&&(@wfB (@D8 (32:Nat) (@D9 @DD)) zc32)) then
             some ((cond true (@DV (@Eq (Arr Int 32) v22 zc32) (@decT (@D8 (32:Nat) (@D9 @DD)) v22 zc32)) false))
            else
             none) fun (v23:Bool)=>
           bif v23 then
            Dp (@ca N) fun (v24:Bool)=>
            some ((cond true v24 false))
           else
            some (false)
          else
           some (false)
         else
          some (false)
        else
         some (false)
       else
        some (false)
theorem rp (name0:List UInt8)(passwords1:Arr (List UInt8) 2)(chal2:Arr (Arr Int 16) 2):(runK Dt (aqU N) 400 4 [.str,(.arr 2 .str),(.arr 2 (.arr 16 (.int .u8)))] [.bool] (name0,passwords1,chal2,())).run=fS N name0 passwords1 chal2:=by kernel_rfl
theorem rq (name0:List UInt8)(passwords1:Arr (List UInt8) 2)(chal2:Arr (Arr Int 16) 2)(y:Bool)(h:fS N name0 passwords1 chal2=some y):kf Dt 4 (valA [.str,(.arr 2 .str),(.arr 2 (.arr 16 (.int .u8)))] (name0,passwords1,chal2,())) (tupV (valR [.bool] y)):=Bd hmx (ajz N _) (ri (by kernel_rfl)) (by rw [rp];exact h)
end
end Go.Proofs.YtllpjoggnfclgaaGreatDoor
namespace Go.Proofs.YtllpjoggnfclgaaGreatDoor
set_option maxRecDepth 100000
open Go.RowKit
set_option linter.unusedVariables false
set_option linter.unusedSimpArgs false
set_option maxRecDepth 100000
theorem afK {A B:Type}(G:(A→Option B)→A→Option B)(c0 c1:A)(r:B)(h0:∀ X,G X c0=X c1)(h1:∀ X,G X c1=some r):gl G 200000 c0=some r:=by
  show gl G (199998+1+1) c0=_
  rw [ah,h0,ah,h1]
theorem al3 {A B:Type}(G:(A→Option B)→A→Option B)(c0:A)(r:B)(h0:∀ X,G X c0=some r):gl G 200000 c0=some r:=by
  show gl G (199999+1) c0=_
  rw [ah,h0]
theorem L16 (n:Int)(x41:List Ct)(x42 x43:Int)(x54:List Ct)(x55 x56:Int)(p:Ct)(h0:As)(h1:Pv)(x:As)(y y':Pv)(hy:aB 200000 y p=some (y',[])):
    iv 200000 ((n,(x41,(x42,(x43,(x54,(x55,(x56,([p],(((([p]:List Ct).length:Nat):Int),((0:Int),())))))))))),(h0,(h1,(x,(y,())))))=some ((n,(x41,(x42,(x43,(x54,(x55,(x56,()))))))),(h0,(h1,(x,(y',()))))):=by
  unfold iv
  refine afK _ _ ((n,(x41,(x42,(x43,(x54,(x55,(x56,([p],(((([p]:List Ct).length:Nat):Int),((ne .i64 ((0:Int)+1)),())))))))))),(h0,(h1,(x,(y',()))))) _ (fun X=> ?_) (fun X=> ?_)
  · show cV 200000 X n x41 x42 x43 x54 x55 x56 [p] _ 0 h0 h1 x y=_
    unfold cV
    exact (bpos (by show (0:Int)<1;omega)).trans ((bnd (v:=p) rfl).trans ((bnd hy).trans rfl))
  · show cV 200000 X n x41 x42 x43 x54 x55 x56 [p] _ _ h0 h1 x y'=_
    unfold cV
    exact (bneg (by show ¬ (1:Int)<1;omega)).trans rfl
theorem aqR (n:Int)(x41:List Ct)(x42 x43:Int)(h0:As)(h1:Pv)(x:As)(y:Pv):
    cJ 200000 ((n,(x41,(x42,(x43,([],(((([]:List Ct).length:Nat):Int),((0:Int),()))))))),(h0,(h1,(x,(y,())))))=some ((n,(x41,(x42,(x43,())))),(h0,(h1,(x,(y,()))))):=by
  unfold cJ
  refine al3 _ _ _ (fun X=> ?_)
  show bS 200000 X n x41 x42 x43 [] _ 0 h0 h1 x y=_
  unfold bS
  exact (bneg (by show ¬ (0:Int)<0;omega)).trans rfl
theorem amF (n:Int)(x41:List Ct)(x42 x43:Int)(d p:Ct)(h0:As)(h1:Pv)(x x':As)(y y':Pv)(hx:cg 200000 x d=some (x',[p]))(hy:aB 200000 y p=some (y',[])):
    cJ 200000 ((n,(x41,(x42,(x43,([d],(((([d]:List Ct).length:Nat):Int),((0:Int),()))))))),(h0,(h1,(x,(y,())))))=some ((ne .i64 (n+1),(x41,(x42,(x43,())))),(h0,(h1,(x',(y',()))))):=by
  unfold cJ
  refine afK _ _ ((ne .i64 (n+1),(x41,(x42,(x43,([d],(((([d]:List Ct).length:Nat):Int),((ne .i64 ((0:Int)+1)),()))))))),(h0,(h1,(x',(y',()))))) _ (fun X=> ?_) (fun X=> ?_)
  · show bS 200000 X n x41 x42 x43 [d] _ 0 h0 h1 x y=_
    unfold bS
    exact (bpos (by show (0:Int)<1;omega)).trans ((bnd (v:=d) rfl).trans ((bnd hx).trans ((bnd (L16 _ x41 x42 x43 [d] _ _ p h0 h1 x' y y' hy)).trans rfl)))
  · show bS 200000 X _ x41 x42 x43 [d] _ _ h0 h1 x' y'=_
    unfold bS
    exact (bneg (by show ¬ (1:Int)<1;omega)).trans rfl
theorem akR (c:Ct)(h0:As)(h1:Pv)(x x':As)(y y1 y':Pv)(m:List Ct)(n n':Int)(hy:aB 200000 y c=some (y1,m))
    (hl:∀ (x41:List Ct) (x42 x43:Int),cJ 200000 ((n,(x41,(x42,(x43,(m,(((m.length:Nat):Int),((0:Int),()))))))),(h0,(h1,(x,(y1,())))))=some ((n',(x41,(x42,(x43,())))),(h0,(h1,(x',(y',())))))):
    fR 200000 ((n,([c],(((([c]:List Ct).length:Nat):Int),((0:Int),())))),(h0,(h1,(x,(y,())))))=some ((n',()),(h0,(h1,(x',(y',()))))):=by
  unfold fR
  refine afK _ _ ((n',([c],(((([c]:List Ct).length:Nat):Int),((ne .i64 ((0:Int)+1)),())))),(h0,(h1,(x',(y',()))))) _ (fun X=> ?_) (fun X=> ?_)
  · show dL 200000 X n [c] _ 0 h0 h1 x y=_
    unfold dL
    exact (bpos (by show (0:Int)<1;omega)).trans ((bnd (v:=c) rfl).trans ((bnd hy).trans ((bnd (hl [c] _ 0)).trans rfl)))
  · show dL 200000 X n' [c] _ _ h0 h1 x' y'=_
    unfold dL
    exact (bneg (by show ¬ (1:Int)<1;omega)).trans rfl
theorem apQ (u:Us)(a:Arr Int 16):dp 200000 (sV,([u],(0,(0,(⟨Dq 16 0,rfl⟩,(0,(0,([],(0,([],z32)))))))))) a=some (stU u a,[layK 1 1 a.l sV]):=by
  unfold dp
  refine (bvn rfl).trans ?_
  have hask:em 200000 (sV,([u],(1,(1,(a,(0,(0,([],(0,([],z32))))))))))=some (stU u a,[layK 1 1 a.l sV]):=by
    unfold em
    refine (bnd (aqj 1 1 a.l sV (by show 6≤1000;omega))).trans ?_
    rfl
  exact (bnd hask).trans rfl
def zA:As:=([],([],(0,(0,(⟨Dq 16 0,rfl⟩,(0,(0,([],(0,([],z32))))))))))
def zP:Pv:=([],([],(⟨Dq 16 0,rfl⟩,(0,(0,([],(z32,0)))))))
theorem ags (s w0 w1:List UInt8)(a peer:Arr Int 16)(pw:Arr (List UInt8) 2)(ch:Arr (Arr Int 16) 2)(p0:getI pw.l (0:Int)=some w0)(p1:getI pw.l (1:Int)=some w1)(c0:getI ch.l (0:Int)=some a)(c1:getI ch.l (1:Int)=some peer)(x':As)(y':Pv)(n':Int)
    (h:fR 200000 ((0,([layK 1 1 a.l sV],(((([layK 1 1 a.l sV]:List Ct).length:Nat):Int),((0:Int),())))),(zA,(zP,(stU (s,w0) a,(y0 s w1 peer,())))))=some ((n',()),(zA,(zP,(x',(y',())))))):
    dn 200000 s pw ch=some (x',(y',n')):=by
  unfold dn
  refine (bnd p0).trans ?_
  refine (bnd c0).trans ?_
  refine (bnd (apQ (s,w0) a)).trans ?_
  refine (bnd p1).trans ?_
  refine (bnd c1).trans ?_
  exact (bnd h).trans rfl
theorem amw (s w0 w1:List UInt8)(a peer:Arr Int 16)(pw:Arr (List UInt8) 2)(ch:Arr (Arr Int 16) 2)(p0:getI pw.l (0:Int)=some w0)(p1:getI pw.l (1:Int)=some w1)(c0:getI ch.l (0:Int)=some a)(c1:getI ch.l (1:Int)=some peer)(hy:aB 200000 (y0 s w1 peer) (layK 1 1 a.l sV)=some (y0 s w1 peer,[])):
    dn 200000 s pw ch=some (stU (s,w0) a,(y0 s w1 peer,0)):=
  ags s w0 w1 a peer pw ch p0 p1 c0 c1 _ _ _ (akR _ zA zP _ _ _ _ _ [] 0 0 hy (fun x41 x42 x43=>aqR 0 x41 x42 x43 _ _ _ _))
theorem aag (s w0 w1:List UInt8)(a peer:Arr Int 16)(pw:Arr (List UInt8) 2)(ch:Arr (Arr Int 16) 2)(p0:getI pw.l (0:Int)=some w0)(p1:getI pw.l (1:Int)=some w1)(c0:getI ch.l (0:Int)=some a)(c1:getI ch.l (1:Int)=some peer)(y1 y2:Pv)(x1:As)(d p:Ct)(hy:aB 200000 (y0 s w1 peer) (layK 1 1 a.l sV)=some (y1,[d]))(hx:cg 200000 (stU (s,w0) a) d=some (x1,[p]))(hz:aB 200000 y1 p=some (y2,[])):
    dn 200000 s pw ch=some (x1,(y2,1)):=
  ags s w0 w1 a peer pw ch p0 p1 c0 c1 _ _ _ (akR _ zA zP _ _ _ _ _ [d] 0 1 hy (fun x41 x42 x43=>amF 0 x41 x42 x43 d p _ _ _ _ _ _ hx hz))
theorem agr (s w0 w1:List UInt8)(a peer:Arr Int 16)(hs:s.length≤200)(hw0:w0.length≤300)(hw1:w1.length≤300)(ha:AllB a.l)(hp:AllB peer.l)(pw:Arr (List UInt8) 2)(ch:Arr (Arr Int 16) 2)(p0:getI pw.l (0:Int)=some w0)(p1:getI pw.l (1:Int)=some w1)(c0:getI ch.l (0:Int)=some a)(c1:getI ch.l (1:Int)=some peer):
    ∃ (D0 D1:Arr Int 16) (e f:Int) (W0 W1:Arr Int 24),cN 200000 w0=some (D0,e)∧cN 200000 w1=some (D1,f)∧AllB W0.l∧AllB W1.l∧cx 200000 peer a s w0=some (W0,e)∧cx 200000 peer a s w1=some (W1,f)∧
      ((f≠0∧dn 200000 s pw ch=some (stU (s,w0) a,(y0 s w1 peer,0)))∨
       (f=0∧∃ (C:Arr Int 8) (E1:Arr Int 20) (k1:Arr Int 32),AllB k1.l∧aQ 200000 peer a s=some C∧bB 200000 C D1=some W1∧cr 200000 D1 W1 C=some (sS++hexS E1.l)∧dP 200000 D1 W1 false=some k1∧
         ((e=0∧W1=W0∧∃ (k:Arr Int 32) (E:Arr Int 20),AllB k.l∧dP 200000 D0 W1 false=some k∧cr 200000 D0 W1 C=some (sS++hexS E.l)∧
            dn 200000 s pw ch=some (enU (s,w0) a 2 3 (ofB (msgS E)) s k,(yS s w1 peer (if sS++hexS E.l=sS++hexS E1.l then 2 else 3) 1 (sS++hexS E1.l) k1 0,1)))∨
          (¬ (e=0∧W1=W0)∧dn 200000 s pw ch=some (enU (s,w0) a 3 4 (ofB (layF (fU a))) [] z32,(yS s w1 peer 3 1 (sS++hexS E1.l) k1 691,1)))))):=by
  obtain ⟨D1,f,W1,d1,d2,d3,d4,d5⟩:=tS peer a s w1 hp ha (by omega) hw1
  obtain ⟨D0,e,W0,j0,j1,j2,jj⟩:=aqp (s,w0) a peer W1 (by show s.length≤300;omega) hw0 ha hp d3
  refine ⟨D0,D1,e,f,W0,W1,j0,d1,j1,d3,j2,d4, ?_⟩
  by_cases hf:f=0
  · subst hf
    obtain ⟨C,q1,q2,q3⟩:=d5 rfl
    obtain ⟨k1,k2,k3⟩:=C9 D1 W1 d2 d3
    obtain ⟨E1,e1,e2⟩:=aai D1 W1 C d2 d3 q1
    have hy:=apM s w1 peer a _ (ar1 s w1 peer a (by omega) ha D1 C W1 _ k1 d1 q2 q3 e2 (k3 false))
    refine .inr ⟨rfl,C,E1,k1,k2,q2,q3,e2,k3 false, ?_⟩
    rcases jj with ⟨he,hW,k,E,C',g1,g2,g3,g4,g5,g6⟩ | ⟨hno,g6⟩
    · have hC:C'=C:=Option.some.inj (g4.symm.trans q2)
      subst hC
      refine .inl ⟨he,hW,k,E,g1,g3 false,g5, ?_⟩
      exact aag s w0 w1 a peer pw ch p0 p1 c0 c1 _ _ _ _ _ hy (apN (s,w0) a _ _ _ g6) (ash s w1 peer _ k1 E g2)
    · refine .inr ⟨hno, ?_⟩
      exact aag s w0 w1 a peer pw ch p0 p1 c0 c1 _ _ _ _ _ hy (apN (s,w0) a _ _ _ g6) (asi s w1 peer _ k1 a ha)
  · exact .inl ⟨hf,amw s w0 w1 a peer pw ch p0 p1 c0 c1 (apM s w1 peer a _ (ar2 s w1 peer a ha D1 f hf d1))⟩
end Go.Proofs.YtllpjoggnfclgaaGreatDoor
