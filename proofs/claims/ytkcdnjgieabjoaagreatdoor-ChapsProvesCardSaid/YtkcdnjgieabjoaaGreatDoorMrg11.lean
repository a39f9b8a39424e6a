/-
  Parts of my own, one behind the other: QCU4, QCp1, QCp2, QCp3, QZ0, QZ1, QZ2, QZ3, QZ4, QZ5.
-/
import Derived.Test.YtkcdnjgieabjoaaGreatDoorMrg10
namespace Go.Proofs.YtkcdnjgieabjoaaGreatDoor
set_option maxRecDepth 100000
open Go.RowKit
set_option linter.unusedVariables false
set_option linter.unusedSimpArgs false
set_option maxRecDepth 100000
theorem ayM {l:List UInt8}(h:sgs l=some []):l=[]:=by
 by_cases hl:l=[]
 ·exact hl
 by_cases hw:(sg l).2=0
 ·rw [amE hl hw] at h;cases h
 ·rw [aoC hl hw,Option.map_eq_some_iff] at h
  obtain ⟨m,_,h⟩:=h
  cases h
theorem ayL {s:List UInt8}{p x:Nat}{l:List Nat}(h:sgs (s.drop p)=some (x::l)):p<s.length∧(sg (s.drop p)).1=x∧(sg (s.drop p)).2≠0∧p+(sg (s.drop p)).2≤s.length∧sgs (s.drop (p+(sg (s.drop p)).2))=some l:=by
 by_cases hl:s.drop p=[]
 ·rw [hl,apr] at h;cases h
 have hp:p<s.length:=by
  rcases Nat.lt_or_ge p s.length with h | h
  ·exact h
  ·exact absurd (List.drop_eq_nil_of_le h) hl
 by_cases hw:(sg (s.drop p)).2=0
 ·rw [amE hl hw] at h;cases h
 ·rw [aoC hl hw,Option.map_eq_some_iff] at h
  obtain ⟨m,h1,h⟩:=h
  injection h with h2 h3
  subst h3
  have:=aEP (s.drop p)
  rw [List.length_drop] at this
  rw [List.drop_drop] at h1
  exact ⟨hp,h2,hw,by omega,h1⟩
def un1 (n:Nat):List Int:=if n<65536 then [(n:Int)] else [((55296+(n-65536) / 1024:Nat):Int),((56320+(n-65536) % 1024:Nat):Int)]
def uns (l:List Nat):List Int:=l.flatMap un1
theorem ayq {n:Nat}(h:n≤1114111):(∀ x∈un1 n,0≤x∧x<65536)∧(un1 n).length≤2∧1≤(un1 n).length:=by
 unfold un1
 split
 ·refine ⟨fun x hx=> ?_,by simp,by simp⟩
  simp at hx;omega
 ·refine ⟨fun x hx=> ?_,by simp,by simp⟩
  simp at hx;omega
theorem ayp:∀ {l:List Nat},(∀ x∈l,x≤1114111)→(∀ x∈uns l,0≤x∧x<65536)∧(uns l).length≤2*l.length∧l.length≤(uns l).length
 | [],_=>by simp [uns]
 | n::l,h=>by
  obtain ⟨a1,a2,a3⟩:=ayq (h n List.mem_cons_self)
  obtain ⟨b1,b2,b3⟩:=ayp (l:=l) (fun x hx=>h x (List.mem_cons_of_mem _ hx))
  have e:uns (n::l)=un1 n++uns l:=rfl
  rw [e]
  refine ⟨fun x hx=> ?_, ?_, ?_⟩
  ·rcases List.mem_append.1 hx with hx | hx
   ·exact a1 x hx
   ·exact b1 x hx
  ·rw [List.length_append,List.length_cons];omega
  ·rw [List.length_append,List.length_cons];omega
theorem aE2 (a:Nat)(ha:a<2147483648):bits .and .i32 (a:Int) (1023:Int)=((a % 1024:Nat):Int):=by
 show IntKind.i32.wrap ((BitVec.ofInt 32 (a:Int)&&&BitVec.ofInt 32 1023).toNat:Int)=_
 have h1:(BitVec.ofInt 32 (a:Int)).toNat=a:=by rw [BitVec.ofInt_natCast,BitVec.toNat_ofNat];exact Nat.mod_eq_of_lt (by omega)
 have h2:(BitVec.ofInt 32 (1023:Int)).toNat=1023:=by decide
 rw [BitVec.toNat_and,h1,h2,Nat.and_two_pow_sub_one_eq_mod a 10,IntKind.wrap_i32]
 omega
section
variable {N:Nat}
theorem ao2 (s:List UInt8)(hs:s.length<1000000000):∀ (l:List Nat) (p n M:Nat),sgs (s.drop p)=some l→p≤s.length→l.length<M→n≤p→
  gl (fun X c=>aaw N X c.1.1 c.2.1 c.2.2.1) M (((n:Int),()),(s,((p:Int),())))=some ((((n+l.length:Nat):Int),()),())
 | [],p,n,M+1,h,hp,hM,hn=>by
  have h0:=ayM h
  have hl:¬ p<s.length:=by have:=congrArg List.length h0;rw [List.length_drop] at this;simp at this;omega
  rw [aae]
  simp only [aaw,Int.toNat_natCast,hl,decide_false,cond_false,List.length_nil,Nat.add_zero]
 | x::l,p,n,M+1,h,hp,hM,hn=>by
  obtain ⟨h1,h2,h3,h4,h5⟩:=ayL h
  rw [aae]
  have e1:IntKind.wrap .i64 ((n:Int)+1)=((n+1:Nat):Int):=by rw [aab (by omega) (by omega)];omega
  have e2:(p:Int)+((sg (s.drop p)).2:Int)=((p+(sg (s.drop p)).2:Nat):Int):=by omega
  simp only [aaw,Int.toNat_natCast,h1,decide_true,cond_true,ay4 s p h1,h3,if_false,e1,e2]
  refine (ao2 s hs l (p+(sg (s.drop p)).2) (n+1) M h5 h4 (by simpa using hM) (by omega)).trans ?_
  rw [List.length_cons,show n+1+l.length=n+(l.length+1) by omega]
theorem aoA (hN:10≤N)(s:List UInt8)(hs:s.length<1000000):∀ (M p:Nat) (acc:List Int),s.length-p<M→p≤s.length→acc.length≤p→
  gl (fun X c=>acI N X c.1.1 c.1.2.1 c.2.1) M ((s,((p:Int),())),(acc,()))=some (match sgs (s.drop p) with
   | some l=>.inr ((),(acc++l.map fun n=>((n:Nat):Int),()))
   | none=>.inl (([],(false,())),()))
 | 0,p,acc,h,_,_=>by omega
 | M+1,p,acc,h,hp,ha=>by
  rw [aae]
  by_cases hl:p<s.length
  ·have c1:(p:Int)<(s.length:Int):=by omega
   have hne:s.drop p≠[]:=fun h0=>by have:=congrArg List.length h0;rw [List.length_drop] at this;simp at this;omega
   have hle:=aEP (s.drop p)
   rw [List.length_drop] at hle
   simp only [acI,c1,decide_true,cond_true,aEO hN s p hl (by omega),Option.bind_some]
   by_cases hw:(sg (s.drop p)).2=0
   ·have hw':((sg (s.drop p)).2:Int)=0:=by omega
    rw [amE hne hw]
    simp only [hw',decide_true,cond_true]
   ·have hw':¬ ((sg (s.drop p)).2:Int)=0:=by omega
    have e1:IntKind.wrap .i64 ((p:Int)+((sg (s.drop p)).2:Int))=((p+(sg (s.drop p)).2:Nat):Int):=by rw [aab (by omega) (by omega)];omega
    have r1:aac (acc.length+[((sg (s.drop p)).1:Int)].length) 8=true:=aar (by have:=aax;simp;omega) (by simp;omega)
    have ih:=aoA hN s hs M (p+(sg (s.drop p)).2) (acc++[((sg (s.drop p)).1:Int)]) (by omega) (by omega) (by simp;omega)
    rw [aoC hne hw,List.drop_drop]
    simp only [hw',decide_false,cond_false,e1,r1,cond_true]
    refine ih.trans ?_
    cases sgs (s.drop (p+(sg (s.drop p)).2)) with
    | none=>rfl
    | some l=>simp
  ·have c1:¬ (p:Int)<(s.length:Int):=by omega
   rw [List.drop_eq_nil_of_le (by omega),apr]
   simp only [acI,c1,decide_false,cond_false,List.map_nil,List.append_nil]
theorem aC1 (s:List UInt8)(hs:s.length<1000000)(hN:s.length<N){l:List Nat}(h:sgs s=some l):aaL N s=some (l.length:Int):=by
 have hl:=(ahb s.length s l (Nat.le_refl _) h).2
 have:=ao2 (N:=N) s (by omega) l 0 0 N (by simpa using h) (Nat.zero_le _) (by omega) (Nat.le_refl _)
 have h1:abE N (((0:Int),()),(s,((0:Int),())))=some ((((0+l.length:Nat):Int),()),()):=this
 unfold aaL
 rw [h1,Option.bind_some]
 simp
theorem atT (s:List UInt8)(hs:s.length<1000000)(hN:s.length+10≤N):aeh N s=some (match sgs s with
  | some l=>(l.map fun n=>((n:Nat):Int),true)
  | none=>([],false)):=by
 have:=aoA (N:=N) (by omega) s hs N 0 [] (by omega) (Nat.zero_le _) (by simp)
 have h1:aio N ((s,((0:Int),())),(([]:List Int),()))=_:=this
 unfold aeh
 rw [h1,Option.bind_some,List.drop_zero]
 cases sgs s with
 | none=>rfl
 | some l=>simp
def mayN (s:List UInt8):Int:=match sgs s with
 | some l=>if 64<l.length then 8 else 0
 | none=>3
theorem aEi (s:List UInt8)(hs:s.length<1000000)(hN:s.length+10≤N):ag1 N s=some (mayN s):=by
 unfold ag1 ahG mayN
 rw [aB6 s (by omega)]
 cases h:sgs s with
 | none=>rfl
 | some l=>
  simp only [Option.bind_some,Option.isSome_some,Bool.not_true,cond_false,aC1 (N:=N) s hs (by omega) h]
  by_cases hl:64<l.length
  ·have hl':(64:Int)<(l.length:Int):=by omega
   simp only [hl',hl,decide_true,cond_true,if_true]
  ·have hl':¬ (64:Int)<(l.length:Int):=by omega
   simp only [hl',hl,decide_false,cond_false,if_false]
theorem ayY (s:List UInt8)(hs:s.length<1000000)(hN:s.length+10≤N):ahd N s=some (mayN s):=by
 unfold ahd mayN
 rw [atT s hs hN]
 cases h:sgs s with
 | none=>rfl
 | some l=>
  simp only [Option.bind_some,Bool.not_true,cond_false,List.length_map]
  by_cases hl:64<l.length
  ·have hl':(64:Int)<(l.length:Int):=by omega
   simp only [hl',hl,decide_true,cond_true,if_true]
  ·have hl':¬ (64:Int)<(l.length:Int):=by omega
   simp only [hl',hl,decide_false,cond_false,if_false]
theorem ajX {x:Int}(h1:0≤x)(h2:x<65536):IntKind.wrap .u16 x=x:=by
 rw [IntKind.wrap_u16];omega
theorem aym {x:Int}(h1: -2147483648≤x)(h2:x<2147483648):IntKind.wrap .i32 x=x:=by
 rw [IntKind.wrap_i32];omega
theorem aov (s:List UInt8)(hs:s.length<1000000):∀ (l:List Nat) (p M:Nat) (acc:List Int),sgs (s.drop p)=some l→p≤s.length→l.length<M→acc.length≤2*p→
  gl (fun X c=>acE N X c.2.1 c.2.2.1 c.2.2.2.1) M ((),(acc,(s,((p:Int),()))))=some ((),(acc++uns l,()))
 | [],p,M+1,acc,h,hp,hM,ha=>by
  have h0:=ayM h
  have hl:¬ p<s.length:=by have:=congrArg List.length h0;rw [List.length_drop] at this;simp at this;omega
  rw [aae]
  simp only [acE,Int.toNat_natCast,hl,decide_false,cond_false,uns,List.flatMap_nil,List.append_nil]
 | x::l,p,M+1,acc,h,hp,hM,ha=>by
  obtain ⟨h1,h2,h3,h4,h5⟩:=ayL h
  have hb:=atU (s.drop p)
  rw [h2] at hb
  rw [aae]
  have e2:(p:Int)+((sg (s.drop p)).2:Int)=((p+(sg (s.drop p)).2:Nat):Int):=by omega
  have hu:uns (x::l)=un1 x++uns l:=rfl
  obtain ⟨u1,u2,u3⟩:=ayq hb
  have ih:=aov s hs l (p+(sg (s.drop p)).2) M (acc++un1 x) h5 h4 (by simpa using hM) (by rw [List.length_append];omega)
  simp only [acE,Int.toNat_natCast,h1,decide_true,cond_true,ay4 s p h1,h3,if_false,e2,h2]
  rw [hu,←List.append_assoc]
  by_cases hx:x<65536
  ·have hx':(x:Int)<65536:=by omega
   have e3:IntKind.wrap .u16 (x:Int)=x:=ajX (by omega) (by omega)
   have r1:aac (acc.length+[(x:Int)].length) 2=true:=aar (by have:=aax;simp;omega) (by simp;omega)
   have eu:un1 x=[(x:Int)]:=by simp [un1,hx]
   simp only [hx',decide_true,cond_true,e3,r1]
   rw [eu] at ih ⊢
   exact ih
  ·have hx':¬ (x:Int)<65536:=by omega
   have e3:IntKind.wrap .i32 ((x:Int)-65536)=((x-65536:Nat):Int):=by rw [aym (by omega) (by omega)];omega
   have e4:(2:Int) ^ min (Int.toNat 10) (IntKind.bits IntKind.i32)=1024:=by decide
   have e5:Int.fdiv ((x-65536:Nat):Int) 1024=(((x-65536) / 1024:Nat):Int):=by rw [Int.fdiv_eq_ediv_of_nonneg _ (by decide)];omega
   have e6:IntKind.wrap .i32 (55296+(((x-65536) / 1024:Nat):Int))=((55296+(x-65536) / 1024:Nat):Int):=by rw [aym (by omega) (by omega)];omega
   have e7:IntKind.wrap .u16 ((55296+(x-65536) / 1024:Nat):Int)=((55296+(x-65536) / 1024:Nat):Int):=ajX (by omega) (by omega)
   have e8:bits .and .i32 ((x-65536:Nat):Int) (1023:Int)=(((x-65536) % 1024:Nat):Int):=aE2 _ (by omega)
   have e9:IntKind.wrap .i32 (56320+(((x-65536) % 1024:Nat):Int))=((56320+(x-65536) % 1024:Nat):Int):=by rw [aym (by omega) (by omega)];omega
   have e10:IntKind.wrap .u16 ((56320+(x-65536) % 1024:Nat):Int)=((56320+(x-65536) % 1024:Nat):Int):=ajX (by omega) (by omega)
   have eu:un1 x=[((55296+(x-65536) / 1024:Nat):Int),((56320+(x-65536) % 1024:Nat):Int)]:=by simp [un1,hx]
   have r1:aac (acc.length+[((55296+(x-65536) / 1024:Nat):Int),((56320+(x-65536) % 1024:Nat):Int)].length) 2=true:=aar (by have:=aax;simp;omega) (by simp;omega)
   simp only [hx',decide_false,cond_false,e3,e4,e5,e6,e7,e8,e9,e10,r1,cond_true]
   rw [eu] at ih ⊢
   exact ih
theorem aB9 (s:List UInt8)(hs:s.length<1000000)(hN:s.length+10≤N):afs N s=some (match sgs s with | some l=>if 64<l.length then [] else uns l | none=>[]):=by
 unfold afs
 rw [aEi s hs hN]
 unfold mayN
 cases h:sgs s with
 | none=>rfl
 | some l=>
  have hl:=(ahb s.length s l (Nat.le_refl _) h).2
  by_cases h64:64<l.length
  ·simp only [h64,if_true];rfl
  ·simp only [h64,if_false,Option.bind_some]
   have:=aov (N:=N) s hs l 0 N [] (by simpa using h) (Nat.zero_le _) (by omega) (by simp)
   have h1:aij N ((),(([]:List Int),(s,((0:Int),()))))=some ((),([]++uns l,())):=this
   simp only [h1,decide_true,Bool.not_true,cond_false,Option.bind_some,List.nil_append]
theorem amI (l:List Nat)(hl:l.length<1000000)(hx:∀ x∈l,x≤1114111):∀ (k i M:Nat) (acc:List Int),k+i=l.length→k<M→acc.length≤2*i→
  gl (fun X c=>acH N X c.1.1 c.1.2.1 c.2.1) M (((l.map fun n=>((n:Nat):Int)),((i:Int),())),(acc,()))=some ((),(acc++uns (l.drop i),()))
 | 0,i,M+1,acc,hk,hM,ha=>by
  have c1:¬ (i:Int)<((l.map fun n=>((n:Nat):Int)).length:Int):=by rw [List.length_map];omega
  rw [aae,List.drop_eq_nil_of_le (by omega)]
  simp only [acH,c1,decide_false,cond_false,uns,List.flatMap_nil,List.append_nil]
 | k+1,i,M+1,acc,hk,hM,ha=>by
  have hi:i<l.length:=by omega
  have c1:(i:Int)<((l.map fun n=>((n:Nat):Int)).length:Int):=by rw [List.length_map];omega
  obtain ⟨x,hxe⟩:∃ x,x=l[i]:=⟨_,rfl⟩
  have hb:x≤1114111:=by rw [hxe];exact hx _ (List.getElem_mem hi)
  have g1:getI (l.map fun n=>((n:Nat):Int)) (i:Int)=some (x:Int):=by rw [akJ,List.getElem?_map,List.getElem?_eq_getElem hi,hxe];rfl
  have e1:IntKind.wrap .i64 ((i:Int)+1)=((i+1:Nat):Int):=by rw [aab (by omega) (by omega)];omega
  obtain ⟨u1,u2,u3⟩:=ayq hb
  have ih:=amI l hl hx k (i+1) M (acc++un1 x) (by omega) (by omega) (by rw [List.length_append];omega)
  have hu:uns (l.drop i)=un1 x++uns (l.drop (i+1)):=by rw [List.drop_eq_getElem_cons hi,←hxe];rfl
  rw [aae,hu,←List.append_assoc]
  simp only [acH,c1,decide_true,cond_true,g1,Option.bind_some,e1]
  by_cases hx:x<65536
  ·have hx':(x:Int)<65536:=by omega
   have e3:IntKind.wrap .u16 (x:Int)=x:=ajX (by omega) (by omega)
   have r1:aac (acc.length+[(x:Int)].length) 2=true:=aar (by have:=aax;simp;omega) (by simp;omega)
   have eu:un1 x=[(x:Int)]:=by simp [un1,hx]
   simp only [hx',decide_true,cond_true,e3,r1]
   rw [eu] at ih ⊢
   exact ih
  ·have hx':¬ (x:Int)<65536:=by omega
   have e3:IntKind.wrap .i64 ((x:Int)-65536)=((x-65536:Nat):Int):=by rw [aab (by omega) (by omega)];omega
   have e5:Int.tdiv ((x-65536:Nat):Int) 1024=(((x-65536) / 1024:Nat):Int):=by rw [Int.tdiv_eq_ediv_of_nonneg (by omega)];omega
   have e5':IntKind.wrap .i64 (((x-65536) / 1024:Nat):Int)=(((x-65536) / 1024:Nat):Int):=aab (by omega) (by omega)
   have e6:IntKind.wrap .i64 (55296+(((x-65536) / 1024:Nat):Int))=((55296+(x-65536) / 1024:Nat):Int):=by rw [aab (by omega) (by omega)];omega
   have e7:IntKind.wrap .u16 ((55296+(x-65536) / 1024:Nat):Int)=((55296+(x-65536) / 1024:Nat):Int):=ajX (by omega) (by omega)
   have e8:Int.tmod ((x-65536:Nat):Int) 1024=(((x-65536) % 1024:Nat):Int):=by rw [Int.tmod_eq_emod_of_nonneg (by omega)];omega
   have e9:IntKind.wrap .i64 (56320+(((x-65536) % 1024:Nat):Int))=((56320+(x-65536) % 1024:Nat):Int):=by rw [aab (by omega) (by omega)];omega
   have e10:IntKind.wrap .u16 ((56320+(x-65536) % 1024:Nat):Int)=((56320+(x-65536) % 1024:Nat):Int):=ajX (by omega) (by omega)
   have eu:un1 x=[((55296+(x-65536) / 1024:Nat):Int),((56320+(x-65536) % 1024:Nat):Int)]:=by simp [un1,hx]
   have r1:aac (acc.length+[((55296+(x-65536) / 1024:Nat):Int),((56320+(x-65536) % 1024:Nat):Int)].length) 2=true:=aar (by have:=aax;simp;omega) (by simp;omega)
   simp only [hx',decide_false,cond_false,e3,e5,e5',e6,e7,e8,e9,e10,r1,cond_true]
   rw [eu] at ih ⊢
   exact ih
theorem ayT (s:List UInt8)(hs:s.length<1000000)(hN:s.length+10≤N):afG N s=some (match sgs s with | some l=>if 64<l.length then [] else uns l | none=>[]):=by
 unfold afG
 rw [ayY s hs hN,atT s hs hN]
 unfold mayN
 cases h:sgs s with
 | none=>rfl
 | some l=>
  obtain ⟨hx,hl⟩:=ahb s.length s l (Nat.le_refl _) h
  by_cases h64:64<l.length
  ·simp only [h64,if_true];rfl
  ·simp only [h64,if_false,Option.bind_some]
   have:=amI (N:=N) l (by omega) hx l.length 0 N [] (by omega) (by omega) (by simp)
   have h1:ain N (((l.map fun n=>((n:Nat):Int)),((0:Int),())),(([]:List Int),()))=some ((),([]++uns (l.drop 0),())):=this
   simp only [h1,decide_true,Bool.not_true,cond_false,Option.bind_some,List.nil_append,List.drop_zero]
def by2 (u:Int):List Int:=[u % 256,u / 256]
theorem aK1 (n:Int)(h:0≤n∧n<65536)(hN:100≤N):abw N (IntKind.wrap .u64 n) 2 true=some (by2 n,0):=by
 obtain ⟨M,rfl⟩:∃ M,N=M+3:=⟨N-3,by omega⟩
 have w0:IntKind.wrap .u64 n=n:=aaz h.1 (by omega)
 rw [w0]
 show axt (M+3) n 2 true=_
 have r1:aac (Int.toNat 2) 1=true:=by decide
 have r2:List.replicate (Int.toNat 2) (0:Int)=[0,0]:=rfl
 have w3:IntKind.wrap .i64 ((0:Int)+1)=1:=by decide
 have w4:IntKind.wrap .i64 ((1:Int)+1)=2:=by decide
 have e1:(2:Int) ^ min (Int.toNat 8) (IntKind.bits IntKind.u64)=256:=by decide
 have d1:Int.fdiv n 256=n / 256:=Int.fdiv_eq_ediv_of_nonneg n (by decide)
 have d2:Int.fdiv (n / 256) 256=n / 256 / 256:=Int.fdiv_eq_ediv_of_nonneg _ (by decide)
 have w7:IntKind.wrap .u8 n=n % 256:=by rw [IntKind.wrap_u8]
 have w8:IntKind.wrap .u8 (n / 256)=n / 256:=by rw [IntKind.wrap_u8];omega
 simp only [axt,amj,gl,apT,aj5,r1,r2,e1,cond_false,cond_true,Option.bind_some,w3,w4]
 simp [w3,w4,d1,d2,w7,w8,by2]
theorem aug (hN:100≤N)(u:List Int)(hu:u.length<1000000)(hx:∀ x∈u,0≤x∧x<65536):∀ (k i M:Nat) (acc:List Int),k+i=u.length→k<M→acc.length≤2*i→
  gl (fun X c=>adC N X c.1.1 c.1.2.1 c.1.2.2.1 c.2.1) M ((u,((u.length:Int),((i:Int),()))),(acc,()))=some ((),(acc++(u.drop i).flatMap by2,()))
 | 0,i,M+1,acc,hk,hM,ha=>by
  have c1:¬ (i:Int)<(u.length:Int):=by omega
  rw [aae,List.drop_eq_nil_of_le (by omega)]
  simp only [adC,c1,decide_false,cond_false,List.flatMap_nil,List.append_nil]
 | k+1,i,M+1,acc,hk,hM,ha=>by
  have hi:i<u.length:=by omega
  have c1:(i:Int)<(u.length:Int):=by omega
  have g1:=aaG u i hi
  have e1:IntKind.wrap .i64 ((i:Int)+1)=((i+1:Nat):Int):=by rw [aab (by omega) (by omega)];omega
  have p:=aK1 (N:=N) u[i] (hx _ (List.getElem_mem hi)) hN
  have r1:aac (acc.length+(by2 u[i]).length) 1=true:=aar (by have:=aax;simp [by2];omega) (by simp [by2];omega)
  have ih:=aug hN u hu hx k (i+1) M (acc++by2 u[i]) (by omega) (by omega) (by rw [List.length_append];simp [by2];omega)
  rw [aae,List.drop_eq_getElem_cons hi,List.flatMap_cons,←List.append_assoc]
  simp only [adC,c1,decide_true,cond_true,g1,Option.bind_some,e1,p,r1]
  exact ih
theorem aq7 (u:List Int)(hu:u.length<1000000)(hx:∀ x∈u,0≤x∧x<65536):∀ (k i M:Nat) (acc:List Int),k+i=u.length→k<M→acc.length≤2*i→
  gl (fun X c=>adG N X c.1.1 c.1.2.1 c.2.1) M ((u,((i:Int),())),(acc,()))=some ((),(acc++(u.drop i).flatMap by2,()))
 | 0,i,M+1,acc,hk,hM,ha=>by
  have c1:¬ (i:Int)<(u.length:Int):=by omega
  rw [aae,List.drop_eq_nil_of_le (by omega)]
  simp only [adG,c1,decide_false,cond_false,List.flatMap_nil,List.append_nil]
 | k+1,i,M+1,acc,hk,hM,ha=>by
  have hi:i<u.length:=by omega
  have c1:(i:Int)<(u.length:Int):=by omega
  have g1:=aaG u i hi
  have e1:IntKind.wrap .i64 ((i:Int)+1)=((i+1:Nat):Int):=by rw [aab (by omega) (by omega)];omega
  have hb:=hx _ (List.getElem_mem hi)
  have e2:IntKind.wrap .u8 (Int.tmod u[i] 256)=u[i] % 256:=by rw [Int.tmod_eq_emod_of_nonneg hb.1,IntKind.wrap_u8];omega
  have e3:IntKind.wrap .u8 (IntKind.wrap .u16 (Int.tdiv u[i] 256))=u[i] / 256:=by rw [Int.tdiv_eq_ediv_of_nonneg hb.1,ajX (by omega) (by omega),IntKind.wrap_u8];omega
  have r1:aac (acc.length+([u[i] % 256,u[i] / 256]:List Int).length) 1=true:=aar (by have:=aax;simp;omega) (by simp;omega)
  have ih:=aq7 u hu hx k (i+1) M (acc++by2 u[i]) (by omega) (by omega) (by rw [List.length_append];simp [by2];omega)
  rw [aae,List.drop_eq_getElem_cons hi,List.flatMap_cons,←List.append_assoc]
  simp only [adG,c1,decide_true,cond_true,g1,Option.bind_some,e1,e2,e3,r1]
  exact ih
def layN (s:List UInt8):List Int×Int:=match sgs s with
 | some l=>if 64<l.length then ([],8) else ((uns l).flatMap by2,0)
 | none=>([],3)
theorem aJw (s:List UInt8)(hs:s.length<10000)(hN:2*s.length+100≤N):aiy N s=some (layN s)∧aiI N s=some (layN s):=by
 unfold aiy aiI
 rw [aEi s (by omega) (by omega),ayY s (by omega) (by omega),aB9 s (by omega) (by omega),ayT s (by omega) (by omega)]
 unfold mayN layN
 cases h:sgs s with
 | none=>exact ⟨rfl,rfl⟩
 | some l=>
  obtain ⟨hx,hl⟩:=ahb s.length s l (Nat.le_refl _) h
  obtain ⟨u1,u2,u3⟩:=ayp hx
  by_cases h64:64<l.length
  ·simp only [h64,if_true];exact ⟨rfl,rfl⟩
  ·simp only [h64,if_false,Option.bind_some,decide_true,Bool.not_true,cond_false]
   have a1:=aug (N:=N) (by omega) (uns l) (by omega) u1 (uns l).length 0 N [] (by omega) (by omega) (by simp)
   have a2:=aq7 (N:=N) (uns l) (by omega) u1 (uns l).length 0 N [] (by omega) (by omega) (by simp)
   have b1:ajJ N ((uns l,(((uns l).length:Int),((0:Int),()))),(([]:List Int),()))=some ((),([]++((uns l).drop 0).flatMap by2,())):=a1
   have b2:ajL N ((uns l,((0:Int),())),(([]:List Int),()))=some ((),([]++((uns l).drop 0).flatMap by2,())):=a2
   rw [b1,b2]
   simp
theorem aFq (s:List UInt8):(layN s).1.length≤256∧AllB (layN s).1:=by
 unfold layN
 cases h:sgs s with
 | none=>exact ⟨by simp,AllB.nil⟩
 | some l=>
  obtain ⟨hx,hl⟩:=ahb s.length s l (Nat.le_refl _) h
  obtain ⟨u1,u2,u3⟩:=ayp hx
  by_cases h64:64<l.length
  ·simp only [h64,if_true];exact ⟨by simp,AllB.nil⟩
  ·simp only [h64,if_false]
   have key:∀ u:List Int,(∀ x∈u,0≤x∧x<65536)→(u.flatMap by2).length=2*u.length∧AllB (u.flatMap by2):=fun u=>by
    induction u with
    | nil=>intro _;exact ⟨rfl,AllB.nil⟩
    | cons x u ih=>
     intro hu
     obtain ⟨i1,i2⟩:=ih fun y hy=>hu y (List.mem_cons_of_mem _ hy)
     have hx:=hu x List.mem_cons_self
     rw [List.flatMap_cons]
     exact ⟨by rw [List.length_append,i1];simp [by2];omega,AllB.append (AllB.cons (by omega) (AllB.cons (by omega) AllB.nil)) i2⟩
   obtain ⟨k1,k2⟩:=key (uns l) u1
   exact ⟨by omega,k2⟩
end
theorem aud (b:List Int)(hb:AllB b)(hl:b.length≤1000):∃ D:Arr Int 16,alN 200000 [b]=some D∧agr 200000 b=some D∧AllB D.l:=by
 obtain ⟨D,d1,d2,d3⟩:=aCD [b] (by simp) (fun p hp=>by rw [List.mem_singleton] at hp;subst hp;exact hb) (by simp;omega)
 have hfl:([b]:List (List Int)).flatten=b:=by simp
 rw [hfl] at d3
 exact ⟨D,d2,d3,d1⟩
theorem wf16 {h:Arr Int 16}(w:wfT (.arr 16 (.int .u8)) h):AllB h.l:=fun x hx=>aKT (w x hx)
theorem aox (h:Arr Int 16)(hb:AllB h.l):∃ D:Arr Int 16,acp 200000 h=some D∧ahL 200000 h=some D∧AllB D.l:=by
 obtain ⟨D,d1,d2,d3⟩:=aud h.l hb (by rw [h.h];omega)
 exact ⟨D,by simp only [acp,d1,Option.bind_some],by simp only [ahL,d2,Option.bind_some],d3⟩
theorem AllB.zeros (n:Nat):AllB (List.replicate n 0):=fun x hx=>by
 have:=List.eq_of_mem_replicate hx
 omega
theorem azj (s:List UInt8)(hs:s.length≤600):∃ D e,adj 200000 s=some (D,e)∧akt 200000 s=some (D,e)∧AllB D.l:=by
 obtain ⟨l1,l2⟩:=aJw (N:=200000) s (by omega) (by omega)
 obtain ⟨k1,k2⟩:=aFq s
 unfold adj akt
 rw [l1,l2,Option.bind_some,Option.bind_some]
 by_cases he:(layN s).2=0
 ·obtain ⟨D,d1,d2,d3⟩:=aud (layN s).1 k2 (by omega)
  refine ⟨D,0, ?_, ?_,d3⟩
  ·simp only [he,decide_true,Bool.not_true,cond_false,d1,Option.bind_some]
  ·simp only [he,decide_true,Bool.not_true,cond_false,d2,Option.bind_some]
 ·refine ⟨_,(layN s).2,by simp only [he,decide_false,Bool.not_false,cond_true];exact rfl,by simp only [he,decide_false,Bool.not_false,cond_true], ?_⟩
  exact AllB.zeros 16
theorem apm {α:Type}(n:Nat)(l:List α)(h:n≤l.length):∃ a:Arr α n,a.l=l.take n∧ac1 n l=some a:=⟨⟨l.take n,by rw [List.length_take];omega⟩,rfl,dif_pos h⟩
theorem azf (h:Arr Int 16)(Z:Arr Int 21)(hZ:Z.l=List.replicate 21 0):(Z.over h.l).l=h.l++[0,0,0,0,0]:=by
 show h.l.take 21++Z.l.drop h.l.length=_
 rw [h.h,hZ,List.take_of_length_le (by rw [h.h];omega)]
 rfl
theorem ayy (h:Arr Int 16)(hb:AllB h.l):∃ t0 t1 t2:Arr Int 7,AllB t0.l∧AllB t1.l∧AllB t2.l∧ac7 200000 h=some (Arr.cons t0 (Arr.cons t1 (Arr.cons t2 Arr.nil)))∧abH 200000 h 0=some t0.l∧abH 200000 h 1=some t1.l∧abH 200000 h 2=some t2.l:=by
 obtain ⟨Lg,hLg⟩:∃ L,L=h.l++[0,0,0,0,0]:=⟨_,rfl⟩
 have hlen:Lg.length=21:=by rw [hLg,List.length_append,h.h];rfl
 have hLB:AllB Lg:=by rw [hLg];exact hb.append (AllB.zeros 5)
 obtain ⟨t0,a0,b0⟩:=apm 7 (Lg.take 7) (by rw [List.length_take];omega)
 obtain ⟨t1,a1,b1⟩:=apm 7 ((Lg.drop 7).take 7) (by rw [List.length_take,List.length_drop];omega)
 obtain ⟨t2,a2,b2⟩:=apm 7 (Lg.drop 14) (by rw [List.length_drop];omega)
 rw [List.take_take,Nat.min_self] at a0 a1
 have hT:ac7 200000 h=some (Arr.cons t0 (Arr.cons t1 (Arr.cons t2 Arr.nil))):=by
  unfold ac7
  have hz:=azf h (Arr.cons 0 (Arr.cons 0 (Arr.cons 0 (Arr.cons 0 (Arr.cons 0 (Arr.cons 0 (Arr.cons 0 (Arr.cons 0 (Arr.cons 0 (Arr.cons 0 (Arr.cons 0 (Arr.cons 0 (Arr.cons 0 (Arr.cons 0 (Arr.cons 0 (Arr.cons 0 (Arr.cons 0 (Arr.cons 0 (Arr.cons 0 (Arr.cons 0 (Arr.cons 0 Arr.nil))))))))))))))))))))) rfl
  rw [hz,←hLg]
  have s1:abV Lg (7:Int)=some (Lg.take 7):=acT Lg (i:=7) rfl (by omega)
  have s2:subI Lg (7:Int) (14:Int)=some ((Lg.drop 7).take 7):=aeG Lg (i:=7) (j:=14) rfl rfl (by omega) (by omega)
  have s3:abe Lg (14:Int)=some (Lg.drop 14):=adl Lg (i:=14) rfl (by omega)
  simp only [s1,s2,s3,Option.bind_some,b0,b1,b2]
 have hR:∀ (n:Nat) (_:n<3),abH 200000 h (n:Int)=some ((Lg.drop (7*n)).take 7):=fun n hn=>by
  have e1:IntKind.wrap .i64 (7*(n:Int))=((7*n:Nat):Int):=by rw [aab (by omega) (by omega)];omega
  have e2:IntKind.wrap .i64 (((7*n:Nat):Int)+7)=((7*n+7:Nat):Int):=by rw [aab (by omega) (by omega)];omega
  have r1:aac h.l.length 1=true:=aar (by have:=aax;rw [h.h];omega) (by rw [h.h];omega)
  have r2:aac (h.l.length+([0,0,0,0,0]:List Int).length) 1=true:=aar (by have:=aax;rw [h.h];simp;omega) (by rw [h.h];simp)
  have s1:=aeG Lg (i:=7*n) (j:=7*n+7) rfl rfl (by omega) (by omega)
  rw [Nat.add_sub_cancel_left] at s1
  unfold abH
  rw [r1,r2]
  simp only [cond_true,e1,e2,←hLg,s1,Option.bind_some]
 have h0:=hR 0 (by omega)
 have h1:=hR 1 (by omega)
 have h2:=hR 2 (by omega)
 have e2:(Lg.drop (7*2)).take 7=t2.l:=by rw [a2]
 have e1:(Lg.drop (7*1)).take 7=t1.l:=by rw [a1]
 have e0:(Lg.drop (7*0)).take 7=t0.l:=by rw [a0];rfl
 rw [e0] at h0;rw [e1] at h1;rw [e2] at h2
 refine ⟨t0,t1,t2, ?_, ?_, ?_,hT,h0,h1,h2⟩
 ·rw [←e0];exact (hLB.drop _).take _
 ·rw [←e1];exact (hLB.drop _).take _
 ·rw [←e2];exact (hLB.drop _).take _
section
variable {N:Nat}
def bAt (s:List UInt8):Nat→Nat
 | 0=>0
 | n+1=>if (((s.getD n 0).toNat:Nat):Int)=92 then n+1 else bAt s n
theorem aAx (s:List UInt8):∀ n,bAt s n≤n
 | 0=>Nat.le_refl _
 | n+1=>by
  have:=aAx s n
  unfold bAt
  split <;> omega
theorem aI7 (s:List UInt8)(n:Nat)(h:n<s.length):s.getD n 0=s[n]:=by rw [List.getD_eq_getElem?_getD,List.getElem?_eq_getElem h];rfl
theorem azx (s:List UInt8)(hs:s.length≤1000):∀ (n k:Nat),n≤s.length→n<k→gl (fun X c=>aau N X c.1.1 c.1.2.1 c.1.2.2.1) k ((s,((92:Int),(((n:Int)-1),()))),())=some (if bAt s n=0 then .inr ((),()) else .inl ((((bAt s n:Int)-1),()),()))
 | 0,k+1,_,_=>by
  have c1:¬ ((0:Int)≤((0:Nat):Int)-1):=by omega
  rw [aae]
  simp only [aau,c1,decide_false,cond_false,bAt,if_true]
 | n+1,k+1,hn,hk=>by
  have e:((n+1:Nat):Int)-1=(n:Int):=by omega
  have c1:(0:Int)≤(n:Int):=by omega
  have hlt:n<s.length:=by omega
  have g:=aaG s n hlt
  have gd:=aI7 s n hlt
  have w:IntKind.wrap .i64 ((n:Int)-1)=(n:Int)-1:=aab (by omega) (by omega)
  rw [aae,e]
  by_cases h:((s[n].toNat:Nat):Int)=92
  ·have hb:bAt s (n+1)=n+1:=by unfold bAt;rw [gd,if_pos h]
   rw [hb,if_neg (by omega),e]
   simp only [aau,c1,decide_true,cond_true,g,Option.bind_some,h]
  ·have hb:bAt s (n+1)=bAt s n:=by rw [bAt,gd,if_neg h]
   rw [hb]
   simp only [aau,c1,decide_true,cond_true,g,Option.bind_some,h,decide_false,cond_false,w]
   exact azx s hs n k (by omega) (by omega)
theorem aAu (s:List UInt8)(hs:s.length≤1000)(hN:10000≤N):aee N s=some (s.drop (bAt s s.length)):=by
 have w1:IntKind.wrap .i64 ((s.length:Int)-1)=(s.length:Int)-1:=aab (by omega) (by omega)
 have h:=azx (N:=N) s hs s.length N (Nat.le_refl _) (by omega)
 have hb:=aAx s s.length
 unfold aee abT aa9
 rw [w1]
 have h':ab4 N ((s,((92:Int),(((s.length:Int)-1),()))),())=_:=h
 rw [h']
 by_cases hz:bAt s s.length=0
 ·have w2:IntKind.wrap .i64 ((-1:Int)+1)=0:=by decide
  have d:abe s (0:Int)=some (s.drop 0):=adl s (i:=0) rfl (by omega)
  rw [if_pos hz,hz]
  simp only [Option.bind_some,Sum.elim_inr,w2,d]
 ·have w2:IntKind.wrap .i64 (((bAt s s.length:Int)-1)+1)=(bAt s s.length:Int):=by rw [aab (by omega) (by omega)];omega
  have d:abe s (bAt s s.length:Int)=some (s.drop (bAt s s.length)):=adl s (i:=bAt s s.length) rfl hb
  rw [if_neg hz]
  simp only [Option.bind_some,Sum.elim_inl,w2,d]
theorem aJY (s:List UInt8)(hs:s.length≤1000)(hN:10000≤N):ahe N s=some (s.drop (bAt s s.length)):=by
 have h:aiJ N ((s,((0:Int),((0:Int),()))),())=some ((s,((bAt s s.length:Int),())),()):=by
  have:=abu (G:=fun X c=>act N X c.1.1 c.1.2.1 c.1.2.2.1) (fun i=>((s,((bAt s i:Int),((i:Int),()))),())) s.length ((s,((bAt s s.length:Int),())),()) (fun X i hi=> ?_) (fun X=> ?_) N 0 (Nat.zero_le _) (by omega)
  ·exact this
  ·have c1:((i:Int)<(s.length:Int)):=by omega
   have g:=aaG s i hi
   have w:IntKind.wrap .i64 ((i:Int)+1)=((i+1:Nat):Int):=by rw [aab (by omega) (by omega)];omega
   have gd:=aI7 s i hi
   by_cases h:((s[i].toNat:Nat):Int)=92
   ·have hb:bAt s (i+1)=i+1:=by unfold bAt;rw [gd,if_pos h]
    simp only [act,c1,decide_true,cond_true,g,Option.bind_some,h,w,hb]
   ·have hb:bAt s (i+1)=bAt s i:=by rw [bAt,gd,if_neg h]
    simp only [act,c1,decide_true,cond_true,g,Option.bind_some,h,decide_false,cond_false,w,hb]
  ·have c1:¬ ((s.length:Int)<(s.length:Int)):=by omega
   simp only [act,c1,decide_false,cond_false]
 have hb:=aAx s s.length
 have d:abe s (bAt s s.length:Int)=some (s.drop (bAt s s.length)):=adl s (i:=bAt s s.length) rfl hb
 unfold ahe
 rw [h]
 simp only [Option.bind_some,d]
abbrev DIG:List UInt8:=(@Array.toList UInt8 (@List.toArray UInt8 ([(@OfNat.ofNat UInt8 (48:Nat) (@UInt8.instOfNat (48:Nat))),(@OfNat.ofNat UInt8 (49:Nat) (@UInt8.instOfNat (49:Nat))),(@OfNat.ofNat UInt8 (50:Nat) (@UInt8.instOfNat (50:Nat))),(@OfNat.ofNat UInt8 (51:Nat) (@UInt8.instOfNat (51:Nat))),(@OfNat.ofNat UInt8 (52:Nat) (@UInt8.instOfNat (52:Nat))),(@OfNat.ofNat UInt8 (53:Nat) (@UInt8.instOfNat (53:Nat))),(@OfNat.ofNat UInt8 (54:Nat) (@UInt8.instOfNat (54:Nat))),(@OfNat.ofNat UInt8 (55:Nat) (@UInt8.instOfNat (55:Nat))),(@OfNat.ofNat UInt8 (56:Nat) (@UInt8.instOfNat (56:Nat))),(@OfNat.ofNat UInt8 (57:Nat) (@UInt8.instOfNat (57:Nat))),(@OfNat.ofNat UInt8 (65:Nat) (@UInt8.instOfNat (65:Nat))),(@OfNat.ofNat UInt8 (66:Nat) (@UInt8.instOfNat (66:Nat))),(@OfNat.ofNat UInt8 (67:Nat) (@UInt8.instOfNat (67:Nat))),(@OfNat.ofNat UInt8 (68:Nat) (@UInt8.instOfNat (68:Nat))),(@OfNat.ofNat UInt8 (69:Nat) (@UInt8.instOfNat (69:Nat))),(@OfNat.ofNat UInt8 (70:Nat) (@UInt8.instOfNat (70:Nat)))]:List (UInt8))))
def dg (n:Nat):UInt8:=[48,49,50,51,52,53,54,55,56,57,65,66,67,68,69,70].getD n 0
theorem hx1:∀ n:Nat,n<256→(getI DIG (@Int.fdiv (n:Int) (@HPow.hPow Int Nat Int (@instHPow Int Nat (@instPowNat Int @Int.instNatPow)) (2:Int) (@Min.min Nat @instMinNat (Int.toNat (4:Int)) (@IntKind.bits @IntKind.u8)))))=some (dg (n / 16)):=by decide +kernel
theorem hx2:∀ n:Nat,n<256→(getI DIG (@Go.bits @Go.BinOp.and @IntKind.u8 (n:Int) (15:Int)))=some (dg (n % 16)):=by decide +kernel
theorem hy1:∀ n:Nat,n<256→(subI DIG (IntKind.wrap .i64 (IntKind.wrap .u8 (@Int.tdiv (n:Int) (16:Int)))) (IntKind.wrap .i64 ((IntKind.wrap .i64 (IntKind.wrap .u8 (@Int.tdiv (n:Int) (16:Int))))+(1:Int))))=some [dg (n / 16)]:=by decide +kernel
theorem hy2:∀ n:Nat,n<256→(subI DIG (IntKind.wrap .i64 (@Int.tmod (n:Int) (16:Int))) (IntKind.wrap .i64 ((IntKind.wrap .i64 (@Int.tmod (n:Int) (16:Int)))+(1:Int))))=some [dg (n % 16)]:=by decide +kernel
def hexS (b:List Int):List UInt8:=b.flatMap fun v=>[dg (v.toNat / 16),dg (v.toNat % 16)]
theorem ah1:∀ b:List Int,(hexS b).length=2*b.length
 | []=>rfl
 | v::b=>by
  show (dg (v.toNat / 16)::dg (v.toNat % 16)::hexS b).length=_
  simp only [List.length_cons,ah1 b];omega
theorem arR (b:List Int)(v:Int):hexS (b++[v])=hexS b++[dg (v.toNat / 16),dg (v.toNat % 16)]:=by
 unfold hexS
 rw [List.flatMap_append]
 rfl
theorem apl:∀ s:List UInt8,toBy (ofB s)=some s
 | []=>rfl
 | x::s=>by
  have h:(0:Int)≤((x.toNat:Nat):Int)∧((x.toNat:Nat):Int)<256:=by
   have:=x.toNat_lt
   omega
  show toBy (((x.toNat:Nat):Int)::ofB s)=_
  unfold toBy
  rw [if_pos h,apl s]
  simp
theorem aFd (a b:List UInt8):ofB (a++b)=ofB a++ofB b:=by simp [ofB]
theorem aJF (b:List Int)(hB:AllB b)(hb:b.length≤100)(hN:10000≤N):ags N b=some (hexS b):=by
 have h:akB N ((b,((b.length:Int),((0:Int),()))),(([]:List Int),()))=some ((),(ofB (hexS b),())):=by
  have:=abu (G:=fun X c=>aey N X c.1.1 c.1.2.1 c.1.2.2.1 c.2.1) (fun i=>((b,((b.length:Int),((i:Int),()))),(ofB (hexS (b.take i)),()))) b.length ((),(ofB (hexS b),())) (fun X i hi=> ?_) (fun X=> ?_) N 0 (Nat.zero_le _) (by omega)
  ·exact this
  ·have c1:((i:Int)<(b.length:Int)):=by omega
   have g:=aaG b i hi
   have hv:=hB _ (List.getElem_mem hi)
   have w:IntKind.wrap .i64 ((i:Int)+1)=((i+1:Nat):Int):=by rw [aab (by omega) (by omega)];omega
   obtain ⟨n,hn⟩:∃ n:Nat,b[i]=(n:Int):=⟨b[i].toNat,by omega⟩
   have hn2:n<256:=by omega
   have t1:=hx1 n hn2
   have t2:=hx2 n hn2
   have hts:b.take (i+1)=b.take i++[b[i]]:=by rw [List.take_add_one,List.getElem?_eq_getElem hi];rfl
   have hap:ofB (hexS (b.take (i+1)))=ofB (hexS (b.take i))++[(((dg (n / 16)).toNat:Nat):Int),(((dg (n % 16)).toNat:Nat):Int)]:=by
    rw [hts,arR,aFd,hn,Int.toNat_natCast]
    rfl
   have rm:aac ((ofB (hexS (b.take i))).length+([(((dg (n / 16)).toNat:Nat):Int),(((dg (n % 16)).toNat:Nat):Int)]:List Int).length) 1=true:=by
    rw [abC,ah1,List.length_take]
    exact aar (by have:=aax;simp;omega) (by simp;omega)
   rw [hn] at g
   simp only [aey,c1,decide_true,cond_true,g,Option.bind_some,t1,t2,rm,w,hap]
  ·have c1:¬ ((b.length:Int)<(b.length:Int)):=by omega
   simp only [aey,c1,decide_false,cond_false,List.take_length]
 have w:IntKind.wrap .i64 ((2:Int)*(b.length:Int))=((2*b.length:Nat):Int):=by rw [aab (by omega) (by omega)];omega
 have c0:decide ((0:Int)≤0∧(0:Int)≤((2*b.length:Nat):Int))=true:=decide_eq_true ⟨by omega,by omega⟩
 have r0:aac (Int.toNat ((2*b.length:Nat):Int)) 1=true:=aar (by have:=aax;omega) (by omega)
 unfold ags
 rw [w,c0,r0]
 simp only [Bool.and_self,cond_true]
 refine (congrArg (fun o=>Option.bind o _) h).trans ?_
 simp only [Option.bind_some,apl]
theorem aLc (b:List Int)(hB:AllB b)(hb:b.length≤100)(hN:10000≤N):akz N b=some (hexS b):=by
 have h:ajP N ((b,(DIG,(([]:List UInt8),((0:Int),())))),())=some ((hexS b,()),()):=by
  have:=abu (G:=fun X c=>adN N X c.1.1 c.1.2.1 c.1.2.2.1 c.1.2.2.2.1) (fun i=>((b,(DIG,(hexS (b.take i),((i:Int),())))),())) b.length ((hexS b,()),()) (fun X i hi=> ?_) (fun X=> ?_) N 0 (Nat.zero_le _) (by omega)
  ·exact this
  ·have c1:((i:Int)<(b.length:Int)):=by omega
   have g:=aaG b i hi
   have hv:=hB _ (List.getElem_mem hi)
   have w:IntKind.wrap .i64 ((i:Int)+1)=((i+1:Nat):Int):=by rw [aab (by omega) (by omega)];omega
   obtain ⟨n,hn⟩:∃ n:Nat,b[i]=(n:Int):=⟨b[i].toNat,by omega⟩
   have hn2:n<256:=by omega
   have t1:=hy1 n hn2
   have t2:=hy2 n hn2
   have hts:b.take (i+1)=b.take i++[b[i]]:=by rw [List.take_add_one,List.getElem?_eq_getElem hi];rfl
   have hap:hexS (b.take (i+1))=hexS (b.take i)++([dg (n / 16)]++[dg (n % 16)]):=by
    rw [hts,arR,hn,Int.toNat_natCast]
    rfl
   have bl:=aax
   have r1:decide (([dg (n / 16)].length+[dg (n % 16)].length)≤Go.maxLen)=true:=decide_eq_true (by simp;omega)
   have r2:decide (((hexS (b.take i)).length+([dg (n / 16)]++[dg (n % 16)]).length)≤Go.maxLen)=true:=decide_eq_true (by rw [ah1,List.length_take];simp;omega)
   rw [hn] at g
   simp only [adN,c1,decide_true,cond_true,g,Option.bind_some,t1,t2,r1,r2,w,hap]
  ·have c1:¬ ((b.length:Int)<(b.length:Int)):=by omega
   simp only [adN,c1,decide_false,cond_false,List.take_length]
 unfold akz
 refine (congrArg (fun o=>Option.bind o _) h).trans ?_
 simp only [Option.bind_some]
end
theorem axD (l:List UInt8):AllB (ofB l):=fun x hx=>by
 obtain ⟨b,hb,rfl⟩:=List.mem_map.1 hx
 have:=b.toNat_lt
 omega
theorem aoz (n:Nat)(l:List Int)(h:l.length=n):ac1 n l=some ⟨l,h⟩:=by
 subst h
 unfold ac1
 rw [dif_pos (Nat.le_refl _)]
 exact congrArg some (Arr.eq List.take_length)
theorem abQ {n:Nat}(h:n≤100000):aac n 1=true:=aar (by have:=aax;omega) (by omega)
def pre8 (D:Arr Int 20):Arr Int 8:=⟨D.l.take 8,by rw [List.length_take,D.h];rfl⟩
theorem aE5 (D:Arr Int 20):abV D.l 8=some (pre8 D).l∧ac1 8 (pre8 D).l=some (pre8 D):=
 ⟨acT D.l (i:=8) rfl (by rw [D.h];decide),aoz 8 _ (pre8 D).h⟩
section
variable {N:Nat}
theorem arY (D:Arr Int 20)(h0:Arr Int 8):∀ (k M i:Nat) (o:Arr Int 8),k+i=8→k<M→
  ∃ K:Arr Int 8,K.l=o.l.take i++(D.l.take 8).drop i∧gl (fun X c=>abn N X c.1.1 c.2.1 c.2.2.1 c.2.2.2.1) M (((i:Int),()),(h0,(D,(o,()))))=some ((),(h0,(K,())))
 | 0,M+1,i,o,hk,hM=>by
  have c1:¬ ((i:Int)<8):=by omega
  have hol:=o.h
  refine ⟨o, ?_, ?_⟩
  ·rw [List.take_of_length_le (by omega),List.drop_eq_nil_of_le (by rw [List.length_take];omega),List.append_nil]
  ·rw [aae]
   simp only [abn,c1,decide_false,cond_false]
 | k+1,M+1,i,o,hk,hM=>by
  have hol:=o.h
  have hDl:=D.h
  have c1:((i:Int)<8):=by omega
  have e0:IntKind.wrap .i64 ((i:Int)+1)=((i+1:Nat):Int):=by rw [aab (by omega) (by omega)];omega
  have c2:(0:Int)≤(i:Int)∧(i:Int)<((20:Nat):Int):=by omega
  have c3:(0:Int)≤(i:Int)∧(i:Int)<((8:Nat):Int):=by omega
  have e1:Int.toNat (i:Int)=i:=Int.toNat_natCast i
  have g1:D.l[i]? =some (D.l[i]'(by omega)):=List.getElem?_eq_getElem _
  have g2:o.l[i]? =some (o.l[i]'(by omega)):=List.getElem?_eq_getElem _
  obtain ⟨K,h1,h2⟩:=arY D h0 k M (i+1) (o.set i (D.l[i]'(by omega))) (by omega) (by omega)
  refine ⟨K, ?_, ?_⟩
  ·rw [h1]
   have q1:(o.set i (D.l[i]'(by omega))).l.take (i+1)=o.l.take i++[D.l[i]'(by omega)]:=by
    show (o.l.set i _).take (i+1)=_
    rw [List.take_add_one,List.take_set_of_le (Nat.le_refl _),List.getElem?_set_self (by omega)]
    rfl
   rw [q1,List.append_assoc]
   congr 1
   have hlt:i<(D.l.take 8).length:=by rw [List.length_take];omega
   rw [List.drop_eq_getElem_cons hlt,List.getElem_take]
   rfl
  ·rw [aae]
   simp only [abn,c1,decide_true,cond_true,c2,and_self,e1,g1,Option.bind_some,c3,g2,e0]
   exact h2
theorem aAf (p a:Arr Int 16)(s:List UInt8)(hp:AllB p.l)(ha:AllB a.l)(hs:s.length≤300):∃ C:Arr Int 8,AllB C.l∧aaR 200000 p a s=some C∧acV 200000 p a s=some C:=by
 have pl:=p.h
 have al:=a.h
 have b1:=aAu (N:=200000) s (by omega) (by omega)
 have b2:=aJY (N:=200000) s (by omega) (by omega)
 have ht:(s.drop (bAt s s.length)).length≤300:=by rw [List.length_drop];omega
 generalize s.drop (bAt s s.length)=t at *
 obtain ⟨D,d1,d2,d3⟩:=aiB [p.l,a.l,ofB t] (by simp) (fun q hq=>by
  simp only [List.mem_cons,List.not_mem_nil,or_false] at hq
  rcases hq with rfl | rfl | rfl
  ·exact hp
  ·exact ha
  ·exact axD _) (by simp only [List.flatten_cons,List.flatten_nil,List.length_append,abC,List.length_nil];omega)
 simp only [List.flatten_cons,List.flatten_nil,List.append_nil] at d3
 rw [←List.append_assoc] at d3
 obtain ⟨q1,q2⟩:=aE5 D
 refine ⟨pre8 D,d1.take 8, ?_, ?_⟩
 ·unfold aaR
  rw [b1,Option.bind_some,abQ (by omega)]
  simp only [cond_true,d2,q1,q2,Option.bind_some]
 ·obtain ⟨K,h1,h2⟩:=arY (N:=200000) D ⟨List.replicate 8 0,rfl⟩ 8 200000 0 ⟨List.replicate 8 0,rfl⟩ (by omega) (by omega)
  have hK:K=pre8 D:=Arr.eq (by rw [h1];rfl)
  subst hK
  have h2':afh 200000 (((0:Int),()),((⟨List.replicate 8 0,rfl⟩:Arr Int 8),(D,((⟨List.replicate 8 0,rfl⟩:Arr Int 8),()))))=some ((),((⟨List.replicate 8 0,rfl⟩:Arr Int 8),(pre8 D,()))):=h2
  unfold acV
  rw [abQ (by omega),abQ (by omega),b2]
  simp only [cond_true,Option.bind_some]
  rw [abQ (by rw [List.length_append];omega),d3,Option.bind_some]
  simp only [cond_true]
  refine (congrArg (fun o=>Option.bind o _) h2').trans ?_
  rfl
theorem ay0 (c:Arr Int 8)(t0 t1 t2:Arr Int 7)(Z:Arr Int 24)(l0 l1 l2:List Int)(s0:aeU 200000 t0.l c.l=some (l0,0))(s1:aeU 200000 t1.l c.l=some (l1,0))(s2:aeU 200000 t2.l c.l=some (l2,0))(n0:l0.length=8)(n1:l1.length=8)(n2:l2.length=8):
  agf 200000 ((c,(Arr.cons t0 (Arr.cons t1 (Arr.cons t2 Arr.nil)),((0:Int),()))),(Z,(([]:List Int),())))=some ((),(Z,(l0++l1++l2,()))):=by
 have w1:IntKind.wrap .i64 ((0:Int)+1)=1:=by decide
 have w2:IntKind.wrap .i64 ((1:Int)+1)=2:=by decide
 have w3:IntKind.wrap .i64 ((2:Int)+1)=3:=by decide
 have g0:getI (Arr.cons t0 (Arr.cons t1 (Arr.cons t2 Arr.nil))).l (0:Int)=some t0:=rfl
 have g1:getI (Arr.cons t0 (Arr.cons t1 (Arr.cons t2 Arr.nil))).l (1:Int)=some t1:=rfl
 have g2:getI (Arr.cons t0 (Arr.cons t1 (Arr.cons t2 Arr.nil))).l (2:Int)=some t2:=rfl
 have r0:aac (([]:List Int).length+l0.length) 1=true:=abQ (by simp;omega)
 have r1:aac ((([]:List Int)++l0).length+l1.length) 1=true:=abQ (by simp;omega)
 have r2:aac ((([]:List Int)++l0++l1).length+l2.length) 1=true:=abQ (by simp;omega)
 have fuel:∀ M,gl (fun X c=>ack 200000 X c.1.1 c.1.2.1 c.1.2.2.1 c.2.1 c.2.2.1) (M+4) ((c,(Arr.cons t0 (Arr.cons t1 (Arr.cons t2 Arr.nil)),((0:Int),()))),(Z,(([]:List Int),())))=some ((),(Z,(([]:List Int)++l0++l1++l2,()))):=by
  intro M
  have d0:((0:Int)<3):=by decide
  have d1:((1:Int)<3):=by decide
  have d2:((2:Int)<3):=by decide
  have d3:¬ ((3:Int)<3):=by decide
  simp only [aae,ack,d0,d1,d2,d3,decide_true,decide_false,cond_true,cond_false,g0,g1,g2,Option.bind_some,s0,s1,s2,r0,r1,r2,w1,w2,w3]
 have:=fuel 199996
 rw [List.nil_append] at this
 exact this
theorem aJK (c:Arr Int 8)(h:Arr Int 16)(n:Nat)(hn:n<3)(b:List Int)(hb:b.length=8)(h0:Arr Int 24):∀ (k M i:Nat) (o:Arr Int 24),k+i=8→k<M→
  ∃ K:Arr Int 24,K.l=o.l.take (8*n+i)++b.drop i++o.l.drop (8*n+8)∧gl (fun X c=>abB N X c.1.1 c.1.2.1 c.1.2.2.1 c.1.2.2.2.1 c.1.2.2.2.2.1 c.2.1 c.2.2.1) M ((c,(h,((n:Int),(b,((i:Int),()))))),(h0,(o,())))=some ((c,(h,((n:Int),()))),(h0,(K,())))
 | 0,M+1,i,o,hk,hM=>by
  have c1:¬ ((i:Int)<8):=by omega
  have hi:i=8:=by omega
  refine ⟨o, ?_, ?_⟩
  ·have hd:b.drop i=[]:=List.drop_eq_nil_of_le (by omega)
   rw [hd,List.append_nil,hi,List.take_append_drop]
  ·rw [aae]
   simp only [abB,c1,decide_false,cond_false,Option.bind_some]
 | k+1,M+1,i,o,hk,hM=>by
  have hol:=o.h
  have c1:((i:Int)<8):=by omega
  have c4:((i:Int)<(b.length:Int)):=by omega
  have hib:i<b.length:=by omega
  have e0:IntKind.wrap .i64 ((i:Int)+1)=((i+1:Nat):Int):=by rw [aab (by omega) (by omega)];omega
  have e3:IntKind.wrap .i64 ((8:Int)*(n:Int))=((8*n:Nat):Int):=by rw [aab (by omega) (by omega)];omega
  have e4:IntKind.wrap .i64 (((8*n:Nat):Int)+(i:Int))=((8*n+i:Nat):Int):=by rw [aab (by omega) (by omega)];omega
  have c3:(0:Int)≤((8*n+i:Nat):Int)∧((8*n+i:Nat):Int)<((24:Nat):Int):=by omega
  have e1:Int.toNat ((8*n+i:Nat):Int)=8*n+i:=Int.toNat_natCast _
  have hj:8*n+i<o.l.length:=by omega
  have g1:=aaG b i hib
  have g2:o.l[8*n+i]? =some (o.l[8*n+i]'hj):=List.getElem?_eq_getElem _
  obtain ⟨K,h1,h2⟩:=aJK c h n hn b hb h0 k M (i+1) (o.set (8*n+i) b[i]) (by omega) (by omega)
  refine ⟨K, ?_, ?_⟩
  ·rw [h1]
   have q1:(o.set (8*n+i) b[i]).l.take (8*n+(i+1))=o.l.take (8*n+i)++[b[i]]:=by
    show (o.l.set (8*n+i) _).take (8*n+i+1)=_
    rw [List.take_add_one,List.take_set_of_le (Nat.le_refl _),List.getElem?_set_self hj]
    rfl
   have q2:(o.set (8*n+i) b[i]).l.drop (8*n+8)=o.l.drop (8*n+8):=by
    show (o.l.set (8*n+i) _).drop (8*n+8)=_
    rw [List.drop_set_of_lt (by omega)]
   rw [q1,q2,List.append_assoc (List.take _ _) [b[i]] _,List.singleton_append,←List.drop_eq_getElem_cons hib]
  ·rw [aae]
   simp only [abB,c1,decide_true,cond_true,c4,Option.bind_some,g1,e3,e4,c3,and_self,e1,g2,e0]
   exact h2
theorem az0 (c:Arr Int 8)(h:Arr Int 16)(n:Nat)(hn:n<3)(b:List Int)(hb:b.length=8)(h0 o:Arr Int 24):
  ∃ K:Arr Int 24,K.l=o.l.take (8*n)++b++o.l.drop (8*n+8)∧afE 200000 ((c,(h,((n:Int),(b,((0:Int),()))))),(h0,(o,())))=some ((c,(h,((n:Int),()))),(h0,(K,()))):=by
 obtain ⟨K,h1,h2⟩:=aJK (N:=200000) c h n hn b hb h0 8 200000 0 o (by omega) (by omega)
 exact ⟨K,by rw [h1,List.drop_zero,Nat.add_zero],h2⟩
theorem ayZ (c:Arr Int 8)(h:Arr Int 16)(hc:AllB c.l)(hh:AllB h.l):∃ R:Arr Int 24,AllB R.l∧abA 200000 c h=some R∧adh 200000 c h=some R:=by
 obtain ⟨t0,t1,t2,b0,b1,b2,hT,u0,u1,u2⟩:=ayy h hh
 obtain ⟨l0,s0,v0,n0,m0⟩:=De.seven8 t0.l c.l b0 hc t0.h c.h
 obtain ⟨l1,s1,v1,n1,m1⟩:=De.seven8 t1.l c.l b1 hc t1.h c.h
 obtain ⟨l2,s2,v2,n2,m2⟩:=De.seven8 t2.l c.l b2 hc t2.h c.h
 have hlen:(l0++l1++l2).length=24:=by rw [List.length_append,List.length_append];omega
 refine ⟨⟨l0++l1++l2,hlen⟩,(m0.append m1).append m2, ?_, ?_⟩
 ·have ta:=aoz 24 (l0++l1++l2) hlen
  have hl:=ay0 c t0 t1 t2
  unfold abA
  rw [hT,Option.bind_some,hl _ l0 l1 l2 s0 s1 s2 n0 n1 n2]
  simp only [Option.bind_some,ta]
 ·have hloop:∀ Z Z0:Arr Int 24,afF 200000 ((c,(h,((0:Int),()))),(Z0,(Z,())))=some ((),(Z0,((⟨l0++l1++l2,hlen⟩:Arr Int 24),()))):=by
   intro Z Z0
   obtain ⟨K0,k0,f0⟩:=az0 c h 0 (by omega) l0 n0 Z0 Z
   obtain ⟨K1,k1,f1⟩:=az0 c h 1 (by omega) l1 n1 Z0 K0
   obtain ⟨K2,k2,f2⟩:=az0 c h 2 (by omega) l2 n2 Z0 K1
   have hK:K2=⟨l0++l1++l2,hlen⟩:=Arr.eq (by
    have a0:K0.l.take 8=l0:=by
     rw [k0]
     show (([]++l0)++Z.l.drop 8).take 8=l0
     rw [List.nil_append,List.take_left' n0]
    have a1:K1.l.take 16=l0++l1:=by
     rw [k1,a0]
     exact List.take_left' (by rw [List.length_append];omega)
    have a2:K1.l.drop 24=[]:=List.drop_eq_nil_of_le (by rw [K1.h];omega)
    rw [k2]
    show K1.l.take 16++l2++K1.l.drop 24=_
    rw [a1,a2,List.append_nil])
   subst hK
   have w1:IntKind.wrap .i64 (((0:Nat):Int)+1)=((1:Nat):Int):=by decide
   have w2:IntKind.wrap .i64 (((1:Nat):Int)+1)=((2:Nat):Int):=by decide
   have w3:IntKind.wrap .i64 (((2:Nat):Int)+1)=((3:Nat):Int):=by decide
   have u0':abH 200000 h ((0:Nat):Int)=some t0.l:=u0
   have u1':abH 200000 h ((1:Nat):Int)=some t1.l:=u1
   have u2':abH 200000 h ((2:Nat):Int)=some t2.l:=u2
   have fuel:∀ M,gl (fun X c=>aaY 200000 X c.1.1 c.1.2.1 c.1.2.2.1 c.2.1 c.2.2.1) (M+4) ((c,(h,(((0:Nat):Int),()))),(Z0,(Z,())))=some ((),(Z0,((⟨l0++l1++l2,hlen⟩:Arr Int 24),()))):=by
    intro M
    have d0:(((0:Nat):Int)<3):=by decide
    have d1:(((1:Nat):Int)<3):=by decide
    have d2:(((2:Nat):Int)<3):=by decide
    have d3:¬ (((3:Nat):Int)<3):=by decide
    generalize h0:((0:Nat):Int)=z0 at *
    generalize h1:((1:Nat):Int)=z1 at *
    generalize h2:((2:Nat):Int)=z2 at *
    generalize h3:((3:Nat):Int)=z3 at *
    rw [aae]
    simp only [aaY,d0,decide_true,cond_true,u0',Option.bind_some,v0,f0,w1]
    rw [aae]
    simp only [aaY,d1,decide_true,cond_true,u1',Option.bind_some,v1,f1,w2]
    rw [aae]
    simp only [aaY,d2,decide_true,cond_true,u2',Option.bind_some,v2,f2,w3]
    rw [aae]
    simp only [aaY,d3,decide_false,cond_false]
   exact fuel 199996
  unfold adh
  rw [hloop]
  simp only [Option.bind_some]
end
theorem aCo (p a:Arr Int 16)(s w:List UInt8)(hp:AllB p.l)(ha:AllB a.l)(hs:s.length≤300)(hw:w.length≤300):∃ R:Arr Int 24,∃ e:Int,AllB R.l∧ab2 200000 p a s w=some (R,e)∧abG 200000 p a s w=some (R,e):=by
 obtain ⟨D,e,d1,d2,d3⟩:=azj w (by omega)
 unfold ab2 abG
 rw [d1,d2,Option.bind_some,Option.bind_some]
 by_cases he:e=0
 ·obtain ⟨C,c1,c2,c3⟩:=aAf p a s hp ha hs
  obtain ⟨R,r1,r2,r3⟩:=ayZ C D c1 d3
  refine ⟨R,0,r1, ?_, ?_⟩
  ·simp only [he,decide_true,Bool.not_true,cond_false,c2,r2,Option.bind_some]
  ·simp only [he,decide_true,Bool.not_true,cond_false,c3,r3,Option.bind_some]
 ·refine ⟨_,e, ?_,by simp only [he,decide_false,Bool.not_false,cond_true];exact rfl,by simp only [he,decide_false,Bool.not_false,cond_true]⟩
  exact AllB.zeros 24
def ayR:List UInt8:=[77,97,103,105,99,32,115,101,114,118,101,114,32,116,111,32,99,108,105,101,110,116,32,115,105,103,110,105,110,103,32,99,111,110,115,116,97,110,116]
def sPad:List UInt8:=[80,97,100,32,116,111,32,109,97,107,101,32,105,116,32,100,111,32,109,111,114,101,32,116,104,97,110,32,111,110,101,32,105,116,101,114,97,116,105,111,110]
def sS:List UInt8:=[83,61]
section
variable {N:Nat}
theorem ayh (h:Arr Int 16)(r:Arr Int 24)(c:Arr Int 8):acZ N h r c=(acp N h).bind fun t=>(adY N [t.l,r.l,ofB ayR]).bind fun d=>(adY N [d.l,c.l,ofB sPad]).bind fun e=>(ags N e.l).bind fun x=>bif decide ((sS.length+x.length)≤Go.maxLen) then some (sS++x) else none:=by kernel_rfl
end
theorem aAB (h:Arr Int 16)(r:Arr Int 24)(c:Arr Int 8)(hb:AllB h.l)(rb:AllB r.l)(cb:AllB c.l):∃ t:List UInt8,t.length≤100∧acZ 200000 h r c=some t:=by
 obtain ⟨t,t1,t2,t3⟩:=aox h hb
 have tl:=t.h
 have rl:=r.h
 have cl:=c.h
 have sl:ayR.length=39:=rfl
 have pl:sPad.length=41:=rfl
 obtain ⟨D,d1,d2,d3⟩:=aiB [t.l,r.l,ofB ayR] (by simp) (fun p hp=>by
  simp only [List.mem_cons,List.not_mem_nil,or_false] at hp
  rcases hp with rfl | rfl | rfl
  ·exact t3
  ·exact rb
  ·exact axD _) (by simp only [List.flatten_cons,List.flatten_nil,List.length_append,abC,List.length_nil];omega)
 simp only [List.flatten_cons,List.flatten_nil,List.append_nil] at d3
 rw [←List.append_assoc] at d3
 have Dl:=D.h
 obtain ⟨E,e1,e2,e3⟩:=aiB [D.l,c.l,ofB sPad] (by simp) (fun p hp=>by
  simp only [List.mem_cons,List.not_mem_nil,or_false] at hp
  rcases hp with rfl | rfl | rfl
  ·exact d1
  ·exact cb
  ·exact axD _) (by simp only [List.flatten_cons,List.flatten_nil,List.length_append,abC,List.length_nil];omega)
 simp only [List.flatten_cons,List.flatten_nil,List.append_nil] at e3
 rw [←List.append_assoc] at e3
 have El:=E.h
 have x1:=aJF (N:=200000) E.l e1 (by omega) (by omega)
 have x2:=aLc (N:=200000) E.l e1 (by omega) (by omega)
 have hx:decide ((sS.length+(hexS E.l).length)≤Go.maxLen)=true:=decide_eq_true (by
  have:=aax
  rw [ah1,show sS.length=2 from rfl];omega)
 refine ⟨sS++hexS E.l,by rw [List.length_append,ah1,show sS.length=2 from rfl];omega, ?_⟩
 ·rw [ayh,t1,Option.bind_some,d2,Option.bind_some,e2,Option.bind_some,x1,Option.bind_some,hx]
  rfl
theorem bpos {α:Type}{p:Prop}{i:Decidable p}{x y:α}(h:p):(bif @decide p i then x else y)=x:=by rw [decide_eq_true h];rfl
theorem bneg {α:Type}{p:Prop}{i:Decidable p}{x y:α}(h:¬ p):(bif @decide p i then x else y)=y:=by rw [decide_eq_false h];rfl
theorem aEc {n b:Nat}(h:n≤100000)(hb:b≤100):aac n b=true:=aar (by have:=aax;omega) (by
 have:n*b≤100000*100:=Nat.mul_le_mul h hb
 omega)
theorem rpos {α:Type}{n b:Nat}{x y:α}(h:n≤100000)(hb:b≤100):(bif aac n b then x else y)=x:=by rw [aEc h hb];rfl
theorem bnd {α β:Type}{o:Option α}{v:α}{k:α→Option β}(h:o=some v):Option.bind o k=k v:=by rw [h];rfl
theorem bcp {α:Type}{p:Prop}{i:Decidable p}{x y:α}(h:p):(bif (cond true (@decide p i) false) then x else y)=x:=by rw [decide_eq_true h];rfl
theorem bvp {α:Type}{v:Bool}{x y:α}(h:v=true):(bif v then x else y)=x:=by rw [h];rfl
theorem bvn {α:Type}{v:Bool}{x y:α}(h:v=false):(bif v then x else y)=y:=by rw [h];rfl
abbrev Us:Type:=List UInt8×List UInt8
abbrev Ct:Type:=Int×(Int×List Int)
section
variable {N:Nat}
def layK (a b:Int)(v:List Int)(s:List UInt8):Ct:=(a,(b,([IntKind.wrap .u8 (((v.take (min v.length 255)).length:Nat):Int)]++v.take (min v.length 255))++ofB s))
theorem aKW (v:List Int):abV v (minI (((v.length:Nat)):Int) (255:Int))=some (v.take (min v.length 255)):=by
 have hmi:minI (v.length:Int) 255=((min v.length 255:Nat):Int):=by unfold minI;split <;> omega
 rw [hmi]
 exact acT v rfl (by omega)
theorem azu (a b:Int)(v:List Int)(s:List UInt8)(hs:s.length≤1000):aeV 200000 a b v s=some (layK a b v s):=by
 have hl:(v.take (min v.length 255)).length≤255:=by rw [List.length_take];omega
 unfold aeV
 refine (bnd (aKW v)).trans ?_
 refine (rpos (by omega) (by omega)).trans ?_
 have hj:adi 200000 ([([(IntKind.wrap .u8 (((v.take (min v.length 255)).length:Nat):Int))]:List Int),v.take (min v.length 255),ofB s]:List (List Int))=some ([([(IntKind.wrap .u8 (((v.take (min v.length 255)).length:Nat):Int))]:List Int),v.take (min v.length 255),ofB s]:List (List Int)).flatten:=ann (N:=200000) _ (by simp) (fun q hq=>by
  simp only [List.mem_cons,List.not_mem_nil,or_false] at hq
  rcases hq with rfl | rfl | rfl
  ·simp
  ·omega
  ·rw [abC];omega) (by omega)
 refine (bnd hj).trans ?_
 unfold layK
 simp only [List.flatten_cons,List.flatten_nil,List.append_nil,List.append_assoc]
def parK (c:Ct):List Int×List UInt8×Int:=if c.2.2.length=0∨(c.2.2.length:Int)-1<c.2.2.getD 0 0 then ([],([],4)) else (((c.2.2.drop 1).take (c.2.2.getD 0 0).toNat),((c.2.2.drop (1+(c.2.2.getD 0 0).toNat)).map aAk,0))
theorem aC8 (l:List Int)(h:l.length≤10000):abK 200000 l=some l:=by
 unfold abK abW
 cases l with
 | nil=>rfl
 | cons x l=>
  refine (bvn rfl).trans ((bvn rfl).trans ((rpos (by omega) (by omega)).trans rfl))
theorem aJe (c:Ct)(hb:AllB c.2.2)(hl:c.2.2.length≤1000):adz 200000 c=some (parK c)∧True:=by
 obtain ⟨c0,c1,d⟩:=c
 simp only at hb hl
 unfold adz parK
 simp only
 by_cases h0:d.length=0
 ·rw [if_pos (.inl h0)]
  exact ⟨bpos (by omega),trivial⟩
 ·have g:getI d (0:Int)=some (d[0]'(by omega)):=aaG d 0 (by omega)
  have gd:d.getD 0 0=d[0]'(by omega):=by rw [List.getD_eq_getElem?_getD,List.getElem?_eq_getElem (by omega)];rfl
  have hx:=hb.get 0 (by omega)
  rw [gd]
  generalize d[0]'(by omega)=x at g hx
  have w1:IntKind.wrap .i64 ((d.length:Int)-1)=(d.length:Int)-1:=aab (by omega) (by omega)
  have w2:IntKind.wrap .i64 x=x:=aab (by omega) (by omega)
  have w3:IntKind.wrap .i64 ((1:Int)+x)=((1+x.toNat:Nat):Int):=by rw [aab (by omega) (by omega)];omega
  simp only [g,w1,w2,w3,Option.bind_some]
  by_cases h1:(d.length:Int)-1<x
  ·rw [if_pos (.inr h1)]
   rw [decide_eq_true h1]
   exact ⟨(bneg (by omega)).trans rfl,trivial⟩
  ·rw [if_neg (by omega),decide_eq_false h1]
   have s1:subI d (1:Int) ((1+x.toNat:Nat):Int)=some ((d.drop 1).take x.toNat):=by
    rw [aeG d (a:=1) (i:=1) (j:=1+x.toNat) rfl rfl (by omega) (by omega)]
    congr 2
    omega
   have s2:abe d ((1+x.toNat:Nat):Int)=some (d.drop (1+x.toNat)):=adl d rfl (by omega)
   have s3:=amh (hb.drop (1+x.toNat))
   have s4:=aC8 ((d.drop 1).take x.toNat) (by rw [List.length_take,List.length_drop];omega)
   constructor
   ·refine (bneg (by omega)).trans ((bvn rfl).trans ?_)
    exact (bnd s1).trans ((bnd s4).trans ((bnd s2).trans (bnd s3)))
   ·trivial
def ayb (s:List UInt8):List UInt8:=s.drop (bAt s s.length)
def axS (b:List UInt8):List Us→Option Us
 | []=>none
 | u::l=>if ayb u.1=b then some u else axS b l
def oksU (l:List Us):Prop:=∀ u∈l,u.1.length≤1000∧u.2.length≤1000
theorem aJJ (l:List Us)(b:List UInt8)(hl:oksU l)(hlen:l.length≤1000)(h0 h2:Us):∀ (n k i:Nat),i+n=l.length→n<k→
  gl (fun X c=>aak 200000 X c.1.1 c.1.2.1 c.1.2.2.1 c.2.1 c.2.2.1 c.2.2.2.1) k ((l,((l.length:Int),((i:Int),()))),(h0,(b,(h2,()))))=some (match axS b (l.drop i) with
   | some u=>.inl ((true,()),(h0,(b,(u,()))))
   | none=>.inr ((),(h0,(b,(h2,())))))
 | 0,k+1,i,hi,_=>by
  have c1:¬ ((i:Int)<(l.length:Int)):=by omega
  rw [aae,List.drop_eq_nil_of_le (by omega)]
  simp only [aak,c1,decide_false,cond_false]
  rfl
 | n+1,k+1,i,hi,hk=>by
  have c1:((i:Int)<(l.length:Int)):=by omega
  have hlt:i<l.length:=by omega
  have g:=aaG l i hlt
  have w:IntKind.wrap .i64 ((i:Int)+1)=((i+1:Nat):Int):=by rw [aab (by omega) (by omega)];omega
  have ih:=aJJ l b hl hlen h0 h2 n k (i+1) (by omega) (by omega)
  have hb:=aAu (N:=200000) (l[i]).1 (hl _ (List.getElem_mem hlt)).1 (by omega)
  rw [aae,List.drop_eq_getElem_cons hlt]
  unfold axS
  by_cases h:ayb (l[i]).1=b
  ·have h':(l[i]).1.drop (bAt (l[i]).1 (l[i]).1.length)=b:=h
   rw [if_pos h]
   simp only [aak,c1,decide_true,cond_true,g,Option.bind_some,hb,h']
  ·have h':¬ (l[i]).1.drop (bAt (l[i]).1 (l[i]).1.length)=b:=h
   rw [if_neg h]
   simp only [aak,c1,decide_true,cond_true,g,Option.bind_some,hb,h',decide_false,cond_false,w]
   exact ih
def resU (o:Option Us):Us×Bool:=match o with
 | some u=>(u,true)
 | none=>(([],[]),false)
theorem aJI (l:List Us)(m:List UInt8)(hm:m.length≤1000)(hl:oksU l)(hlen:l.length≤1000):afq 200000 l m=some (resU (axS (ayb m) l)):=by
 unfold afq
 refine (bnd (aAu (N:=200000) m hm (by omega))).trans ?_
 have h:abi 200000 ((l,((l.length:Int),(((0:Nat):Int),()))),((([],[]):Us),(ayb m,((([],[]):Us),()))))=_:=aJJ l (ayb m) hl hlen ([],[]) ([],[]) l.length 200000 0 (by omega) (by omega)
 refine (bnd h).trans ?_
 rw [List.drop_zero]
 cases axS (ayb m) l <;> rfl
theorem aB7 (l:List Us)(hlen:l.length≤1000):af3 200000 l=some l:=by
 have h:ait 200000 ((l,((l.length:Int),((0:Int),()))),(([]:List Us),()))=some ((),(l,())):=by
  have:=abu (G:=fun X c=>acM 200000 X c.1.1 c.1.2.1 c.1.2.2.1 c.2.1) (fun i=>((l,((l.length:Int),((i:Int),()))),(l.take i,()))) l.length ((),(l,())) (fun X i hi=> ?_) (fun X=> ?_) 200000 0 (Nat.zero_le _) (by omega)
  ·exact this
  ·have c1:((i:Int)<(l.length:Int)):=by omega
   have g:=aaG l i hi
   have w:IntKind.wrap .i64 ((i:Int)+1)=((i+1:Nat):Int):=by rw [aab (by omega) (by omega)];omega
   have ts:l.take (i+1)=l.take i++[((l[i]).1,(l[i]).2)]:=by rw [List.take_add_one,List.getElem?_eq_getElem hi];rfl
   have rm:aac ((l.take i).length+([((l[i]).1,(l[i]).2)]:List Us).length) 32=true:=aEc (by rw [List.length_take];simp only [List.length_cons,List.length_nil];omega) (by omega)
   simp only [acM,c1,decide_true,cond_true,g,Option.bind_some,rm,w,ts]
  ·have c1:¬ ((l.length:Int)<(l.length:Int)):=by omega
   simp only [acM,c1,decide_false,cond_false,List.take_length]
 unfold af3
 exact (bnd h).trans rfl
theorem farL (l m:List Us)(hm:m.length≤1000):∀ (n k i:Nat),i+n=m.length→n<k→
  ∃ r,gl (fun X c=>acq 200000 X c.1.1 c.1.2.1 c.1.2.2.1 c.1.2.2.2.1) k ((l,(m,((m.length:Int),((i:Int),())))),())=some r∧(r= .inl ((true,()),())∨(r= .inr ((l,()),())∧∀ u∈m.drop i,u.1.length≤200∧u.2.length≤300))
 | 0,k+1,i,hi,_=>by
  have c1:¬ ((i:Int)<(m.length:Int)):=by omega
  refine ⟨.inr ((l,()),()), ?_,.inr ⟨rfl,fun u hu=> ?_⟩⟩
  ·rw [aae]
   simp only [acq,c1,decide_false,cond_false]
  ·rw [List.drop_eq_nil_of_le (by omega)] at hu;cases hu
 | n+1,k+1,i,hi,hk=>by
  have c1:((i:Int)<(m.length:Int)):=by omega
  have hlt:i<m.length:=by omega
  have g:=aaG m i hlt
  have w:IntKind.wrap .i64 ((i:Int)+1)=((i+1:Nat):Int):=by rw [aab (by omega) (by omega)];omega
  obtain ⟨r,r1,r2⟩:=farL l m hm n k (i+1) (by omega) (by omega)
  by_cases h1:(200:Int)<(((m[i]).1.length:Nat):Int)
  ·refine ⟨.inl ((true,()),()), ?_,.inl rfl⟩
   rw [aae]
   simp only [acq,c1,decide_true,cond_true,g,Option.bind_some,h1]
  ·by_cases h2:(300:Int)<(((m[i]).2.length:Nat):Int)
   ·refine ⟨.inl ((true,()),()), ?_,.inl rfl⟩
    rw [aae]
    simp only [acq,c1,decide_true,cond_true,g,Option.bind_some,h1,h2,decide_false,cond_false]
   ·refine ⟨r, ?_, ?_⟩
    ·rw [aae]
     simp only [acq,c1,decide_true,cond_true,g,Option.bind_some,h1,h2,decide_false,cond_false,w]
     exact r1
    ·rcases r2 with r2 | ⟨r2,r3⟩
     ·exact .inl r2
     ·refine .inr ⟨r2,fun u hu=> ?_⟩
      rw [List.drop_eq_getElem_cons hlt] at hu
      rcases List.mem_cons.1 hu with rfl | hu
      ·omega
      ·exact r3 u hu
theorem aJL (l:List Us):aeP 200000 l=some true∨(aeP 200000 l=some false∧l.length≤10∧∀ u∈l,u.1.length≤200∧u.2.length≤300):=by
 have hmi:minI (l.length:Int) 10=((min l.length 10:Nat):Int):=by unfold minI;split <;> omega
 have ht:abV l (minI (((l.length:Nat)):Int) (10:Int))=some (l.take (min l.length 10)):=by rw [hmi];exact acT l rfl (by omega)
 have hl:(l.take (min l.length 10)).length≤1000:=by rw [List.length_take];omega
 obtain ⟨r,r1,r2⟩:=farL l (l.take (min l.length 10)) hl (l.take (min l.length 10)).length 200000 0 (by omega) (by omega)
 have h:ajT 200000 ((l,(l.take (min l.length 10),(((l.take (min l.length 10)).length:Int),((0:Int),())))),())=some r:=r1
 have e:aeP 200000 l=_:=(show aeP 200000 l=_ from by unfold aeP;exact (bnd ht).trans (bnd h))
 rw [e]
 rcases r2 with rfl | ⟨rfl,r3⟩
 ·left;rfl
 ·by_cases h10:(10:Int)<(l.length:Int)
  ·left
   show some (decide ((10:Int)<(l.length:Int)))=some true
   rw [decide_eq_true h10]
  ·right
   refine ⟨?_,by omega,fun u hu=>r3 u ?_⟩
   ·show some (decide ((10:Int)<(l.length:Int)))=some false
    rw [decide_eq_false h10]
   ·rw [List.drop_zero,List.take_of_length_le (by omega)];exact hu
end
theorem aFP (c:Ct)(hb:AllB c.2.2):aif 200000 c c=some true:=by
 have t:=amh hb
 have hq:agh 200000 c.2.2 c.2.2=some true:=by
  unfold agh
  refine (bnd t).trans ((bnd t).trans ?_)
  rw [decide_eq_true rfl]
 unfold aif
 have e:(bif (decide (c.1=c.1)) then some (cond true (decide (c.2.1=c.2.1)) false) else some false)=some true:=(bpos rfl).trans (by rw [decide_eq_true rfl];rfl)
 refine (bnd e).trans ((bvp rfl).trans ?_)
 exact (bnd hq).trans rfl
theorem azk (s:List UInt8):AllB (ofB s):=fun x hx=>by
 unfold ofB at hx
 obtain ⟨c,_,rfl⟩:=List.mem_map.1 hx
 have:=c.toNat_lt
 omega
theorem aEk (a b:Int)(v:List Int)(s:List UInt8)(hv:AllB v):AllB (layK a b v s).2.2:=by
 unfold layK
 refine ((AllB.cons ?_ AllB.nil).append (hv.take _)).append (azk s)
 rw [IntKind.wrap_u8]
 omega
theorem q8_of (a:Nat)(ha:a<256):(BitVec.ofInt 8 (a:Int)).toNat=a:=by
 rw [BitVec.ofInt_natCast,BitVec.toNat_ofNat];exact Nat.mod_eq_of_lt (by omega)
theorem xor8 (a b:Nat)(ha:a<256)(hb:b<256):bits .xor .u8 (a:Int) (b:Int)=((a ^^^ b:Nat):Int):=by
 have hx:a ^^^ b<2 ^ 8:=Nat.xor_lt_two_pow (by omega) (by omega)
 show IntKind.u8.wrap ((BitVec.ofInt 8 (a:Int) ^^^ BitVec.ofInt 8 (b:Int)).toNat:Int)=_
 rw [BitVec.toNat_xor,q8_of a ha,q8_of b hb,IntKind.wrap_u8]
 omega
theorem aKS (a b:Nat)(ha:a<2 ^ 62)(hb:b<2 ^ 62):bits .xor .i64 (a:Int) (b:Int)=((a ^^^ b:Nat):Int):=by
 have hx:a ^^^ b<2 ^ 62:=Nat.xor_lt_two_pow ha hb
 show IntKind.i64.wrap ((BitVec.ofInt 64 (a:Int) ^^^ BitVec.ofInt 64 (b:Int)).toNat:Int)=_
 rw [BitVec.toNat_xor,air a (by omega),air b (by omega),aab (by omega) (by omega)]
theorem or64 (a b:Nat)(ha:a<2 ^ 62)(hb:b<2 ^ 62):bits .or .i64 (a:Int) (b:Int)=((a|||b:Nat):Int):=by
 have hx:a|||b<2 ^ 62:=Nat.or_lt_two_pow ha hb
 show IntKind.i64.wrap ((BitVec.ofInt 64 (a:Int)|||BitVec.ofInt 64 (b:Int)).toNat:Int)=_
 rw [BitVec.toNat_or,air a (by omega),air b (by omega),aab (by omega) (by omega)]
theorem xor_zero (a b:Nat):a ^^^ b=0↔a=b:=by
 constructor
 ·intro h
  have h2:a ^^^ b ^^^ b=b:=by rw [h,Nat.zero_xor]
  rw [Nat.xor_assoc,Nat.xor_self,Nat.xor_zero] at h2
  exact h2
 ·rintro rfl;exact Nat.xor_self a
theorem aCu (a b:Nat):a|||b=0↔a=0∧b=0:=by
 constructor
 ·intro h
  constructor
  ·apply Nat.eq_of_testBit_eq;intro i
   have:=congrArg (Nat.testBit · i) h
   simp at this ⊢;exact this.1
  ·apply Nat.eq_of_testBit_eq;intro i
   have:=congrArg (Nat.testBit · i) h
   simp at this ⊢;exact this.2
 ·rintro ⟨rfl,rfl⟩;rfl
def dif (a b:List Int):Nat→Nat
 | 0=>a.length ^^^ b.length
 | i+1=>dif a b i|||((a.getD i 0).toNat ^^^ (b.getD i 0).toNat)
theorem b8 {a:List Int}(h:AllB a)(i:Nat):0≤a.getD i 0∧a.getD i 0<256:=by
 rw [List.getD_eq_getElem?_getD]
 rcases Nat.lt_or_ge i a.length with hi | hi
 ·rw [List.getElem?_eq_getElem hi];exact h.get i hi
 ·rw [List.getElem?_eq_none hi];exact ⟨Int.le_refl _,by decide⟩
theorem aEt {a b:List Int}(ha:AllB a)(hb:AllB b)(la:a.length<100000)(lb:b.length<100000):∀ i,dif a b i<2 ^ 62
 | 0=>Nat.xor_lt_two_pow (by omega) (by omega)
 | i+1=>by
  have h1:=b8 ha i
  have h2:=b8 hb i
  exact Nat.or_lt_two_pow (aEt ha hb la lb i) (Nat.xor_lt_two_pow (by omega) (by omega))
theorem auu (a b:List Int):∀ i,dif a b i=0↔a.length=b.length∧∀ j,j<i→(a.getD j 0).toNat=(b.getD j 0).toNat
 | 0=>by
  unfold dif
  rw [xor_zero]
  exact ⟨fun h=>⟨h,fun j hj=>by omega⟩,fun h=>h.1⟩
 | i+1=>by
  unfold dif
  rw [aCu,auu a b i,xor_zero]
  constructor
  ·rintro ⟨⟨h1,h2⟩,h3⟩
   refine ⟨h1,fun j hj=> ?_⟩
   rcases Nat.lt_or_ge j i with h | h
   ·exact h2 j h
   ·have:j=i:=by omega
    subst this;exact h3
  ·rintro ⟨h1,h2⟩
   exact ⟨⟨h1,fun j hj=>h2 j (by omega)⟩,h2 i (by omega)⟩
theorem aFb (a b:List Int)(ha:AllB a)(hb:AllB b)(la:a.length<100000)(lb:b.length<100000){N:Nat}(hN:200000≤N):afV N a b=some (decide (a=b)):=by
 obtain ⟨m,hm⟩:∃ m,m=min a.length b.length:=⟨_,rfl⟩
 have hmi:minI (a.length:Int) (b.length:Int)=(m:Int):=by unfold minI;split <;> omega
 have hloop:ajQ N ((a,(b,(((dif a b 0:Nat):Int),((m:Int),((0:Int),()))))),())=some ((((dif a b m:Nat):Int),()),()):=by
  refine abu (G:=fun X c=>adP N X c.1.1 c.1.2.1 c.1.2.2.1 c.1.2.2.2.1 c.1.2.2.2.2.1) (fun i=>((a,(b,(((dif a b i:Nat):Int),((m:Int),(((i:Nat):Int),()))))),())) m _ (fun X i hi=> ?_) (fun X=> ?_) N 0 (Nat.zero_le _) (by omega)
  ·have c1:((i:Int)<(m:Int)):=by omega
   have hia:i<a.length:=by omega
   have hib:i<b.length:=by omega
   have h1:=b8 ha i
   have h2:=b8 hb i
   have e1:a[i]=((a.getD i 0).toNat:Int):=by
    rw [Int.toNat_of_nonneg h1.1,List.getD_eq_getElem?_getD,List.getElem?_eq_getElem hia];rfl
   have e2:b[i]=((b.getD i 0).toNat:Int):=by
    rw [Int.toNat_of_nonneg h2.1,List.getD_eq_getElem?_getD,List.getElem?_eq_getElem hib];rfl
   have hx:(a.getD i 0).toNat ^^^ (b.getD i 0).toNat<2 ^ 8:=Nat.xor_lt_two_pow (by omega) (by omega)
   have e3:IntKind.wrap .i64 ((i:Int)+1)=((i+1:Nat):Int):=by rw [aab (by omega) (by omega)];omega
   simp only [adP,c1,decide_true,cond_true,aaG a i hia,aaG b i hib,Option.bind_some,e3]
   rw [e1,e2,xor8 _ _ (by omega) (by omega),aab (by omega) (by omega),or64 _ _ (aEt ha hb la lb i) (by omega)]
   rfl
  ·have c1:¬ ((m:Int)<(m:Int)):=by omega
   simp only [adP,c1,decide_false,cond_false]
 have hx:bits .xor .i64 (a.length:Int) (b.length:Int)=((dif a b 0:Nat):Int):=aKS _ _ (by omega) (by omega)
 unfold afV
 rw [hx,hmi]
 refine (congrArg (fun o=>Option.bind o _) hloop).trans ?_
 simp only [Option.bind_some,Option.some.injEq]
 have key:((dif a b m:Nat):Int)=0↔a=b:=by
  rw [show (((dif a b m:Nat):Int)=0↔dif a b m=0) from by omega,auu]
  constructor
  ·rintro ⟨h1,h2⟩
   apply List.ext_getElem h1
   intro j hj1 hj2
   have h3:=h2 j (by omega)
   have q1:=b8 ha j
   have q2:=b8 hb j
   rw [List.getD_eq_getElem?_getD,List.getElem?_eq_getElem hj1,Option.getD_some] at h3 q1
   rw [List.getD_eq_getElem?_getD,List.getElem?_eq_getElem hj2,Option.getD_some] at h3 q2
   omega
  ·rintro rfl;exact ⟨rfl,fun _ _=>rfl⟩
 exact decide_eq_decide.2 key
theorem axm (n:Nat)(x:Int)(h:0≤x∧x<256):AllB (List.replicate n x):=fun y hy=>by rw [(List.mem_replicate.1 hy).2];exact h
def valB (p r:List Int):List Int:=p++List.replicate 8 0++r++[0]
theorem atP (p:Arr Int 16)(r:Arr Int 24):aeB 200000 p r=some (valB p.l r.l):=by
 have hp:=p.h
 have hr:=r.h
 have:adi 200000 [p.l,List.replicate (Int.toNat 8) 0,r.l,[0]]=some ([p.l,List.replicate (Int.toNat 8) 0,r.l,[0]]:List (List Int)).flatten:=ann (N:=200000) _ (by simp) (fun q hq=>by
  simp only [List.mem_cons,List.not_mem_nil,or_false] at hq
  rcases hq with rfl | rfl | rfl | rfl
  ·omega
  ·simp
  ·omega
  ·simp) (by omega)
 unfold aeB
 rw [this]
 simp [valB]
def z16:Arr Int 16:=⟨List.replicate 16 0,rfl⟩
def z24:Arr Int 24:=⟨List.replicate 24 0,rfl⟩
def aiR (v:List Int)(h:v.length=49):Arr Int 16:=⟨v.take 16,by rw [List.length_take];omega⟩
def aiF (v:List Int)(h:v.length=49):Arr Int 24:=⟨(v.drop 24).take 24,by rw [List.length_take,List.length_drop];omega⟩
def azZ (v:List Int):Prop:=(v.drop 16).take 8=List.replicate 8 0∧v.drop 48=[0]
instance (v:List Int):Decidable (azZ v):=by unfold azZ;infer_instance
theorem ayF (v:List Int)(h:v.length=49):v=v.take 16++(v.drop 16).take 8++(v.drop 24).take 24++v.drop 48:=by
 have e1:(v.drop 16).take 8++v.drop 24=v.drop 16:=by
  have:=List.take_append_drop 8 (v.drop 16)
  rw [List.drop_drop] at this;exact this
 have e2:(v.drop 24).take 24++v.drop 48=v.drop 24:=by
  have:=List.take_append_drop 24 (v.drop 24)
  rw [List.drop_drop] at this;exact this
 rw [List.append_assoc,List.append_assoc,e2,e1,List.take_append_drop]
theorem akq (v:List Int)(h:v.length=49):valB (aiR v h).l (aiF v h).l=v↔azZ v:=by
 show v.take 16++List.replicate 8 0++(v.drop 24).take 24++[0]=v↔_
 constructor
 ·intro e
  have h1:=ayF v h
  have l1:((v.drop 16).take 8).length=8:=by rw [List.length_take,List.length_drop];omega
  have l2:(v.drop 48).length=1:=by rw [List.length_drop];omega
  have e2:v.take 16++List.replicate 8 0++(v.drop 24).take 24++[0]=v.take 16++(v.drop 16).take 8++(v.drop 24).take 24++v.drop 48:=by rw [e];exact h1
  have k1:=List.append_inj' e2 (by rw [l2];rfl)
  have k2:=List.append_inj' k1.1 rfl
  have k3:=List.append_inj' k2.1 (by rw [l1];simp)
  exact ⟨k3.2.symm,k1.2.symm⟩
 ·rintro ⟨h1,h2⟩
  have:=ayF v h
  rw [h1,h2] at this
  exact this.symm
theorem at8 (v:List Int)(hb:AllB v)(hl:v.length≤200):adB 200000 v=some (if h:v.length=49 then (if azZ v then (aiR v h,aiF v h,0) else (z16,z24,3)) else (z16,z24,1)):=by
 unfold adB
 by_cases h:v.length=49
 ·have c1:((v.length:Int)=49):=by omega
  have t1:abV v (16:Int)=some (v.take 16):=acT v (i:=16) rfl (by omega)
  have t2:ac1 16 (v.take 16)=some (aiR v h):=aoz 16 _ (aiR v h).h
  have t3:subI v (24:Int) 48=some ((v.drop 24).take 24):=aeG v (i:=24) (j:=48) rfl rfl (by omega) (by omega)
  have t4:ac1 24 ((v.drop 24).take 24)=some (aiF v h):=aoz 24 _ (aiF v h).h
  have hvl:(valB (aiR v h).l (aiF v h).l).length=49:=by
   have a1:=(aiR v h).h
   have a2:=(aiF v h).h
   simp only [valB,List.length_append,List.length_replicate,List.length_cons,List.length_nil];omega
  have hvB:AllB (valB (aiR v h).l (aiF v h).l):=(((hb.take 16).append (axm 8 0 (by omega))).append ((hb.drop 24).take 24)).append (AllB.cons (by omega) AllB.nil)
  have hs:afV 200000 (valB (aiR v h).l (aiF v h).l) v=some (decide (valB (aiR v h).l (aiF v h).l=v)):=aFb _ _ hvB hb (by omega) (by omega) (by omega)
  rw [dif_pos h,decide_eq_true c1,t1,Option.bind_some,t2,Option.bind_some,t3,Option.bind_some,t4,Option.bind_some,atP,Option.bind_some,hs,Option.bind_some]
  by_cases hf:azZ v
  ·rw [if_pos hf,decide_eq_true ((akq v h).2 hf)];rfl
  ·rw [if_neg hf,decide_eq_false (fun e=>hf ((akq v h).1 e))];rfl
 ·have c1:¬ ((v.length:Int)=49):=by omega
  rw [dif_neg h,decide_eq_false c1];rfl
def sUp:List UInt8:=[79,110,32,116,104,101,32,99,108,105,101,110,116,32,115,105,100,101,44,32,116,104,105,115,32,105,115,32,116,104,101,32,115,101,110,100,32,107,101,121,59,32,111,110,32,116,104,101,32,115,101,114,118,101,114,32,115,105,100,101,44,32,105,116,32,105,115,32,116,104,101,32,114,101,99,101,105,118,101,32,107,101,121,46]
def aI8:List UInt8:=[79,110,32,116,104,101,32,99,108,105,101,110,116,32,115,105,100,101,44,32,116,104,105,115,32,105,115,32,116,104,101,32,114,101,99,101,105,118,101,32,107,101,121,59,32,111,110,32,116,104,101,32,115,101,114,118,101,114,32,115,105,100,101,44,32,105,116,32,105,115,32,116,104,101,32,115,101,110,100,32,107,101,121,46]
def aET:List UInt8:=[84,104,105,115,32,105,115,32,116,104,101,32,77,80,80,69,32,77,97,115,116,101,114,32,75,101,121]
def asQ (D:Arr Int 20):Arr Int 16:=⟨D.l.take 16,by rw [List.length_take,D.h];rfl⟩
theorem aza {D:Arr Int 20}(h:AllB D.l):AllB (asQ D).l:=h.take 16
theorem at6 (D:Arr Int 20):abV D.l 16=some (asQ D).l∧ac1 16 (asQ D).l=some (asQ D):=
 ⟨acT D.l (i:=16) rfl (by rw [D.h];decide),aoz 16 _ (asQ D).h⟩
section
variable {N:Nat}
theorem axL (h:Arr Int 16)(r:Arr Int 24):aez N h r=(acp N h).bind fun t=>(adY N [t.l,r.l,ofB aET]).bind fun d=>(abV d.l 16).bind fun x=>(ac1 16 x).bind fun y=>some y:=by kernel_rfl
theorem azo (h:Arr Int 16)(r:Arr Int 24)(hb:AllB h.l)(rb:AllB r.l):∃ M:Arr Int 16,AllB M.l∧aez 200000 h r=some M:=by
 obtain ⟨t,t2,t3,t1⟩:=aox h hb
 have tl:=t.h
 have rl:=r.h
 have sl:aET.length=27:=rfl
 obtain ⟨D,d1,d2,d3⟩:=aiB [t.l,r.l,ofB aET] (by simp) (fun p hp=>by
  simp only [List.mem_cons,List.not_mem_nil,or_false] at hp
  rcases hp with rfl | rfl | rfl
  ·exact t1
  ·exact rb
  ·exact axD _) (by simp only [List.flatten_cons,List.flatten_nil,List.length_append,abC,List.length_nil];omega)
 simp only [List.flatten_cons,List.flatten_nil,List.append_nil] at d3
 rw [←List.append_assoc] at d3
 obtain ⟨p1,p2⟩:=at6 D
 refine ⟨asQ D,aza d1, ?_⟩
 ·rw [axL,t2,Option.bind_some,d2,Option.bind_some,p1,Option.bind_some,p2,Option.bind_some]
theorem aFs (m:Arr Int 16)(s:List UInt8):agt N m s=bif aac s.length 1 then (adY N [m.l,List.replicate 40 0,ofB s,List.replicate 40 242]).bind fun d=>(abV d.l 16).bind fun x=>(ac1 16 x).bind fun y=>some y else none:=by kernel_rfl
theorem aEl (m:Arr Int 16)(s:List UInt8)(hm:AllB m.l)(hs:s.length≤200):∃ K:Arr Int 16,AllB K.l∧agt 200000 m s=some K:=by
 have ml:=m.h
 obtain ⟨D,d1,d2,d3⟩:=aiB [m.l,List.replicate 40 0,ofB s,List.replicate 40 242] (by simp) (fun p hp=>by
  simp only [List.mem_cons,List.not_mem_nil,or_false] at hp
  rcases hp with rfl | rfl | rfl | rfl
  ·exact hm
  ·exact axm _ _ (by omega)
  ·exact axD _
  ·exact axm _ _ (by omega)) (by simp only [List.flatten_cons,List.flatten_nil,List.length_append,abC,List.length_nil,List.length_replicate];omega)
 simp only [List.flatten_cons,List.flatten_nil,List.append_nil] at d3
 have hfl:m.l++(List.replicate 40 0++(ofB s++List.replicate 40 242))=m.l++List.replicate 40 0++ofB s++List.replicate 40 242:=by simp only [List.append_assoc]
 rw [hfl] at d3
 obtain ⟨p1,p2⟩:=at6 D
 refine ⟨asQ D,aza d1, ?_⟩
 ·rw [aFs,abQ (by omega),cond_true,d2,Option.bind_some,p1,Option.bind_some,p2,Option.bind_some]
theorem aJg (m:Arr Int 16)(b:Bool):alr N m b=(agt N m sUp).bind fun u=>(agt N m aI8).bind fun d=>bif b then some (d,u) else some (u,d):=by kernel_rfl
theorem aFr (m:Arr Int 16)(hm:AllB m.l):∃ U V:Arr Int 16,AllB U.l∧AllB V.l∧∀ b,alr 200000 m b=some (bif b then (V,U) else (U,V)):=by
 obtain ⟨U,u1,u2⟩:=aEl m sUp hm (by decide)
 obtain ⟨V,v1,v2⟩:=aEl m aI8 hm (by decide)
 refine ⟨U,V,u1,v1,fun b=> ?_⟩
 rw [aJg,u2,Option.bind_some,v2,Option.bind_some];cases b <;> rfl
def ayg (x y:Arr Int 16):Arr Int 32:=⟨x.l++y.l,by rw [List.length_append,x.h,y.h]⟩
theorem aEm (x y:Arr Int 16):adi 200000 [x.l,y.l]=some (x.l++y.l):=by
 have hx:=x.h
 have hy:=y.h
 have:adi 200000 [x.l,y.l]=some ([x.l,y.l]:List (List Int)).flatten:=ann (N:=200000) [x.l,y.l] (by simp) (fun p hp=>by
  simp only [List.mem_cons,List.not_mem_nil,or_false] at hp
  rcases hp with rfl | rfl <;> omega) (by omega)
 rw [this]
 simp
theorem aB8 (k:Arr Int 16×Arr Int 16)(b:Bool):ahr 200000 k b=some (bif b then ayg k.2 k.1 else ayg k.1 k.2):=by
 have h1:=fun x y:Arr Int 16=>aoz 32 (x.l++y.l) (ayg x y).h
 unfold ahr
 cases b
 ·rw [cond_false,aEm,Option.bind_some,h1,Option.bind_some];rfl
 ·rw [cond_true,aEm,Option.bind_some,h1,Option.bind_some];rfl
theorem aFC (h:Arr Int 16)(r:Arr Int 24)(M U V:Arr Int 16)(hM:aez 200000 h r=some M)(hK:∀ b,alr 200000 M b=some (bif b then (V,U) else (U,V)))(b:Bool):aeN 200000 h r b=some (ayg U V):=by
 unfold aeN
 rw [hM,Option.bind_some,hK b,Option.bind_some,aB8,Option.bind_some]
 cases b <;> rfl
end
theorem aF5 {x y:Arr Int 16}(hx:AllB x.l)(hy:AllB y.l):AllB (ayg x y).l:=hx.append hy
theorem aCS (h:Arr Int 16)(r:Arr Int 24)(hb:AllB h.l)(rb:AllB r.l):∃ K:Arr Int 32,AllB K.l∧∀ b,aeN 200000 h r b=some K:=by
 obtain ⟨M,m1,m2⟩:=azo h r hb rb
 obtain ⟨U,V,u1,v1,hk⟩:=aFr M m1
 exact ⟨ayg U V,aF5 u1 v1,fun b=>aFC h r M U V m2 hk b⟩
theorem akY {n:Nat}(h:n<10):Lib.decDigits n=[UInt8.ofNat (48+n)]:=by rw [Lib.decDigits,dif_pos h]
theorem atu {n:Nat}(h:¬ n<10):Lib.decDigits n=Lib.decDigits (n / 10)++[UInt8.ofNat (48+n % 10)]:=by rw [Lib.decDigits,dif_neg h]
theorem aAc {n:Nat}(h:n≤9999):(Lib.decDigits n).length≤4:=by
 by_cases h1:n<10
 ·rw [akY h1];simp
 ·rw [atu h1]
  by_cases h2:n / 10<10
  ·rw [akY h2];simp
  ·rw [atu h2]
   by_cases h3:n / 10 / 10<10
   ·rw [akY h3];simp
   ·rw [atu h3,akY (by omega:n / 10 / 10 / 10<10)];simp
theorem aCM (n:Nat):Lib.itoa (n:Int)=Lib.decDigits n:=by
 unfold Lib.itoa
 rw [if_neg (by omega)]
 rfl
theorem getB (s:List UInt8)(i:Nat)(h:i<s.length):getI (ofB s) (i:Int)=some ((s[i].toNat:Nat):Int):=by
 rw [akJ]
 unfold ofB
 rw [List.getElem?_map,List.getElem?_eq_getElem h]
 rfl
abbrev Fl:Type:=Int×(Bool×((Arr Int 16)×(List UInt8)))
def fin (c:UInt8):Bool:=decide (32≤c.toNat)&&decide (c.toNat≤126)
def asc (s:List UInt8):Bool:=s.all fin
theorem aDi (s:List UInt8)(i:Nat)(h:i<s.length):asc (s.drop i)=(fin s[i]&&asc (s.drop (i+1))):=by
 rw [List.drop_eq_getElem_cons h];rfl
section
variable {N:Nat}
theorem ascP (s:List UInt8)(hs:s.length≤100000):∀ (n k i:Nat),i+n=s.length→n<k→gl (fun X c=>abz N X c.1.1 c.1.2.1 c.1.2.2.1) k ((ofB s,((s.length:Int),((i:Int),()))),())=some (if asc (s.drop i)=true then .inr ((),()) else .inl ((false,()),()))
 | 0,k+1,i,hi,_=>by
  have c1:¬ ((i:Int)<(s.length:Int)):=by omega
  rw [aae,List.drop_eq_nil_of_le (by omega)]
  simp only [abz,c1,decide_false,cond_false]
  rfl
 | n+1,k+1,i,hi,hk=>by
  have c1:((i:Int)<(s.length:Int)):=by omega
  have hlt:i<s.length:=by omega
  have g:=getB s i hlt
  have w:IntKind.wrap .i64 ((i:Int)+1)=((i+1:Nat):Int):=by rw [aab (by omega) (by omega)];omega
  have ih:=ascP s hs n k (i+1) (by omega) (by omega)
  rw [aae,aDi s i hlt]
  by_cases h1:((s[i].toNat:Nat):Int)<32
  ·have e:fin s[i]=false:=by unfold fin;rw [decide_eq_false (by omega)];rfl
   simp only [abz,c1,decide_true,cond_true,g,Option.bind_some,h1,e,Bool.false_and]
   rfl
  ·by_cases h2:(126:Int)<((s[i].toNat:Nat):Int)
   ·have e:fin s[i]=false:=by unfold fin;rw [decide_eq_false (p:=s[i].toNat≤126) (by omega),Bool.and_false]
    simp only [abz,c1,decide_true,cond_true,g,Option.bind_some,h1,h2,decide_false,cond_false,e,Bool.false_and]
    rfl
   ·have e:fin s[i]=true:=by unfold fin;rw [decide_eq_true (p:=32≤s[i].toNat) (by omega),decide_eq_true (by omega)];rfl
    simp only [abz,c1,decide_true,cond_true,g,Option.bind_some,h1,h2,decide_false,cond_false,e,Bool.true_and,w]
    exact ih
theorem aLl (s:List UInt8)(hs:s.length≤10000)(hN:20000≤N):aft N s=some (asc s):=by
 unfold aft
 rw [rpos (by omega) (by omega),abC]
 have h:aik N ((ofB s,((s.length:Int),(((0:Nat):Int),()))),())=_:=ascP s (by omega) s.length N 0 (by omega) (by omega)
 refine (bnd h).trans ?_
 rw [List.drop_zero]
 cases asc s <;> rfl
end
def mE:List UInt8:=[69,61]
def mR:List UInt8:=[32,82,61]
def mC:List UInt8:=[32,67,61]
def mV:List UInt8:=[32,86,61,51,32,77,61]
def L8 (D A H T:List UInt8):List UInt8:=((((((mE++D)++mR)++A)++mC)++H)++mV)++T
def agS (a:Bool):List UInt8:=if a then [49] else [48]
def layF (f:Fl):List UInt8:=L8 (Lib.decDigits f.1.toNat) (agS f.2.1) (hexS f.2.2.1.l) f.2.2.2
def aFF (f:Fl):List Int×Int:=if f.1<0∨9999<f.1 then ([],1) else if asc f.2.2.2=true then (ofB (layF f),0) else ([],3)
theorem aJM (f:Fl)(hc:AllB f.2.2.1.l)(ht:f.2.2.2.length≤1000):afr 200000 f=some (aFF f):=by
 obtain ⟨n,ag,c,t⟩:=f
 simp only at hc ht
 have hcl:=c.h
 have bl:=aax
 unfold aFF afr
 dsimp only
 by_cases h1:n<0∨9999<n
 ·have e:(bif decide (n<0) then some true else some (cond false true (decide (9999<n))))=some true:=by
   by_cases h2:n<0
   ·exact bpos h2
   ·exact (bneg h2).trans (by rw [decide_eq_true (by omega)];rfl)
  rw [if_pos h1]
  exact (bnd e).trans rfl
 ·have e:(bif decide (n<0) then some true else some (cond false true (decide (9999<n))))=some false:=(bneg (by omega)).trans (by rw [decide_eq_false (by omega)];rfl)
  rw [if_neg h1]
  refine (bnd e).trans ?_
  refine (bnd (aLl t (by omega) (by omega))).trans ?_
  obtain ⟨m,rfl⟩:∃ m:Nat,n=(m:Int):=⟨n.toNat,by omega⟩
  have hm:m≤9999:=by omega
  have hd:=aAc hm
  have hx:=aJF (N:=200000) c.l hc (by omega) (by omega)
  have hxl:=ah1 c.l
  unfold layF
  simp only [Int.toNat_natCast]
  rw [aCM]
  generalize Lib.decDigits m=D at hd
  cases hA:asc t
  ·rfl
  ·simp only [Bool.not_true,cond_false,if_true]
   cases ag
   ·simp only [cond_false]
    refine (bpos (by omega)).trans ?_
    iterate 4 (refine (bpos (by simp only [List.length_append,List.length_cons,List.length_nil];omega)).trans ?_)
    refine (bnd hx).trans ?_
    iterate 3 (refine (bpos (by simp only [List.length_append,List.length_cons,List.length_nil];omega)).trans ?_)
    refine (rpos (by simp only [List.length_append,List.length_cons,List.length_nil];omega) (by omega)).trans ?_
    rfl
   ·simp only [cond_true]
    refine (bpos (by omega)).trans ?_
    iterate 4 (refine (bpos (by simp only [List.length_append,List.length_cons,List.length_nil];omega)).trans ?_)
    refine (bnd hx).trans ?_
    iterate 3 (refine (bpos (by simp only [List.length_append,List.length_cons,List.length_nil];omega)).trans ?_)
    refine (rpos (by simp only [List.length_append,List.length_cons,List.length_nil];omega) (by omega)).trans ?_
    rfl
end Go.Proofs.YtkcdnjgieabjoaaGreatDoor
