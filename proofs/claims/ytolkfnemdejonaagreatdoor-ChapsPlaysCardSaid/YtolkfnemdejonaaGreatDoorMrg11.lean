/-
  Parts of my own, one behind the other: QCa5, QCs0, QCs1, QCs2, QCs3, QCs4, QCs5, QCM6, QCU0, QCU1, QCU2, QCU3, QCU4, QCp1, QCp2, QCp3, Qp0, Qp1, Qp2, Qp3, Qp4, Qp5.
-/
import Derived.Test.YtolkfnemdejonaaGreatDoorMrg10
import Derived.Test.YtolkfnemdejonaaGreatDoorMrg4
open Option renaming bind_some→gt, bind→Dm
open Go.IntKind renaming wrap→ne, bits→Dj, wrap_u8→DK, u64→DR, wrap_u64→D1
open List renaming replicate→C5, length_append→C6, drop_eq_getElem_cons→C7, length_cons→C8, length_drop→Da, length_take→Dc, drop_eq_nil_of_le→Dd, append_assoc→Df, length_nil→Dh, append_nil→Di, take_of_length_le→Dk, take_add_one→Do, flatten_cons→Dt, take_set_of_le→Dv, not_mem_nil→Dw, flatten_nil→Dx, mem_cons→Dz, getElem_mem→DF, length_replicate→DH, drop_drop→DI, drop_zero→DN, take_append_drop→DO, nil_append→DP
open Int renaming toNat_natCast→C9, toNat→Db, tmod_eq_emod_of_nonneg→Dn, tdiv_eq_ediv_of_nonneg→DB, fdiv_eq_ediv_of_nonneg→DD, fdiv→DJ, tmod→DW, natCast_zero→D2, tdiv→D3
open Go.Proofs.YtolkfnemdejonaaGreatDoor.Arr renaming cons→Dg, nil→DU
open Nat renaming le_refl→Dq, pow_le_pow_right→DS, xor_lt_two_pow→DV, reduceAdd→DY, eq_of_testBit_eq→DZ, zero_le→D0, testBit_and→D4
open Go.Utf8 renaming runeError→Ds
open UInt8 renaming instOfNat→Du
open Go.Lib renaming decDigits→Dy
open Bool renaming not_true→DA, and_eq_true→DL, true_and→DM, false_and→DT, eq_iff_iff→DX
open BitVec renaming ofInt→DC
open OfNat renaming ofNat→DE
open Go.Proofs.YtolkfnemdejonaaGreatDoor.AllB renaming append→DQ
namespace Go.Proofs.YtolkfnemdejonaaGreatDoor
set_option maxRecDepth 100000
open Go.RowKit
set_option linter.unusedVariables false
set_option linter.unusedSimpArgs false
set_option maxRecDepth 100000
theorem Arr.eq {α:Type}{n:Nat}{a b:Arr α n}(h:a.l=b.l):a=b:=by
 cases a;cases b;simp only at h;subst h;rfl
noncomputable def stepB (N:Nat)(t:Arr Int 4)(l:List Int):Option (Arr Int 4):=(eW 64 l).bind fun a=>iw N t a ks04
noncomputable def runB (N:Nat):Nat→Arr Int 4→List Int→Option (Arr Int 4)
 | 0,t,_=>some t
 | m+1,t,l=>(stepB N t (l.take 64)).bind fun t'=>runB N m t' (l.drop 64)
theorem toArr64 (l:List Int)(h:64≤l.length):∃ a:Arr Int 64,a.l=l.take 64∧eW 64 (l.take 64)=some a:=by
 have h1:64≤(l.take 64).length:=by rw [Dc];omega
 refine ⟨⟨(l.take 64).take 64,by rw [Dc];omega⟩, ?_,dif_pos h1⟩
 exact Dk (by rw [Dc];omega)
section
variable {N:Nat}
theorem runB_some (hN:10000≤N):∀ (m:Nat) (t:Arr Int 4) (l:List Int),AllW t.l→AllB l→l.length=64*m→∃ t',AllW t'.l∧runB N m t l=some t'
 | 0,t,l,ht,_,_=>⟨t,ht,rfl⟩
 | m+1,t,l,ht,hl,hm=>by
  obtain ⟨a,a1,a2⟩:=toArr64 l (by omega)
  obtain ⟨t1,h1,h2,_⟩:=behind_pair (N:=N) hN t a ht (by rw [a1];exact hl.take 64)
  obtain ⟨t',h3,h4⟩:=runB_some hN m t1 (l.drop 64) h1 (hl.drop 64) (by rw [Da];omega)
  refine ⟨t',h3, ?_⟩
  unfold runB stepB
  rw [a2,gt,h2,gt,h4]
theorem loopOf (hN:10000≤N)(all:List Int)(ha:all.length<100000)(h0:Arr Int 16):∀ (m M i:Nat) (t t':Arr Int 4),m<M→all.length=i+64*m→runB N m t (all.drop i)=some t'→
  gl (fun X c=>mQ N X c.1.1 c.1.2.1 c.2.1 c.2.2.1 c.2.2.2.1) M ((all,((i:Int),())),(h0,(t,(ks04,()))))=some ((),(h0,(t',())))
 | 0,M+1,i,t,t',hM,hi,hr=>by
  have c1:¬ ((i:Int)<(all.length:Int)):=by omega
  have hr:some t=some t':=hr
  injection hr with hr
  subst hr
  rw [ah]
  simp only [mQ,c1,decide_false,cond_false]
 | m+1,M+1,i,t,t',hM,hi,hr=>by
  have c1:((i:Int)<(all.length:Int)):=by omega
  have e0:ne .i64 ((i:Int)+64)=((i+64:Nat):Int):=by rw [ac (by omega) (by omega)];omega
  have s1:subI all (i:Int) ((i+64:Nat):Int)=some ((all.drop i).take 64):=by
   rw [iE all rfl rfl (by omega) (by omega)];congr 2;omega
  unfold runB stepB at hr
  cases hb:eW 64 ((all.drop i).take 64) with
  | none=>rw [hb] at hr;cases hr
  | some a=>
   rw [hb,gt] at hr
   cases hc:iw N t a ks04 with
   | none=>rw [hc] at hr;cases hr
   | some t1=>
    rw [hc,gt,DI] at hr
    have ih:=loopOf hN all ha h0 m M (i+64) t1 t' (by omega) (by omega) (by rw [show i+64=i+64 from rfl];exact hr)
    rw [ah]
    simp only [mQ,c1,decide_true,cond_true,e0,s1,gt,hb,hc]
    exact ih
theorem fillOf (hN:10000≤N)(all:List Int)(ha:all.length<100000)(h0:Arr Int 16)(t:Arr Int 4)(x:Nat)(hx:x+64≤all.length):∀ (k M i:Nat) (blk:Arr Int 64),k+i=64→k<M→
  ∃ b2:Arr Int 64,b2.l=blk.l.take i++(all.drop (x+i)).take k∧gl (fun X c=>ig N X c.1.1 c.1.2.1 c.2.1 c.2.2.1 c.2.2.2.1 c.2.2.2.2.1) M (((x:Int),((i:Int),())),(h0,(all,(t,(blk,())))))=some (((x:Int),()),(h0,(all,(t,(b2,())))))
 | 0,M+1,i,blk,hk,hM=>by
  have c1:¬ ((i:Int)<64):=by omega
  refine ⟨blk, ?_, ?_⟩
  ·rw [Dk (by rw [blk.h];omega),List.take_zero,Di]
  ·rw [ah]
   simp only [ig,c1,decide_false,cond_false]
 | k+1,M+1,i,blk,hk,hM=>by
  have hbl:=blk.h
  have c1:((i:Int)<64):=by omega
  have e0:ne .i64 ((i:Int)+1)=((i+1:Nat):Int):=by rw [ac (by omega) (by omega)];omega
  have e2:ne .i64 ((x:Int)+(i:Int))=((x+i:Nat):Int):=by rw [ac (by omega) (by omega)];omega
  have c2:(0:Int)≤((x+i:Nat):Int)∧((x+i:Nat):Int)<(all.length:Int):=by omega
  have c3:(0:Int)≤(i:Int)∧(i:Int)<((64:Nat):Int):=by omega
  have e1:Db (i:Int)=i:=C9 i
  have e3:Db ((x+i:Nat):Int)=x+i:=C9 _
  have g1:all[x+i]? =some (all[x+i]'(by omega)):=List.getElem?_eq_getElem _
  have g2:blk.l[i]? =some (blk.l[i]'(by omega)):=List.getElem?_eq_getElem _
  obtain ⟨b2,h1,h2⟩:=fillOf hN all ha h0 t x hx k M (i+1) (blk.set i (all[x+i]'(by omega))) (by omega) (by omega)
  refine ⟨b2, ?_, ?_⟩
  ·rw [h1]
   have q1:(blk.set i (all[x+i]'(by omega))).l.take (i+1)=blk.l.take i++[all[x+i]'(by omega)]:=by
    show (blk.l.set i _).take (i+1)=_
    rw [Do,Dv (Dq _),List.getElem?_set_self (by omega)]
    rfl
   rw [q1,Df]
   congr 1
   rw [C7 (show x+i<all.length by omega),List.take_succ_cons]
   rfl
  ·rw [ah]
   simp only [ig,c1,decide_true,cond_true,e2,c2,and_self,e3,g1,gt,c3,e1,g2,e0]
   exact h2
theorem loopRef (hN:10000≤N)(all:List Int)(ha:all.length<100000)(hB:AllB all)(h0:Arr Int 16):∀ (m M i:Nat) (t t':Arr Int 4),m<M→all.length=i+64*m→AllW t.l→runB N m t (all.drop i)=some t'→
  gl (fun X c=>ij N X c.1.1 c.2.1 c.2.2.1 c.2.2.2.1) M (((i:Int),()),(h0,(all,(t,()))))=some ((),(h0,(t',())))
 | 0,M+1,i,t,t',hM,hi,hw,hr=>by
  have c1:¬ ((i:Int)<(all.length:Int)):=by omega
  have hr:some t=some t':=hr
  injection hr with hr
  subst hr
  rw [ah]
  simp only [ij,c1,decide_false,cond_false]
 | m+1,M+1,i,t,t',hM,hi,hw,hr=>by
  have c1:((i:Int)<(all.length:Int)):=by omega
  have e0:ne .i64 ((i:Int)+64)=((i+64:Nat):Int):=by rw [ac (by omega) (by omega)];omega
  obtain ⟨b2,f1,f2⟩:=fillOf (N:=N) hN all ha h0 t i (by omega) 64 N 0 ⟨C5 64 0,rfl⟩ (by omega) (by omega)
  have f2':rA N (((i:Int),((0:Int),())),(h0,(all,(t,((⟨C5 64 0,rfl⟩:Arr Int 64),())))))=some (((i:Int),()),(h0,(all,(t,(b2,()))))):=f2
  have f1':b2.l=(all.drop i).take 64:=by rw [f1];simp
  obtain ⟨a,a1,a2⟩:=toArr64 (all.drop i) (by rw [Da];omega)
  have hab:a=b2:=Arr.eq (by rw [a1,f1'])
  subst hab
  obtain ⟨t1,h1,h2,h3⟩:=behind_pair (N:=N) hN t a hw (by rw [a1];exact (hB.drop i).take 64)
  unfold runB stepB at hr
  rw [a2,gt,h2,gt,DI] at hr
  have ih:=loopRef hN all ha hB h0 m M (i+64) t1 t' (by omega) (by omega) h1 hr
  rw [ah]
  simp only [ij,c1,decide_true,cond_true]
  refine (congrArg (fun o=>Dm o _) f2').trans ?_
  simp only [gt,h3,e0]
  exact ih
def dg4 (a b c d:Int):List Int:=by4 a++by4 b++by4 c++by4 d
theorem at2 (a b c d:Int):AllB (dg4 a b c d):=DQ (DQ (DQ (by4_B a) (by4_B b)) (by4_B c)) (by4_B d)
theorem asp (a b c d:Int)(i:Nat)(hi:i<16)(v:Int)(hv:([a,b,c,d]:List Int)[i / 4]? =some v):(dg4 a b c d)[i]? =some (ne .u8 (DJ v (2 ^ (8*(i % 4))))):=by
 have fd:∀ k:Nat,DJ v (2 ^ k)=v / 2 ^ k:=fun k=>DD _ (Int.le_of_lt (Int.pow_pos (by decide)))
 rw [fd,DK]
 have:i=0∨i=1∨i=2∨i=3∨i=4∨i=5∨i=6∨i=7∨i=8∨i=9∨i=10∨i=11∨i=12∨i=13∨i=14∨i=15:=by omega
 rcases this with rfl | rfl | rfl | rfl | rfl | rfl | rfl | rfl | rfl | rfl | rfl | rfl | rfl | rfl | rfl | rfl <;> simp at hv <;> subst hv <;> simp [dg4,by4]
theorem outRef (hN:10000≤N)(a b c d:Int)(ht:([a,b,c,d]:List Int).length=4)(h0:Arr Int 16):∀ (k M i:Nat) (o:Arr Int 16),k+i=16→k<M→
  ∃ D:Arr Int 16,D.l=o.l.take i++(dg4 a b c d).drop i∧gl (fun X c=>fZ N X c.1.1 c.2.1 c.2.2.1 c.2.2.2.1) M (((i:Int),()),(h0,((⟨[a,b,c,d],ht⟩:Arr Int 4),(o,()))))=some ((),(h0,(D,())))
 | 0,M+1,i,o,hk,hM=>by
  have c1:¬ ((i:Int)<16):=by omega
  have hol:=o.h
  refine ⟨o, ?_, ?_⟩
  ·rw [Dk (by omega),Dd (by simp [dg4,by4];omega),Di]
  ·rw [ah]
   simp only [fZ,c1,decide_false,cond_false]
 | k+1,M+1,i,o,hk,hM=>by
  have hol:=o.h
  have c1:((i:Int)<16):=by omega
  have e0:ne .i64 ((i:Int)+1)=((i+1:Nat):Int):=by rw [ac (by omega) (by omega)];omega
  have f1:ne .i64 (D3 (i:Int) 4)=((i / 4:Nat):Int):=by
   rw [DB (by omega),ac (by omega) (by omega)];omega
  have f0:ne .i64 ((8:Int)*DW (i:Int) 4)=((8*(i % 4):Nat):Int):=by
   rw [Dn (by omega),ac (by omega) (by omega)];omega
  have c2:(0:Int)≤((i / 4:Nat):Int)∧((i / 4:Nat):Int)<((4:Nat):Int):=by omega
  have c3:(0:Int)≤((8*(i % 4):Nat):Int):=by omega
  have c4:(0:Int)≤(i:Int)∧(i:Int)<((16:Nat):Int):=by omega
  have e1:Db (i:Int)=i:=C9 i
  have e2:Db ((i / 4:Nat):Int)=i / 4:=C9 _
  have e3:min (Db ((8*(i % 4):Nat):Int)) (Dj .u32)=8*(i % 4):=by
   rw [C9];show min _ 32=_;omega
  have g1:([a,b,c,d]:List Int)[i / 4]? =some (([a,b,c,d]:List Int)[i / 4]'(by simp;omega)):=List.getElem?_eq_getElem _
  have g2:o.l[i]? =some (o.l[i]'(by omega)):=List.getElem?_eq_getElem _
  have hd:=asp a b c d i (by omega) _ g1
  generalize ([a,b,c,d]:List Int)[i / 4]'(by simp;omega)=v at *
  obtain ⟨D,h1,h2⟩:=outRef hN a b c d ht h0 k M (i+1) (o.set i (ne .u8 (DJ v (2 ^ (8*(i % 4)))))) (by omega) (by omega)
  refine ⟨D, ?_, ?_⟩
  ·rw [h1]
   have q1:(o.set i (ne .u8 (DJ v (2 ^ (8*(i % 4)))))).l.take (i+1)=o.l.take i++[ne .u8 (DJ v (2 ^ (8*(i % 4))))]:=by
    show (o.l.set i _).take (i+1)=_
    rw [Do,Dv (Dq _),List.getElem?_set_self (by omega)]
    rfl
   rw [q1,Df]
   congr 1
   obtain ⟨hlt,hv⟩:=List.getElem?_eq_some_iff.1 hd
   rw [C7 hlt,hv]
   rfl
  ·rw [ah]
   simp only [fZ,c1,decide_true,cond_true,f1,c2,and_self,e2,g1,gt,f0,c3,c4,e1,g2,e0,e3]
   exact h2
end
def nU:Arr Int 4:=Dg 1732584193 (Dg 4023233417 (Dg 2562383102 (Dg 271733878 DU)))
theorem first_W:AllW nU.l:=fun x hx=>by
 simp only [nU,Dg,DU,Dz,Dw,or_false] at hx
 rcases hx with rfl | rfl | rfl | rfl <;> omega
def nb (n:Nat):Nat:=(n+(qM (n:Int)).length) / 64
theorem nb_ok (n:Nat)(l:List Int)(h:l.length=n):(l++qM (n:Int)).length=64*nb n:=by
 unfold nb
 rw [C6,uC,h]
 unfold nz
 omega
theorem of_ok (l:List (List Int))(hl:l.length≤1000)(hs:∀ p∈l,p.length≤5000∧AllB p)(hf:l.flatten.length≤5000):
  ∃ a b c d ht,∃ D:Arr Int 16,runB 200000 (nb l.flatten.length) nU (l.flatten++qM (l.flatten.length:Int))=some ⟨[a,b,c,d],ht⟩∧AllW [a,b,c,d]∧D.l=dg4 a b c d∧tv 200000 l=some D:=by
 have hB:AllB l.flatten:=fun x hx=>by
  obtain ⟨p,hp,hx⟩:=List.mem_flatten.1 hx
  exact (hs p hp).2 x hx
 have hall:AllB (l.flatten++qM (l.flatten.length:Int)):=hB.append (ad9 _)
 have hlen:=nb_ok l.flatten.length l.flatten rfl
 have htl:=uC (l.flatten.length:Int)
 have hnz:=nz_lt (l.flatten.length:Int)
 obtain ⟨t',t1,t2⟩:=runB_some (N:=200000) (by omega) (nb l.flatten.length) nU _ first_W hall hlen
 match t',t1,t2 with
 | ⟨[a,b,c,d],ht⟩,t1,t2=>
  obtain ⟨D,d1,d2⟩:=digest_ok (N:=200000) a b c d ht t1 (by omega)
  refine ⟨a,b,c,d,ht,D,t2,t1,d1, ?_⟩
  have hj:∀ h0,_:=fun h0=>joinS (N:=200000) l h0 hl (fun p hp=>by have:=(hs p hp).1;omega) (by omega)
  have hwn:ne .u64 (l.flatten.length:Int)=(l.flatten.length:Int):=aR (by omega) (by omega)
  have htail:=C1 (N:=200000) (l.flatten.length:Int) (by omega) (by omega)
  have c4:(decide ((0:Int)≤(0:Int)∧(0:Int)≤(l.flatten.length:Int))&&ae (Db (l.flatten.length:Int)) 1)=true:=by
   rw [DL]
   exact ⟨decide_eq_true ⟨by omega,by omega⟩,aH (by have:=aL;omega) (by omega)⟩
  have c5:ae (l.flatten.length+(qM (l.flatten.length:Int)).length) 1=true:=aH (by have:=aL;omega) (by omega)
  have hloop:∀ h0,vA 200000 (((l.flatten++qM (l.flatten.length:Int)),((0:Int),())),(h0,(nU,(ks04,()))))=some ((),(h0,((⟨[a,b,c,d],ht⟩:Arr Int 4),()))):=fun h0=>
   loopOf (N:=200000) (by omega) _ (by rw [C6];omega) h0 (nb l.flatten.length) 200000 0 nU _ (by rw [C6] at hlen;omega) (by rw [hlen];omega) t2
  have e0:C5 (Db 0) (0:Int)=[]:=rfl
  unfold tv
  rw [(hj _).1,gt]
  simp only [c4,cond_true,e0]
  rw [(hj _).2,gt]
  simp only [hwn]
  rw [htail,gt]
  simp only [c5,cond_true,ah6,gt]
  refine (congrArg (fun o=>Dm o _) (hloop _)).trans ?_
  simp only [gt,d2]
theorem refOf_ok (b:List Int)(hb:AllB b)(hl:b.length≤1000){a c d e:Int}{ht:([a,c,d,e]:List Int).length=4}(hr:runB 200000 (nb b.length) nU (b++qM (b.length:Int))=some ⟨[a,c,d,e],ht⟩):
  ∃ D:Arr Int 16,D.l=dg4 a c d e∧k9 200000 b=some D:=by
 have htl:=uC (b.length:Int)
 have hnz:=nz_lt (b.length:Int)
 have hlen:=nb_ok b.length b rfl
 have hwn:ne .u64 (b.length:Int)=(b.length:Int):=aR (by omega) (by omega)
 have htail:=wH (N:=200000) (b.length:Int) (by omega) (by omega)
 have c0:ae b.length 1=true:=aH (by have:=aL;omega) (by omega)
 have c5:ae (b.length+(qM (b.length:Int)).length) 1=true:=aH (by have:=aL;omega) (by omega)
 obtain ⟨D,d1,d2⟩:=outRef (N:=200000) (by omega) a c d e ht ⟨C5 16 0,rfl⟩ 16 200000 0 ⟨C5 16 0,rfl⟩ (by omega) (by omega)
 have hloop:rB 200000 (((0:Int),()),((⟨C5 16 0,rfl⟩:Arr Int 16),((b++qM (b.length:Int)),(nU,()))))=some ((),((⟨C5 16 0,rfl⟩:Arr Int 16),((⟨[a,c,d,e],ht⟩:Arr Int 4),()))):=
  loopRef (N:=200000) (by omega) _ (by rw [C6];omega) (hb.append (ad9 _)) _ (nb b.length) 200000 0 nU _ (by rw [C6] at hlen;omega) (by rw [hlen];omega) first_W hr
 have hout:qC 200000 (((0:Int),()),((⟨C5 16 0,rfl⟩:Arr Int 16),((⟨[a,c,d,e],ht⟩:Arr Int 4),((⟨C5 16 0,rfl⟩:Arr Int 16),()))))=some ((),((⟨C5 16 0,rfl⟩:Arr Int 16),(D,()))):=d2
 refine ⟨D,by simpa using d1, ?_⟩
 unfold k9
 simp only [c0,cond_true,hwn,htail,gt,c5]
 refine (congrArg (fun o=>Dm o _) hloop).trans ?_
 simp only [gt]
 refine (congrArg (fun o=>Dm o _) hout).trans ?_
 rfl
theorem wfB_b {n:Nat}(a:Arr Int n)(h:AllB a.l):wfB (.arr n (.int .u8)) a=true:=List.all_eq_true.2 fun x hx=>by
 have h1:=h x hx
 show (Lit.int .u8 x).wf=true
 simp only [Lit.wf,DL,decide_eq_true_eq,IntKind.min,IntKind.max,IntKind.signed,Dj]
 simp
 omega
end Go.Proofs.YtolkfnemdejonaaGreatDoor
namespace Go.Proofs.YtolkfnemdejonaaGreatDoor.Sh
set_option maxRecDepth 100000
set_option maxRecDepth 100000
theorem ah5:iF 200000=some (Dg 1518500249 (Dg 1859775393 (Dg 2400959708 (Dg 3395469782 DU)))):=by kernel_rfl
end Go.Proofs.YtolkfnemdejonaaGreatDoor.Sh
namespace Go.Proofs.YtolkfnemdejonaaGreatDoor.Sh
set_option maxRecDepth 100000
open Go.RowKit
set_option linter.unusedVariables false
set_option linter.unusedSimpArgs false
set_option maxRecDepth 100000
def AllW (l:List Int):Prop:=∀ x∈l,0≤x∧x<4294967296
theorem AllW.get {l:List Int}(h:AllW l)(i:Nat)(hi:i<l.length):0≤l[i]∧l[i]<4294967296:=h _ (DF hi)
theorem AllW.set {l:List Int}(h:AllW l)(i:Nat){x:Int}(hx:0≤x∧x<4294967296):AllW (l.set i x):=fun y hy=>by
 rcases List.mem_or_eq_of_mem_set hy with h1 | rfl
 ·exact h y h1
 ·exact hx
theorem w32 (x:Int):ne .u32 x=x % 4294967296:=IntKind.wrap_u32 x
theorem w32r (x:Int):0≤ne .u32 x∧ne .u32 x<4294967296:=by rw [w32];omega
theorem or32r (a b:Int):0≤bits .or .u32 a b∧bits .or .u32 a b<4294967296:=w32r _
theorem not32 (b:Int)(h:0≤b∧b<4294967296):bits .xor .u32 (if IntKind.signed .u32=true then (-1) else IntKind.max .u32) b=ne .u32 (4294967295-b):=by
 obtain ⟨x,rfl⟩:=Int.eq_ofNat_of_zero_le h.1
 show IntKind.u32.wrap ((DC 32 4294967295 ^^^ DC 32 (x:Int)).toNat:Int)=_
 have e1:(DC 32 4294967295:BitVec 32)=BitVec.allOnes 32:=by decide
 rw [e1,BitVec.allOnes_xor,BitVec.toNat_not,BitVec.ofInt_natCast,BitVec.toNat_ofNat,w32,w32]
 have:x % 2 ^ 32=x:=Nat.mod_eq_of_lt (by omega)
 rw [this]
 omega
theorem drop4 (l:List Int)(i:Nat)(h:i+4≤l.length):(l.drop i).take (i+4-i)=[l[i],l[i+1],l[i+2],l[i+3]]:=by
 rw [show i+4-i=4 by omega,C7 (by omega),C7 (by omega),C7 (by omega),C7 (by omega)]
 rfl
section
variable {N:Nat}
theorem atY (x y z u:Int)(hx:0≤x∧x<256)(hy:0≤y∧y<256)(hz:0≤z∧z<256)(hu:0≤u∧u<256)(hN:100≤N):iG N [x,y,z,u] false=some (((x*256+y)*256+z)*256+u,0):=get4 x y z u hx hy hz hu hN
theorem q1:(2:Int) ^ min (Db (bits .and .u64 (ne .u64 1) 31)) (Dj .u32)=2:=by decide +kernel
theorem q2:(2:Int) ^ min (Db (ne .u64 (32-bits .and .u64 (ne .u64 1) 31))) (Dj .u32)=2147483648:=by decide +kernel
theorem q3:(2:Int) ^ min (Db 1) (Dj .u32)=2:=by decide +kernel
theorem q4:(2:Int) ^ min (Db (ne .i64 (32-1))) (Dj .u32)=2147483648:=by decide +kernel
theorem su (hN:10000≤N)(b:Arr Int 64)(hb:AllB b.l)(s:Arr Int 5)(h0:Arr Int 80)(h0':Arr Int 5):∀ (k M i:Nat) (h1:Arr Int 80),k+i=80→k<M→AllW h1.l→
  ∃ h2:Arr Int 80,AllW h2.l∧gl (fun X c=>dO N X c.1.1 c.1.2.1 c.2.1 c.2.2.1) M ((b,((i:Int),())),(h0,(h1,())))=some ((),(h0,(h2,())))∧
   gl (fun X c=>c8 N X c.1.1 c.1.2.1 c.1.2.2.1 c.2.1 c.2.2.1) M ((s,(b,((i:Int),()))),(h0',(h1,())))=some ((s,()),(h0',(h2,())))
 | 0,M+1,i,h1,hk,hM,hw=>by
  have c1:¬ ((i:Int)<80):=by omega
  refine ⟨h1,hw, ?_, ?_⟩
  ·simp only [gl,dO,c1,decide_false,cond_false]
  ·simp only [gl,c8,c1,decide_false,cond_false]
 | k+1,M+1,i,h1,hk,hM,hw=>by
  have hl:=h1.h
  have hbl:=b.h
  have c1:((i:Int)<80):=by omega
  have c2:(0:Int)≤(i:Int)∧(i:Int)<((80:Nat):Int):=by omega
  have e0:ne .i64 ((i:Int)+1)=((i+1:Nat):Int):=by rw [ac (by omega) (by omega)];omega
  have e1:Db (i:Int)=i:=C9 i
  have g1:h1.l[i]? =some (h1.l[i]'(by omega)):=List.getElem?_eq_getElem _
  by_cases h16:i<16
  ·have c3:((i:Int)<16):=by omega
   have s1:ne .i64 ((4:Int)*(i:Int))=((4*i:Nat):Int):=by rw [ac (by omega) (by omega)];omega
   have s2:ne .i64 (((4*i:Nat):Int)+4)=((4*i+4:Nat):Int):=by rw [ac (by omega) (by omega)];omega
   have s3:ne .i64 (((4*i:Nat):Int)+1)=((4*i+1:Nat):Int):=by rw [ac (by omega) (by omega)];omega
   have s4:ne .i64 (((4*i:Nat):Int)+2)=((4*i+2:Nat):Int):=by rw [ac (by omega) (by omega)];omega
   have s5:ne .i64 (((4*i:Nat):Int)+3)=((4*i+3:Nat):Int):=by rw [ac (by omega) (by omega)];omega
   have s6:subI b.l ((4*i:Nat):Int) ((4*i+4:Nat):Int)=some [b.l[4*i]'(by omega),b.l[4*i+1]'(by omega),b.l[4*i+2]'(by omega),b.l[4*i+3]'(by omega)]:=by
    rw [iE b.l rfl rfl (by omega) (by omega),drop4 b.l (4*i) (by omega)]
   have ba:=hb.get (4*i) (by omega)
   have bb:=hb.get (4*i+1) (by omega)
   have bc:=hb.get (4*i+2) (by omega)
   have bd:=hb.get (4*i+3) (by omega)
   have s7:=atY (N:=N) _ _ _ _ ba bb bc bd (by omega)
   have G0:=aS b.l (4*i) (by omega)
   have G1:=aS b.l (4*i+1) (by omega)
   have G2:=aS b.l (4*i+2) (by omega)
   have G3:=aS b.l (4*i+3) (by omega)
   generalize hx:b.l[4*i]'(by omega)=x at *
   generalize hy:b.l[4*i+1]'(by omega)=y at *
   generalize hz:b.l[4*i+2]'(by omega)=z at *
   generalize hu:b.l[4*i+3]'(by omega)=u at *
   have v1:ne .u32 (((x*256+y)*256+z)*256+u)=((x*256+y)*256+z)*256+u:=by rw [w32];omega
   have v2:ne .u32 (ne .u32 (ne .u32 (ne .u32 (ne .u32 x*16777216)+ne .u32 (ne .u32 y*65536))+ne .u32 (ne .u32 z*256))+ne .u32 u)=((x*256+y)*256+z)*256+u:=by
    simp only [w32];omega
   obtain ⟨h2,r1,r2,r3⟩:=su hN b hb s h0 h0' k M (i+1) (h1.set i (((x*256+y)*256+z)*256+u)) (by omega) (by omega) (hw.set i (by omega))
   refine ⟨h2,r1, ?_, ?_⟩
   ·rw [ah]
    simp only [dO,c1,c3,decide_true,cond_true,s1,s2,s6,gt,s7,c2,and_self,e1,g1,e0,v1]
    exact r2
   ·rw [ah]
    simp only [c8,c1,c3,decide_true,cond_true,s1,s3,s4,s5,G0,G1,G2,G3,gt,c2,and_self,e1,g1,e0,v2]
    exact r3
  ·have c3:¬ ((i:Int)<16):=by omega
   have t1:ne .i64 ((i:Int)-3)=((i-3:Nat):Int):=by rw [ac (by omega) (by omega)];omega
   have t2:ne .i64 ((i:Int)-8)=((i-8:Nat):Int):=by rw [ac (by omega) (by omega)];omega
   have t3:ne .i64 ((i:Int)-14)=((i-14:Nat):Int):=by rw [ac (by omega) (by omega)];omega
   have t4:ne .i64 ((i:Int)-16)=((i-16:Nat):Int):=by rw [ac (by omega) (by omega)];omega
   have d1:(0:Int)≤((i-3:Nat):Int)∧((i-3:Nat):Int)<((80:Nat):Int):=by omega
   have d2:(0:Int)≤((i-8:Nat):Int)∧((i-8:Nat):Int)<((80:Nat):Int):=by omega
   have d3:(0:Int)≤((i-14:Nat):Int)∧((i-14:Nat):Int)<((80:Nat):Int):=by omega
   have d4:(0:Int)≤((i-16:Nat):Int)∧((i-16:Nat):Int)<((80:Nat):Int):=by omega
   have f1:Db ((i-3:Nat):Int)=i-3:=C9 _
   have f2:Db ((i-8:Nat):Int)=i-8:=C9 _
   have f3:Db ((i-14:Nat):Int)=i-14:=C9 _
   have f4:Db ((i-16:Nat):Int)=i-16:=C9 _
   have g2:h1.l[i-3]? =some (h1.l[i-3]'(by omega)):=List.getElem?_eq_getElem _
   have g3:h1.l[i-8]? =some (h1.l[i-8]'(by omega)):=List.getElem?_eq_getElem _
   have g4:h1.l[i-14]? =some (h1.l[i-14]'(by omega)):=List.getElem?_eq_getElem _
   have g5:h1.l[i-16]? =some (h1.l[i-16]'(by omega)):=List.getElem?_eq_getElem _
   generalize h1.l[i-3]'(by omega)=x at *
   generalize h1.l[i-8]'(by omega)=y at *
   generalize h1.l[i-14]'(by omega)=z at *
   generalize h1.l[i-16]'(by omega)=u at *
   obtain ⟨h2,r1,r2,r3⟩:=su hN b hb s h0 h0' k M (i+1) (h1.set i (bits .or .u32 (ne .u32 (bits .xor .u32 (bits .xor .u32 (bits .xor .u32 x y) z) u*2)) (DJ (bits .xor .u32 (bits .xor .u32 (bits .xor .u32 x y) z) u) 2147483648))) (by omega) (by omega) (hw.set i (or32r _ _))
   refine ⟨h2,r1, ?_, ?_⟩
   ·rw [ah]
    simp only [dO,c1,c3,decide_true,decide_false,cond_true,cond_false,t1,t2,t3,t4,d1,d2,d3,d4,f1,f2,f3,f4,g2,g3,g4,g5,gt,c2,and_self,e1,g1,e0,q1,q2]
    exact r2
   ·rw [ah]
    simp only [c8,c1,c3,decide_true,decide_false,cond_true,cond_false,t1,t2,t3,t4,d1,d2,d3,d4,f1,f2,f3,f4,g2,g3,g4,g5,gt,c2,and_self,e1,g1,e0,q3,q4]
    exact r3
end
section
variable {N:Nat}
theorem q5:(2:Int) ^ min (Db (bits .and .u64 (ne .u64 5) 31)) (Dj .u32)=32:=by decide +kernel
theorem q6:(2:Int) ^ min (Db (ne .u64 (32-bits .and .u64 (ne .u64 5) 31))) (Dj .u32)=134217728:=by decide +kernel
theorem q7:(2:Int) ^ min (Db 5) (Dj .u32)=32:=by decide +kernel
theorem q8:(2:Int) ^ min (Db (ne .i64 (32-5))) (Dj .u32)=134217728:=by decide +kernel
theorem q9:(2:Int) ^ min (Db (bits .and .u64 (ne .u64 30) 31)) (Dj .u32)=1073741824:=by decide +kernel
theorem q10:(2:Int) ^ min (Db (ne .u64 (32-bits .and .u64 (ne .u64 30) 31))) (Dj .u32)=4:=by decide +kernel
theorem q11:(2:Int) ^ min (Db 30) (Dj .u32)=1073741824:=by decide +kernel
theorem q12:(2:Int) ^ min (Db (ne .i64 (32-30))) (Dj .u32)=4:=by decide +kernel
def ks05:Arr Int 4:=Dg 1518500249 (Dg 1859775393 (Dg 2400959708 (Dg 3395469782 DU)))
theorem mix_pair (i:Nat)(hi:i<80)(b c d:Int)(hb:0≤b∧b<4294967296):∃ m k,mg N (ne .i64 (D3 (i:Int) 20)) b c d=some m∧getI ks05.l (ne .i64 (D3 (i:Int) 20))=some k∧o5 N (i:Int) b c d=some (ne .u32 (m+k)):=by
 have e:ne .i64 (D3 (i:Int) 20)=((i / 20:Nat):Int):=by
  rw [DB (by omega),ac (by omega) (by omega)];omega
 unfold mg o5
 rw [e]
 have hq:i / 20=0∨i / 20=1∨i / 20=2∨i / 20=3:=by omega
 rcases hq with hq | hq | hq | hq <;> rw [hq]
 ·exact ⟨_,1518500249,rfl,rfl,by rw [not32 b hb];rfl⟩
 ·exact ⟨_,1859775393,rfl,rfl,rfl⟩
 ·exact ⟨_,2400959708,rfl,rfl,rfl⟩
 ·exact ⟨_,3395469782,rfl,rfl,rfl⟩
theorem steps_pair (hN:10000≤N)(W:Arr Int 80)(hW:AllW W.l)(s:Arr Int 5)(h0:Arr Int 5)(h0':Arr Int 5):∀ (k M i:Nat) (t:Arr Int 5),k+i=80→k<M→AllW t.l→
  ∃ t2:Arr Int 5,AllW t2.l∧gl (fun X c=>ek N X c.1.1 c.1.2.1 c.1.2.2.1 c.2.1 c.2.2.1 c.2.2.2.1) M ((s,(ks05,((i:Int),()))),(h0,(W,(t,()))))=some ((s,()),(h0,(t2,())))∧
   gl (fun X c=>dz N X c.1.1 c.1.2.1 c.2.1 c.2.2.1 c.2.2.2.1) M ((s,((i:Int),())),(h0',(W,(t,()))))=some ((s,()),(h0',(t2,())))
 | 0,M+1,i,t,hk,hM,hw=>by
  have c1:¬ ((i:Int)<80):=by omega
  refine ⟨t,hw, ?_, ?_⟩
  ·simp only [gl,ek,c1,decide_false,cond_false]
  ·simp only [gl,dz,c1,decide_false,cond_false]
 | k+1,M+1,i,t,hk,hM,hw=>by
  have hWl:=W.h
  have c1:((i:Int)<80):=by omega
  have c2:(0:Int)≤(i:Int)∧(i:Int)<((80:Nat):Int):=by omega
  have e0:ne .i64 ((i:Int)+1)=((i+1:Nat):Int):=by rw [ac (by omega) (by omega)];omega
  have e1:Db (i:Int)=i:=C9 i
  have g1:W.l[i]? =some (W.l[i]'(by omega)):=List.getElem?_eq_getElem _
  have hWi:=hW.get i (by omega)
  generalize W.l[i]'(by omega)=wi at *
  match t,hw with
  | ⟨[a,b,c,d,e],ht⟩,hw=>
   have ra:=hw a (by simp)
   have rb:=hw b (by simp)
   have rc:=hw c (by simp)
   have rd:=hw d (by simp)
   have re:=hw e (by simp)
   obtain ⟨m,kk,m1,m2,m3⟩:=mix_pair (N:=N) i (by omega) b c d rb
   have z0:([a,b,c,d,e]:List Int)[Db 0]? =some a:=rfl
   have z1:([a,b,c,d,e]:List Int)[Db 1]? =some b:=rfl
   have z2:([a,b,c,d,e]:List Int)[Db 2]? =some c:=rfl
   have z3:([a,b,c,d,e]:List Int)[Db 3]? =some d:=rfl
   have z4:([a,b,c,d,e]:List Int)[Db 4]? =some e:=rfl
   have x1:∀ r:Int,ne .u32 (ne .u32 (ne .u32 (ne .u32 (r+m)+e)+kk)+wi)=ne .u32 (ne .u32 (ne .u32 (r+ne .u32 (m+kk))+e)+wi):=fun r=>by
    simp only [w32];omega
   obtain ⟨t2,r1,r2,r3⟩:=steps_pair hN W hW s h0 h0' k M (i+1) (Dg (ne .u32 (ne .u32 (ne .u32 (bits .or .u32 (ne .u32 (a*32)) (DJ a 134217728)+ne .u32 (m+kk))+e)+wi)) (Dg a (Dg (bits .or .u32 (ne .u32 (b*1073741824)) (DJ b 4)) (Dg c (Dg d DU))))) (by omega) (by omega) (fun x hx=>by
    simp only [Dg,DU,Dz,Dw,or_false] at hx
    rcases hx with rfl | rfl | rfl | rfl | rfl
    ·exact w32r _
    ·exact ra
    ·exact or32r _ _
    ·exact rc
    ·exact rd)
   refine ⟨t2,r1, ?_, ?_⟩
   ·rw [ah]
    simp only [ek,c1,decide_true,cond_true,z0,z1,z2,z3,z4,gt,m1,m2,c2,and_self,e1,g1,e0,q5,q6,q9,q10,x1]
    exact r2
   ·rw [ah]
    simp only [dz,c1,decide_true,cond_true,z0,z1,z2,z3,z4,gt,m3,c2,and_self,e1,g1,e0,q7,q8,q11,q12]
    exact r3
theorem add_pair (hN:10000≤N)(s h0:Arr Int 5)(hs:AllW s.l):∀ (k M i:Nat) (t:Arr Int 5),k+i=5→k<M→AllW t.l→
  ∃ t2:Arr Int 5,AllW t2.l∧gl (fun X c=>dj N X c.1.1 c.1.2.1 c.2.1 c.2.2.1) M ((s,((i:Int),())),(h0,(t,())))=some ((),(h0,(t2,())))∧(gl (fun X c=>dy N X c.1.1 c.1.2.1 c.2.1 c.2.2.1) M ((s,((i:Int),())),(h0,(t,())))=some ((),(h0,(t2,()))))
 | 0,M+1,i,t,hk,hM,hw=>by
  have c1:¬ ((i:Int)<5):=by omega
  refine ⟨t,hw, ?_, ?_⟩
  ·simp only [gl,dj,c1,decide_false,cond_false]
  ·simp only [gl,dy,c1,decide_false,cond_false]
 | k+1,M+1,i,t,hk,hM,hw=>by
  have hl:=t.h
  have hsl:=s.h
  have c1:((i:Int)<5):=by omega
  have c2:(0:Int)≤(i:Int)∧(i:Int)<((5:Nat):Int):=by omega
  have e0:ne .i64 ((i:Int)+1)=((i+1:Nat):Int):=by rw [ac (by omega) (by omega)];omega
  have e1:Db (i:Int)=i:=C9 i
  have g1:t.l[i]? =some (t.l[i]'(by omega)):=List.getElem?_eq_getElem _
  have g2:=aS s.l i (by omega)
  obtain ⟨t2,r1,r2,r3⟩:=add_pair hN s h0 hs k M (i+1) (t.set i (ne .u32 (t.l[i]'(by omega)+s.l[i]'(by omega)))) (by omega) (by omega) (hw.set i (w32r _))
  refine ⟨t2,r1, ?_, ?_⟩
  ·rw [ah]
   simp only [dj,c1,decide_true,cond_true,c2,and_self,e1,g1,g2,e0,gt]
   exact r2
  ·rw [ah]
   simp only [dy,c1,decide_true,cond_true,c2,and_self,e1,g1,g2,e0,gt]
   exact r3
theorem behind_pair (hN:10000≤N)(s:Arr Int 5)(b:Arr Int 64)(hs:AllW s.l)(hb:AllB b.l):∃ t:Arr Int 5,AllW t.l∧fH N s b ks05=some t∧kf N s b=some t:=by
 obtain ⟨M,rfl⟩:∃ M,N=M:=⟨N,rfl⟩
 unfold fH qa kf
 have hz:AllW (C5 80 (0:Int)):=fun x hx=>by rw [(List.mem_replicate.1 hx).2];omega
 obtain ⟨W,w1,w2,w3⟩:=su (N:=N) hN b hb s ⟨C5 80 0,rfl⟩ ⟨C5 5 0,rfl⟩ 80 N 0 ⟨C5 80 0,rfl⟩ (by omega) (by omega) hz
 have w2':oR N ((b,((0:Int),())),((⟨C5 80 0,rfl⟩:Arr Int 80),((⟨C5 80 0,rfl⟩:Arr Int 80),())))=some ((),((⟨C5 80 0,rfl⟩:Arr Int 80),(W,()))):=w2
 have w3':oE N ((s,(b,((0:Int),()))),((⟨C5 5 0,rfl⟩:Arr Int 5),((⟨C5 80 0,rfl⟩:Arr Int 80),())))=some ((s,()),((⟨C5 5 0,rfl⟩:Arr Int 5),(W,()))):=w3
 obtain ⟨t,t1,t2,t3⟩:=steps_pair (N:=N) hN W w1 s ⟨C5 5 0,rfl⟩ ⟨C5 5 0,rfl⟩ 80 N 0 s (by omega) (by omega) hs
 have t2':oy N ((s,(ks05,((0:Int),()))),((⟨C5 5 0,rfl⟩:Arr Int 5),(W,(s,()))))=some ((s,()),((⟨C5 5 0,rfl⟩:Arr Int 5),(t,()))):=t2
 have t3':mI N ((s,((0:Int),())),((⟨C5 5 0,rfl⟩:Arr Int 5),(W,(s,()))))=some ((s,()),((⟨C5 5 0,rfl⟩:Arr Int 5),(t,()))):=t3
 obtain ⟨u,u1,u2,u3⟩:=add_pair (N:=N) hN s ⟨C5 5 0,rfl⟩ hs 5 N 0 t (by omega) (by omega) t1
 have u2':mh N ((s,((0:Int),())),((⟨C5 5 0,rfl⟩:Arr Int 5),(t,())))=some ((),((⟨C5 5 0,rfl⟩:Arr Int 5),(u,()))):=u2
 have u3':mH N ((s,((0:Int),())),((⟨C5 5 0,rfl⟩:Arr Int 5),(t,())))=some ((),((⟨C5 5 0,rfl⟩:Arr Int 5),(u,()))):=u3
 refine ⟨u,u1, ?_, ?_⟩
 ·refine (congrArg (fun o=>Dm (Dm o _) _) w2').trans ?_
  simp only [gt]
  refine (congrArg (fun o=>Dm o _) t2').trans ?_
  simp only [gt]
  refine (congrArg (fun o=>Dm o _) u2').trans ?_
  rfl
 ·refine (congrArg (fun o=>Dm o _) w3').trans ?_
  simp only [gt]
  refine (congrArg (fun o=>Dm o _) t3').trans ?_
  simp only [gt]
  refine (congrArg (fun o=>Dm o _) u3').trans ?_
  rfl
end
def by8 (n:Int):List Int:=[n / 72057594037927936 % 256,n / 281474976710656 % 256,n / 1099511627776 % 256,n / 4294967296 % 256,n / 16777216 % 256,n / 65536 % 256,n / 256 % 256,n % 256]
theorem at3 (n:Int):AllB (by8 n):=fun x hx=>by
 simp only [by8,Dz,Dw,or_false] at hx
 rcases hx with rfl | rfl | rfl | rfl | rfl | rfl | rfl | rfl <;> omega
section
variable {N:Nat}
theorem put8 (n:Int)(h:0≤n∧n<18446744073709551616)(hN:100≤N):cD N n 8 false=some (by8 n,0):=by
 obtain ⟨M,rfl⟩:∃ M,N=M+9:=⟨N-9,by omega⟩
 have r1:ae (Db 8) 1=true:=by decide
 have r2:C5 (Db 8) (0:Int)=[0,0,0,0,0,0,0,0]:=rfl
 have w1:ne .i64 ((8:Int)-1)=7:=by decide
 have v0:ne .i64 ((7:Int)-0)=7:=by decide
 have v1:ne .i64 ((7:Int)-1)=6:=by decide
 have v2:ne .i64 ((7:Int)-2)=5:=by decide
 have v3:ne .i64 ((7:Int)-3)=4:=by decide
 have v4:ne .i64 ((7:Int)-4)=3:=by decide
 have v5:ne .i64 ((7:Int)-5)=2:=by decide
 have v6:ne .i64 ((7:Int)-6)=1:=by decide
 have v7:ne .i64 ((7:Int)-7)=0:=by decide
 have w3:ne .i64 ((0:Int)+1)=1:=by decide
 have w4:ne .i64 ((1:Int)+1)=2:=by decide
 have w5:ne .i64 ((2:Int)+1)=3:=by decide
 have w6:ne .i64 ((3:Int)+1)=4:=by decide
 have w7:ne .i64 ((4:Int)+1)=5:=by decide
 have w8:ne .i64 ((5:Int)+1)=6:=by decide
 have w9:ne .i64 ((6:Int)+1)=7:=by decide
 have w10:ne .i64 ((7:Int)+1)=8:=by decide
 have e1:(2:Int) ^ min (Db 8) (Dj DR)=256:=by decide
 have fd:∀ x:Int,DJ x 256=x / 256:=fun x=>DD _ (by decide)
 have d2:n / 256 / 256=n / 65536:=by omega
 have d3:n / 65536 / 256=n / 16777216:=by omega
 have d4:n / 16777216 / 256=n / 4294967296:=by omega
 have d5:n / 4294967296 / 256=n / 1099511627776:=by omega
 have d6:n / 1099511627776 / 256=n / 281474976710656:=by omega
 have d7:n / 281474976710656 / 256=n / 72057594037927936:=by omega
 have u8:∀ x:Int,ne .u8 x=x % 256:=fun x=>by rw [DK]
 simp only [cD,gG,gl,fM,ey,r1,r2,e1,cond_false,gt,w1,v0,v1,v2,v3,v4,v5,v6,v7,w3,w4,w5,w6,w7,w8,w9,w10]
 simp [w1,v0,v1,v2,v3,v4,v5,v6,v7,w3,w4,w5,w6,w7,w8,w9,w10,fd,d2,d3,d4,d5,d6,d7,u8,by8]
def nz (n:Int):Nat:=((119-n % 64) % 64).toNat
def qs (n:Int):List Int:=[128]++C5 (nz n) 0++by8 (8*n % 18446744073709551616)
theorem nz_lt (n:Int):nz n<64:=by unfold nz;omega
theorem uB (n:Int):(qs n).length=nz n+9:=by simp [qs,by8]
theorem ad8 (n:Int):AllB (qs n):=by
 refine DQ (DQ (AllB.cons (by omega) AllB.nil) fun x hx=> ?_) (at3 _)
 rw [(List.mem_replicate.1 hx).2];omega
theorem AA (n:Int)(h:0≤n∧n<18446744073709551616)(hN:10000≤N):oS N n=some (qs n):=by
 unfold oS
 have hw:ne .u64 ((8:Int)*n)=8*n % 18446744073709551616:=by rw [D1]
 have hz:DW (ne .u64 ((119:Int)-DW n 64)) 64=((nz n:Nat):Int):=by
  have hm:DW n 64=n % 64:=Dn h.1
  rw [hm,aR (by omega) (by omega),Dn (by omega)]
  unfold nz
  omega
 have hl:=nz_lt n
 have c1:((decide ((0:Int)≤((nz n:Nat):Int)∧((nz n:Nat):Int)≤((nz n:Nat):Int)))&&ae (nz n) 1)=true:=by
  have:ae (nz n) 1=true:=aH (by have:=aL;omega) (by omega)
  simp [this]
 rw [hw,put8 _ (by omega) (by omega),hz]
 simp only [gt,c1,cond_true,C9]
 refine (vD (N:=N) [[128],C5 (nz n) 0,by8 (8*n % 18446744073709551616)] (by simp) ?_ ?_).trans ?_
 all_goals first | omega | skip
 ·simp [by8];omega
 ·simp [qs]
theorem zeros_ok (n:Int)(h:0≤n∧n<18446744073709551616):∀ (k M:Nat) (l:List Int),k<M→l.length+k<1000→(n+l.length+k) % 64=56→k<64→
  gl (fun X c=>cC N X c.1.1 c.2.1) M ((n,()),(l,()))=some ((n,()),(l++C5 k 0,()))
 | 0,M+1,l,hM,hl,hk,_=>by
  have e:DW (ne .u64 (n+ne .u64 (l.length:Int))) 64=56:=by
   rw [aR (x:=(l.length:Int)) (by omega) (by omega),D1,Dn (by omega)];omega
  rw [ah]
  simp only [cC,e,decide_true,DA,cond_false,List.replicate_zero,Di]
 | k+1,M+1,l,hM,hl,hk,h64=>by
  have e:¬ DW (ne .u64 (n+ne .u64 (l.length:Int))) 64=56:=by
   rw [aR (x:=(l.length:Int)) (by omega) (by omega),D1,Dn (by omega)];omega
  have r:ae (l.length+([(0:Int)]:List Int).length) 1=true:=aH (by have:=aL;simp;omega) (by simp;omega)
  rw [ah]
  simp only [cC,e,decide_false,Bool.not_false,cond_true,r]
  refine (zeros_ok n h k M (l++[0]) (by omega) (by simp;omega) (by simp;omega) (by omega)).trans ?_
  rw [List.replicate_succ,Df];rfl
def le8 (n:Int):List Int:=[n % 256,n / 256 % 256,n / 65536 % 256,n / 16777216 % 256,n / 4294967296 % 256,n / 1099511627776 % 256,n / 281474976710656 % 256,n / 72057594037927936 % 256]
theorem ref04_tail_ok (n:Int)(h:0≤n∧n<18446744073709551616)(hN:10000≤N):fa N n=some ([128]++C5 (nz n) 0++le8 (8*n % 18446744073709551616)):=by
 unfold fa
 have hl:=nz_lt n
 have hz:=zeros_ok (N:=N) n h (nz n) N [128] (by omega) (by simp;omega) (by unfold nz;simp;omega) hl
 refine (congrArg (fun o=>Dm o _) hz).trans ?_
 simp only [gt]
 have hw:ne .u64 ((8:Int)*n)=8*n % 18446744073709551616:=by rw [D1]
 rw [hw]
 have hb:0≤8*n % 18446744073709551616∧8*n % 18446744073709551616<18446744073709551616:=by omega
 generalize 8*n % 18446744073709551616=m at *
 have hpl:([128]++C5 (nz n) (0:Int)).length=nz n+1:=by simp
 generalize [128]++C5 (nz n) (0:Int)=p at *
 obtain ⟨M,rfl⟩:∃ M,N=M+9:=⟨N-9,by omega⟩
 have dv:∀ x:Int,0≤x→x<18446744073709551616→ne .u64 (D3 x 256)=x / 256:=fun x h1 h2=>by
  rw [DB h1,aR (by omega) (by omega)]
 have md:∀ x:Int,0≤x→ne .u8 (DW x 256)=x % 256:=fun x h1=>by
  rw [Dn h1,Ae (by omega) (by omega)]
 have st:∀ (K:Nat) (x:Int) (i:Nat) (q:List Int),i<8→0≤x→x<18446744073709551616→q.length<1000→gl (fun X c=>bS (M+9) X c.1.1 c.1.2.1 c.2.1) (K+1) ((x,((i:Int),())),(q,()))=gl (fun X c=>bS (M+9) X c.1.1 c.1.2.1 c.2.1) K ((x / 256,(((i+1:Nat):Int),())),(q++[x % 256],())):=fun K x i q hi h1 h2 hq=>by
  have c1:((i:Int)<8):=by omega
  have e0:ne .i64 ((i:Int)+1)=((i+1:Nat):Int):=by rw [ac (by omega) (by omega)];omega
  have r:∀ y:Int,ae (q.length+([y]:List Int).length) 1=true:=fun y=>aH (by have:=aL;simp;omega) (by simp;omega)
  rw [ah]
  simp only [bS,c1,decide_true,cond_true,md x h1,r,dv x h1 h2,e0]
 have fin:∀ (K:Nat) (x:Int) (q:List Int),gl (fun X c=>bS (M+9) X c.1.1 c.1.2.1 c.2.1) (K+1) ((x,(((8:Nat):Int),())),(q,()))=some ((),(q,())):=fun K x q=>by
  rw [ah]
  rfl
 have all:kg (M+9) ((m,((0:Int),())),(p,()))=some ((),(p++le8 m,())):=by
  refine (st (M+8) m 0 p (by omega) hb.1 hb.2 (by omega)).trans ?_
  refine (st (M+7) _ 1 _ (by omega) (by omega) (by omega) (by simp;omega)).trans ?_
  refine (st (M+6) _ 2 _ (by omega) (by omega) (by omega) (by simp;omega)).trans ?_
  refine (st (M+5) _ 3 _ (by omega) (by omega) (by omega) (by simp;omega)).trans ?_
  refine (st (M+4) _ 4 _ (by omega) (by omega) (by omega) (by simp;omega)).trans ?_
  refine (st (M+3) _ 5 _ (by omega) (by omega) (by omega) (by simp;omega)).trans ?_
  refine (st (M+2) _ 6 _ (by omega) (by omega) (by omega) (by simp;omega)).trans ?_
  refine (st (M+1) _ 7 _ (by omega) (by omega) (by omega) (by simp;omega)).trans ?_
  refine (fin M _ _).trans ?_
  have d2:m / 256 / 256=m / 65536:=by omega
  have d3:m / 65536 / 256=m / 16777216:=by omega
  have d4:m / 16777216 / 256=m / 4294967296:=by omega
  have d5:m / 4294967296 / 256=m / 1099511627776:=by omega
  have d6:m / 1099511627776 / 256=m / 281474976710656:=by omega
  have d7:m / 281474976710656 / 256=m / 72057594037927936:=by omega
  simp only [d2,d3,d4,d5,d6,d7,Df,List.cons_append,DP,le8]
 refine (congrArg (fun o=>Dm o _) all).trans ?_
 rfl
theorem yX (n:Int)(h:0≤n∧n<18446744073709551616)(hN:10000≤N):mG N n=some (qs n):=by
 unfold mG
 rw [ref04_tail_ok n h hN,gt]
 have hl:=nz_lt n
 unfold qs
 generalize 8*n % 18446744073709551616=m at *
 have hpl:([128]++C5 (nz n) (0:Int)).length=nz n+1:=by simp
 generalize [128]++C5 (nz n) (0:Int)=p at *
 have h8:(le8 m).length=8:=rfl
 have e1:ne .i64 (((p++le8 m).length:Int)-8)=(p.length:Int):=by
  rw [C6,h8,ac (by omega) (by omega)];omega
 have r:ae p.length 1=true:=aH (by have:=aL;omega) (by omega)
 have tk:cR (p++le8 m) (p.length:Int)=some p:=by
  rw [eg _ rfl (by simp)];simp
 rw [e1,tk,gt,r]
 simp only [cond_true]
 obtain ⟨M,rfl⟩:∃ M,N=M+9:=⟨N-9,by omega⟩
 have st:∀ (K:Nat) (i:Nat) (q:List Int) (y:Int),i<8→q.length<1000→(le8 m)[i]? =some y→gl (fun X c=>dV (M+9) X c.1.1 c.1.2.1 c.1.2.2.1 c.2.1) (K+1) ((p++le8 m,((p.length:Int),((i:Int),()))),(q,()))=gl (fun X c=>dV (M+9) X c.1.1 c.1.2.1 c.1.2.2.1 c.2.1) K ((p++le8 m,((p.length:Int),(((i:Int)-1),()))),(q++[y],())):=fun K i q y hi hq hy=>by
  have c1:((0:Int)≤(i:Int)):=by omega
  have e0:ne .i64 ((i:Int)-1)=((i:Int)-1):=by rw [ac (by omega) (by omega)]
  have e2:ne .i64 ((p.length:Int)+(i:Int))=((p.length+i:Nat):Int):=by rw [ac (by omega) (by omega)];omega
  have r:ae (q.length+([y]:List Int).length) 1=true:=aH (by have:=aL;simp;omega) (by simp;omega)
  have g:getI (p++le8 m) ((p.length+i:Nat):Int)=some y:=by
   rw [rP,List.getElem?_append_right (by omega)]
   rw [show p.length+i-p.length=i by omega,hy]
  rw [ah]
  simp only [dV,c1,decide_true,cond_true,e2,g,gt,r,e0]
 have fin:∀ (K:Nat) (q:List Int),gl (fun X c=>dV (M+9) X c.1.1 c.1.2.1 c.1.2.2.1 c.2.1) (K+1) ((p++le8 m,((p.length:Int),(((0:Nat):Int)-1,()))),(q,()))=some ((),(q,())):=fun K q=>by
  rw [ah]
  rfl
 have all:o6 (M+9) ((p++le8 m,((p.length:Int),((7:Int),()))),(p,()))=some ((),(p++by8 m,())):=by
  refine (st (M+8) 7 p _ (by omega) (by omega) rfl).trans ?_
  refine (st (M+7) 6 _ _ (by omega) (by simp;omega) rfl).trans ?_
  refine (st (M+6) 5 _ _ (by omega) (by simp;omega) rfl).trans ?_
  refine (st (M+5) 4 _ _ (by omega) (by simp;omega) rfl).trans ?_
  refine (st (M+4) 3 _ _ (by omega) (by simp;omega) rfl).trans ?_
  refine (st (M+3) 2 _ _ (by omega) (by simp;omega) rfl).trans ?_
  refine (st (M+2) 1 _ _ (by omega) (by simp;omega) rfl).trans ?_
  refine (st (M+1) 0 _ _ (by omega) (by simp;omega) rfl).trans ?_
  refine (fin M _).trans ?_
  simp only [Df,List.cons_append,DP,by8]
 refine (congrArg (fun o=>Dm o _) all).trans ?_
 rfl
end
theorem flat_len (m:List (List Int))(k:Nat)(h:∀ p∈m,p.length≤k):m.flatten.length≤k*m.length:=by
 induction m with
 | nil=>simp
 | cons p m ih=>
  have h1:=h p List.mem_cons_self
  have h2:=ih fun q hq=>h q (List.mem_cons_of_mem _ hq)
  rw [Dt,C6,C8,Nat.mul_add]
  omega
section
variable {N:Nat}
theorem joinS (l:List (List Int))(h0:Arr Int 20)(hl:l.length≤1000)(hs:∀ p∈l,p.length≤100000)(hN:2000≤N):
  fR N ((l,((0:Int),(l,((l.length:Int),((0:Int),()))))),(h0,()))=some ((l,((l.flatten.length:Int),())),(h0,()))∧
  fQ N ((l,((l.length:Int),((0:Int),()))),(h0,(([]:List Int),())))=some ((),(h0,(l.flatten,()))):=by
 have tk:∀ i,(l.take i).flatten.length≤100000000:=fun i=>by
  have:=flat_len (l.take i) 100000 fun p hp=>hs p (List.mem_of_mem_take hp)
  rw [Dc] at this
  omega
 have hsn:∀ i (hi:i<l.length),(l.take (i+1)).flatten=(l.take i).flatten++l[i]:=fun i hi=>by
  have:l.take (i+1)=l.take i++[l[i]]:=by rw [Do,List.getElem?_eq_getElem hi];rfl
  rw [this,List.flatten_append]
  simp
 have h1:=cu (G:=fun (X:((List (List Int)×Int×List (List Int)×Int×Int×Unit)×Arr Int 20×Unit)→Option ((List (List Int)×Int×Unit)×Arr Int 20×Unit)) c=>bE N X c.1.1 c.1.2.1 c.1.2.2.1 c.1.2.2.2.1 c.1.2.2.2.2.1 c.2.1)
  (fun i=>((l,(((l.take i).flatten.length:Int),(l,((l.length:Int),((i:Int),()))))),(h0,()))) l.length ((l,((l.flatten.length:Int),())),(h0,())) (fun X i hi=>by
  have c1:((i:Int)<(l.length:Int)):=by omega
  have c2:ne .i64 ((i:Int)+1)=((i+1:Nat):Int):=by rw [ac (by omega) (by omega)];omega
  have hp:=hs _ (DF hi)
  have ht:=tk i
  have c3:ne .i64 (((l.take i).flatten.length:Int)+(l[i].length:Int))=(((l.take (i+1)).flatten.length:Nat):Int):=by rw [ac (by omega) (by omega),hsn i hi,C6];omega
  simp only [bE,c1,decide_true,cond_true,aS l i hi,gt,c3,c2]) (fun X=>by
  simp [bE]) N 0 (by omega) (by omega)
 have h2:=cu (G:=fun (X:((List (List Int)×Int×Int×Unit)×Arr Int 20×List Int×Unit)→Option (Unit×Arr Int 20×List Int×Unit)) c=>bD N X c.1.1 c.1.2.1 c.1.2.2.1 c.2.1 c.2.2.1)
  (fun i=>((l,((l.length:Int),((i:Int),()))),(h0,((l.take i).flatten,())))) l.length ((),(h0,(l.flatten,()))) (fun X i hi=>by
  have c1:((i:Int)<(l.length:Int)):=by omega
  have c2:ne .i64 ((i:Int)+1)=((i+1:Nat):Int):=by rw [ac (by omega) (by omega)];omega
  have hp:=hs _ (DF hi)
  have ht:=tk i
  have c3:ae ((l.take i).flatten.length+l[i].length) 1=true:=aH (by have:=aL;omega) (by omega)
  simp only [bD,c1,decide_true,cond_true,aS l i hi,gt,c3,c2,hsn i hi]) (fun X=>by
  simp [bD]) N 0 (by omega) (by omega)
 simp only [D2,List.take_zero,Dx,Dh] at h1 h2
 exact ⟨h1,h2⟩
theorem aeI (n:Int)(h:0≤n∧n<4294967296)(hN:100≤N):cD N (ne .u64 n) 4 false=some ([n / 16777216 % 256,n / 65536 % 256,n / 256 % 256,n % 256],0):=by
 rw [aR (by omega) (by omega)]
 exact put4 n (by omega) hN
def by4 (n:Int):List Int:=[n / 16777216 % 256,n / 65536 % 256,n / 256 % 256,n % 256]
theorem by4_B (n:Int):AllB (by4 n):=fun x hx=>by
 simp only [by4,Dz,Dw,or_false] at hx
 rcases hx with rfl | rfl | rfl | rfl <;> omega
theorem digest_ok (a b c d e:Int)(ht:([a,b,c,d,e]:List Int).length=5)(ha:AllW [a,b,c,d,e])(hN:10000≤N):∃ D:Arr Int 20,D.l=by4 a++by4 b++by4 c++by4 d++by4 e∧jP N ⟨[a,b,c,d,e],ht⟩=some D:=by
 obtain ⟨M,rfl⟩:∃ M,N=M+6:=⟨N-6,by omega⟩
 have pa:=aeI (N:=M+6) a (ha a (by simp)) (by omega)
 have pb:=aeI (N:=M+6) b (ha b (by simp)) (by omega)
 have pc:=aeI (N:=M+6) c (ha c (by simp)) (by omega)
 have pd:=aeI (N:=M+6) d (ha d (by simp)) (by omega)
 have pe:=aeI (N:=M+6) e (ha e (by simp)) (by omega)
 have w3:ne .i64 ((0:Int)+1)=1:=by decide
 have w4:ne .i64 ((1:Int)+1)=2:=by decide
 have w5:ne .i64 ((2:Int)+1)=3:=by decide
 have w6:ne .i64 ((3:Int)+1)=4:=by decide
 have w7:ne .i64 ((4:Int)+1)=5:=by decide
 have z0:getI ([a,b,c,d,e]:List Int) 0=some a:=rfl
 have z1:getI ([a,b,c,d,e]:List Int) 1=some b:=rfl
 have z2:getI ([a,b,c,d,e]:List Int) 2=some c:=rfl
 have z3:getI ([a,b,c,d,e]:List Int) 3=some d:=rfl
 have z4:getI ([a,b,c,d,e]:List Int) 4=some e:=rfl
 have l0:(decide ((0:Int)<5))=true:=rfl
 have l1:(decide ((1:Int)<5))=true:=rfl
 have l2:(decide ((2:Int)<5))=true:=rfl
 have l3:(decide ((3:Int)<5))=true:=rfl
 have l4:(decide ((4:Int)<5))=true:=rfl
 have l5:(decide ((5:Int)<5))=false:=rfl
 have rm:∀ (p:List Int) (u v x y:Int),p.length<100→ae (p.length+([u,v,x,y]:List Int).length) 1=true:=fun p u v x y hp=>aH (by have:=aL;simp;omega) (by simp;omega)
 have step:∀ (K:Nat) (i j:Int) (n:Int) (p:List Int) (h0:Arr Int 20),decide (i<5)=true→getI ([a,b,c,d,e]:List Int) i=some n→cD (M+6) (ne .u64 n) 4 false=some (by4 n,0)→ne .i64 (i+1)=j→p.length<100→
   gl (fun X c=>c7 (M+6) X c.1.1 c.1.2.1 c.2.1 c.2.2.1) (K+1) (((⟨[a,b,c,d,e],ht⟩:Arr Int 5),(i,())),(h0,(p,())))=gl (fun X c=>c7 (M+6) X c.1.1 c.1.2.1 c.2.1 c.2.2.1) K (((⟨[a,b,c,d,e],ht⟩:Arr Int 5),(j,())),(h0,(p++by4 n,()))):=fun K i j n p h0 q1 q2 q3 q4 q5=>by
  rw [ah]
  have r:=rm p (n / 16777216 % 256) (n / 65536 % 256) (n / 256 % 256) (n % 256) q5
  have r:ae (p.length+(by4 n).length) 1=true:=r
  simp only [c7,q1,cond_true,q2,gt,q3,r,q4]
 have fin:∀ (K:Nat) (p:List Int) (h0:Arr Int 20),gl (fun X c=>c7 (M+6) X c.1.1 c.1.2.1 c.2.1 c.2.2.1) (K+1) (((⟨[a,b,c,d,e],ht⟩:Arr Int 5),((5:Int),())),(h0,(p,())))=some ((),(h0,(p,()))):=fun K p h0=>by
  rw [ah];rfl
 have all:∀ h0:Arr Int 20,ox (M+6) (((⟨[a,b,c,d,e],ht⟩:Arr Int 5),((0:Int),())),(h0,(([]:List Int),())))=some ((),(h0,(by4 a++by4 b++by4 c++by4 d++by4 e,()))):=fun h0=>by
  refine (step (M+5) 0 1 a [] h0 l0 z0 pa w3 (by simp)).trans ?_
  refine (step (M+4) 1 2 b _ h0 l1 z1 pb w4 (by simp [by4])).trans ?_
  refine (step (M+3) 2 3 c _ h0 l2 z2 pc w5 (by simp [by4])).trans ?_
  refine (step (M+2) 3 4 d _ h0 l3 z3 pd w6 (by simp [by4])).trans ?_
  refine (step (M+1) 4 5 e _ h0 l4 z4 pe w7 (by simp [by4])).trans ?_
  exact fin M _ h0
 have hl:(by4 a++by4 b++by4 c++by4 d++by4 e).length=20:=by simp [by4]
 unfold jP
 rw [all,gt]
 refine ⟨⟨(by4 a++by4 b++by4 c++by4 d++by4 e).take 20,by rw [Dc,hl];rfl⟩, ?_, ?_⟩
 ·exact Dk (by omega)
 ·have:eW 20 (by4 a++by4 b++by4 c++by4 d++by4 e)=some ⟨(by4 a++by4 b++by4 c++by4 d++by4 e).take 20,by rw [Dc,hl];rfl⟩:=dif_pos (by omega)
  simp only [this,gt]
end
theorem Arr.eq {α:Type}{n:Nat}{a b:Arr α n}(h:a.l=b.l):a=b:=by
 cases a;cases b;simp only at h;subst h;rfl
noncomputable def stepB (N:Nat)(t:Arr Int 5)(l:List Int):Option (Arr Int 5):=(eW 64 l).bind fun a=>fH N t a ks05
noncomputable def runB (N:Nat):Nat→Arr Int 5→List Int→Option (Arr Int 5)
 | 0,t,_=>some t
 | m+1,t,l=>(stepB N t (l.take 64)).bind fun t'=>runB N m t' (l.drop 64)
theorem toArr64 (l:List Int)(h:64≤l.length):∃ a:Arr Int 64,a.l=l.take 64∧eW 64 (l.take 64)=some a:=by
 have h1:64≤(l.take 64).length:=by rw [Dc];omega
 refine ⟨⟨(l.take 64).take 64,by rw [Dc];omega⟩, ?_,dif_pos h1⟩
 exact Dk (by rw [Dc];omega)
section
variable {N:Nat}
theorem runB_some (hN:10000≤N):∀ (m:Nat) (t:Arr Int 5) (l:List Int),AllW t.l→AllB l→l.length=64*m→∃ t',AllW t'.l∧runB N m t l=some t'
 | 0,t,l,ht,_,_=>⟨t,ht,rfl⟩
 | m+1,t,l,ht,hl,hm=>by
  obtain ⟨a,a1,a2⟩:=toArr64 l (by omega)
  obtain ⟨t1,h1,h2,_⟩:=behind_pair (N:=N) hN t a ht (by rw [a1];exact hl.take 64)
  obtain ⟨t',h3,h4⟩:=runB_some hN m t1 (l.drop 64) h1 (hl.drop 64) (by rw [Da];omega)
  refine ⟨t',h3, ?_⟩
  unfold runB stepB
  rw [a2,gt,h2,gt,h4]
theorem loopOf (hN:10000≤N)(all:List Int)(ha:all.length<100000)(h0:Arr Int 20):∀ (m M i:Nat) (t t':Arr Int 5),m<M→all.length=i+64*m→runB N m t (all.drop i)=some t'→
  gl (fun X c=>jD N X c.1.1 c.1.2.1 c.2.1 c.2.2.1 c.2.2.2.1) M ((all,((i:Int),())),(h0,(t,(ks05,()))))=some ((),(h0,(t',())))
 | 0,M+1,i,t,t',hM,hi,hr=>by
  have c1:¬ ((i:Int)<(all.length:Int)):=by omega
  have hr:some t=some t':=hr
  injection hr with hr
  subst hr
  rw [ah]
  simp only [jD,c1,decide_false,cond_false]
 | m+1,M+1,i,t,t',hM,hi,hr=>by
  have c1:((i:Int)<(all.length:Int)):=by omega
  have e0:ne .i64 ((i:Int)+64)=((i+64:Nat):Int):=by rw [ac (by omega) (by omega)];omega
  have s1:subI all (i:Int) ((i+64:Nat):Int)=some ((all.drop i).take 64):=by
   rw [iE all rfl rfl (by omega) (by omega)];congr 2;omega
  unfold runB stepB at hr
  cases hb:eW 64 ((all.drop i).take 64) with
  | none=>rw [hb] at hr;cases hr
  | some a=>
   rw [hb,gt] at hr
   cases hc:fH N t a ks05 with
   | none=>rw [hc] at hr;cases hr
   | some t1=>
    rw [hc,gt,DI] at hr
    have ih:=loopOf hN all ha h0 m M (i+64) t1 t' (by omega) (by omega) (by rw [show i+64=i+64 from rfl];exact hr)
    rw [ah]
    simp only [jD,c1,decide_true,cond_true,e0,s1,gt,hb,hc]
    exact ih
theorem fillOf (hN:10000≤N)(all:List Int)(ha:all.length<100000)(h0:Arr Int 20)(t:Arr Int 5)(x:Nat)(hx:x+64≤all.length):∀ (k M i:Nat) (blk:Arr Int 64),k+i=64→k<M→
  ∃ b2:Arr Int 64,b2.l=blk.l.take i++(all.drop (x+i)).take k∧gl (fun X c=>hY N X c.1.1 c.1.2.1 c.2.1 c.2.2.1 c.2.2.2.1 c.2.2.2.2.1) M (((x:Int),((i:Int),())),(h0,(all,(t,(blk,())))))=some (((x:Int),()),(h0,(all,(t,(b2,())))))
 | 0,M+1,i,blk,hk,hM=>by
  have c1:¬ ((i:Int)<64):=by omega
  refine ⟨blk, ?_, ?_⟩
  ·rw [Dk (by rw [blk.h];omega),List.take_zero,Di]
  ·rw [ah]
   simp only [hY,c1,decide_false,cond_false]
 | k+1,M+1,i,blk,hk,hM=>by
  have hbl:=blk.h
  have c1:((i:Int)<64):=by omega
  have e0:ne .i64 ((i:Int)+1)=((i+1:Nat):Int):=by rw [ac (by omega) (by omega)];omega
  have e2:ne .i64 ((x:Int)+(i:Int))=((x+i:Nat):Int):=by rw [ac (by omega) (by omega)];omega
  have c2:(0:Int)≤((x+i:Nat):Int)∧((x+i:Nat):Int)<(all.length:Int):=by omega
  have c3:(0:Int)≤(i:Int)∧(i:Int)<((64:Nat):Int):=by omega
  have e1:Db (i:Int)=i:=C9 i
  have e3:Db ((x+i:Nat):Int)=x+i:=C9 _
  have g1:all[x+i]? =some (all[x+i]'(by omega)):=List.getElem?_eq_getElem _
  have g2:blk.l[i]? =some (blk.l[i]'(by omega)):=List.getElem?_eq_getElem _
  obtain ⟨b2,h1,h2⟩:=fillOf hN all ha h0 t x hx k M (i+1) (blk.set i (all[x+i]'(by omega))) (by omega) (by omega)
  refine ⟨b2, ?_, ?_⟩
  ·rw [h1]
   have q1:(blk.set i (all[x+i]'(by omega))).l.take (i+1)=blk.l.take i++[all[x+i]'(by omega)]:=by
    show (blk.l.set i _).take (i+1)=_
    rw [Do,Dv (Dq _),List.getElem?_set_self (by omega)]
    rfl
   rw [q1,Df]
   congr 1
   rw [C7 (show x+i<all.length by omega),List.take_succ_cons]
   rfl
  ·rw [ah]
   simp only [hY,c1,decide_true,cond_true,e2,c2,and_self,e3,g1,gt,c3,e1,g2,e0]
   exact h2
theorem loopRef (hN:10000≤N)(all:List Int)(ha:all.length<100000)(hB:AllB all)(h0:Arr Int 20):∀ (m M i:Nat) (t t':Arr Int 5),m<M→all.length=i+64*m→AllW t.l→runB N m t (all.drop i)=some t'→
  gl (fun X c=>ia N X c.1.1 c.2.1 c.2.2.1 c.2.2.2.1) M (((i:Int),()),(h0,(all,(t,()))))=some ((),(h0,(t',())))
 | 0,M+1,i,t,t',hM,hi,hw,hr=>by
  have c1:¬ ((i:Int)<(all.length:Int)):=by omega
  have hr:some t=some t':=hr
  injection hr with hr
  subst hr
  rw [ah]
  simp only [ia,c1,decide_false,cond_false]
 | m+1,M+1,i,t,t',hM,hi,hw,hr=>by
  have c1:((i:Int)<(all.length:Int)):=by omega
  have e0:ne .i64 ((i:Int)+64)=((i+64:Nat):Int):=by rw [ac (by omega) (by omega)];omega
  obtain ⟨b2,f1,f2⟩:=fillOf (N:=N) hN all ha h0 t i (by omega) 64 N 0 ⟨C5 64 0,rfl⟩ (by omega) (by omega)
  have f2':ry N (((i:Int),((0:Int),())),(h0,(all,(t,((⟨C5 64 0,rfl⟩:Arr Int 64),())))))=some (((i:Int),()),(h0,(all,(t,(b2,()))))):=f2
  have f1':b2.l=(all.drop i).take 64:=by rw [f1];simp
  obtain ⟨a,a1,a2⟩:=toArr64 (all.drop i) (by rw [Da];omega)
  have hab:a=b2:=Arr.eq (by rw [a1,f1'])
  subst hab
  obtain ⟨t1,h1,h2,h3⟩:=behind_pair (N:=N) hN t a hw (by rw [a1];exact (hB.drop i).take 64)
  unfold runB stepB at hr
  rw [a2,gt,h2,gt,DI] at hr
  have ih:=loopRef hN all ha hB h0 m M (i+64) t1 t' (by omega) (by omega) h1 hr
  rw [ah]
  simp only [ia,c1,decide_true,cond_true]
  refine (congrArg (fun o=>Dm o _) f2').trans ?_
  simp only [gt,h3,e0]
  exact ih
def dg5 (a b c d e:Int):List Int:=by4 a++by4 b++by4 c++by4 d++by4 e
theorem dg5_B (a b c d e:Int):AllB (dg5 a b c d e):=DQ (DQ (DQ (DQ (by4_B a) (by4_B b)) (by4_B c)) (by4_B d)) (by4_B e)
theorem aso (a b c d e:Int)(i:Nat)(hi:i<20)(v:Int)(hv:([a,b,c,d,e]:List Int)[i / 4]? =some v):(dg5 a b c d e)[i]? =some (ne .u8 (DJ v (2 ^ (24-8*(i % 4))))):=by
 have fd:∀ k:Nat,DJ v (2 ^ k)=v / 2 ^ k:=fun k=>DD _ (Int.le_of_lt (Int.pow_pos (by decide)))
 rw [fd,DK]
 have:i=0∨i=1∨i=2∨i=3∨i=4∨i=5∨i=6∨i=7∨i=8∨i=9∨i=10∨i=11∨i=12∨i=13∨i=14∨i=15∨i=16∨i=17∨i=18∨i=19:=by omega
 rcases this with rfl | rfl | rfl | rfl | rfl | rfl | rfl | rfl | rfl | rfl | rfl | rfl | rfl | rfl | rfl | rfl | rfl | rfl | rfl | rfl <;> simp at hv <;> subst hv <;> simp [dg5,by4]
theorem outRef (hN:10000≤N)(a b c d e:Int)(ht:([a,b,c,d,e]:List Int).length=5)(h0:Arr Int 20):∀ (k M i:Nat) (o:Arr Int 20),k+i=20→k<M→
  ∃ D:Arr Int 20,D.l=o.l.take i++(dg5 a b c d e).drop i∧gl (fun X c=>fY N X c.1.1 c.2.1 c.2.2.1 c.2.2.2.1) M (((i:Int),()),(h0,((⟨[a,b,c,d,e],ht⟩:Arr Int 5),(o,()))))=some ((),(h0,(D,())))
 | 0,M+1,i,o,hk,hM=>by
  have c1:¬ ((i:Int)<20):=by omega
  have hol:=o.h
  refine ⟨o, ?_, ?_⟩
  ·rw [Dk (by omega),Dd (by simp [dg5,by4];omega),Di]
  ·rw [ah]
   simp only [fY,c1,decide_false,cond_false]
 | k+1,M+1,i,o,hk,hM=>by
  have hol:=o.h
  have c1:((i:Int)<20):=by omega
  have e0:ne .i64 ((i:Int)+1)=((i+1:Nat):Int):=by rw [ac (by omega) (by omega)];omega
  have f1:ne .i64 (D3 (i:Int) 4)=((i / 4:Nat):Int):=by
   rw [DB (by omega),ac (by omega) (by omega)];omega
  have f0:ne .i64 ((8:Int)*DW (i:Int) 4)=((8*(i % 4):Nat):Int):=by
   rw [Dn (by omega),ac (by omega) (by omega)];omega
  have f2:ne .i64 ((24:Int)-((8*(i % 4):Nat):Int))=((24-8*(i % 4):Nat):Int):=by
   rw [ac (by omega) (by omega)];omega
  have c2:(0:Int)≤((i / 4:Nat):Int)∧((i / 4:Nat):Int)<((5:Nat):Int):=by omega
  have c3:(0:Int)≤((24-8*(i % 4):Nat):Int):=by omega
  have c4:(0:Int)≤(i:Int)∧(i:Int)<((20:Nat):Int):=by omega
  have e1:Db (i:Int)=i:=C9 i
  have e2:Db ((i / 4:Nat):Int)=i / 4:=C9 _
  have e3:min (Db ((24-8*(i % 4):Nat):Int)) (Dj .u32)=24-8*(i % 4):=by
   rw [C9];show min _ 32=_;omega
  have g1:([a,b,c,d,e]:List Int)[i / 4]? =some (([a,b,c,d,e]:List Int)[i / 4]'(by simp;omega)):=List.getElem?_eq_getElem _
  have g2:o.l[i]? =some (o.l[i]'(by omega)):=List.getElem?_eq_getElem _
  have hd:=aso a b c d e i (by omega) _ g1
  generalize ([a,b,c,d,e]:List Int)[i / 4]'(by simp;omega)=v at *
  obtain ⟨D,h1,h2⟩:=outRef hN a b c d e ht h0 k M (i+1) (o.set i (ne .u8 (DJ v (2 ^ (24-8*(i % 4)))))) (by omega) (by omega)
  refine ⟨D, ?_, ?_⟩
  ·rw [h1]
   have q1:(o.set i (ne .u8 (DJ v (2 ^ (24-8*(i % 4)))))).l.take (i+1)=o.l.take i++[ne .u8 (DJ v (2 ^ (24-8*(i % 4))))]:=by
    show (o.l.set i _).take (i+1)=_
    rw [Do,Dv (Dq _),List.getElem?_set_self (by omega)]
    rfl
   rw [q1,Df]
   congr 1
   obtain ⟨hlt,hv⟩:=List.getElem?_eq_some_iff.1 hd
   rw [C7 hlt,hv]
   rfl
  ·rw [ah]
   simp only [fY,c1,decide_true,cond_true,f1,c2,and_self,e2,g1,gt,f0,f2,c3,c4,e1,g2,e0,e3]
   exact h2
end
def nT:Arr Int 5:=Dg 1732584193 (Dg 4023233417 (Dg 2562383102 (Dg 271733878 (Dg 3285377520 DU))))
theorem first_W:AllW nT.l:=fun x hx=>by
 simp only [nT,Dg,DU,Dz,Dw,or_false] at hx
 rcases hx with rfl | rfl | rfl | rfl | rfl <;> omega
def nb (n:Nat):Nat:=(n+(qs (n:Int)).length) / 64
theorem nb_ok (n:Nat)(l:List Int)(h:l.length=n):(l++qs (n:Int)).length=64*nb n:=by
 unfold nb
 rw [C6,uB,h]
 unfold nz
 omega
theorem of_ok (l:List (List Int))(hl:l.length≤1000)(hs:∀ p∈l,p.length≤5000∧AllB p)(hf:l.flatten.length≤5000):
  ∃ a b c d e ht,∃ D:Arr Int 20,runB 200000 (nb l.flatten.length) nT (l.flatten++qs (l.flatten.length:Int))=some ⟨[a,b,c,d,e],ht⟩∧AllW [a,b,c,d,e]∧D.l=dg5 a b c d e∧gz 200000 l=some D:=by
 have hB:AllB l.flatten:=fun x hx=>by
  obtain ⟨p,hp,hx⟩:=List.mem_flatten.1 hx
  exact (hs p hp).2 x hx
 have hall:AllB (l.flatten++qs (l.flatten.length:Int)):=hB.append (ad8 _)
 have hlen:=nb_ok l.flatten.length l.flatten rfl
 have htl:=uB (l.flatten.length:Int)
 have hnz:=nz_lt (l.flatten.length:Int)
 obtain ⟨t',t1,t2⟩:=runB_some (N:=200000) (by omega) (nb l.flatten.length) nT _ first_W hall hlen
 match t',t1,t2 with
 | ⟨[a,b,c,d,e],ht⟩,t1,t2=>
  obtain ⟨D,d1,d2⟩:=digest_ok (N:=200000) a b c d e ht t1 (by omega)
  refine ⟨a,b,c,d,e,ht,D,t2,t1,d1, ?_⟩
  have hj:∀ h0,_:=fun h0=>joinS (N:=200000) l h0 hl (fun p hp=>by have:=(hs p hp).1;omega) (by omega)
  have hwn:ne .u64 (l.flatten.length:Int)=(l.flatten.length:Int):=aR (by omega) (by omega)
  have htail:=AA (N:=200000) (l.flatten.length:Int) (by omega) (by omega)
  have c4:(decide ((0:Int)≤(0:Int)∧(0:Int)≤(l.flatten.length:Int))&&ae (Db (l.flatten.length:Int)) 1)=true:=by
   rw [DL]
   exact ⟨decide_eq_true ⟨by omega,by omega⟩,aH (by have:=aL;omega) (by omega)⟩
  have c5:ae (l.flatten.length+(qs (l.flatten.length:Int)).length) 1=true:=aH (by have:=aL;omega) (by omega)
  have hloop:∀ h0,tp 200000 (((l.flatten++qs (l.flatten.length:Int)),((0:Int),())),(h0,(nT,(ks05,()))))=some ((),(h0,((⟨[a,b,c,d,e],ht⟩:Arr Int 5),()))):=fun h0=>
   loopOf (N:=200000) (by omega) _ (by rw [C6];omega) h0 (nb l.flatten.length) 200000 0 nT _ (by rw [C6] at hlen;omega) (by rw [hlen];omega) t2
  have e0:C5 (Db 0) (0:Int)=[]:=rfl
  unfold gz
  rw [(hj _).1,gt]
  simp only [c4,cond_true,e0]
  rw [(hj _).2,gt]
  simp only [hwn]
  rw [htail,gt]
  simp only [c5,cond_true,ah5,gt]
  refine (congrArg (fun o=>Dm o _) (hloop _)).trans ?_
  simp only [gt,d2]
theorem refOf_ok (b:List Int)(hb:AllB b)(hl:b.length≤1000){a c d e f:Int}{ht:([a,c,d,e,f]:List Int).length=5}(hr:runB 200000 (nb b.length) nT (b++qs (b.length:Int))=some ⟨[a,c,d,e,f],ht⟩):
  ∃ D:Arr Int 20,D.l=dg5 a c d e f∧fA 200000 b=some D:=by
 have htl:=uB (b.length:Int)
 have hnz:=nz_lt (b.length:Int)
 have hlen:=nb_ok b.length b rfl
 have hwn:ne .u64 (b.length:Int)=(b.length:Int):=aR (by omega) (by omega)
 have htail:=yX (N:=200000) (b.length:Int) (by omega) (by omega)
 have c0:ae b.length 1=true:=aH (by have:=aL;omega) (by omega)
 have c5:ae (b.length+(qs (b.length:Int)).length) 1=true:=aH (by have:=aL;omega) (by omega)
 obtain ⟨D,d1,d2⟩:=outRef (N:=200000) (by omega) a c d e f ht ⟨C5 20 0,rfl⟩ 20 200000 0 ⟨C5 20 0,rfl⟩ (by omega) (by omega)
 have hloop:rz 200000 (((0:Int),()),((⟨C5 20 0,rfl⟩:Arr Int 20),((b++qs (b.length:Int)),(nT,()))))=some ((),((⟨C5 20 0,rfl⟩:Arr Int 20),((⟨[a,c,d,e,f],ht⟩:Arr Int 5),()))):=
  loopRef (N:=200000) (by omega) _ (by rw [C6];omega) (hb.append (ad8 _)) _ (nb b.length) 200000 0 nT _ (by rw [C6] at hlen;omega) (by rw [hlen];omega) first_W hr
 have hout:qB 200000 (((0:Int),()),((⟨C5 20 0,rfl⟩:Arr Int 20),((⟨[a,c,d,e,f],ht⟩:Arr Int 5),((⟨C5 20 0,rfl⟩:Arr Int 20),()))))=some ((),((⟨C5 20 0,rfl⟩:Arr Int 20),(D,()))):=d2
 refine ⟨D,by simpa using d1, ?_⟩
 unfold fA
 simp only [c0,cond_true,hwn,htail,gt,c5]
 refine (congrArg (fun o=>Dm o _) hloop).trans ?_
 simp only [gt]
 refine (congrArg (fun o=>Dm o _) hout).trans ?_
 rfl
theorem wfB_b {n:Nat}(a:Arr Int n)(h:AllB a.l):wfB (.arr n (.int .u8)) a=true:=List.all_eq_true.2 fun x hx=>by
 have h1:=h x hx
 show (Lit.int .u8 x).wf=true
 simp only [Lit.wf,DL,decide_eq_true_eq,IntKind.min,IntKind.max,IntKind.signed,Dj]
 simp
 omega
end Go.Proofs.YtolkfnemdejonaaGreatDoor.Sh
namespace Go.Proofs.YtolkfnemdejonaaGreatDoor
set_option maxRecDepth 100000
open Go.RowKit
set_option linter.unusedVariables false
set_option linter.unusedSimpArgs false
set_option maxRecDepth 100000
theorem aly {l:List (List Int)}(h:∀ p∈l,AllB p):AllB l.flatten:=fun x hx=>by
 obtain ⟨p,hp,hx⟩:=List.mem_flatten.1 hx
 exact h p hp x hx
theorem aa4 {l:List (List Int)}{n:Nat}(hf:l.flatten.length≤n):∀ p∈l,p.length≤n:=fun p hp=>by
 have:=(List.sublist_flatten_of_mem hp).length_le
 omega
theorem ahA (l:List (List Int))(hl:l.length≤1000)(hs:∀ p∈l,AllB p)(hf:l.flatten.length≤1000):∃ D:Arr Int 16,AllB D.l∧tv 200000 l=some D∧k9 200000 l.flatten=some D:=by
 obtain ⟨a,b,c,d,ht,D,r1,r2,r3,r4⟩:=of_ok l hl (fun p hp=>⟨by have:=aa4 hf p hp;omega,hs p hp⟩) (by omega)
 obtain ⟨D',q1,q2⟩:=refOf_ok l.flatten (aly hs) hf r1
 have hD:D'=D:=Arr.eq (by rw [q1,r3])
 subst hD
 exact ⟨D',by rw [q1];exact at2 _ _ _ _,r4,q2⟩
theorem mf (l:List (List Int))(hl:l.length≤1000)(hs:∀ p∈l,AllB p)(hf:l.flatten.length≤1000):∃ D:Arr Int 20,AllB D.l∧gz 200000 l=some D∧fA 200000 l.flatten=some D:=by
 obtain ⟨a,b,c,d,e,ht,D,r1,r2,r3,r4⟩:=Sh.of_ok l hl (fun p hp=>⟨by have:=aa4 hf p hp;omega,hs p hp⟩) (by omega)
 obtain ⟨D',q1,q2⟩:=Sh.refOf_ok l.flatten (aly hs) hf r1
 have hD:D'=D:=Arr.eq (by rw [q1,r3])
 subst hD
 exact ⟨D',by rw [q1];exact Sh.dg5_B _ _ _ _ _,r4,q2⟩
def cb (b:UInt8):Bool:=decide (128≤b.toNat∧b.toNat<192)
def n2 (a b:UInt8):Nat:=(a.toNat-192)*64+(b.toNat-128)
def n3 (a b c:UInt8):Nat:=(a.toNat-224)*4096+(b.toNat-128)*64+(c.toNat-128)
def n4 (a b c d:UInt8):Nat:=(a.toNat-240)*262144+(b.toNat-128)*4096+(c.toNat-128)*64+(d.toNat-128)
def sg:List UInt8→Nat×Nat
 | []=>(0,0)
 | b0::r=>
  if b0.toNat<128 then (b0.toNat,1)
  else if 192≤b0.toNat∧b0.toNat<224 then (match r with
   | b1::_=>if cb b1=true∧128≤n2 b0 b1 then (n2 b0 b1,2) else (0,0)
   | _=>(0,0))
  else if 224≤b0.toNat∧b0.toNat<240 then (match r with
   | b1::b2::_=>if cb b1=true∧cb b2=true∧2048≤n3 b0 b1 b2∧¬ (55296≤n3 b0 b1 b2∧n3 b0 b1 b2≤57343) then (n3 b0 b1 b2,3) else (0,0)
   | _=>(0,0))
  else if 240≤b0.toNat∧b0.toNat<248 then (match r with
   | b1::b2::b3::_=>if cb b1=true∧cb b2=true∧cb b3=true∧65536≤n4 b0 b1 b2 b3∧n4 b0 b1 b2 b3≤1114111 then (n4 b0 b1 b2 b3,4) else (0,0)
   | _=>(0,0))
  else (0,0)
theorem gw (b:UInt8):b.toNat<256:=b.toNat_lt
theorem df {b:UInt8}:cb b=true↔128≤b.toNat∧b.toNat<192:=by simp [cb]
theorem asr {b:UInt8}:cb b=false↔¬ (128≤b.toNat∧b.toNat<192):=by simp [cb]
section
variable {N:Nat}
theorem amo (s:List UInt8)(j:Nat):fV N s (j:Int)=some (match s[j]? with
  | some b=>if cb b=true then (((b.toNat-128:Nat):Int),true) else (0,false)
  | none=>(0,false)):=by
 cases h:s[j]? with
 | none=>
  have hl:(s.length:Int)≤(j:Int):=by have:=List.getElem?_eq_none_iff.1 h;omega
  simp [fV,hl]
 | some b=>
  obtain ⟨hj,hb⟩:=List.getElem?_eq_some_iff.1 h
  have hl:¬ (s.length:Int)≤(j:Int):=by omega
  have hg:getI s (j:Int)=some b:=by rw [rP,h]
  have hlt:=gw b
  cases hc:cb b with
  | true=>
   rw [df] at hc
   have c1:¬ (b.toNat:Int)<128:=by omega
   have c2:¬ (191:Int)<(b.toNat:Int):=by omega
   have e1:ne .i64 (b.toNat:Int)=(b.toNat:Int):=ac (by omega) (by omega)
   have e2:ne .i64 ((b.toNat:Int)-128)=((b.toNat-128:Nat):Int):=by rw [ac (by omega) (by omega)];omega
   have hc2:=df.2 hc
   simp [fV,hl,hg,c1,c2,e1,e2,hc2]
  | false=>
   have hcf:=hc
   rw [asr] at hc
   by_cases c1:(b.toNat:Int)<128
   ·simp [fV,hl,hg,c1,hcf]
   ·have c2:(191:Int)<(b.toNat:Int):=by omega
    simp [fV,hl,hg,c1,c2,hcf]
theorem aaW (X)(s:List UInt8)(i need n k:Nat)(least:Int)(h1:i<1000000000)(h2:n<1000000000)(h3:k<10):ep N X s (i:Int) (need:Int) (n:Int) least (k:Int)=
  if k≤need then (match s[i+k]? with
   | some b=>if cb b=true then X ((s,((i:Int),((need:Int),(((64*n+(b.toNat-128):Nat):Int),(least,(((k+1:Nat):Int),())))))),()) else some (.inl ((0,(0,())),()))
   | none=>some (.inl ((0,(0,())),())))
  else some (.inr (((need:Int),((n:Int),(least,()))),())):=by
 have e0:ne .i64 ((i:Int)+(k:Int))=((i+k:Nat):Int):=by rw [ac (by omega) (by omega)];omega
 have e1:ne .i64 ((k:Int)+1)=((k+1:Nat):Int):=by rw [ac (by omega) (by omega)];omega
 have e2:ne .i64 (64*(n:Int))=((64*n:Nat):Int):=by rw [ac (by omega) (by omega)];omega
 unfold ep
 rw [e0,amo]
 by_cases hk:k≤need
 ·have c1:(k:Int)≤(need:Int):=by omega
  rw [if_pos hk]
  simp only [c1,decide_true,cond_true,gt]
  cases h:s[i+k]? with
  | none=>simp
  | some b=>
   have hlt:=gw b
   cases hc:cb b with
   | false=>simp [hc]
   | true=>
    have e3:ne .i64 (((64*n:Nat):Int)+((b.toNat-128:Nat):Int))=((64*n+(b.toNat-128):Nat):Int):=by rw [ac (by omega) (by omega)];omega
    simp only [hc,if_true,DA,cond_false,e1,e2,e3]
 ·have c1:¬ (k:Int)≤(need:Int):=by omega
  rw [if_neg hk]
  simp only [c1,decide_false,cond_false]
def ol:Nat→List UInt8→Nat→Option Nat
 | 0,_,n=>some n
 | _+1,[],_=>none
 | k+1,b::r,n=>if cb b=true then ol k r (64*n+(b.toNat-128)) else none
theorem aeY (s:List UInt8)(i need:Nat)(least:Int)(h1:i<1000000000)(hn:need≤3):∀ (left k M n:Nat),k+left=need+1→1≤k→left<M→n<64 ^ k→
  gl (fun X c=>ep N X c.1.1 c.1.2.1 c.1.2.2.1 c.1.2.2.2.1 c.1.2.2.2.2.1 c.1.2.2.2.2.2.1) M ((s,((i:Int),((need:Int),((n:Int),(least,((k:Int),())))))),())=
   some (match ol left (s.drop (i+k)) n with
    | some m=>.inr (((need:Int),((m:Int),(least,()))),())
    | none=>.inl ((0,(0,())),()))
 | 0,k,M+1,n,hk,hk1,hM,hn2=>by
  have hb:(64:Nat) ^ k≤64 ^ 4:=DS (by decide) (by omega)
  have hb4:(64:Nat) ^ 4=16777216:=by decide
  rw [ah,aaW _ s i need n k least h1 (by omega) (by omega),if_neg (by omega)]
  rfl
 | left+1,k,M+1,n,hk,hk1,hM,hn2=>by
  have hb:(64:Nat) ^ k≤64 ^ 4:=DS (by decide) (by omega)
  have hb4:(64:Nat) ^ 4=16777216:=by decide
  rw [ah,aaW _ s i need n k least h1 (by omega) (by omega),if_pos (by omega)]
  cases h:s[i+k]? with
  | none=>
   have:=List.getElem?_eq_none_iff.1 h
   rw [Dd this]
   rfl
  | some b=>
   obtain ⟨hj,hbb⟩:=List.getElem?_eq_some_iff.1 h
   rw [C7 hj,hbb]
   have hlt:=gw b
   simp only [ol]
   cases hc:cb b with
   | false=>rfl
   | true=>
    rw [df] at hc
    have hp:64 ^ (k+1)=64*64 ^ k:=by rw [Nat.pow_succ];omega
    have ih:=aeY s i need least h1 hn left (k+1) M (64*n+(b.toNat-128)) (by omega) (by omega) (by omega) (by rw [hp];omega)
    simp only [if_true]
    exact ih
theorem alV (hN:10≤N)(s:List UInt8)(i:Nat)(hi:i<s.length)(hb:s.length<1000000000):mw N s (i:Int)=some (((sg (s.drop i)).1:Int),((sg (s.drop i)).2:Int)):=by
 have hd:=C7 hi
 obtain ⟨b0,hb0⟩:∃ b,b=s[i]:=⟨_,rfl⟩
 obtain ⟨r,hr⟩:∃ r,r=s.drop (i+1):=⟨_,rfl⟩
 rw [←hb0,←hr] at hd
 have hg:getI s (i:Int)=some b0:=by rw [aS s i hi,hb0]
 have hlt:=gw b0
 have w0:ne .i64 (b0.toNat:Int)=b0.toNat:=ac (by omega) (by omega)
 have L:∀ (need n:Nat) (least:Int),1≤need→need≤3→n<64→cx N ((s,((i:Int),((need:Int),((n:Int),(least,((1:Int),())))))),())=
   some (match ol need r n with
    | some m=>.inr (((need:Int),((m:Int),(least,()))),())
    | none=>.inl ((0,(0,())),())):=fun need n least h1 h2 h3=>by
  have:=aeY (N:=N) s i need least (by omega) h2 need 1 N n (by omega) (by omega) (by omega) (by omega)
  rw [hr]
  exact this
 rw [hd]
 unfold mw
 rw [hg]
 simp only [gt,w0]
 by_cases c1:b0.toNat<128
 ·have d1:(b0.toNat:Int)<128:=by omega
  simp [sg,c1,d1]
 have d1:¬ (b0.toNat:Int)<128:=by omega
 by_cases c2:192≤b0.toNat∧b0.toNat<224
 ·have d2:(192:Int)≤(b0.toNat:Int):=by omega
  have d3:(b0.toNat:Int)<224:=by omega
  have e1:ne .i64 ((b0.toNat:Int)-192)=((b0.toNat-192:Nat):Int):=by rw [ac (by omega) (by omega)];omega
  have l:=L 1 (b0.toNat-192) 128 (by omega) (by omega) (by omega)
  simp only [d1,d2,d3,decide_true,decide_false,cond_true,cond_false,e1]
  have l':cx N ((s,((i:Int),((1:Int),(((b0.toNat-192:Nat):Int),((128:Int),((1:Int),())))))),())=_:=l
  rw [l']
  simp only [sg,c1,if_false,c2,and_self,if_true]
  cases r with
  | nil=>simp [ol]
  | cons b1 r=>
   have hlt1:=gw b1
   cases hc:cb b1 with
   | false=>simp [ol,hc]
   | true=>
    have hc':=df.1 hc
    have e2:64*(b0.toNat-192)+(b1.toNat-128)=n2 b0 b1:=by unfold n2;omega
    have hn:n2 b0 b1<2048:=by unfold n2;omega
    simp only [ol,hc,if_true,e2,gt,Sum.elim_inr]
    have q1:¬ (1114111:Int)<(n2 b0 b1:Int):=by omega
    have q2:¬ (55296:Int)≤(n2 b0 b1:Int):=by omega
    by_cases q3:128≤n2 b0 b1
    ·have q4:¬ (n2 b0 b1:Int)<128:=by omega
     simp [q1,q2,q3,q4,ac]
    ·have q4:(n2 b0 b1:Int)<128:=by omega
     simp [q3,q4]
 by_cases c3:224≤b0.toNat∧b0.toNat<240
 ·have d2:(192:Int)≤(b0.toNat:Int):=by omega
  have d3:¬ (b0.toNat:Int)<224:=by omega
  have d4:(224:Int)≤(b0.toNat:Int):=by omega
  have d5:(b0.toNat:Int)<240:=by omega
  have e1:ne .i64 ((b0.toNat:Int)-224)=((b0.toNat-224:Nat):Int):=by rw [ac (by omega) (by omega)];omega
  have l:=L 2 (b0.toNat-224) 2048 (by omega) (by omega) (by omega)
  simp only [d1,d2,d3,d4,d5,decide_true,decide_false,cond_true,cond_false,e1]
  have l':cx N ((s,((i:Int),((2:Int),(((b0.toNat-224:Nat):Int),((2048:Int),((1:Int),())))))),())=_:=l
  rw [l']
  simp only [sg,c1,if_false,c2,c3,and_self,if_true]
  match r with
  | []=>simp [ol]
  | [b1]=>cases hc:cb b1 <;> simp [ol,hc]
  | b1::b2::r=>
   have hlt1:=gw b1
   have hlt2:=gw b2
   cases hc:cb b1 with
   | false=>simp [ol,hc]
   | true=>
    cases hc2:cb b2 with
    | false=>simp [ol,hc,hc2]
    | true=>
     have hc':=df.1 hc
     have hc2':=df.1 hc2
     have e2:64*(64*(b0.toNat-224)+(b1.toNat-128))+(b2.toNat-128)=n3 b0 b1 b2:=by unfold n3;omega
     have hn:n3 b0 b1 b2<65536:=by unfold n3;omega
     simp only [ol,hc,hc2,if_true,e2,gt,Sum.elim_inr]
     have q1:¬ (1114111:Int)<(n3 b0 b1 b2:Int):=by omega
     by_cases q3:2048≤n3 b0 b1 b2
     ·have q4:¬ (n3 b0 b1 b2:Int)<2048:=by omega
      by_cases q5:55296≤n3 b0 b1 b2
      ·have q6:(55296:Int)≤(n3 b0 b1 b2:Int):=by omega
       by_cases q7:n3 b0 b1 b2≤57343
       ·have q8:(n3 b0 b1 b2:Int)≤57343:=by omega
        simp [q1,q3,q4,q5,q6,q7,q8]
       ·have q8:¬ (n3 b0 b1 b2:Int)≤57343:=by omega
        simp [q1,q3,q4,q5,q6,q7,q8,ac]
      ·have q6:¬ (55296:Int)≤(n3 b0 b1 b2:Int):=by omega
       simp [q1,q3,q4,q5,q6,ac]
     ·have q4:(n3 b0 b1 b2:Int)<2048:=by omega
      simp [q3,q4]
 have hne:¬ ((192:Int)≤(b0.toNat:Int)∧(b0.toNat:Int)<224):=by omega
 have hne2:¬ ((224:Int)≤(b0.toNat:Int)∧(b0.toNat:Int)<240):=by omega
 by_cases c4:240≤b0.toNat∧b0.toNat<248
 ·have d2:(192:Int)≤(b0.toNat:Int):=by omega
  have d3:¬ (b0.toNat:Int)<224:=by omega
  have d4:(224:Int)≤(b0.toNat:Int):=by omega
  have d5:¬ (b0.toNat:Int)<240:=by omega
  have d6:(240:Int)≤(b0.toNat:Int):=by omega
  have d7:(b0.toNat:Int)<248:=by omega
  have e1:ne .i64 ((b0.toNat:Int)-240)=((b0.toNat-240:Nat):Int):=by rw [ac (by omega) (by omega)];omega
  have l:=L 3 (b0.toNat-240) 65536 (by omega) (by omega) (by omega)
  simp only [d1,d2,d3,d4,d5,d6,d7,decide_true,decide_false,cond_true,cond_false,e1]
  have l':cx N ((s,((i:Int),((3:Int),(((b0.toNat-240:Nat):Int),((65536:Int),((1:Int),())))))),())=_:=l
  rw [l']
  simp only [sg,c1,if_false,c2,c3,c4,and_self,if_true]
  match r with
  | []=>simp [ol]
  | [b1]=>cases hc:cb b1 <;> simp [ol,hc]
  | [b1,b2]=>cases hc:cb b1 <;> cases hc2:cb b2 <;> simp [ol,hc,hc2]
  | b1::b2::b3::r=>
   have hlt1:=gw b1
   have hlt2:=gw b2
   have hlt3:=gw b3
   cases hc:cb b1 with
   | false=>simp [ol,hc]
   | true=>
    cases hc2:cb b2 with
    | false=>simp [ol,hc,hc2]
    | true=>
     cases hc3:cb b3 with
     | false=>simp [ol,hc,hc2,hc3]
     | true=>
      have hc':=df.1 hc
      have hc2':=df.1 hc2
      have hc3':=df.1 hc3
      have e2:64*(64*(64*(b0.toNat-240)+(b1.toNat-128))+(b2.toNat-128))+(b3.toNat-128)=n4 b0 b1 b2 b3:=by unfold n4;omega
      simp only [ol,hc,hc2,hc3,if_true,e2,gt,Sum.elim_inr]
      by_cases q3:65536≤n4 b0 b1 b2 b3
      ·have q4:¬ (n4 b0 b1 b2 b3:Int)<65536:=by omega
       have q6:(55296:Int)≤(n4 b0 b1 b2 b3:Int):=by omega
       have q8:¬ (n4 b0 b1 b2 b3:Int)≤57343:=by omega
       by_cases q1:n4 b0 b1 b2 b3≤1114111
       ·have q2:¬ (1114111:Int)<(n4 b0 b1 b2 b3:Int):=by omega
        simp [q1,q2,q3,q4,q6,q8,ac]
       ·have q2:(1114111:Int)<(n4 b0 b1 b2 b3:Int):=by omega
        simp [q1,q2,q3,q4]
      ·have q4:(n4 b0 b1 b2 b3:Int)<65536:=by omega
       simp [q3,q4]
 simp only [sg,c1,if_false,c2,c3,c4]
 by_cases d2:(192:Int)≤(b0.toNat:Int)
 ·have d3:¬ (b0.toNat:Int)<224:=by omega
  have d4:(224:Int)≤(b0.toNat:Int):=by omega
  have d5:¬ (b0.toNat:Int)<240:=by omega
  have d6:(240:Int)≤(b0.toNat:Int):=by omega
  have d7:¬ (b0.toNat:Int)<248:=by omega
  simp [d1,d2,d3,d4,d5,d6,d7]
 ·have d4:¬ (224:Int)≤(b0.toNat:Int):=by omega
  have d6:¬ (240:Int)≤(b0.toNat:Int):=by omega
  simp [d1,d2,d4,d6]
end
theorem aem:∀ l:List UInt8,(sg l).2≤l.length∧(sg l).1≤1114111
 | []=>by simp [sg]
 | b0::r=>by
  have hlt:=gw b0
  by_cases c1:b0.toNat<128
  ·simp only [sg,c1,if_true,C8];omega
  by_cases c2:192≤b0.toNat∧b0.toNat<224
  ·simp only [sg,c1,c2,and_self,if_true,if_false]
   match r with
   | []=>simp
   | b1::r=>
    have:=gw b1
    simp only
    split
    ·unfold n2;simp only [C8];omega
    ·simp
  by_cases c3:224≤b0.toNat∧b0.toNat<240
  ·simp only [sg,c1,c2,c3,and_self,if_true,if_false]
   match r with
   | []=>simp
   | [b1]=>simp
   | b1::b2::r=>
    have:=gw b1
    have:=gw b2
    simp only
    split
    ·unfold n3;simp only [C8];omega
    ·simp
  by_cases c4:240≤b0.toNat∧b0.toNat<248
  ·simp only [sg,c1,c2,c3,c4,and_self,if_true,if_false]
   match r with
   | []=>simp
   | [b1]=>simp
   | [b1,b2]=>simp
   | b1::b2::b3::r=>
    simp only
    split
    ·rename_i h;simp only [C8];omega
    ·simp
  simp [sg,c1,c2,c3,c4]
theorem alW (l:List UInt8):(sg l).2≤l.length:=(aem l).1
theorem aaS (l:List UInt8):(sg l).1≤1114111:=(aem l).2
def sgs (l:List UInt8):Option (List Nat):=
 if h:l=[] then some [] else if hw:(sg l).2=0 then none else (sgs (l.drop (sg l).2)).map ((sg l).1:: ·)
termination_by l.length
decreasing_by
 have:l.length≠0:=fun h0=>h (List.eq_nil_of_length_eq_zero h0)
 simp only [Da];omega
theorem yy:sgs []=some []:=by rw [sgs];simp
theorem uJ {l:List UInt8}(h:l≠[])(hw:(sg l).2=0):sgs l=none:=by rw [sgs];simp [h,hw]
theorem xx {l:List UInt8}(h:l≠[])(hw:(sg l).2≠0):sgs l=(sgs (l.drop (sg l).2)).map ((sg l).1:: ·):=by rw [sgs];simp [h,hw]
theorem mq:∀ (n:Nat) (l:List UInt8) (m:List Nat),l.length≤n→sgs l=some m→(∀ x∈m,x≤1114111)∧m.length≤l.length
 | n,[],m,_,h=>by rw [yy] at h;injection h with h;subst h;simp
 | 0,b::l,m,hn,h=>by simp at hn
 | n+1,b::l,m,hn,h=>by
  by_cases hw:(sg (b::l)).2=0
  ·rw [uJ (by simp) hw] at h;cases h
  ·rw [xx (by simp) hw,Option.map_eq_some_iff] at h
   obtain ⟨m',h1,rfl⟩:=h
   have hd:((b::l).drop (sg (b::l)).2).length≤n:=by rw [Da];omega
   obtain ⟨i1,i2⟩:=mq n _ m' hd h1
   refine ⟨fun x hx=> ?_, ?_⟩
   ·rcases Dz.1 hx with rfl | hx
    ·exact aaS _
    ·exact i1 x hx
   ·have:=alW (b::l)
    rw [Da] at i2
    rw [C8]
    omega
theorem cb64 (b:UInt8):(b.toNat / 64==2)=cb b:=by
 rw [DX]
 simp only [beq_iff_eq,cb,decide_eq_true_eq]
 omega
theorem bget (s:List UInt8)(j:Nat):(ByteArray.mk s.toArray).get! j=s.getD j default:=by
 show s.toArray[j]! =_
 rw [List.getElem!_toArray,List.getElem!_eq_getElem?_getD,List.getD_eq_getElem?_getD]
theorem aeE (s:List UInt8)(i:Nat)(hi:i<s.length):rdec s (i:Int)=if (sg (s.drop i)).2=0 then (65533,1) else (((sg (s.drop i)).1:Int),((sg (s.drop i)).2:Int)):=by
 have hd:=C7 hi
 obtain ⟨b0,hb0⟩:∃ b,b=s[i]:=⟨_,rfl⟩
 obtain ⟨r,hr⟩:∃ r,r=s.drop (i+1):=⟨_,rfl⟩
 rw [←hb0,←hr] at hd
 have hlt:=gw b0
 have hsz:(ByteArray.mk s.toArray).size=s.length:=by show s.toArray.size=_;simp
 have at0:s.getD i default=b0:=by rw [List.getD_eq_getElem?_getD,List.getElem?_eq_getElem hi,Option.getD_some,hb0]
 have g:∀ k,s[i+(k+1)]? =r[k]? :=fun k=>by rw [hr,List.getElem?_drop];congr 1;omega
 have ats:∀ k b,r[k]? =some b→s.getD (i+(k+1)) default=b∧decide (i+(k+1)<s.length)=true:=fun k b h=>by
  have h1:=g k
  rw [h] at h1
  exact ⟨by rw [List.getD_eq_getElem?_getD,h1];rfl,decide_eq_true (List.getElem?_eq_some_iff.1 h1).1⟩
 have atn:∀ k,r[k]? =none→decide (i+(k+1)<s.length)=false:=fun k h=>by
  have h1:=g k
  rw [h] at h1
  exact decide_eq_false (by have:=List.getElem?_eq_none_iff.1 h1;omega)
 rw [hd]
 unfold rdec Utf8.decode
 simp only [C9,hsz,bget,Nat.add_zero,at0,cb64]
 have m2:(b0.toNat / 32==6)=decide (192≤b0.toNat∧b0.toNat<224):=by rw [DX];simp only [beq_iff_eq,decide_eq_true_eq];omega
 have m3:(b0.toNat / 16==14)=decide (224≤b0.toNat∧b0.toNat<240):=by rw [DX];simp only [beq_iff_eq,decide_eq_true_eq];omega
 have m4:(b0.toNat / 8==30)=decide (240≤b0.toNat∧b0.toNat<248):=by rw [DX];simp only [beq_iff_eq,decide_eq_true_eq];omega
 simp only [m2,m3,m4]
 by_cases c1:b0.toNat<128
 ·simp [sg,c1]
 simp only [c1,if_false]
 by_cases c2:192≤b0.toNat∧b0.toNat<224
 ·have c3:¬ (224≤b0.toNat∧b0.toNat<240):=by omega
  have c4:¬ (240≤b0.toNat∧b0.toNat<248):=by omega
  simp only [sg,c1,if_false,c2,c3,c4,and_self,decide_true,decide_false,DM,DT,if_true,Bool.false_eq_true]
  match r,ats,atn with
  | [],ats,atn=>
   simp [atn 0 rfl,Ds]
  | b1::r,ats,atn=>
   obtain ⟨a1,a2⟩:=ats 0 b1 rfl
   simp only [Nat.zero_add] at a1 a2
   have hlt1:=gw b1
   simp only [a1,a2,DM]
   cases hc:cb b1 with
   | false=>simp [Ds]
   | true=>
    have hc':=df.1 hc
    have e2:b0.toNat % 32*64+b1.toNat % 64=n2 b0 b1:=by unfold n2;omega
    simp only [if_true,e2,true_and,ge_iff_le]
    by_cases q3:128≤n2 b0 b1 <;> simp [q3,Ds]
 by_cases c3:224≤b0.toNat∧b0.toNat<240
 ·have c4:¬ (240≤b0.toNat∧b0.toNat<248):=by omega
  simp only [sg,c1,if_false,c2,c3,c4,and_self,decide_true,decide_false,DM,DT,if_true,Bool.false_eq_true]
  match r,ats,atn with
  | [],ats,atn=>simp [atn 0 rfl,Ds]
  | [b1],ats,atn=>
   have h2:=atn 1 rfl
   simp only [DY] at h2
   simp [h2,Ds]
  | b1::b2::r,ats,atn=>
   obtain ⟨a1,a2⟩:=ats 0 b1 rfl
   obtain ⟨a3,a4⟩:=ats 1 b2 rfl
   simp only [Nat.zero_add,DY] at a1 a2 a3 a4
   have hlt1:=gw b1
   have hlt2:=gw b2
   simp only [a1,a2,a3,a4,DM]
   cases hc:cb b1 with
   | false=>simp [Ds]
   | true=>
    cases hc2:cb b2 with
    | false=>simp [Ds]
    | true=>
     have hc':=df.1 hc
     have hc2':=df.1 hc2
     have e2:b0.toNat % 16*4096+b1.toNat % 64*64+b2.toNat % 64=n3 b0 b1 b2:=by unfold n3;omega
     have hn:n3 b0 b1 b2<65536:=by unfold n3;omega
     have hv:Utf8.valid ((n3 b0 b1 b2:Nat):Int)=decide (¬ (55296≤n3 b0 b1 b2∧n3 b0 b1 b2≤57343)):=by
      rw [DX]
      simp only [Utf8.valid,Bool.or_eq_true,DL,decide_eq_true_eq]
      omega
     simp only [if_true,e2,true_and,ge_iff_le,Bool.and_self,hv]
     by_cases q3:2048≤n3 b0 b1 b2
     ·by_cases q5:55296≤n3 b0 b1 b2∧n3 b0 b1 b2≤57343
      ·simp [q3,q5,Ds]
      ·simp only [q3,q5,decide_true,decide_false,not_false_eq_true,DM,if_true,and_self];simp
     ·simp [q3,Ds]
 by_cases c4:240≤b0.toNat∧b0.toNat<248
 ·simp only [sg,c1,if_false,c2,c3,c4,and_self,decide_true,decide_false,DM,DT,if_true,Bool.false_eq_true]
  match r,ats,atn with
  | [],ats,atn=>simp [atn 0 rfl,Ds]
  | [b1],ats,atn=>
   have h2:=atn 1 rfl
   simp only [DY] at h2
   simp [h2,Ds]
  | [b1,b2],ats,atn=>
   have h2:=atn 2 rfl
   simp only [DY] at h2
   simp [h2,Ds]
  | b1::b2::b3::r,ats,atn=>
   obtain ⟨a1,a2⟩:=ats 0 b1 rfl
   obtain ⟨a3,a4⟩:=ats 1 b2 rfl
   obtain ⟨a5,a6⟩:=ats 2 b3 rfl
   simp only [Nat.zero_add,DY] at a1 a2 a3 a4 a5 a6
   have hlt1:=gw b1
   have hlt2:=gw b2
   have hlt3:=gw b3
   simp only [a1,a2,a3,a4,a5,a6,DM]
   cases hc:cb b1 with
   | false=>simp [Ds]
   | true=>
    cases hc2:cb b2 with
    | false=>simp [Ds]
    | true=>
     cases hc3:cb b3 with
     | false=>simp [Ds]
     | true=>
      have hc':=df.1 hc
      have hc2':=df.1 hc2
      have hc3':=df.1 hc3
      have e2:b0.toNat % 8*262144+b1.toNat % 64*4096+b2.toNat % 64*64+b3.toNat % 64=n4 b0 b1 b2 b3:=by unfold n4;omega
      simp only [if_true,e2,true_and,ge_iff_le,Bool.and_self]
      by_cases q3:65536≤n4 b0 b1 b2 b3
      ·have hv:Utf8.valid ((n4 b0 b1 b2 b3:Nat):Int)=decide (n4 b0 b1 b2 b3≤1114111):=by
        rw [DX]
        simp only [Utf8.valid,Bool.or_eq_true,DL,decide_eq_true_eq]
        omega
       rw [hv]
       by_cases q5:n4 b0 b1 b2 b3≤1114111 <;> simp [q3,q5,Ds]
      ·simp [q3,Ds]
 simp [sg,c1,c2,c3,c4,Ds]
theorem ael {b:UInt8}{l:List UInt8}(h:b.toNat<128):sg (b::l)=(b.toNat,1):=by simp [sg,h]
theorem aei:∀ (k:Nat) (l:List UInt8),k≤l.length→(∀ j b,j<k→l[j]? =some b→b.toNat<128)→(sgs (l.drop k)).isSome=(sgs l).isSome
 | 0,l,_,_=>by simp
 | k+1,[],hk,_=>by simp at hk
 | k+1,b::l,hk,h=>by
  have hb:=h 0 b (by omega) rfl
  rw [List.drop_succ_cons,aei k l (by simpa using hk) (fun j c hj hc=>h (j+1) c (by omega) (by simpa using hc)),xx (l:=b::l) (by simp) (by rw [ael hb];simp),ael hb]
  simp
theorem q64_and (a b:Nat)(ha:a<18446744073709551616)(hb:b<18446744073709551616):bits .and .u64 (a:Int) (b:Int)=((a&&&b:Nat):Int):=by
 have hx:a&&&b<2 ^ 64:=Nat.and_lt_two_pow (n:=64) a (by omega)
 show DR.wrap ((DC 64 (a:Int)&&&DC 64 (b:Int)).toNat:Int)=_
 rw [BitVec.toNat_and,oG a ha,oG b hb,D1]
 omega
theorem sh64 (b:UInt8)(k:Nat)(hk:k≤56):ne .u64 (ne .u64 (b.toNat:Int)*2 ^ k)=((b.toNat <<<k:Nat):Int):=by
 have hlt:=gw b
 have h1:ne .u64 (b.toNat:Int)=b.toNat:=aR (by omega) (by omega)
 have h2:b.toNat*2 ^ k<18446744073709551616:=by
  have:(2:Nat) ^ k≤2 ^ 56:=DS (by decide) hk
  calc b.toNat*2 ^ k≤255*2 ^ 56:=Nat.mul_le_mul (by omega) this
   _<_:=by decide
 rw [h1,Nat.shiftLeft_eq]
 have e:((b.toNat:Int)*2 ^ k)=((b.toNat*2 ^ k:Nat):Int):=by simp
 rw [e]
 exact aR (by omega) (by omega)
theorem mo (b:UInt8)(k:Nat)(hk:k≤56):b.toNat <<<k<18446744073709551616:=by
 have hlt:=gw b
 have:(2:Nat) ^ k≤2 ^ 56:=DS (by decide) hk
 rw [Nat.shiftLeft_eq]
 calc b.toNat*2 ^ k≤255*2 ^ 56:=Nat.mul_le_mul (by omega) this
  _<_:=by decide
theorem eS {a b:Nat}(ha:a<18446744073709551616)(hb:b<18446744073709551616):a|||b<18446744073709551616:=Nat.or_lt_two_pow (n:=64) ha hb
def w8 (a b c d e f g h:UInt8):Nat:=(((((((a.toNat|||b.toNat <<<8)|||c.toNat <<<16)|||d.toNat <<<24)|||e.toNat <<<32)|||f.toNat <<<40)|||g.toNat <<<48)|||h.toNat <<<56)
theorem atH (a b c d e f g h:UInt8):w8 a b c d e f g h<18446744073709551616:=by
 have ha:a.toNat<18446744073709551616:=by have:=gw a;omega
 exact eS (eS (eS (eS (eS (eS (eS ha (mo b 8 (by decide))) (mo c 16 (by decide))) (mo d 24 (by decide))) (mo e 32 (by decide))) (mo f 40 (by decide))) (mo g 48 (by decide))) (mo h 56 (by decide))
theorem ar6 (b:UInt8)(n:Nat)(h:8≤n):b.toNat.testBit n=false:=Nat.testBit_lt_two_pow (Nat.lt_of_lt_of_le (gw b) (by have:(2:Nat) ^ 8≤2 ^ n:=DS (by decide) h;exact this))
theorem alJ (a b c d e f g h:UInt8):
  (w8 a b c d e f g h).testBit 7=a.toNat.testBit 7∧(w8 a b c d e f g h).testBit 15=b.toNat.testBit 7∧(w8 a b c d e f g h).testBit 23=c.toNat.testBit 7∧(w8 a b c d e f g h).testBit 31=d.toNat.testBit 7∧(w8 a b c d e f g h).testBit 39=e.toNat.testBit 7∧(w8 a b c d e f g h).testBit 47=f.toNat.testBit 7∧(w8 a b c d e f g h).testBit 55=g.toNat.testBit 7∧(w8 a b c d e f g h).testBit 63=h.toNat.testBit 7:=by
 have z:∀ (x:UInt8) (n:Nat),8≤n→x.toNat.testBit n=false:=ar6
 refine ⟨?_, ?_, ?_, ?_, ?_, ?_, ?_, ?_⟩ <;> simp [w8,Nat.testBit_or,Nat.testBit_shiftLeft,z]
theorem tA {x:UInt8}(h:x.toNat.testBit 7=false):x.toNat<128:=by
 have hlt:=gw x
 rw [Nat.testBit_eq_decide_div_mod_eq] at h
 simp at h
 omega
def hiM:Nat:=9259542123273814144
theorem amE {w:Nat}(h:w&&&hiM=0):w.testBit 7=false∧w.testBit 15=false∧w.testBit 23=false∧w.testBit 31=false∧w.testBit 39=false∧w.testBit 47=false∧w.testBit 55=false∧w.testBit 63=false:=by
 have key:∀ i,hiM.testBit i=true→w.testBit i=false:=fun i hi=>by
  have h1:(w&&&hiM).testBit i=false:=by rw [h];simp
  rw [D4,hi,Bool.and_true] at h1
  exact h1
 exact ⟨key 7 (by decide),key 15 (by decide),key 23 (by decide),key 31 (by decide),key 39 (by decide),key 47 (by decide),key 55 (by decide),key 63 (by decide)⟩
def low8 (s:List UInt8):Prop:=∀ j b,j<8→s[j]? =some b→b.toNat<128
section
variable {N:Nat}
theorem word_ok (s:List UInt8)(h:8≤s.length):∃ w:Nat,w<18446744073709551616∧aG N s=some (w:Int)∧(w&&&hiM=0→low8 s):=by
 match s,h with
 | a::b::c::d::e::f::g::k::r,_=>
  refine ⟨w8 a b c d e f g k,atH _ _ _ _ _ _ _ _, ?_,fun hz=> ?_⟩
  ·have ga:getI (a::b::c::d::e::f::g::k::r) (0:Int)=some a:=rfl
   have gb:getI (a::b::c::d::e::f::g::k::r) (1:Int)=some b:=rfl
   have gc:getI (a::b::c::d::e::f::g::k::r) (2:Int)=some c:=rfl
   have gd:getI (a::b::c::d::e::f::g::k::r) (3:Int)=some d:=rfl
   have ge:getI (a::b::c::d::e::f::g::k::r) (4:Int)=some e:=rfl
   have gf:getI (a::b::c::d::e::f::g::k::r) (5:Int)=some f:=rfl
   have gg:getI (a::b::c::d::e::f::g::k::r) (6:Int)=some g:=rfl
   have gk:getI (a::b::c::d::e::f::g::k::r) (7:Int)=some k:=rfl
   have ha:a.toNat<18446744073709551616:=by have:=gw a;omega
   have e0:ne .u64 (a.toNat:Int)=a.toNat:=aR (by omega) (by omega)
   have m8:min (Db 8) (Dj DR)=8:=by decide
   have m16:min (Db 16) (Dj DR)=16:=by decide
   have m24:min (Db 24) (Dj DR)=24:=by decide
   have m32:min (Db 32) (Dj DR)=32:=by decide
   have m40:min (Db 40) (Dj DR)=40:=by decide
   have m48:min (Db 48) (Dj DR)=48:=by decide
   have m56:min (Db 56) (Dj DR)=56:=by decide
   simp only [aG,ga,gb,gc,gd,ge,gf,gg,gk,gt,e0,m8,m16,m24,m32,m40,m48,m56,sh64 b 8 (by decide),sh64 c 16 (by decide),sh64 d 24 (by decide),sh64 e 32 (by decide),sh64 f 40 (by decide),sh64 g 48 (by decide),sh64 k 56 (by decide)]
   have l1:=eS ha (mo b 8 (by decide))
   have l2:=eS l1 (mo c 16 (by decide))
   have l3:=eS l2 (mo d 24 (by decide))
   have l4:=eS l3 (mo e 32 (by decide))
   have l5:=eS l4 (mo f 40 (by decide))
   have l6:=eS l5 (mo g 48 (by decide))
   rw [mM _ _ ha (mo b 8 (by decide)),mM _ _ l1 (mo c 16 (by decide)),mM _ _ l2 (mo d 24 (by decide)),mM _ _ l3 (mo e 32 (by decide)),mM _ _ l4 (mo f 40 (by decide)),mM _ _ l5 (mo g 48 (by decide)),mM _ _ l6 (mo k 56 (by decide))]
   rfl
  ·obtain ⟨b1,b2,b3,b4,b5,b6,b7,b8⟩:=alJ a b c d e f g k
   obtain ⟨z1,z2,z3,z4,z5,z6,z7,z8⟩:=amE hz
   rw [z1] at b1;rw [z2] at b2;rw [z3] at b3;rw [z4] at b4;rw [z5] at b5;rw [z6] at b6;rw [z7] at b7;rw [z8] at b8
   intro j x hj hx
   have:j=0∨j=1∨j=2∨j=3∨j=4∨j=5∨j=6∨j=7:=by omega
   rcases this with rfl | rfl | rfl | rfl | rfl | rfl | rfl | rfl <;> (simp at hx;subst hx;first | exact tA b1.symm | exact tA b2.symm | exact tA b3.symm | exact tA b4.symm | exact tA b5.symm | exact tA b6.symm | exact tA b7.symm | exact tA b8.symm)
theorem kz {s:List UInt8}(h:8≤s.length)(hl:low8 s):(sgs (s.drop 8)).isSome=(sgs s).isSome:=aei 8 s h hl
theorem zf {a b:Nat}(h:(a|||b)&&&hiM=0):a&&&hiM=0∧b&&&hiM=0:=by
 constructor
 ·apply DZ
  intro i
  have h1:((a|||b)&&&hiM).testBit i=false:=by rw [h];simp
  rw [D4,Nat.testBit_or] at h1
  rw [D4,Nat.zero_testBit]
  revert h1;cases a.testBit i <;> cases b.testBit i <;> cases hiM.testBit i <;> simp
 ·apply DZ
  intro i
  have h1:((a|||b)&&&hiM).testBit i=false:=by rw [h];simp
  rw [D4,Nat.testBit_or] at h1
  rw [D4,Nat.zero_testBit]
  revert h1;cases a.testBit i <;> cases b.testBit i <;> cases hiM.testBit i <;> simp
theorem pI (s:List UInt8)(k:Nat)(h:k≤s.length):b9 s ((k:Nat):Int)=some (s.drop k):=fy s rfl h
theorem wm (w:Nat)(h:w<18446744073709551616):bits .and .u64 (w:Int) (9259542123273814144:Int)=((w&&&hiM:Nat):Int):=q64_and w hiM h (by decide)
theorem arS:∀ (n M:Nat) (s:List UInt8),s.length≤n→n<M→∃ t:List UInt8,gl (fun X c=>a7 N X c.1.1) M ((s,()),())=some ((t,()),())∧t.length≤s.length∧(sgs t).isSome=(sgs s).isSome
 | n,0,s,_,h=>by omega
 | n,M+1,s,hn,hM=>by
  rw [ah]
  by_cases hl:32<s.length
  ·have c1:(32:Int)<(s.length:Int):=by omega
   obtain ⟨w1,a1,a2,a3⟩:=word_ok (N:=N) s (by omega)
   obtain ⟨w2,b1,b2,b3⟩:=word_ok (N:=N) (s.drop 8) (by rw [Da];omega)
   obtain ⟨w3,d1,d2,d3⟩:=word_ok (N:=N) (s.drop 16) (by rw [Da];omega)
   obtain ⟨w4,e1,e2,e3⟩:=word_ok (N:=N) (s.drop 24) (by rw [Da];omega)
   have f1:b9 s (8:Int)=some (s.drop 8):=pI s 8 (by omega)
   have f2:b9 s (16:Int)=some (s.drop 16):=pI s 16 (by omega)
   have f3:b9 s (24:Int)=some (s.drop 24):=pI s 24 (by omega)
   have f4:b9 s (32:Int)=some (s.drop 32):=pI s 32 (by omega)
   have l1:=eS a1 b1
   have l2:=eS d1 e1
   have l3:=eS l1 l2
   simp only [a7,c1,decide_true,cond_true,a2,gt,f1,b2,f2,d2,f3,e2,f4,mM _ _ a1 b1,mM _ _ d1 e1,mM _ _ l1 l2,wm _ l3]
   by_cases hz:((w1|||w2)|||(w3|||w4))&&&hiM=0
   ·obtain ⟨z1,z2⟩:=zf hz
    obtain ⟨z3,z4⟩:=zf z1
    obtain ⟨z5,z6⟩:=zf z2
    have k1:=kz (by omega) (a3 z3)
    have k2:=kz (by rw [Da];omega) (b3 z4)
    have k3:=kz (by rw [Da];omega) (d3 z5)
    have k4:=kz (by rw [Da];omega) (e3 z6)
    simp only [DI,DY] at k1 k2 k3 k4
    have ih:=arS (n-32) M (s.drop 32) (by rw [Da];omega) (by omega)
    obtain ⟨t,t1,t2,t3⟩:=ih
    refine ⟨t, ?_,by rw [Da] at t2;omega,by rw [t3,k4,k3,k2,k1]⟩
    simp only [hz,D2,decide_true,cond_true]
    exact t1
   ·have hz':¬ ((((w1|||w2)|||(w3|||w4))&&&hiM:Nat):Int)=0:=by omega
    refine ⟨s, ?_,Dq _,rfl⟩
    simp only [hz',decide_false,cond_false]
  ·have c1:¬ (32:Int)<(s.length:Int):=by omega
   refine ⟨s, ?_,Dq _,rfl⟩
   simp only [a7,c1,decide_false,cond_false]
def afy:List Int:=[240,240,240,240,240,240,240,240,240,240,240,240,240,240,240,240,240,240,240,240,240,240,240,240,240,240,240,240,240,240,240,240,240,240,240,240,240,240,240,240,240,240,240,240,240,240,240,240,240,240,240,240,240,240,240,240,240,240,240,240,240,240,240,240,240,240,240,240,240,240,240,240,240,240,240,240,240,240,240,240,240,240,240,240,240,240,240,240,240,240,240,240,240,240,240,240,240,240,240,240,240,240,240,240,240,240,240,240,240,240,240,240,240,240,240,240,240,240,240,240,240,240,240,240,240,240,240,240,241,241,241,241,241,241,241,241,241,241,241,241,241,241,241,241,241,241,241,241,241,241,241,241,241,241,241,241,241,241,241,241,241,241,241,241,241,241,241,241,241,241,241,241,241,241,241,241,241,241,241,241,241,241,241,241,241,241,241,241,241,241,241,241,241,241,2,2,2,2,2,2,2,2,2,2,2,2,2,2,2,2,2,2,2,2,2,2,2,2,2,2,2,2,2,2,19,3,3,3,3,3,3,3,3,3,3,3,3,35,3,3,52,4,4,4,68,241,241,241,241,241,241,241,241,241,241,241]
def accT:List (Int×Int):=[(128,191),(160,191),(128,159),(144,191),(128,143),(0,0),(0,0),(0,0),(0,0),(0,0),(0,0),(0,0),(0,0),(0,0),(0,0),(0,0)]
def tabB (b:Nat):Option (Int×Int×Int):=match getI afy (b:Int) with
 | some x=>(match getI accT (DJ x (2 ^ min (Db 4) (Dj IntKind.u8))) with
  | some (lo,hi)=>some (ne .i64 (bits .and .u8 x 7),lo,hi)
  | none=>none)
 | none=>none
def tabW (b:Nat):Int×Int×Int:=
 if 194≤b∧b<224 then (2,128,191) else if b=224 then (3,160,191) else if b=237 then (3,128,159) else if 225≤b∧b<240 then (3,128,191)
 else if b=240 then (4,144,191) else if 241≤b∧b<244 then (4,128,191) else if b=244 then (4,128,143) else (1,128,191)
theorem alR:∀ b:Fin 128,(match tabB (128+b.val),tabW (128+b.val) with | some (n,lo,hi),(n',lo',hi')=>n==n'&&(n==1||(lo==lo'&&hi==hi')) | _,_=>false)=true:=by decide +kernel
theorem ars (b:UInt8)(h:128≤b.toNat):∃ x lo hi,getI afy (b.toNat:Int)=some x∧getI accT (DJ x (2 ^ min (Db 4) (Dj IntKind.u8)))=some (lo,hi)∧
  ne .i64 (bits .and .u8 x 7)=(tabW b.toNat).1∧((tabW b.toNat).1=1∨(lo=(tabW b.toNat).2.1∧hi=(tabW b.toNat).2.2)):=by
 have hlt:=gw b
 have:=alR ⟨b.toNat-128,by omega⟩
 have e:128+(b.toNat-128)=b.toNat:=by omega
 simp only [e,tabB] at this
 split at this
 ·rename_i n lo hi n' lo' hi' h1 h2
  split at h1
  ·rename_i x hx
   split at h1
   ·rename_i p lo1 hi1 hp
    injection h1 with h1
    injection h1 with h3 h4
    injection h4 with h4 h5
    subst h4 h5
    refine ⟨x,lo1,hi1,hx,hp, ?_, ?_⟩
    ·rw [h2]
     simp only [DL,beq_iff_eq] at this
     rw [h3];exact this.1
    ·rw [h2]
     simp only [DL,Bool.or_eq_true,beq_iff_eq] at this
     rcases this.2 with h6 | h6
     ·exact .inl (by rw [←this.1];exact h6)
     ·exact .inr h6
   ·cases h1
  ·cases h1
 ·cases this
end
theorem sgv2 (b0:UInt8)(r:List UInt8)(h:194≤b0.toNat∧b0.toNat<224):(sg (b0::r)).2=(match r with | b1::_=>if 128≤b1.toNat∧b1.toNat≤191 then 2 else 0 | _=>0):=by
 have c1:¬ b0.toNat<128:=by omega
 have c2:192≤b0.toNat∧b0.toNat<224:=by omega
 simp only [sg,c1,c2,and_self,if_true,if_false]
 match r with
 | []=>rfl
 | b1::r=>
  simp only
  by_cases hc:128≤b1.toNat∧b1.toNat≤191
  ·rw [if_pos hc,if_pos ⟨df.2 (by omega),by unfold n2;omega⟩]
  ·rw [if_neg hc,if_neg (fun h=>hc (by have:=df.1 h.1;omega))]
theorem sgv3 (b0:UInt8)(r:List UInt8)(h:224≤b0.toNat∧b0.toNat<240):(sg (b0::r)).2=(match r with | b1::b2::_=>if ((tabW b0.toNat).2.1≤b1.toNat∧(b1.toNat:Int)≤(tabW b0.toNat).2.2)∧128≤b2.toNat∧b2.toNat≤191 then 3 else 0 | _=>0)∧(tabW b0.toNat).1=3:=by
 have c1:¬ b0.toNat<128:=by omega
 have c2:¬ (192≤b0.toNat∧b0.toNat<224):=by omega
 simp only [sg,c1,c2,h,and_self,if_true,if_false]
 have d1:¬ (194≤b0.toNat∧b0.toNat<224):=by omega
 have key:∀ lo hi:Nat,((lo=160∧hi=191∧b0.toNat=224)∨(lo=128∧hi=159∧b0.toNat=237)∨(lo=128∧hi=191∧b0.toNat≠224∧b0.toNat≠237))→(match r with
   | b1::b2::_=>if cb b1=true∧cb b2=true∧2048≤n3 b0 b1 b2∧¬ (55296≤n3 b0 b1 b2∧n3 b0 b1 b2≤57343) then (n3 b0 b1 b2,3) else (0,0)
   | _=>(0,0)).2=(match r with | b1::b2::_=>if ((lo:Int)≤b1.toNat∧(b1.toNat:Int)≤hi)∧128≤b2.toNat∧b2.toNat≤191 then 3 else 0 | _=>0):=by
  intro lo hi hlo
  match r with
  | []=>rfl
  | [b1]=>rfl
  | b1::b2::r=>
   simp only
   by_cases hc:((lo:Int)≤b1.toNat∧(b1.toNat:Int)≤hi)∧128≤b2.toNat∧b2.toNat≤191
   ·rw [if_pos hc,if_pos ⟨df.2 (by omega),df.2 (by omega),by unfold n3;omega,by unfold n3;omega⟩]
   ·rw [if_neg hc,if_neg (fun h=>hc (by have h1:=df.1 h.1;have h2:=df.1 h.2.1;have h3:=h.2.2;unfold n3 at h3;omega))]
 by_cases e1:b0.toNat=224
 ·have t:tabW b0.toNat=(3,160,191):=by rw [e1];rfl
  rw [t];exact ⟨key 160 191 (by omega),rfl⟩
 by_cases e2:b0.toNat=237
 ·have t:tabW b0.toNat=(3,128,159):=by rw [e2];rfl
  rw [t];exact ⟨key 128 159 (by omega),rfl⟩
 have t:tabW b0.toNat=(3,128,191):=by
  have c5:225≤b0.toNat∧b0.toNat<240:=by omega
  simp [tabW,d1,e1,e2,c5]
 rw [t];exact ⟨key 128 191 (by omega),rfl⟩
theorem sgv4 (b0:UInt8)(r:List UInt8)(h:240≤b0.toNat∧b0.toNat<245):(sg (b0::r)).2=(match r with | b1::b2::b3::_=>if ((tabW b0.toNat).2.1≤b1.toNat∧(b1.toNat:Int)≤(tabW b0.toNat).2.2)∧(128≤b2.toNat∧b2.toNat≤191)∧128≤b3.toNat∧b3.toNat≤191 then 4 else 0 | _=>0)∧(tabW b0.toNat).1=4:=by
 have c1:¬ b0.toNat<128:=by omega
 have c2:¬ (192≤b0.toNat∧b0.toNat<224):=by omega
 have c3:¬ (224≤b0.toNat∧b0.toNat<240):=by omega
 have c4:240≤b0.toNat∧b0.toNat<248:=by omega
 simp only [sg,c1,c2,c3,c4,and_self,if_true,if_false]
 have d1:¬ (194≤b0.toNat∧b0.toNat<224):=by omega
 have d2:¬ (225≤b0.toNat∧b0.toNat<240):=by omega
 have d3:¬ b0.toNat=224:=by omega
 have d4:¬ b0.toNat=237:=by omega
 have key:∀ lo hi:Nat,((lo=144∧hi=191∧b0.toNat=240)∨(lo=128∧hi=143∧b0.toNat=244)∨(lo=128∧hi=191∧b0.toNat≠240∧b0.toNat≠244))→(match r with
   | b1::b2::b3::_=>if cb b1=true∧cb b2=true∧cb b3=true∧65536≤n4 b0 b1 b2 b3∧n4 b0 b1 b2 b3≤1114111 then (n4 b0 b1 b2 b3,4) else (0,0)
   | _=>(0,0)).2=(match r with | b1::b2::b3::_=>if ((lo:Int)≤b1.toNat∧(b1.toNat:Int)≤hi)∧(128≤b2.toNat∧b2.toNat≤191)∧128≤b3.toNat∧b3.toNat≤191 then 4 else 0 | _=>0):=by
  intro lo hi hlo
  match r with
  | []=>rfl
  | [b1]=>rfl
  | [b1,b2]=>rfl
  | b1::b2::b3::r=>
   simp only
   by_cases hc:((lo:Int)≤b1.toNat∧(b1.toNat:Int)≤hi)∧(128≤b2.toNat∧b2.toNat≤191)∧128≤b3.toNat∧b3.toNat≤191
   ·rw [if_pos hc,if_pos ⟨df.2 (by omega),df.2 (by omega),df.2 (by omega),by unfold n4;omega,by unfold n4;omega⟩]
   ·rw [if_neg hc,if_neg (fun h=>hc (by have h1:=df.1 h.1;have h2:=df.1 h.2.1;have h4:=df.1 h.2.2.1;have h3:=h.2.2.2;unfold n4 at h3;omega))]
 by_cases e1:b0.toNat=240
 ·have t:tabW b0.toNat=(4,144,191):=by rw [e1];rfl
  rw [t];exact ⟨key 144 191 (by omega),rfl⟩
 by_cases e2:b0.toNat=244
 ·have t:tabW b0.toNat=(4,128,143):=by rw [e2];rfl
  rw [t];exact ⟨key 128 143 (by omega),rfl⟩
 have t:tabW b0.toNat=(4,128,191):=by
  have c5:241≤b0.toNat∧b0.toNat<244:=by omega
  simp [tabW,d1,d2,d3,d4,e1,e2,c5]
 rw [t];exact ⟨key 128 191 (by omega),rfl⟩
theorem sgv0 (b0:UInt8)(r:List UInt8)(h:128≤b0.toNat)(h':b0.toNat<194∨245≤b0.toNat):(sg (b0::r)).2=0∧(tabW b0.toNat).1=1:=by
 have hlt:=gw b0
 have c1:¬ b0.toNat<128:=by omega
 have c3:¬ (224≤b0.toNat∧b0.toNat<240):=by omega
 have d1:¬ (194≤b0.toNat∧b0.toNat<224):=by omega
 have d2:¬ (225≤b0.toNat∧b0.toNat<240):=by omega
 have d3:¬ b0.toNat=224:=by omega
 have d4:¬ b0.toNat=237:=by omega
 have d5:¬ b0.toNat=240:=by omega
 have d6:¬ b0.toNat=244:=by omega
 have d7:¬ (241≤b0.toNat∧b0.toNat<244):=by omega
 refine ⟨?_,by simp [tabW,d1,d2,d3,d4,d5,d6,d7]⟩
 by_cases c2:192≤b0.toNat∧b0.toNat<224
 ·simp only [sg,c1,c2,and_self,if_true,if_false]
  match r with
  | []=>rfl
  | b1::r=>
   simp only
   rw [if_neg (fun h=>by have h1:=df.1 h.1;have h3:=h.2;unfold n2 at h3;omega)]
 by_cases c4:240≤b0.toNat∧b0.toNat<248
 ·simp only [sg,c1,c2,c3,c4,and_self,if_true,if_false]
  match r with
  | []=>rfl
  | [b1]=>rfl
  | [b1,b2]=>rfl
  | b1::b2::b3::r=>
   simp only
   rw [if_neg (fun h=>by have h3:=h.2.2.2;unfold n4 at h3;omega)]
 simp [sg,c1,c2,c3,c4]
theorem uk {l:List UInt8}{k:Nat}(hl:l≠[])(h:(sg l).2=k)(hk:k≠0):(sgs (l.drop k)).isSome=(sgs l).isSome:=by
 rw [xx hl (by omega),h];simp
section
variable {N:Nat}
abbrev VX:=(((List UInt8)×Unit)×Unit)→Option (((((Bool)×Unit)×Unit) ⊕ (Unit×Unit)))
def VQ (v:Bool):((((Bool)×Unit)×Unit) ⊕ (Unit×Unit))→Prop
 | .inl q=>q.1.1=v
 | .inr _=>true=v
theorem acO (X:VX)(s:List UInt8)(hN:s.length<N):(∃ o,am N X s=some o∧VQ (sgs s).isSome o)∨∃ t:List UInt8,t.length<s.length∧(sgs t).isSome=(sgs s).isSome∧am N X s=X ((t,()),()):=by
 match s,hN with
 | [],_=>
  left
  exact ⟨_,rfl,by rw [yy];rfl⟩
 | b0::r,hN=>
  have hlt:=gw b0
  have c0:(0:Int)<(((b0::r).length:Nat):Int):=by rw [C8];omega
  have g0:getI (b0::r) (0:Int)=some b0:=rfl
  by_cases hb:b0.toNat<128
  ·right
   have c1:(b0.toNat:Int)<128:=by omega
   have f1:b9 (b0::r) (1:Int)=some r:=pI (b0::r) 1 (by simp)
   have s1:(sgs r).isSome=(sgs (b0::r)).isSome:=uk (l:=b0::r) (k:=1) (by simp) (by rw [ael hb]) (by omega)
   by_cases l8:8<r.length
   ·have c2:(8:Int)<(r.length:Int):=by omega
    obtain ⟨w1,a1,a2,a3⟩:=word_ok (N:=N) r (by omega)
    by_cases z1:w1&&&hiM=0
    ·have f2:b9 r (8:Int)=some (r.drop 8):=pI r 8 (by omega)
     have s2:=kz (by omega) (a3 z1)
     by_cases l16:16<(r.drop 8).length
     ·have c3:(16:Int)<((r.drop 8).length:Int):=by omega
      have hlen:(r.drop 8).length=r.length-8:=Da
      obtain ⟨w2,b1,b2,b3⟩:=word_ok (N:=N) (r.drop 8) (by omega)
      have f3:b9 (r.drop 8) (8:Int)=some ((r.drop 8).drop 8):=pI _ 8 (by omega)
      have f4:b9 (r.drop 8) (16:Int)=some ((r.drop 8).drop 16):=pI _ 16 (by omega)
      obtain ⟨w3,d1,d2,d3⟩:=word_ok (N:=N) ((r.drop 8).drop 8) (by rw [Da];omega)
      have l1:=eS b1 d1
      by_cases z2:(w2|||w3)&&&hiM=0
      ·obtain ⟨y1,y2⟩:=zf z2
       have s3:=kz (by omega) (b3 y1)
       have s4:=kz (by rw [Da];omega) (d3 y2)
       simp only [DI,DY] at s3 s4 d2 f3 f4
       obtain ⟨t,t1,t2,t3⟩:=arS (N:=N) (r.drop 24).length N (r.drop 24) (Dq _) (by rw [Da];rw [C8] at hN;omega)
       have t1':ee N ((r.drop 24,()),())=some ((t,()),()):=t1
       refine ⟨t,by rw [Da] at t2;rw [C8];omega,by rw [t3,s4,s3,s2,s1], ?_⟩
       simp only [am,c0,g0,c1,f1,c2,a2,f2,c3,b2,f3,d2,f4,decide_true,cond_true,gt,wm _ a1,z1,D2,mM _ _ b1 d1,wm _ l1,z2]
       rw [t1']
       rfl
      ·have z2':¬ ((((w2|||w3)&&&hiM:Nat):Int))=0:=by omega
       refine ⟨r.drop 8,by rw [C8];omega,by rw [s2,s1], ?_⟩
       simp only [am,c0,g0,c1,f1,c2,a2,f2,c3,b2,f3,d2,f4,decide_true,decide_false,cond_true,cond_false,gt,wm _ a1,z1,D2,mM _ _ b1 d1,wm _ l1,z2']
     ·have c3:¬ (16:Int)<((r.drop 8).length:Int):=by omega
      refine ⟨r.drop 8,by rw [C8,Da];omega,by rw [s2,s1], ?_⟩
      simp only [am,c0,g0,c1,f1,c2,a2,f2,c3,decide_true,decide_false,cond_true,cond_false,gt,wm _ a1,z1,D2]
    ·have z1':¬ (((w1&&&hiM:Nat):Int))=0:=by omega
     refine ⟨r,by rw [C8];omega,s1, ?_⟩
     simp only [am,c0,g0,c1,f1,c2,a2,decide_true,decide_false,cond_true,cond_false,gt,wm _ a1,z1']
   ·have c2:¬ (8:Int)<(r.length:Int):=by omega
    refine ⟨r,by rw [C8];omega,s1, ?_⟩
    simp only [am,c0,g0,c1,f1,c2,decide_true,decide_false,cond_true,cond_false,gt]
  ·have c1:¬ (b0.toNat:Int)<128:=by omega
   obtain ⟨x,lo,hi,t1,t2,t3,t4⟩:=ars b0 (by omega)
   unfold afy at t1
   unfold accT at t2
   have bad:(sg (b0::r)).2=0→(sgs (b0::r)).isSome=false:=fun h=>by rw [uJ (by simp) h];rfl
   obtain ⟨y,hy⟩:∃ y,y=am N X (b0::r):=⟨_,rfl⟩
   rw [←hy]
   simp only [am,c0,g0,c1,decide_true,decide_false,cond_true,cond_false,gt] at hy
   rw [t1,gt,t2,gt,t3] at hy
   subst hy
   clear t1 t2
   by_cases k2:194≤b0.toNat∧b0.toNat<224
   ·have tw:tabW b0.toNat=(2,128,191):=by simp [tabW,k2]
    have hs:=sgv2 b0 r k2
    rw [tw] at t4
    obtain ⟨rfl,rfl⟩:lo=128∧hi=191:=t4.resolve_left (by decide)
    simp only [tw,decide_true,cond_true]
    match r,hs,bad with
    | [],hs,bad=>left;exact ⟨_,rfl,by rw [bad hs];rfl⟩
    | b1::r,hs,bad=>
     have e1:¬ (((b0::b1::r).length:Nat):Int)<2:=by simp only [C8];omega
     have g1:getI (b0::b1::r) (1:Int)=some b1:=rfl
     simp only [e1,decide_false,cond_false,g1,gt]
     by_cases q:128≤b1.toNat∧b1.toNat≤191
     ·right
      have q1:¬ (b1.toNat:Int)<128:=by omega
      have q2:¬ (191:Int)<(b1.toNat:Int):=by omega
      simp only [q,and_self,if_true] at hs
      have fd:b9 (b0::b1::r) (2:Int)=some r:=pI (b0::b1::r) 2 (by simp)
      refine ⟨r,by simp only [C8];omega,uk (l:=b0::b1::r) (k:=2) (by simp) hs (by omega), ?_⟩
      simp only [q1,q2,decide_false,cond_false,fd,gt]
     ·left
      simp only [q,if_false] at hs
      by_cases q1:(b1.toNat:Int)<128
      ·exact ⟨.inl ((false,()),()),by simp only [q1,decide_true,cond_true],by rw [bad hs];rfl⟩
      ·have q2:(191:Int)<(b1.toNat:Int):=by omega
       exact ⟨.inl ((false,()),()),by simp only [q1,q2,decide_true,decide_false,cond_true,cond_false],by rw [bad hs];rfl⟩
   by_cases k3:224≤b0.toNat∧b0.toNat<240
   ·obtain ⟨hs,tw⟩:=sgv3 b0 r k3
    obtain ⟨rfl,rfl⟩:lo=(tabW b0.toNat).2.1∧hi=(tabW b0.toNat).2.2:=t4.resolve_left (by rw [tw];decide)
    clear t4
    generalize (tabW b0.toNat).2.1=lo at hs ⊢
    generalize (tabW b0.toNat).2.2=hi at hs ⊢
    have n23:¬ (3:Int)=2:=by decide
    simp only [tw,n23,decide_true,decide_false,cond_true,cond_false]
    match r,hs,bad with
    | [],hs,bad=>left;exact ⟨_,rfl,by rw [bad hs];rfl⟩
    | [b1],hs,bad=>left;exact ⟨_,rfl,by rw [bad hs];rfl⟩
    | b1::b2::r,hs,bad=>
     have e1:¬ (((b0::b1::b2::r).length:Nat):Int)<3:=by simp only [C8];omega
     have g1:getI (b0::b1::b2::r) (1:Int)=some b1:=rfl
     have g2:getI (b0::b1::b2::r) (2:Int)=some b2:=rfl
     simp only [e1,decide_false,cond_false,g1,g2,gt]
     by_cases q:(lo≤(b1.toNat:Int)∧(b1.toNat:Int)≤hi)∧128≤b2.toNat∧b2.toNat≤191
     ·right
      have q1:¬ (b1.toNat:Int)<lo:=by omega
      have q2:¬ hi<(b1.toNat:Int):=by omega
      have q3:¬ (b2.toNat:Int)<128:=by omega
      have q4:¬ (191:Int)<(b2.toNat:Int):=by omega
      simp only [q,and_self,if_true] at hs
      have fd:b9 (b0::b1::b2::r) (3:Int)=some r:=pI (b0::b1::b2::r) 3 (by simp)
      refine ⟨r,by simp only [C8];omega,uk (l:=b0::b1::b2::r) (k:=3) (by simp) hs (by omega), ?_⟩
      simp only [q1,q2,q3,q4,decide_false,cond_false,fd,gt]
     ·left
      simp only [q,if_false] at hs
      refine ⟨.inl ((false,()),()), ?_,by rw [bad hs];rfl⟩
      by_cases q1:(b1.toNat:Int)<lo
      ·simp only [q1,decide_true,cond_true]
      by_cases q2:hi<(b1.toNat:Int)
      ·simp only [q1,q2,decide_true,decide_false,cond_true,cond_false]
      by_cases q3:(b2.toNat:Int)<128
      ·simp only [q1,q2,q3,decide_true,decide_false,cond_true,cond_false]
      have q4:(191:Int)<(b2.toNat:Int):=by omega
      simp only [q1,q2,q3,q4,decide_true,decide_false,cond_true,cond_false]
   by_cases k4:240≤b0.toNat∧b0.toNat<245
   ·obtain ⟨hs,tw⟩:=sgv4 b0 r k4
    obtain ⟨rfl,rfl⟩:lo=(tabW b0.toNat).2.1∧hi=(tabW b0.toNat).2.2:=t4.resolve_left (by rw [tw];decide)
    clear t4
    generalize (tabW b0.toNat).2.1=lo at hs ⊢
    generalize (tabW b0.toNat).2.2=hi at hs ⊢
    have n24:¬ (4:Int)=2:=by decide
    have n34:¬ (4:Int)=3:=by decide
    simp only [tw,n24,n34,decide_true,decide_false,cond_true,cond_false]
    match r,hs,bad with
    | [],hs,bad=>left;exact ⟨_,rfl,by rw [bad hs];rfl⟩
    | [b1],hs,bad=>left;exact ⟨_,rfl,by rw [bad hs];rfl⟩
    | [b1,b2],hs,bad=>left;exact ⟨_,rfl,by rw [bad hs];rfl⟩
    | b1::b2::b3::r,hs,bad=>
     have e1:¬ (((b0::b1::b2::b3::r).length:Nat):Int)<4:=by simp only [C8];omega
     have g1:getI (b0::b1::b2::b3::r) (1:Int)=some b1:=rfl
     have g2:getI (b0::b1::b2::b3::r) (2:Int)=some b2:=rfl
     have g3:getI (b0::b1::b2::b3::r) (3:Int)=some b3:=rfl
     simp only [e1,decide_false,cond_false,g1,g2,g3,gt]
     by_cases q:(lo≤(b1.toNat:Int)∧(b1.toNat:Int)≤hi)∧(128≤b2.toNat∧b2.toNat≤191)∧128≤b3.toNat∧b3.toNat≤191
     ·right
      have q1:¬ (b1.toNat:Int)<lo:=by omega
      have q2:¬ hi<(b1.toNat:Int):=by omega
      have q3:¬ (b2.toNat:Int)<128:=by omega
      have q4:¬ (191:Int)<(b2.toNat:Int):=by omega
      have q5:¬ (b3.toNat:Int)<128:=by omega
      have q6:¬ (191:Int)<(b3.toNat:Int):=by omega
      simp only [q,and_self,if_true] at hs
      have fd:b9 (b0::b1::b2::b3::r) (4:Int)=some r:=pI (b0::b1::b2::b3::r) 4 (by simp)
      refine ⟨r,by simp only [C8];omega,uk (l:=b0::b1::b2::b3::r) (k:=4) (by simp) hs (by omega), ?_⟩
      simp only [q1,q2,q3,q4,q5,q6,decide_false,cond_false,fd,gt]
     ·left
      simp only [q,if_false] at hs
      refine ⟨.inl ((false,()),()), ?_,by rw [bad hs];rfl⟩
      by_cases q1:(b1.toNat:Int)<lo
      ·simp only [q1,decide_true,cond_true]
      by_cases q2:hi<(b1.toNat:Int)
      ·simp only [q1,q2,decide_true,decide_false,cond_true,cond_false]
      by_cases q3:(b2.toNat:Int)<128
      ·simp only [q1,q2,q3,decide_true,decide_false,cond_true,cond_false]
      by_cases q4:(191:Int)<(b2.toNat:Int)
      ·simp only [q1,q2,q3,q4,decide_true,decide_false,cond_true,cond_false]
      by_cases q5:(b3.toNat:Int)<128
      ·simp only [q1,q2,q3,q4,q5,decide_true,decide_false,cond_true,cond_false]
      have q6:(191:Int)<(b3.toNat:Int):=by omega
      simp only [q1,q2,q3,q4,q5,q6,decide_true,decide_false,cond_true,cond_false]
   ·left
    obtain ⟨hs,tw⟩:=sgv0 b0 r (by omega) (by omega)
    have n1:¬ (1:Int)=2:=by decide
    have n2:¬ (1:Int)=3:=by decide
    have n3:¬ (1:Int)=4:=by decide
    refine ⟨.inl ((false,()),()), ?_,by rw [bad hs];rfl⟩
    simp only [tw,n1,n2,n3,decide_false,cond_false]
theorem ag2 (s:List UInt8)(hN:s.length<N):bw N s=some (sgs s).isSome:=by
 obtain ⟨o,h1,h2⟩:=alw (G:=fun X c=>am N X c.1.1) (I:=fun n c=>c.1.1.length≤n∧n<N∧(sgs c.1.1).isSome=(sgs s).isSome) (Q:=VQ (sgs s).isSome) (fun X n c hi=>by
  obtain ⟨i1,i2,i3⟩:=hi
  rcases acO (N:=N) X c.1.1 (by omega) with ⟨o,o1,o2⟩ | ⟨t,t1,t2,t3⟩
  ·exact .inl ⟨o,o1,by rw [←i3];exact o2⟩
  ·exact .inr ⟨t.length,((t,()),()),by omega,⟨Dq _,by omega,by rw [t2];exact i3⟩,t3⟩) N s.length ((s,()),()) hN ⟨Dq _,hN,rfl⟩
 have h1':ef N ((s,()),())=some o:=h1
 unfold bw
 rw [h1',gt]
 match o,h2 with
 | .inl q,h2=>simp only [Sum.elim_inl];rw [show q.1.1=_ from h2]
 | .inr q,h2=>simp only [Sum.elim_inr];rw [←show true=_ from h2]
end
theorem aek {l:List UInt8}(h:sgs l=some []):l=[]:=by
 by_cases hl:l=[]
 ·exact hl
 by_cases hw:(sg l).2=0
 ·rw [uJ hl hw] at h;cases h
 ·rw [xx hl hw,Option.map_eq_some_iff] at h
  obtain ⟨m,_,h⟩:=h
  cases h
theorem aej {s:List UInt8}{p x:Nat}{l:List Nat}(h:sgs (s.drop p)=some (x::l)):p<s.length∧(sg (s.drop p)).1=x∧(sg (s.drop p)).2≠0∧p+(sg (s.drop p)).2≤s.length∧sgs (s.drop (p+(sg (s.drop p)).2))=some l:=by
 by_cases hl:s.drop p=[]
 ·rw [hl,yy] at h;cases h
 have hp:p<s.length:=by
  rcases Nat.lt_or_ge p s.length with h | h
  ·exact h
  ·exact absurd (Dd h) hl
 by_cases hw:(sg (s.drop p)).2=0
 ·rw [uJ hl hw] at h;cases h
 ·rw [xx hl hw,Option.map_eq_some_iff] at h
  obtain ⟨m,h1,h⟩:=h
  injection h with h2 h3
  subst h3
  have:=alW (s.drop p)
  rw [Da] at this
  rw [DI] at h1
  exact ⟨hp,h2,hw,by omega,h1⟩
def un1 (n:Nat):List Int:=if n<65536 then [(n:Int)] else [((55296+(n-65536) / 1024:Nat):Int),((56320+(n-65536) % 1024:Nat):Int)]
def uns (l:List Nat):List Int:=l.flatMap un1
theorem adY {n:Nat}(h:n≤1114111):(∀ x∈un1 n,0≤x∧x<65536)∧(un1 n).length≤2∧1≤(un1 n).length:=by
 unfold un1
 split
 ·refine ⟨fun x hx=> ?_,by simp,by simp⟩
  simp at hx;omega
 ·refine ⟨fun x hx=> ?_,by simp,by simp⟩
  simp at hx;omega
theorem adX:∀ {l:List Nat},(∀ x∈l,x≤1114111)→(∀ x∈uns l,0≤x∧x<65536)∧(uns l).length≤2*l.length∧l.length≤(uns l).length
 | [],_=>by simp [uns]
 | n::l,h=>by
  obtain ⟨a1,a2,a3⟩:=adY (h n List.mem_cons_self)
  obtain ⟨b1,b2,b3⟩:=adX (l:=l) (fun x hx=>h x (List.mem_cons_of_mem _ hx))
  have e:uns (n::l)=un1 n++uns l:=rfl
  rw [e]
  refine ⟨fun x hx=> ?_, ?_, ?_⟩
  ·rcases List.mem_append.1 hx with hx | hx
   ·exact a1 x hx
   ·exact b1 x hx
  ·rw [C6,C8];omega
  ·rw [C6,C8];omega
theorem al9 (a:Nat)(ha:a<2147483648):bits .and .i32 (a:Int) (1023:Int)=((a % 1024:Nat):Int):=by
 show IntKind.i32.wrap ((DC 32 (a:Int)&&&DC 32 1023).toNat:Int)=_
 have h1:(DC 32 (a:Int)).toNat=a:=by rw [BitVec.ofInt_natCast,BitVec.toNat_ofNat];exact Nat.mod_eq_of_lt (by omega)
 have h2:(DC 32 (1023:Int)).toNat=1023:=by decide
 rw [BitVec.toNat_and,h1,h2,Nat.and_two_pow_sub_one_eq_mod a 10,IntKind.wrap_i32]
 omega
section
variable {N:Nat}
theorem xY (s:List UInt8)(hs:s.length<1000000000):∀ (l:List Nat) (p n M:Nat),sgs (s.drop p)=some l→p≤s.length→l.length<M→n≤p→
  gl (fun X c=>aN N X c.1.1 c.2.1 c.2.2.1) M (((n:Int),()),(s,((p:Int),())))=some ((((n+l.length:Nat):Int),()),())
 | [],p,n,M+1,h,hp,hM,hn=>by
  have h0:=aek h
  have hl:¬ p<s.length:=by have:=congrArg List.length h0;rw [Da] at this;simp at this;omega
  rw [ah]
  simp only [aN,C9,hl,decide_false,cond_false,Dh,Nat.add_zero]
 | x::l,p,n,M+1,h,hp,hM,hn=>by
  obtain ⟨h1,h2,h3,h4,h5⟩:=aej h
  rw [ah]
  have e1:ne .i64 ((n:Int)+1)=((n+1:Nat):Int):=by rw [ac (by omega) (by omega)];omega
  have e2:(p:Int)+((sg (s.drop p)).2:Int)=((p+(sg (s.drop p)).2:Nat):Int):=by omega
  simp only [aN,C9,h1,decide_true,cond_true,aeE s p h1,h3,if_false,e1,e2]
  refine (xY s hs l (p+(sg (s.drop p)).2) (n+1) M h5 h4 (by simpa using hM) (by omega)).trans ?_
  rw [C8,show n+1+l.length=n+(l.length+1) by omega]
theorem xu (hN:10≤N)(s:List UInt8)(hs:s.length<1000000):∀ (M p:Nat) (acc:List Int),s.length-p<M→p≤s.length→acc.length≤p→
  gl (fun X c=>et N X c.1.1 c.1.2.1 c.2.1) M ((s,((p:Int),())),(acc,()))=some (match sgs (s.drop p) with
   | some l=>.inr ((),(acc++l.map fun n=>((n:Nat):Int),()))
   | none=>.inl (([],(false,())),()))
 | 0,p,acc,h,_,_=>by omega
 | M+1,p,acc,h,hp,ha=>by
  rw [ah]
  by_cases hl:p<s.length
  ·have c1:(p:Int)<(s.length:Int):=by omega
   have hne:s.drop p≠[]:=fun h0=>by have:=congrArg List.length h0;rw [Da] at this;simp at this;omega
   have hle:=alW (s.drop p)
   rw [Da] at hle
   simp only [et,c1,decide_true,cond_true,alV hN s p hl (by omega),gt]
   by_cases hw:(sg (s.drop p)).2=0
   ·have hw':((sg (s.drop p)).2:Int)=0:=by omega
    rw [uJ hne hw]
    simp only [hw',decide_true,cond_true]
   ·have hw':¬ ((sg (s.drop p)).2:Int)=0:=by omega
    have e1:ne .i64 ((p:Int)+((sg (s.drop p)).2:Int))=((p+(sg (s.drop p)).2:Nat):Int):=by rw [ac (by omega) (by omega)];omega
    have r1:ae (acc.length+[((sg (s.drop p)).1:Int)].length) 8=true:=aH (by have:=aL;simp;omega) (by simp;omega)
    have ih:=xu hN s hs M (p+(sg (s.drop p)).2) (acc++[((sg (s.drop p)).1:Int)]) (by omega) (by omega) (by simp;omega)
    rw [xx hne hw,DI]
    simp only [hw',decide_false,cond_false,e1,r1,cond_true]
    refine ih.trans ?_
    cases sgs (s.drop (p+(sg (s.drop p)).2)) with
    | none=>rfl
    | some l=>simp
  ·have c1:¬ (p:Int)<(s.length:Int):=by omega
   rw [Dd (by omega),yy]
   simp only [et,c1,decide_false,cond_false,List.map_nil,Di]
theorem ah0 (s:List UInt8)(hs:s.length<1000000)(hN:s.length<N){l:List Nat}(h:sgs s=some l):bh N s=some (l.length:Int):=by
 have hl:=(mq s.length s l (Dq _) h).2
 have:=xY (N:=N) s (by omega) l 0 0 N (by simpa using h) (D0 _) (by omega) (Dq _)
 have h1:cJ N (((0:Int),()),(s,((0:Int),())))=some ((((0+l.length:Nat):Int),()),()):=this
 unfold bh
 rw [h1,gt]
 simp
theorem aaR (s:List UInt8)(hs:s.length<1000000)(hN:s.length+10≤N):g9 N s=some (match sgs s with
  | some l=>(l.map fun n=>((n:Nat):Int),true)
  | none=>([],false)):=by
 have:=xu (N:=N) (by omega) s hs N 0 [] (by omega) (D0 _) (by simp)
 have h1:oC N ((s,((0:Int),())),(([]:List Int),()))=_:=this
 unfold g9
 rw [h1,gt,DN]
 cases sgs s with
 | none=>rfl
 | some l=>simp
def mayN (s:List UInt8):Int:=match sgs s with
 | some l=>if 64<l.length then 8 else 0
 | none=>3
theorem alr (s:List UInt8)(hs:s.length<1000000)(hN:s.length+10≤N):l9 N s=some (mayN s):=by
 unfold l9 nu mayN
 rw [ag2 s (by omega)]
 cases h:sgs s with
 | none=>rfl
 | some l=>
  simp only [gt,Option.isSome_some,DA,cond_false,ah0 (N:=N) s hs (by omega) h]
  by_cases hl:64<l.length
  ·have hl':(64:Int)<(l.length:Int):=by omega
   simp only [hl',hl,decide_true,cond_true,if_true]
  ·have hl':¬ (64:Int)<(l.length:Int):=by omega
   simp only [hl',hl,decide_false,cond_false,if_false]
theorem aey (s:List UInt8)(hs:s.length<1000000)(hN:s.length+10≤N):mz N s=some (mayN s):=by
 unfold mz mayN
 rw [aaR s hs hN]
 cases h:sgs s with
 | none=>rfl
 | some l=>
  simp only [gt,DA,cond_false,List.length_map]
  by_cases hl:64<l.length
  ·have hl':(64:Int)<(l.length:Int):=by omega
   simp only [hl',hl,decide_true,cond_true,if_true]
  ·have hl':¬ (64:Int)<(l.length:Int):=by omega
   simp only [hl',hl,decide_false,cond_false,if_false]
theorem qK {x:Int}(h1:0≤x)(h2:x<65536):ne .u16 x=x:=by
 rw [IntKind.wrap_u16];omega
theorem adU {x:Int}(h1: -2147483648≤x)(h2:x<2147483648):ne .i32 x=x:=by
 rw [IntKind.wrap_i32];omega
theorem xp (s:List UInt8)(hs:s.length<1000000):∀ (l:List Nat) (p M:Nat) (acc:List Int),sgs (s.drop p)=some l→p≤s.length→l.length<M→acc.length≤2*p→
  gl (fun X c=>eh N X c.2.1 c.2.2.1 c.2.2.2.1) M ((),(acc,(s,((p:Int),()))))=some ((),(acc++uns l,()))
 | [],p,M+1,acc,h,hp,hM,ha=>by
  have h0:=aek h
  have hl:¬ p<s.length:=by have:=congrArg List.length h0;rw [Da] at this;simp at this;omega
  rw [ah]
  simp only [eh,C9,hl,decide_false,cond_false,uns,List.flatMap_nil,Di]
 | x::l,p,M+1,acc,h,hp,hM,ha=>by
  obtain ⟨h1,h2,h3,h4,h5⟩:=aej h
  have hb:=aaS (s.drop p)
  rw [h2] at hb
  rw [ah]
  have e2:(p:Int)+((sg (s.drop p)).2:Int)=((p+(sg (s.drop p)).2:Nat):Int):=by omega
  have hu:uns (x::l)=un1 x++uns l:=rfl
  obtain ⟨u1,u2,u3⟩:=adY hb
  have ih:=xp s hs l (p+(sg (s.drop p)).2) M (acc++un1 x) h5 h4 (by simpa using hM) (by rw [C6];omega)
  simp only [eh,C9,h1,decide_true,cond_true,aeE s p h1,h3,if_false,e2,h2]
  rw [hu,←Df]
  by_cases hx:x<65536
  ·have hx':(x:Int)<65536:=by omega
   have e3:ne .u16 (x:Int)=x:=qK (by omega) (by omega)
   have r1:ae (acc.length+[(x:Int)].length) 2=true:=aH (by have:=aL;simp;omega) (by simp;omega)
   have eu:un1 x=[(x:Int)]:=by simp [un1,hx]
   simp only [hx',decide_true,cond_true,e3,r1]
   rw [eu] at ih ⊢
   exact ih
  ·have hx':¬ (x:Int)<65536:=by omega
   have e3:ne .i32 ((x:Int)-65536)=((x-65536:Nat):Int):=by rw [adU (by omega) (by omega)];omega
   have e4:(2:Int) ^ min (Db 10) (Dj IntKind.i32)=1024:=by decide
   have e5:DJ ((x-65536:Nat):Int) 1024=(((x-65536) / 1024:Nat):Int):=by rw [DD _ (by decide)];omega
   have e6:ne .i32 (55296+(((x-65536) / 1024:Nat):Int))=((55296+(x-65536) / 1024:Nat):Int):=by rw [adU (by omega) (by omega)];omega
   have e7:ne .u16 ((55296+(x-65536) / 1024:Nat):Int)=((55296+(x-65536) / 1024:Nat):Int):=qK (by omega) (by omega)
   have e8:bits .and .i32 ((x-65536:Nat):Int) (1023:Int)=(((x-65536) % 1024:Nat):Int):=al9 _ (by omega)
   have e9:ne .i32 (56320+(((x-65536) % 1024:Nat):Int))=((56320+(x-65536) % 1024:Nat):Int):=by rw [adU (by omega) (by omega)];omega
   have e10:ne .u16 ((56320+(x-65536) % 1024:Nat):Int)=((56320+(x-65536) % 1024:Nat):Int):=qK (by omega) (by omega)
   have eu:un1 x=[((55296+(x-65536) / 1024:Nat):Int),((56320+(x-65536) % 1024:Nat):Int)]:=by simp [un1,hx]
   have r1:ae (acc.length+[((55296+(x-65536) / 1024:Nat):Int),((56320+(x-65536) % 1024:Nat):Int)].length) 2=true:=aH (by have:=aL;simp;omega) (by simp;omega)
   simp only [hx',decide_false,cond_false,e3,e4,e5,e6,e7,e8,e9,e10,r1,cond_true]
   rw [eu] at ih ⊢
   exact ih
theorem ag5 (s:List UInt8)(hs:s.length<1000000)(hN:s.length+10≤N):jI N s=some (match sgs s with | some l=>if 64<l.length then [] else uns l | none=>[]):=by
 unfold jI
 rw [alr s hs hN]
 unfold mayN
 cases h:sgs s with
 | none=>rfl
 | some l=>
  have hl:=(mq s.length s l (Dq _) h).2
  by_cases h64:64<l.length
  ·simp only [h64,if_true];rfl
  ·simp only [h64,if_false,gt]
   have:=xp (N:=N) s hs l 0 N [] (by simpa using h) (D0 _) (by omega) (by simp)
   have h1:ou N ((),(([]:List Int),(s,((0:Int),()))))=some ((),([]++uns l,())):=this
   simp only [h1,decide_true,DA,cond_false,gt,DP]
theorem uN (l:List Nat)(hl:l.length<1000000)(hx:∀ x∈l,x≤1114111):∀ (k i M:Nat) (acc:List Int),k+i=l.length→k<M→acc.length≤2*i→
  gl (fun X c=>er N X c.1.1 c.1.2.1 c.2.1) M (((l.map fun n=>((n:Nat):Int)),((i:Int),())),(acc,()))=some ((),(acc++uns (l.drop i),()))
 | 0,i,M+1,acc,hk,hM,ha=>by
  have c1:¬ (i:Int)<((l.map fun n=>((n:Nat):Int)).length:Int):=by rw [List.length_map];omega
  rw [ah,Dd (by omega)]
  simp only [er,c1,decide_false,cond_false,uns,List.flatMap_nil,Di]
 | k+1,i,M+1,acc,hk,hM,ha=>by
  have hi:i<l.length:=by omega
  have c1:(i:Int)<((l.map fun n=>((n:Nat):Int)).length:Int):=by rw [List.length_map];omega
  obtain ⟨x,hxe⟩:∃ x,x=l[i]:=⟨_,rfl⟩
  have hb:x≤1114111:=by rw [hxe];exact hx _ (DF hi)
  have g1:getI (l.map fun n=>((n:Nat):Int)) (i:Int)=some (x:Int):=by rw [rP,List.getElem?_map,List.getElem?_eq_getElem hi,hxe];rfl
  have e1:ne .i64 ((i:Int)+1)=((i+1:Nat):Int):=by rw [ac (by omega) (by omega)];omega
  obtain ⟨u1,u2,u3⟩:=adY hb
  have ih:=uN l hl hx k (i+1) M (acc++un1 x) (by omega) (by omega) (by rw [C6];omega)
  have hu:uns (l.drop i)=un1 x++uns (l.drop (i+1)):=by rw [C7 hi,←hxe];rfl
  rw [ah,hu,←Df]
  simp only [er,c1,decide_true,cond_true,g1,gt,e1]
  by_cases hx:x<65536
  ·have hx':(x:Int)<65536:=by omega
   have e3:ne .u16 (x:Int)=x:=qK (by omega) (by omega)
   have r1:ae (acc.length+[(x:Int)].length) 2=true:=aH (by have:=aL;simp;omega) (by simp;omega)
   have eu:un1 x=[(x:Int)]:=by simp [un1,hx]
   simp only [hx',decide_true,cond_true,e3,r1]
   rw [eu] at ih ⊢
   exact ih
  ·have hx':¬ (x:Int)<65536:=by omega
   have e3:ne .i64 ((x:Int)-65536)=((x-65536:Nat):Int):=by rw [ac (by omega) (by omega)];omega
   have e5:D3 ((x-65536:Nat):Int) 1024=(((x-65536) / 1024:Nat):Int):=by rw [DB (by omega)];omega
   have e5':ne .i64 (((x-65536) / 1024:Nat):Int)=(((x-65536) / 1024:Nat):Int):=ac (by omega) (by omega)
   have e6:ne .i64 (55296+(((x-65536) / 1024:Nat):Int))=((55296+(x-65536) / 1024:Nat):Int):=by rw [ac (by omega) (by omega)];omega
   have e7:ne .u16 ((55296+(x-65536) / 1024:Nat):Int)=((55296+(x-65536) / 1024:Nat):Int):=qK (by omega) (by omega)
   have e8:DW ((x-65536:Nat):Int) 1024=(((x-65536) % 1024:Nat):Int):=by rw [Dn (by omega)];omega
   have e9:ne .i64 (56320+(((x-65536) % 1024:Nat):Int))=((56320+(x-65536) % 1024:Nat):Int):=by rw [ac (by omega) (by omega)];omega
   have e10:ne .u16 ((56320+(x-65536) % 1024:Nat):Int)=((56320+(x-65536) % 1024:Nat):Int):=qK (by omega) (by omega)
   have eu:un1 x=[((55296+(x-65536) / 1024:Nat):Int),((56320+(x-65536) % 1024:Nat):Int)]:=by simp [un1,hx]
   have r1:ae (acc.length+[((55296+(x-65536) / 1024:Nat):Int),((56320+(x-65536) % 1024:Nat):Int)].length) 2=true:=aH (by have:=aL;simp;omega) (by simp;omega)
   simp only [hx',decide_false,cond_false,e3,e5,e5',e6,e7,e8,e9,e10,r1,cond_true]
   rw [eu] at ih ⊢
   exact ih
theorem aer (s:List UInt8)(hs:s.length<1000000)(hN:s.length+10≤N):j4 N s=some (match sgs s with | some l=>if 64<l.length then [] else uns l | none=>[]):=by
 unfold j4
 rw [aey s hs hN,aaR s hs hN]
 unfold mayN
 cases h:sgs s with
 | none=>rfl
 | some l=>
  obtain ⟨hx,hl⟩:=mq s.length s l (Dq _) h
  by_cases h64:64<l.length
  ·simp only [h64,if_true];rfl
  ·simp only [h64,if_false,gt]
   have:=uN (N:=N) l (by omega) hx l.length 0 N [] (by omega) (by omega) (by simp)
   have h1:oB N (((l.map fun n=>((n:Nat):Int)),((0:Int),())),(([]:List Int),()))=some ((),([]++uns (l.drop 0),())):=this
   simp only [h1,decide_true,DA,cond_false,gt,DP,DN]
def by2 (u:Int):List Int:=[u % 256,u / 256]
theorem atL (n:Int)(h:0≤n∧n<65536)(hN:100≤N):cD N (ne .u64 n) 2 true=some (by2 n,0):=by
 obtain ⟨M,rfl⟩:∃ M,N=M+3:=⟨N-3,by omega⟩
 have w0:ne .u64 n=n:=aR h.1 (by omega)
 rw [w0]
 show ac1 (M+3) n 2 true=_
 have r1:ae (Db 2) 1=true:=by decide
 have r2:C5 (Db 2) (0:Int)=[0,0]:=rfl
 have w3:ne .i64 ((0:Int)+1)=1:=by decide
 have w4:ne .i64 ((1:Int)+1)=2:=by decide
 have e1:(2:Int) ^ min (Db 8) (Dj DR)=256:=by decide
 have d1:DJ n 256=n / 256:=DD n (by decide)
 have d2:DJ (n / 256) 256=n / 256 / 256:=DD _ (by decide)
 have w7:ne .u8 n=n % 256:=by rw [DK]
 have w8:ne .u8 (n / 256)=n / 256:=by rw [DK];omega
 simp only [ac1,ul,gl,y9,qS,r1,r2,e1,cond_false,cond_true,gt,w3,w4]
 simp [w3,w4,d1,d2,w7,w8,by2]
theorem abd (hN:100≤N)(u:List Int)(hu:u.length<1000000)(hx:∀ x∈u,0≤x∧x<65536):∀ (k i M:Nat) (acc:List Int),k+i=u.length→k<M→acc.length≤2*i→
  gl (fun X c=>fP N X c.1.1 c.1.2.1 c.1.2.2.1 c.2.1) M ((u,((u.length:Int),((i:Int),()))),(acc,()))=some ((),(acc++(u.drop i).flatMap by2,()))
 | 0,i,M+1,acc,hk,hM,ha=>by
  have c1:¬ (i:Int)<(u.length:Int):=by omega
  rw [ah,Dd (by omega)]
  simp only [fP,c1,decide_false,cond_false,List.flatMap_nil,Di]
 | k+1,i,M+1,acc,hk,hM,ha=>by
  have hi:i<u.length:=by omega
  have c1:(i:Int)<(u.length:Int):=by omega
  have g1:=aS u i hi
  have e1:ne .i64 ((i:Int)+1)=((i+1:Nat):Int):=by rw [ac (by omega) (by omega)];omega
  have p:=atL (N:=N) u[i] (hx _ (DF hi)) hN
  have r1:ae (acc.length+(by2 u[i]).length) 1=true:=aH (by have:=aL;simp [by2];omega) (by simp [by2];omega)
  have ih:=abd hN u hu hx k (i+1) M (acc++by2 u[i]) (by omega) (by omega) (by rw [C6];simp [by2];omega)
  rw [ah,C7 hi,List.flatMap_cons,←Df]
  simp only [fP,c1,decide_true,cond_true,g1,gt,e1,p,r1]
  exact ih
theorem AJ (u:List Int)(hu:u.length<1000000)(hx:∀ x∈u,0≤x∧x<65536):∀ (k i M:Nat) (acc:List Int),k+i=u.length→k<M→acc.length≤2*i→
  gl (fun X c=>fW N X c.1.1 c.1.2.1 c.2.1) M ((u,((i:Int),())),(acc,()))=some ((),(acc++(u.drop i).flatMap by2,()))
 | 0,i,M+1,acc,hk,hM,ha=>by
  have c1:¬ (i:Int)<(u.length:Int):=by omega
  rw [ah,Dd (by omega)]
  simp only [fW,c1,decide_false,cond_false,List.flatMap_nil,Di]
 | k+1,i,M+1,acc,hk,hM,ha=>by
  have hi:i<u.length:=by omega
  have c1:(i:Int)<(u.length:Int):=by omega
  have g1:=aS u i hi
  have e1:ne .i64 ((i:Int)+1)=((i+1:Nat):Int):=by rw [ac (by omega) (by omega)];omega
  have hb:=hx _ (DF hi)
  have e2:ne .u8 (DW u[i] 256)=u[i] % 256:=by rw [Dn hb.1,DK];omega
  have e3:ne .u8 (ne .u16 (D3 u[i] 256))=u[i] / 256:=by rw [DB hb.1,qK (by omega) (by omega),DK];omega
  have r1:ae (acc.length+([u[i] % 256,u[i] / 256]:List Int).length) 1=true:=aH (by have:=aL;simp;omega) (by simp;omega)
  have ih:=AJ u hu hx k (i+1) M (acc++by2 u[i]) (by omega) (by omega) (by rw [C6];simp [by2];omega)
  rw [ah,C7 hi,List.flatMap_cons,←Df]
  simp only [fW,c1,decide_true,cond_true,g1,gt,e1,e2,e3,r1]
  exact ih
def layN (s:List UInt8):List Int×Int:=match sgs s with
 | some l=>if 64<l.length then ([],8) else ((uns l).flatMap by2,0)
 | none=>([],3)
theorem arY (s:List UInt8)(hs:s.length<10000)(hN:2*s.length+100≤N):oO N s=some (layN s)∧oZ N s=some (layN s):=by
 unfold oO oZ
 rw [alr s (by omega) (by omega),aey s (by omega) (by omega),ag5 s (by omega) (by omega),aer s (by omega) (by omega)]
 unfold mayN layN
 cases h:sgs s with
 | none=>exact ⟨rfl,rfl⟩
 | some l=>
  obtain ⟨hx,hl⟩:=mq s.length s l (Dq _) h
  obtain ⟨u1,u2,u3⟩:=adX hx
  by_cases h64:64<l.length
  ·simp only [h64,if_true];exact ⟨rfl,rfl⟩
  ·simp only [h64,if_false,gt,decide_true,DA,cond_false]
   have a1:=abd (N:=N) (by omega) (uns l) (by omega) u1 (uns l).length 0 N [] (by omega) (by omega) (by simp)
   have a2:=AJ (N:=N) (uns l) (by omega) u1 (uns l).length 0 N [] (by omega) (by omega) (by simp)
   have b1:qx N ((uns l,(((uns l).length:Int),((0:Int),()))),(([]:List Int),()))=some ((),([]++((uns l).drop 0).flatMap by2,())):=a1
   have b2:qz N ((uns l,((0:Int),())),(([]:List Int),()))=some ((),([]++((uns l).drop 0).flatMap by2,())):=a2
   rw [b1,b2]
   simp
theorem amy (s:List UInt8):(layN s).1.length≤256∧AllB (layN s).1:=by
 unfold layN
 cases h:sgs s with
 | none=>exact ⟨by simp,AllB.nil⟩
 | some l=>
  obtain ⟨hx,hl⟩:=mq s.length s l (Dq _) h
  obtain ⟨u1,u2,u3⟩:=adX hx
  by_cases h64:64<l.length
  ·simp only [h64,if_true];exact ⟨by simp,AllB.nil⟩
  ·simp only [h64,if_false]
   have key:∀ u:List Int,(∀ x∈u,0≤x∧x<65536)→(u.flatMap by2).length=2*u.length∧AllB (u.flatMap by2):=fun u=>by
    induction u with
    | nil=>intro _;exact ⟨rfl,AllB.nil⟩
    | cons x u ih=>
     intro hu
     obtain ⟨i1,i2⟩:=ih fun y hy=>hu y (List.mem_cons_of_mem _ hy)
     have hx:=hu x List.mem_cons_self
     rw [List.flatMap_cons]
     exact ⟨by rw [C6,i1];simp [by2];omega,DQ (AllB.cons (by omega) (AllB.cons (by omega) AllB.nil)) i2⟩
   obtain ⟨k1,k2⟩:=key (uns l) u1
   exact ⟨by omega,k2⟩
end
theorem aba (b:List Int)(hb:AllB b)(hl:b.length≤1000):∃ D:Arr Int 16,tv 200000 [b]=some D∧k9 200000 b=some D∧AllB D.l:=by
 obtain ⟨D,d1,d2,d3⟩:=ahA [b] (by simp) (fun p hp=>by rw [List.mem_singleton] at hp;subst hp;exact hb) (by simp;omega)
 have hfl:([b]:List (List Int)).flatten=b:=by simp
 rw [hfl] at d3
 exact ⟨D,d2,d3,d1⟩
theorem wf16 {h:Arr Int 16}(w:wfT (.arr 16 (.int .u8)) h):AllB h.l:=fun x hx=>arh (w x hx)
theorem xr (h:Arr Int 16)(hb:AllB h.l):∃ D:Arr Int 16,dM 200000 h=some D∧eR 200000 h=some D∧AllB D.l:=by
 obtain ⟨D,d1,d2,d3⟩:=aba h.l hb (by rw [h.h];omega)
 exact ⟨D,by simp only [dM,d1,gt],by simp only [eR,d2,gt],d3⟩
theorem AllB.zeros (n:Nat):AllB (C5 n 0):=fun x hx=>by
 have:=List.eq_of_mem_replicate hx
 omega
theorem CR (s:List UInt8)(hs:s.length≤600):∃ D e,gH 200000 s=some (D,e)∧qg 200000 s=some (D,e)∧AllB D.l:=by
 obtain ⟨l1,l2⟩:=arY (N:=200000) s (by omega) (by omega)
 obtain ⟨k1,k2⟩:=amy s
 unfold gH qg
 rw [l1,l2,gt,gt]
 by_cases he:(layN s).2=0
 ·obtain ⟨D,d1,d2,d3⟩:=aba (layN s).1 k2 (by omega)
  refine ⟨D,0, ?_, ?_,d3⟩
  ·simp only [he,decide_true,DA,cond_false,d1,gt]
  ·simp only [he,decide_true,DA,cond_false,d2,gt]
 ·refine ⟨_,(layN s).2,by simp only [he,decide_false,Bool.not_false,cond_true];exact rfl,by simp only [he,decide_false,Bool.not_false,cond_true], ?_⟩
  exact AllB.zeros 16
theorem yt {α:Type}(n:Nat)(l:List α)(h:n≤l.length):∃ a:Arr α n,a.l=l.take n∧eW n l=some a:=⟨⟨l.take n,by rw [Dc];omega⟩,rfl,dif_pos h⟩
theorem aeQ (h:Arr Int 16)(Z:Arr Int 21)(hZ:Z.l=C5 21 0):(Z.over h.l).l=h.l++[0,0,0,0,0]:=by
 show h.l.take 21++Z.l.drop h.l.length=_
 rw [h.h,hZ,Dk (by rw [h.h];omega)]
 rfl
theorem ad6 (h:Arr Int 16)(hb:AllB h.l):∃ t0 t1 t2:Arr Int 7,AllB t0.l∧AllB t1.l∧AllB t2.l∧fe 200000 h=some (Dg t0 (Dg t1 (Dg t2 DU)))∧cL 200000 h 0=some t0.l∧cL 200000 h 1=some t1.l∧cL 200000 h 2=some t2.l:=by
 obtain ⟨Lg,hLg⟩:∃ L,L=h.l++[0,0,0,0,0]:=⟨_,rfl⟩
 have hlen:Lg.length=21:=by rw [hLg,C6,h.h];rfl
 have hLB:AllB Lg:=by rw [hLg];exact hb.append (AllB.zeros 5)
 obtain ⟨t0,a0,b0⟩:=yt 7 (Lg.take 7) (by rw [Dc];omega)
 obtain ⟨t1,a1,b1⟩:=yt 7 ((Lg.drop 7).take 7) (by rw [Dc,Da];omega)
 obtain ⟨t2,a2,b2⟩:=yt 7 (Lg.drop 14) (by rw [Da];omega)
 rw [List.take_take,Nat.min_self] at a0 a1
 have hT:fe 200000 h=some (Dg t0 (Dg t1 (Dg t2 DU))):=by
  unfold fe
  have hz:=aeQ h (Dg 0 (Dg 0 (Dg 0 (Dg 0 (Dg 0 (Dg 0 (Dg 0 (Dg 0 (Dg 0 (Dg 0 (Dg 0 (Dg 0 (Dg 0 (Dg 0 (Dg 0 (Dg 0 (Dg 0 (Dg 0 (Dg 0 (Dg 0 (Dg 0 DU))))))))))))))))))))) rfl
  rw [hz,←hLg]
  have s1:cR Lg (7:Int)=some (Lg.take 7):=eg Lg (i:=7) rfl (by omega)
  have s2:subI Lg (7:Int) (14:Int)=some ((Lg.drop 7).take 7):=iE Lg (i:=7) (j:=14) rfl rfl (by omega) (by omega)
  have s3:b9 Lg (14:Int)=some (Lg.drop 14):=fy Lg (i:=14) rfl (by omega)
  simp only [s1,s2,s3,gt,b0,b1,b2]
 have hR:∀ (n:Nat) (_:n<3),cL 200000 h (n:Int)=some ((Lg.drop (7*n)).take 7):=fun n hn=>by
  have e1:ne .i64 (7*(n:Int))=((7*n:Nat):Int):=by rw [ac (by omega) (by omega)];omega
  have e2:ne .i64 (((7*n:Nat):Int)+7)=((7*n+7:Nat):Int):=by rw [ac (by omega) (by omega)];omega
  have r1:ae h.l.length 1=true:=aH (by have:=aL;rw [h.h];omega) (by rw [h.h];omega)
  have r2:ae (h.l.length+([0,0,0,0,0]:List Int).length) 1=true:=aH (by have:=aL;rw [h.h];simp;omega) (by rw [h.h];simp)
  have s1:=iE Lg (i:=7*n) (j:=7*n+7) rfl rfl (by omega) (by omega)
  rw [Nat.add_sub_cancel_left] at s1
  unfold cL
  rw [r1,r2]
  simp only [cond_true,e1,e2,←hLg,s1,gt]
 have h0:=hR 0 (by omega)
 have h1:=hR 1 (by omega)
 have h2:=hR 2 (by omega)
 have e2:(Lg.drop (7*2)).take 7=t2.l:=by rw [a2]
 have e1:(Lg.drop (7*1)).take 7=t1.l:=by rw [a1]
 have e0:(Lg.drop (7*0)).take 7=t0.l:=by rw [a0];rfl
 rw [e0] at h0;rw [e1] at h1;rw [e2] at h2
 refine ⟨t0,t1,t2, ?_, ?_, ?_,hT,h0,h1,h2⟩
 ·rw [←e0];exact (hLB.drop _).take _
 ·rw [←e1];exact (hLB.drop _).take _
 ·rw [←e2];exact (hLB.drop _).take _
section
variable {N:Nat}
def bAt (s:List UInt8):Nat→Nat
 | 0=>0
 | n+1=>if (((s.getD n 0).toNat:Nat):Int)=92 then n+1 else bAt s n
theorem af4 (s:List UInt8):∀ n,bAt s n≤n
 | 0=>Dq _
 | n+1=>by
  have:=af4 s n
  unfold bAt
  split <;> omega
theorem arx (s:List UInt8)(n:Nat)(h:n<s.length):s.getD n 0=s[n]:=by rw [List.getD_eq_getElem?_getD,List.getElem?_eq_getElem h];rfl
theorem ae6 (s:List UInt8)(hs:s.length≤1000):∀ (n k:Nat),n≤s.length→n<k→gl (fun X c=>aK N X c.1.1 c.1.2.1 c.1.2.2.1) k ((s,((92:Int),(((n:Int)-1),()))),())=some (if bAt s n=0 then .inr ((),()) else .inl ((((bAt s n:Int)-1),()),()))
 | 0,k+1,_,_=>by
  have c1:¬ ((0:Int)≤((0:Nat):Int)-1):=by omega
  rw [ah]
  simp only [aK,c1,decide_false,cond_false,bAt,if_true]
 | n+1,k+1,hn,hk=>by
  have e:((n+1:Nat):Int)-1=(n:Int):=by omega
  have c1:(0:Int)≤(n:Int):=by omega
  have hlt:n<s.length:=by omega
  have g:=aS s n hlt
  have gd:=arx s n hlt
  have w:ne .i64 ((n:Int)-1)=(n:Int)-1:=ac (by omega) (by omega)
  rw [ah,e]
  by_cases h:((s[n].toNat:Nat):Int)=92
  ·have hb:bAt s (n+1)=n+1:=by unfold bAt;rw [gd,if_pos h]
   rw [hb,if_neg (by omega),e]
   simp only [aK,c1,decide_true,cond_true,g,gt,h]
  ·have hb:bAt s (n+1)=bAt s n:=by rw [bAt,gd,if_neg h]
   rw [hb]
   simp only [aK,c1,decide_true,cond_true,g,gt,h,decide_false,cond_false,w]
   exact ae6 s hs n k (by omega) (by omega)
theorem abF (s:List UInt8)(hs:s.length≤1000)(hN:10000≤N):gW N s=some (s.drop (bAt s s.length)):=by
 have w1:ne .i64 ((s.length:Int)-1)=(s.length:Int)-1:=ac (by omega) (by omega)
 have h:=ae6 (N:=N) s hs s.length N (Dq _) (by omega)
 have hb:=af4 s s.length
 unfold gW cX bX
 rw [w1]
 have h':dh N ((s,((92:Int),(((s.length:Int)-1),()))),())=_:=h
 rw [h']
 by_cases hz:bAt s s.length=0
 ·have w2:ne .i64 ((-1:Int)+1)=0:=by decide
  have d:b9 s (0:Int)=some (s.drop 0):=fy s (i:=0) rfl (by omega)
  rw [if_pos hz,hz]
  simp only [gt,Sum.elim_inr,w2,d]
 ·have w2:ne .i64 (((bAt s s.length:Int)-1)+1)=(bAt s s.length:Int):=by rw [ac (by omega) (by omega)];omega
  have d:b9 s (bAt s s.length:Int)=some (s.drop (bAt s s.length)):=fy s (i:=bAt s s.length) rfl hb
  rw [if_neg hz]
  simp only [gt,Sum.elim_inl,w2,d]
theorem abE (s:List UInt8)(hs:s.length≤1000)(hN:10000≤N):hG N s=some (s.drop (bAt s s.length)):=by
 have h:o0 N ((s,((0:Int),((0:Int),()))),())=some ((s,((bAt s s.length:Int),())),()):=by
  have:=cu (G:=fun X c=>dU N X c.1.1 c.1.2.1 c.1.2.2.1) (fun i=>((s,((bAt s i:Int),((i:Int),()))),())) s.length ((s,((bAt s s.length:Int),())),()) (fun X i hi=> ?_) (fun X=> ?_) N 0 (D0 _) (by omega)
  ·exact this
  ·have c1:((i:Int)<(s.length:Int)):=by omega
   have g:=aS s i hi
   have w:ne .i64 ((i:Int)+1)=((i+1:Nat):Int):=by rw [ac (by omega) (by omega)];omega
   have gd:=arx s i hi
   by_cases h:((s[i].toNat:Nat):Int)=92
   ·have hb:bAt s (i+1)=i+1:=by unfold bAt;rw [gd,if_pos h]
    simp only [dU,c1,decide_true,cond_true,g,gt,h,w,hb]
   ·have hb:bAt s (i+1)=bAt s i:=by rw [bAt,gd,if_neg h]
    simp only [dU,c1,decide_true,cond_true,g,gt,h,decide_false,cond_false,w,hb]
  ·have c1:¬ ((s.length:Int)<(s.length:Int)):=by omega
   simp only [dU,c1,decide_false,cond_false]
 have hb:=af4 s s.length
 have d:b9 s (bAt s s.length:Int)=some (s.drop (bAt s s.length)):=fy s (i:=bAt s s.length) rfl hb
 unfold hG
 rw [h]
 simp only [gt,d]
abbrev DIG:List UInt8:=(@Array.toList UInt8 (@List.toArray UInt8 ([(@DE UInt8 (48:Nat) (@Du (48:Nat))),(@DE UInt8 (49:Nat) (@Du (49:Nat))),(@DE UInt8 (50:Nat) (@Du (50:Nat))),(@DE UInt8 (51:Nat) (@Du (51:Nat))),(@DE UInt8 (52:Nat) (@Du (52:Nat))),(@DE UInt8 (53:Nat) (@Du (53:Nat))),(@DE UInt8 (54:Nat) (@Du (54:Nat))),(@DE UInt8 (55:Nat) (@Du (55:Nat))),(@DE UInt8 (56:Nat) (@Du (56:Nat))),(@DE UInt8 (57:Nat) (@Du (57:Nat))),(@DE UInt8 (65:Nat) (@Du (65:Nat))),(@DE UInt8 (66:Nat) (@Du (66:Nat))),(@DE UInt8 (67:Nat) (@Du (67:Nat))),(@DE UInt8 (68:Nat) (@Du (68:Nat))),(@DE UInt8 (69:Nat) (@Du (69:Nat))),(@DE UInt8 (70:Nat) (@Du (70:Nat)))]:List (UInt8))))
def dg (n:Nat):UInt8:=[48,49,50,51,52,53,54,55,56,57,65,66,67,68,69,70].getD n 0
theorem hx1:∀ n:Nat,n<256→(getI DIG (@DJ (n:Int) (@HPow.hPow Int Nat Int (@instHPow Int Nat (@instPowNat Int @Int.instNatPow)) (2:Int) (@Min.min Nat @instMinNat (Db (4:Int)) (@Dj @IntKind.u8)))))=some (dg (n / 16)):=by decide +kernel
theorem hx2:∀ n:Nat,n<256→(getI DIG (@Go.bits @Go.BinOp.and @IntKind.u8 (n:Int) (15:Int)))=some (dg (n % 16)):=by decide +kernel
theorem hy1:∀ n:Nat,n<256→(subI DIG (ne .i64 (ne .u8 (@D3 (n:Int) (16:Int)))) (ne .i64 ((ne .i64 (ne .u8 (@D3 (n:Int) (16:Int))))+(1:Int))))=some [dg (n / 16)]:=by decide +kernel
theorem hy2:∀ n:Nat,n<256→(subI DIG (ne .i64 (@DW (n:Int) (16:Int))) (ne .i64 ((ne .i64 (@DW (n:Int) (16:Int)))+(1:Int))))=some [dg (n % 16)]:=by decide +kernel
def hexS (b:List Int):List UInt8:=b.flatMap fun v=>[dg (v.toNat / 16),dg (v.toNat % 16)]
theorem lf:∀ b:List Int,(hexS b).length=2*b.length
 | []=>rfl
 | v::b=>by
  show (dg (v.toNat / 16)::dg (v.toNat % 16)::hexS b).length=_
  simp only [C8,lf b];omega
theorem BE (b:List Int)(v:Int):hexS (b++[v])=hexS b++[dg (v.toNat / 16),dg (v.toNat % 16)]:=by
 unfold hexS
 rw [List.flatMap_append]
 rfl
theorem aaO:∀ s:List UInt8,toBy (ofB s)=some s
 | []=>rfl
 | x::s=>by
  have h:(0:Int)≤((x.toNat:Nat):Int)∧((x.toNat:Nat):Int)<256:=by
   have:=x.toNat_lt
   omega
  show toBy (((x.toNat:Nat):Int)::ofB s)=_
  unfold toBy
  rw [if_pos h,aaO s]
  simp
theorem amk (a b:List UInt8):ofB (a++b)=ofB a++ofB b:=by simp [ofB]
theorem ar8 (b:List Int)(hB:AllB b)(hb:b.length≤100)(hN:10000≤N):lc N b=some (hexS b):=by
 have h:rE N ((b,((b.length:Int),((0:Int),()))),(([]:List Int),()))=some ((),(ofB (hexS b),())):=by
  have:=cu (G:=fun X c=>iu N X c.1.1 c.1.2.1 c.1.2.2.1 c.2.1) (fun i=>((b,((b.length:Int),((i:Int),()))),(ofB (hexS (b.take i)),()))) b.length ((),(ofB (hexS b),())) (fun X i hi=> ?_) (fun X=> ?_) N 0 (D0 _) (by omega)
  ·exact this
  ·have c1:((i:Int)<(b.length:Int)):=by omega
   have g:=aS b i hi
   have hv:=hB _ (DF hi)
   have w:ne .i64 ((i:Int)+1)=((i+1:Nat):Int):=by rw [ac (by omega) (by omega)];omega
   obtain ⟨n,hn⟩:∃ n:Nat,b[i]=(n:Int):=⟨b[i].toNat,by omega⟩
   have hn2:n<256:=by omega
   have t1:=hx1 n hn2
   have t2:=hx2 n hn2
   have hts:b.take (i+1)=b.take i++[b[i]]:=by rw [Do,List.getElem?_eq_getElem hi];rfl
   have hap:ofB (hexS (b.take (i+1)))=ofB (hexS (b.take i))++[(((dg (n / 16)).toNat:Nat):Int),(((dg (n % 16)).toNat:Nat):Int)]:=by
    rw [hts,BE,amk,hn,C9]
    rfl
   have rm:ae ((ofB (hexS (b.take i))).length+([(((dg (n / 16)).toNat:Nat):Int),(((dg (n % 16)).toNat:Nat):Int)]:List Int).length) 1=true:=by
    rw [ct,lf,Dc]
    exact aH (by have:=aL;simp;omega) (by simp;omega)
   rw [hn] at g
   simp only [iu,c1,decide_true,cond_true,g,gt,t1,t2,rm,w,hap]
  ·have c1:¬ ((b.length:Int)<(b.length:Int)):=by omega
   simp only [iu,c1,decide_false,cond_false,List.take_length]
 have w:ne .i64 ((2:Int)*(b.length:Int))=((2*b.length:Nat):Int):=by rw [ac (by omega) (by omega)];omega
 have c0:decide ((0:Int)≤0∧(0:Int)≤((2*b.length:Nat):Int))=true:=decide_eq_true ⟨by omega,by omega⟩
 have r0:ae (Db ((2*b.length:Nat):Int)) 1=true:=aH (by have:=aL;omega) (by omega)
 unfold lc
 rw [w,c0,r0]
 simp only [Bool.and_self,cond_true]
 refine (congrArg (fun o=>Dm o _) h).trans ?_
 simp only [gt,aaO]
theorem ar7 (b:List Int)(hB:AllB b)(hb:b.length≤100)(hN:10000≤N):iK N b=some (hexS b):=by
 have h:qD N ((b,(DIG,(([]:List UInt8),((0:Int),())))),())=some ((hexS b,()),()):=by
  have:=cu (G:=fun X c=>gi N X c.1.1 c.1.2.1 c.1.2.2.1 c.1.2.2.2.1) (fun i=>((b,(DIG,(hexS (b.take i),((i:Int),())))),())) b.length ((hexS b,()),()) (fun X i hi=> ?_) (fun X=> ?_) N 0 (D0 _) (by omega)
  ·exact this
  ·have c1:((i:Int)<(b.length:Int)):=by omega
   have g:=aS b i hi
   have hv:=hB _ (DF hi)
   have w:ne .i64 ((i:Int)+1)=((i+1:Nat):Int):=by rw [ac (by omega) (by omega)];omega
   obtain ⟨n,hn⟩:∃ n:Nat,b[i]=(n:Int):=⟨b[i].toNat,by omega⟩
   have hn2:n<256:=by omega
   have t1:=hy1 n hn2
   have t2:=hy2 n hn2
   have hts:b.take (i+1)=b.take i++[b[i]]:=by rw [Do,List.getElem?_eq_getElem hi];rfl
   have hap:hexS (b.take (i+1))=hexS (b.take i)++([dg (n / 16)]++[dg (n % 16)]):=by
    rw [hts,BE,hn,C9]
    rfl
   have bl:=aL
   have r1:decide (([dg (n / 16)].length+[dg (n % 16)].length)≤Go.maxLen)=true:=decide_eq_true (by simp;omega)
   have r2:decide (((hexS (b.take i)).length+([dg (n / 16)]++[dg (n % 16)]).length)≤Go.maxLen)=true:=decide_eq_true (by rw [lf,Dc];simp;omega)
   rw [hn] at g
   simp only [gi,c1,decide_true,cond_true,g,gt,t1,t2,r1,r2,w,hap]
  ·have c1:¬ ((b.length:Int)<(b.length:Int)):=by omega
   simp only [gi,c1,decide_false,cond_false,List.take_length]
 unfold iK
 refine (congrArg (fun o=>Dm o _) h).trans ?_
 simp only [gt]
end
theorem adb (l:List UInt8):AllB (ofB l):=fun x hx=>by
 obtain ⟨b,hb,rfl⟩:=List.mem_map.1 hx
 have:=b.toNat_lt
 omega
theorem xt (n:Nat)(l:List Int)(h:l.length=n):eW n l=some ⟨l,h⟩:=by
 subst h
 unfold eW
 rw [dif_pos (Dq _)]
 exact congrArg some (Arr.eq List.take_length)
theorem bJ {n:Nat}(h:n≤100000):ae n 1=true:=aH (by have:=aL;omega) (by omega)
def pre8 (D:Arr Int 20):Arr Int 8:=⟨D.l.take 8,by rw [Dc,D.h];rfl⟩
theorem aeK (D:Arr Int 20):cR D.l 8=some (pre8 D).l∧eW 8 (pre8 D).l=some (pre8 D):=
 ⟨eg D.l (i:=8) rfl (by rw [D.h];decide),xt 8 _ (pre8 D).h⟩
section
variable {N:Nat}
theorem vH (D:Arr Int 20)(h0:Arr Int 8):∀ (k M i:Nat) (o:Arr Int 8),k+i=8→k<M→
  ∃ K:Arr Int 8,K.l=o.l.take i++(D.l.take 8).drop i∧gl (fun X c=>cr N X c.1.1 c.2.1 c.2.2.1 c.2.2.2.1) M (((i:Int),()),(h0,(D,(o,()))))=some ((),(h0,(K,())))
 | 0,M+1,i,o,hk,hM=>by
  have c1:¬ ((i:Int)<8):=by omega
  have hol:=o.h
  refine ⟨o, ?_, ?_⟩
  ·rw [Dk (by omega),Dd (by rw [Dc];omega),Di]
  ·rw [ah]
   simp only [cr,c1,decide_false,cond_false]
 | k+1,M+1,i,o,hk,hM=>by
  have hol:=o.h
  have hDl:=D.h
  have c1:((i:Int)<8):=by omega
  have e0:ne .i64 ((i:Int)+1)=((i+1:Nat):Int):=by rw [ac (by omega) (by omega)];omega
  have c2:(0:Int)≤(i:Int)∧(i:Int)<((20:Nat):Int):=by omega
  have c3:(0:Int)≤(i:Int)∧(i:Int)<((8:Nat):Int):=by omega
  have e1:Db (i:Int)=i:=C9 i
  have g1:D.l[i]? =some (D.l[i]'(by omega)):=List.getElem?_eq_getElem _
  have g2:o.l[i]? =some (o.l[i]'(by omega)):=List.getElem?_eq_getElem _
  obtain ⟨K,h1,h2⟩:=vH D h0 k M (i+1) (o.set i (D.l[i]'(by omega))) (by omega) (by omega)
  refine ⟨K, ?_, ?_⟩
  ·rw [h1]
   have q1:(o.set i (D.l[i]'(by omega))).l.take (i+1)=o.l.take i++[D.l[i]'(by omega)]:=by
    show (o.l.set i _).take (i+1)=_
    rw [Do,Dv (Dq _),List.getElem?_set_self (by omega)]
    rfl
   rw [q1,Df]
   congr 1
   have hlt:i<(D.l.take 8).length:=by rw [Dc];omega
   rw [C7 hlt,List.getElem_take]
   rfl
  ·rw [ah]
   simp only [cr,c1,decide_true,cond_true,c2,and_self,e1,g1,gt,c3,g2,e0]
   exact h2
theorem am2 (p a:Arr Int 16)(s:List UInt8)(hp:AllB p.l)(ha:AllB a.l)(hs:s.length≤300):∃ C:Arr Int 8,AllB C.l∧bz 200000 p a s=some C∧bR 200000 p a s=some C:=by
 have pl:=p.h
 have al:=a.h
 have b1:=abF (N:=200000) s (by omega) (by omega)
 have b2:=abE (N:=200000) s (by omega) (by omega)
 have ht:(s.drop (bAt s s.length)).length≤300:=by rw [Da];omega
 generalize s.drop (bAt s s.length)=t at *
 obtain ⟨D,d1,d2,d3⟩:=mf [p.l,a.l,ofB t] (by simp) (fun q hq=>by
  simp only [Dz,Dw,or_false] at hq
  rcases hq with rfl | rfl | rfl
  ·exact hp
  ·exact ha
  ·exact adb _) (by simp only [Dt,Dx,C6,ct,Dh];omega)
 simp only [Dt,Dx,Di] at d3
 rw [←Df] at d3
 obtain ⟨q1,q2⟩:=aeK D
 refine ⟨pre8 D,d1.take 8, ?_, ?_⟩
 ·unfold bz
  rw [b1,gt,bJ (by omega)]
  simp only [cond_true,d2,q1,q2,gt]
 ·obtain ⟨K,h1,h2⟩:=vH (N:=200000) D ⟨C5 8 0,rfl⟩ 8 200000 0 ⟨C5 8 0,rfl⟩ (by omega) (by omega)
  have hK:K=pre8 D:=Arr.eq (by rw [h1];rfl)
  subst hK
  have h2':fj 200000 (((0:Int),()),((⟨C5 8 0,rfl⟩:Arr Int 8),(D,((⟨C5 8 0,rfl⟩:Arr Int 8),()))))=some ((),((⟨C5 8 0,rfl⟩:Arr Int 8),(pre8 D,()))):=h2
  unfold bR
  rw [bJ (by omega),bJ (by omega),b2]
  simp only [cond_true,gt]
  rw [bJ (by rw [C6];omega),d3,gt]
  simp only [cond_true]
  refine (congrArg (fun o=>Dm o _) h2').trans ?_
  rfl
theorem aeA (c:Arr Int 8)(t0 t1 t2:Arr Int 7)(Z:Arr Int 24)(l0 l1 l2:List Int)(s0:iV 200000 t0.l c.l=some (l0,0))(s1:iV 200000 t1.l c.l=some (l1,0))(s2:iV 200000 t2.l c.l=some (l2,0))(n0:l0.length=8)(n1:l1.length=8)(n2:l2.length=8):
  kO 200000 ((c,(Dg t0 (Dg t1 (Dg t2 DU)),((0:Int),()))),(Z,(([]:List Int),())))=some ((),(Z,(l0++l1++l2,()))):=by
 have w1:ne .i64 ((0:Int)+1)=1:=by decide
 have w2:ne .i64 ((1:Int)+1)=2:=by decide
 have w3:ne .i64 ((2:Int)+1)=3:=by decide
 have g0:getI (Dg t0 (Dg t1 (Dg t2 DU))).l (0:Int)=some t0:=rfl
 have g1:getI (Dg t0 (Dg t1 (Dg t2 DU))).l (1:Int)=some t1:=rfl
 have g2:getI (Dg t0 (Dg t1 (Dg t2 DU))).l (2:Int)=some t2:=rfl
 have r0:ae (([]:List Int).length+l0.length) 1=true:=bJ (by simp;omega)
 have r1:ae ((([]:List Int)++l0).length+l1.length) 1=true:=bJ (by simp;omega)
 have r2:ae ((([]:List Int)++l0++l1).length+l2.length) 1=true:=bJ (by simp;omega)
 have fuel:∀ M,gl (fun X c=>dH 200000 X c.1.1 c.1.2.1 c.1.2.2.1 c.2.1 c.2.2.1) (M+4) ((c,(Dg t0 (Dg t1 (Dg t2 DU)),((0:Int),()))),(Z,(([]:List Int),())))=some ((),(Z,(([]:List Int)++l0++l1++l2,()))):=by
  intro M
  have d0:((0:Int)<3):=by decide
  have d1:((1:Int)<3):=by decide
  have d2:((2:Int)<3):=by decide
  have d3:¬ ((3:Int)<3):=by decide
  simp only [ah,dH,d0,d1,d2,d3,decide_true,decide_false,cond_true,cond_false,g0,g1,g2,gt,s0,s1,s2,r0,r1,r2,w1,w2,w3]
 have:=fuel 199996
 rw [DP] at this
 exact this
theorem ash (c:Arr Int 8)(h:Arr Int 16)(n:Nat)(hn:n<3)(b:List Int)(hb:b.length=8)(h0:Arr Int 24):∀ (k M i:Nat) (o:Arr Int 24),k+i=8→k<M→
  ∃ K:Arr Int 24,K.l=o.l.take (8*n+i)++b.drop i++o.l.drop (8*n+8)∧gl (fun X c=>cI N X c.1.1 c.1.2.1 c.1.2.2.1 c.1.2.2.2.1 c.1.2.2.2.2.1 c.2.1 c.2.2.1) M ((c,(h,((n:Int),(b,((i:Int),()))))),(h0,(o,())))=some ((c,(h,((n:Int),()))),(h0,(K,())))
 | 0,M+1,i,o,hk,hM=>by
  have c1:¬ ((i:Int)<8):=by omega
  have hi:i=8:=by omega
  refine ⟨o, ?_, ?_⟩
  ·have hd:b.drop i=[]:=Dd (by omega)
   rw [hd,Di,hi,DO]
  ·rw [ah]
   simp only [cI,c1,decide_false,cond_false,gt]
 | k+1,M+1,i,o,hk,hM=>by
  have hol:=o.h
  have c1:((i:Int)<8):=by omega
  have c4:((i:Int)<(b.length:Int)):=by omega
  have hib:i<b.length:=by omega
  have e0:ne .i64 ((i:Int)+1)=((i+1:Nat):Int):=by rw [ac (by omega) (by omega)];omega
  have e3:ne .i64 ((8:Int)*(n:Int))=((8*n:Nat):Int):=by rw [ac (by omega) (by omega)];omega
  have e4:ne .i64 (((8*n:Nat):Int)+(i:Int))=((8*n+i:Nat):Int):=by rw [ac (by omega) (by omega)];omega
  have c3:(0:Int)≤((8*n+i:Nat):Int)∧((8*n+i:Nat):Int)<((24:Nat):Int):=by omega
  have e1:Db ((8*n+i:Nat):Int)=8*n+i:=C9 _
  have hj:8*n+i<o.l.length:=by omega
  have g1:=aS b i hib
  have g2:o.l[8*n+i]? =some (o.l[8*n+i]'hj):=List.getElem?_eq_getElem _
  obtain ⟨K,h1,h2⟩:=ash c h n hn b hb h0 k M (i+1) (o.set (8*n+i) b[i]) (by omega) (by omega)
  refine ⟨K, ?_, ?_⟩
  ·rw [h1]
   have q1:(o.set (8*n+i) b[i]).l.take (8*n+(i+1))=o.l.take (8*n+i)++[b[i]]:=by
    show (o.l.set (8*n+i) _).take (8*n+i+1)=_
    rw [Do,Dv (Dq _),List.getElem?_set_self hj]
    rfl
   have q2:(o.set (8*n+i) b[i]).l.drop (8*n+8)=o.l.drop (8*n+8):=by
    show (o.l.set (8*n+i) _).drop (8*n+8)=_
    rw [List.drop_set_of_lt (by omega)]
   rw [q1,q2,Df (List.take _ _) [b[i]] _,List.singleton_append,←C7 hib]
  ·rw [ah]
   simp only [cI,c1,decide_true,cond_true,c4,gt,g1,e3,e4,c3,and_self,e1,g2,e0]
   exact h2
theorem afz (c:Arr Int 8)(h:Arr Int 16)(n:Nat)(hn:n<3)(b:List Int)(hb:b.length=8)(h0 o:Arr Int 24):
  ∃ K:Arr Int 24,K.l=o.l.take (8*n)++b++o.l.drop (8*n+8)∧jY 200000 ((c,(h,((n:Int),(b,((0:Int),()))))),(h0,(o,())))=some ((c,(h,((n:Int),()))),(h0,(K,()))):=by
 obtain ⟨K,h1,h2⟩:=ash (N:=200000) c h n hn b hb h0 8 200000 0 o (by omega) (by omega)
 exact ⟨K,by rw [h1,DN,Nat.add_zero],h2⟩
theorem aez (c:Arr Int 8)(h:Arr Int 16)(hc:AllB c.l)(hh:AllB h.l):∃ R:Arr Int 24,AllB R.l∧dc 200000 c h=some R∧en 200000 c h=some R:=by
 obtain ⟨t0,t1,t2,b0,b1,b2,hT,u0,u1,u2⟩:=ad6 h hh
 obtain ⟨l0,s0,v0,n0,m0⟩:=De.seven8 t0.l c.l b0 hc t0.h c.h
 obtain ⟨l1,s1,v1,n1,m1⟩:=De.seven8 t1.l c.l b1 hc t1.h c.h
 obtain ⟨l2,s2,v2,n2,m2⟩:=De.seven8 t2.l c.l b2 hc t2.h c.h
 have hlen:(l0++l1++l2).length=24:=by rw [C6,C6];omega
 refine ⟨⟨l0++l1++l2,hlen⟩,(m0.append m1).append m2, ?_, ?_⟩
 ·have ta:=xt 24 (l0++l1++l2) hlen
  have hl:=aeA c t0 t1 t2
  unfold dc
  rw [hT,gt,hl _ l0 l1 l2 s0 s1 s2 n0 n1 n2]
  simp only [gt,ta]
 ·have hloop:∀ Z Z0:Arr Int 24,jZ 200000 ((c,(h,((0:Int),()))),(Z0,(Z,())))=some ((),(Z0,((⟨l0++l1++l2,hlen⟩:Arr Int 24),()))):=by
   intro Z Z0
   obtain ⟨K0,k0,f0⟩:=afz c h 0 (by omega) l0 n0 Z0 Z
   obtain ⟨K1,k1,f1⟩:=afz c h 1 (by omega) l1 n1 Z0 K0
   obtain ⟨K2,k2,f2⟩:=afz c h 2 (by omega) l2 n2 Z0 K1
   have hK:K2=⟨l0++l1++l2,hlen⟩:=Arr.eq (by
    have a0:K0.l.take 8=l0:=by
     rw [k0]
     show (([]++l0)++Z.l.drop 8).take 8=l0
     rw [DP,List.take_left' n0]
    have a1:K1.l.take 16=l0++l1:=by
     rw [k1,a0]
     exact List.take_left' (by rw [C6];omega)
    have a2:K1.l.drop 24=[]:=Dd (by rw [K1.h];omega)
    rw [k2]
    show K1.l.take 16++l2++K1.l.drop 24=_
    rw [a1,a2,Di])
   subst hK
   have w1:ne .i64 (((0:Nat):Int)+1)=((1:Nat):Int):=by decide
   have w2:ne .i64 (((1:Nat):Int)+1)=((2:Nat):Int):=by decide
   have w3:ne .i64 (((2:Nat):Int)+1)=((3:Nat):Int):=by decide
   have u0':cL 200000 h ((0:Nat):Int)=some t0.l:=u0
   have u1':cL 200000 h ((1:Nat):Int)=some t1.l:=u1
   have u2':cL 200000 h ((2:Nat):Int)=some t2.l:=u2
   have fuel:∀ M,gl (fun X c=>bK 200000 X c.1.1 c.1.2.1 c.1.2.2.1 c.2.1 c.2.2.1) (M+4) ((c,(h,(((0:Nat):Int),()))),(Z0,(Z,())))=some ((),(Z0,((⟨l0++l1++l2,hlen⟩:Arr Int 24),()))):=by
    intro M
    have d0:(((0:Nat):Int)<3):=by decide
    have d1:(((1:Nat):Int)<3):=by decide
    have d2:(((2:Nat):Int)<3):=by decide
    have d3:¬ (((3:Nat):Int)<3):=by decide
    generalize h0:((0:Nat):Int)=z0 at *
    generalize h1:((1:Nat):Int)=z1 at *
    generalize h2:((2:Nat):Int)=z2 at *
    generalize h3:((3:Nat):Int)=z3 at *
    rw [ah]
    simp only [bK,d0,decide_true,cond_true,u0',gt,v0,f0,w1]
    rw [ah]
    simp only [bK,d1,decide_true,cond_true,u1',gt,v1,f1,w2]
    rw [ah]
    simp only [bK,d2,decide_true,cond_true,u2',gt,v2,f2,w3]
    rw [ah]
    simp only [bK,d3,decide_false,cond_false]
   exact fuel 199996
  unfold en
  rw [hloop]
  simp only [gt]
end
theorem ahm (p a:Arr Int 16)(s w:List UInt8)(hp:AllB p.l)(ha:AllB a.l)(hs:s.length≤300)(hw:w.length≤300):∃ R:Arr Int 24,∃ e:Int,AllB R.l∧de 200000 p a s w=some (R,e)∧fK 200000 p a s w=some (R,e):=by
 obtain ⟨D,e,d1,d2,d3⟩:=CR w (by omega)
 unfold de fK
 rw [d1,d2,gt,gt]
 by_cases he:e=0
 ·obtain ⟨C,c1,c2,c3⟩:=am2 p a s hp ha hs
  obtain ⟨R,r1,r2,r3⟩:=aez C D c1 d3
  refine ⟨R,0,r1, ?_, ?_⟩
  ·simp only [he,decide_true,DA,cond_false,c2,r2,gt]
  ·simp only [he,decide_true,DA,cond_false,c3,r3,gt]
 ·refine ⟨_,e, ?_,by simp only [he,decide_false,Bool.not_false,cond_true];exact rfl,by simp only [he,decide_false,Bool.not_false,cond_true]⟩
  exact AllB.zeros 24
def AG:List UInt8:=[77,97,103,105,99,32,115,101,114,118,101,114,32,116,111,32,99,108,105,101,110,116,32,115,105,103,110,105,110,103,32,99,111,110,115,116,97,110,116]
def sPad:List UInt8:=[80,97,100,32,116,111,32,109,97,107,101,32,105,116,32,100,111,32,109,111,114,101,32,116,104,97,110,32,111,110,101,32,105,116,101,114,97,116,105,111,110]
def sS:List UInt8:=[83,61]
section
variable {N:Nat}
theorem adP (h:Arr Int 16)(r:Arr Int 24)(c:Arr Int 8):eU N h r c=(dM N h).bind fun t=>(gz N [t.l,r.l,ofB AG]).bind fun d=>(gz N [d.l,c.l,ofB sPad]).bind fun e=>(lc N e.l).bind fun x=>bif decide ((sS.length+x.length)≤Go.maxLen) then some (sS++x) else none:=by kernel_rfl
theorem CH (h:Arr Int 16)(r:Arr Int 24)(c:Arr Int 8):iI N h r c=(eR N h).bind fun t=>bif ae t.l.length 1 then (bif ae (t.l.length+r.l.length) 1 then (bif ae ((t.l++r.l).length+AG.length) 1 then ((fA N ((t.l++r.l)++ofB AG)).bind fun d=>bif ae d.l.length 1 then (bif ae (d.l.length+c.l.length) 1 then (bif ae ((d.l++c.l).length+sPad.length) 1 then ((fA N ((d.l++c.l)++ofB sPad)).bind fun e=>(iK N e.l).bind fun x=>bif decide ((sS.length+x.length)≤Go.maxLen) then some (sS++x) else none) else none) else none) else none) else none) else none) else none:=by kernel_rfl
end
theorem af8 (h:Arr Int 16)(r:Arr Int 24)(c:Arr Int 8)(hb:AllB h.l)(rb:AllB r.l)(cb:AllB c.l):∃ t:List UInt8,t.length≤100∧eU 200000 h r c=some t∧iI 200000 h r c=some t:=by
 obtain ⟨t,t1,t2,t3⟩:=xr h hb
 have tl:=t.h
 have rl:=r.h
 have cl:=c.h
 have sl:AG.length=39:=rfl
 have pl:sPad.length=41:=rfl
 obtain ⟨D,d1,d2,d3⟩:=mf [t.l,r.l,ofB AG] (by simp) (fun p hp=>by
  simp only [Dz,Dw,or_false] at hp
  rcases hp with rfl | rfl | rfl
  ·exact t3
  ·exact rb
  ·exact adb _) (by simp only [Dt,Dx,C6,ct,Dh];omega)
 simp only [Dt,Dx,Di] at d3
 rw [←Df] at d3
 have Dl:=D.h
 obtain ⟨E,e1,e2,e3⟩:=mf [D.l,c.l,ofB sPad] (by simp) (fun p hp=>by
  simp only [Dz,Dw,or_false] at hp
  rcases hp with rfl | rfl | rfl
  ·exact d1
  ·exact cb
  ·exact adb _) (by simp only [Dt,Dx,C6,ct,Dh];omega)
 simp only [Dt,Dx,Di] at e3
 rw [←Df] at e3
 have El:=E.h
 have x1:=ar8 (N:=200000) E.l e1 (by omega) (by omega)
 have x2:=ar7 (N:=200000) E.l e1 (by omega) (by omega)
 have hx:decide ((sS.length+(hexS E.l).length)≤Go.maxLen)=true:=decide_eq_true (by
  have:=aL
  rw [lf,show sS.length=2 from rfl];omega)
 refine ⟨sS++hexS E.l,by rw [C6,lf,show sS.length=2 from rfl];omega, ?_, ?_⟩
 ·rw [adP,t1,gt,d2,gt,e2,gt,x1,gt,hx]
  rfl
 ·rw [CH,t2,gt,bJ (by omega),bJ (by omega),bJ (by rw [C6];omega)]
  simp only [cond_true,d3,gt]
  rw [bJ (by omega),bJ (by omega),bJ (by rw [C6];omega)]
  simp only [cond_true,e3,gt,x2,hx]
theorem abz (p a:Arr Int 16)(s:List UInt8)(hp:AllB p.l)(ha:AllB a.l)(hs:s.length≤600):∃ C:Arr Int 8,AllB C.l∧bz 200000 p a s=some C∧bR 200000 p a s=some C:=by
 have pl:=p.h
 have al:=a.h
 have b1:=abF (N:=200000) s (by omega) (by omega)
 have b2:=abE (N:=200000) s (by omega) (by omega)
 have ht:(s.drop (bAt s s.length)).length≤600:=by rw [Da];omega
 generalize s.drop (bAt s s.length)=t at *
 obtain ⟨D,d1,d2,d3⟩:=mf [p.l,a.l,ofB t] (by simp) (fun q hq=>by
  simp only [Dz,Dw,or_false] at hq
  rcases hq with rfl | rfl | rfl
  ·exact hp
  ·exact ha
  ·exact adb _) (by simp only [Dt,Dx,C6,ct,Dh];omega)
 simp only [Dt,Dx,Di] at d3
 rw [←Df] at d3
 obtain ⟨q1,q2⟩:=aeK D
 refine ⟨pre8 D,d1.take 8, ?_, ?_⟩
 ·unfold bz
  rw [b1,gt,bJ (by omega)]
  simp only [cond_true,d2,q1,q2,gt]
 ·obtain ⟨K,h1,h2⟩:=vH (N:=200000) D ⟨C5 8 0,rfl⟩ 8 200000 0 ⟨C5 8 0,rfl⟩ (by omega) (by omega)
  have hK:K=pre8 D:=Arr.eq (by rw [h1];rfl)
  subst hK
  have h2':fj 200000 (((0:Int),()),((⟨C5 8 0,rfl⟩:Arr Int 8),(D,((⟨C5 8 0,rfl⟩:Arr Int 8),()))))=some ((),((⟨C5 8 0,rfl⟩:Arr Int 8),(pre8 D,()))):=h2
  unfold bR
  rw [bJ (by omega),bJ (by omega),b2]
  simp only [cond_true,gt]
  rw [bJ (by rw [C6];omega),d3,gt]
  simp only [cond_true]
  refine (congrArg (fun o=>Dm o _) h2').trans ?_
  rfl
theorem bpos {α:Type}{p:Prop}{i:Decidable p}{x y:α}(h:p):(bif @decide p i then x else y)=x:=by rw [decide_eq_true h];rfl
theorem bneg {α:Type}{p:Prop}{i:Decidable p}{x y:α}(h:¬ p):(bif @decide p i then x else y)=y:=by rw [decide_eq_false h];rfl
theorem aev {n b:Nat}(h:n≤100000)(hb:b≤100):ae n b=true:=aH (by have:=aL;omega) (by
 have:n*b≤100000*100:=Nat.mul_le_mul h hb
 omega)
theorem rpos {α:Type}{n b:Nat}{x y:α}(h:n≤100000)(hb:b≤100):(bif ae n b then x else y)=x:=by rw [aev h hb];rfl
theorem bnd {α β:Type}{o:Option α}{v:α}{k:α→Option β}(h:o=some v):Dm o k=k v:=by rw [h];rfl
theorem bvp {α:Type}{v:Bool}{x y:α}(h:v=true):(bif v then x else y)=x:=by rw [h];rfl
theorem bvn {α:Type}{v:Bool}{x y:α}(h:v=false):(bif v then x else y)=y:=by rw [h];rfl
abbrev Us:Type:=List UInt8×List UInt8
abbrev Ct:Type:=Int×(Int×List Int)
section
variable {N:Nat}
def layK (a b:Int)(v:List Int)(s:List UInt8):Ct:=(a,(b,([ne .u8 (((v.take (min v.length 255)).length:Nat):Int)]++v.take (min v.length 255))++ofB s))
theorem arq (v:List Int):cR v (minI (((v.length:Nat)):Int) (255:Int))=some (v.take (min v.length 255)):=by
 have hmi:minI (v.length:Int) 255=((min v.length 255:Nat):Int):=by unfold minI;split <;> omega
 rw [hmi]
 exact eg v rfl (by omega)
theorem arX (a b:Int)(v:List Int)(s:List UInt8)(hs:s.length≤1000):nm 200000 a b v s=some (layK a b v s):=by
 have hl:(v.take (min v.length 255)).length≤255:=by rw [Dc];omega
 unfold nm
 refine (bnd (arq v)).trans ?_
 refine (rpos (by omega) (by omega)).trans ?_
 have hj:fw 200000 ([([(ne .u8 (((v.take (min v.length 255)).length:Nat):Int))]:List Int),v.take (min v.length 255),ofB s]:List (List Int))=some ([([(ne .u8 (((v.take (min v.length 255)).length:Nat):Int))]:List Int),v.take (min v.length 255),ofB s]:List (List Int)).flatten:=vD (N:=200000) _ (by simp) (fun q hq=>by
  simp only [Dz,Dw,or_false] at hq
  rcases hq with rfl | rfl | rfl
  ·simp
  ·omega
  ·rw [ct];omega) (by omega)
 refine (bnd hj).trans ?_
 unfold layK
 simp only [Dt,Dx,Di,Df]
theorem arW (a b:Int)(v:List Int)(s:List UInt8)(hs:s.length≤1000):mr 200000 a b v s=some (layK a b v s):=by
 have hl:(v.take (min v.length 255)).length≤255:=by rw [Dc];omega
 unfold mr
 refine (bnd (arq v)).trans ?_
 refine (rpos (by simp only [C8,Dh];omega) (by omega)).trans ?_
 refine (rpos (by simp only [C6,C8,Dh];omega) (by omega)).trans ?_
 rfl
def parK (c:Ct):List Int×List UInt8×Int:=if c.2.2.length=0∨(c.2.2.length:Int)-1<c.2.2.getD 0 0 then ([],([],4)) else (((c.2.2.drop 1).take (c.2.2.getD 0 0).toNat),((c.2.2.drop (1+(c.2.2.getD 0 0).toNat)).map afS,0))
theorem ah8 (l:List Int)(h:l.length≤10000):cO 200000 l=some l:=by
 unfold cO c6
 cases l with
 | nil=>rfl
 | cons x l=>
  refine (bvn rfl).trans ((bvn rfl).trans ((rpos (by omega) (by omega)).trans rfl))
theorem arC (c:Ct)(hb:AllB c.2.2)(hl:c.2.2.length≤1000):ix 200000 c=some (parK c)∧jT 200000 c=some (parK c):=by
 obtain ⟨c0,c1,d⟩:=c
 simp only at hb hl
 unfold ix jT parK
 simp only
 by_cases h0:d.length=0
 ·rw [if_pos (.inl h0)]
  exact ⟨bpos (by omega),bpos (by omega)⟩
 ·have g:getI d (0:Int)=some (d[0]'(by omega)):=aS d 0 (by omega)
  have gd:d.getD 0 0=d[0]'(by omega):=by rw [List.getD_eq_getElem?_getD,List.getElem?_eq_getElem (by omega)];rfl
  have hx:=hb.get 0 (by omega)
  rw [gd]
  generalize d[0]'(by omega)=x at g hx
  have w1:ne .i64 ((d.length:Int)-1)=(d.length:Int)-1:=ac (by omega) (by omega)
  have w2:ne .i64 x=x:=ac (by omega) (by omega)
  have w3:ne .i64 ((1:Int)+x)=((1+x.toNat:Nat):Int):=by rw [ac (by omega) (by omega)];omega
  simp only [g,w1,w2,w3,gt]
  by_cases h1:(d.length:Int)-1<x
  ·rw [if_pos (.inr h1)]
   rw [decide_eq_true h1]
   exact ⟨(bneg (by omega)).trans rfl,(bneg (by omega)).trans rfl⟩
  ·rw [if_neg (by omega),decide_eq_false h1]
   have s1:subI d (1:Int) ((1+x.toNat:Nat):Int)=some ((d.drop 1).take x.toNat):=by
    rw [iE d (a:=1) (i:=1) (j:=1+x.toNat) rfl rfl (by omega) (by omega)]
    congr 2
    omega
   have s2:b9 d ((1+x.toNat:Nat):Int)=some (d.drop (1+x.toNat)):=fy d rfl (by omega)
   have s3:=yr (hb.drop (1+x.toNat))
   have s4:=ah8 ((d.drop 1).take x.toNat) (by rw [Dc,Da];omega)
   constructor
   ·refine (bneg (by omega)).trans ((bvn rfl).trans ?_)
    exact (bnd s1).trans ((bnd s4).trans ((bnd s2).trans (bnd s3)))
   ·refine (bneg (by omega)).trans ((bvn rfl).trans ?_)
    exact (bnd s1).trans ((bnd s2).trans (bnd s3))
def ui (s:List UInt8):List UInt8:=s.drop (bAt s s.length)
def s9 (b:List UInt8):List Us→Option Us
 | []=>none
 | u::l=>if ui u.1=b then some u else s9 b l
def oksU (l:List Us):Prop:=∀ u∈l,u.1.length≤1000∧u.2.length≤1000
theorem asg (l:List Us)(b:List UInt8)(hl:oksU l)(hlen:l.length≤1000)(h0 h2:Us):∀ (n k i:Nat),i+n=l.length→n<k→
  gl (fun X c=>aC 200000 X c.1.1 c.1.2.1 c.1.2.2.1 c.2.1 c.2.2.1 c.2.2.2.1) k ((l,((l.length:Int),((i:Int),()))),(h0,(b,(h2,()))))=some (match s9 b (l.drop i) with
   | some u=>.inl ((true,()),(h0,(b,(u,()))))
   | none=>.inr ((),(h0,(b,(h2,())))))
 | 0,k+1,i,hi,_=>by
  have c1:¬ ((i:Int)<(l.length:Int)):=by omega
  rw [ah,Dd (by omega)]
  simp only [aC,c1,decide_false,cond_false]
  rfl
 | n+1,k+1,i,hi,hk=>by
  have c1:((i:Int)<(l.length:Int)):=by omega
  have hlt:i<l.length:=by omega
  have g:=aS l i hlt
  have w:ne .i64 ((i:Int)+1)=((i+1:Nat):Int):=by rw [ac (by omega) (by omega)];omega
  have ih:=asg l b hl hlen h0 h2 n k (i+1) (by omega) (by omega)
  have hb:=abF (N:=200000) (l[i]).1 (hl _ (DF hlt)).1 (by omega)
  rw [ah,C7 hlt]
  unfold s9
  by_cases h:ui (l[i]).1=b
  ·have h':(l[i]).1.drop (bAt (l[i]).1 (l[i]).1.length)=b:=h
   rw [if_pos h]
   simp only [aC,c1,decide_true,cond_true,g,gt,hb,h']
  ·have h':¬ (l[i]).1.drop (bAt (l[i]).1 (l[i]).1.length)=b:=h
   rw [if_neg h]
   simp only [aC,c1,decide_true,cond_true,g,gt,hb,h',decide_false,cond_false,w]
   exact ih
theorem asf (l:List Us)(m:List UInt8)(hm:m.length≤1000)(hl:oksU l)(hlen:l.length≤1000)(h0:Us):∀ (n k i:Nat),i+n=l.length→n<k→
  gl (fun X c=>dR 200000 X c.1.1 c.1.2.1 c.1.2.2.1 c.2.1) k ((l,(m,((i:Int),()))),(h0,()))=some (match s9 (ui m) (l.drop i) with
   | some u=>.inl ((true,()),(u,()))
   | none=>.inr ((),(h0,())))
 | 0,k+1,i,hi,_=>by
  have c1:¬ ((i:Int)<(l.length:Int)):=by omega
  rw [ah,Dd (by omega)]
  simp only [dR,c1,decide_false,cond_false]
  rfl
 | n+1,k+1,i,hi,hk=>by
  have c1:((i:Int)<(l.length:Int)):=by omega
  have hlt:i<l.length:=by omega
  have g:=aS l i hlt
  have w:ne .i64 ((i:Int)+1)=((i+1:Nat):Int):=by rw [ac (by omega) (by omega)];omega
  have ih:=asf l m hm hl hlen h0 n k (i+1) (by omega) (by omega)
  have hb:=abE (N:=200000) (l[i]).1 (hl _ (DF hlt)).1 (by omega)
  have hb2:=abE (N:=200000) m hm (by omega)
  rw [ah,C7 hlt]
  unfold s9
  by_cases h:ui (l[i]).1=ui m
  ·have h':(l[i]).1.drop (bAt (l[i]).1 (l[i]).1.length)=m.drop (bAt m m.length):=h
   rw [if_pos h]
   simp only [dR,c1,decide_true,cond_true,g,gt,hb,hb2,h']
  ·have h':¬ (l[i]).1.drop (bAt (l[i]).1 (l[i]).1.length)=m.drop (bAt m m.length):=h
   rw [if_neg h]
   simp only [dR,c1,decide_true,cond_true,g,gt,hb,hb2,h',decide_false,cond_false,w]
   exact ih
def resU (o:Option Us):Us×Bool:=match o with
 | some u=>(u,true)
 | none=>(([],[]),false)
theorem ase (l:List Us)(m:List UInt8)(hm:m.length≤1000)(hl:oksU l)(hlen:l.length≤1000):np 200000 l m=some (resU (s9 (ui m) l)):=by
 unfold np
 refine (bnd (abF (N:=200000) m hm (by omega))).trans ?_
 have h:cj 200000 ((l,((l.length:Int),(((0:Nat):Int),()))),((([],[]):Us),(ui m,((([],[]):Us),()))))=_:=asg l (ui m) hl hlen ([],[]) ([],[]) l.length 200000 0 (by omega) (by omega)
 refine (bnd h).trans ?_
 rw [DN]
 cases s9 (ui m) l <;> rfl
theorem asd (l:List Us)(m:List UInt8)(hm:m.length≤1000)(hl:oksU l)(hlen:l.length≤1000):ms 200000 l m=some (resU (s9 (ui m) l)):=by
 unfold ms
 have h:oX 200000 ((l,(m,(((0:Nat):Int),()))),((([],[]):Us),()))=_:=asf l m hm hl hlen ([],[]) l.length 200000 0 (by omega) (by omega)
 refine (bnd h).trans ?_
 rw [DN]
 cases s9 (ui m) l <;> rfl
theorem ag3 (l:List Us)(hlen:l.length≤1000):kC 200000 l=some l:=by
 have h:oI 200000 ((l,((l.length:Int),((0:Int),()))),(([]:List Us),()))=some ((),(l,())):=by
  have:=cu (G:=fun X c=>eA 200000 X c.1.1 c.1.2.1 c.1.2.2.1 c.2.1) (fun i=>((l,((l.length:Int),((i:Int),()))),(l.take i,()))) l.length ((),(l,())) (fun X i hi=> ?_) (fun X=> ?_) 200000 0 (D0 _) (by omega)
  ·exact this
  ·have c1:((i:Int)<(l.length:Int)):=by omega
   have g:=aS l i hi
   have w:ne .i64 ((i:Int)+1)=((i+1:Nat):Int):=by rw [ac (by omega) (by omega)];omega
   have ts:l.take (i+1)=l.take i++[((l[i]).1,(l[i]).2)]:=by rw [Do,List.getElem?_eq_getElem hi];rfl
   have rm:ae ((l.take i).length+([((l[i]).1,(l[i]).2)]:List Us).length) 32=true:=aev (by rw [Dc];simp only [C8,Dh];omega) (by omega)
   simp only [eA,c1,decide_true,cond_true,g,gt,rm,w,ts]
  ·have c1:¬ ((l.length:Int)<(l.length:Int)):=by omega
   simp only [eA,c1,decide_false,cond_false,List.take_length]
 unfold kC
 exact (bnd h).trans rfl
theorem farL (l m:List Us)(hm:m.length≤1000):∀ (n k i:Nat),i+n=m.length→n<k→
  ∃ r,gl (fun X c=>dN 200000 X c.1.1 c.1.2.1 c.1.2.2.1 c.1.2.2.2.1) k ((l,(m,((m.length:Int),((i:Int),())))),())=some r∧(r= .inl ((true,()),())∨(r= .inr ((l,()),())∧∀ u∈m.drop i,u.1.length≤200∧u.2.length≤300))
 | 0,k+1,i,hi,_=>by
  have c1:¬ ((i:Int)<(m.length:Int)):=by omega
  refine ⟨.inr ((l,()),()), ?_,.inr ⟨rfl,fun u hu=> ?_⟩⟩
  ·rw [ah]
   simp only [dN,c1,decide_false,cond_false]
  ·rw [Dd (by omega)] at hu;cases hu
 | n+1,k+1,i,hi,hk=>by
  have c1:((i:Int)<(m.length:Int)):=by omega
  have hlt:i<m.length:=by omega
  have g:=aS m i hlt
  have w:ne .i64 ((i:Int)+1)=((i+1:Nat):Int):=by rw [ac (by omega) (by omega)];omega
  obtain ⟨r,r1,r2⟩:=farL l m hm n k (i+1) (by omega) (by omega)
  by_cases h1:(200:Int)<(((m[i]).1.length:Nat):Int)
  ·refine ⟨.inl ((true,()),()), ?_,.inl rfl⟩
   rw [ah]
   simp only [dN,c1,decide_true,cond_true,g,gt,h1]
  ·by_cases h2:(300:Int)<(((m[i]).2.length:Nat):Int)
   ·refine ⟨.inl ((true,()),()), ?_,.inl rfl⟩
    rw [ah]
    simp only [dN,c1,decide_true,cond_true,g,gt,h1,h2,decide_false,cond_false]
   ·refine ⟨r, ?_, ?_⟩
    ·rw [ah]
     simp only [dN,c1,decide_true,cond_true,g,gt,h1,h2,decide_false,cond_false,w]
     exact r1
    ·rcases r2 with r2 | ⟨r2,r3⟩
     ·exact .inl r2
     ·refine .inr ⟨r2,fun u hu=> ?_⟩
      rw [C7 hlt] at hu
      rcases Dz.1 hu with rfl | hu
      ·omega
      ·exact r3 u hu
theorem asi (l:List Us):iP 200000 l=some true∨(iP 200000 l=some false∧l.length≤10∧∀ u∈l,u.1.length≤200∧u.2.length≤300):=by
 have hmi:minI (l.length:Int) 10=((min l.length 10:Nat):Int):=by unfold minI;split <;> omega
 have ht:cR l (minI (((l.length:Nat)):Int) (10:Int))=some (l.take (min l.length 10)):=by rw [hmi];exact eg l rfl (by omega)
 have hl:(l.take (min l.length 10)).length≤1000:=by rw [Dc];omega
 obtain ⟨r,r1,r2⟩:=farL l (l.take (min l.length 10)) hl (l.take (min l.length 10)).length 200000 0 (by omega) (by omega)
 have h:qH 200000 ((l,(l.take (min l.length 10),(((l.take (min l.length 10)).length:Int),((0:Int),())))),())=some r:=r1
 have e:iP 200000 l=_:=(show iP 200000 l=_ from by unfold iP;exact (bnd ht).trans (bnd h))
 rw [e]
 rcases r2 with rfl | ⟨rfl,r3⟩
 ·left;rfl
 ·by_cases h10:(10:Int)<(l.length:Int)
  ·left
   show some (decide ((10:Int)<(l.length:Int)))=some true
   rw [decide_eq_true h10]
  ·right
   refine ⟨?_,by omega,fun u hu=>r3 u ?_⟩
   ·show some (decide ((10:Int)<(l.length:Int)))=some false
    rw [decide_eq_false h10]
   ·rw [DN,Dk (by omega)];exact hu
end
theorem amX (c:Ct)(hb:AllB c.2.2):sd 200000 c c=some true:=by
 have t:=yr hb
 have hq:kP 200000 c.2.2 c.2.2=some true:=by
  unfold kP
  refine (bnd t).trans ((bnd t).trans ?_)
  rw [decide_eq_true rfl]
 unfold sd
 have e:(bif (decide (c.1=c.1)) then some (cond true (decide (c.2.1=c.2.1)) false) else some false)=some true:=(bpos rfl).trans (by rw [decide_eq_true rfl];rfl)
 refine (bnd e).trans ((bvp rfl).trans ?_)
 exact (bnd hq).trans rfl
theorem CS (s:List UInt8):AllB (ofB s):=fun x hx=>by
 unfold ofB at hx
 obtain ⟨c,_,rfl⟩:=List.mem_map.1 hx
 have:=c.toNat_lt
 omega
theorem ae4 (a b:Int)(v:List Int)(s:List UInt8)(hv:AllB v):AllB (layK a b v s).2.2:=by
 unfold layK
 refine ((AllB.cons ?_ AllB.nil).append (hv.take _)).append (CS s)
 rw [DK]
 omega
theorem q8_of (a:Nat)(ha:a<256):(DC 8 (a:Int)).toNat=a:=by
 rw [BitVec.ofInt_natCast,BitVec.toNat_ofNat];exact Nat.mod_eq_of_lt (by omega)
theorem xor8 (a b:Nat)(ha:a<256)(hb:b<256):bits .xor .u8 (a:Int) (b:Int)=((a ^^^ b:Nat):Int):=by
 have hx:a ^^^ b<2 ^ 8:=DV (by omega) (by omega)
 show IntKind.u8.wrap ((DC 8 (a:Int) ^^^ DC 8 (b:Int)).toNat:Int)=_
 rw [BitVec.toNat_xor,q8_of a ha,q8_of b hb,DK]
 omega
theorem atG (a b:Nat)(ha:a<2 ^ 62)(hb:b<2 ^ 62):bits .xor .i64 (a:Int) (b:Int)=((a ^^^ b:Nat):Int):=by
 have hx:a ^^^ b<2 ^ 62:=DV ha hb
 show IntKind.i64.wrap ((DC 64 (a:Int) ^^^ DC 64 (b:Int)).toNat:Int)=_
 rw [BitVec.toNat_xor,oG a (by omega),oG b (by omega),ac (by omega) (by omega)]
theorem or64 (a b:Nat)(ha:a<2 ^ 62)(hb:b<2 ^ 62):bits .or .i64 (a:Int) (b:Int)=((a|||b:Nat):Int):=by
 have hx:a|||b<2 ^ 62:=Nat.or_lt_two_pow ha hb
 show IntKind.i64.wrap ((DC 64 (a:Int)|||DC 64 (b:Int)).toNat:Int)=_
 rw [BitVec.toNat_or,oG a (by omega),oG b (by omega),ac (by omega) (by omega)]
theorem xor_zero (a b:Nat):a ^^^ b=0↔a=b:=by
 constructor
 ·intro h
  have h2:a ^^^ b ^^^ b=b:=by rw [h,Nat.zero_xor]
  rw [Nat.xor_assoc,Nat.xor_self,Nat.xor_zero] at h2
  exact h2
 ·rintro rfl;exact Nat.xor_self a
theorem ahs (a b:Nat):a|||b=0↔a=0∧b=0:=by
 constructor
 ·intro h
  constructor
  ·apply DZ;intro i
   have:=congrArg (Nat.testBit · i) h
   simp at this ⊢;exact this.1
  ·apply DZ;intro i
   have:=congrArg (Nat.testBit · i) h
   simp at this ⊢;exact this.2
 ·rintro ⟨rfl,rfl⟩;rfl
def dif (a b:List Int):Nat→Nat
 | 0=>a.length ^^^ b.length
 | i+1=>dif a b i|||((a.getD i 0).toNat ^^^ (b.getD i 0).toNat)
theorem b8 {a:List Int}(h:AllB a)(i:Nat):0≤a.getD i 0∧a.getD i 0<256:=by
 rw [List.getD_eq_getElem?_getD]
 rcases Nat.lt_or_ge i a.length with hi | hi
 ·rw [List.getElem?_eq_getElem hi];exact h.get i hi
 ·rw [List.getElem?_eq_none hi];exact ⟨Int.le_refl _,by decide⟩
theorem alD {a b:List Int}(ha:AllB a)(hb:AllB b)(la:a.length<100000)(lb:b.length<100000):∀ i,dif a b i<2 ^ 62
 | 0=>DV (by omega) (by omega)
 | i+1=>by
  have h1:=b8 ha i
  have h2:=b8 hb i
  exact Nat.or_lt_two_pow (alD ha hb la lb i) (DV (by omega) (by omega))
theorem abt (a b:List Int):∀ i,dif a b i=0↔a.length=b.length∧∀ j,j<i→(a.getD j 0).toNat=(b.getD j 0).toNat
 | 0=>by
  unfold dif
  rw [xor_zero]
  exact ⟨fun h=>⟨h,fun j hj=>by omega⟩,fun h=>h.1⟩
 | i+1=>by
  unfold dif
  rw [ahs,abt a b i,xor_zero]
  constructor
  ·rintro ⟨⟨h1,h2⟩,h3⟩
   refine ⟨h1,fun j hj=> ?_⟩
   rcases Nat.lt_or_ge j i with h | h
   ·exact h2 j h
   ·have:j=i:=by omega
    subst this;exact h3
  ·rintro ⟨h1,h2⟩
   exact ⟨⟨h1,fun j hj=>h2 j (by omega)⟩,h2 i (by omega)⟩
theorem ami (a b:List Int)(ha:AllB a)(hb:AllB b)(la:a.length<100000)(lb:b.length<100000){N:Nat}(hN:200000≤N):kr N a b=some (decide (a=b)):=by
 obtain ⟨m,hm⟩:∃ m,m=min a.length b.length:=⟨_,rfl⟩
 have hmi:minI (a.length:Int) (b.length:Int)=(m:Int):=by unfold minI;split <;> omega
 have hloop:qE N ((a,(b,(((dif a b 0:Nat):Int),((m:Int),((0:Int),()))))),())=some ((((dif a b m:Nat):Int),()),()):=by
  refine cu (G:=fun X c=>gm N X c.1.1 c.1.2.1 c.1.2.2.1 c.1.2.2.2.1 c.1.2.2.2.2.1) (fun i=>((a,(b,(((dif a b i:Nat):Int),((m:Int),(((i:Nat):Int),()))))),())) m _ (fun X i hi=> ?_) (fun X=> ?_) N 0 (D0 _) (by omega)
  ·have c1:((i:Int)<(m:Int)):=by omega
   have hia:i<a.length:=by omega
   have hib:i<b.length:=by omega
   have h1:=b8 ha i
   have h2:=b8 hb i
   have e1:a[i]=((a.getD i 0).toNat:Int):=by
    rw [Int.toNat_of_nonneg h1.1,List.getD_eq_getElem?_getD,List.getElem?_eq_getElem hia];rfl
   have e2:b[i]=((b.getD i 0).toNat:Int):=by
    rw [Int.toNat_of_nonneg h2.1,List.getD_eq_getElem?_getD,List.getElem?_eq_getElem hib];rfl
   have hx:(a.getD i 0).toNat ^^^ (b.getD i 0).toNat<2 ^ 8:=DV (by omega) (by omega)
   have e3:ne .i64 ((i:Int)+1)=((i+1:Nat):Int):=by rw [ac (by omega) (by omega)];omega
   simp only [gm,c1,decide_true,cond_true,aS a i hia,aS b i hib,gt,e3]
   rw [e1,e2,xor8 _ _ (by omega) (by omega),ac (by omega) (by omega),or64 _ _ (alD ha hb la lb i) (by omega)]
   rfl
  ·have c1:¬ ((m:Int)<(m:Int)):=by omega
   simp only [gm,c1,decide_false,cond_false]
 have hx:bits .xor .i64 (a.length:Int) (b.length:Int)=((dif a b 0:Nat):Int):=atG _ _ (by omega) (by omega)
 unfold kr
 rw [hx,hmi]
 refine (congrArg (fun o=>Dm o _) hloop).trans ?_
 simp only [gt,Option.some.injEq]
 have key:((dif a b m:Nat):Int)=0↔a=b:=by
  rw [show (((dif a b m:Nat):Int)=0↔dif a b m=0) from by omega,abt]
  constructor
  ·rintro ⟨h1,h2⟩
   apply List.ext_getElem h1
   intro j hj1 hj2
   have h3:=h2 j (by omega)
   have q1:=b8 ha j
   have q2:=b8 hb j
   rw [List.getD_eq_getElem?_getD,List.getElem?_eq_getElem hj1,Option.getD_some] at h3 q1
   rw [List.getD_eq_getElem?_getD,List.getElem?_eq_getElem hj2,Option.getD_some] at h3 q2
   omega
  ·rintro rfl;exact ⟨rfl,fun _ _=>rfl⟩
 exact decide_eq_decide.2 key
theorem wy (n:Nat)(x:Int)(h:0≤x∧x<256):AllB (C5 n x):=fun y hy=>by rw [(List.mem_replicate.1 hy).2];exact h
def valB (p r:List Int):List Int:=p++C5 8 0++r++[0]
theorem aaL (p:Arr Int 16)(r:Arr Int 24):iy 200000 p r=some (valB p.l r.l):=by
 have hp:=p.h
 have hr:=r.h
 have:fw 200000 [p.l,C5 (Db 8) 0,r.l,[0]]=some ([p.l,C5 (Db 8) 0,r.l,[0]]:List (List Int)).flatten:=vD (N:=200000) _ (by simp) (fun q hq=>by
  simp only [Dz,Dw,or_false] at hq
  rcases hq with rfl | rfl | rfl | rfl
  ·omega
  ·simp
  ·omega
  ·simp) (by omega)
 unfold iy
 rw [this]
 simp [valB]
def z16:Arr Int 16:=⟨C5 16 0,rfl⟩
def z24:Arr Int 24:=⟨C5 24 0,rfl⟩
def gF (v:List Int)(h:v.length=49):Arr Int 16:=⟨v.take 16,by rw [Dc];omega⟩
def jv (v:List Int)(h:v.length=49):Arr Int 24:=⟨(v.drop 24).take 24,by rw [Dc,Da];omega⟩
def ud (v:List Int):Prop:=(v.drop 16).take 8=C5 8 0∧v.drop 48=[0]
instance (v:List Int):Decidable (ud v):=by unfold ud;infer_instance
theorem aed (v:List Int)(h:v.length=49):v=v.take 16++(v.drop 16).take 8++(v.drop 24).take 24++v.drop 48:=by
 have e1:(v.drop 16).take 8++v.drop 24=v.drop 16:=by
  have:=DO 8 (v.drop 16)
  rw [DI] at this;exact this
 have e2:(v.drop 24).take 24++v.drop 48=v.drop 24:=by
  have:=DO 24 (v.drop 24)
  rw [DI] at this;exact this
 rw [Df,Df,e2,e1,DO]
theorem uz (v:List Int)(h:v.length=49):valB (gF v h).l (jv v h).l=v↔ud v:=by
 show v.take 16++C5 8 0++(v.drop 24).take 24++[0]=v↔_
 constructor
 ·intro e
  have h1:=aed v h
  have l1:((v.drop 16).take 8).length=8:=by rw [Dc,Da];omega
  have l2:(v.drop 48).length=1:=by rw [Da];omega
  have e2:v.take 16++C5 8 0++(v.drop 24).take 24++[0]=v.take 16++(v.drop 16).take 8++(v.drop 24).take 24++v.drop 48:=by rw [e];exact h1
  have k1:=List.append_inj' e2 (by rw [l2];rfl)
  have k2:=List.append_inj' k1.1 rfl
  have k3:=List.append_inj' k2.1 (by rw [l1];simp)
  exact ⟨k3.2.symm,k1.2.symm⟩
 ·rintro ⟨h1,h2⟩
  have:=aed v h
  rw [h1,h2] at this
  exact this.symm
theorem aa5 (v:List Int)(hb:AllB v)(hl:v.length≤1000):iz 200000 v=some (if h:v.length=49 then (if ud v then (gF v h,jv v h,0) else (z16,z24,3)) else (z16,z24,1)):=by
 unfold iz
 by_cases h:v.length=49
 ·have c1:((v.length:Int)=49):=by omega
  have t1:cR v (16:Int)=some (v.take 16):=eg v (i:=16) rfl (by omega)
  have t2:eW 16 (v.take 16)=some (gF v h):=xt 16 _ (gF v h).h
  have t3:subI v (24:Int) 48=some ((v.drop 24).take 24):=iE v (i:=24) (j:=48) rfl rfl (by omega) (by omega)
  have t4:eW 24 ((v.drop 24).take 24)=some (jv v h):=xt 24 _ (jv v h).h
  have hvl:(valB (gF v h).l (jv v h).l).length=49:=by
   have a1:=(gF v h).h
   have a2:=(jv v h).h
   simp only [valB,C6,DH,C8,Dh];omega
  have hvB:AllB (valB (gF v h).l (jv v h).l):=(((hb.take 16).append (wy 8 0 (by omega))).append ((hb.drop 24).take 24)).append (AllB.cons (by omega) AllB.nil)
  have hs:kr 200000 (valB (gF v h).l (jv v h).l) v=some (decide (valB (gF v h).l (jv v h).l=v)):=ami _ _ hvB hb (by omega) (by omega) (by omega)
  rw [dif_pos h,decide_eq_true c1,t1,gt,t2,gt,t3,gt,t4,gt,aaL,gt,hs,gt]
  by_cases hf:ud v
  ·rw [if_pos hf,decide_eq_true ((uz v h).2 hf)];rfl
  ·rw [if_neg hf,decide_eq_false (fun e=>hf ((uz v h).1 e))];rfl
 ·have c1:¬ ((v.length:Int)=49):=by omega
  rw [dif_neg h,decide_eq_false c1];rfl
theorem je {n:Nat}(h:n≤100000):ae n 1=true:=aev h (by omega)
theorem aeq (p:Arr Int 16)(r:Arr Int 24):jX 200000 p r=some (valB p.l r.l):=by
 have hp:=p.h
 have hr:=r.h
 unfold jX
 rw [je (by omega),je (by omega),je (by simp only [C6,DH];omega),je (by simp only [C6,DH,C8,Dh];omega)]
 rfl
section
variable {N:Nat}
theorem aaK (v:List Int)(hv:v.length=49)(h0:Arr Int 16)(h1:Arr Int 24)(h2:Arr Int 16)(h3:Arr Int 24):∀ (k M i:Nat),k+i=24→k<M→
  gl (fun X c=>eo N X c.1.1 c.1.2.1 c.2.1 c.2.2.1 c.2.2.2.1 c.2.2.2.2.1) M ((v,((i:Int),())),(h0,(h1,(h2,(h3,())))))=some (if (v.drop i).take k=C5 k 0 then .inr ((v,()),(h0,(h1,(h2,(h3,()))))) else .inl ((3,()),(h2,(h3,()))))
 | 0,M+1,i,hk,hM=>by
  have c1:¬ ((i:Int)<24):=by omega
  rw [ah]
  simp only [eo,c1,decide_false,cond_false,List.take_zero,List.replicate_zero,if_true]
 | k+1,M+1,i,hk,hM=>by
  have c1:((i:Int)<24):=by omega
  have hi:i<v.length:=by omega
  have e0:ne .i64 ((i:Int)+1)=((i+1:Nat):Int):=by rw [ac (by omega) (by omega)];omega
  have ih:=aaK v hv h0 h1 h2 h3 k M (i+1) (by omega) (by omega)
  have hd:(v.drop i).take (k+1)=v[i]::(v.drop (i+1)).take k:=by rw [C7 hi,List.take_succ_cons]
  rw [ah]
  simp only [eo,c1,decide_true,cond_true,aS v i hi,gt,e0]
  rw [hd,List.replicate_succ]
  by_cases hz:v[i]=0
  ·simp only [hz,decide_true,DA,cond_false]
   refine Eq.trans ih ?_
   simp
  ·simp [hz]
theorem alB (v:List Int)(hv:v.length=49)(h0:Arr Int 16)(h1:Arr Int 24)(h3:Arr Int 24):∀ (k M i:Nat) (o:Arr Int 16),k+i=16→k<M→
  ∃ K:Arr Int 16,K.l=o.l.take i++(v.take 16).drop i∧gl (fun X c=>dw N X c.1.1 c.1.2.1 c.2.1 c.2.2.1 c.2.2.2.1 c.2.2.2.2.1) M ((v,((i:Int),())),(h0,(h1,(o,(h3,())))))=some ((v,()),(h0,(h1,(K,(h3,())))))
 | 0,M+1,i,o,hk,hM=>by
  have c1:¬ ((i:Int)<16):=by omega
  have hol:=o.h
  have d1:(v.take 16).drop i=[]:=Dd (by rw [Dc];omega)
  refine ⟨o, ?_, ?_⟩
  ·rw [Dk (by omega),d1,Di]
  ·rw [ah]
   simp only [dw,c1,decide_false,cond_false]
 | k+1,M+1,i,o,hk,hM=>by
  have hol:=o.h
  have c1:((i:Int)<16):=by omega
  have hi:i<v.length:=by omega
  have e0:ne .i64 ((i:Int)+1)=((i+1:Nat):Int):=by rw [ac (by omega) (by omega)];omega
  have c3:(0:Int)≤(i:Int)∧(i:Int)<((16:Nat):Int):=by omega
  have e1:Db (i:Int)=i:=C9 i
  have g2:o.l[i]? =some (o.l[i]'(by omega)):=List.getElem?_eq_getElem _
  obtain ⟨K,k1,k2⟩:=alB v hv h0 h1 h3 k M (i+1) (o.set i v[i]) (by omega) (by omega)
  refine ⟨K, ?_, ?_⟩
  ·rw [k1]
   have q1:(o.set i v[i]).l.take (i+1)=o.l.take i++[v[i]]:=by
    show (o.l.set i _).take (i+1)=_
    rw [Do,Dv (Dq _),List.getElem?_set_self (by omega)]
    rfl
   rw [q1,Df]
   congr 1
   have hlt:i<(v.take 16).length:=by rw [Dc];omega
   rw [C7 hlt,List.getElem_take]
   rfl
  ·rw [ah]
   simp only [dw,c1,decide_true,cond_true,aS v i hi,gt,c3,and_self,e1,g2,e0]
   exact k2
theorem alA (v:List Int)(hv:v.length=49)(h0:Arr Int 16)(h1:Arr Int 24)(h2:Arr Int 16):∀ (k M i:Nat) (o:Arr Int 24),k+i=24→k<M→
  ∃ K:Arr Int 24,K.l=o.l.take i++((v.drop 24).take 24).drop i∧gl (fun X c=>du N X c.1.1 c.1.2.1 c.2.1 c.2.2.1 c.2.2.2.1 c.2.2.2.2.1) M ((v,((i:Int),())),(h0,(h1,(h2,(o,())))))=some ((),(h0,(h1,(h2,(K,())))))
 | 0,M+1,i,o,hk,hM=>by
  have c1:¬ ((i:Int)<24):=by omega
  have hol:=o.h
  have d1:((v.drop 24).take 24).drop i=[]:=Dd (by rw [Dc];omega)
  refine ⟨o, ?_, ?_⟩
  ·rw [Dk (by omega),d1,Di]
  ·rw [ah]
   simp only [du,c1,decide_false,cond_false]
 | k+1,M+1,i,o,hk,hM=>by
  have hol:=o.h
  have c1:((i:Int)<24):=by omega
  have hi:24+i<v.length:=by omega
  have e0:ne .i64 ((i:Int)+1)=((i+1:Nat):Int):=by rw [ac (by omega) (by omega)];omega
  have e2:ne .i64 ((24:Int)+(i:Int))=((24+i:Nat):Int):=by rw [ac (by omega) (by omega)];omega
  have c3:(0:Int)≤(i:Int)∧(i:Int)<((24:Nat):Int):=by omega
  have e1:Db (i:Int)=i:=C9 i
  have g2:o.l[i]? =some (o.l[i]'(by omega)):=List.getElem?_eq_getElem _
  obtain ⟨K,k1,k2⟩:=alA v hv h0 h1 h2 k M (i+1) (o.set i (v[24+i]'hi)) (by omega) (by omega)
  refine ⟨K, ?_, ?_⟩
  ·rw [k1]
   have q1:(o.set i (v[24+i]'hi)).l.take (i+1)=o.l.take i++[v[24+i]'hi]:=by
    show (o.l.set i _).take (i+1)=_
    rw [Do,Dv (Dq _),List.getElem?_set_self (by omega)]
    rfl
   rw [q1,Df]
   congr 1
   have hlt:i<((v.drop 24).take 24).length:=by rw [Dc,Da];omega
   rw [C7 hlt,List.getElem_take,List.getElem_drop]
   rfl
  ·rw [ah]
   simp only [du,c1,decide_true,cond_true,e2,aS v (24+i) hi,gt,c3,and_self,e1,g2,e0]
   exact k2
end
theorem aeu (v:List Int):j0 200000 v=some (if h:v.length=49 then (if ud v then (gF v h,jv v h,0) else (z16,z24,3)) else (z16,z24,1)):=by
 unfold j0
 by_cases h:v.length=49
 ·have c1:((v.length:Int)=49):=by omega
  have hz:oA 200000 ((v,((16:Int),())),(z16,(z24,(z16,(z24,())))))=some (if (v.drop 16).take 8=C5 8 0 then .inr ((v,()),(z16,(z24,(z16,(z24,()))))) else .inl ((3,()),(z16,(z24,())))):=aaK (N:=200000) v h z16 z24 z16 z24 8 200000 16 (by omega) (by omega)
  obtain ⟨K,a1,a2⟩:=alB (N:=200000) v h z16 z24 z24 16 200000 0 z16 (by omega) (by omega)
  have hK:K=gF v h:=Arr.eq (by rw [a1];rfl)
  subst hK
  obtain ⟨J,b1,b2⟩:=alA (N:=200000) v h z16 z24 (gF v h) 24 200000 0 z24 (by omega) (by omega)
  have hJ:J=jv v h:=Arr.eq (by rw [b1];rfl)
  subst hJ
  have a2':mu 200000 ((v,((0:Int),())),(z16,(z24,(z16,(z24,())))))=some ((v,()),(z16,(z24,(gF v h,(z24,()))))):=a2
  have b2':mt 200000 ((v,((0:Int),())),(z16,(z24,(gF v h,(z24,())))))=some ((),(z16,(z24,(gF v h,(jv v h,()))))):=b2
  have hd:v.drop 48=[v[48]'(by omega)]:=by
   rw [C7 (by omega)]
   congr 1
   exact Dd (by omega)
  have g48:getI v (48:Int)=some (v[48]'(by omega)):=aS v 48 (by omega)
  rw [dif_pos h,decide_eq_true c1]
  simp only [DA,cond_false]
  refine (congrArg (fun o=>Dm o _) hz).trans ?_
  rw [gt]
  by_cases hq:(v.drop 16).take 8=C5 8 0
  ·rw [if_pos hq]
   simp only [Sum.elim_inr,g48,gt]
   by_cases h0:v[48]'(by omega)=0
   ·have hf:ud v:=⟨hq,by rw [hd,h0]⟩
    rw [if_pos hf,h0]
    simp only [decide_true,DA,cond_false]
    refine (congrArg (fun o=>Dm o _) a2').trans ?_
    rw [gt]
    refine (congrArg (fun o=>Dm o _) b2').trans ?_
    rfl
   ·have hf:¬ ud v:=fun hh=>h0 (by have:=hh.2;rw [hd] at this;injection this)
    rw [if_neg hf,decide_eq_false h0];rfl
  ·have hf:¬ ud v:=fun hh=>hq hh.1
   rw [if_neg hq,if_neg hf];rfl
 ·have c1:¬ ((v.length:Int)=49):=by omega
  rw [dif_neg h,decide_eq_false c1];rfl
theorem amd (v:List Int)(hb:AllB v):AllB (if h:v.length=49 then (if ud v then (gF v h,jv v h,(0:Int)) else (z16,z24,3)) else (z16,z24,1)).1.l∧AllB (if h:v.length=49 then (if ud v then (gF v h,jv v h,(0:Int)) else (z16,z24,3)) else (z16,z24,1)).2.1.l:=by
 have z:AllB z16.l∧AllB z24.l:=⟨wy 16 0 (by omega),wy 24 0 (by omega)⟩
 split
 ·split
  ·exact ⟨hb.take 16,(hb.drop 24).take 24⟩
  ·exact z
 ·exact z
def sUp:List UInt8:=[79,110,32,116,104,101,32,99,108,105,101,110,116,32,115,105,100,101,44,32,116,104,105,115,32,105,115,32,116,104,101,32,115,101,110,100,32,107,101,121,59,32,111,110,32,116,104,101,32,115,101,114,118,101,114,32,115,105,100,101,44,32,105,116,32,105,115,32,116,104,101,32,114,101,99,101,105,118,101,32,107,101,121,46]
def al0:List UInt8:=[79,110,32,116,104,101,32,99,108,105,101,110,116,32,115,105,100,101,44,32,116,104,105,115,32,105,115,32,116,104,101,32,114,101,99,101,105,118,101,32,107,101,121,59,32,111,110,32,116,104,101,32,115,101,114,118,101,114,32,115,105,100,101,44,32,105,116,32,105,115,32,116,104,101,32,115,101,110,100,32,107,101,121,46]
def aep:List UInt8:=[84,104,105,115,32,105,115,32,116,104,101,32,77,80,80,69,32,77,97,115,116,101,114,32,75,101,121]
def wR (D:Arr Int 20):Arr Int 16:=⟨D.l.take 16,by rw [Dc,D.h];rfl⟩
theorem aeL {D:Arr Int 20}(h:AllB D.l):AllB (wR D).l:=h.take 16
theorem aa3 (D:Arr Int 20):cR D.l 16=some (wR D).l∧eW 16 (wR D).l=some (wR D):=
 ⟨eg D.l (i:=16) rfl (by rw [D.h];decide),xt 16 _ (wR D).h⟩
section
variable {N:Nat}
theorem abo (D:Arr Int 20)(h0:Arr Int 16):∀ (k M i:Nat) (o:Arr Int 16),k+i=16→k<M→
  ∃ K:Arr Int 16,K.l=o.l.take i++(D.l.take 16).drop i∧gl (fun X c=>em N X c.1.1 c.2.1 c.2.2.1 c.2.2.2.1) M (((i:Int),()),(h0,(D,(o,()))))=some ((),(h0,(K,())))
 | 0,M+1,i,o,hk,hM=>by
  have c1:¬ ((i:Int)<16):=by omega
  have hol:=o.h
  refine ⟨o, ?_, ?_⟩
  ·rw [Dk (by omega),Dd (by rw [Dc];omega),Di]
  ·rw [ah]
   simp only [em,c1,decide_false,cond_false]
 | k+1,M+1,i,o,hk,hM=>by
  have hol:=o.h
  have hDl:=D.h
  have c1:((i:Int)<16):=by omega
  have e0:ne .i64 ((i:Int)+1)=((i+1:Nat):Int):=by rw [ac (by omega) (by omega)];omega
  have c2:(0:Int)≤(i:Int)∧(i:Int)<((20:Nat):Int):=by omega
  have c3:(0:Int)≤(i:Int)∧(i:Int)<((16:Nat):Int):=by omega
  have e1:Db (i:Int)=i:=C9 i
  have g1:D.l[i]? =some (D.l[i]'(by omega)):=List.getElem?_eq_getElem _
  have g2:o.l[i]? =some (o.l[i]'(by omega)):=List.getElem?_eq_getElem _
  obtain ⟨K,h1,h2⟩:=abo D h0 k M (i+1) (o.set i (D.l[i]'(by omega))) (by omega) (by omega)
  refine ⟨K, ?_, ?_⟩
  ·rw [h1]
   have q1:(o.set i (D.l[i]'(by omega))).l.take (i+1)=o.l.take i++[D.l[i]'(by omega)]:=by
    show (o.l.set i _).take (i+1)=_
    rw [Do,Dv (Dq _),List.getElem?_set_self (by omega)]
    rfl
   rw [q1,Df]
   congr 1
   have hlt:i<(D.l.take 16).length:=by rw [Dc];omega
   rw [C7 hlt,List.getElem_take]
   rfl
  ·rw [ah]
   simp only [em,c1,decide_true,cond_true,c2,and_self,e1,g1,gt,c3,g2,e0]
   exact h2
theorem AK (b:List Int)(D:Arr Int 20)(h:fA 200000 b=some D):dS 200000 b=some (wR D):=by
 obtain ⟨K,h1,h2⟩:=abo (N:=200000) D ⟨C5 16 0,rfl⟩ 16 200000 0 ⟨C5 16 0,rfl⟩ (by omega) (by omega)
 have hK:K=wR D:=Arr.eq (by rw [h1];rfl)
 subst hK
 have h2':oz 200000 (((0:Int),()),((⟨C5 16 0,rfl⟩:Arr Int 16),(D,((⟨C5 16 0,rfl⟩:Arr Int 16),()))))=some ((),((⟨C5 16 0,rfl⟩:Arr Int 16),(wR D,()))):=h2
 unfold dS
 rw [h,gt]
 refine (congrArg (fun o=>Dm o _) h2').trans ?_
 rfl
theorem adk (h:Arr Int 16)(r:Arr Int 24):iv N h r=(dM N h).bind fun t=>(gz N [t.l,r.l,ofB aep]).bind fun d=>(cR d.l 16).bind fun x=>(eW 16 x).bind fun y=>some y:=by kernel_rfl
theorem Cs (h:Arr Int 16)(r:Arr Int 24):fS N h r=(eR N h).bind fun t=>bif ae t.l.length 1 then (bif ae (t.l.length+r.l.length) 1 then (bif ae ((t.l++r.l).length+aep.length) 1 then (dS N ((t.l++r.l)++ofB aep)).bind fun y=>some y else none) else none) else none:=by kernel_rfl
theorem aeX (h:Arr Int 16)(r:Arr Int 24)(hb:AllB h.l)(rb:AllB r.l):∃ M:Arr Int 16,AllB M.l∧iv 200000 h r=some M∧fS 200000 h r=some M:=by
 obtain ⟨t,t2,t3,t1⟩:=xr h hb
 have tl:=t.h
 have rl:=r.h
 have sl:aep.length=27:=rfl
 obtain ⟨D,d1,d2,d3⟩:=mf [t.l,r.l,ofB aep] (by simp) (fun p hp=>by
  simp only [Dz,Dw,or_false] at hp
  rcases hp with rfl | rfl | rfl
  ·exact t1
  ·exact rb
  ·exact adb _) (by simp only [Dt,Dx,C6,ct,Dh];omega)
 simp only [Dt,Dx,Di] at d3
 rw [←Df] at d3
 obtain ⟨p1,p2⟩:=aa3 D
 refine ⟨wR D,aeL d1, ?_, ?_⟩
 ·rw [adk,t2,gt,d2,gt,p1,gt,p2,gt]
 ·rw [Cs,t3,gt,je (by omega),je (by omega),je (by rw [C6];omega)]
  simp only [cond_true,AK _ D d3,gt]
theorem amA (m:Arr Int 16)(s:List UInt8):ld N m s=bif ae s.length 1 then (gz N [m.l,C5 40 0,ofB s,C5 40 242]).bind fun d=>(cR d.l 16).bind fun x=>(eW 16 x).bind fun y=>some y else none:=by kernel_rfl
noncomputable def keyR (N:Nat)(m:Arr Int 16)(s:List UInt8):Option (Arr Int 16):=
 bif ae m.l.length 1 then (bif ae (m.l.length+40) 1 then (bif ae ((m.l++C5 40 0).length+s.length) 1 then
  Dm (fu N (((0:Int),()),((⟨C5 16 0,rfl⟩:Arr Int 16),(((m.l++C5 40 0)++ofB s),())))) fun v=>(dS N v.2.2.1).bind fun y=>some y
  else none) else none) else none
theorem ahe (m:Arr Int 16)(a:Bool):jV N m a=bif a then keyR N m sUp else keyR N m al0:=by kernel_rfl
theorem arE (h0:Arr Int 16)(b:List Int)(hb:b.length≤1000):fu 200000 (((0:Int),()),(h0,(b,())))=some ((),(h0,(b++C5 40 242,()))):=by
 have:=cu (G:=fun X c=>fT 200000 X c.1.1 c.2.1 c.2.2.1) (fun i=>(((i:Int),()),(h0,(b++C5 i 242,())))) 40 ((),(h0,(b++C5 40 242,()))) (fun X i hi=>by
  have c1:((i:Int)<40):=by omega
  have e0:ne .i64 ((i:Int)+1)=((i+1:Nat):Int):=by rw [ac (by omega) (by omega)];omega
  have r1:ae ((b++C5 i 242).length+([242]:List Int).length) 1=true:=je (by simp only [C6,DH,C8,Dh];omega)
  have e2:b++C5 i 242++[242]=b++C5 (i+1) 242:=by rw [Df,List.replicate_succ']
  simp only [fT,c1,decide_true,cond_true,r1,e0,e2]) (fun X=>by
  have c1:¬ (((40:Nat):Int)<40):=by omega
  simp only [fT,c1,decide_false,cond_false]) 200000 0 (by omega) (by omega)
 simpa [fu] using this
theorem alt (m:Arr Int 16)(s:List UInt8)(hm:AllB m.l)(hs:s.length≤200):∃ K:Arr Int 16,AllB K.l∧ld 200000 m s=some K∧keyR 200000 m s=some K:=by
 have ml:=m.h
 obtain ⟨D,d1,d2,d3⟩:=mf [m.l,C5 40 0,ofB s,C5 40 242] (by simp) (fun p hp=>by
  simp only [Dz,Dw,or_false] at hp
  rcases hp with rfl | rfl | rfl | rfl
  ·exact hm
  ·exact wy _ _ (by omega)
  ·exact adb _
  ·exact wy _ _ (by omega)) (by simp only [Dt,Dx,C6,ct,Dh,DH];omega)
 simp only [Dt,Dx,Di] at d3
 have hfl:m.l++(C5 40 0++(ofB s++C5 40 242))=m.l++C5 40 0++ofB s++C5 40 242:=by simp only [Df]
 rw [hfl] at d3
 obtain ⟨p1,p2⟩:=aa3 D
 refine ⟨wR D,aeL d1, ?_, ?_⟩
 ·rw [amA,je (by omega),cond_true,d2,gt,p1,gt,p2,gt]
 ·unfold keyR
  rw [je (by omega),je (by omega),je (by simp only [C6,DH];omega),arE _ _ (by simp only [C6,DH,ct];omega)]
  simp only [cond_true,gt,AK _ D d3]
theorem arG (m:Arr Int 16)(b:Bool):sQ N m b=(ld N m sUp).bind fun u=>(ld N m al0).bind fun d=>bif b then some (d,u) else some (u,d):=by kernel_rfl
theorem amz (m:Arr Int 16)(hm:AllB m.l):∃ U V:Arr Int 16,AllB U.l∧AllB V.l∧(∀ b,sQ 200000 m b=some (bif b then (V,U) else (U,V)))∧∀ a,jV 200000 m a=some (bif a then U else V):=by
 obtain ⟨U,u1,u2,u3⟩:=alt m sUp hm (by decide)
 obtain ⟨V,v1,v2,v3⟩:=alt m al0 hm (by decide)
 refine ⟨U,V,u1,v1,fun b=> ?_,fun a=> ?_⟩
 ·rw [arG,u2,gt,v2,gt];cases b <;> rfl
 ·rw [ahe,u3,v3];cases a <;> rfl
def xn (x y:Arr Int 16):Arr Int 32:=⟨x.l++y.l,by rw [C6,x.h,y.h]⟩
theorem alu (x y:Arr Int 16):fw 200000 [x.l,y.l]=some (x.l++y.l):=by
 have hx:=x.h
 have hy:=y.h
 have:fw 200000 [x.l,y.l]=some ([x.l,y.l]:List (List Int)).flatten:=vD (N:=200000) [x.l,y.l] (by simp) (fun p hp=>by
  simp only [Dz,Dw,or_false] at hp
  rcases hp with rfl | rfl <;> omega) (by omega)
 rw [this]
 simp
theorem ag4 (k:Arr Int 16×Arr Int 16)(b:Bool):mO 200000 k b=some (bif b then xn k.2 k.1 else xn k.1 k.2):=by
 have h1:=fun x y:Arr Int 16=>xt 32 (x.l++y.l) (xn x y).h
 unfold mO
 cases b
 ·rw [cond_false,alu,gt,h1,gt];rfl
 ·rw [cond_true,alu,gt,h1,gt];rfl
theorem afo (A B:Arr Int 16)(h0:Arr Int 32):∀ (k M i:Nat) (o:Arr Int 32),k+i=16→k<M→
  ∃ K:Arr Int 32,K.l=o.l.take i++A.l.drop i++(o.l.drop 16).take i++B.l.drop i∧gl (fun X c=>eX N X c.1.1 c.2.1 c.2.2.1 c.2.2.2.1 c.2.2.2.2.1) M (((i:Int),()),(h0,(A,(B,(o,())))))=some ((),(h0,(K,())))
 | 0,M+1,i,o,hk,hM=>by
  have c1:¬ ((i:Int)<16):=by omega
  have hol:=o.h
  have hA:=A.h
  have hB:=B.h
  obtain rfl:i=16:=by omega
  refine ⟨o, ?_, ?_⟩
  ·have d1:A.l.drop 16=[]:=Dd (by omega)
   have d2:B.l.drop 16=[]:=Dd (by omega)
   have d3:(o.l.drop 16).take 16=o.l.drop 16:=Dk (by rw [Da];omega)
   rw [d1,d2,d3,Di,Di,DO]
  ·rw [ah]
   simp only [eX,c1,decide_false,cond_false]
 | k+1,M+1,i,o,hk,hM=>by
  have hol:=o.h
  have hA:=A.h
  have hB:=B.h
  have c1:((i:Int)<16):=by omega
  have e0:ne .i64 ((i:Int)+1)=((i+1:Nat):Int):=by rw [ac (by omega) (by omega)];omega
  have e2:ne .i64 ((16:Int)+(i:Int))=((16+i:Nat):Int):=by rw [ac (by omega) (by omega)];omega
  have c2:(0:Int)≤(i:Int)∧(i:Int)<((16:Nat):Int):=by omega
  have c3:(0:Int)≤(i:Int)∧(i:Int)<((32:Nat):Int):=by omega
  have c4:(0:Int)≤((16+i:Nat):Int)∧((16+i:Nat):Int)<((32:Nat):Int):=by omega
  have e1:Db (i:Int)=i:=C9 i
  have e3:Db ((16+i:Nat):Int)=16+i:=C9 _
  have g1:A.l[i]? =some (A.l[i]'(by omega)):=List.getElem?_eq_getElem _
  have g2:B.l[i]? =some (B.l[i]'(by omega)):=List.getElem?_eq_getElem _
  have g3:o.l[i]? =some (o.l[i]'(by omega)):=List.getElem?_eq_getElem _
  have g4:(o.set i (A.l[i]'(by omega))).l[16+i]? =some ((o.set i (A.l[i]'(by omega))).l[16+i]'(by rw [(o.set i (A.l[i]'(by omega))).h];omega)):=List.getElem?_eq_getElem _
  obtain ⟨K,h1,h2⟩:=afo A B h0 k M (i+1) ((o.set i (A.l[i]'(by omega))).set (16+i) (B.l[i]'(by omega))) (by omega) (by omega)
  refine ⟨K, ?_, ?_⟩
  ·rw [h1]
   show ((o.l.set i (A.l[i]'(by omega))).set (16+i) (B.l[i]'(by omega))).take (i+1)++A.l.drop (i+1)++(((o.l.set i (A.l[i]'(by omega))).set (16+i) (B.l[i]'(by omega))).drop 16).take (i+1)++B.l.drop (i+1)=_
   have q1:((o.l.set i (A.l[i]'(by omega))).set (16+i) (B.l[i]'(by omega))).take (i+1)=o.l.take i++[A.l[i]'(by omega)]:=by
    rw [Dv (by omega),Do,Dv (Dq _),List.getElem?_set_self (by omega)]
    rfl
   have q2:(((o.l.set i (A.l[i]'(by omega))).set (16+i) (B.l[i]'(by omega))).drop 16).take (i+1)=(o.l.drop 16).take i++[B.l[i]'(by omega)]:=by
    rw [List.drop_set,if_neg (by omega),Nat.add_sub_cancel_left,List.drop_set,if_pos (by omega),Do,Dv (Dq _),List.getElem?_set_self (by rw [Da];omega)]
    rfl
   rw [q1,q2,C7 (l:=A.l) (i:=i) (by omega),C7 (l:=B.l) (i:=i) (by omega)]
   simp only [Df,List.cons_append,DP]
  ·rw [ah]
   simp only [eX,c1,decide_true,cond_true,c2,and_self,e1,g1,gt,g2,c3,e2,c4,g3,e3,g4,e0]
   exact h2
theorem ahf (h:Arr Int 16)(r:Arr Int 24)(M U V:Arr Int 16)(hM:fS 200000 h r=some M)(hK:∀ a,jV 200000 M a=some (bif a then U else V)):jF 200000 h r=some (xn U V):=by
 obtain ⟨K,h1,h2⟩:=afo (N:=200000) U V ⟨C5 32 0,rfl⟩ 16 200000 0 ⟨C5 32 0,rfl⟩ (by omega) (by omega)
 have hKe:K=xn U V:=Arr.eq (by rw [h1];simp [xn])
 subst hKe
 have h2':oY 200000 (((0:Int),()),((⟨C5 32 0,rfl⟩:Arr Int 32),(U,(V,((⟨C5 32 0,rfl⟩:Arr Int 32),())))))=some ((),((⟨C5 32 0,rfl⟩:Arr Int 32),(xn U V,()))):=h2
 unfold jF
 rw [hM,gt,hK true,gt,hK false,gt,cond_true,cond_false]
 refine (congrArg (fun o=>Dm o _) h2').trans ?_
 rfl
theorem amL (h:Arr Int 16)(r:Arr Int 24)(M U V:Arr Int 16)(hM:iv 200000 h r=some M)(hK:∀ b,sQ 200000 M b=some (bif b then (V,U) else (U,V)))(b:Bool):iN 200000 h r b=some (xn U V):=by
 unfold iN
 rw [hM,gt,hK b,gt,ag4,gt]
 cases b <;> rfl
end
theorem anf {x y:Arr Int 16}(hx:AllB x.l)(hy:AllB y.l):AllB (xn x y).l:=hx.append hy
theorem ahR (h:Arr Int 16)(r:Arr Int 24)(hb:AllB h.l)(rb:AllB r.l):∃ K:Arr Int 32,AllB K.l∧(∀ b,iN 200000 h r b=some K)∧jF 200000 h r=some K:=by
 obtain ⟨M,m1,m2,m3⟩:=aeX h r hb rb
 obtain ⟨U,V,u1,v1,hk,hr⟩:=amz M m1
 exact ⟨xn U V,anf u1 v1,fun b=>amL h r M U V m2 hk b,ahf h r M U V m3 hr⟩
theorem nk {n:Nat}(h:n<10):Dy n=[UInt8.ofNat (48+n)]:=by rw [Dy,dif_pos h]
theorem zP {n:Nat}(h:¬ n<10):Dy n=Dy (n / 10)++[UInt8.ofNat (48+n % 10)]:=by rw [Dy,dif_neg h]
theorem vT {n:Nat}(h:n≤9999):(Dy n).length≤4:=by
 by_cases h1:n<10
 ·rw [nk h1];simp
 ·rw [zP h1]
  by_cases h2:n / 10<10
  ·rw [nk h2];simp
  ·rw [zP h2]
   by_cases h3:n / 10 / 10<10
   ·rw [nk h3];simp
   ·rw [zP h3,nk (by omega:n / 10 / 10 / 10<10)];simp
theorem ahL (n:Nat):Lib.itoa (n:Int)=Dy n:=by
 unfold Lib.itoa
 rw [if_neg (by omega)]
 rfl
theorem getB (s:List UInt8)(i:Nat)(h:i<s.length):getI (ofB s) (i:Int)=some ((s[i].toNat:Nat):Int):=by
 rw [rP]
 unfold ofB
 rw [List.getElem?_map,List.getElem?_eq_getElem h]
 rfl
abbrev Fl:Type:=Int×(Bool×((Arr Int 16)×(List UInt8)))
def fin (c:UInt8):Bool:=decide (32≤c.toNat)&&decide (c.toNat≤126)
def asc (s:List UInt8):Bool:=s.all fin
theorem abG (s:List UInt8)(i:Nat)(h:i<s.length):asc (s.drop i)=(fin s[i]&&asc (s.drop (i+1))):=by
 rw [C7 h];rfl
section
variable {N:Nat}
theorem ascP (s:List UInt8)(hs:s.length≤100000):∀ (n k i:Nat),i+n=s.length→n<k→gl (fun X c=>cG N X c.1.1 c.1.2.1 c.1.2.2.1) k ((ofB s,((s.length:Int),((i:Int),()))),())=some (if asc (s.drop i)=true then .inr ((),()) else .inl ((false,()),()))
 | 0,k+1,i,hi,_=>by
  have c1:¬ ((i:Int)<(s.length:Int)):=by omega
  rw [ah,Dd (by omega)]
  simp only [cG,c1,decide_false,cond_false]
  rfl
 | n+1,k+1,i,hi,hk=>by
  have c1:((i:Int)<(s.length:Int)):=by omega
  have hlt:i<s.length:=by omega
  have g:=getB s i hlt
  have w:ne .i64 ((i:Int)+1)=((i+1:Nat):Int):=by rw [ac (by omega) (by omega)];omega
  have ih:=ascP s hs n k (i+1) (by omega) (by omega)
  rw [ah,abG s i hlt]
  by_cases h1:((s[i].toNat:Nat):Int)<32
  ·have e:fin s[i]=false:=by unfold fin;rw [decide_eq_false (by omega)];rfl
   simp only [cG,c1,decide_true,cond_true,g,gt,h1,e,DT]
   rfl
  ·by_cases h2:(126:Int)<((s[i].toNat:Nat):Int)
   ·have e:fin s[i]=false:=by unfold fin;rw [decide_eq_false (p:=s[i].toNat≤126) (by omega),Bool.and_false]
    simp only [cG,c1,decide_true,cond_true,g,gt,h1,h2,decide_false,cond_false,e,DT]
    rfl
   ·have e:fin s[i]=true:=by unfold fin;rw [decide_eq_true (p:=32≤s[i].toNat) (by omega),decide_eq_true (by omega)];rfl
    simp only [cG,c1,decide_true,cond_true,g,gt,h1,h2,decide_false,cond_false,e,DM,w]
    exact ih
theorem at6 (s:List UInt8)(hs:s.length≤10000)(hN:20000≤N):jJ N s=some (asc s):=by
 unfold jJ
 rw [rpos (by omega) (by omega),ct]
 have h:ov N ((ofB s,((s.length:Int),(((0:Nat):Int),()))),())=_:=ascP s (by omega) s.length N 0 (by omega) (by omega)
 refine (bnd h).trans ?_
 rw [DN]
 cases asc s <;> rfl
theorem ascR (s:List UInt8)(hs:s.length≤100000):∀ (n k i:Nat),i+n=s.length→n<k→gl (fun X c=>cH N X c.1.1 c.1.2.1) k ((s,((i:Int),())),())=some (if asc (s.drop i)=true then .inr ((),()) else .inl ((false,()),()))
 | 0,k+1,i,hi,_=>by
  have c1:¬ ((i:Int)<(s.length:Int)):=by omega
  rw [ah,Dd (by omega)]
  simp only [cH,c1,decide_false,cond_false]
  rfl
 | n+1,k+1,i,hi,hk=>by
  have c1:((i:Int)<(s.length:Int)):=by omega
  have hlt:i<s.length:=by omega
  have g:=aS s i hlt
  have w:ne .i64 ((i:Int)+1)=((i+1:Nat):Int):=by rw [ac (by omega) (by omega)];omega
  have ih:=ascR s hs n k (i+1) (by omega) (by omega)
  rw [ah,abG s i hlt]
  by_cases h1:((s[i].toNat:Nat):Int)<32
  ·have e:fin s[i]=false:=by unfold fin;rw [decide_eq_false (by omega)];rfl
   simp only [cH,c1,decide_true,cond_true,g,gt,h1,e,DT]
   rfl
  ·by_cases h2:(126:Int)<((s[i].toNat:Nat):Int)
   ·have e:fin s[i]=false:=by unfold fin;rw [decide_eq_false (p:=s[i].toNat≤126) (by omega),Bool.and_false]
    simp only [cH,c1,decide_true,cond_true,g,gt,h1,h2,decide_false,cond_false,e,DT]
    rfl
   ·have e:fin s[i]=true:=by unfold fin;rw [decide_eq_true (p:=32≤s[i].toNat) (by omega),decide_eq_true (by omega)];rfl
    simp only [cH,c1,decide_true,cond_true,g,gt,h1,h2,decide_false,cond_false,e,DM,w]
    exact ih
theorem at5 (s:List UInt8)(hs:s.length≤10000)(hN:20000≤N):j6 N s=some (asc s):=by
 unfold j6
 have h:oD N ((s,(((0:Nat):Int),())),())=_:=ascR s (by omega) s.length N 0 (by omega) (by omega)
 refine (bnd h).trans ?_
 rw [DN]
 cases asc s <;> rfl
theorem dig1 {n:Nat}(h:n<10)(X:(Int×Unit)→Option (List UInt8)):ck N X (n:Int)=some (Dy n):=by
 have c1:((n:Int)<10):=by omega
 have w:ne .u8 (ne .i64 ((48:Int)+(n:Int)))=((48+n:Nat):Int):=by rw [ac (by omega) (by omega),Ae (by omega) (by omega)];omega
 have t:toBy [((48+n:Nat):Int)]=some [UInt8.ofNat (48+n)]:=by
  unfold toBy
  rw [if_pos (by omega),C9]
  rfl
 simp only [ck,c1,decide_true,cond_true,w,t,gt,nk h]
theorem digN:∀ (k n M:Nat),n<10 ^ (k+1)→n≤9999→k+1<M→gl (fun X c=>ck N X c.1) M ((n:Int),())=some (Dy n)
 | 0,n,M+1,h,_,_=>by
  rw [ah]
  exact dig1 (by omega) _
 | k+1,n,M+1,h,h2,hM=>by
  rw [ah]
  by_cases hn:n<10
  ·exact dig1 hn _
  ·have c1:¬ ((n:Int)<10):=by omega
   have hdiv:n / 10<10 ^ (k+1):=by
    have e:10 ^ (k+1+1)=10 ^ (k+1)*10:=Nat.pow_succ ..
    omega
   have w1:ne .i64 (D3 (n:Int) 10)=((n / 10:Nat):Int):=by
    rw [DB (by omega),ac (by omega) (by omega)];omega
   have w2:DW (n:Int) 10=((n % 10:Nat):Int):=by rw [Dn (by omega)];omega
   have i1:=digN k (n / 10) M hdiv (by omega) (by omega)
   have i2:gl (fun X c=>ck N X c.1) M (((n % 10:Nat):Int),())=some (Dy (n % 10)):=by
    match M,hM with
    | M+1,_=>rw [ah];exact dig1 (Nat.mod_lt _ (by omega)) _
   have l1:=vT (n:=n / 10) (by omega)
   have l2:=vT (n:=n % 10) (by omega)
   have bl:=aL
   have e:Dy n=Dy (n / 10)++Dy (n % 10):=by rw [zP hn,nk (Nat.mod_lt n (by omega:0<10))]
   rw [e]
   show ck N _ (n:Int)=_
   unfold ck
   refine (bneg c1).trans ?_
   rw [w1,w2]
   refine (bnd i1).trans ((bnd i2).trans (bpos (by omega)))
theorem afJ {n:Nat}(h:n≤9999)(hN:100≤N):k8 N (n:Int)=some (Dy n):=digN 3 n N (by omega) h (by omega)
end
def mE:List UInt8:=[69,61]
def mR:List UInt8:=[32,82,61]
def mC:List UInt8:=[32,67,61]
def mV:List UInt8:=[32,86,61,51,32,77,61]
def L8 (D A H T:List UInt8):List UInt8:=((((((mE++D)++mR)++A)++mC)++H)++mV)++T
def agS (a:Bool):List UInt8:=if a then [49] else [48]
def layF (f:Fl):List UInt8:=L8 (Dy f.1.toNat) (agS f.2.1) (hexS f.2.2.1.l) f.2.2.2
def ads (f:Fl):List Int×Int:=if f.1<0∨9999<f.1 then ([],1) else if asc f.2.2.2=true then (ofB (layF f),0) else ([],3)
theorem ask (f:Fl)(hc:AllB f.2.2.1.l)(ht:f.2.2.2.length≤1000):jH 200000 f=some (ads f):=by
 obtain ⟨n,ag,c,t⟩:=f
 simp only at hc ht
 have hcl:=c.h
 have bl:=aL
 unfold ads jH
 dsimp only
 by_cases h1:n<0∨9999<n
 ·have e:(bif decide (n<0) then some true else some (cond false true (decide (9999<n))))=some true:=by
   by_cases h2:n<0
   ·exact bpos h2
   ·exact (bneg h2).trans (by rw [decide_eq_true (by omega)];rfl)
  rw [if_pos h1]
  exact (bnd e).trans rfl
 ·have e:(bif decide (n<0) then some true else some (cond false true (decide (9999<n))))=some false:=(bneg (by omega)).trans (by rw [decide_eq_false (by omega)];rfl)
  rw [if_neg h1]
  refine (bnd e).trans ?_
  refine (bnd (at6 t (by omega) (by omega))).trans ?_
  obtain ⟨m,rfl⟩:∃ m:Nat,n=(m:Int):=⟨n.toNat,by omega⟩
  have hm:m≤9999:=by omega
  have hd:=vT hm
  have hx:=ar8 (N:=200000) c.l hc (by omega) (by omega)
  have hxl:=lf c.l
  unfold layF
  simp only [C9]
  rw [ahL]
  generalize Dy m=D at hd
  cases hA:asc t
  ·rfl
  ·simp only [DA,cond_false,if_true]
   cases ag
   ·simp only [cond_false]
    refine (bpos (by omega)).trans ?_
    iterate 4 (refine (bpos (by simp only [C6,C8,Dh];omega)).trans ?_)
    refine (bnd hx).trans ?_
    iterate 3 (refine (bpos (by simp only [C6,C8,Dh];omega)).trans ?_)
    refine (rpos (by simp only [C6,C8,Dh];omega) (by omega)).trans ?_
    rfl
   ·simp only [cond_true]
    refine (bpos (by omega)).trans ?_
    iterate 4 (refine (bpos (by simp only [C6,C8,Dh];omega)).trans ?_)
    refine (bnd hx).trans ?_
    iterate 3 (refine (bpos (by simp only [C6,C8,Dh];omega)).trans ?_)
    refine (rpos (by simp only [C6,C8,Dh];omega) (by omega)).trans ?_
    rfl
theorem asj (f:Fl)(hc:AllB f.2.2.1.l)(ht:f.2.2.2.length≤1000):jG 200000 f=some (ads f):=by
 obtain ⟨n,ag,c,t⟩:=f
 simp only at hc ht
 have hcl:=c.h
 have bl:=aL
 unfold ads jG
 dsimp only
 by_cases h1:n<0∨9999<n
 ·have e:(bif decide (n<0) then some true else some (cond false true (decide (9999<n))))=some true:=by
   by_cases h2:n<0
   ·exact bpos h2
   ·exact (bneg h2).trans (by rw [decide_eq_true (by omega)];rfl)
  rw [if_pos h1]
  exact (bnd e).trans rfl
 ·have e:(bif decide (n<0) then some true else some (cond false true (decide (9999<n))))=some false:=(bneg (by omega)).trans (by rw [decide_eq_false (by omega)];rfl)
  rw [if_neg h1]
  refine (bnd e).trans ?_
  refine (bnd (at5 t (by omega) (by omega))).trans ?_
  obtain ⟨m,rfl⟩:∃ m:Nat,n=(m:Int):=⟨n.toNat,by omega⟩
  have hm:m≤9999:=by omega
  have hd:=vT hm
  have hx:=ar7 (N:=200000) c.l hc (by omega) (by omega)
  have hg:=afJ (N:=200000) hm (by omega)
  have hxl:=lf c.l
  unfold layF
  simp only [C9]
  generalize Dy m=D at hd hg
  cases hA:asc t
  ·rfl
  ·simp only [DA,cond_false,if_true]
   cases ag
   ·simp only [cond_false]
    refine (bnd hg).trans ?_
    iterate 4 (refine (bpos (by simp only [C6,C8,Dh];omega)).trans ?_)
    refine (bnd hx).trans ?_
    iterate 3 (refine (bpos (by simp only [C6,C8,Dh];omega)).trans ?_)
    refine (rpos (by simp only [C6,C8,Dh];omega) (by omega)).trans ?_
    rfl
   ·simp only [cond_true]
    refine (bnd hg).trans ?_
    iterate 4 (refine (bpos (by simp only [C6,C8,Dh];omega)).trans ?_)
    refine (bnd hx).trans ?_
    iterate 3 (refine (bpos (by simp only [C6,C8,Dh];omega)).trans ?_)
    refine (rpos (by simp only [C6,C8,Dh];omega) (by omega)).trans ?_
    rfl
end Go.Proofs.YtolkfnemdejonaaGreatDoor
