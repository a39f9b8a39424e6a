/-
  Parts of my own, one behind the other: It, Pc, Plain01, Nums, Hex, Unhex, Uhx, Pd.
-/
import Derived.Test.YtllpjoggnfclgaaGreatDoorMrg4
import Derived.Test.YtllpjoggnfclgaaGreatDoorMrg5
import Derived.Lib.ItoaNum
import Derived.Lib.AppendIntMem
import Derived.ProofKit
import Derived.WalkKit
import Derived.Lib.AtoiAll
import Derived.BigCall
import Derived.BigGuard
import Derived.Test.YtllpjoggnfclgaaGreatDoorMrg1
open Go.Proofs.Tryz renaming prog→gt
open Go.Lib renaming hid→ne
open ByteArray renaming mk→Do
open Nat renaming le_refl→Dp
open UInt8 renaming ofNat→Dq
namespace Go.Proofs.YtllpjoggnfclgaaGreatDoor
set_option maxRecDepth 100000
open Go.RowKit Go.Sort Go.Lib Go.Shelf
set_option linter.unusedVariables false
set_option linter.unusedSimpArgs false
theorem afH {w:World}{B:List Nat}(h:GlobOK w B):Lib.TabIs gt w "internal/strconv.uint64pow10" .u64 Lib.pow10Tab:=by
 obtain ⟨_,T,fr,h2⟩:=h.row 6 _ (by simp only [sN,List.mem_cons];exact .inl rfl)
 have h1:gt.globalNamed "internal/strconv.uint64pow10" =some 6:=by kernel_rfl
 unfold Lib.TabIs World.var?
 rw [h1,Option.bind_some,h2]
 rfl
def itK {R:Type}(args:List V)(k:V→Tree R):Tree R:=match args with
 | [.c (.int .i64 n)]=>.ite (decide (-9223372036854775808≤n∧n≤9223372036854775807)) (k (.str (Lib.itoa n))) .fail
 | _=>.fail
theorem ase {R:Type}:∀ args (k:V→Tree R) res,(itK args k).run=some res→∃ r,(k r).run=some res∧r.plain=true∧(∀ l k,ex r≠.fresh l k)∧nd gt 99 args r:=by
 intro args k res h
 have hb:∃ fn,gt.funcs[99]? =some fn∧fn.name≠ "runtime.NumGoroutine" ∧fn.body≠none:=um Tryz.func99 (by decide +kernel) (by kernel_rfl)
 unfold itK at h
 split at h
 ·rename_i n
  rcases Tree.run_ite h with ⟨hs,h⟩ | ⟨_,h⟩
  ·obtain ⟨h1,h2⟩:=of_decide_eq_true hs
   refine ⟨_,h,rfl,(fun l k h=>by cases h),kf.toV (fun w B cargs _ hgl hlen hrel=> ?_) hb⟩
   obtain ⟨a,rfl,r1⟩:=Bg hlen hrel
   have r1:=Rel.ofC r1
   subst r1
   have:=Tryz.strconv_Itoa n h1 h2 w (afH hgl)
   exact this.mono fun e w' ⟨he,k,os,hw⟩=>⟨_,he,(by rw [hw];exact Lib.below_grow _ w (Dp _) k os),.c _ _⟩
  ·cases h
 ·cases h
theorem aky {w:World}{B:List Nat}{g:Nat}(h:Rel w B [] (.adr [.nn]) (.pointer (some ⟨g,0,none⟩))):∃ ev,w.cell? ⟨g,0,none⟩=some ev∧(ev= .nilIface∨∃ te pe,ev= .iface te pe):=by
 cases h with
 | adr _ l ad us ha hr=>
  have h1:=ha.cell 0 (by simp)
  have h2:=hr 0 _ rfl
  cases hu:us 0 <;> rw [hu] at h2 <;> cases h2
  exact ⟨_,by rw [←hu];simpa [Addr.add] using h1,.inr ⟨_,_,rfl⟩⟩
theorem alr {w:World}{B:List Nat}{g:Nat}{x:Value}(h:Rel w B [] (.adr [.c x]) (.pointer (some ⟨g,0,none⟩))):w.cell? ⟨g,0,none⟩=some x:=by
 cases h with
 | adr _ l ad us ha hr=>
  have h1:=ha.cell 0 (by simp)
  have h2:=Rel.ofC (hr 0 _ rfl)
  rw [←h2]
  simpa [Addr.add] using h1
theorem xn {w:World}{B:List Nat}{x y:Value}{a b:AV}(h1:Rel w B [] a x)(h2:Rel w B [] b y):Rel w B [] (.tup [a,b]) (.tuple #[x,y]):=
 .tup _ _ _ (fun i=>[x,y].getD i undef) rfl (fun i z hz=>by
  match i,hz with
  | 0,_=>rfl
  | 1,_=>rfl) (fun i z hz=>by
  match i,hz with
  | 0,hz=>simp at hz;subst hz;exact h1
  | 1,hz=>simp at hz;subst hz;exact h2)
theorem aeX {w:World}{B:List Nat}{x y z:Value}{a b c:AV}(h1:Rel w B [] a x)(h2:Rel w B [] b y)(h3:Rel w B [] c z):Rel w B [] (.tup [a,b,c]) (.tuple #[x,y,z]):=
 .tup _ _ _ (fun i=>[x,y,z].getD i undef) rfl (fun i t ht=>by
  match i,ht with
  | 0,_=>rfl
  | 1,_=>rfl
  | 2,_=>rfl) (fun i t ht=>by
  match i,ht with
  | 0,ht=>simp at ht;subst ht;exact h1
  | 1,ht=>simp at ht;subst ht;exact h2
  | 2,ht=>simp at ht;subst ht;exact h3)
def atS (s:List UInt8):Sum Int Int:=match Lib.atoiAll s with
 | .ok v=>.inl v
 | .range=>.inr (Lib.atoiSat s)
 | _=>.inr 0
def atK {R:Type}(args:List V)(k:V→Tree R):Tree R:=match args with
 | [.str s]=>.ite (decide (s.length≤281474976710656)) (.cases (atS s) (fun u=>k (.tup [.c (.int .i64 u),.c .nilIface])) (fun z=>k (.tup [.c (.int .i64 z),.nn]))) .fail
 | _=>.fail
theorem asu {R:Type}:∀ args (k:V→Tree R) res,(atK args k).run=some res→∃ r,(k r).run=some res∧r.plain=true∧(∀ l k,ex r≠.fresh l k)∧nd gt 145 args r:=by
 intro args k res h
 unfold atK at h
 split at h
 ·rename_i s
  rcases Tree.run_ite h with ⟨hs,h⟩ | ⟨_,h⟩
  ·have hs:=of_decide_eq_true hs
   have hsz:(Do s.toArray).size=s.length:=by show s.toArray.size=_;simp
   have hl:(Do s.toArray).data.toList=s:=by simp
   have hb:∃ fn,gt.funcs[145]? =some fn∧fn.name≠ "runtime.NumGoroutine" ∧fn.body≠none:=um Tryz.func145 (by decide +kernel) (by kernel_rfl)
   have key:∀ (r:V),(∀ (w:World) (B:List Nat),GlobOK w B→Calls gt 145 #[.string ⟨s.toArray⟩] w fun e w'=>∃ v,e= .returned v∧Gr w w'∧Rel w' B [] (ex r) v)→nd gt 145 [.str s] r:=fun r hr=>kf.toV (fun w B cargs _ hgl hlen hrel=>by
    obtain ⟨a,rfl,h1⟩:=Bg hlen hrel
    have h1:=Rel.ofC h1
    subst h1
    exact hr w B hgl) hb
   rcases hp:Lib.atoiAll s with u | _ | _
   ·rw [show atS s=(Sum.inl u:Sum Int Int) by unfold atS;rw [hp]] at h
    refine ⟨_,h,rfl,(fun l k h=>by cases h),key _ fun w B hgl=> ?_⟩
    have hc:Calls gt 145 #[.string ⟨s.toArray⟩] w _:=Any.strconv_Atoi_ok Tryz.laysC172 ⟨s.toArray⟩ (by rw [hsz];omega) u (by rw [hl];exact hp) w
    refine hc.mono fun e w' ⟨he,hw⟩=>⟨_,he, ?_,xn (.c _ _) (.c _ _)⟩
    rcases hw with rfl | ⟨t,rfl⟩
    ·exact Gr.refl _
    ·exact Lib.bytesWorld_below _ _ _
   ·rw [show atS s=(Sum.inr 0:Sum Int Int) by unfold atS;rw [hp]] at h
    refine ⟨_,h,rfl,(fun l k h=>by cases h),key _ fun w B hgl=> ?_⟩
    obtain ⟨ev,e1,e2⟩:=aky (hgl.nn 7 (by simp [Am]))
    have hc:Calls gt 145 #[.string ⟨s.toArray⟩] w _:=Any.strconv_Atoi_syntax Tryz.laysC172 ⟨s.toArray⟩ (by rw [hsz];omega) (by rw [hl];exact hp) ev w e1 e2
    exact hc.mono fun e w' ⟨N,he,_,_,hw⟩=>⟨_,he,hw,xn (.c _ _) (.nn _ _ _)⟩
   ·rw [show atS s=(Sum.inr (Lib.atoiSat s):Sum Int Int) by unfold atS;rw [hp]] at h
    refine ⟨_,h,rfl,(fun l k h=>by cases h),key _ fun w B hgl=> ?_⟩
    obtain ⟨ev,e1,e2⟩:=aky (hgl.nn 8 (by simp [Am]))
    have hc:Calls gt 145 #[.string ⟨s.toArray⟩] w _:=Any.strconv_Atoi_range Tryz.laysC172 ⟨s.toArray⟩ (by rw [hsz];omega) (by rw [hl];exact hp) ev w e1 e2
    rw [hl] at hc
    exact hc.mono fun e w' ⟨N,he,_,_,hw⟩=>⟨_,he,hw,xn (.c _ _) (.nn _ _ _)⟩
  ·cases h
 ·cases h
def ctK {R:Type}(args:List V)(k:V→Tree R):Tree R:=match args with
 | [.str s,.str c]=>.ite (decide (s.length≤1000000)) (k (.tup [.str (Lib.cut s c).1,.str (Lib.cut s c).2.1,.c (.bool (Lib.cut s c).2.2)])) .fail
 | _=>.fail
theorem asq {R:Type}:∀ args (k:V→Tree R) res,(ctK args k).run=some res→∃ r,(k r).run=some res∧r.plain=true∧(∀ l k,ex r≠.fresh l k)∧nd gt 142 args r:=by
 intro args k res h
 have hb:∃ fn,gt.funcs[142]? =some fn∧fn.name≠ "runtime.NumGoroutine" ∧fn.body≠none:=um Tryz.func142 (by decide +kernel) (by kernel_rfl)
 unfold ctK at h
 split at h
 ·rename_i s c
  rcases Tree.run_ite h with ⟨hs,h⟩ | ⟨_,h⟩
  ·have hs:=of_decide_eq_true hs
   refine ⟨_,h,rfl,(fun l k h=>by cases h),kf.toV (fun w B cargs _ hgl hlen hrel=> ?_) hb⟩
   obtain ⟨a,b,rfl,h1,h2⟩:=aeW hlen hrel
   have h1:=Rel.ofC h1
   have h2:=Rel.ofC h2
   subst h1 h2
   obtain ⟨m,hm⟩:=hgl.num 4 (by simp [yd])
   have hsz:(Do s.toArray).size=s.length:=by show s.toArray.size=_;simp
   have hl:(Do s.toArray).data.toList=s:=by simp
   have hl2:(Do c.toArray).data.toList=c:=by simp
   have hc:Calls gt 142 #[.string ⟨s.toArray⟩,.string ⟨c.toArray⟩] w _:=Any.strings_Cut Tryz.lays145 ⟨s.toArray⟩ ⟨c.toArray⟩ m w (by rw [hsz];omega) (alr hm)
   rw [hl,hl2] at hc
   exact hc.mono fun e w' ⟨he,n,hw⟩=>⟨_,he,by rw [hw];exact cW (Gr.refl w) n,aeX (.c _ _) (.c _ _) (.c _ _)⟩
  ·cases h
 ·cases h
def tpK {R:Type}(args:List V)(k:V→Tree R):Tree R:=match args with
 | [.str s,.str c]=>k (.str (Lib.trimPrefix s c))
 | _=>.fail
theorem arX {R:Type}:∀ args (k:V→Tree R) res,(tpK args k).run=some res→∃ r,(k r).run=some res∧r.plain=true∧(∀ l k,ex r≠.fresh l k)∧nd gt 143 args r:=by
 intro args k res h
 have hb:∃ fn,gt.funcs[143]? =some fn∧fn.name≠ "runtime.NumGoroutine" ∧fn.body≠none:=um Tryz.func143 (by decide +kernel) (by kernel_rfl)
 unfold tpK at h
 split at h
 ·rename_i s c
  refine ⟨_,h,rfl,(fun l k h=>by cases h),kf.toV (fun w B cargs _ hgl hlen hrel=> ?_) hb⟩
  obtain ⟨a,b,rfl,h1,h2⟩:=aeW hlen hrel
  have h1:=Rel.ofC h1
  have h2:=Rel.ofC h2
  subst h1 h2
  have hl:(Do s.toArray).data.toList=s:=by simp
  have hl2:(Do c.toArray).data.toList=c:=by simp
  have hc:Calls gt 143 #[.string ⟨s.toArray⟩,.string ⟨c.toArray⟩] w _:=Any.strings_TrimPrefix Tryz.lays101 ⟨s.toArray⟩ ⟨c.toArray⟩ w
  rw [hl,hl2] at hc
  exact hc.mono fun e w' ⟨he,hw⟩=>⟨_,he,hw▸Gr.refl _,.c _ _⟩
 ·cases h
end Go.Proofs.YtllpjoggnfclgaaGreatDoor
namespace Go.Proofs.YtllpjoggnfclgaaGreatDoor
set_option maxRecDepth 100000
def leb:Nat→Nat→List UInt8
 | 0,_=>[]
 | w+1,n=>Dq n::leb w (n / 256)
def laid (w n:Nat)(little:Bool):List UInt8:=if little then leb w n else (leb w n).reverse
def nle:List UInt8→Nat
 | []=>0
 | b::r=>b.toNat+256*nle r
def num (bs:List UInt8)(little:Bool):Nat:=if little then nle bs else nle bs.reverse
end Go.Proofs.YtllpjoggnfclgaaGreatDoor
namespace Go.Proofs.YtllpjoggnfclgaaGreatDoor
set_option maxRecDepth 100000
open Go.RowKit
set_option linter.unusedVariables false
def InW (n:Int):Prop:=1≤n∧n≤8
instance (n:Int):Decidable (InW n):=by unfold InW;infer_instance
def aeb (w:World)(bs:List UInt8)(err:Int)(e:Ending)(w':World):Prop:=
 ∃ A n c,e= .returned (.tuple #[.slice A n c,.int .i64 err])∧n≤c∧c≤maxLen∧RB w' A n bs∧Below w.heap.size w w'
theorem aeb.of {w w':World}{v:Value}{n:Nat}{bs:List UInt8}{base:Nat}{err:Int}(ho:OB w' base v n bs)(hb:Below w.heap.size w w'):aeb w bs err (.returned (.tuple #[v,.int .i64 err])) w':=by
 obtain ⟨A,c,rfl,h1,h2,h3⟩:=ho.shape
 exact ⟨A,n,c,rfl,h1,h2,h3,hb⟩
theorem aeb.nil (w:World)(err:Int):aeb w [] err (.returned (.tuple #[.slice none 0 0,.int .i64 err])) w:=
 ⟨none,0,0,rfl,Dp _,by simp [maxLen],RB.nil _ _,Below.refl _ _⟩
def hv (c:UInt8):Nat:=if 48≤c.toNat∧c.toNat≤57 then c.toNat-48 else if 65≤c.toNat∧c.toNat≤70 then c.toNat-55 else if 97≤c.toNat∧c.toNat≤102 then c.toNat-87 else 16
theorem aiW (c:UInt8):hv c≤16:=by unfold hv;split <;> (try split) <;> (try split) <;> omega
theorem aiY (c:UInt8):(c.toNat<48∧hv c=16)∨(48≤c.toNat∧c.toNat≤57∧hv c=c.toNat-48)∨(57<c.toNat∧c.toNat<65∧hv c=16)∨(65≤c.toNat∧c.toNat≤70∧hv c=c.toNat-55)∨
  (70<c.toNat∧c.toNat<97∧hv c=16)∨(97≤c.toNat∧c.toNat≤102∧hv c=c.toNat-87)∨(102<c.toNat∧hv c=16):=by
 unfold hv;split <;> (try split) <;> (try split) <;> omega
def eG:List UInt8→Option (List UInt8)
 | []=>some []
 | [_]=>none
 | a::b::r=>if hv a<16∧hv b<16 then (eG r).map (Dq (16*hv a+hv b):: ·) else none
set_option maxHeartbeats 1000000 in
theorem iP (c:UInt8)(w:World):Calls gt 175 #[.int .u8 (c.toNat:Int)] w fun e w'=>e= .returned (.int .u8 (hv c:Nat))∧w=w':=by
 have hc:=c.toNat_lt
 have HV:=aiY c
 obtain ⟨v,hv'⟩:∃ v,v=hv c:=⟨_,rfl⟩
 obtain ⟨x,hx'⟩:∃ x,x=c.toNat:=⟨_,rfl⟩
 rw [←hv',←hx'] at HV
 rw [←hx'] at hc
 rw [←hv',←hx']
 clear hv' hx'
 rcases HV with ⟨h1,h2⟩ | ⟨h0,h1,h2⟩ | ⟨h0,h1,h2⟩ | ⟨h0,h1,h2⟩ | ⟨h0,h1,h2⟩ | ⟨h0,h1,h2⟩ | ⟨h1,h2⟩
 all_goals
  have H2:=ne h2;clear h2
  go_enter Tryz.func175,Tryz.ntmps175
  go_wp2
  go_ret
  exact ⟨alo (by rw [H2.out];omega),rfl⟩
theorem vN:∀ l:List UInt8,l.length % 2=1→eG l=none
 | [],h=>by simp at h
 | [_],_=>rfl
 | a::b::r,h=>by
  have:=vN r (by simp at h;omega)
  simp [eG,this]
theorem Di {l:List UInt8}{i:Nat}{a b:UInt8}(ha:l[i]? =some a)(hb:l[i+1]? =some b):l.drop i=a::b::l.drop (i+2):=by
 have h1:=(List.getElem?_eq_some_iff.1 ha).1
 have h2:=(List.getElem?_eq_some_iff.1 hb).1
 rw [List.drop_eq_getElem_cons h1,List.drop_eq_getElem_cons h2,(List.getElem?_eq_some_iff.1 ha).2,(List.getElem?_eq_some_iff.1 hb).2]
def fe (l:List UInt8)(i:Nat)(acc:List UInt8):Prop:=eG l=(eG (l.drop i)).map (acc++ ·)
theorem fe.start (l:List UInt8):fe l 0 []:=by simp [fe]
theorem fe.step {l acc:List UInt8}{i:Nat}{a b:UInt8}(h:fe l i acc)(ha:l[i]? =some a)(hb:l[i+1]? =some b)(h1:hv a<16)(h2:hv b<16):
  fe l (i+2) (acc++[Dq (16*hv a+hv b)]):=by
 unfold fe at h ⊢
 rw [h,Di ha hb,eG,if_pos ⟨h1,h2⟩,Option.map_map]
 congr 1
 funext r
 simp
theorem fe.bad {l acc:List UInt8}{i:Nat}{a b:UInt8}(h:fe l i acc)(ha:l[i]? =some a)(hb:l[i+1]? =some b)(h1:¬ (hv a<16∧hv b<16)):eG l=none:=by
 rw [h,Di ha hb,eG,if_neg h1];rfl
theorem fe.last {l acc:List UInt8}{i:Nat}(h:fe l i acc)(hi:l.length≤i):eG l=some acc:=by
 rw [h,List.drop_of_length_le hi];simp [eG]
def cj (l:List UInt8)(w:World)(e:Ending)(w':World):Prop:=
 Below w.heap.size w w'∧((eG l=none∧e= .returned (.tuple #[.slice none 0 0,.int .i64 3]))∨
  ∃ bs v,eG l=some bs∧e= .returned (.tuple #[v,.int .i64 0])∧OB w' w.heap.size v bs.length bs)
theorem cj.no {l:List UInt8}{w w':World}(h:eG l=none)(hb:Below w.heap.size w w'):cj l w (.returned (.tuple #[.slice none 0 0,.int .i64 3])) w':=⟨hb,.inl ⟨h,rfl⟩⟩
theorem cj.yes {l bs:List UInt8}{v:Value}{n:Nat}{w w':World}(h:eG l=some bs)(ho:OB w' w.heap.size v n bs)(hb:Below w.heap.size w w'):
  cj l w (.returned (.tuple #[v,.int .i64 0])) w':=⟨hb,.inr ⟨bs,v,h,rfl,by rw [ho.len];exact ho⟩⟩
theorem aex {s:ByteArray}{k:Nat}{b:UInt8}(h:s.data.toList[k]? =some b)(w:World):
  (Instr.index 9 (.string s) (.int .i64 (k:Int))).run gt w= .ok (.int .u8 (b.toNat:Int)) w:=by
 have hk:k<s.size:=by
  have:=(List.getElem?_eq_some_iff.1 h).1
  simpa using this
 rw [run_index_string (P:=gt) (w:=w) _ _ _ _ Tryz.underlying9,dif_pos ⟨by omega,by omega⟩]
 have:s[k]=b:=by
  have h2:=(List.getElem?_eq_some_iff.1 h).2
  rw [←h2];rfl
 simp [this]
theorem aew {s:ByteArray}{k:Nat}{b:UInt8}(h:s.data.toList[k+1]? =some b)(w:World):
  (Instr.index 9 (.string s) (.int .i64 ((k:Int)+1))).run gt w= .ok (.int .u8 (b.toNat:Int)) w:=by
 have:=aex h w
 rwa [show (((k+1:Nat)):Int)=(k:Int)+1 by omega] at this
theorem sF {s:ByteArray}{k:Nat}(h:k<s.size):∃ b:UInt8,s.data.toList[k]? =some b:=
 ⟨s.data.toList[k]'(by simpa using h),List.getElem?_eq_getElem _⟩
theorem aej (a b:Nat)(ha:a<16)(hb:b<16):bits .or .u8 ((a:Int)*16) (b:Int)=((Dq (16*a+b)).toNat:Int):=by
 rw [show (a:Int)*16=((a*16:Nat):Int) by omega,u8_or_nat _ _ (by omega) (by omega),nat_join 4 _ _ (by omega) hb,UInt8.toNat_ofNat']
 omega
theorem akv (a b:Nat)(ha:a<16)(hb:b<16):bits .or .u8 (IntKind.u8.wrap ((a:Int)*16)) (b:Int)=((Dq (16*a+b)).toNat:Int):=by
 rw [IntKind.wrap_u8,Int.emod_eq_of_lt (by omega) (by omega),show (a:Int)*16=((a*16:Nat):Int) by omega,u8_or_nat _ _ (by omega) (by omega),
  nat_join 4 _ _ (by omega) hb,UInt8.toNat_ofNat']
 omega
set_option maxHeartbeats 2000000 in
set_option maxRecDepth 100000 in
theorem adu (s:ByteArray)(w:World)(hs:s.size≤1000000):
  Calls gt 144 #[.string s] w (cj s.data.toList w):=by
 have hl:s.data.toList.length=s.size:=by rw [Array.length_toList];rfl
 have Hl:=ne hl;clear hl
 by_cases hodd:s.size % 2=1
 ·have Hno:=ne (vN s.data.toList (by rw [Hl.out];exact hodd))
  have h1:((s.size:Int) % 2 !=0)=true:=by simp;omega
  clear hodd
  go_enter Tryz.func144,Tryz.ntmps144
  go_wp2
  go_step3
  go_wp2
  rw [Exit.noGoto_ret]
  go_ret2
  exact cj.no Hno.out (Below.refl _ _)
 ·have h1:((s.size:Int) % 2 !=0)=false:=by simp;omega
  have Hev:=ne hodd;clear hodd
  have hmk:=aiJ 0 ((s.size:Int) / 2) (by omega) (by omega) (by omega)
  have hown0:=OB.made w w.heap.size 0 (s.size / 2) (by omega) (by simp only [maxLen];omega) (Dp _)
  have hbel0:=(Below.refl w.heap.size w).alloc (Dp _) (.cells (madeCells #[.int .u8 0] (s.size / 2)) 5)
  go_enter Tryz.func144,Tryz.ntmps144
  go_wp2
  refine wp_scope_jumps 0 (fun a' wr=>∃ (k:Nat) (acc:List UInt8) (v u6 u7 u8 u9 u10 u11 u12 u13 u14 u15 u16 u17 u18 u19 u20 u21 u22 u23 u24 u25 u26 u27 u28 u29 u30 u31 u32 u33 u34 u35 u36 u37 u38 u39 u40 u41 u42 u43 u44:Value),a'={ tmps:= #[.string s,undef,.slice none 0 0,.int .i64 0,v,.int .i64 (k:Int),u6,u7,u8,u9,u10,u11,u12,u13,u14,u15,u16,u17,u18,u19,u20,u21,u22,u23,u24,u25,u26,u27,u28,u29,u30,u31,u32,u33,u34,u35,u36,u37,u38,u39,u40,u41,u42,u43,u44],defers:=[] }∧
   k≤s.size∧2*acc.length=k∧OB wr w.heap.size v acc.length acc∧fe s.data.toList k acc∧Below w.heap.size w wr) (fun a' _=>s.size-(intOf (a'.tmps.getD 5 undef)).toNat) rfl ?_ ?_
  ·have Hown0:=ne hown0
   have Hbel0:=ne hbel0
   clear hown0 hbel0
   by_cases hlt:0<s.size
   ·have hlt1:0+1<s.size:=by have:=Hev.out;omega
    have hne:((0:Int)==(s.size:Int))=false:=by simp;omega
    obtain ⟨a,ha⟩:=sF hlt
    obtain ⟨b,hb⟩:=sF hlt1
    have hia:∀ w,(Instr.index 9 (.string s) (.int .i64 0)).run gt w= .ok (.int .u8 (a.toNat:Int)) w:=aex ha
    have hib:∀ w,(Instr.index 9 (.string s) (.int .i64 1)).run gt w= .ok (.int .u8 (b.toNat:Int)) w:=aew hb
    have Ha:=ne ha;clear ha
    have Hb:=ne hb;clear hb
    have ga:=aiW a
    have gb:=aiW b
    by_cases hgood:hv a<16∧hv b<16
    ·obtain ⟨hga,hgb⟩:=hgood
     have Hst:=ne ((fe.start s.data.toList).step Ha.out Hb.out hga hgb)
     skip
     have hz1:=akv (hv a) (hv b) hga hgb
     have hz2:=aej (hv a) (hv b) hga hgb
     have e1:((hv a:Int)==16)=false:=by simp;omega
     have e2:((hv b:Int)==16)=false:=by simp;omega
     obtain ⟨z,hz⟩:∃ z,z=Dq (16*hv a+hv b):=⟨_,rfl⟩
     rw [←hz] at hz1 hz2 Hst
     clear hz
     go_wp2
     go_step3
     go_wp2
     go_quiet ((go_at_call 175;exact iO (iP _ _)))
     clear hia hib ga gb
     go_wp2_with (at_builtin;refine sR _ rfl (.tmp 36) (.tmp 41) rfl w.heap.size _ _ _ rfl ((Hown0.out.drewN _).alloc _) _ _ _ _ rfl (RB.new1 _ z _ (by simp)) (by omega) (by simp;omega) ?_;intro v' w1 hown1 hg1 hat1;have Hown1:=ne hown1;clear hown1)
     go_step3
     refine ⟨rfl,2,[z],v',_,_,_,_,_,_,_,_,_,_,_,_,_,_,_,_,_,_,_,_,_,_,_,_,_,_,_,_,_,_,_,_,_,_,_,_,_,_,_,rfl,by omega,rfl,Hown1.out,Hst.out, ?_⟩
     exact ((cW Hbel0.out _).alloc (by simp) _).grown hg1 (by simp;omega) fun j hj=>(Hown0.out.lt j hj).1
    ·have Hbad:=ne ((fe.start s.data.toList).bad Ha.out Hb.out hgood)
     by_cases hga:hv a<16
     ·have hgb:hv b=16:=by omega
      have e1:((hv a:Int)==16)=false:=by simp;omega
      have e2:((hv b:Int)==16)=true:=by simp;omega
      clear hgood hgb
      go_wp2
      go_step3
      go_wp2
      go_quiet ((go_at_call 175;exact iO (iP _ _)))
      go_wp2
      simp only [Exit.jump]
      go_ret2
      exact cj.no Hbad.out (cW Hbel0.out _)
     ·have e1:((hv a:Int)==16)=true:=by simp;omega
      clear hgood
      go_wp2
      go_step3
      go_wp2
      go_quiet ((go_at_call 175;exact iO (iP _ _)))
      go_wp2
      simp only [Exit.jump]
      go_ret2
      exact cj.no Hbad.out (cW Hbel0.out _)
   ·have hne:((0:Int)==(s.size:Int))=true:=by simp;omega
    have Hlast:=ne ((fe.start s.data.toList).last (by rw [Hl.out];omega))
    go_wp2
    go_step3
    go_wp2
    simp only [Exit.jump]
    go_ret2
    exact cj.yes Hlast.out Hown0.out Hbel0.out
  ·rintro a' wr ⟨k,acc,v,u6,u7,u8,u9,u10,u11,u12,u13,u14,u15,u16,u17,u18,u19,u20,u21,u22,u23,u24,u25,u26,u27,u28,u29,u30,u31,u32,u33,u34,u35,u36,u37,u38,u39,u40,u41,u42,u43,u44,rfl,hk,hka,hown,hat,hbel⟩
   have Hown:=ne hown;clear hown
   have Hka:=ne hka;clear hka
   have Hat:=ne hat;clear hat
   clear hmk hown0 hbel0
   by_cases hlt:k<s.size
   ·have hlt1:k+1<s.size:=by have:=Hev.out;have:=Hka.out;omega
    have hne:((k:Int)==(s.size:Int))=false:=by simp;omega
    obtain ⟨a,ha⟩:=sF hlt
    obtain ⟨b,hb⟩:=sF hlt1
    have hia:=aex ha
    have hib:=aew hb
    have Ha:=ne ha;clear ha
    have Hb:=ne hb;clear hb
    have ga:=aiW a
    have gb:=aiW b
    by_cases hgood:hv a<16∧hv b<16
    ·obtain ⟨hga,hgb⟩:=hgood
     have Hst:=ne (Hat.out.step Ha.out Hb.out hga hgb)
     have hsz:=hbel.size
     have h3:acc.length+1≤140737488355328:=by have:=Hka.out;omega
     have hz1:=akv (hv a) (hv b) hga hgb
     have hz2:=aej (hv a) (hv b) hga hgb
     have e1:((hv a:Int)==16)=false:=by simp;omega
     have e2:((hv b:Int)==16)=false:=by simp;omega
     obtain ⟨z,hz⟩:∃ z,z=Dq (16*hv a+hv b):=⟨_,rfl⟩
     rw [←hz] at hz1 hz2 Hst
     clear hz
     go_wp2
     go_quiet ((go_at_call 175;exact iO (iP _ _)))
     clear hia hib ga gb
     go_wp2_with (at_builtin;refine sR _ rfl (.tmp 36) (.tmp 41) rfl w.heap.size _ _ _ rfl ((Hown.out.drewN _).alloc _) _ _ _ _ rfl (RB.new1 _ z _ (by simp)) h3 (by simp;omega) ?_;intro v' w1 hown1 hg1 hat1;have Hown1:=ne hown1;clear hown1)
     go_step3
     refine ⟨rfl,⟨k+2,acc++[z],v',_,_,_,_,_,_,_,_,_,_,_,_,_,_,_,_,_,_,_,_,_,_,_,_,_,_,_,_,_,_,_,_,_,_,_,_,_,_,_,rfl,by omega,by rw [List.length_append,List.length_singleton];have:=Hka.out;omega,by rw [List.length_append,List.length_singleton];exact Hown1.out,Hst.out, ?_⟩,by simp [intOf];omega⟩
     exact ((cW hbel _).alloc (by simp;omega) _).grown hg1 (by simp;omega) fun j hj=>(Hown.out.lt j hj).1
    ·have Hbad:=ne (Hat.out.bad Ha.out Hb.out hgood)
     by_cases hga:hv a<16
     ·have hgb:hv b=16:=by omega
      have e1:((hv a:Int)==16)=false:=by simp;omega
      have e2:((hv b:Int)==16)=true:=by simp;omega
      clear hgood hgb
      go_wp2
      go_quiet ((go_at_call 175;exact iO (iP _ _)))
      go_wp2
      simp only [Exit.jump]
      go_ret2
      exact cj.no Hbad.out (cW hbel _)
     ·have e1:((hv a:Int)==16)=true:=by simp;omega
      clear hgood
      go_wp2
      go_quiet ((go_at_call 175;exact iO (iP _ _)))
      go_wp2
      simp only [Exit.jump]
      go_ret2
      exact cj.no Hbad.out (cW hbel _)
   ·have hne:((k:Int)==(s.size:Int))=true:=by simp;omega
    have Hlast:=ne (Hat.out.last (by rw [Hl.out];omega))
    go_wp2
    simp only [Exit.jump]
    go_ret2
    exact cj.yes Hlast.out Hown.out hbel
def wW (l:List UInt8):Int:=if (eG l).isSome then 0 else 3
theorem cj.ret {l:List UInt8}{w w':World}{e:Ending}(h:cj l w e w'):aeb w ((eG l).getD []) (wW l) e w':=by
 obtain ⟨hb,⟨h1,rfl⟩ | ⟨bs,v,h1,rfl,ho⟩⟩:=h
 ·rw [wW,h1]
  exact ⟨none,0,0,rfl,Dp _,by simp [maxLen],RB.nil _ _,hb⟩
 ·rw [wW,h1]
  exact aeb.of ho hb
end Go.Proofs.YtllpjoggnfclgaaGreatDoor
namespace Go.Proofs.YtllpjoggnfclgaaGreatDoor
set_option maxRecDepth 100000
open Go.RowKit
set_option linter.unusedVariables false
set_option linter.unusedSimpArgs false
def eB (s:List UInt8):List Int:=ofB ((eG s).getD [])
def oY (s:List UInt8):Int:=if (eG s).isSome then 0 else 3
def uhK {R:Type}(args:List V)(k:V→Tree R):Tree R:=match args with
 | [.str s]=>.ite (decide (s.length≤1000000)) (k (.tup [.lst (.int .u8) (eB s),.c (.int .i64 (oY s))])) .fail
 | _=>.fail
theorem alq {w:World}{B:List Nat}{base n:Nat}{v:Value}{bs:List UInt8}(hB:∀ b∈B,b<base)(h:OB w base v n bs):Rel w B [] (.sl (flat (.int .u8) (ofB bs)) 1) v:=by
 have hlen:(flat (.int .u8) (ofB bs)).length=bs.length:=by rw [az,bm,show wd (.int .u8)=1 by kernel_rfl,Nat.mul_one]
 have hl:=h.len
 rcases h.2 with ⟨rfl,h0⟩ | ⟨g,cap,cur,rfl,hb,hg,h1,h2,h3,h4⟩
 ·have:bs=[]:=List.eq_nil_of_length_eq_zero (by omega)
  subst this
  exact lc (Dp 1) (.c _ _)
 ·refine .sl _ _ _ _ _ _ (fun j=>.int .u8 ((bs.getD j 0).toNat:Int)) (Dp 1) (by rw [hlen];omega) h1 h2 (fun _=>⟨_,rfl,rfl,(Array.getElem?_eq_some_iff.1 hg).1,fun hc=>by have:=hB _ hc;simp only at this;omega,fun j hj=> ?_⟩) (fun j x hx=> ?_)
  ·rw [hlen] at hj
   have e:(⟨g,0,none⟩:Addr).add j=⟨g,j,none⟩:=by simp [Addr.add];omega
   rw [e,cell_of_row w g j cur 5 (0,0) hg]
   have:(cur.toList.take (n*1))[j]? =some (.int .u8 ((bs.getD j 0).toNat:Int)):=by
    rw [h4,List.getElem?_map,List.getElem?_eq_getElem hj,List.getD_eq_getElem?_getD,List.getElem?_eq_getElem hj]
    rfl
   rw [List.getElem?_take,if_pos (by omega)] at this
   simpa using this
  ·rw [BZ,ofB,List.map_map,List.getElem?_map,Option.map_eq_some_iff] at hx
   obtain ⟨b,hb1,rfl⟩:=hx
   rw [List.getD_eq_getElem?_getD,hb1]
   exact .c _ _
theorem zk {w:World}{B:List Nat}{x y:Value}{a b:AV}(h1:Rel w B [] a x)(h2:Rel w B [] b y):Rel w B [] (.tup [a,b]) (.tuple #[x,y]):=
 .tup _ _ _ (fun i=>[x,y].getD i undef) rfl (fun i z hz=>by
  match i,hz with
  | 0,_=>rfl
  | 1,_=>rfl) (fun i z hz=>by
  match i,hz with
  | 0,hz=>simp at hz;subst hz;exact h1
  | 1,hz=>simp at hz;subst hz;exact h2)
theorem ak4 {w:World}{B:List Nat}{s:List UInt8}{e:Ending}{w':World}(hB:∀ b∈B,b<w.heap.size)(h:cj s w e w'):∃ v,e= .returned v∧Gr w w'∧Rel w' B [] (ex (.tup [.lst (.int .u8) (eB s),.c (.int .i64 (oY s))])) v:=by
 obtain ⟨hb,⟨h1,rfl⟩ | ⟨bs,v,h1,rfl,ho⟩⟩:=h
 ·refine ⟨_,rfl,hb,zk ?_ ?_⟩
  ·unfold eB;rw [h1];exact lc (Dp 1) (.c _ _)
  ·unfold oY;rw [h1];exact .c _ _
 ·refine ⟨_,rfl,hb,zk ?_ ?_⟩
  ·unfold eB;rw [h1];exact alq hB ho
  ·unfold oY;rw [h1];exact .c _ _
theorem apE {R:Type}{f:FuncId}(hf:∃ fn,gt.funcs[f]? =some fn∧fn.name≠ "runtime.NumGoroutine" ∧fn.body≠none) (hc:∀ (s:ByteArray) (w:World),s.size≤1000000→Calls gt f #[.string s] w (cj s.data.toList w)):
  ∀ args (k:V→Tree R) res,(uhK args k).run=some res→∃ r,(k r).run=some res∧r.plain=true∧(∀ l k,ex r≠.fresh l k)∧nd gt f args r:=by
 intro args k res h
 unfold uhK at h
 split at h
 ·rename_i s
  rcases Tree.run_ite h with ⟨hs,h⟩ | ⟨_,h⟩
  ·refine ⟨_,h,rfl,(fun l k h=>by cases h),kf.toV (fun w B cargs hB hgl hlen hrel=> ?_) hf⟩
   obtain ⟨a,rfl,h2⟩:=Bg hlen hrel
   have h2:=Rel.ofC h2
   subst h2
   have hl:(Do s.toArray).data.toList=s:=by simp
   have hsz:(Do s.toArray).size=s.length:=by show s.toArray.size=_;simp
   have:=hc ⟨s.toArray⟩ w (by rw [hsz];exact of_decide_eq_true hs)
   rw [hl] at this
   exact this.mono fun e w' hp=>ak4 hB hp
  ·cases h
 ·cases h
theorem arV {R:Type}:∀ args (k:V→Tree R) res,(uhK args k).run=some res→∃ r,(k r).run=some res∧r.plain=true∧(∀ l k,ex r≠.fresh l k)∧nd gt 144 args r:=
 apE (um Tryz.func144 (by decide +kernel) (by kernel_rfl)) adu
end Go.Proofs.YtllpjoggnfclgaaGreatDoor
