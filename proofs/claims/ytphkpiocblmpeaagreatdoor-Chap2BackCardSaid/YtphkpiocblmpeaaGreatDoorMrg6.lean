/-
  Parts of my own, one behind the other: QBs5, QCT7, QCT8.
-/
import Derived.Test.YtphkpiocblmpeaaGreatDoorMrg5
namespace Go.Proofs.YtphkpiocblmpeaaGreatDoor.Sh
set_option maxRecDepth 100000
open Go.RowKit
set_option linter.unusedVariables false
set_option linter.unusedSimpArgs false
set_option maxRecDepth 100000
theorem Arr.eq {α : Type} {n : Nat} {a b : Arr α n} (h : a.l = b.l) : a = b := by
 cases a; cases b; simp only at h; subst h; rfl
noncomputable def stepB (N : Nat) (t : Arr Int 5) (l : List Int) : Option (Arr Int 5) := (toArr 64 l).bind fun a => sha1_behind N t a ks05
noncomputable def runB (N : Nat) : Nat → Arr Int 5 → List Int → Option (Arr Int 5)
 | 0, t, _ => some t
 | m + 1, t, l => (stepB N t (l.take 64)).bind fun t' => runB N m t' (l.drop 64)
theorem toArr64 (l : List Int) (h : 64 ≤ l.length) : ∃ a : Arr Int 64, a.l = l.take 64 ∧ toArr 64 (l.take 64) = some a := by
 have h1 : 64 ≤ (l.take 64).length := by rw [List.length_take]; omega
 refine ⟨⟨(l.take 64).take 64, by rw [List.length_take]; omega⟩, ?_, dif_pos h1⟩
 exact List.take_of_length_le (by rw [List.length_take]; omega)
section
variable {N : Nat}
theorem runB_some (hN : 10000 ≤ N) : ∀ (m : Nat) (t : Arr Int 5) (l : List Int), AllW t.l → AllB l → l.length = 64 * m → ∃ t', AllW t'.l ∧ runB N m t l = some t'
 | 0, t, l, ht, _, _ => ⟨t, ht, rfl⟩
 | m + 1, t, l, ht, hl, hm => by
  obtain ⟨a, a1, a2⟩ := toArr64 l (by omega)
  obtain ⟨t1, h1, h2, _⟩ := behind_pair (N := N) hN t a ht (by rw [a1]; exact hl.take 64)
  obtain ⟨t', h3, h4⟩ := runB_some hN m t1 (l.drop 64) h1 (hl.drop 64) (by rw [List.length_drop]; omega)
  refine ⟨t', h3, ?_⟩
  unfold runB stepB
  rw [a2, Option.bind_some, h2, Option.bind_some, h4]
theorem loopOf (hN : 10000 ≤ N) (all : List Int) (ha : all.length < 100000) (h0 : Arr Int 20) : ∀ (m M i : Nat) (t t' : Arr Int 5), m < M → all.length = i + 64 * m → runB N m t (all.drop i) = some t' →
  gl (fun X c => sha1_Of_L5 N X c.1.1 c.1.2.1 c.2.1 c.2.2.1 c.2.2.2.1) M ((all, ((i : Int), ())), (h0, (t, (ks05, ())))) = some ((), (h0, (t', ())))
 | 0, M + 1, i, t, t', hM, hi, hr => by
  have c1 : ¬ ((i : Int) < (all.length : Int)) := by omega
  have hr : some t = some t' := hr
  injection hr with hr
  subst hr
  rw [gl_succ]
  simp only [sha1_Of_L5, c1, decide_false, cond_false]
 | m + 1, M + 1, i, t, t', hM, hi, hr => by
  have c1 : ((i : Int) < (all.length : Int)) := by omega
  have e0 : IntKind.wrap .i64 ((i : Int) + 64) = ((i + 64 : Nat) : Int) := by rw [wrap64 (by omega) (by omega)]; omega
  have s1 : subI all (i : Int) ((i + 64 : Nat) : Int) = some ((all.drop i).take 64) := by
   rw [subI_nat all rfl rfl (by omega) (by omega)]; congr 2; omega
  unfold runB stepB at hr
  cases hb : toArr 64 ((all.drop i).take 64) with
  | none => rw [hb] at hr; cases hr
  | some a =>
   rw [hb, Option.bind_some] at hr
   cases hc : sha1_behind N t a ks05 with
   | none => rw [hc] at hr; cases hr
   | some t1 =>
    rw [hc, Option.bind_some, List.drop_drop] at hr
    have ih := loopOf hN all ha h0 m M (i + 64) t1 t' (by omega) (by omega) (by rw [show i + 64 = i + 64 from rfl]; exact hr)
    rw [gl_succ]
    simp only [sha1_Of_L5, c1, decide_true, cond_true, e0, s1, Option.bind_some, hb, hc]
    exact ih
def dg5 (a b c d e : Int) : List Int := by4 a ++ by4 b ++ by4 c ++ by4 d ++ by4 e
theorem dg5_B (a b c d e : Int) : AllB (dg5 a b c d e) := AllB.append (AllB.append (AllB.append (AllB.append (by4_B a) (by4_B b)) (by4_B c)) (by4_B d)) (by4_B e)
end
def first05 : Arr Int 5 := Arr.cons 1732584193 (Arr.cons 4023233417 (Arr.cons 2562383102 (Arr.cons 271733878 (Arr.cons 3285377520 Arr.nil))))
theorem first_W : AllW first05.l := fun x hx => by
 simp only [first05, Arr.cons, Arr.nil, List.mem_cons, List.not_mem_nil, or_false] at hx
 rcases hx with rfl | rfl | rfl | rfl | rfl <;> omega
def nb (n : Nat) : Nat := (n + (tail5 (n : Int)).length) / 64
theorem nb_ok (n : Nat) (l : List Int) (h : l.length = n) : (l ++ tail5 (n : Int)).length = 64 * nb n := by
 unfold nb
 rw [List.length_append, tail5_len, h]
 unfold nz
 omega
theorem of_ok (l : List (List Int)) (hl : l.length ≤ 1000) (hs : ∀ p ∈ l, p.length ≤ 5000 ∧ AllB p) (hf : l.flatten.length ≤ 5000) :
  ∃ a b c d e ht, ∃ D : Arr Int 20, runB 200000 (nb l.flatten.length) first05 (l.flatten ++ tail5 (l.flatten.length : Int)) = some ⟨[a, b, c, d, e], ht⟩ ∧ AllW [a, b, c, d, e] ∧ D.l = dg5 a b c d e ∧ sha1_Of 200000 l = some D := by
 have hB : AllB l.flatten := fun x hx => by
  obtain ⟨p, hp, hx⟩ := List.mem_flatten.1 hx
  exact (hs p hp).2 x hx
 have hall : AllB (l.flatten ++ tail5 (l.flatten.length : Int)) := hB.append (tail5_B _)
 have hlen := nb_ok l.flatten.length l.flatten rfl
 have htl := tail5_len (l.flatten.length : Int)
 have hnz := nz_lt (l.flatten.length : Int)
 obtain ⟨t', t1, t2⟩ := runB_some (N := 200000) (by omega) (nb l.flatten.length) first05 _ first_W hall hlen
 match t', t1, t2 with
 | ⟨[a, b, c, d, e], ht⟩, t1, t2 =>
  obtain ⟨D, d1, d2⟩ := digest_ok (N := 200000) a b c d e ht t1 (by omega)
  refine ⟨a, b, c, d, e, ht, D, t2, t1, d1, ?_⟩
  have hj : ∀ h0, _ := fun h0 => joinS (N := 200000) l h0 hl (fun p hp => by have := (hs p hp).1; omega) (by omega)
  have hwn : IntKind.wrap .u64 (l.flatten.length : Int) = (l.flatten.length : Int) := wrapU64 (by omega) (by omega)
  have htail := sha1_tail_ok (N := 200000) (l.flatten.length : Int) (by omega) (by omega)
  have c4 : (decide ((0 : Int) ≤ (0 : Int) ∧ (0 : Int) ≤ (l.flatten.length : Int)) && roomB (Int.toNat (l.flatten.length : Int)) 1) = true := by
   rw [Bool.and_eq_true]
   exact ⟨decide_eq_true ⟨by omega, by omega⟩, roomB_of (by have := big_len; omega) (by omega)⟩
  have c5 : roomB (l.flatten.length + (tail5 (l.flatten.length : Int)).length) 1 = true := roomB_of (by have := big_len; omega) (by omega)
  have hloop : ∀ h0, sha1_Of_L5_R 200000 (((l.flatten ++ tail5 (l.flatten.length : Int)), ((0 : Int), ())), (h0, (first05, (ks05, ())))) = some ((), (h0, ((⟨[a, b, c, d, e], ht⟩ : Arr Int 5), ()))) := fun h0 =>
   loopOf (N := 200000) (by omega) _ (by rw [List.length_append]; omega) h0 (nb l.flatten.length) 200000 0 first05 _ (by rw [List.length_append] at hlen; omega) (by rw [hlen]; omega) t2
  have e0 : List.replicate (Int.toNat 0) (0 : Int) = [] := rfl
  unfold sha1_Of
  rw [(hj _).1, Option.bind_some]
  simp only [c4, cond_true, e0]
  rw [(hj _).2, Option.bind_some]
  simp only [hwn]
  rw [htail, Option.bind_some]
  simp only [c5, cond_true, consts05, Option.bind_some]
  refine (congrArg (fun o => Option.bind o _) (hloop _)).trans ?_
  simp only [Option.bind_some, d2]
theorem wfB_b {n : Nat} (a : Arr Int n) (h : AllB a.l) : wfB (.arr n (.int .u8)) a = true := List.all_eq_true.2 fun x hx => by
 have h1 := h x hx
 show (Lit.int .u8 x).wf = true
 simp only [Lit.wf, Bool.and_eq_true, decide_eq_true_eq, IntKind.min, IntKind.max, IntKind.signed, IntKind.bits]
 simp
 omega
end Go.Proofs.YtphkpiocblmpeaaGreatDoor.Sh
namespace Go.Proofs.YtphkpiocblmpeaaGreatDoor
set_option maxRecDepth 100000
open Go.RowKit
set_option linter.unusedVariables false
set_option linter.unusedSimpArgs false
set_option maxRecDepth 100000
theorem part_len {l : List (List Int)} {n : Nat} (hf : l.flatten.length ≤ n) : ∀ p ∈ l, p.length ≤ n := fun p hp => by
 have := (List.sublist_flatten_of_mem hp).length_le
 omega
theorem md4_any (l : List (List Int)) (hl : l.length ≤ 1000) (hs : ∀ p ∈ l, AllB p) (hf : l.flatten.length ≤ 1000) : ∃ D : Arr Int 16, AllB D.l ∧ md4_Of 200000 l = some D := by
 obtain ⟨a, b, c, d, ht, D, r1, r2, r3, r4⟩ := of_ok l hl (fun p hp => ⟨by have := part_len hf p hp; omega, hs p hp⟩) (by omega)
 exact ⟨D, by rw [r3]; exact dg4_B _ _ _ _, r4⟩
theorem sha1_any (l : List (List Int)) (hl : l.length ≤ 1000) (hs : ∀ p ∈ l, AllB p) (hf : l.flatten.length ≤ 1000) : ∃ D : Arr Int 20, AllB D.l ∧ sha1_Of 200000 l = some D := by
 obtain ⟨a, b, c, d, e, ht, D, r1, r2, r3, r4⟩ := Sh.of_ok l hl (fun p hp => ⟨by have := part_len hf p hp; omega, hs p hp⟩) (by omega)
 exact ⟨D, by rw [r3]; exact Sh.dg5_B _ _ _ _ _, r4⟩
theorem twice_any (h : Arr Int 16) (hb : AllB h.l) : ∃ D : Arr Int 16, AllB D.l ∧ nthash_Twice 200000 h = some D := by
 obtain ⟨D, d1, d2⟩ := md4_any [h.l] (by simp) (fun p hp => by rw [List.mem_singleton] at hp; subst hp; exact hb) (by have := h.h; simp only [List.flatten_cons, List.flatten_nil, List.append_nil]; omega)
 exact ⟨D, d1, by simp only [nthash_Twice, d2, Option.bind_some]⟩
def sMagic : List UInt8 := [77, 97, 103, 105, 99, 32, 115, 101, 114, 118, 101, 114, 32, 116, 111, 32, 99, 108, 105, 101, 110, 116, 32, 115, 105, 103, 110, 105, 110, 103, 32, 99, 111, 110, 115, 116, 97, 110, 116]
def sPad : List UInt8 := [80, 97, 100, 32, 116, 111, 32, 109, 97, 107, 101, 32, 105, 116, 32, 100, 111, 32, 109, 111, 114, 101, 32, 116, 104, 97, 110, 32, 111, 110, 101, 32, 105, 116, 101, 114, 97, 116, 105, 111, 110]
def sS : List UInt8 := [83, 61]
theorem answer_def (N : Nat) (h : Arr Int 16) (r : Arr Int 24) (c : Arr Int 8) : chap2_Answer N h r c = (nthash_Twice N h).bind fun t => (sha1_Of N [t.l, r.l, ofB sMagic]).bind fun d => (sha1_Of N [d.l, c.l, ofB sPad]).bind fun e => (octs_Hex N e.l).bind fun x => bif decide ((sS.length + x.length) ≤ Go.maxLen) then some (sS ++ x) else none := by kernel_rfl
theorem answer_any (h : Arr Int 16) (r : Arr Int 24) (c : Arr Int 8) (hb : AllB h.l) (rb : AllB r.l) (cb : AllB c.l) : ∃ E : Arr Int 20, AllB E.l ∧ chap2_Answer 200000 h r c = some (sS ++ hexS E.l) := by
 obtain ⟨t, t3, t1⟩ := twice_any h hb
 have tl := t.h
 have rl := r.h
 have cl := c.h
 have sl : sMagic.length = 39 := rfl
 have pl : sPad.length = 41 := rfl
 obtain ⟨D, d1, d2⟩ := sha1_any [t.l, r.l, ofB sMagic] (by simp) (fun p hp => by
  simp only [List.mem_cons, List.not_mem_nil, or_false] at hp
  rcases hp with rfl | rfl | rfl
  ·exact t3
  ·exact rb
  ·exact ofB_all _) (by simp only [List.flatten_cons, List.flatten_nil, List.length_append, ofB_length, List.length_nil]; omega)
 have Dl := D.h
 obtain ⟨E, e1, e2⟩ := sha1_any [D.l, c.l, ofB sPad] (by simp) (fun p hp => by
  simp only [List.mem_cons, List.not_mem_nil, or_false] at hp
  rcases hp with rfl | rfl | rfl
  ·exact d1
  ·exact cb
  ·exact ofB_all _) (by simp only [List.flatten_cons, List.flatten_nil, List.length_append, ofB_length, List.length_nil]; omega)
 have El := E.h
 have x1 := hex_p (N := 200000) E.l e1 (by omega) (by omega)
 have hx : decide ((sS.length + (hexS E.l).length) ≤ Go.maxLen) = true := decide_eq_true (by
  have := big_len
  rw [hexS_len, show sS.length = 2 from rfl]; omega)
 refine ⟨E, e1, ?_⟩
 rw [answer_def, t1, Option.bind_some, d2, Option.bind_some, e2, Option.bind_some, x1, Option.bind_some, hx]
 rfl
theorem gr_dg : ∀ n : Nat, n < 16 → gr (dg n) = true := by decide +kernel
theorem grs_hex : ∀ c : List Int, AllB c → grs (hexS c) = true
 | [], _ => rfl
 | v :: c, h => by
  have hv' := h v List.mem_cons_self
  have ih := grs_hex c (fun x hx => h x (List.mem_cons_of_mem _ hx))
  show (gr (dg (v.toNat / 16)) && (gr (dg (v.toNat % 16)) && grs (hexS c))) = true
  rw [gr_dg _ (by omega), gr_dg _ (by omega), ih]
  rfl
theorem told_back (E : List Int) (hE : AllB E) (hl : E.length = 20) (t : List UInt8) : toldS ((sS ++ hexS E) ++ mM ++ t) = (sS ++ hexS E, 0) := by
 have xl : (sS ++ hexS E).length = 42 := by rw [List.length_append, hexS_len, hl]; rfl
 have tl : (((sS ++ hexS E) ++ mM) ++ t).length = 45 + t.length := by rw [List.length_append, List.length_append, xl]; rfl
 have tk : (((sS ++ hexS E) ++ mM) ++ t).take 42 = sS ++ hexS E := by rw [List.append_assoc]; exact List.take_left' xl
 have b0 : bt (((sS ++ hexS E) ++ mM) ++ t) 0 = 83 := rfl
 have b1 : bt (((sS ++ hexS E) ++ mM) ++ t) 1 = 61 := rfl
 have b42 : bt (((sS ++ hexS E) ++ mM) ++ t) 42 = 32 := by
  unfold bt
  rw [List.append_assoc, List.getD_eq_getElem?_getD, List.getElem?_append_right (by omega), xl]
  rfl
 have dr : ((((sS ++ hexS E) ++ mM) ++ t).take 42).drop 2 = hexS E := by rw [tk]; rfl
 unfold toldS
 rw [if_neg (by omega), if_pos ⟨b0, b1, by rw [dr]; exact grs_hex E hE, fun _ => b42⟩, tk]
theorem val_len (p : Arr Int 16) (r : Arr Int 24) : (valB p.l r.l).length = 49 := by
 have hp := p.h
 have hr := r.h
 simp only [valB, List.length_append, List.length_replicate, List.length_cons, List.length_nil]; omega
theorem val_peer (p : Arr Int 16) (r : Arr Int 24) (h : (valB p.l r.l).length = 49) : peerOf (valB p.l r.l) h = p := Arr.eq (by
 show (p.l ++ List.replicate 8 0 ++ r.l ++ [0]).take 16 = p.l
 rw [List.append_assoc, List.append_assoc]
 exact List.take_left' p.h)
theorem val_resp (p : Arr Int 16) (r : Arr Int 24) (h : (valB p.l r.l).length = 49) : respOf (valB p.l r.l) h = r := Arr.eq (by
 show ((p.l ++ List.replicate 8 0 ++ r.l ++ [0]).drop 24).take 24 = r.l
 rw [List.append_assoc, List.drop_left' (by have := p.h; simp only [List.length_append, List.length_replicate]; omega)]
 exact List.take_left' r.h)
theorem parse_back (p : Arr Int 16) (r : Arr Int 24) (hp : AllB p.l) (hr : AllB r.l) : chap2_Parse 200000 (valB p.l r.l) = some (p, r, 0) := by
 have hl := val_len p r
 have hB : AllB (valB p.l r.l) := ((hp.append (rep_B 8 0 (by omega))).append hr).append (AllB.cons (by omega) AllB.nil)
 rw [parse_ok _ hB (by omega), dif_pos hl, if_pos ((value_iff _ hl).1 (by rw [val_peer, val_resp])), val_peer, val_resp]
theorem law_Chap2Back (p : Arr Int 16) (r : Arr Int 24) (f : Fl) (w1 : wfT (.arr 16 (.int .u8)) p) (w2 : wfT (.arr 24 (.int .u8)) r) (w3 : wfT TF f) : law11_Chap2Back 200000 p r f = some true := by
 have hp : AllB p.l := fun x hx => wf_u8 (w1 x hx)
 have hr : AllB r.l := fun x hx => wf_u8 (w2 x hx)
 have hc : AllB f.2.2.1.l := fun x hx => wf_u8 (w3.2.2.1 x hx)
 unfold law11_Chap2Back
 have hal := alive11
 generalize law11_alive 200000 = al at hal ⊢
 subst hal
 by_cases l1 : (300 : Int) < (f.2.2.2.length : Int)
 ·exact (bpos l1).trans (bnd rfl)
 ·refine (bneg l1).trans ?_
  have hz : AllB (@Arr.cons Int 7 0 (@Arr.cons Int 6 0 (@Arr.cons Int 5 0 (@Arr.cons Int 4 0 (@Arr.cons Int 3 0 (@Arr.cons Int 2 0 (@Arr.cons Int 1 0 (@Arr.cons Int 0 0 (@Arr.nil Int))))))))).l := rep_B 8 0 (by omega)
  obtain ⟨E, e1, e2⟩ := answer_any p r _ hp hr hz
  have El := E.h
  have hxl : (sS ++ hexS E.l).length = 42 := by rw [List.length_append, hexS_len, El]; rfl
  have hd : ∀ (n : Nat) (x : Arr Int n), @Decidable.decide (@Eq (Arr Int n) x x) (@decT (.arr n (.int .u8)) x x) = true := fun n x => decide_eq_true rfl
  refine (bnd (value_ok p r)).trans ?_
  refine (bnd (parse_back p r hp hr)).trans ?_
  refine (bnd e2).trans ?_
  refine (bnd (succ_p _ f.2.2.2 (by omega) (by omega))).trans ?_
  refine (bnd (told_p _)).trans ?_
  rw [told_back E.l e1 El]
  refine (bnd (fail_p f hc (by omega))).trans ?_
  have hwp := wfB_b p hp
  have hwr := wfB_b r hr
  rcases failS_cases f hc with ⟨q1, q2⟩ | q2
  ·rw [q2]
   refine (bpos rfl).trans ?_
   have hwf := wf_fine q1 (show f.2.2.2.length ≤ 100000 by omega)
   have hdf : @Decidable.decide (@Eq Fl f f) (@decT TF f f) = true := decide_eq_true rfl
   refine (bnd (backP f q1 (by omega))).trans ?_
   refine (bvp (by rw [Bool.and_eq_true]; exact ⟨hwf, hwf⟩)).trans ?_
   refine (bnd (v := false) ((bvn (by rw [Bool.not_eq_false']; exact hdf)).trans rfl)).trans ((bvn rfl).trans ?_)
   simp only [hwp, hwr, Bool.and_self, cond_true, cond_false, hd, Option.bind_some, decide_true]
  ·refine (bneg q2).trans ?_
   simp only [hwp, hwr, Bool.and_self, cond_true, cond_false, hd, Option.bind_some, decide_true]
end Go.Proofs.YtphkpiocblmpeaaGreatDoor
