/-
  Layer 4, on plain data: digests, and parts.
-/
import Derived.Test.YtpjamebfpgmjdaaDoorQM4
namespace Go.Proofs.YtpjamebfpgmjdaaDoor
set_option maxRecDepth 100000
open Go.RowKit
set_option linter.unusedVariables false
set_option linter.unusedSimpArgs false
set_option maxRecDepth 100000

theorem Arr.eq {α : Type} {n : Nat} {a b : Arr α n} (h : a.l = b.l) : a = b := by
  cases a; cases b; simp only at h; subst h; rfl
noncomputable def stepB (N : Nat) (t : Arr Int 4) (l : List Int) : Option (Arr Int 4) := (toArr 64 l).bind fun a => md4_behind N t a ks04
noncomputable def runB (N : Nat) : Nat → Arr Int 4 → List Int → Option (Arr Int 4)
  | 0, t, _ => some t
  | m + 1, t, l => (stepB N t (l.take 64)).bind fun t' => runB N m t' (l.drop 64)
theorem toArr64 (l : List Int) (h : 64 ≤ l.length) : ∃ a : Arr Int 64, a.l = l.take 64 ∧ toArr 64 (l.take 64) = some a := by
  have h1 : 64 ≤ (l.take 64).length := by rw [List.length_take]; omega
  refine ⟨⟨(l.take 64).take 64, by rw [List.length_take]; omega⟩, ?_, dif_pos h1⟩
  exact List.take_of_length_le (by rw [List.length_take]; omega)
section
variable {N : Nat}
theorem runB_some (hN : 10000 ≤ N) : ∀ (m : Nat) (t : Arr Int 4) (l : List Int), AllW t.l → AllB l → l.length = 64 * m → ∃ t', AllW t'.l ∧ runB N m t l = some t'
  | 0, t, l, ht, _, _ => ⟨t, ht, rfl⟩
  | m + 1, t, l, ht, hl, hm => by
    obtain ⟨a, a1, a2⟩ := toArr64 l (by omega)
    obtain ⟨t1, h1, h2, _⟩ := behind_pair (N := N) hN t a ht (by rw [a1]; exact hl.take 64)
    obtain ⟨t', h3, h4⟩ := runB_some hN m t1 (l.drop 64) h1 (hl.drop 64) (by rw [List.length_drop]; omega)
    refine ⟨t', h3, ?_⟩
    unfold runB stepB
    rw [a2, Option.bind_some, h2, Option.bind_some, h4]
/-- All blocks, one behind the other. -/
theorem loopOf (hN : 10000 ≤ N) (all : List Int) (ha : all.length < 100000) (h0 : Arr Int 16) : ∀ (m M i : Nat) (t t' : Arr Int 4), m < M → all.length = i + 64 * m → runB N m t (all.drop i) = some t' →
    gl (fun X c => md4_Of_L5 N X c.1.1 c.1.2.1 c.2.1 c.2.2.1 c.2.2.2.1) M ((all, ((i : Int), ())), (h0, (t, (ks04, ())))) = some ((), (h0, (t', ())))
  | 0, M + 1, i, t, t', hM, hi, hr => by
    have c1 : ¬ ((i : Int) < (all.length : Int)) := by omega
    have hr : some t = some t' := hr
    injection hr with hr
    subst hr
    rw [gl_succ]
    simp only [md4_Of_L5, c1, decide_false, cond_false]
  | m + 1, M + 1, i, t, t', hM, hi, hr => by
    have c1 : ((i : Int) < (all.length : Int)) := by omega
    have e0 : Go.IntKind.wrap .i64 ((i : Int) + 64) = ((i + 64 : Nat) : Int) := by rw [wrap64 (by omega) (by omega)]; omega
    have s1 : subI all (i : Int) ((i + 64 : Nat) : Int) = some ((all.drop i).take 64) := by
      rw [subI_nat all rfl rfl (by omega) (by omega)]; congr 2; omega
    unfold runB stepB at hr
    cases hb : toArr 64 ((all.drop i).take 64) with
    | none => rw [hb] at hr; cases hr
    | some a =>
      rw [hb, Option.bind_some] at hr
      cases hc : md4_behind N t a ks04 with
      | none => rw [hc] at hr; cases hr
      | some t1 =>
        rw [hc, Option.bind_some, List.drop_drop] at hr
        have ih := loopOf hN all ha h0 m M (i + 64) t1 t' (by omega) (by omega) (by rw [show i + 64 = i + 64 from rfl]; exact hr)
        rw [gl_succ]
        simp only [md4_Of_L5, c1, decide_true, cond_true, e0, s1, Option.bind_some, hb, hc]
        exact ih
theorem fillOf (hN : 10000 ≤ N) (all : List Int) (ha : all.length < 100000) (h0 : Arr Int 16) (t : Arr Int 4) (x : Nat) (hx : x + 64 ≤ all.length) : ∀ (k M i : Nat) (blk : Arr Int 64), k + i = 64 → k < M →
    ∃ b2 : Arr Int 64, b2.l = blk.l.take i ++ (all.drop (x + i)).take k ∧ gl (fun X c => ref04_Of_L8 N X c.1.1 c.1.2.1 c.2.1 c.2.2.1 c.2.2.2.1 c.2.2.2.2.1) M (((x : Int), ((i : Int), ())), (h0, (all, (t, (blk, ()))))) = some (((x : Int), ()), (h0, (all, (t, (b2, ())))))
  | 0, M + 1, i, blk, hk, hM => by
    have c1 : ¬ ((i : Int) < 64) := by omega
    refine ⟨blk, ?_, ?_⟩
    · rw [List.take_of_length_le (by rw [blk.h]; omega), List.take_zero, List.append_nil]
    · rw [gl_succ]
      simp only [ref04_Of_L8, c1, decide_false, cond_false]
  | k + 1, M + 1, i, blk, hk, hM => by
    have hbl := blk.h
    have c1 : ((i : Int) < 64) := by omega
    have e0 : Go.IntKind.wrap .i64 ((i : Int) + 1) = ((i + 1 : Nat) : Int) := by rw [wrap64 (by omega) (by omega)]; omega
    have e2 : Go.IntKind.wrap .i64 ((x : Int) + (i : Int)) = ((x + i : Nat) : Int) := by rw [wrap64 (by omega) (by omega)]; omega
    have c2 : (0 : Int) ≤ ((x + i : Nat) : Int) ∧ ((x + i : Nat) : Int) < (all.length : Int) := by omega
    have c3 : (0 : Int) ≤ (i : Int) ∧ (i : Int) < ((64 : Nat) : Int) := by omega
    have e1 : Int.toNat (i : Int) = i := Int.toNat_natCast i
    have e3 : Int.toNat ((x + i : Nat) : Int) = x + i := Int.toNat_natCast _
    have g1 : all[x + i]? = some (all[x + i]'(by omega)) := List.getElem?_eq_getElem _
    have g2 : blk.l[i]? = some (blk.l[i]'(by omega)) := List.getElem?_eq_getElem _
    obtain ⟨b2, h1, h2⟩ := fillOf hN all ha h0 t x hx k M (i + 1) (blk.set i (all[x + i]'(by omega))) (by omega) (by omega)
    refine ⟨b2, ?_, ?_⟩
    · rw [h1]
      have q1 : (blk.set i (all[x + i]'(by omega))).l.take (i + 1) = blk.l.take i ++ [all[x + i]'(by omega)] := by
        show (blk.l.set i _).take (i + 1) = _
        rw [List.take_add_one, List.take_set_of_le (Nat.le_refl _), List.getElem?_set_self (by omega)]
        rfl
      rw [q1, List.append_assoc]
      congr 1
      rw [List.drop_eq_getElem_cons (show x + i < all.length by omega), List.take_succ_cons]
      rfl
    · rw [gl_succ]
      simp only [ref04_Of_L8, c1, decide_true, cond_true, e2, c2, and_self, e3, g1, Option.bind_some, c3, e1, g2, e0]
      exact h2
theorem loopRef (hN : 10000 ≤ N) (all : List Int) (ha : all.length < 100000) (hB : AllB all) (h0 : Arr Int 16) : ∀ (m M i : Nat) (t t' : Arr Int 4), m < M → all.length = i + 64 * m → AllW t.l → runB N m t (all.drop i) = some t' →
    gl (fun X c => ref04_Of_L4 N X c.1.1 c.2.1 c.2.2.1 c.2.2.2.1) M (((i : Int), ()), (h0, (all, (t, ())))) = some ((), (h0, (t', ())))
  | 0, M + 1, i, t, t', hM, hi, hw, hr => by
    have c1 : ¬ ((i : Int) < (all.length : Int)) := by omega
    have hr : some t = some t' := hr
    injection hr with hr
    subst hr
    rw [gl_succ]
    simp only [ref04_Of_L4, c1, decide_false, cond_false]
  | m + 1, M + 1, i, t, t', hM, hi, hw, hr => by
    have c1 : ((i : Int) < (all.length : Int)) := by omega
    have e0 : Go.IntKind.wrap .i64 ((i : Int) + 64) = ((i + 64 : Nat) : Int) := by rw [wrap64 (by omega) (by omega)]; omega
    obtain ⟨b2, f1, f2⟩ := fillOf (N := N) hN all ha h0 t i (by omega) 64 N 0 ⟨List.replicate 64 0, rfl⟩ (by omega) (by omega)
    have f2' : ref04_Of_L8_R N (((i : Int), ((0 : Int), ())), (h0, (all, (t, ((⟨List.replicate 64 0, rfl⟩ : Arr Int 64), ()))))) = some (((i : Int), ()), (h0, (all, (t, (b2, ()))))) := f2
    have f1' : b2.l = (all.drop i).take 64 := by rw [f1]; simp
    obtain ⟨a, a1, a2⟩ := toArr64 (all.drop i) (by rw [List.length_drop]; omega)
    have hab : a = b2 := Arr.eq (by rw [a1, f1'])
    subst hab
    obtain ⟨t1, h1, h2, h3⟩ := behind_pair (N := N) hN t a hw (by rw [a1]; exact (hB.drop i).take 64)
    unfold runB stepB at hr
    rw [a2, Option.bind_some, h2, Option.bind_some, List.drop_drop] at hr
    have ih := loopRef hN all ha hB h0 m M (i + 64) t1 t' (by omega) (by omega) h1 hr
    rw [gl_succ]
    simp only [ref04_Of_L4, c1, decide_true, cond_true]
    refine (congrArg (fun o => Option.bind o _) f2').trans ?_
    simp only [Option.bind_some, h3, e0]
    exact ih
def dg4 (a b c d : Int) : List Int := by4 a ++ by4 b ++ by4 c ++ by4 d
theorem dg4_B (a b c d : Int) : AllB (dg4 a b c d) := AllB.append (AllB.append (AllB.append (by4_B a) (by4_B b)) (by4_B c)) (by4_B d)
theorem dg4_at (a b c d : Int) (i : Nat) (hi : i < 16) (v : Int) (hv : ([a, b, c, d] : List Int)[i / 4]? = some v) : (dg4 a b c d)[i]? = some (Go.IntKind.wrap .u8 (Int.fdiv v (2 ^ (8 * (i % 4))))) := by
  have fd : ∀ k : Nat, Int.fdiv v (2 ^ k) = v / 2 ^ k := fun k => Int.fdiv_eq_ediv_of_nonneg _ (Int.le_of_lt (Int.pow_pos (by decide)))
  rw [fd, IntKind.wrap_u8]
  have : i = 0 ∨ i = 1 ∨ i = 2 ∨ i = 3 ∨ i = 4 ∨ i = 5 ∨ i = 6 ∨ i = 7 ∨ i = 8 ∨ i = 9 ∨ i = 10 ∨ i = 11 ∨ i = 12 ∨ i = 13 ∨ i = 14 ∨ i = 15 := by omega
  rcases this with rfl | rfl | rfl | rfl | rfl | rfl | rfl | rfl | rfl | rfl | rfl | rfl | rfl | rfl | rfl | rfl <;> simp at hv <;> subst hv <;> simp [dg4, by4]
theorem outRef (hN : 10000 ≤ N) (a b c d : Int) (ht : ([a, b, c, d] : List Int).length = 4) (h0 : Arr Int 16) : ∀ (k M i : Nat) (o : Arr Int 16), k + i = 16 → k < M →
    ∃ D : Arr Int 16, D.l = o.l.take i ++ (dg4 a b c d).drop i ∧ gl (fun X c => ref04_Of_L14 N X c.1.1 c.2.1 c.2.2.1 c.2.2.2.1) M (((i : Int), ()), (h0, ((⟨[a, b, c, d], ht⟩ : Arr Int 4), (o, ())))) = some ((), (h0, (D, ())))
  | 0, M + 1, i, o, hk, hM => by
    have c1 : ¬ ((i : Int) < 16) := by omega
    have hol := o.h
    refine ⟨o, ?_, ?_⟩
    · rw [List.take_of_length_le (by omega), List.drop_eq_nil_of_le (by simp [dg4, by4]; omega), List.append_nil]
    · rw [gl_succ]
      simp only [ref04_Of_L14, c1, decide_false, cond_false]
  | k + 1, M + 1, i, o, hk, hM => by
    have hol := o.h
    have c1 : ((i : Int) < 16) := by omega
    have e0 : Go.IntKind.wrap .i64 ((i : Int) + 1) = ((i + 1 : Nat) : Int) := by rw [wrap64 (by omega) (by omega)]; omega
    have f1 : Go.IntKind.wrap .i64 (Int.tdiv (i : Int) 4) = ((i / 4 : Nat) : Int) := by
      rw [Int.tdiv_eq_ediv_of_nonneg (by omega), wrap64 (by omega) (by omega)]; omega
    have f0 : Go.IntKind.wrap .i64 ((8 : Int) * Int.tmod (i : Int) 4) = ((8 * (i % 4) : Nat) : Int) := by
      rw [Int.tmod_eq_emod_of_nonneg (by omega), wrap64 (by omega) (by omega)]; omega
    have c2 : (0 : Int) ≤ ((i / 4 : Nat) : Int) ∧ ((i / 4 : Nat) : Int) < ((4 : Nat) : Int) := by omega
    have c3 : (0 : Int) ≤ ((8 * (i % 4) : Nat) : Int) := by omega
    have c4 : (0 : Int) ≤ (i : Int) ∧ (i : Int) < ((16 : Nat) : Int) := by omega
    have e1 : Int.toNat (i : Int) = i := Int.toNat_natCast i
    have e2 : Int.toNat ((i / 4 : Nat) : Int) = i / 4 := Int.toNat_natCast _
    have e3 : min (Int.toNat ((8 * (i % 4) : Nat) : Int)) (IntKind.bits .u32) = 8 * (i % 4) := by
      rw [Int.toNat_natCast]; show min _ 32 = _; omega
    have g1 : ([a, b, c, d] : List Int)[i / 4]? = some (([a, b, c, d] : List Int)[i / 4]'(by simp; omega)) := List.getElem?_eq_getElem _
    have g2 : o.l[i]? = some (o.l[i]'(by omega)) := List.getElem?_eq_getElem _
    have hd := dg4_at a b c d i (by omega) _ g1
    generalize ([a, b, c, d] : List Int)[i / 4]'(by simp; omega) = v at *
    obtain ⟨D, h1, h2⟩ := outRef hN a b c d ht h0 k M (i + 1) (o.set i (Go.IntKind.wrap .u8 (Int.fdiv v (2 ^ (8 * (i % 4)))))) (by omega) (by omega)
    refine ⟨D, ?_, ?_⟩
    · rw [h1]
      have q1 : (o.set i (Go.IntKind.wrap .u8 (Int.fdiv v (2 ^ (8 * (i % 4)))))).l.take (i + 1) = o.l.take i ++ [Go.IntKind.wrap .u8 (Int.fdiv v (2 ^ (8 * (i % 4))))] := by
        show (o.l.set i _).take (i + 1) = _
        rw [List.take_add_one, List.take_set_of_le (Nat.le_refl _), List.getElem?_set_self (by omega)]
        rfl
      rw [q1, List.append_assoc]
      congr 1
      obtain ⟨hlt, hv⟩ := List.getElem?_eq_some_iff.1 hd
      rw [List.drop_eq_getElem_cons hlt, hv]
      rfl
    · rw [gl_succ]
      simp only [ref04_Of_L14, c1, decide_true, cond_true, f1, c2, and_self, e2, g1, Option.bind_some, f0, c3, c4, e1, g2, e0, e3]
      exact h2
end
def first04 : Arr Int 4 := Arr.cons 1732584193 (Arr.cons 4023233417 (Arr.cons 2562383102 (Arr.cons 271733878 Arr.nil)))
theorem first_W : AllW first04.l := fun x hx => by
  simp only [first04, Arr.cons, Arr.nil, List.mem_cons, List.not_mem_nil, or_false] at hx
  rcases hx with rfl | rfl | rfl | rfl <;> omega
/-- So many blocks. -/
def nb (n : Nat) : Nat := (n + (tail4 (n : Int)).length) / 64
theorem nb_ok (n : Nat) (l : List Int) (h : l.length = n) : (l ++ tail4 (n : Int)).length = 64 * nb n := by
  unfold nb
  rw [List.length_append, tail4_len, h]
  unfold nz
  omega
/-- The digest of parts. -/
theorem of_ok (l : List (List Int)) (hl : l.length ≤ 1000) (hs : ∀ p ∈ l, p.length ≤ 5000 ∧ AllB p) (hf : l.flatten.length ≤ 5000) :
    ∃ a b c d ht, ∃ D : Arr Int 16, runB 200000 (nb l.flatten.length) first04 (l.flatten ++ tail4 (l.flatten.length : Int)) = some ⟨[a, b, c, d], ht⟩ ∧ AllW [a, b, c, d] ∧ D.l = dg4 a b c d ∧ md4_Of 200000 l = some D := by
  have hB : AllB l.flatten := fun x hx => by
    obtain ⟨p, hp, hx⟩ := List.mem_flatten.1 hx
    exact (hs p hp).2 x hx
  have hall : AllB (l.flatten ++ tail4 (l.flatten.length : Int)) := hB.append (tail4_B _)
  have hlen := nb_ok l.flatten.length l.flatten rfl
  have htl := tail4_len (l.flatten.length : Int)
  have hnz := nz_lt (l.flatten.length : Int)
  obtain ⟨t', t1, t2⟩ := runB_some (N := 200000) (by omega) (nb l.flatten.length) first04 _ first_W hall hlen
  match t', t1, t2 with
  | ⟨[a, b, c, d], ht⟩, t1, t2 =>
    obtain ⟨D, d1, d2⟩ := digest_ok (N := 200000) a b c d ht t1 (by omega)
    refine ⟨a, b, c, d, ht, D, t2, t1, d1, ?_⟩
    have hj : ∀ h0, _ := fun h0 => joinS (N := 200000) l h0 hl (fun p hp => by have := (hs p hp).1; omega) (by omega)
    have hwn : Go.IntKind.wrap .u64 (l.flatten.length : Int) = (l.flatten.length : Int) := wrapU64 (by omega) (by omega)
    have htail := md4_tail_ok (N := 200000) (l.flatten.length : Int) (by omega) (by omega)
    have c4 : (decide ((0 : Int) ≤ (0 : Int) ∧ (0 : Int) ≤ (l.flatten.length : Int)) && roomB (Int.toNat (l.flatten.length : Int)) 1) = true := by
      rw [Bool.and_eq_true]
      exact ⟨decide_eq_true ⟨by omega, by omega⟩, roomB_of (by have := big_len; omega) (by omega)⟩
    have c5 : roomB (l.flatten.length + (tail4 (l.flatten.length : Int)).length) 1 = true := roomB_of (by have := big_len; omega) (by omega)
    have hloop : ∀ h0, md4_Of_L5_R 200000 (((l.flatten ++ tail4 (l.flatten.length : Int)), ((0 : Int), ())), (h0, (first04, (ks04, ())))) = some ((), (h0, ((⟨[a, b, c, d], ht⟩ : Arr Int 4), ()))) := fun h0 =>
      loopOf (N := 200000) (by omega) _ (by rw [List.length_append]; omega) h0 (nb l.flatten.length) 200000 0 first04 _ (by rw [List.length_append] at hlen; omega) (by rw [hlen]; omega) t2
    have e0 : List.replicate (Int.toNat 0) (0 : Int) = [] := rfl
    unfold md4_Of
    rw [(hj _).1, Option.bind_some]
    simp only [c4, cond_true, e0]
    rw [(hj _).2, Option.bind_some]
    simp only [hwn]
    rw [htail, Option.bind_some]
    simp only [c5, cond_true, consts04, Option.bind_some]
    refine (congrArg (fun o => Option.bind o _) (hloop _)).trans ?_
    simp only [Option.bind_some, d2]
theorem refOf_ok (b : List Int) (hb : AllB b) (hl : b.length ≤ 1000) {a c d e : Int} {ht : ([a, c, d, e] : List Int).length = 4} (hr : runB 200000 (nb b.length) first04 (b ++ tail4 (b.length : Int)) = some ⟨[a, c, d, e], ht⟩) :
    ∃ D : Arr Int 16, D.l = dg4 a c d e ∧ ref04_Of 200000 b = some D := by
  have htl := tail4_len (b.length : Int)
  have hnz := nz_lt (b.length : Int)
  have hlen := nb_ok b.length b rfl
  have hwn : Go.IntKind.wrap .u64 (b.length : Int) = (b.length : Int) := wrapU64 (by omega) (by omega)
  have htail := ref04_tail_ok' (N := 200000) (b.length : Int) (by omega) (by omega)
  have c0 : roomB b.length 1 = true := roomB_of (by have := big_len; omega) (by omega)
  have c5 : roomB (b.length + (tail4 (b.length : Int)).length) 1 = true := roomB_of (by have := big_len; omega) (by omega)
  obtain ⟨D, d1, d2⟩ := outRef (N := 200000) (by omega) a c d e ht ⟨List.replicate 16 0, rfl⟩ 16 200000 0 ⟨List.replicate 16 0, rfl⟩ (by omega) (by omega)
  have hloop : ref04_Of_L4_R 200000 (((0 : Int), ()), ((⟨List.replicate 16 0, rfl⟩ : Arr Int 16), ((b ++ tail4 (b.length : Int)), (first04, ())))) = some ((), ((⟨List.replicate 16 0, rfl⟩ : Arr Int 16), ((⟨[a, c, d, e], ht⟩ : Arr Int 4), ()))) :=
    loopRef (N := 200000) (by omega) _ (by rw [List.length_append]; omega) (hb.append (tail4_B _)) _ (nb b.length) 200000 0 first04 _ (by rw [List.length_append] at hlen; omega) (by rw [hlen]; omega) first_W hr
  have hout : ref04_Of_L14_R 200000 (((0 : Int), ()), ((⟨List.replicate 16 0, rfl⟩ : Arr Int 16), ((⟨[a, c, d, e], ht⟩ : Arr Int 4), ((⟨List.replicate 16 0, rfl⟩ : Arr Int 16), ())))) = some ((), ((⟨List.replicate 16 0, rfl⟩ : Arr Int 16), (D, ()))) := d2
  refine ⟨D, by simpa using d1, ?_⟩
  unfold ref04_Of
  simp only [c0, cond_true, hwn, htail, Option.bind_some, c5]
  refine (congrArg (fun o => Option.bind o _) hloop).trans ?_
  simp only [Option.bind_some]
  refine (congrArg (fun o => Option.bind o _) hout).trans ?_
  rfl
theorem wfB_b {n : Nat} (a : Arr Int n) (h : AllB a.l) : wfB (.arr n (.int .u8)) a = true := List.all_eq_true.2 fun x hx => by
  have h1 := h x hx
  show (Lit.int .u8 x).wf = true
  simp only [Lit.wf, Bool.and_eq_true, decide_eq_true_eq, IntKind.min, IntKind.max, IntKind.signed, IntKind.bits]
  simp
  omega
theorem law_Md4Is (b : List Int) (h : wfT (.sl (.int .u8)) b) : law04_Md4Is 200000 b = some true := by
  have hb := wf_bytes h
  unfold law04_Md4Is
  by_cases hl : (400 : Int) < (b.length : Int)
  · simp only [hl, decide_true, cond_true, alive04, Option.bind_some]
  · have hl' : b.length ≤ 400 := by omega
    obtain ⟨a, c, d, e, ht, D, r1, r2, r3, r4⟩ := of_ok [b] (by simp) (fun p hp => by
      rw [List.mem_singleton] at hp; subst hp; exact ⟨by omega, hb⟩) (by simp; omega)
    have hfl : ([b] : List (List Int)).flatten = b := by simp
    rw [hfl] at r1
    obtain ⟨D', q1, q2⟩ := refOf_ok b hb (by omega) r1
    have hD : D' = D := Arr.eq (by rw [q1, r3])
    subst hD
    have hw := wfB_b D' (by rw [q1]; exact dg4_B _ _ _ _)
    simp only [hl, decide_false, cond_false, r4, q2, Option.bind_some, hw, Bool.and_self, cond_true, decide_true, alive04]
end Go.Proofs.YtpjamebfpgmjdaaDoor
