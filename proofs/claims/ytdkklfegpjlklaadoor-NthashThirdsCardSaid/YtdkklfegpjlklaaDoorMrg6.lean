/-
  Parts of my own, one behind the other: QN5, QU8a, QU8b, QU8c, QU8d, QU8e, QN6.
-/
import Derived.Test.YtdkklfegpjlklaaDoorMrg5
import Derived.Test.YtdkklfegpjlklaaDoorMrg4
/-
  Layer 4, on plain data: digests, and parts.
-/
namespace Go.Proofs.YtdkklfegpjlklaaDoor
set_option maxRecDepth 100000
open Go.RowKit
set_option linter.unusedVariables false
set_option linter.unusedSimpArgs false
set_option maxRecDepth 100000

theorem Arr.eq {α : Type} {n : Nat} {a b : Arr α n} (h : a.l = b.l) : a = b := by
  cases a; cases b; simp only at h; subst h; rfl
noncomputable def stepB (N : Nat) (t : Arr Int 4) (l : List Int) : Option (Arr Int 4) := (toArr 64 l).bind fun a => md4_behind N t a ks04
noncomputable def runB (N : Nat) : Nat → Arr Int 4 → List Int → Option (Arr Int 4)
  | 0, t, _ => some t
  | m + 1, t, l => (stepB N t (l.take 64)).bind fun t' => runB N m t' (l.drop 64)
theorem toArr64 (l : List Int) (h : 64 ≤ l.length) : ∃ a : Arr Int 64, a.l = l.take 64 ∧ toArr 64 (l.take 64) = some a := by
  have h1 : 64 ≤ (l.take 64).length := by rw [List.length_take]; omega
  refine ⟨⟨(l.take 64).take 64, by rw [List.length_take]; omega⟩, ?_, dif_pos h1⟩
  exact List.take_of_length_le (by rw [List.length_take]; omega)
section
variable {N : Nat}
theorem runB_some (hN : 10000 ≤ N) : ∀ (m : Nat) (t : Arr Int 4) (l : List Int), AllW t.l → AllB l → l.length = 64 * m → ∃ t', AllW t'.l ∧ runB N m t l = some t'
  | 0, t, l, ht, _, _ => ⟨t, ht, rfl⟩
  | m + 1, t, l, ht, hl, hm => by
    obtain ⟨a, a1, a2⟩ := toArr64 l (by omega)
    obtain ⟨t1, h1, h2, _⟩ := behind_pair (N := N) hN t a ht (by rw [a1]; exact hl.take 64)
    obtain ⟨t', h3, h4⟩ := runB_some hN m t1 (l.drop 64) h1 (hl.drop 64) (by rw [List.length_drop]; omega)
    refine ⟨t', h3, ?_⟩
    unfold runB stepB
    rw [a2, Option.bind_some, h2, Option.bind_some, h4]
/-- All blocks, one behind the other. -/
theorem loopOf (hN : 10000 ≤ N) (all : List Int) (ha : all.length < 100000) (h0 : Arr Int 16) : ∀ (m M i : Nat) (t t' : Arr Int 4), m < M → all.length = i + 64 * m → runB N m t (all.drop i) = some t' →
    gl (fun X c => md4_Of_L5 N X c.1.1 c.1.2.1 c.2.1 c.2.2.1 c.2.2.2.1) M ((all, ((i : Int), ())), (h0, (t, (ks04, ())))) = some ((), (h0, (t', ())))
  | 0, M + 1, i, t, t', hM, hi, hr => by
    have c1 : ¬ ((i : Int) < (all.length : Int)) := by omega
    have hr : some t = some t' := hr
    injection hr with hr
    subst hr
    rw [gl_succ]
    simp only [md4_Of_L5, c1, decide_false, cond_false]
  | m + 1, M + 1, i, t, t', hM, hi, hr => by
    have c1 : ((i : Int) < (all.length : Int)) := by omega
    have e0 : Go.IntKind.wrap .i64 ((i : Int) + 64) = ((i + 64 : Nat) : Int) := by rw [wrap64 (by omega) (by omega)]; omega
    have s1 : subI all (i : Int) ((i + 64 : Nat) : Int) = some ((all.drop i).take 64) := by
      rw [subI_nat all rfl rfl (by omega) (by omega)]; congr 2; omega
    unfold runB stepB at hr
    cases hb : toArr 64 ((all.drop i).take 64) with
    | none => rw [hb] at hr; cases hr
    | some a =>
      rw [hb, Option.bind_some] at hr
      cases hc : md4_behind N t a ks04 with
      | none => rw [hc] at hr; cases hr
      | some t1 =>
        rw [hc, Option.bind_some, List.drop_drop] at hr
        have ih := loopOf hN all ha h0 m M (i + 64) t1 t' (by omega) (by omega) (by rw [show i + 64 = i + 64 from rfl]; exact hr)
        rw [gl_succ]
        simp only [md4_Of_L5, c1, decide_true, cond_true, e0, s1, Option.bind_some, hb, hc]
        exact ih
theorem fillOf (hN : 10000 ≤ N) (all : List Int) (ha : all.length < 100000) (h0 : Arr Int 16) (t : Arr Int 4) (x : Nat) (hx : x + 64 ≤ all.length) : ∀ (k M i : Nat) (blk : Arr Int 64), k + i = 64 → k < M →
    ∃ b2 : Arr Int 64, b2.l = blk.l.take i ++ (all.drop (x + i)).take k ∧ gl (fun X c => ref04_Of_L8 N X c.1.1 c.1.2.1 c.2.1 c.2.2.1 c.2.2.2.1 c.2.2.2.2.1) M (((x : Int), ((i : Int), ())), (h0, (all, (t, (blk, ()))))) = some (((x : Int), ()), (h0, (all, (t, (b2, ())))))
  | 0, M + 1, i, blk, hk, hM => by
    have c1 : ¬ ((i : Int) < 64) := by omega
    refine ⟨blk, ?_, ?_⟩
    · rw [List.take_of_length_le (by rw [blk.h]; omega), List.take_zero, List.append_nil]
    · rw [gl_succ]
      simp only [ref04_Of_L8, c1, decide_false, cond_false]
  | k + 1, M + 1, i, blk, hk, hM => by
    have hbl := blk.h
    have c1 : ((i : Int) < 64) := by omega
    have e0 : Go.IntKind.wrap .i64 ((i : Int) + 1) = ((i + 1 : Nat) : Int) := by rw [wrap64 (by omega) (by omega)]; omega
    have e2 : Go.IntKind.wrap .i64 ((x : Int) + (i : Int)) = ((x + i : Nat) : Int) := by rw [wrap64 (by omega) (by omega)]; omega
    have c2 : (0 : Int) ≤ ((x + i : Nat) : Int) ∧ ((x + i : Nat) : Int) < (all.length : Int) := by omega
    have c3 : (0 : Int) ≤ (i : Int) ∧ (i : Int) < ((64 : Nat) : Int) := by omega
    have e1 : Int.toNat (i : Int) = i := Int.toNat_natCast i
    have e3 : Int.toNat ((x + i : Nat) : Int) = x + i := Int.toNat_natCast _
    have g1 : all[x + i]? = some (all[x + i]'(by omega)) := List.getElem?_eq_getElem _
    have g2 : blk.l[i]? = some (blk.l[i]'(by omega)) := List.getElem?_eq_getElem _
    obtain ⟨b2, h1, h2⟩ := fillOf hN all ha h0 t x hx k M (i + 1) (blk.set i (all[x + i]'(by omega))) (by omega) (by omega)
    refine ⟨b2, ?_, ?_⟩
    · rw [h1]
      have q1 : (blk.set i (all[x + i]'(by omega))).l.take (i + 1) = blk.l.take i ++ [all[x + i]'(by omega)] := by
        show (blk.l.set i _).take (i + 1) = _
        rw [List.take_add_one, List.take_set_of_le (Nat.le_refl _), List.getElem?_set_self (by omega)]
        rfl
      rw [q1, List.append_assoc]
      congr 1
      rw [List.drop_eq_getElem_cons (show x + i < all.length by omega), List.take_succ_cons]
      rfl
    · rw [gl_succ]
      simp only [ref04_Of_L8, c1, decide_true, cond_true, e2, c2, and_self, e3, g1, Option.bind_some, c3, e1, g2, e0]
      exact h2
theorem loopRef (hN : 10000 ≤ N) (all : List Int) (ha : all.length < 100000) (hB : AllB all) (h0 : Arr Int 16) : ∀ (m M i : Nat) (t t' : Arr Int 4), m < M → all.length = i + 64 * m → AllW t.l → runB N m t (all.drop i) = some t' →
    gl (fun X c => ref04_Of_L4 N X c.1.1 c.2.1 c.2.2.1 c.2.2.2.1) M (((i : Int), ()), (h0, (all, (t, ())))) = some ((), (h0, (t', ())))
  | 0, M + 1, i, t, t', hM, hi, hw, hr => by
    have c1 : ¬ ((i : Int) < (all.length : Int)) := by omega
    have hr : some t = some t' := hr
    injection hr with hr
    subst hr
    rw [gl_succ]
    simp only [ref04_Of_L4, c1, decide_false, cond_false]
  | m + 1, M + 1, i, t, t', hM, hi, hw, hr => by
    have c1 : ((i : Int) < (all.length : Int)) := by omega
    have e0 : Go.IntKind.wrap .i64 ((i : Int) + 64) = ((i + 64 : Nat) : Int) := by rw [wrap64 (by omega) (by omega)]; omega
    obtain ⟨b2, f1, f2⟩ := fillOf (N := N) hN all ha h0 t i (by omega) 64 N 0 ⟨List.replicate 64 0, rfl⟩ (by omega) (by omega)
    have f2' : ref04_Of_L8_R N (((i : Int), ((0 : Int), ())), (h0, (all, (t, ((⟨List.replicate 64 0, rfl⟩ : Arr Int 64), ()))))) = some (((i : Int), ()), (h0, (all, (t, (b2, ()))))) := f2
    have f1' : b2.l = (all.drop i).take 64 := by rw [f1]; simp
    obtain ⟨a, a1, a2⟩ := toArr64 (all.drop i) (by rw [List.length_drop]; omega)
    have hab : a = b2 := Arr.eq (by rw [a1, f1'])
    subst hab
    obtain ⟨t1, h1, h2, h3⟩ := behind_pair (N := N) hN t a hw (by rw [a1]; exact (hB.drop i).take 64)
    unfold runB stepB at hr
    rw [a2, Option.bind_some, h2, Option.bind_some, List.drop_drop] at hr
    have ih := loopRef hN all ha hB h0 m M (i + 64) t1 t' (by omega) (by omega) h1 hr
    rw [gl_succ]
    simp only [ref04_Of_L4, c1, decide_true, cond_true]
    refine (congrArg (fun o => Option.bind o _) f2').trans ?_
    simp only [Option.bind_some, h3, e0]
    exact ih
def dg4 (a b c d : Int) : List Int := by4 a ++ by4 b ++ by4 c ++ by4 d
theorem dg4_B (a b c d : Int) : AllB (dg4 a b c d) := AllB.append (AllB.append (AllB.append (by4_B a) (by4_B b)) (by4_B c)) (by4_B d)
theorem dg4_at (a b c d : Int) (i : Nat) (hi : i < 16) (v : Int) (hv : ([a, b, c, d] : List Int)[i / 4]? = some v) : (dg4 a b c d)[i]? = some (Go.IntKind.wrap .u8 (Int.fdiv v (2 ^ (8 * (i % 4))))) := by
  have fd : ∀ k : Nat, Int.fdiv v (2 ^ k) = v / 2 ^ k := fun k => Int.fdiv_eq_ediv_of_nonneg _ (Int.le_of_lt (Int.pow_pos (by decide)))
  rw [fd, IntKind.wrap_u8]
  have : i = 0 ∨ i = 1 ∨ i = 2 ∨ i = 3 ∨ i = 4 ∨ i = 5 ∨ i = 6 ∨ i = 7 ∨ i = 8 ∨ i = 9 ∨ i = 10 ∨ i = 11 ∨ i = 12 ∨ i = 13 ∨ i = 14 ∨ i = 15 := by omega
  rcases this with rfl | rfl | rfl | rfl | rfl | rfl | rfl | rfl | rfl | rfl | rfl | rfl | rfl | rfl | rfl | rfl <;> simp at hv <;> subst hv <;> simp [dg4, by4]
theorem outRef (hN : 10000 ≤ N) (a b c d : Int) (ht : ([a, b, c, d] : List Int).length = 4) (h0 : Arr Int 16) : ∀ (k M i : Nat) (o : Arr Int 16), k + i = 16 → k < M →
    ∃ D : Arr Int 16, D.l = o.l.take i ++ (dg4 a b c d).drop i ∧ gl (fun X c => ref04_Of_L14 N X c.1.1 c.2.1 c.2.2.1 c.2.2.2.1) M (((i : Int), ()), (h0, ((⟨[a, b, c, d], ht⟩ : Arr Int 4), (o, ())))) = some ((), (h0, (D, ())))
  | 0, M + 1, i, o, hk, hM => by
    have c1 : ¬ ((i : Int) < 16) := by omega
    have hol := o.h
    refine ⟨o, ?_, ?_⟩
    · rw [List.take_of_length_le (by omega), List.drop_eq_nil_of_le (by simp [dg4, by4]; omega), List.append_nil]
    · rw [gl_succ]
      simp only [ref04_Of_L14, c1, decide_false, cond_false]
  | k + 1, M + 1, i, o, hk, hM => by
    have hol := o.h
    have c1 : ((i : Int) < 16) := by omega
    have e0 : Go.IntKind.wrap .i64 ((i : Int) + 1) = ((i + 1 : Nat) : Int) := by rw [wrap64 (by omega) (by omega)]; omega
    have f1 : Go.IntKind.wrap .i64 (Int.tdiv (i : Int) 4) = ((i / 4 : Nat) : Int) := by
      rw [Int.tdiv_eq_ediv_of_nonneg (by omega), wrap64 (by omega) (by omega)]; omega
    have f0 : Go.IntKind.wrap .i64 ((8 : Int) * Int.tmod (i : Int) 4) = ((8 * (i % 4) : Nat) : Int) := by
      rw [Int.tmod_eq_emod_of_nonneg (by omega), wrap64 (by omega) (by omega)]; omega
    have c2 : (0 : Int) ≤ ((i / 4 : Nat) : Int) ∧ ((i / 4 : Nat) : Int) < ((4 : Nat) : Int) := by omega
    have c3 : (0 : Int) ≤ ((8 * (i % 4) : Nat) : Int) := by omega
    have c4 : (0 : Int) ≤ (i : Int) ∧ (i : Int) < ((16 : Nat) : Int) := by omega
    have e1 : Int.toNat (i : Int) = i := Int.toNat_natCast i
    have e2 : Int.toNat ((i / 4 : Nat) : Int) = i / 4 := Int.toNat_natCast _
    have e3 : min (Int.toNat ((8 * (i % 4) : Nat) : Int)) (IntKind.bits .u32) = 8 * (i % 4) := by
      rw [Int.toNat_natCast]; show min _ 32 = _; omega
    have g1 : ([a, b, c, d] : List Int)[i / 4]? = some (([a, b, c, d] : List Int)[i / 4]'(by simp; omega)) := List.getElem?_eq_getElem _
    have g2 : o.l[i]? = some (o.l[i]'(by omega)) := List.getElem?_eq_getElem _
    have hd := dg4_at a b c d i (by omega) _ g1
    generalize ([a, b, c, d] : List Int)[i / 4]'(by simp; omega) = v at *
    obtain ⟨D, h1, h2⟩ := outRef hN a b c d ht h0 k M (i + 1) (o.set i (Go.IntKind.wrap .u8 (Int.fdiv v (2 ^ (8 * (i % 4)))))) (by omega) (by omega)
    refine ⟨D, ?_, ?_⟩
    · rw [h1]
      have q1 : (o.set i (Go.IntKind.wrap .u8 (Int.fdiv v (2 ^ (8 * (i % 4)))))).l.take (i + 1) = o.l.take i ++ [Go.IntKind.wrap .u8 (Int.fdiv v (2 ^ (8 * (i % 4))))] := by
        show (o.l.set i _).take (i + 1) = _
        rw [List.take_add_one, List.take_set_of_le (Nat.le_refl _), List.getElem?_set_self (by omega)]
        rfl
      rw [q1, List.append_assoc]
      congr 1
      obtain ⟨hlt, hv⟩ := List.getElem?_eq_some_iff.1 hd
      rw [List.drop_eq_getElem_cons hlt, hv]
      rfl
    · rw [gl_succ]
      simp only [ref04_Of_L14, c1, decide_true, cond_true, f1, c2, and_self, e2, g1, Option.bind_some, f0, c3, c4, e1, g2, e0, e3]
      exact h2
end
def first04 : Arr Int 4 := Arr.cons 1732584193 (Arr.cons 4023233417 (Arr.cons 2562383102 (Arr.cons 271733878 Arr.nil)))
theorem first_W : AllW first04.l := fun x hx => by
  simp only [first04, Arr.cons, Arr.nil, List.mem_cons, List.not_mem_nil, or_false] at hx
  rcases hx with rfl | rfl | rfl | rfl <;> omega
/-- So many blocks. -/
def nb (n : Nat) : Nat := (n + (tail4 (n : Int)).length) / 64
theorem nb_ok (n : Nat) (l : List Int) (h : l.length = n) : (l ++ tail4 (n : Int)).length = 64 * nb n := by
  unfold nb
  rw [List.length_append, tail4_len, h]
  unfold nz
  omega
/-- The digest of parts. -/
theorem of_ok (l : List (List Int)) (hl : l.length ≤ 1000) (hs : ∀ p ∈ l, p.length ≤ 5000 ∧ AllB p) (hf : l.flatten.length ≤ 5000) :
    ∃ a b c d ht, ∃ D : Arr Int 16, runB 200000 (nb l.flatten.length) first04 (l.flatten ++ tail4 (l.flatten.length : Int)) = some ⟨[a, b, c, d], ht⟩ ∧ AllW [a, b, c, d] ∧ D.l = dg4 a b c d ∧ md4_Of 200000 l = some D := by
  have hB : AllB l.flatten := fun x hx => by
    obtain ⟨p, hp, hx⟩ := List.mem_flatten.1 hx
    exact (hs p hp).2 x hx
  have hall : AllB (l.flatten ++ tail4 (l.flatten.length : Int)) := hB.append (tail4_B _)
  have hlen := nb_ok l.flatten.length l.flatten rfl
  have htl := tail4_len (l.flatten.length : Int)
  have hnz := nz_lt (l.flatten.length : Int)
  obtain ⟨t', t1, t2⟩ := runB_some (N := 200000) (by omega) (nb l.flatten.length) first04 _ first_W hall hlen
  match t', t1, t2 with
  | ⟨[a, b, c, d], ht⟩, t1, t2 =>
    obtain ⟨D, d1, d2⟩ := digest_ok (N := 200000) a b c d ht t1 (by omega)
    refine ⟨a, b, c, d, ht, D, t2, t1, d1, ?_⟩
    have hj : ∀ h0, _ := fun h0 => joinS (N := 200000) l h0 hl (fun p hp => by have := (hs p hp).1; omega) (by omega)
    have hwn : Go.IntKind.wrap .u64 (l.flatten.length : Int) = (l.flatten.length : Int) := wrapU64 (by omega) (by omega)
    have htail := md4_tail_ok (N := 200000) (l.flatten.length : Int) (by omega) (by omega)
    have c4 : (decide ((0 : Int) ≤ (0 : Int) ∧ (0 : Int) ≤ (l.flatten.length : Int)) && roomB (Int.toNat (l.flatten.length : Int)) 1) = true := by
      rw [Bool.and_eq_true]
      exact ⟨decide_eq_true ⟨by omega, by omega⟩, roomB_of (by have := big_len; omega) (by omega)⟩
    have c5 : roomB (l.flatten.length + (tail4 (l.flatten.length : Int)).length) 1 = true := roomB_of (by have := big_len; omega) (by omega)
    have hloop : ∀ h0, md4_Of_L5_R 200000 (((l.flatten ++ tail4 (l.flatten.length : Int)), ((0 : Int), ())), (h0, (first04, (ks04, ())))) = some ((), (h0, ((⟨[a, b, c, d], ht⟩ : Arr Int 4), ()))) := fun h0 =>
      loopOf (N := 200000) (by omega) _ (by rw [List.length_append]; omega) h0 (nb l.flatten.length) 200000 0 first04 _ (by rw [List.length_append] at hlen; omega) (by rw [hlen]; omega) t2
    have e0 : List.replicate (Int.toNat 0) (0 : Int) = [] := rfl
    unfold md4_Of
    rw [(hj _).1, Option.bind_some]
    simp only [c4, cond_true, e0]
    rw [(hj _).2, Option.bind_some]
    simp only [hwn]
    rw [htail, Option.bind_some]
    simp only [c5, cond_true, consts04, Option.bind_some]
    refine (congrArg (fun o => Option.bind o _) (hloop _)).trans ?_
    simp only [Option.bind_some, d2]
theorem refOf_ok (b : List Int) (hb : AllB b) (hl : b.length ≤ 1000) {a c d e : Int} {ht : ([a, c, d, e] : List Int).length = 4} (hr : runB 200000 (nb b.length) first04 (b ++ tail4 (b.length : Int)) = some ⟨[a, c, d, e], ht⟩) :
    ∃ D : Arr Int 16, D.l = dg4 a c d e ∧ ref04_Of 200000 b = some D := by
  have htl := tail4_len (b.length : Int)
  have hnz := nz_lt (b.length : Int)
  have hlen := nb_ok b.length b rfl
  have hwn : Go.IntKind.wrap .u64 (b.length : Int) = (b.length : Int) := wrapU64 (by omega) (by omega)
  have htail := ref04_tail_ok' (N := 200000) (b.length : Int) (by omega) (by omega)
  have c0 : roomB b.length 1 = true := roomB_of (by have := big_len; omega) (by omega)
  have c5 : roomB (b.length + (tail4 (b.length : Int)).length) 1 = true := roomB_of (by have := big_len; omega) (by omega)
  obtain ⟨D, d1, d2⟩ := outRef (N := 200000) (by omega) a c d e ht ⟨List.replicate 16 0, rfl⟩ 16 200000 0 ⟨List.replicate 16 0, rfl⟩ (by omega) (by omega)
  have hloop : ref04_Of_L4_R 200000 (((0 : Int), ()), ((⟨List.replicate 16 0, rfl⟩ : Arr Int 16), ((b ++ tail4 (b.length : Int)), (first04, ())))) = some ((), ((⟨List.replicate 16 0, rfl⟩ : Arr Int 16), ((⟨[a, c, d, e], ht⟩ : Arr Int 4), ()))) :=
    loopRef (N := 200000) (by omega) _ (by rw [List.length_append]; omega) (hb.append (tail4_B _)) _ (nb b.length) 200000 0 first04 _ (by rw [List.length_append] at hlen; omega) (by rw [hlen]; omega) first_W hr
  have hout : ref04_Of_L14_R 200000 (((0 : Int), ()), ((⟨List.replicate 16 0, rfl⟩ : Arr Int 16), ((⟨[a, c, d, e], ht⟩ : Arr Int 4), ((⟨List.replicate 16 0, rfl⟩ : Arr Int 16), ())))) = some ((), ((⟨List.replicate 16 0, rfl⟩ : Arr Int 16), (D, ()))) := d2
  refine ⟨D, by simpa using d1, ?_⟩
  unfold ref04_Of
  simp only [c0, cond_true, hwn, htail, Option.bind_some, c5]
  refine (congrArg (fun o => Option.bind o _) hloop).trans ?_
  simp only [Option.bind_some]
  refine (congrArg (fun o => Option.bind o _) hout).trans ?_
  rfl
theorem wfB_b {n : Nat} (a : Arr Int n) (h : AllB a.l) : wfB (.arr n (.int .u8)) a = true := List.all_eq_true.2 fun x hx => by
  have h1 := h x hx
  show (Lit.int .u8 x).wf = true
  simp only [Lit.wf, Bool.and_eq_true, decide_eq_true_eq, IntKind.min, IntKind.max, IntKind.signed, IntKind.bits]
  simp
  omega
end Go.Proofs.YtdkklfegpjlklaaDoor
/-
  Signs of texts: the first sign of bytes; what the document and the model of runes say of it.
-/
namespace Go.Proofs.YtdkklfegpjlklaaDoor
set_option maxRecDepth 100000
open Go.RowKit
set_option linter.unusedVariables false
set_option linter.unusedSimpArgs false
set_option maxRecDepth 100000

/-- A byte that goes on. -/
def cb (b : UInt8) : Bool := decide (128 ≤ b.toNat ∧ b.toNat < 192)
def n2 (a b : UInt8) : Nat := (a.toNat - 192) * 64 + (b.toNat - 128)
def n3 (a b c : UInt8) : Nat := (a.toNat - 224) * 4096 + (b.toNat - 128) * 64 + (c.toNat - 128)
def n4 (a b c d : UInt8) : Nat := (a.toNat - 240) * 262144 + (b.toNat - 128) * 4096 + (c.toNat - 128) * 64 + (d.toNat - 128)
/-- The first sign, and how many bytes it has: none, if it is not right. -/
def sg : List UInt8 → Nat × Nat
  | [] => (0, 0)
  | b0 :: r =>
    if b0.toNat < 128 then (b0.toNat, 1)
    else if 192 ≤ b0.toNat ∧ b0.toNat < 224 then (match r with
      | b1 :: _ => if cb b1 = true ∧ 128 ≤ n2 b0 b1 then (n2 b0 b1, 2) else (0, 0)
      | _ => (0, 0))
    else if 224 ≤ b0.toNat ∧ b0.toNat < 240 then (match r with
      | b1 :: b2 :: _ => if cb b1 = true ∧ cb b2 = true ∧ 2048 ≤ n3 b0 b1 b2 ∧ ¬ (55296 ≤ n3 b0 b1 b2 ∧ n3 b0 b1 b2 ≤ 57343) then (n3 b0 b1 b2, 3) else (0, 0)
      | _ => (0, 0))
    else if 240 ≤ b0.toNat ∧ b0.toNat < 248 then (match r with
      | b1 :: b2 :: b3 :: _ => if cb b1 = true ∧ cb b2 = true ∧ cb b3 = true ∧ 65536 ≤ n4 b0 b1 b2 b3 ∧ n4 b0 b1 b2 b3 ≤ 1114111 then (n4 b0 b1 b2 b3, 4) else (0, 0)
      | _ => (0, 0))
    else (0, 0)
theorem u8_lt (b : UInt8) : b.toNat < 256 := b.toNat_lt
theorem cb_iff {b : UInt8} : cb b = true ↔ 128 ≤ b.toNat ∧ b.toNat < 192 := by simp [cb]
theorem cb_not {b : UInt8} : cb b = false ↔ ¬ (128 ≤ b.toNat ∧ b.toNat < 192) := by simp [cb]
section
variable {N : Nat}
theorem more_ok (s : List UInt8) (j : Nat) : ref09_more N s (j : Int) = some (match s[j]? with
    | some b => if cb b = true then (((b.toNat - 128 : Nat) : Int), true) else (0, false)
    | none => (0, false)) := by
  cases h : s[j]? with
  | none =>
    have hl : (s.length : Int) ≤ (j : Int) := by have := List.getElem?_eq_none_iff.1 h; omega
    simp [ref09_more, hl]
  | some b =>
    obtain ⟨hj, hb⟩ := List.getElem?_eq_some_iff.1 h
    have hl : ¬ (s.length : Int) ≤ (j : Int) := by omega
    have hg : getI s (j : Int) = some b := by rw [getI_nat, h]
    have hlt := u8_lt b
    cases hc : cb b with
    | true =>
      rw [cb_iff] at hc
      have c1 : ¬ (b.toNat : Int) < 128 := by omega
      have c2 : ¬ (191 : Int) < (b.toNat : Int) := by omega
      have e1 : Go.IntKind.wrap .i64 (b.toNat : Int) = (b.toNat : Int) := wrap64 (by omega) (by omega)
      have e2 : Go.IntKind.wrap .i64 ((b.toNat : Int) - 128) = ((b.toNat - 128 : Nat) : Int) := by rw [wrap64 (by omega) (by omega)]; omega
      have hc2 := cb_iff.2 hc
      simp [ref09_more, hl, hg, c1, c2, e1, e2, hc2]
    | false =>
      have hcf := hc
      rw [cb_not] at hc
      by_cases c1 : (b.toNat : Int) < 128
      · simp [ref09_more, hl, hg, c1, hcf]
      · have c2 : (191 : Int) < (b.toNat : Int) := by omega
        simp [ref09_more, hl, hg, c1, c2, hcf]
theorem round_ok (X) (s : List UInt8) (i need n k : Nat) (least : Int) (h1 : i < 1000000000) (h2 : n < 1000000000) (h3 : k < 10) : ref09_sign_L13 N X s (i : Int) (need : Int) (n : Int) least (k : Int) =
    if k ≤ need then (match s[i + k]? with
      | some b => if cb b = true then X ((s, ((i : Int), ((need : Int), (((64 * n + (b.toNat - 128) : Nat) : Int), (least, (((k + 1 : Nat) : Int), ())))))), ()) else some (.inl ((0, (0, ())), ()))
      | none => some (.inl ((0, (0, ())), ())))
    else some (.inr (((need : Int), ((n : Int), (least, ()))), ())) := by
  have e0 : Go.IntKind.wrap .i64 ((i : Int) + (k : Int)) = ((i + k : Nat) : Int) := by rw [wrap64 (by omega) (by omega)]; omega
  have e1 : Go.IntKind.wrap .i64 ((k : Int) + 1) = ((k + 1 : Nat) : Int) := by rw [wrap64 (by omega) (by omega)]; omega
  have e2 : Go.IntKind.wrap .i64 (64 * (n : Int)) = ((64 * n : Nat) : Int) := by rw [wrap64 (by omega) (by omega)]; omega
  unfold ref09_sign_L13
  rw [e0, more_ok]
  by_cases hk : k ≤ need
  · have c1 : (k : Int) ≤ (need : Int) := by omega
    rw [if_pos hk]
    simp only [c1, decide_true, cond_true, Option.bind_some]
    cases h : s[i + k]? with
    | none => simp
    | some b =>
      have hlt := u8_lt b
      cases hc : cb b with
      | false => simp [hc]
      | true =>
        have e3 : Go.IntKind.wrap .i64 (((64 * n : Nat) : Int) + ((b.toNat - 128 : Nat) : Int)) = ((64 * n + (b.toNat - 128) : Nat) : Int) := by rw [wrap64 (by omega) (by omega)]; omega
        simp only [hc, if_true, Bool.not_true, cond_false, e1, e2, e3]
  · have c1 : ¬ (k : Int) ≤ (need : Int) := by omega
    rw [if_neg hk]
    simp only [c1, decide_false, cond_false]
/-- Bytes that go on, so many. -/
def contS : Nat → List UInt8 → Nat → Option Nat
  | 0, _, n => some n
  | _ + 1, [], _ => none
  | k + 1, b :: r, n => if cb b = true then contS k r (64 * n + (b.toNat - 128)) else none
theorem loop_ok (s : List UInt8) (i need : Nat) (least : Int) (h1 : i < 1000000000) (hn : need ≤ 3) : ∀ (left k M n : Nat), k + left = need + 1 → 1 ≤ k → left < M → n < 64 ^ k →
    gl (fun X c => ref09_sign_L13 N X c.1.1 c.1.2.1 c.1.2.2.1 c.1.2.2.2.1 c.1.2.2.2.2.1 c.1.2.2.2.2.2.1) M ((s, ((i : Int), ((need : Int), ((n : Int), (least, ((k : Int), ())))))), ()) =
      some (match contS left (s.drop (i + k)) n with
        | some m => .inr (((need : Int), ((m : Int), (least, ()))), ())
        | none => .inl ((0, (0, ())), ()))
  | 0, k, M + 1, n, hk, hk1, hM, hn2 => by
    have hb : (64 : Nat) ^ k ≤ 64 ^ 4 := Nat.pow_le_pow_right (by decide) (by omega)
    have hb4 : (64 : Nat) ^ 4 = 16777216 := by decide
    rw [gl_succ, round_ok _ s i need n k least h1 (by omega) (by omega), if_neg (by omega)]
    rfl
  | left + 1, k, M + 1, n, hk, hk1, hM, hn2 => by
    have hb : (64 : Nat) ^ k ≤ 64 ^ 4 := Nat.pow_le_pow_right (by decide) (by omega)
    have hb4 : (64 : Nat) ^ 4 = 16777216 := by decide
    rw [gl_succ, round_ok _ s i need n k least h1 (by omega) (by omega), if_pos (by omega)]
    cases h : s[i + k]? with
    | none =>
      have := List.getElem?_eq_none_iff.1 h
      rw [List.drop_eq_nil_of_le this]
      rfl
    | some b =>
      obtain ⟨hj, hbb⟩ := List.getElem?_eq_some_iff.1 h
      rw [List.drop_eq_getElem_cons hj, hbb]
      have hlt := u8_lt b
      simp only [contS]
      cases hc : cb b with
      | false => rfl
      | true =>
        rw [cb_iff] at hc
        have hp : 64 ^ (k + 1) = 64 * 64 ^ k := by rw [Nat.pow_succ]; omega
        have ih := loop_ok s i need least h1 hn left (k + 1) M (64 * n + (b.toNat - 128)) (by omega) (by omega) (by omega) (by rw [hp]; omega)
        simp only [if_true]
        exact ih
theorem sign_ok (hN : 10 ≤ N) (s : List UInt8) (i : Nat) (hi : i < s.length) (hb : s.length < 1000000000) : ref09_sign N s (i : Int) = some (((sg (s.drop i)).1 : Int), ((sg (s.drop i)).2 : Int)) := by
  have hd := List.drop_eq_getElem_cons hi
  obtain ⟨b0, hb0⟩ : ∃ b, b = s[i] := ⟨_, rfl⟩
  obtain ⟨r, hr⟩ : ∃ r, r = s.drop (i + 1) := ⟨_, rfl⟩
  rw [← hb0, ← hr] at hd
  have hg : getI s (i : Int) = some b0 := by rw [getI_lt s i hi, hb0]
  have hlt := u8_lt b0
  have w0 : Go.IntKind.wrap .i64 (b0.toNat : Int) = b0.toNat := wrap64 (by omega) (by omega)
  have L : ∀ (need n : Nat) (least : Int), 1 ≤ need → need ≤ 3 → n < 64 → ref09_sign_L13_R N ((s, ((i : Int), ((need : Int), ((n : Int), (least, ((1 : Int), ())))))), ()) =
      some (match contS need r n with
        | some m => .inr (((need : Int), ((m : Int), (least, ()))), ())
        | none => .inl ((0, (0, ())), ())) := fun need n least h1 h2 h3 => by
    have := loop_ok (N := N) s i need least (by omega) h2 need 1 N n (by omega) (by omega) (by omega) (by omega)
    rw [hr]
    exact this
  rw [hd]
  unfold ref09_sign
  rw [hg]
  simp only [Option.bind_some, w0]
  by_cases c1 : b0.toNat < 128
  · have d1 : (b0.toNat : Int) < 128 := by omega
    simp [sg, c1, d1]
  have d1 : ¬ (b0.toNat : Int) < 128 := by omega
  by_cases c2 : 192 ≤ b0.toNat ∧ b0.toNat < 224
  · have d2 : (192 : Int) ≤ (b0.toNat : Int) := by omega
    have d3 : (b0.toNat : Int) < 224 := by omega
    have e1 : Go.IntKind.wrap .i64 ((b0.toNat : Int) - 192) = ((b0.toNat - 192 : Nat) : Int) := by rw [wrap64 (by omega) (by omega)]; omega
    have l := L 1 (b0.toNat - 192) 128 (by omega) (by omega) (by omega)
    simp only [d1, d2, d3, decide_true, decide_false, cond_true, cond_false, e1]
    have l' : ref09_sign_L13_R N ((s, ((i : Int), ((1 : Int), (((b0.toNat - 192 : Nat) : Int), ((128 : Int), ((1 : Int), ())))))), ()) = _ := l
    rw [l']
    simp only [sg, c1, if_false, c2, and_self, if_true]
    cases r with
    | nil => simp [contS]
    | cons b1 r =>
      have hlt1 := u8_lt b1
      cases hc : cb b1 with
      | false => simp [contS, hc]
      | true =>
        have hc' := cb_iff.1 hc
        have e2 : 64 * (b0.toNat - 192) + (b1.toNat - 128) = n2 b0 b1 := by unfold n2; omega
        have hn : n2 b0 b1 < 2048 := by unfold n2; omega
        simp only [contS, hc, if_true, e2, Option.bind_some, Sum.elim_inr]
        have q1 : ¬ (1114111 : Int) < (n2 b0 b1 : Int) := by omega
        have q2 : ¬ (55296 : Int) ≤ (n2 b0 b1 : Int) := by omega
        by_cases q3 : 128 ≤ n2 b0 b1
        · have q4 : ¬ (n2 b0 b1 : Int) < 128 := by omega
          simp [q1, q2, q3, q4, wrap64]
        · have q4 : (n2 b0 b1 : Int) < 128 := by omega
          simp [q3, q4]
  by_cases c3 : 224 ≤ b0.toNat ∧ b0.toNat < 240
  · have d2 : (192 : Int) ≤ (b0.toNat : Int) := by omega
    have d3 : ¬ (b0.toNat : Int) < 224 := by omega
    have d4 : (224 : Int) ≤ (b0.toNat : Int) := by omega
    have d5 : (b0.toNat : Int) < 240 := by omega
    have e1 : Go.IntKind.wrap .i64 ((b0.toNat : Int) - 224) = ((b0.toNat - 224 : Nat) : Int) := by rw [wrap64 (by omega) (by omega)]; omega
    have l := L 2 (b0.toNat - 224) 2048 (by omega) (by omega) (by omega)
    simp only [d1, d2, d3, d4, d5, decide_true, decide_false, cond_true, cond_false, e1]
    have l' : ref09_sign_L13_R N ((s, ((i : Int), ((2 : Int), (((b0.toNat - 224 : Nat) : Int), ((2048 : Int), ((1 : Int), ())))))), ()) = _ := l
    rw [l']
    simp only [sg, c1, if_false, c2, c3, and_self, if_true]
    match r with
    | [] => simp [contS]
    | [b1] => cases hc : cb b1 <;> simp [contS, hc]
    | b1 :: b2 :: r =>
      have hlt1 := u8_lt b1
      have hlt2 := u8_lt b2
      cases hc : cb b1 with
      | false => simp [contS, hc]
      | true =>
        cases hc2 : cb b2 with
        | false => simp [contS, hc, hc2]
        | true =>
          have hc' := cb_iff.1 hc
          have hc2' := cb_iff.1 hc2
          have e2 : 64 * (64 * (b0.toNat - 224) + (b1.toNat - 128)) + (b2.toNat - 128) = n3 b0 b1 b2 := by unfold n3; omega
          have hn : n3 b0 b1 b2 < 65536 := by unfold n3; omega
          simp only [contS, hc, hc2, if_true, e2, Option.bind_some, Sum.elim_inr]
          have q1 : ¬ (1114111 : Int) < (n3 b0 b1 b2 : Int) := by omega
          by_cases q3 : 2048 ≤ n3 b0 b1 b2
          · have q4 : ¬ (n3 b0 b1 b2 : Int) < 2048 := by omega
            by_cases q5 : 55296 ≤ n3 b0 b1 b2
            · have q6 : (55296 : Int) ≤ (n3 b0 b1 b2 : Int) := by omega
              by_cases q7 : n3 b0 b1 b2 ≤ 57343
              · have q8 : (n3 b0 b1 b2 : Int) ≤ 57343 := by omega
                simp [q1, q3, q4, q5, q6, q7, q8]
              · have q8 : ¬ (n3 b0 b1 b2 : Int) ≤ 57343 := by omega
                simp [q1, q3, q4, q5, q6, q7, q8, wrap64]
            · have q6 : ¬ (55296 : Int) ≤ (n3 b0 b1 b2 : Int) := by omega
              simp [q1, q3, q4, q5, q6, wrap64]
          · have q4 : (n3 b0 b1 b2 : Int) < 2048 := by omega
            simp [q3, q4]
  have hne : ¬ ((192 : Int) ≤ (b0.toNat : Int) ∧ (b0.toNat : Int) < 224) := by omega
  have hne2 : ¬ ((224 : Int) ≤ (b0.toNat : Int) ∧ (b0.toNat : Int) < 240) := by omega
  by_cases c4 : 240 ≤ b0.toNat ∧ b0.toNat < 248
  · have d2 : (192 : Int) ≤ (b0.toNat : Int) := by omega
    have d3 : ¬ (b0.toNat : Int) < 224 := by omega
    have d4 : (224 : Int) ≤ (b0.toNat : Int) := by omega
    have d5 : ¬ (b0.toNat : Int) < 240 := by omega
    have d6 : (240 : Int) ≤ (b0.toNat : Int) := by omega
    have d7 : (b0.toNat : Int) < 248 := by omega
    have e1 : Go.IntKind.wrap .i64 ((b0.toNat : Int) - 240) = ((b0.toNat - 240 : Nat) : Int) := by rw [wrap64 (by omega) (by omega)]; omega
    have l := L 3 (b0.toNat - 240) 65536 (by omega) (by omega) (by omega)
    simp only [d1, d2, d3, d4, d5, d6, d7, decide_true, decide_false, cond_true, cond_false, e1]
    have l' : ref09_sign_L13_R N ((s, ((i : Int), ((3 : Int), (((b0.toNat - 240 : Nat) : Int), ((65536 : Int), ((1 : Int), ())))))), ()) = _ := l
    rw [l']
    simp only [sg, c1, if_false, c2, c3, c4, and_self, if_true]
    match r with
    | [] => simp [contS]
    | [b1] => cases hc : cb b1 <;> simp [contS, hc]
    | [b1, b2] => cases hc : cb b1 <;> cases hc2 : cb b2 <;> simp [contS, hc, hc2]
    | b1 :: b2 :: b3 :: r =>
      have hlt1 := u8_lt b1
      have hlt2 := u8_lt b2
      have hlt3 := u8_lt b3
      cases hc : cb b1 with
      | false => simp [contS, hc]
      | true =>
        cases hc2 : cb b2 with
        | false => simp [contS, hc, hc2]
        | true =>
          cases hc3 : cb b3 with
          | false => simp [contS, hc, hc2, hc3]
          | true =>
            have hc' := cb_iff.1 hc
            have hc2' := cb_iff.1 hc2
            have hc3' := cb_iff.1 hc3
            have e2 : 64 * (64 * (64 * (b0.toNat - 240) + (b1.toNat - 128)) + (b2.toNat - 128)) + (b3.toNat - 128) = n4 b0 b1 b2 b3 := by unfold n4; omega
            simp only [contS, hc, hc2, hc3, if_true, e2, Option.bind_some, Sum.elim_inr]
            by_cases q3 : 65536 ≤ n4 b0 b1 b2 b3
            · have q4 : ¬ (n4 b0 b1 b2 b3 : Int) < 65536 := by omega
              have q6 : (55296 : Int) ≤ (n4 b0 b1 b2 b3 : Int) := by omega
              have q8 : ¬ (n4 b0 b1 b2 b3 : Int) ≤ 57343 := by omega
              by_cases q1 : n4 b0 b1 b2 b3 ≤ 1114111
              · have q2 : ¬ (1114111 : Int) < (n4 b0 b1 b2 b3 : Int) := by omega
                simp [q1, q2, q3, q4, q6, q8, wrap64]
              · have q2 : (1114111 : Int) < (n4 b0 b1 b2 b3 : Int) := by omega
                simp [q1, q2, q3, q4]
            · have q4 : (n4 b0 b1 b2 b3 : Int) < 65536 := by omega
              simp [q3, q4]
  simp only [sg, c1, if_false, c2, c3, c4]
  by_cases d2 : (192 : Int) ≤ (b0.toNat : Int)
  · have d3 : ¬ (b0.toNat : Int) < 224 := by omega
    have d4 : (224 : Int) ≤ (b0.toNat : Int) := by omega
    have d5 : ¬ (b0.toNat : Int) < 240 := by omega
    have d6 : (240 : Int) ≤ (b0.toNat : Int) := by omega
    have d7 : ¬ (b0.toNat : Int) < 248 := by omega
    simp [d1, d2, d3, d4, d5, d6, d7]
  · have d4 : ¬ (224 : Int) ≤ (b0.toNat : Int) := by omega
    have d6 : ¬ (240 : Int) ≤ (b0.toNat : Int) := by omega
    simp [d1, d2, d4, d6]
end
end Go.Proofs.YtdkklfegpjlklaaDoor
/-
  Signs of texts: all of them; runes; words of eight bytes.
-/
namespace Go.Proofs.YtdkklfegpjlklaaDoor
set_option maxRecDepth 100000
open Go.RowKit
set_option linter.unusedVariables false
set_option linter.unusedSimpArgs false
set_option maxRecDepth 100000

theorem sg_both : ∀ l : List UInt8, (sg l).2 ≤ l.length ∧ (sg l).1 ≤ 1114111
  | [] => by simp [sg]
  | b0 :: r => by
    have hlt := u8_lt b0
    by_cases c1 : b0.toNat < 128
    · simp only [sg, c1, if_true, List.length_cons]; omega
    by_cases c2 : 192 ≤ b0.toNat ∧ b0.toNat < 224
    · simp only [sg, c1, c2, and_self, if_true, if_false]
      match r with
      | [] => simp
      | b1 :: r =>
        have := u8_lt b1
        simp only
        split
        · unfold n2; simp only [List.length_cons]; omega
        · simp
    by_cases c3 : 224 ≤ b0.toNat ∧ b0.toNat < 240
    · simp only [sg, c1, c2, c3, and_self, if_true, if_false]
      match r with
      | [] => simp
      | [b1] => simp
      | b1 :: b2 :: r =>
        have := u8_lt b1
        have := u8_lt b2
        simp only
        split
        · unfold n3; simp only [List.length_cons]; omega
        · simp
    by_cases c4 : 240 ≤ b0.toNat ∧ b0.toNat < 248
    · simp only [sg, c1, c2, c3, c4, and_self, if_true, if_false]
      match r with
      | [] => simp
      | [b1] => simp
      | [b1, b2] => simp
      | b1 :: b2 :: b3 :: r =>
        simp only
        split
        · rename_i h; simp only [List.length_cons]; omega
        · simp
    simp [sg, c1, c2, c3, c4]
theorem sg_le (l : List UInt8) : (sg l).2 ≤ l.length := (sg_both l).1
theorem sg_bound (l : List UInt8) : (sg l).1 ≤ 1114111 := (sg_both l).2
/-- All signs of bytes; none, if one of them is not right. -/
def sgs (l : List UInt8) : Option (List Nat) :=
  if h : l = [] then some [] else if hw : (sg l).2 = 0 then none else (sgs (l.drop (sg l).2)).map ((sg l).1 :: ·)
termination_by l.length
decreasing_by
  have : l.length ≠ 0 := fun h0 => h (List.eq_nil_of_length_eq_zero h0)
  simp only [List.length_drop]; omega
theorem sgs_nil : sgs [] = some [] := by rw [sgs]; simp
theorem sgs_bad {l : List UInt8} (h : l ≠ []) (hw : (sg l).2 = 0) : sgs l = none := by rw [sgs]; simp [h, hw]
theorem sgs_go {l : List UInt8} (h : l ≠ []) (hw : (sg l).2 ≠ 0) : sgs l = (sgs (l.drop (sg l).2)).map ((sg l).1 :: ·) := by rw [sgs]; simp [h, hw]
theorem sgs_bound : ∀ (n : Nat) (l : List UInt8) (m : List Nat), l.length ≤ n → sgs l = some m → (∀ x ∈ m, x ≤ 1114111) ∧ m.length ≤ l.length
  | n, [], m, _, h => by rw [sgs_nil] at h; injection h with h; subst h; simp
  | 0, b :: l, m, hn, h => by simp at hn
  | n + 1, b :: l, m, hn, h => by
    by_cases hw : (sg (b :: l)).2 = 0
    · rw [sgs_bad (by simp) hw] at h; cases h
    · rw [sgs_go (by simp) hw, Option.map_eq_some_iff] at h
      obtain ⟨m', h1, rfl⟩ := h
      have hd : ((b :: l).drop (sg (b :: l)).2).length ≤ n := by rw [List.length_drop]; omega
      obtain ⟨i1, i2⟩ := sgs_bound n _ m' hd h1
      refine ⟨fun x hx => ?_, ?_⟩
      · rcases List.mem_cons.1 hx with rfl | hx
        · exact sg_bound _
        · exact i1 x hx
      · have := sg_le (b :: l)
        rw [List.length_drop] at i2
        rw [List.length_cons]
        omega

/-! ### Runes -/
theorem cb64 (b : UInt8) : (b.toNat / 64 == 2) = cb b := by
  rw [Bool.eq_iff_iff]
  simp only [beq_iff_eq, cb, decide_eq_true_eq]
  omega
theorem bget (s : List UInt8) (j : Nat) : (ByteArray.mk s.toArray).get! j = s.getD j default := by
  show s.toArray[j]! = _
  rw [List.getElem!_toArray, List.getElem!_eq_getElem?_getD, List.getD_eq_getElem?_getD]
theorem rdec_ok (s : List UInt8) (i : Nat) (hi : i < s.length) : rdec s (i : Int) = if (sg (s.drop i)).2 = 0 then (65533, 1) else (((sg (s.drop i)).1 : Int), ((sg (s.drop i)).2 : Int)) := by
  have hd := List.drop_eq_getElem_cons hi
  obtain ⟨b0, hb0⟩ : ∃ b, b = s[i] := ⟨_, rfl⟩
  obtain ⟨r, hr⟩ : ∃ r, r = s.drop (i + 1) := ⟨_, rfl⟩
  rw [← hb0, ← hr] at hd
  have hlt := u8_lt b0
  have hsz : (ByteArray.mk s.toArray).size = s.length := by show s.toArray.size = _; simp
  have at0 : s.getD i default = b0 := by rw [List.getD_eq_getElem?_getD, List.getElem?_eq_getElem hi, Option.getD_some, hb0]
  have g : ∀ k, s[i + (k + 1)]? = r[k]? := fun k => by rw [hr, List.getElem?_drop]; congr 1; omega
  have ats : ∀ k b, r[k]? = some b → s.getD (i + (k + 1)) default = b ∧ decide (i + (k + 1) < s.length) = true := fun k b h => by
    have h1 := g k
    rw [h] at h1
    exact ⟨by rw [List.getD_eq_getElem?_getD, h1]; rfl, decide_eq_true (List.getElem?_eq_some_iff.1 h1).1⟩
  have atn : ∀ k, r[k]? = none → decide (i + (k + 1) < s.length) = false := fun k h => by
    have h1 := g k
    rw [h] at h1
    exact decide_eq_false (by have := List.getElem?_eq_none_iff.1 h1; omega)
  rw [hd]
  unfold rdec Utf8.decode
  simp only [Int.toNat_natCast, hsz, bget, Nat.add_zero, at0, cb64]
  have m2 : (b0.toNat / 32 == 6) = decide (192 ≤ b0.toNat ∧ b0.toNat < 224) := by rw [Bool.eq_iff_iff]; simp only [beq_iff_eq, decide_eq_true_eq]; omega
  have m3 : (b0.toNat / 16 == 14) = decide (224 ≤ b0.toNat ∧ b0.toNat < 240) := by rw [Bool.eq_iff_iff]; simp only [beq_iff_eq, decide_eq_true_eq]; omega
  have m4 : (b0.toNat / 8 == 30) = decide (240 ≤ b0.toNat ∧ b0.toNat < 248) := by rw [Bool.eq_iff_iff]; simp only [beq_iff_eq, decide_eq_true_eq]; omega
  simp only [m2, m3, m4]
  by_cases c1 : b0.toNat < 128
  · simp [sg, c1]
  simp only [c1, if_false]
  by_cases c2 : 192 ≤ b0.toNat ∧ b0.toNat < 224
  · have c3 : ¬ (224 ≤ b0.toNat ∧ b0.toNat < 240) := by omega
    have c4 : ¬ (240 ≤ b0.toNat ∧ b0.toNat < 248) := by omega
    simp only [sg, c1, if_false, c2, c3, c4, and_self, decide_true, decide_false, Bool.true_and, Bool.false_and, if_true, Bool.false_eq_true]
    match r, ats, atn with
    | [], ats, atn =>
      simp [atn 0 rfl, Utf8.runeError]
    | b1 :: r, ats, atn =>
      obtain ⟨a1, a2⟩ := ats 0 b1 rfl
      simp only [Nat.zero_add] at a1 a2
      have hlt1 := u8_lt b1
      simp only [a1, a2, Bool.true_and]
      cases hc : cb b1 with
      | false => simp [Utf8.runeError]
      | true =>
        have hc' := cb_iff.1 hc
        have e2 : b0.toNat % 32 * 64 + b1.toNat % 64 = n2 b0 b1 := by unfold n2; omega
        simp only [if_true, e2, true_and, ge_iff_le]
        by_cases q3 : 128 ≤ n2 b0 b1 <;> simp [q3, Utf8.runeError]
  by_cases c3 : 224 ≤ b0.toNat ∧ b0.toNat < 240
  · have c4 : ¬ (240 ≤ b0.toNat ∧ b0.toNat < 248) := by omega
    simp only [sg, c1, if_false, c2, c3, c4, and_self, decide_true, decide_false, Bool.true_and, Bool.false_and, if_true, Bool.false_eq_true]
    match r, ats, atn with
    | [], ats, atn => simp [atn 0 rfl, Utf8.runeError]
    | [b1], ats, atn =>
      have h2 := atn 1 rfl
      simp only [Nat.reduceAdd] at h2
      simp [h2, Utf8.runeError]
    | b1 :: b2 :: r, ats, atn =>
      obtain ⟨a1, a2⟩ := ats 0 b1 rfl
      obtain ⟨a3, a4⟩ := ats 1 b2 rfl
      simp only [Nat.zero_add, Nat.reduceAdd] at a1 a2 a3 a4
      have hlt1 := u8_lt b1
      have hlt2 := u8_lt b2
      simp only [a1, a2, a3, a4, Bool.true_and]
      cases hc : cb b1 with
      | false => simp [Utf8.runeError]
      | true =>
        cases hc2 : cb b2 with
        | false => simp [Utf8.runeError]
        | true =>
          have hc' := cb_iff.1 hc
          have hc2' := cb_iff.1 hc2
          have e2 : b0.toNat % 16 * 4096 + b1.toNat % 64 * 64 + b2.toNat % 64 = n3 b0 b1 b2 := by unfold n3; omega
          have hn : n3 b0 b1 b2 < 65536 := by unfold n3; omega
          have hv : Utf8.valid ((n3 b0 b1 b2 : Nat) : Int) = decide (¬ (55296 ≤ n3 b0 b1 b2 ∧ n3 b0 b1 b2 ≤ 57343)) := by
            rw [Bool.eq_iff_iff]
            simp only [Utf8.valid, Bool.or_eq_true, Bool.and_eq_true, decide_eq_true_eq]
            omega
          simp only [if_true, e2, true_and, ge_iff_le, Bool.and_self, hv]
          by_cases q3 : 2048 ≤ n3 b0 b1 b2
          · by_cases q5 : 55296 ≤ n3 b0 b1 b2 ∧ n3 b0 b1 b2 ≤ 57343
            · simp [q3, q5, Utf8.runeError]
            · simp only [q3, q5, decide_true, decide_false, not_false_eq_true, Bool.true_and, if_true, and_self]; simp
          · simp [q3, Utf8.runeError]
  by_cases c4 : 240 ≤ b0.toNat ∧ b0.toNat < 248
  · simp only [sg, c1, if_false, c2, c3, c4, and_self, decide_true, decide_false, Bool.true_and, Bool.false_and, if_true, Bool.false_eq_true]
    match r, ats, atn with
    | [], ats, atn => simp [atn 0 rfl, Utf8.runeError]
    | [b1], ats, atn =>
      have h2 := atn 1 rfl
      simp only [Nat.reduceAdd] at h2
      simp [h2, Utf8.runeError]
    | [b1, b2], ats, atn =>
      have h2 := atn 2 rfl
      simp only [Nat.reduceAdd] at h2
      simp [h2, Utf8.runeError]
    | b1 :: b2 :: b3 :: r, ats, atn =>
      obtain ⟨a1, a2⟩ := ats 0 b1 rfl
      obtain ⟨a3, a4⟩ := ats 1 b2 rfl
      obtain ⟨a5, a6⟩ := ats 2 b3 rfl
      simp only [Nat.zero_add, Nat.reduceAdd] at a1 a2 a3 a4 a5 a6
      have hlt1 := u8_lt b1
      have hlt2 := u8_lt b2
      have hlt3 := u8_lt b3
      simp only [a1, a2, a3, a4, a5, a6, Bool.true_and]
      cases hc : cb b1 with
      | false => simp [Utf8.runeError]
      | true =>
        cases hc2 : cb b2 with
        | false => simp [Utf8.runeError]
        | true =>
          cases hc3 : cb b3 with
          | false => simp [Utf8.runeError]
          | true =>
            have hc' := cb_iff.1 hc
            have hc2' := cb_iff.1 hc2
            have hc3' := cb_iff.1 hc3
            have e2 : b0.toNat % 8 * 262144 + b1.toNat % 64 * 4096 + b2.toNat % 64 * 64 + b3.toNat % 64 = n4 b0 b1 b2 b3 := by unfold n4; omega
            simp only [if_true, e2, true_and, ge_iff_le, Bool.and_self]
            by_cases q3 : 65536 ≤ n4 b0 b1 b2 b3
            · have hv : Utf8.valid ((n4 b0 b1 b2 b3 : Nat) : Int) = decide (n4 b0 b1 b2 b3 ≤ 1114111) := by
                rw [Bool.eq_iff_iff]
                simp only [Utf8.valid, Bool.or_eq_true, Bool.and_eq_true, decide_eq_true_eq]
                omega
              rw [hv]
              by_cases q5 : n4 b0 b1 b2 b3 ≤ 1114111 <;> simp [q3, q5, Utf8.runeError]
            · simp [q3, Utf8.runeError]
  simp [sg, c1, c2, c3, c4, Utf8.runeError]
/-- Bytes below 128 are signs. -/
theorem sg_low {b : UInt8} {l : List UInt8} (h : b.toNat < 128) : sg (b :: l) = (b.toNat, 1) := by simp [sg, h]
theorem sgs_low : ∀ (k : Nat) (l : List UInt8), k ≤ l.length → (∀ j b, j < k → l[j]? = some b → b.toNat < 128) → (sgs (l.drop k)).isSome = (sgs l).isSome
  | 0, l, _, _ => by simp
  | k + 1, [], hk, _ => by simp at hk
  | k + 1, b :: l, hk, h => by
    have hb := h 0 b (by omega) rfl
    rw [List.drop_succ_cons, sgs_low k l (by simpa using hk) (fun j c hj hc => h (j + 1) c (by omega) (by simpa using hc)), sgs_go (l := b :: l) (by simp) (by rw [sg_low hb]; simp), sg_low hb]
    simp
end Go.Proofs.YtdkklfegpjlklaaDoor
/-
  Which texts are right: the library's look at them, and what the signs say.
-/
namespace Go.Proofs.YtdkklfegpjlklaaDoor
set_option maxRecDepth 100000
open Go.RowKit
set_option linter.unusedVariables false
set_option linter.unusedSimpArgs false
set_option maxRecDepth 100000

/-! ### Words of eight bytes -/
theorem q64_and (a b : Nat) (ha : a < 18446744073709551616) (hb : b < 18446744073709551616) : bits .and .u64 (a : Int) (b : Int) = ((a &&& b : Nat) : Int) := by
  have hx : a &&& b < 2 ^ 64 := Nat.and_lt_two_pow (n := 64) a (by omega)
  show IntKind.u64.wrap ((BitVec.ofInt 64 (a : Int) &&& BitVec.ofInt 64 (b : Int)).toNat : Int) = _
  rw [BitVec.toNat_and, q64_of a ha, q64_of b hb, IntKind.wrap_u64]
  omega
theorem sh64 (b : UInt8) (k : Nat) (hk : k ≤ 56) : Go.IntKind.wrap .u64 (Go.IntKind.wrap .u64 (b.toNat : Int) * 2 ^ k) = ((b.toNat <<< k : Nat) : Int) := by
  have hlt := u8_lt b
  have h1 : Go.IntKind.wrap .u64 (b.toNat : Int) = b.toNat := wrapU64 (by omega) (by omega)
  have h2 : b.toNat * 2 ^ k < 18446744073709551616 := by
    have : (2 : Nat) ^ k ≤ 2 ^ 56 := Nat.pow_le_pow_right (by decide) hk
    calc b.toNat * 2 ^ k ≤ 255 * 2 ^ 56 := Nat.mul_le_mul (by omega) this
      _ < _ := by decide
  rw [h1, Nat.shiftLeft_eq]
  have e : ((b.toNat : Int) * 2 ^ k) = ((b.toNat * 2 ^ k : Nat) : Int) := by simp
  rw [e]
  exact wrapU64 (by omega) (by omega)
theorem sh_lt (b : UInt8) (k : Nat) (hk : k ≤ 56) : b.toNat <<< k < 18446744073709551616 := by
  have hlt := u8_lt b
  have : (2 : Nat) ^ k ≤ 2 ^ 56 := Nat.pow_le_pow_right (by decide) hk
  rw [Nat.shiftLeft_eq]
  calc b.toNat * 2 ^ k ≤ 255 * 2 ^ 56 := Nat.mul_le_mul (by omega) this
    _ < _ := by decide
theorem or_lt64 {a b : Nat} (ha : a < 18446744073709551616) (hb : b < 18446744073709551616) : a ||| b < 18446744073709551616 := Nat.or_lt_two_pow (n := 64) ha hb
def w8 (a b c d e f g h : UInt8) : Nat := (((((((a.toNat ||| b.toNat <<< 8) ||| c.toNat <<< 16) ||| d.toNat <<< 24) ||| e.toNat <<< 32) ||| f.toNat <<< 40) ||| g.toNat <<< 48) ||| h.toNat <<< 56)
theorem w8_lt (a b c d e f g h : UInt8) : w8 a b c d e f g h < 18446744073709551616 := by
  have ha : a.toNat < 18446744073709551616 := by have := u8_lt a; omega
  exact or_lt64 (or_lt64 (or_lt64 (or_lt64 (or_lt64 (or_lt64 (or_lt64 ha (sh_lt b 8 (by decide))) (sh_lt c 16 (by decide))) (sh_lt d 24 (by decide))) (sh_lt e 32 (by decide))) (sh_lt f 40 (by decide))) (sh_lt g 48 (by decide))) (sh_lt h 56 (by decide))
theorem hi_bit (b : UInt8) (n : Nat) (h : 8 ≤ n) : b.toNat.testBit n = false := Nat.testBit_lt_two_pow (Nat.lt_of_lt_of_le (u8_lt b) (by have : (2 : Nat) ^ 8 ≤ 2 ^ n := Nat.pow_le_pow_right (by decide) h; exact this))
theorem w8_bits (a b c d e f g h : UInt8) :
    (w8 a b c d e f g h).testBit 7 = a.toNat.testBit 7 ∧ (w8 a b c d e f g h).testBit 15 = b.toNat.testBit 7 ∧ (w8 a b c d e f g h).testBit 23 = c.toNat.testBit 7 ∧ (w8 a b c d e f g h).testBit 31 = d.toNat.testBit 7 ∧ (w8 a b c d e f g h).testBit 39 = e.toNat.testBit 7 ∧ (w8 a b c d e f g h).testBit 47 = f.toNat.testBit 7 ∧ (w8 a b c d e f g h).testBit 55 = g.toNat.testBit 7 ∧ (w8 a b c d e f g h).testBit 63 = h.toNat.testBit 7 := by
  have z : ∀ (x : UInt8) (n : Nat), 8 ≤ n → x.toNat.testBit n = false := hi_bit
  refine ⟨?_, ?_, ?_, ?_, ?_, ?_, ?_, ?_⟩ <;> simp [w8, Nat.testBit_or, Nat.testBit_shiftLeft, z]
theorem low_of {x : UInt8} (h : x.toNat.testBit 7 = false) : x.toNat < 128 := by
  have hlt := u8_lt x
  rw [Nat.testBit_eq_decide_div_mod_eq] at h
  simp at h
  omega
def hiM : Nat := 9259542123273814144
theorem hi_zero {w : Nat} (h : w &&& hiM = 0) : w.testBit 7 = false ∧ w.testBit 15 = false ∧ w.testBit 23 = false ∧ w.testBit 31 = false ∧ w.testBit 39 = false ∧ w.testBit 47 = false ∧ w.testBit 55 = false ∧ w.testBit 63 = false := by
  have key : ∀ i, hiM.testBit i = true → w.testBit i = false := fun i hi => by
    have h1 : (w &&& hiM).testBit i = false := by rw [h]; simp
    rw [Nat.testBit_and, hi, Bool.and_true] at h1
    exact h1
  exact ⟨key 7 (by decide), key 15 (by decide), key 23 (by decide), key 31 (by decide), key 39 (by decide), key 47 (by decide), key 55 (by decide), key 63 (by decide)⟩
/-- Its first eight bytes are below 128. -/
def low8 (s : List UInt8) : Prop := ∀ j b, j < 8 → s[j]? = some b → b.toNat < 128
section
variable {N : Nat}
theorem word_ok (s : List UInt8) (h : 8 ≤ s.length) : ∃ w : Nat, w < 18446744073709551616 ∧ unicode_utf8_word_string N s = some (w : Int) ∧ (w &&& hiM = 0 → low8 s) := by
  match s, h with
  | a :: b :: c :: d :: e :: f :: g :: k :: r, _ =>
    refine ⟨w8 a b c d e f g k, w8_lt _ _ _ _ _ _ _ _, ?_, fun hz => ?_⟩
    · have ga : getI (a :: b :: c :: d :: e :: f :: g :: k :: r) (0 : Int) = some a := rfl
      have gb : getI (a :: b :: c :: d :: e :: f :: g :: k :: r) (1 : Int) = some b := rfl
      have gc : getI (a :: b :: c :: d :: e :: f :: g :: k :: r) (2 : Int) = some c := rfl
      have gd : getI (a :: b :: c :: d :: e :: f :: g :: k :: r) (3 : Int) = some d := rfl
      have ge : getI (a :: b :: c :: d :: e :: f :: g :: k :: r) (4 : Int) = some e := rfl
      have gf : getI (a :: b :: c :: d :: e :: f :: g :: k :: r) (5 : Int) = some f := rfl
      have gg : getI (a :: b :: c :: d :: e :: f :: g :: k :: r) (6 : Int) = some g := rfl
      have gk : getI (a :: b :: c :: d :: e :: f :: g :: k :: r) (7 : Int) = some k := rfl
      have ha : a.toNat < 18446744073709551616 := by have := u8_lt a; omega
      have e0 : Go.IntKind.wrap .u64 (a.toNat : Int) = a.toNat := wrapU64 (by omega) (by omega)
      have m8 : min (Int.toNat 8) (IntKind.bits IntKind.u64) = 8 := by decide
      have m16 : min (Int.toNat 16) (IntKind.bits IntKind.u64) = 16 := by decide
      have m24 : min (Int.toNat 24) (IntKind.bits IntKind.u64) = 24 := by decide
      have m32 : min (Int.toNat 32) (IntKind.bits IntKind.u64) = 32 := by decide
      have m40 : min (Int.toNat 40) (IntKind.bits IntKind.u64) = 40 := by decide
      have m48 : min (Int.toNat 48) (IntKind.bits IntKind.u64) = 48 := by decide
      have m56 : min (Int.toNat 56) (IntKind.bits IntKind.u64) = 56 := by decide
      simp only [unicode_utf8_word_string, ga, gb, gc, gd, ge, gf, gg, gk, Option.bind_some, e0, m8, m16, m24, m32, m40, m48, m56, sh64 b 8 (by decide), sh64 c 16 (by decide), sh64 d 24 (by decide), sh64 e 32 (by decide), sh64 f 40 (by decide), sh64 g 48 (by decide), sh64 k 56 (by decide)]
      have l1 := or_lt64 ha (sh_lt b 8 (by decide))
      have l2 := or_lt64 l1 (sh_lt c 16 (by decide))
      have l3 := or_lt64 l2 (sh_lt d 24 (by decide))
      have l4 := or_lt64 l3 (sh_lt e 32 (by decide))
      have l5 := or_lt64 l4 (sh_lt f 40 (by decide))
      have l6 := or_lt64 l5 (sh_lt g 48 (by decide))
      rw [q64_or _ _ ha (sh_lt b 8 (by decide)), q64_or _ _ l1 (sh_lt c 16 (by decide)), q64_or _ _ l2 (sh_lt d 24 (by decide)), q64_or _ _ l3 (sh_lt e 32 (by decide)), q64_or _ _ l4 (sh_lt f 40 (by decide)), q64_or _ _ l5 (sh_lt g 48 (by decide)), q64_or _ _ l6 (sh_lt k 56 (by decide))]
      rfl
    · obtain ⟨b1, b2, b3, b4, b5, b6, b7, b8⟩ := w8_bits a b c d e f g k
      obtain ⟨z1, z2, z3, z4, z5, z6, z7, z8⟩ := hi_zero hz
      rw [z1] at b1; rw [z2] at b2; rw [z3] at b3; rw [z4] at b4; rw [z5] at b5; rw [z6] at b6; rw [z7] at b7; rw [z8] at b8
      intro j x hj hx
      have : j = 0 ∨ j = 1 ∨ j = 2 ∨ j = 3 ∨ j = 4 ∨ j = 5 ∨ j = 6 ∨ j = 7 := by omega
      rcases this with rfl | rfl | rfl | rfl | rfl | rfl | rfl | rfl <;> (simp at hx; subst hx; first | exact low_of b1.symm | exact low_of b2.symm | exact low_of b3.symm | exact low_of b4.symm | exact low_of b5.symm | exact low_of b6.symm | exact low_of b7.symm | exact low_of b8.symm)
theorem low8_drop {s : List UInt8} (h : 8 ≤ s.length) (hl : low8 s) : (sgs (s.drop 8)).isSome = (sgs s).isSome := sgs_low 8 s h hl
theorem or_zero {a b : Nat} (h : (a ||| b) &&& hiM = 0) : a &&& hiM = 0 ∧ b &&& hiM = 0 := by
  constructor
  · apply Nat.eq_of_testBit_eq
    intro i
    have h1 : ((a ||| b) &&& hiM).testBit i = false := by rw [h]; simp
    rw [Nat.testBit_and, Nat.testBit_or] at h1
    rw [Nat.testBit_and, Nat.zero_testBit]
    revert h1; cases a.testBit i <;> cases b.testBit i <;> cases hiM.testBit i <;> simp
  · apply Nat.eq_of_testBit_eq
    intro i
    have h1 : ((a ||| b) &&& hiM).testBit i = false := by rw [h]; simp
    rw [Nat.testBit_and, Nat.testBit_or] at h1
    rw [Nat.testBit_and, Nat.zero_testBit]
    revert h1; cases a.testBit i <;> cases b.testBit i <;> cases hiM.testBit i <;> simp
theorem dropI8 (s : List UInt8) (k : Nat) (h : k ≤ s.length) : dropI s ((k : Nat) : Int) = some (s.drop k) := dropI_nat s rfl h
theorem and_hi (w : Nat) (h : w < 18446744073709551616) : bits .and .u64 (w : Int) (9259542123273814144 : Int) = ((w &&& hiM : Nat) : Int) := q64_and w hiM h (by decide)
theorem loop9 : ∀ (n M : Nat) (s : List UInt8), s.length ≤ n → n < M → ∃ t : List UInt8, gl (fun X c => unicode_utf8_ValidString_L9 N X c.1.1) M ((s, ()), ()) = some ((t, ()), ()) ∧ t.length ≤ s.length ∧ (sgs t).isSome = (sgs s).isSome
  | n, 0, s, _, h => by omega
  | n, M + 1, s, hn, hM => by
    rw [gl_succ]
    by_cases hl : 32 < s.length
    · have c1 : (32 : Int) < (s.length : Int) := by omega
      obtain ⟨w1, a1, a2, a3⟩ := word_ok (N := N) s (by omega)
      obtain ⟨w2, b1, b2, b3⟩ := word_ok (N := N) (s.drop 8) (by rw [List.length_drop]; omega)
      obtain ⟨w3, d1, d2, d3⟩ := word_ok (N := N) (s.drop 16) (by rw [List.length_drop]; omega)
      obtain ⟨w4, e1, e2, e3⟩ := word_ok (N := N) (s.drop 24) (by rw [List.length_drop]; omega)
      have f1 : dropI s (8 : Int) = some (s.drop 8) := dropI8 s 8 (by omega)
      have f2 : dropI s (16 : Int) = some (s.drop 16) := dropI8 s 16 (by omega)
      have f3 : dropI s (24 : Int) = some (s.drop 24) := dropI8 s 24 (by omega)
      have f4 : dropI s (32 : Int) = some (s.drop 32) := dropI8 s 32 (by omega)
      have l1 := or_lt64 a1 b1
      have l2 := or_lt64 d1 e1
      have l3 := or_lt64 l1 l2
      simp only [unicode_utf8_ValidString_L9, c1, decide_true, cond_true, a2, Option.bind_some, f1, b2, f2, d2, f3, e2, f4, q64_or _ _ a1 b1, q64_or _ _ d1 e1, q64_or _ _ l1 l2, and_hi _ l3]
      by_cases hz : ((w1 ||| w2) ||| (w3 ||| w4)) &&& hiM = 0
      · obtain ⟨z1, z2⟩ := or_zero hz
        obtain ⟨z3, z4⟩ := or_zero z1
        obtain ⟨z5, z6⟩ := or_zero z2
        have k1 := low8_drop (by omega) (a3 z3)
        have k2 := low8_drop (by rw [List.length_drop]; omega) (b3 z4)
        have k3 := low8_drop (by rw [List.length_drop]; omega) (d3 z5)
        have k4 := low8_drop (by rw [List.length_drop]; omega) (e3 z6)
        simp only [List.drop_drop, Nat.reduceAdd] at k1 k2 k3 k4
        have ih := loop9 (n - 32) M (s.drop 32) (by rw [List.length_drop]; omega) (by omega)
        obtain ⟨t, t1, t2, t3⟩ := ih
        refine ⟨t, ?_, by rw [List.length_drop] at t2; omega, by rw [t3, k4, k3, k2, k1]⟩
        simp only [hz, Int.natCast_zero, decide_true, cond_true]
        exact t1
      · have hz' : ¬ ((((w1 ||| w2) ||| (w3 ||| w4)) &&& hiM : Nat) : Int) = 0 := by omega
        refine ⟨s, ?_, Nat.le_refl _, rfl⟩
        simp only [hz', decide_false, cond_false]
    · have c1 : ¬ (32 : Int) < (s.length : Int) := by omega
      refine ⟨s, ?_, Nat.le_refl _, rfl⟩
      simp only [unicode_utf8_ValidString_L9, c1, decide_false, cond_false]
/-! ### The library's tables -/
def firstT : List Int := [240, 240, 240, 240, 240, 240, 240, 240, 240, 240, 240, 240, 240, 240, 240, 240, 240, 240, 240, 240, 240, 240, 240, 240, 240, 240, 240, 240, 240, 240, 240, 240, 240, 240, 240, 240, 240, 240, 240, 240, 240, 240, 240, 240, 240, 240, 240, 240, 240, 240, 240, 240, 240, 240, 240, 240, 240, 240, 240, 240, 240, 240, 240, 240, 240, 240, 240, 240, 240, 240, 240, 240, 240, 240, 240, 240, 240, 240, 240, 240, 240, 240, 240, 240, 240, 240, 240, 240, 240, 240, 240, 240, 240, 240, 240, 240, 240, 240, 240, 240, 240, 240, 240, 240, 240, 240, 240, 240, 240, 240, 240, 240, 240, 240, 240, 240, 240, 240, 240, 240, 240, 240, 240, 240, 240, 240, 240, 240, 241, 241, 241, 241, 241, 241, 241, 241, 241, 241, 241, 241, 241, 241, 241, 241, 241, 241, 241, 241, 241, 241, 241, 241, 241, 241, 241, 241, 241, 241, 241, 241, 241, 241, 241, 241, 241, 241, 241, 241, 241, 241, 241, 241, 241, 241, 241, 241, 241, 241, 241, 241, 241, 241, 241, 241, 241, 241, 241, 241, 241, 241, 241, 241, 241, 241, 2, 2, 2, 2, 2, 2, 2, 2, 2, 2, 2, 2, 2, 2, 2, 2, 2, 2, 2, 2, 2, 2, 2, 2, 2, 2, 2, 2, 2, 2, 19, 3, 3, 3, 3, 3, 3, 3, 3, 3, 3, 3, 3, 35, 3, 3, 52, 4, 4, 4, 68, 241, 241, 241, 241, 241, 241, 241, 241, 241, 241, 241]
def accT : List (Int × Int) := [(128, 191), (160, 191), (128, 159), (144, 191), (128, 143), (0, 0), (0, 0), (0, 0), (0, 0), (0, 0), (0, 0), (0, 0), (0, 0), (0, 0), (0, 0), (0, 0)]
/-- What the tables say of a first byte. -/
def tabB (b : Nat) : Option (Int × Int × Int) := match getI firstT (b : Int) with
  | some x => (match getI accT (Int.fdiv x (2 ^ min (Int.toNat 4) (IntKind.bits IntKind.u8))) with
    | some (lo, hi) => some (Go.IntKind.wrap .i64 (bits .and .u8 x 7), lo, hi)
    | none => none)
  | none => none
def tabW (b : Nat) : Int × Int × Int :=
  if 194 ≤ b ∧ b < 224 then (2, 128, 191) else if b = 224 then (3, 160, 191) else if b = 237 then (3, 128, 159) else if 225 ≤ b ∧ b < 240 then (3, 128, 191)
  else if b = 240 then (4, 144, 191) else if 241 ≤ b ∧ b < 244 then (4, 128, 191) else if b = 244 then (4, 128, 143) else (1, 128, 191)
theorem tab_all : ∀ b : Fin 128, (match tabB (128 + b.val), tabW (128 + b.val) with | some (n, lo, hi), (n', lo', hi') => n == n' && (n == 1 || (lo == lo' && hi == hi')) | _, _ => false) = true := by decide +kernel
theorem tab_ok (b : UInt8) (h : 128 ≤ b.toNat) : ∃ x lo hi, getI firstT (b.toNat : Int) = some x ∧ getI accT (Int.fdiv x (2 ^ min (Int.toNat 4) (IntKind.bits IntKind.u8))) = some (lo, hi) ∧
    Go.IntKind.wrap .i64 (bits .and .u8 x 7) = (tabW b.toNat).1 ∧ ((tabW b.toNat).1 = 1 ∨ (lo = (tabW b.toNat).2.1 ∧ hi = (tabW b.toNat).2.2)) := by
  have hlt := u8_lt b
  have := tab_all ⟨b.toNat - 128, by omega⟩
  have e : 128 + (b.toNat - 128) = b.toNat := by omega
  simp only [e, tabB] at this
  split at this
  · rename_i n lo hi n' lo' hi' h1 h2
    split at h1
    · rename_i x hx
      split at h1
      · rename_i p lo1 hi1 hp
        injection h1 with h1
        injection h1 with h3 h4
        injection h4 with h4 h5
        subst h4 h5
        refine ⟨x, lo1, hi1, hx, hp, ?_, ?_⟩
        · rw [h2]
          simp only [Bool.and_eq_true, beq_iff_eq] at this
          rw [h3]; exact this.1
        · rw [h2]
          simp only [Bool.and_eq_true, Bool.or_eq_true, beq_iff_eq] at this
          rcases this.2 with h6 | h6
          · exact .inl (by rw [← this.1]; exact h6)
          · exact .inr h6
      · cases h1
    · cases h1
  · cases this
end
end Go.Proofs.YtdkklfegpjlklaaDoor
/-
  Texts that are right, and how many signs they have: by the library, by the document.
-/
namespace Go.Proofs.YtdkklfegpjlklaaDoor
set_option maxRecDepth 100000
open Go.RowKit
set_option linter.unusedVariables false
set_option linter.unusedSimpArgs false
set_option maxRecDepth 100000

theorem sgv2 (b0 : UInt8) (r : List UInt8) (h : 194 ≤ b0.toNat ∧ b0.toNat < 224) : (sg (b0 :: r)).2 = (match r with | b1 :: _ => if 128 ≤ b1.toNat ∧ b1.toNat ≤ 191 then 2 else 0 | _ => 0) := by
  have c1 : ¬ b0.toNat < 128 := by omega
  have c2 : 192 ≤ b0.toNat ∧ b0.toNat < 224 := by omega
  simp only [sg, c1, c2, and_self, if_true, if_false]
  match r with
  | [] => rfl
  | b1 :: r =>
    simp only
    by_cases hc : 128 ≤ b1.toNat ∧ b1.toNat ≤ 191
    · rw [if_pos hc, if_pos ⟨cb_iff.2 (by omega), by unfold n2; omega⟩]
    · rw [if_neg hc, if_neg (fun h => hc (by have := cb_iff.1 h.1; omega))]
theorem sgv3 (b0 : UInt8) (r : List UInt8) (h : 224 ≤ b0.toNat ∧ b0.toNat < 240) : (sg (b0 :: r)).2 = (match r with | b1 :: b2 :: _ => if ((tabW b0.toNat).2.1 ≤ b1.toNat ∧ (b1.toNat : Int) ≤ (tabW b0.toNat).2.2) ∧ 128 ≤ b2.toNat ∧ b2.toNat ≤ 191 then 3 else 0 | _ => 0) ∧ (tabW b0.toNat).1 = 3 := by
  have c1 : ¬ b0.toNat < 128 := by omega
  have c2 : ¬ (192 ≤ b0.toNat ∧ b0.toNat < 224) := by omega
  simp only [sg, c1, c2, h, and_self, if_true, if_false]
  have d1 : ¬ (194 ≤ b0.toNat ∧ b0.toNat < 224) := by omega
  have key : ∀ lo hi : Nat, ((lo = 160 ∧ hi = 191 ∧ b0.toNat = 224) ∨ (lo = 128 ∧ hi = 159 ∧ b0.toNat = 237) ∨ (lo = 128 ∧ hi = 191 ∧ b0.toNat ≠ 224 ∧ b0.toNat ≠ 237)) → (match r with
      | b1 :: b2 :: _ => if cb b1 = true ∧ cb b2 = true ∧ 2048 ≤ n3 b0 b1 b2 ∧ ¬ (55296 ≤ n3 b0 b1 b2 ∧ n3 b0 b1 b2 ≤ 57343) then (n3 b0 b1 b2, 3) else (0, 0)
      | _ => (0, 0)).2 = (match r with | b1 :: b2 :: _ => if ((lo : Int) ≤ b1.toNat ∧ (b1.toNat : Int) ≤ hi) ∧ 128 ≤ b2.toNat ∧ b2.toNat ≤ 191 then 3 else 0 | _ => 0) := by
    intro lo hi hlo
    match r with
    | [] => rfl
    | [b1] => rfl
    | b1 :: b2 :: r =>
      simp only
      by_cases hc : ((lo : Int) ≤ b1.toNat ∧ (b1.toNat : Int) ≤ hi) ∧ 128 ≤ b2.toNat ∧ b2.toNat ≤ 191
      · rw [if_pos hc, if_pos ⟨cb_iff.2 (by omega), cb_iff.2 (by omega), by unfold n3; omega, by unfold n3; omega⟩]
      · rw [if_neg hc, if_neg (fun h => hc (by have h1 := cb_iff.1 h.1; have h2 := cb_iff.1 h.2.1; have h3 := h.2.2; unfold n3 at h3; omega))]
  by_cases e1 : b0.toNat = 224
  · have t : tabW b0.toNat = (3, 160, 191) := by rw [e1]; rfl
    rw [t]; exact ⟨key 160 191 (by omega), rfl⟩
  by_cases e2 : b0.toNat = 237
  · have t : tabW b0.toNat = (3, 128, 159) := by rw [e2]; rfl
    rw [t]; exact ⟨key 128 159 (by omega), rfl⟩
  have t : tabW b0.toNat = (3, 128, 191) := by
    have c5 : 225 ≤ b0.toNat ∧ b0.toNat < 240 := by omega
    simp [tabW, d1, e1, e2, c5]
  rw [t]; exact ⟨key 128 191 (by omega), rfl⟩
theorem sgv4 (b0 : UInt8) (r : List UInt8) (h : 240 ≤ b0.toNat ∧ b0.toNat < 245) : (sg (b0 :: r)).2 = (match r with | b1 :: b2 :: b3 :: _ => if ((tabW b0.toNat).2.1 ≤ b1.toNat ∧ (b1.toNat : Int) ≤ (tabW b0.toNat).2.2) ∧ (128 ≤ b2.toNat ∧ b2.toNat ≤ 191) ∧ 128 ≤ b3.toNat ∧ b3.toNat ≤ 191 then 4 else 0 | _ => 0) ∧ (tabW b0.toNat).1 = 4 := by
  have c1 : ¬ b0.toNat < 128 := by omega
  have c2 : ¬ (192 ≤ b0.toNat ∧ b0.toNat < 224) := by omega
  have c3 : ¬ (224 ≤ b0.toNat ∧ b0.toNat < 240) := by omega
  have c4 : 240 ≤ b0.toNat ∧ b0.toNat < 248 := by omega
  simp only [sg, c1, c2, c3, c4, and_self, if_true, if_false]
  have d1 : ¬ (194 ≤ b0.toNat ∧ b0.toNat < 224) := by omega
  have d2 : ¬ (225 ≤ b0.toNat ∧ b0.toNat < 240) := by omega
  have d3 : ¬ b0.toNat = 224 := by omega
  have d4 : ¬ b0.toNat = 237 := by omega
  have key : ∀ lo hi : Nat, ((lo = 144 ∧ hi = 191 ∧ b0.toNat = 240) ∨ (lo = 128 ∧ hi = 143 ∧ b0.toNat = 244) ∨ (lo = 128 ∧ hi = 191 ∧ b0.toNat ≠ 240 ∧ b0.toNat ≠ 244)) → (match r with
      | b1 :: b2 :: b3 :: _ => if cb b1 = true ∧ cb b2 = true ∧ cb b3 = true ∧ 65536 ≤ n4 b0 b1 b2 b3 ∧ n4 b0 b1 b2 b3 ≤ 1114111 then (n4 b0 b1 b2 b3, 4) else (0, 0)
      | _ => (0, 0)).2 = (match r with | b1 :: b2 :: b3 :: _ => if ((lo : Int) ≤ b1.toNat ∧ (b1.toNat : Int) ≤ hi) ∧ (128 ≤ b2.toNat ∧ b2.toNat ≤ 191) ∧ 128 ≤ b3.toNat ∧ b3.toNat ≤ 191 then 4 else 0 | _ => 0) := by
    intro lo hi hlo
    match r with
    | [] => rfl
    | [b1] => rfl
    | [b1, b2] => rfl
    | b1 :: b2 :: b3 :: r =>
      simp only
      by_cases hc : ((lo : Int) ≤ b1.toNat ∧ (b1.toNat : Int) ≤ hi) ∧ (128 ≤ b2.toNat ∧ b2.toNat ≤ 191) ∧ 128 ≤ b3.toNat ∧ b3.toNat ≤ 191
      · rw [if_pos hc, if_pos ⟨cb_iff.2 (by omega), cb_iff.2 (by omega), cb_iff.2 (by omega), by unfold n4; omega, by unfold n4; omega⟩]
      · rw [if_neg hc, if_neg (fun h => hc (by have h1 := cb_iff.1 h.1; have h2 := cb_iff.1 h.2.1; have h4 := cb_iff.1 h.2.2.1; have h3 := h.2.2.2; unfold n4 at h3; omega))]
  by_cases e1 : b0.toNat = 240
  · have t : tabW b0.toNat = (4, 144, 191) := by rw [e1]; rfl
    rw [t]; exact ⟨key 144 191 (by omega), rfl⟩
  by_cases e2 : b0.toNat = 244
  · have t : tabW b0.toNat = (4, 128, 143) := by rw [e2]; rfl
    rw [t]; exact ⟨key 128 143 (by omega), rfl⟩
  have t : tabW b0.toNat = (4, 128, 191) := by
    have c5 : 241 ≤ b0.toNat ∧ b0.toNat < 244 := by omega
    simp [tabW, d1, d2, d3, d4, e1, e2, c5]
  rw [t]; exact ⟨key 128 191 (by omega), rfl⟩
theorem sgv0 (b0 : UInt8) (r : List UInt8) (h : 128 ≤ b0.toNat) (h' : b0.toNat < 194 ∨ 245 ≤ b0.toNat) : (sg (b0 :: r)).2 = 0 ∧ (tabW b0.toNat).1 = 1 := by
  have hlt := u8_lt b0
  have c1 : ¬ b0.toNat < 128 := by omega
  have c3 : ¬ (224 ≤ b0.toNat ∧ b0.toNat < 240) := by omega
  have d1 : ¬ (194 ≤ b0.toNat ∧ b0.toNat < 224) := by omega
  have d2 : ¬ (225 ≤ b0.toNat ∧ b0.toNat < 240) := by omega
  have d3 : ¬ b0.toNat = 224 := by omega
  have d4 : ¬ b0.toNat = 237 := by omega
  have d5 : ¬ b0.toNat = 240 := by omega
  have d6 : ¬ b0.toNat = 244 := by omega
  have d7 : ¬ (241 ≤ b0.toNat ∧ b0.toNat < 244) := by omega
  refine ⟨?_, by simp [tabW, d1, d2, d3, d4, d5, d6, d7]⟩
  by_cases c2 : 192 ≤ b0.toNat ∧ b0.toNat < 224
  · simp only [sg, c1, c2, and_self, if_true, if_false]
    match r with
    | [] => rfl
    | b1 :: r =>
      simp only
      rw [if_neg (fun h => by have h1 := cb_iff.1 h.1; have h3 := h.2; unfold n2 at h3; omega)]
  by_cases c4 : 240 ≤ b0.toNat ∧ b0.toNat < 248
  · simp only [sg, c1, c2, c3, c4, and_self, if_true, if_false]
    match r with
    | [] => rfl
    | [b1] => rfl
    | [b1, b2] => rfl
    | b1 :: b2 :: b3 :: r =>
      simp only
      rw [if_neg (fun h => by have h3 := h.2.2.2; unfold n4 at h3; omega)]
  simp [sg, c1, c2, c3, c4]
/-- A right sign goes: what is behind it is right, or not, as all is. -/
theorem sgs_step {l : List UInt8} {k : Nat} (hl : l ≠ []) (h : (sg l).2 = k) (hk : k ≠ 0) : (sgs (l.drop k)).isSome = (sgs l).isSome := by
  rw [sgs_go hl (by omega), h]; simp
section
variable {N : Nat}
abbrev VX := (((List UInt8) × Unit) × Unit) → Option (((((Bool) × Unit) × Unit) ⊕ (Unit × Unit)))
def VQ (v : Bool) : ((((Bool) × Unit) × Unit) ⊕ (Unit × Unit)) → Prop
  | .inl q => q.1.1 = v
  | .inr _ => true = v
theorem valid_step (X : VX) (s : List UInt8) (hN : s.length < N) : (∃ o, unicode_utf8_ValidString_L1 N X s = some o ∧ VQ (sgs s).isSome o) ∨ ∃ t : List UInt8, t.length < s.length ∧ (sgs t).isSome = (sgs s).isSome ∧ unicode_utf8_ValidString_L1 N X s = X ((t, ()), ()) := by
  match s, hN with
  | [], _ =>
    left
    exact ⟨_, rfl, by rw [sgs_nil]; rfl⟩
  | b0 :: r, hN =>
    have hlt := u8_lt b0
    have c0 : (0 : Int) < (((b0 :: r).length : Nat) : Int) := by rw [List.length_cons]; omega
    have g0 : getI (b0 :: r) (0 : Int) = some b0 := rfl
    by_cases hb : b0.toNat < 128
    · right
      have c1 : (b0.toNat : Int) < 128 := by omega
      have f1 : dropI (b0 :: r) (1 : Int) = some r := dropI8 (b0 :: r) 1 (by simp)
      have s1 : (sgs r).isSome = (sgs (b0 :: r)).isSome := sgs_step (l := b0 :: r) (k := 1) (by simp) (by rw [sg_low hb]) (by omega)
      by_cases l8 : 8 < r.length
      · have c2 : (8 : Int) < (r.length : Int) := by omega
        obtain ⟨w1, a1, a2, a3⟩ := word_ok (N := N) r (by omega)
        by_cases z1 : w1 &&& hiM = 0
        · have f2 : dropI r (8 : Int) = some (r.drop 8) := dropI8 r 8 (by omega)
          have s2 := low8_drop (by omega) (a3 z1)
          by_cases l16 : 16 < (r.drop 8).length
          · have c3 : (16 : Int) < ((r.drop 8).length : Int) := by omega
            have hlen : (r.drop 8).length = r.length - 8 := List.length_drop
            obtain ⟨w2, b1, b2, b3⟩ := word_ok (N := N) (r.drop 8) (by omega)
            have f3 : dropI (r.drop 8) (8 : Int) = some ((r.drop 8).drop 8) := dropI8 _ 8 (by omega)
            have f4 : dropI (r.drop 8) (16 : Int) = some ((r.drop 8).drop 16) := dropI8 _ 16 (by omega)
            obtain ⟨w3, d1, d2, d3⟩ := word_ok (N := N) ((r.drop 8).drop 8) (by rw [List.length_drop]; omega)
            have l1 := or_lt64 b1 d1
            by_cases z2 : (w2 ||| w3) &&& hiM = 0
            · obtain ⟨y1, y2⟩ := or_zero z2
              have s3 := low8_drop (by omega) (b3 y1)
              have s4 := low8_drop (by rw [List.length_drop]; omega) (d3 y2)
              simp only [List.drop_drop, Nat.reduceAdd] at s3 s4 d2 f3 f4
              obtain ⟨t, t1, t2, t3⟩ := loop9 (N := N) (r.drop 24).length N (r.drop 24) (Nat.le_refl _) (by rw [List.length_drop]; rw [List.length_cons] at hN; omega)
              have t1' : unicode_utf8_ValidString_L9_R N ((r.drop 24, ()), ()) = some ((t, ()), ()) := t1
              refine ⟨t, by rw [List.length_drop] at t2; rw [List.length_cons]; omega, by rw [t3, s4, s3, s2, s1], ?_⟩
              simp only [unicode_utf8_ValidString_L1, c0, g0, c1, f1, c2, a2, f2, c3, b2, f3, d2, f4, decide_true, cond_true, Option.bind_some, and_hi _ a1, z1, Int.natCast_zero, q64_or _ _ b1 d1, and_hi _ l1, z2]
              rw [t1']
              rfl
            · have z2' : ¬ ((((w2 ||| w3) &&& hiM : Nat) : Int)) = 0 := by omega
              refine ⟨r.drop 8, by rw [List.length_cons]; omega, by rw [s2, s1], ?_⟩
              simp only [unicode_utf8_ValidString_L1, c0, g0, c1, f1, c2, a2, f2, c3, b2, f3, d2, f4, decide_true, decide_false, cond_true, cond_false, Option.bind_some, and_hi _ a1, z1, Int.natCast_zero, q64_or _ _ b1 d1, and_hi _ l1, z2']
          · have c3 : ¬ (16 : Int) < ((r.drop 8).length : Int) := by omega
            refine ⟨r.drop 8, by rw [List.length_cons, List.length_drop]; omega, by rw [s2, s1], ?_⟩
            simp only [unicode_utf8_ValidString_L1, c0, g0, c1, f1, c2, a2, f2, c3, decide_true, decide_false, cond_true, cond_false, Option.bind_some, and_hi _ a1, z1, Int.natCast_zero]
        · have z1' : ¬ (((w1 &&& hiM : Nat) : Int)) = 0 := by omega
          refine ⟨r, by rw [List.length_cons]; omega, s1, ?_⟩
          simp only [unicode_utf8_ValidString_L1, c0, g0, c1, f1, c2, a2, decide_true, decide_false, cond_true, cond_false, Option.bind_some, and_hi _ a1, z1']
      · have c2 : ¬ (8 : Int) < (r.length : Int) := by omega
        refine ⟨r, by rw [List.length_cons]; omega, s1, ?_⟩
        simp only [unicode_utf8_ValidString_L1, c0, g0, c1, f1, c2, decide_true, decide_false, cond_true, cond_false, Option.bind_some]
    · have c1 : ¬ (b0.toNat : Int) < 128 := by omega
      obtain ⟨x, lo, hi, t1, t2, t3, t4⟩ := tab_ok b0 (by omega)
      unfold firstT at t1
      unfold accT at t2
      have bad : (sg (b0 :: r)).2 = 0 → (sgs (b0 :: r)).isSome = false := fun h => by rw [sgs_bad (by simp) h]; rfl
      obtain ⟨y, hy⟩ : ∃ y, y = unicode_utf8_ValidString_L1 N X (b0 :: r) := ⟨_, rfl⟩
      rw [← hy]
      simp only [unicode_utf8_ValidString_L1, c0, g0, c1, decide_true, decide_false, cond_true, cond_false, Option.bind_some] at hy
      rw [t1, Option.bind_some, t2, Option.bind_some, t3] at hy
      subst hy
      clear t1 t2
      by_cases k2 : 194 ≤ b0.toNat ∧ b0.toNat < 224
      · have tw : tabW b0.toNat = (2, 128, 191) := by simp [tabW, k2]
        have hs := sgv2 b0 r k2
        rw [tw] at t4
        obtain ⟨rfl, rfl⟩ : lo = 128 ∧ hi = 191 := t4.resolve_left (by decide)
        simp only [tw, decide_true, cond_true]
        match r, hs, bad with
        | [], hs, bad => left; exact ⟨_, rfl, by rw [bad hs]; rfl⟩
        | b1 :: r, hs, bad =>
          have e1 : ¬ (((b0 :: b1 :: r).length : Nat) : Int) < 2 := by simp only [List.length_cons]; omega
          have g1 : getI (b0 :: b1 :: r) (1 : Int) = some b1 := rfl
          simp only [e1, decide_false, cond_false, g1, Option.bind_some]
          by_cases q : 128 ≤ b1.toNat ∧ b1.toNat ≤ 191
          · right
            have q1 : ¬ (b1.toNat : Int) < 128 := by omega
            have q2 : ¬ (191 : Int) < (b1.toNat : Int) := by omega
            simp only [q, and_self, if_true] at hs
            have fd : dropI (b0 :: b1 :: r) (2 : Int) = some r := dropI8 (b0 :: b1 :: r) 2 (by simp)
            refine ⟨r, by simp only [List.length_cons]; omega, sgs_step (l := b0 :: b1 :: r) (k := 2) (by simp) hs (by omega), ?_⟩
            simp only [q1, q2, decide_false, cond_false, fd, Option.bind_some]
          · left
            simp only [q, if_false] at hs
            by_cases q1 : (b1.toNat : Int) < 128
            · exact ⟨.inl ((false, ()), ()), by simp only [q1, decide_true, cond_true], by rw [bad hs]; rfl⟩
            · have q2 : (191 : Int) < (b1.toNat : Int) := by omega
              exact ⟨.inl ((false, ()), ()), by simp only [q1, q2, decide_true, decide_false, cond_true, cond_false], by rw [bad hs]; rfl⟩
      by_cases k3 : 224 ≤ b0.toNat ∧ b0.toNat < 240
      · obtain ⟨hs, tw⟩ := sgv3 b0 r k3
        obtain ⟨rfl, rfl⟩ : lo = (tabW b0.toNat).2.1 ∧ hi = (tabW b0.toNat).2.2 := t4.resolve_left (by rw [tw]; decide)
        clear t4
        generalize (tabW b0.toNat).2.1 = lo at hs ⊢
        generalize (tabW b0.toNat).2.2 = hi at hs ⊢
        have n23 : ¬ (3 : Int) = 2 := by decide
        simp only [tw, n23, decide_true, decide_false, cond_true, cond_false]
        match r, hs, bad with
        | [], hs, bad => left; exact ⟨_, rfl, by rw [bad hs]; rfl⟩
        | [b1], hs, bad => left; exact ⟨_, rfl, by rw [bad hs]; rfl⟩
        | b1 :: b2 :: r, hs, bad =>
          have e1 : ¬ (((b0 :: b1 :: b2 :: r).length : Nat) : Int) < 3 := by simp only [List.length_cons]; omega
          have g1 : getI (b0 :: b1 :: b2 :: r) (1 : Int) = some b1 := rfl
          have g2 : getI (b0 :: b1 :: b2 :: r) (2 : Int) = some b2 := rfl
          simp only [e1, decide_false, cond_false, g1, g2, Option.bind_some]
          by_cases q : (lo ≤ (b1.toNat : Int) ∧ (b1.toNat : Int) ≤ hi) ∧ 128 ≤ b2.toNat ∧ b2.toNat ≤ 191
          · right
            have q1 : ¬ (b1.toNat : Int) < lo := by omega
            have q2 : ¬ hi < (b1.toNat : Int) := by omega
            have q3 : ¬ (b2.toNat : Int) < 128 := by omega
            have q4 : ¬ (191 : Int) < (b2.toNat : Int) := by omega
            simp only [q, and_self, if_true] at hs
            have fd : dropI (b0 :: b1 :: b2 :: r) (3 : Int) = some r := dropI8 (b0 :: b1 :: b2 :: r) 3 (by simp)
            refine ⟨r, by simp only [List.length_cons]; omega, sgs_step (l := b0 :: b1 :: b2 :: r) (k := 3) (by simp) hs (by omega), ?_⟩
            simp only [q1, q2, q3, q4, decide_false, cond_false, fd, Option.bind_some]
          · left
            simp only [q, if_false] at hs
            refine ⟨.inl ((false, ()), ()), ?_, by rw [bad hs]; rfl⟩
            by_cases q1 : (b1.toNat : Int) < lo
            · simp only [q1, decide_true, cond_true]
            by_cases q2 : hi < (b1.toNat : Int)
            · simp only [q1, q2, decide_true, decide_false, cond_true, cond_false]
            by_cases q3 : (b2.toNat : Int) < 128
            · simp only [q1, q2, q3, decide_true, decide_false, cond_true, cond_false]
            have q4 : (191 : Int) < (b2.toNat : Int) := by omega
            simp only [q1, q2, q3, q4, decide_true, decide_false, cond_true, cond_false]
      by_cases k4 : 240 ≤ b0.toNat ∧ b0.toNat < 245
      · obtain ⟨hs, tw⟩ := sgv4 b0 r k4
        obtain ⟨rfl, rfl⟩ : lo = (tabW b0.toNat).2.1 ∧ hi = (tabW b0.toNat).2.2 := t4.resolve_left (by rw [tw]; decide)
        clear t4
        generalize (tabW b0.toNat).2.1 = lo at hs ⊢
        generalize (tabW b0.toNat).2.2 = hi at hs ⊢
        have n24 : ¬ (4 : Int) = 2 := by decide
        have n34 : ¬ (4 : Int) = 3 := by decide
        simp only [tw, n24, n34, decide_true, decide_false, cond_true, cond_false]
        match r, hs, bad with
        | [], hs, bad => left; exact ⟨_, rfl, by rw [bad hs]; rfl⟩
        | [b1], hs, bad => left; exact ⟨_, rfl, by rw [bad hs]; rfl⟩
        | [b1, b2], hs, bad => left; exact ⟨_, rfl, by rw [bad hs]; rfl⟩
        | b1 :: b2 :: b3 :: r, hs, bad =>
          have e1 : ¬ (((b0 :: b1 :: b2 :: b3 :: r).length : Nat) : Int) < 4 := by simp only [List.length_cons]; omega
          have g1 : getI (b0 :: b1 :: b2 :: b3 :: r) (1 : Int) = some b1 := rfl
          have g2 : getI (b0 :: b1 :: b2 :: b3 :: r) (2 : Int) = some b2 := rfl
          have g3 : getI (b0 :: b1 :: b2 :: b3 :: r) (3 : Int) = some b3 := rfl
          simp only [e1, decide_false, cond_false, g1, g2, g3, Option.bind_some]
          by_cases q : (lo ≤ (b1.toNat : Int) ∧ (b1.toNat : Int) ≤ hi) ∧ (128 ≤ b2.toNat ∧ b2.toNat ≤ 191) ∧ 128 ≤ b3.toNat ∧ b3.toNat ≤ 191
          · right
            have q1 : ¬ (b1.toNat : Int) < lo := by omega
            have q2 : ¬ hi < (b1.toNat : Int) := by omega
            have q3 : ¬ (b2.toNat : Int) < 128 := by omega
            have q4 : ¬ (191 : Int) < (b2.toNat : Int) := by omega
            have q5 : ¬ (b3.toNat : Int) < 128 := by omega
            have q6 : ¬ (191 : Int) < (b3.toNat : Int) := by omega
            simp only [q, and_self, if_true] at hs
            have fd : dropI (b0 :: b1 :: b2 :: b3 :: r) (4 : Int) = some r := dropI8 (b0 :: b1 :: b2 :: b3 :: r) 4 (by simp)
            refine ⟨r, by simp only [List.length_cons]; omega, sgs_step (l := b0 :: b1 :: b2 :: b3 :: r) (k := 4) (by simp) hs (by omega), ?_⟩
            simp only [q1, q2, q3, q4, q5, q6, decide_false, cond_false, fd, Option.bind_some]
          · left
            simp only [q, if_false] at hs
            refine ⟨.inl ((false, ()), ()), ?_, by rw [bad hs]; rfl⟩
            by_cases q1 : (b1.toNat : Int) < lo
            · simp only [q1, decide_true, cond_true]
            by_cases q2 : hi < (b1.toNat : Int)
            · simp only [q1, q2, decide_true, decide_false, cond_true, cond_false]
            by_cases q3 : (b2.toNat : Int) < 128
            · simp only [q1, q2, q3, decide_true, decide_false, cond_true, cond_false]
            by_cases q4 : (191 : Int) < (b2.toNat : Int)
            · simp only [q1, q2, q3, q4, decide_true, decide_false, cond_true, cond_false]
            by_cases q5 : (b3.toNat : Int) < 128
            · simp only [q1, q2, q3, q4, q5, decide_true, decide_false, cond_true, cond_false]
            have q6 : (191 : Int) < (b3.toNat : Int) := by omega
            simp only [q1, q2, q3, q4, q5, q6, decide_true, decide_false, cond_true, cond_false]
      · left
        obtain ⟨hs, tw⟩ := sgv0 b0 r (by omega) (by omega)
        have n1 : ¬ (1 : Int) = 2 := by decide
        have n2 : ¬ (1 : Int) = 3 := by decide
        have n3 : ¬ (1 : Int) = 4 := by decide
        refine ⟨.inl ((false, ()), ()), ?_, by rw [bad hs]; rfl⟩
        simp only [tw, n1, n2, n3, decide_false, cond_false]
theorem valid_ok (s : List UInt8) (hN : s.length < N) : unicode_utf8_ValidString N s = some (sgs s).isSome := by
  obtain ⟨o, h1, h2⟩ := gl_inv (G := fun X c => unicode_utf8_ValidString_L1 N X c.1.1) (I := fun n c => c.1.1.length ≤ n ∧ n < N ∧ (sgs c.1.1).isSome = (sgs s).isSome) (Q := VQ (sgs s).isSome) (fun X n c hi => by
    obtain ⟨i1, i2, i3⟩ := hi
    rcases valid_step (N := N) X c.1.1 (by omega) with ⟨o, o1, o2⟩ | ⟨t, t1, t2, t3⟩
    · exact .inl ⟨o, o1, by rw [← i3]; exact o2⟩
    · exact .inr ⟨t.length, ((t, ()), ()), by omega, ⟨Nat.le_refl _, by omega, by rw [t2]; exact i3⟩, t3⟩) N s.length ((s, ()), ()) hN ⟨Nat.le_refl _, hN, rfl⟩
  have h1' : unicode_utf8_ValidString_L1_R N ((s, ()), ()) = some o := h1
  unfold unicode_utf8_ValidString
  rw [h1', Option.bind_some]
  match o, h2 with
  | .inl q, h2 => simp only [Sum.elim_inl]; rw [show q.1.1 = _ from h2]
  | .inr q, h2 => simp only [Sum.elim_inr]; rw [← show true = _ from h2]
end
end Go.Proofs.YtdkklfegpjlklaaDoor
/-
  Texts as pairs of bytes: by the program, by the document.
-/
namespace Go.Proofs.YtdkklfegpjlklaaDoor
set_option maxRecDepth 100000
open Go.RowKit
set_option linter.unusedVariables false
set_option linter.unusedSimpArgs false
set_option maxRecDepth 100000

theorem sgs_end {l : List UInt8} (h : sgs l = some []) : l = [] := by
  by_cases hl : l = []
  · exact hl
  by_cases hw : (sg l).2 = 0
  · rw [sgs_bad hl hw] at h; cases h
  · rw [sgs_go hl hw, Option.map_eq_some_iff] at h
    obtain ⟨m, _, h⟩ := h
    cases h
theorem sgs_inv {s : List UInt8} {p x : Nat} {l : List Nat} (h : sgs (s.drop p) = some (x :: l)) : p < s.length ∧ (sg (s.drop p)).1 = x ∧ (sg (s.drop p)).2 ≠ 0 ∧ p + (sg (s.drop p)).2 ≤ s.length ∧ sgs (s.drop (p + (sg (s.drop p)).2)) = some l := by
  by_cases hl : s.drop p = []
  · rw [hl, sgs_nil] at h; cases h
  have hp : p < s.length := by
    rcases Nat.lt_or_ge p s.length with h | h
    · exact h
    · exact absurd (List.drop_eq_nil_of_le h) hl
  by_cases hw : (sg (s.drop p)).2 = 0
  · rw [sgs_bad hl hw] at h; cases h
  · rw [sgs_go hl hw, Option.map_eq_some_iff] at h
    obtain ⟨m, h1, h⟩ := h
    injection h with h2 h3
    subst h3
    have := sg_le (s.drop p)
    rw [List.length_drop] at this
    rw [List.drop_drop] at h1
    exact ⟨hp, h2, hw, by omega, h1⟩
/-- The units of a sign. -/
def un1 (n : Nat) : List Int := if n < 65536 then [(n : Int)] else [((55296 + (n - 65536) / 1024 : Nat) : Int), ((56320 + (n - 65536) % 1024 : Nat) : Int)]
def uns (l : List Nat) : List Int := l.flatMap un1
theorem un1_ok {n : Nat} (h : n ≤ 1114111) : (∀ x ∈ un1 n, 0 ≤ x ∧ x < 65536) ∧ (un1 n).length ≤ 2 ∧ 1 ≤ (un1 n).length := by
  unfold un1
  split
  · refine ⟨fun x hx => ?_, by simp, by simp⟩
    simp at hx; omega
  · refine ⟨fun x hx => ?_, by simp, by simp⟩
    simp at hx; omega
theorem uns_ok : ∀ {l : List Nat}, (∀ x ∈ l, x ≤ 1114111) → (∀ x ∈ uns l, 0 ≤ x ∧ x < 65536) ∧ (uns l).length ≤ 2 * l.length ∧ l.length ≤ (uns l).length
  | [], _ => by simp [uns]
  | n :: l, h => by
    obtain ⟨a1, a2, a3⟩ := un1_ok (h n List.mem_cons_self)
    obtain ⟨b1, b2, b3⟩ := uns_ok (l := l) (fun x hx => h x (List.mem_cons_of_mem _ hx))
    have e : uns (n :: l) = un1 n ++ uns l := rfl
    rw [e]
    refine ⟨fun x hx => ?_, ?_, ?_⟩
    · rcases List.mem_append.1 hx with hx | hx
      · exact a1 x hx
      · exact b1 x hx
    · rw [List.length_append, List.length_cons]; omega
    · rw [List.length_append, List.length_cons]; omega
theorem q32_and (a : Nat) (ha : a < 2147483648) : bits .and .i32 (a : Int) (1023 : Int) = ((a % 1024 : Nat) : Int) := by
  show IntKind.i32.wrap ((BitVec.ofInt 32 (a : Int) &&& BitVec.ofInt 32 1023).toNat : Int) = _
  have h1 : (BitVec.ofInt 32 (a : Int)).toNat = a := by rw [BitVec.ofInt_natCast, BitVec.toNat_ofNat]; exact Nat.mod_eq_of_lt (by omega)
  have h2 : (BitVec.ofInt 32 (1023 : Int)).toNat = 1023 := by decide
  rw [BitVec.toNat_and, h1, h2, Nat.and_two_pow_sub_one_eq_mod a 10, IntKind.wrap_i32]
  omega
section
variable {N : Nat}
theorem count_loop (s : List UInt8) (hs : s.length < 1000000000) : ∀ (l : List Nat) (p n M : Nat), sgs (s.drop p) = some l → p ≤ s.length → l.length < M → n ≤ p →
    gl (fun X c => unicode_utf8_RuneCountInString_L2 N X c.1.1 c.2.1 c.2.2.1) M (((n : Int), ()), (s, ((p : Int), ()))) = some ((((n + l.length : Nat) : Int), ()), ())
  | [], p, n, M + 1, h, hp, hM, hn => by
    have h0 := sgs_end h
    have hl : ¬ p < s.length := by have := congrArg List.length h0; rw [List.length_drop] at this; simp at this; omega
    rw [gl_succ]
    simp only [unicode_utf8_RuneCountInString_L2, Int.toNat_natCast, hl, decide_false, cond_false, List.length_nil, Nat.add_zero]
  | x :: l, p, n, M + 1, h, hp, hM, hn => by
    obtain ⟨h1, h2, h3, h4, h5⟩ := sgs_inv h
    rw [gl_succ]
    have e1 : Go.IntKind.wrap .i64 ((n : Int) + 1) = ((n + 1 : Nat) : Int) := by rw [wrap64 (by omega) (by omega)]; omega
    have e2 : (p : Int) + ((sg (s.drop p)).2 : Int) = ((p + (sg (s.drop p)).2 : Nat) : Int) := by omega
    simp only [unicode_utf8_RuneCountInString_L2, Int.toNat_natCast, h1, decide_true, cond_true, rdec_ok s p h1, h3, if_false, e1, e2]
    refine (count_loop s hs l (p + (sg (s.drop p)).2) (n + 1) M h5 h4 (by simpa using hM) (by omega)).trans ?_
    rw [List.length_cons, show n + 1 + l.length = n + (l.length + 1) by omega]
theorem signs_loop (hN : 10 ≤ N) (s : List UInt8) (hs : s.length < 1000000) : ∀ (M p : Nat) (acc : List Int), s.length - p < M → p ≤ s.length → acc.length ≤ p →
    gl (fun X c => ref09_Signs_L3 N X c.1.1 c.1.2.1 c.2.1) M ((s, ((p : Int), ())), (acc, ())) = some (match sgs (s.drop p) with
      | some l => .inr ((), (acc ++ l.map fun n => ((n : Nat) : Int), ()))
      | none => .inl (([], (false, ())), ()))
  | 0, p, acc, h, _, _ => by omega
  | M + 1, p, acc, h, hp, ha => by
    rw [gl_succ]
    by_cases hl : p < s.length
    · have c1 : (p : Int) < (s.length : Int) := by omega
      have hne : s.drop p ≠ [] := fun h0 => by have := congrArg List.length h0; rw [List.length_drop] at this; simp at this; omega
      have hle := sg_le (s.drop p)
      rw [List.length_drop] at hle
      simp only [ref09_Signs_L3, c1, decide_true, cond_true, sign_ok hN s p hl (by omega), Option.bind_some]
      by_cases hw : (sg (s.drop p)).2 = 0
      · have hw' : ((sg (s.drop p)).2 : Int) = 0 := by omega
        rw [sgs_bad hne hw]
        simp only [hw', decide_true, cond_true]
      · have hw' : ¬ ((sg (s.drop p)).2 : Int) = 0 := by omega
        have e1 : Go.IntKind.wrap .i64 ((p : Int) + ((sg (s.drop p)).2 : Int)) = ((p + (sg (s.drop p)).2 : Nat) : Int) := by rw [wrap64 (by omega) (by omega)]; omega
        have r1 : roomB (acc.length + [((sg (s.drop p)).1 : Int)].length) 8 = true := roomB_of (by have := big_len; simp; omega) (by simp; omega)
        have ih := signs_loop hN s hs M (p + (sg (s.drop p)).2) (acc ++ [((sg (s.drop p)).1 : Int)]) (by omega) (by omega) (by simp; omega)
        rw [sgs_go hne hw, List.drop_drop]
        simp only [hw', decide_false, cond_false, e1, r1, cond_true]
        refine ih.trans ?_
        cases sgs (s.drop (p + (sg (s.drop p)).2)) with
        | none => rfl
        | some l => simp
    · have c1 : ¬ (p : Int) < (s.length : Int) := by omega
      rw [List.drop_eq_nil_of_le (by omega), sgs_nil]
      simp only [ref09_Signs_L3, c1, decide_false, cond_false, List.map_nil, List.append_nil]
theorem count_ok (s : List UInt8) (hs : s.length < 1000000) (hN : s.length < N) {l : List Nat} (h : sgs s = some l) : unicode_utf8_RuneCountInString N s = some (l.length : Int) := by
  have hl := (sgs_bound s.length s l (Nat.le_refl _) h).2
  have := count_loop (N := N) s (by omega) l 0 0 N (by simpa using h) (Nat.zero_le _) (by omega) (Nat.le_refl _)
  have h1 : unicode_utf8_RuneCountInString_L2_R N (((0 : Int), ()), (s, ((0 : Int), ()))) = some ((((0 + l.length : Nat) : Int), ()), ()) := this
  unfold unicode_utf8_RuneCountInString
  rw [h1, Option.bind_some]
  simp
theorem signs_ok (s : List UInt8) (hs : s.length < 1000000) (hN : s.length + 10 ≤ N) : ref09_Signs N s = some (match sgs s with
    | some l => (l.map fun n => ((n : Nat) : Int), true)
    | none => ([], false)) := by
  have := signs_loop (N := N) (by omega) s hs N 0 [] (by omega) (Nat.zero_le _) (by simp)
  have h1 : ref09_Signs_L3_R N ((s, ((0 : Int), ())), (([] : List Int), ())) = _ := this
  unfold ref09_Signs
  rw [h1, Option.bind_some, List.drop_zero]
  cases sgs s with
  | none => rfl
  | some l => simp
/-- What may be. -/
def mayN (s : List UInt8) : Int := match sgs s with
  | some l => if 64 < l.length then 8 else 0
  | none => 3
theorem may_ok (s : List UInt8) (hs : s.length < 1000000) (hN : s.length + 10 ≤ N) : utf16_May N s = some (mayN s) := by
  unfold utf16_May utf16_Count mayN
  rw [valid_ok s (by omega)]
  cases h : sgs s with
  | none => rfl
  | some l =>
    simp only [Option.bind_some, Option.isSome_some, Bool.not_true, cond_false, count_ok (N := N) s hs (by omega) h]
    by_cases hl : 64 < l.length
    · have hl' : (64 : Int) < (l.length : Int) := by omega
      simp only [hl', hl, decide_true, cond_true, if_true]
    · have hl' : ¬ (64 : Int) < (l.length : Int) := by omega
      simp only [hl', hl, decide_false, cond_false, if_false]
theorem rmay_ok (s : List UInt8) (hs : s.length < 1000000) (hN : s.length + 10 ≤ N) : ref09_May N s = some (mayN s) := by
  unfold ref09_May mayN
  rw [signs_ok s hs hN]
  cases h : sgs s with
  | none => rfl
  | some l =>
    simp only [Option.bind_some, Bool.not_true, cond_false, List.length_map]
    by_cases hl : 64 < l.length
    · have hl' : (64 : Int) < (l.length : Int) := by omega
      simp only [hl', hl, decide_true, cond_true, if_true]
    · have hl' : ¬ (64 : Int) < (l.length : Int) := by omega
      simp only [hl', hl, decide_false, cond_false, if_false]
theorem wrapU16 {x : Int} (h1 : 0 ≤ x) (h2 : x < 65536) : Go.IntKind.wrap .u16 x = x := by
  rw [IntKind.wrap_u16]; omega
theorem wrap32 {x : Int} (h1 : -2147483648 ≤ x) (h2 : x < 2147483648) : Go.IntKind.wrap .i32 x = x := by
  rw [IntKind.wrap_i32]; omega
theorem units_loop (s : List UInt8) (hs : s.length < 1000000) : ∀ (l : List Nat) (p M : Nat) (acc : List Int), sgs (s.drop p) = some l → p ≤ s.length → l.length < M → acc.length ≤ 2 * p →
    gl (fun X c => utf16_Units_L5 N X c.2.1 c.2.2.1 c.2.2.2.1) M ((), (acc, (s, ((p : Int), ())))) = some ((), (acc ++ uns l, ()))
  | [], p, M + 1, acc, h, hp, hM, ha => by
    have h0 := sgs_end h
    have hl : ¬ p < s.length := by have := congrArg List.length h0; rw [List.length_drop] at this; simp at this; omega
    rw [gl_succ]
    simp only [utf16_Units_L5, Int.toNat_natCast, hl, decide_false, cond_false, uns, List.flatMap_nil, List.append_nil]
  | x :: l, p, M + 1, acc, h, hp, hM, ha => by
    obtain ⟨h1, h2, h3, h4, h5⟩ := sgs_inv h
    have hb := sg_bound (s.drop p)
    rw [h2] at hb
    rw [gl_succ]
    have e2 : (p : Int) + ((sg (s.drop p)).2 : Int) = ((p + (sg (s.drop p)).2 : Nat) : Int) := by omega
    have hu : uns (x :: l) = un1 x ++ uns l := rfl
    obtain ⟨u1, u2, u3⟩ := un1_ok hb
    have ih := units_loop s hs l (p + (sg (s.drop p)).2) M (acc ++ un1 x) h5 h4 (by simpa using hM) (by rw [List.length_append]; omega)
    simp only [utf16_Units_L5, Int.toNat_natCast, h1, decide_true, cond_true, rdec_ok s p h1, h3, if_false, e2, h2]
    rw [hu, ← List.append_assoc]
    by_cases hx : x < 65536
    · have hx' : (x : Int) < 65536 := by omega
      have e3 : Go.IntKind.wrap .u16 (x : Int) = x := wrapU16 (by omega) (by omega)
      have r1 : roomB (acc.length + [(x : Int)].length) 2 = true := roomB_of (by have := big_len; simp; omega) (by simp; omega)
      have eu : un1 x = [(x : Int)] := by simp [un1, hx]
      simp only [hx', decide_true, cond_true, e3, r1]
      rw [eu] at ih ⊢
      exact ih
    · have hx' : ¬ (x : Int) < 65536 := by omega
      have e3 : Go.IntKind.wrap .i32 ((x : Int) - 65536) = ((x - 65536 : Nat) : Int) := by rw [wrap32 (by omega) (by omega)]; omega
      have e4 : (2 : Int) ^ min (Int.toNat 10) (IntKind.bits IntKind.i32) = 1024 := by decide
      have e5 : Int.fdiv ((x - 65536 : Nat) : Int) 1024 = (((x - 65536) / 1024 : Nat) : Int) := by rw [Int.fdiv_eq_ediv_of_nonneg _ (by decide)]; omega
      have e6 : Go.IntKind.wrap .i32 (55296 + (((x - 65536) / 1024 : Nat) : Int)) = ((55296 + (x - 65536) / 1024 : Nat) : Int) := by rw [wrap32 (by omega) (by omega)]; omega
      have e7 : Go.IntKind.wrap .u16 ((55296 + (x - 65536) / 1024 : Nat) : Int) = ((55296 + (x - 65536) / 1024 : Nat) : Int) := wrapU16 (by omega) (by omega)
      have e8 : bits .and .i32 ((x - 65536 : Nat) : Int) (1023 : Int) = (((x - 65536) % 1024 : Nat) : Int) := q32_and _ (by omega)
      have e9 : Go.IntKind.wrap .i32 (56320 + (((x - 65536) % 1024 : Nat) : Int)) = ((56320 + (x - 65536) % 1024 : Nat) : Int) := by rw [wrap32 (by omega) (by omega)]; omega
      have e10 : Go.IntKind.wrap .u16 ((56320 + (x - 65536) % 1024 : Nat) : Int) = ((56320 + (x - 65536) % 1024 : Nat) : Int) := wrapU16 (by omega) (by omega)
      have eu : un1 x = [((55296 + (x - 65536) / 1024 : Nat) : Int), ((56320 + (x - 65536) % 1024 : Nat) : Int)] := by simp [un1, hx]
      have r1 : roomB (acc.length + [((55296 + (x - 65536) / 1024 : Nat) : Int), ((56320 + (x - 65536) % 1024 : Nat) : Int)].length) 2 = true := roomB_of (by have := big_len; simp; omega) (by simp; omega)
      simp only [hx', decide_false, cond_false, e3, e4, e5, e6, e7, e8, e9, e10, r1, cond_true]
      rw [eu] at ih ⊢
      exact ih
theorem units_ok (s : List UInt8) (hs : s.length < 1000000) (hN : s.length + 10 ≤ N) : utf16_Units N s = some (match sgs s with | some l => if 64 < l.length then [] else uns l | none => []) := by
  unfold utf16_Units
  rw [may_ok s hs hN]
  unfold mayN
  cases h : sgs s with
  | none => rfl
  | some l =>
    have hl := (sgs_bound s.length s l (Nat.le_refl _) h).2
    by_cases h64 : 64 < l.length
    · simp only [h64, if_true]; rfl
    · simp only [h64, if_false, Option.bind_some]
      have := units_loop (N := N) s hs l 0 N [] (by simpa using h) (Nat.zero_le _) (by omega) (by simp)
      have h1 : utf16_Units_L5_R N ((), (([] : List Int), (s, ((0 : Int), ())))) = some ((), ([] ++ uns l, ())) := this
      simp only [h1, decide_true, Bool.not_true, cond_false, Option.bind_some, List.nil_append]
theorem runits_loop (l : List Nat) (hl : l.length < 1000000) (hx : ∀ x ∈ l, x ≤ 1114111) : ∀ (k i M : Nat) (acc : List Int), k + i = l.length → k < M → acc.length ≤ 2 * i →
    gl (fun X c => ref09_Units_L6 N X c.1.1 c.1.2.1 c.2.1) M (((l.map fun n => ((n : Nat) : Int)), ((i : Int), ())), (acc, ())) = some ((), (acc ++ uns (l.drop i), ()))
  | 0, i, M + 1, acc, hk, hM, ha => by
    have c1 : ¬ (i : Int) < ((l.map fun n => ((n : Nat) : Int)).length : Int) := by rw [List.length_map]; omega
    rw [gl_succ, List.drop_eq_nil_of_le (by omega)]
    simp only [ref09_Units_L6, c1, decide_false, cond_false, uns, List.flatMap_nil, List.append_nil]
  | k + 1, i, M + 1, acc, hk, hM, ha => by
    have hi : i < l.length := by omega
    have c1 : (i : Int) < ((l.map fun n => ((n : Nat) : Int)).length : Int) := by rw [List.length_map]; omega
    obtain ⟨x, hxe⟩ : ∃ x, x = l[i] := ⟨_, rfl⟩
    have hb : x ≤ 1114111 := by rw [hxe]; exact hx _ (List.getElem_mem hi)
    have g1 : getI (l.map fun n => ((n : Nat) : Int)) (i : Int) = some (x : Int) := by rw [getI_nat, List.getElem?_map, List.getElem?_eq_getElem hi, hxe]; rfl
    have e1 : Go.IntKind.wrap .i64 ((i : Int) + 1) = ((i + 1 : Nat) : Int) := by rw [wrap64 (by omega) (by omega)]; omega
    obtain ⟨u1, u2, u3⟩ := un1_ok hb
    have ih := runits_loop l hl hx k (i + 1) M (acc ++ un1 x) (by omega) (by omega) (by rw [List.length_append]; omega)
    have hu : uns (l.drop i) = un1 x ++ uns (l.drop (i + 1)) := by rw [List.drop_eq_getElem_cons hi, ← hxe]; rfl
    rw [gl_succ, hu, ← List.append_assoc]
    simp only [ref09_Units_L6, c1, decide_true, cond_true, g1, Option.bind_some, e1]
    by_cases hx : x < 65536
    · have hx' : (x : Int) < 65536 := by omega
      have e3 : Go.IntKind.wrap .u16 (x : Int) = x := wrapU16 (by omega) (by omega)
      have r1 : roomB (acc.length + [(x : Int)].length) 2 = true := roomB_of (by have := big_len; simp; omega) (by simp; omega)
      have eu : un1 x = [(x : Int)] := by simp [un1, hx]
      simp only [hx', decide_true, cond_true, e3, r1]
      rw [eu] at ih ⊢
      exact ih
    · have hx' : ¬ (x : Int) < 65536 := by omega
      have e3 : Go.IntKind.wrap .i64 ((x : Int) - 65536) = ((x - 65536 : Nat) : Int) := by rw [wrap64 (by omega) (by omega)]; omega
      have e5 : Int.tdiv ((x - 65536 : Nat) : Int) 1024 = (((x - 65536) / 1024 : Nat) : Int) := by rw [Int.tdiv_eq_ediv_of_nonneg (by omega)]; omega
      have e5' : Go.IntKind.wrap .i64 (((x - 65536) / 1024 : Nat) : Int) = (((x - 65536) / 1024 : Nat) : Int) := wrap64 (by omega) (by omega)
      have e6 : Go.IntKind.wrap .i64 (55296 + (((x - 65536) / 1024 : Nat) : Int)) = ((55296 + (x - 65536) / 1024 : Nat) : Int) := by rw [wrap64 (by omega) (by omega)]; omega
      have e7 : Go.IntKind.wrap .u16 ((55296 + (x - 65536) / 1024 : Nat) : Int) = ((55296 + (x - 65536) / 1024 : Nat) : Int) := wrapU16 (by omega) (by omega)
      have e8 : Int.tmod ((x - 65536 : Nat) : Int) 1024 = (((x - 65536) % 1024 : Nat) : Int) := by rw [Int.tmod_eq_emod_of_nonneg (by omega)]; omega
      have e9 : Go.IntKind.wrap .i64 (56320 + (((x - 65536) % 1024 : Nat) : Int)) = ((56320 + (x - 65536) % 1024 : Nat) : Int) := by rw [wrap64 (by omega) (by omega)]; omega
      have e10 : Go.IntKind.wrap .u16 ((56320 + (x - 65536) % 1024 : Nat) : Int) = ((56320 + (x - 65536) % 1024 : Nat) : Int) := wrapU16 (by omega) (by omega)
      have eu : un1 x = [((55296 + (x - 65536) / 1024 : Nat) : Int), ((56320 + (x - 65536) % 1024 : Nat) : Int)] := by simp [un1, hx]
      have r1 : roomB (acc.length + [((55296 + (x - 65536) / 1024 : Nat) : Int), ((56320 + (x - 65536) % 1024 : Nat) : Int)].length) 2 = true := roomB_of (by have := big_len; simp; omega) (by simp; omega)
      simp only [hx', decide_false, cond_false, e3, e5, e5', e6, e7, e8, e9, e10, r1, cond_true]
      rw [eu] at ih ⊢
      exact ih
theorem runits_ok (s : List UInt8) (hs : s.length < 1000000) (hN : s.length + 10 ≤ N) : ref09_Units N s = some (match sgs s with | some l => if 64 < l.length then [] else uns l | none => []) := by
  unfold ref09_Units
  rw [rmay_ok s hs hN, signs_ok s hs hN]
  unfold mayN
  cases h : sgs s with
  | none => rfl
  | some l =>
    obtain ⟨hx, hl⟩ := sgs_bound s.length s l (Nat.le_refl _) h
    by_cases h64 : 64 < l.length
    · simp only [h64, if_true]; rfl
    · simp only [h64, if_false, Option.bind_some]
      have := runits_loop (N := N) l (by omega) hx l.length 0 N [] (by omega) (by omega) (by simp)
      have h1 : ref09_Units_L6_R N (((l.map fun n => ((n : Nat) : Int)), ((0 : Int), ())), (([] : List Int), ())) = some ((), ([] ++ uns (l.drop 0), ())) := this
      simp only [h1, decide_true, Bool.not_true, cond_false, Option.bind_some, List.nil_append, List.drop_zero]
/-- Units as bytes. -/
def by2 (u : Int) : List Int := [u % 256, u / 256]
theorem put2l (n : Int) (h : 0 ≤ n ∧ n < 65536) (hN : 100 ≤ N) : octs_Put N (Go.IntKind.wrap .u64 n) 2 true = some (by2 n, 0) := by
  obtain ⟨M, rfl⟩ : ∃ M, N = M + 3 := ⟨N - 3, by omega⟩
  have w0 : Go.IntKind.wrap .u64 n = n := wrapU64 h.1 (by omega)
  rw [w0]
  show qOPut (M + 3) n 2 true = _
  have r1 : roomB (Int.toNat 2) 1 = true := by decide
  have r2 : List.replicate (Int.toNat 2) (0 : Int) = [0, 0] := rfl
  have w3 : Go.IntKind.wrap .i64 ((0 : Int) + 1) = 1 := by decide
  have w4 : Go.IntKind.wrap .i64 ((1 : Int) + 1) = 2 := by decide
  have e1 : (2 : Int) ^ min (Int.toNat 8) (IntKind.bits IntKind.u64) = 256 := by decide
  have d1 : Int.fdiv n 256 = n / 256 := Int.fdiv_eq_ediv_of_nonneg n (by decide)
  have d2 : Int.fdiv (n / 256) 256 = n / 256 / 256 := Int.fdiv_eq_ediv_of_nonneg _ (by decide)
  have w7 : Go.IntKind.wrap .u8 n = n % 256 := by rw [IntKind.wrap_u8]
  have w8 : Go.IntKind.wrap .u8 (n / 256) = n / 256 := by rw [IntKind.wrap_u8]; omega
  simp only [qOPut, qOPutL5R, gl, qOPutL5, qOplace, r1, r2, e1, cond_false, cond_true, Option.bind_some, w3, w4]
  simp [w3, w4, d1, d2, w7, w8, by2]
theorem lay_loop (hN : 100 ≤ N) (u : List Int) (hu : u.length < 1000000) (hx : ∀ x ∈ u, 0 ≤ x ∧ x < 65536) : ∀ (k i M : Nat) (acc : List Int), k + i = u.length → k < M → acc.length ≤ 2 * i →
    gl (fun X c => utf16_Lay_L6 N X c.1.1 c.1.2.1 c.1.2.2.1 c.2.1) M ((u, ((u.length : Int), ((i : Int), ()))), (acc, ())) = some ((), (acc ++ (u.drop i).flatMap by2, ()))
  | 0, i, M + 1, acc, hk, hM, ha => by
    have c1 : ¬ (i : Int) < (u.length : Int) := by omega
    rw [gl_succ, List.drop_eq_nil_of_le (by omega)]
    simp only [utf16_Lay_L6, c1, decide_false, cond_false, List.flatMap_nil, List.append_nil]
  | k + 1, i, M + 1, acc, hk, hM, ha => by
    have hi : i < u.length := by omega
    have c1 : (i : Int) < (u.length : Int) := by omega
    have g1 := getI_lt u i hi
    have e1 : Go.IntKind.wrap .i64 ((i : Int) + 1) = ((i + 1 : Nat) : Int) := by rw [wrap64 (by omega) (by omega)]; omega
    have p := put2l (N := N) u[i] (hx _ (List.getElem_mem hi)) hN
    have r1 : roomB (acc.length + (by2 u[i]).length) 1 = true := roomB_of (by have := big_len; simp [by2]; omega) (by simp [by2]; omega)
    have ih := lay_loop hN u hu hx k (i + 1) M (acc ++ by2 u[i]) (by omega) (by omega) (by rw [List.length_append]; simp [by2]; omega)
    rw [gl_succ, List.drop_eq_getElem_cons hi, List.flatMap_cons, ← List.append_assoc]
    simp only [utf16_Lay_L6, c1, decide_true, cond_true, g1, Option.bind_some, e1, p, r1]
    exact ih
theorem rlay_loop (u : List Int) (hu : u.length < 1000000) (hx : ∀ x ∈ u, 0 ≤ x ∧ x < 65536) : ∀ (k i M : Nat) (acc : List Int), k + i = u.length → k < M → acc.length ≤ 2 * i →
    gl (fun X c => ref09_Lay_L7 N X c.1.1 c.1.2.1 c.2.1) M ((u, ((i : Int), ())), (acc, ())) = some ((), (acc ++ (u.drop i).flatMap by2, ()))
  | 0, i, M + 1, acc, hk, hM, ha => by
    have c1 : ¬ (i : Int) < (u.length : Int) := by omega
    rw [gl_succ, List.drop_eq_nil_of_le (by omega)]
    simp only [ref09_Lay_L7, c1, decide_false, cond_false, List.flatMap_nil, List.append_nil]
  | k + 1, i, M + 1, acc, hk, hM, ha => by
    have hi : i < u.length := by omega
    have c1 : (i : Int) < (u.length : Int) := by omega
    have g1 := getI_lt u i hi
    have e1 : Go.IntKind.wrap .i64 ((i : Int) + 1) = ((i + 1 : Nat) : Int) := by rw [wrap64 (by omega) (by omega)]; omega
    have hb := hx _ (List.getElem_mem hi)
    have e2 : Go.IntKind.wrap .u8 (Int.tmod u[i] 256) = u[i] % 256 := by rw [Int.tmod_eq_emod_of_nonneg hb.1, IntKind.wrap_u8]; omega
    have e3 : Go.IntKind.wrap .u8 (Go.IntKind.wrap .u16 (Int.tdiv u[i] 256)) = u[i] / 256 := by rw [Int.tdiv_eq_ediv_of_nonneg hb.1, wrapU16 (by omega) (by omega), IntKind.wrap_u8]; omega
    have r1 : roomB (acc.length + ([u[i] % 256, u[i] / 256] : List Int).length) 1 = true := roomB_of (by have := big_len; simp; omega) (by simp; omega)
    have ih := rlay_loop u hu hx k (i + 1) M (acc ++ by2 u[i]) (by omega) (by omega) (by rw [List.length_append]; simp [by2]; omega)
    rw [gl_succ, List.drop_eq_getElem_cons hi, List.flatMap_cons, ← List.append_assoc]
    simp only [ref09_Lay_L7, c1, decide_true, cond_true, g1, Option.bind_some, e1, e2, e3, r1]
    exact ih
/-- A text's bytes, and the error. -/
def layN (s : List UInt8) : List Int × Int := match sgs s with
  | some l => if 64 < l.length then ([], 8) else ((uns l).flatMap by2, 0)
  | none => ([], 3)
theorem lay_ok (s : List UInt8) (hs : s.length < 10000) (hN : 2 * s.length + 100 ≤ N) : utf16_Lay N s = some (layN s) ∧ ref09_Lay N s = some (layN s) := by
  unfold utf16_Lay ref09_Lay
  rw [may_ok s (by omega) (by omega), rmay_ok s (by omega) (by omega), units_ok s (by omega) (by omega), runits_ok s (by omega) (by omega)]
  unfold mayN layN
  cases h : sgs s with
  | none => exact ⟨rfl, rfl⟩
  | some l =>
    obtain ⟨hx, hl⟩ := sgs_bound s.length s l (Nat.le_refl _) h
    obtain ⟨u1, u2, u3⟩ := uns_ok hx
    by_cases h64 : 64 < l.length
    · simp only [h64, if_true]; exact ⟨rfl, rfl⟩
    · simp only [h64, if_false, Option.bind_some, decide_true, Bool.not_true, cond_false]
      have a1 := lay_loop (N := N) (by omega) (uns l) (by omega) u1 (uns l).length 0 N [] (by omega) (by omega) (by simp)
      have a2 := rlay_loop (N := N) (uns l) (by omega) u1 (uns l).length 0 N [] (by omega) (by omega) (by simp)
      have b1 : utf16_Lay_L6_R N ((uns l, (((uns l).length : Int), ((0 : Int), ()))), (([] : List Int), ())) = some ((), ([] ++ ((uns l).drop 0).flatMap by2, ())) := a1
      have b2 : ref09_Lay_L7_R N ((uns l, ((0 : Int), ())), (([] : List Int), ())) = some ((), ([] ++ ((uns l).drop 0).flatMap by2, ())) := a2
      rw [b1, b2]
      simp
theorem layN_ok (s : List UInt8) : (layN s).1.length ≤ 256 ∧ AllB (layN s).1 := by
  unfold layN
  cases h : sgs s with
  | none => exact ⟨by simp, AllB.nil⟩
  | some l =>
    obtain ⟨hx, hl⟩ := sgs_bound s.length s l (Nat.le_refl _) h
    obtain ⟨u1, u2, u3⟩ := uns_ok hx
    by_cases h64 : 64 < l.length
    · simp only [h64, if_true]; exact ⟨by simp, AllB.nil⟩
    · simp only [h64, if_false]
      have key : ∀ u : List Int, (∀ x ∈ u, 0 ≤ x ∧ x < 65536) → (u.flatMap by2).length = 2 * u.length ∧ AllB (u.flatMap by2) := fun u => by
        induction u with
        | nil => intro _; exact ⟨rfl, AllB.nil⟩
        | cons x u ih =>
          intro hu
          obtain ⟨i1, i2⟩ := ih fun y hy => hu y (List.mem_cons_of_mem _ hy)
          have hx := hu x List.mem_cons_self
          rw [List.flatMap_cons]
          exact ⟨by rw [List.length_append, i1]; simp [by2]; omega, AllB.append (AllB.cons (by omega) (AllB.cons (by omega) AllB.nil)) i2⟩
      obtain ⟨k1, k2⟩ := key (uns l) u1
      exact ⟨by omega, k2⟩
end
end Go.Proofs.YtdkklfegpjlklaaDoor
/-
  Layer 10, on plain data: its laws.
-/
namespace Go.Proofs.YtdkklfegpjlklaaDoor
set_option maxRecDepth 100000
open Go.RowKit
set_option linter.unusedVariables false
set_option linter.unusedSimpArgs false
set_option maxRecDepth 100000

theorem alive10 : law10_alive 200000 = some true := by decide +kernel
/-- One digest of the same bytes: by the program, by the document. -/
theorem md4_both (b : List Int) (hb : AllB b) (hl : b.length ≤ 1000) : ∃ D : Arr Int 16, md4_Of 200000 [b] = some D ∧ ref04_Of 200000 b = some D ∧ AllB D.l := by
  obtain ⟨a, c, d, e, ht, D, r1, r2, r3, r4⟩ := of_ok [b] (by simp) (fun p hp => by
    rw [List.mem_singleton] at hp; subst hp; exact ⟨by omega, hb⟩) (by simp; omega)
  have hfl : ([b] : List (List Int)).flatten = b := by simp
  rw [hfl] at r1
  obtain ⟨D', q1, q2⟩ := refOf_ok b hb (by omega) r1
  have hD : D' = D := Arr.eq (by rw [q1, r3])
  subst hD
  exact ⟨D', r4, q2, by rw [q1]; exact dg4_B _ _ _ _⟩
theorem wf16 {h : Arr Int 16} (w : wfT (.arr 16 (.int .u8)) h) : AllB h.l := fun x hx => wf_u8 (w x hx)
theorem twice_both (h : Arr Int 16) (hb : AllB h.l) : ∃ D : Arr Int 16, nthash_Twice 200000 h = some D ∧ ref10_Twice 200000 h = some D ∧ AllB D.l := by
  obtain ⟨D, d1, d2, d3⟩ := md4_both h.l hb (by rw [h.h]; omega)
  exact ⟨D, by simp only [nthash_Twice, d1, Option.bind_some], by simp only [ref10_Twice, d2, Option.bind_some], d3⟩
theorem AllB.zeros (n : Nat) : AllB (List.replicate n 0) := fun x hx => by
  have := List.eq_of_mem_replicate hx
  omega
theorem of_both (s : List UInt8) (hs : s.length ≤ 600) : ∃ D e, nthash_Of 200000 s = some (D, e) ∧ ref10_Of 200000 s = some (D, e) ∧ AllB D.l := by
  obtain ⟨l1, l2⟩ := lay_ok (N := 200000) s (by omega) (by omega)
  obtain ⟨k1, k2⟩ := layN_ok s
  unfold nthash_Of ref10_Of
  rw [l1, l2, Option.bind_some, Option.bind_some]
  by_cases he : (layN s).2 = 0
  · obtain ⟨D, d1, d2, d3⟩ := md4_both (layN s).1 k2 (by omega)
    refine ⟨D, 0, ?_, ?_, d3⟩
    · simp only [he, decide_true, Bool.not_true, cond_false, d1, Option.bind_some]
    · simp only [he, decide_true, Bool.not_true, cond_false, d2, Option.bind_some]
  · refine ⟨_, (layN s).2, by simp only [he, decide_false, Bool.not_false, cond_true]; exact rfl, by simp only [he, decide_false, Bool.not_false, cond_true], ?_⟩
    exact AllB.zeros 16
theorem law_NthashOf (s : List UInt8) (h : Arr Int 16) (w1 : wfT .str s) (w2 : wfT (.arr 16 (.int .u8)) h) : law10_NthashOf 200000 s h = some true := by
  unfold law10_NthashOf
  by_cases hl : (600 : Int) < (s.length : Int)
  · simp only [hl, decide_true, cond_true, alive10, Option.bind_some]
  · obtain ⟨D, e, d1, d2, d3⟩ := of_both s (by omega)
    obtain ⟨T, t1, t2, t3⟩ := twice_both h (wf16 w2)
    have q1 := wfB_b D d3
    have q2 := wfB_b T t3
    simp only [hl, decide_false, cond_false, d1, d2, t1, t2, Option.bind_some, q1, q2, Bool.and_self, cond_true, decide_true, alive10]
/-! ### Thirds -/
theorem toArr_ok {α : Type} (n : Nat) (l : List α) (h : n ≤ l.length) : ∃ a : Arr α n, a.l = l.take n ∧ toArr n l = some a := ⟨⟨l.take n, by rw [List.length_take]; omega⟩, rfl, dif_pos h⟩
theorem over_zero (h : Arr Int 16) (Z : Arr Int 21) (hZ : Z.l = List.replicate 21 0) : (Z.over h.l).l = h.l ++ [0, 0, 0, 0, 0] := by
  show h.l.take 21 ++ Z.l.drop h.l.length = _
  rw [h.h, hZ, List.take_of_length_le (by rw [h.h]; omega)]
  rfl
theorem law_NthashThirds (h : Arr Int 16) (w : wfT (.arr 16 (.int .u8)) h) : law10_NthashThirds 200000 h = some true := by
  obtain ⟨Lg, hLg⟩ : ∃ L, L = h.l ++ [0, 0, 0, 0, 0] := ⟨_, rfl⟩
  have hlen : Lg.length = 21 := by rw [hLg, List.length_append, h.h]; rfl
  obtain ⟨t0, a0, b0⟩ := toArr_ok 7 (Lg.take 7) (by rw [List.length_take]; omega)
  obtain ⟨t1, a1, b1⟩ := toArr_ok 7 ((Lg.drop 7).take 7) (by rw [List.length_take, List.length_drop]; omega)
  obtain ⟨t2, a2, b2⟩ := toArr_ok 7 (Lg.drop 14) (by rw [List.length_drop]; omega)
  rw [List.take_take, Nat.min_self] at a0 a1
  have hT : nthash_Thirds 200000 h = some (Arr.cons t0 (Arr.cons t1 (Arr.cons t2 Arr.nil))) := by
    unfold nthash_Thirds
    have hz := over_zero h (Arr.cons 0 (Arr.cons 0 (Arr.cons 0 (Arr.cons 0 (Arr.cons 0 (Arr.cons 0 (Arr.cons 0 (Arr.cons 0 (Arr.cons 0 (Arr.cons 0 (Arr.cons 0 (Arr.cons 0 (Arr.cons 0 (Arr.cons 0 (Arr.cons 0 (Arr.cons 0 (Arr.cons 0 (Arr.cons 0 (Arr.cons 0 (Arr.cons 0 (Arr.cons 0 Arr.nil))))))))))))))))))))) rfl
    rw [hz, ← hLg]
    have s1 : takeI Lg (7 : Int) = some (Lg.take 7) := takeI_nat Lg (i := 7) rfl (by omega)
    have s2 : subI Lg (7 : Int) (14 : Int) = some ((Lg.drop 7).take 7) := subI_nat Lg (i := 7) (j := 14) rfl rfl (by omega) (by omega)
    have s3 : dropI Lg (14 : Int) = some (Lg.drop 14) := dropI_nat Lg (i := 14) rfl (by omega)
    simp only [s1, s2, s3, Option.bind_some, b0, b1, b2]
  have hR : ∀ (n : Nat) (_ : n < 3), ref10_Third 200000 h (n : Int) = some ((Lg.drop (7 * n)).take 7) := fun n hn => by
    have e1 : Go.IntKind.wrap .i64 (7 * (n : Int)) = ((7 * n : Nat) : Int) := by rw [wrap64 (by omega) (by omega)]; omega
    have e2 : Go.IntKind.wrap .i64 (((7 * n : Nat) : Int) + 7) = ((7 * n + 7 : Nat) : Int) := by rw [wrap64 (by omega) (by omega)]; omega
    have r1 : roomB h.l.length 1 = true := roomB_of (by have := big_len; rw [h.h]; omega) (by rw [h.h]; omega)
    have r2 : roomB (h.l.length + ([0, 0, 0, 0, 0] : List Int).length) 1 = true := roomB_of (by have := big_len; rw [h.h]; simp; omega) (by rw [h.h]; simp)
    have s1 := subI_nat Lg (i := 7 * n) (j := 7 * n + 7) rfl rfl (by omega) (by omega)
    rw [Nat.add_sub_cancel_left] at s1
    unfold ref10_Third
    rw [r1, r2]
    simp only [cond_true, e1, e2, ← hLg, s1, Option.bind_some]
  have len7 : ∀ t : Arr Int 7, t.l.length ≤ 50000 := fun t => by rw [t.h]; omega
  have g0 : getI (Arr.cons t0 (Arr.cons t1 (Arr.cons t2 Arr.nil))).l (0 : Int) = some t0 := rfl
  have g1 : getI (Arr.cons t0 (Arr.cons t1 (Arr.cons t2 Arr.nil))).l (1 : Int) = some t1 := rfl
  have g2 : getI (Arr.cons t0 (Arr.cons t1 (Arr.cons t2 Arr.nil))).l (2 : Int) = some t2 := rfl
  have h0 := hR 0 (by omega)
  have h1 := hR 1 (by omega)
  have h2 := hR 2 (by omega)
  have e2 : (Lg.drop (7 * 2)).take 7 = t2.l := by rw [a2]
  have e1 : (Lg.drop (7 * 1)).take 7 = t1.l := by rw [a1]
  have e0 : (Lg.drop (7 * 0)).take 7 = t0.l := by rw [a0]; rfl
  rw [e0] at h0; rw [e1] at h1; rw [e2] at h2
  have s0 := same04 t0.l t0.l (len7 t0) (N := 200000) (by omega)
  have s1 := same04 t1.l t1.l (len7 t1) (N := 200000) (by omega)
  have s2 := same04 t2.l t2.l (len7 t2) (N := 200000) (by omega)
  have hall : (([] : List Int) ++ t0.l) ++ t1.l ++ t2.l = Lg := by
    rw [a0, a1, a2, List.nil_append]
    have : Lg = Lg.take 7 ++ Lg.drop 7 := (List.take_append_drop 7 Lg).symm
    have h7 : Lg.drop 7 = (Lg.drop 7).take 7 ++ (Lg.drop 7).drop 7 := (List.take_append_drop 7 _).symm
    rw [List.drop_drop] at h7
    rw [List.take_of_length_le (l := Lg.drop 14) (by rw [List.length_drop]; omega), List.append_assoc, ← h7, ← this]
  have hloop : law10_NthashThirds_L4_R 200000 ((h, (Arr.cons t0 (Arr.cons t1 (Arr.cons t2 Arr.nil)), ((0 : Int), ()))), ((⟨Lg, hlen⟩ : Arr Int 21), (([] : List Int), ()))) = some (.inr ((h, ()), ((⟨Lg, hlen⟩ : Arr Int 21), (Lg, ())))) := by
    have w1 : Go.IntKind.wrap .i64 ((0 : Int) + 1) = 1 := by decide
    have w2 : Go.IntKind.wrap .i64 ((1 : Int) + 1) = 2 := by decide
    have w3 : Go.IntKind.wrap .i64 ((2 : Int) + 1) = 3 := by decide
    have rm : ∀ (a b : List Int), a.length ≤ 100 → b.length ≤ 100 → roomB (a.length + b.length) 1 = true := fun a b ha hb => roomB_of (by have := big_len; omega) (by omega)
    have r0 := rm [] t0.l (by simp) (by rw [t0.h]; omega)
    have r1 := rm ([] ++ t0.l) t1.l (by simp [t0.h]) (by rw [t1.h]; omega)
    have r2 := rm ([] ++ t0.l ++ t1.l) t2.l (by simp [t0.h, t1.h]) (by rw [t2.h]; omega)
    have fuel : ∀ M, gl (fun X c => law10_NthashThirds_L4 200000 X c.1.1 c.1.2.1 c.1.2.2.1 c.2.1 c.2.2.1) (M + 4) ((h, (Arr.cons t0 (Arr.cons t1 (Arr.cons t2 Arr.nil)), ((0 : Int), ()))), ((⟨Lg, hlen⟩ : Arr Int 21), (([] : List Int), ()))) = some (.inr ((h, ()), ((⟨Lg, hlen⟩ : Arr Int 21), (Lg, ())))) := by
     intro M
     have d0 : ((0 : Int) < 3) := by decide
     have d1 : ((1 : Int) < 3) := by decide
     have d2 : ((2 : Int) < 3) := by decide
     have d3 : ¬ ((3 : Int) < 3) := by decide
     have h0' : ref10_Third 200000 h (0 : Int) = some t0.l := h0
     have h1' : ref10_Third 200000 h (1 : Int) = some t1.l := h1
     have h2' : ref10_Third 200000 h (2 : Int) = some t2.l := h2
     simp only [gl_succ, law10_NthashThirds_L4, d0, d1, d2, d3, decide_true, decide_false, cond_true, cond_false, g0, g1, g2, Option.bind_some, h0', h1', h2', s0, s1, s2, Bool.not_true, r0, r1, r2, w1, w2, w3, hall]
    exact fuel 199996
  unfold law10_NthashThirds
  rw [hT, Option.bind_some]
  have hov : ∀ Z : Arr Int 21, Z.l = List.replicate 21 0 → Z.over h.l = ⟨Lg, hlen⟩ := fun Z hZ => Arr.eq (by rw [over_zero h Z hZ, ← hLg])
  rw [hov (Arr.cons 0 (Arr.cons 0 (Arr.cons 0 (Arr.cons 0 (Arr.cons 0 (Arr.cons 0 (Arr.cons 0 (Arr.cons 0 (Arr.cons 0 (Arr.cons 0 (Arr.cons 0 (Arr.cons 0 (Arr.cons 0 (Arr.cons 0 (Arr.cons 0 (Arr.cons 0 (Arr.cons 0 (Arr.cons 0 (Arr.cons 0 (Arr.cons 0 (Arr.cons 0 Arr.nil))))))))))))))))))))) rfl]
  rw [hloop, Option.bind_some]
  have z1 := same04 Lg Lg (by omega) (N := 200000) (by omega)
  have z2 : takeI Lg (16 : Int) = some h.l := by
    rw [takeI_nat Lg (a := 16) (i := 16) rfl (by omega), hLg, List.take_left' h.h]
  have z3 := same04 h.l h.l (by rw [h.h]; omega) (N := 200000) (by omega)
  simp only [Sum.elim_inr, z1, decide_true, Option.bind_some, cond_true, z2, z3, alive10]
end Go.Proofs.YtdkklfegpjlklaaDoor
