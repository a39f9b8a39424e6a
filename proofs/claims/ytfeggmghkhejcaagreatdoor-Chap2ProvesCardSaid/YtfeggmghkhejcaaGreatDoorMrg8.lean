/-
  Parts of my own, one behind the other: QCU4, QCp1, QCp2, QCp3, QCp4.
-/
import Derived.Test.YtfeggmghkhejcaaGreatDoorMrg7
namespace Go.Proofs.YtfeggmghkhejcaaGreatDoor
set_option maxRecDepth 100000
open Go.RowKit
set_option linter.unusedVariables false
set_option linter.unusedSimpArgs false
set_option maxRecDepth 100000
theorem sgs_end {l : List UInt8} (h : sgs l = some []) : l = [] := by
 by_cases hl : l = []
 ·exact hl
 by_cases hw : (sg l).2 = 0
 ·rw [sgs_bad hl hw] at h; cases h
 ·rw [sgs_go hl hw, Option.map_eq_some_iff] at h
  obtain ⟨m, _, h⟩ := h
  cases h
theorem sgs_inv {s : List UInt8} {p x : Nat} {l : List Nat} (h : sgs (s.drop p) = some (x :: l)) : p < s.length ∧ (sg (s.drop p)).1 = x ∧ (sg (s.drop p)).2 ≠ 0 ∧ p + (sg (s.drop p)).2 ≤ s.length ∧ sgs (s.drop (p + (sg (s.drop p)).2)) = some l := by
 by_cases hl : s.drop p = []
 ·rw [hl, sgs_nil] at h; cases h
 have hp : p < s.length := by
  rcases Nat.lt_or_ge p s.length with h | h
  ·exact h
  ·exact absurd (List.drop_eq_nil_of_le h) hl
 by_cases hw : (sg (s.drop p)).2 = 0
 ·rw [sgs_bad hl hw] at h; cases h
 ·rw [sgs_go hl hw, Option.map_eq_some_iff] at h
  obtain ⟨m, h1, h⟩ := h
  injection h with h2 h3
  subst h3
  have := sg_le (s.drop p)
  rw [List.length_drop] at this
  rw [List.drop_drop] at h1
  exact ⟨hp, h2, hw, by omega, h1⟩
def un1 (n : Nat) : List Int := if n < 65536 then [(n : Int)] else [((55296 + (n - 65536) / 1024 : Nat) : Int), ((56320 + (n - 65536) % 1024 : Nat) : Int)]
def uns (l : List Nat) : List Int := l.flatMap un1
theorem un1_ok {n : Nat} (h : n ≤ 1114111) : (∀ x ∈ un1 n, 0 ≤ x ∧ x < 65536) ∧ (un1 n).length ≤ 2 ∧ 1 ≤ (un1 n).length := by
 unfold un1
 split
 ·refine ⟨fun x hx => ?_, by simp, by simp⟩
  simp at hx; omega
 ·refine ⟨fun x hx => ?_, by simp, by simp⟩
  simp at hx; omega
theorem uns_ok : ∀ {l : List Nat}, (∀ x ∈ l, x ≤ 1114111) → (∀ x ∈ uns l, 0 ≤ x ∧ x < 65536) ∧ (uns l).length ≤ 2 * l.length ∧ l.length ≤ (uns l).length
 | [], _ => by simp [uns]
 | n :: l, h => by
  obtain ⟨a1, a2, a3⟩ := un1_ok (h n List.mem_cons_self)
  obtain ⟨b1, b2, b3⟩ := uns_ok (l := l) (fun x hx => h x (List.mem_cons_of_mem _ hx))
  have e : uns (n :: l) = un1 n ++ uns l := rfl
  rw [e]
  refine ⟨fun x hx => ?_, ?_, ?_⟩
  ·rcases List.mem_append.1 hx with hx | hx
   ·exact a1 x hx
   ·exact b1 x hx
  ·rw [List.length_append, List.length_cons]; omega
  ·rw [List.length_append, List.length_cons]; omega
theorem q32_and (a : Nat) (ha : a < 2147483648) : bits .and .i32 (a : Int) (1023 : Int) = ((a % 1024 : Nat) : Int) := by
 show IntKind.i32.wrap ((BitVec.ofInt 32 (a : Int) &&& BitVec.ofInt 32 1023).toNat : Int) = _
 have h1 : (BitVec.ofInt 32 (a : Int)).toNat = a := by rw [BitVec.ofInt_natCast, BitVec.toNat_ofNat]; exact Nat.mod_eq_of_lt (by omega)
 have h2 : (BitVec.ofInt 32 (1023 : Int)).toNat = 1023 := by decide
 rw [BitVec.toNat_and, h1, h2, Nat.and_two_pow_sub_one_eq_mod a 10, IntKind.wrap_i32]
 omega
section
variable {N : Nat}
theorem count_loop (s : List UInt8) (hs : s.length < 1000000000) : ∀ (l : List Nat) (p n M : Nat), sgs (s.drop p) = some l → p ≤ s.length → l.length < M → n ≤ p →
  gl (fun X c => unicode_utf8_RuneCountInString_L2 N X c.1.1 c.2.1 c.2.2.1) M (((n : Int), ()), (s, ((p : Int), ()))) = some ((((n + l.length : Nat) : Int), ()), ())
 | [], p, n, M + 1, h, hp, hM, hn => by
  have h0 := sgs_end h
  have hl : ¬ p < s.length := by have := congrArg List.length h0; rw [List.length_drop] at this; simp at this; omega
  rw [gl_succ]
  simp only [unicode_utf8_RuneCountInString_L2, Int.toNat_natCast, hl, decide_false, cond_false, List.length_nil, Nat.add_zero]
 | x :: l, p, n, M + 1, h, hp, hM, hn => by
  obtain ⟨h1, h2, h3, h4, h5⟩ := sgs_inv h
  rw [gl_succ]
  have e1 : IntKind.wrap .i64 ((n : Int) + 1) = ((n + 1 : Nat) : Int) := by rw [wrap64 (by omega) (by omega)]; omega
  have e2 : (p : Int) + ((sg (s.drop p)).2 : Int) = ((p + (sg (s.drop p)).2 : Nat) : Int) := by omega
  simp only [unicode_utf8_RuneCountInString_L2, Int.toNat_natCast, h1, decide_true, cond_true, rdec_ok s p h1, h3, if_false, e1, e2]
  refine (count_loop s hs l (p + (sg (s.drop p)).2) (n + 1) M h5 h4 (by simpa using hM) (by omega)).trans ?_
  rw [List.length_cons, show n + 1 + l.length = n + (l.length + 1) by omega]
theorem signs_loop (hN : 10 ≤ N) (s : List UInt8) (hs : s.length < 1000000) : ∀ (M p : Nat) (acc : List Int), s.length - p < M → p ≤ s.length → acc.length ≤ p →
  gl (fun X c => ref09_Signs_L3 N X c.1.1 c.1.2.1 c.2.1) M ((s, ((p : Int), ())), (acc, ())) = some (match sgs (s.drop p) with
   | some l => .inr ((), (acc ++ l.map fun n => ((n : Nat) : Int), ()))
   | none => .inl (([], (false, ())), ()))
 | 0, p, acc, h, _, _ => by omega
 | M + 1, p, acc, h, hp, ha => by
  rw [gl_succ]
  by_cases hl : p < s.length
  ·have c1 : (p : Int) < (s.length : Int) := by omega
   have hne : s.drop p ≠ [] := fun h0 => by have := congrArg List.length h0; rw [List.length_drop] at this; simp at this; omega
   have hle := sg_le (s.drop p)
   rw [List.length_drop] at hle
   simp only [ref09_Signs_L3, c1, decide_true, cond_true, sign_ok hN s p hl (by omega), Option.bind_some]
   by_cases hw : (sg (s.drop p)).2 = 0
   ·have hw' : ((sg (s.drop p)).2 : Int) = 0 := by omega
    rw [sgs_bad hne hw]
    simp only [hw', decide_true, cond_true]
   ·have hw' : ¬ ((sg (s.drop p)).2 : Int) = 0 := by omega
    have e1 : IntKind.wrap .i64 ((p : Int) + ((sg (s.drop p)).2 : Int)) = ((p + (sg (s.drop p)).2 : Nat) : Int) := by rw [wrap64 (by omega) (by omega)]; omega
    have r1 : roomB (acc.length + [((sg (s.drop p)).1 : Int)].length) 8 = true := roomB_of (by have := big_len; simp; omega) (by simp; omega)
    have ih := signs_loop hN s hs M (p + (sg (s.drop p)).2) (acc ++ [((sg (s.drop p)).1 : Int)]) (by omega) (by omega) (by simp; omega)
    rw [sgs_go hne hw, List.drop_drop]
    simp only [hw', decide_false, cond_false, e1, r1, cond_true]
    refine ih.trans ?_
    cases sgs (s.drop (p + (sg (s.drop p)).2)) with
    | none => rfl
    | some l => simp
  ·have c1 : ¬ (p : Int) < (s.length : Int) := by omega
   rw [List.drop_eq_nil_of_le (by omega), sgs_nil]
   simp only [ref09_Signs_L3, c1, decide_false, cond_false, List.map_nil, List.append_nil]
theorem count_ok (s : List UInt8) (hs : s.length < 1000000) (hN : s.length < N) {l : List Nat} (h : sgs s = some l) : unicode_utf8_RuneCountInString N s = some (l.length : Int) := by
 have hl := (sgs_bound s.length s l (Nat.le_refl _) h).2
 have := count_loop (N := N) s (by omega) l 0 0 N (by simpa using h) (Nat.zero_le _) (by omega) (Nat.le_refl _)
 have h1 : unicode_utf8_RuneCountInString_L2_R N (((0 : Int), ()), (s, ((0 : Int), ()))) = some ((((0 + l.length : Nat) : Int), ()), ()) := this
 unfold unicode_utf8_RuneCountInString
 rw [h1, Option.bind_some]
 simp
theorem signs_ok (s : List UInt8) (hs : s.length < 1000000) (hN : s.length + 10 ≤ N) : ref09_Signs N s = some (match sgs s with
  | some l => (l.map fun n => ((n : Nat) : Int), true)
  | none => ([], false)) := by
 have := signs_loop (N := N) (by omega) s hs N 0 [] (by omega) (Nat.zero_le _) (by simp)
 have h1 : ref09_Signs_L3_R N ((s, ((0 : Int), ())), (([] : List Int), ())) = _ := this
 unfold ref09_Signs
 rw [h1, Option.bind_some, List.drop_zero]
 cases sgs s with
 | none => rfl
 | some l => simp
def mayN (s : List UInt8) : Int := match sgs s with
 | some l => if 64 < l.length then 8 else 0
 | none => 3
theorem may_ok (s : List UInt8) (hs : s.length < 1000000) (hN : s.length + 10 ≤ N) : utf16_May N s = some (mayN s) := by
 unfold utf16_May utf16_Count mayN
 rw [valid_ok s (by omega)]
 cases h : sgs s with
 | none => rfl
 | some l =>
  simp only [Option.bind_some, Option.isSome_some, Bool.not_true, cond_false, count_ok (N := N) s hs (by omega) h]
  by_cases hl : 64 < l.length
  ·have hl' : (64 : Int) < (l.length : Int) := by omega
   simp only [hl', hl, decide_true, cond_true, if_true]
  ·have hl' : ¬ (64 : Int) < (l.length : Int) := by omega
   simp only [hl', hl, decide_false, cond_false, if_false]
theorem rmay_ok (s : List UInt8) (hs : s.length < 1000000) (hN : s.length + 10 ≤ N) : ref09_May N s = some (mayN s) := by
 unfold ref09_May mayN
 rw [signs_ok s hs hN]
 cases h : sgs s with
 | none => rfl
 | some l =>
  simp only [Option.bind_some, Bool.not_true, cond_false, List.length_map]
  by_cases hl : 64 < l.length
  ·have hl' : (64 : Int) < (l.length : Int) := by omega
   simp only [hl', hl, decide_true, cond_true, if_true]
  ·have hl' : ¬ (64 : Int) < (l.length : Int) := by omega
   simp only [hl', hl, decide_false, cond_false, if_false]
theorem wrapU16 {x : Int} (h1 : 0 ≤ x) (h2 : x < 65536) : IntKind.wrap .u16 x = x := by
 rw [IntKind.wrap_u16]; omega
theorem wrap32 {x : Int} (h1 : -2147483648 ≤ x) (h2 : x < 2147483648) : IntKind.wrap .i32 x = x := by
 rw [IntKind.wrap_i32]; omega
theorem units_loop (s : List UInt8) (hs : s.length < 1000000) : ∀ (l : List Nat) (p M : Nat) (acc : List Int), sgs (s.drop p) = some l → p ≤ s.length → l.length < M → acc.length ≤ 2 * p →
  gl (fun X c => utf16_Units_L5 N X c.2.1 c.2.2.1 c.2.2.2.1) M ((), (acc, (s, ((p : Int), ())))) = some ((), (acc ++ uns l, ()))
 | [], p, M + 1, acc, h, hp, hM, ha => by
  have h0 := sgs_end h
  have hl : ¬ p < s.length := by have := congrArg List.length h0; rw [List.length_drop] at this; simp at this; omega
  rw [gl_succ]
  simp only [utf16_Units_L5, Int.toNat_natCast, hl, decide_false, cond_false, uns, List.flatMap_nil, List.append_nil]
 | x :: l, p, M + 1, acc, h, hp, hM, ha => by
  obtain ⟨h1, h2, h3, h4, h5⟩ := sgs_inv h
  have hb := sg_bound (s.drop p)
  rw [h2] at hb
  rw [gl_succ]
  have e2 : (p : Int) + ((sg (s.drop p)).2 : Int) = ((p + (sg (s.drop p)).2 : Nat) : Int) := by omega
  have hu : uns (x :: l) = un1 x ++ uns l := rfl
  obtain ⟨u1, u2, u3⟩ := un1_ok hb
  have ih := units_loop s hs l (p + (sg (s.drop p)).2) M (acc ++ un1 x) h5 h4 (by simpa using hM) (by rw [List.length_append]; omega)
  simp only [utf16_Units_L5, Int.toNat_natCast, h1, decide_true, cond_true, rdec_ok s p h1, h3, if_false, e2, h2]
  rw [hu, ← List.append_assoc]
  by_cases hx : x < 65536
  ·have hx' : (x : Int) < 65536 := by omega
   have e3 : IntKind.wrap .u16 (x : Int) = x := wrapU16 (by omega) (by omega)
   have r1 : roomB (acc.length + [(x : Int)].length) 2 = true := roomB_of (by have := big_len; simp; omega) (by simp; omega)
   have eu : un1 x = [(x : Int)] := by simp [un1, hx]
   simp only [hx', decide_true, cond_true, e3, r1]
   rw [eu] at ih ⊢
   exact ih
  ·have hx' : ¬ (x : Int) < 65536 := by omega
   have e3 : IntKind.wrap .i32 ((x : Int) - 65536) = ((x - 65536 : Nat) : Int) := by rw [wrap32 (by omega) (by omega)]; omega
   have e4 : (2 : Int) ^ min (Int.toNat 10) (IntKind.bits IntKind.i32) = 1024 := by decide
   have e5 : Int.fdiv ((x - 65536 : Nat) : Int) 1024 = (((x - 65536) / 1024 : Nat) : Int) := by rw [Int.fdiv_eq_ediv_of_nonneg _ (by decide)]; omega
   have e6 : IntKind.wrap .i32 (55296 + (((x - 65536) / 1024 : Nat) : Int)) = ((55296 + (x - 65536) / 1024 : Nat) : Int) := by rw [wrap32 (by omega) (by omega)]; omega
   have e7 : IntKind.wrap .u16 ((55296 + (x - 65536) / 1024 : Nat) : Int) = ((55296 + (x - 65536) / 1024 : Nat) : Int) := wrapU16 (by omega) (by omega)
   have e8 : bits .and .i32 ((x - 65536 : Nat) : Int) (1023 : Int) = (((x - 65536) % 1024 : Nat) : Int) := q32_and _ (by omega)
   have e9 : IntKind.wrap .i32 (56320 + (((x - 65536) % 1024 : Nat) : Int)) = ((56320 + (x - 65536) % 1024 : Nat) : Int) := by rw [wrap32 (by omega) (by omega)]; omega
   have e10 : IntKind.wrap .u16 ((56320 + (x - 65536) % 1024 : Nat) : Int) = ((56320 + (x - 65536) % 1024 : Nat) : Int) := wrapU16 (by omega) (by omega)
   have eu : un1 x = [((55296 + (x - 65536) / 1024 : Nat) : Int), ((56320 + (x - 65536) % 1024 : Nat) : Int)] := by simp [un1, hx]
   have r1 : roomB (acc.length + [((55296 + (x - 65536) / 1024 : Nat) : Int), ((56320 + (x - 65536) % 1024 : Nat) : Int)].length) 2 = true := roomB_of (by have := big_len; simp; omega) (by simp; omega)
   simp only [hx', decide_false, cond_false, e3, e4, e5, e6, e7, e8, e9, e10, r1, cond_true]
   rw [eu] at ih ⊢
   exact ih
theorem units_ok (s : List UInt8) (hs : s.length < 1000000) (hN : s.length + 10 ≤ N) : utf16_Units N s = some (match sgs s with | some l => if 64 < l.length then [] else uns l | none => []) := by
 unfold utf16_Units
 rw [may_ok s hs hN]
 unfold mayN
 cases h : sgs s with
 | none => rfl
 | some l =>
  have hl := (sgs_bound s.length s l (Nat.le_refl _) h).2
  by_cases h64 : 64 < l.length
  ·simp only [h64, if_true]; rfl
  ·simp only [h64, if_false, Option.bind_some]
   have := units_loop (N := N) s hs l 0 N [] (by simpa using h) (Nat.zero_le _) (by omega) (by simp)
   have h1 : utf16_Units_L5_R N ((), (([] : List Int), (s, ((0 : Int), ())))) = some ((), ([] ++ uns l, ())) := this
   simp only [h1, decide_true, Bool.not_true, cond_false, Option.bind_some, List.nil_append]
theorem runits_loop (l : List Nat) (hl : l.length < 1000000) (hx : ∀ x ∈ l, x ≤ 1114111) : ∀ (k i M : Nat) (acc : List Int), k + i = l.length → k < M → acc.length ≤ 2 * i →
  gl (fun X c => ref09_Units_L6 N X c.1.1 c.1.2.1 c.2.1) M (((l.map fun n => ((n : Nat) : Int)), ((i : Int), ())), (acc, ())) = some ((), (acc ++ uns (l.drop i), ()))
 | 0, i, M + 1, acc, hk, hM, ha => by
  have c1 : ¬ (i : Int) < ((l.map fun n => ((n : Nat) : Int)).length : Int) := by rw [List.length_map]; omega
  rw [gl_succ, List.drop_eq_nil_of_le (by omega)]
  simp only [ref09_Units_L6, c1, decide_false, cond_false, uns, List.flatMap_nil, List.append_nil]
 | k + 1, i, M + 1, acc, hk, hM, ha => by
  have hi : i < l.length := by omega
  have c1 : (i : Int) < ((l.map fun n => ((n : Nat) : Int)).length : Int) := by rw [List.length_map]; omega
  obtain ⟨x, hxe⟩ : ∃ x, x = l[i] := ⟨_, rfl⟩
  have hb : x ≤ 1114111 := by rw [hxe]; exact hx _ (List.getElem_mem hi)
  have g1 : getI (l.map fun n => ((n : Nat) : Int)) (i : Int) = some (x : Int) := by rw [getI_nat, List.getElem?_map, List.getElem?_eq_getElem hi, hxe]; rfl
  have e1 : IntKind.wrap .i64 ((i : Int) + 1) = ((i + 1 : Nat) : Int) := by rw [wrap64 (by omega) (by omega)]; omega
  obtain ⟨u1, u2, u3⟩ := un1_ok hb
  have ih := runits_loop l hl hx k (i + 1) M (acc ++ un1 x) (by omega) (by omega) (by rw [List.length_append]; omega)
  have hu : uns (l.drop i) = un1 x ++ uns (l.drop (i + 1)) := by rw [List.drop_eq_getElem_cons hi, ← hxe]; rfl
  rw [gl_succ, hu, ← List.append_assoc]
  simp only [ref09_Units_L6, c1, decide_true, cond_true, g1, Option.bind_some, e1]
  by_cases hx : x < 65536
  ·have hx' : (x : Int) < 65536 := by omega
   have e3 : IntKind.wrap .u16 (x : Int) = x := wrapU16 (by omega) (by omega)
   have r1 : roomB (acc.length + [(x : Int)].length) 2 = true := roomB_of (by have := big_len; simp; omega) (by simp; omega)
   have eu : un1 x = [(x : Int)] := by simp [un1, hx]
   simp only [hx', decide_true, cond_true, e3, r1]
   rw [eu] at ih ⊢
   exact ih
  ·have hx' : ¬ (x : Int) < 65536 := by omega
   have e3 : IntKind.wrap .i64 ((x : Int) - 65536) = ((x - 65536 : Nat) : Int) := by rw [wrap64 (by omega) (by omega)]; omega
   have e5 : Int.tdiv ((x - 65536 : Nat) : Int) 1024 = (((x - 65536) / 1024 : Nat) : Int) := by rw [Int.tdiv_eq_ediv_of_nonneg (by omega)]; omega
   have e5' : IntKind.wrap .i64 (((x - 65536) / 1024 : Nat) : Int) = (((x - 65536) / 1024 : Nat) : Int) := wrap64 (by omega) (by omega)
   have e6 : IntKind.wrap .i64 (55296 + (((x - 65536) / 1024 : Nat) : Int)) = ((55296 + (x - 65536) / 1024 : Nat) : Int) := by rw [wrap64 (by omega) (by omega)]; omega
   have e7 : IntKind.wrap .u16 ((55296 + (x - 65536) / 1024 : Nat) : Int) = ((55296 + (x - 65536) / 1024 : Nat) : Int) := wrapU16 (by omega) (by omega)
   have e8 : Int.tmod ((x - 65536 : Nat) : Int) 1024 = (((x - 65536) % 1024 : Nat) : Int) := by rw [Int.tmod_eq_emod_of_nonneg (by omega)]; omega
   have e9 : IntKind.wrap .i64 (56320 + (((x - 65536) % 1024 : Nat) : Int)) = ((56320 + (x - 65536) % 1024 : Nat) : Int) := by rw [wrap64 (by omega) (by omega)]; omega
   have e10 : IntKind.wrap .u16 ((56320 + (x - 65536) % 1024 : Nat) : Int) = ((56320 + (x - 65536) % 1024 : Nat) : Int) := wrapU16 (by omega) (by omega)
   have eu : un1 x = [((55296 + (x - 65536) / 1024 : Nat) : Int), ((56320 + (x - 65536) % 1024 : Nat) : Int)] := by simp [un1, hx]
   have r1 : roomB (acc.length + [((55296 + (x - 65536) / 1024 : Nat) : Int), ((56320 + (x - 65536) % 1024 : Nat) : Int)].length) 2 = true := roomB_of (by have := big_len; simp; omega) (by simp; omega)
   simp only [hx', decide_false, cond_false, e3, e5, e5', e6, e7, e8, e9, e10, r1, cond_true]
   rw [eu] at ih ⊢
   exact ih
theorem runits_ok (s : List UInt8) (hs : s.length < 1000000) (hN : s.length + 10 ≤ N) : ref09_Units N s = some (match sgs s with | some l => if 64 < l.length then [] else uns l | none => []) := by
 unfold ref09_Units
 rw [rmay_ok s hs hN, signs_ok s hs hN]
 unfold mayN
 cases h : sgs s with
 | none => rfl
 | some l =>
  obtain ⟨hx, hl⟩ := sgs_bound s.length s l (Nat.le_refl _) h
  by_cases h64 : 64 < l.length
  ·simp only [h64, if_true]; rfl
  ·simp only [h64, if_false, Option.bind_some]
   have := runits_loop (N := N) l (by omega) hx l.length 0 N [] (by omega) (by omega) (by simp)
   have h1 : ref09_Units_L6_R N (((l.map fun n => ((n : Nat) : Int)), ((0 : Int), ())), (([] : List Int), ())) = some ((), ([] ++ uns (l.drop 0), ())) := this
   simp only [h1, decide_true, Bool.not_true, cond_false, Option.bind_some, List.nil_append, List.drop_zero]
def by2 (u : Int) : List Int := [u % 256, u / 256]
theorem put2l (n : Int) (h : 0 ≤ n ∧ n < 65536) (hN : 100 ≤ N) : octs_Put N (IntKind.wrap .u64 n) 2 true = some (by2 n, 0) := by
 obtain ⟨M, rfl⟩ : ∃ M, N = M + 3 := ⟨N - 3, by omega⟩
 have w0 : IntKind.wrap .u64 n = n := wrapU64 h.1 (by omega)
 rw [w0]
 show qOPut (M + 3) n 2 true = _
 have r1 : roomB (Int.toNat 2) 1 = true := by decide
 have r2 : List.replicate (Int.toNat 2) (0 : Int) = [0, 0] := rfl
 have w3 : IntKind.wrap .i64 ((0 : Int) + 1) = 1 := by decide
 have w4 : IntKind.wrap .i64 ((1 : Int) + 1) = 2 := by decide
 have e1 : (2 : Int) ^ min (Int.toNat 8) (IntKind.bits IntKind.u64) = 256 := by decide
 have d1 : Int.fdiv n 256 = n / 256 := Int.fdiv_eq_ediv_of_nonneg n (by decide)
 have d2 : Int.fdiv (n / 256) 256 = n / 256 / 256 := Int.fdiv_eq_ediv_of_nonneg _ (by decide)
 have w7 : IntKind.wrap .u8 n = n % 256 := by rw [IntKind.wrap_u8]
 have w8 : IntKind.wrap .u8 (n / 256) = n / 256 := by rw [IntKind.wrap_u8]; omega
 simp only [qOPut, qOPutL5R, gl, qOPutL5, qOplace, r1, r2, e1, cond_false, cond_true, Option.bind_some, w3, w4]
 simp [w3, w4, d1, d2, w7, w8, by2]
theorem lay_loop (hN : 100 ≤ N) (u : List Int) (hu : u.length < 1000000) (hx : ∀ x ∈ u, 0 ≤ x ∧ x < 65536) : ∀ (k i M : Nat) (acc : List Int), k + i = u.length → k < M → acc.length ≤ 2 * i →
  gl (fun X c => utf16_Lay_L6 N X c.1.1 c.1.2.1 c.1.2.2.1 c.2.1) M ((u, ((u.length : Int), ((i : Int), ()))), (acc, ())) = some ((), (acc ++ (u.drop i).flatMap by2, ()))
 | 0, i, M + 1, acc, hk, hM, ha => by
  have c1 : ¬ (i : Int) < (u.length : Int) := by omega
  rw [gl_succ, List.drop_eq_nil_of_le (by omega)]
  simp only [utf16_Lay_L6, c1, decide_false, cond_false, List.flatMap_nil, List.append_nil]
 | k + 1, i, M + 1, acc, hk, hM, ha => by
  have hi : i < u.length := by omega
  have c1 : (i : Int) < (u.length : Int) := by omega
  have g1 := getI_lt u i hi
  have e1 : IntKind.wrap .i64 ((i : Int) + 1) = ((i + 1 : Nat) : Int) := by rw [wrap64 (by omega) (by omega)]; omega
  have p := put2l (N := N) u[i] (hx _ (List.getElem_mem hi)) hN
  have r1 : roomB (acc.length + (by2 u[i]).length) 1 = true := roomB_of (by have := big_len; simp [by2]; omega) (by simp [by2]; omega)
  have ih := lay_loop hN u hu hx k (i + 1) M (acc ++ by2 u[i]) (by omega) (by omega) (by rw [List.length_append]; simp [by2]; omega)
  rw [gl_succ, List.drop_eq_getElem_cons hi, List.flatMap_cons, ← List.append_assoc]
  simp only [utf16_Lay_L6, c1, decide_true, cond_true, g1, Option.bind_some, e1, p, r1]
  exact ih
theorem rlay_loop (u : List Int) (hu : u.length < 1000000) (hx : ∀ x ∈ u, 0 ≤ x ∧ x < 65536) : ∀ (k i M : Nat) (acc : List Int), k + i = u.length → k < M → acc.length ≤ 2 * i →
  gl (fun X c => ref09_Lay_L7 N X c.1.1 c.1.2.1 c.2.1) M ((u, ((i : Int), ())), (acc, ())) = some ((), (acc ++ (u.drop i).flatMap by2, ()))
 | 0, i, M + 1, acc, hk, hM, ha => by
  have c1 : ¬ (i : Int) < (u.length : Int) := by omega
  rw [gl_succ, List.drop_eq_nil_of_le (by omega)]
  simp only [ref09_Lay_L7, c1, decide_false, cond_false, List.flatMap_nil, List.append_nil]
 | k + 1, i, M + 1, acc, hk, hM, ha => by
  have hi : i < u.length := by omega
  have c1 : (i : Int) < (u.length : Int) := by omega
  have g1 := getI_lt u i hi
  have e1 : IntKind.wrap .i64 ((i : Int) + 1) = ((i + 1 : Nat) : Int) := by rw [wrap64 (by omega) (by omega)]; omega
  have hb := hx _ (List.getElem_mem hi)
  have e2 : IntKind.wrap .u8 (Int.tmod u[i] 256) = u[i] % 256 := by rw [Int.tmod_eq_emod_of_nonneg hb.1, IntKind.wrap_u8]; omega
  have e3 : IntKind.wrap .u8 (IntKind.wrap .u16 (Int.tdiv u[i] 256)) = u[i] / 256 := by rw [Int.tdiv_eq_ediv_of_nonneg hb.1, wrapU16 (by omega) (by omega), IntKind.wrap_u8]; omega
  have r1 : roomB (acc.length + ([u[i] % 256, u[i] / 256] : List Int).length) 1 = true := roomB_of (by have := big_len; simp; omega) (by simp; omega)
  have ih := rlay_loop u hu hx k (i + 1) M (acc ++ by2 u[i]) (by omega) (by omega) (by rw [List.length_append]; simp [by2]; omega)
  rw [gl_succ, List.drop_eq_getElem_cons hi, List.flatMap_cons, ← List.append_assoc]
  simp only [ref09_Lay_L7, c1, decide_true, cond_true, g1, Option.bind_some, e1, e2, e3, r1]
  exact ih
def layN (s : List UInt8) : List Int × Int := match sgs s with
 | some l => if 64 < l.length then ([], 8) else ((uns l).flatMap by2, 0)
 | none => ([], 3)
theorem lay_ok (s : List UInt8) (hs : s.length < 10000) (hN : 2 * s.length + 100 ≤ N) : utf16_Lay N s = some (layN s) ∧ ref09_Lay N s = some (layN s) := by
 unfold utf16_Lay ref09_Lay
 rw [may_ok s (by omega) (by omega), rmay_ok s (by omega) (by omega), units_ok s (by omega) (by omega), runits_ok s (by omega) (by omega)]
 unfold mayN layN
 cases h : sgs s with
 | none => exact ⟨rfl, rfl⟩
 | some l =>
  obtain ⟨hx, hl⟩ := sgs_bound s.length s l (Nat.le_refl _) h
  obtain ⟨u1, u2, u3⟩ := uns_ok hx
  by_cases h64 : 64 < l.length
  ·simp only [h64, if_true]; exact ⟨rfl, rfl⟩
  ·simp only [h64, if_false, Option.bind_some, decide_true, Bool.not_true, cond_false]
   have a1 := lay_loop (N := N) (by omega) (uns l) (by omega) u1 (uns l).length 0 N [] (by omega) (by omega) (by simp)
   have a2 := rlay_loop (N := N) (uns l) (by omega) u1 (uns l).length 0 N [] (by omega) (by omega) (by simp)
   have b1 : utf16_Lay_L6_R N ((uns l, (((uns l).length : Int), ((0 : Int), ()))), (([] : List Int), ())) = some ((), ([] ++ ((uns l).drop 0).flatMap by2, ())) := a1
   have b2 : ref09_Lay_L7_R N ((uns l, ((0 : Int), ())), (([] : List Int), ())) = some ((), ([] ++ ((uns l).drop 0).flatMap by2, ())) := a2
   rw [b1, b2]
   simp
theorem layN_ok (s : List UInt8) : (layN s).1.length ≤ 256 ∧ AllB (layN s).1 := by
 unfold layN
 cases h : sgs s with
 | none => exact ⟨by simp, AllB.nil⟩
 | some l =>
  obtain ⟨hx, hl⟩ := sgs_bound s.length s l (Nat.le_refl _) h
  obtain ⟨u1, u2, u3⟩ := uns_ok hx
  by_cases h64 : 64 < l.length
  ·simp only [h64, if_true]; exact ⟨by simp, AllB.nil⟩
  ·simp only [h64, if_false]
   have key : ∀ u : List Int, (∀ x ∈ u, 0 ≤ x ∧ x < 65536) → (u.flatMap by2).length = 2 * u.length ∧ AllB (u.flatMap by2) := fun u => by
    induction u with
    | nil => intro _; exact ⟨rfl, AllB.nil⟩
    | cons x u ih =>
     intro hu
     obtain ⟨i1, i2⟩ := ih fun y hy => hu y (List.mem_cons_of_mem _ hy)
     have hx := hu x List.mem_cons_self
     rw [List.flatMap_cons]
     exact ⟨by rw [List.length_append, i1]; simp [by2]; omega, AllB.append (AllB.cons (by omega) (AllB.cons (by omega) AllB.nil)) i2⟩
   obtain ⟨k1, k2⟩ := key (uns l) u1
   exact ⟨by omega, k2⟩
end
theorem md4_both (b : List Int) (hb : AllB b) (hl : b.length ≤ 1000) : ∃ D : Arr Int 16, md4_Of 200000 [b] = some D ∧ ref04_Of 200000 b = some D ∧ AllB D.l := by
 obtain ⟨D, d1, d2, d3⟩ := md4_pair [b] (by simp) (fun p hp => by rw [List.mem_singleton] at hp; subst hp; exact hb) (by simp; omega)
 have hfl : ([b] : List (List Int)).flatten = b := by simp
 rw [hfl] at d3
 exact ⟨D, d2, d3, d1⟩
theorem wf16 {h : Arr Int 16} (w : wfT (.arr 16 (.int .u8)) h) : AllB h.l := fun x hx => wf_u8 (w x hx)
theorem twice_both (h : Arr Int 16) (hb : AllB h.l) : ∃ D : Arr Int 16, nthash_Twice 200000 h = some D ∧ ref10_Twice 200000 h = some D ∧ AllB D.l := by
 obtain ⟨D, d1, d2, d3⟩ := md4_both h.l hb (by rw [h.h]; omega)
 exact ⟨D, by simp only [nthash_Twice, d1, Option.bind_some], by simp only [ref10_Twice, d2, Option.bind_some], d3⟩
theorem AllB.zeros (n : Nat) : AllB (List.replicate n 0) := fun x hx => by
 have := List.eq_of_mem_replicate hx
 omega
theorem of_both (s : List UInt8) (hs : s.length ≤ 600) : ∃ D e, nthash_Of 200000 s = some (D, e) ∧ ref10_Of 200000 s = some (D, e) ∧ AllB D.l := by
 obtain ⟨l1, l2⟩ := lay_ok (N := 200000) s (by omega) (by omega)
 obtain ⟨k1, k2⟩ := layN_ok s
 unfold nthash_Of ref10_Of
 rw [l1, l2, Option.bind_some, Option.bind_some]
 by_cases he : (layN s).2 = 0
 ·obtain ⟨D, d1, d2, d3⟩ := md4_both (layN s).1 k2 (by omega)
  refine ⟨D, 0, ?_, ?_, d3⟩
  ·simp only [he, decide_true, Bool.not_true, cond_false, d1, Option.bind_some]
  ·simp only [he, decide_true, Bool.not_true, cond_false, d2, Option.bind_some]
 ·refine ⟨_, (layN s).2, by simp only [he, decide_false, Bool.not_false, cond_true]; exact rfl, by simp only [he, decide_false, Bool.not_false, cond_true], ?_⟩
  exact AllB.zeros 16
theorem toArr_ok {α : Type} (n : Nat) (l : List α) (h : n ≤ l.length) : ∃ a : Arr α n, a.l = l.take n ∧ toArr n l = some a := ⟨⟨l.take n, by rw [List.length_take]; omega⟩, rfl, dif_pos h⟩
theorem over_zero (h : Arr Int 16) (Z : Arr Int 21) (hZ : Z.l = List.replicate 21 0) : (Z.over h.l).l = h.l ++ [0, 0, 0, 0, 0] := by
 show h.l.take 21 ++ Z.l.drop h.l.length = _
 rw [h.h, hZ, List.take_of_length_le (by rw [h.h]; omega)]
 rfl
theorem thirds_ok (h : Arr Int 16) (hb : AllB h.l) : ∃ t0 t1 t2 : Arr Int 7, AllB t0.l ∧ AllB t1.l ∧ AllB t2.l ∧ nthash_Thirds 200000 h = some (Arr.cons t0 (Arr.cons t1 (Arr.cons t2 Arr.nil))) ∧ ref10_Third 200000 h 0 = some t0.l ∧ ref10_Third 200000 h 1 = some t1.l ∧ ref10_Third 200000 h 2 = some t2.l := by
 obtain ⟨Lg, hLg⟩ : ∃ L, L = h.l ++ [0, 0, 0, 0, 0] := ⟨_, rfl⟩
 have hlen : Lg.length = 21 := by rw [hLg, List.length_append, h.h]; rfl
 have hLB : AllB Lg := by rw [hLg]; exact hb.append (AllB.zeros 5)
 obtain ⟨t0, a0, b0⟩ := toArr_ok 7 (Lg.take 7) (by rw [List.length_take]; omega)
 obtain ⟨t1, a1, b1⟩ := toArr_ok 7 ((Lg.drop 7).take 7) (by rw [List.length_take, List.length_drop]; omega)
 obtain ⟨t2, a2, b2⟩ := toArr_ok 7 (Lg.drop 14) (by rw [List.length_drop]; omega)
 rw [List.take_take, Nat.min_self] at a0 a1
 have hT : nthash_Thirds 200000 h = some (Arr.cons t0 (Arr.cons t1 (Arr.cons t2 Arr.nil))) := by
  unfold nthash_Thirds
  have hz := over_zero h (Arr.cons 0 (Arr.cons 0 (Arr.cons 0 (Arr.cons 0 (Arr.cons 0 (Arr.cons 0 (Arr.cons 0 (Arr.cons 0 (Arr.cons 0 (Arr.cons 0 (Arr.cons 0 (Arr.cons 0 (Arr.cons 0 (Arr.cons 0 (Arr.cons 0 (Arr.cons 0 (Arr.cons 0 (Arr.cons 0 (Arr.cons 0 (Arr.cons 0 (Arr.cons 0 Arr.nil))))))))))))))))))))) rfl
  rw [hz, ← hLg]
  have s1 : takeI Lg (7 : Int) = some (Lg.take 7) := takeI_nat Lg (i := 7) rfl (by omega)
  have s2 : subI Lg (7 : Int) (14 : Int) = some ((Lg.drop 7).take 7) := subI_nat Lg (i := 7) (j := 14) rfl rfl (by omega) (by omega)
  have s3 : dropI Lg (14 : Int) = some (Lg.drop 14) := dropI_nat Lg (i := 14) rfl (by omega)
  simp only [s1, s2, s3, Option.bind_some, b0, b1, b2]
 have hR : ∀ (n : Nat) (_ : n < 3), ref10_Third 200000 h (n : Int) = some ((Lg.drop (7 * n)).take 7) := fun n hn => by
  have e1 : IntKind.wrap .i64 (7 * (n : Int)) = ((7 * n : Nat) : Int) := by rw [wrap64 (by omega) (by omega)]; omega
  have e2 : IntKind.wrap .i64 (((7 * n : Nat) : Int) + 7) = ((7 * n + 7 : Nat) : Int) := by rw [wrap64 (by omega) (by omega)]; omega
  have r1 : roomB h.l.length 1 = true := roomB_of (by have := big_len; rw [h.h]; omega) (by rw [h.h]; omega)
  have r2 : roomB (h.l.length + ([0, 0, 0, 0, 0] : List Int).length) 1 = true := roomB_of (by have := big_len; rw [h.h]; simp; omega) (by rw [h.h]; simp)
  have s1 := subI_nat Lg (i := 7 * n) (j := 7 * n + 7) rfl rfl (by omega) (by omega)
  rw [Nat.add_sub_cancel_left] at s1
  unfold ref10_Third
  rw [r1, r2]
  simp only [cond_true, e1, e2, ← hLg, s1, Option.bind_some]
 have h0 := hR 0 (by omega)
 have h1 := hR 1 (by omega)
 have h2 := hR 2 (by omega)
 have e2 : (Lg.drop (7 * 2)).take 7 = t2.l := by rw [a2]
 have e1 : (Lg.drop (7 * 1)).take 7 = t1.l := by rw [a1]
 have e0 : (Lg.drop (7 * 0)).take 7 = t0.l := by rw [a0]; rfl
 rw [e0] at h0; rw [e1] at h1; rw [e2] at h2
 refine ⟨t0, t1, t2, ?_, ?_, ?_, hT, h0, h1, h2⟩
 ·rw [← e0]; exact (hLB.drop _).take _
 ·rw [← e1]; exact (hLB.drop _).take _
 ·rw [← e2]; exact (hLB.drop _).take _
section
variable {N : Nat}
def bAt (s : List UInt8) : Nat → Nat
 | 0 => 0
 | n + 1 => if (((s.getD n 0).toNat : Nat) : Int) = 92 then n + 1 else bAt s n
theorem bAt_le (s : List UInt8) : ∀ n, bAt s n ≤ n
 | 0 => Nat.le_refl _
 | n + 1 => by
  have := bAt_le s n
  unfold bAt
  split <;> omega
theorem sgetD (s : List UInt8) (n : Nat) (h : n < s.length) : s.getD n 0 = s[n] := by rw [List.getD_eq_getElem?_getD, List.getElem?_eq_getElem h]; rfl
theorem last_ok (s : List UInt8) (hs : s.length ≤ 1000) : ∀ (n k : Nat), n ≤ s.length → n < k → gl (fun X c => bytealg_LastIndexByteString_L2 N X c.1.1 c.1.2.1 c.1.2.2.1) k ((s, ((92 : Int), (((n : Int) - 1), ()))), ()) = some (if bAt s n = 0 then .inr ((), ()) else .inl ((((bAt s n : Int) - 1), ()), ()))
 | 0, k + 1, _, _ => by
  have c1 : ¬ ((0 : Int) ≤ ((0 : Nat) : Int) - 1) := by omega
  rw [gl_succ]
  simp only [bytealg_LastIndexByteString_L2, c1, decide_false, cond_false, bAt, if_true]
 | n + 1, k + 1, hn, hk => by
  have e : ((n + 1 : Nat) : Int) - 1 = (n : Int) := by omega
  have c1 : (0 : Int) ≤ (n : Int) := by omega
  have hlt : n < s.length := by omega
  have g := getI_lt s n hlt
  have gd := sgetD s n hlt
  have w : IntKind.wrap .i64 ((n : Int) - 1) = (n : Int) - 1 := wrap64 (by omega) (by omega)
  rw [gl_succ, e]
  by_cases h : ((s[n].toNat : Nat) : Int) = 92
  ·have hb : bAt s (n + 1) = n + 1 := by unfold bAt; rw [gd, if_pos h]
   rw [hb, if_neg (by omega), e]
   simp only [bytealg_LastIndexByteString_L2, c1, decide_true, cond_true, g, Option.bind_some, h]
  ·have hb : bAt s (n + 1) = bAt s n := by rw [bAt, gd, if_neg h]
   rw [hb]
   simp only [bytealg_LastIndexByteString_L2, c1, decide_true, cond_true, g, Option.bind_some, h, decide_false, cond_false, w]
   exact last_ok s hs n k (by omega) (by omega)
theorem bare_p (s : List UInt8) (hs : s.length ≤ 1000) (hN : 10000 ≤ N) : utf16_Bare N s = some (s.drop (bAt s s.length)) := by
 have w1 : IntKind.wrap .i64 ((s.length : Int) - 1) = (s.length : Int) - 1 := wrap64 (by omega) (by omega)
 have h := last_ok (N := N) s hs s.length N (Nat.le_refl _) (by omega)
 have hb := bAt_le s s.length
 unfold utf16_Bare strings_LastIndexByte bytealg_LastIndexByteString
 rw [w1]
 have h' : bytealg_LastIndexByteString_L2_R N ((s, ((92 : Int), (((s.length : Int) - 1), ()))), ()) = _ := h
 rw [h']
 by_cases hz : bAt s s.length = 0
 ·have w2 : IntKind.wrap .i64 ((-1 : Int) + 1) = 0 := by decide
  have d : dropI s (0 : Int) = some (s.drop 0) := dropI_nat s (i := 0) rfl (by omega)
  rw [if_pos hz, hz]
  simp only [Option.bind_some, Sum.elim_inr, w2, d]
 ·have w2 : IntKind.wrap .i64 (((bAt s s.length : Int) - 1) + 1) = (bAt s s.length : Int) := by rw [wrap64 (by omega) (by omega)]; omega
  have d : dropI s (bAt s s.length : Int) = some (s.drop (bAt s s.length)) := dropI_nat s (i := bAt s s.length) rfl hb
  rw [if_neg hz]
  simp only [Option.bind_some, Sum.elim_inl, w2, d]
theorem bare_r (s : List UInt8) (hs : s.length ≤ 1000) (hN : 10000 ≤ N) : ref09_Bare N s = some (s.drop (bAt s s.length)) := by
 have h : ref09_Bare_L3_R N ((s, ((0 : Int), ((0 : Int), ()))), ()) = some ((s, ((bAt s s.length : Int), ())), ()) := by
  have := gl_run (G := fun X c => ref09_Bare_L3 N X c.1.1 c.1.2.1 c.1.2.2.1) (fun i => ((s, ((bAt s i : Int), ((i : Int), ()))), ())) s.length ((s, ((bAt s s.length : Int), ())), ()) (fun X i hi => ?_) (fun X => ?_) N 0 (Nat.zero_le _) (by omega)
  ·exact this
  ·have c1 : ((i : Int) < (s.length : Int)) := by omega
   have g := getI_lt s i hi
   have w : IntKind.wrap .i64 ((i : Int) + 1) = ((i + 1 : Nat) : Int) := by rw [wrap64 (by omega) (by omega)]; omega
   have gd := sgetD s i hi
   by_cases h : ((s[i].toNat : Nat) : Int) = 92
   ·have hb : bAt s (i + 1) = i + 1 := by unfold bAt; rw [gd, if_pos h]
    simp only [ref09_Bare_L3, c1, decide_true, cond_true, g, Option.bind_some, h, w, hb]
   ·have hb : bAt s (i + 1) = bAt s i := by rw [bAt, gd, if_neg h]
    simp only [ref09_Bare_L3, c1, decide_true, cond_true, g, Option.bind_some, h, decide_false, cond_false, w, hb]
  ·have c1 : ¬ ((s.length : Int) < (s.length : Int)) := by omega
   simp only [ref09_Bare_L3, c1, decide_false, cond_false]
 have hb := bAt_le s s.length
 have d : dropI s (bAt s s.length : Int) = some (s.drop (bAt s s.length)) := dropI_nat s (i := bAt s s.length) rfl hb
 unfold ref09_Bare
 rw [h]
 simp only [Option.bind_some, d]
abbrev DIG : List UInt8 := (@Array.toList UInt8 (@List.toArray UInt8 ([(@OfNat.ofNat UInt8 (48 : Nat) (@UInt8.instOfNat (48 : Nat))), (@OfNat.ofNat UInt8 (49 : Nat) (@UInt8.instOfNat (49 : Nat))), (@OfNat.ofNat UInt8 (50 : Nat) (@UInt8.instOfNat (50 : Nat))), (@OfNat.ofNat UInt8 (51 : Nat) (@UInt8.instOfNat (51 : Nat))), (@OfNat.ofNat UInt8 (52 : Nat) (@UInt8.instOfNat (52 : Nat))), (@OfNat.ofNat UInt8 (53 : Nat) (@UInt8.instOfNat (53 : Nat))), (@OfNat.ofNat UInt8 (54 : Nat) (@UInt8.instOfNat (54 : Nat))), (@OfNat.ofNat UInt8 (55 : Nat) (@UInt8.instOfNat (55 : Nat))), (@OfNat.ofNat UInt8 (56 : Nat) (@UInt8.instOfNat (56 : Nat))), (@OfNat.ofNat UInt8 (57 : Nat) (@UInt8.instOfNat (57 : Nat))), (@OfNat.ofNat UInt8 (65 : Nat) (@UInt8.instOfNat (65 : Nat))), (@OfNat.ofNat UInt8 (66 : Nat) (@UInt8.instOfNat (66 : Nat))), (@OfNat.ofNat UInt8 (67 : Nat) (@UInt8.instOfNat (67 : Nat))), (@OfNat.ofNat UInt8 (68 : Nat) (@UInt8.instOfNat (68 : Nat))), (@OfNat.ofNat UInt8 (69 : Nat) (@UInt8.instOfNat (69 : Nat))), (@OfNat.ofNat UInt8 (70 : Nat) (@UInt8.instOfNat (70 : Nat)))] : List (UInt8))))
def dg (n : Nat) : UInt8 := [48, 49, 50, 51, 52, 53, 54, 55, 56, 57, 65, 66, 67, 68, 69, 70].getD n 0
theorem hx1 : ∀ n : Nat, n < 256 → (getI DIG (@Int.fdiv (n : Int) (@HPow.hPow Int Nat Int (@instHPow Int Nat (@instPowNat Int @Int.instNatPow)) (2 : Int) (@Min.min Nat @instMinNat (Int.toNat (4 : Int)) (@IntKind.bits @IntKind.u8))))) = some (dg (n / 16)) := by decide +kernel
theorem hx2 : ∀ n : Nat, n < 256 → (getI DIG (@Go.bits @Go.BinOp.and @IntKind.u8 (n : Int) (15 : Int))) = some (dg (n % 16)) := by decide +kernel
theorem hy1 : ∀ n : Nat, n < 256 → (subI DIG (IntKind.wrap .i64 (IntKind.wrap .u8 (@Int.tdiv (n : Int) (16 : Int)))) (IntKind.wrap .i64 ((IntKind.wrap .i64 (IntKind.wrap .u8 (@Int.tdiv (n : Int) (16 : Int)))) + (1 : Int)))) = some [dg (n / 16)] := by decide +kernel
theorem hy2 : ∀ n : Nat, n < 256 → (subI DIG (IntKind.wrap .i64 (@Int.tmod (n : Int) (16 : Int))) (IntKind.wrap .i64 ((IntKind.wrap .i64 (@Int.tmod (n : Int) (16 : Int))) + (1 : Int)))) = some [dg (n % 16)] := by decide +kernel
def hexS (b : List Int) : List UInt8 := b.flatMap fun v => [dg (v.toNat / 16), dg (v.toNat % 16)]
theorem hexS_len : ∀ b : List Int, (hexS b).length = 2 * b.length
 | [] => rfl
 | v :: b => by
  show (dg (v.toNat / 16) :: dg (v.toNat % 16) :: hexS b).length = _
  simp only [List.length_cons, hexS_len b]; omega
theorem hexS_snoc (b : List Int) (v : Int) : hexS (b ++ [v]) = hexS b ++ [dg (v.toNat / 16), dg (v.toNat % 16)] := by
 unfold hexS
 rw [List.flatMap_append]
 rfl
theorem toBy_ofB : ∀ s : List UInt8, toBy (ofB s) = some s
 | [] => rfl
 | x :: s => by
  have h : (0 : Int) ≤ ((x.toNat : Nat) : Int) ∧ ((x.toNat : Nat) : Int) < 256 := by
   have := x.toNat_lt
   omega
  show toBy (((x.toNat : Nat) : Int) :: ofB s) = _
  unfold toBy
  rw [if_pos h, toBy_ofB s]
  simp
theorem ofB_app (a b : List UInt8) : ofB (a ++ b) = ofB a ++ ofB b := by simp [ofB]
theorem hex_p (b : List Int) (hB : AllB b) (hb : b.length ≤ 100) (hN : 10000 ≤ N) : octs_Hex N b = some (hexS b) := by
 have h : octs_Hex_L3_R N ((b, ((b.length : Int), ((0 : Int), ()))), (([] : List Int), ())) = some ((), (ofB (hexS b), ())) := by
  have := gl_run (G := fun X c => octs_Hex_L3 N X c.1.1 c.1.2.1 c.1.2.2.1 c.2.1) (fun i => ((b, ((b.length : Int), ((i : Int), ()))), (ofB (hexS (b.take i)), ()))) b.length ((), (ofB (hexS b), ())) (fun X i hi => ?_) (fun X => ?_) N 0 (Nat.zero_le _) (by omega)
  ·exact this
  ·have c1 : ((i : Int) < (b.length : Int)) := by omega
   have g := getI_lt b i hi
   have hv := hB _ (List.getElem_mem hi)
   have w : IntKind.wrap .i64 ((i : Int) + 1) = ((i + 1 : Nat) : Int) := by rw [wrap64 (by omega) (by omega)]; omega
   obtain ⟨n, hn⟩ : ∃ n : Nat, b[i] = (n : Int) := ⟨b[i].toNat, by omega⟩
   have hn2 : n < 256 := by omega
   have t1 := hx1 n hn2
   have t2 := hx2 n hn2
   have hts : b.take (i + 1) = b.take i ++ [b[i]] := by rw [List.take_add_one, List.getElem?_eq_getElem hi]; rfl
   have hap : ofB (hexS (b.take (i + 1))) = ofB (hexS (b.take i)) ++ [(((dg (n / 16)).toNat : Nat) : Int), (((dg (n % 16)).toNat : Nat) : Int)] := by
    rw [hts, hexS_snoc, ofB_app, hn, Int.toNat_natCast]
    rfl
   have rm : roomB ((ofB (hexS (b.take i))).length + ([(((dg (n / 16)).toNat : Nat) : Int), (((dg (n % 16)).toNat : Nat) : Int)] : List Int).length) 1 = true := by
    rw [ofB_length, hexS_len, List.length_take]
    exact roomB_of (by have := big_len; simp; omega) (by simp; omega)
   rw [hn] at g
   simp only [octs_Hex_L3, c1, decide_true, cond_true, g, Option.bind_some, t1, t2, rm, w, hap]
  ·have c1 : ¬ ((b.length : Int) < (b.length : Int)) := by omega
   simp only [octs_Hex_L3, c1, decide_false, cond_false, List.take_length]
 have w : IntKind.wrap .i64 ((2 : Int) * (b.length : Int)) = ((2 * b.length : Nat) : Int) := by rw [wrap64 (by omega) (by omega)]; omega
 have c0 : decide ((0 : Int) ≤ 0 ∧ (0 : Int) ≤ ((2 * b.length : Nat) : Int)) = true := decide_eq_true ⟨by omega, by omega⟩
 have r0 : roomB (Int.toNat ((2 * b.length : Nat) : Int)) 1 = true := roomB_of (by have := big_len; omega) (by omega)
 unfold octs_Hex
 rw [w, c0, r0]
 simp only [Bool.and_self, cond_true]
 refine (congrArg (fun o => Option.bind o _) h).trans ?_
 simp only [Option.bind_some, toBy_ofB]
theorem hex_r (b : List Int) (hB : AllB b) (hb : b.length ≤ 100) (hN : 10000 ≤ N) : ref01_Hex N b = some (hexS b) := by
 have h : ref01_Hex_L4_R N ((b, (DIG, (([] : List UInt8), ((0 : Int), ())))), ()) = some ((hexS b, ()), ()) := by
  have := gl_run (G := fun X c => ref01_Hex_L4 N X c.1.1 c.1.2.1 c.1.2.2.1 c.1.2.2.2.1) (fun i => ((b, (DIG, (hexS (b.take i), ((i : Int), ())))), ())) b.length ((hexS b, ()), ()) (fun X i hi => ?_) (fun X => ?_) N 0 (Nat.zero_le _) (by omega)
  ·exact this
  ·have c1 : ((i : Int) < (b.length : Int)) := by omega
   have g := getI_lt b i hi
   have hv := hB _ (List.getElem_mem hi)
   have w : IntKind.wrap .i64 ((i : Int) + 1) = ((i + 1 : Nat) : Int) := by rw [wrap64 (by omega) (by omega)]; omega
   obtain ⟨n, hn⟩ : ∃ n : Nat, b[i] = (n : Int) := ⟨b[i].toNat, by omega⟩
   have hn2 : n < 256 := by omega
   have t1 := hy1 n hn2
   have t2 := hy2 n hn2
   have hts : b.take (i + 1) = b.take i ++ [b[i]] := by rw [List.take_add_one, List.getElem?_eq_getElem hi]; rfl
   have hap : hexS (b.take (i + 1)) = hexS (b.take i) ++ ([dg (n / 16)] ++ [dg (n % 16)]) := by
    rw [hts, hexS_snoc, hn, Int.toNat_natCast]
    rfl
   have bl := big_len
   have r1 : decide (([dg (n / 16)].length + [dg (n % 16)].length) ≤ Go.maxLen) = true := decide_eq_true (by simp; omega)
   have r2 : decide (((hexS (b.take i)).length + ([dg (n / 16)] ++ [dg (n % 16)]).length) ≤ Go.maxLen) = true := decide_eq_true (by rw [hexS_len, List.length_take]; simp; omega)
   rw [hn] at g
   simp only [ref01_Hex_L4, c1, decide_true, cond_true, g, Option.bind_some, t1, t2, r1, r2, w, hap]
  ·have c1 : ¬ ((b.length : Int) < (b.length : Int)) := by omega
   simp only [ref01_Hex_L4, c1, decide_false, cond_false, List.take_length]
 unfold ref01_Hex
 refine (congrArg (fun o => Option.bind o _) h).trans ?_
 simp only [Option.bind_some]
end
theorem ofB_B (l : List UInt8) : AllB (ofB l) := fun x hx => by
 obtain ⟨b, hb, rfl⟩ := List.mem_map.1 hx
 have := b.toNat_lt
 omega
theorem toArrN (n : Nat) (l : List Int) (h : l.length = n) : toArr n l = some ⟨l, h⟩ := by
 subst h
 unfold toArr
 rw [dif_pos (Nat.le_refl _)]
 exact congrArg some (Arr.eq List.take_length)
theorem room_small {n : Nat} (h : n ≤ 100000) : roomB n 1 = true := roomB_of (by have := big_len; omega) (by omega)
def pre8 (D : Arr Int 20) : Arr Int 8 := ⟨D.l.take 8, by rw [List.length_take, D.h]; rfl⟩
theorem pre8_ok (D : Arr Int 20) : takeI D.l 8 = some (pre8 D).l ∧ toArr 8 (pre8 D).l = some (pre8 D) :=
 ⟨takeI_nat D.l (i := 8) rfl (by rw [D.h]; decide), toArrN 8 _ (pre8 D).h⟩
section
variable {N : Nat}
theorem firstRef8 (D : Arr Int 20) (h0 : Arr Int 8) : ∀ (k M i : Nat) (o : Arr Int 8), k + i = 8 → k < M →
  ∃ K : Arr Int 8, K.l = o.l.take i ++ (D.l.take 8).drop i ∧ gl (fun X c => ref11_Challenge_L5 N X c.1.1 c.2.1 c.2.2.1 c.2.2.2.1) M (((i : Int), ()), (h0, (D, (o, ())))) = some ((), (h0, (K, ())))
 | 0, M + 1, i, o, hk, hM => by
  have c1 : ¬ ((i : Int) < 8) := by omega
  have hol := o.h
  refine ⟨o, ?_, ?_⟩
  ·rw [List.take_of_length_le (by omega), List.drop_eq_nil_of_le (by rw [List.length_take]; omega), List.append_nil]
  ·rw [gl_succ]
   simp only [ref11_Challenge_L5, c1, decide_false, cond_false]
 | k + 1, M + 1, i, o, hk, hM => by
  have hol := o.h
  have hDl := D.h
  have c1 : ((i : Int) < 8) := by omega
  have e0 : IntKind.wrap .i64 ((i : Int) + 1) = ((i + 1 : Nat) : Int) := by rw [wrap64 (by omega) (by omega)]; omega
  have c2 : (0 : Int) ≤ (i : Int) ∧ (i : Int) < ((20 : Nat) : Int) := by omega
  have c3 : (0 : Int) ≤ (i : Int) ∧ (i : Int) < ((8 : Nat) : Int) := by omega
  have e1 : Int.toNat (i : Int) = i := Int.toNat_natCast i
  have g1 : D.l[i]? = some (D.l[i]'(by omega)) := List.getElem?_eq_getElem _
  have g2 : o.l[i]? = some (o.l[i]'(by omega)) := List.getElem?_eq_getElem _
  obtain ⟨K, h1, h2⟩ := firstRef8 D h0 k M (i + 1) (o.set i (D.l[i]'(by omega))) (by omega) (by omega)
  refine ⟨K, ?_, ?_⟩
  ·rw [h1]
   have q1 : (o.set i (D.l[i]'(by omega))).l.take (i + 1) = o.l.take i ++ [D.l[i]'(by omega)] := by
    show (o.l.set i _).take (i + 1) = _
    rw [List.take_add_one, List.take_set_of_le (Nat.le_refl _), List.getElem?_set_self (by omega)]
    rfl
   rw [q1, List.append_assoc]
   congr 1
   have hlt : i < (D.l.take 8).length := by rw [List.length_take]; omega
   rw [List.drop_eq_getElem_cons hlt, List.getElem_take]
   rfl
  ·rw [gl_succ]
   simp only [ref11_Challenge_L5, c1, decide_true, cond_true, c2, and_self, e1, g1, Option.bind_some, c3, g2, e0]
   exact h2
theorem chal_ok (p a : Arr Int 16) (s : List UInt8) (hp : AllB p.l) (ha : AllB a.l) (hs : s.length ≤ 300) : ∃ C : Arr Int 8, AllB C.l ∧ chap2_Challenge 200000 p a s = some C ∧ ref11_Challenge 200000 p a s = some C := by
 have pl := p.h
 have al := a.h
 have b1 := bare_p (N := 200000) s (by omega) (by omega)
 have b2 := bare_r (N := 200000) s (by omega) (by omega)
 have ht : (s.drop (bAt s s.length)).length ≤ 300 := by rw [List.length_drop]; omega
 generalize s.drop (bAt s s.length) = t at *
 obtain ⟨D, d1, d2, d3⟩ := sha1_pair [p.l, a.l, ofB t] (by simp) (fun q hq => by
  simp only [List.mem_cons, List.not_mem_nil, or_false] at hq
  rcases hq with rfl | rfl | rfl
  ·exact hp
  ·exact ha
  ·exact ofB_B _) (by simp only [List.flatten_cons, List.flatten_nil, List.length_append, ofB_length, List.length_nil]; omega)
 simp only [List.flatten_cons, List.flatten_nil, List.append_nil] at d3
 rw [← List.append_assoc] at d3
 obtain ⟨q1, q2⟩ := pre8_ok D
 refine ⟨pre8 D, d1.take 8, ?_, ?_⟩
 ·unfold chap2_Challenge
  rw [b1, Option.bind_some, room_small (by omega)]
  simp only [cond_true, d2, q1, q2, Option.bind_some]
 ·obtain ⟨K, h1, h2⟩ := firstRef8 (N := 200000) D ⟨List.replicate 8 0, rfl⟩ 8 200000 0 ⟨List.replicate 8 0, rfl⟩ (by omega) (by omega)
  have hK : K = pre8 D := Arr.eq (by rw [h1]; rfl)
  subst hK
  have h2' : ref11_Challenge_L5_R 200000 (((0 : Int), ()), ((⟨List.replicate 8 0, rfl⟩ : Arr Int 8), (D, ((⟨List.replicate 8 0, rfl⟩ : Arr Int 8), ())))) = some ((), ((⟨List.replicate 8 0, rfl⟩ : Arr Int 8), (pre8 D, ()))) := h2
  unfold ref11_Challenge
  rw [room_small (by omega), room_small (by omega), b2]
  simp only [cond_true, Option.bind_some]
  rw [room_small (by rw [List.length_append]; omega), d3, Option.bind_some]
  simp only [cond_true]
  refine (congrArg (fun o => Option.bind o _) h2').trans ?_
  rfl
theorem resp_loop (c : Arr Int 8) (t0 t1 t2 : Arr Int 7) (Z : Arr Int 24) (l0 l1 l2 : List Int) (s0 : des_Seven 200000 t0.l c.l = some (l0, 0)) (s1 : des_Seven 200000 t1.l c.l = some (l1, 0)) (s2 : des_Seven 200000 t2.l c.l = some (l2, 0)) (n0 : l0.length = 8) (n1 : l1.length = 8) (n2 : l2.length = 8) :
  chap2_Response_L3_R 200000 ((c, (Arr.cons t0 (Arr.cons t1 (Arr.cons t2 Arr.nil)), ((0 : Int), ()))), (Z, (([] : List Int), ()))) = some ((), (Z, (l0 ++ l1 ++ l2, ()))) := by
 have w1 : IntKind.wrap .i64 ((0 : Int) + 1) = 1 := by decide
 have w2 : IntKind.wrap .i64 ((1 : Int) + 1) = 2 := by decide
 have w3 : IntKind.wrap .i64 ((2 : Int) + 1) = 3 := by decide
 have g0 : getI (Arr.cons t0 (Arr.cons t1 (Arr.cons t2 Arr.nil))).l (0 : Int) = some t0 := rfl
 have g1 : getI (Arr.cons t0 (Arr.cons t1 (Arr.cons t2 Arr.nil))).l (1 : Int) = some t1 := rfl
 have g2 : getI (Arr.cons t0 (Arr.cons t1 (Arr.cons t2 Arr.nil))).l (2 : Int) = some t2 := rfl
 have r0 : roomB (([] : List Int).length + l0.length) 1 = true := room_small (by simp; omega)
 have r1 : roomB ((([] : List Int) ++ l0).length + l1.length) 1 = true := room_small (by simp; omega)
 have r2 : roomB ((([] : List Int) ++ l0 ++ l1).length + l2.length) 1 = true := room_small (by simp; omega)
 have fuel : ∀ M, gl (fun X c => chap2_Response_L3 200000 X c.1.1 c.1.2.1 c.1.2.2.1 c.2.1 c.2.2.1) (M + 4) ((c, (Arr.cons t0 (Arr.cons t1 (Arr.cons t2 Arr.nil)), ((0 : Int), ()))), (Z, (([] : List Int), ()))) = some ((), (Z, (([] : List Int) ++ l0 ++ l1 ++ l2, ()))) := by
  intro M
  have d0 : ((0 : Int) < 3) := by decide
  have d1 : ((1 : Int) < 3) := by decide
  have d2 : ((2 : Int) < 3) := by decide
  have d3 : ¬ ((3 : Int) < 3) := by decide
  simp only [gl_succ, chap2_Response_L3, d0, d1, d2, d3, decide_true, decide_false, cond_true, cond_false, g0, g1, g2, Option.bind_some, s0, s1, s2, r0, r1, r2, w1, w2, w3]
 have := fuel 199996
 rw [List.nil_append] at this
 exact this
theorem fill8 (c : Arr Int 8) (h : Arr Int 16) (n : Nat) (hn : n < 3) (b : List Int) (hb : b.length = 8) (h0 : Arr Int 24) : ∀ (k M i : Nat) (o : Arr Int 24), k + i = 8 → k < M →
  ∃ K : Arr Int 24, K.l = o.l.take (8 * n + i) ++ b.drop i ++ o.l.drop (8 * n + 8) ∧ gl (fun X c => ref11_Response_L7 N X c.1.1 c.1.2.1 c.1.2.2.1 c.1.2.2.2.1 c.1.2.2.2.2.1 c.2.1 c.2.2.1) M ((c, (h, ((n : Int), (b, ((i : Int), ()))))), (h0, (o, ()))) = some ((c, (h, ((n : Int), ()))), (h0, (K, ())))
 | 0, M + 1, i, o, hk, hM => by
  have c1 : ¬ ((i : Int) < 8) := by omega
  have hi : i = 8 := by omega
  refine ⟨o, ?_, ?_⟩
  ·have hd : b.drop i = [] := List.drop_eq_nil_of_le (by omega)
   rw [hd, List.append_nil, hi, List.take_append_drop]
  ·rw [gl_succ]
   simp only [ref11_Response_L7, c1, decide_false, cond_false, Option.bind_some]
 | k + 1, M + 1, i, o, hk, hM => by
  have hol := o.h
  have c1 : ((i : Int) < 8) := by omega
  have c4 : ((i : Int) < (b.length : Int)) := by omega
  have hib : i < b.length := by omega
  have e0 : IntKind.wrap .i64 ((i : Int) + 1) = ((i + 1 : Nat) : Int) := by rw [wrap64 (by omega) (by omega)]; omega
  have e3 : IntKind.wrap .i64 ((8 : Int) * (n : Int)) = ((8 * n : Nat) : Int) := by rw [wrap64 (by omega) (by omega)]; omega
  have e4 : IntKind.wrap .i64 (((8 * n : Nat) : Int) + (i : Int)) = ((8 * n + i : Nat) : Int) := by rw [wrap64 (by omega) (by omega)]; omega
  have c3 : (0 : Int) ≤ ((8 * n + i : Nat) : Int) ∧ ((8 * n + i : Nat) : Int) < ((24 : Nat) : Int) := by omega
  have e1 : Int.toNat ((8 * n + i : Nat) : Int) = 8 * n + i := Int.toNat_natCast _
  have hj : 8 * n + i < o.l.length := by omega
  have g1 := getI_lt b i hib
  have g2 : o.l[8 * n + i]? = some (o.l[8 * n + i]'hj) := List.getElem?_eq_getElem _
  obtain ⟨K, h1, h2⟩ := fill8 c h n hn b hb h0 k M (i + 1) (o.set (8 * n + i) b[i]) (by omega) (by omega)
  refine ⟨K, ?_, ?_⟩
  ·rw [h1]
   have q1 : (o.set (8 * n + i) b[i]).l.take (8 * n + (i + 1)) = o.l.take (8 * n + i) ++ [b[i]] := by
    show (o.l.set (8 * n + i) _).take (8 * n + i + 1) = _
    rw [List.take_add_one, List.take_set_of_le (Nat.le_refl _), List.getElem?_set_self hj]
    rfl
   have q2 : (o.set (8 * n + i) b[i]).l.drop (8 * n + 8) = o.l.drop (8 * n + 8) := by
    show (o.l.set (8 * n + i) _).drop (8 * n + 8) = _
    rw [List.drop_set_of_lt (by omega)]
   rw [q1, q2, List.append_assoc (List.take _ _) [b[i]] _, List.singleton_append, ← List.drop_eq_getElem_cons hib]
  ·rw [gl_succ]
   simp only [ref11_Response_L7, c1, decide_true, cond_true, c4, Option.bind_some, g1, e3, e4, c3, and_self, e1, g2, e0]
   exact h2
theorem fill8R (c : Arr Int 8) (h : Arr Int 16) (n : Nat) (hn : n < 3) (b : List Int) (hb : b.length = 8) (h0 o : Arr Int 24) :
  ∃ K : Arr Int 24, K.l = o.l.take (8 * n) ++ b ++ o.l.drop (8 * n + 8) ∧ ref11_Response_L7_R 200000 ((c, (h, ((n : Int), (b, ((0 : Int), ()))))), (h0, (o, ()))) = some ((c, (h, ((n : Int), ()))), (h0, (K, ()))) := by
 obtain ⟨K, h1, h2⟩ := fill8 (N := 200000) c h n hn b hb h0 8 200000 0 o (by omega) (by omega)
 exact ⟨K, by rw [h1, List.drop_zero, Nat.add_zero], h2⟩
theorem resp_ok (c : Arr Int 8) (h : Arr Int 16) (hc : AllB c.l) (hh : AllB h.l) : ∃ R : Arr Int 24, AllB R.l ∧ chap2_Response 200000 c h = some R ∧ ref11_Response 200000 c h = some R := by
 obtain ⟨t0, t1, t2, b0, b1, b2, hT, u0, u1, u2⟩ := thirds_ok h hh
 obtain ⟨l0, s0, v0, n0, m0⟩ := De.seven8 t0.l c.l b0 hc t0.h c.h
 obtain ⟨l1, s1, v1, n1, m1⟩ := De.seven8 t1.l c.l b1 hc t1.h c.h
 obtain ⟨l2, s2, v2, n2, m2⟩ := De.seven8 t2.l c.l b2 hc t2.h c.h
 have hlen : (l0 ++ l1 ++ l2).length = 24 := by rw [List.length_append, List.length_append]; omega
 refine ⟨⟨l0 ++ l1 ++ l2, hlen⟩, (m0.append m1).append m2, ?_, ?_⟩
 ·have ta := toArrN 24 (l0 ++ l1 ++ l2) hlen
  have hl := resp_loop c t0 t1 t2
  unfold chap2_Response
  rw [hT, Option.bind_some, hl _ l0 l1 l2 s0 s1 s2 n0 n1 n2]
  simp only [Option.bind_some, ta]
 ·have hloop : ∀ Z Z0 : Arr Int 24, ref11_Response_L3_R 200000 ((c, (h, ((0 : Int), ()))), (Z0, (Z, ()))) = some ((), (Z0, ((⟨l0 ++ l1 ++ l2, hlen⟩ : Arr Int 24), ()))) := by
   intro Z Z0
   obtain ⟨K0, k0, f0⟩ := fill8R c h 0 (by omega) l0 n0 Z0 Z
   obtain ⟨K1, k1, f1⟩ := fill8R c h 1 (by omega) l1 n1 Z0 K0
   obtain ⟨K2, k2, f2⟩ := fill8R c h 2 (by omega) l2 n2 Z0 K1
   have hK : K2 = ⟨l0 ++ l1 ++ l2, hlen⟩ := Arr.eq (by
    have a0 : K0.l.take 8 = l0 := by
     rw [k0]
     show (([] ++ l0) ++ Z.l.drop 8).take 8 = l0
     rw [List.nil_append, List.take_left' n0]
    have a1 : K1.l.take 16 = l0 ++ l1 := by
     rw [k1, a0]
     exact List.take_left' (by rw [List.length_append]; omega)
    have a2 : K1.l.drop 24 = [] := List.drop_eq_nil_of_le (by rw [K1.h]; omega)
    rw [k2]
    show K1.l.take 16 ++ l2 ++ K1.l.drop 24 = _
    rw [a1, a2, List.append_nil])
   subst hK
   have w1 : IntKind.wrap .i64 (((0 : Nat) : Int) + 1) = ((1 : Nat) : Int) := by decide
   have w2 : IntKind.wrap .i64 (((1 : Nat) : Int) + 1) = ((2 : Nat) : Int) := by decide
   have w3 : IntKind.wrap .i64 (((2 : Nat) : Int) + 1) = ((3 : Nat) : Int) := by decide
   have u0' : ref10_Third 200000 h ((0 : Nat) : Int) = some t0.l := u0
   have u1' : ref10_Third 200000 h ((1 : Nat) : Int) = some t1.l := u1
   have u2' : ref10_Third 200000 h ((2 : Nat) : Int) = some t2.l := u2
   have fuel : ∀ M, gl (fun X c => ref11_Response_L3 200000 X c.1.1 c.1.2.1 c.1.2.2.1 c.2.1 c.2.2.1) (M + 4) ((c, (h, (((0 : Nat) : Int), ()))), (Z0, (Z, ()))) = some ((), (Z0, ((⟨l0 ++ l1 ++ l2, hlen⟩ : Arr Int 24), ()))) := by
    intro M
    have d0 : (((0 : Nat) : Int) < 3) := by decide
    have d1 : (((1 : Nat) : Int) < 3) := by decide
    have d2 : (((2 : Nat) : Int) < 3) := by decide
    have d3 : ¬ (((3 : Nat) : Int) < 3) := by decide
    generalize h0 : ((0 : Nat) : Int) = z0 at *
    generalize h1 : ((1 : Nat) : Int) = z1 at *
    generalize h2 : ((2 : Nat) : Int) = z2 at *
    generalize h3 : ((3 : Nat) : Int) = z3 at *
    rw [gl_succ]
    simp only [ref11_Response_L3, d0, decide_true, cond_true, u0', Option.bind_some, v0, f0, w1]
    rw [gl_succ]
    simp only [ref11_Response_L3, d1, decide_true, cond_true, u1', Option.bind_some, v1, f1, w2]
    rw [gl_succ]
    simp only [ref11_Response_L3, d2, decide_true, cond_true, u2', Option.bind_some, v2, f2, w3]
    rw [gl_succ]
    simp only [ref11_Response_L3, d3, decide_false, cond_false]
   exact fuel 199996
  unfold ref11_Response
  rw [hloop]
  simp only [Option.bind_some]
end
theorem prove_ok (p a : Arr Int 16) (s w : List UInt8) (hp : AllB p.l) (ha : AllB a.l) (hs : s.length ≤ 300) (hw : w.length ≤ 300) : ∃ R : Arr Int 24, ∃ e : Int, AllB R.l ∧ chap2_Prove 200000 p a s w = some (R, e) ∧ ref11_Prove 200000 p a s w = some (R, e) := by
 obtain ⟨D, e, d1, d2, d3⟩ := of_both w (by omega)
 unfold chap2_Prove ref11_Prove
 rw [d1, d2, Option.bind_some, Option.bind_some]
 by_cases he : e = 0
 ·obtain ⟨C, c1, c2, c3⟩ := chal_ok p a s hp ha hs
  obtain ⟨R, r1, r2, r3⟩ := resp_ok C D c1 d3
  refine ⟨R, 0, r1, ?_, ?_⟩
  ·simp only [he, decide_true, Bool.not_true, cond_false, c2, r2, Option.bind_some]
  ·simp only [he, decide_true, Bool.not_true, cond_false, c3, r3, Option.bind_some]
 ·refine ⟨_, e, ?_, by simp only [he, decide_false, Bool.not_false, cond_true]; exact rfl, by simp only [he, decide_false, Bool.not_false, cond_true]⟩
  exact AllB.zeros 24
def sMagic : List UInt8 := [77, 97, 103, 105, 99, 32, 115, 101, 114, 118, 101, 114, 32, 116, 111, 32, 99, 108, 105, 101, 110, 116, 32, 115, 105, 103, 110, 105, 110, 103, 32, 99, 111, 110, 115, 116, 97, 110, 116]
def sPad : List UInt8 := [80, 97, 100, 32, 116, 111, 32, 109, 97, 107, 101, 32, 105, 116, 32, 100, 111, 32, 109, 111, 114, 101, 32, 116, 104, 97, 110, 32, 111, 110, 101, 32, 105, 116, 101, 114, 97, 116, 105, 111, 110]
def sS : List UInt8 := [83, 61]
section
variable {N : Nat}
theorem answer_def (h : Arr Int 16) (r : Arr Int 24) (c : Arr Int 8) : chap2_Answer N h r c = (nthash_Twice N h).bind fun t => (sha1_Of N [t.l, r.l, ofB sMagic]).bind fun d => (sha1_Of N [d.l, c.l, ofB sPad]).bind fun e => (octs_Hex N e.l).bind fun x => bif decide ((sS.length + x.length) ≤ Go.maxLen) then some (sS ++ x) else none := by kernel_rfl
theorem ranswer_def (h : Arr Int 16) (r : Arr Int 24) (c : Arr Int 8) : ref11_Answer N h r c = (ref10_Twice N h).bind fun t => bif roomB t.l.length 1 then (bif roomB (t.l.length + r.l.length) 1 then (bif roomB ((t.l ++ r.l).length + sMagic.length) 1 then ((ref05_Of N ((t.l ++ r.l) ++ ofB sMagic)).bind fun d => bif roomB d.l.length 1 then (bif roomB (d.l.length + c.l.length) 1 then (bif roomB ((d.l ++ c.l).length + sPad.length) 1 then ((ref05_Of N ((d.l ++ c.l) ++ ofB sPad)).bind fun e => (ref01_Hex N e.l).bind fun x => bif decide ((sS.length + x.length) ≤ Go.maxLen) then some (sS ++ x) else none) else none) else none) else none) else none) else none) else none := by kernel_rfl
end
theorem answer_ok (h : Arr Int 16) (r : Arr Int 24) (c : Arr Int 8) (hb : AllB h.l) (rb : AllB r.l) (cb : AllB c.l) : ∃ t : List UInt8, chap2_Answer 200000 h r c = some t ∧ ref11_Answer 200000 h r c = some t := by
 obtain ⟨t, t1, t2, t3⟩ := twice_both h hb
 have tl := t.h
 have rl := r.h
 have cl := c.h
 have sl : sMagic.length = 39 := rfl
 have pl : sPad.length = 41 := rfl
 obtain ⟨D, d1, d2, d3⟩ := sha1_pair [t.l, r.l, ofB sMagic] (by simp) (fun p hp => by
  simp only [List.mem_cons, List.not_mem_nil, or_false] at hp
  rcases hp with rfl | rfl | rfl
  ·exact t3
  ·exact rb
  ·exact ofB_B _) (by simp only [List.flatten_cons, List.flatten_nil, List.length_append, ofB_length, List.length_nil]; omega)
 simp only [List.flatten_cons, List.flatten_nil, List.append_nil] at d3
 rw [← List.append_assoc] at d3
 have Dl := D.h
 obtain ⟨E, e1, e2, e3⟩ := sha1_pair [D.l, c.l, ofB sPad] (by simp) (fun p hp => by
  simp only [List.mem_cons, List.not_mem_nil, or_false] at hp
  rcases hp with rfl | rfl | rfl
  ·exact d1
  ·exact cb
  ·exact ofB_B _) (by simp only [List.flatten_cons, List.flatten_nil, List.length_append, ofB_length, List.length_nil]; omega)
 simp only [List.flatten_cons, List.flatten_nil, List.append_nil] at e3
 rw [← List.append_assoc] at e3
 have El := E.h
 have x1 := hex_p (N := 200000) E.l e1 (by omega) (by omega)
 have x2 := hex_r (N := 200000) E.l e1 (by omega) (by omega)
 have hx : decide ((sS.length + (hexS E.l).length) ≤ Go.maxLen) = true := decide_eq_true (by
  have := big_len
  rw [hexS_len, show sS.length = 2 from rfl]; omega)
 refine ⟨sS ++ hexS E.l, ?_, ?_⟩
 ·rw [answer_def, t1, Option.bind_some, d2, Option.bind_some, e2, Option.bind_some, x1, Option.bind_some, hx]
  rfl
 ·rw [ranswer_def, t2, Option.bind_some, room_small (by omega), room_small (by omega), room_small (by rw [List.length_append]; omega)]
  simp only [cond_true, d3, Option.bind_some]
  rw [room_small (by omega), room_small (by omega), room_small (by rw [List.length_append]; omega)]
  simp only [cond_true, e3, Option.bind_some, x2, hx]
theorem alive11 : law11_alive 200000 = some true := by decide +kernel
theorem arr2 {α : Type} (l : Arr α 2) : ∃ a b, l.l = [a, b] := by
 obtain ⟨l, h⟩ := l
 match l, h with
 | [a, b], _ => exact ⟨a, b, rfl⟩
theorem law_Chap2Proves (l : Arr (Arr Int 16) 2) (s w : List UInt8) (w1 : wfT (.arr 2 (.arr 16 (.int .u8))) l) (w2 : wfT .str s) (w3 : wfT .str w) : law11_Chap2Proves 200000 l s w = some true := by
 obtain ⟨p, a, hl⟩ := arr2 l
 have hp : AllB p.l := wf16 (w1 p (by rw [hl]; simp))
 have ha : AllB a.l := wf16 (w1 a (by rw [hl]; simp))
 have g0 : getI l.l (0 : Int) = some p := by rw [hl]; rfl
 have g1 : getI l.l (1 : Int) = some a := by rw [hl]; rfl
 unfold law11_Chap2Proves
 by_cases h1 : (300 : Int) < (s.length : Int)
 ·simp only [h1, decide_true, cond_true, Option.bind_some, alive11]
 ·by_cases h2 : (300 : Int) < (w.length : Int)
  ·simp only [h1, h2, decide_true, decide_false, cond_true, cond_false, Option.bind_some, alive11]
  ·obtain ⟨C, c1, c2, c3⟩ := chal_ok p a s hp ha (by omega)
   obtain ⟨R, r1, r2, r3⟩ := resp_ok C p c1 hp
   obtain ⟨Q, e, q1, q2, q3⟩ := prove_ok p a s w hp ha (by omega) (by omega)
   obtain ⟨t, t1, t2⟩ := answer_ok a R C ha r1 c1
   have f1 := wfB_b C c1
   have f2 := wfB_b R r1
   have f3 := wfB_b Q q1
   simp only [h1, h2, decide_false, cond_false, Option.bind_some, g0, g1, c2, r2, q2, q3, c3, f1, Bool.and_self, cond_true, decide_true, r3, f2, f3, t1, t2, alive11]
end Go.Proofs.YtfeggmghkhejcaaGreatDoor
