/-
  Parts of my own, one behind the other: QNL0, QNL1, QNL2, QNL3, QNL4, QNg1, QNg2, QNg3, QNg4, QNg5, QNg6, QNg7, QNa1, QNa2, QNa3, QNa4, QNg8, QNa5.
-/
import Derived.Test.YtjomcoignnlghaaMrg5
namespace Go.Proofs.Ytjomcoignnlghaa
set_option maxRecDepth 100000
open Go.RowKit
set_option linter.unusedVariables false
set_option linter.unusedSimpArgs false
set_option maxRecDepth 100000
section
variable {N : Nat}
def findS (l : List Op) (k : Int) : Op × Bool := match l.find? (fun o => decide (o.1 = k)) with
 | some o => (o, true)
 | none => ((0, []), false)
theorem find_step {l : List Op} {k : Int} {i : Nat} (hi : i < l.length) : (l.drop i).find? (fun o => decide (o.1 = k)) = if l[i].1 = k then some l[i] else (l.drop (i + 1)).find? (fun o => decide (o.1 = k)) := by
 rw [List.drop_eq_getElem_cons hi, List.find?_cons]
 by_cases h : l[i].1 = k <;> simp [h]
theorem find_ok (l : List Op) (k : Int) (hl : l.length ≤ 1000) (hs : ∀ o ∈ l, o.2.length ≤ 1000) (hN : 10000 ≤ N) : opts_Find N l k = some (findS l k) := by
 obtain ⟨o, h1, h2⟩ := gl_inv (G := fun (X : ((List Op × Int × Int × Unit) × Int × Op × Unit) → Option (((Int × Unit) × Int × Op × Unit) ⊕ (Unit × Int × Op × Unit))) c => opts_Find_1_slices_IndexFunc_api_Option_api_Option_L2 N X c.1.1 c.1.2.1 c.1.2.2.1 c.2.1 c.2.2.1)
  (fun n c => ∃ i : Nat, c = ((l, ((l.length : Int), ((i : Int), ()))), (k, (((0 : Int), ([] : List Int)), ()))) ∧ i ≤ l.length ∧ n = l.length - i ∧ (l.drop i).find? (fun o => decide (o.1 = k)) = l.find? (fun o => decide (o.1 = k)))
  (fun o => (∃ (i : Nat) (hi : i < l.length), o = .inl (((i : Int), ()), (k, (((0 : Int), ([] : List Int)), ()))) ∧ l.find? (fun o => decide (o.1 = k)) = some l[i]) ∨ (o = .inr ((), (k, (((0 : Int), ([] : List Int)), ()))) ∧ l.find? (fun o => decide (o.1 = k)) = none)) (fun X n c ⟨i, hc, hi, hn, ht⟩ => by
   subst hc
   rcases Nat.lt_or_ge i l.length with hlt | hge
   ·have c1 : ((i : Int) < (l.length : Int)) := by omega
    have c2 : IntKind.wrap .i64 ((i : Int) + 1) = ((i + 1 : Nat) : Int) := by rw [wrap64 (by omega) (by omega)]; omega
    rw [find_step hlt] at ht
    by_cases he : l[i].1 = k
    ·left
     refine ⟨.inl (((i : Int), ()), (k, (((0 : Int), ([] : List Int)), ()))), ?_, .inl ⟨i, hlt, rfl, ?_⟩⟩
     ·simp only [opts_Find_1_slices_IndexFunc_api_Option_api_Option_L2, c1, decide_true, cond_true, getI_lt l i hlt, Option.bind_some, he]
     ·rw [if_pos he] at ht; exact ht.symm
    ·right
     refine ⟨l.length - (i + 1), ((l, ((l.length : Int), (((i + 1 : Nat) : Int), ()))), (k, (((0 : Int), ([] : List Int)), ()))), by omega, ⟨i + 1, rfl, hlt, rfl, ?_⟩, ?_⟩
     ·rw [if_neg he] at ht; exact ht
     ·simp only [opts_Find_1_slices_IndexFunc_api_Option_api_Option_L2, c1, decide_true, cond_true, getI_lt l i hlt, Option.bind_some, he, decide_false, cond_false, c2]
   ·left
    have c1 : ¬ ((i : Int) < (l.length : Int)) := by omega
    refine ⟨.inr ((), (k, (((0 : Int), ([] : List Int)), ()))), by simp only [opts_Find_1_slices_IndexFunc_api_Option_api_Option_L2, c1, decide_false, cond_false], .inr ⟨rfl, ?_⟩⟩
    rw [List.drop_of_length_le hge] at ht
    exact ht.symm) N l.length ((l, ((l.length : Int), ((0 : Int), ()))), (k, (((0 : Int), ([] : List Int)), ()))) (by omega) ⟨0, rfl, by omega, by omega, by simp⟩
 unfold opts_Find opts_Find_1_slices_IndexFunc_api_Option_api_Option_L2_R findS
 rw [h1]
 rcases h2 with ⟨i, hi, rfl, h2⟩ | ⟨rfl, h2⟩
 ·rw [h2]
  have c1 : ¬ ((i : Int) < 0) := by omega
  have hc : opts_clone N (l[i].1, l[i].2) = some l[i] := by
   unfold opts_clone
   rw [clone_ok _ (by have := hs _ (List.getElem_mem hi); show l[i].2.length ≤ _; omega)]
   rfl
  simp only [Option.bind_some, Sum.elim_inl, c1, decide_false, cond_false, getI_lt l i hi, hc]
 ·rw [h2]; rfl
def amS (l all : List Op) : Bool := decide (l.Sublist all)
theorem amS_nil (all : List Op) : amS [] all = true := decide_eq_true (List.nil_sublist _)
theorem amS_end (x : Op) (l : List Op) : amS (x :: l) [] = false := decide_eq_false (fun h => by cases h)
theorem amS_eq (x : Op) (l all : List Op) : amS (x :: l) (x :: all) = amS l all := by
 unfold amS
 by_cases h : l.Sublist all
 ·rw [decide_eq_true h, decide_eq_true (h.cons_cons x)]
 ·rw [decide_eq_false h, decide_eq_false (fun h' => h (List.cons_sublist_cons.1 h'))]
theorem amS_ne {x y : Op} (h : y ≠ x) (l all : List Op) : amS (x :: l) (y :: all) = amS (x :: l) all := by
 unfold amS
 by_cases h1 : (x :: l).Sublist all
 ·rw [decide_eq_true h1, decide_eq_true (h1.cons y)]
 ·rw [decide_eq_false h1, decide_eq_false (fun h' => by
   cases h' with
   | cons _ h2 => exact h1 h2
   | cons_cons _ h2 => exact h rfl)]
theorem idx_ok (all : List Op) (o : Op) (hw : wfO all) (ho : AllB o.2) (hl : all.length ≤ 1000) (hN : 10000 ≤ N) : ∃ r, opts_Among_4_slices_IndexFunc_api_Option_api_Option_L2_R N ((all, ((all.length : Int), ((0 : Int), ()))), (o, ())) = some r ∧ ((∃ (j : Nat), j < all.length ∧ r = .inl (((j : Int), ()), (o, ())) ∧ ∀ l, amS (o :: l) all = amS l (all.drop (j + 1))) ∨ (r = .inr ((), (o, ())) ∧ ∀ l, amS (o :: l) all = false)) := by
 refine gl_inv (G := fun (X : ((List Op × Int × Int × Unit) × Op × Unit) → Option (((Int × Unit) × Op × Unit) ⊕ (Unit × Op × Unit))) c => opts_Among_4_slices_IndexFunc_api_Option_api_Option_L2 N X c.1.1 c.1.2.1 c.1.2.2.1 c.2.1)
  (fun n c => ∃ i : Nat, c = ((all, ((all.length : Int), ((i : Int), ()))), (o, ())) ∧ i ≤ all.length ∧ n = all.length - i ∧ ∀ l, amS (o :: l) all = amS (o :: l) (all.drop i)) _ (fun X n c ⟨i, hc, hi, hn, ht⟩ => ?_) N all.length ((all, ((all.length : Int), ((0 : Int), ()))), (o, ())) (by omega) ⟨0, rfl, by omega, by omega, by simp⟩
 subst hc
 rcases Nat.lt_or_ge i all.length with hlt | hge
 ·have c1 : ((i : Int) < (all.length : Int)) := by omega
  have c2 : IntKind.wrap .i64 ((i : Int) + 1) = ((i + 1 : Nat) : Int) := by rw [wrap64 (by omega) (by omega)]; omega
  have eq : opts_equal N (all[i].1, all[i].2) (o.1, o.2) = some (decide (all[i] = o)) := equal_ok (N := N) all[i] o (hw _ (List.getElem_mem hlt)).2 ho
  by_cases he : all[i] = o
  ·left
   refine ⟨.inl (((i : Int), ()), (o, ())), ?_, .inl ⟨i, hlt, rfl, fun l => ?_⟩⟩
   ·simp only [opts_Among_4_slices_IndexFunc_api_Option_api_Option_L2, c1, decide_true, cond_true, getI_lt all i hlt, Option.bind_some, eq]
    simp only [he, decide_true, cond_true]
   ·rw [ht, List.drop_eq_getElem_cons hlt, he, amS_eq]
  ·right
   refine ⟨all.length - (i + 1), ((all, ((all.length : Int), (((i + 1 : Nat) : Int), ()))), (o, ())), by omega, ⟨i + 1, rfl, hlt, rfl, fun l => ?_⟩, ?_⟩
   ·rw [ht, List.drop_eq_getElem_cons hlt, amS_ne he]
   ·simp only [opts_Among_4_slices_IndexFunc_api_Option_api_Option_L2, c1, decide_true, cond_true, getI_lt all i hlt, Option.bind_some, eq]
    simp only [he, decide_false, cond_false, c2]
 ·left
  have c1 : ¬ ((i : Int) < (all.length : Int)) := by omega
  refine ⟨.inr ((), (o, ())), by simp only [opts_Among_4_slices_IndexFunc_api_Option_api_Option_L2, c1, decide_false, cond_false], .inr ⟨rfl, fun l => ?_⟩⟩
  rw [ht, List.drop_of_length_le hge, amS_end]
theorem among_ok (l all : List Op) (hw : wfO l) (hwa : wfO all) (hl : l.length ≤ 1000) (hla : all.length ≤ 1000) (hN : 10000 ≤ N) : opts_Among N l all = some (amS l all) := by
 have key : ∀ (k i : Nat) (all : List Op), l.length - i < k → i ≤ l.length → all.length ≤ 1000 → wfO all → gl (fun (X : ((List Op × List Op × Int × Int × Unit) × Unit) → Option (((Bool × Unit) × Unit) ⊕ (Unit × Unit))) c => opts_Among_L2 N X c.1.1 c.1.2.1 c.1.2.2.1 c.1.2.2.2.1) k ((all, (l, ((l.length : Int), ((i : Int), ())))), ()) = some (if amS (l.drop i) all = true then .inr ((), ()) else .inl ((false, ()), ())) := by
  intro k
  induction k with
  | zero => intro i all h; omega
  | succ k ih =>
   intro i all h hi ha hwa
   rw [gl_succ]
   rcases Nat.lt_or_ge i l.length with hlt | hge
   ·have c1 : ((i : Int) < (l.length : Int)) := by omega
    have c2 : IntKind.wrap .i64 ((i : Int) + 1) = ((i + 1 : Nat) : Int) := by rw [wrap64 (by omega) (by omega)]; omega
    obtain ⟨r, h1, h2⟩ := idx_ok (N := N) all l[i] hwa (hw _ (List.getElem_mem hlt)).2 ha hN
    have h1' : opts_Among_4_slices_IndexFunc_api_Option_api_Option_L2_R N ((all, ((all.length : Int), ((0 : Int), ()))), ((l[i].1, l[i].2), ())) = some r := h1
    rw [List.drop_eq_getElem_cons hlt]
    rcases h2 with ⟨j, hj, rfl, h2⟩ | ⟨rfl, h2⟩
    ·have c3 : ¬ ((j : Int) < 0) := by omega
     have c4 : IntKind.wrap .i64 ((j : Int) + 1) = ((j + 1 : Nat) : Int) := by rw [wrap64 (by omega) (by omega)]; omega
     rw [h2]
     simp only [opts_Among_L2, c1, decide_true, cond_true, getI_lt l i hlt, Option.bind_some, h1', Sum.elim_inl, c3, decide_false, cond_false, c4, dropI_nat all (a := ((j + 1 : Nat) : Int)) (i := j + 1) rfl hj, c2]
     exact ih (i + 1) (all.drop (j + 1)) (by omega) hlt (by rw [List.length_drop]; omega) (fun o ho => hwa o (List.mem_of_mem_drop ho))
    ·rw [h2]
     simp only [opts_Among_L2, c1, decide_true, cond_true, getI_lt l i hlt, Option.bind_some, h1', Sum.elim_inr]
     rfl
   ·have c1 : ¬ ((i : Int) < (l.length : Int)) := by omega
    rw [List.drop_of_length_le hge, amS_nil]
    simp only [opts_Among_L2, c1, decide_false, cond_false, if_true]
 have h := key N 0 all (by omega) (by omega) hla hwa
 unfold opts_Among opts_Among_L2_R
 rw [show ((0 : Int)) = ((0 : Nat) : Int) from rfl, h, List.drop_zero]
 cases amS l all <;> rfl
end
def sz (k : Int) : Int := if k = 1 then 2 else if k = 3 then 3 else if k = 5 then 4 else if k = 7 then 0 else if k = 8 then 0 else -1
def chapL : List Int := [194, 35, 129]
theorem chap_B : AllB chapL := fun x hx => by
 simp only [chapL, List.mem_cons, List.not_mem_nil, or_false] at hx
 rcases hx with rfl | rfl | rfl <;> omega
def may (o : Op) (proves : Bool) : Bool := decide ((o.2.length : Int) = sz o.1) && (!decide (o.1 = 3) || proves)
section
variable {N : Nat}
theorem size_ok (k : Int) : lcpo_size N k = some (sz k) := by
 unfold lcpo_size sz
 by_cases h1 : k = 1
 ·subst h1; rfl
 ·by_cases h3 : k = 3
  ·subst h3; rfl
  ·by_cases h5 : k = 5
   ·subst h5; rfl
   ·by_cases h7 : k = 7
    ·subst h7; rfl
    ·by_cases h8 : k = 8
     ·subst h8; rfl
     ·simp [h1, h3, h5, h7, h8]
theorem may_ok (o : Op) (proves : Bool) : lcpo_may N o proves = some (may o proves) := by
 unfold lcpo_may may
 rw [size_ok, Option.bind_some]
 by_cases h : (o.2.length : Int) = sz o.1
 ·by_cases h3 : o.1 = 3 <;> cases proves <;> simp [h, h3]
 ·simp [h]
theorem lput2 (n : Int) (h : 0 ≤ n ∧ n < 18446744073709551616) (hN : 100 ≤ N) : octs_Put N n 2 false = some ([n / 256 % 256, n % 256], 0) := put2 n h hN
theorem lput4 (n : Int) (h : 0 ≤ n ∧ n < 18446744073709551616) (hN : 100 ≤ N) : octs_Put N n 4 false = some ([n / 16777216 % 256, n / 65536 % 256, n / 256 % 256, n % 256], 0) := put4 n h hN
theorem lget2 (x y : Int) (hx : 0 ≤ x ∧ x < 256) (hy : 0 ≤ y ∧ y < 256) (hN : 100 ≤ N) : lcpo_value N [x, y] = some (x * 256 + y) := by
 unfold lcpo_value
 exact (congrArg (fun o => Option.bind o _) (show octs_Get N [x, y] false = some (x * 256 + y, 0) from get2 x y hx hy hN)).trans rfl
theorem lget4 (x y z u : Int) (hx : 0 ≤ x ∧ x < 256) (hy : 0 ≤ y ∧ y < 256) (hz : 0 ≤ z ∧ z < 256) (hu : 0 ≤ u ∧ u < 256) (hN : 100 ≤ N) : lcpo_value N [x, y, z, u] = some (((x * 256 + y) * 256 + z) * 256 + u) := by
 unfold lcpo_value
 exact (congrArg (fun o => Option.bind o _) (show octs_Get N [x, y, z, u] false = some (((x * 256 + y) * 256 + z) * 256 + u, 0) from get4 x y z u hx hy hz hu hN)).trans rfl
theorem wrapU32 {x : Int} (h : 0 ≤ x ∧ x < 4294967296) : IntKind.wrap .u32 x = x := by rw [IntKind.wrap_u32]; omega
end
def NK (l : List Op) (own fresh : Int) (nak : List Op) : Prop := ∀ o ∈ nak, AllB o.2 ∧ ∃ x, findS l o.1 = (x, true) ∧ (own ≠ fresh → fresh ≠ 0 → o ≠ x)
theorem NK.snoc {l : List Op} {own fresh : Int} {nak : List Op} {o : Op} (h : NK l own fresh nak) (h1 : AllB o.2) {x : Op} (h2 : findS l o.1 = (x, true)) (h3 : own ≠ fresh → fresh ≠ 0 → o ≠ x) : NK l own fresh (nak ++ [o]) := fun p hp => by
 rcases List.mem_append.1 hp with h' | h'
 ·exact h p h'
 ·rw [List.mem_singleton] at h'; subst h'; exact ⟨h1, x, h2, h3⟩
section
variable {N : Nat}
theorem wfO_sub {l m : List Op} (h : wfO l) (hs : m.Sublist l) : wfO m := fun o ho => h o (hs.subset ho)
end
theorem wf_u32' {n : Int} (h : (Lit.int .u32 n).wf = true) : 0 ≤ n ∧ n < 4294967296 := by
 simp only [Lit.wf, Bool.and_eq_true, decide_eq_true_eq, IntKind.min, IntKind.max, IntKind.signed, IntKind.bits] at h
 simp at h
 omega
abbrev Wt3 := Int × Int × Bool
def wfW (w : Wt3) : Prop := (0 ≤ w.1 ∧ w.1 < 65536) ∧ (0 ≤ w.2.1 ∧ w.2.1 < 4294967296)
theorem wfu16 {n : Int} (h : 0 ≤ n ∧ n < 65536) : (Lit.int .u16 n).wf = true := by
 simp only [Lit.wf, Bool.and_eq_true, decide_eq_true_eq, IntKind.min, IntKind.max, IntKind.signed, IntKind.bits]
 simp
 omega
theorem wfu32 {n : Int} (h : 0 ≤ n ∧ n < 4294967296) : (Lit.int .u32 n).wf = true := by
 simp only [Lit.wf, Bool.and_eq_true, decide_eq_true_eq, IntKind.min, IntKind.max, IntKind.signed, IntKind.bits]
 simp
 omega
theorem wfB_want (w : Wt3) (h : wfW w) : wfB (.pair (.int .u16) (.pair (.int .u32) .bool)) (w.1, (w.2.1, w.2.2)) = true := by
 simp only [wfB, wfu16 h.1, wfu32 h.2, Bool.and_self]
def firstP (k : Int) (o : Op) : Bool := decide (o.1 = k) && decide ((o.2.length : Int) = sz k)
def firstS (l : List Op) (k : Int) : Option Op := l.find? (firstP k)
theorem firstS_some {l : List Op} {k : Int} {o : Op} (h : firstS l k = some o) : o ∈ l ∧ o.1 = k ∧ (o.2.length : Int) = sz k := by
 refine ⟨List.mem_of_find?_eq_some h, ?_⟩
 have := List.find?_some h
 simpa [firstP] using this
theorem first_step {l : List Op} {k : Int} {i : Nat} (hi : i < l.length) : (l.drop i).find? (firstP k) = if firstP k l[i] = true then some l[i] else (l.drop (i + 1)).find? (firstP k) := by
 rw [List.drop_eq_getElem_cons hi, List.find?_cons]
 cases firstP k l[i] <;> simp
section
variable {N : Nat}
theorem first_loop (l : List Op) (k : Int) (hl : l.length ≤ 1000) : ∀ (j M i : Nat), j + i = l.length → j < M → gl (fun X c => lcpo_first_L2 N X c.1.1 c.1.2.1 c.1.2.2.1 c.1.2.2.2.1) M ((k, (l, ((l.length : Int), ((i : Int), ())))), ()) = some (match (l.drop i).find? (firstP k) with | some o => .inl ((o.2, (true, ())), ()) | none => .inr ((), ()))
 | 0, M + 1, i, hj, hM => by
  have c1 : ¬ ((i : Int) < (l.length : Int)) := by omega
  rw [gl_succ, List.drop_of_length_le (by omega)]
  simp only [lcpo_first_L2, c1, decide_false, cond_false]
  rfl
 | j + 1, M + 1, i, hj, hM => by
  have hlt : i < l.length := by omega
  have c1 : ((i : Int) < (l.length : Int)) := by omega
  have c2 : IntKind.wrap .i64 ((i : Int) + 1) = ((i + 1 : Nat) : Int) := by rw [wrap64 (by omega) (by omega)]; omega
  have ih := first_loop l k hl j M (i + 1) (by omega) (by omega)
  have hsz := size_ok (N := N) k
  rw [gl_succ, first_step hlt]
  by_cases h1 : l[i].1 = k
  ·by_cases h2 : (l[i].2.length : Int) = sz k
   ·have hp : firstP k l[i] = true := by simp [firstP, h1, h2]
    rw [if_pos hp]
    simp only [lcpo_first_L2, c1, decide_true, cond_true, getI_lt l i hlt, Option.bind_some, h1, hsz, h2]
   ·have hp : ¬ firstP k l[i] = true := by simp [firstP, h1, h2]
    rw [if_neg hp]
    simp only [lcpo_first_L2, c1, decide_true, decide_false, cond_true, cond_false, getI_lt l i hlt, Option.bind_some, h1, hsz, h2, c2]
    exact ih
  ·have hp : ¬ firstP k l[i] = true := by simp [firstP, h1]
   rw [if_neg hp]
   simp only [lcpo_first_L2, c1, decide_true, decide_false, cond_true, cond_false, getI_lt l i hlt, Option.bind_some, h1, c2]
   exact ih
theorem beq_ok (l : List Int) (h : AllB l) : bytes_Equal N l [194, 35, 129] = some (decide (l = chapL)) := by
 unfold bytes_Equal
 rw [toBy_map h, show ([194, 35, 129] : List Int) = chapL from rfl, toBy_map chap_B, Option.bind_some, Option.bind_some, bytes_dec h chap_B]
theorem has_ok (l : List Op) (k : Int) (hl : l.length ≤ 1000) (hs : ∀ o ∈ l, o.2.length ≤ 1000) (hN : 10000 ≤ N) : lcpo_has N l k = some (findS l k).2 := by
 unfold lcpo_has
 rw [find_ok l k hl hs hN]
 rfl
end
section
variable {N : Nat}
def b2 (n : Int) : List Int := [n / 256 % 256, n % 256]
def b4 (n : Int) : List Int := [n / 16777216 % 256, n / 65536 % 256, n / 256 % 256, n % 256]
theorem b2_B (n : Int) : AllB (b2 n) := fun x hx => by
 simp only [b2, List.mem_cons, List.not_mem_nil, or_false] at hx
 rcases hx with rfl | rfl <;> omega
theorem b4_B (n : Int) : AllB (b4 n) := fun x hx => by
 simp only [b4, List.mem_cons, List.not_mem_nil, or_false] at hx
 rcases hx with rfl | rfl | rfl | rfl <;> omega
def valS (d : List Int) : Int := d.foldl (fun a x => a * 256 + x) 0
theorem val_b2 {n : Int} (h : 0 ≤ n ∧ n < 65536) : valS (b2 n) = n := by simp [valS, b2]; omega
theorem val_b4 {n : Int} (h : 0 ≤ n ∧ n < 4294967296) : valS (b4 n) = n := by simp [valS, b4]; omega
theorem val2 {d : List Int} (hd : AllB d) (hl : d.length = 2) (hN : 100 ≤ N) : lcpo_value N d = some (valS d) ∧ 0 ≤ valS d ∧ valS d < 65536 := by
 match d, hl with
 | [x, y], _ =>
  have bx := hd x (by simp)
  have by' := hd y (by simp)
  exact ⟨by rw [lget2 x y bx by' hN]; simp [valS], by simp [valS]; omega⟩
theorem val4 {d : List Int} (hd : AllB d) (hl : d.length = 4) (hN : 100 ≤ N) : lcpo_value N d = some (valS d) ∧ 0 ≤ valS d ∧ valS d < 4294967296 := by
 match d, hl with
 | [x, y, z, u], _ =>
  have bx := hd x (by simp)
  have by' := hd y (by simp)
  have bz := hd z (by simp)
  have bu := hd u (by simp)
  exact ⟨by rw [lget4 x y z u bx by' bz bu hN]; simp [valS], by simp [valS]; omega⟩
def betS (o : Op) (own fresh : Int) : Op × Bool :=
 if o.1 = 1 then ((1, b2 1400), decide (valS o.2 < 128)) else if o.1 = 3 then ((3, chapL), !decide (o.2 = chapL)) else if o.1 = 5 then ((5, b4 fresh), decide (valS o.2 = 0) || decide (valS o.2 = own)) else ((0, []), false)
theorem num1 {n : Int} (h : 0 ≤ n ∧ n < 65536) (hN : 10000 ≤ N) : lcpo_number N 1 n = some (1, b2 n) := by
 unfold lcpo_number
 rw [size_ok, show sz 1 = 2 from rfl, Option.bind_some, lput2 (N := N) n (by omega) (by omega)]
 rfl
theorem num5 {n : Int} (h : 0 ≤ n ∧ n < 4294967296) (hN : 10000 ≤ N) : lcpo_number N 5 n = some (5, b4 n) := by
 unfold lcpo_number
 rw [size_ok, show sz 5 = 4 from rfl, Option.bind_some, lput4 (N := N) n (by omega) (by omega)]
 rfl
theorem better_is (o : Op) (own fresh : Int) (hw : AllB o.2) (hs : (o.2.length : Int) = sz o.1) (hf : 0 ≤ fresh ∧ fresh < 4294967296) (hN : 10000 ≤ N) : lcpo_better N o own fresh = some (betS o own fresh) := by
 obtain ⟨k, d⟩ := o
 simp only at hw hs
 unfold lcpo_better betS
 by_cases h1 : k = 1
 ·subst h1
  have hl : d.length = 2 := by rw [show sz 1 = 2 from rfl] at hs; omega
  simp only [decide_true, cond_true, num1 (N := N) (n := 1400) (by omega) hN, (val2 (N := N) hw hl (by omega)).1, Option.bind_some, if_true]
 ·by_cases h3 : k = 3
  ·subst h3
   simp only [h1, decide_false, cond_false, decide_true, cond_true, beq_ok (N := N) d hw, Option.bind_some, if_true, if_false]
   rfl
  ·by_cases h5 : k = 5
   ·subst h5
    have hl : d.length = 4 := by rw [show sz 5 = 4 from rfl] at hs; omega
    obtain ⟨v1, v2⟩ := val4 (N := N) hw hl (by omega)
    have wf : IntKind.wrap .u64 fresh = fresh := wrapU64 (by omega) (by omega)
    simp only [h1, h3, decide_false, cond_false, decide_true, cond_true, v1, Option.bind_some, wf, num5 (N := N) hf hN, wrapU32 v2, if_true, if_false]
    cases decide (valS d = 0) <;> cases decide (valS d = own) <;> rfl
   ·simp only [h1, h3, h5, decide_false, cond_false, if_false]
def judS (rj : List Op → Op → Bool) (nk : Op → Option Op) : List Op → List Op → List Op × List Op
 | pre, [] => ([], [])
 | pre, o :: l => if rj pre o then (o :: (judS rj nk (pre ++ [o]) l).1, (judS rj nk (pre ++ [o]) l).2) else match nk o with
  | some x => ((judS rj nk (pre ++ [o]) l).1, x :: (judS rj nk (pre ++ [o]) l).2)
  | none => judS rj nk (pre ++ [o]) l
def tellS (l : List Op) (r : List Op × List Op) : Int × List Op := if 0 < r.1.length then (4, r.1) else if 0 < r.2.length then (3, r.2) else (2, l)
theorem judS_sub (rj : List Op → Op → Bool) (nk : Op → Option Op) : ∀ (l pre : List Op), (judS rj nk pre l).1.Sublist l ∧ (judS rj nk pre l).2.length ≤ l.length ∧ ∀ x ∈ (judS rj nk pre l).2, ∃ o ∈ l, nk o = some x
 | [], pre => ⟨List.Sublist.refl _, Nat.le_refl _, fun x h => by cases h⟩
 | o :: l, pre => by
  obtain ⟨h1, h2, h3⟩ := judS_sub rj nk l (pre ++ [o])
  unfold judS
  split
  ·exact ⟨h1.cons_cons o, by simp; omega, fun x hx => by obtain ⟨p, hp, he⟩ := h3 x hx; exact ⟨p, List.mem_cons_of_mem _ hp, he⟩⟩
  ·split
   ·rename_i x hx
    refine ⟨h1.cons o, by simp; omega, fun y hy => ?_⟩
    rcases List.mem_cons.1 hy with rfl | hy
    ·exact ⟨o, List.mem_cons_self, hx⟩
    ·obtain ⟨p, hp, he⟩ := h3 y hy; exact ⟨p, List.mem_cons_of_mem _ hp, he⟩
   ·exact ⟨h1.cons o, by simp; omega, fun x hx => by obtain ⟨p, hp, he⟩ := h3 x hx; exact ⟨p, List.mem_cons_of_mem _ hp, he⟩⟩
def lrj (proves : Bool) (pre : List Op) (o : Op) : Bool := (findS pre o.1).2 || !may o proves
def lnk (own fresh : Int) (o : Op) : Option Op := if (betS o own fresh).2 then some (betS o own fresh).1 else none
theorem ljudge_loop (l : List Op) (proves : Bool) (own fresh : Int) (hw : wfO l) (hl : l.length ≤ 40) (hs : ∀ o ∈ l, o.2.length ≤ 300) (hf : 0 ≤ fresh ∧ fresh < 4294967296) (hN : 10000 ≤ N) : ∀ (k M i : Nat) (rej nak : List Op), k + i = l.length → k < M → rej.length ≤ i → nak.length ≤ i →
  gl (fun X c => lcpo_Judge_L3 N X c.1.1 c.1.2.1 c.1.2.2.1 c.1.2.2.2.1 c.1.2.2.2.2.1 c.1.2.2.2.2.2.1 c.1.2.2.2.2.2.2.1 c.2.1 c.2.2.1 c.2.2.2.1) M ((l, (proves, (own, (fresh, (l, ((l.length : Int), ((i : Int), ()))))))), (l.take i, (rej, (nak, ())))) = some ((), (l, (rej ++ (judS (lrj proves) (lnk own fresh) (l.take i) (l.drop i)).1, (nak ++ (judS (lrj proves) (lnk own fresh) (l.take i) (l.drop i)).2, ()))))
 | 0, M + 1, i, rej, nak, hk, hM, hr, hn => by
  have hi : i = l.length := by omega
  subst hi
  have c1 : ¬ ((l.length : Int) < (l.length : Int)) := by omega
  rw [gl_succ, List.take_length, List.drop_length]
  simp only [lcpo_Judge_L3, c1, decide_false, cond_false, judS, List.append_nil]
 | k + 1, M + 1, i, rej, nak, hk, hM, hr, hn => by
  have hlt : i < l.length := by omega
  have c1 : ((i : Int) < (l.length : Int)) := by omega
  have e0 : IntKind.wrap .i64 ((i : Int) + 1) = ((i + 1 : Nat) : Int) := by rw [wrap64 (by omega) (by omega)]; omega
  have g := getI_lt l i hlt
  have tk : takeI l (i : Int) = some (l.take i) := takeI_nat l rfl (by omega)
  have hwi := hw _ (List.getElem_mem hlt)
  have hsi := hs _ (List.getElem_mem hlt)
  have hfind := find_ok (N := N) (l.take i) l[i].1 (by rw [List.length_take]; omega) (fun o ho => by have := hs o (List.mem_of_mem_take ho); omega) (by omega)
  have hts : l.take (i + 1) = l.take i ++ [l[i]] := take_snoc l i hlt
  have hal : (l.take i).length ≤ i := by rw [List.length_take]; omega
  have hcl : slices_Clone_byte_byte N l[i].2 = some l[i].2 := clone_ok _ (by omega)
  have rm : ∀ (x : List Op) (y : Op), x.length ≤ 41 → roomB (x.length + ([y] : List Op).length) 32 = true := fun x y hx => roomB_of (by have := big_len; simp; omega) (by simp; omega)
  have hmay := may_ok (N := N) l[i] proves
  have hbet := fun (h : (l[i].2.length : Int) = sz l[i].1) => better_is (N := N) l[i] own fresh hwi.2 h hf hN
  rw [List.drop_eq_getElem_cons hlt]
  have ih := fun rej' nak' h1 h2 => ljudge_loop l proves own fresh hw hl hs hf hN k M (i + 1) rej' nak' (by omega) (by omega) h1 h2
  rw [hts] at ih
  generalize hx : l[i] = x at *
  obtain ⟨kx, dx⟩ := x
  have r1 := rm (l.take i) (kx, dx) (by omega)
  have r2 := rm rej (kx, dx) (by omega)
  rw [gl_succ]
  unfold judS
  cases hfb : (findS (l.take i) kx).2 with
  | true =>
   have hrj : lrj proves (l.take i) (kx, dx) = true := by simp [lrj, hfb]
   simp only [lcpo_Judge_L3, c1, decide_true, cond_true, g, Option.bind_some, hcl, r1, tk, hfind, hfb, r2, e0, hrj, if_true]
   refine (ih (rej ++ [(kx, dx)]) nak (by simp; omega) (by omega)).trans ?_
   simp
  | false =>
   cases hm : may (kx, dx) proves with
   | false =>
    have hrj : lrj proves (l.take i) (kx, dx) = true := by simp [lrj, hm]
    simp only [lcpo_Judge_L3, c1, decide_true, cond_true, cond_false, g, Option.bind_some, hcl, r1, tk, hfind, hfb, hmay, hm, Bool.not_false, r2, e0, hrj, if_true]
    refine (ih (rej ++ [(kx, dx)]) nak (by simp; omega) (by omega)).trans ?_
    simp
   | true =>
    have hrj : lrj proves (l.take i) (kx, dx) = false := by simp [lrj, hm, hfb]
    have hsz : (dx.length : Int) = sz kx := by
     simp only [may, Bool.and_eq_true, decide_eq_true_eq] at hm
     exact hm.1
    have hb := hbet hsz
    cases hb2 : (betS (kx, dx) own fresh).2 with
    | false =>
     have hnk : lnk own fresh (kx, dx) = none := by simp [lnk, hb2]
     simp only [lcpo_Judge_L3, c1, decide_true, cond_true, cond_false, g, Option.bind_some, hcl, r1, tk, hfind, hfb, hmay, hm, Bool.not_true, hb, hb2, e0, hrj, hnk, Bool.false_eq_true, if_false]
     exact ih rej nak (by omega) (by omega)
    | true =>
     have hnk : lnk own fresh (kx, dx) = some (betS (kx, dx) own fresh).1 := by simp [lnk, hb2]
     have r3 := rm nak (betS (kx, dx) own fresh).1 (by omega)
     simp only [lcpo_Judge_L3, c1, decide_true, cond_true, cond_false, g, Option.bind_some, hcl, r1, tk, hfind, hfb, hmay, hm, Bool.not_true, hb, hb2, r3, e0, hrj, hnk, Bool.false_eq_true, if_false]
     refine (ih rej (nak ++ [(betS (kx, dx) own fresh).1]) (by omega) (by simp; omega)).trans ?_
     simp
def ljudS (l : List Op) (proves : Bool) (own fresh : Int) : Int × List Op := tellS l (judS (lrj proves) (lnk own fresh) [] l)
theorem ljudge_is (l : List Op) (proves : Bool) (own fresh : Int) (hw : wfO l) (hl : l.length ≤ 40) (hs : ∀ o ∈ l, o.2.length ≤ 300) (hf : 0 ≤ fresh ∧ fresh < 4294967296) (hN : 10000 ≤ N) : lcpo_Judge N l proves own fresh = some (ljudS l proves own fresh) := by
 have h := ljudge_loop (N := N) l proves own fresh hw hl hs hf hN l.length N 0 [] [] (by omega) (by omega) (by simp) (by simp)
 simp only [List.take_zero, List.drop_zero, List.nil_append] at h
 unfold lcpo_Judge
 refine (congrArg (fun o => Option.bind o _) (show lcpo_Judge_L3_R N ((l, (proves, (own, (fresh, (l, ((l.length : Int), ((0 : Int), ()))))))), (([] : List Op), (([] : List Op), (([] : List Op), ())))) = _ from h)).trans ?_
 simp only [Option.bind_some, ljudS, tellS]
 generalize judS (lrj proves) (lnk own fresh) [] l = r
 by_cases h1 : 0 < r.1.length
 ·have c1 : ((0 : Int) < (r.1.length : Int)) := by omega
  simp only [c1, decide_true, cond_true, h1, if_true]
 ·have c1 : ¬ ((0 : Int) < (r.1.length : Int)) := by omega
  by_cases h2 : 0 < r.2.length
  ·have c2 : ((0 : Int) < (r.2.length : Int)) := by omega
   simp only [c1, c2, decide_true, decide_false, cond_true, cond_false, h1, h2, if_true, if_false]
  ·have c2 : ¬ ((0 : Int) < (r.2.length : Int)) := by omega
   simp only [c1, c2, decide_false, cond_false, h1, h2, if_false]
theorem first_is (l : List Op) (k : Int) (hl : l.length ≤ 1000) (hN : 10000 ≤ N) : lcpo_first N l k = some (match firstS l k with | some o => (o.2, true) | none => ([], false)) := by
 have h1 := first_loop (N := N) l k hl l.length N 0 (by omega) (by omega)
 rw [List.drop_zero, show l.find? (firstP k) = firstS l k from rfl] at h1
 refine (congrArg (fun o => Option.bind o _) (show lcpo_first_L2_R N ((k, (l, ((l.length : Int), ((0 : Int), ())))), ()) = _ from h1)).trans ?_
 cases firstS l k <;> rfl
def loS (w : Wt3) : List Op := (if w.1 = 0 then [] else [(1, b2 w.1)]) ++ (if w.2.2 then [(3, chapL)] else []) ++ (if w.2.1 = 0 then [] else [(5, b4 w.2.1)])
theorem lopts_is (w : Wt3) (hw : wfW w) (hN : 10000 ≤ N) : lcpo_Options N w = some (loS w) := by
 obtain ⟨m, g, p⟩ := w
 obtain ⟨hm, hg⟩ := hw
 simp only at hm hg
 have em : IntKind.wrap .u64 m = m := wrapU64 (by omega) (by omega)
 have eg : IntKind.wrap .u64 g = g := wrapU64 (by omega) (by omega)
 unfold lcpo_Options loS
 by_cases h1 : m = 0 <;> by_cases h5 : g = 0 <;> cases p <;> simp only [h1, h5, decide_true, decide_false, Bool.not_true, Bool.not_false, cond_true, cond_false, em, eg, num1 (N := N) hm hN, num5 (N := N) hg hN, Option.bind_some, if_true, if_false, Bool.false_eq_true] <;> rfl
theorem loS_wf (w : Wt3) : wfO (loS w) ∧ (loS w).length ≤ 3 ∧ ∀ o ∈ loS w, o.2.length ≤ 4 := by
 have key : ∀ o ∈ loS w, o = (1, b2 w.1) ∨ o = (3, chapL) ∨ o = (5, b4 w.2.1) := fun o ho => by
  unfold loS at ho
  simp only [List.mem_append] at ho
  rcases ho with (ho | ho) | ho
  ·split at ho
   ·cases ho
   ·exact .inl (List.mem_singleton.1 ho)
  ·split at ho
   ·exact .inr (.inl (List.mem_singleton.1 ho))
   ·cases ho
  ·split at ho
   ·cases ho
   ·exact .inr (.inr (List.mem_singleton.1 ho))
 refine ⟨fun o ho => ?_, ?_, fun o ho => ?_⟩
 ·rcases key o ho with rfl | rfl | rfl
  ·exact ⟨by show (0 : Int) ≤ 1 ∧ (1 : Int) < 256; omega, b2_B _⟩
  ·exact ⟨by show (0 : Int) ≤ 3 ∧ (3 : Int) < 256; omega, chap_B⟩
  ·exact ⟨by show (0 : Int) ≤ 5 ∧ (5 : Int) < 256; omega, b4_B _⟩
 ·unfold loS
  split <;> split <;> split <;> simp
 ·rcases key o ho with rfl | rfl | rfl <;> simp [b2, b4, chapL]
def v1S (l : List Op) : Option Int := (firstS l 1).map fun o => valS o.2
def v5S (l : List Op) : Option Int := (firstS l 5).map fun o => valS o.2
theorem v1_ok {l : List Op} (hw : wfO l) {o : Op} (h : firstS l 1 = some o) (hN : 100 ≤ N) : lcpo_value N o.2 = some (valS o.2) ∧ 0 ≤ valS o.2 ∧ valS o.2 < 65536 := by
 obtain ⟨h1, h2, h3⟩ := firstS_some h
 exact val2 (hw _ h1).2 (by rw [show sz 1 = 2 from rfl] at h3; omega) hN
theorem v5_ok {l : List Op} (hw : wfO l) {o : Op} (h : firstS l 5 = some o) (hN : 100 ≤ N) : lcpo_value N o.2 = some (valS o.2) ∧ 0 ≤ valS o.2 ∧ valS o.2 < 4294967296 := by
 obtain ⟨h1, h2, h3⟩ := firstS_some h
 exact val4 (hw _ h1).2 (by rw [show sz 5 = 4 from rfl] at h3; omega) hN
def ofS (l : List Op) : Int × Int × Bool × Bool × Bool := ((v1S l).getD 1500, (v5S l).getD 0, (match firstS l 3 with | some o => decide (o.2 = chapL) | none => false), (firstS l 7).isSome, (firstS l 8).isSome)
theorem of_is (l : List Op) (hw : wfO l) (hl : l.length ≤ 1000) (hN : 10000 ≤ N) : lcpo_Of N l = some (ofS l) ∧ 0 ≤ (ofS l).2.1 ∧ (ofS l).2.1 < 4294967296 := by
 have v16 : ∀ v : Int, 0 ≤ v ∧ v < 65536 → IntKind.wrap .u16 v = v := fun v h => by rw [IntKind.wrap_u16]; omega
 have f := fun k => first_is (N := N) l k hl hN
 have hnil : bytes_Equal N [] [194, 35, 129] = some false := beq_ok [] AllB.nil
 have h3 : ∃ t, bytes_Equal N (match firstS l 3 with | some o => (o.2, true) | none => (([] : List Int), false)).1 [194, 35, 129] = some t ∧ t = (match firstS l 3 with | some o => decide (o.2 = chapL) | none => false) := by
  cases hf : firstS l 3 with
  | none => exact ⟨_, hnil, rfl⟩
  | some o => exact ⟨_, beq_ok o.2 (hw _ (firstS_some hf).1).2, rfl⟩
 obtain ⟨t, t1, t2⟩ := h3
 unfold lcpo_Of ofS v1S v5S
 rw [← t2]
 cases h1 : firstS l 1 with
 | none =>
  cases h5 : firstS l 5 with
  | none =>
   simp only [f, h1, h5, Option.bind_some, cond_false, t1, Option.map_none, Option.getD_none]
   refine ⟨?_, by omega⟩
   cases firstS l 7 <;> cases firstS l 8 <;> rfl
  | some o5 =>
   obtain ⟨u1, u2⟩ := v5_ok (N := N) hw h5 (by omega)
   simp only [f, h1, h5, Option.bind_some, cond_false, cond_true, t1, u1, wrapU32 u2, Option.map_none, Option.getD_none, Option.map_some, Option.getD_some]
   refine ⟨?_, u2⟩
   cases firstS l 7 <;> cases firstS l 8 <;> rfl
 | some o1 =>
  obtain ⟨w1, w2⟩ := v1_ok (N := N) hw h1 (by omega)
  cases h5 : firstS l 5 with
  | none =>
   simp only [f, h1, h5, Option.bind_some, cond_false, cond_true, t1, w1, v16 _ w2, Option.map_none, Option.getD_none, Option.map_some, Option.getD_some]
   refine ⟨?_, by omega⟩
   cases firstS l 7 <;> cases firstS l 8 <;> rfl
  | some o5 =>
   obtain ⟨u1, u2⟩ := v5_ok (N := N) hw h5 (by omega)
   simp only [f, h1, h5, Option.bind_some, cond_true, t1, w1, v16 _ w2, u1, wrapU32 u2, Option.map_some, Option.getD_some]
   refine ⟨?_, u2⟩
   cases firstS l 7 <;> cases firstS l 8 <;> rfl
def lnkS (w : Wt3) (l : List Op) (fresh : Int) : Wt3 := ((match v1S l with | some v => if 128 ≤ v ∧ (v ≤ w.1 ∨ w.1 = 0) then v else w.1 | none => w.1), (if (findS l 5).2 then fresh else w.2.1), w.2.2)
theorem lnaked_is (w : Wt3) (l : List Op) (fresh : Int) (hwl : wfO l) (hl : l.length ≤ 1000) (hs : ∀ o ∈ l, o.2.length ≤ 1000) (hN : 10000 ≤ N) : lcpo_Naked N w l fresh = some (lnkS w l fresh) ∧ (wfW w → 0 ≤ fresh ∧ fresh < 4294967296 → wfW (lnkS w l fresh)) := by
 obtain ⟨m, g, p⟩ := w
 have a5 := has_ok (N := N) l 5 hl hs hN
 have f := first_is (N := N) l 1 hl hN
 refine ⟨?_, fun hw hf => ⟨?_, ?_⟩⟩
 ·unfold lcpo_Naked lnkS v1S
  cases h : firstS l 1 with
  | none =>
   rw [h] at f
   cases h5 : (findS l 5).2 <;> simp only [f, a5, h5, Option.bind_some, cond_true, cond_false, Option.map_none, if_true, Bool.false_eq_true, if_false]
  | some o =>
   rw [h] at f
   obtain ⟨v1, v3⟩ := v1_ok (N := N) hwl h (by omega)
   have u1 : IntKind.wrap .u16 (valS o.2) = valS o.2 := by rw [IntKind.wrap_u16]; omega
   by_cases t1 : (128 : Int) ≤ valS o.2 <;> by_cases t2 : valS o.2 ≤ m <;> by_cases t3 : m = (0 : Int) <;> cases h5 : (findS l 5).2 <;>
    simp only [f, v1, u1, t1, t2, t3, a5, h5, Option.bind_some, cond_true, cond_false, decide_true, decide_false, Option.map_some, if_true, Bool.false_eq_true, if_false, true_and, false_and, or_true, true_or, or_self] <;> (try (cases decide (valS o.2 ≤ 0) <;> rfl))
 ·show 0 ≤ (lnkS (m, g, p) l fresh).1 ∧ (lnkS (m, g, p) l fresh).1 < 65536
  unfold lnkS v1S
  simp only
  cases h : firstS l 1 with
  | none => exact hw.1
  | some o =>
   simp only [Option.map_some]
   split
   ·exact (v1_ok (N := 100) hwl h (by omega)).2
   ·exact hw.1
 ·show 0 ≤ (lnkS (m, g, p) l fresh).2.1 ∧ (lnkS (m, g, p) l fresh).2.1 < 4294967296
  unfold lnkS
  simp only
  split
  ·exact hf
  ·exact hw.2
def lrjS (w : Wt3) (l : List Op) : Wt3 × Bool := (((if (findS l 1).2 then 0 else w.1), (if (findS l 5).2 then 0 else w.2.1), w.2.2), !(findS l 3).2)
theorem lrej_is (w : Wt3) (l : List Op) (hl : l.length ≤ 1000) (hs : ∀ o ∈ l, o.2.length ≤ 1000) (hN : 10000 ≤ N) : lcpo_Rejected N w l = some (lrjS w l) ∧ (wfW w → wfW (lrjS w l).1) := by
 have a1 := has_ok (N := N) l 1 hl hs hN
 have a3 := has_ok (N := N) l 3 hl hs hN
 have a5 := has_ok (N := N) l 5 hl hs hN
 refine ⟨?_, fun hw => ?_⟩
 ·unfold lcpo_Rejected lrjS
  cases h1 : (findS l 1).2 <;> cases h5 : (findS l 5).2 <;> simp only [a1, a3, a5, h1, h5, Option.bind_some, cond_true, cond_false, if_true, Bool.false_eq_true, if_false]
 ·unfold lrjS wfW
  simp only
  obtain ⟨h1, h2⟩ := hw
  refine ⟨?_, ?_⟩ <;> split <;> omega
def frsS (n : Int) : Int := maxI 1 (IntKind.wrap .u32 (IntKind.wrap .u32 (2654435761 * n) + 1))
theorem frsS_r (n : Int) : 0 ≤ frsS n ∧ frsS n < 4294967296 := by
 have : 0 ≤ IntKind.wrap .u32 (IntKind.wrap .u32 (2654435761 * n) + 1) ∧ IntKind.wrap .u32 (IntKind.wrap .u32 (2654435761 * n) + 1) < 4294967296 := by rw [IntKind.wrap_u32]; omega
 unfold frsS maxI
 split <;> omega
end
section
variable {N : Nat}
theorem jget : Jg.octs_Get N = octs_Get N := rfl
theorem jfind : Jg.opts_Find N = opts_Find N := rfl
theorem joption : Jg.ipcpo_option N = ipcpo_option N := rfl
abbrev Sd := Bool × Int × Int × Int × Bool
def wfS (s : Sd) : Prop := (0 ≤ s.2.1 ∧ s.2.1 < 4294967296) ∧ (0 ≤ s.2.2.1 ∧ s.2.2.1 < 4294967296) ∧ (0 ≤ s.2.2.2.1 ∧ s.2.2.2.1 < 4294967296)
def addrS (d : List Int) : Int := if d.length = 4 then valS d else 0
theorem get4S {d : List Int} (hd : AllB d) (hl : d.length = 4) (hN : 100 ≤ N) : octs_Get N d false = some (valS d, 0) ∧ 0 ≤ valS d ∧ valS d < 4294967296 := by
 match d, hl with
 | [x, y, z, u], _ =>
  have bx := hd x (by simp)
  have by' := hd y (by simp)
  have bz := hd z (by simp)
  have bu := hd u (by simp)
  exact ⟨by rw [show octs_Get N [x, y, z, u] false = some (((x * 256 + y) * 256 + z) * 256 + u, 0) from get4 x y z u bx by' bz bu hN]; simp [valS], by simp [valS]; omega⟩
theorem addrS_r {d : List Int} (hd : AllB d) : 0 ≤ addrS d ∧ addrS d < 4294967296 := by
 unfold addrS
 split
 ·rename_i h; exact (get4S (N := 100) hd h (by omega)).2
 ·omega
theorem address_is {d : List Int} (hd : AllB d) (hN : 100 ≤ N) : Jg.ipcpo_address N d = some (addrS d) := by
 unfold Jg.ipcpo_address addrS
 by_cases h : d.length = 4
 ·obtain ⟨h1, h2⟩ := get4S (N := N) hd h hN
  have c1 : ((d.length : Nat) : Int) = 4 := by omega
  rw [jget, if_pos h]
  simp only [c1, decide_true, Bool.not_true, cond_false, h1, Option.bind_some, wrapU32 h2]
 ·have c1 : ¬ ((d.length : Nat) : Int) = 4 := by omega
  rw [if_neg h]
  simp only [c1, decide_false, Bool.not_false, cond_true]
theorem option_is (k a : Int) (ha : 0 ≤ a ∧ a < 4294967296) (hN : 100 ≤ N) : ipcpo_option N k a = some (k, b4 a) := by
 unfold ipcpo_option ipcpo_laid
 have e : IntKind.wrap .u64 a = a := wrapU64 (by omega) (by omega)
 rw [e, lput4 (N := N) a (by omega) hN]
 rfl
def imay (s : Sd) (o : Op) : Bool := if o.2.length = 4 then (if s.1 then decide (o.1 = 3) || (decide (o.1 = 129) && !decide (s.2.2.2.1 = 0)) else decide (o.1 = 3) && !decide (addrS o.2 = 0)) else false
theorem imay_is (s : Sd) (o : Op) (ho : AllB o.2) (hN : 100 ≤ N) : Jg.ipcpo_may N s o = some (imay s o) := by
 unfold Jg.ipcpo_may imay
 by_cases h : o.2.length = 4
 ·have c1 : ((o.2.length : Nat) : Int) = 4 := by omega
  simp only [c1, decide_true, Bool.not_true, cond_false, h, if_true, address_is (N := N) ho hN]
  cases s.1 <;> by_cases h3 : o.1 = 3 <;> by_cases h129 : o.1 = 129 <;> simp only [h3, h129, decide_true, decide_false, cond_true, cond_false, Bool.not_true, Bool.not_false, Option.bind_some, if_true, if_false, Bool.false_eq_true, Bool.true_or, Bool.false_or, Bool.true_and, Bool.false_and] <;> first | rfl | omega | (cases decide (addrS o.2 = 0) <;> rfl) | (cases decide (s.2.2.2.1 = 0) <;> rfl)
 ·have c1 : ¬ ((o.2.length : Nat) : Int) = 4 := by omega
  simp only [c1, decide_false, Bool.not_false, cond_true, h, if_false]
def givS (s : Sd) (k : Int) : Int := if k = 129 then s.2.2.2.1 else s.2.2.1
theorem givS_is (s : Sd) (k : Int) : Jg.ipcpo_gives N s k = some (givS s k) := by
 unfold Jg.ipcpo_gives givS
 by_cases h : k = 129 <;> simp [h]
theorem givS_r {s : Sd} (h : wfS s) (k : Int) : 0 ≤ givS s k ∧ givS s k < 4294967296 := by
 unfold givS
 split
 ·exact h.2.2
 ·exact h.2.1
def irj (s : Sd) (pre : List Op) (o : Op) : Bool := (findS pre o.1).2 || !imay s o
def ink (s : Sd) (o : Op) : Option Op := if s.1 && !decide (addrS o.2 = givS s o.1) then some (o.1, b4 (givS s o.1)) else none
theorem getD_at {l : List Op} {i : Nat} (h : i < l.length) : l.getD i (0, []) = l[i] := by rw [List.getD_eq_getElem?_getD, List.getElem?_eq_getElem h]; rfl
theorem ijudge_loop (s : Sd) (l : List Op) (hw : wfO l) (hsd : wfS s) (hl : l.length ≤ 40) (hs : ∀ o ∈ l, o.2.length ≤ 300) (hN : 10000 ≤ N) : ∀ (m k : Nat) (rej nak : List Op), m + k = l.length → rej.length ≤ k → nak.length ≤ k →
  rr (fun k d => jdg_rd N s l k (l.getD k (0, [])) d) m k (l.take k, rej, nak, ()) = some (.inl (l, rej ++ (judS (irj s) (ink s) (l.take k) (l.drop k)).1, nak ++ (judS (irj s) (ink s) (l.take k) (l.drop k)).2, ()))
 | 0, k, rej, nak, hk, hr, hn => by
  have hi : k = l.length := by omega
  subst hi
  unfold rr
  rw [List.take_length, List.drop_length]
  simp [judS]
 | m + 1, i, rej, nak, hk, hr, hn => by
  have hlt : i < l.length := by omega
  have tk : takeI l (i : Int) = some (l.take i) := takeI_nat l rfl (by omega)
  have hwi := hw _ (List.getElem_mem hlt)
  have hsi := hs _ (List.getElem_mem hlt)
  have hfind := find_ok (N := N) (l.take i) l[i].1 (by rw [List.length_take]; omega) (fun o ho => by have := hs o (List.mem_of_mem_take ho); omega) (by omega)
  have hts : l.take (i + 1) = l.take i ++ [l[i]] := take_snoc l i hlt
  have hal : (l.take i).length ≤ i := by rw [List.length_take]; omega
  have hcl : Jg.slices_Clone_byte_byte N l[i].2 = some l[i].2 := clone_ok (N := N) _ (by omega)
  have rm : ∀ (x : List Op) (y : Op), x.length ≤ 41 → roomB (x.length + ([y] : List Op).length) 32 = true := fun x y hx => roomB_of (by have := big_len; simp; omega) (by simp; omega)
  have hmay := imay_is (N := N) s l[i] hwi.2 (by omega)
  have hadd := address_is (N := N) hwi.2 (by omega)
  have hgiv := givS_is (N := N) s l[i].1
  have hopt := option_is (N := N) l[i].1 (givS s l[i].1) (givS_r hsd _) (by omega)
  rw [← joption] at hopt
  rw [← jfind] at hfind
  rw [List.drop_eq_getElem_cons hlt]
  have ih := fun rej' nak' h1 h2 => ijudge_loop s l hw hsd hl hs hN m (i + 1) rej' nak' (by omega) h1 h2
  rw [hts] at ih
  unfold rr
  rw [getD_at hlt]
  generalize hx : l[i] = x at *
  obtain ⟨kx, dx⟩ := x
  have r1 := rm (l.take i) (kx, dx) (by omega)
  have r2 := rm rej (kx, dx) (by omega)
  unfold judS
  cases hfb : (findS (l.take i) kx).2 with
  | true =>
   have hrj : irj s (l.take i) (kx, dx) = true := by simp [irj, hfb]
   have key : jdg_rd N s l i (kx, dx) (l.take i, rej, nak, ()) = some (.inl (l.take i ++ [(kx, dx)], rej ++ [(kx, dx)], nak, ())) := by
    simp only [jdg_rd, Option.bind_some, hcl, r1, tk, hfind, hfb, r2, cond_true]
   rw [key]
   simp only [hrj, if_true]
   rw [ih (rej ++ [(kx, dx)]) nak (by simp; omega) (by omega)]
   simp
  | false =>
   cases hm : imay s (kx, dx) with
   | false =>
    have hrj : irj s (l.take i) (kx, dx) = true := by simp [irj, hm]
    have key : jdg_rd N s l i (kx, dx) (l.take i, rej, nak, ()) = some (.inl (l.take i ++ [(kx, dx)], rej ++ [(kx, dx)], nak, ())) := by
     have hmay' : Jg.ipcpo_may N (s.1, (s.2.1, (s.2.2.1, (s.2.2.2.1, s.2.2.2.2)))) (kx, dx) = some false := by rw [← hm]; exact hmay
     simp only [jdg_rd, Option.bind_some, hcl, r1, tk, hfind, hfb, r2, cond_true, cond_false, hmay', Bool.not_false]
    rw [key]
    simp only [hrj, if_true]
    rw [ih (rej ++ [(kx, dx)]) nak (by simp; omega) (by omega)]
    simp
   | true =>
    have hrj : irj s (l.take i) (kx, dx) = false := by simp [irj, hm, hfb]
    have hmay' : Jg.ipcpo_may N (s.1, (s.2.1, (s.2.2.1, (s.2.2.2.1, s.2.2.2.2)))) (kx, dx) = some true := by rw [← hm]; exact hmay
    have hgiv' : Jg.ipcpo_gives N (s.1, (s.2.1, (s.2.2.1, (s.2.2.2.1, s.2.2.2.2)))) kx = some (givS s kx) := hgiv
    have r3 := rm nak (kx, b4 (givS s kx)) (by omega)
    simp only at hadd hopt
    cases hsv : s.1 with
    | false =>
     have hnk : ink s (kx, dx) = none := by simp [ink, hsv]
     have key : jdg_rd N s l i (kx, dx) (l.take i, rej, nak, ()) = some (.inl (l.take i ++ [(kx, dx)], rej, nak, ())) := by
      rw [hsv] at hmay' hgiv'
      simp only [jdg_rd, Option.bind_some, hcl, r1, tk, hfind, hfb, cond_true, cond_false, hsv, hmay', hgiv', Bool.not_true]
     rw [key]
     simp only [hrj, hnk, Bool.false_eq_true, if_false]
     exact ih rej nak (by omega) (by omega)
    | true =>
     rw [hsv] at hmay' hgiv'
     cases hd : decide (addrS dx = givS s kx) with
     | true =>
      have hnk : ink s (kx, dx) = none := by simp only [ink, hsv, hd]; rfl
      have key : jdg_rd N s l i (kx, dx) (l.take i, rej, nak, ()) = some (.inl (l.take i ++ [(kx, dx)], rej, nak, ())) := by
       simp only [jdg_rd, Option.bind_some, hcl, r1, tk, hfind, hfb, cond_true, cond_false, hsv, hmay', hgiv', Bool.not_true, hadd, hd]
      rw [key]
      simp only [hrj, hnk, Bool.false_eq_true, if_false]
      exact ih rej nak (by omega) (by omega)
     | false =>
      have hnk : ink s (kx, dx) = some (kx, b4 (givS s kx)) := by simp only [ink, hsv, hd]; rfl
      have key : jdg_rd N s l i (kx, dx) (l.take i, rej, nak, ()) = some (.inl (l.take i ++ [(kx, dx)], rej, nak ++ [(kx, b4 (givS s kx))], ())) := by
       simp only [jdg_rd, Option.bind_some, hcl, r1, tk, hfind, hfb, cond_true, cond_false, hsv, hmay', hgiv', Bool.not_true, Bool.not_false, hadd, hd, hopt, r3]
      rw [key]
      simp only [hrj, hnk, Bool.false_eq_true, if_false]
      rw [ih rej (nak ++ [(kx, b4 (givS s kx))]) (by omega) (by simp; omega)]
      simp
def ijudS (s : Sd) (l : List Op) : Int × List Op := tellS l (judS (irj s) (ink s) [] l)
theorem ijudge_is (s : Sd) (l : List Op) (hw : wfO l) (hsd : wfS s) (hl : l.length ≤ 40) (hs : ∀ o ∈ l, o.2.length ≤ 300) (hN : 10000 ≤ N) : ipcpo_Judge N s l = some (ijudS s l) := by
 have h := ijudge_loop (N := N) s l hw hsd hl hs hN l.length 0 [] [] (by omega) (by simp) (by simp)
 simp only [List.take_zero, List.drop_zero, List.nil_append] at h
 unfold ipcpo_Judge
 rw [decide_eq_true (show l.length ≤ 1000000000 by omega), cond_true]
 refine (congrArg (fun o => Option.bind o _) h).trans ?_
 simp only [Option.bind_some, Sum.elim_inl, ijudS, tellS, jdg_end]
 generalize judS (irj s) (ink s) [] l = r
 by_cases h1 : 0 < r.1.length
 ·have c1 : ((0 : Int) < (r.1.length : Int)) := by omega
  simp only [c1, decide_true, cond_true, h1, if_true]
 ·have c1 : ¬ ((0 : Int) < (r.1.length : Int)) := by omega
  by_cases h2 : 0 < r.2.length
  ·have c2 : ((0 : Int) < (r.2.length : Int)) := by omega
   simp only [c1, c2, decide_true, decide_false, cond_true, cond_false, h1, h2, if_true, if_false]
  ·have c2 : ¬ ((0 : Int) < (r.2.length : Int)) := by omega
   simp only [c1, c2, decide_false, cond_false, h1, h2, if_false]
def ifP (k : Int) (o : Op) : Bool := decide (o.1 = k) && !decide (addrS o.2 = 0)
def ifS (l : List Op) (k : Int) : Int := match l.find? (ifP k) with
 | some o => addrS o.2
 | none => 0
theorem ifirst_loop (l : List Op) (kd : Int) (hw : wfO l) (hN : 100 ≤ N) (d0 : Int) : ∀ (m k : Nat), m + k = l.length →
  rr (fun k d => fst_rd N kd (l.getD k (0, [])) d) m k (d0, ()) = some (match (l.drop k).find? (ifP kd) with | some o => .inr (addrS o.2, ()) | none => .inl (d0, ()))
 | 0, k, hk => by
  unfold rr
  rw [List.drop_of_length_le (by omega)]
  rfl
 | m + 1, i, hk => by
  have hlt : i < l.length := by omega
  have hwi := hw _ (List.getElem_mem hlt)
  have hadd := address_is (N := N) hwi.2 hN
  have ih := ifirst_loop l kd hw hN d0 m (i + 1) (by omega)
  rw [List.drop_eq_getElem_cons hlt, List.find?_cons]
  unfold rr
  rw [getD_at hlt]
  by_cases h1 : l[i].1 = kd
  ·by_cases h2 : addrS l[i].2 = 0
   ·have hp : ifP kd l[i] = false := by simp [ifP, h2]
    have key : fst_rd N kd l[i] (d0, ()) = some (.inl (d0, ())) := by
     simp only [fst_rd, hadd, Option.bind_some, h1, h2, decide_true, Bool.not_true, cond_true, cond_false]
    rw [key, hp]
    exact ih
   ·have hp : ifP kd l[i] = true := by simp [ifP, h1, h2]
    have key : fst_rd N kd l[i] (d0, ()) = some (.inr (addrS l[i].2, ())) := by
     simp only [fst_rd, hadd, Option.bind_some, h1, h2, decide_true, decide_false, Bool.not_false, cond_true]
    rw [key, hp]
  ·have hp : ifP kd l[i] = false := by simp [ifP, h1]
   have key : fst_rd N kd l[i] (d0, ()) = some (.inl (d0, ())) := by
    simp only [fst_rd, hadd, Option.bind_some, h1, decide_false, cond_false]
   rw [key, hp]
   exact ih
theorem ifirst_is (l : List Op) (kd : Int) (hw : wfO l) (hl : l.length ≤ 1000) (hN : 100 ≤ N) : ipcpo_first N l kd = some (ifS l kd) := by
 have h := ifirst_loop (N := N) l kd hw hN 0 l.length 0 (by omega)
 rw [List.drop_zero] at h
 unfold ipcpo_first ifS
 rw [decide_eq_true (show l.length ≤ 1000000000 by omega), cond_true]
 refine (congrArg (fun o => Option.bind o _) h).trans ?_
 cases l.find? (ifP kd) <;> rfl
theorem ifS_r {l : List Op} (hw : wfO l) (k : Int) : 0 ≤ ifS l k ∧ ifS l k < 4294967296 := by
 unfold ifS
 cases h : l.find? (ifP k) with
 | none => simp
 | some o => exact addrS_r (hw o (List.mem_of_find?_eq_some h)).2
def ioS (s : Sd) : List Op := (3, b4 s.2.1) :: (if !s.1 && s.2.2.2.2 then [(129, b4 s.2.2.2.1)] else [])
theorem iopts_is (s : Sd) (hs : wfS s) (hN : 100 ≤ N) : ipcpo_Options N s = some (ioS s) := by
 unfold ipcpo_Options ioS
 cases h1 : s.1 <;> cases h2 : s.2.2.2.2 <;> simp only [h1, h2, option_is (N := N) 3 _ hs.1 hN, option_is (N := N) 129 _ hs.2.2 hN, Option.bind_some, Bool.not_true, Bool.not_false, cond_true, cond_false, Bool.false_and, Bool.true_and, Bool.false_eq_true, if_true, if_false] <;> rfl
theorem ioS_wf (s : Sd) : wfO (ioS s) ∧ (ioS s).length ≤ 3 ∧ ∀ o ∈ ioS s, o.2.length ≤ 4 := by
 have key : ∀ o ∈ ioS s, o = (3, b4 s.2.1) ∨ o = (129, b4 s.2.2.2.1) := fun o ho => by
  unfold ioS at ho
  rcases List.mem_cons.1 ho with h | h
  ·exact .inl h
  ·split at h
   ·exact .inr (List.mem_singleton.1 h)
   ·cases h
 refine ⟨fun o ho => ?_, ?_, fun o ho => ?_⟩
 ·rcases key o ho with rfl | rfl
  ·exact ⟨by show (0 : Int) ≤ 3 ∧ (3 : Int) < 256; omega, b4_B _⟩
  ·exact ⟨by show (0 : Int) ≤ 129 ∧ (129 : Int) < 256; omega, b4_B _⟩
 ·unfold ioS
  split <;> simp
 ·rcases key o ho with rfl | rfl <;> simp [b4]
def inkS (s : Sd) (l : List Op) : Sd := if s.1 then s else (s.1, (if ifS l 3 = 0 then s.2.1 else ifS l 3), s.2.2.1, (if s.2.2.2.2 && !decide (ifS l 129 = 0) then ifS l 129 else s.2.2.2.1), s.2.2.2.2)
theorem inaked_is (s : Sd) (l : List Op) (hw : wfO l) (hl : l.length ≤ 1000) (hN : 100 ≤ N) : ipcpo_Naked N s l = some (inkS s l) ∧ (wfS s → wfS (inkS s l)) := by
 have f3 := ifirst_is (N := N) l 3 hw hl hN
 have f129 := ifirst_is (N := N) l 129 hw hl hN
 refine ⟨?_, fun hs => ?_⟩
 ·unfold ipcpo_Naked inkS
  cases h1 : s.1 with
  | true =>
   simp only [cond_true, if_true]
   rw [← h1]
  | false =>
   by_cases h3 : ifS l 3 = 0 <;> by_cases h129 : ifS l 129 = 0 <;> cases h2 : s.2.2.2.2 <;> simp only [f3, f129, h2, h3, h129, Option.bind_some, cond_true, cond_false, decide_true, decide_false, Bool.not_true, Bool.not_false, Bool.true_and, Bool.false_and, Bool.false_eq_true, if_true, if_false]
 ·unfold inkS
  split
  ·exact hs
  ·refine ⟨?_, hs.2.1, ?_⟩
   ·show 0 ≤ (if ifS l 3 = 0 then s.2.1 else ifS l 3) ∧ (if ifS l 3 = 0 then s.2.1 else ifS l 3) < 4294967296
    split
    ·exact hs.1
    ·exact ifS_r hw 3
   ·show 0 ≤ (if (s.2.2.2.2 && !decide (ifS l 129 = 0)) = true then ifS l 129 else s.2.2.2.1) ∧ (if (s.2.2.2.2 && !decide (ifS l 129 = 0)) = true then ifS l 129 else s.2.2.2.1) < 4294967296
    split
    ·exact ifS_r hw 129
    ·exact hs.2.2
def irjS (s : Sd) (l : List Op) : Sd × Bool := ((s.1, s.2.1, s.2.2.1, s.2.2.2.1, (if (findS l 129).2 && !s.1 then false else s.2.2.2.2)), !(findS l 3).2)
theorem irej_is (s : Sd) (l : List Op) (hl : l.length ≤ 1000) (hs : ∀ o ∈ l, o.2.length ≤ 1000) (hN : 10000 ≤ N) : ipcpo_Rejected N s l = some (irjS s l) := by
 have a3 := find_ok (N := N) l 3 hl hs hN
 have a129 := find_ok (N := N) l 129 hl hs hN
 unfold ipcpo_Rejected irjS
 cases h1 : s.1 <;> cases h2 : (findS l 129).2 <;> simp only [a3, a129, h1, h2, Option.bind_some, cond_true, cond_false, Bool.not_true, Bool.not_false, Bool.true_and, Bool.false_and, Bool.false_eq_true, if_true, if_false]
end
def rowS : Nat → List (List Int)
 | 0 => [[2], [6, 5, 7], [-1], [-1], [-1], [-1], [-1], [-1], [-1], [-1]]
 | 1 => [[-1], [-1], [0], [1, 3], [0], [1], [1], [1], [1], [1, 2]]
 | 2 => [[1, 3], [1], [6, 5, 7], [3], [5], [5], [6], [7], [8], [9]]
 | 3 => [[0], [0, 4], [2], [2], [4], [4], [4, 5, 10], [4, 5, 10], [4, 5, 10], [4, 2, 5, 10]]
 | 4 => [[-1], [-1], [-1], [-1], [4, 10], [5, 10], [6, 7], [6, 7], [8, 7], [-1]]
 | 5 => [[-1], [-1], [-1], [-1], [2, 4], [3, 4], [3, 4], [3, 4], [3, 4], [-1]]
 | 6 => [[-1], [-1], [2, 11], [8, 5, 7, 8], [4], [5], [8, 8], [9, 8, 1], [8, 8], [8, 2, 7, 8]]
 | 7 => [[-1], [-1], [2, 11], [6, 5, 7, 9], [4], [5], [6, 9], [7, 9], [6, 9], [6, 2, 7, 9]]
 | 8 => [[-1], [-1], [2, 11], [3, 11], [4], [5], [7, 5], [6, 7], [9, 5, 1], [6, 2, 7]]
 | 9 => [[-1], [-1], [2, 11], [3, 11], [4], [5], [6, 5, 7], [6, 7], [8, 5, 7], [6, 2, 7]]
 | 10 => [[-1], [-1], [2, 11], [3, 11], [4, 11], [5, 11], [6, 11], [6, 11], [6, 11], [5, 2, 6, 11]]
 | 11 => [[-1], [-1], [2], [3], [2, 4], [3, 4], [6], [6], [8], [6, 2, 7]]
 | 12 => [[-1], [-1], [2, 12], [3, 12], [4, 12], [5, 12], [6, 12], [7, 12], [8, 12], [9, 12]]
 | 13 => [[-1], [-1], [2], [3], [4], [5], [6], [6], [8], [9]]
 | 14 => [[-1], [-1], [2, 4], [3, 4], [2, 4], [3, 4], [3, 4], [3, 4], [3, 4], [5, 2, 5, 10]]
 | 15 => [[-1], [-1], [2], [3], [4], [5], [6], [7], [8], [9, 13]]
 | _ => []
def nextS (s e : Nat) : Int × List Int × Int := match (rowS e).getD s [] with
 | x :: l => if x < 0 then (0, [], 11) else (x, l, 0)
 | [] => (0, [], 1)
theorem next_all : ∀ s : Nat, s < 10 → ∀ e : Nat, e < 16 → fsm_Next 200000 (s : Int) (e : Int) = some (nextS s e) := by decide +kernel
def timS (s : Nat) : Bool := decide ((nextS s 4).2.2 = 0)
theorem timed_all : ∀ s : Nat, s < 10 → fsm_Timed 200000 (s : Int) = some (timS s) := by decide +kernel
def chkS (s e : Nat) : Bool := (nextS s e).2.2 ≠ 0 || (decide (0 ≤ (nextS s e).1) && decide ((nextS s e).1 < 10) && ((nextS s e).2.1.contains 1 == (s ≠ 9 && (nextS s e).1 == 9)) && ((nextS s e).2.1.contains 2 == (s == 9 && (nextS s e).1 != 9)) && decide (((nextS s e).2.1.filter fun a => decide (7 ≤ a ∧ a ≤ 12)).length ≤ 2) && decide ((nextS s e).2.1.length ≤ 5))
theorem chk_all : ∀ s : Nat, s < 10 → ∀ e : Nat, e < 16 → chkS s e = true := by decide +kernel
abbrev Rt := Bool × Wt3 × Bool × Sd
abbrev Nt := Rt × Int × (Int × Int) × Int × List Op × List Op × Int
abbrev Ft := Bool × Bool × Bool × Bool
def wfR (r : Rt) : Prop := wfW r.2.1 ∧ wfS r.2.2.2
def askS (r : Rt) : List Op := if r.1 then ioS r.2.2.2 else loS r.2.1
theorem askS_wf (r : Rt) : wfO (askS r) ∧ (askS r).length ≤ 3 ∧ ∀ o ∈ askS r, o.2.length ≤ 4 := by
 unfold askS
 split
 ·exact ioS_wf _
 ·exact loS_wf _
def sentT (t : Int × Int) : Int × Int := if 0 < t.1 then (IntKind.wrap .i64 (t.1 - 1), 3) else (0, 3)
def initT (t : Int × Int) (b : Bool) : Int × Int := if b then (2, t.2) else (10, t.2)
def idS (i : Int) : Int := IntKind.wrap .u8 (i + 1)
def openS (n : Nt) (a : Int) : Ct := if a = 10 then (5, n.2.2.2.1, []) else (conC 1 n.2.2.2.1 n.2.2.2.2.1).1
def sndS (pk : List Ct) (c : Ct) : List Ct := if (layC c).2 = 0 then pk ++ [c] else pk
def stepA (acts : List Int) (came ans : Ct) (x : Nt × Ft × List Ct) (a : Int) : Nt × Ft × List Ct :=
 if a = 1 then (x.1, (true, x.2.1.2), x.2.2) else if a = 2 then (x.1, (x.2.1.1, true, x.2.1.2.2), x.2.2) else if a = 3 then (x.1, (x.2.1.1, x.2.1.2.1, true, x.2.1.2.2.2), x.2.2) else if a = 4 then (x.1, (x.2.1.1, x.2.1.2.1, x.2.1.2.2.1, true), x.2.2)
 else if a = 5 then ((x.1.1, x.1.2.1, initT x.1.2.2.1 (acts.contains 10), x.1.2.2.2), x.2.1, x.2.2)
 else if a = 6 then ((x.1.1, x.1.2.1, (0, 3), x.1.2.2.2), x.2.1, x.2.2)
 else if a = 7 then ((x.1.1, x.1.2.1, sentT x.1.2.2.1, idS x.1.2.2.2.1, askS x.1.1, x.1.2.2.2.2.2), x.2.1, sndS x.2.2 (conC 1 (idS x.1.2.2.2.1) (askS x.1.1)).1)
 else if a = 10 then ((x.1.1, x.1.2.1, sentT x.1.2.2.1, idS x.1.2.2.2.1, x.1.2.2.2.2), x.2.1, sndS x.2.2 (5, idS x.1.2.2.2.1, []))
 else if a = 12 then ((x.1.1, x.1.2.1, x.1.2.2.1, idS x.1.2.2.2.1, x.1.2.2.2.2), x.2.1, sndS x.2.2 (7, idS x.1.2.2.2.1, cutC (layC came).1 1400))
 else if a = 8 ∨ a = 9 then (x.1, x.2.1, sndS x.2.2 ans)
 else if a = 11 then (x.1, x.2.1, sndS x.2.2 (6, came.2.1, []))
 else x
def doneS (n : Nt) (e : Nat) (came ans : Ct) : Nt × List Ct × Ft :=
 if (nextS n.2.1.toNat e).2.2 ≠ 0 then (n, [], (false, false, false, false)) else
  match (nextS n.2.1.toNat e).2.1.foldl (stepA (nextS n.2.1.toNat e).2.1 came ans) ((n.1, (nextS n.2.1.toNat e).1, n.2.2), (false, false, false, false), []) with
  | (m, f, pk) => if timS (nextS n.2.1.toNat e).1.toNat then (m, pk, f) else ((m.1, m.2.1, (m.2.2.1.1, 0), m.2.2.2), pk, f)
section
variable {N : Nat}
theorem clay2 (c : Ct) (hl : c.2.2.length ≤ 20000) (hN : 10000 ≤ N) : ctl_Lay N c = some (layC c) := by
 unfold ctl_Lay layC
 have w1 : IntKind.wrap .i64 ((4 : Int) + (c.2.2.length : Int)) = 4 + (c.2.2.length : Int) := wrap64 (by omega) (by omega)
 have w2 : IntKind.wrap .u64 ((4 : Int) + (c.2.2.length : Int)) = 4 + (c.2.2.length : Int) := wrapU64 (by omega) (by omega)
 by_cases hb : 4000 < c.2.2.length
 ·have c1 : (4000 : Int) < (c.2.2.length : Int) := by omega
  simp [c1, hb]
 ·have c1 : ¬ (4000 : Int) < (c.2.2.length : Int) := by omega
  rw [decide_eq_false c1, w1, w2, oput2 _ (by omega) hN]
  simp only [cond_false, Option.bind_some]
  rw [ojoin _ (by simp) (fun p hp => by
   simp only [List.mem_cons, List.not_mem_nil, or_false] at hp
   rcases hp with rfl | rfl | rfl
   ·simp
   ·simp
   ·omega) hN]
  have e1 : (4 + (c.2.2.length : Int)) / 256 % 256 = (4 + (c.2.2.length : Int)) / 256 := by omega
  simp [hb, e1]
theorem layC_len (c : Ct) : (layC c).1.length ≤ 4 + c.2.2.length := by
 unfold layC
 split <;> simp
 omega
theorem cutC_len (b : List Int) (most : Int) : (cutC b most).length ≤ b.length := by
 unfold cutC
 split
 ·simp
 ·rw [List.length_take]; omega
theorem asks_is (n : Nt) (h : wfR n.1) (hN : 10000 ≤ N) : nego_Nego_asks N n = some (askS n.1) := by
 unfold nego_Nego_asks askS
 cases hi : n.1.1 with
 | true => simp only [cond_true, iopts_is (N := N) n.1.2.2.2 h.2 (by omega), Option.bind_some, if_true]
 | false => simp only [cond_false, lopts_is (N := N) n.1.2.1 h.1 hN, Option.bind_some, Bool.false_eq_true, if_false]
theorem opens_is (n : Nt) (a : Int) (hl : n.2.2.2.2.1.length ≤ 1000) (hN : 10000 ≤ N) : nego_Nego_opens N n a = some (openS n a) := by
 unfold nego_Nego_opens openS
 by_cases h : a = 10
 ·simp only [h, decide_true, cond_true, if_true]
 ·simp only [h, decide_false, cond_false, if_false, ccon_ok (N := N) 1 n.2.2.2.1 n.2.2.2.2.1 hl hN, Option.bind_some]
theorem sent_is (t : Int × Int) : retry_Retry_Sent N t = some (sentT t) := by
 unfold retry_Retry_Sent sentT
 by_cases h : 0 < t.1 <;> simp [h]
theorem init_is (t : Int × Int) (b : Bool) : retry_Retry_Init N t b = some (initT t b) := by
 unfold retry_Retry_Init initT
 cases b <;> rfl
theorem idx_loop (l : List Int) (v : Int) (hl : l.length ≤ 1000000) : ∀ (m M i : Nat), m + i = l.length → m < M →
  ∃ o, gl (fun X c => slices_Index_fsm_Action_fsm_Action_L2 N X c.1.1 c.1.2.1 c.1.2.2.1 c.1.2.2.2.1) M ((l, (v, ((l.length : Int), ((i : Int), ())))), ()) = some o ∧ ((o = .inr ((), ()) ∧ (l.drop i).contains v = false) ∨ ∃ j : Nat, o = .inl (((j : Int), ()), ()) ∧ (l.drop i).contains v = true)
 | 0, M + 1, i, hm, hM => by
  have c1 : ¬ ((i : Int) < (l.length : Int)) := by omega
  refine ⟨.inr ((), ()), ?_, .inl ⟨rfl, ?_⟩⟩
  ·rw [gl_succ]
   simp only [slices_Index_fsm_Action_fsm_Action_L2, c1, decide_false, cond_false]
  ·rw [List.drop_of_length_le (by omega)]; rfl
 | m + 1, M + 1, i, hm, hM => by
  have hlt : i < l.length := by omega
  have c1 : ((i : Int) < (l.length : Int)) := by omega
  have c2 : IntKind.wrap .i64 ((i : Int) + 1) = ((i + 1 : Nat) : Int) := by rw [wrap64 (by omega) (by omega)]; omega
  rw [List.drop_eq_getElem_cons hlt]
  by_cases h : v = l[i]
  ·refine ⟨.inl (((i : Int), ()), ()), ?_, .inr ⟨i, rfl, ?_⟩⟩
   ·rw [gl_succ]
    simp only [slices_Index_fsm_Action_fsm_Action_L2, c1, decide_true, cond_true, getI_lt l i hlt, Option.bind_some, h]
   ·rw [List.contains_cons, beq_iff_eq.2 h, Bool.true_or]
  ·obtain ⟨o, h1, h2⟩ := idx_loop l v hl m M (i + 1) (by omega) (by omega)
   have e : (l[i] :: l.drop (i + 1)).contains v = (l.drop (i + 1)).contains v := by rw [List.contains_cons, beq_eq_false_iff_ne.2 h, Bool.false_or]
   refine ⟨o, ?_, by rw [e]; exact h2⟩
   rw [gl_succ]
   simp only [slices_Index_fsm_Action_fsm_Action_L2, c1, decide_true, decide_false, cond_true, cond_false, getI_lt l i hlt, Option.bind_some, h, c2]
   exact h1
theorem cont_is (l : List Int) (v : Int) (hl : l.length < N) (hN : N ≤ 1000000) : slices_Contains_fsm_Action_fsm_Action N l v = some (l.contains v) := by
 obtain ⟨o, h1, h2⟩ := idx_loop (N := N) l v (by omega) l.length N 0 (by omega) hl
 rw [List.drop_zero] at h2
 unfold slices_Contains_fsm_Action_fsm_Action slices_Index_fsm_Action_fsm_Action
 have e : slices_Index_fsm_Action_fsm_Action_L2_R N ((l, (v, ((l.length : Int), ((0 : Int), ())))), ()) = some o := h1
 rcases h2 with ⟨rfl, h⟩ | ⟨j, rfl, h⟩
 ·rw [e, h]; rfl
 ·rw [e, h]
  simp only [Option.bind_some, Sum.elim_inl, Option.some.injEq, decide_eq_true_eq]
  omega
theorem contb_is (l : List Int) (v : Int) (hl : l.length < N) (hN : N ≤ 1000000) : slices_Contains_byte_byte N l v = some (l.contains v) := cont_is (N := N) l v hl hN
end
section
variable {N : Nat}
theorem conC_len (code id : Int) (l : List Op) (h : wfO l) : (conC code id l).1.2.2.length ≤ 20000 := by
 unfold conC
 cases isC code
 ·simp
 ·by_cases h0 : (layS l).2 = 0
  ·have := (layS_wf l h).2
   simp only [h0, decide_true, cond_true]
   omega
  ·simp [h0]
theorem nrm (pk : List Ct) (c : Ct) (h : pk.length ≤ 100) : roomB (pk.length + ([c] : List Ct).length) 32 = true := roomB_of (by have := big_len; simp; omega) (by simp; omega)
set_option maxHeartbeats 1000000 in
theorem act_is (next : Int) (acts : List Int) (i : Nat) (a : Int) (hi : acts[i]? = some a) (hal : acts.length ≤ 1000) (n z : Nt) (came ans : Ct) (h4 h5 h6 h7 f1 f2 f3 f4 : Bool) (h12 pk : List Ct) (hw : wfR n.1) (hc : came.2.2.length ≤ 5000) (ha : ans.2.2.length ≤ 20000) (hp : pk.length ≤ 100) (hN : 10000 ≤ N) (hN2 : N ≤ 1000000) (X) :
  nego_Nego_done_L7 N X next acts acts (acts.length : Int) (i : Int) n came ans z h4 h5 h6 h7 f1 f2 f3 f4 h12 pk =
   X ((next, (acts, (acts, ((acts.length : Int), (((i + 1 : Nat) : Int), ()))))), ((stepA acts came ans (n, (f1, f2, f3, f4), pk) a).1, (came, (ans, (z, (h4, (h5, (h6, (h7, ((stepA acts came ans (n, (f1, f2, f3, f4), pk) a).2.1.1, ((stepA acts came ans (n, (f1, f2, f3, f4), pk) a).2.1.2.1, ((stepA acts came ans (n, (f1, f2, f3, f4), pk) a).2.1.2.2.1, ((stepA acts came ans (n, (f1, f2, f3, f4), pk) a).2.1.2.2.2, (h12, ((stepA acts came ans (n, (f1, f2, f3, f4), pk) a).2.2, ()))))))))))))))) := by
 have hlt : i < acts.length := (List.getElem?_eq_some_iff.1 hi).1
 have c1 : decide ((i : Int) < (acts.length : Int)) = true := decide_eq_true (by omega)
 have c2 : IntKind.wrap .i64 ((i : Int) + 1) = ((i + 1 : Nat) : Int) := by rw [wrap64 (by omega) (by omega)]; omega
 have g : getI acts (i : Int) = some a := by rw [getI_nat]; exact hi
 have hask := asks_is (N := N) n hw hN
 have hwf := askS_wf n.1
 have hcont := cont_is (N := N) acts 10 (by omega) hN2
 have hsent := sent_is (N := N) n.2.2.1
 have lay := fun (c : Ct) (h : c.2.2.length ≤ 20000) => clay2 (N := N) c h hN
 have rm := fun (c : Ct) => nrm pk c hp
 by_cases e1 : a = 1
 ·have t1 : decide (a = (1 : Int)) = true := decide_eq_true e1
  have d2 : decide (a = (2 : Int)) = false := decide_eq_false (by omega)
  have d3 : decide (a = (3 : Int)) = false := decide_eq_false (by omega)
  have d4 : decide (a = (4 : Int)) = false := decide_eq_false (by omega)
  have d5 : decide (a = (5 : Int)) = false := decide_eq_false (by omega)
  have d6 : decide (a = (6 : Int)) = false := decide_eq_false (by omega)
  have d7 : decide (a = (7 : Int)) = false := decide_eq_false (by omega)
  have d10 : decide (a = (10 : Int)) = false := decide_eq_false (by omega)
  have d12 : decide (a = (12 : Int)) = false := decide_eq_false (by omega)
  have d8 : decide (a = (8 : Int)) = false := decide_eq_false (by omega)
  have d9 : decide (a = (9 : Int)) = false := decide_eq_false (by omega)
  have d11 : decide (a = (11 : Int)) = false := decide_eq_false (by omega)
  have hs : stepA acts came ans (n, (f1, f2, f3, f4), pk) a = (n, (true, f2, f3, f4), pk) := by unfold stepA; rw [if_pos e1]
  rw [hs]
  simp only [nego_Nego_done_L7, c1, c2, cond_true, cond_false, g, Option.bind_some, t1, d2, d3, d4, d5, d6, d7, d10, d12, d8, d9, d11]
 have n1 := e1
 by_cases e2 : a = 2
 ·have t2 : decide (a = (2 : Int)) = true := decide_eq_true e2
  have d1 : decide (a = (1 : Int)) = false := decide_eq_false n1
  have d3 : decide (a = (3 : Int)) = false := decide_eq_false (by omega)
  have d4 : decide (a = (4 : Int)) = false := decide_eq_false (by omega)
  have d5 : decide (a = (5 : Int)) = false := decide_eq_false (by omega)
  have d6 : decide (a = (6 : Int)) = false := decide_eq_false (by omega)
  have d7 : decide (a = (7 : Int)) = false := decide_eq_false (by omega)
  have d10 : decide (a = (10 : Int)) = false := decide_eq_false (by omega)
  have d12 : decide (a = (12 : Int)) = false := decide_eq_false (by omega)
  have d8 : decide (a = (8 : Int)) = false := decide_eq_false (by omega)
  have d9 : decide (a = (9 : Int)) = false := decide_eq_false (by omega)
  have d11 : decide (a = (11 : Int)) = false := decide_eq_false (by omega)
  have hs : stepA acts came ans (n, (f1, f2, f3, f4), pk) a = (n, (f1, true, f3, f4), pk) := by unfold stepA; rw [if_neg (show ¬ a = 1 by omega), if_pos e2]
  rw [hs]
  simp only [nego_Nego_done_L7, c1, c2, cond_true, cond_false, g, Option.bind_some, t2, d1, d3, d4, d5, d6, d7, d10, d12, d8, d9, d11]
 have n2 := e2
 by_cases e3 : a = 3
 ·have t3 : decide (a = (3 : Int)) = true := decide_eq_true e3
  have d1 : decide (a = (1 : Int)) = false := decide_eq_false n1
  have d2 : decide (a = (2 : Int)) = false := decide_eq_false n2
  have d4 : decide (a = (4 : Int)) = false := decide_eq_false (by omega)
  have d5 : decide (a = (5 : Int)) = false := decide_eq_false (by omega)
  have d6 : decide (a = (6 : Int)) = false := decide_eq_false (by omega)
  have d7 : decide (a = (7 : Int)) = false := decide_eq_false (by omega)
  have d10 : decide (a = (10 : Int)) = false := decide_eq_false (by omega)
  have d12 : decide (a = (12 : Int)) = false := decide_eq_false (by omega)
  have d8 : decide (a = (8 : Int)) = false := decide_eq_false (by omega)
  have d9 : decide (a = (9 : Int)) = false := decide_eq_false (by omega)
  have d11 : decide (a = (11 : Int)) = false := decide_eq_false (by omega)
  have hs : stepA acts came ans (n, (f1, f2, f3, f4), pk) a = (n, (f1, f2, true, f4), pk) := by unfold stepA; rw [if_neg (show ¬ a = 1 by omega), if_neg (show ¬ a = 2 by omega), if_pos e3]
  rw [hs]
  simp only [nego_Nego_done_L7, c1, c2, cond_true, cond_false, g, Option.bind_some, t3, d1, d2, d4, d5, d6, d7, d10, d12, d8, d9, d11]
 have n3 := e3
 by_cases e4 : a = 4
 ·have t4 : decide (a = (4 : Int)) = true := decide_eq_true e4
  have d1 : decide (a = (1 : Int)) = false := decide_eq_false n1
  have d2 : decide (a = (2 : Int)) = false := decide_eq_false n2
  have d3 : decide (a = (3 : Int)) = false := decide_eq_false n3
  have d5 : decide (a = (5 : Int)) = false := decide_eq_false (by omega)
  have d6 : decide (a = (6 : Int)) = false := decide_eq_false (by omega)
  have d7 : decide (a = (7 : Int)) = false := decide_eq_false (by omega)
  have d10 : decide (a = (10 : Int)) = false := decide_eq_false (by omega)
  have d12 : decide (a = (12 : Int)) = false := decide_eq_false (by omega)
  have d8 : decide (a = (8 : Int)) = false := decide_eq_false (by omega)
  have d9 : decide (a = (9 : Int)) = false := decide_eq_false (by omega)
  have d11 : decide (a = (11 : Int)) = false := decide_eq_false (by omega)
  have hs : stepA acts came ans (n, (f1, f2, f3, f4), pk) a = (n, (f1, f2, f3, true), pk) := by unfold stepA; rw [if_neg (show ¬ a = 1 by omega), if_neg (show ¬ a = 2 by omega), if_neg (show ¬ a = 3 by omega), if_pos e4]
  rw [hs]
  simp only [nego_Nego_done_L7, c1, c2, cond_true, cond_false, g, Option.bind_some, t4, d1, d2, d3, d5, d6, d7, d10, d12, d8, d9, d11]
 have n4 := e4
 by_cases e5 : a = 5
 ·have t5 : decide (a = (5 : Int)) = true := decide_eq_true e5
  have d1 : decide (a = (1 : Int)) = false := decide_eq_false n1
  have d2 : decide (a = (2 : Int)) = false := decide_eq_false n2
  have d3 : decide (a = (3 : Int)) = false := decide_eq_false n3
  have d4 : decide (a = (4 : Int)) = false := decide_eq_false n4
  have d6 : decide (a = (6 : Int)) = false := decide_eq_false (by omega)
  have d7 : decide (a = (7 : Int)) = false := decide_eq_false (by omega)
  have d10 : decide (a = (10 : Int)) = false := decide_eq_false (by omega)
  have d12 : decide (a = (12 : Int)) = false := decide_eq_false (by omega)
  have d8 : decide (a = (8 : Int)) = false := decide_eq_false (by omega)
  have d9 : decide (a = (9 : Int)) = false := decide_eq_false (by omega)
  have d11 : decide (a = (11 : Int)) = false := decide_eq_false (by omega)
  have hs : stepA acts came ans (n, (f1, f2, f3, f4), pk) a = ((n.1, n.2.1, initT n.2.2.1 (acts.contains 10), n.2.2.2), (f1, f2, f3, f4), pk) := by unfold stepA; rw [if_neg (show ¬ a = 1 by omega), if_neg (show ¬ a = 2 by omega), if_neg (show ¬ a = 3 by omega), if_neg (show ¬ a = 4 by omega), if_pos e5]
  rw [hs]
  simp only [nego_Nego_done_L7, c1, c2, cond_true, cond_false, g, Option.bind_some, t5, d1, d2, d3, d4, d6, d7, d10, d12, d8, d9, d11, hcont, init_is]
 have n5 := e5
 by_cases e6 : a = 6
 ·have t6 : decide (a = (6 : Int)) = true := decide_eq_true e6
  have d1 : decide (a = (1 : Int)) = false := decide_eq_false n1
  have d2 : decide (a = (2 : Int)) = false := decide_eq_false n2
  have d3 : decide (a = (3 : Int)) = false := decide_eq_false n3
  have d4 : decide (a = (4 : Int)) = false := decide_eq_false n4
  have d5 : decide (a = (5 : Int)) = false := decide_eq_false n5
  have d7 : decide (a = (7 : Int)) = false := decide_eq_false (by omega)
  have d10 : decide (a = (10 : Int)) = false := decide_eq_false (by omega)
  have d12 : decide (a = (12 : Int)) = false := decide_eq_false (by omega)
  have d8 : decide (a = (8 : Int)) = false := decide_eq_false (by omega)
  have d9 : decide (a = (9 : Int)) = false := decide_eq_false (by omega)
  have d11 : decide (a = (11 : Int)) = false := decide_eq_false (by omega)
  have hs : stepA acts came ans (n, (f1, f2, f3, f4), pk) a = ((n.1, n.2.1, (0, 3), n.2.2.2), (f1, f2, f3, f4), pk) := by unfold stepA; rw [if_neg (show ¬ a = 1 by omega), if_neg (show ¬ a = 2 by omega), if_neg (show ¬ a = 3 by omega), if_neg (show ¬ a = 4 by omega), if_neg (show ¬ a = 5 by omega), if_pos e6]
  rw [hs]
  simp only [nego_Nego_done_L7, c1, c2, cond_true, cond_false, g, Option.bind_some, t6, d1, d2, d3, d4, d5, d7, d10, d12, d8, d9, d11]
 have n6 := e6
 by_cases e7 : a = 7
 ·have t7 : decide (a = (7 : Int)) = true := decide_eq_true e7
  have d1 : decide (a = (1 : Int)) = false := decide_eq_false n1
  have d2 : decide (a = (2 : Int)) = false := decide_eq_false n2
  have d3 : decide (a = (3 : Int)) = false := decide_eq_false n3
  have d4 : decide (a = (4 : Int)) = false := decide_eq_false n4
  have d5 : decide (a = (5 : Int)) = false := decide_eq_false n5
  have d6 : decide (a = (6 : Int)) = false := decide_eq_false n6
  have d10 : decide (a = (10 : Int)) = false := decide_eq_false (by omega)
  have d12 : decide (a = (12 : Int)) = false := decide_eq_false (by omega)
  have d8 : decide (a = (8 : Int)) = false := decide_eq_false (by omega)
  have d9 : decide (a = (9 : Int)) = false := decide_eq_false (by omega)
  have d11 : decide (a = (11 : Int)) = false := decide_eq_false (by omega)
  have hs : stepA acts came ans (n, (f1, f2, f3, f4), pk) a = ((n.1, n.2.1, sentT n.2.2.1, idS n.2.2.2.1, askS n.1, n.2.2.2.2.2), (f1, f2, f3, f4), sndS pk (conC 1 (idS n.2.2.2.1) (askS n.1)).1) := by unfold stepA; rw [if_neg (show ¬ a = 1 by omega), if_neg (show ¬ a = 2 by omega), if_neg (show ¬ a = 3 by omega), if_neg (show ¬ a = 4 by omega), if_neg (show ¬ a = 5 by omega), if_neg (show ¬ a = 6 by omega), if_pos e7]
  rw [hs]
  have ho : nego_Nego_opens N (n.1, (n.2.1, (sentT n.2.2.1, (idS n.2.2.2.1, (askS n.1, n.2.2.2.2.2))))) a = some (conC 1 (idS n.2.2.2.1) (askS n.1)).1 := by
   rw [opens_is (N := N) _ a (by show (askS n.1).length ≤ 1000; omega) hN]
   unfold openS
   rw [if_neg (show ¬ a = 10 by omega)]
  have hl := lay (conC 1 (idS n.2.2.2.1) (askS n.1)).1 (conC_len 1 _ _ hwf.1)
  have hask' : nego_Nego_asks N ((n.1.1, ((n.1.2.1.1, (n.1.2.1.2.1, n.1.2.1.2.2)), (n.1.2.2.1, (n.1.2.2.2.1, (n.1.2.2.2.2.1, (n.1.2.2.2.2.2.1, (n.1.2.2.2.2.2.2.1, n.1.2.2.2.2.2.2.2))))))), (n.2.1, ((n.2.2.1.1, n.2.2.1.2), (n.2.2.2.1, (n.2.2.2.2.1, (n.2.2.2.2.2.1, n.2.2.2.2.2.2)))))) = some (askS n.1) := hask
  have hsent' : retry_Retry_Sent N (n.2.2.1.1, n.2.2.1.2) = some (sentT n.2.2.1) := hsent
  have ho' : nego_Nego_opens N ((n.1.1, ((n.1.2.1.1, (n.1.2.1.2.1, n.1.2.1.2.2)), (n.1.2.2.1, (n.1.2.2.2.1, (n.1.2.2.2.2.1, (n.1.2.2.2.2.2.1, (n.1.2.2.2.2.2.2.1, n.1.2.2.2.2.2.2.2))))))), (n.2.1, (((sentT n.2.2.1).1, (sentT n.2.2.1).2), ((IntKind.wrap .u8 (n.2.2.2.1 + 1)), (askS n.1, (n.2.2.2.2.2.1, n.2.2.2.2.2.2)))))) a = some (conC 1 (idS n.2.2.2.1) (askS n.1)).1 := ho
  simp only [nego_Nego_done_L7, c1, c2, cond_true, cond_false, g, Option.bind_some, t7, d1, d2, d3, d4, d5, d6, d10, d12, d8, d9, d11, hask', hsent', ho']
  generalize (conC 1 (idS n.2.2.2.1) (askS n.1)).1 = c at *
  have hl' : ctl_Lay N (c.1, (c.2.1, c.2.2)) = some (layC c) := hl
  unfold sndS
  by_cases hz : (layC c).2 = 0
  ·have z0 : decide ((layC c).2 = 0) = true := decide_eq_true hz
   rw [if_pos hz]
   simp only [hl', Option.bind_some, z0, cond_true, rm]
   (try rfl)
  ·have z0 : decide ((layC c).2 = 0) = false := decide_eq_false hz
   rw [if_neg hz]
   simp only [hl', Option.bind_some, z0, cond_false]
   (try rfl)
 have n7 := e7
 by_cases e10 : a = 10
 ·have t10 : decide (a = (10 : Int)) = true := decide_eq_true e10
  have d1 : decide (a = (1 : Int)) = false := decide_eq_false n1
  have d2 : decide (a = (2 : Int)) = false := decide_eq_false n2
  have d3 : decide (a = (3 : Int)) = false := decide_eq_false n3
  have d4 : decide (a = (4 : Int)) = false := decide_eq_false n4
  have d5 : decide (a = (5 : Int)) = false := decide_eq_false n5
  have d6 : decide (a = (6 : Int)) = false := decide_eq_false n6
  have d7 : decide (a = (7 : Int)) = false := decide_eq_false n7
  have d12 : decide (a = (12 : Int)) = false := decide_eq_false (by omega)
  have d8 : decide (a = (8 : Int)) = false := decide_eq_false (by omega)
  have d9 : decide (a = (9 : Int)) = false := decide_eq_false (by omega)
  have d11 : decide (a = (11 : Int)) = false := decide_eq_false (by omega)
  have hs : stepA acts came ans (n, (f1, f2, f3, f4), pk) a = ((n.1, n.2.1, sentT n.2.2.1, idS n.2.2.2.1, n.2.2.2.2), (f1, f2, f3, f4), sndS pk (5, idS n.2.2.2.1, [])) := by unfold stepA; rw [if_neg (show ¬ a = 1 by omega), if_neg (show ¬ a = 2 by omega), if_neg (show ¬ a = 3 by omega), if_neg (show ¬ a = 4 by omega), if_neg (show ¬ a = 5 by omega), if_neg (show ¬ a = 6 by omega), if_neg (show ¬ a = 7 by omega), if_pos e10]
  rw [hs]
  have hsent' : retry_Retry_Sent N (n.2.2.1.1, n.2.2.1.2) = some (sentT n.2.2.1) := hsent
  have ho' : nego_Nego_opens N ((n.1.1, ((n.1.2.1.1, (n.1.2.1.2.1, n.1.2.1.2.2)), (n.1.2.2.1, (n.1.2.2.2.1, (n.1.2.2.2.2.1, (n.1.2.2.2.2.2.1, (n.1.2.2.2.2.2.2.1, n.1.2.2.2.2.2.2.2))))))), (n.2.1, (((sentT n.2.2.1).1, (sentT n.2.2.1).2), ((IntKind.wrap .u8 (n.2.2.2.1 + 1)), (n.2.2.2.2.1, (n.2.2.2.2.2.1, n.2.2.2.2.2.2)))))) a = some (5, idS n.2.2.2.1, []) := by
   unfold nego_Nego_opens
   rw [t10]; rfl
  have hl := lay (5, idS n.2.2.2.1, []) (by simp)
  simp only [nego_Nego_done_L7, c1, c2, cond_true, cond_false, g, Option.bind_some, t10, d1, d2, d3, d4, d5, d6, d7, d12, d8, d9, d11, hsent', ho']
  generalize hcc : ((5, idS n.2.2.2.1, []) : Ct) = c at *
  have hl' : ctl_Lay N (c.1, (c.2.1, c.2.2)) = some (layC c) := hl
  unfold sndS
  by_cases hz : (layC c).2 = 0
  ·have z0 : decide ((layC c).2 = 0) = true := decide_eq_true hz
   rw [if_pos hz]
   simp only [hl', Option.bind_some, z0, cond_true, rm]
   (try rfl)
  ·have z0 : decide ((layC c).2 = 0) = false := decide_eq_false hz
   rw [if_neg hz]
   simp only [hl', Option.bind_some, z0, cond_false]
   (try rfl)
 have n10 := e10
 by_cases e12 : a = 12
 ·have t12 : decide (a = (12 : Int)) = true := decide_eq_true e12
  have d1 : decide (a = (1 : Int)) = false := decide_eq_false n1
  have d2 : decide (a = (2 : Int)) = false := decide_eq_false n2
  have d3 : decide (a = (3 : Int)) = false := decide_eq_false n3
  have d4 : decide (a = (4 : Int)) = false := decide_eq_false n4
  have d5 : decide (a = (5 : Int)) = false := decide_eq_false n5
  have d6 : decide (a = (6 : Int)) = false := decide_eq_false n6
  have d7 : decide (a = (7 : Int)) = false := decide_eq_false n7
  have d10 : decide (a = (10 : Int)) = false := decide_eq_false n10
  have d8 : decide (a = (8 : Int)) = false := decide_eq_false (by omega)
  have d9 : decide (a = (9 : Int)) = false := decide_eq_false (by omega)
  have d11 : decide (a = (11 : Int)) = false := decide_eq_false (by omega)
  have hs : stepA acts came ans (n, (f1, f2, f3, f4), pk) a = ((n.1, n.2.1, n.2.2.1, idS n.2.2.2.1, n.2.2.2.2), (f1, f2, f3, f4), sndS pk (7, idS n.2.2.2.1, cutC (layC came).1 1400)) := by unfold stepA; rw [if_neg (show ¬ a = 1 by omega), if_neg (show ¬ a = 2 by omega), if_neg (show ¬ a = 3 by omega), if_neg (show ¬ a = 4 by omega), if_neg (show ¬ a = 5 by omega), if_neg (show ¬ a = 6 by omega), if_neg (show ¬ a = 7 by omega), if_neg (show ¬ a = 10 by omega), if_pos e12]
  rw [hs]
  have hrej := crej_ok (N := N) (idS n.2.2.2.1) came 1400 hc (by omega) hN
  have hrej' : ctl_Reject N (IntKind.wrap .u8 (n.2.2.2.1 + 1)) (came.1, (came.2.1, came.2.2)) 1400 = some (7, idS n.2.2.2.1, cutC (layC came).1 1400) := hrej
  have hl := lay (7, idS n.2.2.2.1, cutC (layC came).1 1400) (by have h1 := cutC_len (layC came).1 1400; have h2 := layC_len came; show (cutC (layC came).1 1400).length ≤ 20000; omega)
  simp only [nego_Nego_done_L7, c1, c2, cond_true, cond_false, g, Option.bind_some, t12, d1, d2, d3, d4, d5, d6, d7, d10, d8, d9, d11, hrej']
  generalize hcc : ((7, idS n.2.2.2.1, cutC (layC came).1 1400) : Ct) = c at *
  have hl' : ctl_Lay N (c.1, (c.2.1, c.2.2)) = some (layC c) := hl
  unfold sndS
  by_cases hz : (layC c).2 = 0
  ·have z0 : decide ((layC c).2 = 0) = true := decide_eq_true hz
   rw [if_pos hz]
   simp only [hl', Option.bind_some, z0, cond_true, rm]
   (try rfl)
  ·have z0 : decide ((layC c).2 = 0) = false := decide_eq_false hz
   rw [if_neg hz]
   simp only [hl', Option.bind_some, z0, cond_false]
   (try rfl)
 have n12 := e12
 by_cases e8 : a = 8
 ·have t8 : decide (a = (8 : Int)) = true := decide_eq_true e8
  have d1 : decide (a = (1 : Int)) = false := decide_eq_false n1
  have d2 : decide (a = (2 : Int)) = false := decide_eq_false n2
  have d3 : decide (a = (3 : Int)) = false := decide_eq_false n3
  have d4 : decide (a = (4 : Int)) = false := decide_eq_false n4
  have d5 : decide (a = (5 : Int)) = false := decide_eq_false n5
  have d6 : decide (a = (6 : Int)) = false := decide_eq_false n6
  have d7 : decide (a = (7 : Int)) = false := decide_eq_false n7
  have d10 : decide (a = (10 : Int)) = false := decide_eq_false n10
  have d12 : decide (a = (12 : Int)) = false := decide_eq_false n12
  have d9 : decide (a = (9 : Int)) = false := decide_eq_false (by omega)
  have d11 : decide (a = (11 : Int)) = false := decide_eq_false (by omega)
  have hs : stepA acts came ans (n, (f1, f2, f3, f4), pk) a = (n, (f1, f2, f3, f4), sndS pk ans) := by unfold stepA; rw [if_neg (show ¬ a = 1 by omega), if_neg (show ¬ a = 2 by omega), if_neg (show ¬ a = 3 by omega), if_neg (show ¬ a = 4 by omega), if_neg (show ¬ a = 5 by omega), if_neg (show ¬ a = 6 by omega), if_neg (show ¬ a = 7 by omega), if_neg (show ¬ a = 10 by omega), if_neg (show ¬ a = 12 by omega), if_pos (show a = 8 ∨ a = 9 by omega)]
  rw [hs]
  have hl := lay ans ha
  simp only [nego_Nego_done_L7, c1, c2, cond_true, cond_false, g, Option.bind_some, t8, d1, d2, d3, d4, d5, d6, d7, d10, d12, d9, d11]
  generalize ans = c at *
  have hl' : ctl_Lay N (c.1, (c.2.1, c.2.2)) = some (layC c) := hl
  unfold sndS
  by_cases hz : (layC c).2 = 0
  ·have z0 : decide ((layC c).2 = 0) = true := decide_eq_true hz
   rw [if_pos hz]
   simp only [hl', Option.bind_some, z0, cond_true, rm]
   (try rfl)
  ·have z0 : decide ((layC c).2 = 0) = false := decide_eq_false hz
   rw [if_neg hz]
   simp only [hl', Option.bind_some, z0, cond_false]
   (try rfl)
 have n8 := e8
 by_cases e9 : a = 9
 ·have t9 : decide (a = (9 : Int)) = true := decide_eq_true e9
  have d1 : decide (a = (1 : Int)) = false := decide_eq_false n1
  have d2 : decide (a = (2 : Int)) = false := decide_eq_false n2
  have d3 : decide (a = (3 : Int)) = false := decide_eq_false n3
  have d4 : decide (a = (4 : Int)) = false := decide_eq_false n4
  have d5 : decide (a = (5 : Int)) = false := decide_eq_false n5
  have d6 : decide (a = (6 : Int)) = false := decide_eq_false n6
  have d7 : decide (a = (7 : Int)) = false := decide_eq_false n7
  have d10 : decide (a = (10 : Int)) = false := decide_eq_false n10
  have d12 : decide (a = (12 : Int)) = false := decide_eq_false n12
  have d8 : decide (a = (8 : Int)) = false := decide_eq_false n8
  have d11 : decide (a = (11 : Int)) = false := decide_eq_false (by omega)
  have hs : stepA acts came ans (n, (f1, f2, f3, f4), pk) a = (n, (f1, f2, f3, f4), sndS pk ans) := by unfold stepA; rw [if_neg (show ¬ a = 1 by omega), if_neg (show ¬ a = 2 by omega), if_neg (show ¬ a = 3 by omega), if_neg (show ¬ a = 4 by omega), if_neg (show ¬ a = 5 by omega), if_neg (show ¬ a = 6 by omega), if_neg (show ¬ a = 7 by omega), if_neg (show ¬ a = 10 by omega), if_neg (show ¬ a = 12 by omega), if_pos (show a = 8 ∨ a = 9 by omega)]
  rw [hs]
  have hl := lay ans ha
  simp only [nego_Nego_done_L7, c1, c2, cond_true, cond_false, g, Option.bind_some, t9, d1, d2, d3, d4, d5, d6, d7, d10, d12, d8, d11]
  generalize ans = c at *
  have hl' : ctl_Lay N (c.1, (c.2.1, c.2.2)) = some (layC c) := hl
  unfold sndS
  by_cases hz : (layC c).2 = 0
  ·have z0 : decide ((layC c).2 = 0) = true := decide_eq_true hz
   rw [if_pos hz]
   simp only [hl', Option.bind_some, z0, cond_true, rm]
   (try rfl)
  ·have z0 : decide ((layC c).2 = 0) = false := decide_eq_false hz
   rw [if_neg hz]
   simp only [hl', Option.bind_some, z0, cond_false]
   (try rfl)
 have n9 := e9
 by_cases e11 : a = 11
 ·have t11 : decide (a = (11 : Int)) = true := decide_eq_true e11
  have d1 : decide (a = (1 : Int)) = false := decide_eq_false n1
  have d2 : decide (a = (2 : Int)) = false := decide_eq_false n2
  have d3 : decide (a = (3 : Int)) = false := decide_eq_false n3
  have d4 : decide (a = (4 : Int)) = false := decide_eq_false n4
  have d5 : decide (a = (5 : Int)) = false := decide_eq_false n5
  have d6 : decide (a = (6 : Int)) = false := decide_eq_false n6
  have d7 : decide (a = (7 : Int)) = false := decide_eq_false n7
  have d10 : decide (a = (10 : Int)) = false := decide_eq_false n10
  have d12 : decide (a = (12 : Int)) = false := decide_eq_false n12
  have d8 : decide (a = (8 : Int)) = false := decide_eq_false n8
  have d9 : decide (a = (9 : Int)) = false := decide_eq_false n9
  have hs : stepA acts came ans (n, (f1, f2, f3, f4), pk) a = (n, (f1, f2, f3, f4), sndS pk (6, came.2.1, [])) := by unfold stepA; rw [if_neg (show ¬ a = 1 by omega), if_neg (show ¬ a = 2 by omega), if_neg (show ¬ a = 3 by omega), if_neg (show ¬ a = 4 by omega), if_neg (show ¬ a = 5 by omega), if_neg (show ¬ a = 6 by omega), if_neg (show ¬ a = 7 by omega), if_neg (show ¬ a = 10 by omega), if_neg (show ¬ a = 12 by omega), if_neg (show ¬ (a = 8 ∨ a = 9) by omega), if_pos e11]
  rw [hs]
  have hl := lay (6, came.2.1, []) (by simp)
  simp only [nego_Nego_done_L7, c1, c2, cond_true, cond_false, g, Option.bind_some, t11, d1, d2, d3, d4, d5, d6, d7, d10, d12, d8, d9]
  generalize hcc : ((6, came.2.1, []) : Ct) = c at *
  have hl' : ctl_Lay N (c.1, (c.2.1, c.2.2)) = some (layC c) := hl
  unfold sndS
  by_cases hz : (layC c).2 = 0
  ·have z0 : decide ((layC c).2 = 0) = true := decide_eq_true hz
   rw [if_pos hz]
   simp only [hl', Option.bind_some, z0, cond_true, rm]
   (try rfl)
  ·have z0 : decide ((layC c).2 = 0) = false := decide_eq_false hz
   rw [if_neg hz]
   simp only [hl', Option.bind_some, z0, cond_false]
   (try rfl)
 have n11 := e11
 have hs : stepA acts came ans (n, (f1, f2, f3, f4), pk) a = (n, (f1, f2, f3, f4), pk) := by
  unfold stepA
  rw [if_neg n1, if_neg n2, if_neg n3, if_neg n4, if_neg n5, if_neg n6, if_neg n7, if_neg n10, if_neg n12, if_neg (show ¬ (a = 8 ∨ a = 9) by omega), if_neg n11]
 rw [hs]
 have d1 : decide (a = (1 : Int)) = false := decide_eq_false n1
 have d2 : decide (a = (2 : Int)) = false := decide_eq_false n2
 have d3 : decide (a = (3 : Int)) = false := decide_eq_false n3
 have d4 : decide (a = (4 : Int)) = false := decide_eq_false n4
 have d5 : decide (a = (5 : Int)) = false := decide_eq_false n5
 have d6 : decide (a = (6 : Int)) = false := decide_eq_false n6
 have d7 : decide (a = (7 : Int)) = false := decide_eq_false n7
 have d10 : decide (a = (10 : Int)) = false := decide_eq_false n10
 have d12 : decide (a = (12 : Int)) = false := decide_eq_false n12
 have d8 : decide (a = (8 : Int)) = false := decide_eq_false n8
 have d9 : decide (a = (9 : Int)) = false := decide_eq_false n9
 have d11 : decide (a = (11 : Int)) = false := decide_eq_false n11
 simp only [nego_Nego_done_L7, c1, c2, cond_true, cond_false, g, Option.bind_some, d1, d2, d3, d4, d5, d6, d7, d10, d12, d8, d9, d11]
end
theorem sndS_spec (pk : List Ct) (c : Ct) : (sndS pk c).length ≤ pk.length + 1 ∧ ∀ d ∈ sndS pk c, d ∈ pk ∨ (layC d).2 = 0 := by
 unfold sndS
 split
 ·rename_i h
  refine ⟨by simp, fun d hd => ?_⟩
  rcases List.mem_append.1 hd with h1 | h1
  ·exact .inl h1
  ·rw [List.mem_singleton] at h1; subst h1; exact .inr h
 ·exact ⟨by omega, fun d hd => .inl hd⟩
theorem stepA_spec (acts : List Int) (came ans : Ct) (x : Nt × Ft × List Ct) (a : Int) :
  (stepA acts came ans x a).1.1 = x.1.1 ∧ (stepA acts came ans x a).1.2.1 = x.1.2.1 ∧ (stepA acts came ans x a).2.1.1 = (x.2.1.1 || (1 == a)) ∧ (stepA acts came ans x a).2.1.2.1 = (x.2.1.2.1 || (2 == a)) ∧
  (stepA acts came ans x a).2.2.length ≤ x.2.2.length + (if 7 ≤ a ∧ a ≤ 12 then 1 else 0) ∧ (∀ c ∈ (stepA acts came ans x a).2.2, c ∈ x.2.2 ∨ (layC c).2 = 0) ∧ ((stepA acts came ans x a).1.2.2.2.2.1 = x.1.2.2.2.2.1 ∨ (stepA acts came ans x a).1.2.2.2.2.1 = askS x.1.1) := by
 have e : ∀ k : Int, k ≠ a → (k == a) = false := fun k h => beq_eq_false_iff_ne.2 h
 by_cases h1 : a = 1
 ·subst h1; exact ⟨rfl, rfl, by simp [stepA], by simp [stepA], by simp [stepA], fun c hc => .inl hc, .inl rfl⟩
 have g1 := e 1 (by omega)
 by_cases h2 : a = 2
 ·subst h2; exact ⟨rfl, rfl, by simp [stepA], by simp [stepA], by simp [stepA], fun c hc => .inl hc, .inl rfl⟩
 have g2 := e 2 (by omega)
 rw [g1, g2, Bool.or_false, Bool.or_false]
 unfold stepA
 rw [if_neg h1, if_neg h2]
 by_cases h3 : a = 3
 ·rw [if_pos h3]; exact ⟨rfl, rfl, rfl, rfl, by simp, fun c hc => .inl hc, .inl rfl⟩
 rw [if_neg h3]
 by_cases h4 : a = 4
 ·rw [if_pos h4]; exact ⟨rfl, rfl, rfl, rfl, by simp, fun c hc => .inl hc, .inl rfl⟩
 rw [if_neg h4]
 by_cases h5 : a = 5
 ·rw [if_pos h5]; exact ⟨rfl, rfl, rfl, rfl, by simp, fun c hc => .inl hc, .inl rfl⟩
 rw [if_neg h5]
 by_cases h6 : a = 6
 ·rw [if_pos h6]; exact ⟨rfl, rfl, rfl, rfl, by simp, fun c hc => .inl hc, .inl rfl⟩
 rw [if_neg h6]
 by_cases h7 : a = 7
 ·rw [if_pos h7, if_pos (show 7 ≤ a ∧ a ≤ 12 by omega)]
  have hz := sndS_spec x.2.2 (conC 1 (idS x.1.2.2.2.1) (askS x.1.1)).1
  exact ⟨rfl, rfl, rfl, rfl, hz.1, hz.2, .inr rfl⟩
 rw [if_neg h7]
 by_cases h10 : a = 10
 ·rw [if_pos h10, if_pos (show 7 ≤ a ∧ a ≤ 12 by omega)]
  have hz := sndS_spec x.2.2 (5, idS x.1.2.2.2.1, [])
  exact ⟨rfl, rfl, rfl, rfl, hz.1, hz.2, .inl rfl⟩
 rw [if_neg h10]
 by_cases h12 : a = 12
 ·rw [if_pos h12, if_pos (show 7 ≤ a ∧ a ≤ 12 by omega)]
  have hz := sndS_spec x.2.2 (7, idS x.1.2.2.2.1, cutC (layC came).1 1400)
  exact ⟨rfl, rfl, rfl, rfl, hz.1, hz.2, .inl rfl⟩
 rw [if_neg h12]
 by_cases h89 : a = 8 ∨ a = 9
 ·rw [if_pos h89, if_pos (show 7 ≤ a ∧ a ≤ 12 by omega)]
  have hz := sndS_spec x.2.2 ans
  exact ⟨rfl, rfl, rfl, rfl, hz.1, hz.2, .inl rfl⟩
 rw [if_neg h89]
 by_cases h11 : a = 11
 ·rw [if_pos h11, if_pos (show 7 ≤ a ∧ a ≤ 12 by omega)]
  have hz := sndS_spec x.2.2 (6, came.2.1, [])
  exact ⟨rfl, rfl, rfl, rfl, hz.1, hz.2, .inl rfl⟩
 rw [if_neg h11]
 exact ⟨rfl, rfl, rfl, rfl, by simp, fun c hc => .inl hc, .inl rfl⟩
theorem fold_spec (acts : List Int) (came ans : Ct) : ∀ (l : List Int) (x : Nt × Ft × List Ct),
  (l.foldl (stepA acts came ans) x).1.1 = x.1.1 ∧ (l.foldl (stepA acts came ans) x).1.2.1 = x.1.2.1 ∧ (l.foldl (stepA acts came ans) x).2.1.1 = (x.2.1.1 || l.contains 1) ∧ (l.foldl (stepA acts came ans) x).2.1.2.1 = (x.2.1.2.1 || l.contains 2) ∧
  (l.foldl (stepA acts came ans) x).2.2.length ≤ x.2.2.length + (l.filter fun a => decide (7 ≤ a ∧ a ≤ 12)).length ∧ (∀ c ∈ (l.foldl (stepA acts came ans) x).2.2, c ∈ x.2.2 ∨ (layC c).2 = 0) ∧ ((l.foldl (stepA acts came ans) x).1.2.2.2.2.1 = x.1.2.2.2.2.1 ∨ (l.foldl (stepA acts came ans) x).1.2.2.2.2.1 = askS x.1.1)
 | [], x => ⟨rfl, rfl, by simp, by simp, by simp, fun c hc => .inl hc, .inl rfl⟩
 | a :: l, x => by
  obtain ⟨p1, p2, p3, p4, p5, p6, p7⟩ := stepA_spec acts came ans x a
  obtain ⟨q1, q2, q3, q4, q5, q6, q7⟩ := fold_spec acts came ans l (stepA acts came ans x a)
  rw [List.foldl_cons]
  refine ⟨q1.trans p1, q2.trans p2, ?_, ?_, ?_, fun c hc => ?_, ?_⟩
  ·rw [q3, p3, List.contains_cons, Bool.or_assoc]
  ·rw [q4, p4, List.contains_cons, Bool.or_assoc]
  ·rw [List.filter_cons]
   by_cases h : 7 ≤ a ∧ a ≤ 12
   ·rw [if_pos h] at p5
    rw [decide_eq_true h, if_pos rfl, List.length_cons]
    omega
   ·rw [if_neg h] at p5
    rw [decide_eq_false h, if_neg (by simp)]
    omega
  ·rcases q6 c hc with h | h
   ·exact p6 c h
   ·exact .inr h
  ·rcases q7 with h | h
   ·rcases p7 with h' | h'
    ·exact .inl (h.trans h')
    ·exact .inr (h.trans h')
   ·rw [p1] at h
    exact .inr h
section
variable {N : Nat}
abbrev InT := ((Int × (List Int × (List Int × (Int × (Int × Unit))))) × (Nt × (Ct × (Ct × (Nt × (Bool × (Bool × (Bool × (Bool × (Bool × (Bool × (Bool × (Bool × (List Ct × (List Ct × Unit)))))))))))))))
abbrev OutT := ((Int × Unit) × (Nt × (Nt × (Bool × (Bool × (Bool × (Bool × (Bool × (Bool × (Bool × (Bool × (List Ct × (List Ct × Unit)))))))))))))
def inX (next : Int) (acts : List Int) (came ans : Ct) (z : Nt) (h4 h5 h6 h7 : Bool) (h12 : List Ct) (i : Nat) (x : Nt × Ft × List Ct) : InT := ((next, acts, acts, (acts.length : Int), (i : Int), ()), x.1, came, ans, z, h4, h5, h6, h7, x.2.1.1, x.2.1.2.1, x.2.1.2.2.1, x.2.1.2.2.2, h12, x.2.2, ())
def outX (next : Int) (z : Nt) (h4 h5 h6 h7 : Bool) (h12 : List Ct) (y : Nt × Ft × List Ct) : OutT := ((next, ()), y.1, z, h4, h5, h6, h7, y.2.1.1, y.2.1.2.1, y.2.1.2.2.1, y.2.1.2.2.2, h12, y.2.2, ())
noncomputable def doneG (N : Nat) (X : InT → Option OutT) (c : InT) : Option OutT := nego_Nego_done_L7 N X c.1.1 c.1.2.1 c.1.2.2.1 c.1.2.2.2.1 c.1.2.2.2.2.1 c.2.1 c.2.2.1 c.2.2.2.1 c.2.2.2.2.1 c.2.2.2.2.2.1 c.2.2.2.2.2.2.1 c.2.2.2.2.2.2.2.1 c.2.2.2.2.2.2.2.2.1 c.2.2.2.2.2.2.2.2.2.1 c.2.2.2.2.2.2.2.2.2.2.1 c.2.2.2.2.2.2.2.2.2.2.2.1 c.2.2.2.2.2.2.2.2.2.2.2.2.1 c.2.2.2.2.2.2.2.2.2.2.2.2.2.1 c.2.2.2.2.2.2.2.2.2.2.2.2.2.2.1
theorem g_end (next : Int) (acts : List Int) (came ans : Ct) (z : Nt) (h4 h5 h6 h7 : Bool) (h12 : List Ct) (i : Nat) (x : Nt × Ft × List Ct) (hi : acts.length ≤ i) (X) : doneG N X (inX next acts came ans z h4 h5 h6 h7 h12 i x) = some (outX next z h4 h5 h6 h7 h12 x) := by
 have c1 : decide ((i : Int) < (acts.length : Int)) = false := decide_eq_false (by omega)
 unfold doneG inX outX nego_Nego_done_L7
 simp only [c1, cond_false]
theorem g_step (next : Int) (acts : List Int) (hal : acts.length ≤ 50) (came ans : Ct) (z : Nt) (h4 h5 h6 h7 : Bool) (h12 : List Ct) (hc : came.2.2.length ≤ 5000) (ha : ans.2.2.length ≤ 20000) (hN : 10000 ≤ N) (hN2 : N ≤ 1000000) (i : Nat) (a : Int) (hi : acts[i]? = some a) (x : Nt × Ft × List Ct) (hw : wfR x.1.1) (hp : x.2.2.length ≤ 100) (X) :
  doneG N X (inX next acts came ans z h4 h5 h6 h7 h12 i x) = X (inX next acts came ans z h4 h5 h6 h7 h12 (i + 1) (stepA acts came ans x a)) := act_is (N := N) next acts i a hi (by omega) x.1 z came ans h4 h5 h6 h7 x.2.1.1 x.2.1.2.1 x.2.1.2.2.1 x.2.1.2.2.2 h12 x.2.2 hw hc ha hp hN hN2 X
theorem run_is (next : Int) (acts : List Int) (hal : acts.length ≤ 50) (z : Nt) (came ans : Ct) (h4 h5 h6 h7 : Bool) (h12 : List Ct) (hc : came.2.2.length ≤ 5000) (ha : ans.2.2.length ≤ 20000) (hN : 10000 ≤ N) (hN2 : N ≤ 1000000) (m : Nat) : ∀ (M i : Nat) (x : Nt × Ft × List Ct), m + i = acts.length → m < M → wfR x.1.1 → x.2.2.length ≤ i →
  gl (doneG N) M (inX next acts came ans z h4 h5 h6 h7 h12 i x) = some (outX next z h4 h5 h6 h7 h12 ((acts.drop i).foldl (stepA acts came ans) x)) := by
 induction m with
 | zero =>
  intro M i x hm hM hw hp
  obtain ⟨M, rfl⟩ : ∃ k, M = k + 1 := ⟨M - 1, by omega⟩
  have h1 := g_end (N := N) next acts came ans z h4 h5 h6 h7 h12 i x (by omega) (gl (doneG N) M)
  have h2 : List.drop i acts = [] := List.drop_of_length_le (by omega)
  rw [h2, List.foldl_nil]
  exact h1
 | succ m ih =>
  intro M i x hm hM hw hp
  obtain ⟨M, rfl⟩ : ∃ k, M = k + 1 := ⟨M - 1, by omega⟩
  have hlt : i < acts.length := by omega
  have hi : acts[i]? = some acts[i] := List.getElem?_eq_getElem hlt
  obtain ⟨p1, p2, p3, p4, p5, p6, p7⟩ := stepA_spec acts came ans x acts[i]
  have h1 := g_step (N := N) next acts hal came ans z h4 h5 h6 h7 h12 hc ha hN hN2 i acts[i] hi x hw (by omega) (gl (doneG N) M)
  have h2 := ih M (i + 1) (stepA acts came ans x acts[i]) (by omega) (by omega) (by rw [p1]; exact hw) (by split at p5 <;> omega)
  rw [List.drop_eq_getElem_cons hlt, List.foldl_cons]
  exact h1.trans h2
structure WN (n : Nt) : Prop where
 r : wfR n.1
 s0 : 0 ≤ n.2.1
 s10 : n.2.1 < 10
 sw : wfO n.2.2.2.2.1
 sl : n.2.2.2.2.1.length ≤ 500
 sd : ∀ o ∈ n.2.2.2.2.1, o.2.length ≤ 500
theorem done_is (n : Nt) (e : Nat) (came ans : Ct) (hn : WN n) (he : e < 16) (hc : came.2.2.length ≤ 5000) (ha : ans.2.2.length ≤ 20000) : nego_Nego_done 200000 n (e : Int) came ans = some (doneS n e came ans) := by
 obtain ⟨s, hs⟩ : ∃ s : Nat, n.2.1 = (s : Int) := ⟨n.2.1.toNat, (Int.toNat_of_nonneg hn.s0).symm⟩
 have hs10 : s < 10 := by have := hn.s10; omega
 have hnx := next_all s hs10 e he
 have hck := chk_all s hs10 e he
 have hts : n.2.1.toNat = s := by rw [hs]; rfl
 unfold nego_Nego_done doneS
 rw [hs, hnx, Option.bind_some]
 simp only [Int.toNat_natCast]
 by_cases h0 : (nextS s e).2.2 = 0
 ·rw [decide_eq_true h0, Bool.not_true, cond_false, if_neg (by simp [h0])]
  unfold chkS at hck
  simp only [h0, ne_eq, not_true_eq_false, decide_false, Bool.false_or, Bool.and_eq_true, decide_eq_true_eq] at hck
  obtain ⟨⟨⟨⟨⟨k1, k2⟩, k3⟩, k4⟩, k5⟩, k6⟩ := hck
  have hrun := run_is (N := 200000) (nextS s e).1 (nextS s e).2.1 (by omega) ((false, ((0, (0, false)), (false, (false, (0, (0, (0, false))))))), (0, ((0, 0), (0, ([], ([], 0)))))) came ans false false false false [] hc ha (by omega) (by omega) (nextS s e).2.1.length 200000 0 ((n.1, (nextS s e).1, n.2.2), (false, false, false, false), []) (by omega) (by omega) hn.r (by simp)
  rw [List.drop_zero] at hrun
  refine (congrArg (fun o => Option.bind o _) (show nego_Nego_done_L7_R 200000 (inX (nextS s e).1 (nextS s e).2.1 came ans _ false false false false [] 0 _) = _ from hrun)).trans ?_
  rw [Option.bind_some]
  obtain ⟨t, ht⟩ : ∃ t : Nat, (nextS s e).1 = (t : Int) := ⟨(nextS s e).1.toNat, (Int.toNat_of_nonneg k1).symm⟩
  have ht10 : t < 10 := by omega
  have htm := timed_all t ht10
  generalize hy : List.foldl (stepA (nextS s e).2.1 came ans) ((n.1, (nextS s e).1, n.2.2), (false, false, false, false), []) (nextS s e).2.1 = y
  obtain ⟨m, f, pk⟩ := y
  simp only [outX, ht, htm, Option.bind_some, Int.toNat_natCast]
  cases timS t <;> rfl
 ·rw [decide_eq_false h0, Bool.not_false, cond_true, if_pos (by simp [h0]), ← hs]
theorem doneS_spec (n : Nt) (e : Nat) (came ans : Ct) (hn : WN n) (he : e < 16) : WN (doneS n e came ans).1 ∧ (doneS n e came ans).1.1 = n.1 ∧ (doneS n e came ans).2.2.1 = (decide (n.2.1 ≠ 9) && decide ((doneS n e came ans).1.2.1 = 9)) ∧ (doneS n e came ans).2.2.2.1 = (decide (n.2.1 = 9) && decide ((doneS n e came ans).1.2.1 ≠ 9)) ∧
  (doneS n e came ans).2.1.length ≤ 2 ∧ ∀ c ∈ (doneS n e came ans).2.1, (layC c).2 = 0 := by
 obtain ⟨s, hs⟩ : ∃ s : Nat, n.2.1 = (s : Int) := ⟨n.2.1.toNat, (Int.toNat_of_nonneg hn.s0).symm⟩
 have hs10 : s < 10 := by have := hn.s10; omega
 have hck := chk_all s hs10 e he
 have hts : n.2.1.toNat = s := by rw [hs]; rfl
 unfold doneS
 rw [hts]
 by_cases h0 : (nextS s e).2.2 = 0
 ·rw [if_neg (by simp [h0])]
  unfold chkS at hck
  simp only [h0, ne_eq, not_true_eq_false, decide_false, Bool.false_or, Bool.and_eq_true, decide_eq_true_eq] at hck
  obtain ⟨⟨⟨⟨⟨k1, k2⟩, k3⟩, k4⟩, k5⟩, k6⟩ := hck
  obtain ⟨q1, q2, q3, q4, q5, q6, q7⟩ := fold_spec (nextS s e).2.1 came ans (nextS s e).2.1 ((n.1, (nextS s e).1, n.2.2), (false, false, false, false), [])
  generalize hy : List.foldl (stepA (nextS s e).2.1 came ans) ((n.1, (nextS s e).1, n.2.2), (false, false, false, false), []) (nextS s e).2.1 = y at *
  obtain ⟨m, f, pk⟩ := y
  simp only at q1 q2 q3 q4 q5 q6 q7
  dsimp only
  have hwm : WN m := by
   refine ⟨by rw [q1]; exact hn.r, by rw [q2]; exact k1, by rw [q2]; exact k2, ?_, ?_, ?_⟩ <;> rcases q7 with h | h <;> rw [h]
   ·exact hn.sw
   ·exact (askS_wf _).1
   ·exact hn.sl
   ·have := (askS_wf n.1).2.1; omega
   ·exact hn.sd
   ·exact fun o ho => by have := (askS_wf n.1).2.2 o ho; omega
  have hup : f.1 = (decide (n.2.1 ≠ 9) && decide (m.2.1 = 9)) := by
   rw [q3, Bool.false_or, q2, hs]
   have := beq_iff_eq.1 k3
   rw [this]
   by_cases h9 : s = 9
   ·subst h9; simp
   ·have h9' : ¬ (s : Int) = 9 := by omega
    simp [h9, h9']
    by_cases h' : (nextS s e).1 = 9 <;> simp [h']
  have hdn : f.2.1 = (decide (n.2.1 = 9) && decide (m.2.1 ≠ 9)) := by
   rw [q4, Bool.false_or, q2, hs]
   have := beq_iff_eq.1 k4
   rw [this]
   by_cases h9 : s = 9
   ·subst h9
    by_cases h' : (nextS 9 e).1 = 9 <;> simp [h', bne]
   ·have h9' : ¬ (s : Int) = 9 := by omega
    simp [h9, h9']
  have hpk : pk.length ≤ 2 := by rw [List.length_nil, Nat.zero_add] at q5; omega
  have hgood : ∀ c ∈ pk, (layC c).2 = 0 := fun c hc => (q6 c hc).elim (fun h => by cases h) id
  split
  ·exact ⟨hwm, q1, hup, hdn, hpk, hgood⟩
  ·exact ⟨⟨hwm.r, hwm.s0, hwm.s10, hwm.sw, hwm.sl, hwm.sd⟩, q1, hup, hdn, hpk, hgood⟩
 ·rw [if_pos (by simp [h0])]
  refine ⟨hn, rfl, ?_, ?_, by simp, fun c hc => by cases hc⟩
  ·by_cases h : n.2.1 = 9 <;> simp [h]
  ·by_cases h : n.2.1 = 9 <;> simp [h]
end
section
variable {N : Nat}
theorem kinds_loop (l : List Op) (hl : l.length ≤ 1000) : ∀ (m M i : Nat), m + i = l.length → m < M → gl (fun X c => opts_Kinds_L3 N X c.1.1 c.1.2.1 c.1.2.2.1 c.2.1) M ((l, ((l.length : Int), ((i : Int), ()))), ((l.take i).map (·.1), ())) = some ((), (l.map (·.1), ()))
  | 0, M + 1, i, hm, hM => by
    have c1 : ¬ ((i : Int) < (l.length : Int)) := by omega
    rw [gl_succ, List.take_of_length_le (by omega)]
    simp only [opts_Kinds_L3, c1, decide_false, cond_false]
  | m + 1, M + 1, i, hm, hM => by
    have hlt : i < l.length := by omega
    have c1 : ((i : Int) < (l.length : Int)) := by omega
    have c2 : IntKind.wrap .i64 ((i : Int) + 1) = ((i + 1 : Nat) : Int) := by rw [wrap64 (by omega) (by omega)]; omega
    have ih := kinds_loop l hl m M (i + 1) (by omega) (by omega)
    have hr : roomB (((l.take i).map (·.1)).length + ([l[i].1] : List Int).length) 1 = true := roomB_of (by have := big_len; simp; omega) (by simp; omega)
    rw [take_snoc l i hlt, List.map_append] at ih
    have key : ∀ X, opts_Kinds_L3 N X l (l.length : Int) (i : Int) ((l.take i).map (·.1)) = X ((l, ((l.length : Int), (((i + 1 : Nat) : Int), ()))), ((l.take i).map (·.1) ++ [l[i].1], ())) := fun X => by
      simp only [opts_Kinds_L3, c1, decide_true, cond_true, getI_lt l i hlt, Option.bind_some, hr, c2]
    exact (key _).trans ih
theorem kinds_is (l : List Op) (hl : l.length ≤ 1000) (hN : 10000 ≤ N) : opts_Kinds N l = some (l.map (·.1)) := by
  have h := kinds_loop (N := N) l hl l.length N 0 (by omega) (by omega)
  unfold opts_Kinds
  exact (congrArg (fun o => Option.bind o _) (show opts_Kinds_L3_R N ((l, ((l.length : Int), ((0 : Int), ()))), (([] : List Int), ())) = _ from h)).trans rfl
theorem of_loop (l : List Op) (ks : List Int) (hl : l.length ≤ 1000) (hk : ks.length ≤ 1000) (hN : 10000 ≤ N) (hN2 : N ≤ 1000000) : ∀ (m M i : Nat), m + i = l.length → m < M → gl (fun X c => nego_of_L3 N X c.1.1 c.1.2.1 c.1.2.2.1 c.1.2.2.2.1 c.2.1) M ((ks, (l, ((l.length : Int), ((i : Int), ())))), ((l.take i).filter (fun o => ks.contains o.1), ())) = some ((), (l.filter (fun o => ks.contains o.1), ()))
  | 0, M + 1, i, hm, hM => by
    have c1 : ¬ ((i : Int) < (l.length : Int)) := by omega
    rw [gl_succ, List.take_of_length_le (by omega)]
    simp only [nego_of_L3, c1, decide_false, cond_false]
  | m + 1, M + 1, i, hm, hM => by
    have hlt : i < l.length := by omega
    have c1 : ((i : Int) < (l.length : Int)) := by omega
    have c2 : IntKind.wrap .i64 ((i : Int) + 1) = ((i + 1 : Nat) : Int) := by rw [wrap64 (by omega) (by omega)]; omega
    have ih := of_loop l ks hl hk hN hN2 m M (i + 1) (by omega) (by omega)
    have hlen : ((l.take i).filter (fun o => ks.contains o.1)).length ≤ i := Nat.le_trans (List.length_filter_le _ _) (by rw [List.length_take]; omega)
    have hr : roomB (((l.take i).filter (fun o => ks.contains o.1)).length + ([(l[i].1, l[i].2)] : List Op).length) 32 = true := roomB_of (by have := big_len; show _ + 1 ≤ _; omega) (by show (_ + 1) * 32 ≤ _; omega)
    have hc := contb_is (N := N) ks l[i].1 (by omega) hN2
    rw [take_snoc l i hlt, List.filter_append] at ih
    have key : ∀ X, nego_of_L3 N X ks l (l.length : Int) (i : Int) ((l.take i).filter (fun o => ks.contains o.1)) = X ((ks, (l, ((l.length : Int), (((i + 1 : Nat) : Int), ())))), ((l.take i).filter (fun o => ks.contains o.1) ++ [l[i]].filter (fun o => ks.contains o.1), ())) := fun X => by
      cases hb : ks.contains l[i].1 with
      | true =>
        have hf : [l[i]].filter (fun o => ks.contains o.1) = [l[i]] := by simp only [List.filter_cons, hb, if_true, List.filter_nil]
        rw [hf]
        simp only [nego_of_L3, c1, decide_true, cond_true, getI_lt l i hlt, Option.bind_some, hc, hb, hr, c2]
      | false =>
        have hf : [l[i]].filter (fun o => ks.contains o.1) = [] := by simp only [List.filter_cons, hb, Bool.false_eq_true, if_false, List.filter_nil]
        rw [hf, List.append_nil]
        simp only [nego_of_L3, c1, decide_true, cond_true, cond_false, getI_lt l i hlt, Option.bind_some, hc, hb, c2]
    exact (key _).trans ih
theorem nof_is (l : List Op) (ks : List Int) (hl : l.length ≤ 1000) (hk : ks.length ≤ 1000) (hN : 10000 ≤ N) (hN2 : N ≤ 1000000) : nego_of N l ks = some (l.filter (fun o => ks.contains o.1)) := by
  have h := of_loop (N := N) l ks hl hk hN hN2 l.length N 0 (by omega) (by omega)
  unfold nego_of
  exact (congrArg (fun o => Option.bind o _) (show nego_of_L3_R N ((ks, (l, ((l.length : Int), ((0 : Int), ())))), (([] : List Op), ())) = _ from h)).trans rfl
end
theorem optC_small (c : Ct) (hl : c.2.2.length < 200000) (hw : AllB c.2.2) : ∀ o ∈ (optC 200000 c).1, o.2.length ≤ 253 := by
  unfold optC
  cases isC c.1
  · exact fun o ho => (by cases ho)
  · simp only [cond_true]
    rcases par_back 200000 c.2.2 [] hl hw (fun o ho => (by cases ho)) (by simp) with ⟨e, h, he⟩ | ⟨m, h, _, hs, hm⟩
    · rw [h]; exact fun o ho => (by cases ho)
    · rw [h]; exact hs
def wf1 (x : Op) : Prop := (0 ≤ x.1 ∧ x.1 < 256) ∧ AllB x.2
theorem tell_wf (rj : List Op → Op → Bool) (nk : Op → Option Op) (l : List Op) (hw : wfO l) (hl : l.length ≤ 32) (hk : ∀ o ∈ l, ∀ x, nk o = some x → wf1 x) : wfO (tellS l (judS rj nk [] l)).2 ∧ (tellS l (judS rj nk [] l)).2.length ≤ 32 ∧ ((tellS l (judS rj nk [] l)).1 = 2 ∨ (tellS l (judS rj nk [] l)).1 = 3 ∨ (tellS l (judS rj nk [] l)).1 = 4) := by
  obtain ⟨h1, h2, h3⟩ := judS_sub rj nk l []
  unfold tellS
  split
  · exact ⟨wfO_sub hw h1, by have := h1.length_le; simp only; omega, .inr (.inr rfl)⟩
  · split
    · exact ⟨fun x hx => by obtain ⟨o, ho, he⟩ := h3 x hx; exact hk o ho x he, by simp only; omega, .inr (.inl rfl)⟩
    · exact ⟨hw, hl, .inl rfl⟩
theorem lnk_wf (own fresh : Int) (o x : Op) (h : lnk own fresh o = some x) : wf1 x := by
  unfold lnk at h
  split at h
  · rename_i hb
    injection h with h
    subst h
    unfold betS at hb ⊢
    split
    · exact ⟨by show (0 : Int) ≤ 1 ∧ (1 : Int) < 256; omega, b2_B _⟩
    · rename_i h1
      rw [if_neg h1] at hb
      split
      · exact ⟨by show (0 : Int) ≤ 3 ∧ (3 : Int) < 256; omega, chap_B⟩
      · rename_i h3
        rw [if_neg h3] at hb
        split
        · exact ⟨by show (0 : Int) ≤ 5 ∧ (5 : Int) < 256; omega, b4_B _⟩
        · rename_i h5
          rw [if_neg h5] at hb
          cases hb
  · cases h
theorem ink_wf (s : Sd) (o x : Op) (ho : 0 ≤ o.1 ∧ o.1 < 256) (h : ink s o = some x) : wf1 x := by
  unfold ink at h
  split at h
  · injection h with h
    subst h
    exact ⟨ho, b4_B _⟩
  · cases h
def judgedS (n : Nt) (l : List Op) : Int × List Op := if n.1.1 then ijudS n.1.2.2.2 l else ljudS l n.1.2.2.1 n.1.2.1.2.1 (frsS (IntKind.wrap .u32 (n.1.2.1.2.1 + (ofS l).2.1)))
theorem judged_is (n : Nt) (l : List Op) (hn : wfR n.1) (hw : wfO l) (hl : l.length ≤ 32) (hs : ∀ o ∈ l, o.2.length ≤ 253) : nego_Nego_judged 200000 n l = some (judgedS n l) ∧ wfO (judgedS n l).2 ∧ (judgedS n l).2.length ≤ 32 ∧ ((judgedS n l).1 = 2 ∨ (judgedS n l).1 = 3 ∨ (judgedS n l).1 = 4) := by
  unfold nego_Nego_judged judgedS
  cases hi : n.1.1 with
  | true =>
    rw [if_pos rfl]
    refine ⟨?_, tell_wf _ _ l hw hl fun o ho x hx => ink_wf n.1.2.2.2 o x (hw o ho).1 hx⟩
    have h := ijudge_is (N := 200000) n.1.2.2.2 l hw hn.2 (by omega) (fun o ho => by have := hs o ho; omega) (by omega)
    simp only [cond_true, h, Option.bind_some]
  | false =>
    rw [if_neg (by simp)]
    refine ⟨?_, tell_wf _ _ l hw hl fun o ho x hx => lnk_wf _ _ o x hx⟩
    obtain ⟨h1, h2⟩ := of_is (N := 200000) l hw (by omega) (by omega)
    have h3 := ljudge_is (N := 200000) l n.1.2.2.1 n.1.2.1.2.1 (frsS (IntKind.wrap .u32 (n.1.2.1.2.1 + (ofS l).2.1))) hw (by omega) (fun o ho => by have := hs o ho; omega) (frsS_r _) (by omega)
    simp only [cond_false, h1, Option.bind_some]
    refine (congrArg (fun o => Option.bind o _) h3).trans ?_
    simp only [Option.bind_some]
def nop (n : Nt) : Nt × List Ct × Ft := (n, [], (false, false, false, false))
def sAck (n : Nt) (l : List Op) : Nt := (n.1, n.2.1, n.2.2.1, n.2.2.2.1, n.2.2.2.2.1, l, n.2.2.2.2.2.2)
def sNak (n : Nt) (k : Int) : Nt := (n.1, n.2.1, n.2.2.1, n.2.2.2.1, n.2.2.2.2.1, n.2.2.2.2.2.1, k)
def sRul (n : Nt) (r : Rt) : Nt := (r, n.2)
theorem WN.sAck {n : Nt} (h : WN n) (l : List Op) : WN (sAck n l) := ⟨h.r, h.s0, h.s10, h.sw, h.sl, h.sd⟩
theorem WN.sNak {n : Nt} (h : WN n) (k : Int) : WN (sNak n k) := ⟨h.r, h.s0, h.s10, h.sw, h.sl, h.sd⟩
theorem WN.sRul {n : Nt} (h : WN n) {r : Rt} (hr : wfR r) : WN (sRul n r) := ⟨hr, h.s0, h.s10, h.sw, h.sl, h.sd⟩
def judgeS (n : Nt) (c : Ct) : Nt × List Ct × Ft :=
  if (optC 200000 c).2 ≠ 0 then nop n else
  if (judgedS n (optC 200000 c).1).1 = 2 then doneS (sAck n (optC 200000 c).1) 6 c (conC 2 c.2.1 (judgedS n (optC 200000 c).1).2).1 else
  if (judgedS n (optC 200000 c).1).1 = 3 then
    (if 5 < IntKind.wrap .i64 (n.2.2.2.2.2.2 + 1) then doneS (sNak n (IntKind.wrap .i64 (n.2.2.2.2.2.2 + 1))) 7 c (conC 4 c.2.1 ((optC 200000 c).1.filter fun o => ((judgedS n (optC 200000 c).1).2.map (·.1)).contains o.1)).1
     else doneS (sNak n (IntKind.wrap .i64 (n.2.2.2.2.2.2 + 1))) 7 c (conC 3 c.2.1 (judgedS n (optC 200000 c).1).2).1)
  else doneS n 7 c (conC (judgedS n (optC 200000 c).1).1 c.2.1 (judgedS n (optC 200000 c).1).2).1
theorem judge_is (n : Nt) (c : Ct) (hn : WN n) (hw : AllB c.2.2) (hl : c.2.2.length ≤ 5000) : nego_Nego_judge 200000 n c = some (judgeS n c) := by
  have hopt := copt_ok (N := 200000) c (by omega) hw (by omega)
  obtain ⟨ow, ol⟩ := optC_wf c (by omega) hw
  have os := optC_small c (by omega) hw
  unfold nego_Nego_judge judgeS
  generalize hq : optC 200000 c = q at *
  obtain ⟨l, e⟩ := q
  simp only at ow ol os
  have hopt' : ctl_Options 200000 (c.1, (c.2.1, c.2.2)) = some (l, e) := hopt
  by_cases he : e = 0
  · subst he
    obtain ⟨j1, j2, j3, j4⟩ := judged_is n l hn.r ow ol os
    have hj : nego_Nego_judged 200000 ((n.1.1, ((n.1.2.1.1, (n.1.2.1.2.1, n.1.2.1.2.2)), (n.1.2.2.1, (n.1.2.2.2.1, (n.1.2.2.2.2.1, (n.1.2.2.2.2.2.1, (n.1.2.2.2.2.2.2.1, n.1.2.2.2.2.2.2.2))))))), (n.2.1, ((n.2.2.1.1, n.2.2.1.2), (n.2.2.2.1, (n.2.2.2.2.1, (n.2.2.2.2.2.1, n.2.2.2.2.2.2)))))) l = some (judgedS n l) := j1
    simp only [hopt', Option.bind_some, decide_true, Bool.not_true, cond_false, hj, ne_eq, not_true_eq_false, if_false]
    generalize judgedS n l = r at *
    obtain ⟨code, told⟩ := r
    simp only at j2 j3 j4 ⊢
    have con := fun (k : Int) (m : List Op) (hm : m.length ≤ 1000) => ccon_ok (N := 200000) k c.2.1 m hm (by omega)
    have hfl : wfO (l.filter fun o => (told.map (·.1)).contains o.1) := wfO_sub ow List.filter_sublist
    by_cases h2 : code = 2
    · subst h2
      have hd := done_is (sAck n l) 6 c (conC 2 c.2.1 told).1 (hn.sAck l) (by omega) hl (conC_len _ _ _ j2)
      simp only [decide_true, cond_true, con 2 told (by omega), Option.bind_some, if_true]
      exact (congrArg (fun o => Option.bind o _) hd).trans rfl
    · have d2 : decide (code = 2) = false := decide_eq_false h2
      by_cases h3 : code = 3
      · subst h3
        simp only [d2, cond_false, decide_true, cond_true, if_true, if_neg h2]
        by_cases h5 : 5 < IntKind.wrap .i64 (n.2.2.2.2.2.2 + 1)
        · have hd := done_is (sNak n (IntKind.wrap .i64 (n.2.2.2.2.2.2 + 1))) 7 c (conC 4 c.2.1 (l.filter fun o => (told.map (·.1)).contains o.1)).1 (hn.sNak _) (by omega) hl (conC_len _ _ _ hfl)
          have hk := kinds_is (N := 200000) told (by omega) (by omega)
          have ho := nof_is (N := 200000) l (told.map (·.1)) (by omega) (by rw [List.length_map]; omega) (by omega) (by omega)
          have hfl2 : (l.filter fun o => (told.map (·.1)).contains o.1).length ≤ 1000 := Nat.le_trans (List.length_filter_le _ _) (by omega)
          simp only [decide_eq_true h5, cond_true, hk, ho, con 4 _ hfl2, Option.bind_some, if_pos h5]
          exact (congrArg (fun o => Option.bind o _) hd).trans rfl
        · have hd := done_is (sNak n (IntKind.wrap .i64 (n.2.2.2.2.2.2 + 1))) 7 c (conC 3 c.2.1 told).1 (hn.sNak _) (by omega) hl (conC_len _ _ _ j2)
          simp only [decide_eq_false h5, cond_false, con 3 told (by omega), Option.bind_some, if_neg h5]
          exact (congrArg (fun o => Option.bind o _) hd).trans rfl
      · have d3 : decide (code = 3) = false := decide_eq_false h3
        have hd := done_is n 7 c (conC code c.2.1 told).1 hn (by omega) hl (conC_len _ _ _ j2)
        simp only [d2, d3, cond_false, con code told (by omega), Option.bind_some, if_neg h2, if_neg h3]
        exact (congrArg (fun o => Option.bind o _) hd).trans rfl
  · have d0 : decide (e = 0) = false := decide_eq_false he
    simp only [hopt', Option.bind_some, d0, Bool.not_false, cond_true, ne_eq, he, not_false_eq_true, if_true]
    rfl
def zc : Ct := (0, 0, [])
def agreeS (n : Nt) (c : Ct) : Nt × List Ct × Ft :=
  if (optC 200000 c).2 ≠ 0 ∨ c.2.1 ≠ n.2.2.2.1 ∨ (optC 200000 c).1 ≠ n.2.2.2.2.1 then nop n else doneS (sNak n 0) 8 c zc
theorem agree_is (n : Nt) (c : Ct) (hn : WN n) (hw : AllB c.2.2) (hl : c.2.2.length ≤ 5000) : nego_Nego_agreed 200000 n c = some (agreeS n c) := by
  have hopt := copt_ok (N := 200000) c (by omega) hw (by omega)
  obtain ⟨ow, ol⟩ := optC_wf c (by omega) hw
  unfold nego_Nego_agreed agreeS
  generalize hq : optC 200000 c = q at *
  obtain ⟨l, e⟩ := q
  simp only at ow ol
  have hopt' : ctl_Options 200000 (c.1, (c.2.1, c.2.2)) = some (l, e) := hopt
  have hsame := osame_ok (N := 200000) l n.2.2.2.2.1 ow hn.sw (by omega) (by omega)
  have hd := done_is (sNak n 0) 8 c zc (hn.sNak 0) (by omega) hl (by simp [zc])
  by_cases he : e = 0
  · by_cases hid : c.2.1 = n.2.2.2.1
    · by_cases hs : l = n.2.2.2.2.1
      · simp only [hopt', Option.bind_some, decide_eq_true he, decide_eq_true hid, Bool.not_true, cond_false, hsame, decide_eq_true hs, if_neg (show ¬ (e ≠ 0 ∨ c.2.1 ≠ n.2.2.2.1 ∨ l ≠ n.2.2.2.2.1) by simp [he, hid, hs])]
        exact (congrArg (fun o => Option.bind o _) hd).trans rfl
      · simp only [hopt', Option.bind_some, decide_eq_true he, decide_eq_true hid, Bool.not_true, Bool.not_false, cond_false, cond_true, hsame, decide_eq_false hs, if_pos (show (e ≠ 0 ∨ c.2.1 ≠ n.2.2.2.1 ∨ l ≠ n.2.2.2.2.1) from .inr (.inr hs))]
        rfl
    · simp only [hopt', Option.bind_some, decide_eq_true he, decide_eq_false hid, Bool.not_true, Bool.not_false, cond_false, cond_true, if_pos (show (e ≠ 0 ∨ c.2.1 ≠ n.2.2.2.1 ∨ l ≠ n.2.2.2.2.1) from .inr (.inl hid))]
      rfl
  · simp only [hopt', Option.bind_some, decide_eq_false he, Bool.not_false, cond_true, if_pos (show (e ≠ 0 ∨ c.2.1 ≠ n.2.2.2.1 ∨ l ≠ n.2.2.2.2.1) from .inl he)]
    rfl
def turnS (r : Rt) (code : Int) (l : List Op) : Rt × Bool :=
  if code = 3 then (if r.1 then ((r.1, r.2.1, r.2.2.1, inkS r.2.2.2 l), true) else ((r.1, lnkS r.2.1 l (frsS r.2.1.2.1), r.2.2), true))
  else if r.1 then ((r.1, r.2.1, r.2.2.1, (irjS r.2.2.2 l).1), (irjS r.2.2.2 l).2) else ((r.1, (lrjS r.2.1 l).1, r.2.2), (lrjS r.2.1 l).2)
theorem turn_is (r : Rt) (code : Int) (l : List Op) (hr : wfR r) (hw : wfO l) (hl : l.length ≤ 1000) (hs : ∀ o ∈ l, o.2.length ≤ 1000) : nego_Rules_turned 200000 r code l = some (turnS r code l) ∧ wfR (turnS r code l).1 := by
  obtain ⟨n1, n2⟩ := lnaked_is (N := 200000) r.2.1 l (frsS r.2.1.2.1) hw hl hs (by omega)
  obtain ⟨m1, m2⟩ := lrej_is (N := 200000) r.2.1 l hl hs (by omega)
  obtain ⟨i1, i2⟩ := inaked_is (N := 200000) r.2.2.2 l hw hl (by omega)
  have k1 := irej_is (N := 200000) r.2.2.2 l hl hs (by omega)
  unfold nego_Rules_turned turnS
  by_cases h3 : code = 3
  · rw [if_pos h3]
    cases hi : r.1 with
    | true =>
      refine ⟨?_, hr.1, i2 hr.2⟩
      simp only [decide_eq_true h3, cond_true, Option.bind_some, i1, if_true]
    | false =>
      refine ⟨?_, n2 hr.1 (frsS_r _), hr.2⟩
      simp only [decide_eq_true h3, cond_true, cond_false, Option.bind_some, Bool.false_eq_true, if_false]
      exact (congrArg (fun o => Option.bind o _) n1).trans rfl
  · rw [if_neg h3]
    cases hi : r.1 with
    | true =>
      refine ⟨?_, hr.1, hr.2⟩
      simp only [decide_eq_false h3, cond_true, cond_false, Option.bind_some, k1, if_true]
    | false =>
      refine ⟨?_, m2 hr.1, hr.2⟩
      simp only [decide_eq_false h3, cond_false, Option.bind_some, Bool.false_eq_true, if_false]
      exact (congrArg (fun o => Option.bind o _) m1).trans rfl
def refuseS (n : Nt) (c : Ct) : Nt × List Ct × Ft :=
  if (optC 200000 c).2 ≠ 0 ∨ c.2.1 ≠ n.2.2.2.1 ∨ (optC 200000 c).1.length = 0 ∨ (c.1 = 4 ∧ amS (optC 200000 c).1 n.2.2.2.2.1 = false) then nop n else
  doneS (sRul n (turnS n.1 c.1 (optC 200000 c).1).1) (if (turnS n.1 c.1 (optC 200000 c).1).2 then 9 else 14) c zc
theorem refuse_is (n : Nt) (c : Ct) (hn : WN n) (hw : AllB c.2.2) (hl : c.2.2.length ≤ 5000) : nego_Nego_refused 200000 n c = some (refuseS n c) := by
  have hopt := copt_ok (N := 200000) c (by omega) hw (by omega)
  obtain ⟨ow, ol⟩ := optC_wf c (by omega) hw
  have os := optC_small c (by omega) hw
  unfold nego_Nego_refused refuseS
  generalize hq : optC 200000 c = q at *
  obtain ⟨l, e⟩ := q
  simp only at ow ol os
  have hopt' : ctl_Options 200000 (c.1, (c.2.1, c.2.2)) = some (l, e) := hopt
  have ham := among_ok (N := 200000) l n.2.2.2.2.1 ow hn.sw (by omega) (by have := hn.sl; omega) (by omega)
  obtain ⟨t1, t2⟩ := turn_is n.1 c.1 l hn.r ow (by omega) (fun o ho => by have := os o ho; omega)
  have t1' : nego_Rules_turned 200000 (n.1.1, ((n.1.2.1.1, (n.1.2.1.2.1, n.1.2.1.2.2)), (n.1.2.2.1, (n.1.2.2.2.1, (n.1.2.2.2.2.1, (n.1.2.2.2.2.2.1, (n.1.2.2.2.2.2.2.1, n.1.2.2.2.2.2.2.2))))))) c.1 l = some (turnS n.1 c.1 l) := t1
  simp only []
  by_cases he : e = 0
  · by_cases hid : c.2.1 = n.2.2.2.1
    · by_cases h0 : l.length = 0
      · have h0' : ((l.length : Nat) : Int) = 0 := by omega
        simp only [hopt', Option.bind_some, decide_eq_true he, decide_eq_true hid, Bool.not_true, cond_false, cond_true, decide_eq_true h0', if_pos (show (e ≠ 0 ∨ c.2.1 ≠ n.2.2.2.1 ∨ l.length = 0 ∨ (c.1 = 4 ∧ amS l n.2.2.2.2.1 = false)) from .inr (.inr (.inl h0)))]
        rfl
      · have h0' : ¬ ((l.length : Nat) : Int) = 0 := by omega
        by_cases h4 : c.1 = 4 ∧ amS l n.2.2.2.2.1 = false
        · rw [if_pos (show (e ≠ 0 ∨ c.2.1 ≠ n.2.2.2.1 ∨ l.length = 0 ∨ (c.1 = 4 ∧ amS l n.2.2.2.2.1 = false)) from .inr (.inr (.inr h4)))]
          simp only [hopt', Option.bind_some, decide_eq_true he, decide_eq_true hid, Bool.not_true, Bool.not_false, cond_false, cond_true, decide_eq_false h0', decide_eq_true h4.1, ham, h4.2]
          rfl
        · have hno : ¬ (e ≠ 0 ∨ c.2.1 ≠ n.2.2.2.1 ∨ l.length = 0 ∨ (c.1 = 4 ∧ amS l n.2.2.2.2.1 = false)) := by simp only [he, hid, h0, ne_eq, not_true_eq_false, false_or]; exact h4
          rw [if_neg hno]
          have hd : ∀ e : Nat, e < 16 → nego_Nego_done 200000 (sRul n (turnS n.1 c.1 l).1) (e : Int) c zc = some (doneS (sRul n (turnS n.1 c.1 l).1) e c zc) := fun e he => done_is _ e c zc (hn.sRul t2) he hl (by simp [zc])
          by_cases hc4 : c.1 = 4
          · have hat : amS l n.2.2.2.2.1 = true := by
              cases ha : amS l n.2.2.2.2.1 with
              | true => rfl
              | false => exact absurd ⟨hc4, ha⟩ h4
            simp only [hopt', Option.bind_some, decide_eq_true he, decide_eq_true hid, Bool.not_true, cond_false, cond_true, decide_eq_false h0', decide_eq_true hc4, ham, hat, t1']
            cases hb : (turnS n.1 c.1 l).2 with
            | true =>
              simp only [Bool.not_true, cond_false, if_true]
              exact (congrArg (fun o => Option.bind o _) (hd 9 (by omega))).trans rfl
            | false =>
              simp only [Bool.not_false, cond_true, Bool.false_eq_true, if_false]
              exact (congrArg (fun o => Option.bind o _) (hd 14 (by omega))).trans rfl
          · simp only [hopt', Option.bind_some, decide_eq_true he, decide_eq_true hid, Bool.not_true, cond_false, cond_true, decide_eq_false h0', decide_eq_false hc4, t1']
            cases hb : (turnS n.1 c.1 l).2 with
            | true =>
              simp only [Bool.not_true, cond_false, if_true]
              exact (congrArg (fun o => Option.bind o _) (hd 9 (by omega))).trans rfl
            | false =>
              simp only [Bool.not_false, cond_true, Bool.false_eq_true, if_false]
              exact (congrArg (fun o => Option.bind o _) (hd 14 (by omega))).trans rfl
    · simp only [hopt', Option.bind_some, decide_eq_true he, decide_eq_false hid, Bool.not_true, Bool.not_false, cond_false, cond_true, if_pos (show (e ≠ 0 ∨ c.2.1 ≠ n.2.2.2.1 ∨ l.length = 0 ∨ (c.1 = 4 ∧ amS l n.2.2.2.2.1 = false)) from .inr (.inl hid))]
      rfl
  · simp only [hopt', Option.bind_some, decide_eq_false he, Bool.not_false, cond_true, if_pos (show (e ≠ 0 ∨ c.2.1 ≠ n.2.2.2.1 ∨ l.length = 0 ∨ (c.1 = 4 ∧ amS l n.2.2.2.2.1 = false)) from .inl he)]
    rfl
def eventS (n : Nt) (c : Ct) : Nat :=
 if c.1 = 5 then 10 else if c.1 = 6 then 11 else if c.1 = 7 then (if 0 < c.2.2.length ∧ 1 ≤ c.2.2.getD 0 0 ∧ c.2.2.getD 0 0 ≤ 7 then 14 else 13) else if c.1 = 8 then (if n.1.1 then 12 else 13) else if c.1 = 9 ∨ c.1 = 10 ∨ c.1 = 11 then (if n.1.1 then 12 else 15) else 12
theorem eventS_lt (n : Nt) (c : Ct) : eventS n c < 16 := by
 unfold eventS
 split
 ·omega
 split
 ·omega
 split
 ·split <;> omega
 split
 ·split <;> omega
 split
 ·split <;> omega
 omega
theorem event_is (n : Nt) (c : Ct) : nego_Nego_event 200000 n c = some (eventS n c : Int) := by
 unfold nego_Nego_event eventS
 by_cases h5 : c.1 = 5
 ·simp only [decide_eq_true h5, cond_true, if_pos h5]; rfl
 simp only [decide_eq_false h5, cond_false, if_neg h5]
 by_cases h6 : c.1 = 6
 ·simp only [decide_eq_true h6, cond_true, if_pos h6]; rfl
 simp only [decide_eq_false h6, cond_false, if_neg h6]
 by_cases h7 : c.1 = 7
 ·simp only [decide_eq_true h7, cond_true, if_pos h7]
  by_cases hl : 0 < c.2.2.length
  ·have g := getI_lt c.2.2 0 hl
   have e : c.2.2.getD 0 0 = c.2.2[0] := getD_lt hl
   have g' : getI c.2.2 (0 : Int) = some c.2.2[0] := g
   have hl' : (0 : Int) < (c.2.2.length : Int) := by omega
   rw [e]
   generalize c.2.2[0] = d at g'
   by_cases h1 : 1 ≤ d <;> by_cases h2 : d ≤ 7 <;> simp [hl', g', h1, h2, hl]
  ·have hl' : ¬ (0 : Int) < (c.2.2.length : Int) := by omega
   simp only [decide_eq_false hl', cond_false, Option.bind_some, if_neg (show ¬ (0 < c.2.2.length ∧ 1 ≤ c.2.2.getD 0 0 ∧ c.2.2.getD 0 0 ≤ 7) from fun h => hl h.1)]; rfl
 simp only [decide_eq_false h7, cond_false, if_neg h7]
 by_cases h8 : c.1 = 8
 ·simp only [decide_eq_true h8, cond_true, if_pos h8]
  cases n.1.1 <;> rfl
 simp only [decide_eq_false h8, cond_false, if_neg h8]
 by_cases h9 : c.1 = 9
 ·simp only [decide_eq_true h9, cond_true, if_pos (show c.1 = 9 ∨ c.1 = 10 ∨ c.1 = 11 by omega)]
  cases n.1.1 <;> rfl
 simp only [decide_eq_false h9, cond_false]
 by_cases h10 : c.1 = 10
 ·simp only [decide_eq_true h10, cond_true, if_pos (show c.1 = 9 ∨ c.1 = 10 ∨ c.1 = 11 by omega)]
  cases n.1.1 <;> rfl
 simp only [decide_eq_false h10, cond_false]
 by_cases h11 : c.1 = 11
 ·simp only [decide_eq_true h11, cond_true, if_pos (show c.1 = 9 ∨ c.1 = 10 ∨ c.1 = 11 by omega)]
  cases n.1.1 <;> rfl
 simp only [decide_eq_false h11, cond_false, if_neg (show ¬ (c.1 = 9 ∨ c.1 = 10 ∨ c.1 = 11) by omega)]; rfl
def takeS (n : Nt) (c : Ct) : Nt × List Ct × Ft := if c.1 = 1 then judgeS n c else if c.1 = 2 then agreeS n c else if c.1 = 3 ∨ c.1 = 4 then refuseS n c else doneS n (eventS n c) c zc
theorem take_is (n : Nt) (c : Ct) (hn : WN n) (hw : AllB c.2.2) (hl : c.2.2.length ≤ 5000) : nego_Nego_Take 200000 n c = some (takeS n c) := by
 have a1 := judge_is n c hn hw hl
 have a2 := agree_is n c hn hw hl
 have a3 := refuse_is n c hn hw hl
 have a4 := event_is n c
 have a5 := done_is n (eventS n c) c zc hn (eventS_lt n c) hl (by simp [zc])
 unfold nego_Nego_Take takeS
 by_cases h1 : c.1 = 1
 ·rw [decide_eq_true h1, cond_true, if_pos h1]
  exact (congrArg (fun o => Option.bind o _) a1).trans rfl
 rw [decide_eq_false h1, cond_false, if_neg h1]
 by_cases h2 : c.1 = 2
 ·rw [decide_eq_true h2, cond_true, if_pos h2]
  exact (congrArg (fun o => Option.bind o _) a2).trans rfl
 rw [decide_eq_false h2, cond_false, if_neg h2]
 by_cases h3 : c.1 = 3
 ·rw [decide_eq_true h3, cond_true, cond_true, if_pos (.inl h3)]
  exact (congrArg (fun o => Option.bind o _) a3).trans rfl
 rw [decide_eq_false h3, cond_false]
 by_cases h4 : c.1 = 4
 ·rw [decide_eq_true h4, cond_true, if_pos (.inr h4)]
  exact (congrArg (fun o => Option.bind o _) a3).trans rfl
 rw [decide_eq_false h4, cond_false, if_neg (by omega)]
 refine (congrArg (fun o => Option.bind o _) a4).trans ?_
 rw [Option.bind_some]
 exact (congrArg (fun o => Option.bind o _) a5).trans rfl
def doS (n : Nt) (e : Int) : Nt × List Ct × Ft := if 0 ≤ e ∧ e ≤ 3 then doneS n e.toNat zc zc else nop n
theorem do_is (n : Nt) (e : Int) (hn : WN n) : nego_Nego_Do 200000 n e = some (doS n e) := by
 have d := fun (k : Nat) (hk : k < 16) => done_is n k zc zc hn hk (by simp [zc]) (by simp [zc])
 unfold nego_Nego_Do doS
 by_cases h0 : e = 0
 ·subst h0
  exact (congrArg (fun o => Option.bind o _) (d 0 (by omega))).trans rfl
 rw [decide_eq_false h0, cond_false]
 by_cases h1 : e = 1
 ·subst h1
  exact (congrArg (fun o => Option.bind o _) (d 1 (by omega))).trans rfl
 rw [decide_eq_false h1, cond_false]
 by_cases h2 : e = 2
 ·subst h2
  exact (congrArg (fun o => Option.bind o _) (d 2 (by omega))).trans rfl
 rw [decide_eq_false h2, cond_false]
 by_cases h3 : e = 3
 ·subst h3
  exact (congrArg (fun o => Option.bind o _) (d 3 (by omega))).trans rfl
 rw [decide_eq_false h3, cond_false, if_neg (by omega)]
 rfl
structure Good (n : Nt) (y : Nt × List Ct × Ft) : Prop where
 w : WN y.1
 up : y.2.2.1 = (decide (n.2.1 ≠ 9) && decide (y.1.2.1 = 9))
 down : y.2.2.2.1 = (decide (n.2.1 = 9) && decide (y.1.2.1 ≠ 9))
 len : y.2.1.length ≤ 2
 laid : ∀ c ∈ y.2.1, (layC c).2 = 0
theorem good_done {n m : Nt} (h : m.2.1 = n.2.1) (hm : WN m) (e : Nat) (he : e < 16) (c a : Ct) : Good n (doneS m e c a) := by
 obtain ⟨h1, h2, h3, h4, h5, h6⟩ := doneS_spec m e c a hm he
 rw [h] at h3 h4
 exact ⟨h1, h3, h4, h5, h6⟩
theorem good_nop {n m : Nt} (h : m.2.1 = n.2.1) (hm : WN m) : Good n (nop m) := by
 refine ⟨hm, ?_, ?_, by simp [nop], fun c hc => by cases hc⟩
 ·show false = (decide (n.2.1 ≠ 9) && decide (m.2.1 = 9))
  rw [h]
  by_cases h9 : n.2.1 = 9 <;> simp [h9]
 ·show false = (decide (n.2.1 = 9) && decide (m.2.1 ≠ 9))
  rw [h]
  by_cases h9 : n.2.1 = 9 <;> simp [h9]
theorem good_sNak {n : Nt} (hn : WN n) (t : Int) (e : Nat) (he : e < 16) (c a : Ct) : Good n (doneS (sNak n t) e c a) := good_done (n := n) (m := sNak n t) rfl (hn.sNak t) e he c a
theorem good_sAck {n : Nt} (hn : WN n) (t : List Op) (e : Nat) (he : e < 16) (c a : Ct) : Good n (doneS (sAck n t) e c a) := good_done (n := n) (m := sAck n t) rfl (hn.sAck t) e he c a
theorem good_sRul {n : Nt} (hn : WN n) {r : Rt} (hr : wfR r) (e : Nat) (he : e < 16) (c a : Ct) : Good n (doneS (sRul n r) e c a) := good_done (n := n) (m := sRul n r) rfl (hn.sRul hr) e he c a
theorem good_do {n : Nt} (hn : WN n) (e : Int) : Good n (doS n e) := by
 unfold doS
 split
 ·exact good_done rfl hn _ (by omega) _ _
 ·exact good_nop rfl hn
theorem good_take {n : Nt} (hn : WN n) (c : Ct) (hw : AllB c.2.2) (hl : c.2.2.length ≤ 5000) : Good n (takeS n c) := by
 unfold takeS
 split
 ·unfold judgeS
  split
  ·exact good_nop rfl hn
  ·split
   ·exact good_sAck hn _ 6 (by omega) _ _
   ·split
    ·split
     ·exact good_sNak hn _ 7 (by omega) _ _
     ·exact good_sNak hn _ 7 (by omega) _ _
    ·exact good_done rfl hn 7 (by omega) _ _
 ·split
  ·unfold agreeS
   split
   ·exact good_nop rfl hn
   ·exact good_sNak hn _ 8 (by omega) _ _
  ·split
   ·unfold refuseS
    split
    ·exact good_nop rfl hn
    ·obtain ⟨ow, ol⟩ := optC_wf c (by omega) hw
     have os := optC_small c (by omega) hw
     obtain ⟨t1, t2⟩ := turn_is n.1 c.1 (optC 200000 c).1 hn.r ow (by omega) (fun o ho => by have := os o ho; omega)
     refine good_sRul hn t2 _ ?_ _ _
     split <;> omega
   ·exact good_done rfl hn _ (eventS_lt n c) _ _
def Fit (l : List Op) : Prop := wfO l ∧ l.length ≤ 3 ∧ ∀ o ∈ l, o.2.length ≤ 4
theorem fit_ask (r : Rt) : Fit (askS r) := askS_wf r
theorem Fit.small {l : List Op} (h : Fit l) : small l := fun o ho => by have := h.2.2 o ho; omega
theorem Fit.lay {l : List Op} (h : Fit l) : layS l = (encs l, 0) := by
 unfold layS
 rw [if_neg (by have := h.2.1; omega), if_pos (all_small.2 h.small)]
def msg (k cid : Int) (l : List Op) : Ct := (k, cid, encs l)
theorem con_msg {l : List Op} (h : Fit l) (k : Int) (hk : isC k = true) (cid : Int) : conC k cid l = (msg k cid l, 0) := by
 unfold conC msg
 rw [hk, h.lay]
 rfl
theorem opt_msg {l : List Op} (h : Fit l) (k : Int) (hk : isC k = true) (cid : Int) : optC 200000 (msg k cid l) = (l, 0) := by
 have := conC_back k cid l (by rw [con_msg h k hk])
 rw [con_msg h k hk] at this
 exact this
theorem msg_len {l : List Op} (h : Fit l) (k cid : Int) : (msg k cid l).2.2.length ≤ 1000 := by
 have := encs_len h.small
 have := h.2.1
 show (encs l).length ≤ 1000
 omega
theorem msg_lay {l : List Op} (h : Fit l) (k cid : Int) : (layC (msg k cid l)).2 = 0 := by
 have := msg_len h k cid
 unfold layC
 rw [if_neg (by omega)]
def Okc (c : Ct) : Prop := AllB c.2.2 ∧ c.2.2.length ≤ 5000
theorem msg_ok {l : List Op} (h : Fit l) (k cid : Int) : Okc (msg k cid l) := ⟨encs_all h.small h.1, by have := msg_len h k cid; omega⟩
theorem req_ack {n : Nt} {cid : Int} {l : List Op} (h : Fit l) (hj : judgedS n l = (2, l)) : takeS n (msg 1 cid l) = doneS (sAck n l) 6 (msg 1 cid l) (msg 2 cid l) := by
 unfold takeS judgeS
 rw [if_pos (show (msg 1 cid l).1 = 1 from rfl), opt_msg h 1 rfl cid]
 simp only [ne_eq, not_true_eq_false, if_false, hj, if_true]
 rw [show (msg 1 cid l).2.1 = cid from rfl, con_msg h 2 rfl]
theorem req_nak {n : Nt} {cid : Int} {l m : List Op} (h : Fit l) (hm : Fit m) (hj : judgedS n l = (3, m)) (hk : 0 ≤ n.2.2.2.2.2.2 ∧ n.2.2.2.2.2.2 ≤ 3) : takeS n (msg 1 cid l) = doneS (sNak n (n.2.2.2.2.2.2 + 1)) 7 (msg 1 cid l) (msg 3 cid m) := by
 have w : IntKind.wrap .i64 (n.2.2.2.2.2.2 + 1) = n.2.2.2.2.2.2 + 1 := wrap64 (by omega) (by omega)
 unfold takeS judgeS
 rw [if_pos (show (msg 1 cid l).1 = 1 from rfl), opt_msg h 1 rfl cid]
 simp only [ne_eq, not_true_eq_false, if_false, hj, if_true, w]
 rw [if_neg (show ¬ (3 : Int) = 2 by omega), if_neg (show ¬ 5 < n.2.2.2.2.2.2 + 1 by omega), show (msg 1 cid l).2.1 = cid from rfl, con_msg hm 3 rfl]
theorem req_rej {n : Nt} {cid : Int} {l m : List Op} (h : Fit l) (hm : Fit m) (hj : judgedS n l = (4, m)) : takeS n (msg 1 cid l) = doneS n 7 (msg 1 cid l) (msg 4 cid m) := by
 unfold takeS judgeS
 rw [if_pos (show (msg 1 cid l).1 = 1 from rfl), opt_msg h 1 rfl cid]
 simp only [ne_eq, not_true_eq_false, if_false, hj]
 rw [if_neg (show ¬ (4 : Int) = 2 by omega), if_neg (show ¬ (4 : Int) = 3 by omega), show (msg 1 cid l).2.1 = cid from rfl, con_msg hm 4 rfl]
theorem take_ack {n : Nt} (h : Fit n.2.2.2.2.1) : takeS n (msg 2 n.2.2.2.1 n.2.2.2.2.1) = doneS (sNak n 0) 8 (msg 2 n.2.2.2.1 n.2.2.2.2.1) zc := by
 unfold takeS agreeS
 rw [if_neg (show ¬ (msg 2 n.2.2.2.1 n.2.2.2.2.1).1 = 1 from fun h => by cases h), if_pos (show (msg 2 n.2.2.2.1 n.2.2.2.2.1).1 = 2 from rfl), opt_msg h 2 rfl, show (msg 2 n.2.2.2.1 n.2.2.2.2.1).2.1 = n.2.2.2.1 from rfl]
 simp only [ne_eq, not_true_eq_false, or_self, if_false]
theorem take_nak {n : Nt} {m : List Op} (h : Fit m) (hm : m ≠ []) (ht : (turnS n.1 3 m).2 = true) : takeS n (msg 3 n.2.2.2.1 m) = doneS (sRul n (turnS n.1 3 m).1) 9 (msg 3 n.2.2.2.1 m) zc := by
 have h0 : ¬ m.length = 0 := fun h => hm (List.length_eq_zero_iff.1 h)
 unfold takeS refuseS
 rw [if_neg (show ¬ (msg 3 n.2.2.2.1 m).1 = 1 from fun h => by cases h), if_neg (show ¬ (msg 3 n.2.2.2.1 m).1 = 2 from fun h => by cases h), if_pos (show (msg 3 n.2.2.2.1 m).1 = 3 ∨ (msg 3 n.2.2.2.1 m).1 = 4 from .inl rfl), opt_msg h 3 rfl, show (msg 3 n.2.2.2.1 m).2.1 = n.2.2.2.1 from rfl, show (msg 3 n.2.2.2.1 m).1 = 3 from rfl, ht]
 rw [if_neg (by simp [h0]), if_pos rfl]
theorem take_rej {n : Nt} {m : List Op} (h : Fit m) (hm : m ≠ []) (hs : m.Sublist n.2.2.2.2.1) (ht : (turnS n.1 4 m).2 = true) : takeS n (msg 4 n.2.2.2.1 m) = doneS (sRul n (turnS n.1 4 m).1) 9 (msg 4 n.2.2.2.1 m) zc := by
 have h0 : ¬ m.length = 0 := fun h => hm (List.length_eq_zero_iff.1 h)
 have ha : amS m n.2.2.2.2.1 = true := decide_eq_true hs
 unfold takeS refuseS
 rw [if_neg (show ¬ (msg 4 n.2.2.2.1 m).1 = 1 from fun h => by cases h), if_neg (show ¬ (msg 4 n.2.2.2.1 m).1 = 2 from fun h => by cases h), if_pos (show (msg 4 n.2.2.2.1 m).1 = 3 ∨ (msg 4 n.2.2.2.1 m).1 = 4 from .inr rfl), opt_msg h 4 rfl, show (msg 4 n.2.2.2.1 m).2.1 = n.2.2.2.1 from rfl, show (msg 4 n.2.2.2.1 m).1 = 4 from rfl, ht]
 rw [if_neg (by simp [h0, ha]), if_pos rfl]
theorem d66 (r : Rt) (t : Int × Int) (id : Int) (sent acked : List Op) (nk : Int) (came ans : Ct) (h : (layC ans).2 = 0) : ∃ f, doneS (r, 6, t, id, sent, acked, nk) 6 came ans = ((r, 8, t, id, sent, acked, nk), [ans], f) :=
 ⟨(false, false, false, false), by simp [doneS, nextS, rowS, stepA, sndS, h, timS]⟩
theorem d67 (r : Rt) (t : Int × Int) (id : Int) (sent acked : List Op) (nk : Int) (came ans : Ct) (h : (layC ans).2 = 0) : ∃ f, doneS (r, 6, t, id, sent, acked, nk) 7 came ans = ((r, 6, t, id, sent, acked, nk), [ans], f) :=
 ⟨(false, false, false, false), by simp [doneS, nextS, rowS, stepA, sndS, h, timS]⟩
theorem d68 (r : Rt) (t : Int × Int) (id : Int) (sent acked : List Op) (nk : Int) (came ans : Ct) : ∃ f, doneS (r, 6, t, id, sent, acked, nk) 8 came ans = ((r, 7, (10, t.2), id, sent, acked, nk), [], f) :=
 ⟨(false, false, false, false), by simp [doneS, nextS, rowS, stepA, initT, timS]⟩
theorem d76 (r : Rt) (t : Int × Int) (id : Int) (sent acked : List Op) (nk : Int) (came ans : Ct) (h : (layC ans).2 = 0) : ∃ f, doneS (r, 7, t, id, sent, acked, nk) 6 came ans = ((r, 9, (t.1, 0), id, sent, acked, nk), [ans], f) :=
 ⟨(true, false, false, false), by simp [doneS, nextS, rowS, stepA, sndS, h, timS]⟩
theorem d77 (r : Rt) (t : Int × Int) (id : Int) (sent acked : List Op) (nk : Int) (came ans : Ct) (h : (layC ans).2 = 0) : ∃ f, doneS (r, 7, t, id, sent, acked, nk) 7 came ans = ((r, 7, t, id, sent, acked, nk), [ans], f) :=
 ⟨(false, false, false, false), by simp [doneS, nextS, rowS, stepA, sndS, h, timS]⟩
theorem d88 (r : Rt) (t : Int × Int) (id : Int) (sent acked : List Op) (nk : Int) (came ans : Ct) : ∃ f, doneS (r, 8, t, id, sent, acked, nk) 8 came ans = ((r, 9, (10, 0), id, sent, acked, nk), [], f) :=
 ⟨(true, false, false, false), by simp [doneS, nextS, rowS, stepA, initT, timS]⟩
theorem d89 (r : Rt) (t : Int × Int) (id : Int) (sent acked : List Op) (nk : Int) (came ans : Ct) : ∃ f, doneS (r, 8, t, id, sent, acked, nk) 9 came ans = ((r, 8, sentT (10, t.2), idS id, askS r, acked, nk), [msg 1 (idS id) (askS r)], f) :=
 ⟨(false, false, false, false), by simp [doneS, nextS, rowS, stepA, initT, timS, sndS, con_msg (fit_ask r) 1 rfl, msg_lay (fit_ask r)]⟩
theorem do2 (r : Rt) : ∃ f, doS (r, 0, (0, 0), 0, [], [], 0) 2 = ((r, 1, (0, 0), 0, [], [], 0), [], f) :=
 ⟨(false, false, true, false), by simp [doS, doneS, nextS, rowS, stepA, timS]⟩
theorem do0 (r : Rt) : ∃ f, doS (r, 1, (0, 0), 0, [], [], 0) 0 = ((r, 6, sentT (10, 0), 1, askS r, [], 0), [msg 1 1 (askS r)], f) := by
 have e : idS 0 = 1 := by decide
 exact ⟨(false, false, false, false), by simp [doS, doneS, nextS, rowS, stepA, initT, timS, sndS, e, con_msg (fit_ask r) 1 rfl, msg_lay (fit_ask r)]⟩
def stp (n : Nt) : List Ct → Nt × List Ct
 | [] => (n, [])
 | c :: l => ((stp (takeS n c).1 l).1, (takeS n c).2.1 ++ (stp (takeS n c).1 l).2)
theorem stp1 (n : Nt) (c : Ct) {m : Nt} {o : List Ct} {f : Ft} (h : takeS n c = (m, o, f)) : stp n [c] = (m, o) := by
 unfold stp
 rw [h]
 simp [stp]
abbrev Tk := Nt × Nt × List Ct × List Ct
def rnd (q : Tk) : Tk := ((stp q.1 q.2.2.2).1, (stp q.2.1 q.2.2.1).1, (stp q.1 q.2.2.2).2, (stp q.2.1 q.2.2.1).2)
def Okl (l : List Ct) : Prop := l.length ≤ 10 ∧ ∀ c ∈ l, Okc c
theorem okl0 : Okl [] := ⟨by simp, fun c hc => by cases hc⟩
theorem okl1 {c : Ct} (h : Okc c) : Okl [c] := ⟨by simp, fun d hd => by rw [List.mem_singleton] at hd; subst hd; exact h⟩
inductive Runs : Nat → Tk → Tk → Prop
 | nil (q : Tk) : Runs 0 q q
 | cons {m : Nat} {q p f : Tk} (hb : Okl q.2.2.1) (ha : Okl q.2.2.2) (h : rnd q = p) (hr : Runs m p f) : Runs (m + 1) q f
theorem run_idle (a b : Nt) : ∀ m, Runs m (a, b, [], []) (a, b, [], [])
 | 0 => .nil _
 | m + 1 => .cons okl0 okl0 rfl (run_idle a b m)
theorem Runs.trans {m k : Nat} {q p f : Tk} (h : Runs m q p) (h' : Runs k p f) : Runs (m + k) q f := by
 induction h with
 | nil q => rw [Nat.zero_add]; exact h'
 | cons hb ha h hr ih => rw [Nat.add_right_comm]; exact .cons hb ha h (ih h')
theorem stp_wn (l : List Ct) : ∀ (n : Nt), WN n → (∀ c ∈ l, Okc c) → WN (stp n l).1 ∧ (stp n l).2.length ≤ 2 * l.length := by
 induction l with
 | nil => intro n hn _; exact ⟨hn, by simp [stp]⟩
 | cons c l ih =>
  intro n hn hc
  have h0 := hc c List.mem_cons_self
  have g := good_take hn c h0.1 h0.2
  obtain ⟨i1, i2⟩ := ih (takeS n c).1 g.w (fun d hd => hc d (List.mem_cons_of_mem _ hd))
  refine ⟨i1, ?_⟩
  unfold stp
  have := g.len
  simp only [List.length_append, List.length_cons]
  omega
theorem gb_loop (toA : List Ct) (x46 x47 : Int) (h0 h2 h3 : Nt) (h4 pk : List Ct) (hp : Okl pk) (m : Nat) : ∀ (M i : Nat) (n : Nt) (h5 : List Ct), m + i = pk.length → m < M → WN n → h5.length ≤ 2 * i →
  gl (fun X c => law27_talk_L10 200000 X c.1.1 c.1.2.1 c.1.2.2.1 c.1.2.2.2.1 c.1.2.2.2.2.1 c.1.2.2.2.2.2.1 c.2.1 c.2.2.1 c.2.2.2.1 c.2.2.2.2.1 c.2.2.2.2.2.1 c.2.2.2.2.2.2.1) M ((toA, (x46, (x47, (pk, ((pk.length : Int), ((i : Int), ())))))), (h0, (n, (h2, (h3, (h4, (h5, ()))))))) =
   some ((toA, (x46, (x47, ()))), (h0, ((stp n (pk.drop i)).1, (h2, (h3, (h4, (h5 ++ (stp n (pk.drop i)).2, ()))))))) := by
 induction m with
 | zero =>
  intro M i n h5 hm hM hn h5l
  obtain ⟨M, rfl⟩ : ∃ k, M = k + 1 := ⟨M - 1, by omega⟩
  have c1 : decide ((i : Int) < (pk.length : Int)) = false := decide_eq_false (by omega)
  rw [List.drop_of_length_le (by omega)]
  have key : ∀ X, law27_talk_L10 200000 X toA x46 x47 pk (pk.length : Int) (i : Int) h0 n h2 h3 h4 h5 = some ((toA, (x46, (x47, ()))), (h0, ((stp n []).1, (h2, (h3, (h4, (h5 ++ (stp n []).2, ()))))))) := fun X => by
   simp only [law27_talk_L10, c1, cond_false, stp, List.append_nil, Prod.eta]
  exact key _
 | succ m ih =>
  intro M i n h5 hm hM hn h5l
  obtain ⟨M, rfl⟩ : ∃ k, M = k + 1 := ⟨M - 1, by omega⟩
  have hlt : i < pk.length := by omega
  have hlp := hp.1
  have c1 : decide ((i : Int) < (pk.length : Int)) = true := decide_eq_true (by omega)
  have c2 : IntKind.wrap .i64 ((i : Int) + 1) = ((i + 1 : Nat) : Int) := by rw [wrap64 (by omega) (by omega)]; omega
  have ho := hp.2 _ (List.getElem_mem hlt)
  have ht := take_is n pk[i] hn ho.1 ho.2
  have hg := good_take hn pk[i] ho.1 ho.2
  have hl := hg.len
  have hr : roomB (h5.length + (takeS n pk[i]).2.1.length) 32 = true := roomB_of (by have := big_len; omega) (by omega)
  have g := getI_lt pk i hlt
  have ih' := ih M (i + 1) (takeS n pk[i]).1 (h5 ++ (takeS n pk[i]).2.1) (by omega) (by omega) hg.w (by rw [List.length_append]; omega)
  have key : ∀ X, law27_talk_L10 200000 X toA x46 x47 pk (pk.length : Int) (i : Int) h0 n h2 h3 h4 h5 = X ((toA, (x46, (x47, (pk, ((pk.length : Int), (((i + 1 : Nat) : Int), ())))))), (h0, ((takeS n pk[i]).1, (h2, (h3, (h4, (h5 ++ (takeS n pk[i]).2.1, ()))))))) := fun X => by
   simp only [law27_talk_L10, c1, c2, cond_true, g, Option.bind_some, Prod.eta, ht, hr]
  rw [List.drop_eq_getElem_cons hlt]
  unfold stp
  rw [← List.append_assoc]
  exact (key _).trans ih'
theorem ga_loop (x46 x47 : Int) (h1 h2 h3 : Nt) (h5 pk : List Ct) (hp : Okl pk) (m : Nat) : ∀ (M i : Nat) (n : Nt) (h4 : List Ct), m + i = pk.length → m < M → WN n → h4.length ≤ 2 * i →
  gl (fun X c => law27_talk_L17 200000 X c.1.1 c.1.2.1 c.1.2.2.1 c.1.2.2.2.1 c.1.2.2.2.2.1 c.2.1 c.2.2.1 c.2.2.2.1 c.2.2.2.2.1 c.2.2.2.2.2.1 c.2.2.2.2.2.2.1) M ((x46, (x47, (pk, ((pk.length : Int), ((i : Int), ()))))), (n, (h1, (h2, (h3, (h4, (h5, ()))))))) =
   some ((x46, (x47, ())), ((stp n (pk.drop i)).1, (h1, (h2, (h3, (h4 ++ (stp n (pk.drop i)).2, (h5, ()))))))) := by
 induction m with
 | zero =>
  intro M i n h4 hm hM hn h5l
  obtain ⟨M, rfl⟩ : ∃ k, M = k + 1 := ⟨M - 1, by omega⟩
  have c1 : decide ((i : Int) < (pk.length : Int)) = false := decide_eq_false (by omega)
  rw [List.drop_of_length_le (by omega)]
  have key : ∀ X, law27_talk_L17 200000 X x46 x47 pk (pk.length : Int) (i : Int) n h1 h2 h3 h4 h5 = some ((x46, (x47, ())), ((stp n []).1, (h1, (h2, (h3, (h4 ++ (stp n []).2, (h5, ()))))))) := fun X => by
   simp only [law27_talk_L17, c1, cond_false, stp, List.append_nil, Prod.eta]
  exact key _
 | succ m ih =>
  intro M i n h4 hm hM hn h4l
  obtain ⟨M, rfl⟩ : ∃ k, M = k + 1 := ⟨M - 1, by omega⟩
  have hlt : i < pk.length := by omega
  have hlp := hp.1
  have c1 : decide ((i : Int) < (pk.length : Int)) = true := decide_eq_true (by omega)
  have c2 : IntKind.wrap .i64 ((i : Int) + 1) = ((i + 1 : Nat) : Int) := by rw [wrap64 (by omega) (by omega)]; omega
  have ho := hp.2 _ (List.getElem_mem hlt)
  have ht := take_is n pk[i] hn ho.1 ho.2
  have hg := good_take hn pk[i] ho.1 ho.2
  have hl := hg.len
  have hr : roomB (h4.length + (takeS n pk[i]).2.1.length) 32 = true := roomB_of (by have := big_len; omega) (by omega)
  have g := getI_lt pk i hlt
  have ih' := ih M (i + 1) (takeS n pk[i]).1 (h4 ++ (takeS n pk[i]).2.1) (by omega) (by omega) hg.w (by rw [List.length_append]; omega)
  have key : ∀ X, law27_talk_L17 200000 X x46 x47 pk (pk.length : Int) (i : Int) n h1 h2 h3 h4 h5 = X ((x46, (x47, (pk, ((pk.length : Int), (((i + 1 : Nat) : Int), ()))))), ((takeS n pk[i]).1, (h1, (h2, (h3, (h4 ++ (takeS n pk[i]).2.1, (h5, ()))))))) := fun X => by
   simp only [law27_talk_L17, c1, c2, cond_true, g, Option.bind_some, Prod.eta, ht, hr]
  rw [List.drop_eq_getElem_cons hlt]
  unfold stp
  rw [← List.append_assoc]
  exact (key _).trans ih'
theorem rnds_ok (h2 h3 : Nt) (L : Nat) (hL : L ≤ 1000) {m : Nat} {q f : Tk} (h : Runs m q f) : ∀ (M i : Nat), m + i = L → m < M → WN q.1 → WN q.2.1 →
  gl (fun X c => law27_talk_L7 200000 X c.1.1 c.1.2.1 c.1.2.2.1 c.1.2.2.2.1 c.2.1 c.2.2.1 c.2.2.2.1 c.2.2.2.2.1) M ((q.2.2.1, (q.2.2.2, ((L : Int), ((i : Int), ())))), (q.1, (q.2.1, (h2, (h3, ()))))) = some ((), (f.1, (f.2.1, (h2, (h3, ()))))) ∧ WN f.1 ∧ WN f.2.1 := by
 induction h with
 | nil q =>
  intro M i hm hM ha hb
  obtain ⟨M, rfl⟩ : ∃ k, M = k + 1 := ⟨M - 1, by omega⟩
  have c1 : decide ((i : Int) < (L : Int)) = false := decide_eq_false (by omega)
  have key : ∀ X, law27_talk_L7 200000 X q.2.2.1 q.2.2.2 (L : Int) (i : Int) q.1 q.2.1 h2 h3 = some ((), (q.1, (q.2.1, (h2, (h3, ()))))) := fun X => by
   simp only [law27_talk_L7, c1, cond_false, Prod.eta]
  exact ⟨key _, ha, hb⟩
 | @cons m q p f hb ha h hr ih =>
  intro M i hm hM wa wb
  obtain ⟨M, rfl⟩ : ∃ k, M = k + 1 := ⟨M - 1, by omega⟩
  subst h
  have c1 : decide ((i : Int) < (L : Int)) = true := decide_eq_true (by omega)
  have c2 : IntKind.wrap .i64 ((i : Int) + 1) = ((i + 1 : Nat) : Int) := by rw [wrap64 (by omega) (by omega)]; omega
  have g1 := gb_loop q.2.2.2 (L : Int) (i : Int) q.1 h2 h3 [] q.2.2.1 hb q.2.2.1.length 200000 0 q.2.1 [] (by omega) (by have := hb.1; omega) wb (by simp)
  have g2 := ga_loop (L : Int) (i : Int) (stp q.2.1 q.2.2.1).1 h2 h3 (stp q.2.1 q.2.2.1).2 q.2.2.2 ha q.2.2.2.length 200000 0 q.1 [] (by omega) (by have := ha.1; omega) wa (by simp)
  rw [List.drop_zero, List.nil_append] at g1 g2
  have e1 : law27_talk_L10_R 200000 ((q.2.2.2, ((L : Int), ((i : Int), (q.2.2.1, ((q.2.2.1.length : Int), ((0 : Int), ())))))), (q.1, (q.2.1, (h2, (h3, ([], ([], ()))))))) = _ := g1
  have e2 : law27_talk_L17_R 200000 (((L : Int), ((i : Int), (q.2.2.2, ((q.2.2.2.length : Int), ((0 : Int), ()))))), (q.1, ((stp q.2.1 q.2.2.1).1, (h2, (h3, ([], ((stp q.2.1 q.2.2.1).2, ()))))))) = _ := g2
  have sa := stp_wn q.2.2.2 q.1 wa ha.2
  have sb := stp_wn q.2.2.1 q.2.1 wb hb.2
  obtain ⟨i1, i2, i3⟩ := ih M (i + 1) (by omega) (by omega) sa.1 sb.1
  refine ⟨?_, i2, i3⟩
  have key : ∀ X, law27_talk_L7 200000 X q.2.2.1 q.2.2.2 (L : Int) (i : Int) q.1 q.2.1 h2 h3 = X (((rnd q).2.2.1, ((rnd q).2.2.2, ((L : Int), (((i + 1 : Nat) : Int), ())))), ((rnd q).1, ((rnd q).2.1, (h2, (h3, ()))))) := fun X => by
   simp only [law27_talk_L7, c1, c2, cond_true, Prod.eta, e1, e2, Option.bind_some, rnd]
  exact (key _).trans i1
theorem talk_ok (p q : Rt) (hp : wfR p) (hq : wfR q) {f : Tk} (h : Runs 12 ((p, 6, sentT (10, 0), 1, askS p, [], 0), (q, 6, sentT (10, 0), 1, askS q, [], 0), [msg 1 1 (askS p)], [msg 1 1 (askS q)]) f) :
  law27_talk 200000 (p, 0, (0, 0), 0, [], [], 0) (q, 0, (0, 0), 0, [], [], 0) 12 = some (f.1, f.2.1) ∧ WN f.1 ∧ WN f.2.1 := by
 have wp0 : WN (p, 0, (0, 0), 0, [], [], 0) := ⟨hp, by show (0 : Int) ≤ 0; omega, by show (0 : Int) < 10; omega, fun o ho => (by cases ho), by simp, fun o ho => (by cases ho)⟩
 have wq0 : WN (q, 0, (0, 0), 0, [], [], 0) := ⟨hq, by show (0 : Int) ≤ 0; omega, by show (0 : Int) < 10; omega, fun o ho => (by cases ho), by simp, fun o ho => (by cases ho)⟩
 obtain ⟨f1, e1⟩ := do2 p
 obtain ⟨f2, e2⟩ := do2 q
 obtain ⟨f3, e3⟩ := do0 p
 obtain ⟨f4, e4⟩ := do0 q
 have wp1 := (good_do wp0 2).w
 have wq1 := (good_do wq0 2).w
 have d1 := do_is _ 2 wp0
 have d2 := do_is _ 2 wq0
 rw [e1] at wp1 d1
 rw [e2] at wq1 d2
 have wp2 := (good_do wp1 0).w
 have wq2 := (good_do wq1 0).w
 have d3 := do_is _ 0 wp1
 have d4 := do_is _ 0 wq1
 rw [e3] at wp2 d3
 rw [e4] at wq2 d4
 obtain ⟨g, g1, g2⟩ := rnds_ok ((false, ((0, (0, false)), (false, (false, (0, (0, (0, false))))))), (0, ((0, 0), (0, ([], ([], 0)))))) ((false, ((0, (0, false)), (false, (false, (0, (0, (0, false))))))), (0, ((0, 0), (0, ([], ([], 0)))))) 12 (by omega) h 200000 0 (by omega) (by omega) wp2 wq2
 refine ⟨?_, g1, g2⟩
 unfold law27_talk
 refine (congrArg (fun o => Option.bind o _) d1).trans ?_
 rw [Option.bind_some]
 refine (congrArg (fun o => Option.bind o _) d2).trans ?_
 rw [Option.bind_some]
 refine (congrArg (fun o => Option.bind o _) d3).trans ?_
 rw [Option.bind_some]
 refine (congrArg (fun o => Option.bind o _) d4).trans ?_
 rw [Option.bind_some]
 exact (congrArg (fun o => Option.bind o _) (show law27_talk_L7_R 200000 _ = _ from g)).trans rfl
def judR (r : Rt) (l : List Op) : Int × List Op := if r.1 then ijudS r.2.2.2 l else ljudS l r.2.2.1 r.2.1.2.1 (frsS (IntKind.wrap .u32 (r.2.1.2.1 + (ofS l).2.1)))
section
variable (r : Rt) (t : Int × Int) (id : Int) (sent acked : List Op) (nk cid : Int) {l m : List Op}
theorem sA6 (h : Fit l) (hj : judR r l = (2, l)) : stp (r, 6, t, id, sent, acked, nk) [msg 1 cid l] = ((r, 8, t, id, sent, l, nk), [msg 2 cid l]) := by
 obtain ⟨f, e⟩ := d66 r t id sent l nk (msg 1 cid l) (msg 2 cid l) (msg_lay h 2 cid)
 exact stp1 _ _ ((req_ack (n := (r, 6, t, id, sent, acked, nk)) h hj).trans e)
theorem sA7 (h : Fit l) (hj : judR r l = (2, l)) : stp (r, 7, t, id, sent, acked, nk) [msg 1 cid l] = ((r, 9, (t.1, 0), id, sent, l, nk), [msg 2 cid l]) := by
 obtain ⟨f, e⟩ := d76 r t id sent l nk (msg 1 cid l) (msg 2 cid l) (msg_lay h 2 cid)
 exact stp1 _ _ ((req_ack (n := (r, 7, t, id, sent, acked, nk)) h hj).trans e)
theorem sN6 (h : Fit l) (hm : Fit m) (hj : judR r l = (3, m)) (hk : 0 ≤ nk ∧ nk ≤ 3) : stp (r, 6, t, id, sent, acked, nk) [msg 1 cid l] = ((r, 6, t, id, sent, acked, nk + 1), [msg 3 cid m]) := by
 obtain ⟨f, e⟩ := d67 r t id sent acked (nk + 1) (msg 1 cid l) (msg 3 cid m) (msg_lay hm 3 cid)
 exact stp1 _ _ ((req_nak (n := (r, 6, t, id, sent, acked, nk)) h hm hj hk).trans e)
theorem sN7 (h : Fit l) (hm : Fit m) (hj : judR r l = (3, m)) (hk : 0 ≤ nk ∧ nk ≤ 3) : stp (r, 7, t, id, sent, acked, nk) [msg 1 cid l] = ((r, 7, t, id, sent, acked, nk + 1), [msg 3 cid m]) := by
 obtain ⟨f, e⟩ := d77 r t id sent acked (nk + 1) (msg 1 cid l) (msg 3 cid m) (msg_lay hm 3 cid)
 exact stp1 _ _ ((req_nak (n := (r, 7, t, id, sent, acked, nk)) h hm hj hk).trans e)
theorem sR6 (h : Fit l) (hm : Fit m) (hj : judR r l = (4, m)) : stp (r, 6, t, id, sent, acked, nk) [msg 1 cid l] = ((r, 6, t, id, sent, acked, nk), [msg 4 cid m]) := by
 obtain ⟨f, e⟩ := d67 r t id sent acked nk (msg 1 cid l) (msg 4 cid m) (msg_lay hm 4 cid)
 exact stp1 _ _ ((req_rej (n := (r, 6, t, id, sent, acked, nk)) h hm hj).trans e)
theorem sK6 (h : Fit sent) : stp (r, 6, t, id, sent, acked, nk) [msg 2 id sent] = ((r, 7, (10, t.2), id, sent, acked, 0), []) := by
 obtain ⟨f, e⟩ := d68 r t id sent acked 0 (msg 2 id sent) zc
 exact stp1 _ _ ((take_ack (n := (r, 6, t, id, sent, acked, nk)) h).trans e)
theorem sK8 (h : Fit sent) : stp (r, 8, t, id, sent, acked, nk) [msg 2 id sent] = ((r, 9, (10, 0), id, sent, acked, 0), []) := by
 obtain ⟨f, e⟩ := d88 r t id sent acked 0 (msg 2 id sent) zc
 exact stp1 _ _ ((take_ack (n := (r, 8, t, id, sent, acked, nk)) h).trans e)
theorem sT8 (hm : Fit m) (h0 : m ≠ []) (ht : (turnS r 3 m).2 = true) : stp (r, 8, t, id, sent, acked, nk) [msg 3 id m] = (((turnS r 3 m).1, 8, sentT (10, t.2), idS id, askS (turnS r 3 m).1, acked, nk), [msg 1 (idS id) (askS (turnS r 3 m).1)]) := by
 obtain ⟨f, e⟩ := d89 (turnS r 3 m).1 t id sent acked nk (msg 3 id m) zc
 exact stp1 _ _ ((take_nak (n := (r, 8, t, id, sent, acked, nk)) hm h0 ht).trans e)
theorem sJ8 (hm : Fit m) (h0 : m ≠ []) (hs : m.Sublist sent) (ht : (turnS r 4 m).2 = true) : stp (r, 8, t, id, sent, acked, nk) [msg 4 id m] = (((turnS r 4 m).1, 8, sentT (10, t.2), idS id, askS (turnS r 4 m).1, acked, nk), [msg 1 (idS id) (askS (turnS r 4 m).1)]) := by
 obtain ⟨f, e⟩ := d89 (turnS r 4 m).1 t id sent acked nk (msg 4 id m) zc
 exact stp1 _ _ ((take_rej (n := (r, 8, t, id, sent, acked, nk)) hm h0 hs ht).trans e)
end
theorem rnd_of {a b a' b' : Nt} {toB toA oa ob : List Ct} (ea : stp a toA = (a', oa)) (eb : stp b toB = (b', ob)) : rnd (a, b, toB, toA) = (a', b', oa, ob) := by
 show ((stp a toA).1, (stp b toB).1, (stp a toA).2, (stp b toB).2) = _
 rw [ea, eb]
theorem ok_m {l : List Op} (h : Fit l) (k cid : Int) : Okl [msg k cid l] := okl1 (msg_ok h k cid)
def stA (p q : Rt) : Tk := ((p, 6, sentT (10, 0), 1, askS p, [], 0), (q, 6, sentT (10, 0), 1, askS q, [], 0), [msg 1 1 (askS p)], [msg 1 1 (askS q)])
theorem run_fine (p q : Rt) (hq : judR q (askS p) = (2, askS p)) (hp : judR p (askS q) = (2, askS q)) :
  Runs 12 (stA p q) ((p, 9, (10, 0), 1, askS p, askS q, 0), (q, 9, (10, 0), 1, askS q, askS p, 0), [], []) :=
 .cons (ok_m (fit_ask p) 1 1) (ok_m (fit_ask q) 1 1) (rnd_of (sA6 p _ 1 _ _ 0 1 (fit_ask q) hp) (sA6 q _ 1 _ _ 0 1 (fit_ask p) hq))
  (.cons (ok_m (fit_ask q) 2 1) (ok_m (fit_ask p) 2 1) (rnd_of (sK8 p _ 1 _ _ 0 (fit_ask p)) (sK8 q _ 1 _ _ 0 (fit_ask q))) (run_idle _ _ 10))
def stX (p q : Rt) (ta tb : Int × Int) (id : Int) (nk : Int) : Tk := ((p, 8, ta, id, askS p, askS q, 0), (q, 7, tb, 1, askS q, [], nk), [msg 1 id (askS p)], [])
theorem run_nak (p q : Rt) {m : List Op} (hq : judR q (askS p) = (3, m)) (hm : Fit m) (h0 : m ≠ []) (ht : (turnS p 3 m).2 = true) (hp : judR p (askS q) = (2, askS q)) :
  ∃ ta tb id, Runs 2 (stA p q) (stX (turnS p 3 m).1 q ta tb id 0) :=
 ⟨_, _, _, .cons (ok_m (fit_ask p) 1 1) (ok_m (fit_ask q) 1 1) (rnd_of (sA6 p _ 1 _ _ 0 1 (fit_ask q) hp) (sN6 q _ 1 _ _ 0 1 (fit_ask p) hm hq (by omega)))
  (.cons (ok_m (fit_ask q) 2 1) (ok_m hm 3 1) (rnd_of (sT8 p _ 1 _ _ 0 hm h0 ht) (sK6 q _ 1 _ _ _ (fit_ask q))) (.nil _))⟩
theorem run_rej (p q : Rt) {m : List Op} (hq : judR q (askS p) = (4, m)) (hm : Fit m) (h0 : m ≠ []) (hs : m.Sublist (askS p)) (ht : (turnS p 4 m).2 = true) (hp : judR p (askS q) = (2, askS q)) :
  ∃ ta tb id, Runs 2 (stA p q) (stX (turnS p 4 m).1 q ta tb id 0) :=
 ⟨_, _, _, .cons (ok_m (fit_ask p) 1 1) (ok_m (fit_ask q) 1 1) (rnd_of (sA6 p _ 1 _ _ 0 1 (fit_ask q) hp) (sR6 q _ 1 _ _ 0 1 (fit_ask p) hm hq))
  (.cons (ok_m (fit_ask q) 2 1) (ok_m hm 4 1) (rnd_of (sJ8 p _ 1 _ _ 0 hm h0 hs ht) (sK6 q _ 1 _ _ _ (fit_ask q))) (.nil _))⟩
theorem tail_fine (p q : Rt) (ta tb : Int × Int) (id nk : Int) (hq : judR q (askS p) = (2, askS p)) :
  Runs 2 (stX p q ta tb id nk) ((p, 9, (10, 0), id, askS p, askS q, 0), (q, 9, (tb.1, 0), 1, askS q, askS p, nk), [], []) :=
 .cons (ok_m (fit_ask p) 1 id) okl0 (rnd_of (a' := (p, 8, ta, id, askS p, askS q, 0)) (oa := []) rfl (sA7 q _ 1 _ _ nk id (fit_ask p) hq))
  (.cons okl0 (ok_m (fit_ask p) 2 id) (rnd_of (b' := (q, 9, (tb.1, 0), 1, askS q, askS p, nk)) (ob := []) (sK8 p _ id _ _ 0 (fit_ask p)) rfl) (.nil _))
theorem tail_nak (p q : Rt) (ta tb : Int × Int) (id nk : Int) {m : List Op} (hq : judR q (askS p) = (3, m)) (hm : Fit m) (h0 : m ≠ []) (ht : (turnS p 3 m).2 = true) (hk : 0 ≤ nk ∧ nk ≤ 3) :
  Runs 2 (stX p q ta tb id nk) (stX (turnS p 3 m).1 q (sentT (10, ta.2)) tb (idS id) (nk + 1)) :=
 .cons (ok_m (fit_ask p) 1 id) okl0 (rnd_of (a' := (p, 8, ta, id, askS p, askS q, 0)) (oa := []) rfl (sN7 q _ 1 _ _ nk id (fit_ask p) hm hq hk))
  (.cons okl0 (ok_m hm 3 id) (rnd_of (b' := (q, 7, tb, 1, askS q, [], nk + 1)) (ob := []) (sT8 p _ id _ _ 0 hm h0 ht) rfl) (.nil _))
def EndQ (f : Tk) : Prop := f.1.2.1 = 9 ∧ f.2.1.2.1 = 9 ∧ f.2.1.2.2.2.2.2.1 = askS f.1.1 ∧ f.1.2.2.2.2.2.1 = askS f.2.1.1
inductive Soon (q : Rt) : Nat → Rt → Rt → Prop
 | fine {p : Rt} (h : judR q (askS p) = (2, askS p)) : Soon q 0 p p
 | nak {k : Nat} {p f : Rt} {m : List Op} (hq : judR q (askS p) = (3, m)) (hm : Fit m) (h0 : m ≠ []) (ht : (turnS p 3 m).2 = true) (h : Soon q k (turnS p 3 m).1 f) : Soon q (k + 1) p f
theorem soon_run {q p f : Rt} {k : Nat} (h : Soon q k p f) : ∀ (ta tb : Int × Int) (id nk : Int), 0 ≤ nk → nk + k ≤ 3 → ∃ ta' tb' id' nk', Runs (2 * k + 2) (stX p q ta tb id nk) ((f, 9, ta', id', askS f, askS q, 0), (q, 9, tb', 1, askS q, askS f, nk'), [], []) := by
 induction h with
 | fine h => exact fun ta tb id nk _ _ => ⟨_, _, _, _, tail_fine _ q ta tb id nk h⟩
 | @nak k p f m hq hm h0 ht h ih =>
  intro ta tb id nk h1 h2
  obtain ⟨ta', tb', id', nk', hr⟩ := ih (sentT (10, ta.2)) tb (idS id) (nk + 1) (by omega) (by omega)
  have := (tail_nak p q ta tb id nk hq hm h0 ht (by omega)).trans hr
  rw [show 2 + (2 * k + 2) = 2 * (k + 1) + 2 by omega] at this
  exact ⟨_, _, _, _, this⟩
theorem fine_end (p q : Rt) (hq : judR q (askS p) = (2, askS p)) (hp : judR p (askS q) = (2, askS q)) : ∃ f, Runs 12 (stA p q) f ∧ EndQ f ∧ f.1.1 = p ∧ f.2.1.1 = q :=
 ⟨_, run_fine p q hq hp, ⟨rfl, rfl, rfl, rfl⟩, rfl, rfl⟩
theorem nak_end (p q f : Rt) {k : Nat} {m : List Op} (hk : k ≤ 1) (hq : judR q (askS p) = (3, m)) (hm : Fit m) (h0 : m ≠ []) (ht : (turnS p 3 m).2 = true) (hp : judR p (askS q) = (2, askS q)) (hs : Soon q k (turnS p 3 m).1 f) :
  ∃ g, Runs 12 (stA p q) g ∧ EndQ g ∧ g.1.1 = f ∧ g.2.1.1 = q := by
 obtain ⟨ta, tb, id, h1⟩ := run_nak p q hq hm h0 ht hp
 obtain ⟨ta', tb', id', nk', h2⟩ := soon_run hs ta tb id 0 (by omega) (by omega)
 have h3 := (h1.trans h2).trans (run_idle _ _ (8 - 2 * k))
 rw [show 2 + (2 * k + 2) + (8 - 2 * k) = 12 by omega] at h3
 exact ⟨_, h3, ⟨rfl, rfl, rfl, rfl⟩, rfl, rfl⟩
theorem rej_end (p q f : Rt) {k : Nat} {m : List Op} (hk : k ≤ 1) (hq : judR q (askS p) = (4, m)) (hm : Fit m) (h0 : m ≠ []) (hs : m.Sublist (askS p)) (ht : (turnS p 4 m).2 = true) (hp : judR p (askS q) = (2, askS q)) (hs' : Soon q k (turnS p 4 m).1 f) :
  ∃ g, Runs 12 (stA p q) g ∧ EndQ g ∧ g.1.1 = f ∧ g.2.1.1 = q := by
 obtain ⟨ta, tb, id, h1⟩ := run_rej p q hq hm h0 hs ht hp
 obtain ⟨ta', tb', id', nk', h2⟩ := soon_run hs' ta tb id 0 (by omega) (by omega)
 have h3 := (h1.trans h2).trans (run_idle _ _ (8 - 2 * k))
 rw [show 2 + (2 * k + 2) + (8 - 2 * k) = 12 by omega] at h3
 exact ⟨_, h3, ⟨rfl, rfl, rfl, rfl⟩, rfl, rfl⟩
theorem b4_len (n : Int) : (b4 n).length = 4 := rfl
theorem b2_len (n : Int) : (b2 n).length = 2 := rfl
theorem addr_b4 {n : Int} (h : 0 ≤ n ∧ n < 4294967296) : addrS (b4 n) = n := by
 unfold addrS
 rw [if_pos (b4_len n), val_b4 h]
theorem fit3 (x : Int) : Fit [(3, b4 x)] := ⟨fun o ho => by rw [List.mem_singleton] at ho; subst ho; exact ⟨by show (0 : Int) ≤ 3 ∧ (3 : Int) < 256; omega, b4_B x⟩, by simp, fun o ho => by rw [List.mem_singleton] at ho; subst ho; exact Nat.le_of_eq (b4_len x)⟩
theorem fitN (x : Int) : Fit [(129, b4 x)] := ⟨fun o ho => by rw [List.mem_singleton] at ho; subst ho; exact ⟨by show (0 : Int) ≤ 129 ∧ (129 : Int) < 256; omega, b4_B x⟩, by simp, fun o ho => by rw [List.mem_singleton] at ho; subst ho; exact Nat.le_of_eq (b4_len x)⟩
theorem fit3N (x y : Int) : Fit [(3, b4 x), (129, b4 y)] := by
 refine ⟨fun o ho => ?_, by simp, fun o ho => ?_⟩
 ·rcases List.mem_cons.1 ho with rfl | ho
  ·exact (fit3 x).1 _ List.mem_cons_self
  ·exact (fitN y).1 _ ho
 ·rcases List.mem_cons.1 ho with rfl | ho
  ·exact Nat.le_of_eq (b4_len x)
  ·exact (fitN y).2.2 _ ho
section
variable {own G D dns qo : Int} {qa : Bool} (ho : 0 ≤ own ∧ own < 4294967296) (hG : 0 ≤ G ∧ G < 4294967296) (hD : 0 ≤ D ∧ D < 4294967296) (hn : 0 ≤ dns ∧ dns < 4294967296)
theorem js3 (pre : List Op) (hp : findS pre 3 = ((0, []), false)) : irj (true, qo, G, D, qa) pre (3, b4 own) = false := by
 unfold irj imay
 rw [hp]
 simp [b4_len]
include ho in
theorem jn3 : ink (true, qo, G, D, qa) (3, b4 own) = if own = G then none else some (3, b4 G) := by
 unfold ink givS
 rw [addr_b4 ho]
 by_cases h : own = G <;> simp [h]
theorem jsN (pre : List Op) (hp : findS pre 129 = ((0, []), false)) : irj (true, qo, G, D, qa) pre (129, b4 dns) = decide (D = 0) := by
 unfold irj imay
 rw [hp]
 simp [b4_len]
include hn in
theorem jnN : ink (true, qo, G, D, qa) (129, b4 dns) = if dns = D then none else some (129, b4 D) := by
 unfold ink givS
 rw [addr_b4 hn]
 by_cases h : dns = D <;> simp [h]
theorem find0 (k : Int) : findS [] k = ((0, []), false) := rfl
theorem find3N (x : List Int) : findS [(3, x)] 129 = ((0, []), false) := by simp [findS]
end
section
variable {rj : List Op → Op → Bool} {nk : Op → Option Op} {x y z : Op} {v w u : Option Op}
theorem jud1 (h1 : rj [] x = false) (h2 : nk x = v) : judS rj nk [] [x] = ([], v.toList) := by
 cases v <;> simp [judS, h1, h2]
theorem jud2 (h1 : rj [] x = false) (h2 : nk x = v) (h3 : rj [x] y = false) (h4 : nk y = w) : judS rj nk [] [x, y] = ([], v.toList ++ w.toList) := by
 cases v <;> cases w <;> simp [judS, h1, h2, h3, h4]
theorem jud2r (h1 : rj [] x = false) (h3 : rj [x] y = true) : ∃ l, judS rj nk [] [x, y] = ([y], l) := by
 cases hv : nk x <;> simp [judS, h1, hv, h3]
theorem jud3 (h1 : rj [] x = false) (h2 : nk x = none) (h3 : rj [x] y = false) (h4 : nk y = none) (h5 : rj [x, y] z = false) (h6 : nk z = none) : judS rj nk [] [x, y, z] = ([], []) := by
 simp [judS, h1, h2, h3, h4, h5, h6]
end
def Cl (w : Wt3) (pr : Bool) (own g dns : Int) (asks : Bool) : Rt := (true, w, pr, (false, own, g, dns, asks))
def Sv (w : Wt3) (pr : Bool) (qo G D : Int) (qa : Bool) : Rt := (true, w, pr, (true, qo, G, D, qa))
section
variable {w w' : Wt3} {pr pr' : Bool} {own g G D dns qo : Int} {qa : Bool} (ho : 0 ≤ own ∧ own < 4294967296) (hG : 0 ≤ G ∧ G < 4294967296) (hD : 0 ≤ D ∧ D < 4294967296) (hn : 0 ≤ dns ∧ dns < 4294967296)
theorem ask0 : askS (Cl w pr own g dns false) = [(3, b4 own)] := rfl
theorem ask1 : askS (Cl w pr own g dns true) = [(3, b4 own), (129, b4 dns)] := rfl
theorem askV : askS (Sv w pr qo G D qa) = [(3, b4 qo)] := rfl
theorem judV (l : List Op) : judR (Sv w pr qo G D qa) l = ijudS (true, qo, G, D, qa) l := rfl
include ho in
theorem j0f (h : own = G) : judR (Sv w' pr' qo G D qa) (askS (Cl w pr own g dns false)) = (2, askS (Cl w pr own g dns false)) := by
 rw [ask0, judV]
 unfold ijudS
 rw [jud1 (js3 [] (find0 3)) ((jn3 ho).trans (if_pos h))]
 rfl
include ho in
theorem j0n (h : ¬ own = G) : judR (Sv w' pr' qo G D qa) (askS (Cl w pr own g dns false)) = (3, [(3, b4 G)]) := by
 rw [ask0, judV]
 unfold ijudS
 rw [jud1 (js3 [] (find0 3)) ((jn3 ho).trans (if_neg h))]
 rfl
theorem j1r (h : D = 0) : judR (Sv w' pr' qo G D qa) (askS (Cl w pr own g dns true)) = (4, [(129, b4 dns)]) := by
 rw [ask1, judV]
 unfold ijudS
 obtain ⟨l, e⟩ := jud2r (nk := ink (true, qo, G, D, qa)) (js3 (own := own) (G := G) (D := D) (qo := qo) (qa := qa) [] (find0 3)) ((jsN (G := G) (D := D) (dns := dns) (qo := qo) (qa := qa) [(3, b4 own)] (find3N (b4 own))).trans (decide_eq_true h))
 rw [e]
 rfl
include ho hn in
theorem j1 (h : ¬ D = 0) : judR (Sv w' pr' qo G D qa) (askS (Cl w pr own g dns true)) = tellS (askS (Cl w pr own g dns true)) ([], (if own = G then none else some (3, b4 G)).toList ++ (if dns = D then none else some (129, b4 D)).toList) := by
 rw [ask1, judV]
 unfold ijudS
 rw [jud2 (js3 [] (find0 3)) (jn3 ho) ((jsN [(3, b4 own)] (find3N (b4 own))).trans (decide_eq_false h)) (jnN hn)]
end
theorem jc {w w' : Wt3} {pr pr' : Bool} {own g G D dns qo : Int} {qa asks : Bool} (hq : 0 ≤ qo ∧ qo < 4294967296) (h0 : ¬ qo = 0) : judR (Cl w pr own g dns asks) (askS (Sv w' pr' qo G D qa)) = (2, askS (Sv w' pr' qo G D qa)) := by
 rw [askV]
 show ijudS (false, own, g, dns, asks) [(3, b4 qo)] = _
 unfold ijudS
 have h1 : irj (false, own, g, dns, asks) [] (3, b4 qo) = false := by
  unfold irj imay
  rw [find0 3, addr_b4 hq]
  simp [b4_len, h0]
 have h2 : ink (false, own, g, dns, asks) (3, b4 qo) = none := by simp [ink]
 rw [jud1 h1 h2]
 rfl
section
variable {w : Wt3} {pr : Bool} {own g G D dns : Int} (hG : 0 ≤ G ∧ G < 4294967296) (hD : 0 ≤ D ∧ D < 4294967296) (g0 : ¬ G = 0) (d0 : ¬ D = 0)
theorem turn_cl (asks : Bool) (m : List Op) : turnS (Cl w pr own g dns asks) 3 m = (Cl w pr (if ifS m 3 = 0 then own else ifS m 3) g (if asks && !decide (ifS m 129 = 0) then ifS m 129 else dns) asks, true) := rfl
theorem turn_rj (x : List Int) : turnS (Cl w pr own g dns true) 4 [(129, x)] = (Cl w pr own g dns false, true) := by
 simp [turnS, Cl, irjS, findS]
include hG g0 in
theorem if33 (l : List Op) : ifS ((3, b4 G) :: l) 3 = G := by
 have e : ifP 3 (3, b4 G) = true := by unfold ifP; rw [addr_b4 hG]; simp [g0]
 unfold ifS
 rw [List.find?_cons, e]
 exact addr_b4 hG
theorem if3N (l : List Op) (x : List Int) : ifS ((3, x) :: l) 129 = ifS l 129 := by
 have e : ifP 129 (3, x) = false := by unfold ifP; simp
 unfold ifS
 rw [List.find?_cons, e]
theorem ifN3 (l : List Op) (x : List Int) : ifS ((129, x) :: l) 3 = ifS l 3 := by
 have e : ifP 3 (129, x) = false := by unfold ifP; simp
 unfold ifS
 rw [List.find?_cons, e]
include hD d0 in
theorem ifNN (l : List Op) : ifS ((129, b4 D) :: l) 129 = D := by
 have e : ifP 129 (129, b4 D) = true := by unfold ifP; rw [addr_b4 hD]; simp [d0]
 unfold ifS
 rw [List.find?_cons, e]
 exact addr_b4 hD
theorem ifZ (k : Int) : ifS [] k = 0 := rfl
end
theorem agree_ip {w w' : Wt3} {pr pr' : Bool} {own g G D dns qo : Int} {qa asks : Bool} (ho : 0 ≤ own ∧ own < 4294967296) (hG : 0 ≤ G ∧ G < 4294967296) (hD : 0 ≤ D ∧ D < 4294967296) (hn : 0 ≤ dns ∧ dns < 4294967296) (hq : 0 ≤ qo ∧ qo < 4294967296) (q0 : ¬ qo = 0) (g0 : ¬ G = 0) :
  ∃ f, Runs 12 (stA (Cl w pr own g dns asks) (Sv w' pr' qo G D qa)) f ∧ EndQ f ∧ f.1.1.2.2.2.2.1 = G ∧ f.1.1.1 = true ∧ f.2.1.1 = Sv w' pr' qo G D qa := by
 have hp : ∀ own' g' dns' asks', judR (Cl w pr own' g' dns' asks') (askS (Sv w' pr' qo G D qa)) = (2, askS (Sv w' pr' qo G D qa)) := fun _ _ _ _ => jc hq q0
 cases asks with
 | false =>
  by_cases h : own = G
  ·obtain ⟨f, h1, h2, h3, h4⟩ := fine_end _ _ (j0f (w := w) (w' := w') (pr := pr) (pr' := pr') (g := g) (dns := dns) (D := D) (qo := qo) (qa := qa) ho h) (hp _ _ _ _)
   exact ⟨f, h1, h2, by rw [h3]; exact h, by rw [h3]; rfl, h4⟩
  ·have ht := turn_cl (w := w) (pr := pr) (own := own) (g := g) (dns := dns) false [(3, b4 G)]
   rw [if33 hG g0, if_neg g0] at ht
   have hs := Soon.fine (j0f (w := w) (w' := w') (pr := pr) (pr' := pr') (own := G) (g := g) (dns := dns) (D := D) (qo := qo) (qa := qa) hG rfl)
   obtain ⟨f, h1, h2, h3, h4⟩ := nak_end (k := 0) _ _ (Cl w pr G g dns false) (by omega) (j0n (w := w) (w' := w') (pr := pr) (pr' := pr') (g := g) (dns := dns) (D := D) (qo := qo) (qa := qa) ho h) (fit3 G) (by simp) (by rw [ht]) (hp _ _ _ _) (by rw [ht]; exact hs)
   exact ⟨f, h1, h2, by rw [h3]; rfl, by rw [h3]; rfl, h4⟩
 | true =>
  by_cases hd : D = 0
  ·have ht := turn_rj (w := w) (pr := pr) (own := own) (g := g) (dns := dns) (b4 dns)
   have hsub : ([(129, b4 dns)] : List Op).Sublist (askS (Cl w pr own g dns true)) := by rw [ask1]; exact (List.Sublist.refl _).cons _
   have hj := j1r (w := w) (w' := w') (pr := pr) (pr' := pr') (own := own) (g := g) (G := G) (dns := dns) (qo := qo) (qa := qa) hd
   by_cases h : own = G
   ·have hs := Soon.fine (j0f (w := w) (w' := w') (pr := pr) (pr' := pr') (g := g) (dns := dns) (D := D) (qo := qo) (qa := qa) ho h)
    obtain ⟨f, h1, h2, h3, h4⟩ := rej_end (k := 0) _ _ (Cl w pr own g dns false) (by omega) hj (fitN dns) (by simp) hsub (by rw [ht]) (hp _ _ _ _) (by rw [ht]; exact hs)
    exact ⟨f, h1, h2, by rw [h3]; exact h, by rw [h3]; rfl, h4⟩
   ·have ht' := turn_cl (w := w) (pr := pr) (own := own) (g := g) (dns := dns) false [(3, b4 G)]
    rw [if33 hG g0, if_neg g0] at ht'
    have hs := Soon.fine (j0f (w := w) (w' := w') (pr := pr) (pr' := pr') (own := G) (g := g) (dns := dns) (D := D) (qo := qo) (qa := qa) hG rfl)
    have hs2 := Soon.nak (j0n (w := w) (w' := w') (pr := pr) (pr' := pr') (g := g) (dns := dns) (D := D) (qo := qo) (qa := qa) ho h) (fit3 G) (by simp) (by rw [ht']) (by rw [ht']; exact hs)
    obtain ⟨f, h1, h2, h3, h4⟩ := rej_end (k := 1) _ _ (Cl w pr G g dns false) (by omega) hj (fitN dns) (by simp) hsub (by rw [ht]) (hp _ _ _ _) (by rw [ht]; exact hs2)
    exact ⟨f, h1, h2, by rw [h3]; rfl, by rw [h3]; rfl, h4⟩
  ·have hfine : judR (Sv w' pr' qo G D qa) (askS (Cl w pr G g D true)) = (2, askS (Cl w pr G g D true)) := by
    rw [j1 hG hD hd, if_pos rfl, if_pos rfl]; rfl
   have hs := Soon.fine hfine
   have hj := j1 (w := w) (w' := w') (pr := pr) (pr' := pr') (g := g) (G := G) (qo := qo) (qa := qa) ho hn hd
   by_cases h : own = G <;> by_cases k : dns = D
   ·rw [if_pos h, if_pos k] at hj
    obtain ⟨f, h1, h2, h3, h4⟩ := fine_end _ _ hj (hp _ _ _ _)
    exact ⟨f, h1, h2, by rw [h3]; exact h, by rw [h3]; rfl, h4⟩
   ·rw [if_pos h, if_neg k] at hj
    subst h
    replace hj : judR (Sv w' pr' qo own D qa) (askS (Cl w pr own g dns true)) = (3, [(129, b4 D)]) := hj
    have ht := turn_cl (w := w) (pr := pr) (own := own) (g := g) (dns := dns) true [(129, b4 D)]
    rw [ifN3, ifZ, ifNN hD hd, if_pos rfl, decide_eq_false hd, show (true && !false) = true from rfl, if_pos rfl] at ht
    obtain ⟨f, h1, h2, h3, h4⟩ := nak_end (k := 0) _ _ (Cl w pr own g D true) (by omega) hj (fitN D) (by simp) (by rw [ht]) (hp _ _ _ _) (by rw [ht]; exact hs)
    exact ⟨f, h1, h2, by rw [h3]; rfl, by rw [h3]; rfl, h4⟩
   ·rw [if_neg h, if_pos k] at hj
    subst k
    replace hj : judR (Sv w' pr' qo G dns qa) (askS (Cl w pr own g dns true)) = (3, [(3, b4 G)]) := hj
    have ht := turn_cl (w := w) (pr := pr) (own := own) (g := g) (dns := dns) true [(3, b4 G)]
    rw [if33 hG g0, if3N, ifZ, if_neg g0, decide_eq_true (rfl : (0 : Int) = 0), if_neg (by simp)] at ht
    obtain ⟨f, h1, h2, h3, h4⟩ := nak_end (k := 0) _ _ (Cl w pr G g dns true) (by omega) hj (fit3 G) (by simp) (by rw [ht]) (hp _ _ _ _) (by rw [ht]; exact hs)
    exact ⟨f, h1, h2, by rw [h3]; rfl, by rw [h3]; rfl, h4⟩
   ·rw [if_neg h, if_neg k] at hj
    replace hj : judR (Sv w' pr' qo G D qa) (askS (Cl w pr own g dns true)) = (3, [(3, b4 G), (129, b4 D)]) := hj
    have ht := turn_cl (w := w) (pr := pr) (own := own) (g := g) (dns := dns) true [(3, b4 G), (129, b4 D)]
    rw [if33 hG g0, if3N, ifNN hD hd, if_neg g0, decide_eq_false hd, show (true && !false) = true from rfl, if_pos rfl] at ht
    obtain ⟨f, h1, h2, h3, h4⟩ := nak_end (k := 0) _ _ (Cl w pr G g D true) (by omega) hj (fit3N G D) (by simp) (by rw [ht]) (hp _ _ _ _) (by rw [ht]; exact hs)
    exact ⟨f, h1, h2, by rw [h3]; rfl, by rw [h3]; rfl, h4⟩
theorem alive27 : law27_alive 200000 = some true := by decide +kernel
section
variable {pr : Bool} {own fresh x : Int}
theorem lr1 (pre : List Op) (h : (findS pre 1).2 = false) : lrj pr pre (1, b2 x) = false := by
 unfold lrj
 rw [h]
 simp [may, b2_len, sz]
theorem lr3 (pre : List Op) (h : (findS pre 3).2 = false) : lrj true pre (3, chapL) = false := by
 unfold lrj
 rw [h]
 simp [may, sz, chapL]
theorem lr5 (pre : List Op) (h : (findS pre 5).2 = false) : lrj pr pre (5, b4 x) = false := by
 unfold lrj
 rw [h]
 simp [may, b4_len, sz]
theorem ln1 (hx : 0 ≤ x ∧ x < 65536) (h : 128 ≤ x) : lnk own fresh (1, b2 x) = none := by
 have e : ¬ valS (b2 x) < 128 := by rw [val_b2 hx]; omega
 simp [lnk, betS, e]
theorem ln3 : lnk own fresh (3, chapL) = none := by simp [lnk, betS]
theorem ln5 (hx : 0 ≤ x ∧ x < 4294967296) (h : ¬ x = 0) (h' : ¬ x = own) : lnk own fresh (5, b4 x) = none := by
 simp [lnk, betS, val_b4 hx, h, h']
end
theorem jud_q {m g own fresh : Int} (hm : 0 ≤ m ∧ m < 65536) (hg : 0 ≤ g ∧ g < 4294967296) (h1 : m = 0 ∨ 128 ≤ m) (h5 : g = 0 ∨ ¬ g = own) : ljudS (loS (m, g, true)) true own fresh = (2, loS (m, g, true)) := by
 unfold ljudS loS
 have f31 : (findS [(1, b2 m)] 3).2 = false := by simp [findS]
 have f53 : (findS [(3, chapL)] 5).2 = false := by simp [findS]
 have f513 : (findS [(1, b2 m), (3, chapL)] 5).2 = false := by simp [findS]
 by_cases a : m = 0 <;> by_cases b : g = 0
 ·simp only [a, b, if_true, List.nil_append, List.append_nil]
  rw [jud1 (lr3 [] rfl) ln3]; rfl
 ·simp only [a, b, if_true, if_false, List.nil_append, List.singleton_append]
  rw [jud2 (lr3 [] rfl) ln3 (lr5 _ f53) (ln5 hg b (by omega))]; rfl
 ·simp only [a, b, if_true, if_false, List.append_nil, List.singleton_append]
  rw [jud2 (lr1 [] rfl) (ln1 hm (by omega)) (lr3 _ f31) ln3]; rfl
 ·simp only [a, b, if_true, if_false, List.singleton_append, List.cons_append, List.nil_append]
  rw [jud3 (lr1 [] rfl) (ln1 hm (by omega)) (lr3 _ f31) ln3 (lr5 _ f513) (ln5 hg b (by omega))]; rfl
theorem jud_p {m g own fresh : Int} {pr : Bool} (hm : 0 ≤ m ∧ m < 65536) (hg : 0 ≤ g ∧ g < 4294967296) (h1 : m = 0 ∨ 128 ≤ m) (h5 : g = 0 ∨ ¬ g = own) : ljudS (loS (m, g, false)) pr own fresh = (2, loS (m, g, false)) := by
 unfold ljudS loS
 have f51 : (findS [(1, b2 m)] 5).2 = false := by simp [findS]
 by_cases a : m = 0 <;> by_cases b : g = 0
 ·simp only [a, b, if_true, List.nil_append, List.append_nil, Bool.false_eq_true, if_false]
  rfl
 ·simp only [a, b, if_true, if_false, List.nil_append, Bool.false_eq_true]
  rw [jud1 (lr5 [] rfl) (ln5 hg b (by omega))]; rfl
 ·simp only [a, b, if_true, if_false, List.append_nil, Bool.false_eq_true]
  rw [jud1 (lr1 [] rfl) (ln1 hm (by omega))]; rfl
 ·simp only [a, b, if_true, if_false, List.singleton_append, List.append_nil, Bool.false_eq_true]
  rw [jud2 (lr1 [] rfl) (ln1 hm (by omega)) (lr5 _ f51) (ln5 hg b (by omega))]; rfl
theorem agree_lcp {pm pg qm qg : Int} {ps qs : Sd} (a1 : 0 ≤ pm ∧ pm < 65536) (a2 : 0 ≤ pg ∧ pg < 4294967296) (b1 : 0 ≤ qm ∧ qm < 65536) (b2 : 0 ≤ qg ∧ qg < 4294967296) (c1 : pm = 0 ∨ 128 ≤ pm) (c2 : qm = 0 ∨ 128 ≤ qm) (c3 : ¬ pg = qg ∨ pg = 0) :
  ∃ f, Runs 12 (stA (false, (pm, pg, false), true, ps) (false, (qm, qg, true), false, qs)) f ∧ EndQ f ∧ f.1.1 = (false, (pm, pg, false), true, ps) ∧ f.2.1.1 = (false, (qm, qg, true), false, qs) := by
 have hp : judR (false, (pm, pg, false), true, ps) (askS (false, (qm, qg, true), false, qs)) = (2, askS (false, (qm, qg, true), false, qs)) := jud_q b1 b2 c2 (show qg = 0 ∨ ¬ qg = pg by omega)
 have hq : judR (false, (qm, qg, true), false, qs) (askS (false, (pm, pg, false), true, ps)) = (2, askS (false, (pm, pg, false), true, ps)) := jud_p a1 a2 c1 (show pg = 0 ∨ ¬ pg = qg by omega)
 exact ⟨_, run_fine _ _ hq hp, ⟨rfl, rfl, rfl, rfl⟩, rfl, rfl⟩
theorem acked_loop (l : List Op) (hl : l.length ≤ 1000) (hs : ∀ o ∈ l, o.2.length ≤ 1000) (m : Nat) : ∀ (M i : Nat), m + i = l.length → m < M →
  gl (fun X c => nego_Nego_Acked_L3 200000 X c.1.1 c.1.2.1 c.1.2.2.1 c.2.1) M ((l, ((l.length : Int), ((i : Int), ()))), (l.take i, ())) = some ((), (l, ())) := by
 induction m with
 | zero =>
  intro M i hm hM
  obtain ⟨M, rfl⟩ : ∃ k, M = k + 1 := ⟨M - 1, by omega⟩
  have c1 : decide ((i : Int) < (l.length : Int)) = false := decide_eq_false (by omega)
  have key : ∀ X, nego_Nego_Acked_L3 200000 X l (l.length : Int) (i : Int) (l.take i) = some ((), (l, ())) := fun X => by
   simp only [nego_Nego_Acked_L3, c1, cond_false, List.take_of_length_le (show l.length ≤ i by omega)]
  exact key _
 | succ m ih =>
  intro M i hm hM
  obtain ⟨M, rfl⟩ : ∃ k, M = k + 1 := ⟨M - 1, by omega⟩
  have hlt : i < l.length := by omega
  have c1 : decide ((i : Int) < (l.length : Int)) = true := decide_eq_true (by omega)
  have c2 : IntKind.wrap .i64 ((i : Int) + 1) = ((i + 1 : Nat) : Int) := by rw [wrap64 (by omega) (by omega)]; omega
  have hc := clone_ok (N := 200000) l[i].2 (by have := hs _ (List.getElem_mem hlt); omega)
  have hr : roomB ((l.take i).length + ([(l[i].1, l[i].2)] : List Op).length) 32 = true := roomB_of (by have := big_len; simp; omega) (by simp; omega)
  have ih' := ih M (i + 1) (by omega) (by omega)
  rw [take_snoc l i hlt] at ih'
  have key : ∀ X, nego_Nego_Acked_L3 200000 X l (l.length : Int) (i : Int) (l.take i) = X ((l, ((l.length : Int), (((i + 1 : Nat) : Int), ()))), (l.take i ++ [l[i]], ())) := fun X => by
   simp only [nego_Nego_Acked_L3, c1, c2, cond_true, getI_lt l i hlt, Option.bind_some, hc, hr]
  exact (key _).trans ih'
theorem acked_is (n : Nt) (hl : n.2.2.2.2.2.1.length ≤ 1000) (hs : ∀ o ∈ n.2.2.2.2.2.1, o.2.length ≤ 1000) : nego_Nego_Acked 200000 n = some n.2.2.2.2.2.1 := by
 have h := acked_loop n.2.2.2.2.2.1 hl hs n.2.2.2.2.2.1.length 200000 0 (by omega) (by omega)
 unfold nego_Nego_Acked
 exact (congrArg (fun o => Option.bind o _) (show nego_Nego_Acked_L3_R 200000 ((n.2.2.2.2.2.1, ((n.2.2.2.2.2.1.length : Int), ((0 : Int), ()))), ([], ())) = _ from h)).trans rfl
theorem acked_ask {n : Nt} {r : Rt} (h : n.2.2.2.2.2.1 = askS r) : nego_Nego_Acked 200000 n = some (askS r) := by
 have f := fit_ask r
 rw [← h]
 exact acked_is n (by rw [h]; have := f.2.1; omega) (fun o ho => by rw [h] at ho; have := f.2.2 o ho; omega)
theorem same_ask (r : Rt) : opts_Same 200000 (askS r) (askS r) = some true := by
 have f := fit_ask r
 rw [osame_ok (N := 200000) _ _ f.1 f.1 (by have := f.2.1; omega) (by omega), decide_eq_true rfl]
theorem wf_rules {r : Rt} (h1 : wfT (.pair .bool (.pair (.pair (.int .u16) (.pair (.int .u32) .bool)) (.pair .bool (.pair .bool (.pair (.int .u32) (.pair (.int .u32) (.pair (.int .u32) .bool))))))) r) : wfR r := ⟨⟨wf_u16 h1.2.1.1, wf_u32' h1.2.1.2.1⟩, wf_u32' h1.2.2.2.2.1, wf_u32' h1.2.2.2.2.2.1, wf_u32' h1.2.2.2.2.2.2.1⟩
theorem law_ip (p q : Rt) (hl : ([p, q] : List Rt).length = 2) (hp : wfR p) (hq : wfR q) : law27_NegoAgrees 200000 ⟨[p, q], hl⟩ true = some true := by
 have g0 : getI ([p, q] : List Rt) (0 : Int) = some p := rfl
 have g1 : getI ([p, q] : List Rt) (1 : Int) = some q := rfl
 obtain ⟨pi, ⟨pm, pg, pv⟩, pp, ps, po, pgv, pd, pa⟩ := p
 obtain ⟨qi, ⟨qm, qg, qv⟩, qp, qs, qo, G, D, qa⟩ := q
 obtain ⟨⟨a1, a2⟩, a3, a4, a5⟩ := hp
 obtain ⟨⟨b1, b2⟩, b3, b4, b5⟩ := hq
 simp only at a1 a2 a3 a4 a5 b1 b2 b3 b4 b5
 by_cases h1 : qo = 0
 ·simp only [law27_NegoAgrees, g0, g1, Option.bind_some, cond_true, decide_eq_true h1, alive27]
 by_cases h2 : G = 0
 ·simp only [law27_NegoAgrees, g0, g1, Option.bind_some, cond_true, cond_false, decide_eq_false h1, decide_eq_true h2, alive27]
 obtain ⟨f, hr, ⟨e1, e2, e3, e4⟩, hG, hi, hs⟩ := agree_ip (w := (pm, pg, false)) (w' := (qm, qg, true)) (pr := true) (pr' := false) (g := pgv) (qa := qa) (asks := pa) a3 b4 b5 a5 b3 h1 h2
 have ht := talk_ok (Cl (pm, pg, false) true po pgv pd pa) (Sv (qm, qg, true) false qo G D qa) ⟨⟨a1, a2⟩, a3, a4, a5⟩ ⟨⟨b1, b2⟩, b3, b4, b5⟩ hr
 obtain ⟨t1, t2, t3⟩ := ht
 generalize f.1 = a at *
 generalize f.2.1 = b at *
 have k1 := acked_ask e3
 have k2 := acked_ask e4
 have o1 : ipcpo_Options 200000 a.1.2.2.2 = some (askS a.1) := by
  rw [iopts_is (N := 200000) a.1.2.2.2 t2.r.2 (by omega)]
  unfold askS
  rw [hi]
  rfl
 have o2 : ipcpo_Options 200000 b.1.2.2.2 = some (askS b.1) := by
  rw [iopts_is (N := 200000) b.1.2.2.2 t3.r.2 (by omega)]
  unfold askS
  rw [hs]
  rfl
 have t1' : law27_talk 200000 ((true, ((pm, (pg, false)), (true, (false, (po, (pgv, (pd, pa))))))), ((0 : Int), (((0 : Int), (0 : Int)), ((0 : Int), (([] : List Op), (([] : List Op), (0 : Int))))))) ((true, ((qm, (qg, true)), (false, (true, (qo, (G, (D, qa))))))), ((0 : Int), (((0 : Int), (0 : Int)), ((0 : Int), (([] : List Op), (([] : List Op), (0 : Int))))))) (12 : Int) = some (a, b) := t1
 simp only [law27_NegoAgrees, g0, g1, Option.bind_some, cond_true, cond_false, decide_eq_false h1, decide_eq_false h2, t1', decide_eq_true e1, decide_eq_true e2, decide_eq_true hG, Bool.not_true, Prod.eta, k1, k2, o1, o2, same_ask, alive27]
theorem decP (P : Prop) [Decidable P] : (P ∧ decide P = true) ∨ (¬ P ∧ decide P = false) := by
 by_cases h : P
 ·exact .inl ⟨h, decide_eq_true h⟩
 ·exact .inr ⟨h, decide_eq_false h⟩
theorem decT_true {d : Td} {a b : T d} (h : a = b) : (@Decidable.decide (a = b) (decT d a b)) = true := @decide_eq_true _ (decT d a b) h
theorem law_lcp (p q : Rt) (hl : ([p, q] : List Rt).length = 2) (hp : wfR p) (hq : wfR q) : law27_NegoAgrees 200000 ⟨[p, q], hl⟩ false = some true := by
 have g0 : getI ([p, q] : List Rt) (0 : Int) = some p := rfl
 have g1 : getI ([p, q] : List Rt) (1 : Int) = some q := rfl
 obtain ⟨pi, ⟨pm, pg, pv⟩, pp, ps, po, pgv, pd, pa⟩ := p
 obtain ⟨qi, ⟨qm, qg, qv⟩, qp, qs, qo, G, D, qa⟩ := q
 obtain ⟨⟨a1, a2⟩, a3, a4, a5⟩ := hp
 obtain ⟨⟨b1, b2⟩, b3, b4, b5⟩ := hq
 simp only at a1 a2 a3 a4 a5 b1 b2 b3 b4 b5
 have main : (pm = 0 ∨ 128 ≤ pm) → (qm = 0 ∨ 128 ≤ qm) → (¬ pg = qg ∨ pg = 0) → law27_NegoAgrees 200000 ⟨[(pi, (pm, pg, pv), pp, ps, po, pgv, pd, pa), (qi, (qm, qg, qv), qp, qs, qo, G, D, qa)], hl⟩ false = some true := by
  intro c1 c2 c3
  obtain ⟨f, hr, ⟨e1, e2, e3, e4⟩, hi, hs⟩ := agree_lcp (ps := (false, po, pgv, pd, pa)) (qs := (true, qo, G, D, qa)) a1 a2 b1 b2 c1 c2 c3
  have ht := talk_ok _ _ ⟨⟨a1, a2⟩, a3, a4, a5⟩ ⟨⟨b1, b2⟩, b3, b4, b5⟩ hr
  obtain ⟨t1, t2, t3⟩ := ht
  generalize f.1 = a at *
  generalize f.2.1 = b at *
  have k1 := acked_ask e3
  have k2 := acked_ask e4
  have o1 : lcpo_Options 200000 a.1.2.1 = some (askS a.1) := by
   rw [lopts_is (N := 200000) a.1.2.1 t2.r.1 (by omega)]
   unfold askS
   rw [hi]
   rfl
  have o2 : lcpo_Options 200000 b.1.2.1 = some (askS b.1) := by
   rw [lopts_is (N := 200000) b.1.2.1 t3.r.1 (by omega)]
   unfold askS
   rw [hs]
   rfl
  have t1' : law27_talk 200000 ((false, ((pm, (pg, false)), (true, (false, (po, (pgv, (pd, pa))))))), ((0 : Int), (((0 : Int), (0 : Int)), ((0 : Int), (([] : List Op), (([] : List Op), (0 : Int))))))) ((false, ((qm, (qg, true)), (false, (true, (qo, (G, (D, qa))))))), ((0 : Int), (((0 : Int), (0 : Int)), ((0 : Int), (([] : List Op), (([] : List Op), (0 : Int))))))) (12 : Int) = some (a, b) := t1
  have ew : a.1.2.1 = (pm, (pg, false)) := by rw [hi]
  have w1 : wfB (.pair (.int .u16) (.pair (.int .u32) .bool)) a.1.2.1 = true := wfB_want a.1.2.1 t2.r.1
  have w2 : wfB (.pair (.int .u16) (.pair (.int .u32) .bool)) (pm, (pg, false)) = true := wfB_want (pm, (pg, false)) ⟨a1, a2⟩
  have dw := decT_true (d := .pair (.int .u16) (.pair (.int .u32) .bool)) (a := a.1.2.1) (b := (pm, (pg, false))) ew
  rcases decP (0 < pm) with ⟨x1, y1⟩ | ⟨x1, y1⟩ <;> rcases decP (pm < 128) with ⟨x2, y2⟩ | ⟨x2, y2⟩ <;> rcases decP (0 < qm) with ⟨x3, y3⟩ | ⟨x3, y3⟩ <;> rcases decP (qm < 128) with ⟨x4, y4⟩ | ⟨x4, y4⟩ <;> rcases decP (pg = qg) with ⟨x5, y5⟩ | ⟨x5, y5⟩ <;> rcases decP (pg = 0) with ⟨x6, y6⟩ | ⟨x6, y6⟩ <;>
   first
    | (exfalso; omega)
    | simp only [law27_NegoAgrees, g0, g1, Option.bind_some, cond_true, cond_false, y1, y2, y3, y4, y5, y6, Bool.not_true, Bool.not_false, t1', decide_eq_true e1, decide_eq_true e2, Prod.eta, k1, k2, o1, o2, same_ask, alive27, w1, w2, Bool.and_self, dw]
 by_cases c1 : pm = 0 ∨ 128 ≤ pm
 ·by_cases c2 : qm = 0 ∨ 128 ≤ qm
  ·by_cases c3 : ¬ pg = qg ∨ pg = 0
   ·exact main c1 c2 c3
   ·have y5 : decide (pg = qg) = true := decide_eq_true (by omega)
    have y6 : decide (pg = 0) = false := decide_eq_false (by omega)
    rcases decP (0 < pm) with ⟨x1, y1⟩ | ⟨x1, y1⟩ <;> rcases decP (pm < 128) with ⟨x2, y2⟩ | ⟨x2, y2⟩ <;> rcases decP (0 < qm) with ⟨x3, y3⟩ | ⟨x3, y3⟩ <;> rcases decP (qm < 128) with ⟨x4, y4⟩ | ⟨x4, y4⟩ <;>
     first
      | (exfalso; omega)
      | simp only [law27_NegoAgrees, g0, g1, Option.bind_some, cond_true, cond_false, y1, y2, y3, y4, y5, y6, Bool.not_true, Bool.not_false, alive27]
  ·have y3 : decide (0 < qm) = true := decide_eq_true (by omega)
   have y4 : decide (qm < 128) = true := decide_eq_true (by omega)
   rcases decP (0 < pm) with ⟨x1, y1⟩ | ⟨x1, y1⟩ <;> rcases decP (pm < 128) with ⟨x2, y2⟩ | ⟨x2, y2⟩ <;>
    first
     | (exfalso; omega)
     | simp only [law27_NegoAgrees, g0, g1, Option.bind_some, cond_true, cond_false, y1, y2, y3, y4, Bool.not_true, Bool.not_false, alive27]
 ·have y1 : decide (0 < pm) = true := decide_eq_true (by omega)
  have y2 : decide (pm < 128) = true := decide_eq_true (by omega)
  simp only [law27_NegoAgrees, g0, g1, Option.bind_some, cond_true, cond_false, y1, y2, Bool.not_true, Bool.not_false, alive27]
theorem law_NegoAgrees (l : Arr Rt 2) (ip : Bool) (h1 : wfT (.arr 2 (.pair .bool (.pair (.pair (.int .u16) (.pair (.int .u32) .bool)) (.pair .bool (.pair .bool (.pair (.int .u32) (.pair (.int .u32) (.pair (.int .u32) .bool)))))))) l) (h2 : wfT .bool ip) : law27_NegoAgrees 200000 l ip = some true := by
 obtain ⟨l, hl⟩ := l
 match l, hl with
 | [p, q], hl =>
  have hp := wf_rules (h1 p (by simp))
  have hq := wf_rules (h1 q (by simp))
  cases ip with
  | true => exact law_ip p q hl hp hq
  | false => exact law_lcp p q hl hp hq
end Go.Proofs.Ytjomcoignnlghaa
