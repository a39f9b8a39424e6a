/-
  Parts of my own, one behind the other: QPL0, QPL1, QPL2, QPL3, QPL4, QPg0, QPg1, QPg2, QPr0, QPr1, QPg3, QPg4, QPg5, QPg6, QPr2, QPr3, QPr4, QPr5, QPr6, QPr7.
-/
import Derived.Test.YtjomcoignnlghaaGreatMrg5
namespace Go.Proofs.YtjomcoignnlghaaGreat
set_option maxRecDepth 100000
open Go.RowKit
set_option linter.unusedVariables false
set_option linter.unusedSimpArgs false
set_option maxRecDepth 100000
section
variable {N : Nat}
def findS (l : List Op) (k : Int) : Op × Bool := match l.find? (fun o => decide (o.1 = k)) with
 | some o => (o, true)
 | none => ((0, []), false)
theorem find_step {l : List Op} {k : Int} {i : Nat} (hi : i < l.length) : (l.drop i).find? (fun o => decide (o.1 = k)) = if l[i].1 = k then some l[i] else (l.drop (i + 1)).find? (fun o => decide (o.1 = k)) := by
 rw [List.drop_eq_getElem_cons hi, List.find?_cons]
 by_cases h : l[i].1 = k <;> simp [h]
theorem find_ok (l : List Op) (k : Int) (hl : l.length ≤ 1000) (hs : ∀ o ∈ l, o.2.length ≤ 1000) (hN : 10000 ≤ N) : opts_Find N l k = some (findS l k) := by
 obtain ⟨o, h1, h2⟩ := gl_inv (G := fun (X : ((List Op × Int × Int × Unit) × Int × Op × Unit) → Option (((Int × Unit) × Int × Op × Unit) ⊕ (Unit × Int × Op × Unit))) c => oFI_L2 N X c.1.1 c.1.2.1 c.1.2.2.1 c.2.1 c.2.2.1)
  (fun n c => ∃ i : Nat, c = ((l, ((l.length : Int), ((i : Int), ()))), (k, (((0 : Int), ([] : List Int)), ()))) ∧ i ≤ l.length ∧ n = l.length - i ∧ (l.drop i).find? (fun o => decide (o.1 = k)) = l.find? (fun o => decide (o.1 = k)))
  (fun o => (∃ (i : Nat) (hi : i < l.length), o = .inl (((i : Int), ()), (k, (((0 : Int), ([] : List Int)), ()))) ∧ l.find? (fun o => decide (o.1 = k)) = some l[i]) ∨ (o = .inr ((), (k, (((0 : Int), ([] : List Int)), ()))) ∧ l.find? (fun o => decide (o.1 = k)) = none)) (fun X n c ⟨i, hc, hi, hn, ht⟩ => by
   subst hc
   rcases Nat.lt_or_ge i l.length with hlt | hge
   ·have c1 : ((i : Int) < (l.length : Int)) := by omega
    have c2 : IntKind.wrap .i64 ((i : Int) + 1) = ((i + 1 : Nat) : Int) := by rw [wrap64 (by omega) (by omega)]; omega
    rw [find_step hlt] at ht
    by_cases he : l[i].1 = k
    ·left
     refine ⟨.inl (((i : Int), ()), (k, (((0 : Int), ([] : List Int)), ()))), ?_, .inl ⟨i, hlt, rfl, ?_⟩⟩
     ·simp only [oFI_L2, c1, decide_true, cond_true, getI_lt l i hlt, Option.bind_some, he]
     ·rw [if_pos he] at ht; exact ht.symm
    ·right
     refine ⟨l.length - (i + 1), ((l, ((l.length : Int), (((i + 1 : Nat) : Int), ()))), (k, (((0 : Int), ([] : List Int)), ()))), by omega, ⟨i + 1, rfl, hlt, rfl, ?_⟩, ?_⟩
     ·rw [if_neg he] at ht; exact ht
     ·simp only [oFI_L2, c1, decide_true, cond_true, getI_lt l i hlt, Option.bind_some, he, decide_false, cond_false, c2]
   ·left
    have c1 : ¬ ((i : Int) < (l.length : Int)) := by omega
    refine ⟨.inr ((), (k, (((0 : Int), ([] : List Int)), ()))), by simp only [oFI_L2, c1, decide_false, cond_false], .inr ⟨rfl, ?_⟩⟩
    rw [List.drop_of_length_le hge] at ht
    exact ht.symm) N l.length ((l, ((l.length : Int), ((0 : Int), ()))), (k, (((0 : Int), ([] : List Int)), ()))) (by omega) ⟨0, rfl, by omega, by omega, by simp⟩
 unfold opts_Find oFI_L2_R findS
 rw [h1]
 rcases h2 with ⟨i, hi, rfl, h2⟩ | ⟨rfl, h2⟩
 ·rw [h2]
  have c1 : ¬ ((i : Int) < 0) := by omega
  have hc : opts_clone N (l[i].1, l[i].2) = some l[i] := by
   unfold opts_clone
   rw [clone_ok _ (by have := hs _ (List.getElem_mem hi); show l[i].2.length ≤ _; omega)]
   rfl
  simp only [Option.bind_some, Sum.elim_inl, c1, decide_false, cond_false, getI_lt l i hi, hc]
 ·rw [h2]; rfl
theorem ref_find_ok (l : List Op) (k : Int) (hl : l.length ≤ 1000) (hN : 10000 ≤ N) : ref21_Find N l k = some (findS l k) := by
 obtain ⟨o, h1, h2⟩ := gl_inv (G := fun (X : ((List Op × Int × Int × Unit) × Op × Unit) → Option (((Bool × Unit) × Op × Unit) ⊕ (Unit × Op × Unit))) c => ref21_Find_L2 N X c.1.1 c.1.2.1 c.1.2.2.1 c.2.1)
  (fun n c => ∃ i : Nat, c = ((l, (k, ((i : Int), ()))), (((0 : Int), ([] : List Int)), ())) ∧ i ≤ l.length ∧ n = l.length - i ∧ (l.drop i).find? (fun o => decide (o.1 = k)) = l.find? (fun o => decide (o.1 = k)))
  (fun o => (∃ x, o = .inl ((true, ()), (x, ())) ∧ l.find? (fun o => decide (o.1 = k)) = some x) ∨ (o = .inr ((), (((0 : Int), ([] : List Int)), ())) ∧ l.find? (fun o => decide (o.1 = k)) = none)) (fun X n c ⟨i, hc, hi, hn, ht⟩ => by
   subst hc
   rcases Nat.lt_or_ge i l.length with hlt | hge
   ·have c1 : ((i : Int) < (l.length : Int)) := by omega
    have c2 : IntKind.wrap .i64 ((i : Int) + 1) = ((i + 1 : Nat) : Int) := by rw [wrap64 (by omega) (by omega)]; omega
    rw [find_step hlt] at ht
    by_cases he : l[i].1 = k
    ·left
     refine ⟨.inl ((true, ()), (l[i], ())), ?_, .inl ⟨_, rfl, ?_⟩⟩
     ·simp only [ref21_Find_L2, c1, decide_true, cond_true, getI_lt l i hlt, Option.bind_some, he]
      (try rw [← he])
     ·rw [if_pos he] at ht; exact ht.symm
    ·right
     refine ⟨l.length - (i + 1), ((l, (k, (((i + 1 : Nat) : Int), ()))), (((0 : Int), ([] : List Int)), ())), by omega, ⟨i + 1, rfl, hlt, rfl, ?_⟩, ?_⟩
     ·rw [if_neg he] at ht; exact ht
     ·simp only [ref21_Find_L2, c1, decide_true, cond_true, getI_lt l i hlt, Option.bind_some, he, decide_false, cond_false, c2]
   ·left
    have c1 : ¬ ((i : Int) < (l.length : Int)) := by omega
    refine ⟨.inr ((), (((0 : Int), ([] : List Int)), ())), by simp only [ref21_Find_L2, c1, decide_false, cond_false], .inr ⟨rfl, ?_⟩⟩
    rw [List.drop_of_length_le hge] at ht
    exact ht.symm) N l.length ((l, (k, ((0 : Int), ()))), (((0 : Int), ([] : List Int)), ())) (by omega) ⟨0, rfl, by omega, by omega, by simp⟩
 unfold ref21_Find ref21_Find_L2_R findS
 rw [h1]
 rcases h2 with ⟨x, rfl, h2⟩ | ⟨rfl, h2⟩
 ·rw [h2]; rfl
 ·rw [h2]; rfl
def amS (l all : List Op) : Bool := decide (l.Sublist all)
theorem amS_nil (all : List Op) : amS [] all = true := decide_eq_true (List.nil_sublist _)
theorem amS_end (x : Op) (l : List Op) : amS (x :: l) [] = false := decide_eq_false (fun h => by cases h)
theorem amS_eq (x : Op) (l all : List Op) : amS (x :: l) (x :: all) = amS l all := by
 unfold amS
 by_cases h : l.Sublist all
 ·rw [decide_eq_true h, decide_eq_true (h.cons_cons x)]
 ·rw [decide_eq_false h, decide_eq_false (fun h' => h (List.cons_sublist_cons.1 h'))]
theorem amS_ne {x y : Op} (h : y ≠ x) (l all : List Op) : amS (x :: l) (y :: all) = amS (x :: l) all := by
 unfold amS
 by_cases h1 : (x :: l).Sublist all
 ·rw [decide_eq_true h1, decide_eq_true (h1.cons y)]
 ·rw [decide_eq_false h1, decide_eq_false (fun h' => by
   cases h' with
   | cons _ h2 => exact h1 h2
   | cons_cons _ h2 => exact h rfl)]
theorem idx_ok (all : List Op) (o : Op) (hw : wfO all) (ho : AllB o.2) (hl : all.length ≤ 1000) (hN : 10000 ≤ N) : ∃ r, oAI_L2_R N ((all, ((all.length : Int), ((0 : Int), ()))), (o, ())) = some r ∧ ((∃ (j : Nat), j < all.length ∧ r = .inl (((j : Int), ()), (o, ())) ∧ ∀ l, amS (o :: l) all = amS l (all.drop (j + 1))) ∨ (r = .inr ((), (o, ())) ∧ ∀ l, amS (o :: l) all = false)) := by
 refine gl_inv (G := fun (X : ((List Op × Int × Int × Unit) × Op × Unit) → Option (((Int × Unit) × Op × Unit) ⊕ (Unit × Op × Unit))) c => oAI_L2 N X c.1.1 c.1.2.1 c.1.2.2.1 c.2.1)
  (fun n c => ∃ i : Nat, c = ((all, ((all.length : Int), ((i : Int), ()))), (o, ())) ∧ i ≤ all.length ∧ n = all.length - i ∧ ∀ l, amS (o :: l) all = amS (o :: l) (all.drop i)) _ (fun X n c ⟨i, hc, hi, hn, ht⟩ => ?_) N all.length ((all, ((all.length : Int), ((0 : Int), ()))), (o, ())) (by omega) ⟨0, rfl, by omega, by omega, by simp⟩
 subst hc
 rcases Nat.lt_or_ge i all.length with hlt | hge
 ·have c1 : ((i : Int) < (all.length : Int)) := by omega
  have c2 : IntKind.wrap .i64 ((i : Int) + 1) = ((i + 1 : Nat) : Int) := by rw [wrap64 (by omega) (by omega)]; omega
  have eq : opts_equal N (all[i].1, all[i].2) (o.1, o.2) = some (decide (all[i] = o)) := equal_ok (N := N) all[i] o (hw _ (List.getElem_mem hlt)).2 ho
  by_cases he : all[i] = o
  ·left
   refine ⟨.inl (((i : Int), ()), (o, ())), ?_, .inl ⟨i, hlt, rfl, fun l => ?_⟩⟩
   ·simp only [oAI_L2, c1, decide_true, cond_true, getI_lt all i hlt, Option.bind_some, eq]
    simp only [he, decide_true, cond_true]
   ·rw [ht, List.drop_eq_getElem_cons hlt, he, amS_eq]
  ·right
   refine ⟨all.length - (i + 1), ((all, ((all.length : Int), (((i + 1 : Nat) : Int), ()))), (o, ())), by omega, ⟨i + 1, rfl, hlt, rfl, fun l => ?_⟩, ?_⟩
   ·rw [ht, List.drop_eq_getElem_cons hlt, amS_ne he]
   ·simp only [oAI_L2, c1, decide_true, cond_true, getI_lt all i hlt, Option.bind_some, eq]
    simp only [he, decide_false, cond_false, c2]
 ·left
  have c1 : ¬ ((i : Int) < (all.length : Int)) := by omega
  refine ⟨.inr ((), (o, ())), by simp only [oAI_L2, c1, decide_false, cond_false], .inr ⟨rfl, fun l => ?_⟩⟩
  rw [ht, List.drop_of_length_le hge, amS_end]
theorem among_ok (l all : List Op) (hw : wfO l) (hwa : wfO all) (hl : l.length ≤ 1000) (hla : all.length ≤ 1000) (hN : 10000 ≤ N) : opts_Among N l all = some (amS l all) := by
 have key : ∀ (k i : Nat) (all : List Op), l.length - i < k → i ≤ l.length → all.length ≤ 1000 → wfO all → gl (fun (X : ((List Op × List Op × Int × Int × Unit) × Unit) → Option (((Bool × Unit) × Unit) ⊕ (Unit × Unit))) c => opts_Among_L2 N X c.1.1 c.1.2.1 c.1.2.2.1 c.1.2.2.2.1) k ((all, (l, ((l.length : Int), ((i : Int), ())))), ()) = some (if amS (l.drop i) all = true then .inr ((), ()) else .inl ((false, ()), ())) := by
  intro k
  induction k with
  | zero => intro i all h; omega
  | succ k ih =>
   intro i all h hi ha hwa
   rw [gl_succ]
   rcases Nat.lt_or_ge i l.length with hlt | hge
   ·have c1 : ((i : Int) < (l.length : Int)) := by omega
    have c2 : IntKind.wrap .i64 ((i : Int) + 1) = ((i + 1 : Nat) : Int) := by rw [wrap64 (by omega) (by omega)]; omega
    obtain ⟨r, h1, h2⟩ := idx_ok (N := N) all l[i] hwa (hw _ (List.getElem_mem hlt)).2 ha hN
    have h1' : oAI_L2_R N ((all, ((all.length : Int), ((0 : Int), ()))), ((l[i].1, l[i].2), ())) = some r := h1
    rw [List.drop_eq_getElem_cons hlt]
    rcases h2 with ⟨j, hj, rfl, h2⟩ | ⟨rfl, h2⟩
    ·have c3 : ¬ ((j : Int) < 0) := by omega
     have c4 : IntKind.wrap .i64 ((j : Int) + 1) = ((j + 1 : Nat) : Int) := by rw [wrap64 (by omega) (by omega)]; omega
     rw [h2]
     simp only [opts_Among_L2, c1, decide_true, cond_true, getI_lt l i hlt, Option.bind_some, h1', Sum.elim_inl, c3, decide_false, cond_false, c4, dropI_nat all (a := ((j + 1 : Nat) : Int)) (i := j + 1) rfl hj, c2]
     exact ih (i + 1) (all.drop (j + 1)) (by omega) hlt (by rw [List.length_drop]; omega) (fun o ho => hwa o (List.mem_of_mem_drop ho))
    ·rw [h2]
     simp only [opts_Among_L2, c1, decide_true, cond_true, getI_lt l i hlt, Option.bind_some, h1', Sum.elim_inr]
     rfl
   ·have c1 : ¬ ((i : Int) < (l.length : Int)) := by omega
    rw [List.drop_of_length_le hge, amS_nil]
    simp only [opts_Among_L2, c1, decide_false, cond_false, if_true]
 have h := key N 0 all (by omega) (by omega) hla hwa
 unfold opts_Among opts_Among_L2_R
 rw [show ((0 : Int)) = ((0 : Nat) : Int) from rfl, h, List.drop_zero]
 cases amS l all <;> rfl
end
def sz (k : Int) : Int := if k = 1 then 2 else if k = 3 then 3 else if k = 5 then 4 else if k = 7 then 0 else if k = 8 then 0 else -1
def may (o : Op) (proves : Bool) : Bool := decide ((o.2.length : Int) = sz o.1) && (!decide (o.1 = 3) || proves)
section
variable {N : Nat}
theorem lput4 (n : Int) (h : 0 ≤ n ∧ n < 18446744073709551616) (hN : 100 ≤ N) : octs_Put N n 4 false = some ([n / 16777216 % 256, n / 65536 % 256, n / 256 % 256, n % 256], 0) := put4 n h hN
theorem lbig2 (n : Int) (h : 0 ≤ n ∧ n < 18446744073709551616) (hN : 100 ≤ N) : ref01_Big N n 2 = some [n / 256 % 256, n % 256] := big2 n h hN
theorem lbig4 (n : Int) (h : 0 ≤ n ∧ n < 18446744073709551616) (hN : 100 ≤ N) : ref01_Big N n 4 = some [n / 16777216 % 256, n / 65536 % 256, n / 256 % 256, n % 256] := big4 n h hN
theorem lnum4 (x y z u : Int) (hx : 0 ≤ x ∧ x < 256) (hy : 0 ≤ y ∧ y < 256) (hz : 0 ≤ z ∧ z < 256) (hu : 0 ≤ u ∧ u < 256) (hN : 100 ≤ N) : ref01_Num N [x, y, z, u] = some (((x * 256 + y) * 256 + z) * 256 + u) := num4 x y z u hx hy hz hu hN
theorem wrapU32 {x : Int} (h : 0 ≤ x ∧ x < 4294967296) : IntKind.wrap .u32 x = x := by rw [IntKind.wrap_u32]; omega
end
def NK (l : List Op) (own fresh : Int) (nak : List Op) : Prop := ∀ o ∈ nak, AllB o.2 ∧ ∃ x, findS l o.1 = (x, true) ∧ (own ≠ fresh → fresh ≠ 0 → o ≠ x)
theorem NK.snoc {l : List Op} {own fresh : Int} {nak : List Op} {o : Op} (h : NK l own fresh nak) (h1 : AllB o.2) {x : Op} (h2 : findS l o.1 = (x, true)) (h3 : own ≠ fresh → fresh ≠ 0 → o ≠ x) : NK l own fresh (nak ++ [o]) := fun p hp => by
 rcases List.mem_append.1 hp with h' | h'
 ·exact h p h'
 ·rw [List.mem_singleton] at h'; subst h'; exact ⟨h1, x, h2, h3⟩
section
variable {N : Nat}
theorem wfO_sub {l m : List Op} (h : wfO l) (hs : m.Sublist l) : wfO m := fun o ho => h o (hs.subset ho)
end
theorem wf_u32' {n : Int} (h : (Lit.int .u32 n).wf = true) : 0 ≤ n ∧ n < 4294967296 := by
 simp only [Lit.wf, Bool.and_eq_true, decide_eq_true_eq, IntKind.min, IntKind.max, IntKind.signed, IntKind.bits] at h
 simp at h
 omega
abbrev Wt3 := Int × Int × Bool
theorem wfu32 {n : Int} (h : 0 ≤ n ∧ n < 4294967296) : (Lit.int .u32 n).wf = true := by
 simp only [Lit.wf, Bool.and_eq_true, decide_eq_true_eq, IntKind.min, IntKind.max, IntKind.signed, IntKind.bits]
 simp
 omega
section
variable {N : Nat}
end
section
variable {N : Nat}
def b2 (n : Int) : List Int := [n / 256 % 256, n % 256]
def b4 (n : Int) : List Int := [n / 16777216 % 256, n / 65536 % 256, n / 256 % 256, n % 256]
theorem b4_B (n : Int) : AllB (b4 n) := fun x hx => by
 simp only [b4, List.mem_cons, List.not_mem_nil, or_false] at hx
 rcases hx with rfl | rfl | rfl | rfl <;> omega
def valS (d : List Int) : Int := d.foldl (fun a x => a * 256 + x) 0
def judS (rj : List Op → Op → Bool) (nk : Op → Option Op) : List Op → List Op → List Op × List Op
 | pre, [] => ([], [])
 | pre, o :: l => if rj pre o then (o :: (judS rj nk (pre ++ [o]) l).1, (judS rj nk (pre ++ [o]) l).2) else match nk o with
  | some x => ((judS rj nk (pre ++ [o]) l).1, x :: (judS rj nk (pre ++ [o]) l).2)
  | none => judS rj nk (pre ++ [o]) l
def tellS (l : List Op) (r : List Op × List Op) : Int × List Op := if 0 < r.1.length then (4, r.1) else if 0 < r.2.length then (3, r.2) else (2, l)
theorem judS_sub (rj : List Op → Op → Bool) (nk : Op → Option Op) : ∀ (l pre : List Op), (judS rj nk pre l).1.Sublist l ∧ (judS rj nk pre l).2.length ≤ l.length ∧ ∀ x ∈ (judS rj nk pre l).2, ∃ o ∈ l, nk o = some x
 | [], pre => ⟨List.Sublist.refl _, Nat.le_refl _, fun x h => by cases h⟩
 | o :: l, pre => by
  obtain ⟨h1, h2, h3⟩ := judS_sub rj nk l (pre ++ [o])
  unfold judS
  split
  ·exact ⟨h1.cons_cons o, by simp; omega, fun x hx => by obtain ⟨p, hp, he⟩ := h3 x hx; exact ⟨p, List.mem_cons_of_mem _ hp, he⟩⟩
  ·split
   ·rename_i x hx
    refine ⟨h1.cons o, by simp; omega, fun y hy => ?_⟩
    rcases List.mem_cons.1 hy with rfl | hy
    ·exact ⟨o, List.mem_cons_self, hx⟩
    ·obtain ⟨p, hp, he⟩ := h3 y hy; exact ⟨p, List.mem_cons_of_mem _ hp, he⟩
   ·exact ⟨h1.cons o, by simp; omega, fun x hx => by obtain ⟨p, hp, he⟩ := h3 x hx; exact ⟨p, List.mem_cons_of_mem _ hp, he⟩⟩
end
section
variable {N : Nat}
theorem jget : Jg.octs_Get N = octs_Get N := rfl
theorem jfind : Jg.opts_Find N = opts_Find N := rfl
theorem joption : Jg.ipcpo_option N = ipcpo_option N := rfl
abbrev Sd := Bool × Int × Int × Int × Bool
def wfS (s : Sd) : Prop := (0 ≤ s.2.1 ∧ s.2.1 < 4294967296) ∧ (0 ≤ s.2.2.1 ∧ s.2.2.1 < 4294967296) ∧ (0 ≤ s.2.2.2.1 ∧ s.2.2.2.1 < 4294967296)
def addrS (d : List Int) : Int := if d.length = 4 then valS d else 0
theorem get4S {d : List Int} (hd : AllB d) (hl : d.length = 4) (hN : 100 ≤ N) : octs_Get N d false = some (valS d, 0) ∧ 0 ≤ valS d ∧ valS d < 4294967296 := by
 match d, hl with
 | [x, y, z, u], _ =>
  have bx := hd x (by simp)
  have by' := hd y (by simp)
  have bz := hd z (by simp)
  have bu := hd u (by simp)
  exact ⟨by rw [show octs_Get N [x, y, z, u] false = some (((x * 256 + y) * 256 + z) * 256 + u, 0) from get4 x y z u bx by' bz bu hN]; simp [valS], by simp [valS]; omega⟩
theorem addrS_r {d : List Int} (hd : AllB d) : 0 ≤ addrS d ∧ addrS d < 4294967296 := by
 unfold addrS
 split
 ·rename_i h; exact (get4S (N := 100) hd h (by omega)).2
 ·omega
theorem address_is {d : List Int} (hd : AllB d) (hN : 100 ≤ N) : Jg.ipcpo_address N d = some (addrS d) := by
 unfold Jg.ipcpo_address addrS
 by_cases h : d.length = 4
 ·obtain ⟨h1, h2⟩ := get4S (N := N) hd h hN
  have c1 : ((d.length : Nat) : Int) = 4 := by omega
  rw [jget, if_pos h]
  simp only [c1, decide_true, Bool.not_true, cond_false, h1, Option.bind_some, wrapU32 h2]
 ·have c1 : ¬ ((d.length : Nat) : Int) = 4 := by omega
  rw [if_neg h]
  simp only [c1, decide_false, Bool.not_false, cond_true]
theorem option_is (k a : Int) (ha : 0 ≤ a ∧ a < 4294967296) (hN : 100 ≤ N) : ipcpo_option N k a = some (k, b4 a) := by
 unfold ipcpo_option ipcpo_laid
 have e : IntKind.wrap .u64 a = a := wrapU64 (by omega) (by omega)
 rw [e, lput4 (N := N) a (by omega) hN]
 rfl
def imay (s : Sd) (o : Op) : Bool := if o.2.length = 4 then (if s.1 then decide (o.1 = 3) || (decide (o.1 = 129) && !decide (s.2.2.2.1 = 0)) else decide (o.1 = 3) && !decide (addrS o.2 = 0)) else false
theorem imay_is (s : Sd) (o : Op) (ho : AllB o.2) (hN : 100 ≤ N) : Jg.ipcpo_may N s o = some (imay s o) := by
 unfold Jg.ipcpo_may imay
 by_cases h : o.2.length = 4
 ·have c1 : ((o.2.length : Nat) : Int) = 4 := by omega
  simp only [c1, decide_true, Bool.not_true, cond_false, h, if_true, address_is (N := N) ho hN]
  cases s.1 <;> by_cases h3 : o.1 = 3 <;> by_cases h129 : o.1 = 129 <;> simp only [h3, h129, decide_true, decide_false, cond_true, cond_false, Bool.not_true, Bool.not_false, Option.bind_some, if_true, if_false, Bool.false_eq_true, Bool.true_or, Bool.false_or, Bool.true_and, Bool.false_and] <;> first | rfl | omega | (cases decide (addrS o.2 = 0) <;> rfl) | (cases decide (s.2.2.2.1 = 0) <;> rfl)
 ·have c1 : ¬ ((o.2.length : Nat) : Int) = 4 := by omega
  simp only [c1, decide_false, Bool.not_false, cond_true, h, if_false]
def givS (s : Sd) (k : Int) : Int := if k = 129 then s.2.2.2.1 else s.2.2.1
theorem givS_is (s : Sd) (k : Int) : Jg.ipcpo_gives N s k = some (givS s k) := by
 unfold Jg.ipcpo_gives givS
 by_cases h : k = 129 <;> simp [h]
theorem givS_r {s : Sd} (h : wfS s) (k : Int) : 0 ≤ givS s k ∧ givS s k < 4294967296 := by
 unfold givS
 split
 ·exact h.2.2
 ·exact h.2.1
def irj (s : Sd) (pre : List Op) (o : Op) : Bool := (findS pre o.1).2 || !imay s o
def ink (s : Sd) (o : Op) : Option Op := if s.1 && !decide (addrS o.2 = givS s o.1) then some (o.1, b4 (givS s o.1)) else none
theorem getD_at {l : List Op} {i : Nat} (h : i < l.length) : l.getD i (0, []) = l[i] := by rw [List.getD_eq_getElem?_getD, List.getElem?_eq_getElem h]; rfl
theorem ijudge_loop (s : Sd) (l : List Op) (hw : wfO l) (hsd : wfS s) (hl : l.length ≤ 40) (hs : ∀ o ∈ l, o.2.length ≤ 300) (hN : 10000 ≤ N) : ∀ (m k : Nat) (rej nak : List Op), m + k = l.length → rej.length ≤ k → nak.length ≤ k →
  rr (fun k d => jdg_rd N s l k (l.getD k (0, [])) d) m k (l.take k, rej, nak, ()) = some (.inl (l, rej ++ (judS (irj s) (ink s) (l.take k) (l.drop k)).1, nak ++ (judS (irj s) (ink s) (l.take k) (l.drop k)).2, ()))
 | 0, k, rej, nak, hk, hr, hn => by
  have hi : k = l.length := by omega
  subst hi
  unfold rr
  rw [List.take_length, List.drop_length]
  simp [judS]
 | m + 1, i, rej, nak, hk, hr, hn => by
  have hlt : i < l.length := by omega
  have tk : takeI l (i : Int) = some (l.take i) := takeI_nat l rfl (by omega)
  have hwi := hw _ (List.getElem_mem hlt)
  have hsi := hs _ (List.getElem_mem hlt)
  have hfind := find_ok (N := N) (l.take i) l[i].1 (by rw [List.length_take]; omega) (fun o ho => by have := hs o (List.mem_of_mem_take ho); omega) (by omega)
  have hts : l.take (i + 1) = l.take i ++ [l[i]] := take_snoc l i hlt
  have hal : (l.take i).length ≤ i := by rw [List.length_take]; omega
  have hcl : Jg.sLB N l[i].2 = some l[i].2 := clone_ok (N := N) _ (by omega)
  have rm : ∀ (x : List Op) (y : Op), x.length ≤ 41 → roomB (x.length + ([y] : List Op).length) 32 = true := fun x y hx => roomB_of (by have := big_len; simp; omega) (by simp; omega)
  have hmay := imay_is (N := N) s l[i] hwi.2 (by omega)
  have hadd := address_is (N := N) hwi.2 (by omega)
  have hgiv := givS_is (N := N) s l[i].1
  have hopt := option_is (N := N) l[i].1 (givS s l[i].1) (givS_r hsd _) (by omega)
  rw [← joption] at hopt
  rw [← jfind] at hfind
  rw [List.drop_eq_getElem_cons hlt]
  have ih := fun rej' nak' h1 h2 => ijudge_loop s l hw hsd hl hs hN m (i + 1) rej' nak' (by omega) h1 h2
  rw [hts] at ih
  unfold rr
  rw [getD_at hlt]
  generalize hx : l[i] = x at *
  obtain ⟨kx, dx⟩ := x
  have r1 := rm (l.take i) (kx, dx) (by omega)
  have r2 := rm rej (kx, dx) (by omega)
  unfold judS
  cases hfb : (findS (l.take i) kx).2 with
  | true =>
   have hrj : irj s (l.take i) (kx, dx) = true := by simp [irj, hfb]
   have key : jdg_rd N s l i (kx, dx) (l.take i, rej, nak, ()) = some (.inl (l.take i ++ [(kx, dx)], rej ++ [(kx, dx)], nak, ())) := by
    simp only [jdg_rd, Option.bind_some, hcl, r1, tk, hfind, hfb, r2, cond_true]
   rw [key]
   simp only [hrj, if_true]
   rw [ih (rej ++ [(kx, dx)]) nak (by simp; omega) (by omega)]
   simp
  | false =>
   cases hm : imay s (kx, dx) with
   | false =>
    have hrj : irj s (l.take i) (kx, dx) = true := by simp [irj, hm]
    have key : jdg_rd N s l i (kx, dx) (l.take i, rej, nak, ()) = some (.inl (l.take i ++ [(kx, dx)], rej ++ [(kx, dx)], nak, ())) := by
     have hmay' : Jg.ipcpo_may N (s.1, (s.2.1, (s.2.2.1, (s.2.2.2.1, s.2.2.2.2)))) (kx, dx) = some false := by rw [← hm]; exact hmay
     simp only [jdg_rd, Option.bind_some, hcl, r1, tk, hfind, hfb, r2, cond_true, cond_false, hmay', Bool.not_false]
    rw [key]
    simp only [hrj, if_true]
    rw [ih (rej ++ [(kx, dx)]) nak (by simp; omega) (by omega)]
    simp
   | true =>
    have hrj : irj s (l.take i) (kx, dx) = false := by simp [irj, hm, hfb]
    have hmay' : Jg.ipcpo_may N (s.1, (s.2.1, (s.2.2.1, (s.2.2.2.1, s.2.2.2.2)))) (kx, dx) = some true := by rw [← hm]; exact hmay
    have hgiv' : Jg.ipcpo_gives N (s.1, (s.2.1, (s.2.2.1, (s.2.2.2.1, s.2.2.2.2)))) kx = some (givS s kx) := hgiv
    have r3 := rm nak (kx, b4 (givS s kx)) (by omega)
    simp only at hadd hopt
    cases hsv : s.1 with
    | false =>
     have hnk : ink s (kx, dx) = none := by simp [ink, hsv]
     have key : jdg_rd N s l i (kx, dx) (l.take i, rej, nak, ()) = some (.inl (l.take i ++ [(kx, dx)], rej, nak, ())) := by
      rw [hsv] at hmay' hgiv'
      simp only [jdg_rd, Option.bind_some, hcl, r1, tk, hfind, hfb, cond_true, cond_false, hsv, hmay', hgiv', Bool.not_true]
     rw [key]
     simp only [hrj, hnk, Bool.false_eq_true, if_false]
     exact ih rej nak (by omega) (by omega)
    | true =>
     rw [hsv] at hmay' hgiv'
     cases hd : decide (addrS dx = givS s kx) with
     | true =>
      have hnk : ink s (kx, dx) = none := by simp only [ink, hsv, hd]; rfl
      have key : jdg_rd N s l i (kx, dx) (l.take i, rej, nak, ()) = some (.inl (l.take i ++ [(kx, dx)], rej, nak, ())) := by
       simp only [jdg_rd, Option.bind_some, hcl, r1, tk, hfind, hfb, cond_true, cond_false, hsv, hmay', hgiv', Bool.not_true, hadd, hd]
      rw [key]
      simp only [hrj, hnk, Bool.false_eq_true, if_false]
      exact ih rej nak (by omega) (by omega)
     | false =>
      have hnk : ink s (kx, dx) = some (kx, b4 (givS s kx)) := by simp only [ink, hsv, hd]; rfl
      have key : jdg_rd N s l i (kx, dx) (l.take i, rej, nak, ()) = some (.inl (l.take i ++ [(kx, dx)], rej, nak ++ [(kx, b4 (givS s kx))], ())) := by
       simp only [jdg_rd, Option.bind_some, hcl, r1, tk, hfind, hfb, cond_true, cond_false, hsv, hmay', hgiv', Bool.not_true, Bool.not_false, hadd, hd, hopt, r3]
      rw [key]
      simp only [hrj, hnk, Bool.false_eq_true, if_false]
      rw [ih rej (nak ++ [(kx, b4 (givS s kx))]) (by omega) (by simp; omega)]
      simp
def ijudS (s : Sd) (l : List Op) : Int × List Op := tellS l (judS (irj s) (ink s) [] l)
theorem ijudge_is (s : Sd) (l : List Op) (hw : wfO l) (hsd : wfS s) (hl : l.length ≤ 40) (hs : ∀ o ∈ l, o.2.length ≤ 300) (hN : 10000 ≤ N) : ipcpo_Judge N s l = some (ijudS s l) := by
 have h := ijudge_loop (N := N) s l hw hsd hl hs hN l.length 0 [] [] (by omega) (by simp) (by simp)
 simp only [List.take_zero, List.drop_zero, List.nil_append] at h
 unfold ipcpo_Judge
 rw [decide_eq_true (show l.length ≤ 1000000000 by omega), cond_true]
 refine (congrArg (fun o => Option.bind o _) h).trans ?_
 simp only [Option.bind_some, Sum.elim_inl, ijudS, tellS, jdg_end]
 generalize judS (irj s) (ink s) [] l = r
 by_cases h1 : 0 < r.1.length
 ·have c1 : ((0 : Int) < (r.1.length : Int)) := by omega
  simp only [c1, decide_true, cond_true, h1, if_true]
 ·have c1 : ¬ ((0 : Int) < (r.1.length : Int)) := by omega
  by_cases h2 : 0 < r.2.length
  ·have c2 : ((0 : Int) < (r.2.length : Int)) := by omega
   simp only [c1, c2, decide_true, decide_false, cond_true, cond_false, h1, h2, if_true, if_false]
  ·have c2 : ¬ ((0 : Int) < (r.2.length : Int)) := by omega
   simp only [c1, c2, decide_false, cond_false, h1, h2, if_false]
def ifP (k : Int) (o : Op) : Bool := decide (o.1 = k) && !decide (addrS o.2 = 0)
def ifS (l : List Op) (k : Int) : Int := match l.find? (ifP k) with
 | some o => addrS o.2
 | none => 0
theorem ifirst_loop (l : List Op) (kd : Int) (hw : wfO l) (hN : 100 ≤ N) (d0 : Int) : ∀ (m k : Nat), m + k = l.length →
  rr (fun k d => fst_rd N kd (l.getD k (0, [])) d) m k (d0, ()) = some (match (l.drop k).find? (ifP kd) with | some o => .inr (addrS o.2, ()) | none => .inl (d0, ()))
 | 0, k, hk => by
  unfold rr
  rw [List.drop_of_length_le (by omega)]
  rfl
 | m + 1, i, hk => by
  have hlt : i < l.length := by omega
  have hwi := hw _ (List.getElem_mem hlt)
  have hadd := address_is (N := N) hwi.2 hN
  have ih := ifirst_loop l kd hw hN d0 m (i + 1) (by omega)
  rw [List.drop_eq_getElem_cons hlt, List.find?_cons]
  unfold rr
  rw [getD_at hlt]
  by_cases h1 : l[i].1 = kd
  ·by_cases h2 : addrS l[i].2 = 0
   ·have hp : ifP kd l[i] = false := by simp [ifP, h2]
    have key : fst_rd N kd l[i] (d0, ()) = some (.inl (d0, ())) := by
     simp only [fst_rd, hadd, Option.bind_some, h1, h2, decide_true, Bool.not_true, cond_true, cond_false]
    rw [key, hp]
    exact ih
   ·have hp : ifP kd l[i] = true := by simp [ifP, h1, h2]
    have key : fst_rd N kd l[i] (d0, ()) = some (.inr (addrS l[i].2, ())) := by
     simp only [fst_rd, hadd, Option.bind_some, h1, h2, decide_true, decide_false, Bool.not_false, cond_true]
    rw [key, hp]
  ·have hp : ifP kd l[i] = false := by simp [ifP, h1]
   have key : fst_rd N kd l[i] (d0, ()) = some (.inl (d0, ())) := by
    simp only [fst_rd, hadd, Option.bind_some, h1, decide_false, cond_false]
   rw [key, hp]
   exact ih
theorem ifirst_is (l : List Op) (kd : Int) (hw : wfO l) (hl : l.length ≤ 1000) (hN : 100 ≤ N) : ipcpo_first N l kd = some (ifS l kd) := by
 have h := ifirst_loop (N := N) l kd hw hN 0 l.length 0 (by omega)
 rw [List.drop_zero] at h
 unfold ipcpo_first ifS
 rw [decide_eq_true (show l.length ≤ 1000000000 by omega), cond_true]
 refine (congrArg (fun o => Option.bind o _) h).trans ?_
 cases l.find? (ifP kd) <;> rfl
theorem ifS_r {l : List Op} (hw : wfO l) (k : Int) : 0 ≤ ifS l k ∧ ifS l k < 4294967296 := by
 unfold ifS
 cases h : l.find? (ifP k) with
 | none => simp
 | some o => exact addrS_r (hw o (List.mem_of_find?_eq_some h)).2
def ioS (s : Sd) : List Op := (3, b4 s.2.1) :: (if !s.1 && s.2.2.2.2 then [(129, b4 s.2.2.2.1)] else [])
theorem iopts_is (s : Sd) (hs : wfS s) (hN : 100 ≤ N) : ipcpo_Options N s = some (ioS s) := by
 unfold ipcpo_Options ioS
 cases h1 : s.1 <;> cases h2 : s.2.2.2.2 <;> simp only [h1, h2, option_is (N := N) 3 _ hs.1 hN, option_is (N := N) 129 _ hs.2.2 hN, Option.bind_some, Bool.not_true, Bool.not_false, cond_true, cond_false, Bool.false_and, Bool.true_and, Bool.false_eq_true, if_true, if_false] <;> rfl
theorem ioS_wf (s : Sd) : wfO (ioS s) ∧ (ioS s).length ≤ 3 ∧ ∀ o ∈ ioS s, o.2.length ≤ 4 := by
 have key : ∀ o ∈ ioS s, o = (3, b4 s.2.1) ∨ o = (129, b4 s.2.2.2.1) := fun o ho => by
  unfold ioS at ho
  rcases List.mem_cons.1 ho with h | h
  ·exact .inl h
  ·split at h
   ·exact .inr (List.mem_singleton.1 h)
   ·cases h
 refine ⟨fun o ho => ?_, ?_, fun o ho => ?_⟩
 ·rcases key o ho with rfl | rfl
  ·exact ⟨by show (0 : Int) ≤ 3 ∧ (3 : Int) < 256; omega, b4_B _⟩
  ·exact ⟨by show (0 : Int) ≤ 129 ∧ (129 : Int) < 256; omega, b4_B _⟩
 ·unfold ioS
  split <;> simp
 ·rcases key o ho with rfl | rfl <;> simp [b4]
def inkS (s : Sd) (l : List Op) : Sd := if s.1 then s else (s.1, (if ifS l 3 = 0 then s.2.1 else ifS l 3), s.2.2.1, (if s.2.2.2.2 && !decide (ifS l 129 = 0) then ifS l 129 else s.2.2.2.1), s.2.2.2.2)
theorem inaked_is (s : Sd) (l : List Op) (hw : wfO l) (hl : l.length ≤ 1000) (hN : 100 ≤ N) : ipcpo_Naked N s l = some (inkS s l) ∧ (wfS s → wfS (inkS s l)) := by
 have f3 := ifirst_is (N := N) l 3 hw hl hN
 have f129 := ifirst_is (N := N) l 129 hw hl hN
 refine ⟨?_, fun hs => ?_⟩
 ·obtain ⟨sv, own, g, d, a⟩ := s
  unfold ipcpo_Naked inkS
  cases sv with
  | true => rfl
  | false => by_cases h3 : ifS l 3 = 0 <;> by_cases h129 : ifS l 129 = 0 <;> cases a <;> simp [f3, f129, h3, h129]
 ·unfold inkS
  split
  ·exact hs
  ·refine ⟨?_, hs.2.1, ?_⟩
   ·show 0 ≤ (if ifS l 3 = 0 then s.2.1 else ifS l 3) ∧ (if ifS l 3 = 0 then s.2.1 else ifS l 3) < 4294967296
    split
    ·exact hs.1
    ·exact ifS_r hw 3
   ·show 0 ≤ (if (s.2.2.2.2 && !decide (ifS l 129 = 0)) = true then ifS l 129 else s.2.2.2.1) ∧ (if (s.2.2.2.2 && !decide (ifS l 129 = 0)) = true then ifS l 129 else s.2.2.2.1) < 4294967296
    split
    ·exact ifS_r hw 129
    ·exact hs.2.2
def irjS (s : Sd) (l : List Op) : Sd × Bool := ((s.1, s.2.1, s.2.2.1, s.2.2.2.1, (if (findS l 129).2 && !s.1 then false else s.2.2.2.2)), !(findS l 3).2)
theorem irej_is (s : Sd) (l : List Op) (hl : l.length ≤ 1000) (hs : ∀ o ∈ l, o.2.length ≤ 1000) (hN : 10000 ≤ N) : ipcpo_Rejected N s l = some (irjS s l) := by
 have a3 := find_ok (N := N) l 3 hl hs hN
 have a129 := find_ok (N := N) l 129 hl hs hN
 obtain ⟨sv, own, g, d, a⟩ := s
 unfold ipcpo_Rejected irjS
 cases sv <;> cases h2 : (findS l 129).2 <;> simp [a3, a129, h2]
end
def rowS : Nat → List (List Int)
 | 0 => [[2], [6, 5, 7], [-1], [-1], [-1], [-1], [-1], [-1], [-1], [-1]]
 | 1 => [[-1], [-1], [0], [1, 3], [0], [1], [1], [1], [1], [1, 2]]
 | 2 => [[1, 3], [1], [6, 5, 7], [3], [5], [5], [6], [7], [8], [9]]
 | 3 => [[0], [0, 4], [2], [2], [4], [4], [4, 5, 10], [4, 5, 10], [4, 5, 10], [4, 2, 5, 10]]
 | 4 => [[-1], [-1], [-1], [-1], [4, 10], [5, 10], [6, 7], [6, 7], [8, 7], [-1]]
 | 5 => [[-1], [-1], [-1], [-1], [2, 4], [3, 4], [3, 4], [3, 4], [3, 4], [-1]]
 | 6 => [[-1], [-1], [2, 11], [8, 5, 7, 8], [4], [5], [8, 8], [9, 8, 1], [8, 8], [8, 2, 7, 8]]
 | 7 => [[-1], [-1], [2, 11], [6, 5, 7, 9], [4], [5], [6, 9], [7, 9], [6, 9], [6, 2, 7, 9]]
 | 8 => [[-1], [-1], [2, 11], [3, 11], [4], [5], [7, 5], [6, 7], [9, 5, 1], [6, 2, 7]]
 | 9 => [[-1], [-1], [2, 11], [3, 11], [4], [5], [6, 5, 7], [6, 7], [8, 5, 7], [6, 2, 7]]
 | 10 => [[-1], [-1], [2, 11], [3, 11], [4, 11], [5, 11], [6, 11], [6, 11], [6, 11], [5, 2, 6, 11]]
 | 11 => [[-1], [-1], [2], [3], [2, 4], [3, 4], [6], [6], [8], [6, 2, 7]]
 | 12 => [[-1], [-1], [2, 12], [3, 12], [4, 12], [5, 12], [6, 12], [7, 12], [8, 12], [9, 12]]
 | 13 => [[-1], [-1], [2], [3], [4], [5], [6], [6], [8], [9]]
 | 14 => [[-1], [-1], [2, 4], [3, 4], [2, 4], [3, 4], [3, 4], [3, 4], [3, 4], [5, 2, 5, 10]]
 | 15 => [[-1], [-1], [2], [3], [4], [5], [6], [7], [8], [9, 13]]
 | _ => []
def nextS (s e : Nat) : Int × List Int × Int := match (rowS e).getD s [] with
 | x :: l => if x < 0 then (0, [], 11) else (x, l, 0)
 | [] => (0, [], 1)
theorem next_all : ∀ s : Nat, s < 10 → ∀ e : Nat, e < 16 → fsm_Next 200000 (s : Int) (e : Int) = some (nextS s e) := by decide +kernel
def timS (s : Nat) : Bool := decide ((nextS s 4).2.2 = 0)
theorem timed_all : ∀ s : Nat, s < 10 → fsm_Timed 200000 (s : Int) = some (timS s) := by decide +kernel
def chkS (s e : Nat) : Bool := (nextS s e).2.2 ≠ 0 || (decide (0 ≤ (nextS s e).1) && decide ((nextS s e).1 < 10) && ((nextS s e).2.1.contains 1 == (s ≠ 9 && (nextS s e).1 == 9)) && ((nextS s e).2.1.contains 2 == (s == 9 && (nextS s e).1 != 9)) && decide (((nextS s e).2.1.filter fun a => decide (7 ≤ a ∧ a ≤ 12)).length ≤ 2) && decide ((nextS s e).2.1.length ≤ 5))
theorem chk_all : ∀ s : Nat, s < 10 → ∀ e : Nat, e < 16 → chkS s e = true := by decide +kernel
abbrev Rt := Bool × Wt3 × Bool × Sd
abbrev Nt := Rt × Int × (Int × Int) × Int × List Op × List Op × Int
abbrev Ft := Bool × Bool × Bool × Bool
def wfR (r : Rt) : Prop := r.1 = true ∧ wfS r.2.2.2
def askS (r : Rt) : List Op := ioS r.2.2.2
theorem askS_wf (r : Rt) : wfO (askS r) ∧ (askS r).length ≤ 3 ∧ ∀ o ∈ askS r, o.2.length ≤ 4 := ioS_wf _
def sentT (t : Int × Int) : Int × Int := if 0 < t.1 then (IntKind.wrap .i64 (t.1 - 1), 3) else (0, 3)
def initT (t : Int × Int) (b : Bool) : Int × Int := if b then (2, t.2) else (10, t.2)
def idS (i : Int) : Int := IntKind.wrap .u8 (i + 1)
theorem idS_r (i : Int) : 0 ≤ idS i ∧ idS i < 256 := by unfold idS; rw [IntKind.wrap_u8]; omega
def openS (n : Nt) (a : Int) : Ct := if a = 10 then (5, n.2.2.2.1, []) else (conC 1 n.2.2.2.1 n.2.2.2.2.1).1
def sndS (pk : List Ct) (c : Ct) : List Ct := if (layC c).2 = 0 then pk ++ [c] else pk
def stepA (acts : List Int) (came ans : Ct) (x : Nt × Ft × List Ct) (a : Int) : Nt × Ft × List Ct :=
 if a = 1 then (x.1, (true, x.2.1.2), x.2.2) else if a = 2 then (x.1, (x.2.1.1, true, x.2.1.2.2), x.2.2) else if a = 3 then (x.1, (x.2.1.1, x.2.1.2.1, true, x.2.1.2.2.2), x.2.2) else if a = 4 then (x.1, (x.2.1.1, x.2.1.2.1, x.2.1.2.2.1, true), x.2.2)
 else if a = 5 then ((x.1.1, x.1.2.1, initT x.1.2.2.1 (acts.contains 10), x.1.2.2.2), x.2.1, x.2.2)
 else if a = 6 then ((x.1.1, x.1.2.1, (0, 3), x.1.2.2.2), x.2.1, x.2.2)
 else if a = 7 then ((x.1.1, x.1.2.1, sentT x.1.2.2.1, idS x.1.2.2.2.1, askS x.1.1, x.1.2.2.2.2.2), x.2.1, sndS x.2.2 (conC 1 (idS x.1.2.2.2.1) (askS x.1.1)).1)
 else if a = 10 then ((x.1.1, x.1.2.1, sentT x.1.2.2.1, idS x.1.2.2.2.1, x.1.2.2.2.2), x.2.1, sndS x.2.2 (5, idS x.1.2.2.2.1, []))
 else if a = 12 then ((x.1.1, x.1.2.1, x.1.2.2.1, idS x.1.2.2.2.1, x.1.2.2.2.2), x.2.1, sndS x.2.2 (7, idS x.1.2.2.2.1, cutC (layC came).1 1400))
 else if a = 8 ∨ a = 9 then (x.1, x.2.1, sndS x.2.2 ans)
 else if a = 11 then (x.1, x.2.1, sndS x.2.2 (6, came.2.1, []))
 else x
def doneS (n : Nt) (e : Nat) (came ans : Ct) : Nt × List Ct × Ft :=
 if (nextS n.2.1.toNat e).2.2 ≠ 0 then (n, [], (false, false, false, false)) else
  match (nextS n.2.1.toNat e).2.1.foldl (stepA (nextS n.2.1.toNat e).2.1 came ans) ((n.1, (nextS n.2.1.toNat e).1, n.2.2), (false, false, false, false), []) with
  | (m, f, pk) => if timS (nextS n.2.1.toNat e).1.toNat then (m, pk, f) else ((m.1, m.2.1, (m.2.2.1.1, 0), m.2.2.2), pk, f)
section
variable {N : Nat}
theorem clay2 (c : Ct) (hl : c.2.2.length ≤ 20000) (hN : 10000 ≤ N) : ctl_Lay N c = some (layC c) := by
 unfold ctl_Lay layC
 have w1 : IntKind.wrap .i64 ((4 : Int) + (c.2.2.length : Int)) = 4 + (c.2.2.length : Int) := wrap64 (by omega) (by omega)
 have w2 : IntKind.wrap .u64 ((4 : Int) + (c.2.2.length : Int)) = 4 + (c.2.2.length : Int) := wrapU64 (by omega) (by omega)
 by_cases hb : 4000 < c.2.2.length
 ·have c1 : (4000 : Int) < (c.2.2.length : Int) := by omega
  simp [c1, hb]
 ·have c1 : ¬ (4000 : Int) < (c.2.2.length : Int) := by omega
  rw [decide_eq_false c1, w1, w2, oput2 _ (by omega) hN]
  simp only [cond_false, Option.bind_some]
  rw [ojoin _ (by simp) (fun p hp => by
   simp only [List.mem_cons, List.not_mem_nil, or_false] at hp
   rcases hp with rfl | rfl | rfl
   ·simp
   ·simp
   ·omega) hN]
  have e1 : (4 + (c.2.2.length : Int)) / 256 % 256 = (4 + (c.2.2.length : Int)) / 256 := by omega
  simp [hb, e1]
theorem layC_len (c : Ct) : (layC c).1.length ≤ 4 + c.2.2.length := by
 unfold layC
 split <;> simp
 omega
theorem cutC_len (b : List Int) (most : Int) : (cutC b most).length ≤ b.length := by
 unfold cutC
 split
 ·simp
 ·rw [List.length_take]; omega
theorem asks_is (n : Nt) (h : wfR n.1) (hN : 10000 ≤ N) : nego_Nego_asks N n = some (askS n.1) := by
 unfold nego_Nego_asks askS
 simp only [h.1, cond_true, iopts_is (N := N) n.1.2.2.2 h.2 (by omega), Option.bind_some]
theorem opens_is (n : Nt) (a : Int) (hl : n.2.2.2.2.1.length ≤ 1000) (hN : 10000 ≤ N) : nego_Nego_opens N n a = some (openS n a) := by
 unfold nego_Nego_opens openS
 by_cases h : a = 10
 ·simp only [h, decide_true, cond_true, if_true]
 ·simp only [h, decide_false, cond_false, if_false, ccon_ok (N := N) 1 n.2.2.2.1 n.2.2.2.2.1 hl hN, Option.bind_some]
theorem sent_is (t : Int × Int) : retry_Retry_Sent N t = some (sentT t) := by
 unfold retry_Retry_Sent sentT
 by_cases h : 0 < t.1 <;> simp [h]
theorem init_is (t : Int × Int) (b : Bool) : retry_Retry_Init N t b = some (initT t b) := by
 unfold retry_Retry_Init initT
 cases b <;> rfl
theorem idx_loop (l : List Int) (v : Int) (hl : l.length ≤ 1000000) : ∀ (m M i : Nat), m + i = l.length → m < M →
  ∃ o, gl (fun X c => sIA_L2 N X c.1.1 c.1.2.1 c.1.2.2.1 c.1.2.2.2.1) M ((l, (v, ((l.length : Int), ((i : Int), ())))), ()) = some o ∧ ((o = .inr ((), ()) ∧ (l.drop i).contains v = false) ∨ ∃ j : Nat, o = .inl (((j : Int), ()), ()) ∧ (l.drop i).contains v = true)
 | 0, M + 1, i, hm, hM => by
  have c1 : ¬ ((i : Int) < (l.length : Int)) := by omega
  refine ⟨.inr ((), ()), ?_, .inl ⟨rfl, ?_⟩⟩
  ·rw [gl_succ]
   simp only [sIA_L2, c1, decide_false, cond_false]
  ·rw [List.drop_of_length_le (by omega)]; rfl
 | m + 1, M + 1, i, hm, hM => by
  have hlt : i < l.length := by omega
  have c1 : ((i : Int) < (l.length : Int)) := by omega
  have c2 : IntKind.wrap .i64 ((i : Int) + 1) = ((i + 1 : Nat) : Int) := by rw [wrap64 (by omega) (by omega)]; omega
  rw [List.drop_eq_getElem_cons hlt]
  by_cases h : v = l[i]
  ·refine ⟨.inl (((i : Int), ()), ()), ?_, .inr ⟨i, rfl, ?_⟩⟩
   ·rw [gl_succ]
    simp only [sIA_L2, c1, decide_true, cond_true, getI_lt l i hlt, Option.bind_some, h]
   ·rw [List.contains_cons, beq_iff_eq.2 h, Bool.true_or]
  ·obtain ⟨o, h1, h2⟩ := idx_loop l v hl m M (i + 1) (by omega) (by omega)
   have e : (l[i] :: l.drop (i + 1)).contains v = (l.drop (i + 1)).contains v := by rw [List.contains_cons, beq_eq_false_iff_ne.2 h, Bool.false_or]
   refine ⟨o, ?_, by rw [e]; exact h2⟩
   rw [gl_succ]
   simp only [sIA_L2, c1, decide_true, decide_false, cond_true, cond_false, getI_lt l i hlt, Option.bind_some, h, c2]
   exact h1
theorem cont_is (l : List Int) (v : Int) (hl : l.length < N) (hN : N ≤ 1000000) : sCA N l v = some (l.contains v) := by
 obtain ⟨o, h1, h2⟩ := idx_loop (N := N) l v (by omega) l.length N 0 (by omega) hl
 rw [List.drop_zero] at h2
 unfold sCA sIA
 have e : sIA_L2_R N ((l, (v, ((l.length : Int), ((0 : Int), ())))), ()) = some o := h1
 rcases h2 with ⟨rfl, h⟩ | ⟨j, rfl, h⟩
 ·rw [e, h]; rfl
 ·rw [e, h]
  simp only [Option.bind_some, Sum.elim_inl, Option.some.injEq, decide_eq_true_eq]
  omega
theorem contb_is (l : List Int) (v : Int) (hl : l.length < N) (hN : N ≤ 1000000) : sCB N l v = some (l.contains v) := cont_is (N := N) l v hl hN
end
end Go.Proofs.YtjomcoignnlghaaGreat
namespace Go.Proofs.YtjomcoignnlghaaGreat
set_option maxRecDepth 100000
open Go.RowKit
set_option linter.unusedVariables false
set_option linter.unusedSimpArgs false
section
variable {N : Nat}
theorem one_ok (x y : Op) (h : x.2.length < 1000) (hN : 10000 ≤ N) : ref21_one N x y = some (decide (x = y)) := by
 unfold ref21_one
 have hsame : ref01_Same N x.2 y.2 = some (decide (x.2 = y.2)) := sameF_ok (by omega) (by omega)
 rw [hsame]
 obtain ⟨x1, x2⟩ := x
 obtain ⟨y1, y2⟩ := y
 by_cases e1 : x1 = y1 <;> by_cases e2 : x2 = y2 <;> simp [e1, e2]
theorem rsame_ok (a b : List Op) (hs : ∀ o ∈ a, o.2.length < 1000) (hl : a.length < 1000) (hN : 10000 ≤ N) : ref21_Same N a b = some (decide (a = b)) := by
 unfold ref21_Same
 by_cases hl' : a.length = b.length
 ·have c0 : ((a.length : Int) = (b.length : Int)) := by omega
  simp only [c0, decide_true, Bool.not_true, cond_false]
  obtain ⟨o, h1, h2⟩ := gl_inv (G := fun (X : ((List Op × List Op × Int × Unit) × Unit) → Option (((Bool × Unit) × Unit) ⊕ (Unit × Unit))) c => ref21_Same_L4 N X c.1.1 c.1.2.1 c.1.2.2.1)
   (fun n c => ∃ i : Nat, c = ((a, (b, ((i : Int), ()))), ()) ∧ i ≤ a.length ∧ n = a.length - i ∧ a.take i = b.take i) (fun o => o = if a = b then .inr ((), ()) else .inl ((false, ()), ())) (fun X n c ⟨i, hc, hi, hn, ht⟩ => by
   subst hc
   rcases Nat.lt_or_ge i a.length with hlt | hge
   ·have c1 : ((i : Int) < (a.length : Int)) := by omega
    have c2 : IntKind.wrap .i64 ((i : Int) + 1) = ((i + 1 : Nat) : Int) := by rw [wrap64 (by omega) (by omega)]; omega
    have eq : ref21_one N (a[i].1, a[i].2) ((b[i]'(by omega)).1, (b[i]'(by omega)).2) = some (decide (a[i] = b[i]'(by omega))) := one_ok (N := N) a[i] (b[i]'(by omega)) (hs _ (List.getElem_mem hlt)) hN
    by_cases he : a[i] = b[i]'(by omega)
    ·right
     refine ⟨a.length - (i + 1), ((a, (b, (((i + 1 : Nat) : Int), ()))), ()), by omega, ⟨i + 1, rfl, hlt, rfl, ?_⟩, ?_⟩
     ·rw [List.take_add_one, List.take_add_one, ht, List.getElem?_eq_getElem hlt, List.getElem?_eq_getElem (by omega), he]
     ·simp only [ref21_Same_L4, c1, decide_true, cond_true, getI_lt a i hlt, getI_lt b i (by omega), Option.bind_some, eq]
      simp only [he, decide_true, Bool.not_true, cond_false, c2]
    ·left
     refine ⟨.inl ((false, ()), ()), ?_, ?_⟩
     ·simp only [ref21_Same_L4, c1, decide_true, cond_true, getI_lt a i hlt, getI_lt b i (by omega), Option.bind_some, eq]
      simp only [he, decide_false, Bool.not_false, cond_true]
     ·rw [if_neg (fun h => he (by simp [h]))]
   ·left
    have c1 : ¬ ((i : Int) < (a.length : Int)) := by omega
    refine ⟨.inr ((), ()), by simp only [ref21_Same_L4, c1, decide_false, cond_false], ?_⟩
    rw [List.take_of_length_le (by omega), List.take_of_length_le (by omega)] at ht
    rw [if_pos ht]) N a.length ((a, (b, ((0 : Int), ()))), ()) (by omega) ⟨0, rfl, by omega, by omega, by simp⟩
  unfold ref21_Same_L4_R
  rw [h1, h2]
  by_cases he : a = b <;> simp [he]
 ·have c0 : ¬ ((a.length : Int) = (b.length : Int)) := by omega
  have c1 : ¬ (a = b) := fun h' => hl' (by rw [h'])
  simp only [c0, c1, decide_false, Bool.not_false, cond_true]
theorem ref_among_ok (hN : 10000 ≤ N) : ∀ (n : Nat) (l all : List Op), l.length < n → l.length ≤ 1000 → all.length ≤ 1000 → (∀ o ∈ l, o.2.length < 1000) → gl (fun X c => ref21_Among_B N X c.1 c.2.1) n (l, all, ()) = some (amS l all)
 | 0, l, all, h, _, _, _ => by omega
 | n + 1, l, all, h, hl, ha, hs => by
  rw [gl_succ]
  have ih := fun (r all : List Op) a b c d => ref_among_ok hN n r all a b c d
  generalize gl (fun (X : (List Op × List Op × Unit) → Option Bool) c => ref21_Among_B N X c.1 c.2.1) n = Y at ih ⊢
  cases l with
  | nil => rw [amS_nil]; rfl
  | cons x r =>
   rw [List.length_cons] at h hl
   have c0 : ¬ ((((x :: r).length : Nat) : Int) = 0) := by simp only [List.length_cons]; omega
   have hx := hs x List.mem_cons_self
   obtain ⟨o, h1, h2⟩ := gl_inv (G := fun (X : ((List Op × List Op × Int × Unit) × Unit) → Option (((Bool × Unit) × Unit) ⊕ (Unit × Unit))) c => ref21_Among_L4 N Y X c.1.1 c.1.2.1 c.1.2.2.1)
    (fun m c => ∃ i : Nat, c = ((x :: r, (all, ((i : Int), ()))), ()) ∧ i ≤ all.length ∧ m = all.length - i ∧ amS (x :: r) all = amS (x :: r) (all.drop i)) (fun o => o = .inl ((amS (x :: r) all, ()), ()) ∨ (o = .inr ((), ()) ∧ amS (x :: r) all = false)) (fun X m c ⟨i, hc, hi, hm, ht⟩ => by
     subst hc
     rcases Nat.lt_or_ge i all.length with hlt | hge
     ·have c1 : ((i : Int) < (all.length : Int)) := by omega
      have c2 : IntKind.wrap .i64 ((i : Int) + 1) = ((i + 1 : Nat) : Int) := by rw [wrap64 (by omega) (by omega)]; omega
      have g0 : getI (x :: r) (0 : Int) = some x := rfl
      have eq : ref21_one N (x.1, x.2) (all[i].1, all[i].2) = some (decide (x = all[i])) := one_ok (N := N) x all[i] hx hN
      by_cases he : x = all[i]
      ·left
       refine ⟨.inl ((amS (x :: r) all, ()), ()), ?_, .inl rfl⟩
       have hrec := ih r (all.drop (i + 1)) (by omega) (by omega) (by rw [List.length_drop]; omega) (fun o ho => hs o (List.mem_cons_of_mem _ ho))
       rw [ht, List.drop_eq_getElem_cons hlt, ← he, amS_eq]
       simp only [ref21_Among_L4, c1, decide_true, cond_true, g0, getI_lt all i hlt, Option.bind_some, eq]
       rw [decide_eq_true he]
       simp only [cond_true, dropI_nat (x :: r) (a := (1 : Int)) (i := 1) rfl (by simp), Option.bind_some, c2, dropI_nat all (a := ((i + 1 : Nat) : Int)) (i := i + 1) rfl hlt]
       have e1 : (x :: r).drop 1 = r := rfl
       rw [e1, hrec]
       rfl
      ·right
       refine ⟨all.length - (i + 1), ((x :: r, (all, (((i + 1 : Nat) : Int), ()))), ()), by omega, ⟨i + 1, rfl, hlt, rfl, ?_⟩, ?_⟩
       ·rw [ht, List.drop_eq_getElem_cons hlt, amS_ne (fun h => he h.symm)]
       ·simp only [ref21_Among_L4, c1, decide_true, cond_true, g0, getI_lt all i hlt, Option.bind_some, eq]
        simp only [he, decide_false, cond_false, c2]
     ·left
      have c1 : ¬ ((i : Int) < (all.length : Int)) := by omega
      refine ⟨.inr ((), ()), by simp only [ref21_Among_L4, c1, decide_false, cond_false], .inr ⟨rfl, ?_⟩⟩
      rw [ht, List.drop_of_length_le hge, amS_end]) N all.length ((x :: r, (all, ((0 : Int), ()))), ()) (by omega) ⟨0, rfl, by omega, by omega, by simp⟩
   simp only [ref21_Among_B, c0, decide_false, cond_false, ref21_Among_L4_R]
   rw [h1]
   rcases h2 with rfl | ⟨rfl, h2⟩
   ·rfl
   ·rw [h2]; rfl
end
end Go.Proofs.YtjomcoignnlghaaGreat
namespace Go.Proofs.YtjomcoignnlghaaGreat
set_option maxRecDepth 100000
open Go.RowKit
set_option linter.unusedVariables false
set_option linter.unusedSimpArgs false
set_option maxRecDepth 100000
section
variable {N : Nat}
theorem num4S {d : List Int} (hd : AllB d) (hl : d.length = 4) (hN : 100 ≤ N) : ref01_Num N d = some (valS d) ∧ 0 ≤ valS d ∧ valS d < 4294967296 := by
 match d, hl with
 | [x, y, z, u], _ =>
  have bx := hd x (by simp)
  have by' := hd y (by simp)
  have bz := hd z (by simp)
  have bu := hd u (by simp)
  exact ⟨by rw [show ref01_Num N [x, y, z, u] = some (((x * 256 + y) * 256 + z) * 256 + u) from lnum4 x y z u bx by' bz bu hN]; simp [valS], by simp [valS]; omega⟩
theorem roption_is (k a : Int) (ha : 0 ≤ a ∧ a < 4294967296) (hN : 100 ≤ N) : ref26_option N k a = some (k, b4 a) := by
 have w : IntKind.wrap .u64 a = a := wrapU64 (by omega) (by omega)
 unfold ref26_option
 rw [w, lbig4 a (by omega) hN]
 rfl
theorem riopts_is (s : Sd) (hs : wfS s) (hN : 100 ≤ N) : ref26_Options N s = some (ioS s) := by
 have h1 := roption_is (N := N) 3 s.2.1 hs.1 hN
 have h2 := roption_is (N := N) 129 s.2.2.2.1 hs.2.2 hN
 unfold ref26_Options ioS
 cases ha : s.1 <;> cases hb : s.2.2.2.2 <;> simp [h1, h2, ha, hb]
theorem rrejects_is (s : Sd) (o : Op) (met : Bool) (ho : AllB o.2) (hN : 100 ≤ N) : ref26_rejects N s o met = some (met || !imay s o) := by
 unfold ref26_rejects imay
 cases met with
 | true => rfl
 | false =>
  by_cases hl : o.2.length = 4
  ·obtain ⟨n1, n2⟩ := num4S (N := N) ho hl hN
   have hl' : ((o.2.length : Nat) : Int) = 4 := by omega
   have ha : addrS o.2 = valS o.2 := by unfold addrS; rw [if_pos hl]
   by_cases h3 : o.1 = 3 <;> by_cases h9 : o.1 = 129 <;> cases hs : s.1 <;> by_cases hd : s.2.2.2.1 = 0 <;> simp [hl, hl', n1, ha, h3, h9, hs, hd]
  ·have hl' : ¬ ((o.2.length : Nat) : Int) = 4 := by omega
   simp [hl, hl']
theorem rijudge_loop (s : Sd) (l : List Op) (hw : wfO l) (hsd : wfS s) (hl : l.length ≤ 40) (hs : ∀ o ∈ l, o.2.length ≤ 300) (hN : 10000 ≤ N) (m : Nat) : ∀ (M i : Nat) (rej nak : List Op), m + i = l.length → m < M → rej.length ≤ i → nak.length ≤ i →
  gl (fun X c => r6J_L3 N X c.1.1 c.1.2.1 c.1.2.2.1 c.2.1 c.2.2.1) M ((l, (s, ((i : Int), ()))), (rej, (nak, ()))) = some ((l, ()), (rej ++ (judS (irj s) (ink s) (l.take i) (l.drop i)).1, (nak ++ (judS (irj s) (ink s) (l.take i) (l.drop i)).2, ()))) := by
 induction m with
 | zero =>
  intro M i rej nak hm hM hr hn
  obtain ⟨M, rfl⟩ : ∃ k, M = k + 1 := ⟨M - 1, by omega⟩
  have c1 : decide ((i : Int) < (l.length : Int)) = false := decide_eq_false (by omega)
  rw [List.drop_of_length_le (show l.length ≤ i by omega)]
  have key : ∀ X, r6J_L3 N X l s (i : Int) rej nak = some ((l, ()), (rej ++ (judS (irj s) (ink s) (l.take i) []).1, (nak ++ (judS (irj s) (ink s) (l.take i) []).2, ()))) := fun X => by
   simp only [r6J_L3, c1, cond_false, judS, List.append_nil]
  exact key _
 | succ m ih =>
  intro M i rej nak hm hM hr hn
  obtain ⟨M, rfl⟩ : ∃ k, M = k + 1 := ⟨M - 1, by omega⟩
  have hlt : i < l.length := by omega
  have c1 : decide ((i : Int) < (l.length : Int)) = true := decide_eq_true (by omega)
  have c2 : IntKind.wrap .i64 ((i : Int) + 1) = ((i + 1 : Nat) : Int) := by rw [wrap64 (by omega) (by omega)]; omega
  have g := getI_lt l i hlt
  have tk : takeI l (i : Int) = some (l.take i) := takeI_nat l rfl (by omega)
  have hwi := hw _ (List.getElem_mem hlt)
  have hfind := ref_find_ok (N := N) (l.take i) l[i].1 (by rw [List.length_take]; omega) (by omega)
  have hts : l.take (i + 1) = l.take i ++ [l[i]] := take_snoc l i hlt
  have rm : ∀ (x : List Op) (y : Op), x.length ≤ 41 → roomB (x.length + ([y] : List Op).length) 32 = true := fun x y hx => roomB_of (by have := big_len; simp; omega) (by simp; omega)
  have hrj := rrejects_is (N := N) s l[i] (findS (l.take i) l[i].1).2 hwi.2 (by omega)
  have ih' := fun rej' nak' h1 h2 => ih M (i + 1) rej' nak' (by omega) (by omega) h1 h2
  rw [hts] at ih'
  rw [List.drop_eq_getElem_cons hlt]
  have hop := fun k : Int => roption_is (N := N) k (givS s k) (givS_r hsd k) (by omega)
  generalize hx : l[i] = x at *
  have r2 := rm rej x (by omega)
  unfold judS
  cases hb : irj s (l.take i) x with
  | true =>
   have hb' : ((findS (l.take i) x.1).2 || !imay s x) = true := hb
   rw [hb'] at hrj
   simp only [if_true]
   have key : ∀ X, r6J_L3 N X l s (i : Int) rej nak = X ((l, (s, (((i + 1 : Nat) : Int), ()))), (rej ++ [x], (nak, ()))) := fun X => by
    simp only [r6J_L3, c1, c2, cond_true, tk, g, Option.bind_some, hfind, Prod.eta, hrj, r2]
   refine (key _).trans ((ih' (rej ++ [x]) nak (by simp; omega) (by omega)).trans ?_)
   simp
  | false =>
   have hb' : ((findS (l.take i) x.1).2 || !imay s x) = false := hb
   rw [hb'] at hrj
   simp only [Bool.false_eq_true, if_false]
   have hm4 : x.2.length = 4 := by
    rw [Bool.or_eq_false_iff] at hb'
    have := hb'.2
    unfold imay at this
    by_cases h : x.2.length = 4
    ·exact h
    ·rw [if_neg h] at this; cases this
   obtain ⟨n1, n2⟩ := num4S (N := N) hwi.2 hm4 (by omega)
   have ha : addrS x.2 = valS x.2 := by unfold addrS; rw [if_pos hm4]
   have w : IntKind.wrap .u32 (valS x.2) = addrS x.2 := by rw [ha]; exact wrapU32 n2
   have hopx := hop x.1
   by_cases hs1 : s.1 = true ∧ ¬ addrS x.2 = givS s x.1
   ·have hnk : ink s x = some (x.1, b4 (givS s x.1)) := by simp [ink, hs1.1, hs1.2]
    rw [hnk]
    have r3 := rm nak (x.1, b4 (givS s x.1)) (by omega)
    have key : ∀ X, r6J_L3 N X l s (i : Int) rej nak = X ((l, (s, (((i + 1 : Nat) : Int), ()))), (rej, (nak ++ [(x.1, b4 (givS s x.1))], ()))) := fun X => by
     unfold givS at hopx hs1 r3 ⊢
     by_cases h9 : x.1 = 129
     ·rw [if_pos h9] at hopx hs1 r3 ⊢
      simp only [r6J_L3, c1, c2, cond_true, cond_false, tk, g, Option.bind_some, hfind, Prod.eta, hrj, decide_eq_true h9]
      simp only [hs1.1, n1, w, decide_eq_false hs1.2, Bool.not_false, hopx, r3, cond_true, cond_false, Option.bind_some]
     ·rw [if_neg h9] at hopx hs1 r3 ⊢
      simp only [r6J_L3, c1, c2, cond_true, cond_false, tk, g, Option.bind_some, hfind, Prod.eta, hrj, decide_eq_false h9]
      simp only [hs1.1, n1, w, decide_eq_false hs1.2, Bool.not_false, hopx, r3, cond_true, cond_false, Option.bind_some]
    refine (key _).trans ((ih' rej (nak ++ [(x.1, b4 (givS s x.1))]) (by omega) (by simp; omega)).trans ?_)
    simp
   ·have hnk : ink s x = none := by
     unfold ink
     cases h1 : s.1 with
     | false => simp
     | true =>
      have : addrS x.2 = givS s x.1 := by
       by_cases h : addrS x.2 = givS s x.1
       ·exact h
       ·exact absurd ⟨h1, h⟩ hs1
      simp [this]
    rw [hnk]
    have key : ∀ X, r6J_L3 N X l s (i : Int) rej nak = X ((l, (s, (((i + 1 : Nat) : Int), ()))), (rej, (nak, ()))) := fun X => by
     unfold givS at hs1
     cases h1 : s.1 with
     | false =>
      by_cases h9 : x.1 = 129
      ·simp only [r6J_L3, c1, c2, cond_true, cond_false, tk, g, Option.bind_some, hfind, Prod.eta, hrj, decide_eq_true h9]
       simp only [h1, cond_false]
      ·simp only [r6J_L3, c1, c2, cond_true, cond_false, tk, g, Option.bind_some, hfind, Prod.eta, hrj, decide_eq_false h9]
       simp only [h1, cond_false]
     | true =>
      by_cases h9 : x.1 = 129
      ·rw [if_pos h9] at hs1
       have hq : decide (addrS x.2 = s.2.2.2.1) = true := by
        by_cases h : addrS x.2 = s.2.2.2.1
        ·exact decide_eq_true h
        ·exact absurd ⟨h1, h⟩ hs1
       simp only [r6J_L3, c1, c2, cond_true, cond_false, tk, g, Option.bind_some, hfind, Prod.eta, hrj, decide_eq_true h9]
       simp only [h1, n1, w, hq, Bool.not_true, cond_true, cond_false, Option.bind_some]
      ·rw [if_neg h9] at hs1
       have hq : decide (addrS x.2 = s.2.2.1) = true := by
        by_cases h : addrS x.2 = s.2.2.1
        ·exact decide_eq_true h
        ·exact absurd ⟨h1, h⟩ hs1
       simp only [r6J_L3, c1, c2, cond_true, cond_false, tk, g, Option.bind_some, hfind, Prod.eta, hrj, decide_eq_false h9]
       simp only [h1, n1, w, hq, Bool.not_true, cond_true, cond_false, Option.bind_some]
    exact (key _).trans (ih' rej nak (by omega) (by omega))
theorem rijudge_is (s : Sd) (l : List Op) (hw : wfO l) (hsd : wfS s) (hl : l.length ≤ 40) (hs : ∀ o ∈ l, o.2.length ≤ 300) (hN : 10000 ≤ N) : r6J N s l = some (ijudS s l) := by
 have h := rijudge_loop (N := N) s l hw hsd hl hs hN l.length N 0 [] [] (by omega) (by omega) (by simp) (by simp)
 rw [List.take_zero, List.drop_zero, List.nil_append, List.nil_append] at h
 unfold r6J ijudS tellS
 refine (congrArg (fun o => Option.bind o _) (show r6J_L3_R N ((l, (s, ((0 : Int), ()))), ([], ([], ()))) = _ from h)).trans ?_
 generalize judS (irj s) (ink s) [] l = r
 by_cases h1 : 0 < r.1.length
 ·have h1' : (0 : Int) < (r.1.length : Int) := by omega
  simp only [Option.bind_some, decide_eq_true h1', cond_true, if_pos h1]
 ·have h1' : ¬ (0 : Int) < (r.1.length : Int) := by omega
  by_cases h2 : 0 < r.2.length
  ·have h2' : (0 : Int) < (r.2.length : Int) := by omega
   simp only [Option.bind_some, decide_eq_false h1', decide_eq_true h2', cond_true, cond_false, if_neg h1, if_pos h2]
  ·have h2' : ¬ (0 : Int) < (r.2.length : Int) := by omega
   simp only [Option.bind_some, decide_eq_false h1', decide_eq_false h2', cond_false, if_neg h1, if_neg h2]
theorem told_loop (l : List Op) (kd : Int) (hw : wfO l) (hl : l.length ≤ 1000) (hN : 100 ≤ N) (m : Nat) : ∀ (M i : Nat), m + i = l.length → m < M →
  gl (fun X c => r6t_L2 N X c.1.1 c.1.2.1 c.1.2.2.1) M ((l, (kd, ((i : Int), ()))), ()) = some (match (l.drop i).find? (ifP kd) with | some o => .inl ((addrS o.2, ()), ()) | none => .inr ((), ())) := by
 induction m with
 | zero =>
  intro M i hm hM
  obtain ⟨M, rfl⟩ : ∃ k, M = k + 1 := ⟨M - 1, by omega⟩
  have c1 : decide ((i : Int) < (l.length : Int)) = false := decide_eq_false (by omega)
  rw [List.drop_of_length_le (show l.length ≤ i by omega)]
  have key : ∀ X, r6t_L2 N X l kd (i : Int) = some (.inr ((), ())) := fun X => by
   simp only [r6t_L2, c1, cond_false]
  exact key _
 | succ m ih =>
  intro M i hm hM
  obtain ⟨M, rfl⟩ : ∃ k, M = k + 1 := ⟨M - 1, by omega⟩
  have hlt : i < l.length := by omega
  have c1 : decide ((i : Int) < (l.length : Int)) = true := decide_eq_true (by omega)
  have c2 : IntKind.wrap .i64 ((i : Int) + 1) = ((i + 1 : Nat) : Int) := by rw [wrap64 (by omega) (by omega)]; omega
  have g := getI_lt l i hlt
  have hwi := hw _ (List.getElem_mem hlt)
  have ih' := ih M (i + 1) (by omega) (by omega)
  rw [List.drop_eq_getElem_cons hlt, List.find?_cons]
  generalize l[i] = x at *
  by_cases hk : x.1 = kd
  ·by_cases hl4 : x.2.length = 4
   ·have hl' : ((x.2.length : Nat) : Int) = 4 := by omega
    obtain ⟨n1, n2⟩ := num4S (N := N) hwi.2 hl4 hN
    have ha : addrS x.2 = valS x.2 := by unfold addrS; rw [if_pos hl4]
    have w : IntKind.wrap .u32 (valS x.2) = addrS x.2 := by rw [ha]; exact wrapU32 n2
    by_cases h0 : valS x.2 = 0
    ·have hp : ifP kd x = false := by unfold ifP; rw [ha]; simp [h0]
     rw [hp]
     have key : ∀ X, r6t_L2 N X l kd (i : Int) = X ((l, (kd, (((i + 1 : Nat) : Int), ()))), ()) := fun X => by
      simp only [r6t_L2, c1, c2, cond_true, cond_false, g, Option.bind_some, decide_eq_true hk, decide_eq_true hl', n1, decide_eq_true h0, Bool.not_true]
     exact (key _).trans ih'
    ·have hp : ifP kd x = true := by unfold ifP; rw [ha]; simp [h0, hk]
     rw [hp]
     have key : ∀ X, r6t_L2 N X l kd (i : Int) = some (.inl ((addrS x.2, ()), ())) := fun X => by
      simp only [r6t_L2, c1, c2, cond_true, cond_false, g, Option.bind_some, decide_eq_true hk, decide_eq_true hl', n1, decide_eq_false h0, Bool.not_false, w]
     exact key _
   ·have hl' : ¬ ((x.2.length : Nat) : Int) = 4 := by omega
    have hp : ifP kd x = false := by unfold ifP addrS; rw [if_neg hl4]; simp
    rw [hp]
    have key : ∀ X, r6t_L2 N X l kd (i : Int) = X ((l, (kd, (((i + 1 : Nat) : Int), ()))), ()) := fun X => by
     simp only [r6t_L2, c1, c2, cond_true, cond_false, g, Option.bind_some, decide_eq_true hk, decide_eq_false hl']
    exact (key _).trans ih'
  ·have hp : ifP kd x = false := by unfold ifP; simp [hk]
   rw [hp]
   have key : ∀ X, r6t_L2 N X l kd (i : Int) = X ((l, (kd, (((i + 1 : Nat) : Int), ()))), ()) := fun X => by
    simp only [r6t_L2, c1, c2, cond_true, cond_false, g, Option.bind_some, decide_eq_false hk]
   exact (key _).trans ih'
theorem told_is (l : List Op) (kd : Int) (hw : wfO l) (hl : l.length ≤ 1000) (hN : 10000 ≤ N) : r6t N l kd = some (ifS l kd) := by
 have h := told_loop (N := N) l kd hw hl (by omega) l.length N 0 (by omega) (by omega)
 rw [List.drop_zero] at h
 unfold r6t ifS
 refine (congrArg (fun o => Option.bind o _) (show r6t_L2_R N ((l, (kd, ((0 : Int), ()))), ()) = _ from h)).trans ?_
 cases l.find? (ifP kd) <;> rfl
theorem rnaked_is (s : Sd) (l : List Op) (hw : wfO l) (hl : l.length ≤ 1000) (hN : 10000 ≤ N) : ref26_Naked N s l = some (inkS s l) := by
 have h1 := told_is (N := N) l 3 hw hl hN
 have h2 := told_is (N := N) l 129 hw hl hN
 obtain ⟨sv, own, g, d, a⟩ := s
 unfold ref26_Naked inkS
 cases sv with
 | true => rfl
 | false =>
  by_cases e1 : ifS l 3 = 0 <;> by_cases e2 : ifS l 129 = 0 <;> cases a <;> simp [h1, h2, e1, e2]
theorem rrejd_is (s : Sd) (l : List Op) (hl : l.length ≤ 1000) (hN : 10000 ≤ N) : ref26_Rejected N s l = some (irjS s l) := by
 have h1 := ref_find_ok (N := N) l 129 hl hN
 have h2 := ref_find_ok (N := N) l 3 hl hN
 obtain ⟨sv, own, g, d, a⟩ := s
 unfold ref26_Rejected irjS
 cases hb : (findS l 129).2 <;> cases sv <;> simp [h1, h2, hb]
theorem rhas_loop (l : List Int) (v : Int) (hl : l.length ≤ 1000000) (m : Nat) : ∀ (M i : Nat), m + i = l.length → m < M →
  gl (fun X c => ref27_has_L2 N X c.1.1 c.1.2.1 c.1.2.2.1) M ((l, (v, ((i : Int), ()))), ()) = some (if (l.drop i).contains v then .inl ((true, ()), ()) else .inr ((), ())) := by
 induction m with
 | zero =>
  intro M i hm hM
  obtain ⟨M, rfl⟩ : ∃ k, M = k + 1 := ⟨M - 1, by omega⟩
  have c1 : decide ((i : Int) < (l.length : Int)) = false := decide_eq_false (by omega)
  rw [List.drop_of_length_le (show l.length ≤ i by omega)]
  have key : ∀ X, ref27_has_L2 N X l v (i : Int) = some (.inr ((), ())) := fun X => by
   simp only [ref27_has_L2, c1, cond_false]
  exact key _
 | succ m ih =>
  intro M i hm hM
  obtain ⟨M, rfl⟩ : ∃ k, M = k + 1 := ⟨M - 1, by omega⟩
  have hlt : i < l.length := by omega
  have c1 : decide ((i : Int) < (l.length : Int)) = true := decide_eq_true (by omega)
  have c2 : IntKind.wrap .i64 ((i : Int) + 1) = ((i + 1 : Nat) : Int) := by rw [wrap64 (by omega) (by omega)]; omega
  have g := getI_lt l i hlt
  have ih' := ih M (i + 1) (by omega) (by omega)
  rw [List.drop_eq_getElem_cons hlt, List.contains_cons]
  generalize l[i] = x at *
  by_cases h : x = v
  ·have e : (v == x) = true := beq_iff_eq.2 h.symm
   rw [e, Bool.true_or]
   have key : ∀ X, ref27_has_L2 N X l v (i : Int) = some (.inl ((true, ()), ())) := fun X => by
    simp only [ref27_has_L2, c1, cond_true, g, Option.bind_some, decide_eq_true h]
   exact key _
  ·have e : (v == x) = false := beq_eq_false_iff_ne.2 (fun h' => h h'.symm)
   rw [e, Bool.false_or]
   have key : ∀ X, ref27_has_L2 N X l v (i : Int) = X ((l, (v, (((i + 1 : Nat) : Int), ()))), ()) := fun X => by
    simp only [ref27_has_L2, c1, c2, cond_true, cond_false, g, Option.bind_some, decide_eq_false h]
   exact (key _).trans ih'
theorem rhas_is (l : List Int) (v : Int) (hl : l.length < N) (hN : N ≤ 1000000) : ref27_has N l v = some (l.contains v) := by
 have h := rhas_loop (N := N) l v (by omega) l.length N 0 (by omega) hl
 rw [List.drop_zero] at h
 unfold ref27_has
 refine (congrArg (fun o => Option.bind o _) (show ref27_has_L2_R N ((l, (v, ((0 : Int), ()))), ()) = _ from h)).trans ?_
 cases l.contains v <;> rfl
theorem rasks_is (r : Rt) (h : wfR r) (hN : 10000 ≤ N) : ref27_asks N r = some (askS r) := by
 unfold ref27_asks askS
 simp only [h.1, cond_true, riopts_is (N := N) r.2.2.2 h.2 (by omega), Option.bind_some]
theorem crlay_ok (c : Ct) (hl : c.2.2.length ≤ 5000) (hN : 10000 ≤ N) : ref22_Lay N c = some (layC c) := by
 unfold ref22_Lay layC
 have w1 : IntKind.wrap .i64 ((4 : Int) + (c.2.2.length : Int)) = 4 + (c.2.2.length : Int) := wrap64 (by omega) (by omega)
 have w2 : IntKind.wrap .u64 ((4 : Int) + (c.2.2.length : Int)) = 4 + (c.2.2.length : Int) := wrapU64 (by omega) (by omega)
 by_cases hb : 4000 < c.2.2.length
 ·have c1 : (4000 : Int) < (c.2.2.length : Int) := by omega
  simp [c1, hb]
 ·have c1 : ¬ (4000 : Int) < (c.2.2.length : Int) := by omega
  have e1 : (4 + (c.2.2.length : Int)) / 256 % 256 = (4 + (c.2.2.length : Int)) / 256 := by omega
  have r1 : ∀ x y : Int, roomB (([c.1, c.2.1] : List Int).length + ([x, y] : List Int).length) 1 = true := fun x y => by simp only [List.length_cons, List.length_nil]; decide
  have r2 : ∀ x y : Int, roomB ((([c.1, c.2.1] : List Int) ++ [x, y]).length + c.2.2.length) 1 = true := fun x y => roomB_of (by have := big_len; simp only [List.length_append, List.length_cons, List.length_nil]; omega) (by simp only [List.length_append, List.length_cons, List.length_nil]; omega)
  rw [decide_eq_false c1, w1, w2]
  simp only [cond_false]
  rw [lbig2 _ (by omega) (by omega)]
  simp only [Option.bind_some, r1, r2, List.isEmpty_cons, Bool.not_false, Bool.and_true, cond_true, e1, hb, if_false]
  simp
theorem crrej_ok (id : Int) (c : Ct) (most : Int) (hl : c.2.2.length ≤ 5000) (hm : -9223372036854775808 ≤ most ∧ most < 9223372036854775808) (hN : 10000 ≤ N) : ref22_Reject N id c most = some (7, id, cutC (layC c).1 most) := by
 unfold ref22_Reject
 have e : ref22_Lay N (c.1, (c.2.1, c.2.2)) = some (layC c) := crlay_ok c hl hN
 rw [e, Option.bind_some, crcut_ok _ _ hm, Option.bind_some]
theorem rinit_is (t : Int × Int) (b : Bool) : ref24_Init N t b = some (initT t b) := by
 unfold ref24_Init initT
 cases b <;> rfl
theorem rsent_is (t : Int × Int) : ref24_Sent N t = some (sentT t) := by
 unfold ref24_Sent sentT
 by_cases h : 0 < t.1
 ·rw [decide_eq_false (show ¬ t.1 ≤ 0 by omega), if_pos h]; rfl
 ·rw [decide_eq_true (show t.1 ≤ 0 by omega), if_neg h]; rfl
end
theorem rnext_all : ∀ s : Nat, s < 10 → ∀ e : Nat, e < 16 → ref23_Next 200000 (s : Int) (e : Int) = some (nextS s e) := by decide +kernel
section
variable {N : Nat}
theorem conC_len (code id : Int) (l : List Op) (h : wfO l) : (conC code id l).1.2.2.length ≤ 20000 := by
 unfold conC
 cases isC code
 ·simp
 ·by_cases h0 : (layS l).2 = 0
  ·have := (layS_wf l h).2
   simp only [h0, decide_true, cond_true]
   omega
  ·simp [h0]
theorem nrm (pk : List Ct) (c : Ct) (h : pk.length ≤ 100) : roomB (pk.length + ([c] : List Ct).length) 32 = true := roomB_of (by have := big_len; simp; omega) (by simp; omega)
set_option maxHeartbeats 1000000 in
theorem act_is (next : Int) (acts : List Int) (i : Nat) (a : Int) (hi : acts[i]? = some a) (hal : acts.length ≤ 1000) (n z : Nt) (came ans : Ct) (h4 h5 h6 h7 f1 f2 f3 f4 : Bool) (h12 pk : List Ct) (hw : wfR n.1) (hc : came.2.2.length ≤ 5000) (ha : ans.2.2.length ≤ 20000) (hp : pk.length ≤ 100) (hN : 10000 ≤ N) (hN2 : N ≤ 1000000) (X) :
  nNd_L7 N X next acts acts (acts.length : Int) (i : Int) n came ans z h4 h5 h6 h7 f1 f2 f3 f4 h12 pk =
   X ((next, (acts, (acts, ((acts.length : Int), (((i + 1 : Nat) : Int), ()))))), ((stepA acts came ans (n, (f1, f2, f3, f4), pk) a).1, (came, (ans, (z, (h4, (h5, (h6, (h7, ((stepA acts came ans (n, (f1, f2, f3, f4), pk) a).2.1.1, ((stepA acts came ans (n, (f1, f2, f3, f4), pk) a).2.1.2.1, ((stepA acts came ans (n, (f1, f2, f3, f4), pk) a).2.1.2.2.1, ((stepA acts came ans (n, (f1, f2, f3, f4), pk) a).2.1.2.2.2, (h12, ((stepA acts came ans (n, (f1, f2, f3, f4), pk) a).2.2, ()))))))))))))))) := by
 have hlt : i < acts.length := (List.getElem?_eq_some_iff.1 hi).1
 have c1 : decide ((i : Int) < (acts.length : Int)) = true := decide_eq_true (by omega)
 have c2 : IntKind.wrap .i64 ((i : Int) + 1) = ((i + 1 : Nat) : Int) := by rw [wrap64 (by omega) (by omega)]; omega
 have g : getI acts (i : Int) = some a := by rw [getI_nat]; exact hi
 have hask := asks_is (N := N) n hw hN
 have hwf := askS_wf n.1
 have hcont := cont_is (N := N) acts 10 (by omega) hN2
 have hsent := sent_is (N := N) n.2.2.1
 have lay := fun (c : Ct) (h : c.2.2.length ≤ 20000) => clay2 (N := N) c h hN
 have rm := fun (c : Ct) => nrm pk c hp
 by_cases e1 : a = 1
 ·have t1 : decide (a = (1 : Int)) = true := decide_eq_true e1
  have d2 : decide (a = (2 : Int)) = false := decide_eq_false (by omega)
  have d3 : decide (a = (3 : Int)) = false := decide_eq_false (by omega)
  have d4 : decide (a = (4 : Int)) = false := decide_eq_false (by omega)
  have d5 : decide (a = (5 : Int)) = false := decide_eq_false (by omega)
  have d6 : decide (a = (6 : Int)) = false := decide_eq_false (by omega)
  have d7 : decide (a = (7 : Int)) = false := decide_eq_false (by omega)
  have d10 : decide (a = (10 : Int)) = false := decide_eq_false (by omega)
  have d12 : decide (a = (12 : Int)) = false := decide_eq_false (by omega)
  have d8 : decide (a = (8 : Int)) = false := decide_eq_false (by omega)
  have d9 : decide (a = (9 : Int)) = false := decide_eq_false (by omega)
  have d11 : decide (a = (11 : Int)) = false := decide_eq_false (by omega)
  have hs : stepA acts came ans (n, (f1, f2, f3, f4), pk) a = (n, (true, f2, f3, f4), pk) := by unfold stepA; rw [if_pos e1]
  rw [hs]
  simp only [nNd_L7, c1, c2, cond_true, cond_false, g, Option.bind_some, t1, d2, d3, d4, d5, d6, d7, d10, d12, d8, d9, d11]
 have n1 := e1
 by_cases e2 : a = 2
 ·have t2 : decide (a = (2 : Int)) = true := decide_eq_true e2
  have d1 : decide (a = (1 : Int)) = false := decide_eq_false n1
  have d3 : decide (a = (3 : Int)) = false := decide_eq_false (by omega)
  have d4 : decide (a = (4 : Int)) = false := decide_eq_false (by omega)
  have d5 : decide (a = (5 : Int)) = false := decide_eq_false (by omega)
  have d6 : decide (a = (6 : Int)) = false := decide_eq_false (by omega)
  have d7 : decide (a = (7 : Int)) = false := decide_eq_false (by omega)
  have d10 : decide (a = (10 : Int)) = false := decide_eq_false (by omega)
  have d12 : decide (a = (12 : Int)) = false := decide_eq_false (by omega)
  have d8 : decide (a = (8 : Int)) = false := decide_eq_false (by omega)
  have d9 : decide (a = (9 : Int)) = false := decide_eq_false (by omega)
  have d11 : decide (a = (11 : Int)) = false := decide_eq_false (by omega)
  have hs : stepA acts came ans (n, (f1, f2, f3, f4), pk) a = (n, (f1, true, f3, f4), pk) := by unfold stepA; rw [if_neg (show ¬ a = 1 by omega), if_pos e2]
  rw [hs]
  simp only [nNd_L7, c1, c2, cond_true, cond_false, g, Option.bind_some, t2, d1, d3, d4, d5, d6, d7, d10, d12, d8, d9, d11]
 have n2 := e2
 by_cases e3 : a = 3
 ·have t3 : decide (a = (3 : Int)) = true := decide_eq_true e3
  have d1 : decide (a = (1 : Int)) = false := decide_eq_false n1
  have d2 : decide (a = (2 : Int)) = false := decide_eq_false n2
  have d4 : decide (a = (4 : Int)) = false := decide_eq_false (by omega)
  have d5 : decide (a = (5 : Int)) = false := decide_eq_false (by omega)
  have d6 : decide (a = (6 : Int)) = false := decide_eq_false (by omega)
  have d7 : decide (a = (7 : Int)) = false := decide_eq_false (by omega)
  have d10 : decide (a = (10 : Int)) = false := decide_eq_false (by omega)
  have d12 : decide (a = (12 : Int)) = false := decide_eq_false (by omega)
  have d8 : decide (a = (8 : Int)) = false := decide_eq_false (by omega)
  have d9 : decide (a = (9 : Int)) = false := decide_eq_false (by omega)
  have d11 : decide (a = (11 : Int)) = false := decide_eq_false (by omega)
  have hs : stepA acts came ans (n, (f1, f2, f3, f4), pk) a = (n, (f1, f2, true, f4), pk) := by unfold stepA; rw [if_neg (show ¬ a = 1 by omega), if_neg (show ¬ a = 2 by omega), if_pos e3]
  rw [hs]
  simp only [nNd_L7, c1, c2, cond_true, cond_false, g, Option.bind_some, t3, d1, d2, d4, d5, d6, d7, d10, d12, d8, d9, d11]
 have n3 := e3
 by_cases e4 : a = 4
 ·have t4 : decide (a = (4 : Int)) = true := decide_eq_true e4
  have d1 : decide (a = (1 : Int)) = false := decide_eq_false n1
  have d2 : decide (a = (2 : Int)) = false := decide_eq_false n2
  have d3 : decide (a = (3 : Int)) = false := decide_eq_false n3
  have d5 : decide (a = (5 : Int)) = false := decide_eq_false (by omega)
  have d6 : decide (a = (6 : Int)) = false := decide_eq_false (by omega)
  have d7 : decide (a = (7 : Int)) = false := decide_eq_false (by omega)
  have d10 : decide (a = (10 : Int)) = false := decide_eq_false (by omega)
  have d12 : decide (a = (12 : Int)) = false := decide_eq_false (by omega)
  have d8 : decide (a = (8 : Int)) = false := decide_eq_false (by omega)
  have d9 : decide (a = (9 : Int)) = false := decide_eq_false (by omega)
  have d11 : decide (a = (11 : Int)) = false := decide_eq_false (by omega)
  have hs : stepA acts came ans (n, (f1, f2, f3, f4), pk) a = (n, (f1, f2, f3, true), pk) := by unfold stepA; rw [if_neg (show ¬ a = 1 by omega), if_neg (show ¬ a = 2 by omega), if_neg (show ¬ a = 3 by omega), if_pos e4]
  rw [hs]
  simp only [nNd_L7, c1, c2, cond_true, cond_false, g, Option.bind_some, t4, d1, d2, d3, d5, d6, d7, d10, d12, d8, d9, d11]
 have n4 := e4
 by_cases e5 : a = 5
 ·have t5 : decide (a = (5 : Int)) = true := decide_eq_true e5
  have d1 : decide (a = (1 : Int)) = false := decide_eq_false n1
  have d2 : decide (a = (2 : Int)) = false := decide_eq_false n2
  have d3 : decide (a = (3 : Int)) = false := decide_eq_false n3
  have d4 : decide (a = (4 : Int)) = false := decide_eq_false n4
  have d6 : decide (a = (6 : Int)) = false := decide_eq_false (by omega)
  have d7 : decide (a = (7 : Int)) = false := decide_eq_false (by omega)
  have d10 : decide (a = (10 : Int)) = false := decide_eq_false (by omega)
  have d12 : decide (a = (12 : Int)) = false := decide_eq_false (by omega)
  have d8 : decide (a = (8 : Int)) = false := decide_eq_false (by omega)
  have d9 : decide (a = (9 : Int)) = false := decide_eq_false (by omega)
  have d11 : decide (a = (11 : Int)) = false := decide_eq_false (by omega)
  have hs : stepA acts came ans (n, (f1, f2, f3, f4), pk) a = ((n.1, n.2.1, initT n.2.2.1 (acts.contains 10), n.2.2.2), (f1, f2, f3, f4), pk) := by unfold stepA; rw [if_neg (show ¬ a = 1 by omega), if_neg (show ¬ a = 2 by omega), if_neg (show ¬ a = 3 by omega), if_neg (show ¬ a = 4 by omega), if_pos e5]
  rw [hs]
  simp only [nNd_L7, c1, c2, cond_true, cond_false, g, Option.bind_some, t5, d1, d2, d3, d4, d6, d7, d10, d12, d8, d9, d11, hcont, init_is]
 have n5 := e5
 by_cases e6 : a = 6
 ·have t6 : decide (a = (6 : Int)) = true := decide_eq_true e6
  have d1 : decide (a = (1 : Int)) = false := decide_eq_false n1
  have d2 : decide (a = (2 : Int)) = false := decide_eq_false n2
  have d3 : decide (a = (3 : Int)) = false := decide_eq_false n3
  have d4 : decide (a = (4 : Int)) = false := decide_eq_false n4
  have d5 : decide (a = (5 : Int)) = false := decide_eq_false n5
  have d7 : decide (a = (7 : Int)) = false := decide_eq_false (by omega)
  have d10 : decide (a = (10 : Int)) = false := decide_eq_false (by omega)
  have d12 : decide (a = (12 : Int)) = false := decide_eq_false (by omega)
  have d8 : decide (a = (8 : Int)) = false := decide_eq_false (by omega)
  have d9 : decide (a = (9 : Int)) = false := decide_eq_false (by omega)
  have d11 : decide (a = (11 : Int)) = false := decide_eq_false (by omega)
  have hs : stepA acts came ans (n, (f1, f2, f3, f4), pk) a = ((n.1, n.2.1, (0, 3), n.2.2.2), (f1, f2, f3, f4), pk) := by unfold stepA; rw [if_neg (show ¬ a = 1 by omega), if_neg (show ¬ a = 2 by omega), if_neg (show ¬ a = 3 by omega), if_neg (show ¬ a = 4 by omega), if_neg (show ¬ a = 5 by omega), if_pos e6]
  rw [hs]
  simp only [nNd_L7, c1, c2, cond_true, cond_false, g, Option.bind_some, t6, d1, d2, d3, d4, d5, d7, d10, d12, d8, d9, d11]
 have n6 := e6
 by_cases e7 : a = 7
 ·have t7 : decide (a = (7 : Int)) = true := decide_eq_true e7
  have d1 : decide (a = (1 : Int)) = false := decide_eq_false n1
  have d2 : decide (a = (2 : Int)) = false := decide_eq_false n2
  have d3 : decide (a = (3 : Int)) = false := decide_eq_false n3
  have d4 : decide (a = (4 : Int)) = false := decide_eq_false n4
  have d5 : decide (a = (5 : Int)) = false := decide_eq_false n5
  have d6 : decide (a = (6 : Int)) = false := decide_eq_false n6
  have d10 : decide (a = (10 : Int)) = false := decide_eq_false (by omega)
  have d12 : decide (a = (12 : Int)) = false := decide_eq_false (by omega)
  have d8 : decide (a = (8 : Int)) = false := decide_eq_false (by omega)
  have d9 : decide (a = (9 : Int)) = false := decide_eq_false (by omega)
  have d11 : decide (a = (11 : Int)) = false := decide_eq_false (by omega)
  have hs : stepA acts came ans (n, (f1, f2, f3, f4), pk) a = ((n.1, n.2.1, sentT n.2.2.1, idS n.2.2.2.1, askS n.1, n.2.2.2.2.2), (f1, f2, f3, f4), sndS pk (conC 1 (idS n.2.2.2.1) (askS n.1)).1) := by unfold stepA; rw [if_neg (show ¬ a = 1 by omega), if_neg (show ¬ a = 2 by omega), if_neg (show ¬ a = 3 by omega), if_neg (show ¬ a = 4 by omega), if_neg (show ¬ a = 5 by omega), if_neg (show ¬ a = 6 by omega), if_pos e7]
  rw [hs]
  have ho : nego_Nego_opens N (n.1, (n.2.1, (sentT n.2.2.1, (idS n.2.2.2.1, (askS n.1, n.2.2.2.2.2))))) a = some (conC 1 (idS n.2.2.2.1) (askS n.1)).1 := by
   rw [opens_is (N := N) _ a (by show (askS n.1).length ≤ 1000; omega) hN]
   unfold openS
   rw [if_neg (show ¬ a = 10 by omega)]
  have hl := lay (conC 1 (idS n.2.2.2.1) (askS n.1)).1 (conC_len 1 _ _ hwf.1)
  have hask' : nego_Nego_asks N ((n.1.1, ((n.1.2.1.1, (n.1.2.1.2.1, n.1.2.1.2.2)), (n.1.2.2.1, (n.1.2.2.2.1, (n.1.2.2.2.2.1, (n.1.2.2.2.2.2.1, (n.1.2.2.2.2.2.2.1, n.1.2.2.2.2.2.2.2))))))), (n.2.1, ((n.2.2.1.1, n.2.2.1.2), (n.2.2.2.1, (n.2.2.2.2.1, (n.2.2.2.2.2.1, n.2.2.2.2.2.2)))))) = some (askS n.1) := hask
  have haskE : nego_Nego_asks N n = some (askS n.1) := hask'
  have hsent' : retry_Retry_Sent N (n.2.2.1.1, n.2.2.1.2) = some (sentT n.2.2.1) := hsent
  have hsentE : retry_Retry_Sent N n.2.2.1 = some (sentT n.2.2.1) := hsent'
  have ho' : nego_Nego_opens N ((n.1.1, ((n.1.2.1.1, (n.1.2.1.2.1, n.1.2.1.2.2)), (n.1.2.2.1, (n.1.2.2.2.1, (n.1.2.2.2.2.1, (n.1.2.2.2.2.2.1, (n.1.2.2.2.2.2.2.1, n.1.2.2.2.2.2.2.2))))))), (n.2.1, (((sentT n.2.2.1).1, (sentT n.2.2.1).2), ((IntKind.wrap .u8 (n.2.2.2.1 + 1)), (askS n.1, (n.2.2.2.2.2.1, n.2.2.2.2.2.2)))))) a = some (conC 1 (idS n.2.2.2.1) (askS n.1)).1 := ho
  have hoE : nego_Nego_opens N (n.1, (n.2.1, ((sentT n.2.2.1), ((IntKind.wrap .u8 (n.2.2.2.1 + 1)), (askS n.1, n.2.2.2.2.2))))) a = some (conC 1 (idS n.2.2.2.1) (askS n.1)).1 := ho'
  simp only [nNd_L7, c1, c2, cond_true, cond_false, g, Option.bind_some, t7, d1, d2, d3, d4, d5, d6, d10, d12, d8, d9, d11, hask', haskE, hsent', hsentE, ho', hoE]
  generalize (conC 1 (idS n.2.2.2.1) (askS n.1)).1 = c at *
  have hl' : ctl_Lay N (c.1, (c.2.1, c.2.2)) = some (layC c) := hl
  have hlE : ctl_Lay N c = some (layC c) := hl'
  unfold sndS
  by_cases hz : (layC c).2 = 0
  ·have z0 : decide ((layC c).2 = 0) = true := decide_eq_true hz
   rw [if_pos hz]
   simp only [hl', hlE, Option.bind_some, z0, cond_true, rm]
   (try rfl)
  ·have z0 : decide ((layC c).2 = 0) = false := decide_eq_false hz
   rw [if_neg hz]
   simp only [hl', hlE, Option.bind_some, z0, cond_false]
   (try rfl)
 have n7 := e7
 by_cases e10 : a = 10
 ·have t10 : decide (a = (10 : Int)) = true := decide_eq_true e10
  have d1 : decide (a = (1 : Int)) = false := decide_eq_false n1
  have d2 : decide (a = (2 : Int)) = false := decide_eq_false n2
  have d3 : decide (a = (3 : Int)) = false := decide_eq_false n3
  have d4 : decide (a = (4 : Int)) = false := decide_eq_false n4
  have d5 : decide (a = (5 : Int)) = false := decide_eq_false n5
  have d6 : decide (a = (6 : Int)) = false := decide_eq_false n6
  have d7 : decide (a = (7 : Int)) = false := decide_eq_false n7
  have d12 : decide (a = (12 : Int)) = false := decide_eq_false (by omega)
  have d8 : decide (a = (8 : Int)) = false := decide_eq_false (by omega)
  have d9 : decide (a = (9 : Int)) = false := decide_eq_false (by omega)
  have d11 : decide (a = (11 : Int)) = false := decide_eq_false (by omega)
  have hs : stepA acts came ans (n, (f1, f2, f3, f4), pk) a = ((n.1, n.2.1, sentT n.2.2.1, idS n.2.2.2.1, n.2.2.2.2), (f1, f2, f3, f4), sndS pk (5, idS n.2.2.2.1, [])) := by unfold stepA; rw [if_neg (show ¬ a = 1 by omega), if_neg (show ¬ a = 2 by omega), if_neg (show ¬ a = 3 by omega), if_neg (show ¬ a = 4 by omega), if_neg (show ¬ a = 5 by omega), if_neg (show ¬ a = 6 by omega), if_neg (show ¬ a = 7 by omega), if_pos e10]
  rw [hs]
  have hsent' : retry_Retry_Sent N (n.2.2.1.1, n.2.2.1.2) = some (sentT n.2.2.1) := hsent
  have hsentE : retry_Retry_Sent N n.2.2.1 = some (sentT n.2.2.1) := hsent'
  have ho' : nego_Nego_opens N ((n.1.1, ((n.1.2.1.1, (n.1.2.1.2.1, n.1.2.1.2.2)), (n.1.2.2.1, (n.1.2.2.2.1, (n.1.2.2.2.2.1, (n.1.2.2.2.2.2.1, (n.1.2.2.2.2.2.2.1, n.1.2.2.2.2.2.2.2))))))), (n.2.1, (((sentT n.2.2.1).1, (sentT n.2.2.1).2), ((IntKind.wrap .u8 (n.2.2.2.1 + 1)), (n.2.2.2.2.1, (n.2.2.2.2.2.1, n.2.2.2.2.2.2)))))) a = some (5, idS n.2.2.2.1, []) := by
   unfold nego_Nego_opens
   rw [t10]; rfl
  have hoE : nego_Nego_opens N (n.1, (n.2.1, ((sentT n.2.2.1), ((IntKind.wrap .u8 (n.2.2.2.1 + 1)), n.2.2.2.2)))) a = some (5, idS n.2.2.2.1, []) := ho'
  have hl := lay (5, idS n.2.2.2.1, []) (by simp)
  simp only [nNd_L7, c1, c2, cond_true, cond_false, g, Option.bind_some, t10, d1, d2, d3, d4, d5, d6, d7, d12, d8, d9, d11, hsent', hsentE, ho', hoE]
  generalize hcc : ((5, idS n.2.2.2.1, []) : Ct) = c at *
  have hl' : ctl_Lay N (c.1, (c.2.1, c.2.2)) = some (layC c) := hl
  have hlE : ctl_Lay N c = some (layC c) := hl'
  unfold sndS
  by_cases hz : (layC c).2 = 0
  ·have z0 : decide ((layC c).2 = 0) = true := decide_eq_true hz
   rw [if_pos hz]
   simp only [hl', hlE, Option.bind_some, z0, cond_true, rm]
   (try rfl)
  ·have z0 : decide ((layC c).2 = 0) = false := decide_eq_false hz
   rw [if_neg hz]
   simp only [hl', hlE, Option.bind_some, z0, cond_false]
   (try rfl)
 have n10 := e10
 by_cases e12 : a = 12
 ·have t12 : decide (a = (12 : Int)) = true := decide_eq_true e12
  have d1 : decide (a = (1 : Int)) = false := decide_eq_false n1
  have d2 : decide (a = (2 : Int)) = false := decide_eq_false n2
  have d3 : decide (a = (3 : Int)) = false := decide_eq_false n3
  have d4 : decide (a = (4 : Int)) = false := decide_eq_false n4
  have d5 : decide (a = (5 : Int)) = false := decide_eq_false n5
  have d6 : decide (a = (6 : Int)) = false := decide_eq_false n6
  have d7 : decide (a = (7 : Int)) = false := decide_eq_false n7
  have d10 : decide (a = (10 : Int)) = false := decide_eq_false n10
  have d8 : decide (a = (8 : Int)) = false := decide_eq_false (by omega)
  have d9 : decide (a = (9 : Int)) = false := decide_eq_false (by omega)
  have d11 : decide (a = (11 : Int)) = false := decide_eq_false (by omega)
  have hs : stepA acts came ans (n, (f1, f2, f3, f4), pk) a = ((n.1, n.2.1, n.2.2.1, idS n.2.2.2.1, n.2.2.2.2), (f1, f2, f3, f4), sndS pk (7, idS n.2.2.2.1, cutC (layC came).1 1400)) := by unfold stepA; rw [if_neg (show ¬ a = 1 by omega), if_neg (show ¬ a = 2 by omega), if_neg (show ¬ a = 3 by omega), if_neg (show ¬ a = 4 by omega), if_neg (show ¬ a = 5 by omega), if_neg (show ¬ a = 6 by omega), if_neg (show ¬ a = 7 by omega), if_neg (show ¬ a = 10 by omega), if_pos e12]
  rw [hs]
  have hrej := crej_ok (N := N) (idS n.2.2.2.1) came 1400 hc (by omega) hN
  have hrej' : ctl_Reject N (IntKind.wrap .u8 (n.2.2.2.1 + 1)) (came.1, (came.2.1, came.2.2)) 1400 = some (7, idS n.2.2.2.1, cutC (layC came).1 1400) := hrej
  have hrejE : ctl_Reject N (IntKind.wrap .u8 (n.2.2.2.1 + 1)) came 1400 = some (7, idS n.2.2.2.1, cutC (layC came).1 1400) := hrej'
  have hl := lay (7, idS n.2.2.2.1, cutC (layC came).1 1400) (by have h1 := cutC_len (layC came).1 1400; have h2 := layC_len came; show (cutC (layC came).1 1400).length ≤ 20000; omega)
  simp only [nNd_L7, c1, c2, cond_true, cond_false, g, Option.bind_some, t12, d1, d2, d3, d4, d5, d6, d7, d10, d8, d9, d11, hrej', hrejE]
  generalize hcc : ((7, idS n.2.2.2.1, cutC (layC came).1 1400) : Ct) = c at *
  have hl' : ctl_Lay N (c.1, (c.2.1, c.2.2)) = some (layC c) := hl
  have hlE : ctl_Lay N c = some (layC c) := hl'
  unfold sndS
  by_cases hz : (layC c).2 = 0
  ·have z0 : decide ((layC c).2 = 0) = true := decide_eq_true hz
   rw [if_pos hz]
   simp only [hl', hlE, Option.bind_some, z0, cond_true, rm]
   (try rfl)
  ·have z0 : decide ((layC c).2 = 0) = false := decide_eq_false hz
   rw [if_neg hz]
   simp only [hl', hlE, Option.bind_some, z0, cond_false]
   (try rfl)
 have n12 := e12
 by_cases e8 : a = 8
 ·have t8 : decide (a = (8 : Int)) = true := decide_eq_true e8
  have d1 : decide (a = (1 : Int)) = false := decide_eq_false n1
  have d2 : decide (a = (2 : Int)) = false := decide_eq_false n2
  have d3 : decide (a = (3 : Int)) = false := decide_eq_false n3
  have d4 : decide (a = (4 : Int)) = false := decide_eq_false n4
  have d5 : decide (a = (5 : Int)) = false := decide_eq_false n5
  have d6 : decide (a = (6 : Int)) = false := decide_eq_false n6
  have d7 : decide (a = (7 : Int)) = false := decide_eq_false n7
  have d10 : decide (a = (10 : Int)) = false := decide_eq_false n10
  have d12 : decide (a = (12 : Int)) = false := decide_eq_false n12
  have d9 : decide (a = (9 : Int)) = false := decide_eq_false (by omega)
  have d11 : decide (a = (11 : Int)) = false := decide_eq_false (by omega)
  have hs : stepA acts came ans (n, (f1, f2, f3, f4), pk) a = (n, (f1, f2, f3, f4), sndS pk ans) := by unfold stepA; rw [if_neg (show ¬ a = 1 by omega), if_neg (show ¬ a = 2 by omega), if_neg (show ¬ a = 3 by omega), if_neg (show ¬ a = 4 by omega), if_neg (show ¬ a = 5 by omega), if_neg (show ¬ a = 6 by omega), if_neg (show ¬ a = 7 by omega), if_neg (show ¬ a = 10 by omega), if_neg (show ¬ a = 12 by omega), if_pos (show a = 8 ∨ a = 9 by omega)]
  rw [hs]
  have hl := lay ans ha
  simp only [nNd_L7, c1, c2, cond_true, cond_false, g, Option.bind_some, t8, d1, d2, d3, d4, d5, d6, d7, d10, d12, d9, d11]
  generalize ans = c at *
  have hl' : ctl_Lay N (c.1, (c.2.1, c.2.2)) = some (layC c) := hl
  have hlE : ctl_Lay N c = some (layC c) := hl'
  unfold sndS
  by_cases hz : (layC c).2 = 0
  ·have z0 : decide ((layC c).2 = 0) = true := decide_eq_true hz
   rw [if_pos hz]
   simp only [hl', hlE, Option.bind_some, z0, cond_true, rm]
   (try rfl)
  ·have z0 : decide ((layC c).2 = 0) = false := decide_eq_false hz
   rw [if_neg hz]
   simp only [hl', hlE, Option.bind_some, z0, cond_false]
   (try rfl)
 have n8 := e8
 by_cases e9 : a = 9
 ·have t9 : decide (a = (9 : Int)) = true := decide_eq_true e9
  have d1 : decide (a = (1 : Int)) = false := decide_eq_false n1
  have d2 : decide (a = (2 : Int)) = false := decide_eq_false n2
  have d3 : decide (a = (3 : Int)) = false := decide_eq_false n3
  have d4 : decide (a = (4 : Int)) = false := decide_eq_false n4
  have d5 : decide (a = (5 : Int)) = false := decide_eq_false n5
  have d6 : decide (a = (6 : Int)) = false := decide_eq_false n6
  have d7 : decide (a = (7 : Int)) = false := decide_eq_false n7
  have d10 : decide (a = (10 : Int)) = false := decide_eq_false n10
  have d12 : decide (a = (12 : Int)) = false := decide_eq_false n12
  have d8 : decide (a = (8 : Int)) = false := decide_eq_false n8
  have d11 : decide (a = (11 : Int)) = false := decide_eq_false (by omega)
  have hs : stepA acts came ans (n, (f1, f2, f3, f4), pk) a = (n, (f1, f2, f3, f4), sndS pk ans) := by unfold stepA; rw [if_neg (show ¬ a = 1 by omega), if_neg (show ¬ a = 2 by omega), if_neg (show ¬ a = 3 by omega), if_neg (show ¬ a = 4 by omega), if_neg (show ¬ a = 5 by omega), if_neg (show ¬ a = 6 by omega), if_neg (show ¬ a = 7 by omega), if_neg (show ¬ a = 10 by omega), if_neg (show ¬ a = 12 by omega), if_pos (show a = 8 ∨ a = 9 by omega)]
  rw [hs]
  have hl := lay ans ha
  simp only [nNd_L7, c1, c2, cond_true, cond_false, g, Option.bind_some, t9, d1, d2, d3, d4, d5, d6, d7, d10, d12, d8, d11]
  generalize ans = c at *
  have hl' : ctl_Lay N (c.1, (c.2.1, c.2.2)) = some (layC c) := hl
  have hlE : ctl_Lay N c = some (layC c) := hl'
  unfold sndS
  by_cases hz : (layC c).2 = 0
  ·have z0 : decide ((layC c).2 = 0) = true := decide_eq_true hz
   rw [if_pos hz]
   simp only [hl', hlE, Option.bind_some, z0, cond_true, rm]
   (try rfl)
  ·have z0 : decide ((layC c).2 = 0) = false := decide_eq_false hz
   rw [if_neg hz]
   simp only [hl', hlE, Option.bind_some, z0, cond_false]
   (try rfl)
 have n9 := e9
 by_cases e11 : a = 11
 ·have t11 : decide (a = (11 : Int)) = true := decide_eq_true e11
  have d1 : decide (a = (1 : Int)) = false := decide_eq_false n1
  have d2 : decide (a = (2 : Int)) = false := decide_eq_false n2
  have d3 : decide (a = (3 : Int)) = false := decide_eq_false n3
  have d4 : decide (a = (4 : Int)) = false := decide_eq_false n4
  have d5 : decide (a = (5 : Int)) = false := decide_eq_false n5
  have d6 : decide (a = (6 : Int)) = false := decide_eq_false n6
  have d7 : decide (a = (7 : Int)) = false := decide_eq_false n7
  have d10 : decide (a = (10 : Int)) = false := decide_eq_false n10
  have d12 : decide (a = (12 : Int)) = false := decide_eq_false n12
  have d8 : decide (a = (8 : Int)) = false := decide_eq_false n8
  have d9 : decide (a = (9 : Int)) = false := decide_eq_false n9
  have hs : stepA acts came ans (n, (f1, f2, f3, f4), pk) a = (n, (f1, f2, f3, f4), sndS pk (6, came.2.1, [])) := by unfold stepA; rw [if_neg (show ¬ a = 1 by omega), if_neg (show ¬ a = 2 by omega), if_neg (show ¬ a = 3 by omega), if_neg (show ¬ a = 4 by omega), if_neg (show ¬ a = 5 by omega), if_neg (show ¬ a = 6 by omega), if_neg (show ¬ a = 7 by omega), if_neg (show ¬ a = 10 by omega), if_neg (show ¬ a = 12 by omega), if_neg (show ¬ (a = 8 ∨ a = 9) by omega), if_pos e11]
  rw [hs]
  have hl := lay (6, came.2.1, []) (by simp)
  simp only [nNd_L7, c1, c2, cond_true, cond_false, g, Option.bind_some, t11, d1, d2, d3, d4, d5, d6, d7, d10, d12, d8, d9]
  generalize hcc : ((6, came.2.1, []) : Ct) = c at *
  have hl' : ctl_Lay N (c.1, (c.2.1, c.2.2)) = some (layC c) := hl
  have hlE : ctl_Lay N c = some (layC c) := hl'
  unfold sndS
  by_cases hz : (layC c).2 = 0
  ·have z0 : decide ((layC c).2 = 0) = true := decide_eq_true hz
   rw [if_pos hz]
   simp only [hl', hlE, Option.bind_some, z0, cond_true, rm]
   (try rfl)
  ·have z0 : decide ((layC c).2 = 0) = false := decide_eq_false hz
   rw [if_neg hz]
   simp only [hl', hlE, Option.bind_some, z0, cond_false]
   (try rfl)
 have n11 := e11
 have hs : stepA acts came ans (n, (f1, f2, f3, f4), pk) a = (n, (f1, f2, f3, f4), pk) := by
  unfold stepA
  rw [if_neg n1, if_neg n2, if_neg n3, if_neg n4, if_neg n5, if_neg n6, if_neg n7, if_neg n10, if_neg n12, if_neg (show ¬ (a = 8 ∨ a = 9) by omega), if_neg n11]
 rw [hs]
 have d1 : decide (a = (1 : Int)) = false := decide_eq_false n1
 have d2 : decide (a = (2 : Int)) = false := decide_eq_false n2
 have d3 : decide (a = (3 : Int)) = false := decide_eq_false n3
 have d4 : decide (a = (4 : Int)) = false := decide_eq_false n4
 have d5 : decide (a = (5 : Int)) = false := decide_eq_false n5
 have d6 : decide (a = (6 : Int)) = false := decide_eq_false n6
 have d7 : decide (a = (7 : Int)) = false := decide_eq_false n7
 have d10 : decide (a = (10 : Int)) = false := decide_eq_false n10
 have d12 : decide (a = (12 : Int)) = false := decide_eq_false n12
 have d8 : decide (a = (8 : Int)) = false := decide_eq_false n8
 have d9 : decide (a = (9 : Int)) = false := decide_eq_false n9
 have d11 : decide (a = (11 : Int)) = false := decide_eq_false n11
 simp only [nNd_L7, c1, c2, cond_true, cond_false, g, Option.bind_some, d1, d2, d3, d4, d5, d6, d7, d10, d12, d8, d9, d11]
end
theorem sndS_spec (pk : List Ct) (c : Ct) : (sndS pk c).length ≤ pk.length + 1 ∧ ∀ d ∈ sndS pk c, d ∈ pk ∨ (layC d).2 = 0 := by
 unfold sndS
 split
 ·rename_i h
  refine ⟨by simp, fun d hd => ?_⟩
  rcases List.mem_append.1 hd with h1 | h1
  ·exact .inl h1
  ·rw [List.mem_singleton] at h1; subst h1; exact .inr h
 ·exact ⟨by omega, fun d hd => .inl hd⟩
theorem stepA_spec (acts : List Int) (came ans : Ct) (x : Nt × Ft × List Ct) (a : Int) :
  (stepA acts came ans x a).1.1 = x.1.1 ∧ (stepA acts came ans x a).1.2.1 = x.1.2.1 ∧ (stepA acts came ans x a).2.1.1 = (x.2.1.1 || (1 == a)) ∧ (stepA acts came ans x a).2.1.2.1 = (x.2.1.2.1 || (2 == a)) ∧
  (stepA acts came ans x a).2.2.length ≤ x.2.2.length + (if 7 ≤ a ∧ a ≤ 12 then 1 else 0) ∧ (∀ c ∈ (stepA acts came ans x a).2.2, c ∈ x.2.2 ∨ (layC c).2 = 0) ∧ ((stepA acts came ans x a).1.2.2.2.2.1 = x.1.2.2.2.2.1 ∨ (stepA acts came ans x a).1.2.2.2.2.1 = askS x.1.1) := by
 have e : ∀ k : Int, k ≠ a → (k == a) = false := fun k h => beq_eq_false_iff_ne.2 h
 by_cases h1 : a = 1
 ·subst h1; exact ⟨rfl, rfl, by simp [stepA], by simp [stepA], by simp [stepA], fun c hc => .inl hc, .inl rfl⟩
 have g1 := e 1 (by omega)
 by_cases h2 : a = 2
 ·subst h2; exact ⟨rfl, rfl, by simp [stepA], by simp [stepA], by simp [stepA], fun c hc => .inl hc, .inl rfl⟩
 have g2 := e 2 (by omega)
 rw [g1, g2, Bool.or_false, Bool.or_false]
 unfold stepA
 rw [if_neg h1, if_neg h2]
 by_cases h3 : a = 3
 ·rw [if_pos h3]; exact ⟨rfl, rfl, rfl, rfl, by simp, fun c hc => .inl hc, .inl rfl⟩
 rw [if_neg h3]
 by_cases h4 : a = 4
 ·rw [if_pos h4]; exact ⟨rfl, rfl, rfl, rfl, by simp, fun c hc => .inl hc, .inl rfl⟩
 rw [if_neg h4]
 by_cases h5 : a = 5
 ·rw [if_pos h5]; exact ⟨rfl, rfl, rfl, rfl, by simp, fun c hc => .inl hc, .inl rfl⟩
 rw [if_neg h5]
 by_cases h6 : a = 6
 ·rw [if_pos h6]; exact ⟨rfl, rfl, rfl, rfl, by simp, fun c hc => .inl hc, .inl rfl⟩
 rw [if_neg h6]
 by_cases h7 : a = 7
 ·rw [if_pos h7, if_pos (show 7 ≤ a ∧ a ≤ 12 by omega)]
  have hz := sndS_spec x.2.2 (conC 1 (idS x.1.2.2.2.1) (askS x.1.1)).1
  exact ⟨rfl, rfl, rfl, rfl, hz.1, hz.2, .inr rfl⟩
 rw [if_neg h7]
 by_cases h10 : a = 10
 ·rw [if_pos h10, if_pos (show 7 ≤ a ∧ a ≤ 12 by omega)]
  have hz := sndS_spec x.2.2 (5, idS x.1.2.2.2.1, [])
  exact ⟨rfl, rfl, rfl, rfl, hz.1, hz.2, .inl rfl⟩
 rw [if_neg h10]
 by_cases h12 : a = 12
 ·rw [if_pos h12, if_pos (show 7 ≤ a ∧ a ≤ 12 by omega)]
  have hz := sndS_spec x.2.2 (7, idS x.1.2.2.2.1, cutC (layC came).1 1400)
  exact ⟨rfl, rfl, rfl, rfl, hz.1, hz.2, .inl rfl⟩
 rw [if_neg h12]
 by_cases h89 : a = 8 ∨ a = 9
 ·rw [if_pos h89, if_pos (show 7 ≤ a ∧ a ≤ 12 by omega)]
  have hz := sndS_spec x.2.2 ans
  exact ⟨rfl, rfl, rfl, rfl, hz.1, hz.2, .inl rfl⟩
 rw [if_neg h89]
 by_cases h11 : a = 11
 ·rw [if_pos h11, if_pos (show 7 ≤ a ∧ a ≤ 12 by omega)]
  have hz := sndS_spec x.2.2 (6, came.2.1, [])
  exact ⟨rfl, rfl, rfl, rfl, hz.1, hz.2, .inl rfl⟩
 rw [if_neg h11]
 exact ⟨rfl, rfl, rfl, rfl, by simp, fun c hc => .inl hc, .inl rfl⟩
theorem fold_spec (acts : List Int) (came ans : Ct) : ∀ (l : List Int) (x : Nt × Ft × List Ct),
  (l.foldl (stepA acts came ans) x).1.1 = x.1.1 ∧ (l.foldl (stepA acts came ans) x).1.2.1 = x.1.2.1 ∧ (l.foldl (stepA acts came ans) x).2.1.1 = (x.2.1.1 || l.contains 1) ∧ (l.foldl (stepA acts came ans) x).2.1.2.1 = (x.2.1.2.1 || l.contains 2) ∧
  (l.foldl (stepA acts came ans) x).2.2.length ≤ x.2.2.length + (l.filter fun a => decide (7 ≤ a ∧ a ≤ 12)).length ∧ (∀ c ∈ (l.foldl (stepA acts came ans) x).2.2, c ∈ x.2.2 ∨ (layC c).2 = 0) ∧ ((l.foldl (stepA acts came ans) x).1.2.2.2.2.1 = x.1.2.2.2.2.1 ∨ (l.foldl (stepA acts came ans) x).1.2.2.2.2.1 = askS x.1.1)
 | [], x => ⟨rfl, rfl, by simp, by simp, by simp, fun c hc => .inl hc, .inl rfl⟩
 | a :: l, x => by
  obtain ⟨p1, p2, p3, p4, p5, p6, p7⟩ := stepA_spec acts came ans x a
  obtain ⟨q1, q2, q3, q4, q5, q6, q7⟩ := fold_spec acts came ans l (stepA acts came ans x a)
  rw [List.foldl_cons]
  refine ⟨q1.trans p1, q2.trans p2, ?_, ?_, ?_, fun c hc => ?_, ?_⟩
  ·rw [q3, p3, List.contains_cons, Bool.or_assoc]
  ·rw [q4, p4, List.contains_cons, Bool.or_assoc]
  ·rw [List.filter_cons]
   by_cases h : 7 ≤ a ∧ a ≤ 12
   ·rw [if_pos h] at p5
    rw [decide_eq_true h, if_pos rfl, List.length_cons]
    omega
   ·rw [if_neg h] at p5
    rw [decide_eq_false h, if_neg (by simp)]
    omega
  ·rcases q6 c hc with h | h
   ·exact p6 c h
   ·exact .inr h
  ·rcases q7 with h | h
   ·rcases p7 with h' | h'
    ·exact .inl (h.trans h')
    ·exact .inr (h.trans h')
   ·rw [p1] at h
    exact .inr h
section
variable {N : Nat}
abbrev InT := ((Int × (List Int × (List Int × (Int × (Int × Unit))))) × (Nt × (Ct × (Ct × (Nt × (Bool × (Bool × (Bool × (Bool × (Bool × (Bool × (Bool × (Bool × (List Ct × (List Ct × Unit)))))))))))))))
abbrev OutT := ((Int × Unit) × (Nt × (Nt × (Bool × (Bool × (Bool × (Bool × (Bool × (Bool × (Bool × (Bool × (List Ct × (List Ct × Unit)))))))))))))
def inX (next : Int) (acts : List Int) (came ans : Ct) (z : Nt) (h4 h5 h6 h7 : Bool) (h12 : List Ct) (i : Nat) (x : Nt × Ft × List Ct) : InT := ((next, acts, acts, (acts.length : Int), (i : Int), ()), x.1, came, ans, z, h4, h5, h6, h7, x.2.1.1, x.2.1.2.1, x.2.1.2.2.1, x.2.1.2.2.2, h12, x.2.2, ())
def outX (next : Int) (z : Nt) (h4 h5 h6 h7 : Bool) (h12 : List Ct) (y : Nt × Ft × List Ct) : OutT := ((next, ()), y.1, z, h4, h5, h6, h7, y.2.1.1, y.2.1.2.1, y.2.1.2.2.1, y.2.1.2.2.2, h12, y.2.2, ())
noncomputable def doneG (N : Nat) (X : InT → Option OutT) (c : InT) : Option OutT := nNd_L7 N X c.1.1 c.1.2.1 c.1.2.2.1 c.1.2.2.2.1 c.1.2.2.2.2.1 c.2.1 c.2.2.1 c.2.2.2.1 c.2.2.2.2.1 c.2.2.2.2.2.1 c.2.2.2.2.2.2.1 c.2.2.2.2.2.2.2.1 c.2.2.2.2.2.2.2.2.1 c.2.2.2.2.2.2.2.2.2.1 c.2.2.2.2.2.2.2.2.2.2.1 c.2.2.2.2.2.2.2.2.2.2.2.1 c.2.2.2.2.2.2.2.2.2.2.2.2.1 c.2.2.2.2.2.2.2.2.2.2.2.2.2.1 c.2.2.2.2.2.2.2.2.2.2.2.2.2.2.1
theorem g_end (next : Int) (acts : List Int) (came ans : Ct) (z : Nt) (h4 h5 h6 h7 : Bool) (h12 : List Ct) (i : Nat) (x : Nt × Ft × List Ct) (hi : acts.length ≤ i) (X) : doneG N X (inX next acts came ans z h4 h5 h6 h7 h12 i x) = some (outX next z h4 h5 h6 h7 h12 x) := by
 have c1 : decide ((i : Int) < (acts.length : Int)) = false := decide_eq_false (by omega)
 unfold doneG inX outX nNd_L7
 simp only [c1, cond_false]
theorem g_step (next : Int) (acts : List Int) (hal : acts.length ≤ 50) (came ans : Ct) (z : Nt) (h4 h5 h6 h7 : Bool) (h12 : List Ct) (hc : came.2.2.length ≤ 5000) (ha : ans.2.2.length ≤ 20000) (hN : 10000 ≤ N) (hN2 : N ≤ 1000000) (i : Nat) (a : Int) (hi : acts[i]? = some a) (x : Nt × Ft × List Ct) (hw : wfR x.1.1) (hp : x.2.2.length ≤ 100) (X) :
  doneG N X (inX next acts came ans z h4 h5 h6 h7 h12 i x) = X (inX next acts came ans z h4 h5 h6 h7 h12 (i + 1) (stepA acts came ans x a)) := act_is (N := N) next acts i a hi (by omega) x.1 z came ans h4 h5 h6 h7 x.2.1.1 x.2.1.2.1 x.2.1.2.2.1 x.2.1.2.2.2 h12 x.2.2 hw hc ha hp hN hN2 X
theorem run_is (next : Int) (acts : List Int) (hal : acts.length ≤ 50) (z : Nt) (came ans : Ct) (h4 h5 h6 h7 : Bool) (h12 : List Ct) (hc : came.2.2.length ≤ 5000) (ha : ans.2.2.length ≤ 20000) (hN : 10000 ≤ N) (hN2 : N ≤ 1000000) (m : Nat) : ∀ (M i : Nat) (x : Nt × Ft × List Ct), m + i = acts.length → m < M → wfR x.1.1 → x.2.2.length ≤ i →
  gl (doneG N) M (inX next acts came ans z h4 h5 h6 h7 h12 i x) = some (outX next z h4 h5 h6 h7 h12 ((acts.drop i).foldl (stepA acts came ans) x)) := by
 induction m with
 | zero =>
  intro M i x hm hM hw hp
  obtain ⟨M, rfl⟩ : ∃ k, M = k + 1 := ⟨M - 1, by omega⟩
  have h1 := g_end (N := N) next acts came ans z h4 h5 h6 h7 h12 i x (by omega) (gl (doneG N) M)
  have h2 : List.drop i acts = [] := List.drop_of_length_le (by omega)
  rw [h2, List.foldl_nil]
  exact h1
 | succ m ih =>
  intro M i x hm hM hw hp
  obtain ⟨M, rfl⟩ : ∃ k, M = k + 1 := ⟨M - 1, by omega⟩
  have hlt : i < acts.length := by omega
  have hi : acts[i]? = some acts[i] := List.getElem?_eq_getElem hlt
  obtain ⟨p1, p2, p3, p4, p5, p6, p7⟩ := stepA_spec acts came ans x acts[i]
  have h1 := g_step (N := N) next acts hal came ans z h4 h5 h6 h7 h12 hc ha hN hN2 i acts[i] hi x hw (by omega) (gl (doneG N) M)
  have h2 := ih M (i + 1) (stepA acts came ans x acts[i]) (by omega) (by omega) (by rw [p1]; exact hw) (by split at p5 <;> omega)
  rw [List.drop_eq_getElem_cons hlt, List.foldl_cons]
  exact h1.trans h2
structure WN (n : Nt) : Prop where
 r : wfR n.1
 s0 : 0 ≤ n.2.1
 s10 : n.2.1 < 10
 sw : wfO n.2.2.2.2.1
 sl : n.2.2.2.2.1.length ≤ 500
 sd : ∀ o ∈ n.2.2.2.2.1, o.2.length ≤ 500
theorem done_is (n : Nt) (e : Nat) (came ans : Ct) (hn : WN n) (he : e < 16) (hc : came.2.2.length ≤ 5000) (ha : ans.2.2.length ≤ 20000) : nNd 200000 n (e : Int) came ans = some (doneS n e came ans) := by
 obtain ⟨s, hs⟩ : ∃ s : Nat, n.2.1 = (s : Int) := ⟨n.2.1.toNat, (Int.toNat_of_nonneg hn.s0).symm⟩
 have hs10 : s < 10 := by have := hn.s10; omega
 have hnx := next_all s hs10 e he
 have hck := chk_all s hs10 e he
 have hts : n.2.1.toNat = s := by rw [hs]; rfl
 unfold nNd doneS
 rw [hs, hnx, Option.bind_some]
 simp only [Int.toNat_natCast]
 by_cases h0 : (nextS s e).2.2 = 0
 ·rw [decide_eq_true h0, Bool.not_true, cond_false, if_neg (by simp [h0])]
  unfold chkS at hck
  simp only [h0, ne_eq, not_true_eq_false, decide_false, Bool.false_or, Bool.and_eq_true, decide_eq_true_eq] at hck
  obtain ⟨⟨⟨⟨⟨k1, k2⟩, k3⟩, k4⟩, k5⟩, k6⟩ := hck
  have hrun := run_is (N := 200000) (nextS s e).1 (nextS s e).2.1 (by omega) ((false, ((0, (0, false)), (false, (false, (0, (0, (0, false))))))), (0, ((0, 0), (0, ([], ([], 0)))))) came ans false false false false [] hc ha (by omega) (by omega) (nextS s e).2.1.length 200000 0 ((n.1, (nextS s e).1, n.2.2), (false, false, false, false), []) (by omega) (by omega) hn.r (by simp)
  rw [List.drop_zero] at hrun
  refine (congrArg (fun o => Option.bind o _) (show nNd_L7_R 200000 (inX (nextS s e).1 (nextS s e).2.1 came ans _ false false false false [] 0 _) = _ from hrun)).trans ?_
  rw [Option.bind_some]
  obtain ⟨t, ht⟩ : ∃ t : Nat, (nextS s e).1 = (t : Int) := ⟨(nextS s e).1.toNat, (Int.toNat_of_nonneg k1).symm⟩
  have ht10 : t < 10 := by omega
  have htm := timed_all t ht10
  generalize hy : List.foldl (stepA (nextS s e).2.1 came ans) ((n.1, (nextS s e).1, n.2.2), (false, false, false, false), []) (nextS s e).2.1 = y
  obtain ⟨m, f, pk⟩ := y
  simp only [outX, ht, htm, Option.bind_some, Int.toNat_natCast]
  cases timS t <;> rfl
 ·rw [decide_eq_false h0, Bool.not_false, cond_true, if_pos (by simp [h0])]
theorem doneS_spec (n : Nt) (e : Nat) (came ans : Ct) (hn : WN n) (he : e < 16) : WN (doneS n e came ans).1 ∧ (doneS n e came ans).1.1 = n.1 ∧ (doneS n e came ans).2.2.1 = (decide (n.2.1 ≠ 9) && decide ((doneS n e came ans).1.2.1 = 9)) ∧ (doneS n e came ans).2.2.2.1 = (decide (n.2.1 = 9) && decide ((doneS n e came ans).1.2.1 ≠ 9)) ∧
  (doneS n e came ans).2.1.length ≤ 2 ∧ ∀ c ∈ (doneS n e came ans).2.1, (layC c).2 = 0 := by
 obtain ⟨s, hs⟩ : ∃ s : Nat, n.2.1 = (s : Int) := ⟨n.2.1.toNat, (Int.toNat_of_nonneg hn.s0).symm⟩
 have hs10 : s < 10 := by have := hn.s10; omega
 have hck := chk_all s hs10 e he
 have hts : n.2.1.toNat = s := by rw [hs]; rfl
 unfold doneS
 rw [hts]
 by_cases h0 : (nextS s e).2.2 = 0
 ·rw [if_neg (by simp [h0])]
  unfold chkS at hck
  simp only [h0, ne_eq, not_true_eq_false, decide_false, Bool.false_or, Bool.and_eq_true, decide_eq_true_eq] at hck
  obtain ⟨⟨⟨⟨⟨k1, k2⟩, k3⟩, k4⟩, k5⟩, k6⟩ := hck
  obtain ⟨q1, q2, q3, q4, q5, q6, q7⟩ := fold_spec (nextS s e).2.1 came ans (nextS s e).2.1 ((n.1, (nextS s e).1, n.2.2), (false, false, false, false), [])
  generalize hy : List.foldl (stepA (nextS s e).2.1 came ans) ((n.1, (nextS s e).1, n.2.2), (false, false, false, false), []) (nextS s e).2.1 = y at *
  obtain ⟨m, f, pk⟩ := y
  simp only at q1 q2 q3 q4 q5 q6 q7
  dsimp only
  have hwm : WN m := by
   refine ⟨by rw [q1]; exact hn.r, by rw [q2]; exact k1, by rw [q2]; exact k2, ?_, ?_, ?_⟩ <;> rcases q7 with h | h <;> rw [h]
   ·exact hn.sw
   ·exact (askS_wf _).1
   ·exact hn.sl
   ·have := (askS_wf n.1).2.1; omega
   ·exact hn.sd
   ·exact fun o ho => by have := (askS_wf n.1).2.2 o ho; omega
  have hup : f.1 = (decide (n.2.1 ≠ 9) && decide (m.2.1 = 9)) := by
   rw [q3, Bool.false_or, q2, hs]
   have := beq_iff_eq.1 k3
   rw [this]
   by_cases h9 : s = 9
   ·subst h9; simp
   ·have h9' : ¬ (s : Int) = 9 := by omega
    simp [h9, h9']
    by_cases h' : (nextS s e).1 = 9 <;> simp [h']
  have hdn : f.2.1 = (decide (n.2.1 = 9) && decide (m.2.1 ≠ 9)) := by
   rw [q4, Bool.false_or, q2, hs]
   have := beq_iff_eq.1 k4
   rw [this]
   by_cases h9 : s = 9
   ·subst h9
    by_cases h' : (nextS 9 e).1 = 9 <;> simp [h', bne]
   ·have h9' : ¬ (s : Int) = 9 := by omega
    simp [h9, h9']
  have hpk : pk.length ≤ 2 := by rw [List.length_nil, Nat.zero_add] at q5; omega
  have hgood : ∀ c ∈ pk, (layC c).2 = 0 := fun c hc => (q6 c hc).elim (fun h => by cases h) id
  split
  ·exact ⟨hwm, q1, hup, hdn, hpk, hgood⟩
  ·exact ⟨⟨hwm.r, hwm.s0, hwm.s10, hwm.sw, hwm.sl, hwm.sd⟩, q1, hup, hdn, hpk, hgood⟩
 ·rw [if_pos (by simp [h0])]
  refine ⟨hn, rfl, ?_, ?_, by simp, fun c hc => by cases hc⟩
  ·by_cases h : n.2.1 = 9 <;> simp [h]
  ·by_cases h : n.2.1 = 9 <;> simp [h]
end
section
variable {N : Nat}
theorem kinds_loop (l : List Op) (hl : l.length ≤ 1000) : ∀ (m M i : Nat), m + i = l.length → m < M → gl (fun X c => opts_Kinds_L3 N X c.1.1 c.1.2.1 c.1.2.2.1 c.2.1) M ((l, ((l.length : Int), ((i : Int), ()))), ((l.take i).map (·.1), ())) = some ((), (l.map (·.1), ()))
  | 0, M + 1, i, hm, hM => by
    have c1 : ¬ ((i : Int) < (l.length : Int)) := by omega
    rw [gl_succ, List.take_of_length_le (by omega)]
    simp only [opts_Kinds_L3, c1, decide_false, cond_false]
  | m + 1, M + 1, i, hm, hM => by
    have hlt : i < l.length := by omega
    have c1 : ((i : Int) < (l.length : Int)) := by omega
    have c2 : IntKind.wrap .i64 ((i : Int) + 1) = ((i + 1 : Nat) : Int) := by rw [wrap64 (by omega) (by omega)]; omega
    have ih := kinds_loop l hl m M (i + 1) (by omega) (by omega)
    have hr : roomB (((l.take i).map (·.1)).length + ([l[i].1] : List Int).length) 1 = true := roomB_of (by have := big_len; simp; omega) (by simp; omega)
    rw [take_snoc l i hlt, List.map_append] at ih
    have key : ∀ X, opts_Kinds_L3 N X l (l.length : Int) (i : Int) ((l.take i).map (·.1)) = X ((l, ((l.length : Int), (((i + 1 : Nat) : Int), ()))), ((l.take i).map (·.1) ++ [l[i].1], ())) := fun X => by
      simp only [opts_Kinds_L3, c1, decide_true, cond_true, getI_lt l i hlt, Option.bind_some, hr, c2]
    exact (key _).trans ih
theorem kinds_is (l : List Op) (hl : l.length ≤ 1000) (hN : 10000 ≤ N) : opts_Kinds N l = some (l.map (·.1)) := by
  have h := kinds_loop (N := N) l hl l.length N 0 (by omega) (by omega)
  unfold opts_Kinds
  exact (congrArg (fun o => Option.bind o _) (show opts_Kinds_L3_R N ((l, ((l.length : Int), ((0 : Int), ()))), (([] : List Int), ())) = _ from h)).trans rfl
theorem of_loop (l : List Op) (ks : List Int) (hl : l.length ≤ 1000) (hk : ks.length ≤ 1000) (hN : 10000 ≤ N) (hN2 : N ≤ 1000000) : ∀ (m M i : Nat), m + i = l.length → m < M → gl (fun X c => nego_of_L3 N X c.1.1 c.1.2.1 c.1.2.2.1 c.1.2.2.2.1 c.2.1) M ((ks, (l, ((l.length : Int), ((i : Int), ())))), ((l.take i).filter (fun o => ks.contains o.1), ())) = some ((), (l.filter (fun o => ks.contains o.1), ()))
  | 0, M + 1, i, hm, hM => by
    have c1 : ¬ ((i : Int) < (l.length : Int)) := by omega
    rw [gl_succ, List.take_of_length_le (by omega)]
    simp only [nego_of_L3, c1, decide_false, cond_false]
  | m + 1, M + 1, i, hm, hM => by
    have hlt : i < l.length := by omega
    have c1 : ((i : Int) < (l.length : Int)) := by omega
    have c2 : IntKind.wrap .i64 ((i : Int) + 1) = ((i + 1 : Nat) : Int) := by rw [wrap64 (by omega) (by omega)]; omega
    have ih := of_loop l ks hl hk hN hN2 m M (i + 1) (by omega) (by omega)
    have hlen : ((l.take i).filter (fun o => ks.contains o.1)).length ≤ i := Nat.le_trans (List.length_filter_le _ _) (by rw [List.length_take]; omega)
    have hr : roomB (((l.take i).filter (fun o => ks.contains o.1)).length + ([(l[i].1, l[i].2)] : List Op).length) 32 = true := roomB_of (by have := big_len; show _ + 1 ≤ _; omega) (by show (_ + 1) * 32 ≤ _; omega)
    have hc := contb_is (N := N) ks l[i].1 (by omega) hN2
    rw [take_snoc l i hlt, List.filter_append] at ih
    have key : ∀ X, nego_of_L3 N X ks l (l.length : Int) (i : Int) ((l.take i).filter (fun o => ks.contains o.1)) = X ((ks, (l, ((l.length : Int), (((i + 1 : Nat) : Int), ())))), ((l.take i).filter (fun o => ks.contains o.1) ++ [l[i]].filter (fun o => ks.contains o.1), ())) := fun X => by
      cases hb : ks.contains l[i].1 with
      | true =>
        have hf : [l[i]].filter (fun o => ks.contains o.1) = [l[i]] := by simp only [List.filter_cons, hb, if_true, List.filter_nil]
        rw [hf]
        simp only [nego_of_L3, c1, decide_true, cond_true, getI_lt l i hlt, Option.bind_some, hc, hb, hr, c2]
      | false =>
        have hf : [l[i]].filter (fun o => ks.contains o.1) = [] := by simp only [List.filter_cons, hb, Bool.false_eq_true, if_false, List.filter_nil]
        rw [hf, List.append_nil]
        simp only [nego_of_L3, c1, decide_true, cond_true, cond_false, getI_lt l i hlt, Option.bind_some, hc, hb, c2]
    exact (key _).trans ih
theorem nof_is (l : List Op) (ks : List Int) (hl : l.length ≤ 1000) (hk : ks.length ≤ 1000) (hN : 10000 ≤ N) (hN2 : N ≤ 1000000) : nego_of N l ks = some (l.filter (fun o => ks.contains o.1)) := by
  have h := of_loop (N := N) l ks hl hk hN hN2 l.length N 0 (by omega) (by omega)
  unfold nego_of
  exact (congrArg (fun o => Option.bind o _) (show nego_of_L3_R N ((ks, (l, ((l.length : Int), ((0 : Int), ())))), (([] : List Op), ())) = _ from h)).trans rfl
end
theorem optC_small (c : Ct) (hl : c.2.2.length < 200000) (hw : AllB c.2.2) : ∀ o ∈ (optC 200000 c).1, o.2.length ≤ 253 := by
  unfold optC
  cases isC c.1
  · exact fun o ho => (by cases ho)
  · simp only [cond_true]
    rcases par_back 200000 c.2.2 [] hl hw (fun o ho => (by cases ho)) (by simp) with ⟨e, h, he⟩ | ⟨m, h, _, hs, hm⟩
    · rw [h]; exact fun o ho => (by cases ho)
    · rw [h]; exact hs
def wf1 (x : Op) : Prop := (0 ≤ x.1 ∧ x.1 < 256) ∧ AllB x.2
theorem tell_wf (rj : List Op → Op → Bool) (nk : Op → Option Op) (l : List Op) (hw : wfO l) (hl : l.length ≤ 32) (hk : ∀ o ∈ l, ∀ x, nk o = some x → wf1 x) : wfO (tellS l (judS rj nk [] l)).2 ∧ (tellS l (judS rj nk [] l)).2.length ≤ 32 ∧ ((tellS l (judS rj nk [] l)).1 = 2 ∨ (tellS l (judS rj nk [] l)).1 = 3 ∨ (tellS l (judS rj nk [] l)).1 = 4) := by
  obtain ⟨h1, h2, h3⟩ := judS_sub rj nk l []
  unfold tellS
  split
  · exact ⟨wfO_sub hw h1, by have := h1.length_le; simp only; omega, .inr (.inr rfl)⟩
  · split
    · exact ⟨fun x hx => by obtain ⟨o, ho, he⟩ := h3 x hx; exact hk o ho x he, by simp only; omega, .inr (.inl rfl)⟩
    · exact ⟨hw, hl, .inl rfl⟩
theorem ink_wf (s : Sd) (o x : Op) (ho : 0 ≤ o.1 ∧ o.1 < 256) (h : ink s o = some x) : wf1 x := by
  unfold ink at h
  split at h
  · injection h with h
    subst h
    exact ⟨ho, b4_B _⟩
  · cases h
def judgedS (n : Nt) (l : List Op) : Int × List Op := ijudS n.1.2.2.2 l
theorem judged_is (n : Nt) (l : List Op) (hn : wfR n.1) (hw : wfO l) (hl : l.length ≤ 32) (hs : ∀ o ∈ l, o.2.length ≤ 253) : nNj 200000 n l = some (judgedS n l) ∧ wfO (judgedS n l).2 ∧ (judgedS n l).2.length ≤ 32 ∧ ((judgedS n l).1 = 2 ∨ (judgedS n l).1 = 3 ∨ (judgedS n l).1 = 4) := by
  unfold nNj judgedS
  refine ⟨?_, tell_wf _ _ l hw hl fun o ho x hx => ink_wf n.1.2.2.2 o x (hw o ho).1 hx⟩
  have h := ijudge_is (N := 200000) n.1.2.2.2 l hw hn.2 (by omega) (fun o ho => by have := hs o ho; omega) (by omega)
  simp only [hn.1, cond_true, h, Option.bind_some]
def nop (n : Nt) : Nt × List Ct × Ft := (n, [], (false, false, false, false))
def sAck (n : Nt) (l : List Op) : Nt := (n.1, n.2.1, n.2.2.1, n.2.2.2.1, n.2.2.2.2.1, l, n.2.2.2.2.2.2)
def sNak (n : Nt) (k : Int) : Nt := (n.1, n.2.1, n.2.2.1, n.2.2.2.1, n.2.2.2.2.1, n.2.2.2.2.2.1, k)
def sRul (n : Nt) (r : Rt) : Nt := (r, n.2)
def sTim (n : Nt) (t : Int × Int) : Nt := (n.1, n.2.1, t, n.2.2.2)
theorem WN.sAck {n : Nt} (h : WN n) (l : List Op) : WN (sAck n l) := ⟨h.r, h.s0, h.s10, h.sw, h.sl, h.sd⟩
theorem WN.sNak {n : Nt} (h : WN n) (k : Int) : WN (sNak n k) := ⟨h.r, h.s0, h.s10, h.sw, h.sl, h.sd⟩
theorem WN.sRul {n : Nt} (h : WN n) {r : Rt} (hr : wfR r) : WN (sRul n r) := ⟨hr, h.s0, h.s10, h.sw, h.sl, h.sd⟩
theorem WN.sTim {n : Nt} (h : WN n) (t : Int × Int) : WN (sTim n t) := ⟨h.r, h.s0, h.s10, h.sw, h.sl, h.sd⟩
def judgeS (n : Nt) (c : Ct) : Nt × List Ct × Ft :=
  if (optC 200000 c).2 ≠ 0 then nop n else
  if (judgedS n (optC 200000 c).1).1 = 2 then doneS (sAck n (optC 200000 c).1) 6 c (conC 2 c.2.1 (judgedS n (optC 200000 c).1).2).1 else
  if (judgedS n (optC 200000 c).1).1 = 3 then
    (if 5 < IntKind.wrap .i64 (n.2.2.2.2.2.2 + 1) then doneS (sNak n (IntKind.wrap .i64 (n.2.2.2.2.2.2 + 1))) 7 c (conC 4 c.2.1 ((optC 200000 c).1.filter fun o => ((judgedS n (optC 200000 c).1).2.map (·.1)).contains o.1)).1
     else doneS (sNak n (IntKind.wrap .i64 (n.2.2.2.2.2.2 + 1))) 7 c (conC 3 c.2.1 (judgedS n (optC 200000 c).1).2).1)
  else doneS n 7 c (conC (judgedS n (optC 200000 c).1).1 c.2.1 (judgedS n (optC 200000 c).1).2).1
theorem judge_is (n : Nt) (c : Ct) (hn : WN n) (hw : AllB c.2.2) (hl : c.2.2.length ≤ 5000) : nNJ 200000 n c = some (judgeS n c) := by
  have hopt := copt_ok (N := 200000) c (by omega) hw (by omega)
  obtain ⟨ow, ol⟩ := optC_wf c (by omega) hw
  have os := optC_small c (by omega) hw
  unfold nNJ judgeS
  generalize hq : optC 200000 c = q at *
  obtain ⟨l, e⟩ := q
  simp only at ow ol os
  have hopt' : ctl_Options 200000 (c.1, (c.2.1, c.2.2)) = some (l, e) := hopt
  have hoptE : ctl_Options 200000 c = some (l, e) := hopt'
  by_cases he : e = 0
  · subst he
    obtain ⟨j1, j2, j3, j4⟩ := judged_is n l hn.r ow ol os
    have hj : nNj 200000 ((n.1.1, ((n.1.2.1.1, (n.1.2.1.2.1, n.1.2.1.2.2)), (n.1.2.2.1, (n.1.2.2.2.1, (n.1.2.2.2.2.1, (n.1.2.2.2.2.2.1, (n.1.2.2.2.2.2.2.1, n.1.2.2.2.2.2.2.2))))))), (n.2.1, ((n.2.2.1.1, n.2.2.1.2), (n.2.2.2.1, (n.2.2.2.2.1, (n.2.2.2.2.2.1, n.2.2.2.2.2.2)))))) l = some (judgedS n l) := j1
    have hjE : nNj 200000 n l = some (judgedS n l) := hj
    simp only [hopt', hoptE, Option.bind_some, decide_true, Bool.not_true, cond_false, hj, hjE, ne_eq, not_true_eq_false, if_false]
    generalize judgedS n l = r at *
    obtain ⟨code, told⟩ := r
    simp only at j2 j3 j4 ⊢
    have con := fun (k : Int) (m : List Op) (hm : m.length ≤ 1000) => ccon_ok (N := 200000) k c.2.1 m hm (by omega)
    have hfl : wfO (l.filter fun o => (told.map (·.1)).contains o.1) := wfO_sub ow List.filter_sublist
    by_cases h2 : code = 2
    · subst h2
      have hd := done_is (sAck n l) 6 c (conC 2 c.2.1 told).1 (hn.sAck l) (by omega) hl (conC_len _ _ _ j2)
      simp only [decide_true, cond_true, con 2 told (by omega), Option.bind_some, if_true]
      exact (congrArg (fun o => Option.bind o _) hd).trans rfl
    · have d2 : decide (code = 2) = false := decide_eq_false h2
      by_cases h3 : code = 3
      · subst h3
        simp only [d2, cond_false, decide_true, cond_true, if_true, if_neg h2]
        by_cases h5 : 5 < IntKind.wrap .i64 (n.2.2.2.2.2.2 + 1)
        · have hd := done_is (sNak n (IntKind.wrap .i64 (n.2.2.2.2.2.2 + 1))) 7 c (conC 4 c.2.1 (l.filter fun o => (told.map (·.1)).contains o.1)).1 (hn.sNak _) (by omega) hl (conC_len _ _ _ hfl)
          have hk := kinds_is (N := 200000) told (by omega) (by omega)
          have ho := nof_is (N := 200000) l (told.map (·.1)) (by omega) (by rw [List.length_map]; omega) (by omega) (by omega)
          have hfl2 : (l.filter fun o => (told.map (·.1)).contains o.1).length ≤ 1000 := Nat.le_trans (List.length_filter_le _ _) (by omega)
          simp only [decide_eq_true h5, cond_true, hk, ho, con 4 _ hfl2, Option.bind_some, if_pos h5]
          exact (congrArg (fun o => Option.bind o _) hd).trans rfl
        · have hd := done_is (sNak n (IntKind.wrap .i64 (n.2.2.2.2.2.2 + 1))) 7 c (conC 3 c.2.1 told).1 (hn.sNak _) (by omega) hl (conC_len _ _ _ j2)
          simp only [decide_eq_false h5, cond_false, con 3 told (by omega), Option.bind_some, if_neg h5]
          exact (congrArg (fun o => Option.bind o _) hd).trans rfl
      · have d3 : decide (code = 3) = false := decide_eq_false h3
        have hd := done_is n 7 c (conC code c.2.1 told).1 hn (by omega) hl (conC_len _ _ _ j2)
        simp only [d2, d3, cond_false, con code told (by omega), Option.bind_some, if_neg h2, if_neg h3]
        exact (congrArg (fun o => Option.bind o _) hd).trans rfl
  · have d0 : decide (e = 0) = false := decide_eq_false he
    simp only [hopt', hoptE, Option.bind_some, d0, Bool.not_false, cond_true, ne_eq, he, not_false_eq_true, if_true]
    rfl
def zc : Ct := (0, 0, [])
def agreeS (n : Nt) (c : Ct) : Nt × List Ct × Ft :=
  if (optC 200000 c).2 ≠ 0 ∨ c.2.1 ≠ n.2.2.2.1 ∨ (optC 200000 c).1 ≠ n.2.2.2.2.1 then nop n else doneS (sNak n 0) 8 c zc
theorem agree_is (n : Nt) (c : Ct) (hn : WN n) (hw : AllB c.2.2) (hl : c.2.2.length ≤ 5000) : nNg 200000 n c = some (agreeS n c) := by
  have hopt := copt_ok (N := 200000) c (by omega) hw (by omega)
  obtain ⟨ow, ol⟩ := optC_wf c (by omega) hw
  unfold nNg agreeS
  generalize hq : optC 200000 c = q at *
  obtain ⟨l, e⟩ := q
  simp only at ow ol
  have hopt' : ctl_Options 200000 (c.1, (c.2.1, c.2.2)) = some (l, e) := hopt
  have hoptE : ctl_Options 200000 c = some (l, e) := hopt'
  have hsame := osame_ok (N := 200000) l n.2.2.2.2.1 ow hn.sw (by omega) (by omega)
  have hd := done_is (sNak n 0) 8 c zc (hn.sNak 0) (by omega) hl (by simp [zc])
  by_cases he : e = 0
  · by_cases hid : c.2.1 = n.2.2.2.1
    · by_cases hs : l = n.2.2.2.2.1
      · simp only [hopt', hoptE, Option.bind_some, decide_eq_true he, decide_eq_true hid, Bool.not_true, cond_false, hsame, decide_eq_true hs, if_neg (show ¬ (e ≠ 0 ∨ c.2.1 ≠ n.2.2.2.1 ∨ l ≠ n.2.2.2.2.1) by simp [he, hid, hs])]
        exact (congrArg (fun o => Option.bind o _) hd).trans rfl
      · simp only [hopt', hoptE, Option.bind_some, decide_eq_true he, decide_eq_true hid, Bool.not_true, Bool.not_false, cond_false, cond_true, hsame, decide_eq_false hs, if_pos (show (e ≠ 0 ∨ c.2.1 ≠ n.2.2.2.1 ∨ l ≠ n.2.2.2.2.1) from .inr (.inr hs))]
        rfl
    · simp only [hopt', hoptE, Option.bind_some, decide_eq_true he, decide_eq_false hid, Bool.not_true, Bool.not_false, cond_false, cond_true, if_pos (show (e ≠ 0 ∨ c.2.1 ≠ n.2.2.2.1 ∨ l ≠ n.2.2.2.2.1) from .inr (.inl hid))]
      rfl
  · simp only [hopt', hoptE, Option.bind_some, decide_eq_false he, Bool.not_false, cond_true, if_pos (show (e ≠ 0 ∨ c.2.1 ≠ n.2.2.2.1 ∨ l ≠ n.2.2.2.2.1) from .inl he)]
    rfl
def turnS (r : Rt) (code : Int) (l : List Op) : Rt × Bool :=
  if code = 3 then ((r.1, r.2.1, r.2.2.1, inkS r.2.2.2 l), true) else ((r.1, r.2.1, r.2.2.1, (irjS r.2.2.2 l).1), (irjS r.2.2.2 l).2)
theorem turn_is (r : Rt) (code : Int) (l : List Op) (hr : wfR r) (hw : wfO l) (hl : l.length ≤ 1000) (hs : ∀ o ∈ l, o.2.length ≤ 1000) : nRt 200000 r code l = some (turnS r code l) ∧ wfR (turnS r code l).1 := by
  obtain ⟨i1, i2⟩ := inaked_is (N := 200000) r.2.2.2 l hw hl (by omega)
  have k1 := irej_is (N := 200000) r.2.2.2 l hl hs (by omega)
  unfold nRt turnS
  by_cases h3 : code = 3
  · rw [if_pos h3]
    refine ⟨?_, hr.1, i2 hr.2⟩
    simp only [decide_eq_true h3, hr.1, cond_true, Option.bind_some, i1]
  · rw [if_neg h3]
    refine ⟨?_, hr.1, hr.2⟩
    simp only [decide_eq_false h3, hr.1, cond_true, cond_false, Option.bind_some, k1]
def refuseS (n : Nt) (c : Ct) : Nt × List Ct × Ft :=
  if (optC 200000 c).2 ≠ 0 ∨ c.2.1 ≠ n.2.2.2.1 ∨ (optC 200000 c).1.length = 0 ∨ (c.1 = 4 ∧ amS (optC 200000 c).1 n.2.2.2.2.1 = false) then nop n else
  doneS (sRul n (turnS n.1 c.1 (optC 200000 c).1).1) (if (turnS n.1 c.1 (optC 200000 c).1).2 then 9 else 14) c zc
theorem refuse_is (n : Nt) (c : Ct) (hn : WN n) (hw : AllB c.2.2) (hl : c.2.2.length ≤ 5000) : nNr 200000 n c = some (refuseS n c) := by
  have hopt := copt_ok (N := 200000) c (by omega) hw (by omega)
  obtain ⟨ow, ol⟩ := optC_wf c (by omega) hw
  have os := optC_small c (by omega) hw
  unfold nNr refuseS
  generalize hq : optC 200000 c = q at *
  obtain ⟨l, e⟩ := q
  simp only at ow ol os
  have hopt' : ctl_Options 200000 (c.1, (c.2.1, c.2.2)) = some (l, e) := hopt
  have hoptE : ctl_Options 200000 c = some (l, e) := hopt'
  have ham := among_ok (N := 200000) l n.2.2.2.2.1 ow hn.sw (by omega) (by have := hn.sl; omega) (by omega)
  obtain ⟨t1, t2⟩ := turn_is n.1 c.1 l hn.r ow (by omega) (fun o ho => by have := os o ho; omega)
  have t1' : nRt 200000 (n.1.1, ((n.1.2.1.1, (n.1.2.1.2.1, n.1.2.1.2.2)), (n.1.2.2.1, (n.1.2.2.2.1, (n.1.2.2.2.2.1, (n.1.2.2.2.2.2.1, (n.1.2.2.2.2.2.2.1, n.1.2.2.2.2.2.2.2))))))) c.1 l = some (turnS n.1 c.1 l) := t1
  have t1E : nRt 200000 n.1 c.1 l = some (turnS n.1 c.1 l) := t1'
  simp only []
  by_cases he : e = 0
  · by_cases hid : c.2.1 = n.2.2.2.1
    · by_cases h0 : l.length = 0
      · have h0' : ((l.length : Nat) : Int) = 0 := by omega
        simp only [hopt', hoptE, Option.bind_some, decide_eq_true he, decide_eq_true hid, Bool.not_true, cond_false, cond_true, decide_eq_true h0', if_pos (show (e ≠ 0 ∨ c.2.1 ≠ n.2.2.2.1 ∨ l.length = 0 ∨ (c.1 = 4 ∧ amS l n.2.2.2.2.1 = false)) from .inr (.inr (.inl h0)))]
        rfl
      · have h0' : ¬ ((l.length : Nat) : Int) = 0 := by omega
        by_cases h4 : c.1 = 4 ∧ amS l n.2.2.2.2.1 = false
        · rw [if_pos (show (e ≠ 0 ∨ c.2.1 ≠ n.2.2.2.1 ∨ l.length = 0 ∨ (c.1 = 4 ∧ amS l n.2.2.2.2.1 = false)) from .inr (.inr (.inr h4)))]
          simp only [hopt', hoptE, Option.bind_some, decide_eq_true he, decide_eq_true hid, Bool.not_true, Bool.not_false, cond_false, cond_true, decide_eq_false h0', decide_eq_true h4.1, ham, h4.2]
          rfl
        · have hno : ¬ (e ≠ 0 ∨ c.2.1 ≠ n.2.2.2.1 ∨ l.length = 0 ∨ (c.1 = 4 ∧ amS l n.2.2.2.2.1 = false)) := by simp only [he, hid, h0, ne_eq, not_true_eq_false, false_or]; exact h4
          rw [if_neg hno]
          have hd : ∀ e : Nat, e < 16 → nNd 200000 (sRul n (turnS n.1 c.1 l).1) (e : Int) c zc = some (doneS (sRul n (turnS n.1 c.1 l).1) e c zc) := fun e he => done_is _ e c zc (hn.sRul t2) he hl (by simp [zc])
          by_cases hc4 : c.1 = 4
          · have hat : amS l n.2.2.2.2.1 = true := by
              cases ha : amS l n.2.2.2.2.1 with
              | true => rfl
              | false => exact absurd ⟨hc4, ha⟩ h4
            simp only [hopt', hoptE, Option.bind_some, decide_eq_true he, decide_eq_true hid, Bool.not_true, cond_false, cond_true, decide_eq_false h0', decide_eq_true hc4, ham, hat, t1', t1E]
            cases hb : (turnS n.1 c.1 l).2 with
            | true =>
              simp only [Bool.not_true, cond_false, if_true]
              exact (congrArg (fun o => Option.bind o _) (hd 9 (by omega))).trans rfl
            | false =>
              simp only [Bool.not_false, cond_true, Bool.false_eq_true, if_false]
              exact (congrArg (fun o => Option.bind o _) (hd 14 (by omega))).trans rfl
          · simp only [hopt', hoptE, Option.bind_some, decide_eq_true he, decide_eq_true hid, Bool.not_true, cond_false, cond_true, decide_eq_false h0', decide_eq_false hc4, t1', t1E]
            cases hb : (turnS n.1 c.1 l).2 with
            | true =>
              simp only [Bool.not_true, cond_false, if_true]
              exact (congrArg (fun o => Option.bind o _) (hd 9 (by omega))).trans rfl
            | false =>
              simp only [Bool.not_false, cond_true, Bool.false_eq_true, if_false]
              exact (congrArg (fun o => Option.bind o _) (hd 14 (by omega))).trans rfl
    · simp only [hopt', hoptE, Option.bind_some, decide_eq_true he, decide_eq_false hid, Bool.not_true, Bool.not_false, cond_false, cond_true, if_pos (show (e ≠ 0 ∨ c.2.1 ≠ n.2.2.2.1 ∨ l.length = 0 ∨ (c.1 = 4 ∧ amS l n.2.2.2.2.1 = false)) from .inr (.inl hid))]
      rfl
  · simp only [hopt', hoptE, Option.bind_some, decide_eq_false he, Bool.not_false, cond_true, if_pos (show (e ≠ 0 ∨ c.2.1 ≠ n.2.2.2.1 ∨ l.length = 0 ∨ (c.1 = 4 ∧ amS l n.2.2.2.2.1 = false)) from .inl he)]
    rfl
def eventS (n : Nt) (c : Ct) : Nat :=
 if c.1 = 5 then 10 else if c.1 = 6 then 11 else if c.1 = 7 then (if 0 < c.2.2.length ∧ 1 ≤ c.2.2.getD 0 0 ∧ c.2.2.getD 0 0 ≤ 7 then 14 else 13) else if c.1 = 8 then (if n.1.1 then 12 else 13) else if c.1 = 9 ∨ c.1 = 10 ∨ c.1 = 11 then (if n.1.1 then 12 else 15) else 12
theorem eventS_lt (n : Nt) (c : Ct) : eventS n c < 16 := by
 unfold eventS
 split
 ·omega
 split
 ·omega
 split
 ·split <;> omega
 split
 ·split <;> omega
 split
 ·split <;> omega
 omega
theorem event_is (n : Nt) (c : Ct) : nego_Nego_event 200000 n c = some (eventS n c : Int) := by
 unfold nego_Nego_event eventS
 by_cases h5 : c.1 = 5
 ·simp only [decide_eq_true h5, cond_true, if_pos h5]; rfl
 simp only [decide_eq_false h5, cond_false, if_neg h5]
 by_cases h6 : c.1 = 6
 ·simp only [decide_eq_true h6, cond_true, if_pos h6]; rfl
 simp only [decide_eq_false h6, cond_false, if_neg h6]
 by_cases h7 : c.1 = 7
 ·simp only [decide_eq_true h7, cond_true, if_pos h7]
  by_cases hl : 0 < c.2.2.length
  ·have g := getI_lt c.2.2 0 hl
   have e : c.2.2.getD 0 0 = c.2.2[0] := getD_lt hl
   have g' : getI c.2.2 (0 : Int) = some c.2.2[0] := g
   have hl' : (0 : Int) < (c.2.2.length : Int) := by omega
   rw [e]
   generalize c.2.2[0] = d at g'
   by_cases h1 : 1 ≤ d <;> by_cases h2 : d ≤ 7 <;> simp [hl', g', h1, h2, hl]
  ·have hl' : ¬ (0 : Int) < (c.2.2.length : Int) := by omega
   simp only [decide_eq_false hl', cond_false, Option.bind_some, if_neg (show ¬ (0 < c.2.2.length ∧ 1 ≤ c.2.2.getD 0 0 ∧ c.2.2.getD 0 0 ≤ 7) from fun h => hl h.1)]; rfl
 simp only [decide_eq_false h7, cond_false, if_neg h7]
 by_cases h8 : c.1 = 8
 ·simp only [decide_eq_true h8, cond_true, if_pos h8]
  cases n.1.1 <;> rfl
 simp only [decide_eq_false h8, cond_false, if_neg h8]
 by_cases h9 : c.1 = 9
 ·simp only [decide_eq_true h9, cond_true, if_pos (show c.1 = 9 ∨ c.1 = 10 ∨ c.1 = 11 by omega)]
  cases n.1.1 <;> rfl
 simp only [decide_eq_false h9, cond_false]
 by_cases h10 : c.1 = 10
 ·simp only [decide_eq_true h10, cond_true, if_pos (show c.1 = 9 ∨ c.1 = 10 ∨ c.1 = 11 by omega)]
  cases n.1.1 <;> rfl
 simp only [decide_eq_false h10, cond_false]
 by_cases h11 : c.1 = 11
 ·simp only [decide_eq_true h11, cond_true, if_pos (show c.1 = 9 ∨ c.1 = 10 ∨ c.1 = 11 by omega)]
  cases n.1.1 <;> rfl
 simp only [decide_eq_false h11, cond_false, if_neg (show ¬ (c.1 = 9 ∨ c.1 = 10 ∨ c.1 = 11) by omega)]; rfl
def takeS (n : Nt) (c : Ct) : Nt × List Ct × Ft := if c.1 = 1 then judgeS n c else if c.1 = 2 then agreeS n c else if c.1 = 3 ∨ c.1 = 4 then refuseS n c else doneS n (eventS n c) c zc
theorem take_is (n : Nt) (c : Ct) (hn : WN n) (hw : AllB c.2.2) (hl : c.2.2.length ≤ 5000) : nego_Nego_Take 200000 n c = some (takeS n c) := by
 have a1 := judge_is n c hn hw hl
 have a2 := agree_is n c hn hw hl
 have a3 := refuse_is n c hn hw hl
 have a4 := event_is n c
 have a5 := done_is n (eventS n c) c zc hn (eventS_lt n c) hl (by simp [zc])
 unfold nego_Nego_Take takeS
 by_cases h1 : c.1 = 1
 ·rw [decide_eq_true h1, cond_true, if_pos h1]
  exact (congrArg (fun o => Option.bind o _) a1).trans rfl
 rw [decide_eq_false h1, cond_false, if_neg h1]
 by_cases h2 : c.1 = 2
 ·rw [decide_eq_true h2, cond_true, if_pos h2]
  exact (congrArg (fun o => Option.bind o _) a2).trans rfl
 rw [decide_eq_false h2, cond_false, if_neg h2]
 by_cases h3 : c.1 = 3
 ·rw [decide_eq_true h3, cond_true, cond_true, if_pos (.inl h3)]
  exact (congrArg (fun o => Option.bind o _) a3).trans rfl
 rw [decide_eq_false h3, cond_false]
 by_cases h4 : c.1 = 4
 ·rw [decide_eq_true h4, cond_true, if_pos (.inr h4)]
  exact (congrArg (fun o => Option.bind o _) a3).trans rfl
 rw [decide_eq_false h4, cond_false, if_neg (by omega)]
 refine (congrArg (fun o => Option.bind o _) a4).trans ?_
 rw [Option.bind_some]
 exact (congrArg (fun o => Option.bind o _) a5).trans rfl
def doS (n : Nt) (e : Int) : Nt × List Ct × Ft := if 0 ≤ e ∧ e ≤ 3 then doneS n e.toNat zc zc else nop n
theorem do_is (n : Nt) (e : Int) (hn : WN n) : nego_Nego_Do 200000 n e = some (doS n e) := by
 have d := fun (k : Nat) (hk : k < 16) => done_is n k zc zc hn hk (by simp [zc]) (by simp [zc])
 unfold nego_Nego_Do doS
 by_cases h0 : e = 0
 ·subst h0
  exact (congrArg (fun o => Option.bind o _) (d 0 (by omega))).trans rfl
 rw [decide_eq_false h0, cond_false]
 by_cases h1 : e = 1
 ·subst h1
  exact (congrArg (fun o => Option.bind o _) (d 1 (by omega))).trans rfl
 rw [decide_eq_false h1, cond_false]
 by_cases h2 : e = 2
 ·subst h2
  exact (congrArg (fun o => Option.bind o _) (d 2 (by omega))).trans rfl
 rw [decide_eq_false h2, cond_false]
 by_cases h3 : e = 3
 ·subst h3
  exact (congrArg (fun o => Option.bind o _) (d 3 (by omega))).trans rfl
 rw [decide_eq_false h3, cond_false, if_neg (by omega)]
 rfl
def tickT (t : Int × Int) : (Int × Int) × Bool := if 0 < t.2 then ((t.1, IntKind.wrap .i64 (t.2 - 1)), !decide (0 < IntKind.wrap .i64 (t.2 - 1))) else (t, false)
def tickS (n : Nt) : Nt × List Ct × Ft := if (tickT n.2.2.1).2 then (if 0 < (tickT n.2.2.1).1.1 then doneS (sTim n (tickT n.2.2.1).1) 4 zc zc else doneS (sTim n (tickT n.2.2.1).1) 5 zc zc) else nop (sTim n (tickT n.2.2.1).1)
theorem tick_is (n : Nt) (hn : WN n) : nego_Nego_Tick 200000 n = some (tickS n) := by
 have ht : retry_Retry_Tick 200000 (n.2.2.1.1, n.2.2.1.2) = some (tickT n.2.2.1) := by
  unfold retry_Retry_Tick tickT
  by_cases h : 0 < n.2.2.1.2
  ·rw [decide_eq_true h, if_pos h]; rfl
  ·rw [decide_eq_false h, if_neg h]; rfl
 have d := fun (k : Nat) (hk : k < 16) => done_is (sTim n (tickT n.2.2.1).1) k zc zc (hn.sTim _) hk (by simp [zc]) (by simp [zc])
 unfold nego_Nego_Tick tickS
 rw [ht, Option.bind_some]
 generalize tickT n.2.2.1 = t at *
 obtain ⟨t, b⟩ := t
 cases b with
 | false => rfl
 | true =>
  simp only [Bool.not_true, cond_false, if_true]
  by_cases h : 0 < t.1
  ·rw [decide_eq_true h, cond_true, if_pos h]
   exact (congrArg (fun o => Option.bind o _) (d 4 (by omega))).trans rfl
  ·rw [decide_eq_false h, cond_false, if_neg h]
   exact (congrArg (fun o => Option.bind o _) (d 5 (by omega))).trans rfl
structure Good (n : Nt) (y : Nt × List Ct × Ft) : Prop where
 w : WN y.1
 up : y.2.2.1 = (decide (n.2.1 ≠ 9) && decide (y.1.2.1 = 9))
 down : y.2.2.2.1 = (decide (n.2.1 = 9) && decide (y.1.2.1 ≠ 9))
 len : y.2.1.length ≤ 2
 laid : ∀ c ∈ y.2.1, (layC c).2 = 0
theorem good_done {n m : Nt} (h : m.2.1 = n.2.1) (hm : WN m) (e : Nat) (he : e < 16) (c a : Ct) : Good n (doneS m e c a) := by
 obtain ⟨h1, h2, h3, h4, h5, h6⟩ := doneS_spec m e c a hm he
 rw [h] at h3 h4
 exact ⟨h1, h3, h4, h5, h6⟩
theorem good_nop {n m : Nt} (h : m.2.1 = n.2.1) (hm : WN m) : Good n (nop m) := by
 refine ⟨hm, ?_, ?_, by simp [nop], fun c hc => by cases hc⟩
 ·show false = (decide (n.2.1 ≠ 9) && decide (m.2.1 = 9))
  rw [h]
  by_cases h9 : n.2.1 = 9 <;> simp [h9]
 ·show false = (decide (n.2.1 = 9) && decide (m.2.1 ≠ 9))
  rw [h]
  by_cases h9 : n.2.1 = 9 <;> simp [h9]
theorem good_sTim {n : Nt} (hn : WN n) (t : Int × Int) (e : Nat) (he : e < 16) (c a : Ct) : Good n (doneS (sTim n t) e c a) := good_done (n := n) (m := sTim n t) rfl (hn.sTim t) e he c a
theorem good_sNak {n : Nt} (hn : WN n) (t : Int) (e : Nat) (he : e < 16) (c a : Ct) : Good n (doneS (sNak n t) e c a) := good_done (n := n) (m := sNak n t) rfl (hn.sNak t) e he c a
theorem good_sAck {n : Nt} (hn : WN n) (t : List Op) (e : Nat) (he : e < 16) (c a : Ct) : Good n (doneS (sAck n t) e c a) := good_done (n := n) (m := sAck n t) rfl (hn.sAck t) e he c a
theorem good_sRul {n : Nt} (hn : WN n) {r : Rt} (hr : wfR r) (e : Nat) (he : e < 16) (c a : Ct) : Good n (doneS (sRul n r) e c a) := good_done (n := n) (m := sRul n r) rfl (hn.sRul hr) e he c a
theorem nop_sTim {n : Nt} (hn : WN n) (t : Int × Int) : Good n (nop (sTim n t)) := good_nop (n := n) (m := sTim n t) rfl (hn.sTim t)
theorem good_do {n : Nt} (hn : WN n) (e : Int) : Good n (doS n e) := by
 unfold doS
 split
 ·exact good_done rfl hn _ (by omega) _ _
 ·exact good_nop rfl hn
theorem good_tick {n : Nt} (hn : WN n) : Good n (tickS n) := by
 unfold tickS
 split
 ·split
  ·exact good_sTim hn _ 4 (by omega) _ _
  ·exact good_sTim hn _ 5 (by omega) _ _
 ·exact nop_sTim hn _
theorem good_take {n : Nt} (hn : WN n) (c : Ct) (hw : AllB c.2.2) (hl : c.2.2.length ≤ 5000) : Good n (takeS n c) := by
 unfold takeS
 split
 ·unfold judgeS
  split
  ·exact good_nop rfl hn
  ·split
   ·exact good_sAck hn _ 6 (by omega) _ _
   ·split
    ·split
     ·exact good_sNak hn _ 7 (by omega) _ _
     ·exact good_sNak hn _ 7 (by omega) _ _
    ·exact good_done rfl hn 7 (by omega) _ _
 ·split
  ·unfold agreeS
   split
   ·exact good_nop rfl hn
   ·exact good_sNak hn _ 8 (by omega) _ _
  ·split
   ·unfold refuseS
    split
    ·exact good_nop rfl hn
    ·obtain ⟨ow, ol⟩ := optC_wf c (by omega) hw
     have os := optC_small c (by omega) hw
     obtain ⟨t1, t2⟩ := turn_is n.1 c.1 (optC 200000 c).1 hn.r ow (by omega) (fun o ho => by have := os o ho; omega)
     refine good_sRul hn t2 _ ?_ _ _
     split <;> omega
   ·exact good_done rfl hn _ (eventS_lt n c) _ _
def Fit (l : List Op) : Prop := wfO l ∧ l.length ≤ 3 ∧ ∀ o ∈ l, o.2.length ≤ 4
theorem fit_ask (r : Rt) : Fit (askS r) := askS_wf r
theorem Fit.small {l : List Op} (h : Fit l) : small l := fun o ho => by have := h.2.2 o ho; omega
theorem Fit.lay {l : List Op} (h : Fit l) : layS l = (encs l, 0) := by
 unfold layS
 rw [if_neg (by have := h.2.1; omega), if_pos (all_small.2 h.small)]
def msg (k cid : Int) (l : List Op) : Ct := (k, cid, encs l)
theorem con_msg {l : List Op} (h : Fit l) (k : Int) (hk : isC k = true) (cid : Int) : conC k cid l = (msg k cid l, 0) := by
 unfold conC msg
 rw [hk, h.lay]
 rfl
theorem msg_len {l : List Op} (h : Fit l) (k cid : Int) : (msg k cid l).2.2.length ≤ 1000 := by
 have := encs_len h.small
 have := h.2.1
 show (encs l).length ≤ 1000
 omega
theorem msg_lay {l : List Op} (h : Fit l) (k cid : Int) : (layC (msg k cid l)).2 = 0 := by
 have := msg_len h k cid
 unfold layC
 rw [if_neg (by omega)]
theorem lay_nil (k id : Int) : (layC (k, id, [])).2 = 0 := rfl
theorem lay_cut (k id : Int) (b : List Int) : (layC (k, id, cutC b 1400)).2 = 0 := by
 have h : (cutC b 1400).length ≤ 4000 := by
  unfold cutC minI
  rw [if_neg (by omega), List.length_take]
  split <;> omega
 unfold layC
 rw [if_neg (show ¬ 4000 < (cutC b 1400).length by omega)]
abbrev Gt := Int × (Int × Int) × Int × List Op × Rt × List Op × Int
def toG (n : Nt) : Gt := (n.2.1, n.2.2.1, n.2.2.2.1, n.2.2.2.2.1, n.1, n.2.2.2.2.2.1, n.2.2.2.2.2.2)
section
theorem grm (pk : List Ct) (c : Ct) (h : pk.length ≤ 100) : roomB (pk.length + ([c] : List Ct).length) 32 = true := roomB_of (by have := big_len; simp; omega) (by simp; omega)
set_option maxHeartbeats 2000000 in
theorem ract_is (s : Int) (acts : List Int) (i : Nat) (a : Int) (hi : acts[i]? = some a) (hal : acts.length ≤ 1000) (n : Nt) (z : Gt) (came ans : Ct) (h4 h5 h6 h7 f1 f2 f3 f4 : Bool) (h12 pk : List Ct) (hw : wfR n.1) (hc : came.2.2.length ≤ 5000) (ha : (layC ans).2 = 0) (hp : pk.length ≤ 100) (X) :
  r7e_L7 200000 X s acts (i : Int) (toG n) came ans z h4 h5 h6 h7 f1 f2 f3 f4 h12 pk =
   X ((s, (acts, (((i + 1 : Nat) : Int), ()))), (toG (stepA acts came ans (n, (f1, f2, f3, f4), pk) a).1, (came, (ans, (z, (h4, (h5, (h6, (h7, ((stepA acts came ans (n, (f1, f2, f3, f4), pk) a).2.1.1, ((stepA acts came ans (n, (f1, f2, f3, f4), pk) a).2.1.2.1, ((stepA acts came ans (n, (f1, f2, f3, f4), pk) a).2.1.2.2.1, ((stepA acts came ans (n, (f1, f2, f3, f4), pk) a).2.1.2.2.2, (h12, ((stepA acts came ans (n, (f1, f2, f3, f4), pk) a).2.2, ()))))))))))))))) := by
 have hlt : i < acts.length := (List.getElem?_eq_some_iff.1 hi).1
 have c1 : decide ((i : Int) < (acts.length : Int)) = true := decide_eq_true (by omega)
 have c2 : IntKind.wrap .i64 ((i : Int) + 1) = ((i + 1 : Nat) : Int) := by rw [wrap64 (by omega) (by omega)]; omega
 have g : getI acts (i : Int) = some a := by rw [getI_nat]; exact hi
 have hask := rasks_is (N := 200000) n.1 hw (by omega)
 have hhas := rhas_is (N := 200000) acts 10 (by omega) (by omega)
 have hsent := rsent_is (N := 200000) n.2.2.1
 have hinit := rinit_is (N := 200000) n.2.2.1 (acts.contains 10)
 have hcon := crcon_ok (N := 200000) 1 (idS n.2.2.2.1) (askS n.1) (by have := (askS_wf n.1).2.1; omega) (by omega)
 have hrej := crrej_ok (N := 200000) (idS n.2.2.2.1) came 1400 hc (by omega) (by omega)
 have hid : IntKind.wrap .u8 (n.2.2.2.1 + 1) = idS n.2.2.2.1 := rfl
 rw [con_msg (fit_ask n.1) 1 rfl] at hcon
 have rm := fun (c : Ct) => grm pk c hp
 by_cases e1 : a = 1
 ·have t1 : decide (a = (1 : Int)) = true := decide_eq_true e1
  have d2 : decide (a = (2 : Int)) = false := decide_eq_false (by omega)
  have d3 : decide (a = (3 : Int)) = false := decide_eq_false (by omega)
  have d4 : decide (a = (4 : Int)) = false := decide_eq_false (by omega)
  have d5 : decide (a = (5 : Int)) = false := decide_eq_false (by omega)
  have d6 : decide (a = (6 : Int)) = false := decide_eq_false (by omega)
  have d7 : decide (a = (7 : Int)) = false := decide_eq_false (by omega)
  have d10 : decide (a = (10 : Int)) = false := decide_eq_false (by omega)
  have d12 : decide (a = (12 : Int)) = false := decide_eq_false (by omega)
  have d8 : decide (a = (8 : Int)) = false := decide_eq_false (by omega)
  have d9 : decide (a = (9 : Int)) = false := decide_eq_false (by omega)
  have d11 : decide (a = (11 : Int)) = false := decide_eq_false (by omega)
  have hs : stepA acts came ans (n, (f1, f2, f3, f4), pk) a = (n, (true, f2, f3, f4), pk) := by unfold stepA; rw [if_pos e1]
  rw [hs]
  simp only [r7e_L7, toG, c1, c2, cond_true, cond_false, g, Option.bind_some, t1, d2, d3, d4, d5, d6, d7, d10, d12, d8, d9, d11, hhas, Prod.eta, hid, hinit, hask, hcon, hsent, hrej, rm]
 have n1 := e1
 by_cases e2 : a = 2
 ·have t2 : decide (a = (2 : Int)) = true := decide_eq_true e2
  have d1 : decide (a = (1 : Int)) = false := decide_eq_false n1
  have d3 : decide (a = (3 : Int)) = false := decide_eq_false (by omega)
  have d4 : decide (a = (4 : Int)) = false := decide_eq_false (by omega)
  have d5 : decide (a = (5 : Int)) = false := decide_eq_false (by omega)
  have d6 : decide (a = (6 : Int)) = false := decide_eq_false (by omega)
  have d7 : decide (a = (7 : Int)) = false := decide_eq_false (by omega)
  have d10 : decide (a = (10 : Int)) = false := decide_eq_false (by omega)
  have d12 : decide (a = (12 : Int)) = false := decide_eq_false (by omega)
  have d8 : decide (a = (8 : Int)) = false := decide_eq_false (by omega)
  have d9 : decide (a = (9 : Int)) = false := decide_eq_false (by omega)
  have d11 : decide (a = (11 : Int)) = false := decide_eq_false (by omega)
  have hs : stepA acts came ans (n, (f1, f2, f3, f4), pk) a = (n, (f1, true, f3, f4), pk) := by unfold stepA; rw [if_neg (show ¬ a = 1 by omega), if_pos e2]
  rw [hs]
  simp only [r7e_L7, toG, c1, c2, cond_true, cond_false, g, Option.bind_some, t2, d1, d3, d4, d5, d6, d7, d10, d12, d8, d9, d11, hhas, Prod.eta, hid, hinit, hask, hcon, hsent, hrej, rm]
 have n2 := e2
 by_cases e3 : a = 3
 ·have t3 : decide (a = (3 : Int)) = true := decide_eq_true e3
  have d1 : decide (a = (1 : Int)) = false := decide_eq_false n1
  have d2 : decide (a = (2 : Int)) = false := decide_eq_false n2
  have d4 : decide (a = (4 : Int)) = false := decide_eq_false (by omega)
  have d5 : decide (a = (5 : Int)) = false := decide_eq_false (by omega)
  have d6 : decide (a = (6 : Int)) = false := decide_eq_false (by omega)
  have d7 : decide (a = (7 : Int)) = false := decide_eq_false (by omega)
  have d10 : decide (a = (10 : Int)) = false := decide_eq_false (by omega)
  have d12 : decide (a = (12 : Int)) = false := decide_eq_false (by omega)
  have d8 : decide (a = (8 : Int)) = false := decide_eq_false (by omega)
  have d9 : decide (a = (9 : Int)) = false := decide_eq_false (by omega)
  have d11 : decide (a = (11 : Int)) = false := decide_eq_false (by omega)
  have hs : stepA acts came ans (n, (f1, f2, f3, f4), pk) a = (n, (f1, f2, true, f4), pk) := by unfold stepA; rw [if_neg (show ¬ a = 1 by omega), if_neg (show ¬ a = 2 by omega), if_pos e3]
  rw [hs]
  simp only [r7e_L7, toG, c1, c2, cond_true, cond_false, g, Option.bind_some, t3, d1, d2, d4, d5, d6, d7, d10, d12, d8, d9, d11, hhas, Prod.eta, hid, hinit, hask, hcon, hsent, hrej, rm]
 have n3 := e3
 by_cases e4 : a = 4
 ·have t4 : decide (a = (4 : Int)) = true := decide_eq_true e4
  have d1 : decide (a = (1 : Int)) = false := decide_eq_false n1
  have d2 : decide (a = (2 : Int)) = false := decide_eq_false n2
  have d3 : decide (a = (3 : Int)) = false := decide_eq_false n3
  have d5 : decide (a = (5 : Int)) = false := decide_eq_false (by omega)
  have d6 : decide (a = (6 : Int)) = false := decide_eq_false (by omega)
  have d7 : decide (a = (7 : Int)) = false := decide_eq_false (by omega)
  have d10 : decide (a = (10 : Int)) = false := decide_eq_false (by omega)
  have d12 : decide (a = (12 : Int)) = false := decide_eq_false (by omega)
  have d8 : decide (a = (8 : Int)) = false := decide_eq_false (by omega)
  have d9 : decide (a = (9 : Int)) = false := decide_eq_false (by omega)
  have d11 : decide (a = (11 : Int)) = false := decide_eq_false (by omega)
  have hs : stepA acts came ans (n, (f1, f2, f3, f4), pk) a = (n, (f1, f2, f3, true), pk) := by unfold stepA; rw [if_neg (show ¬ a = 1 by omega), if_neg (show ¬ a = 2 by omega), if_neg (show ¬ a = 3 by omega), if_pos e4]
  rw [hs]
  simp only [r7e_L7, toG, c1, c2, cond_true, cond_false, g, Option.bind_some, t4, d1, d2, d3, d5, d6, d7, d10, d12, d8, d9, d11, hhas, Prod.eta, hid, hinit, hask, hcon, hsent, hrej, rm]
 have n4 := e4
 by_cases e5 : a = 5
 ·have t5 : decide (a = (5 : Int)) = true := decide_eq_true e5
  have d1 : decide (a = (1 : Int)) = false := decide_eq_false n1
  have d2 : decide (a = (2 : Int)) = false := decide_eq_false n2
  have d3 : decide (a = (3 : Int)) = false := decide_eq_false n3
  have d4 : decide (a = (4 : Int)) = false := decide_eq_false n4
  have d6 : decide (a = (6 : Int)) = false := decide_eq_false (by omega)
  have d7 : decide (a = (7 : Int)) = false := decide_eq_false (by omega)
  have d10 : decide (a = (10 : Int)) = false := decide_eq_false (by omega)
  have d12 : decide (a = (12 : Int)) = false := decide_eq_false (by omega)
  have d8 : decide (a = (8 : Int)) = false := decide_eq_false (by omega)
  have d9 : decide (a = (9 : Int)) = false := decide_eq_false (by omega)
  have d11 : decide (a = (11 : Int)) = false := decide_eq_false (by omega)
  have hs : stepA acts came ans (n, (f1, f2, f3, f4), pk) a = ((n.1, n.2.1, initT n.2.2.1 (acts.contains 10), n.2.2.2), (f1, f2, f3, f4), pk) := by unfold stepA; rw [if_neg (show ¬ a = 1 by omega), if_neg (show ¬ a = 2 by omega), if_neg (show ¬ a = 3 by omega), if_neg (show ¬ a = 4 by omega), if_pos e5]
  rw [hs]
  simp only [r7e_L7, toG, c1, c2, cond_true, cond_false, g, Option.bind_some, t5, d1, d2, d3, d4, d6, d7, d10, d12, d8, d9, d11, hhas, Prod.eta, hid, hinit, hask, hcon, hsent, hrej, rm]
 have n5 := e5
 by_cases e6 : a = 6
 ·have t6 : decide (a = (6 : Int)) = true := decide_eq_true e6
  have d1 : decide (a = (1 : Int)) = false := decide_eq_false n1
  have d2 : decide (a = (2 : Int)) = false := decide_eq_false n2
  have d3 : decide (a = (3 : Int)) = false := decide_eq_false n3
  have d4 : decide (a = (4 : Int)) = false := decide_eq_false n4
  have d5 : decide (a = (5 : Int)) = false := decide_eq_false n5
  have d7 : decide (a = (7 : Int)) = false := decide_eq_false (by omega)
  have d10 : decide (a = (10 : Int)) = false := decide_eq_false (by omega)
  have d12 : decide (a = (12 : Int)) = false := decide_eq_false (by omega)
  have d8 : decide (a = (8 : Int)) = false := decide_eq_false (by omega)
  have d9 : decide (a = (9 : Int)) = false := decide_eq_false (by omega)
  have d11 : decide (a = (11 : Int)) = false := decide_eq_false (by omega)
  have hs : stepA acts came ans (n, (f1, f2, f3, f4), pk) a = ((n.1, n.2.1, (0, 3), n.2.2.2), (f1, f2, f3, f4), pk) := by unfold stepA; rw [if_neg (show ¬ a = 1 by omega), if_neg (show ¬ a = 2 by omega), if_neg (show ¬ a = 3 by omega), if_neg (show ¬ a = 4 by omega), if_neg (show ¬ a = 5 by omega), if_pos e6]
  rw [hs]
  simp only [r7e_L7, toG, c1, c2, cond_true, cond_false, g, Option.bind_some, t6, d1, d2, d3, d4, d5, d7, d10, d12, d8, d9, d11, hhas, Prod.eta, hid, hinit, hask, hcon, hsent, hrej, rm]
 have n6 := e6
 by_cases e7 : a = 7
 ·have t7 : decide (a = (7 : Int)) = true := decide_eq_true e7
  have d1 : decide (a = (1 : Int)) = false := decide_eq_false n1
  have d2 : decide (a = (2 : Int)) = false := decide_eq_false n2
  have d3 : decide (a = (3 : Int)) = false := decide_eq_false n3
  have d4 : decide (a = (4 : Int)) = false := decide_eq_false n4
  have d5 : decide (a = (5 : Int)) = false := decide_eq_false n5
  have d6 : decide (a = (6 : Int)) = false := decide_eq_false n6
  have d10 : decide (a = (10 : Int)) = false := decide_eq_false (by omega)
  have d12 : decide (a = (12 : Int)) = false := decide_eq_false (by omega)
  have d8 : decide (a = (8 : Int)) = false := decide_eq_false (by omega)
  have d9 : decide (a = (9 : Int)) = false := decide_eq_false (by omega)
  have d11 : decide (a = (11 : Int)) = false := decide_eq_false (by omega)
  have hs : stepA acts came ans (n, (f1, f2, f3, f4), pk) a = ((n.1, n.2.1, sentT n.2.2.1, idS n.2.2.2.1, askS n.1, n.2.2.2.2.2), (f1, f2, f3, f4), pk ++ [msg 1 (idS n.2.2.2.1) (askS n.1)]) := by unfold stepA; rw [if_neg (show ¬ a = 1 by omega), if_neg (show ¬ a = 2 by omega), if_neg (show ¬ a = 3 by omega), if_neg (show ¬ a = 4 by omega), if_neg (show ¬ a = 5 by omega), if_neg (show ¬ a = 6 by omega), if_pos e7, con_msg (fit_ask n.1) 1 rfl, sndS, if_pos (msg_lay (fit_ask n.1) 1 (idS n.2.2.2.1))]
  rw [hs]
  simp only [r7e_L7, toG, c1, c2, cond_true, cond_false, g, Option.bind_some, t7, d1, d2, d3, d4, d5, d6, d10, d12, d8, d9, d11, hhas, Prod.eta, hid, hinit, hask, hcon, hsent, hrej, rm]
 have n7 := e7
 by_cases e10 : a = 10
 ·have t10 : decide (a = (10 : Int)) = true := decide_eq_true e10
  have d1 : decide (a = (1 : Int)) = false := decide_eq_false n1
  have d2 : decide (a = (2 : Int)) = false := decide_eq_false n2
  have d3 : decide (a = (3 : Int)) = false := decide_eq_false n3
  have d4 : decide (a = (4 : Int)) = false := decide_eq_false n4
  have d5 : decide (a = (5 : Int)) = false := decide_eq_false n5
  have d6 : decide (a = (6 : Int)) = false := decide_eq_false n6
  have d7 : decide (a = (7 : Int)) = false := decide_eq_false n7
  have d12 : decide (a = (12 : Int)) = false := decide_eq_false (by omega)
  have d8 : decide (a = (8 : Int)) = false := decide_eq_false (by omega)
  have d9 : decide (a = (9 : Int)) = false := decide_eq_false (by omega)
  have d11 : decide (a = (11 : Int)) = false := decide_eq_false (by omega)
  have hs : stepA acts came ans (n, (f1, f2, f3, f4), pk) a = ((n.1, n.2.1, sentT n.2.2.1, idS n.2.2.2.1, n.2.2.2.2), (f1, f2, f3, f4), pk ++ [(5, idS n.2.2.2.1, [])]) := by unfold stepA; rw [if_neg (show ¬ a = 1 by omega), if_neg (show ¬ a = 2 by omega), if_neg (show ¬ a = 3 by omega), if_neg (show ¬ a = 4 by omega), if_neg (show ¬ a = 5 by omega), if_neg (show ¬ a = 6 by omega), if_neg (show ¬ a = 7 by omega), if_pos e10, sndS, if_pos (lay_nil 5 (idS n.2.2.2.1))]
  rw [hs]
  simp only [r7e_L7, toG, c1, c2, cond_true, cond_false, g, Option.bind_some, t10, d1, d2, d3, d4, d5, d6, d7, d12, d8, d9, d11, hhas, Prod.eta, hid, hinit, hask, hcon, hsent, hrej, rm]
 have n10 := e10
 by_cases e12 : a = 12
 ·have t12 : decide (a = (12 : Int)) = true := decide_eq_true e12
  have d1 : decide (a = (1 : Int)) = false := decide_eq_false n1
  have d2 : decide (a = (2 : Int)) = false := decide_eq_false n2
  have d3 : decide (a = (3 : Int)) = false := decide_eq_false n3
  have d4 : decide (a = (4 : Int)) = false := decide_eq_false n4
  have d5 : decide (a = (5 : Int)) = false := decide_eq_false n5
  have d6 : decide (a = (6 : Int)) = false := decide_eq_false n6
  have d7 : decide (a = (7 : Int)) = false := decide_eq_false n7
  have d10 : decide (a = (10 : Int)) = false := decide_eq_false n10
  have d8 : decide (a = (8 : Int)) = false := decide_eq_false (by omega)
  have d9 : decide (a = (9 : Int)) = false := decide_eq_false (by omega)
  have d11 : decide (a = (11 : Int)) = false := decide_eq_false (by omega)
  have hs : stepA acts came ans (n, (f1, f2, f3, f4), pk) a = ((n.1, n.2.1, n.2.2.1, idS n.2.2.2.1, n.2.2.2.2), (f1, f2, f3, f4), pk ++ [(7, idS n.2.2.2.1, cutC (layC came).1 1400)]) := by unfold stepA; rw [if_neg (show ¬ a = 1 by omega), if_neg (show ¬ a = 2 by omega), if_neg (show ¬ a = 3 by omega), if_neg (show ¬ a = 4 by omega), if_neg (show ¬ a = 5 by omega), if_neg (show ¬ a = 6 by omega), if_neg (show ¬ a = 7 by omega), if_neg (show ¬ a = 10 by omega), if_pos e12, sndS, if_pos (lay_cut 7 (idS n.2.2.2.1) (layC came).1)]
  rw [hs]
  simp only [r7e_L7, toG, c1, c2, cond_true, cond_false, g, Option.bind_some, t12, d1, d2, d3, d4, d5, d6, d7, d10, d8, d9, d11, hhas, Prod.eta, hid, hinit, hask, hcon, hsent, hrej, rm]
 have n12 := e12
 by_cases e8 : a = 8
 ·have t8 : decide (a = (8 : Int)) = true := decide_eq_true e8
  have d1 : decide (a = (1 : Int)) = false := decide_eq_false n1
  have d2 : decide (a = (2 : Int)) = false := decide_eq_false n2
  have d3 : decide (a = (3 : Int)) = false := decide_eq_false n3
  have d4 : decide (a = (4 : Int)) = false := decide_eq_false n4
  have d5 : decide (a = (5 : Int)) = false := decide_eq_false n5
  have d6 : decide (a = (6 : Int)) = false := decide_eq_false n6
  have d7 : decide (a = (7 : Int)) = false := decide_eq_false n7
  have d10 : decide (a = (10 : Int)) = false := decide_eq_false n10
  have d12 : decide (a = (12 : Int)) = false := decide_eq_false n12
  have d9 : decide (a = (9 : Int)) = false := decide_eq_false (by omega)
  have d11 : decide (a = (11 : Int)) = false := decide_eq_false (by omega)
  have hs : stepA acts came ans (n, (f1, f2, f3, f4), pk) a = (n, (f1, f2, f3, f4), pk ++ [ans]) := by unfold stepA; rw [if_neg (show ¬ a = 1 by omega), if_neg (show ¬ a = 2 by omega), if_neg (show ¬ a = 3 by omega), if_neg (show ¬ a = 4 by omega), if_neg (show ¬ a = 5 by omega), if_neg (show ¬ a = 6 by omega), if_neg (show ¬ a = 7 by omega), if_neg (show ¬ a = 10 by omega), if_neg (show ¬ a = 12 by omega), if_pos (show a = 8 ∨ a = 9 by omega), sndS, if_pos ha]
  rw [hs]
  simp only [r7e_L7, toG, c1, c2, cond_true, cond_false, g, Option.bind_some, t8, d1, d2, d3, d4, d5, d6, d7, d10, d12, d9, d11, hhas, Prod.eta, hid, hinit, hask, hcon, hsent, hrej, rm]
 have n8 := e8
 by_cases e9 : a = 9
 ·have t9 : decide (a = (9 : Int)) = true := decide_eq_true e9
  have d1 : decide (a = (1 : Int)) = false := decide_eq_false n1
  have d2 : decide (a = (2 : Int)) = false := decide_eq_false n2
  have d3 : decide (a = (3 : Int)) = false := decide_eq_false n3
  have d4 : decide (a = (4 : Int)) = false := decide_eq_false n4
  have d5 : decide (a = (5 : Int)) = false := decide_eq_false n5
  have d6 : decide (a = (6 : Int)) = false := decide_eq_false n6
  have d7 : decide (a = (7 : Int)) = false := decide_eq_false n7
  have d10 : decide (a = (10 : Int)) = false := decide_eq_false n10
  have d12 : decide (a = (12 : Int)) = false := decide_eq_false n12
  have d8 : decide (a = (8 : Int)) = false := decide_eq_false n8
  have d11 : decide (a = (11 : Int)) = false := decide_eq_false (by omega)
  have hs : stepA acts came ans (n, (f1, f2, f3, f4), pk) a = (n, (f1, f2, f3, f4), pk ++ [ans]) := by unfold stepA; rw [if_neg (show ¬ a = 1 by omega), if_neg (show ¬ a = 2 by omega), if_neg (show ¬ a = 3 by omega), if_neg (show ¬ a = 4 by omega), if_neg (show ¬ a = 5 by omega), if_neg (show ¬ a = 6 by omega), if_neg (show ¬ a = 7 by omega), if_neg (show ¬ a = 10 by omega), if_neg (show ¬ a = 12 by omega), if_pos (show a = 8 ∨ a = 9 by omega), sndS, if_pos ha]
  rw [hs]
  simp only [r7e_L7, toG, c1, c2, cond_true, cond_false, g, Option.bind_some, t9, d1, d2, d3, d4, d5, d6, d7, d10, d12, d8, d11, hhas, Prod.eta, hid, hinit, hask, hcon, hsent, hrej, rm]
 have n9 := e9
 by_cases e11 : a = 11
 ·have t11 : decide (a = (11 : Int)) = true := decide_eq_true e11
  have d1 : decide (a = (1 : Int)) = false := decide_eq_false n1
  have d2 : decide (a = (2 : Int)) = false := decide_eq_false n2
  have d3 : decide (a = (3 : Int)) = false := decide_eq_false n3
  have d4 : decide (a = (4 : Int)) = false := decide_eq_false n4
  have d5 : decide (a = (5 : Int)) = false := decide_eq_false n5
  have d6 : decide (a = (6 : Int)) = false := decide_eq_false n6
  have d7 : decide (a = (7 : Int)) = false := decide_eq_false n7
  have d10 : decide (a = (10 : Int)) = false := decide_eq_false n10
  have d12 : decide (a = (12 : Int)) = false := decide_eq_false n12
  have d8 : decide (a = (8 : Int)) = false := decide_eq_false n8
  have d9 : decide (a = (9 : Int)) = false := decide_eq_false n9
  have hs : stepA acts came ans (n, (f1, f2, f3, f4), pk) a = (n, (f1, f2, f3, f4), pk ++ [(6, came.2.1, [])]) := by unfold stepA; rw [if_neg (show ¬ a = 1 by omega), if_neg (show ¬ a = 2 by omega), if_neg (show ¬ a = 3 by omega), if_neg (show ¬ a = 4 by omega), if_neg (show ¬ a = 5 by omega), if_neg (show ¬ a = 6 by omega), if_neg (show ¬ a = 7 by omega), if_neg (show ¬ a = 10 by omega), if_neg (show ¬ a = 12 by omega), if_neg (show ¬ (a = 8 ∨ a = 9) by omega), if_pos e11, sndS, if_pos (lay_nil 6 came.2.1)]
  rw [hs]
  simp only [r7e_L7, toG, c1, c2, cond_true, cond_false, g, Option.bind_some, t11, d1, d2, d3, d4, d5, d6, d7, d10, d12, d8, d9, hhas, Prod.eta, hid, hinit, hask, hcon, hsent, hrej, rm]
 have n11 := e11
 have hs : stepA acts came ans (n, (f1, f2, f3, f4), pk) a = (n, (f1, f2, f3, f4), pk) := by
  unfold stepA
  rw [if_neg n1, if_neg n2, if_neg n3, if_neg n4, if_neg n5, if_neg n6, if_neg n7, if_neg n10, if_neg n12, if_neg (show ¬ (a = 8 ∨ a = 9) by omega), if_neg n11]
 rw [hs]
 have d1 : decide (a = (1 : Int)) = false := decide_eq_false n1
 have d2 : decide (a = (2 : Int)) = false := decide_eq_false n2
 have d3 : decide (a = (3 : Int)) = false := decide_eq_false n3
 have d4 : decide (a = (4 : Int)) = false := decide_eq_false n4
 have d5 : decide (a = (5 : Int)) = false := decide_eq_false n5
 have d6 : decide (a = (6 : Int)) = false := decide_eq_false n6
 have d7 : decide (a = (7 : Int)) = false := decide_eq_false n7
 have d10 : decide (a = (10 : Int)) = false := decide_eq_false n10
 have d12 : decide (a = (12 : Int)) = false := decide_eq_false n12
 have d8 : decide (a = (8 : Int)) = false := decide_eq_false n8
 have d9 : decide (a = (9 : Int)) = false := decide_eq_false n9
 have d11 : decide (a = (11 : Int)) = false := decide_eq_false n11
 simp only [r7e_L7, toG, c1, c2, cond_true, cond_false, g, Option.bind_some, d1, d2, d3, d4, d5, d6, d7, d10, d12, d8, d9, d11, hhas, Prod.eta]
end
abbrev InG := ((Int × (List Int × (Int × Unit))) × (Gt × (Ct × (Ct × (Gt × (Bool × (Bool × (Bool × (Bool × (Bool × (Bool × (Bool × (Bool × (List Ct × (List Ct × Unit)))))))))))))))
abbrev OutG := ((Int × Unit) × (Gt × (Gt × (Bool × (Bool × (Bool × (Bool × (Bool × (Bool × (Bool × (Bool × (List Ct × (List Ct × Unit)))))))))))))
def inG (s : Int) (acts : List Int) (came ans : Ct) (z : Gt) (h4 h5 h6 h7 : Bool) (h12 : List Ct) (i : Nat) (x : Nt × Ft × List Ct) : InG := ((s, acts, (i : Int), ()), toG x.1, came, ans, z, h4, h5, h6, h7, x.2.1.1, x.2.1.2.1, x.2.1.2.2.1, x.2.1.2.2.2, h12, x.2.2, ())
def outG (s : Int) (z : Gt) (h4 h5 h6 h7 : Bool) (h12 : List Ct) (y : Nt × Ft × List Ct) : OutG := ((s, ()), toG y.1, z, h4, h5, h6, h7, y.2.1.1, y.2.1.2.1, y.2.1.2.2.1, y.2.1.2.2.2, h12, y.2.2, ())
noncomputable def evG (X : InG → Option OutG) (c : InG) : Option OutG := r7e_L7 200000 X c.1.1 c.1.2.1 c.1.2.2.1 c.2.1 c.2.2.1 c.2.2.2.1 c.2.2.2.2.1 c.2.2.2.2.2.1 c.2.2.2.2.2.2.1 c.2.2.2.2.2.2.2.1 c.2.2.2.2.2.2.2.2.1 c.2.2.2.2.2.2.2.2.2.1 c.2.2.2.2.2.2.2.2.2.2.1 c.2.2.2.2.2.2.2.2.2.2.2.1 c.2.2.2.2.2.2.2.2.2.2.2.2.1 c.2.2.2.2.2.2.2.2.2.2.2.2.2.1 c.2.2.2.2.2.2.2.2.2.2.2.2.2.2.1
theorem rrun_is (s : Int) (acts : List Int) (hal : acts.length ≤ 50) (z : Gt) (came ans : Ct) (h4 h5 h6 h7 : Bool) (h12 : List Ct) (hc : came.2.2.length ≤ 5000) (ha : (layC ans).2 = 0) (m : Nat) : ∀ (M i : Nat) (x : Nt × Ft × List Ct), m + i = acts.length → m < M → wfR x.1.1 → x.2.2.length ≤ i →
  gl evG M (inG s acts came ans z h4 h5 h6 h7 h12 i x) = some (outG s z h4 h5 h6 h7 h12 ((acts.drop i).foldl (stepA acts came ans) x)) := by
 induction m with
 | zero =>
  intro M i x hm hM hw hp
  obtain ⟨M, rfl⟩ : ∃ k, M = k + 1 := ⟨M - 1, by omega⟩
  have c1 : decide ((i : Int) < (acts.length : Int)) = false := decide_eq_false (by omega)
  have h2 : List.drop i acts = [] := List.drop_of_length_le (by omega)
  rw [h2, List.foldl_nil]
  have key : ∀ X, evG X (inG s acts came ans z h4 h5 h6 h7 h12 i x) = some (outG s z h4 h5 h6 h7 h12 x) := fun X => by
   unfold evG inG outG r7e_L7
   simp only [c1, cond_false, Prod.eta]
  exact key _
 | succ m ih =>
  intro M i x hm hM hw hp
  obtain ⟨M, rfl⟩ : ∃ k, M = k + 1 := ⟨M - 1, by omega⟩
  have hlt : i < acts.length := by omega
  have hi : acts[i]? = some acts[i] := List.getElem?_eq_getElem hlt
  obtain ⟨p1, p2, p3, p4, p5, p6, p7⟩ := stepA_spec acts came ans x acts[i]
  have h1 : ∀ X, evG X (inG s acts came ans z h4 h5 h6 h7 h12 i x) = X (inG s acts came ans z h4 h5 h6 h7 h12 (i + 1) (stepA acts came ans x acts[i])) := fun X => ract_is s acts i acts[i] hi (by omega) x.1 z came ans h4 h5 h6 h7 x.2.1.1 x.2.1.2.1 x.2.1.2.2.1 x.2.1.2.2.2 h12 x.2.2 hw hc ha (by omega) X
  have h2 := ih M (i + 1) (stepA acts came ans x acts[i]) (by omega) (by omega) (by rw [p1]; exact hw) (by split at p5 <;> omega)
  rw [List.drop_eq_getElem_cons hlt, List.foldl_cons]
  exact (h1 _).trans h2
theorem revent_is (n : Nt) (e : Nat) (came ans : Ct) (hn : WN n) (he : e < 16) (hc : came.2.2.length ≤ 5000) (ha : (layC ans).2 = 0) : r7e 200000 (toG n) (e : Int) came ans = some (toG (doneS n e came ans).1, (doneS n e came ans).2) := by
 obtain ⟨s, hs⟩ : ∃ s : Nat, n.2.1 = (s : Int) := ⟨n.2.1.toNat, (Int.toNat_of_nonneg hn.s0).symm⟩
 have hs10 : s < 10 := by have := hn.s10; omega
 have hnx : ref23_Next 200000 (toG n).1 (e : Int) = some (nextS s e) := by
  show ref23_Next 200000 n.2.1 (e : Int) = _
  rw [hs]; exact rnext_all s hs10 e he
 have hck := chk_all s hs10 e he
 unfold r7e doneS
 rw [hnx, Option.bind_some, hs]
 simp only [Int.toNat_natCast]
 by_cases h0 : (nextS s e).2.2 = 0
 ·rw [decide_eq_true h0, Bool.not_true, cond_false, if_neg (by simp [h0])]
  unfold chkS at hck
  simp only [h0, ne_eq, not_true_eq_false, decide_false, Bool.false_or, Bool.and_eq_true, decide_eq_true_eq] at hck
  obtain ⟨⟨⟨⟨⟨k1, k2⟩, k3⟩, k4⟩, k5⟩, k6⟩ := hck
  have hrun := rrun_is (nextS s e).1 (nextS s e).2.1 (by omega) ((0 : Int), (((0 : Int), (0 : Int)), ((0 : Int), (([] : List Op), ((false, (((0 : Int), ((0 : Int), false)), (false, (false, ((0 : Int), ((0 : Int), ((0 : Int), false))))))), (([] : List Op), (0 : Int))))))) came ans false false false false [] hc ha (nextS s e).2.1.length 200000 0 ((n.1, (nextS s e).1, n.2.2), (false, false, false, false), []) (by omega) (by omega) hn.r (by simp)
  rw [List.drop_zero] at hrun
  refine (congrArg (fun o => Option.bind o _) (show r7e_L7_R 200000 (inG (nextS s e).1 (nextS s e).2.1 came ans _ false false false false [] 0 ((n.1, (nextS s e).1, n.2.2), (false, false, false, false), [])) = _ from hrun)).trans ?_
  rw [Option.bind_some]
  obtain ⟨t, ht⟩ : ∃ t : Nat, (nextS s e).1 = (t : Int) := ⟨(nextS s e).1.toNat, (Int.toNat_of_nonneg k1).symm⟩
  have ht10 : t < 10 := by omega
  have htm := rnext_all t ht10 4 (by omega)
  generalize hy : List.foldl (stepA (nextS s e).2.1 came ans) ((n.1, (nextS s e).1, n.2.2), (false, false, false, false), []) (nextS s e).2.1 = y
  obtain ⟨m, f, pk⟩ := y
  have htm' : ref23_Next 200000 (t : Int) (4 : Int) = some (nextS t 4) := htm
  simp only [outG, ht, htm', Option.bind_some, Int.toNat_natCast, timS]
  by_cases hz : (nextS t 4).2.2 = 0
  ·rw [decide_eq_true hz]; rfl
  ·rw [decide_eq_false hz]; rfl
 ·rw [decide_eq_false h0, Bool.not_false, cond_true, if_pos (by simp [h0])]
theorem stepA_inv (acts : List Int) (came ans : Ct) (x : Nt × Ft × List Ct) (a : Int) : (stepA acts came ans x a).1.2.2.2.2.2 = x.1.2.2.2.2.2 ∧ ((stepA acts came ans x a).1.2.2.1.2 = x.1.2.2.1.2 ∨ (stepA acts came ans x a).1.2.2.1.2 = 3) := by
 have hs : ∀ t, (sentT t).2 = 3 := fun t => by unfold sentT; split <;> rfl
 have hi : ∀ t b, (initT t b).2 = t.2 := fun t b => by unfold initT; split <;> rfl
 unfold stepA
 split
 ·exact ⟨rfl, .inl rfl⟩
 split
 ·exact ⟨rfl, .inl rfl⟩
 split
 ·exact ⟨rfl, .inl rfl⟩
 split
 ·exact ⟨rfl, .inl rfl⟩
 split
 ·exact ⟨rfl, .inl (hi _ _)⟩
 split
 ·exact ⟨rfl, .inr rfl⟩
 split
 ·exact ⟨rfl, .inr (hs _)⟩
 split
 ·exact ⟨rfl, .inr (hs _)⟩
 split
 ·exact ⟨rfl, .inl rfl⟩
 split
 ·exact ⟨rfl, .inl rfl⟩
 split
 ·exact ⟨rfl, .inl rfl⟩
 exact ⟨rfl, .inl rfl⟩
theorem fold_inv (acts : List Int) (came ans : Ct) : ∀ (l : List Int) (x : Nt × Ft × List Ct), (l.foldl (stepA acts came ans) x).1.2.2.2.2.2 = x.1.2.2.2.2.2 ∧ ((l.foldl (stepA acts came ans) x).1.2.2.1.2 = x.1.2.2.1.2 ∨ (l.foldl (stepA acts came ans) x).1.2.2.1.2 = 3)
 | [], x => ⟨rfl, .inl rfl⟩
 | a :: l, x => by
  obtain ⟨p1, p2⟩ := stepA_inv acts came ans x a
  obtain ⟨q1, q2⟩ := fold_inv acts came ans l (stepA acts came ans x a)
  rw [List.foldl_cons]
  refine ⟨q1.trans p1, ?_⟩
  rcases q2 with h | h
  ·rcases p2 with h' | h'
   ·exact .inl (h.trans h')
   ·exact .inr (h.trans h')
  ·exact .inr h
theorem doneS_inv (n : Nt) (e : Nat) (came ans : Ct) : (doneS n e came ans).1.2.2.2.2.2 = n.2.2.2.2.2 ∧ ((doneS n e came ans).1.2.2.1.2 = n.2.2.1.2 ∨ (doneS n e came ans).1.2.2.1.2 = 3 ∨ (doneS n e came ans).1.2.2.1.2 = 0) ∧ ((doneS n e came ans).1.2.2.2.2.1 = n.2.2.2.2.1 ∨ (doneS n e came ans).1.2.2.2.2.1 = askS n.1) := by
 unfold doneS
 split
 ·exact ⟨rfl, .inl rfl, .inl rfl⟩
 ·obtain ⟨q1, q2⟩ := fold_inv (nextS n.2.1.toNat e).2.1 came ans (nextS n.2.1.toNat e).2.1 ((n.1, (nextS n.2.1.toNat e).1, n.2.2), (false, false, false, false), [])
  obtain ⟨_, _, _, _, _, _, q7⟩ := fold_spec (nextS n.2.1.toNat e).2.1 came ans (nextS n.2.1.toNat e).2.1 ((n.1, (nextS n.2.1.toNat e).1, n.2.2), (false, false, false, false), [])
  generalize List.foldl (stepA (nextS n.2.1.toNat e).2.1 came ans) ((n.1, (nextS n.2.1.toNat e).1, n.2.2), (false, false, false, false), []) (nextS n.2.1.toNat e).2.1 = y at *
  obtain ⟨m, f, pk⟩ := y
  simp only at q1 q2 q7
  dsimp only
  split
  ·exact ⟨q1, q2.elim .inl fun h => .inr (.inl h), q7⟩
  ·exact ⟨q1, .inr (.inr rfl), q7⟩
structure IN (n : Nt) : Prop where
 w : WN n
 t0 : 0 ≤ n.2.2.1.2
 t3 : n.2.2.1.2 ≤ 3
 f : Fit n.2.2.2.2.1
 aw : wfO n.2.2.2.2.2.1
 al : n.2.2.2.2.2.1.length ≤ 32
 asm : ∀ o ∈ n.2.2.2.2.2.1, o.2.length ≤ 253
theorem IN.done {n : Nt} (h : IN n) (e : Nat) (he : e < 16) (came ans : Ct) : IN (doneS n e came ans).1 := by
 obtain ⟨d1, d2, d3⟩ := doneS_inv n e came ans
 have hw := (doneS_spec n e came ans h.w he).1
 refine ⟨hw, ?_, ?_, ?_, by rw [d1]; exact h.aw, by rw [d1]; exact h.al, by rw [d1]; exact h.asm⟩
 ·have := h.t0; omega
 ·have := h.t3; omega
 ·rcases d3 with h' | h'
  ·rw [h']; exact h.f
  ·rw [h']; exact fit_ask _
def mk (y : Nt × List Ct × Ft) : Gt × List Ct × Ft := (toG y.1, y.2)
theorem rjudged_is (r : Rt) (l : List Op) (hr : wfR r) (hw : wfO l) (hl : l.length ≤ 32) (hs : ∀ o ∈ l, o.2.length ≤ 253) : r7j 200000 r l = some (ijudS r.2.2.2 l) := by
 have h := rijudge_is (N := 200000) r.2.2.2 l hw hr.2 (by omega) (fun o ho => by have := hs o ho; omega) (by omega)
 unfold r7j
 simp only [hr.1, cond_true, Prod.eta, h, Option.bind_some]
theorem rturned_is (r : Rt) (code : Int) (l : List Op) (hr : wfR r) (hw : wfO l) (hl : l.length ≤ 1000) : r7t 200000 r code l = some (turnS r code l) := by
 have i1 := rnaked_is (N := 200000) r.2.2.2 l hw hl (by omega)
 have k1 := rrejd_is (N := 200000) r.2.2.2 l hl (by omega)
 unfold r7t turnS
 by_cases h3 : code = 3
 ·rw [if_pos h3]
  simp only [decide_eq_true h3, hr.1, cond_true, Option.bind_some, Prod.eta, i1]
 ·rw [if_neg h3]
  simp only [decide_eq_false h3, hr.1, cond_true, cond_false, Option.bind_some, Prod.eta, k1]
theorem encs_sub {l m : List Op} (h : l.Sublist m) : (encs l).length ≤ (encs m).length := by
 induction h with
 | slnil => exact Nat.le_refl _
 | cons a h ih => rw [encs_cons, List.length_append]; omega
 | cons_cons a h ih => rw [encs_cons, encs_cons, List.length_append, List.length_append]; omega
theorem encs_len4 : ∀ (l : List Op), (∀ o ∈ l, o.2.length ≤ 4) → (encs l).length ≤ 6 * l.length
 | [], _ => by simp [encs]
 | o :: l, h => by
  have h1 := h o List.mem_cons_self
  have h2 := encs_len4 l (fun x hx => h x (List.mem_cons_of_mem _ hx))
  rw [encs_cons, List.length_append, List.length_cons]
  unfold enc1
  simp only [List.length_cons]
  omega
theorem lay_con (k id : Int) (m : List Op) (h : (encs m).length ≤ 4000) : (layC (conC k id m).1).2 = 0 := by
 unfold conC
 cases isC k with
 | false => rfl
 | true =>
  simp only [cond_true]
  by_cases h0 : (layS m).2 = 0
  ·simp only [h0, decide_true, cond_true]
   have : (layS m).1.length ≤ 4000 := by
    unfold layS
    split
    ·simp
    ·split
     ·exact h
     ·simp
   unfold layC
   rw [if_neg (show ¬ 4000 < (layS m).1.length by omega)]
  ·simp only [h0, decide_false, cond_false]
   rfl
theorem opt_enc (c : Ct) (hl : c.2.2.length < 200000) (hw : AllB c.2.2) (h : (optC 200000 c).2 = 0) : encs (optC 200000 c).1 = c.2.2 := by
 unfold optC at h ⊢
 cases hc : isC c.1 with
 | false => rw [hc] at h; cases h
 | true =>
  rw [hc] at h
  simp only [cond_true] at h ⊢
  rcases par_back 200000 c.2.2 [] hl hw (fun o ho => (by cases ho)) (by simp) with ⟨e, h1, he⟩ | ⟨m, h1, h2, _, hm⟩
  ·rw [h1] at h; exact absurd h he
  ·rw [h1]; exact h2
theorem tell_len (s : Sd) (l : List Op) (hl : l.length ≤ 32) (he : (encs l).length ≤ 1000) : (encs (ijudS s l).2).length ≤ 1000 := by
 obtain ⟨h1, h2, h3⟩ := judS_sub (irj s) (ink s) l []
 unfold ijudS tellS
 split
 ·exact Nat.le_trans (encs_sub h1) he
 ·split
  ·have := encs_len4 (judS (irj s) (ink s) [] l).2 (fun x hx => by
    obtain ⟨o, ho, hx⟩ := h3 x hx
    unfold ink at hx
    split at hx
    ·injection hx with hx; subst hx; exact Nat.le_refl 4
    ·cases hx)
   show (encs (judS (irj s) (ink s) [] l).2).length ≤ 1000
   omega
  ·exact he
theorem tell2 (s : Sd) (l : List Op) (h : (ijudS s l).1 = 2) : (ijudS s l).2 = l := by
 unfold ijudS tellS at h ⊢
 split at h
 ·cases h
 ·rename_i h1
  rw [if_neg h1]
  split at h
  ·cases h
  ·rename_i h2
   rw [if_neg h2]
theorem find_cont (k : Int) : ∀ (a : List Op), (findS a k).2 = (a.map (·.1)).contains k
 | [] => rfl
 | o :: a => by
  have ih := find_cont k a
  rw [List.map_cons, List.contains_cons, ← ih]
  unfold findS
  rw [List.find?_cons]
  by_cases h : o.1 = k
  ·have e : (k == o.1) = true := beq_iff_eq.2 h.symm
   rw [decide_eq_true h, e, Bool.true_or]
  ·have e : (k == o.1) = false := beq_eq_false_iff_ne.2 (fun h' => h h'.symm)
   rw [decide_eq_false h, e, Bool.false_or]
theorem rej_loop (l a : List Op) (hl : l.length ≤ 40) (ha : a.length ≤ 1000) (h0 : Gt) (h1 : Ct) (h2 h3 h4 h5 : Int) (h6 : Bool) (h7 h8 : Int) (h9 h10 h11 : Bool) (h12 h13 h14 : Int) (h15 : Bool) (h16 : Int) (h17 : List Ct × Ft) (h19 h20 : List Op) (m : Nat) : ∀ (M i : Nat), m + i = l.length → m < M →
  gl (fun X c => r7q_L14 200000 X c.1.1 c.1.2.1 c.1.2.2.1 c.2.1 c.2.2.1 c.2.2.2.1 c.2.2.2.2.1 c.2.2.2.2.2.1 c.2.2.2.2.2.2.1 c.2.2.2.2.2.2.2.1 c.2.2.2.2.2.2.2.2.1 c.2.2.2.2.2.2.2.2.2.1 c.2.2.2.2.2.2.2.2.2.2.1 c.2.2.2.2.2.2.2.2.2.2.2.1 c.2.2.2.2.2.2.2.2.2.2.2.2.1 c.2.2.2.2.2.2.2.2.2.2.2.2.2.1 c.2.2.2.2.2.2.2.2.2.2.2.2.2.2.1 c.2.2.2.2.2.2.2.2.2.2.2.2.2.2.2.1 c.2.2.2.2.2.2.2.2.2.2.2.2.2.2.2.2.1 c.2.2.2.2.2.2.2.2.2.2.2.2.2.2.2.2.2.1 c.2.2.2.2.2.2.2.2.2.2.2.2.2.2.2.2.2.2.1 c.2.2.2.2.2.2.2.2.2.2.2.2.2.2.2.2.2.2.2.1 c.2.2.2.2.2.2.2.2.2.2.2.2.2.2.2.2.2.2.2.2.1 c.2.2.2.2.2.2.2.2.2.2.2.2.2.2.2.2.2.2.2.2.2.1) M
   ((l, (a, ((i : Int), ()))), (h0, (h1, (h2, (h3, (h4, (h5, (h6, (h7, (h8, (h9, (h10, (h11, (h12, (h13, (h14, (h15, (h16, (h17, ((l.take i).filter (fun o => (a.map (·.1)).contains o.1), (h19, (h20, ())))))))))))))))))))))) =
   some ((), (h0, (h1, (h2, (h3, (h4, (h5, (h6, (h7, (h8, (h9, (h10, (h11, (h12, (h13, (h14, (h15, (h16, (h17, (l.filter (fun o => (a.map (·.1)).contains o.1), (h19, (h20, ())))))))))))))))))))))) := by
 induction m with
 | zero =>
  intro M i hm hM
  obtain ⟨M, rfl⟩ : ∃ k, M = k + 1 := ⟨M - 1, by omega⟩
  have c1 : decide ((i : Int) < (l.length : Int)) = false := decide_eq_false (by omega)
  rw [List.take_of_length_le (show l.length ≤ i by omega)]
  refine Eq.trans (show _ = r7q_L14 200000 _ l a (i : Int) h0 h1 h2 h3 h4 h5 h6 h7 h8 h9 h10 h11 h12 h13 h14 h15 h16 h17 (l.filter (fun o => (a.map (·.1)).contains o.1)) h19 h20 from rfl) ?_
  simp only [r7q_L14, c1, cond_false, Prod.eta]
 | succ m ih =>
  intro M i hm hM
  obtain ⟨M, rfl⟩ : ∃ k, M = k + 1 := ⟨M - 1, by omega⟩
  have hlt : i < l.length := by omega
  have c1 : decide ((i : Int) < (l.length : Int)) = true := decide_eq_true (by omega)
  have c2 : IntKind.wrap .i64 ((i : Int) + 1) = ((i + 1 : Nat) : Int) := by rw [wrap64 (by omega) (by omega)]; omega
  have g := getI_lt l i hlt
  have ih' := ih M (i + 1) (by omega) (by omega)
  have hf := ref_find_ok (N := 200000) a l[i].1 ha (by omega)
  have hfc := find_cont l[i].1 a
  have hlen : ((l.take i).filter (fun o => (a.map (·.1)).contains o.1)).length ≤ i := Nat.le_trans (List.length_filter_le _ _) (by rw [List.length_take]; omega)
  have hr : roomB (((l.take i).filter (fun o => (a.map (·.1)).contains o.1)).length + ([l[i]] : List Op).length) 32 = true := roomB_of (by have := big_len; show _ + 1 ≤ _; omega) (by show (_ + 1) * 32 ≤ _; omega)
  rw [take_snoc l i hlt, List.filter_append] at ih'
  have key : ∀ X, r7q_L14 200000 X l a (i : Int) h0 h1 h2 h3 h4 h5 h6 h7 h8 h9 h10 h11 h12 h13 h14 h15 h16 h17 ((l.take i).filter (fun o => (a.map (·.1)).contains o.1)) h19 h20 = X ((l, (a, (((i + 1 : Nat) : Int), ()))), (h0, (h1, (h2, (h3, (h4, (h5, (h6, (h7, (h8, (h9, (h10, (h11, (h12, (h13, (h14, (h15, (h16, (h17, ((l.take i).filter (fun o => (a.map (·.1)).contains o.1) ++ [l[i]].filter (fun o => (a.map (·.1)).contains o.1), (h19, (h20, ())))))))))))))))))))))) := fun X => by
   cases hb : (a.map (·.1)).contains l[i].1 with
   | true =>
    have hf2 : [l[i]].filter (fun o => (a.map (·.1)).contains o.1) = [l[i]] := by simp only [List.filter_cons, hb, if_true, List.filter_nil]
    rw [hf2]
    rw [hb] at hfc
    simp only [r7q_L14, c1, c2, cond_true, g, Option.bind_some, hf, hfc, Prod.eta, hr]
   | false =>
    have hf2 : [l[i]].filter (fun o => (a.map (·.1)).contains o.1) = [] := by simp only [List.filter_cons, hb, Bool.false_eq_true, if_false, List.filter_nil]
    rw [hf2, List.append_nil]
    rw [hb] at hfc
    simp only [r7q_L14, c1, c2, cond_true, cond_false, g, Option.bind_some, hf, hfc, Prod.eta]
  exact (key _).trans ih'
theorem rreq_is (n : Nt) (c : Ct) (hn : IN n) (hw : AllB c.2.2) (hl : c.2.2.length ≤ 1000) : r7q 200000 (toG n) c = some (mk (judgeS n c)) := by
 have hopt := cropt_ok (N := 200000) c (by omega) hw (by omega)
 obtain ⟨ow, ol⟩ := optC_wf c (by omega) hw
 have os := optC_small c (by omega) hw
 have oe := opt_enc c (by omega) hw
 unfold r7q judgeS
 generalize hq : optC 200000 c = q at *
 obtain ⟨l, e⟩ := q
 simp only at ow ol os oe
 have hopt' : ref22_Options 200000 (c.1, (c.2.1, c.2.2)) = some (l, e) := hopt
 by_cases he : e = 0
 ·have oe := oe he
  have he' : (encs l).length ≤ 1000 := by rw [oe]; omega
  have hj := rjudged_is n.1 l hn.w.r ow ol os
  obtain ⟨j1, j2, j3, j4⟩ := judged_is n l hn.w.r ow ol os
  have tl := tell_len n.1.2.2.2 l ol he'
  have t2 := tell2 n.1.2.2.2 l
  have ej : judgedS n l = ijudS n.1.2.2.2 l := rfl
  rw [ej] at j2 j3 j4 ⊢
  generalize ijudS n.1.2.2.2 l = r at *
  obtain ⟨code, told⟩ := r
  simp only at j2 j3 j4 tl t2 ⊢
  have con := fun (k : Int) (m : List Op) (hm : m.length ≤ 1000) => crcon_ok (N := 200000) k c.2.1 m hm (by omega)
  refine (congrArg (fun o => Option.bind o _) hopt').trans ?_
  rw [Option.bind_some]
  simp only [decide_eq_true he, Bool.not_true, cond_false, ne_eq, he, not_true_eq_false, if_false]
  refine (congrArg (fun o => Option.bind o _) hj).trans ?_
  rw [Option.bind_some]
  by_cases h2 : code = 2
  ·have t2 := t2 h2
   subst t2
   subst h2
   have hd := revent_is (sAck n told) 6 c (conC 2 c.2.1 told).1 (hn.w.sAck told) (by omega) (by omega) (lay_con _ _ _ (by omega))
   simp only [decide_true, cond_true, if_true]
   refine (congrArg (fun o => Option.bind o _) (con 2 told (by omega))).trans ?_
   rw [Option.bind_some]
   exact (congrArg (fun o => Option.bind o _) hd).trans rfl
  ·have d2 : decide (code = 2) = false := decide_eq_false h2
   simp only [d2, cond_false, if_neg h2]
   by_cases h3 : code = 3
   ·subst h3
    simp only [decide_true, cond_true, if_true, Option.bind_some]
    by_cases h5 : 5 < IntKind.wrap .i64 (n.2.2.2.2.2.2 + 1)
    ·have h5' : decide ((5 : Int) < IntKind.wrap .i64 ((toG n).2.2.2.2.2.2 + 1)) = true := decide_eq_true h5
     have hlp := rej_loop l told (by omega) (by omega) (toG (sNak n (IntKind.wrap .i64 (n.2.2.2.2.2.2 + 1)))) c 0 0 0 0 false 0 0 false false false 0 0 0 false 0 ([], (false, (false, (false, false)))) [] [] l.length 200000 0 (by omega) (by omega)
     have hfl := encs_sub (List.filter_sublist (l := l) (p := fun o => (told.map (·.1)).contains o.1))
     have hfl2 : (l.filter fun o => (told.map (·.1)).contains o.1).length ≤ 1000 := Nat.le_trans (List.length_filter_le _ _) (by omega)
     have hd := revent_is (sNak n (IntKind.wrap .i64 (n.2.2.2.2.2.2 + 1))) 7 c (conC 4 c.2.1 (l.filter fun o => (told.map (·.1)).contains o.1)).1 (hn.w.sNak _) (by omega) (by omega) (lay_con _ _ _ (by omega))
     rw [h5', cond_true, if_pos h5]
     refine (congrArg (fun o => Option.bind o _) hlp).trans ?_
     rw [Option.bind_some]
     refine (congrArg (fun o => Option.bind o _) (con 4 _ hfl2)).trans ?_
     rw [Option.bind_some]
     exact (congrArg (fun o => Option.bind o _) hd).trans rfl
    ·have h5' : decide ((5 : Int) < IntKind.wrap .i64 ((toG n).2.2.2.2.2.2 + 1)) = false := decide_eq_false h5
     have hd := revent_is (sNak n (IntKind.wrap .i64 (n.2.2.2.2.2.2 + 1))) 7 c (conC 3 c.2.1 told).1 (hn.w.sNak _) (by omega) (by omega) (lay_con _ _ _ (by omega))
     rw [h5', cond_false, if_neg h5]
     refine (congrArg (fun o => Option.bind o _) (con 3 told (by omega))).trans ?_
     rw [Option.bind_some]
     exact (congrArg (fun o => Option.bind o _) hd).trans rfl
   ·have d3 : decide (code = 3) = false := decide_eq_false h3
    have hd := revent_is n 7 c (conC code c.2.1 told).1 hn.w (by omega) (by omega) (lay_con _ _ _ (by omega))
    simp only [d3, cond_false, if_neg h3, Option.bind_some]
    refine (congrArg (fun o => Option.bind o _) (con code told (by omega))).trans ?_
    rw [Option.bind_some]
    exact (congrArg (fun o => Option.bind o _) hd).trans rfl
 ·refine (congrArg (fun o => Option.bind o _) hopt').trans ?_
  rw [Option.bind_some]
  simp only [decide_eq_false he, Bool.not_false, cond_true, ne_eq, he, not_false_eq_true, if_true]
  rfl
theorem zc_lay : (layC zc).2 = 0 := rfl
theorem ragree_is (n : Nt) (c : Ct) (hn : IN n) (hw : AllB c.2.2) (hl : c.2.2.length ≤ 1000) (h2 : c.1 = 2) : r7a 200000 (toG n) c = some (mk (agreeS n c)) := by
 have hopt := cropt_ok (N := 200000) c (by omega) hw (by omega)
 obtain ⟨ow, ol⟩ := optC_wf c (by omega) hw
 have os := optC_small c (by omega) hw
 unfold r7a agreeS
 generalize hq : optC 200000 c = q at *
 obtain ⟨l, e⟩ := q
 simp only at ow ol os
 have hopt' : ref22_Options 200000 (c.1, (c.2.1, c.2.2)) = some (l, e) := hopt
 have hsame := rsame_ok (N := 200000) l n.2.2.2.2.1 (fun o ho => by have := os o ho; omega) (by omega) (by omega)
 have hd := revent_is (sNak n 0) 8 c zc (hn.w.sNak 0) (by omega) (by omega) zc_lay
 refine (congrArg (fun o => Option.bind o _) hopt').trans ?_
 rw [Option.bind_some]
 have hid' : decide (c.2.1 = (toG n).2.2.1) = decide (c.2.1 = n.2.2.2.1) := rfl
 by_cases he : e = 0
 ·by_cases hid : c.2.1 = n.2.2.2.1
  ·have hi : decide (c.2.1 = (toG n).2.2.1) = true := decide_eq_true hid
   simp only [decide_eq_true he, hi, Bool.not_true, cond_false, Option.bind_some, decide_eq_true h2, cond_true]
   by_cases hs : l = n.2.2.2.2.1
   ·rw [if_neg (show ¬ (e ≠ 0 ∨ c.2.1 ≠ n.2.2.2.1 ∨ l ≠ n.2.2.2.2.1) by simp [he, hid, hs])]
    rw [decide_eq_true hs] at hsame
    refine (congrArg (fun o => Option.bind o _) hsame).trans ?_
    rw [Option.bind_some]
    exact (congrArg (fun o => Option.bind o _) hd).trans rfl
   ·rw [if_pos (show (e ≠ 0 ∨ c.2.1 ≠ n.2.2.2.1 ∨ l ≠ n.2.2.2.2.1) from .inr (.inr hs))]
    rw [decide_eq_false hs] at hsame
    exact (congrArg (fun o => Option.bind o _) hsame).trans rfl
  ·have hi : decide (c.2.1 = (toG n).2.2.1) = false := decide_eq_false hid
   rw [if_pos (show (e ≠ 0 ∨ c.2.1 ≠ n.2.2.2.1 ∨ l ≠ n.2.2.2.2.1) from .inr (.inl hid))]
   simp only [decide_eq_true he, hi, Bool.not_true, Bool.not_false, cond_false, cond_true, Option.bind_some]
   rfl
 ·rw [if_pos (show (e ≠ 0 ∨ c.2.1 ≠ n.2.2.2.1 ∨ l ≠ n.2.2.2.2.1) from .inl he)]
  simp only [decide_eq_false he, Bool.not_false, cond_true, Option.bind_some]
  rfl
theorem rrefuse_is (n : Nt) (c : Ct) (hn : IN n) (hw : AllB c.2.2) (hl : c.2.2.length ≤ 1000) (h34 : c.1 = 3 ∨ c.1 = 4) : r7a 200000 (toG n) c = some (mk (refuseS n c)) := by
 have hopt := cropt_ok (N := 200000) c (by omega) hw (by omega)
 obtain ⟨ow, ol⟩ := optC_wf c (by omega) hw
 have os := optC_small c (by omega) hw
 unfold r7a refuseS
 generalize hq : optC 200000 c = q at *
 obtain ⟨l, e⟩ := q
 simp only at ow ol os
 have hopt' : ref22_Options 200000 (c.1, (c.2.1, c.2.2)) = some (l, e) := hopt
 have ham : ref21_Among 200000 l n.2.2.2.2.1 = some (amS l n.2.2.2.2.1) := ref_among_ok (N := 200000) (by omega) 200000 l n.2.2.2.2.1 (by omega) (by omega) (by have := hn.w.sl; omega) (fun o ho => by have := os o ho; omega)
 have ht := rturned_is n.1 c.1 l hn.w.r ow (by omega)
 obtain ⟨_, t2⟩ := turn_is n.1 c.1 l hn.w.r ow (by omega) (fun o ho => by have := os o ho; omega)
 have hd : ∀ e : Nat, e < 16 → r7e 200000 (toG (sRul n (turnS n.1 c.1 l).1)) (e : Int) c zc = some (mk (doneS (sRul n (turnS n.1 c.1 l).1) e c zc)) := fun e he => revent_is _ e c zc (hn.w.sRul t2) he (by omega) zc_lay
 have d2 : decide (c.1 = 2) = false := decide_eq_false (by omega)
 refine (congrArg (fun o => Option.bind o _) hopt').trans ?_
 rw [Option.bind_some]
 by_cases he : e = 0
 ·by_cases hid : c.2.1 = n.2.2.2.1
  ·have hi : decide (c.2.1 = (toG n).2.2.1) = true := decide_eq_true hid
   simp only [decide_eq_true he, hi, Bool.not_true, cond_false, Option.bind_some, d2]
   by_cases h0 : l.length = 0
   ·have h0' : ((l.length : Nat) : Int) = 0 := by omega
    rw [decide_eq_true h0', cond_true, if_pos (show (e ≠ 0 ∨ c.2.1 ≠ n.2.2.2.1 ∨ l.length = 0 ∨ (c.1 = 4 ∧ amS l n.2.2.2.2.1 = false)) from .inr (.inr (.inl h0)))]
    rfl
   ·have h0' : ¬ ((l.length : Nat) : Int) = 0 := by omega
    rw [decide_eq_false h0', cond_false]
    have go : ∀ (hno : ¬ (e ≠ 0 ∨ c.2.1 ≠ n.2.2.2.1 ∨ l.length = 0 ∨ (c.1 = 4 ∧ amS l n.2.2.2.2.1 = false))), True := fun _ => trivial
    by_cases hc4 : c.1 = 4
    ·rw [decide_eq_true hc4, cond_true]
     refine (congrArg (fun o => Option.bind o _) ham).trans ?_
     rw [Option.bind_some]
     cases ha : amS l n.2.2.2.2.1 with
     | false =>
      rw [if_pos (show (e ≠ 0 ∨ c.2.1 ≠ n.2.2.2.1 ∨ l.length = 0 ∨ (c.1 = 4 ∧ false = false)) from .inr (.inr (.inr ⟨hc4, rfl⟩)))]
      rfl
     | true =>
      rw [if_neg (by simp [he, hid, h0])]
      simp only [Bool.not_true, cond_true, cond_false, Option.bind_some]
      refine (congrArg (fun o => Option.bind o _) ht).trans ?_
      rw [Option.bind_some]
      cases hb : (turnS n.1 c.1 l).2 with
      | true =>
       simp only [Bool.not_true, cond_false, if_true]
       exact (congrArg (fun o => Option.bind o _) (hd 9 (by omega))).trans rfl
      | false =>
       simp only [Bool.not_false, cond_true, Bool.false_eq_true, if_false]
       exact (congrArg (fun o => Option.bind o _) (hd 14 (by omega))).trans rfl
    ·rw [decide_eq_false hc4, cond_false, if_neg (by simp [he, hid, h0, hc4])]
     refine (congrArg (fun o => Option.bind o _) ht).trans ?_
     rw [Option.bind_some]
     cases hb : (turnS n.1 c.1 l).2 with
     | true =>
      simp only [Bool.not_true, cond_false, if_true]
      exact (congrArg (fun o => Option.bind o _) (hd 9 (by omega))).trans rfl
     | false =>
      simp only [Bool.not_false, cond_true, Bool.false_eq_true, if_false]
      exact (congrArg (fun o => Option.bind o _) (hd 14 (by omega))).trans rfl
  ·have hi : decide (c.2.1 = (toG n).2.2.1) = false := decide_eq_false hid
   rw [if_pos (show (e ≠ 0 ∨ c.2.1 ≠ n.2.2.2.1 ∨ l.length = 0 ∨ (c.1 = 4 ∧ amS l n.2.2.2.2.1 = false)) from .inr (.inl hid))]
   simp only [decide_eq_true he, hi, Bool.not_true, Bool.not_false, cond_false, cond_true, Option.bind_some]
   rfl
 ·rw [if_pos (show (e ≠ 0 ∨ c.2.1 ≠ n.2.2.2.1 ∨ l.length = 0 ∨ (c.1 = 4 ∧ amS l n.2.2.2.2.1 = false)) from .inl he)]
  simp only [decide_eq_false he, Bool.not_false, cond_true, Option.bind_some]
  rfl
set_option maxHeartbeats 1000000 in
theorem rtake_is (n : Nt) (c : Ct) (hn : IN n) (hw : AllB c.2.2) (hl : c.2.2.length ≤ 1000) : ref27_Take 200000 (toG n) c = some (mk (takeS n c)) := by
 have hip : (toG n).2.2.2.2.1.1 = true := hn.w.r.1
 have hb : ∀ (a b : Option (Gt × List Ct × Ft)), (bif !(toG n).2.2.2.2.1.1 then a else b) = b := fun a b => by rw [hip]; rfl
 have hip' : n.1.1 = true := hn.w.r.1
 have hd := fun (k : Nat) (hk : k < 16) => revent_is n k c zc hn.w hk (by omega) zc_lay
 unfold ref27_Take takeS
 by_cases h1 : c.1 = 1
 ·have hr := rreq_is n c hn hw hl
  rw [decide_eq_true h1, cond_true, if_pos h1]
  exact (congrArg (fun o => Option.bind o _) hr).trans rfl
 rw [decide_eq_false h1, cond_false, if_neg h1]
 by_cases h2 : c.1 = 2
 ·have hr := ragree_is n c hn hw hl h2
  rw [decide_eq_true h2, cond_true, cond_true, if_pos h2]
  exact (congrArg (fun o => Option.bind o _) hr).trans rfl
 rw [decide_eq_false h2, cond_false, if_neg h2]
 by_cases h3 : c.1 = 3
 ·have hr := rrefuse_is n c hn hw hl (.inl h3)
  rw [decide_eq_true h3, cond_true, cond_true, if_pos (.inl h3)]
  exact (congrArg (fun o => Option.bind o _) hr).trans rfl
 rw [decide_eq_false h3, cond_false]
 by_cases h4 : c.1 = 4
 ·have hr := rrefuse_is n c hn hw hl (.inr h4)
  rw [decide_eq_true h4, cond_true, if_pos (.inr h4)]
  exact (congrArg (fun o => Option.bind o _) hr).trans rfl
 rw [decide_eq_false h4, cond_false, if_neg (by omega)]
 unfold eventS
 by_cases h5 : c.1 = 5
 ·rw [decide_eq_true h5, cond_true, if_pos h5]
  exact (congrArg (fun o => Option.bind o _) (hd 10 (by omega))).trans rfl
 rw [decide_eq_false h5, cond_false, if_neg h5]
 by_cases h6 : c.1 = 6
 ·rw [decide_eq_true h6, cond_true, if_pos h6]
  exact (congrArg (fun o => Option.bind o _) (hd 11 (by omega))).trans rfl
 rw [decide_eq_false h6, cond_false, if_neg h6]
 by_cases h7 : c.1 = 7
 ·rw [decide_eq_true h7, cond_true, if_pos h7]
  have e14 := hd 14 (by omega)
  have e13 := hd 13 (by omega)
  by_cases hl0 : 0 < c.2.2.length
  ·have hl' : (0 : Int) < (c.2.2.length : Int) := by omega
   have g' : getI c.2.2 (0 : Int) = some c.2.2[0] := getI_lt c.2.2 0 hl0
   have e : c.2.2.getD 0 0 = c.2.2[0] := getD_lt hl0
   rw [e, decide_eq_true hl', cond_true, g']
   simp only [Option.bind_some]
   by_cases g1 : (1 : Int) ≤ c.2.2[0]
   ·rw [decide_eq_true g1]
    by_cases g7 : c.2.2[0] ≤ (7 : Int)
    ·rw [decide_eq_true g7, if_pos ⟨hl0, g1, g7⟩]
     exact (congrArg (fun o => Option.bind o _) e14).trans rfl
    ·rw [decide_eq_false g7, if_neg (fun h => g7 h.2.2)]
     exact (congrArg (fun o => Option.bind o _) e13).trans rfl
   ·rw [decide_eq_false g1, if_neg (fun h => g1 h.2.1)]
    exact (congrArg (fun o => Option.bind o _) e13).trans rfl
  ·have hl' : ¬ (0 : Int) < (c.2.2.length : Int) := by omega
   rw [decide_eq_false hl', if_neg (fun h => hl0 h.1)]
   exact (congrArg (fun o => Option.bind o _) e13).trans rfl
 rw [decide_eq_false h7, cond_false, if_neg h7]
 have e12 := hd 12 (by omega)
 by_cases h8 : c.1 = 8
 ·rw [decide_eq_true h8, cond_true, if_pos h8, hb, hip', if_pos rfl]
  exact (congrArg (fun o => Option.bind o _) e12).trans rfl
 rw [decide_eq_false h8, cond_false, if_neg h8, hip']
 have fin : (if c.1 = 9 ∨ c.1 = 10 ∨ c.1 = 11 then (if true = true then 12 else 15) else 12) = 12 := by split <;> simp
 rw [fin]
 by_cases h9 : c.1 = 9
 ·rw [decide_eq_true h9, cond_true, cond_true, hb]
  exact (congrArg (fun o => Option.bind o _) e12).trans rfl
 rw [decide_eq_false h9, cond_false]
 by_cases h10 : c.1 = 10
 ·rw [decide_eq_true h10, cond_true, cond_true, hb]
  exact (congrArg (fun o => Option.bind o _) e12).trans rfl
 rw [decide_eq_false h10, cond_false]
 by_cases h11 : c.1 = 11
 ·rw [decide_eq_true h11, cond_true, hb]
  exact (congrArg (fun o => Option.bind o _) e12).trans rfl
 rw [decide_eq_false h11, cond_false]
 exact (congrArg (fun o => Option.bind o _) e12).trans rfl
theorem rdo_is (n : Nt) (e : Int) (hn : IN n) : ref27_Do 200000 (toG n) e = some (mk (doS n e)) := by
 unfold ref27_Do doS
 by_cases h0 : e < 0
 ·rw [decide_eq_true h0, if_neg (by omega)]; rfl
 ·by_cases h3 : 3 < e
  ·rw [decide_eq_false h0, decide_eq_true h3, if_neg (by omega)]; rfl
  ·rw [decide_eq_false h0, decide_eq_false h3, if_pos (by omega)]
   have hd := revent_is n e.toNat zc zc hn.w (by omega) (by simp [zc]) zc_lay
   rw [Int.toNat_of_nonneg (by omega)] at hd
   exact (congrArg (fun o => Option.bind o _) hd).trans rfl
theorem rtickT (t : Int × Int) (h0 : 0 ≤ t.2) (h3 : t.2 ≤ 3) : ref24_Tick 200000 t = some (tickT t) := by
 unfold ref24_Tick tickT
 by_cases h : 0 < t.2
 ·have w : IntKind.wrap .i64 (t.2 - 1) = t.2 - 1 := wrap64 (by omega) (by omega)
  rw [decide_eq_false (show ¬ t.2 ≤ 0 by omega), if_pos h, w]
  by_cases h1 : t.2 = 1
  ·rw [decide_eq_true h1, decide_eq_false (show ¬ 0 < t.2 - 1 by omega)]; rfl
  ·rw [decide_eq_false h1, decide_eq_true (show 0 < t.2 - 1 by omega)]; rfl
 ·rw [decide_eq_true (show t.2 ≤ 0 by omega), if_neg h]; rfl
theorem rtick_is (n : Nt) (hn : IN n) : ref27_Tick 200000 (toG n) = some (mk (tickS n)) := by
 have ht : ref24_Tick 200000 ((toG n).2.1.1, (toG n).2.1.2) = some (tickT n.2.2.1) := rtickT n.2.2.1 hn.t0 hn.t3
 have d := fun (k : Nat) (hk : k < 16) => revent_is (sTim n (tickT n.2.2.1).1) k zc zc (hn.w.sTim _) hk (by simp [zc]) zc_lay
 unfold ref27_Tick tickS
 refine (congrArg (fun o => Option.bind o _) ht).trans ?_
 rw [Option.bind_some]
 generalize tickT n.2.2.1 = t at *
 obtain ⟨t, b⟩ := t
 cases b with
 | false => rfl
 | true =>
  simp only [Bool.not_true, cond_false, if_true]
  by_cases h : 0 < t.1
  ·rw [decide_eq_true h, cond_true, if_pos h]
   exact (congrArg (fun o => Option.bind o _) (d 4 (by omega))).trans rfl
  ·rw [decide_eq_false h, cond_false, if_neg h]
   exact (congrArg (fun o => Option.bind o _) (d 5 (by omega))).trans rfl
theorem IN.ack {n : Nt} (h : IN n) {l : List Op} (h1 : wfO l) (h2 : l.length ≤ 32) (h3 : ∀ o ∈ l, o.2.length ≤ 253) : IN (sAck n l) := ⟨h.w.sAck l, h.t0, h.t3, h.f, h1, h2, h3⟩
theorem IN.nak {n : Nt} (h : IN n) (k : Int) : IN (sNak n k) := ⟨h.w.sNak k, h.t0, h.t3, h.f, h.aw, h.al, h.asm⟩
theorem IN.rul {n : Nt} (h : IN n) {r : Rt} (hr : wfR r) : IN (sRul n r) := ⟨h.w.sRul hr, h.t0, h.t3, h.f, h.aw, h.al, h.asm⟩
theorem IN.do {n : Nt} (h : IN n) (e : Int) : IN (doS n e).1 := by
 unfold doS
 split
 ·exact h.done _ (by omega) _ _
 ·exact h
theorem IN.tim {n : Nt} (h : IN n) : IN (sTim n (tickT n.2.2.1).1) := by
 have h1 := h.t0
 have h2 := h.t3
 have key : 0 ≤ (tickT n.2.2.1).1.2 ∧ (tickT n.2.2.1).1.2 ≤ 3 := by
  unfold tickT
  split
  ·have w : IntKind.wrap .i64 (n.2.2.1.2 - 1) = n.2.2.1.2 - 1 := wrap64 (by omega) (by omega)
   simp only [w]
   omega
  ·exact ⟨h1, h2⟩
 exact ⟨h.w.sTim _, key.1, key.2, h.f, h.aw, h.al, h.asm⟩
theorem IN.tick {n : Nt} (h : IN n) : IN (tickS n).1 := by
 unfold tickS
 split
 ·split
  ·exact h.tim.done 4 (by omega) _ _
  ·exact h.tim.done 5 (by omega) _ _
 ·exact h.tim
theorem IN.take {n : Nt} (h : IN n) (c : Ct) (hw : AllB c.2.2) (hl : c.2.2.length ≤ 5000) : IN (takeS n c).1 := by
 obtain ⟨ow, ol⟩ := optC_wf c (by omega) hw
 have os := optC_small c (by omega) hw
 unfold takeS
 split
 ·unfold judgeS
  split
  ·exact h
  ·split
   ·exact (h.ack ow ol os).done 6 (by omega) _ _
   ·split
    ·split
     ·exact (h.nak _).done 7 (by omega) _ _
     ·exact (h.nak _).done 7 (by omega) _ _
    ·exact h.done 7 (by omega) _ _
 ·split
  ·unfold agreeS
   split
   ·exact h
   ·exact (h.nak 0).done 8 (by omega) _ _
  ·split
   ·unfold refuseS
    split
    ·exact h
    ·obtain ⟨t1, t2⟩ := turn_is n.1 c.1 (optC 200000 c).1 h.w.r ow (by omega) (fun o ho => by have := os o ho; omega)
     refine (h.rul t2).done _ ?_ _ _
     split <;> omega
   ·exact h.done _ (eventS_lt n c) _ _
abbrev S7 := Int × Int × Bool × Bool × Int × Int × List Int
theorem alive32 : law32_alive 200000 = some true := by decide +kernel
theorem ctl_same_self (c : Ct) (h : AllB c.2.2) : ctl_Same 200000 c c = some true := by
 unfold ctl_Same bytes_Equal
 rw [toBy_map h]
 simp
theorem conC_B (k id : Int) (m : List Op) (h : wfO m) : AllB (conC k id m).1.2.2 := by
 unfold conC
 cases isC k with
 | false => exact AllB.nil
 | true =>
  by_cases h0 : (layS m).2 = 0
  ·simp only [h0, decide_true, cond_true]; exact (layS_wf m h).1
  ·simp only [h0, decide_false, cond_false, cond_true]; exact AllB.nil
theorem sndS_B (pk : List Ct) (c : Ct) (h : AllB c.2.2) : ∀ d ∈ sndS pk c, d ∈ pk ∨ AllB d.2.2 := by
 unfold sndS
 intro d hd
 split at hd
 ·rcases List.mem_append.1 hd with h1 | h1
  ·exact .inl h1
  ·rw [List.mem_singleton] at h1; subst h1; exact .inr h
 ·exact .inl hd
theorem stepA_B (acts : List Int) (came ans : Ct) (hc : wfC came) (hl : came.2.2.length ≤ 5000) (ha : AllB ans.2.2) (x : Nt × Ft × List Ct) (a : Int) : ∀ d ∈ (stepA acts came ans x a).2.2, d ∈ x.2.2 ∨ AllB d.2.2 := by
 unfold stepA
 by_cases h1 : a = 1
 ·rw [if_pos h1]; exact fun d hd => .inl hd
 rw [if_neg h1]
 by_cases h2 : a = 2
 ·rw [if_pos h2]; exact fun d hd => .inl hd
 rw [if_neg h2]
 by_cases h3 : a = 3
 ·rw [if_pos h3]; exact fun d hd => .inl hd
 rw [if_neg h3]
 by_cases h4 : a = 4
 ·rw [if_pos h4]; exact fun d hd => .inl hd
 rw [if_neg h4]
 by_cases h5 : a = 5
 ·rw [if_pos h5]; exact fun d hd => .inl hd
 rw [if_neg h5]
 by_cases h6 : a = 6
 ·rw [if_pos h6]; exact fun d hd => .inl hd
 rw [if_neg h6]
 by_cases h7 : a = 7
 ·rw [if_pos h7]; exact sndS_B _ _ (conC_B _ _ _ (askS_wf _).1)
 rw [if_neg h7]
 by_cases h10 : a = 10
 ·rw [if_pos h10]; exact sndS_B x.2.2 (5, idS x.1.2.2.2.1, []) AllB.nil
 rw [if_neg h10]
 by_cases h12 : a = 12
 ·rw [if_pos h12]; exact sndS_B _ _ (cutC_wf (layC_wf came hc hl).2 1400)
 rw [if_neg h12]
 by_cases h89 : a = 8 ∨ a = 9
 ·rw [if_pos h89]; exact sndS_B _ _ ha
 rw [if_neg h89]
 by_cases h11 : a = 11
 ·rw [if_pos h11]; exact sndS_B x.2.2 (6, came.2.1, []) AllB.nil
 rw [if_neg h11]
 exact fun d hd => .inl hd
theorem fold_B (acts : List Int) (came ans : Ct) (hc : wfC came) (hl : came.2.2.length ≤ 5000) (ha : AllB ans.2.2) : ∀ (l : List Int) (x : Nt × Ft × List Ct), ∀ d ∈ (l.foldl (stepA acts came ans) x).2.2, d ∈ x.2.2 ∨ AllB d.2.2
 | [], x, d, hd => .inl hd
 | a :: l, x, d, hd => by
  rw [List.foldl_cons] at hd
  rcases fold_B acts came ans hc hl ha l (stepA acts came ans x a) d hd with h | h
  ·exact stepA_B acts came ans hc hl ha x a d h
  ·exact .inr h
def PB (y : Nt × List Ct × Ft) : Prop := ∀ d ∈ y.2.1, AllB d.2.2
theorem doneS_B (n : Nt) (e : Nat) (came ans : Ct) (hc : wfC came) (hl : came.2.2.length ≤ 5000) (ha : AllB ans.2.2) : PB (doneS n e came ans) := by
 unfold doneS
 split
 ·exact fun d hd => by cases hd
 ·have q := fold_B (nextS n.2.1.toNat e).2.1 came ans hc hl ha (nextS n.2.1.toNat e).2.1 ((n.1, (nextS n.2.1.toNat e).1, n.2.2), (false, false, false, false), [])
  generalize List.foldl (stepA (nextS n.2.1.toNat e).2.1 came ans) ((n.1, (nextS n.2.1.toNat e).1, n.2.2), (false, false, false, false), []) (nextS n.2.1.toNat e).2.1 = y at *
  obtain ⟨m, f, pk⟩ := y
  have q' : ∀ d ∈ pk, AllB d.2.2 := fun d hd => (q d hd).elim (fun h => by cases h) id
  dsimp only
  split
  ·exact q'
  ·exact q'
theorem zc_wf : wfC zc := ⟨by decide, by decide, AllB.nil⟩
theorem zc_len : zc.2.2.length ≤ 5000 := by decide
theorem nop_B (n : Nt) : PB (nop n) := fun d hd => by cases hd
theorem doS_B (n : Nt) (e : Int) : PB (doS n e) := by
 unfold doS
 split
 ·exact doneS_B _ _ _ _ zc_wf zc_len AllB.nil
 ·exact nop_B n
theorem tickS_B (n : Nt) : PB (tickS n) := by
 unfold tickS
 split
 ·split
  ·exact doneS_B _ _ _ _ zc_wf zc_len AllB.nil
  ·exact doneS_B _ _ _ _ zc_wf zc_len AllB.nil
 ·exact nop_B _
theorem takeS_B (n : Nt) (hn : WN n) (c : Ct) (hc : wfC c) (hl : c.2.2.length ≤ 5000) : PB (takeS n c) := by
 obtain ⟨ow, ol⟩ := optC_wf c (by omega) hc.2.2
 have os := optC_small c (by omega) hc.2.2
 unfold takeS
 split
 ·obtain ⟨j1, j2, j3, j4⟩ := judged_is n (optC 200000 c).1 hn.r ow ol os
  unfold judgeS
  split
  ·exact nop_B n
  ·split
   ·exact doneS_B _ _ _ _ hc hl (conC_B _ _ _ j2)
   ·split
    ·split
     ·exact doneS_B _ _ _ _ hc hl (conC_B _ _ _ (wfO_sub ow List.filter_sublist))
     ·exact doneS_B _ _ _ _ hc hl (conC_B _ _ _ j2)
    ·exact doneS_B _ _ _ _ hc hl (conC_B _ _ _ j2)
 ·split
  ·unfold agreeS
   split
   ·exact nop_B n
   ·exact doneS_B _ _ _ _ hc hl AllB.nil
  ·split
   ·unfold refuseS
    split
    ·exact nop_B n
    ·exact doneS_B _ _ _ _ hc hl AllB.nil
   ·exact doneS_B _ _ _ _ hc hl AllB.nil
theorem same_loop (o : List Ct × Ft) (hl : o.1.length ≤ 1000) (hB : ∀ d ∈ o.1, AllB d.2.2) (m : Nat) : ∀ (M i : Nat), m + i = o.1.length → m < M →
  gl (fun X c => law32_same_L4 200000 X c.1.1 c.1.2.1 c.1.2.2.1 c.1.2.2.2.1) M ((o, (o, ((o.1.length : Int), ((i : Int), ())))), ()) = some (.inr ((), ())) := by
 induction m with
 | zero =>
  intro M i hm hM
  obtain ⟨M, rfl⟩ : ∃ k, M = k + 1 := ⟨M - 1, by omega⟩
  have c1 : decide ((i : Int) < (o.1.length : Int)) = false := decide_eq_false (by omega)
  have key : ∀ X, law32_same_L4 200000 X o o (o.1.length : Int) (i : Int) = some (.inr ((), ())) := fun X => by
   simp only [law32_same_L4, c1, cond_false]
  exact key _
 | succ m ih =>
  intro M i hm hM
  obtain ⟨M, rfl⟩ : ∃ k, M = k + 1 := ⟨M - 1, by omega⟩
  have hlt : i < o.1.length := by omega
  have c1 : decide ((i : Int) < (o.1.length : Int)) = true := decide_eq_true (by omega)
  have c2 : IntKind.wrap .i64 ((i : Int) + 1) = ((i + 1 : Nat) : Int) := by rw [wrap64 (by omega) (by omega)]; omega
  have g := getI_lt o.1 i hlt
  have ih' := ih M (i + 1) (by omega) (by omega)
  have hs := ctl_same_self o.1[i] (hB _ (List.getElem_mem hlt))
  have key : ∀ X, law32_same_L4 200000 X o o (o.1.length : Int) (i : Int) = X ((o, (o, ((o.1.length : Int), (((i + 1 : Nat) : Int), ())))), ()) := fun X => by
   simp only [law32_same_L4, c1, c2, cond_true, cond_false, g, Option.bind_some, Prod.eta, hs, Bool.not_true]
  exact (key _).trans ih'
theorem same_is (o : List Ct × Ft) (hl : o.1.length ≤ 1000) (hB : ∀ d ∈ o.1, AllB d.2.2) : law32_same 200000 o o = some true := by
 have h := same_loop o hl hB o.1.length 200000 0 (by omega) (by omega)
 have h' : law32_same_L4_R 200000 ((o, (o, ((o.1.length : Int), ((0 : Int), ())))), ()) = some (.inr ((), ())) := h
 unfold law32_same
 simp only [decide_true, Bool.not_true, beq_self_eq_true, cond_false, Option.bind_some, Prod.eta, h', Sum.elim_inr]
def thP (o : Op) : Bool := decide (o.1 = 3) && decide (o.2.length = 4)
def thS (l : List Op) : Int := match l.find? thP with | some o => valS o.2 | none => 0
theorem th_loop (l : List Op) (hw : wfO l) (hl : l.length ≤ 1000) (m : Nat) : ∀ (M i : Nat), m + i = l.length → m < M →
  gl (fun X c => iET_L2 200000 X c.1.1 c.1.2.1 c.1.2.2.1) M ((l, ((l.length : Int), ((i : Int), ()))), ()) = some (match (l.drop i).find? thP with | some o => .inl ((valS o.2, ()), ()) | none => .inr ((), ())) ∧
  gl (fun X c => r2T_L2 200000 X c.1.1 c.1.2.1) M ((l, ((i : Int), ())), ()) = some (match (l.drop i).find? thP with | some o => .inl ((valS o.2, ()), ()) | none => .inr ((), ())) := by
 induction m with
 | zero =>
  intro M i hm hM
  obtain ⟨M, rfl⟩ : ∃ k, M = k + 1 := ⟨M - 1, by omega⟩
  have c1 : decide ((i : Int) < (l.length : Int)) = false := decide_eq_false (by omega)
  rw [List.drop_of_length_le (show l.length ≤ i by omega)]
  have k1 : ∀ X, iET_L2 200000 X l (l.length : Int) (i : Int) = some (.inr ((), ())) := fun X => by
   simp only [iET_L2, c1, cond_false]
  have k2 : ∀ X, r2T_L2 200000 X l (i : Int) = some (.inr ((), ())) := fun X => by
   simp only [r2T_L2, c1, cond_false]
  exact ⟨k1 _, k2 _⟩
 | succ m ih =>
  intro M i hm hM
  obtain ⟨M, rfl⟩ : ∃ k, M = k + 1 := ⟨M - 1, by omega⟩
  have hlt : i < l.length := by omega
  have c1 : decide ((i : Int) < (l.length : Int)) = true := decide_eq_true (by omega)
  have c2 : IntKind.wrap .i64 ((i : Int) + 1) = ((i + 1 : Nat) : Int) := by rw [wrap64 (by omega) (by omega)]; omega
  have g := getI_lt l i hlt
  have hwi := hw _ (List.getElem_mem hlt)
  obtain ⟨i1, i2⟩ := ih M (i + 1) (by omega) (by omega)
  rw [List.drop_eq_getElem_cons hlt, List.find?_cons]
  generalize l[i] = x at *
  by_cases hk : x.1 = 3
  ·by_cases hl4 : x.2.length = 4
   ·have hl' : ((x.2.length : Nat) : Int) = 4 := by omega
    obtain ⟨n1, n2⟩ := num4S (N := 200000) hwi.2 hl4 (by omega)
    obtain ⟨q1, q2⟩ := get4S (N := 200000) hwi.2 hl4 (by omega)
    have w : IntKind.wrap .u32 (valS x.2) = valS x.2 := wrapU32 n2
    have ha : ipcp_addr 200000 x.2 = some (valS x.2) := by
     unfold ipcp_addr
     rw [q1, Option.bind_some, w]
    have hp : thP x = true := by unfold thP; simp [hk, hl4]
    rw [hp]
    have k1 : ∀ X, iET_L2 200000 X l (l.length : Int) (i : Int) = some (.inl ((valS x.2, ()), ())) := fun X => by
     simp only [iET_L2, c1, cond_true, g, Option.bind_some, decide_eq_true hk, decide_eq_true hl', ha]
    have k2 : ∀ X, r2T_L2 200000 X l (i : Int) = some (.inl ((valS x.2, ()), ())) := fun X => by
     simp only [r2T_L2, c1, cond_true, g, Option.bind_some, decide_eq_true hk, decide_eq_true hl', n1, w]
    exact ⟨k1 _, k2 _⟩
   ·have hl' : ¬ ((x.2.length : Nat) : Int) = 4 := by omega
    have hp : thP x = false := by unfold thP; simp [hl4]
    rw [hp]
    have k1 : ∀ X, iET_L2 200000 X l (l.length : Int) (i : Int) = X ((l, ((l.length : Int), (((i + 1 : Nat) : Int), ()))), ()) := fun X => by
     simp only [iET_L2, c1, c2, cond_true, cond_false, g, Option.bind_some, decide_eq_true hk, decide_eq_false hl']
    have k2 : ∀ X, r2T_L2 200000 X l (i : Int) = X ((l, (((i + 1 : Nat) : Int), ())), ()) := fun X => by
     simp only [r2T_L2, c1, c2, cond_true, cond_false, g, Option.bind_some, decide_eq_true hk, decide_eq_false hl']
    exact ⟨(k1 _).trans i1, (k2 _).trans i2⟩
  ·have hp : thP x = false := by unfold thP; simp [hk]
   rw [hp]
   have k1 : ∀ X, iET_L2 200000 X l (l.length : Int) (i : Int) = X ((l, ((l.length : Int), (((i + 1 : Nat) : Int), ()))), ()) := fun X => by
    simp only [iET_L2, c1, c2, cond_true, cond_false, g, Option.bind_some, decide_eq_false hk]
   have k2 : ∀ X, r2T_L2 200000 X l (i : Int) = X ((l, (((i + 1 : Nat) : Int), ())), ()) := fun X => by
    simp only [r2T_L2, c1, c2, cond_true, cond_false, g, Option.bind_some, decide_eq_false hk]
   exact ⟨(k1 _).trans i1, (k2 _).trans i2⟩
theorem acked_loop (l : List Op) (hl : l.length ≤ 1000) (hs : ∀ o ∈ l, o.2.length ≤ 1000) (m : Nat) : ∀ (M i : Nat), m + i = l.length → m < M →
  gl (fun X c => nNA_L3 200000 X c.1.1 c.1.2.1 c.1.2.2.1 c.2.1) M ((l, ((l.length : Int), ((i : Int), ()))), (l.take i, ())) = some ((), (l, ())) := by
 induction m with
 | zero =>
  intro M i hm hM
  obtain ⟨M, rfl⟩ : ∃ k, M = k + 1 := ⟨M - 1, by omega⟩
  have c1 : decide ((i : Int) < (l.length : Int)) = false := decide_eq_false (by omega)
  have key : ∀ X, nNA_L3 200000 X l (l.length : Int) (i : Int) (l.take i) = some ((), (l, ())) := fun X => by
   simp only [nNA_L3, c1, cond_false, List.take_of_length_le (show l.length ≤ i by omega)]
  exact key _
 | succ m ih =>
  intro M i hm hM
  obtain ⟨M, rfl⟩ : ∃ k, M = k + 1 := ⟨M - 1, by omega⟩
  have hlt : i < l.length := by omega
  have c1 : decide ((i : Int) < (l.length : Int)) = true := decide_eq_true (by omega)
  have c2 : IntKind.wrap .i64 ((i : Int) + 1) = ((i + 1 : Nat) : Int) := by rw [wrap64 (by omega) (by omega)]; omega
  have hc := clone_ok (N := 200000) l[i].2 (by have := hs _ (List.getElem_mem hlt); omega)
  have hr : roomB ((l.take i).length + ([(l[i].1, l[i].2)] : List Op).length) 32 = true := roomB_of (by have := big_len; simp; omega) (by simp; omega)
  have ih' := ih M (i + 1) (by omega) (by omega)
  rw [take_snoc l i hlt] at ih'
  have key : ∀ X, nNA_L3 200000 X l (l.length : Int) (i : Int) (l.take i) = X ((l, ((l.length : Int), (((i + 1 : Nat) : Int), ()))), (l.take i ++ [l[i]], ())) := fun X => by
   simp only [nNA_L3, c1, c2, cond_true, getI_lt l i hlt, Option.bind_some, hc, hr]
  exact (key _).trans ih'
theorem acked_is (n : Nt) (hl : n.2.2.2.2.2.1.length ≤ 1000) (hs : ∀ o ∈ n.2.2.2.2.2.1, o.2.length ≤ 1000) : nNA 200000 n = some n.2.2.2.2.2.1 := by
 have h := acked_loop n.2.2.2.2.2.1 hl hs n.2.2.2.2.2.1.length 200000 0 (by omega) (by omega)
 unfold nNA
 exact (congrArg (fun o => Option.bind o _) (show nNA_L3_R 200000 ((n.2.2.2.2.2.1, ((n.2.2.2.2.2.1.length : Int), ((0 : Int), ()))), ([], ())) = _ from h)).trans rfl
theorem theirs_is (n : Nt) (hn : IN n) : iET 200000 n = some (thS n.2.2.2.2.2.1) ∧ r2T 200000 n.2.2.2.2.2.1 = some (thS n.2.2.2.2.2.1) := by
 have ha := acked_is n (by have := hn.al; omega) (fun o ho => by have := hn.asm o ho; omega)
 obtain ⟨h1, h2⟩ := th_loop n.2.2.2.2.2.1 hn.aw (by have := hn.al; omega) n.2.2.2.2.2.1.length 200000 0 (by omega) (by have := hn.al; omega)
 rw [List.drop_zero] at h1 h2
 unfold iET r2T thS
 constructor
 ·refine (congrArg (fun o => Option.bind o _) ha).trans ?_
  rw [Option.bind_some]
  refine (congrArg (fun o => Option.bind o _) (show iET_L2_R 200000 ((n.2.2.2.2.2.1, ((n.2.2.2.2.2.1.length : Int), ((0 : Int), ()))), ()) = _ from h1)).trans ?_
  cases (n.2.2.2.2.2.1).find? thP <;> rfl
 ·refine (congrArg (fun o => Option.bind o _) (show r2T_L2_R 200000 ((n.2.2.2.2.2.1, ((0 : Int), ())), ()) = _ from h2)).trans ?_
  cases (n.2.2.2.2.2.1).find? thP <;> rfl
theorem wfB_side (s : Sd) (h : wfS s) : wfB (.pair .bool (.pair (.int .u32) (.pair (.int .u32) (.pair (.int .u32) .bool)))) s = true := by
 simp only [wfB, wfu32 h.1, wfu32 h.2.1, wfu32 h.2.2, Bool.and_self]
theorem decT_true {d : Td} {a b : T d} (h : a = b) : (@Decidable.decide (a = b) (decT d a b)) = true := @decide_eq_true _ (decT d a b) h
def pkt (n : Nt) (s : S7) : Ct := if s.2.2.2.1 then (conC 2 n.2.2.2.1 n.2.2.2.2.1).1 else if s.2.2.1 then (s.2.2.2.2.1, n.2.2.2.1, s.2.2.2.2.2.2) else s.2.2.2.2
def rndS (n : Nt) (s : S7) : Nt × List Ct × Ft := if Int.tmod s.1 4 = 0 then doS n s.2.1 else if Int.tmod s.1 4 = 1 then tickS n else takeS n (pkt n s)
theorem fold_id (acts : List Int) (came ans : Ct) : ∀ (l : List Int) (x : Nt × Ft × List Ct), (0 ≤ x.1.2.2.2.1 ∧ x.1.2.2.2.1 < 256) → 0 ≤ (l.foldl (stepA acts came ans) x).1.2.2.2.1 ∧ (l.foldl (stepA acts came ans) x).1.2.2.2.1 < 256
 | [], x, h => h
 | a :: l, x, h => by
  rw [List.foldl_cons]
  refine fold_id acts came ans l _ ?_
  unfold stepA
  by_cases h1 : a = 1
  ·rw [if_pos h1]; exact h
  rw [if_neg h1]
  by_cases h2 : a = 2
  ·rw [if_pos h2]; exact h
  rw [if_neg h2]
  by_cases h3 : a = 3
  ·rw [if_pos h3]; exact h
  rw [if_neg h3]
  by_cases h4 : a = 4
  ·rw [if_pos h4]; exact h
  rw [if_neg h4]
  by_cases h5 : a = 5
  ·rw [if_pos h5]; exact h
  rw [if_neg h5]
  by_cases h6 : a = 6
  ·rw [if_pos h6]; exact h
  rw [if_neg h6]
  by_cases h7 : a = 7
  ·rw [if_pos h7]; exact idS_r _
  rw [if_neg h7]
  by_cases h10 : a = 10
  ·rw [if_pos h10]; exact idS_r _
  rw [if_neg h10]
  by_cases h12 : a = 12
  ·rw [if_pos h12]; exact idS_r _
  rw [if_neg h12]
  by_cases h89 : a = 8 ∨ a = 9
  ·rw [if_pos h89]; exact h
  rw [if_neg h89]
  by_cases h11 : a = 11
  ·rw [if_pos h11]; exact h
  rw [if_neg h11]
  exact h
theorem doneS_id (n : Nt) (e : Nat) (came ans : Ct) (h : 0 ≤ n.2.2.2.1 ∧ n.2.2.2.1 < 256) : 0 ≤ (doneS n e came ans).1.2.2.2.1 ∧ (doneS n e came ans).1.2.2.2.1 < 256 := by
 unfold doneS
 split
 ·exact h
 ·have q := fold_id (nextS n.2.1.toNat e).2.1 came ans (nextS n.2.1.toNat e).2.1 ((n.1, (nextS n.2.1.toNat e).1, n.2.2), (false, false, false, false), []) h
  generalize List.foldl (stepA (nextS n.2.1.toNat e).2.1 came ans) ((n.1, (nextS n.2.1.toNat e).1, n.2.2), (false, false, false, false), []) (nextS n.2.1.toNat e).2.1 = y at *
  obtain ⟨m, f, pk⟩ := y
  dsimp only
  split
  ·exact q
  ·exact q
def IdN (n : Nt) : Prop := 0 ≤ n.2.2.2.1 ∧ n.2.2.2.1 < 256
theorem IdN.do {n : Nt} (h : IdN n) (e : Int) : IdN (doS n e).1 := by
 unfold doS
 split
 ·exact doneS_id _ _ _ _ h
 ·exact h
theorem IdN.tick {n : Nt} (h : IdN n) : IdN (tickS n).1 := by
 unfold tickS
 split
 ·split
  ·exact doneS_id (sTim n _) _ _ _ h
  ·exact doneS_id (sTim n _) _ _ _ h
 ·exact h
theorem IdN.take {n : Nt} (h : IdN n) (c : Ct) : IdN (takeS n c).1 := by
 unfold takeS
 split
 ·unfold judgeS
  split
  ·exact h
  ·split
   ·exact doneS_id (sAck n _) _ _ _ h
   ·split
    ·split
     ·exact doneS_id (sNak n _) _ _ _ h
     ·exact doneS_id (sNak n _) _ _ _ h
    ·exact doneS_id n _ _ _ h
 ·split
  ·unfold agreeS
   split
   ·exact h
   ·exact doneS_id (sNak n 0) _ _ _ h
  ·split
   ·unfold refuseS
    split
    ·exact h
    ·exact doneS_id (sRul n _) _ _ _ h
   ·exact doneS_id n _ _ _ h
theorem pkt_ok (n : Nt) (hn : IN n) (hi : IdN n) (s : S7) (hc : wfC s.2.2.2.2) (hb : s.2.2.2.2.2.2.length ≤ 1000) : wfC (pkt n s) ∧ (pkt n s).2.2.length ≤ 1000 := by
 unfold pkt
 split
 ·rw [con_msg hn.f 2 rfl]
  exact ⟨⟨by show (0 : Int) ≤ 2 ∧ (2 : Int) < 256; omega, hi, encs_all hn.f.small hn.f.1⟩, msg_len hn.f 2 n.2.2.2.1⟩
 ·split
  ·exact ⟨⟨hc.1, hi, hc.2.2⟩, hb⟩
  ·exact ⟨hc, hb⟩
theorem eDo (n : Nt) (e : Int) (h : IN n) : ipcp_End_Do 200000 n e = some (doS n e) := by
 unfold ipcp_End_Do
 exact (congrArg (fun o => Option.bind o _) (do_is n e h.w)).trans rfl
theorem eTick (n : Nt) (h : IN n) : ipcp_End_Tick 200000 n = some (tickS n) := by
 unfold ipcp_End_Tick
 exact (congrArg (fun o => Option.bind o _) (tick_is n h.w)).trans rfl
theorem eTake (n : Nt) (c : Ct) (h : IN n) (hw : AllB c.2.2) (hl : c.2.2.length ≤ 5000) : ipcp_End_Take 200000 n c = some (takeS n c) := by
 unfold ipcp_End_Take
 exact (congrArg (fun o => Option.bind o _) (take_is n c h.w hw hl)).trans rfl
set_option maxHeartbeats 4000000 in
theorem round_is (l : List S7) (i : Nat) (hlt : i < l.length) (hL : l.length ≤ 1000) (n : Nt) (hn : IN n) (hi : IdN n) (hc : wfC l[i].2.2.2.2) (hb : l[i].2.2.2.2.2.2.length ≤ 1000) :
  (∀ X, lIP3 200000 X l (l.length : Int) (i : Int) n (toG n) = X ((l, ((l.length : Int), (((i + 1 : Nat) : Int), ()))), ((rndS n l[i]).1, (toG (rndS n l[i]).1, ())))) ∧ IN (rndS n l[i]).1 ∧ IdN (rndS n l[i]).1 := by
 have c1 : decide ((i : Int) < (l.length : Int)) = true := decide_eq_true (by omega)
 have c2 : IntKind.wrap .i64 ((i : Int) + 1) = ((i + 1 : Nat) : Int) := by rw [wrap64 (by omega) (by omega)]; omega
 have g := getI_lt l i hlt
 have cb : decide ((1000 : Int) < (l[i].2.2.2.2.2.2.length : Int)) = false := decide_eq_false (by omega)
 generalize l[i] = s at *
 obtain ⟨p1, p2⟩ := pkt_ok n hn hi s hc hb
 have hcon := crcon_ok (N := 200000) 2 n.2.2.2.1 n.2.2.2.2.1 (by have := hn.f.2.1; omega) (by omega)
 have tail : ∀ y : Nt × List Ct × Ft, IN y.1 → y.2.1.length ≤ 2 → PB y → law32_same 200000 y.2 y.2 = some true ∧ iET 200000 y.1 = some (thS y.1.2.2.2.2.2.1) ∧ r2T 200000 y.1.2.2.2.2.2.1 = some (thS y.1.2.2.2.2.2.1) ∧ wfB (.pair .bool (.pair (.int .u32) (.pair (.int .u32) (.pair (.int .u32) .bool)))) y.1.1.2.2.2 = true ∧ (@Decidable.decide (@Eq (Bool × (Int × (Int × (Int × Bool)))) y.1.1.2.2.2 y.1.1.2.2.2) (@decT (.pair .bool (.pair (.int .u32) (.pair (.int .u32) (.pair (.int .u32) .bool)))) y.1.1.2.2.2 y.1.1.2.2.2)) = true :=
  fun y h1 h2 h3 => ⟨same_is y.2 (by omega) h3, (theirs_is y.1 h1).1, (theirs_is y.1 h1).2, wfB_side _ h1.w.r.2, decT_true (d := .pair .bool (.pair (.int .u32) (.pair (.int .u32) (.pair (.int .u32) .bool)))) (a := y.1.1.2.2.2) (b := y.1.1.2.2.2) rfl⟩
 unfold rndS
 by_cases k0 : Int.tmod s.1 4 = 0
 ·rw [if_pos k0]
  have t0 := decide_eq_true k0
  have hd := eDo n s.2.1 hn
  have hr := rdo_is n s.2.1 hn
  have hI := hn.do s.2.1
  have hid := hi.do s.2.1
  obtain ⟨q1, q2, q3, q4, q5⟩ := tail (doS n s.2.1) hI (good_do hn.w s.2.1).len (doS_B n s.2.1)
  generalize doS n s.2.1 = y at *
  refine ⟨fun X => ?_, hI, hid⟩
  simp only [mk, toG, Prod.eta] at hr
  cases hla : s.2.2.1 <;> cases how : s.2.2.2.1 <;>
   simp only [lIP3, toG, c1, c2, g, cb, hla, how, hcon, t0, hd, hr, q1, q2, q3, q4, q5, Prod.eta, Option.bind_some, cond_true, cond_false, Bool.not_true, Bool.not_false, beq_self_eq_true, Bool.and_self, decide_true]
 rw [if_neg k0]
 have t0 := decide_eq_false k0
 by_cases k1 : Int.tmod s.1 4 = 1
 ·rw [if_pos k1]
  have t1 := decide_eq_true k1
  have hd := eTick n hn
  have hr := rtick_is n hn
  have hI := hn.tick
  have hid := hi.tick
  obtain ⟨q1, q2, q3, q4, q5⟩ := tail (tickS n) hI (good_tick hn.w).len (tickS_B n)
  generalize tickS n = y at *
  refine ⟨fun X => ?_, hI, hid⟩
  simp only [mk, toG, Prod.eta] at hr
  cases hla : s.2.2.1 <;> cases how : s.2.2.2.1 <;>
   simp only [lIP3, toG, c1, c2, g, cb, hla, how, hcon, t0, t1, hd, hr, q1, q2, q3, q4, q5, Prod.eta, Option.bind_some, cond_true, cond_false, Bool.not_true, Bool.not_false, beq_self_eq_true, Bool.and_self, decide_true]
 ·rw [if_neg k1]
  have t1 := decide_eq_false k1
  have hd := eTake n (pkt n s) hn p1.2.2 (by omega)
  have hr := rtake_is n (pkt n s) hn p1.2.2 p2
  have hI := hn.take (pkt n s) p1.2.2 (by omega)
  have hid := hi.take (pkt n s)
  obtain ⟨q1, q2, q3, q4, q5⟩ := tail (takeS n (pkt n s)) hI (good_take hn.w (pkt n s) p1.2.2 (by omega)).len (takeS_B n hn.w (pkt n s) p1 (by omega))
  generalize takeS n (pkt n s) = y at *
  refine ⟨fun X => ?_, hI, hid⟩
  simp only [mk, toG, Prod.eta] at hr
  cases hla : s.2.2.1 <;> cases how : s.2.2.2.1 <;>
   simp only [pkt, hla, how, if_true, Bool.false_eq_true, if_false] at hd hr <;>
   simp only [lIP3, toG, c1, c2, g, cb, hla, how, hcon, t0, t1, hd, hr, q1, q2, q3, q4, q5, Prod.eta, Option.bind_some, cond_true, cond_false, Bool.not_true, Bool.not_false, beq_self_eq_true, Bool.and_self, decide_true]
theorem far32 (l : List S7) (i : Nat) (hlt : i < l.length) (n : Nt) (m : Gt) (hb : 1000 < l[i].2.2.2.2.2.2.length) (X) : lIP3 200000 X l (l.length : Int) (i : Int) n m = some (.inl ((true, ()), ())) := by
 have c1 : decide ((i : Int) < (l.length : Int)) = true := decide_eq_true (by omega)
 have g := getI_lt l i hlt
 have cb : decide ((1000 : Int) < (l[i].2.2.2.2.2.2.length : Int)) = true := decide_eq_true (by omega)
 simp only [lIP3, c1, g, cb, Option.bind_some, cond_true, alive32]
theorem rounds_ok (l : List S7) (hL : l.length ≤ 1000) (hw : ∀ s ∈ l, wfC s.2.2.2.2) (m : Nat) : ∀ (M i : Nat) (n : Nt), m + i = l.length → m < M → IN n → IdN n → gl (fun X c => lIP3 200000 X c.1.1 c.1.2.1 c.1.2.2.1 c.2.1 c.2.2.1) M ((l, ((l.length : Int), ((i : Int), ()))), (n, (toG n, ()))) = some (.inl ((true, ()), ())) ∨ gl (fun X c => lIP3 200000 X c.1.1 c.1.2.1 c.1.2.2.1 c.2.1 c.2.2.1) M ((l, ((l.length : Int), ((i : Int), ()))), (n, (toG n, ()))) = some (.inr ((), ())) := by
 induction m with
 | zero =>
  intro M i n hm hM hn hi
  obtain ⟨M, rfl⟩ : ∃ k, M = k + 1 := ⟨M - 1, by omega⟩
  have c1 : decide ((i : Int) < (l.length : Int)) = false := decide_eq_false (by omega)
  have key : ∀ X, lIP3 200000 X l (l.length : Int) (i : Int) n (toG n) = some (.inr ((), ())) := fun X => by
   simp only [lIP3, c1, cond_false]
  exact .inr (key _)
 | succ m ih =>
  intro M i n hm hM hn hi
  obtain ⟨M, rfl⟩ : ∃ k, M = k + 1 := ⟨M - 1, by omega⟩
  have hlt : i < l.length := by omega
  by_cases hb : 1000 < l[i].2.2.2.2.2.2.length
  ·exact .inl (far32 l i hlt n (toG n) hb _)
  ·obtain ⟨k1, k2, k3⟩ := round_is l i hlt hL n hn hi (hw _ (List.getElem_mem hlt)) (by omega)
   rcases ih M (i + 1) (rndS n l[i]).1 (by omega) (by omega) k2 k3 with h | h
   ·exact .inl ((k1 _).trans h)
   ·exact .inr ((k1 _).trans h)
theorem take40 {α : Type} (d : List α) : takeI d (minI (d.length : Int) 40) = some (d.take 40) := by
 unfold minI
 split
 ·exact takeI_nat _ (i := 40) rfl (by omega)
 ·rw [takeI_nat d (i := d.length) rfl (by omega), List.take_of_length_le (by omega), List.take_of_length_le (by omega)]
theorem law_IpcpPlays (s : Sd) (l : List S7) (h1 : wfT (.pair .bool (.pair (.int .u32) (.pair (.int .u32) (.pair (.int .u32) .bool)))) s) (h2 : wfT (.sl (.pair (.int .u8) (.pair (.int .i64) (.pair .bool (.pair .bool (.pair (.int .u8) (.pair (.int .u8) (.sl (.int .u8))))))))) l) : law32_IpcpPlays 200000 s l = some true := by
 have hs : wfS s := ⟨wf_u32' h1.2.1, wf_u32' h1.2.2.1, wf_u32' h1.2.2.2.1⟩
 have hw : ∀ s ∈ l.take 40, wfC s.2.2.2.2 := fun s hs => wf_ct (h2.2 s (List.mem_of_mem_take hs)).2.2.2.2
 have ht := take40 l
 have hl : (l.take 40).length ≤ 40 := List.length_take_le _ _
 generalize l.take 40 = k at *
 have hw0 : WN ((true, (0, 0, false), false, s), 0, (0, 0), 0, [], [], 0) := ⟨⟨rfl, hs⟩, by show (0 : Int) ≤ 0; omega, by show (0 : Int) < 10; omega, fun o ho => (by cases ho), by simp, fun o ho => (by cases ho)⟩
 have hn0 : IN ((true, (0, 0, false), false, s), 0, (0, 0), 0, [], [], 0) := ⟨hw0, by show (0 : Int) ≤ 0; omega, by show (0 : Int) ≤ 3; omega, ⟨fun o ho => (by cases ho), by simp, fun o ho => (by cases ho)⟩, fun o ho => (by cases ho), by simp, fun o ho => (by cases ho)⟩
 have hk := rounds_ok k (by omega) hw k.length 200000 0 _ (by omega) (by omega) hn0 ⟨by show (0 : Int) ≤ 0; omega, by show (0 : Int) < 256; omega⟩
 unfold law32_IpcpPlays
 refine (congrArg (fun o => Option.bind o _) ht).trans ?_
 rw [Option.bind_some]
 rcases hk with h | h
 ·exact (congrArg (fun o => Option.bind o _) (show lIP3_R 200000 ((k, ((k.length : Int), ((0 : Int), ()))), (((true, (0, 0, false), false, s), 0, (0, 0), 0, [], [], 0), (toG ((true, (0, 0, false), false, s), 0, (0, 0), 0, [], [], 0), ()))) = _ from h)).trans rfl
 ·refine (congrArg (fun o => Option.bind o _) (show lIP3_R 200000 ((k, ((k.length : Int), ((0 : Int), ()))), (((true, (0, 0, false), false, s), 0, (0, 0), 0, [], [], 0), (toG ((true, (0, 0, false), false, s), 0, (0, 0), 0, [], [], 0), ()))) = _ from h)).trans ?_
  simp only [Option.bind_some, Sum.elim_inr, alive32]
end Go.Proofs.YtjomcoignnlghaaGreat
