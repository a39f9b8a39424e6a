/-
  Layer 25, on plain data: options, as layer 21 has them.
-/
import Derived.Test.YtjfmcfilenbmbaaQOcts
import Derived.Test.YtjfmcfilenbmbaaGLcpo
namespace Go.Proofs.Ytjfmcfilenbmbaa
set_option maxRecDepth 100000
open Go.RowKit
set_option linter.unusedVariables false
set_option linter.unusedSimpArgs false
set_option maxRecDepth 100000

abbrev Op := Int × List Int
def wfO (l : List Op) : Prop := ∀ o ∈ l, (0 ≤ o.1 ∧ o.1 < 256) ∧ AllB o.2
theorem alive25 : law25_alive 200000 = some true := by decide +kernel
section
variable {N : Nat}
theorem take_snoc {α : Type} (l : List α) (i : Nat) (h : i < l.length) : l.take (i + 1) = l.take i ++ [l[i]] := by rw [List.take_add_one, List.getElem?_eq_getElem h]; rfl
theorem theirs_ok (l : List Op) (hl : l.length ≤ 1000) (hN : 10000 ≤ N) : law25_theirs N l = some l := by
  have h := gl_run (G := fun (X : (((List ((Int) × (List (Int)))) × ((Int) × ((Int) × Unit))) × ((List ((Int) × (List (Int)))) × Unit)) → Option ((Unit × ((List ((Int) × (List (Int)))) × Unit)))) c => law25_theirs_L3 N X c.1.1 c.1.2.1 c.1.2.2.1 c.2.1)
    (fun i => ((l, ((l.length : Int), ((i : Int), ()))), (l.take i, ()))) l.length ((), (l, ())) (fun X i hi => by
    have c1 : ((i : Int) < (l.length : Int)) := by omega
    have c2 : Go.IntKind.wrap .i64 ((i : Int) + 1) = ((i + 1 : Nat) : Int) := by rw [wrap64 (by omega) (by omega)]; omega
    have c3 : roomB ((l.take i).length + ([(l[i].1, l[i].2)] : List Op).length) 32 = true := roomB_of (by have := big_len; simp; omega) (by simp; omega)
    simp only [law25_theirs_L3, c1, decide_true, cond_true, getI_lt l i hi, Option.bind_some, c3, c2, take_snoc l i hi]) (fun X => by
    simp [law25_theirs_L3]) N 0 (by omega) (by omega)
  unfold law25_theirs law25_theirs_L3_R
  simp only [Int.natCast_zero, List.take_zero] at h
  rw [h]
  rfl
theorem far_ok (l : List Op) (hN : 10000 ≤ N) : ∃ b, law25_far N l = some b ∧ (b = false → l.length ≤ 40 ∧ ∀ o ∈ l, o.2.length ≤ 300) := by
  have hm : takeI l (minI (l.length : Int) 40) = some (l.take 40) := by
    unfold minI
    split
    · exact takeI_nat l (i := 40) rfl (by omega)
    · rw [takeI_nat l (i := l.length) rfl (by omega), List.take_of_length_le (by omega), List.take_of_length_le (by omega)]
  have hml : (l.take 40).length ≤ 40 := by rw [List.length_take]; omega
  generalize hmm : l.take 40 = m at hm hml
  obtain ⟨o, h1, h2⟩ := gl_inv (G := fun (X : (((List ((Int) × (List (Int)))) × ((List ((Int) × (List (Int)))) × ((Int) × ((Int) × Unit)))) × Unit) → Option (((((Bool) × Unit) × Unit) ⊕ (((List ((Int) × (List (Int)))) × Unit) × Unit)))) c => law25_far_L2 N X c.1.1 c.1.2.1 c.1.2.2.1 c.1.2.2.2.1)
    (fun n c => ∃ i : Nat, c = ((l, (m, ((m.length : Int), ((i : Int), ())))), ()) ∧ i ≤ m.length ∧ n = m.length - i ∧ ∀ o ∈ m.take i, o.2.length ≤ 300) (fun o => o = .inl ((true, ()), ()) ∨ (o = .inr ((l, ()), ()) ∧ ∀ o ∈ m, o.2.length ≤ 300)) (fun X n c ⟨i, hc, hi, hn, ht⟩ => by
      subst hc
      rcases Nat.lt_or_ge i m.length with hlt | hge
      · have c1 : ((i : Int) < (m.length : Int)) := by omega
        have c2 : Go.IntKind.wrap .i64 ((i : Int) + 1) = ((i + 1 : Nat) : Int) := by rw [wrap64 (by omega) (by omega)]; omega
        by_cases he : (300 : Int) < (m[i].2.length : Int)
        · left
          exact ⟨_, by simp only [law25_far_L2, c1, decide_true, cond_true, getI_lt m i hlt, Option.bind_some, he], .inl rfl⟩
        · right
          refine ⟨m.length - (i + 1), ((l, (m, ((m.length : Int), (((i + 1 : Nat) : Int), ())))), ()), by omega, ⟨i + 1, rfl, hlt, rfl, ?_⟩, ?_⟩
          · intro o ho
            rw [take_snoc m i hlt] at ho
            rcases List.mem_append.1 ho with ho | ho
            · exact ht o ho
            · simp at ho; subst ho; omega
          · simp only [law25_far_L2, c1, decide_true, cond_true, getI_lt m i hlt, Option.bind_some, he, decide_false, cond_false, c2]
      · left
        have c1 : ¬ ((i : Int) < (m.length : Int)) := by omega
        refine ⟨_, by simp only [law25_far_L2, c1, decide_false, cond_false], .inr ⟨rfl, ?_⟩⟩
        rw [List.take_of_length_le (by omega)] at ht
        exact ht) N m.length ((l, (m, ((m.length : Int), ((0 : Int), ())))), ()) (by omega) ⟨0, rfl, by omega, by omega, by simp⟩
  unfold law25_far law25_far_L2_R
  rw [hm]
  simp only [Option.bind_some]
  rw [h1]
  rcases h2 with rfl | ⟨rfl, h2⟩
  · exact ⟨true, rfl, fun h => by cases h⟩
  · refine ⟨decide ((40 : Int) < (l.length : Int)), rfl, fun h => ?_⟩
    have hl : l.length ≤ 40 := by have := of_decide_eq_false h; omega
    refine ⟨hl, ?_⟩
    rw [List.take_of_length_le hl] at hmm
    rw [hmm]
    exact h2
theorem clone_ok (s : List Int) (h : s.length ≤ 1000000) : slices_Clone_byte_byte N s = some s := by
  unfold slices_Clone_byte_byte slices_Clone_byte_byte_ne
  cases s with
  | nil => rfl
  | cons x s =>
    have : roomB (x :: s).length 1 = true := roomB_of (by have := big_len; omega) (by omega)
    simp only [List.isEmpty_cons, cond_false, this, cond_true]
theorem equal_ok (x y : Op) (h1 : AllB x.2) (h2 : AllB y.2) : opts_equal N x y = some (decide (x = y)) := by
  unfold opts_equal bytes_Equal
  rw [toBy_map h1, toBy_map h2]
  simp only [Option.bind_some, bytes_dec h1 h2]
  obtain ⟨x1, x2⟩ := x
  obtain ⟨y1, y2⟩ := y
  by_cases e1 : x1 = y1 <;> by_cases e2 : x2 = y2 <;> simp [e1, e2]
theorem osame_ok (a b : List Op) (ha : wfO a) (hb : wfO b) (hl : a.length < 1000) (hN : 10000 ≤ N) : opts_Same N a b = some (decide (a = b)) := by
  unfold opts_Same
  by_cases hl' : a.length = b.length
  · have c0 : ((a.length : Int) = (b.length : Int)) := by omega
    simp only [c0, decide_true, Bool.not_true, cond_false]
    obtain ⟨o, h1, h2⟩ := gl_inv (G := fun (X : (((List Op) × ((List Op) × ((Int) × ((Int) × Unit)))) × Unit) → Option (((((Bool) × Unit) × Unit) ⊕ (Unit × Unit)))) c => opts_Same_1_slices_EqualFunc_api_Option_api_Option_api_Option_api_Option_L4 N X c.1.1 c.1.2.1 c.1.2.2.1 c.1.2.2.2.1)
      (fun n c => ∃ i : Nat, c = ((b, (a, ((b.length : Int), ((i : Int), ())))), ()) ∧ i ≤ a.length ∧ n = a.length - i ∧ a.take i = b.take i) (fun o => o = if a = b then .inr ((), ()) else .inl ((false, ()), ())) (fun X n c ⟨i, hc, hi, hn, ht⟩ => by
      subst hc
      rcases Nat.lt_or_ge i a.length with hlt | hge
      · have c1 : ((i : Int) < (b.length : Int)) := by omega
        have c2 : Go.IntKind.wrap .i64 ((i : Int) + 1) = ((i + 1 : Nat) : Int) := by rw [wrap64 (by omega) (by omega)]; omega
        have eq : opts_equal N (a[i].1, a[i].2) ((b[i]'(by omega)).1, (b[i]'(by omega)).2) = some (decide (a[i] = b[i]'(by omega))) := equal_ok (N := N) a[i] (b[i]'(by omega)) (ha _ (List.getElem_mem hlt)).2 (hb _ (List.getElem_mem _)).2
        by_cases he : a[i] = b[i]'(by omega)
        · right
          refine ⟨a.length - (i + 1), ((b, (a, ((b.length : Int), (((i + 1 : Nat) : Int), ())))), ()), by omega, ⟨i + 1, rfl, hlt, rfl, ?_⟩, ?_⟩
          · rw [List.take_add_one, List.take_add_one, ht, List.getElem?_eq_getElem hlt, List.getElem?_eq_getElem (by omega), he]
          · simp only [opts_Same_1_slices_EqualFunc_api_Option_api_Option_api_Option_api_Option_L4, c1, decide_true, cond_true, getI_lt a i hlt, getI_lt b i (by omega), Option.bind_some, eq]
            simp only [he, decide_true, Bool.not_true, cond_false, c2]
        · left
          refine ⟨.inl ((false, ()), ()), ?_, ?_⟩
          · simp only [opts_Same_1_slices_EqualFunc_api_Option_api_Option_api_Option_api_Option_L4, c1, decide_true, cond_true, getI_lt a i hlt, getI_lt b i (by omega), Option.bind_some, eq]
            simp only [he, decide_false, Bool.not_false, cond_true]
          · rw [if_neg (fun h => he (by simp [h]))]
      · left
        have c1 : ¬ ((i : Int) < (b.length : Int)) := by omega
        refine ⟨.inr ((), ()), by simp only [opts_Same_1_slices_EqualFunc_api_Option_api_Option_api_Option_api_Option_L4, c1, decide_false, cond_false], ?_⟩
        rw [List.take_of_length_le (by omega), List.take_of_length_le (by omega)] at ht
        rw [if_pos ht]) N a.length ((b, (a, ((b.length : Int), ((0 : Int), ())))), ()) (by omega) ⟨0, rfl, by omega, by omega, by simp⟩
    unfold opts_Same_1_slices_EqualFunc_api_Option_api_Option_api_Option_api_Option_L4_R
    rw [h1, h2]
    by_cases he : a = b <;> simp [he]
  · have c0 : ¬ ((a.length : Int) = (b.length : Int)) := by omega
    have c1 : ¬ (a = b) := fun h' => hl' (by rw [h'])
    simp only [c0, c1, decide_false, Bool.not_false, cond_true]
theorem same21 (a b : List Int) (h : a.length ≤ 50000) (hN : 100000 < N) : ref01_Same N a b = some (decide (a = b)) := sameF_ok (by omega) (by omega)
def findS (l : List Op) (k : Int) : Op × Bool := match l.find? (fun o => decide (o.1 = k)) with
  | some o => (o, true)
  | none => ((0, []), false)
theorem find_step {l : List Op} {k : Int} {i : Nat} (hi : i < l.length) : (l.drop i).find? (fun o => decide (o.1 = k)) = if l[i].1 = k then some l[i] else (l.drop (i + 1)).find? (fun o => decide (o.1 = k)) := by
  rw [List.drop_eq_getElem_cons hi, List.find?_cons]
  by_cases h : l[i].1 = k <;> simp [h]
theorem find_ok (l : List Op) (k : Int) (hl : l.length ≤ 1000) (hs : ∀ o ∈ l, o.2.length ≤ 1000) (hN : 10000 ≤ N) : opts_Find N l k = some (findS l k) := by
  obtain ⟨o, h1, h2⟩ := gl_inv (G := fun (X : ((List Op × Int × Int × Unit) × Int × Op × Unit) → Option (((Int × Unit) × Int × Op × Unit) ⊕ (Unit × Int × Op × Unit))) c => opts_Find_1_slices_IndexFunc_api_Option_api_Option_L2 N X c.1.1 c.1.2.1 c.1.2.2.1 c.2.1 c.2.2.1)
    (fun n c => ∃ i : Nat, c = ((l, ((l.length : Int), ((i : Int), ()))), (k, (((0 : Int), ([] : List Int)), ()))) ∧ i ≤ l.length ∧ n = l.length - i ∧ (l.drop i).find? (fun o => decide (o.1 = k)) = l.find? (fun o => decide (o.1 = k)))
    (fun o => (∃ (i : Nat) (hi : i < l.length), o = .inl (((i : Int), ()), (k, (((0 : Int), ([] : List Int)), ()))) ∧ l.find? (fun o => decide (o.1 = k)) = some l[i]) ∨ (o = .inr ((), (k, (((0 : Int), ([] : List Int)), ()))) ∧ l.find? (fun o => decide (o.1 = k)) = none)) (fun X n c ⟨i, hc, hi, hn, ht⟩ => by
      subst hc
      rcases Nat.lt_or_ge i l.length with hlt | hge
      · have c1 : ((i : Int) < (l.length : Int)) := by omega
        have c2 : Go.IntKind.wrap .i64 ((i : Int) + 1) = ((i + 1 : Nat) : Int) := by rw [wrap64 (by omega) (by omega)]; omega
        rw [find_step hlt] at ht
        by_cases he : l[i].1 = k
        · left
          refine ⟨.inl (((i : Int), ()), (k, (((0 : Int), ([] : List Int)), ()))), ?_, .inl ⟨i, hlt, rfl, ?_⟩⟩
          · simp only [opts_Find_1_slices_IndexFunc_api_Option_api_Option_L2, c1, decide_true, cond_true, getI_lt l i hlt, Option.bind_some, he]
          · rw [if_pos he] at ht; exact ht.symm
        · right
          refine ⟨l.length - (i + 1), ((l, ((l.length : Int), (((i + 1 : Nat) : Int), ()))), (k, (((0 : Int), ([] : List Int)), ()))), by omega, ⟨i + 1, rfl, hlt, rfl, ?_⟩, ?_⟩
          · rw [if_neg he] at ht; exact ht
          · simp only [opts_Find_1_slices_IndexFunc_api_Option_api_Option_L2, c1, decide_true, cond_true, getI_lt l i hlt, Option.bind_some, he, decide_false, cond_false, c2]
      · left
        have c1 : ¬ ((i : Int) < (l.length : Int)) := by omega
        refine ⟨.inr ((), (k, (((0 : Int), ([] : List Int)), ()))), by simp only [opts_Find_1_slices_IndexFunc_api_Option_api_Option_L2, c1, decide_false, cond_false], .inr ⟨rfl, ?_⟩⟩
        rw [List.drop_of_length_le hge] at ht
        exact ht.symm) N l.length ((l, ((l.length : Int), ((0 : Int), ()))), (k, (((0 : Int), ([] : List Int)), ()))) (by omega) ⟨0, rfl, by omega, by omega, by simp⟩
  unfold opts_Find opts_Find_1_slices_IndexFunc_api_Option_api_Option_L2_R findS
  rw [h1]
  rcases h2 with ⟨i, hi, rfl, h2⟩ | ⟨rfl, h2⟩
  · rw [h2]
    have c1 : ¬ ((i : Int) < 0) := by omega
    have hc : opts_clone N (l[i].1, l[i].2) = some l[i] := by
      unfold opts_clone
      rw [clone_ok _ (by have := hs _ (List.getElem_mem hi); show l[i].2.length ≤ _; omega)]
      rfl
    simp only [Option.bind_some, Sum.elim_inl, c1, decide_false, cond_false, getI_lt l i hi, hc]
  · rw [h2]; rfl
theorem ref_find_ok (l : List Op) (k : Int) (hl : l.length ≤ 1000) (hN : 10000 ≤ N) : ref21_Find N l k = some (findS l k) := by
  obtain ⟨o, h1, h2⟩ := gl_inv (G := fun (X : ((List Op × Int × Int × Unit) × Op × Unit) → Option (((Bool × Unit) × Op × Unit) ⊕ (Unit × Op × Unit))) c => ref21_Find_L2 N X c.1.1 c.1.2.1 c.1.2.2.1 c.2.1)
    (fun n c => ∃ i : Nat, c = ((l, (k, ((i : Int), ()))), (((0 : Int), ([] : List Int)), ())) ∧ i ≤ l.length ∧ n = l.length - i ∧ (l.drop i).find? (fun o => decide (o.1 = k)) = l.find? (fun o => decide (o.1 = k)))
    (fun o => (∃ x, o = .inl ((true, ()), (x, ())) ∧ l.find? (fun o => decide (o.1 = k)) = some x) ∨ (o = .inr ((), (((0 : Int), ([] : List Int)), ())) ∧ l.find? (fun o => decide (o.1 = k)) = none)) (fun X n c ⟨i, hc, hi, hn, ht⟩ => by
      subst hc
      rcases Nat.lt_or_ge i l.length with hlt | hge
      · have c1 : ((i : Int) < (l.length : Int)) := by omega
        have c2 : Go.IntKind.wrap .i64 ((i : Int) + 1) = ((i + 1 : Nat) : Int) := by rw [wrap64 (by omega) (by omega)]; omega
        rw [find_step hlt] at ht
        by_cases he : l[i].1 = k
        · left
          refine ⟨.inl ((true, ()), (l[i], ())), ?_, .inl ⟨_, rfl, ?_⟩⟩
          · simp only [ref21_Find_L2, c1, decide_true, cond_true, getI_lt l i hlt, Option.bind_some, he]
            rw [← he]
          · rw [if_pos he] at ht; exact ht.symm
        · right
          refine ⟨l.length - (i + 1), ((l, (k, (((i + 1 : Nat) : Int), ()))), (((0 : Int), ([] : List Int)), ())), by omega, ⟨i + 1, rfl, hlt, rfl, ?_⟩, ?_⟩
          · rw [if_neg he] at ht; exact ht
          · simp only [ref21_Find_L2, c1, decide_true, cond_true, getI_lt l i hlt, Option.bind_some, he, decide_false, cond_false, c2]
      · left
        have c1 : ¬ ((i : Int) < (l.length : Int)) := by omega
        refine ⟨.inr ((), (((0 : Int), ([] : List Int)), ())), by simp only [ref21_Find_L2, c1, decide_false, cond_false], .inr ⟨rfl, ?_⟩⟩
        rw [List.drop_of_length_le hge] at ht
        exact ht.symm) N l.length ((l, (k, ((0 : Int), ()))), (((0 : Int), ([] : List Int)), ())) (by omega) ⟨0, rfl, by omega, by omega, by simp⟩
  unfold ref21_Find ref21_Find_L2_R findS
  rw [h1]
  rcases h2 with ⟨x, rfl, h2⟩ | ⟨rfl, h2⟩
  · rw [h2]; rfl
  · rw [h2]; rfl
def amS (l all : List Op) : Bool := decide (l.Sublist all)
theorem amS_nil (all : List Op) : amS [] all = true := decide_eq_true (List.nil_sublist _)
theorem amS_end (x : Op) (l : List Op) : amS (x :: l) [] = false := decide_eq_false (fun h => by cases h)
theorem amS_eq (x : Op) (l all : List Op) : amS (x :: l) (x :: all) = amS l all := by
  unfold amS
  by_cases h : l.Sublist all
  · rw [decide_eq_true h, decide_eq_true (h.cons_cons x)]
  · rw [decide_eq_false h, decide_eq_false (fun h' => h (List.cons_sublist_cons.1 h'))]
theorem amS_ne {x y : Op} (h : y ≠ x) (l all : List Op) : amS (x :: l) (y :: all) = amS (x :: l) all := by
  unfold amS
  by_cases h1 : (x :: l).Sublist all
  · rw [decide_eq_true h1, decide_eq_true (h1.cons y)]
  · rw [decide_eq_false h1, decide_eq_false (fun h' => by
      cases h' with
      | cons _ h2 => exact h1 h2
      | cons_cons _ h2 => exact h rfl)]
theorem idx_ok (all : List Op) (o : Op) (hw : wfO all) (ho : AllB o.2) (hl : all.length ≤ 1000) (hN : 10000 ≤ N) : ∃ r, opts_Among_4_slices_IndexFunc_api_Option_api_Option_L2_R N ((all, ((all.length : Int), ((0 : Int), ()))), (o, ())) = some r ∧ ((∃ (j : Nat), j < all.length ∧ r = .inl (((j : Int), ()), (o, ())) ∧ ∀ l, amS (o :: l) all = amS l (all.drop (j + 1))) ∨ (r = .inr ((), (o, ())) ∧ ∀ l, amS (o :: l) all = false)) := by
  refine gl_inv (G := fun (X : ((List Op × Int × Int × Unit) × Op × Unit) → Option (((Int × Unit) × Op × Unit) ⊕ (Unit × Op × Unit))) c => opts_Among_4_slices_IndexFunc_api_Option_api_Option_L2 N X c.1.1 c.1.2.1 c.1.2.2.1 c.2.1)
    (fun n c => ∃ i : Nat, c = ((all, ((all.length : Int), ((i : Int), ()))), (o, ())) ∧ i ≤ all.length ∧ n = all.length - i ∧ ∀ l, amS (o :: l) all = amS (o :: l) (all.drop i)) _ (fun X n c ⟨i, hc, hi, hn, ht⟩ => ?_) N all.length ((all, ((all.length : Int), ((0 : Int), ()))), (o, ())) (by omega) ⟨0, rfl, by omega, by omega, by simp⟩
  subst hc
  rcases Nat.lt_or_ge i all.length with hlt | hge
  · have c1 : ((i : Int) < (all.length : Int)) := by omega
    have c2 : Go.IntKind.wrap .i64 ((i : Int) + 1) = ((i + 1 : Nat) : Int) := by rw [wrap64 (by omega) (by omega)]; omega
    have eq : opts_equal N (all[i].1, all[i].2) (o.1, o.2) = some (decide (all[i] = o)) := equal_ok (N := N) all[i] o (hw _ (List.getElem_mem hlt)).2 ho
    by_cases he : all[i] = o
    · left
      refine ⟨.inl (((i : Int), ()), (o, ())), ?_, .inl ⟨i, hlt, rfl, fun l => ?_⟩⟩
      · simp only [opts_Among_4_slices_IndexFunc_api_Option_api_Option_L2, c1, decide_true, cond_true, getI_lt all i hlt, Option.bind_some, eq]
        simp only [he, decide_true, cond_true]
      · rw [ht, List.drop_eq_getElem_cons hlt, he, amS_eq]
    · right
      refine ⟨all.length - (i + 1), ((all, ((all.length : Int), (((i + 1 : Nat) : Int), ()))), (o, ())), by omega, ⟨i + 1, rfl, hlt, rfl, fun l => ?_⟩, ?_⟩
      · rw [ht, List.drop_eq_getElem_cons hlt, amS_ne he]
      · simp only [opts_Among_4_slices_IndexFunc_api_Option_api_Option_L2, c1, decide_true, cond_true, getI_lt all i hlt, Option.bind_some, eq]
        simp only [he, decide_false, cond_false, c2]
  · left
    have c1 : ¬ ((i : Int) < (all.length : Int)) := by omega
    refine ⟨.inr ((), (o, ())), by simp only [opts_Among_4_slices_IndexFunc_api_Option_api_Option_L2, c1, decide_false, cond_false], .inr ⟨rfl, fun l => ?_⟩⟩
    rw [ht, List.drop_of_length_le hge, amS_end]
theorem among_ok (l all : List Op) (hw : wfO l) (hwa : wfO all) (hl : l.length ≤ 1000) (hla : all.length ≤ 1000) (hN : 10000 ≤ N) : opts_Among N l all = some (amS l all) := by
  have key : ∀ (k i : Nat) (all : List Op), l.length - i < k → i ≤ l.length → all.length ≤ 1000 → wfO all → gl (fun (X : ((List Op × List Op × Int × Int × Unit) × Unit) → Option (((Bool × Unit) × Unit) ⊕ (Unit × Unit))) c => opts_Among_L2 N X c.1.1 c.1.2.1 c.1.2.2.1 c.1.2.2.2.1) k ((all, (l, ((l.length : Int), ((i : Int), ())))), ()) = some (if amS (l.drop i) all = true then .inr ((), ()) else .inl ((false, ()), ())) := by
    intro k
    induction k with
    | zero => intro i all h; omega
    | succ k ih =>
      intro i all h hi ha hwa
      rw [gl_succ]
      rcases Nat.lt_or_ge i l.length with hlt | hge
      · have c1 : ((i : Int) < (l.length : Int)) := by omega
        have c2 : Go.IntKind.wrap .i64 ((i : Int) + 1) = ((i + 1 : Nat) : Int) := by rw [wrap64 (by omega) (by omega)]; omega
        obtain ⟨r, h1, h2⟩ := idx_ok (N := N) all l[i] hwa (hw _ (List.getElem_mem hlt)).2 ha hN
        have h1' : opts_Among_4_slices_IndexFunc_api_Option_api_Option_L2_R N ((all, ((all.length : Int), ((0 : Int), ()))), ((l[i].1, l[i].2), ())) = some r := h1
        rw [List.drop_eq_getElem_cons hlt]
        rcases h2 with ⟨j, hj, rfl, h2⟩ | ⟨rfl, h2⟩
        · have c3 : ¬ ((j : Int) < 0) := by omega
          have c4 : Go.IntKind.wrap .i64 ((j : Int) + 1) = ((j + 1 : Nat) : Int) := by rw [wrap64 (by omega) (by omega)]; omega
          rw [h2]
          simp only [opts_Among_L2, c1, decide_true, cond_true, getI_lt l i hlt, Option.bind_some, h1', Sum.elim_inl, c3, decide_false, cond_false, c4, dropI_nat all (a := ((j + 1 : Nat) : Int)) (i := j + 1) rfl hj, c2]
          exact ih (i + 1) (all.drop (j + 1)) (by omega) hlt (by rw [List.length_drop]; omega) (fun o ho => hwa o (List.mem_of_mem_drop ho))
        · rw [h2]
          simp only [opts_Among_L2, c1, decide_true, cond_true, getI_lt l i hlt, Option.bind_some, h1', Sum.elim_inr]
          rfl
      · have c1 : ¬ ((i : Int) < (l.length : Int)) := by omega
        rw [List.drop_of_length_le hge, amS_nil]
        simp only [opts_Among_L2, c1, decide_false, cond_false, if_true]
  have h := key N 0 all (by omega) (by omega) hla hwa
  unfold opts_Among opts_Among_L2_R
  rw [show ((0 : Int)) = ((0 : Nat) : Int) from rfl, h, List.drop_zero]
  cases amS l all <;> rfl
end
theorem wf_opts {l : List Op} (h : wfT (.sl (.pair (.int .u8) (.sl (.int .u8)))) l) : wfO l := fun o ho => ⟨wf_u8 (h.2 o ho).1, wf_bytes (h.2 o ho).2⟩
end Go.Proofs.Ytjfmcfilenbmbaa
