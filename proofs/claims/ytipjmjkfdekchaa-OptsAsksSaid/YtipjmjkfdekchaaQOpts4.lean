/-
  Layer 21, on plain data: the law OptsAsks.
-/
import Derived.Test.YtipjmjkfdekchaaQOpts3
namespace Go.Proofs.Ytipjmjkfdekchaa
set_option maxRecDepth 100000
open Go.RowKit
set_option linter.unusedVariables false
set_option linter.unusedSimpArgs false
set_option maxRecDepth 100000

section
variable {N : Nat}
def findS (l : List Op) (k : Int) : Op × Bool := match l.find? (fun o => decide (o.1 = k)) with
  | some o => (o, true)
  | none => ((0, []), false)
theorem find_step {l : List Op} {k : Int} {i : Nat} (hi : i < l.length) : (l.drop i).find? (fun o => decide (o.1 = k)) = if l[i].1 = k then some l[i] else (l.drop (i + 1)).find? (fun o => decide (o.1 = k)) := by
  rw [List.drop_eq_getElem_cons hi, List.find?_cons]
  by_cases h : l[i].1 = k <;> simp [h]
theorem find_ok (l : List Op) (k : Int) (hl : l.length ≤ 1000) (hs : ∀ o ∈ l, o.2.length ≤ 1000) (hN : 10000 ≤ N) : opts_Find N l k = some (findS l k) := by
  obtain ⟨o, h1, h2⟩ := gl_inv (G := fun (X : ((List Op × Int × Int × Unit) × Int × Op × Unit) → Option (((Int × Unit) × Int × Op × Unit) ⊕ (Unit × Int × Op × Unit))) c => opts_Find_1_slices_IndexFunc_api_Option_api_Option_L2 N X c.1.1 c.1.2.1 c.1.2.2.1 c.2.1 c.2.2.1)
    (fun n c => ∃ i : Nat, c = ((l, ((l.length : Int), ((i : Int), ()))), (k, (((0 : Int), ([] : List Int)), ()))) ∧ i ≤ l.length ∧ n = l.length - i ∧ (l.drop i).find? (fun o => decide (o.1 = k)) = l.find? (fun o => decide (o.1 = k)))
    (fun o => (∃ (i : Nat) (hi : i < l.length), o = .inl (((i : Int), ()), (k, (((0 : Int), ([] : List Int)), ()))) ∧ l.find? (fun o => decide (o.1 = k)) = some l[i]) ∨ (o = .inr ((), (k, (((0 : Int), ([] : List Int)), ()))) ∧ l.find? (fun o => decide (o.1 = k)) = none)) (fun X n c ⟨i, hc, hi, hn, ht⟩ => by
      subst hc
      rcases Nat.lt_or_ge i l.length with hlt | hge
      · have c1 : ((i : Int) < (l.length : Int)) := by omega
        have c2 : Go.IntKind.wrap .i64 ((i : Int) + 1) = ((i + 1 : Nat) : Int) := by rw [wrap64 (by omega) (by omega)]; omega
        rw [find_step hlt] at ht
        by_cases he : l[i].1 = k
        · left
          refine ⟨.inl (((i : Int), ()), (k, (((0 : Int), ([] : List Int)), ()))), ?_, .inl ⟨i, hlt, rfl, ?_⟩⟩
          · simp only [opts_Find_1_slices_IndexFunc_api_Option_api_Option_L2, c1, decide_true, cond_true, getI_lt l i hlt, Option.bind_some, he]
          · rw [if_pos he] at ht; exact ht.symm
        · right
          refine ⟨l.length - (i + 1), ((l, ((l.length : Int), (((i + 1 : Nat) : Int), ()))), (k, (((0 : Int), ([] : List Int)), ()))), by omega, ⟨i + 1, rfl, hlt, rfl, ?_⟩, ?_⟩
          · rw [if_neg he] at ht; exact ht
          · simp only [opts_Find_1_slices_IndexFunc_api_Option_api_Option_L2, c1, decide_true, cond_true, getI_lt l i hlt, Option.bind_some, he, decide_false, cond_false, c2]
      · left
        have c1 : ¬ ((i : Int) < (l.length : Int)) := by omega
        refine ⟨.inr ((), (k, (((0 : Int), ([] : List Int)), ()))), by simp only [opts_Find_1_slices_IndexFunc_api_Option_api_Option_L2, c1, decide_false, cond_false], .inr ⟨rfl, ?_⟩⟩
        rw [List.drop_of_length_le hge] at ht
        exact ht.symm) N l.length ((l, ((l.length : Int), ((0 : Int), ()))), (k, (((0 : Int), ([] : List Int)), ()))) (by omega) ⟨0, rfl, by omega, by omega, by simp⟩
  unfold opts_Find opts_Find_1_slices_IndexFunc_api_Option_api_Option_L2_R findS
  rw [h1]
  rcases h2 with ⟨i, hi, rfl, h2⟩ | ⟨rfl, h2⟩
  · rw [h2]
    have c1 : ¬ ((i : Int) < 0) := by omega
    have hc : opts_clone N (l[i].1, l[i].2) = some l[i] := by
      unfold opts_clone
      rw [clone_ok _ (by have := hs _ (List.getElem_mem hi); show l[i].2.length ≤ _; omega)]
      rfl
    simp only [Option.bind_some, Sum.elim_inl, c1, decide_false, cond_false, getI_lt l i hi, hc]
  · rw [h2]; rfl
theorem ref_find_ok (l : List Op) (k : Int) (hl : l.length ≤ 1000) (hN : 10000 ≤ N) : ref21_Find N l k = some (findS l k) := by
  obtain ⟨o, h1, h2⟩ := gl_inv (G := fun (X : ((List Op × Int × Int × Unit) × Op × Unit) → Option (((Bool × Unit) × Op × Unit) ⊕ (Unit × Op × Unit))) c => ref21_Find_L2 N X c.1.1 c.1.2.1 c.1.2.2.1 c.2.1)
    (fun n c => ∃ i : Nat, c = ((l, (k, ((i : Int), ()))), (((0 : Int), ([] : List Int)), ())) ∧ i ≤ l.length ∧ n = l.length - i ∧ (l.drop i).find? (fun o => decide (o.1 = k)) = l.find? (fun o => decide (o.1 = k)))
    (fun o => (∃ x, o = .inl ((true, ()), (x, ())) ∧ l.find? (fun o => decide (o.1 = k)) = some x) ∨ (o = .inr ((), (((0 : Int), ([] : List Int)), ())) ∧ l.find? (fun o => decide (o.1 = k)) = none)) (fun X n c ⟨i, hc, hi, hn, ht⟩ => by
      subst hc
      rcases Nat.lt_or_ge i l.length with hlt | hge
      · have c1 : ((i : Int) < (l.length : Int)) := by omega
        have c2 : Go.IntKind.wrap .i64 ((i : Int) + 1) = ((i + 1 : Nat) : Int) := by rw [wrap64 (by omega) (by omega)]; omega
        rw [find_step hlt] at ht
        by_cases he : l[i].1 = k
        · left
          refine ⟨.inl ((true, ()), (l[i], ())), ?_, .inl ⟨_, rfl, ?_⟩⟩
          · simp only [ref21_Find_L2, c1, decide_true, cond_true, getI_lt l i hlt, Option.bind_some, he]
            rw [← he]
          · rw [if_pos he] at ht; exact ht.symm
        · right
          refine ⟨l.length - (i + 1), ((l, (k, (((i + 1 : Nat) : Int), ()))), (((0 : Int), ([] : List Int)), ())), by omega, ⟨i + 1, rfl, hlt, rfl, ?_⟩, ?_⟩
          · rw [if_neg he] at ht; exact ht
          · simp only [ref21_Find_L2, c1, decide_true, cond_true, getI_lt l i hlt, Option.bind_some, he, decide_false, cond_false, c2]
      · left
        have c1 : ¬ ((i : Int) < (l.length : Int)) := by omega
        refine ⟨.inr ((), (((0 : Int), ([] : List Int)), ())), by simp only [ref21_Find_L2, c1, decide_false, cond_false], .inr ⟨rfl, ?_⟩⟩
        rw [List.drop_of_length_le hge] at ht
        exact ht.symm) N l.length ((l, (k, ((0 : Int), ()))), (((0 : Int), ([] : List Int)), ())) (by omega) ⟨0, rfl, by omega, by omega, by simp⟩
  unfold ref21_Find ref21_Find_L2_R findS
  rw [h1]
  rcases h2 with ⟨x, rfl, h2⟩ | ⟨rfl, h2⟩
  · rw [h2]; rfl
  · rw [h2]; rfl
theorem kinds_ok (l : List Op) (hl : l.length ≤ 1000) (hN : 10000 ≤ N) : opts_Kinds N l = some (l.map (·.1)) := by
  have h := gl_run (G := fun (X : ((List Op × Int × Int × Unit) × List Int × Unit) → Option (Unit × List Int × Unit)) c => opts_Kinds_L3 N X c.1.1 c.1.2.1 c.1.2.2.1 c.2.1)
    (fun i => ((l, ((l.length : Int), ((i : Int), ()))), ((l.take i).map (·.1), ()))) l.length ((), (l.map (·.1), ())) (fun X i hi => by
    have c1 : ((i : Int) < (l.length : Int)) := by omega
    have c2 : Go.IntKind.wrap .i64 ((i : Int) + 1) = ((i + 1 : Nat) : Int) := by rw [wrap64 (by omega) (by omega)]; omega
    have c3 : roomB (((l.take i).map (·.1)).length + ([l[i].1] : List Int).length) 1 = true := roomB_of (by have := big_len; simp; omega) (by simp; omega)
    simp only [opts_Kinds_L3, c1, decide_true, cond_true, getI_lt l i hi, Option.bind_some, c3, c2, take_snoc l i hi, List.map_append, List.map_cons, List.map_nil]) (fun X => by
    simp [opts_Kinds_L3]) N 0 (by omega) (by omega)
  unfold opts_Kinds opts_Kinds_L3_R
  simp only [Int.natCast_zero, List.take_zero, List.map_nil] at h
  rw [h]
  rfl
theorem one_ok (x y : Op) (h : x.2.length < 1000) (hN : 10000 ≤ N) : ref21_one N x y = some (decide (x = y)) := by
  unfold ref21_one
  have hsame : ref01_Same N x.2 y.2 = some (decide (x.2 = y.2)) := sameF_ok (by omega) (by omega)
  rw [hsame]
  obtain ⟨x1, x2⟩ := x
  obtain ⟨y1, y2⟩ := y
  by_cases e1 : x1 = y1 <;> by_cases e2 : x2 = y2 <;> simp [e1, e2]
theorem rsame_ok (a b : List Op) (hs : ∀ o ∈ a, o.2.length < 1000) (hl : a.length < 1000) (hN : 10000 ≤ N) : ref21_Same N a b = some (decide (a = b)) := by
  unfold ref21_Same
  by_cases hl' : a.length = b.length
  · have c0 : ((a.length : Int) = (b.length : Int)) := by omega
    simp only [c0, decide_true, Bool.not_true, cond_false]
    obtain ⟨o, h1, h2⟩ := gl_inv (G := fun (X : ((List Op × List Op × Int × Unit) × Unit) → Option (((Bool × Unit) × Unit) ⊕ (Unit × Unit))) c => ref21_Same_L4 N X c.1.1 c.1.2.1 c.1.2.2.1)
      (fun n c => ∃ i : Nat, c = ((a, (b, ((i : Int), ()))), ()) ∧ i ≤ a.length ∧ n = a.length - i ∧ a.take i = b.take i) (fun o => o = if a = b then .inr ((), ()) else .inl ((false, ()), ())) (fun X n c ⟨i, hc, hi, hn, ht⟩ => by
      subst hc
      rcases Nat.lt_or_ge i a.length with hlt | hge
      · have c1 : ((i : Int) < (a.length : Int)) := by omega
        have c2 : Go.IntKind.wrap .i64 ((i : Int) + 1) = ((i + 1 : Nat) : Int) := by rw [wrap64 (by omega) (by omega)]; omega
        have eq : ref21_one N (a[i].1, a[i].2) ((b[i]'(by omega)).1, (b[i]'(by omega)).2) = some (decide (a[i] = b[i]'(by omega))) := one_ok (N := N) a[i] (b[i]'(by omega)) (hs _ (List.getElem_mem hlt)) hN
        by_cases he : a[i] = b[i]'(by omega)
        · right
          refine ⟨a.length - (i + 1), ((a, (b, (((i + 1 : Nat) : Int), ()))), ()), by omega, ⟨i + 1, rfl, hlt, rfl, ?_⟩, ?_⟩
          · rw [List.take_add_one, List.take_add_one, ht, List.getElem?_eq_getElem hlt, List.getElem?_eq_getElem (by omega), he]
          · simp only [ref21_Same_L4, c1, decide_true, cond_true, getI_lt a i hlt, getI_lt b i (by omega), Option.bind_some, eq]
            simp only [he, decide_true, Bool.not_true, cond_false, c2]
        · left
          refine ⟨.inl ((false, ()), ()), ?_, ?_⟩
          · simp only [ref21_Same_L4, c1, decide_true, cond_true, getI_lt a i hlt, getI_lt b i (by omega), Option.bind_some, eq]
            simp only [he, decide_false, Bool.not_false, cond_true]
          · rw [if_neg (fun h => he (by simp [h]))]
      · left
        have c1 : ¬ ((i : Int) < (a.length : Int)) := by omega
        refine ⟨.inr ((), ()), by simp only [ref21_Same_L4, c1, decide_false, cond_false], ?_⟩
        rw [List.take_of_length_le (by omega), List.take_of_length_le (by omega)] at ht
        rw [if_pos ht]) N a.length ((a, (b, ((0 : Int), ()))), ()) (by omega) ⟨0, rfl, by omega, by omega, by simp⟩
    unfold ref21_Same_L4_R
    rw [h1, h2]
    by_cases he : a = b <;> simp [he]
  · have c0 : ¬ ((a.length : Int) = (b.length : Int)) := by omega
    have c1 : ¬ (a = b) := fun h' => hl' (by rw [h'])
    simp only [c0, c1, decide_false, Bool.not_false, cond_true]
/-! ### Those of other types -/
def others (k : Int) (l : List Op) : List Op := l.filter fun o => !decide (o.1 = k)
theorem others_snoc (k : Int) (l : List Op) (i : Nat) (hi : i < l.length) : others k (l.take (i + 1)) = if l[i].1 = k then others k (l.take i) else others k (l.take i) ++ [l[i]] := by
  unfold others
  rw [take_snoc l i hi, List.filter_append]
  by_cases h : l[i].1 = k <;> simp [h]
theorem others_len (k : Int) (l : List Op) : (others k l).length ≤ l.length := List.length_filter_le _ _
theorem without_ok (l : List Op) (k : Int) (hl : l.length ≤ 1000) (hs : ∀ o ∈ l, o.2.length ≤ 1000) (hN : 10000 ≤ N) : opts_Without N l k = some (others k l) := by
  have h := gl_run (G := fun (X : ((Int × List Op × Int × Int × Unit) × List Op × Unit) → Option (Unit × List Op × Unit)) c => opts_Without_L3 N X c.1.1 c.1.2.1 c.1.2.2.1 c.1.2.2.2.1 c.2.1)
    (fun i => ((k, (l, ((l.length : Int), ((i : Int), ())))), (others k (l.take i), ()))) l.length ((), (others k l, ())) (fun X i hi => by
    have c1 : ((i : Int) < (l.length : Int)) := by omega
    have c2 : Go.IntKind.wrap .i64 ((i : Int) + 1) = ((i + 1 : Nat) : Int) := by rw [wrap64 (by omega) (by omega)]; omega
    have hlen := others_len k (l.take i)
    rw [List.length_take] at hlen
    have c3 : roomB ((others k (l.take i)).length + ([(l[i].1, l[i].2)] : List Op).length) 32 = true := roomB_of (by have := big_len; simp only [List.length_cons, List.length_nil]; omega) (by simp only [List.length_cons, List.length_nil]; omega)
    have hc : opts_clone N (l[i].1, l[i].2) = some l[i] := by
      unfold opts_clone
      rw [clone_ok _ (by have := hs _ (List.getElem_mem hi); show l[i].2.length ≤ _; omega)]
      rfl
    by_cases he : l[i].1 = k
    · simp only [opts_Without_L3, c1, decide_true, cond_true, getI_lt l i hi, Option.bind_some, he, Bool.not_true, cond_false, c2, others_snoc k l i hi, if_true]
    · simp only [opts_Without_L3, c1, decide_true, cond_true, getI_lt l i hi, Option.bind_some, he, decide_false, Bool.not_false, hc, c3, c2, others_snoc k l i hi, if_false]) (fun X => by
    simp [opts_Without_L3]) N 0 (by omega) (by omega)
  unfold opts_Without opts_Without_L3_R
  simp only [Int.natCast_zero, List.take_zero, others, List.filter_nil] at h
  rw [h]
  rfl
theorem ref_without_ok (l : List Op) (k : Int) (hl : l.length ≤ 1000) (hN : 10000 ≤ N) : ref21_Without N l k = some (others k l) := by
  have h := gl_run (G := fun (X : ((List Op × Int × Int × Unit) × List Op × Unit) → Option (Unit × List Op × Unit)) c => ref21_Without_L3 N X c.1.1 c.1.2.1 c.1.2.2.1 c.2.1)
    (fun i => ((l, (k, ((i : Int), ()))), (others k (l.take i), ()))) l.length ((), (others k l, ())) (fun X i hi => by
    have c1 : ((i : Int) < (l.length : Int)) := by omega
    have c2 : Go.IntKind.wrap .i64 ((i : Int) + 1) = ((i + 1 : Nat) : Int) := by rw [wrap64 (by omega) (by omega)]; omega
    have hlen := others_len k (l.take i)
    rw [List.length_take] at hlen
    have c3 : roomB ((others k (l.take i)).length + ([(l[i].1, l[i].2)] : List Op).length) 32 = true := roomB_of (by have := big_len; simp only [List.length_cons, List.length_nil]; omega) (by simp only [List.length_cons, List.length_nil]; omega)
    by_cases he : l[i].1 = k
    · simp only [ref21_Without_L3, c1, decide_true, cond_true, getI_lt l i hi, Option.bind_some, he, Bool.not_true, cond_false, c2, others_snoc k l i hi, if_true]
    · simp only [ref21_Without_L3, c1, decide_true, cond_true, getI_lt l i hi, Option.bind_some, he, decide_false, Bool.not_false, c3, c2, others_snoc k l i hi, if_false]) (fun X => by
    simp [ref21_Without_L3]) N 0 (by omega) (by omega)
  unfold ref21_Without ref21_Without_L3_R
  simp only [Int.natCast_zero, List.take_zero, others, List.filter_nil] at h
  rw [h]
  rfl
/-! ### Among -/
def amS (l all : List Op) : Bool := decide (l.Sublist all)
theorem amS_nil (all : List Op) : amS [] all = true := decide_eq_true (List.nil_sublist _)
theorem amS_end (x : Op) (l : List Op) : amS (x :: l) [] = false := decide_eq_false (fun h => by cases h)
theorem amS_eq (x : Op) (l all : List Op) : amS (x :: l) (x :: all) = amS l all := by
  unfold amS
  by_cases h : l.Sublist all
  · rw [decide_eq_true h, decide_eq_true (h.cons_cons x)]
  · rw [decide_eq_false h, decide_eq_false (fun h' => h (List.cons_sublist_cons.1 h'))]
theorem amS_ne {x y : Op} (h : y ≠ x) (l all : List Op) : amS (x :: l) (y :: all) = amS (x :: l) all := by
  unfold amS
  by_cases h1 : (x :: l).Sublist all
  · rw [decide_eq_true h1, decide_eq_true (h1.cons y)]
  · rw [decide_eq_false h1, decide_eq_false (fun h' => by
      cases h' with
      | cons _ h2 => exact h1 h2
      | cons_cons _ h2 => exact h rfl)]
theorem idx_ok (all : List Op) (o : Op) (hw : wfO all) (ho : AllB o.2) (hl : all.length ≤ 1000) (hN : 10000 ≤ N) : ∃ r, opts_Among_4_slices_IndexFunc_api_Option_api_Option_L2_R N ((all, ((all.length : Int), ((0 : Int), ()))), (o, ())) = some r ∧ ((∃ (j : Nat), j < all.length ∧ r = .inl (((j : Int), ()), (o, ())) ∧ ∀ l, amS (o :: l) all = amS l (all.drop (j + 1))) ∨ (r = .inr ((), (o, ())) ∧ ∀ l, amS (o :: l) all = false)) := by
  refine gl_inv (G := fun (X : ((List Op × Int × Int × Unit) × Op × Unit) → Option (((Int × Unit) × Op × Unit) ⊕ (Unit × Op × Unit))) c => opts_Among_4_slices_IndexFunc_api_Option_api_Option_L2 N X c.1.1 c.1.2.1 c.1.2.2.1 c.2.1)
    (fun n c => ∃ i : Nat, c = ((all, ((all.length : Int), ((i : Int), ()))), (o, ())) ∧ i ≤ all.length ∧ n = all.length - i ∧ ∀ l, amS (o :: l) all = amS (o :: l) (all.drop i)) _ (fun X n c ⟨i, hc, hi, hn, ht⟩ => ?_) N all.length ((all, ((all.length : Int), ((0 : Int), ()))), (o, ())) (by omega) ⟨0, rfl, by omega, by omega, by simp⟩
  subst hc
  rcases Nat.lt_or_ge i all.length with hlt | hge
  · have c1 : ((i : Int) < (all.length : Int)) := by omega
    have c2 : Go.IntKind.wrap .i64 ((i : Int) + 1) = ((i + 1 : Nat) : Int) := by rw [wrap64 (by omega) (by omega)]; omega
    have eq : opts_equal N (all[i].1, all[i].2) (o.1, o.2) = some (decide (all[i] = o)) := equal_ok (N := N) all[i] o (hw _ (List.getElem_mem hlt)).2 ho
    by_cases he : all[i] = o
    · left
      refine ⟨.inl (((i : Int), ()), (o, ())), ?_, .inl ⟨i, hlt, rfl, fun l => ?_⟩⟩
      · simp only [opts_Among_4_slices_IndexFunc_api_Option_api_Option_L2, c1, decide_true, cond_true, getI_lt all i hlt, Option.bind_some, eq]
        simp only [he, decide_true, cond_true]
      · rw [ht, List.drop_eq_getElem_cons hlt, he, amS_eq]
    · right
      refine ⟨all.length - (i + 1), ((all, ((all.length : Int), (((i + 1 : Nat) : Int), ()))), (o, ())), by omega, ⟨i + 1, rfl, hlt, rfl, fun l => ?_⟩, ?_⟩
      · rw [ht, List.drop_eq_getElem_cons hlt, amS_ne he]
      · simp only [opts_Among_4_slices_IndexFunc_api_Option_api_Option_L2, c1, decide_true, cond_true, getI_lt all i hlt, Option.bind_some, eq]
        simp only [he, decide_false, cond_false, c2]
  · left
    have c1 : ¬ ((i : Int) < (all.length : Int)) := by omega
    refine ⟨.inr ((), (o, ())), by simp only [opts_Among_4_slices_IndexFunc_api_Option_api_Option_L2, c1, decide_false, cond_false], .inr ⟨rfl, fun l => ?_⟩⟩
    rw [ht, List.drop_of_length_le hge, amS_end]
theorem among_ok (l all : List Op) (hw : wfO l) (hwa : wfO all) (hl : l.length ≤ 1000) (hla : all.length ≤ 1000) (hN : 10000 ≤ N) : opts_Among N l all = some (amS l all) := by
  have key : ∀ (k i : Nat) (all : List Op), l.length - i < k → i ≤ l.length → all.length ≤ 1000 → wfO all → gl (fun (X : ((List Op × List Op × Int × Int × Unit) × Unit) → Option (((Bool × Unit) × Unit) ⊕ (Unit × Unit))) c => opts_Among_L2 N X c.1.1 c.1.2.1 c.1.2.2.1 c.1.2.2.2.1) k ((all, (l, ((l.length : Int), ((i : Int), ())))), ()) = some (if amS (l.drop i) all = true then .inr ((), ()) else .inl ((false, ()), ())) := by
    intro k
    induction k with
    | zero => intro i all h; omega
    | succ k ih =>
      intro i all h hi ha hwa
      rw [gl_succ]
      rcases Nat.lt_or_ge i l.length with hlt | hge
      · have c1 : ((i : Int) < (l.length : Int)) := by omega
        have c2 : Go.IntKind.wrap .i64 ((i : Int) + 1) = ((i + 1 : Nat) : Int) := by rw [wrap64 (by omega) (by omega)]; omega
        obtain ⟨r, h1, h2⟩ := idx_ok (N := N) all l[i] hwa (hw _ (List.getElem_mem hlt)).2 ha hN
        have h1' : opts_Among_4_slices_IndexFunc_api_Option_api_Option_L2_R N ((all, ((all.length : Int), ((0 : Int), ()))), ((l[i].1, l[i].2), ())) = some r := h1
        rw [List.drop_eq_getElem_cons hlt]
        rcases h2 with ⟨j, hj, rfl, h2⟩ | ⟨rfl, h2⟩
        · have c3 : ¬ ((j : Int) < 0) := by omega
          have c4 : Go.IntKind.wrap .i64 ((j : Int) + 1) = ((j + 1 : Nat) : Int) := by rw [wrap64 (by omega) (by omega)]; omega
          rw [h2]
          simp only [opts_Among_L2, c1, decide_true, cond_true, getI_lt l i hlt, Option.bind_some, h1', Sum.elim_inl, c3, decide_false, cond_false, c4, dropI_nat all (a := ((j + 1 : Nat) : Int)) (i := j + 1) rfl hj, c2]
          exact ih (i + 1) (all.drop (j + 1)) (by omega) hlt (by rw [List.length_drop]; omega) (fun o ho => hwa o (List.mem_of_mem_drop ho))
        · rw [h2]
          simp only [opts_Among_L2, c1, decide_true, cond_true, getI_lt l i hlt, Option.bind_some, h1', Sum.elim_inr]
          rfl
      · have c1 : ¬ ((i : Int) < (l.length : Int)) := by omega
        rw [List.drop_of_length_le hge, amS_nil]
        simp only [opts_Among_L2, c1, decide_false, cond_false, if_true]
  have h := key N 0 all (by omega) (by omega) hla hwa
  unfold opts_Among opts_Among_L2_R
  rw [show ((0 : Int)) = ((0 : Nat) : Int) from rfl, h, List.drop_zero]
  cases amS l all <;> rfl
theorem ref_among_ok (hN : 10000 ≤ N) : ∀ (n : Nat) (l all : List Op), l.length < n → l.length ≤ 1000 → all.length ≤ 1000 → (∀ o ∈ l, o.2.length < 1000) → gl (fun X c => ref21_Among_B N X c.1 c.2.1) n (l, all, ()) = some (amS l all)
  | 0, l, all, h, _, _, _ => by omega
  | n + 1, l, all, h, hl, ha, hs => by
    rw [gl_succ]
    have ih := fun (r all : List Op) a b c d => ref_among_ok hN n r all a b c d
    generalize gl (fun (X : (List Op × List Op × Unit) → Option Bool) c => ref21_Among_B N X c.1 c.2.1) n = Y at ih ⊢
    cases l with
    | nil => rw [amS_nil]; rfl
    | cons x r =>
      rw [List.length_cons] at h hl
      have c0 : ¬ ((((x :: r).length : Nat) : Int) = 0) := by simp only [List.length_cons]; omega
      have hx := hs x List.mem_cons_self
      obtain ⟨o, h1, h2⟩ := gl_inv (G := fun (X : ((List Op × List Op × Int × Unit) × Unit) → Option (((Bool × Unit) × Unit) ⊕ (Unit × Unit))) c => ref21_Among_L4 N Y X c.1.1 c.1.2.1 c.1.2.2.1)
        (fun m c => ∃ i : Nat, c = ((x :: r, (all, ((i : Int), ()))), ()) ∧ i ≤ all.length ∧ m = all.length - i ∧ amS (x :: r) all = amS (x :: r) (all.drop i)) (fun o => o = .inl ((amS (x :: r) all, ()), ()) ∨ (o = .inr ((), ()) ∧ amS (x :: r) all = false)) (fun X m c ⟨i, hc, hi, hm, ht⟩ => by
          subst hc
          rcases Nat.lt_or_ge i all.length with hlt | hge
          · have c1 : ((i : Int) < (all.length : Int)) := by omega
            have c2 : Go.IntKind.wrap .i64 ((i : Int) + 1) = ((i + 1 : Nat) : Int) := by rw [wrap64 (by omega) (by omega)]; omega
            have g0 : getI (x :: r) (0 : Int) = some x := rfl
            have eq : ref21_one N (x.1, x.2) (all[i].1, all[i].2) = some (decide (x = all[i])) := one_ok (N := N) x all[i] hx hN
            by_cases he : x = all[i]
            · left
              refine ⟨.inl ((amS (x :: r) all, ()), ()), ?_, .inl rfl⟩
              have hrec := ih r (all.drop (i + 1)) (by omega) (by omega) (by rw [List.length_drop]; omega) (fun o ho => hs o (List.mem_cons_of_mem _ ho))
              rw [ht, List.drop_eq_getElem_cons hlt, ← he, amS_eq]
              simp only [ref21_Among_L4, c1, decide_true, cond_true, g0, getI_lt all i hlt, Option.bind_some, eq]
              rw [decide_eq_true he]
              simp only [cond_true, dropI_nat (x :: r) (a := (1 : Int)) (i := 1) rfl (by simp), Option.bind_some, c2, dropI_nat all (a := ((i + 1 : Nat) : Int)) (i := i + 1) rfl hlt]
              have e1 : (x :: r).drop 1 = r := rfl
              rw [e1, hrec]
              rfl
            · right
              refine ⟨all.length - (i + 1), ((x :: r, (all, (((i + 1 : Nat) : Int), ()))), ()), by omega, ⟨i + 1, rfl, hlt, rfl, ?_⟩, ?_⟩
              · rw [ht, List.drop_eq_getElem_cons hlt, amS_ne (fun h => he h.symm)]
              · simp only [ref21_Among_L4, c1, decide_true, cond_true, g0, getI_lt all i hlt, Option.bind_some, eq]
                simp only [he, decide_false, cond_false, c2]
          · left
            have c1 : ¬ ((i : Int) < (all.length : Int)) := by omega
            refine ⟨.inr ((), ()), by simp only [ref21_Among_L4, c1, decide_false, cond_false], .inr ⟨rfl, ?_⟩⟩
            rw [ht, List.drop_of_length_le hge, amS_end]) N all.length ((x :: r, (all, ((0 : Int), ()))), ()) (by omega) ⟨0, rfl, by omega, by omega, by simp⟩
      simp only [ref21_Among_B, c0, decide_false, cond_false, ref21_Among_L4_R]
      rw [h1]
      rcases h2 with rfl | ⟨rfl, h2⟩
      · rfl
      · rw [h2]; rfl
theorem asks_loop (l k : List Op) (kind : Int) (a b : List Op) (ok x : Bool) (h0 h1 : Op) (hl : l.length ≤ 1000) (hN : 10000 ≤ N) : law21_OptsAsks_L10_R N ((l, (k, (kind, (a, (b, (ok, (x, (l.map (·.1), (((l.map (·.1)).length : Int), ((0 : Int), ())))))))))), (h0, (h1, ()))) = some (.inr ((l, (k, (kind, (a, (b, (ok, (x, ()))))))), (h0, (h1, ())))) := by
  have h := gl_run (G := fun (X : ((List Op × List Op × Int × List Op × List Op × Bool × Bool × List Int × Int × Int × Unit) × Op × Op × Unit) → Option (((Bool × Unit) × Unit) ⊕ ((List Op × List Op × Int × List Op × List Op × Bool × Bool × Unit) × Op × Op × Unit))) c => law21_OptsAsks_L10 N X c.1.1 c.1.2.1 c.1.2.2.1 c.1.2.2.2.1 c.1.2.2.2.2.1 c.1.2.2.2.2.2.1 c.1.2.2.2.2.2.2.1 c.1.2.2.2.2.2.2.2.1 c.1.2.2.2.2.2.2.2.2.1 c.1.2.2.2.2.2.2.2.2.2.1 c.2.1 c.2.2.1)
    (fun i => ((l, (k, (kind, (a, (b, (ok, (x, (l.map (·.1), (((l.map (·.1)).length : Int), ((i : Int), ())))))))))), (h0, (h1, ())))) l.length (.inr ((l, (k, (kind, (a, (b, (ok, (x, ()))))))), (h0, (h1, ())))) (fun X i hi => by
    have c1 : ((i : Int) < ((l.map (·.1)).length : Int)) := by rw [List.length_map]; omega
    have c2 : Go.IntKind.wrap .i64 ((i : Int) + 1) = ((i + 1 : Nat) : Int) := by rw [wrap64 (by omega) (by omega)]; omega
    simp only [law21_OptsAsks_L10, c1, decide_true, cond_true, getI_lt (l.map (·.1)) i (by rw [List.length_map]; exact hi), getI_lt l i hi, Option.bind_some, List.getElem_map, Bool.not_true, cond_false, c2]) (fun X => by
    simp [law21_OptsAsks_L10]) N 0 (by omega) (by omega)
  exact h
end
theorem law_OptsAsks (l k : List Op) (kind : Int) (h1 : wfT (.sl (.pair (.int .u8) (.sl (.int .u8)))) l) (h2 : wfT (.sl (.pair (.int .u8) (.sl (.int .u8)))) k) (h3 : wfT (.int .u8) kind) : law21_OptsAsks 200000 l k kind = some true := by
  have wl := wf_opts h1
  have wk := wf_opts h2
  unfold law21_OptsAsks
  obtain ⟨f, hf, hf2⟩ := far_ok (N := 200000) l (by omega)
  obtain ⟨g, hg, hg2⟩ := far_ok (N := 200000) k (by omega)
  rw [hf, Option.bind_some]
  cases f with
  | true => simp only [cond_true, alive21, Option.bind_some]
  | false =>
    simp only [cond_false]
    rw [hg, Option.bind_some]
    cases g with
    | true => simp only [cond_true, alive21, Option.bind_some]
    | false =>
      obtain ⟨ll, ls⟩ := hf2 rfl
      obtain ⟨kl, ks⟩ := hg2 rfl
      have ol := others_len kind l
      have wo : wfO (others kind l) := fun o ho => wl o (List.mem_filter.1 ho).1
      have hfind : (findS l kind).1 = (findS l kind).1 := rfl
      have wf1 : wfO [(findS l kind).1] := by
        intro o ho
        simp only [List.mem_singleton] at ho
        subst ho
        unfold findS
        split
        · rename_i o' ho'; exact wl o' (List.mem_of_find?_eq_some ho')
        · exact ⟨by decide, AllB.nil⟩
      have hlm : (((l.map (·.1)).length : Nat) : Int) = ((l.length : Nat) : Int) := by rw [List.length_map]
      have hra : ref21_Among 200000 l k = some (amS l k) := ref_among_ok (by omega) 200000 l k (by omega) (by omega) (by omega) (fun o ho => by have := ls o ho; omega)
      simp only [cond_false]
      rw [theirs_ok l (by omega) (by omega), Option.bind_some, theirs_ok k (by omega) (by omega), Option.bind_some, find_ok l kind (by omega) (fun o ho => by have := ls o ho; omega) (by omega), Option.bind_some, ref_find_ok l kind (by omega) (by omega), Option.bind_some, kinds_ok l (by omega) (by omega), Option.bind_some]
      rw [decide_eq_true hlm]
      simp only [Bool.not_true, cond_false]
      have hloop := asks_loop (N := 200000) l k kind l k (findS l kind).2 (findS l kind).2 ((findS l kind).1.1, (findS l kind).1.2) ((findS l kind).1.1, (findS l kind).1.2) (by omega) (by omega)
      rw [hloop]
      simp only [Option.bind_some, Sum.elim_inr]
      have t1 : law21_theirs 200000 [((findS l kind).1.1, (findS l kind).1.2)] = some [((findS l kind).1.1, (findS l kind).1.2)] := theirs_ok _ (by simp) (by omega)
      have s1 : opts_Same 200000 [((findS l kind).1.1, (findS l kind).1.2)] [((findS l kind).1.1, (findS l kind).1.2)] = some (decide ([((findS l kind).1.1, (findS l kind).1.2)] = [((findS l kind).1.1, (findS l kind).1.2)])) := osame_ok _ _ wf1 wf1 (by simp) (by omega)
      have a1 : amS (others kind l) l = true := decide_eq_true List.filter_sublist
      rw [t1]
      simp only [Option.bind_some, s1, decide_true, cond_true, beq_self_eq_true]
      rw [osame_ok l k wl wk (by omega) (by omega)]
      simp only [Option.bind_some, rsame_ok l k (fun o ho => by have := ls o ho; omega) (by omega) (by omega : 10000 ≤ 200000), beq_self_eq_true, cond_true]
      rw [without_ok l kind (by omega) (fun o ho => by have := ls o ho; omega) (by omega), ref_without_ok l kind (by omega) (by omega)]
      simp only [Option.bind_some, theirs_ok (others kind l) (by omega) (by omega : 10000 ≤ 200000), osame_ok (others kind l) (others kind l) wo wo (by omega) (by omega : 10000 ≤ 200000), decide_true, cond_true]
      rw [among_ok l k wl wk (by omega) (by omega) (by omega), hra]
      simp only [Option.bind_some, beq_self_eq_true, cond_true]
      rw [among_ok (others kind l) l wo wl (by omega) (by omega) (by omega), a1]
      simp only [Option.bind_some, cond_true, alive21]
end Go.Proofs.Ytipjmjkfdekchaa
