/-
  Layer 21, on plain data: options laid, and parsed.
-/
import Derived.Test.YtipjmjkfdekchaaQBase2
import Derived.Test.YtipjmjkfdekchaaGOpts
namespace Go.Proofs.Ytipjmjkfdekchaa
set_option maxRecDepth 100000
open Go.RowKit
set_option linter.unusedVariables false
set_option linter.unusedSimpArgs false
set_option maxRecDepth 100000

abbrev Op := Int × List Int
def wfO (l : List Op) : Prop := ∀ o ∈ l, (0 ≤ o.1 ∧ o.1 < 256) ∧ AllB o.2
def enc1 (o : Op) : List Int := o.1 :: (2 + (o.2.length : Int)) :: o.2
def encs (l : List Op) : List Int := l.flatMap enc1
def small (l : List Op) : Prop := ∀ o ∈ l, o.2.length ≤ 253
theorem encs_cons (o : Op) (l : List Op) : encs (o :: l) = enc1 o ++ encs l := rfl
theorem encs_append (l m : List Op) : encs (l ++ m) = encs l ++ encs m := List.flatMap_append
theorem encs_len : ∀ {l : List Op}, small l → (encs l).length ≤ 255 * l.length
  | [], _ => by simp [encs]
  | o :: l, h => by
    have h1 := h o List.mem_cons_self
    have h2 := encs_len (l := l) fun x hx => h x (List.mem_cons_of_mem _ hx)
    rw [encs_cons, List.length_append, List.length_cons]
    simp only [enc1, List.length_cons]
    omega
theorem encs_all : ∀ {l : List Op}, small l → wfO l → AllB (encs l)
  | [], _, _ => AllB.nil
  | o :: l, h, w => by
    have h1 := h o List.mem_cons_self
    have w1 := w o List.mem_cons_self
    have h2 := encs_all (l := l) (fun x hx => h x (List.mem_cons_of_mem _ hx)) (fun x hx => w x (List.mem_cons_of_mem _ hx))
    rw [encs_cons]
    exact (AllB.cons w1.1 (AllB.cons (by omega) w1.2)).append h2
theorem take_snoc {α : Type} (l : List α) (i : Nat) (h : i < l.length) : l.take (i + 1) = l.take i ++ [l[i]] := by rw [List.take_add_one, List.getElem?_eq_getElem h]; rfl
section
variable {N : Nat}
theorem theirs_ok (l : List Op) (hl : l.length ≤ 1000) (hN : 10000 ≤ N) : law21_theirs N l = some l := by
  have h := gl_run (G := fun (X : (((List ((Int) × (List (Int)))) × ((Int) × ((Int) × Unit))) × ((List ((Int) × (List (Int)))) × Unit)) → Option ((Unit × ((List ((Int) × (List (Int)))) × Unit)))) c => law21_theirs_L3 N X c.1.1 c.1.2.1 c.1.2.2.1 c.2.1)
    (fun i => ((l, ((l.length : Int), ((i : Int), ()))), (l.take i, ()))) l.length ((), (l, ())) (fun X i hi => by
    have c1 : ((i : Int) < (l.length : Int)) := by omega
    have c2 : Go.IntKind.wrap .i64 ((i : Int) + 1) = ((i + 1 : Nat) : Int) := by rw [wrap64 (by omega) (by omega)]; omega
    have c3 : roomB ((l.take i).length + ([(l[i].1, l[i].2)] : List Op).length) 32 = true := roomB_of (by have := big_len; simp; omega) (by simp; omega)
    simp only [law21_theirs_L3, c1, decide_true, cond_true, getI_lt l i hi, Option.bind_some, c3, c2, take_snoc l i hi]) (fun X => by
    simp [law21_theirs_L3]) N 0 (by omega) (by omega)
  unfold law21_theirs law21_theirs_L3_R
  simp only [Int.natCast_zero, List.take_zero] at h
  rw [h]
  rfl
theorem far_ok (l : List Op) (hN : 10000 ≤ N) : ∃ b, law21_far N l = some b ∧ (b = false → l.length ≤ 40 ∧ ∀ o ∈ l, o.2.length ≤ 300) := by
  have hm : takeI l (minI (l.length : Int) 40) = some (l.take 40) := by
    unfold minI
    split
    · exact takeI_nat l (i := 40) rfl (by omega)
    · rw [takeI_nat l (i := l.length) rfl (by omega), List.take_of_length_le (by omega), List.take_of_length_le (by omega)]
  have hml : (l.take 40).length ≤ 40 := by rw [List.length_take]; omega
  generalize hmm : l.take 40 = m at hm hml
  obtain ⟨o, h1, h2⟩ := gl_inv (G := fun (X : (((List ((Int) × (List (Int)))) × ((List ((Int) × (List (Int)))) × ((Int) × ((Int) × Unit)))) × Unit) → Option (((((Bool) × Unit) × Unit) ⊕ (((List ((Int) × (List (Int)))) × Unit) × Unit)))) c => law21_far_L2 N X c.1.1 c.1.2.1 c.1.2.2.1 c.1.2.2.2.1)
    (fun n c => ∃ i : Nat, c = ((l, (m, ((m.length : Int), ((i : Int), ())))), ()) ∧ i ≤ m.length ∧ n = m.length - i ∧ ∀ o ∈ m.take i, o.2.length ≤ 300) (fun o => o = .inl ((true, ()), ()) ∨ (o = .inr ((l, ()), ()) ∧ ∀ o ∈ m, o.2.length ≤ 300)) (fun X n c ⟨i, hc, hi, hn, ht⟩ => by
      subst hc
      rcases Nat.lt_or_ge i m.length with hlt | hge
      · have c1 : ((i : Int) < (m.length : Int)) := by omega
        have c2 : Go.IntKind.wrap .i64 ((i : Int) + 1) = ((i + 1 : Nat) : Int) := by rw [wrap64 (by omega) (by omega)]; omega
        by_cases he : (300 : Int) < (m[i].2.length : Int)
        · left
          exact ⟨_, by simp only [law21_far_L2, c1, decide_true, cond_true, getI_lt m i hlt, Option.bind_some, he], .inl rfl⟩
        · right
          refine ⟨m.length - (i + 1), ((l, (m, ((m.length : Int), (((i + 1 : Nat) : Int), ())))), ()), by omega, ⟨i + 1, rfl, hlt, rfl, ?_⟩, ?_⟩
          · intro o ho
            rw [take_snoc m i hlt] at ho
            rcases List.mem_append.1 ho with ho | ho
            · exact ht o ho
            · simp at ho; subst ho; omega
          · simp only [law21_far_L2, c1, decide_true, cond_true, getI_lt m i hlt, Option.bind_some, he, decide_false, cond_false, c2]
      · left
        have c1 : ¬ ((i : Int) < (m.length : Int)) := by omega
        refine ⟨_, by simp only [law21_far_L2, c1, decide_false, cond_false], .inr ⟨rfl, ?_⟩⟩
        rw [List.take_of_length_le (by omega)] at ht
        exact ht) N m.length ((l, (m, ((m.length : Int), ((0 : Int), ())))), ()) (by omega) ⟨0, rfl, by omega, by omega, by simp⟩
  unfold law21_far law21_far_L2_R
  rw [hm]
  simp only [Option.bind_some]
  rw [h1]
  rcases h2 with rfl | ⟨rfl, h2⟩
  · exact ⟨true, rfl, fun h => by cases h⟩
  · refine ⟨decide ((40 : Int) < (l.length : Int)), rfl, fun h => ?_⟩
    have hl : l.length ≤ 40 := by have := of_decide_eq_false h; omega
    refine ⟨hl, ?_⟩
    rw [List.take_of_length_le hl] at hmm
    rw [hmm]
    exact h2
/-! ### Laid -/
abbrev LayO := (((List (Int)) × ((Int) × Unit)) × Unit) ⊕ (Unit × ((List (Int)) × Unit))
def layO (l : List Op) : LayO := if l.all (fun o => decide (o.2.length ≤ 253)) then .inr ((), (encs l, ())) else .inl (([], ((8 : Int), ())), ())
def layS (l : List Op) : List Int × Int := if 32 < l.length then ([], 5) else if l.all (fun o => decide (o.2.length ≤ 253)) then (encs l, 0) else ([], 8)
theorem all_small {l : List Op} : l.all (fun o => decide (o.2.length ≤ 253)) = true ↔ small l := by simp [small]
theorem lay_end {l : List Op} {i : Nat} (h : l.length ≤ i) (hs : small (l.take i)) : layO l = .inr ((), (encs l, ())) ∧ encs (l.take i) = encs l := by
  rw [List.take_of_length_le h] at hs ⊢
  exact ⟨by unfold layO; rw [if_pos (all_small.2 hs)], rfl⟩
theorem lay_big {l : List Op} {i : Nat} (hi : i < l.length) (h : 253 < l[i].2.length) : layO l = .inl (([], ((8 : Int), ())), ()) := by
  unfold layO
  rw [if_neg (fun hs => by have := all_small.1 hs _ (List.getElem_mem hi); omega)]
theorem small_snoc {l : List Op} {i : Nat} (hi : i < l.length) (hs : small (l.take i)) (h : l[i].2.length ≤ 253) : small (l.take (i + 1)) := by
  intro o ho
  rw [take_snoc l i hi] at ho
  rcases List.mem_append.1 ho with ho | ho
  · exact hs o ho
  · simp at ho; subst ho; exact h
theorem head_len {n : Nat} (h : n ≤ 253) : Go.IntKind.wrap .u8 (Go.IntKind.wrap .i64 ((2 : Int) + (n : Int))) = 2 + (n : Int) := by
  rw [wrap64 (by omega) (by omega), wrapU8 (by omega) (by omega)]
theorem encs_snoc {l : List Op} {i : Nat} (hi : i < l.length) : encs (l.take (i + 1)) = encs (l.take i) ++ [l[i].1, 2 + (l[i].2.length : Int)] ++ l[i].2 := by
  rw [take_snoc l i hi, encs_append]
  simp [encs, enc1]
theorem lay_room {l : List Op} {i : Nat} (hl : l.length ≤ 1000) (hi : i < l.length) (hs : small (l.take i)) (h : l[i].2.length ≤ 253) : roomB ((encs (l.take i)).length + ([l[i].1, 2 + (l[i].2.length : Int)] : List Int).length) 1 = true ∧ roomB ((encs (l.take i) ++ [l[i].1, 2 + (l[i].2.length : Int)]).length + l[i].2.length) 1 = true := by
  have h1 := encs_len hs
  have h2 := big_len
  rw [List.length_take] at h1
  exact ⟨roomB_of (by simp only [List.length_cons, List.length_nil]; omega) (by simp only [List.length_cons, List.length_nil]; omega), roomB_of (by simp only [List.length_append, List.length_cons, List.length_nil]; omega) (by simp only [List.length_append, List.length_cons, List.length_nil]; omega)⟩
theorem lay_ok (l : List Op) (hl : l.length ≤ 1000) (hN : 10000 ≤ N) : opts_Lay N l = some (layS l) := by
  unfold opts_Lay layS
  by_cases h32 : 32 < l.length
  · have c0 : ((32 : Int) < (l.length : Int)) := by omega
    simp only [c0, h32, decide_true, cond_true, if_true]
  · have c0 : ¬ ((32 : Int) < (l.length : Int)) := by omega
    simp only [c0, h32, decide_false, cond_false, if_false]
    obtain ⟨o, h1, h2⟩ := gl_inv (G := fun (X : (((List ((Int) × (List (Int)))) × ((Int) × ((Int) × Unit))) × ((List (Int)) × Unit)) → Option LayO) c => opts_Lay_L5 N X c.1.1 c.1.2.1 c.1.2.2.1 c.2.1)
      (fun n c => ∃ i : Nat, c = ((l, ((l.length : Int), ((i : Int), ()))), (encs (l.take i), ())) ∧ i ≤ l.length ∧ n = l.length - i ∧ small (l.take i)) (fun o => o = layO l) (fun X n c ⟨i, hc, hi, hn, hs⟩ => by
        subst hc
        rcases Nat.lt_or_ge i l.length with hlt | hge
        · have c1 : ((i : Int) < (l.length : Int)) := by omega
          have c2 : Go.IntKind.wrap .i64 ((i : Int) + 1) = ((i + 1 : Nat) : Int) := by rw [wrap64 (by omega) (by omega)]; omega
          by_cases he : (253 : Int) < (l[i].2.length : Int)
          · left
            exact ⟨_, by simp only [opts_Lay_L5, c1, decide_true, cond_true, getI_lt l i hlt, Option.bind_some, he], (lay_big hlt (by omega)).symm⟩
          · right
            have he' : l[i].2.length ≤ 253 := by omega
            obtain ⟨r1, r2⟩ := lay_room hl hlt hs he'
            refine ⟨l.length - (i + 1), ((l, ((l.length : Int), (((i + 1 : Nat) : Int), ()))), (encs (l.take (i + 1)), ())), by omega, ⟨i + 1, rfl, hlt, rfl, small_snoc hlt hs he'⟩, ?_⟩
            simp only [opts_Lay_L5, c1, decide_true, cond_true, getI_lt l i hlt, Option.bind_some, he, decide_false, cond_false, c2, head_len he', r1, r2, encs_snoc hlt]
        · left
          have c1 : ¬ ((i : Int) < (l.length : Int)) := by omega
          obtain ⟨e1, e2⟩ := lay_end hge hs
          exact ⟨.inr ((), (encs (l.take i), ())), by simp only [opts_Lay_L5, c1, decide_false, cond_false], by rw [e1, e2]⟩) N l.length ((l, ((l.length : Int), ((0 : Int), ()))), (([] : List Int), ())) (by omega) ⟨0, rfl, by omega, by omega, fun o ho => by cases ho⟩
    unfold opts_Lay_L5_R
    rw [h1, h2]
    unfold layO
    split <;> rfl
theorem ref_lay_ok (l : List Op) (hl : l.length ≤ 1000) (hN : 10000 ≤ N) : ref21_Lay N l = some (layS l) := by
  unfold ref21_Lay layS
  by_cases h32 : 32 < l.length
  · have c0 : ((32 : Int) < (l.length : Int)) := by omega
    simp only [c0, h32, decide_true, cond_true, if_true]
  · have c0 : ¬ ((32 : Int) < (l.length : Int)) := by omega
    simp only [c0, h32, decide_false, cond_false, if_false]
    obtain ⟨o, h1, h2⟩ := gl_inv (G := fun (X : (((List ((Int) × (List (Int)))) × ((Int) × Unit)) × ((List (Int)) × Unit)) → Option LayO) c => ref21_Lay_L5 N X c.1.1 c.1.2.1 c.2.1)
      (fun n c => ∃ i : Nat, c = ((l, ((i : Int), ())), (encs (l.take i), ())) ∧ i ≤ l.length ∧ n = l.length - i ∧ small (l.take i)) (fun o => o = layO l) (fun X n c ⟨i, hc, hi, hn, hs⟩ => by
        subst hc
        rcases Nat.lt_or_ge i l.length with hlt | hge
        · have c1 : ((i : Int) < (l.length : Int)) := by omega
          have c2 : Go.IntKind.wrap .i64 ((i : Int) + 1) = ((i + 1 : Nat) : Int) := by rw [wrap64 (by omega) (by omega)]; omega
          by_cases he : (253 : Int) < (l[i].2.length : Int)
          · left
            exact ⟨_, by simp only [ref21_Lay_L5, c1, decide_true, cond_true, getI_lt l i hlt, Option.bind_some, he], (lay_big hlt (by omega)).symm⟩
          · right
            have he' : l[i].2.length ≤ 253 := by omega
            obtain ⟨r1, r2⟩ := lay_room hl hlt hs he'
            refine ⟨l.length - (i + 1), ((l, (((i + 1 : Nat) : Int), ())), (encs (l.take (i + 1)), ())), by omega, ⟨i + 1, rfl, hlt, rfl, small_snoc hlt hs he'⟩, ?_⟩
            simp only [ref21_Lay_L5, c1, decide_true, cond_true, getI_lt l i hlt, Option.bind_some, he, decide_false, cond_false, c2, head_len he', r1, r2, encs_snoc hlt]
        · left
          have c1 : ¬ ((i : Int) < (l.length : Int)) := by omega
          obtain ⟨e1, e2⟩ := lay_end hge hs
          exact ⟨.inr ((), (encs (l.take i), ())), by simp only [ref21_Lay_L5, c1, decide_false, cond_false], by rw [e1, e2]⟩) N l.length ((l, ((0 : Int), ())), (([] : List Int), ())) (by omega) ⟨0, rfl, by omega, by omega, fun o ho => by cases ho⟩
    unfold ref21_Lay_L5_R
    rw [h1, h2]
    unfold layO
    split <;> rfl
end
end Go.Proofs.Ytipjmjkfdekchaa
