/-
  Layer 21, on plain data: the law OptsLays.
-/
import Derived.Test.YtipjmjkfdekchaaQOpts2
namespace Go.Proofs.Ytipjmjkfdekchaa
set_option maxRecDepth 100000
open Go.RowKit
set_option linter.unusedVariables false
set_option linter.unusedSimpArgs false
set_option maxRecDepth 100000

theorem alive21 : law21_alive 200000 = some true := by decide +kernel
section
variable {N : Nat}
theorem equal_ok (x y : Op) (h1 : AllB x.2) (h2 : AllB y.2) : opts_equal N x y = some (decide (x = y)) := by
  unfold opts_equal bytes_Equal
  rw [toBy_map h1, toBy_map h2]
  simp only [Option.bind_some, bytes_dec h1 h2]
  obtain ⟨x1, x2⟩ := x
  obtain ⟨y1, y2⟩ := y
  by_cases e1 : x1 = y1 <;> by_cases e2 : x2 = y2 <;> simp [e1, e2]
theorem osame_ok (a b : List Op) (ha : wfO a) (hb : wfO b) (hl : a.length < 1000) (hN : 10000 ≤ N) : opts_Same N a b = some (decide (a = b)) := by
  unfold opts_Same
  by_cases hl' : a.length = b.length
  · have c0 : ((a.length : Int) = (b.length : Int)) := by omega
    simp only [c0, decide_true, Bool.not_true, cond_false]
    obtain ⟨o, h1, h2⟩ := gl_inv (G := fun (X : (((List Op) × ((List Op) × ((Int) × ((Int) × Unit)))) × Unit) → Option (((((Bool) × Unit) × Unit) ⊕ (Unit × Unit)))) c => opts_Same_1_slices_EqualFunc_api_Option_api_Option_api_Option_api_Option_L4 N X c.1.1 c.1.2.1 c.1.2.2.1 c.1.2.2.2.1)
      (fun n c => ∃ i : Nat, c = ((b, (a, ((b.length : Int), ((i : Int), ())))), ()) ∧ i ≤ a.length ∧ n = a.length - i ∧ a.take i = b.take i) (fun o => o = if a = b then .inr ((), ()) else .inl ((false, ()), ())) (fun X n c ⟨i, hc, hi, hn, ht⟩ => by
      subst hc
      rcases Nat.lt_or_ge i a.length with hlt | hge
      · have c1 : ((i : Int) < (b.length : Int)) := by omega
        have c2 : Go.IntKind.wrap .i64 ((i : Int) + 1) = ((i + 1 : Nat) : Int) := by rw [wrap64 (by omega) (by omega)]; omega
        have eq : opts_equal N (a[i].1, a[i].2) ((b[i]'(by omega)).1, (b[i]'(by omega)).2) = some (decide (a[i] = b[i]'(by omega))) := equal_ok (N := N) a[i] (b[i]'(by omega)) (ha _ (List.getElem_mem hlt)).2 (hb _ (List.getElem_mem _)).2
        by_cases he : a[i] = b[i]'(by omega)
        · right
          refine ⟨a.length - (i + 1), ((b, (a, ((b.length : Int), (((i + 1 : Nat) : Int), ())))), ()), by omega, ⟨i + 1, rfl, hlt, rfl, ?_⟩, ?_⟩
          · rw [List.take_add_one, List.take_add_one, ht, List.getElem?_eq_getElem hlt, List.getElem?_eq_getElem (by omega), he]
          · simp only [opts_Same_1_slices_EqualFunc_api_Option_api_Option_api_Option_api_Option_L4, c1, decide_true, cond_true, getI_lt a i hlt, getI_lt b i (by omega), Option.bind_some, eq]
            simp only [he, decide_true, Bool.not_true, cond_false, c2]
        · left
          refine ⟨.inl ((false, ()), ()), ?_, ?_⟩
          · simp only [opts_Same_1_slices_EqualFunc_api_Option_api_Option_api_Option_api_Option_L4, c1, decide_true, cond_true, getI_lt a i hlt, getI_lt b i (by omega), Option.bind_some, eq]
            simp only [he, decide_false, Bool.not_false, cond_true]
          · rw [if_neg (fun h => he (by simp [h]))]
      · left
        have c1 : ¬ ((i : Int) < (b.length : Int)) := by omega
        refine ⟨.inr ((), ()), by simp only [opts_Same_1_slices_EqualFunc_api_Option_api_Option_api_Option_api_Option_L4, c1, decide_false, cond_false], ?_⟩
        rw [List.take_of_length_le (by omega), List.take_of_length_le (by omega)] at ht
        rw [if_pos ht]) N a.length ((b, (a, ((b.length : Int), ((0 : Int), ())))), ()) (by omega) ⟨0, rfl, by omega, by omega, by simp⟩
    unfold opts_Same_1_slices_EqualFunc_api_Option_api_Option_api_Option_api_Option_L4_R
    rw [h1, h2]
    by_cases he : a = b <;> simp [he]
  · have c0 : ¬ ((a.length : Int) = (b.length : Int)) := by omega
    have c1 : ¬ (a = b) := fun h' => hl' (by rw [h'])
    simp only [c0, c1, decide_false, Bool.not_false, cond_true]
theorem same21 (a b : List Int) (h : a.length ≤ 50000) (hN : 100000 < N) : ref01_Same N a b = some (decide (a = b)) := sameF_ok (by omega) (by omega)
end
theorem wf_opts {l : List Op} (h : wfT (.sl (.pair (.int .u8) (.sl (.int .u8)))) l) : wfO l := fun o ho => ⟨wf_u8 (h.2 o ho).1, wf_bytes (h.2 o ho).2⟩
theorem law_OptsLays (l : List Op) (b : List Int) (h1 : wfT (.sl (.pair (.int .u8) (.sl (.int .u8)))) l) (h2 : wfT (.sl (.int .u8)) b) : law21_OptsLays 200000 l b = some true := by
  have wl := wf_opts h1
  have wb := wf_bytes h2
  unfold law21_OptsLays
  obtain ⟨f, hf, hf2⟩ := far_ok (N := 200000) l (by omega)
  rw [hf, Option.bind_some]
  cases f with
  | true => simp only [cond_true, alive21, Option.bind_some]
  | false =>
    obtain ⟨hl, -⟩ := hf2 rfl
    simp only [cond_false]
    by_cases hb : (3000 : Int) < (b.length : Int)
    · simp only [hb, decide_true, cond_true, alive21, Option.bind_some]
    · simp only [hb, decide_false, cond_false]
      have hb' : b.length ≤ 3000 := by omega
      rw [theirs_ok l (by omega) (by omega), Option.bind_some, lay_ok l (by omega) (by omega), Option.bind_some, ref_lay_ok l (by omega) (by omega), Option.bind_some, parse_ok b (by omega) wb (by omega), Option.bind_some, ref_parse_ok b (by omega) wb (by omega), Option.bind_some]
      have hx : ((layS l).1.length ≤ 50000 ∧ AllB (layS l).1) ∧ (layS l = (encs l, 0) ∧ small l ∧ l.length ≤ 32 ∨ layS l = ([], 5) ∨ layS l = ([], 8)) := by
        unfold layS
        split
        · exact ⟨⟨by simp, AllB.nil⟩, .inr (.inl rfl)⟩
        · split
          · rename_i hs
            have hs := all_small.1 hs
            exact ⟨⟨by have := encs_len hs; show (encs l).length ≤ 50000; omega, encs_all hs wl⟩, .inl ⟨rfl, hs, by omega⟩⟩
          · exact ⟨⟨by simp, AllB.nil⟩, .inr (.inr rfl)⟩
      obtain ⟨⟨hx1, hx2⟩, hx3⟩ := hx
      generalize layS l = x at hx1 hx2 hx3
      have hm : (fin (par 200000 b [])).1.length ≤ 32 ∧ wfO (fin (par 200000 b [])).1 ∧ ((fin (par 200000 b [])).2 = 0 → layS (fin (par 200000 b [])).1 = (b, 0)) := by
        rcases par_back 200000 b [] (by omega) wb (fun o ho => by cases ho) (by simp) with ⟨e, h1, h2⟩ | ⟨m, m1, m2, m3, m4⟩
        · rw [h1]
          exact ⟨by simp [fin, parE], (show wfO [] from fun o ho => by cases ho), fun h => absurd h h2⟩
        · have hw := par_wf 200000 b [] wb (fun o ho => by cases ho) m m1
          rw [m1]
          refine ⟨m4, hw, fun _ => ?_⟩
          show layS m = (b, 0)
          unfold layS
          rw [if_neg (by omega), if_pos (all_small.2 m3), m2]
          rfl
      obtain ⟨hm1, hm2, hm3⟩ := hm
      generalize fin (par 200000 b []) = y at hm1 hm2 hm3
      rw [same21 _ _ hx1 (by omega), Option.bind_some]
      rw [theirs_ok y.1 (by omega) (by omega), Option.bind_some, osame_ok y.1 y.1 hm2 hm2 (by omega) (by omega), Option.bind_some]
      simp only [decide_true, Bool.not_true, cond_false]
      rw [parse_ok x.1 (by omega) hx2 (by omega), Option.bind_some]
      have hlay : ∃ z, opts_Lay 200000 y.1 = some z ∧ (y.2 = 0 → z = (b, 0)) := ⟨_, lay_ok y.1 (by omega) (by omega), hm3⟩
      obtain ⟨z, hz1, hz2⟩ := hlay
      have hend : ∀ {A : Option Bool}, A = (bif (!(decide (y.2 = (0 : Int)))) then Option.bind (law21_alive 200000) fun (v16 : Bool) => some (cond v16 true false) else bif (decide (z.2 = (0 : Int))) then Option.bind (ref01_Same 200000 z.1 b) fun (v16 : Bool) => bif (cond (cond v16 true false) true false) then Option.bind (law21_alive 200000) fun (v17 : Bool) => some (cond v17 true false) else some false else some false) → A = some true := by
        intro A hA
        rw [hA]
        by_cases hy : y.2 = 0
        · have := hz2 hy
          subst this
          simp only [hy, decide_true, Bool.not_true, cond_false, cond_true, same21 b b (by omega) (by omega : 100000 < 200000), Option.bind_some, alive21]
        · simp only [hy, decide_false, Bool.not_false, cond_true, alive21, Option.bind_some]
      by_cases hxe : x.2 = 0
      · have hx4 : x = (encs l, 0) ∧ small l ∧ l.length ≤ 32 := by
          rcases hx3 with h | h | h
          · exact h
          · rw [h] at hxe; cases hxe
          · rw [h] at hxe; cases hxe
        obtain ⟨rfl, hs, hl32⟩ := hx4
        have hp : par 200000 (encs l) [] = .inr ((), (l, ())) := par_encs l 200000 [] (by show (encs l).length < 200000; have : (encs l).length ≤ 50000 := hx1; omega) hs (by simpa using hl32)
        simp only [hxe, decide_true, cond_true, hp, fin, Sum.elim_inr, theirs_ok l (by omega) (by omega : 10000 ≤ 200000), Option.bind_some, osame_ok l l wl wl (by omega) (by omega : 10000 ≤ 200000), Bool.not_true, cond_false, hz1]
        simp only [Option.bind_some] at hend
        exact hend (by
          by_cases hy : y.2 = 0 <;> by_cases hz : z.2 = 0 <;> simp [hy, hz]
          all_goals rfl)
      · simp only [hxe, decide_false, cond_false, hz1, Option.bind_some]
        exact hend (by
          by_cases hy : y.2 = 0 <;> by_cases hz : z.2 = 0 <;> simp [hy, hz]
          all_goals rfl)
end Go.Proofs.Ytipjmjkfdekchaa
