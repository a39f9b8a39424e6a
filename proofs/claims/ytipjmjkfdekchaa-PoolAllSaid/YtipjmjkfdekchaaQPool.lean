/-
  Layer 31, on plain data: the law PoolAll.
-/
import Derived.Test.YtipjmjkfdekchaaQBase2
import Derived.Test.YtipjmjkfdekchaaGPool
namespace Go.Proofs.Ytipjmjkfdekchaa
set_option maxRecDepth 100000
open Go.RowKit
set_option linter.unusedVariables false
set_option linter.unusedSimpArgs false
set_option maxRecDepth 100000

theorem alive31 : law31_alive 200000 = some true := by decide +kernel
abbrev Pl := Bool × Int
def wfP (x : Pl) : Prop := -1000000 ≤ x.2 ∧ x.2 ≤ 1000000
theorem wfi64 {n : Int} (h1 : -1000000 ≤ n) (h2 : n ≤ 1000000) : (Lit.int .i64 n).wf = true := by
  simp only [Lit.wf, Bool.and_eq_true, decide_eq_true_eq, IntKind.min, IntKind.max, IntKind.signed, IntKind.bits]
  simp
  omega
theorem wrapU32 {x : Int} (h1 : 0 ≤ x) (h2 : x < 4294967296) : Go.IntKind.wrap .u32 x = x := by
  rw [IntKind.wrap_u32]; omega
section
variable {N : Nat}
theorem idx_step (X : ((List Pl × Pl × Int × Int × Unit) × Unit) → Option (((Int × Unit) × Unit) ⊕ (Unit × Unit))) (l : List Pl) (v : Pl) (i : Nat) (hi : i < l.length) (hl : l.length ≤ 1000) (hv : wfP v) (hw : ∀ x ∈ l, wfP x) :
    slices_Index_pool_place_pool_place_L2 N X l v (l.length : Int) (i : Int) = if v = l[i] then some (.inl (((i : Int), ()), ())) else X ((l, (v, ((l.length : Int), (((i + 1 : Nat) : Int), ())))), ()) := by
  have c1 : ((i : Int) < (l.length : Int)) := by omega
  have c2 : Go.IntKind.wrap .i64 ((i : Int) + 1) = ((i + 1 : Nat) : Int) := by rw [wrap64 (by omega) (by omega)]; omega
  have h1 := hw _ (List.getElem_mem hi)
  have w1 : (wfB (.pair .bool (.int .i64)) (v.1, v.2) && wfB (.pair .bool (.int .i64)) (l[i].1, l[i].2)) = true := by
    simp only [wfB, wfi64 hv.1 hv.2, wfi64 h1.1 h1.2, Bool.and_self]
  have hd : (@Decidable.decide (@Eq (Bool × Int) (v.1, v.2) (l[i].1, l[i].2)) (decT (.pair .bool (.int .i64)) (v.1, v.2) (l[i].1, l[i].2))) = decide (v = l[i]) := by
    rw [decide_eq_decide]
  simp only [slices_Index_pool_place_pool_place_L2, c1, decide_true, cond_true, getI_lt l i hi, Option.bind_some, w1, hd, c2]
  by_cases h : v = l[i]
  · rw [if_pos h, decide_eq_true h]; rfl
  · rw [if_neg h, decide_eq_false h]; rfl
theorem idx_end (X : ((List Pl × Pl × Int × Int × Unit) × Unit) → Option (((Int × Unit) × Unit) ⊕ (Unit × Unit))) (l : List Pl) (v : Pl) : slices_Index_pool_place_pool_place_L2 N X l v (l.length : Int) (l.length : Int) = some (.inr ((), ())) := by
  have c1 : ¬ ((l.length : Int) < (l.length : Int)) := by omega
  simp only [slices_Index_pool_place_pool_place_L2, c1, decide_false, cond_false]
theorem idx_at (l : List Pl) (v : Pl) (j : Nat) (hj : j < l.length) (hl : l.length ≤ 1000) (hv : wfP v) (hw : ∀ x ∈ l, wfP x) (h1 : l[j] = v) (h2 : ∀ i (hi : i < l.length), i < j → l[i] ≠ v) (hN : 10000 ≤ N) : slices_Index_pool_place_pool_place N l v = some (j : Int) := by
  obtain ⟨o, g1, g2⟩ := gl_inv (G := fun (X : ((List Pl × Pl × Int × Int × Unit) × Unit) → Option (((Int × Unit) × Unit) ⊕ (Unit × Unit))) c => slices_Index_pool_place_pool_place_L2 N X c.1.1 c.1.2.1 c.1.2.2.1 c.1.2.2.2.1)
    (fun n c => ∃ i : Nat, c = ((l, (v, ((l.length : Int), ((i : Int), ())))), ()) ∧ i ≤ j ∧ n = l.length - i) (fun o => o = .inl (((j : Int), ()), ())) (fun X n c ⟨i, hc, hi, hn⟩ => by
      subst hc
      have hil : i < l.length := by omega
      have hs := idx_step X (N := N) l v i hil hl hv hw
      by_cases he : i = j
      · subst he
        left
        exact ⟨_, by rw [hs, if_pos h1.symm], rfl⟩
      · right
        refine ⟨l.length - (i + 1), ((l, (v, ((l.length : Int), (((i + 1 : Nat) : Int), ())))), ()), by omega, ⟨i + 1, rfl, by omega, rfl⟩, ?_⟩
        rw [hs, if_neg (fun h => h2 i hil (by omega) h.symm)]) N l.length ((l, (v, ((l.length : Int), ((0 : Int), ())))), ()) (by omega) ⟨0, rfl, by omega, by omega⟩
  unfold slices_Index_pool_place_pool_place slices_Index_pool_place_pool_place_L2_R
  rw [g1, g2]
  rfl
theorem idx_none (l : List Pl) (v : Pl) (hl : l.length ≤ 1000) (hv : wfP v) (hw : ∀ x ∈ l, wfP x) (h2 : ∀ i (hi : i < l.length), l[i] ≠ v) (hN : 10000 ≤ N) : slices_Index_pool_place_pool_place N l v = some (-1) := by
  have h := gl_run (G := fun (X : ((List Pl × Pl × Int × Int × Unit) × Unit) → Option (((Int × Unit) × Unit) ⊕ (Unit × Unit))) c => slices_Index_pool_place_pool_place_L2 N X c.1.1 c.1.2.1 c.1.2.2.1 c.1.2.2.2.1)
    (fun i => ((l, (v, ((l.length : Int), ((i : Int), ())))), ())) l.length (.inr ((), ())) (fun X i hi => by
      show slices_Index_pool_place_pool_place_L2 N X l v (l.length : Int) (i : Int) = _
      rw [idx_step X l v i hi hl hv hw, if_neg (fun h => h2 i hi h.symm)]) (fun X => idx_end X l v) N 0 (by omega) (by omega)
  unfold slices_Index_pool_place_pool_place slices_Index_pool_place_pool_place_L2_R
  have h' : gl (fun (X : ((List Pl × Pl × Int × Int × Unit) × Unit) → Option (((Int × Unit) × Unit) ⊕ (Unit × Unit))) c => slices_Index_pool_place_pool_place_L2 N X c.1.1 c.1.2.1 c.1.2.2.1 c.1.2.2.2.1) N ((l, ((v.1, v.2), ((l.length : Int), ((0 : Int), ())))), ()) = some (.inr ((), ())) := h
  rw [h']
  rfl
theorem put_ok (f : Int) (l : List Pl) (i : Nat) (x : Pl) (hi : i < l.length) (hl : l.length ≤ 1000) : pool_Pool_put N (f, l) (i : Int) x = some (f, l.set i x) := by
  unfold pool_Pool_put
  have hne : l.isEmpty = false := by cases l with | nil => simp at hi | cons _ _ => rfl
  have r1 : roomB (([] : List Pl).length + l.length) 16 = true := roomB_of (by have := big_len; simp; omega) (by simp; omega)
  have c1 : ((0 : Int) ≤ (i : Int) ∧ (i : Int) < ((l.length : Nat) : Int)) := ⟨by omega, by omega⟩
  simp only [hne, cond_false, r1, cond_true, List.nil_append, decide_eq_true c1, Int.toNat_natCast, List.getElem?_eq_getElem hi, Option.bind_some]
/-- Places of which the first are given. -/
def pl (n i : Nat) : List Pl := (List.range n).map fun j => if j < i then (true, 100 + (j : Int)) else (false, 0)
theorem pl_len (n i : Nat) : (pl n i).length = n := by simp [pl]
theorem pl_get (n i j : Nat) (h : j < (pl n i).length) : (pl n i)[j] = if j < i then (true, 100 + (j : Int)) else (false, 0) := by simp [pl]
theorem pl_wf (n i : Nat) (hn : n ≤ 100) : ∀ x ∈ pl n i, wfP x := by
  intro x hx
  simp only [pl, List.mem_map, List.mem_range] at hx
  obtain ⟨j, hj, rfl⟩ := hx
  split
  · exact ⟨by show -1000000 ≤ 100 + (j : Int); omega, by show 100 + (j : Int) ≤ 1000000; omega⟩
  · exact ⟨by decide, by decide⟩
theorem pl_set (n i : Nat) (h : i < n) : (pl n i).set i (true, 100 + (i : Int)) = pl n (i + 1) := by
  apply List.ext_getElem (by simp [pl_len])
  intro j h1 h2
  rw [List.getElem_set, pl_get]
  have h1' : j < (pl n i).length := by simpa using h1
  by_cases hj : i = j
  · subst hj
    rw [if_pos rfl, pl_get, if_pos (by omega)]
  · rw [if_neg hj, pl_get]
    by_cases hji : j < i
    · rw [if_pos hji, if_pos (by omega)]
    · rw [if_neg hji, if_neg (by omega)]
theorem pl_zero (n : Nat) : pl n 0 = List.replicate n (false, (0 : Int)) := by
  apply List.ext_getElem (by simp [pl_len])
  intro j h1 h2
  rw [pl_get]
  simp
theorem give_ok (f : Int) (n i : Nat) (hn : n ≤ 100) (hi : i < n) (hf : 0 ≤ f ∧ f ≤ 100000) (hN : 10000 ≤ N) : pool_Pool_Give N (f, pl n i) (100 + (i : Int)) = some ((f, pl n (i + 1)), (f + (i : Int), 0)) := by
  have hl := pl_len n i
  have h1 : slices_Index_pool_place_pool_place N (pl n i) (true, 100 + (i : Int)) = some (-1) := idx_none _ _ (by omega) ⟨by show -1000000 ≤ 100 + (i : Int); omega, by show 100 + (i : Int) ≤ 1000000; omega⟩ (pl_wf n i hn) (fun j hj => by
    rw [pl_get]
    split
    · intro h; injection h with _ h; omega
    · intro h; injection h with h; cases h) hN
  have h2 : slices_Index_pool_place_pool_place N (pl n i) (false, 0) = some (i : Int) := idx_at _ _ i (by omega) (by omega) ⟨by decide, by decide⟩ (pl_wf n i hn) (by rw [pl_get, if_neg (by omega)]) (fun j hj hji => by
    rw [pl_get, if_pos hji]
    intro h; injection h with h; cases h) hN
  have c1 : ¬ ((0 : Int) ≤ -1) := by decide
  have c2 : ¬ ((i : Int) < 0) := by omega
  have w1 : Go.IntKind.wrap .u32 (i : Int) = (i : Int) := wrapU32 (by omega) (by omega)
  have w2 : Go.IntKind.wrap .u32 (f + (i : Int)) = f + (i : Int) := wrapU32 (by omega) (by omega)
  have hp := put_ok (N := N) f (pl n i) i (true, 100 + (i : Int)) (by omega) (by omega)
  rw [pl_set n i hi] at hp
  unfold pool_Pool_Give pool_Pool_find
  simp only [h1, Option.bind_some, c1, decide_false, cond_false, h2, c2, hp, w1, w2]
theorem give_full (f : Int) (n : Nat) (hn : n ≤ 100) (hN : 10000 ≤ N) : ∃ a, pool_Pool_Give N (f, pl n n) 7 = some ((f, pl n n), (a, 12)) := by
  have hl := pl_len n n
  have h1 : slices_Index_pool_place_pool_place N (pl n n) (true, 7) = some (-1) := idx_none _ _ (by omega) ⟨by decide, by decide⟩ (pl_wf n n hn) (fun j hj => by
    rw [pl_get]
    split
    · intro h; injection h with _ h; omega
    · intro h; injection h with h; cases h) hN
  have h2 : slices_Index_pool_place_pool_place N (pl n n) (false, 0) = some (-1) := idx_none _ _ (by omega) ⟨by decide, by decide⟩ (pl_wf n n hn) (fun j hj => by
    rw [pl_get, if_pos (by omega)]
    intro h; injection h with h; cases h) hN
  have c1 : ¬ ((0 : Int) ≤ -1) := by decide
  have c2 : ((-1 : Int) < 0) := by decide
  unfold pool_Pool_Give pool_Pool_find
  exact ⟨0, by simp only [h1, Option.bind_some, c1, decide_false, cond_false, h2, c2, decide_true, cond_true]⟩
theorem take_ok (f : Int) (n m : Nat) (hn : n ≤ 100) (hm : m < n) (hN : 10000 ≤ N) : pool_Pool_Take N (f, pl n n) (100 + (m : Int)) = some ((f, (pl n n).set m (false, 0)), 0) := by
  have hl := pl_len n n
  have h1 : slices_Index_pool_place_pool_place N (pl n n) (true, 100 + (m : Int)) = some (m : Int) := idx_at _ _ m (by omega) (by omega) ⟨by show -1000000 ≤ 100 + (m : Int); omega, by show 100 + (m : Int) ≤ 1000000; omega⟩ (pl_wf n n hn) (by rw [pl_get, if_pos (by omega)]) (fun j hj hjm => by
    rw [pl_get, if_pos (by omega)]
    intro h; injection h with _ h; omega) hN
  have c2 : ¬ ((m : Int) < 0) := by omega
  have hp := put_ok (N := N) f (pl n n) m (false, 0) (by omega) (by omega)
  unfold pool_Pool_Take pool_Pool_find
  simp only [h1, Option.bind_some, c2, decide_false, cond_false, hp]
theorem give_again (f : Int) (n m : Nat) (hn : n ≤ 100) (hm : m < n) (hf : 0 ≤ f ∧ f ≤ 100000) (hN : 10000 ≤ N) : ∃ q, pool_Pool_Give N (f, (pl n n).set m (false, 0)) 7 = some (q, (f + (m : Int), 0)) := by
  have hl := pl_len n n
  have hl2 : ((pl n n).set m (false, 0)).length = n := by rw [List.length_set, hl]
  have hw : ∀ x ∈ (pl n n).set m (false, 0), wfP x := by
    intro x hx
    rcases List.mem_or_eq_of_mem_set hx with h | rfl
    · exact pl_wf n n hn x h
    · exact ⟨by decide, by decide⟩
  have hget : ∀ j (hj : j < ((pl n n).set m (false, 0)).length), ((pl n n).set m (false, 0))[j] = if m = j then (false, 0) else (true, 100 + (j : Int)) := fun j hj => by
    rw [List.getElem_set]
    split
    · rfl
    · rw [pl_get, if_pos (by omega)]
  have h1 : slices_Index_pool_place_pool_place N ((pl n n).set m (false, 0)) (true, 7) = some (-1) := idx_none _ _ (by omega) ⟨by decide, by decide⟩ hw (fun j hj => by
    rw [hget]
    split
    · intro h; injection h with h; cases h
    · intro h; injection h with _ h; omega) hN
  have h2 : slices_Index_pool_place_pool_place N ((pl n n).set m (false, 0)) (false, 0) = some (m : Int) := idx_at _ _ m (by omega) (by omega) ⟨by decide, by decide⟩ hw (by rw [hget, if_pos rfl]) (fun j hj hjm => by
    rw [hget, if_neg (by omega)]
    intro h; injection h with h; cases h) hN
  have c1 : ¬ ((0 : Int) ≤ -1) := by decide
  have c2 : ¬ ((m : Int) < 0) := by omega
  have w1 : Go.IntKind.wrap .u32 (m : Int) = (m : Int) := wrapU32 (by omega) (by omega)
  have w2 : Go.IntKind.wrap .u32 (f + (m : Int)) = f + (m : Int) := wrapU32 (by omega) (by omega)
  have hp := put_ok (N := N) f ((pl n n).set m (false, 0)) m (true, 7) (by omega) (by omega)
  unfold pool_Pool_Give pool_Pool_find
  exact ⟨(f, ((pl n n).set m (false, 0)).set m (true, 7)), by simp only [h1, Option.bind_some, c1, decide_false, cond_false, h2, c2, hp, w1, w2]⟩
theorem held_ok (f : Int) (n : Nat) (hn : n ≤ 100) (hN : 10000 ≤ N) : ∃ r, pool_Pool_Held N (f, pl n n) = some r ∧ r.length = n := by
  have hl := pl_len n n
  obtain ⟨o, g1, g2⟩ := gl_inv (G := fun (X : (((Int × List Pl) × Int × Int × Unit) × List Int × Unit) → Option (Unit × List Int × Unit)) c => pool_Pool_Held_L3 N X c.1.1 c.1.2.1 c.1.2.2.1 c.2.1)
    (fun k c => ∃ (i : Nat) (r : List Int), c = (((f, pl n n), (((pl n n).length : Int), ((i : Int), ()))), (r, ())) ∧ i ≤ n ∧ k = n - i ∧ r.length = i) (fun o => o.2.1.length = n) (fun X k c ⟨i, r, hc, hi, hk, hr⟩ => by
      subst hc
      rcases Nat.lt_or_ge i n with hlt | hge
      · right
        have c1 : ((i : Int) < ((pl n n).length : Int)) := by omega
        have c2 : Go.IntKind.wrap .i64 ((i : Int) + 1) = ((i + 1 : Nat) : Int) := by rw [wrap64 (by omega) (by omega)]; omega
        have c3 : roomB (r.length + ([Go.IntKind.wrap .u32 (f + Go.IntKind.wrap .u32 (i : Int))] : List Int).length) 4 = true := roomB_of (by have := big_len; simp only [List.length_cons, List.length_nil]; omega) (by simp only [List.length_cons, List.length_nil]; omega)
        refine ⟨n - (i + 1), (((f, pl n n), (((pl n n).length : Int), (((i + 1 : Nat) : Int), ()))), (r ++ [Go.IntKind.wrap .u32 (f + Go.IntKind.wrap .u32 (i : Int))], ())), by omega, ⟨i + 1, _, rfl, hlt, rfl, by simp [hr]⟩, ?_⟩
        simp only [pool_Pool_Held_L3, c1, decide_true, cond_true, getI_lt (pl n n) i (by omega), Option.bind_some, pl_get, hlt, if_true, c3, c2]
      · left
        have c1 : ¬ ((i : Int) < ((pl n n).length : Int)) := by omega
        exact ⟨((), (r, ())), by simp only [pool_Pool_Held_L3, c1, decide_false, cond_false], by show r.length = n; omega⟩) N n (((f, pl n n), (((pl n n).length : Int), ((0 : Int), ()))), (([] : List Int), ())) (by omega) ⟨0, [], rfl, by omega, by omega, rfl⟩
  unfold pool_Pool_Held pool_Pool_Held_L3_R
  exact ⟨o.2.1, by rw [g1]; rfl, g2⟩
theorem free_ok (f : Int) (n : Nat) (hn : n ≤ 100) (hN : 10000 ≤ N) : pool_Pool_Free N (f, pl n n) = some 0 := by
  obtain ⟨r, h1, h2⟩ := held_ok (N := N) f n hn hN
  have w1 : Go.IntKind.wrap .i64 (((pl n n).length : Int) - (r.length : Int)) = 0 := by rw [pl_len, h2, wrap64 (by omega) (by omega)]; omega
  unfold pool_Pool_Free
  simp only [h1, Option.bind_some, w1]
end
theorem law_PoolAll (first many : Int) (h1 : wfT (.int .u16) first) (h2 : wfT (.int .u8) many) : law31_PoolAll 200000 first many = some true := by
  have hf : 0 ≤ first ∧ first < 65536 := by
    have h := h1
    simp only [wfT, Lit.wf, Bool.and_eq_true, decide_eq_true_eq, IntKind.min, IntKind.max, IntKind.signed, IntKind.bits] at h
    simp at h
    omega
  have hm := wf_u8 h2
  have w0 : Go.IntKind.wrap .i64 many = many := wrap64 (by omega) (by omega)
  have t0 : Int.tmod many 40 = many % 40 := Int.tmod_eq_emod_of_nonneg hm.1
  obtain ⟨n, hn⟩ : ∃ n : Nat, many % 40 = (n : Int) := ⟨(many % 40).toNat, by omega⟩
  have hn40 : n < 40 := by omega
  have w1 : Go.IntKind.wrap .u32 first = first := wrapU32 (by omega) (by omega)
  have w2 : Go.IntKind.wrap .u32 (first + 1) = first + 1 := wrapU32 (by omega) (by omega)
  have w3 : Go.IntKind.wrap .u64 (first + 1) = first + 1 := by rw [IntKind.wrap_u64]; omega
  have w4 : Go.IntKind.wrap .u64 (n : Int) = (n : Int) := by rw [IntKind.wrap_u64]; omega
  have w5 : Go.IntKind.wrap .u64 ((first + 1) + (n : Int)) = (first + 1) + (n : Int) := by rw [IntKind.wrap_u64]; omega
  have hnew : pool_New 200000 (first + 1) (n : Int) = some ((first + 1, pl n 0), 0) := by
    have c1 : ¬ ((n : Int) < 0) := by omega
    have c2 : ¬ ((256 : Int) < (n : Int)) := by omega
    have c3 : ¬ (first + 1 = 0) := by omega
    have c4 : ¬ ((4294967296 : Int) < (first + 1) + (n : Int)) := by omega
    have c5 : (decide ((0 : Int) ≤ (n : Int) ∧ (n : Int) ≤ (n : Int)) && roomB n 16) = true := by
      rw [Bool.and_eq_true]
      exact ⟨decide_eq_true ⟨by omega, by omega⟩, roomB_of (by have := big_len; omega) (by omega)⟩
    unfold pool_New
    rw [w3, w4, w5]
    simp only [c1, c2, c3, c4, decide_false, cond_false, Int.toNat_natCast]
    rw [c5]
    simp only [cond_true, pl_zero]
  have hloop : law31_PoolAll_L4_R 200000 ((first, ((n : Int), ((0 : Int), ((n : Int), ((0 : Int), ()))))), ((first + 1, pl n 0), ())) = some (.inr ((first, ((n : Int), ((0 : Int), ()))), ((first + 1, pl n n), ()))) := by
    have h := gl_run (G := fun (X : ((Int × Int × Int × Int × Int × Unit) × (Int × List Pl) × Unit) → Option (((Bool × Unit) × Unit) ⊕ ((Int × Int × Int × Unit) × (Int × List Pl) × Unit))) c => law31_PoolAll_L4 200000 X c.1.1 c.1.2.1 c.1.2.2.1 c.1.2.2.2.1 c.1.2.2.2.2.1 c.2.1)
      (fun i => ((first, ((n : Int), ((0 : Int), ((n : Int), ((i : Int), ()))))), ((first + 1, pl n i), ()))) n (.inr ((first, ((n : Int), ((0 : Int), ()))), ((first + 1, pl n n), ()))) (fun X i hi => by
      have c1 : ((i : Int) < (n : Int)) := by omega
      have c2 : Go.IntKind.wrap .i64 ((i : Int) + 1) = ((i + 1 : Nat) : Int) := by rw [wrap64 (by omega) (by omega)]; omega
      have c3 : Go.IntKind.wrap .i64 ((100 : Int) + (i : Int)) = 100 + (i : Int) := wrap64 (by omega) (by omega)
      have c4 : Go.IntKind.wrap .u32 (i : Int) = (i : Int) := wrapU32 (by omega) (by omega)
      have c5 : Go.IntKind.wrap .u32 ((first + 1) + (i : Int)) = (first + 1) + (i : Int) := wrapU32 (by omega) (by omega)
      have hg := give_ok (N := 200000) (first + 1) n i (by omega) hi (by omega) (by omega)
      simp only [law31_PoolAll_L4, c1, decide_true, cond_true, c3, hg, Option.bind_some, Bool.not_true, cond_false, w1, w2, c4, c5, c2]) (fun X => by
      simp [law31_PoolAll_L4]) 200000 0 (by omega) (by omega)
    exact h
  have hfull := give_full (N := 200000) (first + 1) n (by omega) (by omega)
  obtain ⟨a, hfull⟩ := hfull
  have hfree := free_ok (N := 200000) (first + 1) n (by omega) (by omega)
  unfold law31_PoolAll
  simp only [w0, t0, hn, w1, w2, hnew, Option.bind_some, hloop, Sum.elim_inr, hfull, hfree, decide_true, Bool.not_true, cond_false]
  by_cases hz : (n : Int) = 0
  · simp only [hz, decide_true, cond_true, alive31, Option.bind_some]
  · have hm2 : n / 2 < n := by omega
    have t1 : Int.tdiv (n : Int) 2 = ((n / 2 : Nat) : Int) := by rw [Int.tdiv_eq_ediv_of_nonneg (by omega)]; omega
    have w6 : Go.IntKind.wrap .i64 ((n / 2 : Nat) : Int) = ((n / 2 : Nat) : Int) := wrap64 (by omega) (by omega)
    have w7 : Go.IntKind.wrap .i64 ((100 : Int) + ((n / 2 : Nat) : Int)) = 100 + ((n / 2 : Nat) : Int) := wrap64 (by omega) (by omega)
    have w8 : Go.IntKind.wrap .u32 ((n / 2 : Nat) : Int) = ((n / 2 : Nat) : Int) := wrapU32 (by omega) (by omega)
    have w9 : Go.IntKind.wrap .u32 ((first + 1) + ((n / 2 : Nat) : Int)) = (first + 1) + ((n / 2 : Nat) : Int) := wrapU32 (by omega) (by omega)
    have ht := take_ok (N := 200000) (first + 1) n (n / 2) (by omega) hm2 (by omega)
    obtain ⟨q, hg⟩ := give_again (N := 200000) (first + 1) n (n / 2) (by omega) hm2 (by omega) (by omega)
    simp only [hz, decide_false, cond_false, t1, w6, w7, ht, Option.bind_some, hg, decide_true, cond_true, w8, w9, alive31]
end Go.Proofs.Ytipjmjkfdekchaa
