/-
  Layer 18, on plain data: packets copied, bounded, the same, laid.
-/
import Derived.Test.YtpijcgohhjgdbaaQRVP1
namespace Go.Proofs.Ytpijcgohhjgdbaa
set_option maxRecDepth 100000
open Go.RowKit
set_option linter.unusedVariables false
set_option linter.unusedSimpArgs false
set_option maxRecDepth 100000

abbrev Pk := Bool × Int × List At2 × List Int
def wfP (p : Pk) : Prop := (0 ≤ p.2.1 ∧ p.2.1 < 65536) ∧ (∀ a ∈ p.2.2.1, wfA a) ∧ AllB p.2.2.2
/-- Small packets. -/
def okP (p : Pk) : Prop := p.2.2.1.length ≤ 12 ∧ (∀ a ∈ p.2.2.1, a.2.length ≤ 5000) ∧ p.2.2.2.length ≤ 5000
theorem up64 {i n : Nat} (h : i < n) (hn : n ≤ 1000000000) : Go.IntKind.wrap .i64 ((i : Int) + 1) = ((i + 1 : Nat) : Int) := by rw [wrap64 (by omega) (by omega)]; omega
theorem peta {α β : Type} (p : α × β) : (p.1, p.2) = p := rfl
theorem take_up {α : Type} (l : List α) {i : Nat} (hi : i < l.length) : l.take (i + 1) = l.take i ++ [l[i]] := by rw [List.take_add_one, List.getElem?_eq_getElem hi]; rfl
section
variable {N : Nat}
/-! ### Copied -/
theorem theirs_ok (p : Pk) (hl : p.2.2.1.length ≤ 9000) (hN : 10000 ≤ N) : law19_theirs N p = some p := by
  obtain ⟨c, k, l, d⟩ := p
  simp only at hl
  have h := gl_run (G := fun (X : (((List ((Int) × (List (Int)))) × ((Int) × ((Int) × Unit))) × ((Bool) × ((Int) × ((List (Int)) × ((Bool) × ((Int) × ((List (Int)) × ((List ((Int) × (List (Int)))) × ((List ((Int) × (List (Int)))) × Unit))))))))) → Option ((Unit × ((Bool) × ((Int) × ((List (Int)) × ((Bool) × ((Int) × ((List (Int)) × ((List ((Int) × (List (Int)))) × ((List ((Int) × (List (Int)))) × Unit))))))))))) c => law19_theirs_L3 N X c.1.1 c.1.2.1 c.1.2.2.1 c.2.1 c.2.2.1 c.2.2.2.1 c.2.2.2.2.1 c.2.2.2.2.2.1 c.2.2.2.2.2.2.1 c.2.2.2.2.2.2.2.1 c.2.2.2.2.2.2.2.2.1)
    (fun i => ((l, ((l.length : Int), ((i : Int), ()))), (false, ((0 : Int), (([] : List Int), (c, (k, (d, (([] : List At2), (l.take i, ())))))))))) l.length ((), (false, ((0 : Int), (([] : List Int), (c, (k, (d, (([] : List At2), (l, ()))))))))) (fun X i hi => by
    have c1 : ((i : Int) < (l.length : Int)) := by omega
    have r : roomB ((l.take i).length + ([(l[i].1, l[i].2)] : List At2).length) 32 = true := by
      have h1 : (l.take i).length ≤ 9000 := by rw [List.length_take]; omega
      have h2 : ([(l[i].1, l[i].2)] : List At2).length = 1 := rfl
      exact roomB_of (by have := big_len; omega) (by omega)
    simp only [law19_theirs_L3, c1, decide_true, cond_true, getI_lt l i hi, Option.bind_some, r, up64 hi (by omega), take_up l hi, peta]) (fun X => by
    simp [law19_theirs_L3]) N 0 (by omega) (by omega)
  unfold law19_theirs law19_theirs_L3_R
  simp only [Int.natCast_zero, List.take_zero] at h
  rw [h]
  rfl
/-! ### Bounded -/
theorem minI_nat (n : Nat) : ∃ m : Nat, minI (n : Int) 12 = (m : Int) ∧ m ≤ n ∧ m ≤ 12 ∧ (n ≤ 12 → m = n) := by
  refine ⟨min n 12, ?_, by omega, by omega, by omega⟩
  unfold minI
  split <;> omega
theorem seq_ok (a b : List Int) (h : a.length ≤ 9000) (hN : 10000 ≤ N) : slices_Equal_byte_byte N a b = some (decide (a = b)) := by
  unfold slices_Equal_byte_byte slices_Equal_byte_byte_L4_R
  by_cases hl : a.length = b.length
  · have key : ∀ (k i : Nat), i ≤ a.length → a.length - i < k → gl (fun (X : (((List (Int)) × ((List (Int)) × ((Int) × ((Int) × Unit)))) × Unit) → Option (((((Bool) × Unit) × Unit) ⊕ (Unit × Unit)))) c => slices_Equal_byte_byte_L4 N X c.1.1 c.1.2.1 c.1.2.2.1 c.1.2.2.2.1) k ((a, (b, ((a.length : Int), ((i : Int), ())))), ()) = some (bif decide (a.drop i = b.drop i) then .inr ((), ()) else .inl ((false, ()), ())) := by
      intro k
      induction k with
      | zero => intro i _ h; omega
      | succ k ih =>
        intro i hi hk
        rw [gl_succ]
        by_cases c : i < a.length
        · have c1 : ((i : Int) < (a.length : Int)) := by omega
          have cb : i < b.length := by omega
          rw [List.drop_eq_getElem_cons c, List.drop_eq_getElem_cons cb]
          simp only [slices_Equal_byte_byte_L4, c1, decide_true, cond_true, getI_lt a i c, getI_lt b i cb, Option.bind_some, up64 c (by omega)]
          by_cases hb : a[i] = b[i]
          · rw [decide_eq_true hb]
            simp only [Bool.not_true, cond_false, hb, List.cons.injEq, true_and]
            exact ih (i + 1) (by omega) (by omega)
          · have ne : ¬ (a[i] :: a.drop (i + 1) = b[i] :: b.drop (i + 1)) := fun h => hb (List.cons.inj h).1
            rw [decide_eq_false hb, decide_eq_false ne]
            rfl
        · have c1 : ¬ ((i : Int) < (a.length : Int)) := by omega
          have e : a.drop i = [] := List.drop_eq_nil_of_le (by omega)
          have e' : b.drop i = [] := List.drop_eq_nil_of_le (by omega)
          rw [e, e']
          simp only [slices_Equal_byte_byte_L4, c1, decide_false, cond_false, decide_true, cond_true]
    have hk := key N 0 (by omega) (by omega)
    simp only [Int.natCast_zero, List.drop_zero] at hk
    have c0 : ((a.length : Int) = (b.length : Int)) := by omega
    rw [decide_eq_true c0]
    simp only [Bool.not_true, cond_false]
    rw [hk]
    by_cases e : a = b <;> simp [e]
  · have c0 : ¬ ((a.length : Int) = (b.length : Int)) := by omega
    have e : a ≠ b := fun h => hl (by rw [h])
    simp [c0, e]
theorem psame_ok (p q : Pk) (hp : wfP p) (hq : wfP q) (op : okP p) (oq : okP q) (hN : 10000 ≤ N) : packet_Same N p q = some (decide (p = q)) := by
  obtain ⟨c, k, l, d⟩ := p
  obtain ⟨c', k', l', d'⟩ := q
  have ol : l.length ≤ 12 := op.1
  unfold packet_Same packet_Same_1_slices_EqualFunc_api_Attr_api_Attr_api_Attr_api_Attr_L4_R
  simp only
  by_cases hc : c = c'
  · subst hc
    by_cases hk : k = k'
    · subst hk
      by_cases hl : l.length = l'.length
      · have key : ∀ (f i : Nat), i ≤ l.length → l.length - i < f → gl (fun (X : (((List ((Int) × (List (Int)))) × ((List ((Int) × (List (Int)))) × ((Int) × ((Int) × Unit)))) × Unit) → Option (((((Bool) × Unit) × Unit) ⊕ (Unit × Unit)))) c => packet_Same_1_slices_EqualFunc_api_Attr_api_Attr_api_Attr_api_Attr_L4 N X c.1.1 c.1.2.1 c.1.2.2.1 c.1.2.2.2.1) f ((l', (l, ((l.length : Int), ((i : Int), ())))), ()) = some (bif decide (l.drop i = l'.drop i) then .inr ((), ()) else .inl ((false, ()), ())) := by
          intro f
          induction f with
          | zero => intro i _ h; omega
          | succ f ih =>
            intro i hi hf
            rw [gl_succ]
            by_cases c : i < l.length
            · have c1 : ((i : Int) < (l.length : Int)) := by omega
              have cb : i < l'.length := by omega
              rw [List.drop_eq_getElem_cons c, List.drop_eq_getElem_cons cb]
              have ha : attr_Same N l[i] l'[i] = some (decide (l[i] = l'[i])) := asame_ok _ _ (hp.2.1 _ (List.getElem_mem c)) (hq.2.1 _ (List.getElem_mem cb)) (by have := op.2.1 _ (List.getElem_mem c); omega) (by have := oq.2.1 _ (List.getElem_mem cb); omega)
              simp only [packet_Same_1_slices_EqualFunc_api_Attr_api_Attr_api_Attr_api_Attr_L4, c1, decide_true, cond_true, getI_lt l i c, getI_lt l' i cb, Option.bind_some, up64 c (by omega), peta, ha]
              by_cases hb : l[i] = l'[i]
              · rw [decide_eq_true hb]
                simp only [Bool.not_true, cond_false, hb, List.cons.injEq, true_and]
                exact ih (i + 1) (by omega) (by omega)
              · have ne : ¬ (l[i] :: l.drop (i + 1) = l'[i] :: l'.drop (i + 1)) := fun h => hb (List.cons.inj h).1
                rw [decide_eq_false hb, decide_eq_false ne]
                rfl
            · have c1 : ¬ ((i : Int) < (l.length : Int)) := by omega
              have e : l.drop i = [] := List.drop_eq_nil_of_le (by omega)
              have e' : l'.drop i = [] := List.drop_eq_nil_of_le (by omega)
              rw [e, e']
              simp only [packet_Same_1_slices_EqualFunc_api_Attr_api_Attr_api_Attr_api_Attr_L4, c1, decide_false, cond_false, decide_true, cond_true]
        have hkey := key N 0 (by omega) (by omega)
        simp only [Int.natCast_zero, List.drop_zero] at hkey
        have c0 : ((l.length : Int) = (l'.length : Int)) := by omega
        have hs : slices_Equal_byte_byte N d d' = some (decide (d = d')) := seq_ok d d' (by have : d.length ≤ 5000 := op.2.2; omega) hN
        simp only [beq_self_eq_true, decide_true, cond_true]
        rw [decide_eq_true c0]
        simp only [Bool.not_true, cond_false]
        rw [hkey, Option.bind_some]
        simp only [hs, Option.bind_some]
        by_cases e : l = l'
        · by_cases e2 : d = d' <;> simp [e, e2]
        · simp [e]
      · have c0 : ¬ ((l.length : Int) = (l'.length : Int)) := by omega
        have e : l ≠ l' := fun h => hl (by rw [h])
        simp [c0, e]
    · simp [hk]
  · have hb : (c == c') = false := by cases c <;> cases c' <;> first | rfl | exact absurd rfl hc
    rw [hb]
    simp [hc]
end
end Go.Proofs.Ytpijcgohhjgdbaa
