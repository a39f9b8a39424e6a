/-
  Layer 18, on plain data: packets checked and made; there and back; the five laws.
-/
import Derived.Test.YtbaidlcbldbmdaaQY4
namespace Go.Proofs.Ytbaidlcbldbmdaa
set_option maxRecDepth 100000
open Go.RowKit
set_option linter.unusedVariables false
set_option linter.unusedSimpArgs false
set_option maxRecDepth 100000

/-- How many attributes of which kind. -/
def areB (l : List At2) (lo hi : Nat) (kind : Int) : Bool := (l.all fun a => decide (a.1 = kind)) && decide (lo ≤ l.length) && decide (l.length ≤ hi)
def fitB (kind : Int) (l : List At2) : Bool :=
  if kind = 1 then areB l 1 1 1 else if kind = 2 then areB l 1 1 4 else if kind = 3 then areB l 1 3 2 else if kind = 4 then areB l 1 1 3 else if kind = 5 ∨ kind = 6 then areB l 0 1 2 else decide (l.length = 0)
def badA : List At2 → Int
  | [] => 0
  | a :: r => if chk a = 0 then badA r else chk a
theorem badA_go {a : At2} {r : List At2} (h : chk a = 0) : badA (a :: r) = badA r := by unfold badA; rw [if_pos h]; cases r <;> rfl
theorem badA_bad {a : At2} {r : List At2} (h : ¬ chk a = 0) : badA (a :: r) = chk a := by unfold badA; rw [if_neg h]
def chkP (p : Pk) : Int := bif p.1 then (if p.2.1 < 1 ∨ 9 < p.2.1 then 9 else bif fitB p.2.1 p.2.2.1 then badA p.2.2.1 else 1) else 0
section
variable {N : Nat}
theorem are_ok (l : List At2) (lo hi : Nat) (kind : Int) (hl : l.length ≤ 9000) (hN : 10000 ≤ N) : packet_are N l (lo : Int) (hi : Int) kind = some (areB l lo hi kind) := by
  unfold packet_are areB packet_are_L2_R
  have key : ∀ (k i : Nat), i ≤ l.length → l.length - i < k → gl (fun (X : (((List ((Int) × (List (Int)))) × ((Int) × ((Int) × ((Int) × ((List ((Int) × (List (Int)))) × ((Int) × ((Int) × Unit))))))) × Unit) → Option (((((Bool) × Unit) × Unit) ⊕ (((List ((Int) × (List (Int)))) × ((Int) × ((Int) × Unit))) × Unit)))) c => packet_are_L2 N X c.1.1 c.1.2.1 c.1.2.2.1 c.1.2.2.2.1 c.1.2.2.2.2.1 c.1.2.2.2.2.2.1 c.1.2.2.2.2.2.2.1) k ((l, ((lo : Int), ((hi : Int), (kind, (l, ((l.length : Int), ((i : Int), ()))))))), ()) = some (bif (l.drop i).all (fun a => decide (a.1 = kind)) then .inr ((l, ((lo : Int), ((hi : Int), ()))), ()) else .inl ((false, ()), ())) := by
    intro k
    induction k with
    | zero => intro i _ h; omega
    | succ k ih =>
      intro i hi' hk
      rw [gl_succ]
      by_cases c : i < l.length
      · have c1 : ((i : Int) < (l.length : Int)) := by omega
        rw [List.drop_eq_getElem_cons c, List.all_cons]
        simp only [packet_are_L2, c1, decide_true, cond_true, getI_lt l i c, Option.bind_some, up64 c (by omega)]
        by_cases hb : l[i].1 = kind
        · rw [decide_eq_true hb]
          simp only [Bool.not_true, cond_false, Bool.true_and]
          exact ih (i + 1) (by omega) (by omega)
        · rw [decide_eq_false hb]
          rfl
      · have c1 : ¬ ((i : Int) < (l.length : Int)) := by omega
        have e : l.drop i = [] := List.drop_eq_nil_of_le (by omega)
        rw [e]
        simp only [packet_are_L2, c1, decide_false, cond_false, List.all_nil, cond_true]
  have h := key N 0 (by omega) (by omega)
  simp only [Int.natCast_zero, List.drop_zero] at h
  rw [h, Option.bind_some]
  cases l.all (fun a => decide (a.1 = kind)) with
  | false => rfl
  | true =>
    simp only [cond_true, Sum.elim_inr, Bool.true_and]
    by_cases h1 : lo ≤ l.length
    · have c1 : (lo : Int) ≤ (l.length : Int) := by omega
      by_cases h2 : l.length ≤ hi
      · have c2 : (l.length : Int) ≤ (hi : Int) := by omega
        simp [h1, c1, h2, c2]
      · have c2 : ¬ (l.length : Int) ≤ (hi : Int) := by omega
        simp [h1, c1, h2, c2]
    · have c1 : ¬ (lo : Int) ≤ (l.length : Int) := by omega
      simp [h1, c1]
theorem fits_ok (kind : Int) (l : List At2) (hl : l.length ≤ 9000) (hN : 10000 ≤ N) : packet_fits N kind l = some (fitB kind l) := by
  have e1 : packet_are N l 1 1 1 = some (areB l 1 1 1) := are_ok l 1 1 1 hl hN
  have e2 : packet_are N l 1 1 4 = some (areB l 1 1 4) := are_ok l 1 1 4 hl hN
  have e3 : packet_are N l 1 3 2 = some (areB l 1 3 2) := are_ok l 1 3 2 hl hN
  have e4 : packet_are N l 1 1 3 = some (areB l 1 1 3) := are_ok l 1 1 3 hl hN
  have e5 : packet_are N l 0 1 2 = some (areB l 0 1 2) := are_ok l 0 1 2 hl hN
  unfold packet_fits fitB
  simp only [e1, e2, e3, e4, e5, Option.bind_some]
  by_cases h1 : kind = 1
  · simp [h1]
  · by_cases h2 : kind = 2
    · simp [h2]
    · by_cases h3 : kind = 3
      · simp [h3]
      · by_cases h4 : kind = 4
        · simp [h4]
        · by_cases h5 : kind = 5
          · simp [h5]
          · by_cases h6 : kind = 6
            · simp [h6]
            · simp [h1, h2, h3, h4, h5, h6]
theorem map_rep (l : List At2) (kind : Int) (n : Nat) : (l.map Prod.fst = List.replicate n kind) ↔ ((l.all fun a => decide (a.1 = kind)) = true ∧ l.length = n) := by
  rw [List.eq_replicate_iff, List.length_map, List.all_eq_true]
  constructor
  · rintro ⟨h1, h2⟩
    exact ⟨fun a ha => decide_eq_true (h2 _ (List.mem_map_of_mem ha)), h1⟩
  · rintro ⟨h1, h2⟩
    refine ⟨h2, fun b hb => ?_⟩
    obtain ⟨a, ha, rfl⟩ := List.mem_map.1 hb
    exact of_decide_eq_true (h1 a ha)
theorem rep0 (l : List At2) (kind : Int) : decide (l.map Prod.fst = []) = ((l.all fun a => decide (a.1 = kind)) && decide (l.length = 0)) := by
  rw [Bool.eq_iff_iff, decide_eq_true_eq, Bool.and_eq_true, decide_eq_true_eq]
  exact map_rep l kind 0
theorem rep1 (l : List At2) (kind : Int) : decide (l.map Prod.fst = [kind]) = ((l.all fun a => decide (a.1 = kind)) && decide (l.length = 1)) := by
  rw [Bool.eq_iff_iff, decide_eq_true_eq, Bool.and_eq_true, decide_eq_true_eq]
  exact map_rep l kind 1
theorem rep2 (l : List At2) (kind : Int) : decide (l.map Prod.fst = [kind, kind]) = ((l.all fun a => decide (a.1 = kind)) && decide (l.length = 2)) := by
  rw [Bool.eq_iff_iff, decide_eq_true_eq, Bool.and_eq_true, decide_eq_true_eq]
  exact map_rep l kind 2
theorem rep3 (l : List At2) (kind : Int) : decide (l.map Prod.fst = [kind, kind, kind]) = ((l.all fun a => decide (a.1 = kind)) && decide (l.length = 3)) := by
  rw [Bool.eq_iff_iff, decide_eq_true_eq, Bool.and_eq_true, decide_eq_true_eq]
  exact map_rep l kind 3
theorem num1 (n : Nat) : (decide (1 ≤ n) && decide (n ≤ 1)) = decide (n = 1) := by rw [Bool.eq_iff_iff]; simp only [Bool.and_eq_true, decide_eq_true_eq]; omega
theorem num3 (n : Nat) : (decide (1 ≤ n) && decide (n ≤ 3)) = (decide (n = 1) || (decide (n = 2) || decide (n = 3))) := by rw [Bool.eq_iff_iff]; simp only [Bool.and_eq_true, Bool.or_eq_true, decide_eq_true_eq]; omega
theorem num01 (n : Nat) : (decide (0 ≤ n) && decide (n ≤ 1)) = (decide (n = 0) || decide (n = 1)) := by rw [Bool.eq_iff_iff]; simp only [Bool.and_eq_true, Bool.or_eq_true, decide_eq_true_eq]; omega
theorem badL (l : List At2) (hl : l.length ≤ 9000) (hw : ∀ a ∈ l, wfA a) (hN : 10000 ≤ N) : packet_Check_L8_R N ((l, ((l.length : Int), ((0 : Int), ()))), ()) = some (bif decide (badA l = 0) then .inr ((), ()) else .inl ((badA l, ()), ())) := by
  have key : ∀ (k i : Nat), i ≤ l.length → l.length - i < k → gl (fun (X : (((List ((Int) × (List (Int)))) × ((Int) × ((Int) × Unit))) × Unit) → Option (((((Int) × Unit) × Unit) ⊕ (Unit × Unit)))) c => packet_Check_L8 N X c.1.1 c.1.2.1 c.1.2.2.1) k ((l, ((l.length : Int), ((i : Int), ()))), ()) = some (bif decide (badA (l.drop i) = 0) then .inr ((), ()) else .inl ((badA (l.drop i), ()), ())) := by
    intro k
    induction k with
    | zero => intro i _ h; omega
    | succ k ih =>
      intro i hi hk
      rw [gl_succ]
      by_cases c : i < l.length
      · have c1 : ((i : Int) < (l.length : Int)) := by omega
        rw [List.drop_eq_getElem_cons c]
        have hc : attr_Check N l[i] = some (chk l[i]) := chk_ok _ (hw _ (List.getElem_mem c)).2
        simp only [packet_Check_L8, c1, decide_true, cond_true, getI_lt l i c, Option.bind_some, up64 c (by omega), peta, hc]
        by_cases hb : chk l[i] = 0
        · rw [badA_go hb, decide_eq_true hb]
          simp only [Bool.not_true, cond_false]
          exact ih (i + 1) (by omega) (by omega)
        · rw [badA_bad hb, decide_eq_false hb]
          rfl
      · have c1 : ¬ ((i : Int) < (l.length : Int)) := by omega
        have e : l.drop i = [] := List.drop_eq_nil_of_le (by omega)
        rw [e]
        simp only [packet_Check_L8, c1, decide_false, cond_false, badA, decide_true, cond_true]
  have h := key N 0 (by omega) (by omega)
  simp only [Int.natCast_zero, List.drop_zero] at h
  exact h
theorem pchk_ok (p : Pk) (hp : wfP p) (op : okP p) (hN : 10000 ≤ N) : packet_Check N p = some (chkP p) := by
  unfold packet_Check chkP
  obtain ⟨c, kind, l, d⟩ := p
  have ol : l.length ≤ 12 := op.1
  cases c with
  | false => rfl
  | true =>
    simp only [Bool.not_true, cond_true, cond_false]
    by_cases h1 : kind < 1
    · simp [h1]
    · by_cases h2 : 9 < kind
      · simp [h1, h2]
      · have h3 : ¬ (kind < 1 ∨ 9 < kind) := by omega
        simp only [h1, h2, h3, decide_false, cond_false, if_false, fits_ok kind l (by omega) hN, Option.bind_some]
        cases fitB kind l with
        | false => rfl
        | true =>
          simp only [Bool.not_true, cond_true, cond_false]
          rw [badL l (by omega) hp.2.1 hN, Option.bind_some]
          by_cases hb : badA l = 0 <;> simp [hb]
theorem pof_ok (kind : Int) (l : List At2) (hl : l.length ≤ 12) (hs : ∀ a ∈ l, a.2.length ≤ 5000) (hN : 10000 ≤ N) : packet_Of N kind l = some (true, kind, l, []) := by
  have h := gl_run (G := fun (X : (((List ((Int) × (List (Int)))) × ((Int) × ((Int) × Unit))) × ((Bool) × ((Int) × ((List (Int)) × ((Bool) × ((Int) × ((List (Int)) × ((List ((Int) × (List (Int)))) × ((List ((Int) × (List (Int)))) × Unit))))))))) → Option ((Unit × ((Bool) × ((Int) × ((List (Int)) × ((Bool) × ((Int) × ((List (Int)) × ((List ((Int) × (List (Int)))) × ((List ((Int) × (List (Int)))) × Unit))))))))))) c => packet_Of_L3 N X c.1.1 c.1.2.1 c.1.2.2.1 c.2.1 c.2.2.1 c.2.2.2.1 c.2.2.2.2.1 c.2.2.2.2.2.1 c.2.2.2.2.2.2.1 c.2.2.2.2.2.2.2.1 c.2.2.2.2.2.2.2.2.1)
    (fun i => ((l, ((l.length : Int), ((i : Int), ()))), (false, ((0 : Int), (([] : List Int), (true, (kind, (([] : List Int), (([] : List At2), (l.take i, ())))))))))) l.length ((), (false, ((0 : Int), (([] : List Int), (true, (kind, (([] : List Int), (([] : List At2), (l, ()))))))))) (fun X i hi => by
    have c1 : ((i : Int) < (l.length : Int)) := by omega
    have hc : slices_Clone_byte_byte N l[i].2 = some l[i].2 := oclone _ (by have := hs _ (List.getElem_mem hi); omega)
    have r : roomB ((l.take i).length + ([(l[i].1, l[i].2)] : List At2).length) 32 = true := by
      have h1 : (l.take i).length ≤ 12 := by rw [List.length_take]; omega
      have h2 : ([(l[i].1, l[i].2)] : List At2).length = 1 := rfl
      exact roomB_of (by have := big_len; omega) (by omega)
    simp only [packet_Of_L3, c1, decide_true, cond_true, getI_lt l i hi, Option.bind_some, hc, r, up64 hi (by omega), take_up l hi, peta]) (fun X => by
    simp [packet_Of_L3]) N 0 (by omega) (by omega)
  unfold packet_Of packet_Of_L3_R
  simp only [Int.natCast_zero, List.take_zero] at h
  rw [h]
  rfl
end
end Go.Proofs.Ytbaidlcbldbmdaa
