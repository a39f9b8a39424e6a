/-
  Layer 18, on plain data: packets measured and parsed.
-/
import Derived.Test.YtpijcgohhjgdbaaQRVP3
namespace Go.Proofs.Ytpijcgohhjgdbaa
set_option maxRecDepth 100000
open Go.RowKit
set_option linter.unusedVariables false
set_option linter.unusedSimpArgs false
set_option maxRecDepth 100000

/-! ### Measured -/
def lenS (b : List Int) : Int × Int :=
  if b.length < 4 then (0, 4) else if b.getD 0 0 ≠ 16 then (0, 15) else
    if 1 < b.getD 1 0 ∨ b.getD 2 0 * 256 + b.getD 3 0 < (if b.getD 1 0 = 1 then 8 else 5) ∨ 4095 < b.getD 2 0 * 256 + b.getD 3 0 then (0, 3) else (b.getD 2 0 * 256 + b.getD 3 0, 0)
/-- Attributes taken one behind another: what is taken, what is left, what is wrong. -/
def decL : Nat → List Int → (List At2 × List Int) × Int
  | 0, b => (([], b), 0)
  | n + 1, b => if (parA b).2.2 = 0 then (if (decL n (b.drop (parA b).2.1.toNat)).2 = 0 then (((parA b).1 :: (decL n (b.drop (parA b).2.1.toNat)).1.1, (decL n (b.drop (parA b).2.1.toNat)).1.2), 0) else (([], []), (decL n (b.drop (parA b).2.1.toNat)).2)) else (([], []), (parA b).2.2)
def decW (acc : List At2) (r : (List At2 × List Int) × Int) : (List At2 × List Int) × Int := if r.2 = 0 then ((acc ++ r.1.1, r.1.2), 0) else (([], []), r.2)
theorem dec_succ (n : Nat) (b : List Int) : decL (n + 1) b = if (parA b).2.2 = 0 then (if (decL n (b.drop (parA b).2.1.toNat)).2 = 0 then (((parA b).1 :: (decL n (b.drop (parA b).2.1.toNat)).1.1, (decL n (b.drop (parA b).2.1.toNat)).1.2), 0) else (([], []), (decL n (b.drop (parA b).2.1.toNat)).2)) else (([], []), (parA b).2.2) := rfl
theorem decW_go (acc : List At2) (n : Nat) (b : List Int) (h : (parA b).2.2 = 0) : decW acc (decL (n + 1) b) = decW (acc ++ [(parA b).1]) (decL n (b.drop (parA b).2.1.toNat)) := by
  rw [dec_succ, if_pos h]
  unfold decW
  by_cases hr : (decL n (b.drop (parA b).2.1.toNat)).2 = 0
  · simp [hr]
  · simp [hr]
theorem decW_bad (acc : List At2) (n : Nat) (b : List Int) (h : ¬ (parA b).2.2 = 0) : decW acc (decL (n + 1) b) = (([], []), (parA b).2.2) := by
  rw [dec_succ, if_neg h]
  unfold decW
  simp [h]
theorem decW_nil (r : (List At2 × List Int) × Int) (h : r.2 = 0) : decW [] r = r := by
  unfold decW
  rw [if_pos h]
  obtain ⟨⟨x, y⟩, z⟩ := r
  simp only at h
  subst h
  rfl
/-- What is laid is taken again. -/
theorem dec_encL : ∀ (l : List At2) (b : List Int), (∀ a ∈ l, wfA a) → (encL l).2 = 0 → decL l.length ((encL l).1 ++ b) = ((l, b), 0)
  | [], b, _, _ => rfl
  | a :: r, b, hw, h => by
    rw [encL_cons] at h ⊢
    by_cases h1 : (layA a).2 = 0
    · rw [if_pos h1] at h ⊢
      by_cases h2 : (encL r).2 = 0
      · rw [if_pos h2] at h ⊢
        have ih := dec_encL r b (fun x hx => hw x (List.mem_cons_of_mem _ hx)) h2
        have hb := layA_back a (hw a List.mem_cons_self) ((encL r).1 ++ b) h1
        rw [List.length_cons]
        simp only [List.append_assoc]
        rw [dec_succ, hb]
        simp only [if_true, Int.toNat_natCast, List.drop_left, ih]
      · rw [if_neg h2] at h; exact absurd h h2
    · rw [if_neg h1] at h; exact absurd h h1
/-- What is taken is laid again. -/
theorem encL_dec : ∀ (n : Nat) (b : List Int), AllB b → (decL n b).2 = 0 → (decL n b).1.1.length = n ∧ (∀ a ∈ (decL n b).1.1, wfA a ∧ a.2.length ≤ b.length) ∧ ∃ e, encL (decL n b).1.1 = (e, 0) ∧ e ++ (decL n b).1.2 = b
  | 0, b, _, _ => ⟨rfl, (fun a ha => absurd ha (by simp [decL])), [], rfl, rfl⟩
  | n + 1, b, hw, h => by
    rw [dec_succ] at h ⊢
    by_cases h1 : (parA b).2.2 = 0
    · rw [if_pos h1] at h ⊢
      by_cases h2 : (decL n (b.drop (parA b).2.1.toNat)).2 = 0
      · rw [if_pos h2]
        obtain ⟨i1, i2, e, i3, i4⟩ := encL_dec n (b.drop (parA b).2.1.toNat) (hw.drop _) h2
        obtain ⟨b1, b2, b3⟩ := parA_back b hw h1
        have hpw := parA_wf b hw
        refine ⟨by simp only [List.length_cons, i1], fun a ha => ?_, (b.take (parA b).2.1.toNat) ++ e, ?_, ?_⟩
        · rcases List.mem_cons.1 ha with rfl | ha
          · exact hpw
          · have := i2 a ha
            refine ⟨this.1, ?_⟩
            have h3 := this.2
            rw [List.length_drop] at h3
            omega
        · show encL ((parA b).1 :: _) = _
          rw [encL_cons, b3, if_pos rfl, i3, if_pos rfl]
        · rw [List.append_assoc]
          show _ ++ (e ++ (decL n (b.drop (parA b).2.1.toNat)).1.2) = b
          rw [i4, List.take_append_drop]
      · rw [if_neg h2] at h; exact absurd h h2
    · rw [if_neg h1] at h; exact absurd h h1
section
variable {N : Nat}
theorem plen_ok (b : List Int) (hw : AllB b) (hN : 10000 ≤ N) : packet_Length N b = some (lenS b) := by
  unfold packet_Length lenS
  by_cases h4 : b.length < 4
  · have c1 : (b.length : Int) < 4 := by omega
    rw [decide_eq_true c1, if_pos h4]; rfl
  · have c1 : ¬ (b.length : Int) < 4 := by omega
    obtain ⟨x, y, z, u, r, rfl⟩ := list4 (by omega : 4 ≤ b.length)
    have by' := hw y (by simp)
    have bz := hw z (by simp)
    have bu := hw u (by simp)
    rw [decide_eq_false c1, if_neg h4]
    have s1 : subI (x :: y :: z :: u :: r) (2 : Int) 4 = some [z, u] := subI_nat _ (i := 2) (j := 4) rfl rfl (by omega) (by simp)
    have g0 : getI (x :: y :: z :: u :: r) (0 : Int) = some x := rfl
    have g1 : getI (x :: y :: z :: u :: r) (1 : Int) = some y := rfl
    have w1 : Go.IntKind.wrap .i64 (z * 256 + u) = z * 256 + u := wrap64 (by omega) (by omega)
    simp only [cond_false, s1, Option.bind_some, oget2 z u bz bu hN, g0, g1, w1, List.getD_cons_zero, List.getD_cons_succ]
    by_cases hx : x = 16
    · by_cases hy : y = 1
      · by_cases h1 : z * 256 + u < 8 <;> by_cases h2 : 4095 < z * 256 + u <;> simp [hx, hy, h1, h2]
      · by_cases hy2 : 1 < y
        · simp [hx, hy, hy2]
        · by_cases h1 : z * 256 + u < 5 <;> by_cases h2 : 4095 < z * 256 + u <;> simp [hx, hy, hy2, h1, h2]
    · simp [hx]
theorem prlen_ok (b : List Int) (hw : AllB b) (hN : 10000 ≤ N) : ref18_Length N b = some (lenS b) := by
  unfold ref18_Length lenS
  by_cases h4 : b.length < 4
  · have c1 : (b.length : Int) < 4 := by omega
    rw [decide_eq_true c1, if_pos h4]; rfl
  · have c1 : ¬ (b.length : Int) < 4 := by omega
    obtain ⟨x, y, z, u, r, rfl⟩ := list4 (by omega : 4 ≤ b.length)
    have by' := hw y (by simp)
    have bz := hw z (by simp)
    have bu := hw u (by simp)
    rw [decide_eq_false c1, if_neg h4]
    have s1 : subI (x :: y :: z :: u :: r) (2 : Int) 4 = some [z, u] := subI_nat _ (i := 2) (j := 4) rfl rfl (by omega) (by simp)
    have g0 : getI (x :: y :: z :: u :: r) (0 : Int) = some x := rfl
    have g1 : getI (x :: y :: z :: u :: r) (1 : Int) = some y := rfl
    have w1 : Go.IntKind.wrap .i64 (z * 256 + u) = z * 256 + u := wrap64 (by omega) (by omega)
    simp only [cond_false, s1, Option.bind_some, rnum2 z u bz bu hN, g0, g1, w1, List.getD_cons_zero, List.getD_cons_succ]
    by_cases hx : x = 16
    · by_cases hy : y = 1
      · by_cases h0 : z * 256 + u < 5
        · have h1 : z * 256 + u < 8 := by omega
          simp [hx, hy, h0, h1]
        · by_cases h1 : z * 256 + u < 8 <;> by_cases h2 : 4095 < z * 256 + u <;> simp [hx, hy, h0, h1, h2]
      · by_cases hy2 : 1 < y
        · simp [hx, hy, hy2]
        · by_cases h1 : z * 256 + u < 5 <;> by_cases h2 : 4095 < z * 256 + u <;> simp [hx, hy, hy2, h1, h2]
    · simp [hx]
/-! ### Attributes taken -/
theorem attrsL (many : Nat) (hm : many ≤ 8) (hN : 10000 ≤ N) : ∀ (k i : Nat) (b : List Int) (acc : List At2), AllB b → b.length ≤ 5000 → i ≤ many → many - i < k → acc.length = i → gl (fun (X : (((List (Int)) × ((Int) × ((Int) × Unit))) × ((List ((Int) × (List (Int)))) × Unit)) → Option (((((List ((Int) × (List (Int)))) × ((Int) × Unit)) × Unit) ⊕ (((List (Int)) × Unit) × ((List ((Int) × (List (Int)))) × Unit))))) c => packet_attrs_L5 N X c.1.1 c.1.2.1 c.1.2.2.1 c.2.1) k ((b, ((many : Int), ((i : Int), ()))), (acc, ())) = some (bif decide ((decW acc (decL (many - i) b)).2 = 0) then .inr (((decW acc (decL (many - i) b)).1.2, ()), ((decW acc (decL (many - i) b)).1.1, ())) else .inl (([], ((decW acc (decL (many - i) b)).2, ())), ())) := by
  intro k
  induction k with
  | zero => intro i b acc _ _ _ h; omega
  | succ k ih =>
    intro i b acc hw hb hi hk ha
    rw [gl_succ]
    by_cases c : i < many
    · have c1 : ((i : Int) < (many : Int)) := by omega
      obtain ⟨m, hm'⟩ : ∃ m, many - i = m + 1 := ⟨many - i - 1, by omega⟩
      have hpar := apar_ok (N := N) b (by omega) hw hN
      have r : roomB (acc.length + ([((parA b).1.1, (parA b).1.2)] : List At2).length) 32 = true := by
        have h2 : ([((parA b).1.1, (parA b).1.2)] : List At2).length = 1 := rfl
        exact roomB_of (by have := big_len; omega) (by omega)
      rw [hm']
      simp only [packet_attrs_L5, c1, decide_true, cond_true, Option.bind_some, hpar, r]
      by_cases hz : (parA b).2.2 = 0
      · obtain ⟨b1, b2, b3⟩ := parA_back b hw hz
        have hd := dropI_nat b (a := (parA b).2.1) (i := (parA b).2.1.toNat) (by omega) (by omega)
        rw [decW_go _ _ _ hz, decide_eq_true hz]
        simp only [Bool.not_true, cond_false, hd, Option.bind_some, up64 c (by omega), peta]
        have := ih (i + 1) (b.drop (parA b).2.1.toNat) (acc ++ [(parA b).1]) (hw.drop _) (by rw [List.length_drop]; omega) (by omega) (by omega) (by simp [ha])
        rw [show many - (i + 1) = m by omega] at this
        exact this
      · rw [decW_bad _ _ _ hz, decide_eq_false hz]
        simp [hz]
    · have c1 : ¬ ((i : Int) < (many : Int)) := by omega
      have e : many - i = 0 := by omega
      rw [e]
      simp [packet_attrs_L5, c1, decL, decW]
theorem rattrsL (many : Nat) (kind : Int) (hm : many ≤ 8) (hN : 10000 ≤ N) : ∀ (k i : Nat) (b : List Int) (acc : List At2), AllB b → b.length ≤ 5000 → i ≤ many → many - i < k → acc.length = i → gl (fun (X : (((Int) × ((List (Int)) × ((Int) × Unit))) × ((Bool) × ((Int) × ((List (Int)) × ((Bool) × ((Int) × ((List (Int)) × ((List ((Int) × (List (Int)))) × ((List ((Int) × (List (Int)))) × Unit))))))))) → Option (((((Int) × Unit) × ((Bool) × ((Int) × Unit))) ⊕ (((List (Int)) × Unit) × ((Bool) × ((Int) × ((List (Int)) × ((Bool) × ((Int) × ((List (Int)) × ((List ((Int) × (List (Int)))) × ((List ((Int) × (List (Int)))) × Unit)))))))))))) c => ref18_Parse_L16 N X c.1.1 c.1.2.1 c.1.2.2.1 c.2.1 c.2.2.1 c.2.2.2.1 c.2.2.2.2.1 c.2.2.2.2.2.1 c.2.2.2.2.2.2.1 c.2.2.2.2.2.2.2.1 c.2.2.2.2.2.2.2.2.1) k (((many : Int), (b, ((i : Int), ()))), (false, ((0 : Int), (([] : List Int), (true, (kind, (([] : List Int), (([] : List At2), (acc, ()))))))))) = some (bif decide ((decW acc (decL (many - i) b)).2 = 0) then .inr (((decW acc (decL (many - i) b)).1.2, ()), (false, ((0 : Int), (([] : List Int), (true, (kind, (([] : List Int), (([] : List At2), ((decW acc (decL (many - i) b)).1.1, ()))))))))) else .inl (((decW acc (decL (many - i) b)).2, ()), (false, ((0 : Int), ())))) := by
  intro k
  induction k with
  | zero => intro i b acc _ _ _ h; omega
  | succ k ih =>
    intro i b acc hw hb hi hk ha
    rw [gl_succ]
    by_cases c : i < many
    · have c1 : ((i : Int) < (many : Int)) := by omega
      obtain ⟨m, hm'⟩ : ∃ m, many - i = m + 1 := ⟨many - i - 1, by omega⟩
      have hpar := arpar_ok (N := N) b (by omega) hw hN
      have r : roomB (acc.length + ([((parA b).1.1, (parA b).1.2)] : List At2).length) 32 = true := by
        have h2 : ([((parA b).1.1, (parA b).1.2)] : List At2).length = 1 := rfl
        exact roomB_of (by have := big_len; omega) (by omega)
      rw [hm']
      simp only [ref18_Parse_L16, c1, decide_true, cond_true, Option.bind_some, hpar, r]
      by_cases hz : (parA b).2.2 = 0
      · obtain ⟨b1, b2, b3⟩ := parA_back b hw hz
        have hd := dropI_nat b (a := (parA b).2.1) (i := (parA b).2.1.toNat) (by omega) (by omega)
        rw [decW_go _ _ _ hz, decide_eq_true hz]
        simp only [Bool.not_true, cond_false, hd, Option.bind_some, up64 c (by omega), peta]
        have := ih (i + 1) (b.drop (parA b).2.1.toNat) (acc ++ [(parA b).1]) (hw.drop _) (by rw [List.length_drop]; omega) (by omega) (by omega) (by simp [ha])
        rw [show many - (i + 1) = m by omega] at this
        exact this
      · rw [decW_bad _ _ _ hz, decide_eq_false hz]
        simp [hz]
    · have c1 : ¬ ((i : Int) < (many : Int)) := by omega
      have e : many - i = 0 := by omega
      rw [e]
      simp [ref18_Parse_L16, c1, decL, decW]
/-! ### Parsed -/
theorem list8 {l : List Int} (h : 8 ≤ l.length) : ∃ x y z u p q r s t, l = x :: y :: z :: u :: p :: q :: r :: s :: t := by
  match l, h with
  | x :: y :: z :: u :: p :: q :: r :: s :: t, _ => exact ⟨x, y, z, u, p, q, r, s, t, rfl⟩
def noP : Pk := (false, 0, [], [])
/-- Attributes that fill all. -/
def allA (many : Int) (b : List Int) : List At2 × Int := if 8 < many then ([], 5) else if (decL many.toNat b).2 = 0 then (if (decL many.toNat b).1.2 = [] then ((decL many.toNat b).1.1, 0) else ([], 3)) else ([], (decL many.toNat b).2)
def parP (b : List Int) : Pk × Int :=
  if (lenS b).2 ≠ 0 then (noP, (lenS b).2) else if (b.length : Int) < (lenS b).1 then (noP, 4) else if (lenS b).1 < (b.length : Int) then (noP, 3) else
    if b.getD 1 0 = 0 then ((false, 0, [], b.drop 4), 0) else
      if (allA (b.getD 6 0 * 256 + b.getD 7 0) (b.drop 8)).2 = 0 then ((true, b.getD 4 0 * 256 + b.getD 5 0, (allA (b.getD 6 0 * 256 + b.getD 7 0) (b.drop 8)).1, []), 0) else (noP, (allA (b.getD 6 0 * 256 + b.getD 7 0) (b.drop 8)).2)
theorem attrs_ok (many : Int) (b : List Int) (h0 : 0 ≤ many) (hw : AllB b) (hb : b.length ≤ 5000) (hN : 10000 ≤ N) : packet_attrs N b many = some (allA many b) := by
  unfold packet_attrs allA packet_attrs_L5_R
  by_cases h8 : 8 < many
  · rw [decide_eq_true h8, if_pos h8]; rfl
  · rw [decide_eq_false h8, if_neg h8]
    simp only [cond_false]
    have h := attrsL (N := N) many.toNat (by omega) hN N 0 b [] hw hb (by omega) (by omega) rfl
    rw [show (many.toNat : Int) = many by omega] at h
    simp only [Int.natCast_zero, Nat.sub_zero] at h
    rw [h, Option.bind_some]
    by_cases hz : (decL many.toNat b).2 = 0
    · simp only [decW_nil _ hz]
      rw [decide_eq_true hz, if_pos hz]
      simp only [cond_true, Sum.elim_inr]
      cases hr : (decL many.toNat b).1.2 with
      | nil => simp
      | cons x r =>
        have : (0 : Int) < (((x :: r).length : Nat) : Int) := by simp only [List.length_cons]; omega
        rw [decide_eq_true this]
        simp
    · have hz' : ¬ (decW [] (decL many.toNat b)).2 = 0 := by unfold decW; rw [if_neg hz]; exact hz
      have e : (decW [] (decL many.toNat b)).2 = (decL many.toNat b).2 := by unfold decW; rw [if_neg hz]
      simp only [e, hz, decide_false, cond_false, Sum.elim_inl, if_false]
theorem lenS_fine {b : List Int} (h : (lenS b).2 = 0) (hw : AllB b) : 4 ≤ b.length ∧ b.getD 0 0 = 16 ∧ (lenS b).1 = b.getD 2 0 * 256 + b.getD 3 0 ∧ 5 ≤ (lenS b).1 ∧ (lenS b).1 ≤ 4095 ∧ (b.getD 1 0 = 0 ∨ b.getD 1 0 = 1 ∧ 8 ≤ (lenS b).1) := by
  unfold lenS at h ⊢
  by_cases h4 : b.length < 4
  · rw [if_pos h4] at h; cases h
  · rw [if_neg h4] at h ⊢
    by_cases h5 : b.getD 0 0 ≠ 16
    · rw [if_pos h5] at h; cases h
    · rw [if_neg h5] at h ⊢
      by_cases h6 : 1 < b.getD 1 0 ∨ b.getD 2 0 * 256 + b.getD 3 0 < (if b.getD 1 0 = 1 then 8 else 5) ∨ 4095 < b.getD 2 0 * 256 + b.getD 3 0
      · rw [if_pos h6] at h; cases h
      · rw [if_neg h6]
        obtain ⟨x, y, z, u, r, rfl⟩ := list4 (by omega : 4 ≤ b.length)
        have by' := hw y (by simp)
        simp only [List.getD_cons_zero, List.getD_cons_succ] at h5 h6 ⊢
        by_cases hy : y = 1
        · rw [if_pos hy] at h6
          exact ⟨by simp, by omega, by trivial, by omega, by omega, Or.inr ⟨hy, by omega⟩⟩
        · rw [if_neg hy] at h6
          exact ⟨by simp, by omega, by trivial, by omega, by omega, Or.inl (by omega)⟩
theorem ppar_ok (b : List Int) (hw : AllB b) (hb : b.length ≤ 100000) (hN : 10000 ≤ N) : packet_Parse N b = some (parP b) := by
  unfold packet_Parse parP
  rw [plen_ok b hw hN, Option.bind_some]
  by_cases hz : (lenS b).2 = 0
  · have hz' : ¬ (lenS b).2 ≠ 0 := fun h => h hz
    obtain ⟨l1, l2, l3, l4, l5, l6⟩ := lenS_fine hz hw
    rw [decide_eq_true hz, if_neg hz']
    simp only [Bool.not_true, cond_false]
    by_cases h1 : (b.length : Int) < (lenS b).1
    · rw [decide_eq_true h1, if_pos h1]; rfl
    · rw [decide_eq_false h1, if_neg h1]
      simp only [cond_false]
      by_cases h2 : (lenS b).1 < (b.length : Int)
      · rw [decide_eq_true h2, if_pos h2]; rfl
      · rw [decide_eq_false h2, if_neg h2]
        simp only [cond_false]
        have hlen : (b.length : Int) = (lenS b).1 := by omega
        rcases l6 with h3 | ⟨h3, h8⟩
        · rw [if_pos h3]
          obtain ⟨x, y, z, u, r, rfl⟩ := list4 l1
          simp only [List.getD_cons_zero, List.getD_cons_succ] at h3
          subst h3
          have g1 : getI (x :: 0 :: z :: u :: r) (1 : Int) = some 0 := rfl
          have hd : dropI (x :: 0 :: z :: u :: r) (4 : Int) = some r := dropI_nat _ (i := 4) rfl (by simp)
          have hc : slices_Clone_byte_byte N r = some r := oclone _ (by simp only [List.length_cons] at hb; omega)
          simp only [g1, Option.bind_some, decide_true, cond_true, hd, packet_OfData, hc]
          rfl
        · rw [if_neg (by omega : ¬ b.getD 1 0 = 0)]
          obtain ⟨x, y, z, u, p, q, r, s, t, rfl⟩ := list8 (by omega : 8 ≤ b.length)
          have bp := hw p (by simp)
          have bq := hw q (by simp)
          have br := hw r (by simp)
          have bs := hw s (by simp)
          have g1 : getI (x :: y :: z :: u :: p :: q :: r :: s :: t) (1 : Int) = some y := rfl
          have s1 : subI (x :: y :: z :: u :: p :: q :: r :: s :: t) (4 : Int) 6 = some [p, q] := subI_nat _ (i := 4) (j := 6) rfl rfl (by omega) (by simp)
          have s2 : subI (x :: y :: z :: u :: p :: q :: r :: s :: t) (6 : Int) 8 = some [r, s] := subI_nat _ (i := 6) (j := 8) rfl rfl (by omega) (by simp)
          have hd : dropI (x :: y :: z :: u :: p :: q :: r :: s :: t) (8 : Int) = some t := dropI_nat _ (i := 8) rfl (by simp)
          have w1 : Go.IntKind.wrap .i64 (r * 256 + s) = r * 256 + s := wrap64 (by omega) (by omega)
          have w2 : Go.IntKind.wrap .u16 (p * 256 + q) = p * 256 + q := by rw [IntKind.wrap_u16]; omega
          have ha := attrs_ok (N := N) (r * 256 + s) t (by omega) (fun x hx => hw x (by simp [hx])) (by simp only [List.length_cons] at hlen l5; omega) hN
          simp only [List.getD_cons_zero, List.getD_cons_succ] at h3 ⊢
          have y0 : ¬ y = 0 := by omega
          simp only [g1, Option.bind_some, y0, decide_false, cond_false, s1, s2, hd, oget2 p q bp bq hN, oget2 r s br bs hN, w1, w2, ha, List.drop_succ_cons, List.drop_zero]
          by_cases he : (allA (r * 256 + s) t).2 = 0
          · rw [decide_eq_true he, if_pos he]; rfl
          · rw [decide_eq_false he, if_neg he]; rfl
  · have hz' : (lenS b).2 ≠ 0 := hz
    rw [decide_eq_false hz, if_pos hz']; rfl
theorem prpar_ok (b : List Int) (hw : AllB b) (hb : b.length ≤ 100000) (hN : 10000 ≤ N) : ref18_Parse N b = some (parP b) := by
  unfold ref18_Parse parP
  rw [prlen_ok b hw hN, Option.bind_some]
  by_cases hz : (lenS b).2 = 0
  · have hz' : ¬ (lenS b).2 ≠ 0 := fun h => h hz
    obtain ⟨l1, l2, l3, l4, l5, l6⟩ := lenS_fine hz hw
    rw [decide_eq_true hz, if_neg hz']
    simp only [Bool.not_true, cond_false]
    by_cases h1 : (b.length : Int) < (lenS b).1
    · rw [decide_eq_true h1, if_pos h1]; rfl
    · rw [decide_eq_false h1, if_neg h1]
      simp only [cond_false]
      by_cases h2 : (lenS b).1 < (b.length : Int)
      · rw [decide_eq_true h2, if_pos h2]; rfl
      · rw [decide_eq_false h2, if_neg h2]
        simp only [cond_false]
        have hlen : (b.length : Int) = (lenS b).1 := by omega
        rcases l6 with h3 | ⟨h3, h8⟩
        · rw [if_pos h3]
          obtain ⟨x, y, z, u, r, rfl⟩ := list4 l1
          simp only [List.getD_cons_zero, List.getD_cons_succ] at h3
          subst h3
          have g1 : getI (x :: 0 :: z :: u :: r) (1 : Int) = some 0 := rfl
          have hd : dropI (x :: 0 :: z :: u :: r) (4 : Int) = some r := dropI_nat _ (i := 4) rfl (by simp)
          simp only [g1, Option.bind_some, decide_true, cond_true, hd]
          rfl
        · rw [if_neg (by omega : ¬ b.getD 1 0 = 0)]
          obtain ⟨x, y, z, u, p, q, r, s, t, rfl⟩ := list8 (by omega : 8 ≤ b.length)
          have bp := hw p (by simp)
          have bq := hw q (by simp)
          have br := hw r (by simp)
          have bs := hw s (by simp)
          have wt : AllB t := fun x hx => hw x (by simp [hx])
          have lt : t.length ≤ 5000 := by simp only [List.length_cons] at hlen l5; omega
          have g1 : getI (x :: y :: z :: u :: p :: q :: r :: s :: t) (1 : Int) = some y := rfl
          have s1 : subI (x :: y :: z :: u :: p :: q :: r :: s :: t) (4 : Int) 6 = some [p, q] := subI_nat _ (i := 4) (j := 6) rfl rfl (by omega) (by simp)
          have s2 : subI (x :: y :: z :: u :: p :: q :: r :: s :: t) (6 : Int) 8 = some [r, s] := subI_nat _ (i := 6) (j := 8) rfl rfl (by omega) (by simp)
          have hd : dropI (x :: y :: z :: u :: p :: q :: r :: s :: t) (8 : Int) = some t := dropI_nat _ (i := 8) rfl (by simp)
          have w1 : Go.IntKind.wrap .i64 (r * 256 + s) = r * 256 + s := wrap64 (by omega) (by omega)
          have w2 : Go.IntKind.wrap .u16 (p * 256 + q) = p * 256 + q := by rw [IntKind.wrap_u16]; omega
          simp only [List.getD_cons_zero, List.getD_cons_succ] at h3 ⊢
          have y0 : ¬ y = 0 := by omega
          simp only [g1, Option.bind_some, y0, decide_false, cond_false, s2, rnum2 r s br bs hN, w1, List.drop_succ_cons, List.drop_zero]
          unfold allA
          by_cases h8 : 8 < r * 256 + s
          · rw [decide_eq_true h8, if_pos h8]; rfl
          · rw [decide_eq_false h8, if_neg h8]
            simp only [cond_false, s1, Option.bind_some, rnum2 p q bp bq hN, hd, w2]
            have h := rattrsL (N := N) (r * 256 + s).toNat (p * 256 + q) (by omega) hN N 0 t [] wt lt (by omega) (by omega) rfl
            rw [show (((r * 256 + s).toNat : Nat) : Int) = r * 256 + s by omega] at h
            simp only [Int.natCast_zero, Nat.sub_zero] at h
            unfold ref18_Parse_L16_R
            rw [h, Option.bind_some]
            by_cases hz : (decL (r * 256 + s).toNat t).2 = 0
            · simp only [decW_nil _ hz]
              rw [decide_eq_true hz, if_pos hz]
              simp only [cond_true, Sum.elim_inr]
              cases hr : (decL (r * 256 + s).toNat t).1.2 with
              | nil => simp
              | cons x r =>
                have : (0 : Int) < (((x :: r).length : Nat) : Int) := by simp only [List.length_cons]; omega
                rw [decide_eq_true this]
                simp [noP]
            · have hz' : ¬ (decW [] (decL (r * 256 + s).toNat t)).2 = 0 := by unfold decW; rw [if_neg hz]; exact hz
              have e : (decW [] (decL (r * 256 + s).toNat t)).2 = (decL (r * 256 + s).toNat t).2 := by unfold decW; rw [if_neg hz]
              simp only [e, hz, decide_false, cond_false, Sum.elim_inl, if_false]
              rfl
  · have hz' : (lenS b).2 ≠ 0 := hz
    rw [decide_eq_false hz, if_pos hz']; rfl
end
end Go.Proofs.Ytpijcgohhjgdbaa
