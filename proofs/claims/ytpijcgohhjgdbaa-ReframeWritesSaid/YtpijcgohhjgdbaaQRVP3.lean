/-
  Layer 18, on plain data: packets laid.
-/
import Derived.Test.YtpijcgohhjgdbaaQRVP2
namespace Go.Proofs.Ytpijcgohhjgdbaa
set_option maxRecDepth 100000
open Go.RowKit
set_option linter.unusedVariables false
set_option linter.unusedSimpArgs false
set_option maxRecDepth 100000

/-- Attributes laid, one behind another. -/
def encL : List At2 → List Int × Int
  | [] => ([], 0)
  | a :: r => if (layA a).2 = 0 then (if (encL r).2 = 0 then ((layA a).1 ++ (encL r).1, 0) else ([], (encL r).2)) else ([], (layA a).2)
theorem encL_cons (a : At2) (r : List At2) : encL (a :: r) = if (layA a).2 = 0 then (if (encL r).2 = 0 then ((layA a).1 ++ (encL r).1, 0) else ([], (encL r).2)) else ([], (layA a).2) := rfl
/-- What stands before. -/
def encW (acc : List Int) (r : List Int × Int) : List Int × Int := if r.2 = 0 then (acc ++ r.1, 0) else ([], r.2)
theorem encW_cons (acc : List Int) (a : At2) (r : List At2) (h : (layA a).2 = 0) : encW acc (encL (a :: r)) = encW (acc ++ (layA a).1) (encL r) := by
  rw [encL_cons, if_pos h]
  unfold encW
  by_cases hr : (encL r).2 = 0
  · simp [hr]
  · simp [hr]
theorem encW_bad (acc : List Int) (a : At2) (r : List At2) (h : ¬ (layA a).2 = 0) : encW acc (encL (a :: r)) = ([], (layA a).2) := by
  rw [encL_cons, if_neg h]
  unfold encW
  simp [h]
theorem layA_len (a : At2) : (layA a).1.length ≤ a.2.length + 4 := by
  unfold layA
  split
  · simp
  · split
    · simp
    · simp
theorem enc_len : ∀ (l : List At2), (∀ a ∈ l, a.2.length ≤ 5000) → (encL l).1.length ≤ 5004 * l.length
  | [], _ => by simp [encL]
  | a :: r, h => by
    have ih := enc_len r fun x hx => h x (List.mem_cons_of_mem _ hx)
    have h1 := layA_len a
    have h2 := h a List.mem_cons_self
    unfold encL
    split
    · split
      · simp only [List.length_append, List.length_cons]; omega
      · simp
    · simp
def resB (r : List Int × Int) : ((((List (Int)) × ((Int) × Unit)) × Unit) ⊕ (Unit × ((List (Int)) × Unit))) := bif decide (r.2 = 0) then .inr ((), (r.1, ())) else .inl (([], (r.2, ())), ())
section
variable {N : Nat}
theorem bodyL (l : List At2) (hl : l.length ≤ 12) (hs : ∀ a ∈ l, a.2.length ≤ 5000) (hN : 10000 ≤ N) : ∀ (k i : Nat) (acc : List Int), i ≤ l.length → l.length - i < k → acc.length ≤ 6000 * (i + 1) → gl (fun (X : (((List ((Int) × (List (Int)))) × ((Int) × ((Int) × Unit))) × ((List (Int)) × Unit)) → Option (((((List (Int)) × ((Int) × Unit)) × Unit) ⊕ (Unit × ((List (Int)) × Unit))))) c => packet_body_L11 N X c.1.1 c.1.2.1 c.1.2.2.1 c.2.1) k ((l, ((l.length : Int), ((i : Int), ()))), (acc, ())) = some (resB (encW acc (encL (l.drop i)))) := by
  intro k
  induction k with
  | zero => intro i acc _ h; omega
  | succ k ih =>
    intro i acc hi hk ha
    rw [gl_succ]
    by_cases c : i < l.length
    · have c1 : ((i : Int) < (l.length : Int)) := by omega
      have hd := hs _ (List.getElem_mem c)
      have hlay := alay_ok (N := N) l[i] hd hN
      have hll := layA_len l[i]
      have r : roomB (acc.length + (layA l[i]).1.length) 1 = true := roomB_of (by have := big_len; omega) (by omega)
      rw [List.drop_eq_getElem_cons c]
      simp only [packet_body_L11, c1, decide_true, cond_true, getI_lt l i c, Option.bind_some, up64 c (by omega), peta, hlay, r]
      by_cases hz : (layA l[i]).2 = 0
      · rw [encW_cons _ _ _ hz, decide_eq_true hz]
        simp only [Bool.not_true, cond_false]
        exact ih (i + 1) _ (by omega) (by omega) (by rw [List.length_append]; omega)
      · rw [encW_bad _ _ _ hz, decide_eq_false hz]
        simp [resB, hz]
    · have c1 : ¬ ((i : Int) < (l.length : Int)) := by omega
      have e : l.drop i = [] := List.drop_eq_nil_of_le (by omega)
      rw [e]
      simp [packet_body_L11, c1, encL, encW, resB]
/-- Two parts joined in place. -/
theorem join3 (l : List (List Int)) (hl : l.length ≤ 10) (hs : ∀ p ∈ l, p.length ≤ 100) (hN : 10000 ≤ N) : qOJoinL3R N ((l, ((0 : Int), (l, ((l.length : Int), ((0 : Int), ()))))), ()) = some ((l, ((l.flatten.length : Int), ())), ()) ∧ qOJoinL9R N ((l, ((l.length : Int), ((0 : Int), ()))), (([] : List Int), ())) = some ((), (l.flatten, ())) := by
  have tot : ∀ (m : List (List Int)), (∀ p ∈ m, p.length ≤ 100) → m.flatten.length ≤ 100 * m.length := by
    intro m
    induction m with
    | nil => intro _; simp
    | cons p m ih =>
      intro h
      have h1 := h p List.mem_cons_self
      have h2 := ih fun q hq => h q (List.mem_cons_of_mem _ hq)
      rw [List.flatten_cons, List.length_append, List.length_cons]
      omega
  have tk : ∀ i, (l.take i).flatten.length ≤ 1000 := fun i => by
    have := tot (l.take i) fun p hp => hs p (List.mem_of_mem_take hp)
    rw [List.length_take] at this
    omega
  have hsn : ∀ i (hi : i < l.length), (l.take (i + 1)).flatten = (l.take i).flatten ++ l[i] := fun i hi => by
    have : l.take (i + 1) = l.take i ++ [l[i]] := by rw [List.take_add_one, List.getElem?_eq_getElem hi]; rfl
    rw [this, List.flatten_append]
    simp
  have h1 := gl_run (G := fun (X : ((List (List Int) × Int × List (List Int) × Int × Int × Unit) × Unit) → Option ((List (List Int) × Int × Unit) × Unit)) c => qOJoinL3 N X c.1.1 c.1.2.1 c.1.2.2.1 c.1.2.2.2.1 c.1.2.2.2.2.1)
    (fun i => ((l, (((l.take i).flatten.length : Int), (l, ((l.length : Int), ((i : Int), ()))))), ())) l.length ((l, ((l.flatten.length : Int), ())), ()) (fun X i hi => by
    have c1 : ((i : Int) < (l.length : Int)) := by omega
    have c2 : Go.IntKind.wrap .i64 ((i : Int) + 1) = ((i + 1 : Nat) : Int) := by rw [wrap64 (by omega) (by omega)]; omega
    have hp := hs _ (List.getElem_mem hi)
    have ht := tk i
    have c3 : Go.IntKind.wrap .i64 (((l.take i).flatten.length : Int) + (l[i].length : Int)) = (((l.take (i + 1)).flatten.length : Nat) : Int) := by rw [wrap64 (by omega) (by omega), hsn i hi, List.length_append]; omega
    simp only [qOJoinL3, c1, decide_true, cond_true, getI_lt l i hi, Option.bind_some, c3, c2]) (fun X => by
    simp [qOJoinL3]) N 0 (by omega) (by omega)
  have h2 := gl_run (G := fun (X : ((List (List Int) × Int × Int × Unit) × List Int × Unit) → Option (Unit × List Int × Unit)) c => qOJoinL9 N X c.1.1 c.1.2.1 c.1.2.2.1 c.2.1)
    (fun i => ((l, ((l.length : Int), ((i : Int), ()))), ((l.take i).flatten, ()))) l.length ((), (l.flatten, ())) (fun X i hi => by
    have c1 : ((i : Int) < (l.length : Int)) := by omega
    have c2 : Go.IntKind.wrap .i64 ((i : Int) + 1) = ((i + 1 : Nat) : Int) := by rw [wrap64 (by omega) (by omega)]; omega
    have hp := hs _ (List.getElem_mem hi)
    have ht := tk i
    have c3 : roomB ((l.take i).flatten.length + l[i].length) 1 = true := roomB_of (by have := big_len; omega) (by omega)
    simp only [qOJoinL9, c1, decide_true, cond_true, getI_lt l i hi, Option.bind_some, c3, c2, hsn i hi]) (fun X => by
    simp [qOJoinL9]) N 0 (by omega) (by omega)
  simp only [Int.natCast_zero, List.take_zero, List.flatten_nil, List.length_nil] at h1 h2
  exact ⟨h1, h2⟩
theorem bjoin3 (x y z u : Int) (hN : 10000 ≤ N) : packet_body_9_octs_Join_L3_R N ((([[x, y], [z, u]] : List (List Int)), ((0 : Int), (([[x, y], [z, u]] : List (List Int)), (((([[x, y], [z, u]] : List (List Int)).length : Nat) : Int), ((0 : Int), ()))))), ()) = some (([[x, y], [z, u]], ((4 : Int), ())), ()) := by
  have h := (join3 (N := N) [[x, y], [z, u]] (by simp) (fun p hp => by
    simp only [List.mem_cons, List.not_mem_nil, or_false] at hp
    rcases hp with rfl | rfl <;> simp) hN).1
  exact h
theorem bjoin9 (x y z u : Int) (hN : 10000 ≤ N) : packet_body_9_octs_Join_L9_R N ((([[x, y], [z, u]] : List (List Int)), (((([[x, y], [z, u]] : List (List Int)).length : Nat) : Int), ((0 : Int), ()))), (List.replicate (Int.toNat (0 : Int)) (0 : Int), ())) = some ((), ([x, y, z, u], ())) := by
  have h := (join3 (N := N) [[x, y], [z, u]] (by simp) (fun p hp => by
    simp only [List.mem_cons, List.not_mem_nil, or_false] at hp
    rcases hp with rfl | rfl <;> simp) hN).2
  exact h
/-! ### Laid -/
def headP (p : Pk) : List Int := [p.2.1 / 256 % 256, p.2.1 % 256, (p.2.2.1.length : Int) / 256 % 256, (p.2.2.1.length : Int) % 256]
def bodyS (p : Pk) : List Int × Int := bif p.1 then (if 8 < p.2.2.1.length then ([], 5) else encW (headP p) (encL p.2.2.1)) else (if p.2.2.2.length = 0 then ([], 4) else (p.2.2.2, 0))
def wrapP (c : Bool) (b : List Int × Int) : List Int × Int := if b.2 = 0 then (if 4091 < b.1.length then ([], 8) else (16 :: (bif c then 1 else 0) :: ((4 + (b.1.length : Int)) / 256) :: ((4 + (b.1.length : Int)) % 256) :: b.1, 0)) else ([], b.2)
def layPk (p : Pk) : List Int × Int := wrapP p.1 (bodyS p)
theorem encW_len (acc : List Int) (l : List At2) (h : ∀ a ∈ l, a.2.length ≤ 5000) : (encW acc (encL l)).1.length ≤ acc.length + 5004 * l.length := by
  unfold encW
  have := enc_len l h
  split
  · simp only [List.length_append]; omega
  · simp
theorem bodyS_len (p : Pk) (op : okP p) : (bodyS p).1.length ≤ 100000 := by
  unfold bodyS
  cases p.1 with
  | true =>
    simp only [cond_true]
    split
    · simp
    · have := encW_len (headP p) p.2.2.1 op.2.1
      have h2 : (headP p).length = 4 := rfl
      have := op.1
      omega
  | false =>
    simp only [cond_false]
    split
    · simp
    · have := op.2.2
      show p.2.2.2.length ≤ _
      omega
theorem body_ok (p : Pk) (hp : wfP p) (op : okP p) (hN : 10000 ≤ N) : packet_body N p = some (bodyS p) := by
  unfold packet_body bodyS packet_body_L11_R
  obtain ⟨c, k, l, d⟩ := p
  have ol : l.length ≤ 12 := op.1
  have hk : 0 ≤ k ∧ k < 65536 := hp.1
  cases c with
  | false =>
    simp only [Bool.not_false, cond_true, cond_false]
    by_cases h : d.length = 0
    · have h' : ((d.length : Int) = 0) := by omega
      simp [h, h']
    · have h' : ¬ ((d.length : Int) = 0) := by omega
      rw [decide_eq_false h', if_neg h]; rfl
  | true =>
    simp only [Bool.not_true, cond_true, cond_false]
    by_cases h : 8 < l.length
    · have h' : (8 : Int) < (l.length : Int) := by omega
      rw [decide_eq_true h', if_pos h]; rfl
    · have h' : ¬ (8 : Int) < (l.length : Int) := by omega
      have w1 : Go.IntKind.wrap .u64 k = k := wrapU64 (by omega) (by omega)
      have w2 : Go.IntKind.wrap .u64 (l.length : Int) = (l.length : Int) := wrapU64 (by omega) (by omega)
      rw [decide_eq_false h', if_neg h]
      simp only [cond_false]
      rw [w1, w2, oput2 _ (by omega) hN, Option.bind_some, oput2 _ (by omega) hN, Option.bind_some]
      simp only
      rw [bjoin3 _ _ _ _ hN, Option.bind_some]
      have c0 : (decide ((0 : Int) ≤ (0 : Int) ∧ (0 : Int) ≤ (4 : Int)) && roomB (Int.toNat (4 : Int)) 1) = true := by decide
      simp only [c0, cond_true]
      rw [bjoin9 _ _ _ _ hN, Option.bind_some]
      have hb := bodyL (N := N) l ol op.2.1 hN N 0 [k / 256 % 256, k % 256, (l.length : Int) / 256 % 256, (l.length : Int) % 256] (by omega) (by omega) (by simp)
      simp only [Int.natCast_zero, List.drop_zero] at hb
      rw [hb, Option.bind_some]
      show Sum.elim _ _ (resB (encW (headP (true, k, l, d)) (encL l))) = _
      unfold resB
      generalize hE : encW (headP (true, k, l, d)) (encL l) = E
      obtain ⟨E1, E2⟩ := E
      by_cases hz : E2 = 0
      · simp [hz]
      · simp only [hz, decide_false, cond_false, Sum.elim_inl]
        have : E1 = [] := by
          unfold encW at hE
          split at hE
          · cases hE; exact absurd rfl hz
          · cases hE; rfl
        rw [this]
theorem play_ok (p : Pk) (hp : wfP p) (op : okP p) (hN : 10000 ≤ N) : packet_Lay N p = some (layPk p) := by
  unfold packet_Lay layPk wrapP
  simp only [peta]
  rw [body_ok p hp op hN, Option.bind_some]
  have hl := bodyS_len p op
  generalize bodyS p = B at hl ⊢
  by_cases hz : B.2 = 0
  · have w1 : Go.IntKind.wrap .i64 ((4 : Int) + (B.1.length : Int)) = 4 + (B.1.length : Int) := wrap64 (by omega) (by omega)
    have w2 : Go.IntKind.wrap .u64 ((4 : Int) + (B.1.length : Int)) = 4 + (B.1.length : Int) := wrapU64 (by omega) (by omega)
    rw [if_pos hz, decide_eq_true hz]
    simp only [Bool.not_true, cond_false, w1]
    by_cases hb : 4091 < B.1.length
    · have c1 : (4095 : Int) < 4 + (B.1.length : Int) := by omega
      simp [c1, hb]
    · have c1 : ¬ (4095 : Int) < 4 + (B.1.length : Int) := by omega
      have e1 : (4 + (B.1.length : Int)) / 256 % 256 = (4 + (B.1.length : Int)) / 256 := by omega
      rw [decide_eq_false c1, w2, oput2 _ (by omega) hN, if_neg hb]
      simp only [cond_false, Option.bind_some]
      have j : ∀ x : Int, octs_Join N [[16, x], [(4 + (B.1.length : Int)) / 256 % 256, (4 + (B.1.length : Int)) % 256], B.1] = some (16 :: x :: ((4 + (B.1.length : Int)) / 256) :: ((4 + (B.1.length : Int)) % 256) :: B.1) := fun x => by
        rw [ojoin _ (by simp) (fun q hq => by
          simp only [List.mem_cons, List.not_mem_nil, or_false] at hq
          rcases hq with rfl | rfl | rfl
          · simp
          · simp
          · omega) hN, e1]
        simp
      cases p.1 with
      | true =>
        have js : octs_Join N [List.set ([16, 0] : List Int) (Int.toNat 1) 1, [(4 + (B.1.length : Int)) / 256 % 256, (4 + (B.1.length : Int)) % 256], B.1] = _ := j 1
        simp only [cond_true]
        rw [js]; rfl
      | false =>
        simp only [cond_false]
        rw [j 0]; rfl
  · rw [if_neg hz, decide_eq_false hz]; rfl
end
end Go.Proofs.Ytpijcgohhjgdbaa
