/-
  Layer 18, on plain data: there and back; the five laws.
-/
import Derived.Test.YtpijcgohhjgdbaaQRVP5
namespace Go.Proofs.Ytpijcgohhjgdbaa
set_option maxRecDepth 100000
open Go.RowKit
set_option linter.unusedVariables false
set_option linter.unusedSimpArgs false
set_option maxRecDepth 100000

theorem bareW {d : List Int} (hd : AllB d) : wfP (false, 0, [], d) := ⟨⟨Int.le_refl 0, (by decide : (0 : Int) < 65536)⟩, fun a ha => (by cases ha), hd⟩
theorem bareO {d : List Int} (hd : d.length ≤ 5000) : okP (false, 0, [], d) := ⟨Nat.zero_le _, fun a ha => (by cases ha), hd⟩
theorem encW_zero {acc : List Int} {r : List Int × Int} (h : (encW acc r).2 = 0) : r.2 = 0 ∧ encW acc r = (acc ++ r.1, 0) := by
  unfold encW at h ⊢
  by_cases hr : r.2 = 0
  · rw [if_pos hr]; exact ⟨hr, rfl⟩
  · rw [if_neg hr] at h; exact absurd h hr
/-- What is laid, byte for byte. -/
theorem lay_form (p : Pk) (h : (layPk p).2 = 0) : ∃ B, bodyS p = (B, 0) ∧ 1 ≤ B.length ∧ B.length ≤ 4091 ∧ (p.1 = true → p.2.2.1.length ≤ 8 ∧ (encL p.2.2.1).2 = 0 ∧ B = headP p ++ (encL p.2.2.1).1) ∧ (p.1 = false → B = p.2.2.2) ∧ layPk p = (16 :: (bif p.1 then 1 else 0) :: ((4 + (B.length : Int)) / 256) :: ((4 + (B.length : Int)) % 256) :: B, 0) := by
  unfold layPk wrapP at h ⊢
  by_cases hb : (bodyS p).2 = 0
  · rw [if_pos hb] at h ⊢
    by_cases hl : 4091 < (bodyS p).1.length
    · rw [if_pos hl] at h; cases h
    · rw [if_neg hl]
      have hB : bodyS p = ((bodyS p).1, 0) := by
        have : bodyS p = ((bodyS p).1, (bodyS p).2) := rfl
        rw [hb] at this; exact this
      refine ⟨(bodyS p).1, hB, ?_, by omega, ?_, ?_, rfl⟩
      · unfold bodyS at hb ⊢
        cases hc : p.1 with
        | true =>
          rw [hc] at hb
          simp only [cond_true] at hb ⊢
          by_cases h8 : 8 < p.2.2.1.length
          · rw [if_pos h8] at hb; cases hb
          · rw [if_neg h8] at hb ⊢
            obtain ⟨z1, z2⟩ := encW_zero hb
            rw [z2]
            show 1 ≤ (headP p ++ _).length
            rw [List.length_append]
            have : (headP p).length = 4 := rfl
            omega
        | false =>
          rw [hc] at hb
          simp only [cond_false] at hb ⊢
          by_cases h0 : p.2.2.2.length = 0
          · rw [if_pos h0] at hb; cases hb
          · rw [if_neg h0]
            show 1 ≤ p.2.2.2.length
            omega
      · intro hc
        unfold bodyS at hb ⊢
        rw [hc] at hb ⊢
        simp only [cond_true] at hb ⊢
        by_cases h8 : 8 < p.2.2.1.length
        · rw [if_pos h8] at hb; cases hb
        · rw [if_neg h8] at hb ⊢
          obtain ⟨z1, z2⟩ := encW_zero hb
          exact ⟨by omega, z1, by rw [z2]⟩
      · intro hc
        unfold bodyS at hb ⊢
        rw [hc] at hb ⊢
        simp only [cond_false] at hb ⊢
        by_cases h0 : p.2.2.2.length = 0
        · rw [if_pos h0] at hb; cases hb
        · rw [if_neg h0]
  · rw [if_neg hb] at h; exact absurd h hb
theorem lenS_lay {c : Bool} {B : List Int} (h1 : 1 ≤ B.length) (h2 : B.length ≤ 4091) (h3 : c = true → 4 ≤ B.length) : lenS (16 :: (bif c then 1 else 0) :: ((4 + (B.length : Int)) / 256) :: ((4 + (B.length : Int)) % 256) :: B) = (4 + (B.length : Int), 0) := by
  have e : (4 + (B.length : Int)) / 256 * 256 + (4 + (B.length : Int)) % 256 = 4 + (B.length : Int) := by omega
  unfold lenS
  simp only [List.length_cons, List.getD_cons_zero, List.getD_cons_succ, e]
  rw [if_neg (by omega), if_neg (by decide)]
  cases c with
  | true =>
    have := h3 rfl
    simp only [cond_true, if_true]
    rw [if_neg (by omega)]
  | false =>
    have c : ¬ ((1 : Int) < 0 ∨ 4 + (B.length : Int) < 5 ∨ 4095 < 4 + (B.length : Int)) := by omega
    simp only [cond_false, show ¬ (0 : Int) = 1 by decide, if_false, c]
def bare (p : Pk) : Pk := bif p.1 then (true, p.2.1, p.2.2.1, []) else (false, 0, [], p.2.2.2)
theorem parP_lay (p : Pk) (hp : wfP p) (h : (layPk p).2 = 0) : parP (layPk p).1 = (bare p, 0) := by
  obtain ⟨B, f1, f2, f3, f4, f5, f6⟩ := lay_form p h
  obtain ⟨c, k, l, d⟩ := p
  have hk : 0 ≤ k ∧ k < 65536 := hp.1
  rw [f6]
  have h4 : c = true → 4 ≤ B.length := fun hc => by
    rw [(f4 hc).2.2, List.length_append]
    have : (headP (c, k, l, d)).length = 4 := rfl
    omega
  have hl := lenS_lay (c := c) f2 f3 h4
  unfold parP
  simp only
  rw [hl]
  simp only [ne_eq, not_true_eq_false, if_false, List.length_cons]
  rw [if_neg (by omega), if_neg (by omega)]
  cases c with
  | false =>
    have := f5 rfl
    simp only [cond_false, List.getD_cons_zero, List.getD_cons_succ, if_true, List.drop_succ_cons, List.drop_zero, this]
    rfl
  | true =>
    obtain ⟨g1, g2, g3⟩ := f4 rfl
    simp only at g1 g2 g3
    have e0 : (k / 256 % 256) * 256 + k % 256 = k := by omega
    have e1 : ((l.length : Int) / 256 % 256) * 256 + (l.length : Int) % 256 = (l.length : Int) := by omega
    have hd := dec_encL l [] hp.2.1 g2
    rw [List.append_nil] at hd
    have ha : allA (l.length : Int) (encL l).1 = (l, 0) := by
      unfold allA
      rw [if_neg (by omega), Int.toNat_natCast, hd]
      simp
    rw [g3]
    simp only [cond_true, headP, List.cons_append, List.nil_append, List.getD_cons_zero, List.getD_cons_succ, List.drop_succ_cons, List.drop_zero, e0, e1, ha, if_true]
    rw [if_neg (by decide : ¬ (1 : Int) = 0)]
    rfl
theorem AllB.getD {l : List Int} (h : AllB l) (i : Nat) : 0 ≤ l.getD i 0 ∧ l.getD i 0 < 256 := by
  rw [List.getD_eq_getElem?_getD]
  by_cases hi : i < l.length
  · rw [List.getElem?_eq_getElem hi]; exact h.get i hi
  · rw [List.getElem?_eq_none (by omega)]; decide
/-- What is parsed is small, and is laid again. -/
theorem lay_parP (b : List Int) (hw : AllB b) (hb : b.length ≤ 5000) : wfP (parP b).1 ∧ okP (parP b).1 ∧ ((parP b).2 = 0 → layPk (parP b).1 = (b, 0)) ∧ (¬ (parP b).2 = 0 → (parP b).1 = noP) := by
  have hn : wfP noP ∧ okP noP := ⟨bareW AllB.nil, bareO (by simp)⟩
  unfold parP
  by_cases hz : (lenS b).2 = 0
  · have hz' : ¬ (lenS b).2 ≠ 0 := fun h => h hz
    obtain ⟨l1, l2, l3, l4, l5, l6⟩ := lenS_fine hz hw
    rw [if_neg hz']
    by_cases h1 : (b.length : Int) < (lenS b).1
    · rw [if_pos h1]; exact ⟨hn.1, hn.2, fun h => (by cases h), fun _ => rfl⟩
    · rw [if_neg h1]
      by_cases h2 : (lenS b).1 < (b.length : Int)
      · rw [if_pos h2]; exact ⟨hn.1, hn.2, fun h => (by cases h), fun _ => rfl⟩
      · rw [if_neg h2]
        have hlen : (b.length : Int) = (lenS b).1 := by omega
        rw [l3] at hlen l4 l5 l6
        rcases l6 with h3 | ⟨h3, h8⟩
        · rw [if_pos h3]
          refine ⟨bareW (hw.drop 4), bareO (by rw [List.length_drop]; omega), fun _ => ?_, fun h => absurd rfl h⟩
          obtain ⟨x, y, z, u, r, rfl⟩ := list4 l1
          have bz := hw z (by simp)
          have bu := hw u (by simp)
          simp only [List.getD_cons_zero, List.getD_cons_succ, List.length_cons] at h3 hlen l2 l4 l5
          have c0 : ¬ r.length = 0 := by omega
          have c1 : ¬ 4091 < r.length := by omega
          have e1 : (4 + (r.length : Int)) / 256 = z := by omega
          have e2 : (4 + (r.length : Int)) % 256 = u := by omega
          unfold layPk wrapP bodyS
          simp only [cond_false, List.drop_succ_cons, List.drop_zero, c0, if_false, if_true, c1, e1, e2, h3, l2]
        · rw [if_neg (by omega : ¬ b.getD 1 0 = 0)]
          obtain ⟨x, y, z, u, p, q, r, s, t, rfl⟩ := list8 (by omega : 8 ≤ b.length)
          have bz := hw z (by simp)
          have bu := hw u (by simp)
          have bp := hw p (by simp)
          have bq := hw q (by simp)
          have br := hw r (by simp)
          have bs := hw s (by simp)
          have wt : AllB t := fun x hx => hw x (by simp [hx])
          simp only [List.getD_cons_zero, List.getD_cons_succ, List.length_cons, List.drop_succ_cons, List.drop_zero] at h3 hlen l2 l4 l5 h8 ⊢
          unfold allA
          by_cases h9 : 8 < r * 256 + s
          · rw [if_pos h9, if_neg (by decide : ¬ (5 : Int) = 0)]; exact ⟨hn.1, hn.2, fun h => (by cases h), fun _ => rfl⟩
          · rw [if_neg h9]
            by_cases hd : (decL (r * 256 + s).toNat t).2 = 0
            · rw [if_pos hd]
              obtain ⟨d1, d2, e, d3, d4⟩ := encL_dec (r * 256 + s).toNat t wt hd
              by_cases hr : (decL (r * 256 + s).toNat t).1.2 = []
              · rw [if_pos hr, if_pos rfl]
                rw [hr, List.append_nil] at d4
                generalize (decL (r * 256 + s).toNat t).1.1 = L at d1 d2 d3
                subst d4
                refine ⟨⟨by show 0 ≤ p * 256 + q ∧ p * 256 + q < 65536; omega, fun a ha => (d2 a ha).1, AllB.nil⟩, ⟨by show L.length ≤ 12; omega, fun a ha => by have := (d2 a ha).2; omega, by show ([] : List Int).length ≤ _; simp⟩, fun _ => ?_, fun h => absurd rfl h⟩
                have c8 : ¬ 8 < L.length := by omega
                have hh : headP (true, p * 256 + q, L, []) = [p, q, r, s] := by
                  unfold headP
                  simp only
                  rw [show (p * 256 + q) / 256 % 256 = p by omega, show (p * 256 + q) % 256 = q by omega, show (L.length : Int) / 256 % 256 = r by omega, show (L.length : Int) % 256 = s by omega]
                unfold layPk wrapP bodyS
                simp only [cond_true, c8, if_false, hh, d3, encW, if_true]
                have hlB : (([p, q, r, s] : List Int) ++ e).length = e.length + 4 := by simp
                have c1 : ¬ 4091 < e.length + 4 := by omega
                rw [hlB, if_neg c1]
                have e1 : (4 + ((e.length + 4 : Nat) : Int)) / 256 = z := by omega
                have e2 : (4 + ((e.length + 4 : Nat) : Int)) % 256 = u := by omega
                rw [e1, e2, h3, l2]
                rfl
              · rw [if_neg hr, if_neg (by decide : ¬ (3 : Int) = 0)]; exact ⟨hn.1, hn.2, fun h => (by cases h), fun _ => rfl⟩
            · rw [if_neg hd, if_neg hd]; exact ⟨hn.1, hn.2, fun h => absurd h hd, fun _ => rfl⟩
  · have hz' : (lenS b).2 ≠ 0 := hz
    rw [if_pos hz']; exact ⟨hn.1, hn.2, fun h => absurd h hz, fun _ => rfl⟩
theorem encL_bytes : ∀ (l : List At2), (∀ a ∈ l, wfA a) → AllB (encL l).1
  | [], _ => AllB.nil
  | a :: r, h => by
    have ha := h a List.mem_cons_self
    have ih := encL_bytes r fun x hx => h x (List.mem_cons_of_mem _ hx)
    have hl : AllB (layA a).1 := by
      unfold layA
      split
      · exact AllB.nil
      · split
        · exact AllB.nil
        · exact AllB.cons (by decide) (AllB.cons ha.1 (AllB.cons (by omega) (AllB.cons (by omega) ha.2)))
    rw [encL_cons]
    split
    · split
      · exact hl.append ih
      · exact AllB.nil
    · exact AllB.nil
theorem layPk_wf (p : Pk) (hp : wfP p) : AllB (layPk p).1 ∧ (layPk p).1.length ≤ 4095 := by
  by_cases h : (layPk p).2 = 0
  · obtain ⟨B, f1, f2, f3, f4, f5, f6⟩ := lay_form p h
    have hB : AllB B := by
      cases hc : p.1 with
      | true =>
        rw [(f4 hc).2.2]
        have hk : 0 ≤ p.2.1 ∧ p.2.1 < 65536 := hp.1
        refine AllB.append ?_ (encL_bytes _ hp.2.1)
        unfold headP
        exact AllB.cons (by omega) (AllB.cons (by omega) (AllB.cons (by omega) (AllB.cons (by omega) AllB.nil)))
      | false => rw [f5 hc]; exact hp.2.2
    rw [f6]
    refine ⟨AllB.cons (by decide) (AllB.cons (by cases p.1 <;> decide) (AllB.cons (by omega) (AllB.cons (by omega) hB))), ?_⟩
    simp only [List.length_cons]; omega
  · unfold layPk wrapP at h ⊢
    by_cases hb : (bodyS p).2 = 0
    · rw [if_pos hb] at h ⊢
      by_cases hl : 4091 < (bodyS p).1.length
      · rw [if_pos hl]; exact ⟨AllB.nil, by simp⟩
      · rw [if_neg hl] at h; exact absurd rfl h
    · rw [if_neg hb]; exact ⟨AllB.nil, by simp⟩
theorem layPk_bad (p : Pk) (h : ¬ (layPk p).2 = 0) : (layPk p).1 = [] := by
  unfold layPk wrapP at h ⊢
  by_cases hb : (bodyS p).2 = 0
  · rw [if_pos hb] at h ⊢
    by_cases hl : 4091 < (bodyS p).1.length
    · rw [if_pos hl]
    · rw [if_neg hl] at h; exact absurd rfl h
  · rw [if_neg hb]
theorem wf_pk {p : Pk} (h : wfT (.pair .bool (.pair (.int .u16) (.pair (.sl (.pair (.int .u8) (.sl (.int .u8)))) (.sl (.int .u8))))) p) : wfP p := by
  refine ⟨?_, fun a ha => ⟨wf_u8 (h.2.2.1.2 a ha).1, wf_bytes (h.2.2.1.2 a ha).2⟩, wf_bytes h.2.2.2⟩
  have h2 : (Lit.int .u16 p.2.1).wf = true := h.2.1
  simp only [Lit.wf, Bool.and_eq_true, decide_eq_true_eq, IntKind.min, IntKind.max, IntKind.signed, IntKind.bits] at h2
  simp at h2
  omega
end Go.Proofs.Ytpijcgohhjgdbaa
