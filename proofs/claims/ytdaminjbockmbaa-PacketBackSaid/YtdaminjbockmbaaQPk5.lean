/-
  Layer 18, on plain data: there and back; the five laws.
-/
import Derived.Test.YtdaminjbockmbaaQPk4
namespace Go.Proofs.Ytdaminjbockmbaa
set_option maxRecDepth 100000
open Go.RowKit
set_option linter.unusedVariables false
set_option linter.unusedSimpArgs false
set_option maxRecDepth 100000

theorem bareW {d : List Int} (hd : AllB d) : wfP (false, 0, [], d) := ⟨⟨Int.le_refl 0, (by decide : (0 : Int) < 65536)⟩, fun a ha => (by cases ha), hd⟩
theorem bareO {d : List Int} (hd : d.length ≤ 5000) : okP (false, 0, [], d) := ⟨Nat.zero_le _, fun a ha => (by cases ha), hd⟩
theorem encW_zero {acc : List Int} {r : List Int × Int} (h : (encW acc r).2 = 0) : r.2 = 0 ∧ encW acc r = (acc ++ r.1, 0) := by
  unfold encW at h ⊢
  by_cases hr : r.2 = 0
  · rw [if_pos hr]; exact ⟨hr, rfl⟩
  · rw [if_neg hr] at h; exact absurd h hr
/-- What is laid, byte for byte. -/
theorem lay_form (p : Pk) (h : (layPk p).2 = 0) : ∃ B, bodyS p = (B, 0) ∧ 1 ≤ B.length ∧ B.length ≤ 4091 ∧ (p.1 = true → p.2.2.1.length ≤ 8 ∧ (encL p.2.2.1).2 = 0 ∧ B = headP p ++ (encL p.2.2.1).1) ∧ (p.1 = false → B = p.2.2.2) ∧ layPk p = (16 :: (bif p.1 then 1 else 0) :: ((4 + (B.length : Int)) / 256) :: ((4 + (B.length : Int)) % 256) :: B, 0) := by
  unfold layPk wrapP at h ⊢
  by_cases hb : (bodyS p).2 = 0
  · rw [if_pos hb] at h ⊢
    by_cases hl : 4091 < (bodyS p).1.length
    · rw [if_pos hl] at h; cases h
    · rw [if_neg hl]
      have hB : bodyS p = ((bodyS p).1, 0) := by
        have : bodyS p = ((bodyS p).1, (bodyS p).2) := rfl
        rw [hb] at this; exact this
      refine ⟨(bodyS p).1, hB, ?_, by omega, ?_, ?_, rfl⟩
      · unfold bodyS at hb ⊢
        cases hc : p.1 with
        | true =>
          rw [hc] at hb
          simp only [cond_true] at hb ⊢
          by_cases h8 : 8 < p.2.2.1.length
          · rw [if_pos h8] at hb; cases hb
          · rw [if_neg h8] at hb ⊢
            obtain ⟨z1, z2⟩ := encW_zero hb
            rw [z2]
            show 1 ≤ (headP p ++ _).length
            rw [List.length_append]
            have : (headP p).length = 4 := rfl
            omega
        | false =>
          rw [hc] at hb
          simp only [cond_false] at hb ⊢
          by_cases h0 : p.2.2.2.length = 0
          · rw [if_pos h0] at hb; cases hb
          · rw [if_neg h0]
            show 1 ≤ p.2.2.2.length
            omega
      · intro hc
        unfold bodyS at hb ⊢
        rw [hc] at hb ⊢
        simp only [cond_true] at hb ⊢
        by_cases h8 : 8 < p.2.2.1.length
        · rw [if_pos h8] at hb; cases hb
        · rw [if_neg h8] at hb ⊢
          obtain ⟨z1, z2⟩ := encW_zero hb
          exact ⟨by omega, z1, by rw [z2]⟩
      · intro hc
        unfold bodyS at hb ⊢
        rw [hc] at hb ⊢
        simp only [cond_false] at hb ⊢
        by_cases h0 : p.2.2.2.length = 0
        · rw [if_pos h0] at hb; cases hb
        · rw [if_neg h0]
  · rw [if_neg hb] at h; exact absurd h hb
theorem lenS_lay {c : Bool} {B : List Int} (h1 : 1 ≤ B.length) (h2 : B.length ≤ 4091) (h3 : c = true → 4 ≤ B.length) : lenS (16 :: (bif c then 1 else 0) :: ((4 + (B.length : Int)) / 256) :: ((4 + (B.length : Int)) % 256) :: B) = (4 + (B.length : Int), 0) := by
  have e : (4 + (B.length : Int)) / 256 * 256 + (4 + (B.length : Int)) % 256 = 4 + (B.length : Int) := by omega
  unfold lenS
  simp only [List.length_cons, List.getD_cons_zero, List.getD_cons_succ, e]
  rw [if_neg (by omega), if_neg (by decide)]
  cases c with
  | true =>
    have := h3 rfl
    simp only [cond_true, if_true]
    rw [if_neg (by omega)]
  | false =>
    have c : ¬ ((1 : Int) < 0 ∨ 4 + (B.length : Int) < 5 ∨ 4095 < 4 + (B.length : Int)) := by omega
    simp only [cond_false, show ¬ (0 : Int) = 1 by decide, if_false, c]
def bare (p : Pk) : Pk := bif p.1 then (true, p.2.1, p.2.2.1, []) else (false, 0, [], p.2.2.2)
theorem parP_lay (p : Pk) (hp : wfP p) (h : (layPk p).2 = 0) : parP (layPk p).1 = (bare p, 0) := by
  obtain ⟨B, f1, f2, f3, f4, f5, f6⟩ := lay_form p h
  obtain ⟨c, k, l, d⟩ := p
  have hk : 0 ≤ k ∧ k < 65536 := hp.1
  rw [f6]
  have h4 : c = true → 4 ≤ B.length := fun hc => by
    rw [(f4 hc).2.2, List.length_append]
    have : (headP (c, k, l, d)).length = 4 := rfl
    omega
  have hl := lenS_lay (c := c) f2 f3 h4
  unfold parP
  simp only
  rw [hl]
  simp only [ne_eq, not_true_eq_false, if_false, List.length_cons]
  rw [if_neg (by omega), if_neg (by omega)]
  cases c with
  | false =>
    have := f5 rfl
    simp only [cond_false, List.getD_cons_zero, List.getD_cons_succ, if_true, List.drop_succ_cons, List.drop_zero, this]
    rfl
  | true =>
    obtain ⟨g1, g2, g3⟩ := f4 rfl
    simp only at g1 g2 g3
    have e0 : (k / 256 % 256) * 256 + k % 256 = k := by omega
    have e1 : ((l.length : Int) / 256 % 256) * 256 + (l.length : Int) % 256 = (l.length : Int) := by omega
    have hd := dec_encL l [] hp.2.1 g2
    rw [List.append_nil] at hd
    have ha : allA (l.length : Int) (encL l).1 = (l, 0) := by
      unfold allA
      rw [if_neg (by omega), Int.toNat_natCast, hd]
      simp
    rw [g3]
    simp only [cond_true, headP, List.cons_append, List.nil_append, List.getD_cons_zero, List.getD_cons_succ, List.drop_succ_cons, List.drop_zero, e0, e1, ha, if_true]
    rw [if_neg (by decide : ¬ (1 : Int) = 0)]
    rfl
theorem AllB.getD {l : List Int} (h : AllB l) (i : Nat) : 0 ≤ l.getD i 0 ∧ l.getD i 0 < 256 := by
  rw [List.getD_eq_getElem?_getD]
  by_cases hi : i < l.length
  · rw [List.getElem?_eq_getElem hi]; exact h.get i hi
  · rw [List.getElem?_eq_none (by omega)]; decide
/-- What is parsed is small, and is laid again. -/
theorem lay_parP (b : List Int) (hw : AllB b) (hb : b.length ≤ 5000) : wfP (parP b).1 ∧ okP (parP b).1 ∧ ((parP b).2 = 0 → layPk (parP b).1 = (b, 0)) ∧ (¬ (parP b).2 = 0 → (parP b).1 = noP) := by
  have hn : wfP noP ∧ okP noP := ⟨bareW AllB.nil, bareO (by simp)⟩
  unfold parP
  by_cases hz : (lenS b).2 = 0
  · have hz' : ¬ (lenS b).2 ≠ 0 := fun h => h hz
    obtain ⟨l1, l2, l3, l4, l5, l6⟩ := lenS_fine hz hw
    rw [if_neg hz']
    by_cases h1 : (b.length : Int) < (lenS b).1
    · rw [if_pos h1]; exact ⟨hn.1, hn.2, fun h => (by cases h), fun _ => rfl⟩
    · rw [if_neg h1]
      by_cases h2 : (lenS b).1 < (b.length : Int)
      · rw [if_pos h2]; exact ⟨hn.1, hn.2, fun h => (by cases h), fun _ => rfl⟩
      · rw [if_neg h2]
        have hlen : (b.length : Int) = (lenS b).1 := by omega
        rw [l3] at hlen l4 l5 l6
        rcases l6 with h3 | ⟨h3, h8⟩
        · rw [if_pos h3]
          refine ⟨bareW (hw.drop 4), bareO (by rw [List.length_drop]; omega), fun _ => ?_, fun h => absurd rfl h⟩
          obtain ⟨x, y, z, u, r, rfl⟩ := list4 l1
          have bz := hw z (by simp)
          have bu := hw u (by simp)
          simp only [List.getD_cons_zero, List.getD_cons_succ, List.length_cons] at h3 hlen l2 l4 l5
          have c0 : ¬ r.length = 0 := by omega
          have c1 : ¬ 4091 < r.length := by omega
          have e1 : (4 + (r.length : Int)) / 256 = z := by omega
          have e2 : (4 + (r.length : Int)) % 256 = u := by omega
          unfold layPk wrapP bodyS
          simp only [cond_false, List.drop_succ_cons, List.drop_zero, c0, if_false, if_true, c1, e1, e2, h3, l2]
        · rw [if_neg (by omega : ¬ b.getD 1 0 = 0)]
          obtain ⟨x, y, z, u, p, q, r, s, t, rfl⟩ := list8 (by omega : 8 ≤ b.length)
          have bz := hw z (by simp)
          have bu := hw u (by simp)
          have bp := hw p (by simp)
          have bq := hw q (by simp)
          have br := hw r (by simp)
          have bs := hw s (by simp)
          have wt : AllB t := fun x hx => hw x (by simp [hx])
          simp only [List.getD_cons_zero, List.getD_cons_succ, List.length_cons, List.drop_succ_cons, List.drop_zero] at h3 hlen l2 l4 l5 h8 ⊢
          unfold allA
          by_cases h9 : 8 < r * 256 + s
          · rw [if_pos h9, if_neg (by decide : ¬ (5 : Int) = 0)]; exact ⟨hn.1, hn.2, fun h => (by cases h), fun _ => rfl⟩
          · rw [if_neg h9]
            by_cases hd : (decL (r * 256 + s).toNat t).2 = 0
            · rw [if_pos hd]
              obtain ⟨d1, d2, e, d3, d4⟩ := encL_dec (r * 256 + s).toNat t wt hd
              by_cases hr : (decL (r * 256 + s).toNat t).1.2 = []
              · rw [if_pos hr, if_pos rfl]
                rw [hr, List.append_nil] at d4
                generalize (decL (r * 256 + s).toNat t).1.1 = L at d1 d2 d3
                subst d4
                refine ⟨⟨by show 0 ≤ p * 256 + q ∧ p * 256 + q < 65536; omega, fun a ha => (d2 a ha).1, AllB.nil⟩, ⟨by show L.length ≤ 12; omega, fun a ha => by have := (d2 a ha).2; omega, by show ([] : List Int).length ≤ _; simp⟩, fun _ => ?_, fun h => absurd rfl h⟩
                have c8 : ¬ 8 < L.length := by omega
                have hh : headP (true, p * 256 + q, L, []) = [p, q, r, s] := by
                  unfold headP
                  simp only
                  rw [show (p * 256 + q) / 256 % 256 = p by omega, show (p * 256 + q) % 256 = q by omega, show (L.length : Int) / 256 % 256 = r by omega, show (L.length : Int) % 256 = s by omega]
                unfold layPk wrapP bodyS
                simp only [cond_true, c8, if_false, hh, d3, encW, if_true]
                have hlB : (([p, q, r, s] : List Int) ++ e).length = e.length + 4 := by simp
                have c1 : ¬ 4091 < e.length + 4 := by omega
                rw [hlB, if_neg c1]
                have e1 : (4 + ((e.length + 4 : Nat) : Int)) / 256 = z := by omega
                have e2 : (4 + ((e.length + 4 : Nat) : Int)) % 256 = u := by omega
                rw [e1, e2, h3, l2]
                rfl
              · rw [if_neg hr, if_neg (by decide : ¬ (3 : Int) = 0)]; exact ⟨hn.1, hn.2, fun h => (by cases h), fun _ => rfl⟩
            · rw [if_neg hd, if_neg hd]; exact ⟨hn.1, hn.2, fun h => absurd h hd, fun _ => rfl⟩
  · have hz' : (lenS b).2 ≠ 0 := hz
    rw [if_pos hz']; exact ⟨hn.1, hn.2, fun h => absurd h hz, fun _ => rfl⟩
theorem encL_bytes : ∀ (l : List At2), (∀ a ∈ l, wfA a) → AllB (encL l).1
  | [], _ => AllB.nil
  | a :: r, h => by
    have ha := h a List.mem_cons_self
    have ih := encL_bytes r fun x hx => h x (List.mem_cons_of_mem _ hx)
    have hl : AllB (layA a).1 := by
      unfold layA
      split
      · exact AllB.nil
      · split
        · exact AllB.nil
        · exact AllB.cons (by decide) (AllB.cons ha.1 (AllB.cons (by omega) (AllB.cons (by omega) ha.2)))
    rw [encL_cons]
    split
    · split
      · exact hl.append ih
      · exact AllB.nil
    · exact AllB.nil
theorem layPk_wf (p : Pk) (hp : wfP p) : AllB (layPk p).1 ∧ (layPk p).1.length ≤ 4095 := by
  by_cases h : (layPk p).2 = 0
  · obtain ⟨B, f1, f2, f3, f4, f5, f6⟩ := lay_form p h
    have hB : AllB B := by
      cases hc : p.1 with
      | true =>
        rw [(f4 hc).2.2]
        have hk : 0 ≤ p.2.1 ∧ p.2.1 < 65536 := hp.1
        refine AllB.append ?_ (encL_bytes _ hp.2.1)
        unfold headP
        exact AllB.cons (by omega) (AllB.cons (by omega) (AllB.cons (by omega) (AllB.cons (by omega) AllB.nil)))
      | false => rw [f5 hc]; exact hp.2.2
    rw [f6]
    refine ⟨AllB.cons (by decide) (AllB.cons (by cases p.1 <;> decide) (AllB.cons (by omega) (AllB.cons (by omega) hB))), ?_⟩
    simp only [List.length_cons]; omega
  · unfold layPk wrapP at h ⊢
    by_cases hb : (bodyS p).2 = 0
    · rw [if_pos hb] at h ⊢
      by_cases hl : 4091 < (bodyS p).1.length
      · rw [if_pos hl]; exact ⟨AllB.nil, by simp⟩
      · rw [if_neg hl] at h; exact absurd rfl h
    · rw [if_neg hb]; exact ⟨AllB.nil, by simp⟩
theorem layPk_bad (p : Pk) (h : ¬ (layPk p).2 = 0) : (layPk p).1 = [] := by
  unfold layPk wrapP at h ⊢
  by_cases hb : (bodyS p).2 = 0
  · rw [if_pos hb] at h ⊢
    by_cases hl : 4091 < (bodyS p).1.length
    · rw [if_pos hl]
    · rw [if_neg hl] at h; exact absurd rfl h
  · rw [if_neg hb]
theorem wf_pk {p : Pk} (h : wfT (.pair .bool (.pair (.int .u16) (.pair (.sl (.pair (.int .u8) (.sl (.int .u8)))) (.sl (.int .u8))))) p) : wfP p := by
  refine ⟨?_, fun a ha => ⟨wf_u8 (h.2.2.1.2 a ha).1, wf_bytes (h.2.2.1.2 a ha).2⟩, wf_bytes h.2.2.2⟩
  have h2 : (Lit.int .u16 p.2.1).wf = true := h.2.1
  simp only [Lit.wf, Bool.and_eq_true, decide_eq_true_eq, IntKind.min, IntKind.max, IntKind.signed, IntKind.bits] at h2
  simp at h2
  omega
theorem law_PacketLays (p : Pk) (h1 : wfT (.pair .bool (.pair (.int .u16) (.pair (.sl (.pair (.int .u8) (.sl (.int .u8)))) (.sl (.int .u8))))) p) : law18_PacketLays 200000 p = some true := by
  have wp := wf_pk h1
  obtain ⟨r, hf, hr⟩ := far_ok (N := 200000) p (by omega)
  unfold law18_PacketLays
  simp only [peta]
  rw [hf, Option.bind_some]
  cases r with
  | true => simp [alive18]
  | false =>
    have op := hr rfl
    have lw := layPk_wf p wp
    have s1 : ref01_Same 200000 (layPk p).1 (layPk p).1 = some (decide ((layPk p).1 = (layPk p).1)) := rsame _ _ (by omega) (by omega)
    simp only [cond_false, theirs_ok p (by have := op.1; omega) (by omega : 10000 ≤ 200000), Option.bind_some, peta, play_ok p wp op (by omega : 10000 ≤ 200000), prlay_ok p wp op (by omega : 10000 ≤ 200000), s1, pchk_ok p wp op (by omega : 10000 ≤ 200000), prchk_ok p wp op (by omega : 10000 ≤ 200000), alive18]
    simp
theorem law_PacketParses (b : List Int) (h1 : wfT (.sl (.int .u8)) b) : law18_PacketParses 200000 b = some true := by
  have wb := wf_bytes h1
  unfold law18_PacketParses
  by_cases hb : (5000 : Int) < (b.length : Int)
  · simp only [hb, decide_true, cond_true, alive18, Option.bind_some]
  · obtain ⟨q1, q2, q3, q4⟩ := lay_parP b wb (by omega)
    have s1 : packet_Same 200000 (parP b).1 (parP b).1 = some (decide ((parP b).1 = (parP b).1)) := psame_ok _ _ q1 q1 q2 q2 (by omega)
    simp only [hb, decide_false, cond_false, ppar_ok b wb (by omega) (by omega : 10000 ≤ 200000), prpar_ok b wb (by omega) (by omega : 10000 ≤ 200000), plen_ok b wb (by omega : 10000 ≤ 200000), prlen_ok b wb (by omega : 10000 ≤ 200000), Option.bind_some, peta, theirs_ok (parP b).1 (by have := q2.1; omega) (by omega : 10000 ≤ 200000), s1, alive18]
    simp
theorem law_PacketMakes (kind : Int) (p : Pk) (h0 : wfT (.int .u16) kind) (h1 : wfT (.pair .bool (.pair (.int .u16) (.pair (.sl (.pair (.int .u8) (.sl (.int .u8)))) (.sl (.int .u8))))) p) : law18_PacketMakes 200000 kind p = some true := by
  have wp := wf_pk h1
  have hk : 0 ≤ kind ∧ kind < 65536 := by
    have h2 : (Lit.int .u16 kind).wf = true := h0
    simp only [Lit.wf, Bool.and_eq_true, decide_eq_true_eq, IntKind.min, IntKind.max, IntKind.signed, IntKind.bits] at h2
    simp at h2
    omega
  obtain ⟨r, hf, hr⟩ := far_ok (N := 200000) p (by omega)
  unfold law18_PacketMakes
  simp only [peta]
  rw [hf, Option.bind_some]
  cases r with
  | true => simp [alive18]
  | false =>
    have op := hr rfl
    have w1 : wfP (true, kind, p.2.2.1, []) := ⟨hk, wp.2.1, AllB.nil⟩
    have o1 : okP (true, kind, p.2.2.1, []) := ⟨op.1, op.2.1, by simp⟩
    have w2 : wfP (false, 0, [], p.2.2.2) := bareW wp.2.2
    have o2 : okP (false, 0, [], p.2.2.2) := bareO op.2.2
    have hN : 10000 ≤ 200000 := by omega
    simp only [cond_false, theirs_ok p (by have := op.1; omega) hN, Option.bind_some, of_ok kind p.2.2.1 op.1 op.2.1 hN, ofd_ok (N := 200000) p.2.2.2 (by have := op.2.2; omega), psame_ok _ _ w1 w1 o1 o1 hN, psame_ok _ _ w2 w2 o2 o2 hN, pchk_ok _ w1 o1 hN, prchk_ok _ w1 o1 hN, pchk_ok _ w2 o2 hN, alive18]
    simp [chkP]
theorem law_PacketLength (p : Pk) (n : Int) (h1 : wfT (.pair .bool (.pair (.int .u16) (.pair (.sl (.pair (.int .u8) (.sl (.int .u8)))) (.sl (.int .u8))))) p) (h0 : wfT (.int .u16) n) : law18_PacketLength 200000 p n = some true := by
  have wp := wf_pk h1
  have hk : 0 ≤ n ∧ n < 65536 := by
    have h2 : (Lit.int .u16 n).wf = true := h0
    simp only [Lit.wf, Bool.and_eq_true, decide_eq_true_eq, IntKind.min, IntKind.max, IntKind.signed, IntKind.bits] at h2
    simp at h2
    omega
  have hN : 10000 ≤ 200000 := by omega
  obtain ⟨r, hf, hr⟩ := far_ok (N := 200000) p (by omega)
  unfold law18_PacketLength
  simp only [peta]
  rw [hf, Option.bind_some]
  cases r with
  | true => simp [alive18]
  | false =>
    have op := hr rfl
    have lw := layPk_wf p wp
    simp only [cond_false, theirs_ok p (by have := op.1; omega) hN, Option.bind_some, peta, play_ok p wp op hN]
    by_cases hz : (layPk p).2 = 0
    · obtain ⟨B, f1, f2, f3, f4, f5, f6⟩ := lay_form p hz
      have h4 : p.1 = true → 4 ≤ B.length := fun hc => by
        rw [(f4 hc).2.2, List.length_append]
        have : (headP p).length = 4 := rfl
        omega
      have w : Go.IntKind.wrap .i64 n = n := wrap64 (by omega) (by omega)
      have hlen : (layPk p).1.length = B.length + 4 := by rw [f6]; simp
      have ht : Int.tmod n (((layPk p).1.length : Nat) : Int) = n % (((layPk p).1.length : Nat) : Int) := Int.tmod_eq_emod_of_nonneg hk.1
      obtain ⟨k, hkk⟩ : ∃ k : Nat, n % (((layPk p).1.length : Nat) : Int) = (k : Int) := ⟨(n % (((layPk p).1.length : Nat) : Int)).toNat, by have := Int.emod_nonneg n (show (((layPk p).1.length : Nat) : Int) ≠ 0 by omega); omega⟩
      have hk2 : k < (layPk p).1.length := by have := Int.emod_lt_of_pos n (show (0 : Int) < (((layPk p).1.length : Nat) : Int) by omega); omega
      have htk := takeI_nat (layPk p).1 (a := (k : Int)) (i := k) rfl (by omega)
      have wt : AllB ((layPk p).1.take k) := lw.1.take k
      have lt : ((layPk p).1.take k).length = k := by rw [List.length_take]; omega
      have c0 : ¬ (((layPk p).1.length : Nat) : Int) = 0 := by omega
      have c95 : (((layPk p).1.length : Nat) : Int) ≤ 4095 := by omega
      simp only [hz, decide_true, Bool.not_true, cond_false, c0, decide_false, cond_true, w, ht, hkk, htk, Option.bind_some, plen_ok _ wt hN, ppar_ok _ wt (by omega) hN, c95, alive18]
      by_cases hk4 : k < 4
      · have hk4' : (k : Int) < 4 := by omega
        have hl : lenS ((layPk p).1.take k) = (0, 4) := by unfold lenS; rw [lt, if_pos hk4]
        have hp : (parP ((layPk p).1.take k)).2 = 4 := by unfold parP; rw [hl]; rfl
        simp [hk4', hl, hp]
      · have hk4' : ¬ (k : Int) < 4 := by omega
        have hl : lenS ((layPk p).1.take k) = ((((layPk p).1.length : Nat) : Int), 0) := by
          obtain ⟨m, rfl⟩ : ∃ m, k = m + 4 := ⟨k - 4, by omega⟩
          have := lenS_lay (c := p.1) f2 f3 h4
          rw [hlen]
          rw [f6] at lt ⊢
          simp only [List.take_succ_cons] at lt ⊢
          unfold lenS at this ⊢
          simp only [List.length_cons, List.getD_cons_zero, List.getD_cons_succ] at this lt ⊢
          rw [if_neg (by omega)] at this
          rw [if_neg (by omega), this]
          simp only [Prod.mk.injEq, and_true]
          omega
        have hp : (parP ((layPk p).1.take k)).2 = 4 := by
          unfold parP
          rw [hl]
          simp only [ne_eq, not_true_eq_false, if_false, lt]
          rw [if_pos (by omega)]
        simp [hk4', hl, hp]
    · have hb := layPk_bad p hz
      simp [hz, hb, alive18]
theorem law_PacketBack (p q : Pk) (b : List Int) (h1 : wfT (.pair .bool (.pair (.int .u16) (.pair (.sl (.pair (.int .u8) (.sl (.int .u8)))) (.sl (.int .u8))))) p) (h2 : wfT (.pair .bool (.pair (.int .u16) (.pair (.sl (.pair (.int .u8) (.sl (.int .u8)))) (.sl (.int .u8))))) q) (h3 : wfT (.sl (.int .u8)) b) : law18_PacketBack 200000 p q b = some true := by
  have wp := wf_pk h1
  have wq := wf_pk h2
  have wb := wf_bytes h3
  have hN : 10000 ≤ 200000 := by omega
  obtain ⟨r, hf, hr⟩ := far_ok (N := 200000) p (by omega)
  obtain ⟨r', hf', hr'⟩ := far_ok (N := 200000) q (by omega)
  unfold law18_PacketBack
  simp only [peta]
  rw [hf, Option.bind_some]
  cases r with
  | true => simp [alive18]
  | false =>
    have op := hr rfl
    simp only [cond_false]
    rw [hf', Option.bind_some]
    cases r' with
    | true => simp [alive18]
    | false =>
      have oq := hr' rfl
      simp only [cond_false, cond_true]
      by_cases hb : (5000 : Int) < (b.length : Int)
      · simp only [hb, decide_true, cond_true, cond_false, alive18, Option.bind_some]
      · obtain ⟨q1, q2, q3, q4⟩ := lay_parP b wb (by omega)
        have lw := layPk_wf p wp
        have eB := ppar_ok (N := 200000) b wb (by omega) hN
        have sb : ref01_Same 200000 b b = some (decide (b = b)) := rsame _ _ (by omega) (by omega)
        have wn : wfP (false, 0, [], []) := bareW AllB.nil
        have on : okP (false, 0, [], []) := bareO (by simp)
        have sn := psame_ok (N := 200000) (false, 0, [], []) (false, 0, [], []) wn wn on on hN
        have tail : ((parP b).2 = 0 ∧ packet_Lay 200000 (parP b).1 = some (b, 0)) ∨ (¬ (parP b).2 = 0 ∧ (parP b).1 = (false, 0, [], [])) := by
          by_cases hz : (parP b).2 = 0
          · exact Or.inl ⟨hz, by rw [play_ok _ q1 q2 hN, q3 hz]⟩
          · exact Or.inr ⟨hz, q4 hz⟩
        simp only [hb, decide_false, cond_false, cond_true, theirs_ok p (by have := op.1; omega) hN, theirs_ok q (by have := oq.1; omega) hN, Option.bind_some, peta, psame_ok p q wp wq op oq hN, prsame_ok p q op hN, beq_self_eq_true, Bool.not_true, play_ok p wp op hN, ppar_ok _ lw.1 (by omega) hN]
        have wbare : wfP (bare p) ∧ okP (bare p) := by
          unfold bare
          cases p.1 with
          | true => exact ⟨⟨wp.1, wp.2.1, AllB.nil⟩, op.1, op.2.1, by simp⟩
          | false => exact ⟨bareW wp.2.2, bareO op.2.2⟩
        have sbare := psame_ok (N := 200000) (bare p) (bare p) wbare.1 wbare.1 wbare.2 wbare.2 hN
        by_cases hz : (layPk p).2 = 0
        · rw [parP_lay p wp hz]
          rw [decide_eq_true hz]
          cases hc : p.1 with
          | true =>
            have eb : bare p = (true, p.2.1, p.2.2.1, []) := by unfold bare; rw [hc]; rfl
            rw [eb] at sbare ⊢
            simp only [cond_true, sbare, Option.bind_some, decide_true, Bool.not_true, cond_false]
            rcases tail with ⟨t1, t2⟩ | ⟨t1, t2⟩ <;> simp [eB, t1, t2, sb, sn, alive18]
          | false =>
            have eb : bare p = (false, 0, [], p.2.2.2) := by unfold bare; rw [hc]; rfl
            rw [eb] at sbare ⊢
            simp only [cond_true, sbare, Option.bind_some, decide_true, Bool.not_true, cond_false]
            rcases tail with ⟨t1, t2⟩ | ⟨t1, t2⟩ <;> simp [eB, t1, t2, sb, sn, alive18]
        · rw [decide_eq_false hz]
          cases hc : p.1 with
          | true =>
            simp only [cond_true, cond_false]
            rcases tail with ⟨t1, t2⟩ | ⟨t1, t2⟩ <;> simp [eB, t1, t2, sb, sn, alive18]
          | false =>
            simp only [cond_true, cond_false]
            rcases tail with ⟨t1, t2⟩ | ⟨t1, t2⟩ <;> simp [eB, t1, t2, sb, sn, alive18]
end Go.Proofs.Ytdaminjbockmbaa
