/-
  Layer 21, on plain data: options parsed; what is laid is parsed, what is parsed is laid as the same.
-/
import Derived.Test.YtipjmjkfdekchaaQOpts1
namespace Go.Proofs.Ytipjmjkfdekchaa
set_option maxRecDepth 100000
open Go.RowKit
set_option linter.unusedVariables false
set_option linter.unusedSimpArgs false
set_option maxRecDepth 100000

abbrev ParO := (((List Op) × ((Int) × Unit)) × Unit) ⊕ (Unit × ((List Op) × Unit))
def parE (e : Int) : ParO := .inl (([], (e, ())), ())
/-- The options of bytes, behind those that are there. -/
def par : Nat → List Int → List Op → ParO
  | 0, _, _ => parE 4
  | k + 1, b, acc =>
    if b.length = 0 then .inr ((), (acc, ())) else if acc.length = 32 then parE 5 else if b.length < 2 then parE 4 else if b.getD 1 0 < 2 then parE 3 else if (b.length : Int) < b.getD 1 0 then parE 4 else
      par k (b.drop (b.getD 1 0).toNat) (acc ++ [(b.getD 0 0, (b.drop 2).take ((b.getD 1 0).toNat - 2))])
theorem getD_lt {b : List Int} {i : Nat} (h : i < b.length) : b.getD i 0 = b[i] := by rw [List.getD_eq_getElem?_getD, List.getElem?_eq_getElem h]; rfl
section
variable {N : Nat}
theorem clone_ok (s : List Int) (h : s.length ≤ 1000000) : slices_Clone_byte_byte N s = some s := by
  unfold slices_Clone_byte_byte slices_Clone_byte_byte_ne
  cases s with
  | nil => rfl
  | cons x s =>
    have : roomB (x :: s).length 1 = true := roomB_of (by have := big_len; omega) (by omega)
    simp only [List.isEmpty_cons, cond_false, this, cond_true]
theorem par_prog : ∀ (k : Nat) (b : List Int) (acc : List Op), b.length < k → b.length ≤ 100000 → acc.length ≤ 32 → AllB b → gl (fun (X : (((List (Int)) × Unit) × ((List ((Int) × (List (Int)))) × Unit)) → Option ParO) c => opts_Parse_L2 N X c.1.1 c.2.1) k ((b, ()), (acc, ())) = some (par k b acc)
  | 0, b, acc, h, _, _, _ => by omega
  | k + 1, b, acc, h, hb, ha, hw => by
    rw [gl_succ]
    unfold par opts_Parse_L2
    by_cases h0 : b.length = 0
    · have c1 : ¬ ((0 : Int) < (b.length : Int)) := by omega
      simp only [h0, if_true]
      simp only [Int.natCast_zero, Int.lt_irrefl, decide_false, cond_false]
    · have c1 : ((0 : Int) < (b.length : Int)) := by omega
      simp only [c1, h0, decide_true, cond_true, if_false]
      by_cases h1 : acc.length = 32
      · have c2 : ((acc.length : Int) = 32) := by omega
        simp only [c2, h1, decide_true, cond_true, if_true]
        rfl
      · have c2 : ¬ ((acc.length : Int) = 32) := by omega
        simp only [c2, h1, decide_false, cond_false, if_false]
        unfold opts_first
        by_cases h2 : b.length < 2
        · have c3 : ((b.length : Int) < 2) := by omega
          simp only [c3, h2, decide_true, cond_true, if_true, Option.bind_some]
          rfl
        · have c3 : ¬ ((b.length : Int) < 2) := by omega
          have hx := hw.get 1 (by omega)
          have c4 : Go.IntKind.wrap .i64 b[1] = b[1] := wrap64 (by omega) (by omega)
          rw [getI_at b (a := (1 : Int)) (i := 1) rfl (by omega), getD_lt (by omega : 1 < b.length), getD_lt (by omega : 0 < b.length)]
          simp only [c3, h2, decide_false, cond_false, if_false, Option.bind_some, c4]
          by_cases h3 : b[1] < 2
          · simp only [h3, decide_true, cond_true, if_true, Option.bind_some]
            rfl
          · simp only [h3, decide_false, cond_false, if_false, Option.bind_some]
            by_cases h4 : (b.length : Int) < b[1]
            · simp only [h4, decide_true, cond_true, if_true, Option.bind_some]
              rfl
            · have e1 : b[1] = ((b[1].toNat : Nat) : Int) := by omega
              have hn2 : 2 ≤ b[1].toNat := by omega
              have hnl : b[1].toNat ≤ b.length := by omega
              have c5 : roomB (acc.length + ([(b[0], (b.drop 2).take (b[1].toNat - 2))] : List Op).length) 32 = true := roomB_of (by have := big_len; simp; omega) (by simp; omega)
              have s1 := subI_nat b (a := (2 : Int)) (b := b[1]) (i := 2) (j := b[1].toNat) rfl e1 hn2 hnl
              have s2 := dropI_nat b (a := b[1]) (i := b[1].toNat) e1 hnl
              simp only [h4, decide_false, cond_false, if_false, Option.bind_some, decide_true, Bool.not_true]
              rw [getI_at b (a := (0 : Int)) (i := 0) rfl (by omega), Option.bind_some, s1, Option.bind_some, clone_ok _ (by rw [List.length_take, List.length_drop]; omega), Option.bind_some, c5, cond_true, s2, Option.bind_some]
              exact par_prog k _ _ (by rw [List.length_drop]; omega) (by rw [List.length_drop]; omega) (by simp; omega) (hw.drop _)
theorem par_ref : ∀ (k : Nat) (b : List Int) (at' : Nat) (acc : List Op), b.length - at' < k → at' ≤ b.length → b.length ≤ 100000 → acc.length ≤ 32 → AllB b → gl (fun (X : (((List (Int)) × ((Int) × Unit)) × ((List ((Int) × (List (Int)))) × Unit)) → Option ParO) c => ref21_Parse_L3 N X c.1.1 c.1.2.1 c.2.1) k ((b, ((at' : Int), ())), (acc, ())) = some (par k (b.drop at') acc)
  | 0, b, at', acc, h, _, _, _, _ => by omega
  | k + 1, b, at', acc, h, hat, hb, ha, hw => by
    rw [gl_succ]
    unfold par ref21_Parse_L3
    have hlen : (b.drop at').length = b.length - at' := List.length_drop
    by_cases h0 : (b.drop at').length = 0
    · have c1 : ¬ ((at' : Int) < (b.length : Int)) := by omega
      simp only [h0, if_true, c1, decide_false, cond_false]
    · have c1 : ((at' : Int) < (b.length : Int)) := by omega
      simp only [c1, h0, decide_true, cond_true, if_false]
      by_cases h1 : acc.length = 32
      · have c2 : ((acc.length : Int) = 32) := by omega
        simp only [c2, h1, decide_true, cond_true, if_true]
        rfl
      · have c2 : ¬ ((acc.length : Int) = 32) := by omega
        have e0 : Go.IntKind.wrap .i64 ((b.length : Int) - (at' : Int)) = (((b.drop at').length : Nat) : Int) := by rw [wrap64 (by omega) (by omega), hlen]; omega
        simp only [c2, h1, decide_false, cond_false, if_false, e0]
        by_cases h2 : (b.drop at').length < 2
        · have c3 : (((b.drop at').length : Int) < 2) := by omega
          simp only [c3, h2, decide_true, cond_true, if_true]
          rfl
        · have c3 : ¬ (((b.drop at').length : Int) < 2) := by omega
          have hx := (hw.drop at').get 1 (by omega)
          have c4 : Go.IntKind.wrap .i64 (b.drop at')[1] = (b.drop at')[1] := wrap64 (by omega) (by omega)
          have g1 : getI b (Go.IntKind.wrap .i64 ((at' : Int) + 1)) = some (b.drop at')[1] := by
            rw [wrap64 (by omega) (by omega), getI_at b (i := at' + 1) (by omega) (by omega), List.getElem_drop]
          have g0 : getI b (at' : Int) = some (b.drop at')[0] := by
            rw [getI_at b (i := at') rfl (by omega), List.getElem_drop]; rfl
          rw [g1, getD_lt (by omega : 1 < (b.drop at').length), getD_lt (by omega : 0 < (b.drop at').length)]
          simp only [c3, h2, decide_false, cond_false, if_false, Option.bind_some, c4]
          generalize hd : (b.drop at')[1] = y at *
          by_cases h3 : y < 2
          · simp only [h3, decide_true, cond_true, if_true, Option.bind_some]
            rfl
          · simp only [h3, decide_false, cond_false, if_false, Option.bind_some]
            by_cases h4 : ((b.drop at').length : Int) < y
            · simp only [h4, decide_true, cond_true, if_true, Option.bind_some]
              rfl
            · have e1 : y = ((y.toNat : Nat) : Int) := by omega
              have c5 : roomB (acc.length + ([((b.drop at')[0], ((b.drop at').drop 2).take (y.toNat - 2))] : List Op).length) 32 = true := roomB_of (by have := big_len; simp; omega) (by simp; omega)
              have w2 : Go.IntKind.wrap .i64 ((at' : Int) + 2) = ((at' + 2 : Nat) : Int) := by rw [wrap64 (by omega) (by omega)]; omega
              have w3 : Go.IntKind.wrap .i64 ((at' : Int) + y) = ((at' + y.toNat : Nat) : Int) := by rw [wrap64 (by omega) (by omega)]; omega
              have s1 := subI_nat b (a := Go.IntKind.wrap .i64 ((at' : Int) + 2)) (b := Go.IntKind.wrap .i64 ((at' : Int) + y)) w2 w3 (by omega) (by omega)
              rw [show at' + y.toNat - (at' + 2) = y.toNat - 2 by omega, ← List.drop_drop] at s1
              simp only [h4, decide_false, cond_false, if_false]
              rw [g0, Option.bind_some, s1, Option.bind_some, c5, cond_true, w3]
              have q := par_ref k b (at' + y.toNat) (acc ++ [((b.drop at')[0], ((b.drop at').drop 2).take (y.toNat - 2))]) (by omega) (by omega) hb (by simp; omega) hw
              rw [← List.drop_drop] at q
              exact q
def fin (o : ParO) : List Op × Int := Sum.elim (fun v => (v.1.1, v.1.2.1)) (fun v => (v.2.1, 0)) o
theorem parse_ok (b : List Int) (hb : b.length ≤ 100000) (hw : AllB b) (hN : 100000 < N) : opts_Parse N b = some (fin (par N b [])) := by
  unfold opts_Parse opts_Parse_L2_R
  rw [par_prog N b [] (by omega) hb (by simp) hw]
  cases par N b [] <;> rfl
theorem ref_parse_ok (b : List Int) (hb : b.length ≤ 100000) (hw : AllB b) (hN : 100000 < N) : ref21_Parse N b = some (fin (par N b [])) := by
  unfold ref21_Parse ref21_Parse_L3_R
  have := par_ref (N := N) N b 0 [] (by omega) (by omega) hb (by simp) hw
  rw [List.drop_zero] at this
  rw [show ((0 : Int)) = ((0 : Nat) : Int) from rfl, this]
  cases par N b [] <;> rfl
end
theorem par_encs : ∀ (l : List Op) (k : Nat) (acc : List Op), (encs l).length < k → small l → acc.length + l.length ≤ 32 → par k (encs l) acc = .inr ((), (acc ++ l, ()))
  | [], k + 1, acc, h, hs, ha => by simp [par, encs]
  | o :: l, 0, acc, h, hs, ha => by omega
  | o :: l, k + 1, acc, h, hs, ha => by
    have h1 := hs o List.mem_cons_self
    have hl : (encs (o :: l)).length = 2 + o.2.length + (encs l).length := by rw [encs_cons, List.length_append]; simp only [enc1, List.length_cons]; omega
    have e1 : encs (o :: l) = o.1 :: (2 + (o.2.length : Int)) :: (o.2 ++ encs l) := by rw [encs_cons]; rfl
    rw [List.length_cons] at ha
    have g1 : (encs (o :: l)).getD 1 0 = 2 + (o.2.length : Int) := by rw [e1]; rfl
    have g0 : (encs (o :: l)).getD 0 0 = o.1 := by rw [e1]; rfl
    have gn : (2 + (o.2.length : Int)).toNat = o.2.length + 2 := by omega
    have gd : (encs (o :: l)).drop (o.2.length + 2) = encs l := by rw [e1]; simp
    have gt : ((encs (o :: l)).drop 2).take (o.2.length + 2 - 2) = o.2 := by rw [e1]; simp
    unfold par
    rw [if_neg (by omega), if_neg (by omega), if_neg (by omega), g1, if_neg (by omega), if_neg (by omega), gn, gd, gt, g0]
    rw [par_encs l k _ (by omega) (fun x hx => hs x (List.mem_cons_of_mem _ hx)) (by simp; omega)]
    simp
theorem par_back : ∀ (k : Nat) (b : List Int) (acc : List Op), b.length < k → AllB b → small acc → acc.length ≤ 32 → (∃ e, par k b acc = parE e ∧ e ≠ 0) ∨ ∃ m, par k b acc = .inr ((), (m, ())) ∧ encs m = encs acc ++ b ∧ small m ∧ m.length ≤ 32
  | 0, b, acc, h, _, _, _ => by omega
  | k + 1, b, acc, h, hw, hs, ha => by
    unfold par
    by_cases h0 : b.length = 0
    · right
      rw [if_pos h0]
      have := List.eq_nil_of_length_eq_zero h0
      exact ⟨acc, rfl, by rw [this, List.append_nil], hs, ha⟩
    · rw [if_neg h0]
      by_cases h1 : acc.length = 32
      · left; rw [if_pos h1]; exact ⟨5, rfl, by decide⟩
      · rw [if_neg h1]
        by_cases h2 : b.length < 2
        · left; rw [if_pos h2]; exact ⟨4, rfl, by decide⟩
        · rw [if_neg h2, getD_lt (by omega : 1 < b.length), getD_lt (by omega : 0 < b.length)]
          have hx := hw.get 1 (by omega)
          by_cases h3 : b[1] < 2
          · left; rw [if_pos h3]; exact ⟨3, rfl, by decide⟩
          · rw [if_neg h3]
            by_cases h4 : (b.length : Int) < b[1]
            · left; rw [if_pos h4]; exact ⟨4, rfl, by decide⟩
            · rw [if_neg h4]
              have hlt : ((b.drop 2).take (b[1].toNat - 2)).length = b[1].toNat - 2 := by rw [List.length_take, List.length_drop]; omega
              rcases par_back k (b.drop b[1].toNat) (acc ++ [(b[0], (b.drop 2).take (b[1].toNat - 2))]) (by rw [List.length_drop]; omega) (hw.drop _) (fun o ho => by
                rcases List.mem_append.1 ho with ho | ho
                · exact hs o ho
                · simp only [List.mem_singleton] at ho; subst ho; show ((b.drop 2).take (b[1].toNat - 2)).length ≤ 253; omega) (by simp; omega) with h5 | ⟨m, m1, m2, m3, m4⟩
              · exact .inl h5
              · refine .inr ⟨m, m1, ?_, m3, m4⟩
                rw [m2, encs_append, List.append_assoc]
                congr 1
                have e2 : encs [(b[0], (b.drop 2).take (b[1].toNat - 2))] = b[0] :: b[1] :: (b.drop 2).take (b[1].toNat - 2) := by
                  show _ :: (2 + (List.length _ : Int)) :: (_ ++ []) = _
                  rw [hlt, List.append_nil]
                  congr 2
                  omega
                rw [e2]
                have e3 : b.drop b[1].toNat = (b.drop 2).drop (b[1].toNat - 2) := by rw [List.drop_drop]; congr 1; omega
                rw [e3, List.cons_append, List.cons_append, List.take_append_drop]
                match b, h2 with
                | x :: y :: r, _ => rfl
                | [_], h2 => exact absurd (by simp) h2
                | [], h2 => exact absurd (by simp) h2
/-- Bytes that are taken of bytes are bytes. -/
theorem par_wf : ∀ (k : Nat) (b : List Int) (acc : List Op), AllB b → wfO acc → ∀ m, par k b acc = .inr ((), (m, ())) → wfO m
  | 0, b, acc, hw, hs, m, h => by cases h
  | k + 1, b, acc, hw, hs, m, h => by
    unfold par at h
    split at h
    · injection h with h; injection h with _ h; injection h with h; subst h; exact hs
    · split at h
      · cases h
      · split at h
        · cases h
        · rename_i h2
          split at h
          · cases h
          · split at h
            · cases h
            · refine par_wf k _ _ (hw.drop _) (fun o ho => ?_) m h
              rcases List.mem_append.1 ho with ho | ho
              · exact hs o ho
              · simp only [List.mem_singleton] at ho
                subst ho
                exact ⟨by rw [getD_lt (by omega : 0 < b.length)]; exact hw.get 0 (by omega), (hw.drop _).take _⟩
end Go.Proofs.Ytipjmjkfdekchaa
