/-
  Options on plain data, over the functions of another layer: laid, parsed, the same.
-/
import Derived.Test.YtdaminjbockmbaaQOcts
import Derived.Test.YtdaminjbockmbaaGCtl
namespace Go.Proofs.Ytdaminjbockmbaa
set_option maxRecDepth 100000
open Go.RowKit
set_option linter.unusedVariables false
set_option linter.unusedSimpArgs false
set_option maxRecDepth 100000


abbrev Op := Int × List Int
def wfO (l : List Op) : Prop := ∀ o ∈ l, (0 ≤ o.1 ∧ o.1 < 256) ∧ AllB o.2
def enc1 (o : Op) : List Int := o.1 :: (2 + (o.2.length : Int)) :: o.2
def encs (l : List Op) : List Int := l.flatMap enc1
def small (l : List Op) : Prop := ∀ o ∈ l, o.2.length ≤ 253
theorem encs_cons (o : Op) (l : List Op) : encs (o :: l) = enc1 o ++ encs l := rfl
theorem encs_append (l m : List Op) : encs (l ++ m) = encs l ++ encs m := List.flatMap_append
theorem encs_len : ∀ {l : List Op}, small l → (encs l).length ≤ 255 * l.length
  | [], _ => by simp [encs]
  | o :: l, h => by
    have h1 := h o List.mem_cons_self
    have h2 := encs_len (l := l) fun x hx => h x (List.mem_cons_of_mem _ hx)
    rw [encs_cons, List.length_append, List.length_cons]
    simp only [enc1, List.length_cons]
    omega
theorem encs_all : ∀ {l : List Op}, small l → wfO l → AllB (encs l)
  | [], _, _ => AllB.nil
  | o :: l, h, w => by
    have h1 := h o List.mem_cons_self
    have w1 := w o List.mem_cons_self
    have h2 := encs_all (l := l) (fun x hx => h x (List.mem_cons_of_mem _ hx)) (fun x hx => w x (List.mem_cons_of_mem _ hx))
    rw [encs_cons]
    exact (AllB.cons w1.1 (AllB.cons (by omega) w1.2)).append h2
theorem take_snoc {α : Type} (l : List α) (i : Nat) (h : i < l.length) : l.take (i + 1) = l.take i ++ [l[i]] := by rw [List.take_add_one, List.getElem?_eq_getElem h]; rfl
section
variable {N : Nat}
theorem theirs_ok (l : List Op) (hl : l.length ≤ 1000) (hN : 10000 ≤ N) : law22_options N l = some l := by
  have h := gl_run (G := fun (X : (((List ((Int) × (List (Int)))) × ((Int) × ((Int) × Unit))) × ((List ((Int) × (List (Int)))) × Unit)) → Option ((Unit × ((List ((Int) × (List (Int)))) × Unit)))) c => law22_options_L3 N X c.1.1 c.1.2.1 c.1.2.2.1 c.2.1)
    (fun i => ((l, ((l.length : Int), ((i : Int), ()))), (l.take i, ()))) l.length ((), (l, ())) (fun X i hi => by
    have c1 : ((i : Int) < (l.length : Int)) := by omega
    have c2 : Go.IntKind.wrap .i64 ((i : Int) + 1) = ((i + 1 : Nat) : Int) := by rw [wrap64 (by omega) (by omega)]; omega
    have c3 : roomB ((l.take i).length + ([(l[i].1, l[i].2)] : List Op).length) 32 = true := roomB_of (by have := big_len; simp; omega) (by simp; omega)
    simp only [law22_options_L3, c1, decide_true, cond_true, getI_lt l i hi, Option.bind_some, c3, c2, take_snoc l i hi]) (fun X => by
    simp [law22_options_L3]) N 0 (by omega) (by omega)
  unfold law22_options law22_options_L3_R
  simp only [Int.natCast_zero, List.take_zero] at h
  rw [h]
  rfl
/-! ### Laid -/
abbrev LayO := (((List (Int)) × ((Int) × Unit)) × Unit) ⊕ (Unit × ((List (Int)) × Unit))
def layO (l : List Op) : LayO := if l.all (fun o => decide (o.2.length ≤ 253)) then .inr ((), (encs l, ())) else .inl (([], ((8 : Int), ())), ())
def layS (l : List Op) : List Int × Int := if 32 < l.length then ([], 5) else if l.all (fun o => decide (o.2.length ≤ 253)) then (encs l, 0) else ([], 8)
theorem all_small {l : List Op} : l.all (fun o => decide (o.2.length ≤ 253)) = true ↔ small l := by simp [small]
theorem lay_end {l : List Op} {i : Nat} (h : l.length ≤ i) (hs : small (l.take i)) : layO l = .inr ((), (encs l, ())) ∧ encs (l.take i) = encs l := by
  rw [List.take_of_length_le h] at hs ⊢
  exact ⟨by unfold layO; rw [if_pos (all_small.2 hs)], rfl⟩
theorem lay_big {l : List Op} {i : Nat} (hi : i < l.length) (h : 253 < l[i].2.length) : layO l = .inl (([], ((8 : Int), ())), ()) := by
  unfold layO
  rw [if_neg (fun hs => by have := all_small.1 hs _ (List.getElem_mem hi); omega)]
theorem small_snoc {l : List Op} {i : Nat} (hi : i < l.length) (hs : small (l.take i)) (h : l[i].2.length ≤ 253) : small (l.take (i + 1)) := by
  intro o ho
  rw [take_snoc l i hi] at ho
  rcases List.mem_append.1 ho with ho | ho
  · exact hs o ho
  · simp at ho; subst ho; exact h
theorem head_len {n : Nat} (h : n ≤ 253) : Go.IntKind.wrap .u8 (Go.IntKind.wrap .i64 ((2 : Int) + (n : Int))) = 2 + (n : Int) := by
  rw [wrap64 (by omega) (by omega), wrapU8 (by omega) (by omega)]
theorem encs_snoc {l : List Op} {i : Nat} (hi : i < l.length) : encs (l.take (i + 1)) = encs (l.take i) ++ [l[i].1, 2 + (l[i].2.length : Int)] ++ l[i].2 := by
  rw [take_snoc l i hi, encs_append]
  simp [encs, enc1]
theorem lay_room {l : List Op} {i : Nat} (hl : l.length ≤ 1000) (hi : i < l.length) (hs : small (l.take i)) (h : l[i].2.length ≤ 253) : roomB ((encs (l.take i)).length + ([l[i].1, 2 + (l[i].2.length : Int)] : List Int).length) 1 = true ∧ roomB ((encs (l.take i) ++ [l[i].1, 2 + (l[i].2.length : Int)]).length + l[i].2.length) 1 = true := by
  have h1 := encs_len hs
  have h2 := big_len
  rw [List.length_take] at h1
  exact ⟨roomB_of (by simp only [List.length_cons, List.length_nil]; omega) (by simp only [List.length_cons, List.length_nil]; omega), roomB_of (by simp only [List.length_append, List.length_cons, List.length_nil]; omega) (by simp only [List.length_append, List.length_cons, List.length_nil]; omega)⟩
theorem lay_ok (l : List Op) (hl : l.length ≤ 1000) (hN : 10000 ≤ N) : opts_Lay N l = some (layS l) := by
  unfold opts_Lay layS
  by_cases h32 : 32 < l.length
  · have c0 : ((32 : Int) < (l.length : Int)) := by omega
    simp only [c0, h32, decide_true, cond_true, if_true]
  · have c0 : ¬ ((32 : Int) < (l.length : Int)) := by omega
    simp only [c0, h32, decide_false, cond_false, if_false]
    obtain ⟨o, h1, h2⟩ := gl_inv (G := fun (X : (((List ((Int) × (List (Int)))) × ((Int) × ((Int) × Unit))) × ((List (Int)) × Unit)) → Option LayO) c => opts_Lay_L5 N X c.1.1 c.1.2.1 c.1.2.2.1 c.2.1)
      (fun n c => ∃ i : Nat, c = ((l, ((l.length : Int), ((i : Int), ()))), (encs (l.take i), ())) ∧ i ≤ l.length ∧ n = l.length - i ∧ small (l.take i)) (fun o => o = layO l) (fun X n c ⟨i, hc, hi, hn, hs⟩ => by
        subst hc
        rcases Nat.lt_or_ge i l.length with hlt | hge
        · have c1 : ((i : Int) < (l.length : Int)) := by omega
          have c2 : Go.IntKind.wrap .i64 ((i : Int) + 1) = ((i + 1 : Nat) : Int) := by rw [wrap64 (by omega) (by omega)]; omega
          by_cases he : (253 : Int) < (l[i].2.length : Int)
          · left
            exact ⟨_, by simp only [opts_Lay_L5, c1, decide_true, cond_true, getI_lt l i hlt, Option.bind_some, he], (lay_big hlt (by omega)).symm⟩
          · right
            have he' : l[i].2.length ≤ 253 := by omega
            obtain ⟨r1, r2⟩ := lay_room hl hlt hs he'
            refine ⟨l.length - (i + 1), ((l, ((l.length : Int), (((i + 1 : Nat) : Int), ()))), (encs (l.take (i + 1)), ())), by omega, ⟨i + 1, rfl, hlt, rfl, small_snoc hlt hs he'⟩, ?_⟩
            simp only [opts_Lay_L5, c1, decide_true, cond_true, getI_lt l i hlt, Option.bind_some, he, decide_false, cond_false, c2, head_len he', r1, r2, encs_snoc hlt]
        · left
          have c1 : ¬ ((i : Int) < (l.length : Int)) := by omega
          obtain ⟨e1, e2⟩ := lay_end hge hs
          exact ⟨.inr ((), (encs (l.take i), ())), by simp only [opts_Lay_L5, c1, decide_false, cond_false], by rw [e1, e2]⟩) N l.length ((l, ((l.length : Int), ((0 : Int), ()))), (([] : List Int), ())) (by omega) ⟨0, rfl, by omega, by omega, fun o ho => by cases ho⟩
    unfold opts_Lay_L5_R
    rw [h1, h2]
    unfold layO
    split <;> rfl
theorem ref_lay_ok (l : List Op) (hl : l.length ≤ 1000) (hN : 10000 ≤ N) : ref21_Lay N l = some (layS l) := by
  unfold ref21_Lay layS
  by_cases h32 : 32 < l.length
  · have c0 : ((32 : Int) < (l.length : Int)) := by omega
    simp only [c0, h32, decide_true, cond_true, if_true]
  · have c0 : ¬ ((32 : Int) < (l.length : Int)) := by omega
    simp only [c0, h32, decide_false, cond_false, if_false]
    obtain ⟨o, h1, h2⟩ := gl_inv (G := fun (X : (((List ((Int) × (List (Int)))) × ((Int) × Unit)) × ((List (Int)) × Unit)) → Option LayO) c => ref21_Lay_L5 N X c.1.1 c.1.2.1 c.2.1)
      (fun n c => ∃ i : Nat, c = ((l, ((i : Int), ())), (encs (l.take i), ())) ∧ i ≤ l.length ∧ n = l.length - i ∧ small (l.take i)) (fun o => o = layO l) (fun X n c ⟨i, hc, hi, hn, hs⟩ => by
        subst hc
        rcases Nat.lt_or_ge i l.length with hlt | hge
        · have c1 : ((i : Int) < (l.length : Int)) := by omega
          have c2 : Go.IntKind.wrap .i64 ((i : Int) + 1) = ((i + 1 : Nat) : Int) := by rw [wrap64 (by omega) (by omega)]; omega
          by_cases he : (253 : Int) < (l[i].2.length : Int)
          · left
            exact ⟨_, by simp only [ref21_Lay_L5, c1, decide_true, cond_true, getI_lt l i hlt, Option.bind_some, he], (lay_big hlt (by omega)).symm⟩
          · right
            have he' : l[i].2.length ≤ 253 := by omega
            obtain ⟨r1, r2⟩ := lay_room hl hlt hs he'
            refine ⟨l.length - (i + 1), ((l, (((i + 1 : Nat) : Int), ())), (encs (l.take (i + 1)), ())), by omega, ⟨i + 1, rfl, hlt, rfl, small_snoc hlt hs he'⟩, ?_⟩
            simp only [ref21_Lay_L5, c1, decide_true, cond_true, getI_lt l i hlt, Option.bind_some, he, decide_false, cond_false, c2, head_len he', r1, r2, encs_snoc hlt]
        · left
          have c1 : ¬ ((i : Int) < (l.length : Int)) := by omega
          obtain ⟨e1, e2⟩ := lay_end hge hs
          exact ⟨.inr ((), (encs (l.take i), ())), by simp only [ref21_Lay_L5, c1, decide_false, cond_false], by rw [e1, e2]⟩) N l.length ((l, ((0 : Int), ())), (([] : List Int), ())) (by omega) ⟨0, rfl, by omega, by omega, fun o ho => by cases ho⟩
    unfold ref21_Lay_L5_R
    rw [h1, h2]
    unfold layO
    split <;> rfl
end

abbrev ParO := (((List Op) × ((Int) × Unit)) × Unit) ⊕ (Unit × ((List Op) × Unit))
def parE (e : Int) : ParO := .inl (([], (e, ())), ())
/-- The options of bytes, behind those that are there. -/
def par : Nat → List Int → List Op → ParO
  | 0, _, _ => parE 4
  | k + 1, b, acc =>
    if b.length = 0 then .inr ((), (acc, ())) else if acc.length = 32 then parE 5 else if b.length < 2 then parE 4 else if b.getD 1 0 < 2 then parE 3 else if (b.length : Int) < b.getD 1 0 then parE 4 else
      par k (b.drop (b.getD 1 0).toNat) (acc ++ [(b.getD 0 0, (b.drop 2).take ((b.getD 1 0).toNat - 2))])
theorem getD_lt {b : List Int} {i : Nat} (h : i < b.length) : b.getD i 0 = b[i] := by rw [List.getD_eq_getElem?_getD, List.getElem?_eq_getElem h]; rfl
section
variable {N : Nat}
theorem clone_ok (s : List Int) (h : s.length ≤ 1000000) : slices_Clone_byte_byte N s = some s := by
  unfold slices_Clone_byte_byte slices_Clone_byte_byte_ne
  cases s with
  | nil => rfl
  | cons x s =>
    have : roomB (x :: s).length 1 = true := roomB_of (by have := big_len; omega) (by omega)
    first
      | (simp only [List.isEmpty_cons, cond_false, this, cond_true]; done)
      | (simp only [List.isEmpty_cons, cond_false, List.length_nil, Nat.zero_add, List.nil_append, this, cond_true]; done)
theorem par_prog : ∀ (k : Nat) (b : List Int) (acc : List Op), b.length < k → b.length ≤ 100000 → acc.length ≤ 32 → AllB b → gl (fun (X : (((List (Int)) × Unit) × ((List ((Int) × (List (Int)))) × Unit)) → Option ParO) c => opts_Parse_L2 N X c.1.1 c.2.1) k ((b, ()), (acc, ())) = some (par k b acc)
  | 0, b, acc, h, _, _, _ => by omega
  | k + 1, b, acc, h, hb, ha, hw => by
    rw [gl_succ]
    unfold par opts_Parse_L2
    by_cases h0 : b.length = 0
    · have c1 : ¬ ((0 : Int) < (b.length : Int)) := by omega
      simp only [h0, if_true]
      simp only [Int.natCast_zero, Int.lt_irrefl, decide_false, cond_false]
    · have c1 : ((0 : Int) < (b.length : Int)) := by omega
      simp only [c1, h0, decide_true, cond_true, if_false]
      by_cases h1 : acc.length = 32
      · have c2 : ((acc.length : Int) = 32) := by omega
        simp only [c2, h1, decide_true, cond_true, if_true]
        rfl
      · have c2 : ¬ ((acc.length : Int) = 32) := by omega
        simp only [c2, h1, decide_false, cond_false, if_false]
        unfold opts_first
        by_cases h2 : b.length < 2
        · have c3 : ((b.length : Int) < 2) := by omega
          simp only [c3, h2, decide_true, cond_true, if_true, Option.bind_some]
          rfl
        · have c3 : ¬ ((b.length : Int) < 2) := by omega
          have hx := hw.get 1 (by omega)
          have c4 : Go.IntKind.wrap .i64 b[1] = b[1] := wrap64 (by omega) (by omega)
          rw [getI_at b (a := (1 : Int)) (i := 1) rfl (by omega), getD_lt (by omega : 1 < b.length), getD_lt (by omega : 0 < b.length)]
          simp only [c3, h2, decide_false, cond_false, if_false, Option.bind_some, c4]
          by_cases h3 : b[1] < 2
          · simp only [h3, decide_true, cond_true, if_true, Option.bind_some]
            rfl
          · simp only [h3, decide_false, cond_false, if_false, Option.bind_some]
            by_cases h4 : (b.length : Int) < b[1]
            · simp only [h4, decide_true, cond_true, if_true, Option.bind_some]
              rfl
            · have e1 : b[1] = ((b[1].toNat : Nat) : Int) := by omega
              have hn2 : 2 ≤ b[1].toNat := by omega
              have hnl : b[1].toNat ≤ b.length := by omega
              have c5 : roomB (acc.length + ([(b[0], (b.drop 2).take (b[1].toNat - 2))] : List Op).length) 32 = true := roomB_of (by have := big_len; simp; omega) (by simp; omega)
              have s1 := subI_nat b (a := (2 : Int)) (b := b[1]) (i := 2) (j := b[1].toNat) rfl e1 hn2 hnl
              have s2 := dropI_nat b (a := b[1]) (i := b[1].toNat) e1 hnl
              simp only [h4, decide_false, cond_false, if_false, Option.bind_some, decide_true, Bool.not_true]
              rw [getI_at b (a := (0 : Int)) (i := 0) rfl (by omega), Option.bind_some, s1, Option.bind_some, clone_ok _ (by rw [List.length_take, List.length_drop]; omega), Option.bind_some, c5, cond_true, s2, Option.bind_some]
              exact par_prog k _ _ (by rw [List.length_drop]; omega) (by rw [List.length_drop]; omega) (by simp; omega) (hw.drop _)
theorem par_ref : ∀ (k : Nat) (b : List Int) (at' : Nat) (acc : List Op), b.length - at' < k → at' ≤ b.length → b.length ≤ 100000 → acc.length ≤ 32 → AllB b → gl (fun (X : (((List (Int)) × ((Int) × Unit)) × ((List ((Int) × (List (Int)))) × Unit)) → Option ParO) c => ref21_Parse_L3 N X c.1.1 c.1.2.1 c.2.1) k ((b, ((at' : Int), ())), (acc, ())) = some (par k (b.drop at') acc)
  | 0, b, at', acc, h, _, _, _, _ => by omega
  | k + 1, b, at', acc, h, hat, hb, ha, hw => by
    rw [gl_succ]
    unfold par ref21_Parse_L3
    have hlen : (b.drop at').length = b.length - at' := List.length_drop
    by_cases h0 : (b.drop at').length = 0
    · have c1 : ¬ ((at' : Int) < (b.length : Int)) := by omega
      simp only [h0, if_true, c1, decide_false, cond_false]
    · have c1 : ((at' : Int) < (b.length : Int)) := by omega
      simp only [c1, h0, decide_true, cond_true, if_false]
      by_cases h1 : acc.length = 32
      · have c2 : ((acc.length : Int) = 32) := by omega
        simp only [c2, h1, decide_true, cond_true, if_true]
        rfl
      · have c2 : ¬ ((acc.length : Int) = 32) := by omega
        have e0 : Go.IntKind.wrap .i64 ((b.length : Int) - (at' : Int)) = (((b.drop at').length : Nat) : Int) := by rw [wrap64 (by omega) (by omega), hlen]; omega
        simp only [c2, h1, decide_false, cond_false, if_false, e0]
        by_cases h2 : (b.drop at').length < 2
        · have c3 : (((b.drop at').length : Int) < 2) := by omega
          simp only [c3, h2, decide_true, cond_true, if_true]
          rfl
        · have c3 : ¬ (((b.drop at').length : Int) < 2) := by omega
          have hx := (hw.drop at').get 1 (by omega)
          have c4 : Go.IntKind.wrap .i64 (b.drop at')[1] = (b.drop at')[1] := wrap64 (by omega) (by omega)
          have g1 : getI b (Go.IntKind.wrap .i64 ((at' : Int) + 1)) = some (b.drop at')[1] := by
            rw [wrap64 (by omega) (by omega), getI_at b (i := at' + 1) (by omega) (by omega), List.getElem_drop]
          have g0 : getI b (at' : Int) = some (b.drop at')[0] := by
            rw [getI_at b (i := at') rfl (by omega), List.getElem_drop]; rfl
          rw [g1, getD_lt (by omega : 1 < (b.drop at').length), getD_lt (by omega : 0 < (b.drop at').length)]
          simp only [c3, h2, decide_false, cond_false, if_false, Option.bind_some, c4]
          generalize hd : (b.drop at')[1] = y at *
          by_cases h3 : y < 2
          · simp only [h3, decide_true, cond_true, if_true, Option.bind_some]
            rfl
          · simp only [h3, decide_false, cond_false, if_false, Option.bind_some]
            by_cases h4 : ((b.drop at').length : Int) < y
            · simp only [h4, decide_true, cond_true, if_true, Option.bind_some]
              rfl
            · have e1 : y = ((y.toNat : Nat) : Int) := by omega
              have c5 : roomB (acc.length + ([((b.drop at')[0], ((b.drop at').drop 2).take (y.toNat - 2))] : List Op).length) 32 = true := roomB_of (by have := big_len; simp; omega) (by simp; omega)
              have w2 : Go.IntKind.wrap .i64 ((at' : Int) + 2) = ((at' + 2 : Nat) : Int) := by rw [wrap64 (by omega) (by omega)]; omega
              have w3 : Go.IntKind.wrap .i64 ((at' : Int) + y) = ((at' + y.toNat : Nat) : Int) := by rw [wrap64 (by omega) (by omega)]; omega
              have s1 := subI_nat b (a := Go.IntKind.wrap .i64 ((at' : Int) + 2)) (b := Go.IntKind.wrap .i64 ((at' : Int) + y)) w2 w3 (by omega) (by omega)
              rw [show at' + y.toNat - (at' + 2) = y.toNat - 2 by omega, ← List.drop_drop] at s1
              simp only [h4, decide_false, cond_false, if_false]
              rw [g0, Option.bind_some, s1, Option.bind_some, c5, cond_true, w3]
              have q := par_ref k b (at' + y.toNat) (acc ++ [((b.drop at')[0], ((b.drop at').drop 2).take (y.toNat - 2))]) (by omega) (by omega) hb (by simp; omega) hw
              rw [← List.drop_drop] at q
              exact q
def fin (o : ParO) : List Op × Int := Sum.elim (fun v => (v.1.1, v.1.2.1)) (fun v => (v.2.1, 0)) o
theorem parse_ok (b : List Int) (hb : b.length ≤ 100000) (hw : AllB b) (hN : 100000 < N) : opts_Parse N b = some (fin (par N b [])) := by
  unfold opts_Parse opts_Parse_L2_R
  rw [par_prog N b [] (by omega) hb (by simp) hw]
  cases par N b [] <;> rfl
theorem ref_parse_ok (b : List Int) (hb : b.length ≤ 100000) (hw : AllB b) (hN : 100000 < N) : ref21_Parse N b = some (fin (par N b [])) := by
  unfold ref21_Parse ref21_Parse_L3_R
  have := par_ref (N := N) N b 0 [] (by omega) (by omega) hb (by simp) hw
  rw [List.drop_zero] at this
  rw [show ((0 : Int)) = ((0 : Nat) : Int) from rfl, this]
  cases par N b [] <;> rfl
end
theorem par_encs : ∀ (l : List Op) (k : Nat) (acc : List Op), (encs l).length < k → small l → acc.length + l.length ≤ 32 → par k (encs l) acc = .inr ((), (acc ++ l, ()))
  | [], k + 1, acc, h, hs, ha => by simp [par, encs]
  | o :: l, 0, acc, h, hs, ha => by omega
  | o :: l, k + 1, acc, h, hs, ha => by
    have h1 := hs o List.mem_cons_self
    have hl : (encs (o :: l)).length = 2 + o.2.length + (encs l).length := by rw [encs_cons, List.length_append]; simp only [enc1, List.length_cons]; omega
    have e1 : encs (o :: l) = o.1 :: (2 + (o.2.length : Int)) :: (o.2 ++ encs l) := by rw [encs_cons]; rfl
    rw [List.length_cons] at ha
    have g1 : (encs (o :: l)).getD 1 0 = 2 + (o.2.length : Int) := by rw [e1]; rfl
    have g0 : (encs (o :: l)).getD 0 0 = o.1 := by rw [e1]; rfl
    have gn : (2 + (o.2.length : Int)).toNat = o.2.length + 2 := by omega
    have gd : (encs (o :: l)).drop (o.2.length + 2) = encs l := by rw [e1]; simp
    have gt : ((encs (o :: l)).drop 2).take (o.2.length + 2 - 2) = o.2 := by rw [e1]; simp
    unfold par
    rw [if_neg (by omega), if_neg (by omega), if_neg (by omega), g1, if_neg (by omega), if_neg (by omega), gn, gd, gt, g0]
    rw [par_encs l k _ (by omega) (fun x hx => hs x (List.mem_cons_of_mem _ hx)) (by simp; omega)]
    simp
theorem par_back : ∀ (k : Nat) (b : List Int) (acc : List Op), b.length < k → AllB b → small acc → acc.length ≤ 32 → (∃ e, par k b acc = parE e ∧ e ≠ 0) ∨ ∃ m, par k b acc = .inr ((), (m, ())) ∧ encs m = encs acc ++ b ∧ small m ∧ m.length ≤ 32
  | 0, b, acc, h, _, _, _ => by omega
  | k + 1, b, acc, h, hw, hs, ha => by
    unfold par
    by_cases h0 : b.length = 0
    · right
      rw [if_pos h0]
      have := List.eq_nil_of_length_eq_zero h0
      exact ⟨acc, rfl, by rw [this, List.append_nil], hs, ha⟩
    · rw [if_neg h0]
      by_cases h1 : acc.length = 32
      · left; rw [if_pos h1]; exact ⟨5, rfl, by decide⟩
      · rw [if_neg h1]
        by_cases h2 : b.length < 2
        · left; rw [if_pos h2]; exact ⟨4, rfl, by decide⟩
        · rw [if_neg h2, getD_lt (by omega : 1 < b.length), getD_lt (by omega : 0 < b.length)]
          have hx := hw.get 1 (by omega)
          by_cases h3 : b[1] < 2
          · left; rw [if_pos h3]; exact ⟨3, rfl, by decide⟩
          · rw [if_neg h3]
            by_cases h4 : (b.length : Int) < b[1]
            · left; rw [if_pos h4]; exact ⟨4, rfl, by decide⟩
            · rw [if_neg h4]
              have hlt : ((b.drop 2).take (b[1].toNat - 2)).length = b[1].toNat - 2 := by rw [List.length_take, List.length_drop]; omega
              rcases par_back k (b.drop b[1].toNat) (acc ++ [(b[0], (b.drop 2).take (b[1].toNat - 2))]) (by rw [List.length_drop]; omega) (hw.drop _) (fun o ho => by
                rcases List.mem_append.1 ho with ho | ho
                · exact hs o ho
                · simp only [List.mem_singleton] at ho; subst ho; show ((b.drop 2).take (b[1].toNat - 2)).length ≤ 253; omega) (by simp; omega) with h5 | ⟨m, m1, m2, m3, m4⟩
              · exact .inl h5
              · refine .inr ⟨m, m1, ?_, m3, m4⟩
                rw [m2, encs_append, List.append_assoc]
                congr 1
                have e2 : encs [(b[0], (b.drop 2).take (b[1].toNat - 2))] = b[0] :: b[1] :: (b.drop 2).take (b[1].toNat - 2) := by
                  show _ :: (2 + (List.length _ : Int)) :: (_ ++ []) = _
                  rw [hlt, List.append_nil]
                  congr 2
                  omega
                rw [e2]
                have e3 : b.drop b[1].toNat = (b.drop 2).drop (b[1].toNat - 2) := by rw [List.drop_drop]; congr 1; omega
                rw [e3, List.cons_append, List.cons_append, List.take_append_drop]
                match b, h2 with
                | x :: y :: r, _ => rfl
                | [_], h2 => exact absurd (by simp) h2
                | [], h2 => exact absurd (by simp) h2
/-- Bytes that are taken of bytes are bytes. -/
theorem par_wf : ∀ (k : Nat) (b : List Int) (acc : List Op), AllB b → wfO acc → ∀ m, par k b acc = .inr ((), (m, ())) → wfO m
  | 0, b, acc, hw, hs, m, h => by cases h
  | k + 1, b, acc, hw, hs, m, h => by
    unfold par at h
    split at h
    · injection h with h; injection h with _ h; injection h with h; subst h; exact hs
    · split at h
      · cases h
      · split at h
        · cases h
        · rename_i h2
          split at h
          · cases h
          · split at h
            · cases h
            · refine par_wf k _ _ (hw.drop _) (fun o ho => ?_) m h
              rcases List.mem_append.1 ho with ho | ho
              · exact hs o ho
              · simp only [List.mem_singleton] at ho
                subst ho
                exact ⟨by rw [getD_lt (by omega : 0 < b.length)]; exact hw.get 0 (by omega), (hw.drop _).take _⟩

section
variable {N : Nat}
theorem equal_ok (x y : Op) (h1 : AllB x.2) (h2 : AllB y.2) : opts_equal N x y = some (decide (x = y)) := by
  unfold opts_equal bytes_Equal
  rw [toBy_map h1, toBy_map h2]
  simp only [Option.bind_some, bytes_dec h1 h2]
  obtain ⟨x1, x2⟩ := x
  obtain ⟨y1, y2⟩ := y
  by_cases e1 : x1 = y1 <;> by_cases e2 : x2 = y2 <;> simp [e1, e2]
theorem osame_ok (a b : List Op) (ha : wfO a) (hb : wfO b) (hl : a.length < 1000) (hN : 10000 ≤ N) : opts_Same N a b = some (decide (a = b)) := by
  unfold opts_Same
  by_cases hl' : a.length = b.length
  · have c0 : ((a.length : Int) = (b.length : Int)) := by omega
    simp only [c0, decide_true, Bool.not_true, cond_false]
    obtain ⟨o, h1, h2⟩ := gl_inv (G := fun (X : (((List Op) × ((List Op) × ((Int) × ((Int) × Unit)))) × Unit) → Option (((((Bool) × Unit) × Unit) ⊕ (Unit × Unit)))) c => opts_Same_1_slices_EqualFunc_api_Option_api_Option_api_Option_api_Option_L4 N X c.1.1 c.1.2.1 c.1.2.2.1 c.1.2.2.2.1)
      (fun n c => ∃ i : Nat, c = ((b, (a, ((b.length : Int), ((i : Int), ())))), ()) ∧ i ≤ a.length ∧ n = a.length - i ∧ a.take i = b.take i) (fun o => o = if a = b then .inr ((), ()) else .inl ((false, ()), ())) (fun X n c ⟨i, hc, hi, hn, ht⟩ => by
      subst hc
      rcases Nat.lt_or_ge i a.length with hlt | hge
      · have c1 : ((i : Int) < (b.length : Int)) := by omega
        have c2 : Go.IntKind.wrap .i64 ((i : Int) + 1) = ((i + 1 : Nat) : Int) := by rw [wrap64 (by omega) (by omega)]; omega
        have eq : opts_equal N (a[i].1, a[i].2) ((b[i]'(by omega)).1, (b[i]'(by omega)).2) = some (decide (a[i] = b[i]'(by omega))) := equal_ok (N := N) a[i] (b[i]'(by omega)) (ha _ (List.getElem_mem hlt)).2 (hb _ (List.getElem_mem _)).2
        by_cases he : a[i] = b[i]'(by omega)
        · right
          refine ⟨a.length - (i + 1), ((b, (a, ((b.length : Int), (((i + 1 : Nat) : Int), ())))), ()), by omega, ⟨i + 1, rfl, hlt, rfl, ?_⟩, ?_⟩
          · rw [List.take_add_one, List.take_add_one, ht, List.getElem?_eq_getElem hlt, List.getElem?_eq_getElem (by omega), he]
          · simp only [opts_Same_1_slices_EqualFunc_api_Option_api_Option_api_Option_api_Option_L4, c1, decide_true, cond_true, getI_lt a i hlt, getI_lt b i (by omega), Option.bind_some, eq]
            simp only [he, decide_true, Bool.not_true, cond_false, c2]
        · left
          refine ⟨.inl ((false, ()), ()), ?_, ?_⟩
          · simp only [opts_Same_1_slices_EqualFunc_api_Option_api_Option_api_Option_api_Option_L4, c1, decide_true, cond_true, getI_lt a i hlt, getI_lt b i (by omega), Option.bind_some, eq]
            simp only [he, decide_false, Bool.not_false, cond_true]
          · rw [if_neg (fun h => he (by simp [h]))]
      · left
        have c1 : ¬ ((i : Int) < (b.length : Int)) := by omega
        refine ⟨.inr ((), ()), by simp only [opts_Same_1_slices_EqualFunc_api_Option_api_Option_api_Option_api_Option_L4, c1, decide_false, cond_false], ?_⟩
        rw [List.take_of_length_le (by omega), List.take_of_length_le (by omega)] at ht
        rw [if_pos ht]) N a.length ((b, (a, ((b.length : Int), ((0 : Int), ())))), ()) (by omega) ⟨0, rfl, by omega, by omega, by simp⟩
    unfold opts_Same_1_slices_EqualFunc_api_Option_api_Option_api_Option_api_Option_L4_R
    rw [h1, h2]
    by_cases he : a = b <;> simp [he]
  · have c0 : ¬ ((a.length : Int) = (b.length : Int)) := by omega
    have c1 : ¬ (a = b) := fun h' => hl' (by rw [h'])
    simp only [c0, c1, decide_false, Bool.not_false, cond_true]
theorem same21 (a b : List Int) (h : a.length ≤ 50000) (hN : 100000 < N) : ref01_Same N a b = some (decide (a = b)) := sameF_ok (by omega) (by omega)
end
theorem wf_opts {l : List Op} (h : wfT (.sl (.pair (.int .u8) (.sl (.int .u8)))) l) : wfO l := fun o ho => ⟨wf_u8 (h.2 o ho).1, wf_bytes (h.2 o ho).2⟩
end Go.Proofs.Ytdaminjbockmbaa
