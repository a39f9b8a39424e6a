/-
  Parts of my own, one behind the other: QW5, QW7, QHq1, QHq2, QHq3, QHq4, QHq5.
-/
import Derived.Test.YtfaocnboildjbaaDoorMrg5
/-
  Layer 14, on plain data: heads.
-/
namespace Go.Proofs.YtfaocnboildjbaaDoor
set_option maxRecDepth 100000
open Go.RowKit
set_option linter.unusedVariables false
set_option linter.unusedSimpArgs false
set_option maxRecDepth 100000

/-- May the byte i stand there? -/
def mayB (seen : List Int) (i : Nat) : Bool :=
  if seen.getD i 0 = 13 then decide (i + 1 = seen.length) || decide (seen.getD (i + 1) 0 = 10)
  else if seen.getD i 0 = 10 then decide (0 < i) && decide (seen.getD (i - 1) 0 = 13)
  else decide (seen.getD i 0 = 9) || decide (32 ≤ seen.getD i 0 ∧ seen.getD i 0 ≤ 126)
theorem getDI {s : List Int} {p : Nat} (h : p < s.length) : getI s (p : Int) = some (s.getD p 0) := by rw [getI_lt s p h, List.getD_eq_getElem?_getD, List.getElem?_eq_getElem h, Option.getD_some]
theorem may_ok (N : Nat) (seen : List Int) (i : Nat) (h : i < seen.length) (hb : seen.length < 1000000) : words_may N seen (i : Int) = some (mayB seen i) := by
  have e3 : Go.IntKind.wrap .i64 ((i : Int) + 1) = ((i + 1 : Nat) : Int) := by rw [wrap64 (by omega) (by omega)]; omega
  unfold words_may mayB
  rw [getDI h, Option.bind_some, e3]
  by_cases h1 : seen.getD i 0 = 13
  · rw [decide_eq_true h1, cond_true, if_pos h1]
    by_cases h2 : i + 1 = seen.length
    · have c : (((i + 1 : Nat)) : Int) = (((List.length seen) : Nat) : Int) := by rw [h2]
      rw [decide_eq_true c, cond_true, decide_eq_true h2, Bool.true_or]; rfl
    · have c : ¬ ((((i + 1 : Nat)) : Int) = (((List.length seen) : Nat) : Int)) := by omega
      rw [decide_eq_false c, cond_false, decide_eq_false h2, Bool.false_or, getDI (by omega)]; rfl
  · rw [decide_eq_false h1, cond_false, if_neg h1]
    by_cases h3 : seen.getD i 0 = 10
    · rw [decide_eq_true h3, cond_true, if_pos h3]
      by_cases h4 : 0 < i
      · have e4 : Go.IntKind.wrap .i64 ((i : Int) - 1) = ((i - 1 : Nat) : Int) := by rw [wrap64 (by omega) (by omega)]; omega
        have c : (0 : Int) < (i : Int) := by omega
        rw [decide_eq_true c, cond_true, decide_eq_true h4, e4, getDI (by omega), Bool.true_and]
        simp only [Option.bind_some, cond_true]
      · have c : ¬ ((0 : Int) < (i : Int)) := by omega
        rw [decide_eq_false c, cond_false, decide_eq_false h4, Bool.false_and]; rfl
    · rw [decide_eq_false h3, cond_false, if_neg h3]
      by_cases h5 : seen.getD i 0 = 9
      · rw [decide_eq_true h5]; rfl
      · rw [decide_eq_false h5, cond_false, Bool.false_or]
        by_cases h6 : (32 : Int) ≤ seen.getD i 0
        · rw [decide_eq_true h6, cond_true]
          by_cases h7 : seen.getD i 0 ≤ 126
          · rw [decide_eq_true h7, decide_eq_true ⟨h6, h7⟩]; rfl
          · rw [decide_eq_false h7, decide_eq_false (fun hx => h7 hx.2)]; rfl
        · rw [decide_eq_false h6, cond_false, decide_eq_false (fun hx => h6 hx.1)]; rfl
/-- A part of the bytes, as a text. -/
def seg (seen : List Int) (a b : Nat) : List UInt8 := ((seen.drop a).take (b - a)).map byteOf
theorem seg_self (seen : List Int) (a : Nat) : seg seen a a = [] := by unfold seg; rw [Nat.sub_self, List.take_zero]; rfl
theorem seg_length (seen : List Int) (a b : Nat) (h : b ≤ seen.length) : (seg seen a b).length = b - a := by unfold seg; simp; omega
theorem seg_succ (seen : List Int) (a b : Nat) (hab : a ≤ b) (h : b < seen.length) : seg seen a (b + 1) = seg seen a b ++ [byteOf (seen.getD b 0)] := by
  unfold seg
  rw [show b + 1 - a = (b - a) + 1 by omega, List.take_add_one, List.map_append, List.getElem?_drop, show a + (b - a) = b by omega, List.getElem?_eq_getElem h, List.getD_eq_getElem?_getD, List.getElem?_eq_getElem h]
  rfl
def hdS (seen : List Int) : Nat → Nat → Nat → List (List UInt8) → (List (List UInt8) × (Int × Int)) ⊕ Unit
  | 0, _, _, _ => .inr ()
  | f + 1, i, start, ls => if i < seen.length then (if mayB seen i = true then (if seen.getD i 0 = 10 then
      (if seg seen start (i - 1) = [] then .inl (ls, (((i + 1 : Nat) : Int), 0)) else hdS seen f (i + 1) (i + 1) (ls ++ [seg seen start (i - 1)]))
      else hdS seen f (i + 1) start ls) else .inl ([], (0, 3))) else .inr ()
/-- A line begins behind an end, or at the beginning. -/
def Beg (seen : List Int) (start : Nat) : Prop := start = 0 ∨ seen.getD (start - 1) 0 = 10
theorem beg_lt {seen : List Int} {start i : Nat} (hB : Beg seen start) (hs : start ≤ i) (hm : mayB seen i = true) (h10 : seen.getD i 0 = 10) : start + 1 ≤ i ∧ seen.getD (i - 1) 0 = 13 := by
  unfold mayB at hm
  rw [if_neg (by omega), if_pos h10, Bool.and_eq_true] at hm
  have h1 := of_decide_eq_true hm.1
  have h2 := of_decide_eq_true hm.2
  refine ⟨?_, h2⟩
  rcases Nat.lt_or_ge start i with h | h
  · exact h
  · have : start = i := by omega
    subst this
    rcases hB with h3 | h3 <;> omega
def outH (b : List Int) : (List (List UInt8) × (Int × Int)) ⊕ Unit → (((List (List UInt8) × (Int × (Int × Unit))) × Unit) ⊕ ((List Int × Unit) × Unit))
  | .inl r => .inl ((r.1, (r.2.1, (r.2.2, ()))), ())
  | .inr () => .inr ((b, ()), ())
theorem head_loop (N : Nat) (b seen : List Int) (ha : AllB seen) (hb : seen.length < 1000000) : ∀ (n i start : Nat) (ls : List (List UInt8)), i ≤ seen.length → start ≤ i → Beg seen start → ls.length ≤ i → seen.length - i < n →
    gl (fun X c => words_Head_L5 N X c.1.1 c.1.2.1 c.1.2.2.1 c.1.2.2.2.1 c.1.2.2.2.2.1 c.1.2.2.2.2.2.1 c.2.1) n ((b, (seen, ((start : Int), (seen, (((seen.length : Nat) : Int), ((i : Int), ())))))), (ls, ())) = some (outH b (hdS seen n i start ls))
  | 0, i, start, ls, _, _, _, _, h => by omega
  | n + 1, i, start, ls, hi, hs, hB, hls, h => by
    rw [gl_succ]
    show words_Head_L5 N _ b seen (start : Int) seen ((seen.length : Nat) : Int) (i : Int) ls = _
    unfold hdS
    have e3 : Go.IntKind.wrap .i64 ((i : Int) + 1) = ((i + 1 : Nat) : Int) := by rw [wrap64 (by omega) (by omega)]; omega
    rcases Nat.lt_or_ge i seen.length with hlt | hge
    · have c1 : (i : Int) < ((seen.length : Nat) : Int) := by omega
      rw [if_pos hlt]
      cases hm : mayB seen i with
      | false =>
        simp only [words_Head_L5, decide_eq_true c1, cond_true, getDI hlt, Option.bind_some, may_ok N seen i hlt hb, hm, Bool.not_false]
        rfl
      | true =>
        rw [if_pos rfl]
        by_cases h10 : seen.getD i 0 = 10
        · obtain ⟨hlt2, h13⟩ := beg_lt hB hs hm h10
          have e4 : Go.IntKind.wrap .i64 ((i : Int) - 1) = ((i - 1 : Nat) : Int) := by rw [wrap64 (by omega) (by omega)]; omega
          have hsub : subI seen (start : Int) ((i - 1 : Nat) : Int) = some ((seen.drop start).take (i - 1 - start)) := subI_nat seen rfl rfl (by omega) (by omega)
          have hby : toBy ((seen.drop start).take (i - 1 - start)) = some (seg seen start (i - 1)) := toBy_map ((ha.drop _).take _)
          rw [if_pos h10]
          by_cases hz : seg seen start (i - 1) = []
          · rw [if_pos hz]
            have hz2 : decide (seg seen start (i - 1) = ([] : List UInt8)) = true := decide_eq_true hz
            simp only [words_Head_L5, decide_eq_true c1, cond_true, getDI hlt, Option.bind_some, may_ok N seen i hlt hb, hm, Bool.not_true, cond_false, decide_eq_true h10, e4, hsub, hby, hz2, e3]
            rfl
          · rw [if_neg hz]
            have hz2 : decide (seg seen start (i - 1) = ([] : List UInt8)) = false := decide_eq_false hz
            have hr : roomB ((List.length ls) + (List.length ([seg seen start (i - 1)] : List (List UInt8)))) 16 = true := roomB_of (by have := big_len; simp only [List.length_singleton]; omega) (by simp only [List.length_singleton]; omega)
            have key : ∀ X, words_Head_L5 N X b seen (start : Int) seen ((seen.length : Nat) : Int) (i : Int) ls = X ((b, (seen, (((i + 1 : Nat) : Int), (seen, (((seen.length : Nat) : Int), (((i + 1 : Nat) : Int), ())))))), (ls ++ [seg seen start (i - 1)], ())) := fun X => by
              simp only [words_Head_L5, decide_eq_true c1, cond_true, getDI hlt, Option.bind_some, may_ok N seen i hlt hb, hm, Bool.not_true, cond_false, decide_eq_true h10, e4, hsub, hby, hz2, e3, hr]
            rw [key]
            exact head_loop N b seen ha hb n (i + 1) (i + 1) _ (by omega) (Nat.le_refl _) (.inr (by rw [Nat.add_sub_cancel]; exact h10)) (by simp; omega) (by omega)
        · rw [if_neg h10]
          have key : ∀ X, words_Head_L5 N X b seen (start : Int) seen ((seen.length : Nat) : Int) (i : Int) ls = X ((b, (seen, ((start : Int), (seen, (((seen.length : Nat) : Int), (((i + 1 : Nat) : Int), ())))))), (ls, ())) := fun X => by
            simp only [words_Head_L5, decide_eq_true c1, cond_true, getDI hlt, Option.bind_some, may_ok N seen i hlt hb, hm, Bool.not_true, cond_false, decide_eq_false h10, Bool.not_false, e3]
          rw [key]
          exact head_loop N b seen ha hb n (i + 1) start ls (by omega) (by omega) hB (by omega) (by omega)
    · have c1 : ¬ ((i : Int) < ((seen.length : Nat) : Int)) := by omega
      rw [if_neg (by omega)]
      simp only [words_Head_L5, decide_eq_false c1, cond_false]
      rfl
def headR (b : List Int) : List (List UInt8) × (Int × Int) := match hdS (b.take 2048) 200000 0 0 [] with
  | .inl r => r
  | .inr () => if b.length < 2048 then ([], (0, 4)) else ([], (0, 8))
theorem head_end (b : List Int) (o : (List (List UInt8) × (Int × Int)) ⊕ Unit) :
    Sum.elim (fun (v4 : (((List (List UInt8)) × (Int × (Int × Unit))) × Unit)) => some ((v4.1.1, (v4.1.2.1, v4.1.2.2.1)))) (fun (v4 : (((List Int) × Unit) × Unit)) =>
      bif (decide ((((List.length v4.1.1) : Nat) : Int) < (2048 : Int))) then some ((([] : List ((List UInt8))), ((0 : Int), (4 : Int)))) else some ((([] : List ((List UInt8))), ((0 : Int), (8 : Int))))) (outH b o) = some (match o with | .inl r => r | .inr () => if b.length < 2048 then ([], (0, 4)) else ([], (0, 8))) := by
  cases o with
  | inl r => rfl
  | inr u =>
    simp only [outH, Sum.elim_inr]
    by_cases h : b.length < 2048
    · have c : (((List.length b) : Nat) : Int) < (2048 : Int) := by omega
      rw [decide_eq_true c, if_pos h]; rfl
    · have c : ¬ ((((List.length b) : Nat) : Int) < (2048 : Int)) := by omega
      rw [decide_eq_false c, if_neg h]; rfl
theorem head_ok (b : List Int) (ha : AllB b) (hb : b.length ≤ 100000) : words_Head 200000 b = some (headR b) := by
  unfold words_Head words_Head_L5_R headR
  have hmin : minI (((List.length b) : Nat) : Int) (2048 : Int) = ((min b.length 2048 : Nat) : Int) := by unfold minI; split <;> omega
  have htk : takeI b ((min b.length 2048 : Nat) : Int) = some (b.take 2048) := by
    rw [takeI_nat (i := min b.length 2048) b rfl (by omega)]
    congr 1
    rcases Nat.le_total b.length 2048 with h | h
    · rw [Nat.min_eq_left h, List.take_length, List.take_of_length_le h]
    · rw [Nat.min_eq_right h]
  rw [hmin, htk, Option.bind_some]
  have hl : (b.take 2048).length ≤ b.length := by simp; omega
  have := head_loop 200000 b (b.take 2048) (ha.take _) (by omega) 200000 0 0 [] (Nat.zero_le _) (Nat.le_refl _) (.inl rfl) (by simp) (by omega)
  rw [show ((b, (List.take 2048 b, ((0 : Int), (List.take 2048 b, ((((List.length (List.take 2048 b)) : Nat) : Int), ((0 : Int), Unit.unit)))))), (([] : List (List UInt8)), Unit.unit)) = ((b, (List.take 2048 b, (((0 : Nat) : Int), (List.take 2048 b, ((((List.take 2048 b).length : Nat) : Int), (((0 : Nat) : Int), ())))))), ([], ())) from rfl, this, Option.bind_some]
  exact head_end b _
/-! ### The document's -/
def lineAt (seen : List Int) (start i : Nat) : List UInt8 := seg seen start (if start < i ∧ seen.getD (i - 1) 0 = 13 then i - 1 else i)
theorem rhead_loop (N : Nat) (b : List Int) (ha : AllB b) (hb : b.length < 1000000) : ∀ (n i start : Nat) (ls : List (List UInt8)), i ≤ (b.take 2048).length → start ≤ i → Beg (b.take 2048) start → ls.length ≤ i → (b.take 2048).length - i < n →
    (start < i → (b.take 2048).getD (i - 1) 0 = 13 → i < (b.take 2048).length → (b.take 2048).getD i 0 = 10) →
    gl (fun X c => ref14_Head_L4 N X c.1.1 c.1.2.1 c.1.2.2.1 c.2.1) n ((b, (lineAt (b.take 2048) start i, ((i : Int), ()))), (ls, ())) = some (outH b (hdS (b.take 2048) n i start ls))
  | 0, i, start, ls, _, _, _, _, h, _ => by omega
  | n + 1, i, start, ls, hi, hs, hB, hls, h, hpre => by
    rw [gl_succ]
    have hsl : (b.take 2048).length = min 2048 b.length := by simp
    have hget : ∀ j, j < (b.take 2048).length → b.getD j 0 = (b.take 2048).getD j 0 := fun j hj => by
      rw [List.getD_eq_getElem?_getD, List.getD_eq_getElem?_getD, List.getElem?_take, if_pos (by omega)]
    have e3 : Go.IntKind.wrap .i64 ((i : Int) + 1) = ((i + 1 : Nat) : Int) := by rw [wrap64 (by omega) (by omega)]; omega
    generalize hseen : b.take 2048 = seen at *
    generalize hline : lineAt seen start i = line
    show ref14_Head_L4 N _ b line (i : Int) ls = _
    unfold hdS
    rcases Nat.lt_or_ge i seen.length with hlt | hge
    · have c1 : (i : Int) < (((List.length b) : Nat) : Int) := by omega
      have c2 : (i : Int) < 2048 := by omega
      have hgi : getI b (i : Int) = some (seen.getD i 0) := by rw [getDI (by omega), hget i hlt]
      have hAB : 0 ≤ seen.getD i 0 ∧ seen.getD i 0 < 256 := by
        have hx := (ha.take 2048)
        rw [hseen] at hx
        have := hx.get i hlt
        rw [List.getD_eq_getElem?_getD, List.getElem?_eq_getElem hlt, Option.getD_some]; exact this
      rw [if_pos hlt]
      -- a sign
      by_cases hpr : seen.getD i 0 = 9 ∨ (32 ≤ seen.getD i 0 ∧ seen.getD i 0 ≤ 126)
      · have n13 : ¬ seen.getD i 0 = 13 := by omega
        have n10 : ¬ seen.getD i 0 = 10 := by omega
        have hm : mayB seen i = true := by
          unfold mayB
          rw [if_neg n13, if_neg n10]
          rcases hpr with h9 | h32
          · rw [decide_eq_true h9, Bool.true_or]
          · rw [decide_eq_true h32, Bool.or_true]
        have hl2 : line = seg seen start i := by
          rw [← hline]; unfold lineAt
          rw [if_neg (fun hx => n10 (hpre hx.1 hx.2 hlt))]
        have hsub : subI b (i : Int) ((i + 1 : Nat) : Int) = some [seen.getD i 0] := by
          rw [subI_nat b rfl rfl (by omega) (by omega), show i + 1 - i = 1 by omega]
          congr 1
          have hib : i < b.length := by omega
          rw [List.drop_eq_getElem_cons hib, List.take_succ_cons, List.take_zero]
          have := hget i hlt
          rw [List.getD_eq_getElem?_getD, List.getElem?_eq_getElem hib, Option.getD_some] at this
          rw [this]
        have hby : toBy [seen.getD i 0] = some [byteOf (seen.getD i 0)] := toBy_map (AllB.cons hAB AllB.nil)
        have hll : line.length ≤ i := by rw [hl2, seg_length _ _ _ hi]; omega
        have hrm : (List.length line) + (List.length [byteOf (seen.getD i 0)]) ≤ Go.maxLen := by have := big_len; simp only [List.length_singleton]; omega
        have key : ∀ X, ref14_Head_L4 N X b line (i : Int) ls = X ((b, (line ++ [byteOf (seen.getD i 0)], (((i + 1 : Nat) : Int), ()))), (ls, ())) := fun X => by
          unfold ref14_Head_L4
          rw [decide_eq_true c1, cond_true, decide_eq_true c2, Option.bind_some]
          simp only [cond_true, hgi, Option.bind_some, e3, hsub, hby, decide_eq_true hrm]
          by_cases a1 : (32 : Int) ≤ seen.getD i 0
          · by_cases a2 : seen.getD i 0 ≤ 126
            · simp only [decide_eq_true a1, decide_eq_true a2, cond_true, Option.bind_some]
            · have a3 : seen.getD i 0 = 9 := by omega
              simp only [decide_eq_true a1, decide_eq_false a2, decide_eq_true a3, cond_true, cond_false, Option.bind_some]
          · have a3 : seen.getD i 0 = 9 := by omega
            simp only [decide_eq_false a1, decide_eq_true a3, cond_true, cond_false, Option.bind_some]
        rw [key, hm, if_pos rfl, if_neg n10, hl2, ← seg_succ seen start i hs hlt]
        have := rhead_loop N b ha hb n (i + 1) start ls
        rw [hseen] at this
        have hla : lineAt seen start (i + 1) = seg seen start (i + 1) := by
          unfold lineAt
          rw [if_neg (fun hx => n13 (by have := hx.2; rwa [Nat.add_sub_cancel] at this))]
        rw [hla] at this
        exact this (by omega) (by omega) hB (by omega) (by omega) (fun _ hx => absurd (by rwa [Nat.add_sub_cancel] at hx) n13)
      · -- no sign
        have np : ∀ {α : Type} (f : Bool → Option α), (Option.bind (bif (decide ((32 : Int) ≤ seen.getD i 0)) then some (decide (seen.getD i 0 ≤ (126 : Int))) else some (Bool.false)) fun (v8 : Bool) => Option.bind (bif v8 then some (Bool.true) else some ((@cond Bool Bool.false Bool.true (decide (seen.getD i 0 = (9 : Int)))))) f) = f false := fun f => by
          have a3 : ¬ seen.getD i 0 = 9 := fun hx => hpr (.inl hx)
          by_cases a1 : (32 : Int) ≤ seen.getD i 0
          · have a2 : ¬ seen.getD i 0 ≤ 126 := fun hx => hpr (.inr ⟨a1, hx⟩)
            simp only [decide_eq_true a1, decide_eq_false a2, decide_eq_false a3, cond_true, cond_false, Option.bind_some]
          · simp only [decide_eq_false a1, decide_eq_false a3, cond_true, cond_false, Option.bind_some]
        by_cases h13 : seen.getD i 0 = 13
        · have n10 : ¬ seen.getD i 0 = 10 := by omega
          by_cases hok : i + 1 = seen.length ∨ seen.getD (i + 1) 0 = 10
          · have hm : mayB seen i = true := by
              unfold mayB
              rw [if_pos h13]
              rcases hok with hx | hx
              · rw [decide_eq_true hx, Bool.true_or]
              · rw [decide_eq_true hx, Bool.or_true]
            have hl2 : line = seg seen start i := by
              rw [← hline]; unfold lineAt
              rw [if_neg (fun hx => n10 (hpre hx.1 hx.2 hlt))]
            have key : ∀ X, ref14_Head_L4 N X b line (i : Int) ls = X ((b, (line, (((i + 1 : Nat) : Int), ()))), (ls, ())) := fun X => by
              unfold ref14_Head_L4
              rw [decide_eq_true c1, cond_true, decide_eq_true c2, Option.bind_some]
              simp only [cond_true, hgi, Option.bind_some, e3]
              rw [np]
              simp only [cond_false, decide_eq_true h13, cond_true]
              by_cases b1 : (((i + 1 : Nat)) : Int) = (((List.length b) : Nat) : Int)
              · simp only [decide_eq_true b1, cond_true, Option.bind_some]
              · by_cases b2 : (((i + 1 : Nat)) : Int) = 2048
                · simp only [decide_eq_false b1, decide_eq_true b2, cond_true, cond_false, Option.bind_some]
                · have b3 : i + 1 < seen.length := by omega
                  have b4 : seen.getD (i + 1) 0 = 10 := by rcases hok with hx | hx <;> omega
                  have b5 : getI b ((i + 1 : Nat) : Int) = some (seen.getD (i + 1) 0) := by rw [getDI (by omega), hget _ b3]
                  simp only [decide_eq_false b1, decide_eq_false b2, cond_true, cond_false, b5, Option.bind_some, decide_eq_true b4]
            rw [key, hm, if_pos rfl, if_neg n10, hl2]
            have := rhead_loop N b ha hb n (i + 1) start ls
            rw [hseen] at this
            have hla : lineAt seen start (i + 1) = seg seen start i := by
              unfold lineAt
              rw [if_pos ⟨by omega, by rw [Nat.add_sub_cancel]; exact h13⟩, Nat.add_sub_cancel]
            rw [hla] at this
            exact this (by omega) (by omega) hB (by omega) (by omega) (fun _ _ hx => by rcases hok with hy | hy <;> omega)
          · have hm : mayB seen i = false := by
              unfold mayB
              rw [if_pos h13, decide_eq_false (fun hx => hok (.inl hx)), decide_eq_false (fun hx => hok (.inr hx))]; rfl
            rw [hm, if_neg (by simp)]
            unfold ref14_Head_L4
            rw [decide_eq_true c1, cond_true, decide_eq_true c2, Option.bind_some]
            simp only [cond_true, hgi, Option.bind_some, e3]
            rw [np]
            have b1 : ¬ ((((i + 1 : Nat)) : Int) = (((List.length b) : Nat) : Int)) := fun hx => hok (.inl (by omega))
            have b2 : ¬ ((((i + 1 : Nat)) : Int) = 2048) := fun hx => hok (.inl (by omega))
            have b3 : i + 1 < seen.length := by omega
            have b4 : ¬ seen.getD (i + 1) 0 = 10 := fun hx => hok (.inr hx)
            have b5 : getI b ((i + 1 : Nat) : Int) = some (seen.getD (i + 1) 0) := by rw [getDI (by omega), hget _ b3]
            simp only [cond_false, decide_eq_true h13, cond_true, decide_eq_false b1, decide_eq_false b2, b5, Option.bind_some, decide_eq_false b4, decide_eq_false n10, Bool.not_false]
            rfl
        · -- an end, or nothing that may be
          have tail : ∀ X, ref14_Head_L4 N X b line (i : Int) ls = (Option.bind (bif (!(decide (seen.getD i 0 = (10 : Int)))) then some (Bool.true) else some ((@cond Bool Bool.false Bool.true (decide ((i : Int) = (0 : Int)))))) fun (v11 : Bool) =>
              Option.bind (bif v11 then some (Bool.true) else Option.bind (getI b (Go.IntKind.wrap .i64 ((i : Int) - (1 : Int)))) fun (v12 : Int) => some ((@cond Bool Bool.false Bool.true (!(decide (v12 = (13 : Int))))))) fun (v12 : Bool) =>
              bif v12 then some ((.inl ((([] : List ((List UInt8))), ((0 : Int), ((3 : Int), Unit.unit))), Unit.unit)))
              else bif (decide (line = ([] : List UInt8))) then some ((.inl ((ls, (((i + 1 : Nat) : Int), ((0 : Int), Unit.unit))), Unit.unit)))
              else bif (roomB ((List.length ls) + (List.length ([line] : List ((List UInt8))))) 16) then (X ((b, (([] : List UInt8), (((i + 1 : Nat) : Int), Unit.unit))), ((ls ++ ([line] : List ((List UInt8)))), Unit.unit))) else none) := fun X => by
            unfold ref14_Head_L4
            rw [decide_eq_true c1, cond_true, decide_eq_true c2, Option.bind_some]
            simp only [cond_true, hgi, Option.bind_some, e3]
            rw [np]
            simp only [cond_false, decide_eq_false h13, Option.bind_some]
          rw [tail]
          by_cases h10 : seen.getD i 0 = 10
          · rw [decide_eq_true h10, Bool.not_true, cond_false]
            cases hm : mayB seen i with
            | true =>
              obtain ⟨hlt2, hp13⟩ := beg_lt hB hs hm h10
              have e4 : Go.IntKind.wrap .i64 ((i : Int) - 1) = ((i - 1 : Nat) : Int) := by rw [wrap64 (by omega) (by omega)]; omega
              have i0 : ¬ ((i : Int) = 0) := by omega
              have b5 : getI b ((i - 1 : Nat) : Int) = some (seen.getD (i - 1) 0) := by rw [getDI (by omega), hget _ (by omega)]
              have hl2 : line = seg seen start (i - 1) := by
                rw [← hline]; unfold lineAt
                rw [if_pos ⟨by omega, hp13⟩]
              rw [if_pos rfl, if_pos h10]
              simp only [decide_eq_false i0, cond_false, Option.bind_some, e4, b5, decide_eq_true hp13, Bool.not_true]
              rw [← hl2]
              by_cases hz : line = []
              · rw [decide_eq_true hz, if_pos hz]; rfl
              · have hr : roomB ((List.length ls) + (List.length ([line] : List ((List UInt8))))) 16 = true := roomB_of (by have := big_len; simp only [List.length_singleton]; omega) (by simp only [List.length_singleton]; omega)
                rw [decide_eq_false hz, if_neg hz, cond_false, hr, cond_true]
                have := rhead_loop N b ha hb n (i + 1) (i + 1) (ls ++ [line])
                rw [hseen] at this
                have hla : lineAt seen (i + 1) (i + 1) = [] := by
                  unfold lineAt
                  rw [if_neg (fun hx => by omega), seg_self]
                rw [hla] at this
                exact this (by omega) (Nat.le_refl _) (.inr (by rw [Nat.add_sub_cancel]; exact h10)) (by simp; omega) (by omega) (fun hx => by omega)
            | false =>
              rw [if_neg (by simp)]
              unfold mayB at hm
              rw [if_neg h13, if_pos h10] at hm
              by_cases i0 : i = 0
              · subst i0; rfl
              · have i0' : ¬ ((i : Int) = 0) := by omega
                have e4 : Go.IntKind.wrap .i64 ((i : Int) - 1) = ((i - 1 : Nat) : Int) := by rw [wrap64 (by omega) (by omega)]; omega
                have b5 : getI b ((i - 1 : Nat) : Int) = some (seen.getD (i - 1) 0) := by rw [getDI (by omega), hget _ (by omega)]
                rw [decide_eq_true (show 0 < i by omega), Bool.true_and] at hm
                simp only [decide_eq_false i0', cond_false, Option.bind_some, e4, b5, hm, Bool.not_false, cond_true]
                rfl
          · have hm : mayB seen i = false := by
              unfold mayB
              rw [if_neg h13, if_neg h10, decide_eq_false (fun hx => hpr (.inl hx)), decide_eq_false (fun hx => hpr (.inr hx))]; rfl
            rw [hm, if_neg (by simp), decide_eq_false h10]
            rfl
    · rw [if_neg (by omega)]
      unfold ref14_Head_L4
      by_cases c1 : (i : Int) < (((List.length b) : Nat) : Int)
      · have c2 : ¬ ((i : Int) < 2048) := by omega
        rw [decide_eq_true c1, cond_true, decide_eq_false c2]; rfl
      · rw [decide_eq_false c1]; rfl
theorem rhead_ok (b : List Int) (ha : AllB b) (hb : b.length ≤ 100000) : ref14_Head 200000 b = some (headR b) := by
  unfold ref14_Head ref14_Head_L4_R headR
  have hl : (b.take 2048).length ≤ b.length := by simp; omega
  have := rhead_loop 200000 b ha (by omega) 200000 0 0 [] (Nat.zero_le _) (Nat.le_refl _) (.inl rfl) (by simp) (by omega) (fun hx => by omega)
  have hla : lineAt (b.take 2048) 0 0 = [] := by
    unfold lineAt
    rw [if_neg (fun hx => by omega), seg_self]
  rw [hla] at this
  rw [show ((b, (([] : List UInt8), ((0 : Int), Unit.unit))), (([] : List (List UInt8)), Unit.unit)) = ((b, ([], (((0 : Nat) : Int), ()))), ([], ())) from rfl, this, Option.bind_some]
  exact head_end b _
end Go.Proofs.YtfaocnboildjbaaDoor
/-
  Layer 14, on plain data: fields, and the value of a name.
-/
namespace Go.Proofs.YtfaocnboildjbaaDoor
set_option maxRecDepth 100000
open Go.RowKit
set_option linter.unusedVariables false
set_option linter.unusedSimpArgs false
set_option maxRecDepth 100000

/-- Where a byte stands first. -/
def ix (s : List UInt8) (c : UInt8) : Option Nat := s.findIdx? (fun b => b == c)
theorem idx_eq (s : List UInt8) (c : UInt8) : idxB s (((c.toNat : Nat)) : Int) = (match ix s c with | some i => ((i : Nat) : Int) | none => -1) := by
  unfold idxB ix
  rw [show ((((c.toNat : Nat)) : Int)).toNat.toUInt8 = c by simp]
  cases s.findIdx? (fun b => b == c) <;> rfl
theorem ix_some {s : List UInt8} {c : UInt8} {i : Nat} (h : ix s c = some i) : ∃ hi : i < s.length, s[i] = c ∧ ∀ j (hj : j < i), s[j]'(Nat.lt_trans hj hi) ≠ c := by
  unfold ix at h
  rw [List.findIdx?_eq_some_iff_getElem] at h
  obtain ⟨h1, h2, h3⟩ := h
  exact ⟨h1, by simpa using h2, fun j hj => by simpa using h3 j hj⟩
theorem ix_none {s : List UInt8} {c : UInt8} (h : ix s c = none) : ∀ j (hj : j < s.length), s[j] ≠ c := by
  unfold ix at h
  rw [List.findIdx?_eq_none_iff] at h
  intro j hj hc
  have := h s[j] (List.getElem_mem hj)
  rw [hc] at this
  simp at this
def spn (s : List UInt8) (c : UInt8) : Nat := (ix s c).getD s.length
theorem spn_le (s : List UInt8) (c : UInt8) : spn s c ≤ s.length := by
  unfold spn
  cases h : ix s c with
  | none => simp
  | some i => obtain ⟨h1, _⟩ := ix_some h; simp; omega
theorem spn_lt {s : List UInt8} {c : UInt8} {j : Nat} (h : j < spn s c) (hj : j < s.length) : s[j] ≠ c := by
  unfold spn at h
  cases hi : ix s c with
  | none => exact ix_none hi j hj
  | some i =>
    rw [hi] at h
    obtain ⟨h1, _, h3⟩ := ix_some hi
    exact h3 j h
theorem spn_at {s : List UInt8} {c : UInt8} (h : spn s c < s.length) : s[spn s c] = c ∧ ix s c = some (spn s c) := by
  cases hi : ix s c with
  | none => unfold spn at h; rw [hi] at h; simp at h
  | some i =>
    have e : spn s c = i := by unfold spn; rw [hi]; rfl
    obtain ⟨h1, h2, _⟩ := ix_some hi
    exact ⟨by simp only [e]; exact h2, by rw [e]⟩
theorem spn_end {s : List UInt8} {c : UInt8} (h : spn s c = s.length) : ix s c = none := by
  cases hi : ix s c with
  | none => rfl
  | some i =>
    have e : spn s c = i := by unfold spn; rw [hi]; rfl
    obtain ⟨h1, _⟩ := ix_some hi
    omega
theorem u8_eq (b c : UInt8) : ((((b.toNat : Nat)) : Int) = ((c.toNat : Nat) : Int)) ↔ b = c := ⟨fun h => UInt8.toNat_inj.1 (by omega), fun h => by rw [h]⟩
/-- A field of a line. -/
def fieldOf (l : List UInt8) : Option (List UInt8 × List UInt8) := match ix l 58 with
  | none => none
  | some i => if tokB (l.take i) = true then some (l.take i, trimB (l.drop (i + 1))) else none
def allF : List (List UInt8) → Option (List (List UInt8 × List UInt8))
  | [] => some []
  | l :: r => match fieldOf l, allF r with
    | some f, some m => some (f :: m)
    | _, _ => none
def fieldsR (l : List (List UInt8)) : List (List UInt8 × List UInt8) × Int := if 32 < l.length then ([], 5) else match allF l with
  | some m => (m, 0)
  | none => ([], 3)
theorem trimB_nil : trimB [] = [] := rfl
theorem field_key (N : Nat) (hN : 100000 ≤ N) (l : List (List UInt8)) (i : Nat) (hi : i < l.length) (hl : l.length < 100000) (hb : ∀ x ∈ l, x.length < 100000) (acc : List (List UInt8 × List UInt8)) (ha : acc.length ≤ i) (X) :
    words_Fields_L5 N X l ((l.length : Nat) : Int) (i : Int) acc = (match fieldOf l[i] with | some f => X ((l, (((l.length : Nat) : Int), (((i + 1 : Nat) : Int), ()))), (acc ++ [f], ())) | none => some (.inl (([], (3, ())), ()))) := by
  have c1 : (i : Int) < ((l.length : Nat) : Int) := by omega
  have e3 : Go.IntKind.wrap .i64 ((i : Int) + 1) = ((i + 1 : Nat) : Int) := by rw [wrap64 (by omega) (by omega)]; omega
  have hx := hb _ (List.getElem_mem hi)
  have hrm : ∀ f : List UInt8 × List UInt8, roomB ((List.length acc) + (List.length ([f] : List (List UInt8 × List UInt8)))) 32 = true := fun f => roomB_of (by have := big_len; simp only [List.length_singleton]; omega) (by simp only [List.length_singleton]; omega)
  have h58 : idxB l[i] ((((58 : UInt8).toNat : Nat)) : Int) = (match ix l[i] 58 with | some k => ((k : Nat) : Int) | none => -1) := idx_eq _ 58
  unfold words_Fields_L5
  rw [decide_eq_true c1, cond_true, getI_lt l i hi, Option.bind_some]
  generalize hline : l[i] = v at hx h58 ⊢
  unfold fieldOf
  by_cases h1 : v = [58]
  · subst h1
    have ht0 : words_Token N [] = some (tokB []) := token_ok [] (by simp; omega)
    have htk : tokB [] = false := by decide
    simp only [decide_eq_true (show ([58] : List UInt8) = [58] from rfl), cond_true, cond_false, Option.bind_some]
    have hd : dropI ([58] : List UInt8) (Go.IntKind.wrap .i64 ((0 : Int) + (((List.length ([58] : List UInt8)) : Nat) : Int))) = some [] := by decide +kernel
    have htk0 : List.take (Int.toNat (0 : Int)) ([58] : List UInt8) = [] := rfl
    simp only [hd, Option.bind_some, htk0, ht0, htk, Bool.not_false, cond_true]
    rfl
  · have hne : ¬ (([58] : List UInt8) = v) := fun h => h1 h.symm
    simp only [decide_eq_false hne, cond_true, cond_false, Option.bind_some]
    cases hix : ix v 58 with
    | none =>
      rw [hix] at h58
      simp only at h58
      have c0 : ¬ ((0 : Int) ≤ -1) := by omega
      simp only [h58, decide_eq_false c0, cond_false, Option.bind_some, cond_true]
    | some k =>
      rw [hix] at h58
      simp only at h58
      obtain ⟨hk, hk2, hk3⟩ := ix_some hix
      have c0 : (0 : Int) ≤ ((k : Nat) : Int) := by omega
      have t1 : takeI v ((k : Nat) : Int) = some (v.take k) := takeI_nat v rfl (by omega)
      have e5 : Go.IntKind.wrap .i64 (((k : Nat) : Int) + (((List.length ([58] : List UInt8)) : Nat) : Int)) = ((k + 1 : Nat) : Int) := by simp only [List.length_singleton]; rw [wrap64 (by omega) (by omega)]; omega
      have t2 : dropI v ((k + 1 : Nat) : Int) = some (v.drop (k + 1)) := dropI_nat v rfl (by omega)
      have tk : words_Token N (v.take k) = some (tokB (v.take k)) := token_ok _ (by simp; omega)
      have tr : words_Trim N (v.drop (k + 1)) = some (trimB (v.drop (k + 1))) := trim_ok _ (by simp; omega)
      simp only [h58, decide_eq_true c0, cond_true, t1, Option.bind_some, e5, t2, tk]
      cases hb : tokB (v.take k) with
      | false => simp only [Bool.not_false, cond_false, cond_true, Option.bind_some]; rfl
      | true => simp only [Bool.not_true, cond_false, Option.bind_some, tr, hrm, cond_true, e3, if_true]
theorem fields_loop (N : Nat) (hN : 100000 ≤ N) (l : List (List UInt8)) (hl : l.length < 100000) (hb : ∀ x ∈ l, x.length < 100000) : ∀ (n i : Nat) (acc : List (List UInt8 × List UInt8)), i ≤ l.length → acc.length ≤ i → l.length - i < n →
    gl (fun X c => words_Fields_L5 N X c.1.1 c.1.2.1 c.1.2.2.1 c.2.1) n ((l, (((l.length : Nat) : Int), ((i : Int), ()))), (acc, ())) = some (match allF (l.drop i) with | some m => .inr ((), (acc ++ m, ())) | none => .inl (([], (3, ())), ()))
  | 0, i, acc, _, _, h => by omega
  | n + 1, i, acc, hi, ha, h => by
    rw [gl_succ]
    show words_Fields_L5 N _ l ((l.length : Nat) : Int) (i : Int) acc = _
    rcases Nat.lt_or_ge i l.length with hlt | hge
    · rw [field_key N hN l i hlt hl hb acc ha, List.drop_eq_getElem_cons hlt]
      unfold allF
      cases hf : fieldOf l[i] with
      | none => rfl
      | some f =>
        simp only
        rw [fields_loop N hN l hl hb n (i + 1) (acc ++ [f]) (by omega) (by simp; omega) (by omega)]
        cases allF (l.drop (i + 1)) with
        | none => rfl
        | some m => simp
    · have c1 : ¬ ((i : Int) < ((l.length : Nat) : Int)) := by omega
      rw [List.drop_of_length_le hge]
      unfold words_Fields_L5
      rw [decide_eq_false c1, cond_false]
      simp [allF]
theorem fields_end (l : List (List UInt8)) (o : ((((List ((List UInt8) × (List UInt8))) × (Int × Unit)) × Unit) ⊕ (Unit × ((List ((List UInt8) × (List UInt8))) × Unit)))) (ho : o = (match allF l with | some m => .inr ((), ([] ++ m, ())) | none => .inl (([], (3, ())), ()))) :
    Sum.elim (fun (v3 : (((List ((List UInt8) × (List UInt8))) × (Int × Unit)) × Unit)) => some ((v3.1.1, v3.1.2.1))) (fun (v3 : (Unit × ((List ((List UInt8) × (List UInt8))) × Unit))) => some ((v3.2.1, (0 : Int)))) o = some (match allF l with | some m => (m, 0) | none => ([], 3)) := by
  subst ho
  cases allF l <;> rfl
theorem fields_ok {N : Nat} (hN : 100000 ≤ N) (l : List (List UInt8)) (hb : ∀ x ∈ l, x.length < 100000) : words_Fields N l = some (fieldsR l) := by
  unfold words_Fields words_Fields_L5_R fieldsR
  by_cases h : 32 < l.length
  · have c : (32 : Int) < (((List.length l) : Nat) : Int) := by omega
    rw [decide_eq_true c, if_pos h]; rfl
  · have c : ¬ ((32 : Int) < (((List.length l) : Nat) : Int)) := by omega
    have := fields_loop N hN l (by omega) hb N 0 [] (Nat.zero_le _) (by simp) (by omega)
    rw [List.drop_zero] at this
    rw [decide_eq_false c, if_neg h, cond_false, show ((l, ((((List.length l) : Nat) : Int), ((0 : Int), Unit.unit))), (([] : List (List UInt8 × List UInt8)), Unit.unit)) = ((l, (((l.length : Nat) : Int), (((0 : Nat) : Int), ()))), ([], ())) from rfl, this, Option.bind_some]
    exact fields_end l _ rfl
/-! ### The document's -/
theorem rspan (N : Nat) (l : List (List UInt8)) (i : Nat) (hi : i < l.length) (hb : (l[i]).length < 100000) (acc : List (List UInt8 × List UInt8)) : ∀ (n p : Nat), p ≤ spn l[i] 58 → spn l[i] 58 - p < n →
    gl (fun X c => ref14_Fields_L8 N X c.1.1 c.1.2.1 c.1.2.2.1 c.2.1) n ((l, ((i : Int), ((p : Int), ()))), (acc, ())) = some ((l, ((i : Int), (((spn l[i] 58 : Nat) : Int), ()))), (acc, ()))
  | 0, p, _, h => by omega
  | n + 1, p, hp, h => by
    rw [gl_succ]
    show ref14_Fields_L8 N _ l (i : Int) (p : Int) acc = _
    have hle := spn_le l[i] 58
    rcases Nat.lt_or_ge p (spn l[i] 58) with hlt | hge
    · have hpl : p < (l[i]).length := by omega
      have c1 : (p : Int) < (((List.length l[i]) : Nat) : Int) := by omega
      have e3 : Go.IntKind.wrap .i64 ((p : Int) + 1) = ((p + 1 : Nat) : Int) := by rw [wrap64 (by omega) (by omega)]; omega
      have hne : ¬ ((((((l[i])[p]).toNat : Nat)) : Int) = 58) := fun hc => spn_lt hlt hpl ((u8_eq _ 58).1 hc)
      have key : ∀ X, ref14_Fields_L8 N X l (i : Int) (p : Int) acc = X ((l, ((i : Int), (((p + 1 : Nat) : Int), ()))), (acc, ())) := fun X => by
        simp only [ref14_Fields_L8, getI_lt l i hi, Option.bind_some, decide_eq_true c1, cond_true, getI_lt l[i] p hpl, decide_eq_false hne, Bool.not_false, e3]
      rw [key]
      exact rspan N l i hi hb acc n (p + 1) (by omega) (by omega)
    · have hpe : p = spn l[i] 58 := by omega
      subst hpe
      by_cases c : spn l[i] 58 < (l[i]).length
      · have c1 : ((spn l[i] 58 : Nat) : Int) < (((List.length l[i]) : Nat) : Int) := by omega
        have heq : (((((l[i])[spn l[i] 58]).toNat : Nat)) : Int) = 58 := (u8_eq _ 58).2 (spn_at c).1
        simp only [ref14_Fields_L8, getI_lt l i hi, Option.bind_some, decide_eq_true c1, cond_true, getI_lt l[i] _ c, decide_eq_true heq, Bool.not_true, cond_false]
      · have c1 : ¬ (((spn l[i] 58 : Nat) : Int) < (((List.length l[i]) : Nat) : Int)) := by omega
        simp only [ref14_Fields_L8, getI_lt l i hi, Option.bind_some, decide_eq_false c1, cond_false]
theorem rfield_key (N : Nat) (hN : 110000 ≤ N) (l : List (List UInt8)) (i : Nat) (hi : i < l.length) (hl : l.length < 100000) (hb : ∀ x ∈ l, x.length < 100000) (acc : List (List UInt8 × List UInt8)) (ha : acc.length ≤ i) (X) :
    ref14_Fields_L5 N X l (i : Int) acc = (match fieldOf l[i] with | some f => X ((l, (((i + 1 : Nat) : Int), ())), (acc ++ [f], ())) | none => some (.inl (([], (3, ())), ()))) := by
  have c1 : (i : Int) < ((l.length : Nat) : Int) := by omega
  have e3 : Go.IntKind.wrap .i64 ((i : Int) + 1) = ((i + 1 : Nat) : Int) := by rw [wrap64 (by omega) (by omega)]; omega
  have hx := hb _ (List.getElem_mem hi)
  have hrm : ∀ f : List UInt8 × List UInt8, roomB ((List.length acc) + (List.length ([f] : List (List UInt8 × List UInt8)))) 32 = true := fun f => roomB_of (by have := big_len; simp only [List.length_singleton]; omega) (by simp only [List.length_singleton]; omega)
  have hsp : ref14_Fields_L8_R N ((l, ((i : Int), ((0 : Int), ()))), (acc, ())) = some ((l, ((i : Int), (((spn l[i] 58 : Nat) : Int), ()))), (acc, ())) := rspan N l i hi hx acc N 0 (Nat.zero_le _) (by have := spn_le l[i] 58; omega)
  unfold ref14_Fields_L5
  rw [decide_eq_true c1, cond_true, hsp, Option.bind_some]
  simp only [getI_lt l i hi, Option.bind_some]
  unfold fieldOf
  by_cases h : spn l[i] 58 < (l[i]).length
  · have hix := (spn_at h).2
    have c2 : ¬ (((spn l[i] 58 : Nat) : Int) = (((List.length l[i]) : Nat) : Int)) := by omega
    have t1 : takeI l[i] ((spn l[i] 58 : Nat) : Int) = some ((l[i]).take (spn l[i] 58)) := takeI_nat _ rfl (by omega)
    have e5 : Go.IntKind.wrap .i64 (((spn l[i] 58 : Nat) : Int) + 1) = ((spn l[i] 58 + 1 : Nat) : Int) := by rw [wrap64 (by omega) (by omega)]; omega
    have t2 : dropI l[i] ((spn l[i] 58 + 1 : Nat) : Int) = some ((l[i]).drop (spn l[i] 58 + 1)) := dropI_nat _ rfl (by omega)
    have tk : ref14_Token N ((l[i]).take (spn l[i] 58)) = some (tokB ((l[i]).take (spn l[i] 58))) := rtoken_ok _ (by simp; omega) (by simp; omega)
    have tr : ref14_Trim N ((l[i]).drop (spn l[i] 58 + 1)) = some (trimB ((l[i]).drop (spn l[i] 58 + 1))) := rtrim_ok _ (by simp; omega) (by simp; omega)
    rw [hix]
    simp only [decide_eq_false c2, cond_false, t1, Option.bind_some, tk]
    cases hb : tokB ((l[i]).take (spn l[i] 58)) with
    | false => simp only [Bool.not_false, cond_false, cond_true, Option.bind_some]; rfl
    | true => simp only [Bool.not_true, cond_false, Option.bind_some, e5, t2, tr, hrm, cond_true, e3, if_true]
  · have he : spn l[i] 58 = (l[i]).length := by have := spn_le l[i] 58; omega
    have c2 : ((spn l[i] 58 : Nat) : Int) = (((List.length l[i]) : Nat) : Int) := by omega
    rw [spn_end he]
    simp only [decide_eq_true c2, cond_true, Option.bind_some]
theorem rfields_loop (N : Nat) (hN : 110000 ≤ N) (l : List (List UInt8)) (hl : l.length < 100000) (hb : ∀ x ∈ l, x.length < 100000) : ∀ (n i : Nat) (acc : List (List UInt8 × List UInt8)), i ≤ l.length → acc.length ≤ i → l.length - i < n →
    gl (fun X c => ref14_Fields_L5 N X c.1.1 c.1.2.1 c.2.1) n ((l, ((i : Int), ())), (acc, ())) = some (match allF (l.drop i) with | some m => .inr ((), (acc ++ m, ())) | none => .inl (([], (3, ())), ()))
  | 0, i, acc, _, _, h => by omega
  | n + 1, i, acc, hi, ha, h => by
    rw [gl_succ]
    show ref14_Fields_L5 N _ l (i : Int) acc = _
    rcases Nat.lt_or_ge i l.length with hlt | hge
    · rw [rfield_key N hN l i hlt hl hb acc ha, List.drop_eq_getElem_cons hlt]
      unfold allF
      cases hf : fieldOf l[i] with
      | none => rfl
      | some f =>
        simp only
        rw [rfields_loop N hN l hl hb n (i + 1) (acc ++ [f]) (by omega) (by simp; omega) (by omega)]
        cases allF (l.drop (i + 1)) with
        | none => rfl
        | some m => simp
    · have c1 : ¬ ((i : Int) < ((l.length : Nat) : Int)) := by omega
      rw [List.drop_of_length_le hge]
      unfold ref14_Fields_L5
      rw [decide_eq_false c1, cond_false]
      simp [allF]
theorem rfields_ok {N : Nat} (hN : 110000 ≤ N) (l : List (List UInt8)) (hb : ∀ x ∈ l, x.length < 100000) : ref14_Fields N l = some (fieldsR l) := by
  unfold ref14_Fields ref14_Fields_L5_R fieldsR
  by_cases h : 32 < l.length
  · have c : (32 : Int) < (((List.length l) : Nat) : Int) := by omega
    rw [decide_eq_true c, if_pos h]; rfl
  · have c : ¬ ((32 : Int) < (((List.length l) : Nat) : Int)) := by omega
    have := rfields_loop N hN l (by omega) hb N 0 [] (Nat.zero_le _) (by simp) (by omega)
    rw [List.drop_zero] at this
    rw [decide_eq_false c, if_neg h, cond_false, show ((l, ((0 : Int), Unit.unit)), (([] : List (List UInt8 × List UInt8)), Unit.unit)) = ((l, (((0 : Nat) : Int), ())), ([], ())) from rfl, this, Option.bind_some]
    exact fields_end l _ rfl
/-! ### The value of a name -/
def foldF (name : List UInt8) : List (List UInt8 × List UInt8) → Nat → List UInt8 → Nat × List UInt8
  | [], m, v => (m, v)
  | f :: r, m, v => if lowS f.1 = lowS name then foldF name r (m + 1) f.2 else foldF name r m v
def findR (l : List (List UInt8 × List UInt8)) (name : List UInt8) : List UInt8 × Int := if (foldF name l 0 []).1 = 0 then ([], 6) else if (foldF name l 0 []).1 = 1 then ((foldF name l 0 []).2, 0) else ([], 7)
theorem find_loop (N : Nat) (l : List (List UInt8 × List UInt8)) (name : List UInt8) (hl : l.length < 100000) (hn : name.length ≤ 100000) (hb : ∀ x ∈ l, x.1.length ≤ 100000) : ∀ (n i m : Nat) (v : List UInt8), i ≤ l.length → m ≤ i → l.length - i < n →
    gl (fun X c => words_Find_L3 N X c.1.1 c.1.2.1 c.1.2.2.1 c.1.2.2.2.1 c.1.2.2.2.2.1 c.1.2.2.2.2.2.1) n ((name, (v, (((m : Nat) : Int), (l, (((l.length : Nat) : Int), ((i : Int), ())))))), ()) = some (((foldF name (l.drop i) m v).2, ((((foldF name (l.drop i) m v).1 : Nat) : Int), ())), ())
  | 0, i, m, v, _, _, h => by omega
  | n + 1, i, m, v, hi, hm, h => by
    rw [gl_succ]
    show words_Find_L3 N _ name v ((m : Nat) : Int) l ((l.length : Nat) : Int) (i : Int) = _
    rcases Nat.lt_or_ge i l.length with hlt | hge
    · have c1 : (i : Int) < ((l.length : Nat) : Int) := by omega
      have e3 : Go.IntKind.wrap .i64 ((i : Int) + 1) = ((i + 1 : Nat) : Int) := by rw [wrap64 (by omega) (by omega)]; omega
      have e4 : Go.IntKind.wrap .i64 (((m : Nat) : Int) + 1) = ((m + 1 : Nat) : Int) := by rw [wrap64 (by omega) (by omega)]; omega
      have hal : words_Alike N (l[i]).1 name = some (decide (lowS (l[i]).1 = lowS name)) := alike_ok _ _ (by have := hb _ (List.getElem_mem hlt); omega) (by omega)
      rw [List.drop_eq_getElem_cons hlt]
      unfold foldF
      by_cases hx : lowS (l[i]).1 = lowS name
      · have key : ∀ X, words_Find_L3 N X name v ((m : Nat) : Int) l ((l.length : Nat) : Int) (i : Int) = X ((name, ((l[i]).2, (((m + 1 : Nat) : Int), (l, (((l.length : Nat) : Int), (((i + 1 : Nat) : Int), ())))))), ()) := fun X => by
          simp only [words_Find_L3, decide_eq_true c1, cond_true, getI_lt l i hlt, Option.bind_some, hal, decide_eq_true hx, e3, e4]
        rw [key, if_pos hx]
        exact find_loop N l name hl hn hb n (i + 1) (m + 1) _ (by omega) (by omega) (by omega)
      · have key : ∀ X, words_Find_L3 N X name v ((m : Nat) : Int) l ((l.length : Nat) : Int) (i : Int) = X ((name, (v, (((m : Nat) : Int), (l, (((l.length : Nat) : Int), (((i + 1 : Nat) : Int), ())))))), ()) := fun X => by
          simp only [words_Find_L3, decide_eq_true c1, cond_true, getI_lt l i hlt, Option.bind_some, hal, decide_eq_false hx, cond_false, e3]
        rw [key, if_neg hx]
        exact find_loop N l name hl hn hb n (i + 1) m _ (by omega) (by omega) (by omega)
    · have c1 : ¬ ((i : Int) < ((l.length : Nat) : Int)) := by omega
      rw [List.drop_of_length_le hge]
      simp only [words_Find_L3, decide_eq_false c1, cond_false, foldF]
theorem find_ok {N : Nat} (l : List (List UInt8 × List UInt8)) (name : List UInt8) (hl : l.length < 100000) (hN : 100000 ≤ N) (hn : name.length ≤ 100000) (hb : ∀ x ∈ l, x.1.length ≤ 100000) : words_Find N l name = some (findR l name) := by
  unfold words_Find words_Find_L3_R findR
  have := find_loop N l name hl hn hb N 0 0 [] (Nat.zero_le _) (Nat.le_refl _) (by omega)
  rw [List.drop_zero] at this
  rw [show ((name, ((@Array.toList UInt8 (@List.toArray UInt8 ([] : List UInt8))), ((0 : Int), (l, ((((List.length l) : Nat) : Int), ((0 : Int), Unit.unit)))))), Unit.unit) = ((name, ([], (((0 : Nat) : Int), (l, (((l.length : Nat) : Int), (((0 : Nat) : Int), ())))))), ()) from rfl, this, Option.bind_some]
  generalize foldF name l 0 [] = r
  by_cases h0 : r.1 = 0
  · have c : ((r.1 : Nat) : Int) = 0 := by omega
    simp only [decide_eq_true c, cond_true, if_pos h0]
  · have c : ¬ (((r.1 : Nat) : Int) = 0) := by omega
    by_cases h1 : r.1 = 1
    · have c2 : ((r.1 : Nat) : Int) = 1 := by omega
      simp only [decide_eq_false c, cond_false, decide_eq_true c2, cond_true, if_neg h0, if_pos h1]
    · have c2 : ¬ (((r.1 : Nat) : Int) = 1) := by omega
      simp only [decide_eq_false c, cond_false, decide_eq_false c2, if_neg h0, if_neg h1]
theorem rfind_loop (N : Nat) (l : List (List UInt8 × List UInt8)) (name : List UInt8) (hN : 110000 ≤ N) (hl : l.length < 100000) (hn : name.length ≤ 100000) (hb : ∀ x ∈ l, x.1.length ≤ 100000) : ∀ (n i m : Nat) (v : List UInt8), i ≤ l.length → m ≤ i → l.length - i < n →
    gl (fun X c => ref14_Find_L3 N X c.1.1 c.1.2.1 c.1.2.2.1 c.1.2.2.2.1 c.1.2.2.2.2.1) n ((l, (name, (((m : Nat) : Int), (v, ((i : Int), ()))))), ()) = some ((((((foldF name (l.drop i) m v).1 : Nat) : Int)), ((foldF name (l.drop i) m v).2, ())), ())
  | 0, i, m, v, _, _, h => by omega
  | n + 1, i, m, v, hi, hm, h => by
    rw [gl_succ]
    show ref14_Find_L3 N _ l name ((m : Nat) : Int) v (i : Int) = _
    rcases Nat.lt_or_ge i l.length with hlt | hge
    · have c1 : (i : Int) < ((l.length : Nat) : Int) := by omega
      have e3 : Go.IntKind.wrap .i64 ((i : Int) + 1) = ((i + 1 : Nat) : Int) := by rw [wrap64 (by omega) (by omega)]; omega
      have e4 : Go.IntKind.wrap .i64 (((m : Nat) : Int) + 1) = ((m + 1 : Nat) : Int) := by rw [wrap64 (by omega) (by omega)]; omega
      have hal : ref14_Alike N (l[i]).1 name = some (decide (lowS (l[i]).1 = lowS name)) := by
        have := hb _ (List.getElem_mem hlt)
        exact ralike_ok _ _ (by omega) (by omega) (by omega) (by omega)
      rw [List.drop_eq_getElem_cons hlt]
      unfold foldF
      by_cases hx : lowS (l[i]).1 = lowS name
      · have key : ∀ X, ref14_Find_L3 N X l name ((m : Nat) : Int) v (i : Int) = X ((l, (name, (((m + 1 : Nat) : Int), ((l[i]).2, (((i + 1 : Nat) : Int), ()))))), ()) := fun X => by
          simp only [ref14_Find_L3, decide_eq_true c1, cond_true, getI_lt l i hlt, Option.bind_some, hal, decide_eq_true hx, e3, e4]
        rw [key, if_pos hx]
        exact rfind_loop N l name hN hl hn hb n (i + 1) (m + 1) _ (by omega) (by omega) (by omega)
      · have key : ∀ X, ref14_Find_L3 N X l name ((m : Nat) : Int) v (i : Int) = X ((l, (name, (((m : Nat) : Int), (v, (((i + 1 : Nat) : Int), ()))))), ()) := fun X => by
          simp only [ref14_Find_L3, decide_eq_true c1, cond_true, getI_lt l i hlt, Option.bind_some, hal, decide_eq_false hx, cond_false, e3]
        rw [key, if_neg hx]
        exact rfind_loop N l name hN hl hn hb n (i + 1) m _ (by omega) (by omega) (by omega)
    · have c1 : ¬ ((i : Int) < ((l.length : Nat) : Int)) := by omega
      rw [List.drop_of_length_le hge]
      simp only [ref14_Find_L3, decide_eq_false c1, cond_false, foldF]
theorem rfind_ok {N : Nat} (l : List (List UInt8 × List UInt8)) (name : List UInt8) (hl : l.length < 100000) (hN : 110000 ≤ N) (hn : name.length ≤ 100000) (hb : ∀ x ∈ l, x.1.length ≤ 100000) : ref14_Find N l name = some (findR l name) := by
  unfold ref14_Find ref14_Find_L3_R findR
  have := rfind_loop N l name hN hl hn hb N 0 0 [] (Nat.zero_le _) (Nat.le_refl _) (by omega)
  rw [List.drop_zero] at this
  rw [show ((l, (name, ((0 : Int), ((@Array.toList UInt8 (@List.toArray UInt8 ([] : List UInt8))), ((0 : Int), Unit.unit))))), Unit.unit) = ((l, (name, (((0 : Nat) : Int), ([], (((0 : Nat) : Int), ()))))), ()) from rfl, this, Option.bind_some]
  generalize foldF name l 0 [] = r
  by_cases h0 : r.1 = 0
  · have c : ((r.1 : Nat) : Int) = 0 := by omega
    simp only [decide_eq_true c, cond_true, if_pos h0]
  · have c : ¬ (((r.1 : Nat) : Int) = 0) := by omega
    by_cases h1 : r.1 = 1
    · have c2 : ¬ ((1 : Int) < ((r.1 : Nat) : Int)) := by omega
      simp only [decide_eq_false c, cond_false, decide_eq_false c2, if_neg h0, if_pos h1]
    · have c2 : (1 : Int) < ((r.1 : Nat) : Int) := by omega
      simp only [decide_eq_false c, cond_false, decide_eq_true c2, cond_true, if_neg h0, if_neg h1]
/-- Bounds of what is told. -/
theorem fieldOf_len {l : List UInt8} {f : List UInt8 × List UInt8} (h : fieldOf l = some f) : f.1.length ≤ l.length := by
  unfold fieldOf at h
  cases hi : ix l 58 with
  | none => rw [hi] at h; cases h
  | some i =>
    rw [hi] at h
    simp only at h
    split at h
    · injection h with h; subst h; simp; omega
    · cases h
theorem allF_len : ∀ {l : List (List UInt8)} {m : List (List UInt8 × List UInt8)} {B : Nat}, allF l = some m → (∀ x ∈ l, x.length ≤ B) → m.length = l.length ∧ ∀ f ∈ m, f.1.length ≤ B
  | [], m, B, h, _ => by simp only [allF, Option.some.injEq] at h; subst h; exact ⟨rfl, fun f hf => by cases hf⟩
  | l :: r, m, B, h, hb => by
    unfold allF at h
    cases hf : fieldOf l with
    | none => rw [hf] at h; cases h
    | some f =>
      rw [hf] at h
      cases hr : allF r with
      | none => rw [hr] at h; cases h
      | some m' =>
        rw [hr] at h
        injection h with h
        subst h
        obtain ⟨h1, h2⟩ := allF_len hr (fun x hx => hb x (by simp [hx]))
        refine ⟨by simp [h1], fun g hg => ?_⟩
        rcases List.mem_cons.1 hg with rfl | hg
        · have h3 := fieldOf_len hf; have h4 := hb l (by simp); omega
        · exact h2 g hg
theorem fieldsR_len (l : List (List UInt8)) {B : Nat} (hb : ∀ x ∈ l, x.length ≤ B) : (fieldsR l).1.length ≤ l.length ∧ ∀ f ∈ (fieldsR l).1, f.1.length ≤ B := by
  unfold fieldsR
  split
  · exact ⟨by simp, fun f hf => by cases hf⟩
  · cases hm : allF l with
    | none => exact ⟨by simp, fun f hf => by cases hf⟩
    | some m => obtain ⟨h1, h2⟩ := allF_len hm hb; exact ⟨by simp [h1], h2⟩
/-- Lines are no longer than the bytes. -/
theorem hd_len (s : List Int) : ∀ (f i start : Nat) (ls : List (List UInt8)) (r : List (List UInt8) × (Int × Int)), hdS s f i start ls = .inl r → (∀ l ∈ ls, l.length ≤ s.length) → ls.length ≤ i → i ≤ s.length → r.1.length ≤ s.length ∧ ∀ l ∈ r.1, l.length ≤ s.length
  | 0, i, start, ls, r, h, _, _, _ => by cases h
  | f + 1, i, start, ls, r, h, hb, hl, hi => by
    unfold hdS at h
    split at h
    · rename_i hlt
      split at h
      · split at h
        · split at h
          · injection h with h; subst h; exact ⟨by simp only; omega, hb⟩
          · refine hd_len s f _ _ _ r h (fun l hm => ?_) (by simp; omega) (by omega)
            rcases List.mem_append.1 hm with h1 | h1
            · exact hb l h1
            · rw [List.mem_singleton.1 h1, seg_length _ _ _ (by omega)]; omega
        · exact hd_len s f _ _ _ r h hb (by omega) (by omega)
      · injection h with h; subst h; exact ⟨by simp, fun l hl => by cases hl⟩
    · cases h
theorem headR_len (b : List Int) : (headR b).1.length ≤ b.length ∧ ∀ l ∈ (headR b).1, l.length ≤ b.length := by
  unfold headR
  cases hh : hdS (b.take 2048) 200000 0 0 [] with
  | inl r =>
    obtain ⟨h1, h2⟩ := hd_len _ _ _ _ _ r hh (fun l hl => by cases hl) (by simp) (Nat.zero_le _)
    have hl : (b.take 2048).length ≤ b.length := by simp; omega
    exact ⟨by simp only; omega, fun l hm => by have := h2 l hm; omega⟩
  | inr u =>
    simp only
    split <;> exact ⟨by simp, fun l hl => by cases hl⟩
end Go.Proofs.YtfaocnboildjbaaDoor
/-
  Layer 15, on plain data: ids and hosts. The explicit parts are written by a program of mine.
-/
namespace Go.Proofs.YtfaocnboildjbaaDoor
set_option maxRecDepth 100000
open Go.RowKit
set_option linter.unusedVariables false
set_option linter.unusedSimpArgs false
set_option maxRecDepth 100000
set_option maxHeartbeats 1000000

section
variable {N : Nat}
/-! ### Digits -/
abbrev DIG : List UInt8 := (@Array.toList UInt8 (@List.toArray UInt8 ([(@OfNat.ofNat UInt8 (48 : Nat) (@UInt8.instOfNat (48 : Nat))), (@OfNat.ofNat UInt8 (49 : Nat) (@UInt8.instOfNat (49 : Nat))), (@OfNat.ofNat UInt8 (50 : Nat) (@UInt8.instOfNat (50 : Nat))), (@OfNat.ofNat UInt8 (51 : Nat) (@UInt8.instOfNat (51 : Nat))), (@OfNat.ofNat UInt8 (52 : Nat) (@UInt8.instOfNat (52 : Nat))), (@OfNat.ofNat UInt8 (53 : Nat) (@UInt8.instOfNat (53 : Nat))), (@OfNat.ofNat UInt8 (54 : Nat) (@UInt8.instOfNat (54 : Nat))), (@OfNat.ofNat UInt8 (55 : Nat) (@UInt8.instOfNat (55 : Nat))), (@OfNat.ofNat UInt8 (56 : Nat) (@UInt8.instOfNat (56 : Nat))), (@OfNat.ofNat UInt8 (57 : Nat) (@UInt8.instOfNat (57 : Nat))), (@OfNat.ofNat UInt8 (65 : Nat) (@UInt8.instOfNat (65 : Nat))), (@OfNat.ofNat UInt8 (66 : Nat) (@UInt8.instOfNat (66 : Nat))), (@OfNat.ofNat UInt8 (67 : Nat) (@UInt8.instOfNat (67 : Nat))), (@OfNat.ofNat UInt8 (68 : Nat) (@UInt8.instOfNat (68 : Nat))), (@OfNat.ofNat UInt8 (69 : Nat) (@UInt8.instOfNat (69 : Nat))), (@OfNat.ofNat UInt8 (70 : Nat) (@UInt8.instOfNat (70 : Nat)))] : List (UInt8))))
def dg (n : Nat) : UInt8 := [48, 49, 50, 51, 52, 53, 54, 55, 56, 57, 65, 66, 67, 68, 69, 70].getD n 0
theorem hx1 : ∀ n : Nat, n < 256 → (getI DIG (@Int.fdiv (n : Int) (@HPow.hPow Int Nat Int (@instHPow Int Nat (@instPowNat Int @Int.instNatPow)) (2 : Int) (@Min.min Nat @instMinNat (Int.toNat (4 : Int)) (@Go.IntKind.bits @Go.IntKind.u8))))) = some (dg (n / 16)) := by decide +kernel
theorem hx2 : ∀ n : Nat, n < 256 → (getI DIG (@Go.bits @Go.BinOp.and @Go.IntKind.u8 (n : Int) (15 : Int))) = some (dg (n % 16)) := by decide +kernel
theorem hy1 : ∀ n : Nat, n < 256 → (subI DIG (Go.IntKind.wrap .i64 (Go.IntKind.wrap .u8 (@Int.tdiv (n : Int) (16 : Int)))) (Go.IntKind.wrap .i64 ((Go.IntKind.wrap .i64 (Go.IntKind.wrap .u8 (@Int.tdiv (n : Int) (16 : Int)))) + (1 : Int)))) = some [dg (n / 16)] := by decide +kernel
theorem hy2 : ∀ n : Nat, n < 256 → (subI DIG (Go.IntKind.wrap .i64 (@Int.tmod (n : Int) (16 : Int))) (Go.IntKind.wrap .i64 ((Go.IntKind.wrap .i64 (@Int.tmod (n : Int) (16 : Int))) + (1 : Int)))) = some [dg (n % 16)] := by decide +kernel
def hexS (b : List Int) : List UInt8 := b.flatMap fun v => [dg (v.toNat / 16), dg (v.toNat % 16)]
theorem hexS_len : ∀ b : List Int, (hexS b).length = 2 * b.length
  | [] => rfl
  | v :: b => by
    show (dg (v.toNat / 16) :: dg (v.toNat % 16) :: hexS b).length = _
    simp only [List.length_cons, hexS_len b]; omega
theorem hexS_snoc (b : List Int) (v : Int) : hexS (b ++ [v]) = hexS b ++ [dg (v.toNat / 16), dg (v.toNat % 16)] := by
  unfold hexS
  rw [List.flatMap_append]
  rfl
theorem toBy_ofB : ∀ s : List UInt8, toBy (ofB s) = some s
  | [] => rfl
  | x :: s => by
    have h : (0 : Int) ≤ ((x.toNat : Nat) : Int) ∧ ((x.toNat : Nat) : Int) < 256 := by
      have := x.toNat_lt
      omega
    show toBy (((x.toNat : Nat) : Int) :: ofB s) = _
    unfold toBy
    rw [if_pos h, toBy_ofB s]
    simp
theorem ofB_app (a b : List UInt8) : ofB (a ++ b) = ofB a ++ ofB b := by simp [ofB]
theorem hex_p (b : List Int) (hB : AllB b) (hb : b.length ≤ 100) (hN : 10000 ≤ N) : octs_Hex N b = some (hexS b) := by
  have h : octs_Hex_L3_R N ((b, ((b.length : Int), ((0 : Int), ()))), (([] : List Int), ())) = some ((), (ofB (hexS b), ())) := by
    have := gl_run (G := fun X c => octs_Hex_L3 N X c.1.1 c.1.2.1 c.1.2.2.1 c.2.1) (fun i => ((b, ((b.length : Int), ((i : Int), ()))), (ofB (hexS (b.take i)), ()))) b.length ((), (ofB (hexS b), ())) (fun X i hi => ?_) (fun X => ?_) N 0 (Nat.zero_le _) (by omega)
    · exact this
    · have c1 : ((i : Int) < (b.length : Int)) := by omega
      have g := getI_lt b i hi
      have hv := hB _ (List.getElem_mem hi)
      have w : Go.IntKind.wrap .i64 ((i : Int) + 1) = ((i + 1 : Nat) : Int) := by rw [wrap64 (by omega) (by omega)]; omega
      obtain ⟨n, hn⟩ : ∃ n : Nat, b[i] = (n : Int) := ⟨b[i].toNat, by omega⟩
      have hn2 : n < 256 := by omega
      have t1 := hx1 n hn2
      have t2 := hx2 n hn2
      have hts : b.take (i + 1) = b.take i ++ [b[i]] := by rw [List.take_add_one, List.getElem?_eq_getElem hi]; rfl
      have hap : ofB (hexS (b.take (i + 1))) = ofB (hexS (b.take i)) ++ [(((dg (n / 16)).toNat : Nat) : Int), (((dg (n % 16)).toNat : Nat) : Int)] := by
        rw [hts, hexS_snoc, ofB_app, hn, Int.toNat_natCast]
        rfl
      have rm : roomB ((ofB (hexS (b.take i))).length + ([(((dg (n / 16)).toNat : Nat) : Int), (((dg (n % 16)).toNat : Nat) : Int)] : List Int).length) 1 = true := by
        rw [ofB_length, hexS_len, List.length_take]
        exact roomB_of (by have := big_len; simp; omega) (by simp; omega)
      rw [hn] at g
      simp only [octs_Hex_L3, c1, decide_true, cond_true, g, Option.bind_some, t1, t2, rm, w, hap]
    · have c1 : ¬ ((b.length : Int) < (b.length : Int)) := by omega
      simp only [octs_Hex_L3, c1, decide_false, cond_false, List.take_length]
  have w : Go.IntKind.wrap .i64 ((2 : Int) * (b.length : Int)) = ((2 * b.length : Nat) : Int) := by rw [wrap64 (by omega) (by omega)]; omega
  have c0 : decide ((0 : Int) ≤ 0 ∧ (0 : Int) ≤ ((2 * b.length : Nat) : Int)) = true := decide_eq_true ⟨by omega, by omega⟩
  have r0 : roomB (Int.toNat ((2 * b.length : Nat) : Int)) 1 = true := roomB_of (by have := big_len; omega) (by omega)
  unfold octs_Hex
  rw [w, c0, r0]
  simp only [Bool.and_self, cond_true]
  refine (congrArg (fun o => Option.bind o _) h).trans ?_
  simp only [Option.bind_some, toBy_ofB]
theorem hex_r (b : List Int) (hB : AllB b) (hb : b.length ≤ 100) (hN : 10000 ≤ N) : ref01_Hex N b = some (hexS b) := by
  have h : ref01_Hex_L4_R N ((b, (DIG, (([] : List UInt8), ((0 : Int), ())))), ()) = some ((hexS b, ()), ()) := by
    have := gl_run (G := fun X c => ref01_Hex_L4 N X c.1.1 c.1.2.1 c.1.2.2.1 c.1.2.2.2.1) (fun i => ((b, (DIG, (hexS (b.take i), ((i : Int), ())))), ())) b.length ((hexS b, ()), ()) (fun X i hi => ?_) (fun X => ?_) N 0 (Nat.zero_le _) (by omega)
    · exact this
    · have c1 : ((i : Int) < (b.length : Int)) := by omega
      have g := getI_lt b i hi
      have hv := hB _ (List.getElem_mem hi)
      have w : Go.IntKind.wrap .i64 ((i : Int) + 1) = ((i + 1 : Nat) : Int) := by rw [wrap64 (by omega) (by omega)]; omega
      obtain ⟨n, hn⟩ : ∃ n : Nat, b[i] = (n : Int) := ⟨b[i].toNat, by omega⟩
      have hn2 : n < 256 := by omega
      have t1 := hy1 n hn2
      have t2 := hy2 n hn2
      have hts : b.take (i + 1) = b.take i ++ [b[i]] := by rw [List.take_add_one, List.getElem?_eq_getElem hi]; rfl
      have hap : hexS (b.take (i + 1)) = hexS (b.take i) ++ ([dg (n / 16)] ++ [dg (n % 16)]) := by
        rw [hts, hexS_snoc, hn, Int.toNat_natCast]
        rfl
      have bl := big_len
      have r1 : decide (([dg (n / 16)].length + [dg (n % 16)].length) ≤ Go.maxLen) = true := decide_eq_true (by simp; omega)
      have r2 : decide (((hexS (b.take i)).length + ([dg (n / 16)] ++ [dg (n % 16)]).length) ≤ Go.maxLen) = true := decide_eq_true (by rw [hexS_len, List.length_take]; simp; omega)
      rw [hn] at g
      simp only [ref01_Hex_L4, c1, decide_true, cond_true, g, Option.bind_some, t1, t2, r1, r2, w, hap]
    · have c1 : ¬ ((b.length : Int) < (b.length : Int)) := by omega
      simp only [ref01_Hex_L4, c1, decide_false, cond_false, List.take_length]
  unfold ref01_Hex
  refine (congrArg (fun o => Option.bind o _) h).trans ?_
  simp only [Option.bind_some]
end
/-! ### Ids -/
theorem ex_cons {α : Type} {n : Nat} {s : List α} (h : s.length = n + 1) : ∃ a t, s = a :: t ∧ t.length = n := by
  match s, h with
  | a :: t, h => exact ⟨a, t, rfl, by simpa using h⟩
theorem u8_all (P : UInt8 → Prop) (h : ∀ n : Nat, n < 256 → P (UInt8.ofNat n)) (x : UInt8) : P x := by
  have := h x.toNat x.toNat_lt
  rwa [UInt8.ofNat_toNat] at this
theorem sm_dg : ∀ a : UInt8, hv a < 16 → sm (dg (hv a)) = sm a := u8_all _ (by decide +kernel)
theorem sm_123 : ∀ a : UInt8, sm a = 123 ↔ a = 123 := u8_all _ (by decide +kernel)
theorem sm_45 : ∀ a : UInt8, sm a = 45 ↔ a = 45 := u8_all _ (by decide +kernel)
theorem sm_125 : ∀ a : UInt8, sm a = 125 ↔ a = 125 := u8_all _ (by decide +kernel)
theorem unhex_len : ∀ (d bs : List UInt8), unhexL d = some bs → d.length = 2 * bs.length ∧ lowS (hexS (ofB bs)) = lowS d
  | [], bs, h => by simp only [unhexL, Option.some.injEq] at h; subst h; exact ⟨rfl, rfl⟩
  | [_], bs, h => by simp [unhexL] at h
  | a :: b :: r, bs, h => by
    unfold unhexL at h
    split at h
    · rename_i hc
      cases hr : unhexL r with
      | none => rw [hr] at h; cases h
      | some bs' =>
        rw [hr] at h
        simp only [Option.map_some, Option.some.injEq] at h
        subst h
        obtain ⟨g1, g2⟩ := unhex_len r bs' hr
        refine ⟨by simp only [List.length_cons]; omega, ?_⟩
        have e : (UInt8.ofNat (16 * hv a + hv b)).toNat = 16 * hv a + hv b := by simp; omega
        have e1 : hexS (ofB (UInt8.ofNat (16 * hv a + hv b) :: bs')) = dg (hv a) :: dg (hv b) :: hexS (ofB bs') := by
          show dg ((((UInt8.ofNat (16 * hv a + hv b)).toNat : Nat) : Int).toNat / 16) :: dg ((((UInt8.ofNat (16 * hv a + hv b)).toNat : Nat) : Int).toNat % 16) :: hexS (ofB bs') = _
          rw [e, Int.toNat_natCast, show (16 * hv a + hv b) / 16 = hv a by omega, show (16 * hv a + hv b) % 16 = hv b by omega]
        rw [e1]
        show sm (dg (hv a)) :: sm (dg (hv b)) :: lowS (hexS (ofB bs')) = sm a :: sm b :: lowS r
        rw [sm_dg a hc.1, sm_dg b hc.2, g2]
    · cases h
def guidP (h : List UInt8) : List UInt8 := ((((((((([123] ++ h.take 8) ++ [45]) ++ (h.drop 8).take 4) ++ [45]) ++ (h.drop 12).take 4) ++ [45]) ++ (h.drop 16).take 4) ++ [45]) ++ h.drop 20) ++ [125]
theorem low_guid (h : List UInt8) : lowS (guidP h) = guidP (lowS h) := by
  unfold guidP lowS
  simp only [List.map_append, List.map_take, List.map_drop]
  rfl
theorem guid_ok (A : Arr Int 16) (hB : AllB A.l) : httpq_Guid 200000 A = some (guidP (hexS A.l)) := by
  have hl : (hexS A.l).length = 32 := by rw [hexS_len, A.h]
  unfold httpq_Guid
  rw [hex_p A.l hB (by rw [A.h]; omega) (by omega)]
  generalize hexS A.l = h at hl ⊢
  have bl := big_len
  have t1 : takeI h (8 : Int) = some (h.take 8) := takeI_nat h rfl (by omega)
  have t2 : subI h (8 : Int) (12 : Int) = some ((h.drop 8).take 4) := subI_nat h (i := 8) (j := 12) rfl rfl (by omega) (by omega)
  have t3 : subI h (12 : Int) (16 : Int) = some ((h.drop 12).take 4) := subI_nat h (i := 12) (j := 16) rfl rfl (by omega) (by omega)
  have t4 : subI h (16 : Int) (20 : Int) = some ((h.drop 16).take 4) := subI_nat h (i := 16) (j := 20) rfl rfl (by omega) (by omega)
  have t5 : dropI h (20 : Int) = some (h.drop 20) := dropI_nat h rfl (by omega)
  have M : ∀ n, n ≤ 100 → decide (n ≤ Go.maxLen) = true := fun n hn => decide_eq_true (by omega)
  simp only [Option.bind_some, t1, t2, t3, t4, t5]
  repeat rw [M _ (by simp; omega), cond_true]
  rfl
theorem rguid_ok (A : Arr Int 16) (hB : AllB A.l) : ref15_Guid 200000 A = some (guidP (hexS A.l)) := by
  have hl : (hexS A.l).length = 32 := by rw [hexS_len, A.h]
  unfold ref15_Guid
  rw [hex_r A.l hB (by rw [A.h]; omega) (by omega)]
  generalize hexS A.l = h at hl ⊢
  have bl := big_len
  have t1 : takeI h (8 : Int) = some (h.take 8) := takeI_nat h rfl (by omega)
  have t2 : subI h (8 : Int) (12 : Int) = some ((h.drop 8).take 4) := subI_nat h (i := 8) (j := 12) rfl rfl (by omega) (by omega)
  have t3 : subI h (12 : Int) (16 : Int) = some ((h.drop 12).take 4) := subI_nat h (i := 12) (j := 16) rfl rfl (by omega) (by omega)
  have t4 : subI h (16 : Int) (20 : Int) = some ((h.drop 16).take 4) := subI_nat h (i := 16) (j := 20) rfl rfl (by omega) (by omega)
  have t5 : dropI h (20 : Int) = some (h.drop 20) := dropI_nat h rfl (by omega)
  have M : ∀ n, n ≤ 100 → decide (n ≤ Go.maxLen) = true := fun n hn => decide_eq_true (by omega)
  simp only [Option.bind_some, t1, t2, t3, t4, t5]
  repeat rw [M _ (by simp; omega), cond_true]
  rfl
def digs (s : List UInt8) : List UInt8 := (((((s.drop 1).take 8 ++ (s.drop 10).take 4) ++ (s.drop 15).take 4) ++ (s.drop 20).take 4) ++ (s.drop 25).take 12)
def zA : Arr Int 16 := ⟨List.replicate 16 0, rfl⟩
def idC (s : List UInt8) : Prop := s.length = 38 ∧ s.getD 0 0 = 123 ∧ s.getD 37 0 = 125 ∧ s.getD 9 0 = 45 ∧ s.getD 14 0 = 45 ∧ s.getD 19 0 = 45 ∧ s.getD 24 0 = 45 ∧ (unhexL (digs s)).isSome = true
instance (s : List UInt8) : Decidable (idC s) := by unfold idC; infer_instance
def idR (s : List UInt8) : Arr Int 16 × Int := if idC s then ((toArr 16 (unhexR (digs s))).getD zA, 0) else (zA, 3)
theorem allB_ofB (bs : List UInt8) : AllB (ofB bs) := fun x hx => by
  simp only [ofB, List.mem_map] at hx
  obtain ⟨b, _, rfl⟩ := hx
  have := b.toNat_lt
  omega
theorem toArr_of {bs : List UInt8} (h : bs.length = 16) : ∃ A : Arr Int 16, toArr 16 (ofB bs) = some A ∧ A.l = ofB bs := by
  have hl : (ofB bs).length = 16 := by rw [ofB_length, h]
  refine ⟨⟨ofB bs, hl⟩, ?_, rfl⟩
  unfold toArr
  rw [dif_pos (by omega)]
  congr 1
  have : (ofB bs).take 16 = ofB bs := by rw [List.take_of_length_le (by omega)]
  simp only [this]
theorem digs_len {s : List UInt8} (h : s.length = 38) : (digs s).length = 32 := by unfold digs; simp; omega
theorem idR_bytes (s : List UInt8) : AllB (idR s).1.l := by
  unfold idR
  split
  · rename_i h
    obtain ⟨h1, _, _, _, _, _, _, h8⟩ := h
    cases hu : unhexL (digs s) with
    | none => rw [hu] at h8; cases h8
    | some bs =>
      have hl := (unhex_len _ _ hu).1
      rw [digs_len h1] at hl
      obtain ⟨A, hA, hA2⟩ := toArr_of (bs := bs) (by omega)
      have : unhexR (digs s) = ofB bs := by unfold unhexR; rw [hu]; rfl
      rw [this, hA, Option.getD_some, hA2]
      exact allB_ofB bs
  · intro x hx
    have : x ∈ List.replicate 16 (0 : Int) := hx
    rw [List.mem_replicate] at this
    omega
theorem id_ok (s : List UInt8) (hs : s.length ≤ 100000) : httpq_Id 200000 s = some (idR s) := by
  by_cases h : s.length = 37 + 1
  · have hlen := h
    have k0 := h
    obtain ⟨a0, s1, rfl, k1⟩ := ex_cons k0
    obtain ⟨a1, s2, rfl, k2⟩ := ex_cons k1
    obtain ⟨a2, s3, rfl, k3⟩ := ex_cons k2
    obtain ⟨a3, s4, rfl, k4⟩ := ex_cons k3
    obtain ⟨a4, s5, rfl, k5⟩ := ex_cons k4
    obtain ⟨a5, s6, rfl, k6⟩ := ex_cons k5
    obtain ⟨a6, s7, rfl, k7⟩ := ex_cons k6
    obtain ⟨a7, s8, rfl, k8⟩ := ex_cons k7
    obtain ⟨a8, s9, rfl, k9⟩ := ex_cons k8
    obtain ⟨a9, s10, rfl, k10⟩ := ex_cons k9
    obtain ⟨a10, s11, rfl, k11⟩ := ex_cons k10
    obtain ⟨a11, s12, rfl, k12⟩ := ex_cons k11
    obtain ⟨a12, s13, rfl, k13⟩ := ex_cons k12
    obtain ⟨a13, s14, rfl, k14⟩ := ex_cons k13
    obtain ⟨a14, s15, rfl, k15⟩ := ex_cons k14
    obtain ⟨a15, s16, rfl, k16⟩ := ex_cons k15
    obtain ⟨a16, s17, rfl, k17⟩ := ex_cons k16
    obtain ⟨a17, s18, rfl, k18⟩ := ex_cons k17
    obtain ⟨a18, s19, rfl, k19⟩ := ex_cons k18
    obtain ⟨a19, s20, rfl, k20⟩ := ex_cons k19
    obtain ⟨a20, s21, rfl, k21⟩ := ex_cons k20
    obtain ⟨a21, s22, rfl, k22⟩ := ex_cons k21
    obtain ⟨a22, s23, rfl, k23⟩ := ex_cons k22
    obtain ⟨a23, s24, rfl, k24⟩ := ex_cons k23
    obtain ⟨a24, s25, rfl, k25⟩ := ex_cons k24
    obtain ⟨a25, s26, rfl, k26⟩ := ex_cons k25
    obtain ⟨a26, s27, rfl, k27⟩ := ex_cons k26
    obtain ⟨a27, s28, rfl, k28⟩ := ex_cons k27
    obtain ⟨a28, s29, rfl, k29⟩ := ex_cons k28
    obtain ⟨a29, s30, rfl, k30⟩ := ex_cons k29
    obtain ⟨a30, s31, rfl, k31⟩ := ex_cons k30
    obtain ⟨a31, s32, rfl, k32⟩ := ex_cons k31
    obtain ⟨a32, s33, rfl, k33⟩ := ex_cons k32
    obtain ⟨a33, s34, rfl, k34⟩ := ex_cons k33
    obtain ⟨a34, s35, rfl, k35⟩ := ex_cons k34
    obtain ⟨a35, s36, rfl, k36⟩ := ex_cons k35
    obtain ⟨a36, s37, rfl, k37⟩ := ex_cons k36
    obtain ⟨a37, s38, rfl, k38⟩ := ex_cons k37
    obtain rfl : s38 = [] := List.eq_nil_of_length_eq_zero k38
    have bl := big_len
    have M : ∀ n, n ≤ 100 → decide (n ≤ Go.maxLen) = true := fun n hn => decide_eq_true (by omega)
    have c0 : ((([a0, a1, a2, a3, a4, a5, a6, a7, a8, a9, a10, a11, a12, a13, a14, a15, a16, a17, a18, a19, a20, a21, a22, a23, a24, a25, a26, a27, a28, a29, a30, a31, a32, a33, a34, a35, a36, a37].length : Nat)) : Int) = 38 := rfl
    have t1 : subI [a0, a1, a2, a3, a4, a5, a6, a7, a8, a9, a10, a11, a12, a13, a14, a15, a16, a17, a18, a19, a20, a21, a22, a23, a24, a25, a26, a27, a28, a29, a30, a31, a32, a33, a34, a35, a36, a37] (1 : Int) (9 : Int) = some [a1, a2, a3, a4, a5, a6, a7, a8] := rfl
    have t2 : subI [a0, a1, a2, a3, a4, a5, a6, a7, a8, a9, a10, a11, a12, a13, a14, a15, a16, a17, a18, a19, a20, a21, a22, a23, a24, a25, a26, a27, a28, a29, a30, a31, a32, a33, a34, a35, a36, a37] (10 : Int) (14 : Int) = some [a10, a11, a12, a13] := rfl
    have t3 : subI [a0, a1, a2, a3, a4, a5, a6, a7, a8, a9, a10, a11, a12, a13, a14, a15, a16, a17, a18, a19, a20, a21, a22, a23, a24, a25, a26, a27, a28, a29, a30, a31, a32, a33, a34, a35, a36, a37] (15 : Int) (19 : Int) = some [a15, a16, a17, a18] := rfl
    have t4 : subI [a0, a1, a2, a3, a4, a5, a6, a7, a8, a9, a10, a11, a12, a13, a14, a15, a16, a17, a18, a19, a20, a21, a22, a23, a24, a25, a26, a27, a28, a29, a30, a31, a32, a33, a34, a35, a36, a37] (20 : Int) (24 : Int) = some [a20, a21, a22, a23] := rfl
    have t5 : subI [a0, a1, a2, a3, a4, a5, a6, a7, a8, a9, a10, a11, a12, a13, a14, a15, a16, a17, a18, a19, a20, a21, a22, a23, a24, a25, a26, a27, a28, a29, a30, a31, a32, a33, a34, a35, a36, a37] (25 : Int) (37 : Int) = some [a25, a26, a27, a28, a29, a30, a31, a32, a33, a34, a35, a36] := rfl
    have hdg : digs [a0, a1, a2, a3, a4, a5, a6, a7, a8, a9, a10, a11, a12, a13, a14, a15, a16, a17, a18, a19, a20, a21, a22, a23, a24, a25, a26, a27, a28, a29, a30, a31, a32, a33, a34, a35, a36, a37] = (((([a1, a2, a3, a4, a5, a6, a7, a8] ++ [a10, a11, a12, a13]) ++ [a15, a16, a17, a18]) ++ [a20, a21, a22, a23]) ++ [a25, a26, a27, a28, a29, a30, a31, a32, a33, a34, a35, a36]) := rfl
    unfold httpq_Id
    rw [decide_eq_true c0, Bool.not_true, cond_false, t1, Option.bind_some, t2, Option.bind_some, M _ (by simp), cond_true, t3, Option.bind_some, M _ (by simp), cond_true, t4, Option.bind_some, M _ (by simp), cond_true, t5, Option.bind_some, M _ (by simp), cond_true]
    rw [show decide ((List.length (((([a1, a2, a3, a4, a5, a6, a7, a8] ++ [a10, a11, a12, a13]) ++ [a15, a16, a17, a18]) ++ [a20, a21, a22, a23]) ++ [a25, a26, a27, a28, a29, a30, a31, a32, a33, a34, a35, a36])) ≤ (1000000 : Nat)) = true from rfl, cond_true]
    have hdl : ((((([a1, a2, a3, a4, a5, a6, a7, a8] ++ [a10, a11, a12, a13]) ++ [a15, a16, a17, a18]) ++ [a20, a21, a22, a23]) ++ [a25, a26, a27, a28, a29, a30, a31, a32, a33, a34, a35, a36]) : List UInt8).length = 32 := rfl
    have key : ∀ d : List UInt8, lowS d = lowS (((([a1, a2, a3, a4, a5, a6, a7, a8] ++ [a10, a11, a12, a13]) ++ [a15, a16, a17, a18]) ++ [a20, a21, a22, a23]) ++ [a25, a26, a27, a28, a29, a30, a31, a32, a33, a34, a35, a36]) → ((lowS [a0, a1, a2, a3, a4, a5, a6, a7, a8, a9, a10, a11, a12, a13, a14, a15, a16, a17, a18, a19, a20, a21, a22, a23, a24, a25, a26, a27, a28, a29, a30, a31, a32, a33, a34, a35, a36, a37] = guidP (lowS d)) ↔ (a0 = 123 ∧ a9 = 45 ∧ a14 = 45 ∧ a19 = 45 ∧ a24 = 45 ∧ a37 = 125)) := fun d hd => by
      rw [hd]
      show ([sm a0, sm a1, sm a2, sm a3, sm a4, sm a5, sm a6, sm a7, sm a8, sm a9, sm a10, sm a11, sm a12, sm a13, sm a14, sm a15, sm a16, sm a17, sm a18, sm a19, sm a20, sm a21, sm a22, sm a23, sm a24, sm a25, sm a26, sm a27, sm a28, sm a29, sm a30, sm a31, sm a32, sm a33, sm a34, sm a35, sm a36, sm a37] = [123, sm a1, sm a2, sm a3, sm a4, sm a5, sm a6, sm a7, sm a8, 45, sm a10, sm a11, sm a12, sm a13, 45, sm a15, sm a16, sm a17, sm a18, 45, sm a20, sm a21, sm a22, sm a23, 45, sm a25, sm a26, sm a27, sm a28, sm a29, sm a30, sm a31, sm a32, sm a33, sm a34, sm a35, sm a36, 125]) ↔ _
      simp only [List.cons.injEq, true_and, and_true, sm_123, sm_45, sm_125]
    have hid : idR [a0, a1, a2, a3, a4, a5, a6, a7, a8, a9, a10, a11, a12, a13, a14, a15, a16, a17, a18, a19, a20, a21, a22, a23, a24, a25, a26, a27, a28, a29, a30, a31, a32, a33, a34, a35, a36, a37] = if (a0 = 123 ∧ a9 = 45 ∧ a14 = 45 ∧ a19 = 45 ∧ a24 = 45 ∧ a37 = 125) ∧ (unhexL (((([a1, a2, a3, a4, a5, a6, a7, a8] ++ [a10, a11, a12, a13]) ++ [a15, a16, a17, a18]) ++ [a20, a21, a22, a23]) ++ [a25, a26, a27, a28, a29, a30, a31, a32, a33, a34, a35, a36])).isSome = true then ((toArr 16 (unhexR (((([a1, a2, a3, a4, a5, a6, a7, a8] ++ [a10, a11, a12, a13]) ++ [a15, a16, a17, a18]) ++ [a20, a21, a22, a23]) ++ [a25, a26, a27, a28, a29, a30, a31, a32, a33, a34, a35, a36]))).getD zA, 0) else (zA, 3) := by
      unfold idR
      rw [hdg]
      have : idC [a0, a1, a2, a3, a4, a5, a6, a7, a8, a9, a10, a11, a12, a13, a14, a15, a16, a17, a18, a19, a20, a21, a22, a23, a24, a25, a26, a27, a28, a29, a30, a31, a32, a33, a34, a35, a36, a37] ↔ ((a0 = 123 ∧ a9 = 45 ∧ a14 = 45 ∧ a19 = 45 ∧ a24 = 45 ∧ a37 = 125) ∧ (unhexL (((([a1, a2, a3, a4, a5, a6, a7, a8] ++ [a10, a11, a12, a13]) ++ [a15, a16, a17, a18]) ++ [a20, a21, a22, a23]) ++ [a25, a26, a27, a28, a29, a30, a31, a32, a33, a34, a35, a36])).isSome = true) := by
        show (_ ∧ a0 = 123 ∧ a37 = 125 ∧ a9 = 45 ∧ a14 = 45 ∧ a19 = 45 ∧ a24 = 45 ∧ _) ↔ _
        rw [hdg]
        exact ⟨fun ⟨_, b, c, d, e, f, g, i⟩ => ⟨⟨b, d, e, f, g, c⟩, i⟩, fun ⟨⟨b, d, e, f, g, c⟩, i⟩ => ⟨rfl, b, c, d, e, f, g, i⟩⟩
      simp only [this]
    rw [hid]
    generalize hDD : ((((([a1, a2, a3, a4, a5, a6, a7, a8] ++ [a10, a11, a12, a13]) ++ [a15, a16, a17, a18]) ++ [a20, a21, a22, a23]) ++ [a25, a26, a27, a28, a29, a30, a31, a32, a33, a34, a35, a36]) : List UInt8) = DD at key hdl ⊢
    cases hu : unhexL DD with
    | none =>
      have e : unhexE DD = 3 := by unfold unhexE; rw [hu]; rfl
      rw [e]
      simp
      rfl
    | some bs =>
      obtain ⟨g1, g2⟩ := unhex_len _ _ hu
      obtain ⟨A, hA, hA2⟩ := toArr_of (bs := bs) (by omega)
      have e : unhexE DD = 0 := by unfold unhexE; rw [hu]; rfl
      have e2 : unhexR DD = ofB bs := by unfold unhexR; rw [hu]; rfl
      have hgl : (guidP (hexS (ofB bs))).length ≤ 1000 := by
        have : (hexS (ofB bs)).length ≤ 32 := by rw [hexS_len, ofB_length]; omega
        unfold guidP
        simp
        omega
      rw [e, e2, hA, Option.bind_some, guid_ok A (by rw [hA2]; exact allB_ofB bs), hA2, Option.bind_some, alike_ok _ _ (by rw [hlen]; omega) (by omega), Option.bind_some, low_guid]
      simp only [key _ g2]
      by_cases hc : a0 = 123 ∧ a9 = 45 ∧ a14 = 45 ∧ a19 = 45 ∧ a24 = 45 ∧ a37 = 125
      · rw [if_pos ⟨hc, rfl⟩, decide_eq_true hc]
        rfl
      · rw [if_neg (fun hx => hc hx.1), decide_eq_false hc]
        rfl
  · have c0 : ¬ ((((s.length : Nat)) : Int) = 38) := by omega
    unfold httpq_Id
    rw [decide_eq_false c0, Bool.not_false, cond_true]
    unfold idR
    rw [if_neg (fun hx => h hx.1)]
    rfl
def zC : Arr Int 16 := (Arr.cons (0 : Int) (Arr.cons (0 : Int) (Arr.cons (0 : Int) (Arr.cons (0 : Int) (Arr.cons (0 : Int) (Arr.cons (0 : Int) (Arr.cons (0 : Int) (Arr.cons (0 : Int) (Arr.cons (0 : Int) (Arr.cons (0 : Int) (Arr.cons (0 : Int) (Arr.cons (0 : Int) (Arr.cons (0 : Int) (Arr.cons (0 : Int) (Arr.cons (0 : Int) (Arr.cons (0 : Int) Arr.nil))))))))))))))))
theorem loop16 (x0 x1 x2 x3 x4 x5 x6 x7 x8 x9 x10 x11 x12 x13 x14 x15 : UInt8) : ref15_Id_L8_R 200000 ((ofB [x0, x1, x2, x3, x4, x5, x6, x7, x8, x9, x10, x11, x12, x13, x14, x15], ((0 : Int), ())), (zC, (zC, ()))) = some ((), (zC, ((⟨ofB [x0, x1, x2, x3, x4, x5, x6, x7, x8, x9, x10, x11, x12, x13, x14, x15], rfl⟩ : Arr Int 16), ()))) := by kernel_rfl
theorem rid_ok (s : List UInt8) (hs : s.length ≤ 100000) : ref15_Id 200000 s = some (idR s) := by
  by_cases h : s.length = 37 + 1
  · have hlen := h
    have k0 := h
    obtain ⟨a0, s1, rfl, k1⟩ := ex_cons k0
    obtain ⟨a1, s2, rfl, k2⟩ := ex_cons k1
    obtain ⟨a2, s3, rfl, k3⟩ := ex_cons k2
    obtain ⟨a3, s4, rfl, k4⟩ := ex_cons k3
    obtain ⟨a4, s5, rfl, k5⟩ := ex_cons k4
    obtain ⟨a5, s6, rfl, k6⟩ := ex_cons k5
    obtain ⟨a6, s7, rfl, k7⟩ := ex_cons k6
    obtain ⟨a7, s8, rfl, k8⟩ := ex_cons k7
    obtain ⟨a8, s9, rfl, k9⟩ := ex_cons k8
    obtain ⟨a9, s10, rfl, k10⟩ := ex_cons k9
    obtain ⟨a10, s11, rfl, k11⟩ := ex_cons k10
    obtain ⟨a11, s12, rfl, k12⟩ := ex_cons k11
    obtain ⟨a12, s13, rfl, k13⟩ := ex_cons k12
    obtain ⟨a13, s14, rfl, k14⟩ := ex_cons k13
    obtain ⟨a14, s15, rfl, k15⟩ := ex_cons k14
    obtain ⟨a15, s16, rfl, k16⟩ := ex_cons k15
    obtain ⟨a16, s17, rfl, k17⟩ := ex_cons k16
    obtain ⟨a17, s18, rfl, k18⟩ := ex_cons k17
    obtain ⟨a18, s19, rfl, k19⟩ := ex_cons k18
    obtain ⟨a19, s20, rfl, k20⟩ := ex_cons k19
    obtain ⟨a20, s21, rfl, k21⟩ := ex_cons k20
    obtain ⟨a21, s22, rfl, k22⟩ := ex_cons k21
    obtain ⟨a22, s23, rfl, k23⟩ := ex_cons k22
    obtain ⟨a23, s24, rfl, k24⟩ := ex_cons k23
    obtain ⟨a24, s25, rfl, k25⟩ := ex_cons k24
    obtain ⟨a25, s26, rfl, k26⟩ := ex_cons k25
    obtain ⟨a26, s27, rfl, k27⟩ := ex_cons k26
    obtain ⟨a27, s28, rfl, k28⟩ := ex_cons k27
    obtain ⟨a28, s29, rfl, k29⟩ := ex_cons k28
    obtain ⟨a29, s30, rfl, k30⟩ := ex_cons k29
    obtain ⟨a30, s31, rfl, k31⟩ := ex_cons k30
    obtain ⟨a31, s32, rfl, k32⟩ := ex_cons k31
    obtain ⟨a32, s33, rfl, k33⟩ := ex_cons k32
    obtain ⟨a33, s34, rfl, k34⟩ := ex_cons k33
    obtain ⟨a34, s35, rfl, k35⟩ := ex_cons k34
    obtain ⟨a35, s36, rfl, k36⟩ := ex_cons k35
    obtain ⟨a36, s37, rfl, k37⟩ := ex_cons k36
    obtain ⟨a37, s38, rfl, k38⟩ := ex_cons k37
    obtain rfl : s38 = [] := List.eq_nil_of_length_eq_zero k38
    have bl := big_len
    have M : ∀ n, n ≤ 100 → decide (n ≤ Go.maxLen) = true := fun n hn => decide_eq_true (by omega)
    have c0 : ((([a0, a1, a2, a3, a4, a5, a6, a7, a8, a9, a10, a11, a12, a13, a14, a15, a16, a17, a18, a19, a20, a21, a22, a23, a24, a25, a26, a27, a28, a29, a30, a31, a32, a33, a34, a35, a36, a37].length : Nat)) : Int) = 38 := rfl
    have g0 : getI [a0, a1, a2, a3, a4, a5, a6, a7, a8, a9, a10, a11, a12, a13, a14, a15, a16, a17, a18, a19, a20, a21, a22, a23, a24, a25, a26, a27, a28, a29, a30, a31, a32, a33, a34, a35, a36, a37] (0 : Int) = some a0 := rfl
    have g37 : getI [a0, a1, a2, a3, a4, a5, a6, a7, a8, a9, a10, a11, a12, a13, a14, a15, a16, a17, a18, a19, a20, a21, a22, a23, a24, a25, a26, a27, a28, a29, a30, a31, a32, a33, a34, a35, a36, a37] (37 : Int) = some a37 := rfl
    have g9 : getI [a0, a1, a2, a3, a4, a5, a6, a7, a8, a9, a10, a11, a12, a13, a14, a15, a16, a17, a18, a19, a20, a21, a22, a23, a24, a25, a26, a27, a28, a29, a30, a31, a32, a33, a34, a35, a36, a37] (9 : Int) = some a9 := rfl
    have g14 : getI [a0, a1, a2, a3, a4, a5, a6, a7, a8, a9, a10, a11, a12, a13, a14, a15, a16, a17, a18, a19, a20, a21, a22, a23, a24, a25, a26, a27, a28, a29, a30, a31, a32, a33, a34, a35, a36, a37] (14 : Int) = some a14 := rfl
    have g19 : getI [a0, a1, a2, a3, a4, a5, a6, a7, a8, a9, a10, a11, a12, a13, a14, a15, a16, a17, a18, a19, a20, a21, a22, a23, a24, a25, a26, a27, a28, a29, a30, a31, a32, a33, a34, a35, a36, a37] (19 : Int) = some a19 := rfl
    have g24 : getI [a0, a1, a2, a3, a4, a5, a6, a7, a8, a9, a10, a11, a12, a13, a14, a15, a16, a17, a18, a19, a20, a21, a22, a23, a24, a25, a26, a27, a28, a29, a30, a31, a32, a33, a34, a35, a36, a37] (24 : Int) = some a24 := rfl
    have t1 : subI [a0, a1, a2, a3, a4, a5, a6, a7, a8, a9, a10, a11, a12, a13, a14, a15, a16, a17, a18, a19, a20, a21, a22, a23, a24, a25, a26, a27, a28, a29, a30, a31, a32, a33, a34, a35, a36, a37] (1 : Int) (9 : Int) = some [a1, a2, a3, a4, a5, a6, a7, a8] := rfl
    have t2 : subI [a0, a1, a2, a3, a4, a5, a6, a7, a8, a9, a10, a11, a12, a13, a14, a15, a16, a17, a18, a19, a20, a21, a22, a23, a24, a25, a26, a27, a28, a29, a30, a31, a32, a33, a34, a35, a36, a37] (10 : Int) (14 : Int) = some [a10, a11, a12, a13] := rfl
    have t3 : subI [a0, a1, a2, a3, a4, a5, a6, a7, a8, a9, a10, a11, a12, a13, a14, a15, a16, a17, a18, a19, a20, a21, a22, a23, a24, a25, a26, a27, a28, a29, a30, a31, a32, a33, a34, a35, a36, a37] (15 : Int) (19 : Int) = some [a15, a16, a17, a18] := rfl
    have t4 : subI [a0, a1, a2, a3, a4, a5, a6, a7, a8, a9, a10, a11, a12, a13, a14, a15, a16, a17, a18, a19, a20, a21, a22, a23, a24, a25, a26, a27, a28, a29, a30, a31, a32, a33, a34, a35, a36, a37] (20 : Int) (24 : Int) = some [a20, a21, a22, a23] := rfl
    have t5 : subI [a0, a1, a2, a3, a4, a5, a6, a7, a8, a9, a10, a11, a12, a13, a14, a15, a16, a17, a18, a19, a20, a21, a22, a23, a24, a25, a26, a27, a28, a29, a30, a31, a32, a33, a34, a35, a36, a37] (25 : Int) (37 : Int) = some [a25, a26, a27, a28, a29, a30, a31, a32, a33, a34, a35, a36] := rfl
    have hdg : digs [a0, a1, a2, a3, a4, a5, a6, a7, a8, a9, a10, a11, a12, a13, a14, a15, a16, a17, a18, a19, a20, a21, a22, a23, a24, a25, a26, a27, a28, a29, a30, a31, a32, a33, a34, a35, a36, a37] = (((([a1, a2, a3, a4, a5, a6, a7, a8] ++ [a10, a11, a12, a13]) ++ [a15, a16, a17, a18]) ++ [a20, a21, a22, a23]) ++ [a25, a26, a27, a28, a29, a30, a31, a32, a33, a34, a35, a36]) := rfl
    have hid : idR [a0, a1, a2, a3, a4, a5, a6, a7, a8, a9, a10, a11, a12, a13, a14, a15, a16, a17, a18, a19, a20, a21, a22, a23, a24, a25, a26, a27, a28, a29, a30, a31, a32, a33, a34, a35, a36, a37] = if (a0 = 123 ∧ a9 = 45 ∧ a14 = 45 ∧ a19 = 45 ∧ a24 = 45 ∧ a37 = 125) ∧ (unhexL (((([a1, a2, a3, a4, a5, a6, a7, a8] ++ [a10, a11, a12, a13]) ++ [a15, a16, a17, a18]) ++ [a20, a21, a22, a23]) ++ [a25, a26, a27, a28, a29, a30, a31, a32, a33, a34, a35, a36])).isSome = true then ((toArr 16 (unhexR (((([a1, a2, a3, a4, a5, a6, a7, a8] ++ [a10, a11, a12, a13]) ++ [a15, a16, a17, a18]) ++ [a20, a21, a22, a23]) ++ [a25, a26, a27, a28, a29, a30, a31, a32, a33, a34, a35, a36]))).getD zA, 0) else (zA, 3) := by
      unfold idR
      rw [hdg]
      have : idC [a0, a1, a2, a3, a4, a5, a6, a7, a8, a9, a10, a11, a12, a13, a14, a15, a16, a17, a18, a19, a20, a21, a22, a23, a24, a25, a26, a27, a28, a29, a30, a31, a32, a33, a34, a35, a36, a37] ↔ ((a0 = 123 ∧ a9 = 45 ∧ a14 = 45 ∧ a19 = 45 ∧ a24 = 45 ∧ a37 = 125) ∧ (unhexL (((([a1, a2, a3, a4, a5, a6, a7, a8] ++ [a10, a11, a12, a13]) ++ [a15, a16, a17, a18]) ++ [a20, a21, a22, a23]) ++ [a25, a26, a27, a28, a29, a30, a31, a32, a33, a34, a35, a36])).isSome = true) := by
        show (_ ∧ a0 = 123 ∧ a37 = 125 ∧ a9 = 45 ∧ a14 = 45 ∧ a19 = 45 ∧ a24 = 45 ∧ _) ↔ _
        rw [hdg]
        exact ⟨fun ⟨_, b, c, d, e, f, g, i⟩ => ⟨⟨b, d, e, f, g, c⟩, i⟩, fun ⟨⟨b, d, e, f, g, c⟩, i⟩ => ⟨rfl, b, c, d, e, f, g, i⟩⟩
      simp only [this]
    rw [hid]
    unfold ref15_Id
    rw [decide_eq_true c0, g0, g37, g9, g14, g19, g24, t1, t2, t3, t4, t5]
    simp only [Option.bind_some, Bool.not_true, cond_false]
    have hdl : ((((([a1, a2, a3, a4, a5, a6, a7, a8] ++ [a10, a11, a12, a13]) ++ [a15, a16, a17, a18]) ++ [a20, a21, a22, a23]) ++ [a25, a26, a27, a28, a29, a30, a31, a32, a33, a34, a35, a36]) : List UInt8).length = 32 := rfl
    have m1 := M (List.length [a1, a2, a3, a4, a5, a6, a7, a8] + List.length [a10, a11, a12, a13]) (by simp)
    have m2 := M (List.length ([a1, a2, a3, a4, a5, a6, a7, a8] ++ [a10, a11, a12, a13]) + List.length [a15, a16, a17, a18]) (by simp)
    have m3 := M (List.length (([a1, a2, a3, a4, a5, a6, a7, a8] ++ [a10, a11, a12, a13]) ++ [a15, a16, a17, a18]) + List.length [a20, a21, a22, a23]) (by simp)
    have m4 := M (List.length ((([a1, a2, a3, a4, a5, a6, a7, a8] ++ [a10, a11, a12, a13]) ++ [a15, a16, a17, a18]) ++ [a20, a21, a22, a23]) + List.length [a25, a26, a27, a28, a29, a30, a31, a32, a33, a34, a35, a36]) (by simp)
    have m5 : decide ((List.length (((([a1, a2, a3, a4, a5, a6, a7, a8] ++ [a10, a11, a12, a13]) ++ [a15, a16, a17, a18]) ++ [a20, a21, a22, a23]) ++ [a25, a26, a27, a28, a29, a30, a31, a32, a33, a34, a35, a36])) ≤ (1000000 : Nat)) = true := rfl
    rw [m1, m2, m3, m4, m5]
    simp only [cond_true]
    have e123 := fun x => u8_eq x 123
    have e45 := fun x => u8_eq x 45
    have e125 := fun x => u8_eq x 125
    generalize ((((([a1, a2, a3, a4, a5, a6, a7, a8] ++ [a10, a11, a12, a13]) ++ [a15, a16, a17, a18]) ++ [a20, a21, a22, a23]) ++ [a25, a26, a27, a28, a29, a30, a31, a32, a33, a34, a35, a36]) : List UInt8) = DD at hdl ⊢
    have no : ¬ (a0 = 123 ∧ a9 = 45 ∧ a14 = 45 ∧ a19 = 45 ∧ a24 = 45 ∧ a37 = 125) → (if (a0 = 123 ∧ a9 = 45 ∧ a14 = 45 ∧ a19 = 45 ∧ a24 = 45 ∧ a37 = 125) ∧ (unhexL DD).isSome = true then (((toArr 16 (unhexR DD)).getD zA, 0) : Arr Int 16 × Int) else (zA, 3)) = (zA, 3) := fun hn => if_neg (fun hx => hn hx.1)
    by_cases h0 : a0 = 123
    rotate_left
    · rw [no (fun hx => h0 hx.1)]
      have q := decide_eq_false (fun hc => h0 ((e123 a0).1 hc))
      simp only [show (((123 : UInt8).toNat : Nat) : Int) = (123 : Int) from rfl] at q
      simp only [q, Bool.not_false, cond_true, cond_false, Option.bind_some]
      rfl
    have q0 := decide_eq_true ((e123 a0).2 h0)
    simp only [show (((123 : UInt8).toNat : Nat) : Int) = (123 : Int) from rfl] at q0
    simp only [q0, Bool.not_true, cond_true, cond_false, Option.bind_some]
    by_cases h37 : a37 = 125
    rotate_left
    · rw [no (fun hx => h37 hx.2.2.2.2.2)]
      have q := decide_eq_false (fun hc => h37 ((e125 a37).1 hc))
      simp only [show (((125 : UInt8).toNat : Nat) : Int) = (125 : Int) from rfl] at q
      simp only [q, Bool.not_false, cond_true, cond_false, Option.bind_some]
      rfl
    have q37 := decide_eq_true ((e125 a37).2 h37)
    simp only [show (((125 : UInt8).toNat : Nat) : Int) = (125 : Int) from rfl] at q37
    simp only [q37, Bool.not_true, cond_true, cond_false, Option.bind_some]
    by_cases h9 : a9 = 45
    rotate_left
    · rw [no (fun hx => h9 hx.2.1)]
      have q := decide_eq_false (fun hc => h9 ((e45 a9).1 hc))
      simp only [show (((45 : UInt8).toNat : Nat) : Int) = (45 : Int) from rfl] at q
      simp only [q, Bool.not_false, cond_true, cond_false, Option.bind_some]
      rfl
    have q9 := decide_eq_true ((e45 a9).2 h9)
    simp only [show (((45 : UInt8).toNat : Nat) : Int) = (45 : Int) from rfl] at q9
    simp only [q9, Bool.not_true, cond_true, cond_false, Option.bind_some]
    by_cases h14 : a14 = 45
    rotate_left
    · rw [no (fun hx => h14 hx.2.2.1)]
      have q := decide_eq_false (fun hc => h14 ((e45 a14).1 hc))
      simp only [show (((45 : UInt8).toNat : Nat) : Int) = (45 : Int) from rfl] at q
      simp only [q, Bool.not_false, cond_true, cond_false, Option.bind_some]
      rfl
    have q14 := decide_eq_true ((e45 a14).2 h14)
    simp only [show (((45 : UInt8).toNat : Nat) : Int) = (45 : Int) from rfl] at q14
    simp only [q14, Bool.not_true, cond_true, cond_false, Option.bind_some]
    by_cases h19 : a19 = 45
    rotate_left
    · rw [no (fun hx => h19 hx.2.2.2.1)]
      have q := decide_eq_false (fun hc => h19 ((e45 a19).1 hc))
      simp only [show (((45 : UInt8).toNat : Nat) : Int) = (45 : Int) from rfl] at q
      simp only [q, Bool.not_false, cond_true, cond_false, Option.bind_some]
      rfl
    have q19 := decide_eq_true ((e45 a19).2 h19)
    simp only [show (((45 : UInt8).toNat : Nat) : Int) = (45 : Int) from rfl] at q19
    simp only [q19, Bool.not_true, cond_true, cond_false, Option.bind_some]
    by_cases h24 : a24 = 45
    rotate_left
    · rw [no (fun hx => h24 hx.2.2.2.2.1)]
      have q := decide_eq_false (fun hc => h24 ((e45 a24).1 hc))
      simp only [show (((45 : UInt8).toNat : Nat) : Int) = (45 : Int) from rfl] at q
      simp only [q, Bool.not_false, cond_true, cond_false, Option.bind_some]
      rfl
    have q24 := decide_eq_true ((e45 a24).2 h24)
    simp only [show (((45 : UInt8).toNat : Nat) : Int) = (45 : Int) from rfl] at q24
    simp only [q24, Bool.not_true, cond_true, cond_false, Option.bind_some]
    cases hu : unhexL DD with
    | none =>
      have e : unhexE DD = 3 := by unfold unhexE; rw [hu]; rfl
      rw [e]
      simp
      rfl
    | some bs =>
      obtain ⟨g1, g2⟩ := unhex_len _ _ hu
      have e : unhexE DD = 0 := by unfold unhexE; rw [hu]; rfl
      have e2 : unhexR DD = ofB bs := by unfold unhexR; rw [hu]; rfl
      have hbs : bs.length = 15 + 1 := by omega
      rw [e, e2, if_pos ⟨⟨h0, h9, h14, h19, h24, h37⟩, rfl⟩]
      clear e e2 g1 g2 hu
      have j0 := hbs
      obtain ⟨x0, b1, rfl, j1⟩ := ex_cons j0
      obtain ⟨x1, b2, rfl, j2⟩ := ex_cons j1
      obtain ⟨x2, b3, rfl, j3⟩ := ex_cons j2
      obtain ⟨x3, b4, rfl, j4⟩ := ex_cons j3
      obtain ⟨x4, b5, rfl, j5⟩ := ex_cons j4
      obtain ⟨x5, b6, rfl, j6⟩ := ex_cons j5
      obtain ⟨x6, b7, rfl, j7⟩ := ex_cons j6
      obtain ⟨x7, b8, rfl, j8⟩ := ex_cons j7
      obtain ⟨x8, b9, rfl, j9⟩ := ex_cons j8
      obtain ⟨x9, b10, rfl, j10⟩ := ex_cons j9
      obtain ⟨x10, b11, rfl, j11⟩ := ex_cons j10
      obtain ⟨x11, b12, rfl, j12⟩ := ex_cons j11
      obtain ⟨x12, b13, rfl, j13⟩ := ex_cons j12
      obtain ⟨x13, b14, rfl, j14⟩ := ex_cons j13
      obtain ⟨x14, b15, rfl, j15⟩ := ex_cons j14
      obtain ⟨x15, b16, rfl, j16⟩ := ex_cons j15
      obtain rfl : b16 = [] := List.eq_nil_of_length_eq_zero j16
      rw [decide_eq_true (rfl : (0 : Int) = 0), Bool.not_true, cond_false]
      refine (congrArg (fun o => Option.bind o _) (loop16 x0 x1 x2 x3 x4 x5 x6 x7 x8 x9 x10 x11 x12 x13 x14 x15)).trans ?_
      rfl
  · have c0 : ¬ ((((s.length : Nat)) : Int) = 38) := by omega
    unfold ref15_Id
    rw [decide_eq_false c0, Bool.not_false, cond_true]
    unfold idR
    rw [if_neg (fun hx => h hx.1)]
    rfl
end Go.Proofs.YtfaocnboildjbaaDoor
/-
  Layer 15, on plain data: a request's host, its first line's parts, its fields. Parsed.
-/
namespace Go.Proofs.YtfaocnboildjbaaDoor
set_option maxRecDepth 100000
open Go.RowKit
set_option linter.unusedVariables false
set_option linter.unusedSimpArgs false
set_option maxRecDepth 100000
set_option maxHeartbeats 1000000

/-! ### Hosts -/
def hostC (b : UInt8) : Bool := decide (33 ≤ b.toNat ∧ b.toNat ≤ 126)
def hostB (s : List UInt8) : Bool := s.all hostC && decide (1 ≤ s.length ∧ s.length ≤ 255)
theorem getI_ofB (s : List UInt8) (p : Nat) (h : p < s.length) : getI (ofB s) (p : Int) = some (((s[p].toNat : Nat)) : Int) := by
  rw [getI_lt (ofB s) p (by rw [ofB_length]; exact h)]
  simp [ofB]
theorem phost_loop (N : Nat) (s : List UInt8) (hb : s.length < 1000000) : ∀ (n p : Nat), p ≤ s.length → s.length - p < n → gl (fun X c => httpq_isHost_L2 N X c.1.1 c.1.2.1 c.1.2.2.1 c.1.2.2.2.1) n ((s, (ofB s, (((s.length : Nat) : Int), ((p : Int), ())))), ()) = some (if (s.drop p).all hostC = true then .inr ((s, ()), ()) else .inl ((false, ()), ()))
  | 0, p, _, h => by omega
  | n + 1, p, hp, h => by
    rw [gl_succ]
    show httpq_isHost_L2 N _ s (ofB s) ((s.length : Nat) : Int) (p : Int) = _
    rcases Nat.lt_or_ge p s.length with hlt | hge
    · have c1 : (p : Int) < ((s.length : Nat) : Int) := by omega
      have e3 : Go.IntKind.wrap .i64 ((p : Int) + 1) = ((p + 1 : Nat) : Int) := by rw [wrap64 (by omega) (by omega)]; omega
      rw [List.drop_eq_getElem_cons hlt, List.all_cons]
      have g := getI_ofB s p hlt
      cases hc : hostC s[p] with
      | true =>
        have hcc : 33 ≤ (s[p]).toNat ∧ (s[p]).toNat ≤ 126 := of_decide_eq_true hc
        have h1 : ¬ ((((s[p]).toNat : Nat) : Int) < 33) := by omega
        have h2 : ¬ ((126 : Int) < (((s[p]).toNat : Nat) : Int)) := by omega
        have key : ∀ X, httpq_isHost_L2 N X s (ofB s) ((s.length : Nat) : Int) (p : Int) = X ((s, (ofB s, (((s.length : Nat) : Int), (((p + 1 : Nat) : Int), ())))), ()) := fun X => by
          simp only [httpq_isHost_L2, decide_eq_true c1, cond_true, g, Option.bind_some, decide_eq_false h1, decide_eq_false h2, cond_false, e3]
        rw [key, Bool.true_and]
        exact phost_loop N s hb n (p + 1) (by omega) (by omega)
      | false =>
        have hcc : ¬ (33 ≤ (s[p]).toNat ∧ (s[p]).toNat ≤ 126) := of_decide_eq_false hc
        rw [Bool.false_and, if_neg (by simp)]
        by_cases h1 : (((s[p]).toNat : Nat) : Int) < 33
        · simp only [httpq_isHost_L2, decide_eq_true c1, cond_true, g, Option.bind_some, decide_eq_true h1, cond_false]
        · have h2 : (126 : Int) < (((s[p]).toNat : Nat) : Int) := by omega
          simp only [httpq_isHost_L2, decide_eq_true c1, cond_true, g, Option.bind_some, decide_eq_false h1, decide_eq_true h2, cond_false]
    · have c1 : ¬ ((p : Int) < ((s.length : Nat) : Int)) := by omega
      rw [List.drop_of_length_le hge]
      simp only [httpq_isHost_L2, decide_eq_false c1, cond_false, List.all_nil, if_true]
theorem rhost_loop (N : Nat) (s : List UInt8) (hb : s.length < 1000000) : ∀ (n p : Nat), p ≤ s.length → s.length - p < n → gl (fun X c => ref15_host_L2 N X c.1.1 c.1.2.1) n ((s, ((p : Int), ())), ()) = some (if (s.drop p).all hostC = true then .inr ((s, ()), ()) else .inl ((false, ()), ()))
  | 0, p, _, h => by omega
  | n + 1, p, hp, h => by
    rw [gl_succ]
    show ref15_host_L2 N _ s (p : Int) = _
    rcases Nat.lt_or_ge p s.length with hlt | hge
    · have c1 : (p : Int) < (((List.length s) : Nat) : Int) := by omega
      have e3 : Go.IntKind.wrap .i64 ((p : Int) + 1) = ((p + 1 : Nat) : Int) := by rw [wrap64 (by omega) (by omega)]; omega
      rw [List.drop_eq_getElem_cons hlt, List.all_cons]
      have g := getI_lt s p hlt
      cases hc : hostC s[p] with
      | true =>
        have hcc : 33 ≤ (s[p]).toNat ∧ (s[p]).toNat ≤ 126 := of_decide_eq_true hc
        have h1 : ¬ ((((s[p]).toNat : Nat) : Int) < 33) := by omega
        have h2 : ¬ ((126 : Int) < (((s[p]).toNat : Nat) : Int)) := by omega
        have key : ∀ X, ref15_host_L2 N X s (p : Int) = X ((s, (((p + 1 : Nat) : Int), ())), ()) := fun X => by
          simp only [ref15_host_L2, decide_eq_true c1, cond_true, g, Option.bind_some, decide_eq_false h1, decide_eq_false h2, cond_false, e3]
        rw [key, Bool.true_and]
        exact rhost_loop N s hb n (p + 1) (by omega) (by omega)
      | false =>
        have hcc : ¬ (33 ≤ (s[p]).toNat ∧ (s[p]).toNat ≤ 126) := of_decide_eq_false hc
        rw [Bool.false_and, if_neg (by simp)]
        by_cases h1 : (((s[p]).toNat : Nat) : Int) < 33
        · simp only [ref15_host_L2, decide_eq_true c1, cond_true, g, Option.bind_some, decide_eq_true h1, cond_false]
        · have h2 : (126 : Int) < (((s[p]).toNat : Nat) : Int) := by omega
          simp only [ref15_host_L2, decide_eq_true c1, cond_true, g, Option.bind_some, decide_eq_false h1, decide_eq_true h2, cond_false]
    · have c1 : ¬ ((p : Int) < (((List.length s) : Nat) : Int)) := by omega
      rw [List.drop_of_length_le hge]
      simp only [ref15_host_L2, decide_eq_false c1, cond_false, List.all_nil, if_true]
theorem host_ok (s : List UInt8) (h : s.length ≤ 100000) : httpq_isHost 200000 s = some (hostB s) := by
  unfold httpq_isHost httpq_isHost_L2_R hostB
  have r : roomB (List.length s) 1 = true := roomB_of (by have := big_len; omega) (by omega)
  have := phost_loop 200000 s (by omega) 200000 0 (Nat.zero_le _) (by omega)
  rw [List.drop_zero] at this
  rw [r, cond_true, ofB_length, show ((0 : Int)) = ((0 : Nat) : Int) from rfl, this, Option.bind_some]
  cases hc : s.all hostC with
  | false => rfl
  | true =>
    simp only [if_true, Sum.elim_inr, Bool.true_and]
    match s with
    | [] => rfl
    | b :: t =>
      have hd : decide ((b :: t) = ([] : List UInt8)) = false := rfl
      simp only [hd, Bool.not_false, cond_true, Option.bind_some]
      by_cases h2 : (b :: t).length ≤ 255
      · have c2 : (((List.length (b :: t)) : Nat) : Int) ≤ 255 := by omega
        rw [decide_eq_true c2, decide_eq_true ⟨by simp, h2⟩]
      · have c2 : ¬ ((((List.length (b :: t)) : Nat) : Int) ≤ 255) := by omega
        rw [decide_eq_false c2, decide_eq_false (fun hx => h2 hx.2)]
theorem rhost_ok (s : List UInt8) (h : s.length ≤ 100000) : ref15_host 200000 s = some (hostB s) := by
  unfold ref15_host ref15_host_L2_R hostB
  have := rhost_loop 200000 s (by omega) 200000 0 (Nat.zero_le _) (by omega)
  rw [List.drop_zero] at this
  rw [show ((0 : Int)) = ((0 : Nat) : Int) from rfl, this, Option.bind_some]
  cases hc : s.all hostC with
  | false => rfl
  | true =>
    simp only [if_true, Sum.elim_inr, Bool.true_and]
    by_cases h1 : 1 ≤ s.length
    · have c1 : (1 : Int) ≤ (((List.length s) : Nat) : Int) := by omega
      by_cases h2 : s.length ≤ 255
      · have c2 : (((List.length s) : Nat) : Int) ≤ 255 := by omega
        simp only [decide_eq_true c1, decide_eq_true c2, cond_true, Option.bind_some, decide_eq_true (And.intro h1 h2)]
      · have c2 : ¬ ((((List.length s) : Nat) : Int) ≤ 255) := by omega
        simp only [decide_eq_true c1, decide_eq_false c2, cond_true, cond_false, Option.bind_some, decide_eq_false (fun hx : 1 ≤ s.length ∧ s.length ≤ 255 => h2 hx.2)]
    · have c1 : ¬ ((1 : Int) ≤ (((List.length s) : Nat) : Int)) := by omega
      simp only [decide_eq_false c1, cond_false, Option.bind_some, decide_eq_false (fun hx : 1 ≤ s.length ∧ s.length ≤ 255 => h1 hx.1)]
/-! ### Parts -/
def splitA : List UInt8 → List UInt8 → List (List UInt8)
  | cur, [] => [cur]
  | cur, c :: t => if c = 32 then cur :: splitA [] t else splitA (cur ++ [c]) t
def nonE (l : List (List UInt8)) : Bool := l.all (fun p => decide (p ≠ []))
theorem ix_cons (x : UInt8) (t : List UInt8) (c : UInt8) : ix (x :: t) c = if x = c then some 0 else (ix t c).map (· + 1) := by
  unfold ix
  rw [List.findIdx?_cons]
  by_cases h : x = c
  · subst h; simp
  · rw [if_neg h, show (x == c) = false by simpa using h]; rfl
theorem split_ix : ∀ (s cur : List UInt8), splitA cur s = match ix s 32 with | none => [cur ++ s] | some i => (cur ++ s.take i) :: splitA [] (s.drop (i + 1))
  | [], cur => by simp [splitA, ix]
  | c :: t, cur => by
    rw [splitA, ix_cons]
    by_cases h : c = 32
    · rw [if_pos h, if_pos h]; simp
    · rw [if_neg h, if_neg h, split_ix t (cur ++ [c])]
      cases ix t 32 with
      | none => simp
      | some i => simp
theorem split_len : ∀ (s cur : List UInt8), (splitA cur s).length ≤ s.length + 1
  | [], cur => by simp [splitA]
  | c :: t, cur => by
    unfold splitA
    split
    · have := split_len t []; simp; omega
    · have := split_len t (cur ++ [c]); simp; omega
theorem split_parts : ∀ (s cur : List UInt8), ∀ p ∈ splitA cur s, p.length ≤ cur.length + s.length
  | [], cur, p, hp => by simp only [splitA, List.mem_singleton] at hp; subst hp; simp
  | c :: t, cur, p, hp => by
    unfold splitA at hp
    split at hp
    · rcases List.mem_cons.1 hp with h | h
      · subst h; omega
      · have := split_parts t [] p h; simp at this ⊢; omega
    · have := split_parts t (cur ++ [c]) p hp; simp at this ⊢; omega
theorem parts_loop (N : Nat) : ∀ (n : Nat) (line : List UInt8) (acc : List (List UInt8)), line.length < n → line.length + acc.length < 100000 →
    gl (fun X c => httpq_parts_L2 N X c.1.1 c.2.1) n ((line, ()), (acc, ())) = some (if nonE (splitA [] line) = true then .inr ((), (acc ++ splitA [] line, ())) else .inl (([], ()), ()))
  | 0, line, acc, h, _ => by omega
  | n + 1, line, acc, h, hb => by
    rw [gl_succ]
    show httpq_parts_L2 N _ line acc = _
    have bl := big_len
    by_cases h1 : line = [32]
    · subst h1
      have hd : dropI ([32] : List UInt8) (Go.IntKind.wrap .i64 ((0 : Int) + (((List.length ([32] : List UInt8)) : Nat) : Int))) = some [] := by decide +kernel
      have hn : nonE (splitA [] [32]) = false := by decide +kernel
      rw [hn, if_neg (by simp)]
      simp only [httpq_parts_L2, decide_true, cond_true, cond_false, hd, Option.bind_some]
    · have hne : ¬ (([32] : List UInt8) = line) := fun h => h1 h.symm
      have h32 : idxB line ((((32 : UInt8).toNat : Nat)) : Int) = (match ix line 32 with | some k => ((k : Nat) : Int) | none => -1) := idx_eq _ 32
      have hs := split_ix line []
      cases hix : ix line 32 with
      | none =>
        rw [hix] at h32 hs
        simp only [List.nil_append] at h32 hs
        have c0 : ¬ ((0 : Int) ≤ -1) := by omega
        rw [hs]
        by_cases h2 : line = []
        · have hn : nonE [line] = false := by rw [h2]; rfl
          have hd : decide (line = ([] : List UInt8)) = true := decide_eq_true h2
          rw [hn, if_neg (by simp)]
          simp only [httpq_parts_L2, decide_eq_false hne, cond_true, cond_false, Option.bind_some, h32, decide_eq_false c0, hd]
        · have hn : nonE [line] = true := by unfold nonE; simp [h2]
          have hd : decide (line = ([] : List UInt8)) = false := decide_eq_false h2
          have hrm : roomB ((List.length acc) + (List.length ([line] : List (List UInt8)))) 16 = true := roomB_of (by simp only [List.length_singleton]; omega) (by simp only [List.length_singleton]; omega)
          rw [hn, if_pos rfl]
          simp only [httpq_parts_L2, decide_eq_false hne, cond_true, cond_false, Option.bind_some, h32, decide_eq_false c0, hd, hrm]
      | some k =>
        rw [hix] at h32 hs
        simp only [List.nil_append] at h32 hs
        obtain ⟨hk, _, _⟩ := ix_some hix
        have c0 : (0 : Int) ≤ ((k : Nat) : Int) := by omega
        have t1 : takeI line ((k : Nat) : Int) = some (line.take k) := takeI_nat line rfl (by omega)
        have e5 : Go.IntKind.wrap .i64 (((k : Nat) : Int) + (((List.length ([32] : List UInt8)) : Nat) : Int)) = ((k + 1 : Nat) : Int) := by simp only [List.length_singleton]; rw [wrap64 (by omega) (by omega)]; omega
        have t2 : dropI line ((k + 1 : Nat) : Int) = some (line.drop (k + 1)) := dropI_nat line rfl (by omega)
        rw [hs]
        by_cases h2 : line.take k = []
        · have hn : nonE (line.take k :: splitA [] (line.drop (k + 1))) = false := by unfold nonE; simp [h2]
          have hd : decide (line.take k = ([] : List UInt8)) = true := decide_eq_true h2
          rw [hn, if_neg (by simp)]
          simp only [httpq_parts_L2, decide_eq_false hne, cond_true, cond_false, Option.bind_some, h32, decide_eq_true c0, t1, e5, t2, hd]
        · have hd : decide (line.take k = ([] : List UInt8)) = false := decide_eq_false h2
          have hrm : roomB ((List.length acc) + (List.length ([line.take k] : List (List UInt8)))) 16 = true := roomB_of (by simp only [List.length_singleton]; omega) (by simp only [List.length_singleton]; omega)
          have hn : nonE (line.take k :: splitA [] (line.drop (k + 1))) = nonE (splitA [] (line.drop (k + 1))) := by unfold nonE; rw [List.all_cons, decide_eq_true h2, Bool.true_and]
          have key : ∀ X, httpq_parts_L2 N X line acc = X ((line.drop (k + 1), ()), (acc ++ [line.take k], ())) := fun X => by
            simp only [httpq_parts_L2, decide_eq_false hne, cond_true, cond_false, Option.bind_some, h32, decide_eq_true c0, t1, e5, t2, hd, hrm]
          rw [hn, key, parts_loop N n (line.drop (k + 1)) (acc ++ [line.take k]) (by simp; omega) (by simp; omega)]
          simp
def partsR (s : List UInt8) : List (List UInt8) := if nonE (splitA [] s) = true then splitA [] s else []
theorem parts_ok (s : List UInt8) (h : s.length < 90000) : httpq_parts 200000 s = some (partsR s) := by
  unfold httpq_parts httpq_parts_L2_R partsR
  rw [parts_loop 200000 200000 s [] (by omega) (by simp; omega), Option.bind_some]
  cases nonE (splitA [] s) <;> simp
theorem rparts_loop (N : Nat) (s : List UInt8) (hb : s.length < 90000) : ∀ (n i : Nat) (init : List (List UInt8)) (cur : List UInt8), i ≤ s.length → s.length - i < n → init.length ≤ i → cur.length ≤ i →
    gl (fun X c => ref15_parts_L3 N X c.1.1 c.1.2.1 c.2.1) n ((s, ((i : Int), ())), (init ++ [cur], ())) = some ((), (init ++ splitA cur (s.drop i), ()))
  | 0, i, init, cur, _, h, _, _ => by omega
  | n + 1, i, init, cur, hi, h, h1, h2 => by
    rw [gl_succ]
    show ref15_parts_L3 N _ s (i : Int) (init ++ [cur]) = _
    have bl := big_len
    rcases Nat.lt_or_ge i s.length with hlt | hge
    · have c1 : (i : Int) < (((List.length s) : Nat) : Int) := by omega
      have e3 : Go.IntKind.wrap .i64 ((i : Int) + 1) = ((i + 1 : Nat) : Int) := by rw [wrap64 (by omega) (by omega)]; omega
      have g := getI_lt s i hlt
      rw [List.drop_eq_getElem_cons hlt]
      unfold splitA
      by_cases hc : s[i] = 32
      · have q : (((s[i]).toNat : Nat) : Int) = 32 := (u8_eq _ 32).2 hc
        have hrm : roomB ((List.length (init ++ [cur])) + (List.length ([([] : List UInt8)] : List (List UInt8)))) 16 = true := roomB_of (by simp; omega) (by simp; omega)
        have key : ∀ X, ref15_parts_L3 N X s (i : Int) (init ++ [cur]) = X ((s, (((i + 1 : Nat) : Int), ())), ((init ++ [cur]) ++ [[]], ())) := fun X => by
          simp only [ref15_parts_L3, decide_eq_true c1, cond_true, g, Option.bind_some, decide_eq_true q, hrm, e3]
        rw [if_pos hc, key, rparts_loop N s hb n (i + 1) (init ++ [cur]) [] (by omega) (by omega) (by simp; omega) (by simp)]
        simp
      · have q : ¬ ((((s[i]).toNat : Nat) : Int) = 32) := fun hx => hc ((u8_eq _ 32).1 hx)
        have el : (List.length (init ++ [cur])) = init.length + 1 := by simp
        have e1 : Go.IntKind.wrap .i64 ((((List.length (init ++ [cur])) : Nat) : Int) - 1) = ((init.length : Nat) : Int) := by rw [el, wrap64 (by omega) (by omega)]; omega
        have c2 : (0 : Int) ≤ ((init.length : Nat) : Int) ∧ ((init.length : Nat) : Int) < (((List.length (init ++ [cur])) : Nat) : Int) := ⟨by omega, by rw [el]; omega⟩
        have g2 : (init ++ [cur])[init.length]? = some cur := by simp
        have t1 : subI s (i : Int) ((i + 1 : Nat) : Int) = some [s[i]] := by
          rw [subI_nat s (i := i) (j := i + 1) rfl rfl (by omega) (by omega), show i + 1 - i = 1 by omega, List.drop_eq_getElem_cons hlt]; rfl
        have c3 : (List.length cur) + (List.length ([s[i]] : List UInt8)) ≤ Go.maxLen := by simp; omega
        have st : (init ++ [cur]).set init.length (cur ++ [s[i]]) = init ++ [cur ++ [s[i]]] := by simp
        have key : ∀ X, ref15_parts_L3 N X s (i : Int) (init ++ [cur]) = X ((s, (((i + 1 : Nat) : Int), ())), (init ++ [cur ++ [s[i]]], ())) := fun X => by
          simp only [ref15_parts_L3, decide_eq_true c1, cond_true, g, Option.bind_some, decide_eq_false q, cond_false, e1, decide_eq_true c2, Int.toNat_natCast, g2, e3, t1, decide_eq_true c3, st]
        rw [if_neg hc, key]
        exact rparts_loop N s hb n (i + 1) init (cur ++ [s[i]]) (by omega) (by omega) (by omega) (by simp; omega)
    · have c1 : ¬ ((i : Int) < (((List.length s) : Nat) : Int)) := by omega
      rw [List.drop_of_length_le hge]
      simp only [ref15_parts_L3, decide_eq_false c1, cond_false, splitA]
theorem rparts_ok (s : List UInt8) (h : s.length < 90000) : ref15_parts 200000 s = some (splitA [] s) := by
  unfold ref15_parts ref15_parts_L3_R
  have := rparts_loop 200000 s h 200000 0 [] [] (Nat.zero_le _) (by omega) (by simp) (by simp)
  rw [List.drop_zero] at this
  simp only [List.nil_append] at this
  refine (congrArg (fun o => Option.bind o _) this).trans ?_
  rfl
end Go.Proofs.YtfaocnboildjbaaDoor
/-
  Layer 15, on plain data: a request parsed; the law HttpqParses.
-/
namespace Go.Proofs.YtfaocnboildjbaaDoor
set_option maxRecDepth 100000
open Go.RowKit
set_option linter.unusedVariables false
set_option linter.unusedSimpArgs false
set_option maxRecDepth 100000
set_option maxHeartbeats 1000000

/-! ### How long values are -/
theorem trimB_len (s : List UInt8) : (trimB s).length ≤ s.length := by
  unfold trimB Go.Lib.trimS Go.Lib.trimLeftS Go.Lib.trimRightS
  refine Nat.le_trans (List.dropWhile_sublist _).length_le ?_
  rw [List.length_reverse]
  refine Nat.le_trans (List.dropWhile_sublist _).length_le ?_
  rw [List.length_reverse]
  exact Nat.le_refl _
theorem fieldOf_val {l : List UInt8} {f : List UInt8 × List UInt8} (h : fieldOf l = some f) : f.2.length ≤ l.length := by
  unfold fieldOf at h
  cases hi : ix l 58 with
  | none => rw [hi] at h; cases h
  | some i =>
    rw [hi] at h
    simp only at h
    split at h
    · injection h with h; subst h
      have := trimB_len (l.drop (i + 1))
      simp at this ⊢; omega
    · cases h
theorem allF_val : ∀ {l : List (List UInt8)} {m : List (List UInt8 × List UInt8)} {B : Nat}, allF l = some m → (∀ x ∈ l, x.length ≤ B) → ∀ f ∈ m, f.2.length ≤ B
  | [], m, B, h, _ => by simp only [allF, Option.some.injEq] at h; subst h; exact fun f hf => by cases hf
  | l :: r, m, B, h, hb => by
    unfold allF at h
    cases hf : fieldOf l with
    | none => rw [hf] at h; cases h
    | some f =>
      rw [hf] at h
      cases hr : allF r with
      | none => rw [hr] at h; cases h
      | some m' =>
        rw [hr] at h
        injection h with h
        subst h
        have h2 := allF_val hr (fun x hx => hb x (by simp [hx]))
        intro g hg
        rcases List.mem_cons.1 hg with rfl | hg
        · have h3 := fieldOf_val hf; have h4 := hb l (by simp); omega
        · exact h2 g hg
theorem fieldsR_val (l : List (List UInt8)) {B : Nat} (hb : ∀ x ∈ l, x.length ≤ B) : ∀ f ∈ (fieldsR l).1, f.2.length ≤ B := by
  unfold fieldsR
  split
  · exact fun f hf => by cases hf
  · cases hm : allF l with
    | none => exact fun f hf => by cases hf
    | some m => exact allF_val hm hb
theorem foldF_val (name : List UInt8) {B : Nat} : ∀ (l : List (List UInt8 × List UInt8)) (m : Nat) (v : List UInt8), (∀ f ∈ l, f.2.length ≤ B) → v.length ≤ B → (foldF name l m v).2.length ≤ B
  | [], m, v, _, h => h
  | f :: r, m, v, hb, h => by
    unfold foldF
    split
    · exact foldF_val name r _ _ (fun x hx => hb x (by simp [hx])) (hb f (by simp))
    · exact foldF_val name r _ _ (fun x hx => hb x (by simp [hx])) h
theorem findR_val (l : List (List UInt8 × List UInt8)) (name : List UInt8) {B : Nat} (hb : ∀ f ∈ l, f.2.length ≤ B) : (findR l name).1.length ≤ B := by
  unfold findR
  split
  · exact Nat.zero_le _
  · split
    · exact foldF_val name l 0 [] hb (Nat.zero_le _)
    · exact Nat.zero_le _
theorem findR_err (l : List (List UInt8 × List UInt8)) (name : List UInt8) : (findR l name).2 = 0 ∨ ((findR l name).2 = 6 ∧ (findR l name).1 = []) ∨ (findR l name).2 = 7 := by
  unfold findR
  split
  · exact .inr (.inl ⟨rfl, rfl⟩)
  · split
    · exact .inl rfl
    · exact .inr (.inr rfl)
/-! ### The first line -/
def metQ : List UInt8 := [83, 83, 84, 80, 95, 68, 85, 80, 76, 69, 88, 95, 80, 79, 83, 84]
def verQ : List UInt8 := [72, 84, 84, 80, 47, 49, 46, 49]
def pathQ : List UInt8 := [47, 115, 114, 97, 95, 123, 66, 65, 49, 57, 53, 57, 56, 48, 45, 67, 68, 52, 57, 45, 52, 53, 56, 98, 45, 57, 69, 50, 51, 45, 67, 56, 52, 69, 69, 48, 65, 68, 67, 68, 55, 53, 125, 47]
def hostQ : List UInt8 := [72, 111, 115, 116]
def clQ : List UInt8 := [67, 111, 110, 116, 101, 110, 116, 45, 76, 101, 110, 103, 116, 104]
def lenQ : List UInt8 := [49, 56, 52, 52, 54, 55, 52, 52, 48, 55, 51, 55, 48, 57, 53, 53, 49, 54, 49, 53]
def corQ : List UInt8 := [83, 83, 84, 80, 67, 79, 82, 82, 69, 76, 65, 84, 73, 79, 78, 73, 68]
theorem three {α : Type} {l : List α} (h : l.length = 3) : ∃ a b c, l = [a, b, c] := by
  match l, h with
  | [a, b, c], _ => exact ⟨a, b, c, rfl⟩
/-- What the parts of a first line tell. -/
def partQ (P : List (List UInt8)) : List UInt8 × Int := if P.length = 3 then (if P.getD 0 [] = metQ then (if P.getD 2 [] = verQ then (P.getD 1 [], 0) else ([], 15)) else ([], 9)) else ([], 3)
def firstQ (ls : List (List UInt8)) : List UInt8 × Int := match ls with
  | [] => ([], 3)
  | l :: _ => partQ (partsR l)
theorem firstq_ok (ls : List (List UInt8)) (hb : ∀ l ∈ ls, l.length < 90000) : httpq_first 200000 ls = some (firstQ ls) := by
  unfold httpq_first firstQ
  match ls with
  | [] => rfl
  | l :: r =>
    have c0 : ¬ ((((List.length (l :: r)) : Nat) : Int) = (0 : Int)) := by simp only [List.length_cons]; omega
    have g0 : getI (l :: r) (0 : Int) = some l := rfl
    rw [decide_eq_false c0, cond_false, g0, Option.bind_some, parts_ok l (hb l (by simp)), Option.bind_some]
    simp only
    generalize partsR l = P
    unfold partQ
    by_cases h3 : P.length = 3
    · obtain ⟨a, b, c, rfl⟩ := three h3
      have c3 : (((List.length [a, b, c]) : Nat) : Int) = 3 := rfl
      have e0 : getI [a, b, c] (0 : Int) = some a := rfl
      have e1 : getI [a, b, c] (1 : Int) = some b := rfl
      have e2 : getI [a, b, c] (2 : Int) = some c := rfl
      rw [decide_eq_true c3, Bool.not_true, cond_false, e0, e1, e2, if_pos h3]
      simp only [Option.bind_some]
      by_cases hm : a = metQ
      · rw [if_pos (show [a, b, c].getD 0 [] = metQ from hm), decide_eq_true (show a = [83, 83, 84, 80, 95, 68, 85, 80, 76, 69, 88, 95, 80, 79, 83, 84] from hm), Bool.not_true, cond_false]
        by_cases hv : c = verQ
        · rw [if_pos (show [a, b, c].getD 2 [] = verQ from hv), decide_eq_true (show c = [72, 84, 84, 80, 47, 49, 46, 49] from hv)]; rfl
        · rw [if_neg (show ¬ [a, b, c].getD 2 [] = verQ from hv), decide_eq_false (show ¬ c = [72, 84, 84, 80, 47, 49, 46, 49] from hv)]; rfl
      · rw [if_neg (show ¬ [a, b, c].getD 0 [] = metQ from hm), decide_eq_false (show ¬ a = [83, 83, 84, 80, 95, 68, 85, 80, 76, 69, 88, 95, 80, 79, 83, 84] from hm)]; rfl
    · have c3 : ¬ ((((List.length P) : Nat) : Int) = 3) := by omega
      rw [decide_eq_false c3, if_neg h3]; rfl
/-! ### What is asked -/
def askR (F : List (List UInt8 × List UInt8)) : (List UInt8 × List UInt8) × Int :=
  if (findR F hostQ).2 = 0 then (if hostB (findR F hostQ).1 = true then (if (findR F clQ).2 = 0 then (if (findR F clQ).1 = lenQ then
    (if (findR F corQ).2 = 6 then (((findR F hostQ).1, []), 0) else if (findR F corQ).2 = 0 then (if (idR (findR F corQ).1).2 = 0 then (((findR F hostQ).1, (findR F corQ).1), 0) else (([], []), (idR (findR F corQ).1).2)) else (([], []), (findR F corQ).2))
    else (([], []), 3)) else (([], []), (findR F clQ).2)) else (([], []), 3)) else (([], []), (findR F hostQ).2)
theorem ask_ok (F : List (List UInt8 × List UInt8)) (hl : F.length < 100000) (h1 : ∀ f ∈ F, f.1.length ≤ 5000) (h2 : ∀ f ∈ F, f.2.length ≤ 5000) : httpq_asked 200000 F = some (askR F) := by
  have b1 : ∀ x ∈ F, x.1.length ≤ 100000 := fun x hx => by have := h1 x hx; omega
  unfold httpq_asked askR
  rw [show ([72, 111, 115, 116] : List UInt8).toArray.toList = hostQ from rfl, show ([67, 111, 110, 116, 101, 110, 116, 45, 76, 101, 110, 103, 116, 104] : List UInt8).toArray.toList = clQ from rfl, show ([83, 83, 84, 80, 67, 79, 82, 82, 69, 76, 65, 84, 73, 79, 78, 73, 68] : List UInt8).toArray.toList = corQ from rfl]
  have f1 := find_ok (N := 200000) F hostQ hl (by omega) (by decide) b1
  have f2 := find_ok (N := 200000) F clQ hl (by omega) (by decide) b1
  have f3 := find_ok (N := 200000) F corQ hl (by omega) (by decide) b1
  have v1 := findR_val F hostQ h2
  have v3 := findR_val F corQ h2
  have e3 := findR_err F corQ
  rw [f1, f2, f3]
  generalize findR F hostQ = H at v1 ⊢
  generalize findR F clQ = C
  generalize findR F corQ = I at v3 e3 ⊢
  have hh := host_ok H.1 (by omega)
  have hi := id_ok I.1 (by omega)
  simp only [Option.bind_some, hh, hi]
  by_cases p1 : H.2 = 0
  · rw [decide_eq_true p1, if_pos p1, Bool.not_true, cond_false]
    cases p2 : hostB H.1 with
    | false => rfl
    | true =>
      rw [if_pos rfl, Bool.not_true, cond_false]
      by_cases p3 : C.2 = 0
      · rw [decide_eq_true p3, if_pos p3, Bool.not_true, cond_false]
        by_cases p4 : C.1 = lenQ
        · rw [decide_eq_true (show C.1 = [49, 56, 52, 52, 54, 55, 52, 52, 48, 55, 51, 55, 48, 57, 53, 53, 49, 54, 49, 53] from p4), if_pos p4, Bool.not_true, cond_false]
          by_cases p5 : I.2 = 6
          · rw [decide_eq_true p5, if_pos p5]; rfl
          · rw [decide_eq_false p5, if_neg p5, cond_false]
            by_cases p6 : I.2 = 0
            · rw [decide_eq_true p6, if_pos p6, cond_true]
              by_cases p7 : (idR I.1).2 = 0
              · rw [decide_eq_true p7, if_pos p7]; rfl
              · rw [decide_eq_false p7, if_neg p7]; rfl
            · rw [decide_eq_false p6, if_neg p6]; rfl
        · rw [decide_eq_false (show ¬ C.1 = [49, 56, 52, 52, 54, 55, 52, 52, 48, 55, 51, 55, 48, 57, 53, 53, 49, 54, 49, 53] from p4), if_neg p4]; rfl
      · rw [decide_eq_false p3, if_neg p3]; rfl
  · rw [decide_eq_false p1, if_neg p1]; rfl
def parse15 (b : List Int) : (List UInt8 × List UInt8) × (Int × Int) :=
  if (headR b).2.2 = 0 then (if (firstQ (headR b).1).2 = 0 then (if (fieldsR ((headR b).1.drop 1)).2 = 0 then (if (firstQ (headR b).1).1 = pathQ then
    (if (askR (fieldsR ((headR b).1.drop 1)).1).2 = 0 then ((askR (fieldsR ((headR b).1.drop 1)).1).1, ((headR b).2.1, 0)) else (([], []), (0, (askR (fieldsR ((headR b).1.drop 1)).1).2)))
    else (([], []), (0, 6))) else (([], []), (0, (fieldsR ((headR b).1.drop 1)).2))) else (([], []), (0, (firstQ (headR b).1).2))) else (([], []), (0, (headR b).2.2))
theorem firstQ_nil {ls : List (List UInt8)} (h : (firstQ ls).2 = 0) : 1 ≤ ls.length := by
  match ls, h with
  | [], h => exact absurd h (by decide)
  | l :: r, _ => simp
theorem qparse_ok (b : List Int) (ha : AllB b) (hb : b.length ≤ 5000) : httpq_Parse 200000 b = some (parse15 b) := by
  obtain ⟨q1, q2⟩ := headR_len b
  unfold httpq_Parse parse15
  rw [head_ok b ha (by omega)]
  generalize headR b = H at q1 q2 ⊢
  rw [Option.bind_some]
  by_cases h0 : H.2.2 = 0
  · rw [decide_eq_true h0, if_pos h0, Bool.not_true, cond_false, firstq_ok H.1 (fun l hl => by have := q2 l hl; omega), Option.bind_some]
    by_cases h1 : (firstQ H.1).2 = 0
    · have hl1 := firstQ_nil h1
      have d1 : dropI H.1 (1 : Int) = some (H.1.drop 1) := dropI_nat H.1 rfl hl1
      have hd : ∀ x ∈ H.1.drop 1, x.length < 100000 := fun x hx => by have := q2 x (List.mem_of_mem_drop hx); omega
      have hd5 : ∀ x ∈ H.1.drop 1, x.length ≤ 5000 := fun x hx => by have := q2 x (List.mem_of_mem_drop hx); omega
      obtain ⟨f1, f2⟩ := fieldsR_len (H.1.drop 1) (B := 5000) hd5
      have f3 := fieldsR_val (H.1.drop 1) (B := 5000) hd5
      rw [decide_eq_true h1, if_pos h1, Bool.not_true, cond_false, d1, Option.bind_some, fields_ok (by omega) _ hd, Option.bind_some]
      generalize fieldsR (H.1.drop 1) = F at f1 f2 f3 ⊢
      have fl : F.1.length ≤ 5000 := by simp at f1; omega
      by_cases h2 : F.2 = 0
      · rw [decide_eq_true h2, if_pos h2, Bool.not_true, cond_false]
        by_cases h3 : (firstQ H.1).1 = pathQ
        · rw [decide_eq_true (show (firstQ H.1).1 = [47, 115, 114, 97, 95, 123, 66, 65, 49, 57, 53, 57, 56, 48, 45, 67, 68, 52, 57, 45, 52, 53, 56, 98, 45, 57, 69, 50, 51, 45, 67, 56, 52, 69, 69, 48, 65, 68, 67, 68, 55, 53, 125, 47] from h3), if_pos h3, Bool.not_true, cond_false, ask_ok F.1 (by omega) f2 f3, Option.bind_some]
          by_cases h4 : (askR F.1).2 = 0
          · rw [decide_eq_true h4, if_pos h4]; rfl
          · rw [decide_eq_false h4, if_neg h4]; rfl
        · rw [decide_eq_false (show ¬ (firstQ H.1).1 = [47, 115, 114, 97, 95, 123, 66, 65, 49, 57, 53, 57, 56, 48, 45, 67, 68, 52, 57, 45, 52, 53, 56, 98, 45, 57, 69, 50, 51, 45, 67, 56, 52, 69, 69, 48, 65, 68, 67, 68, 55, 53, 125, 47] from h3), if_neg h3]; rfl
      · rw [decide_eq_false h2, if_neg h2]; rfl
    · rw [decide_eq_false h1, if_neg h1]; rfl
  · rw [decide_eq_false h0, if_neg h0]; rfl
theorem idR_err (s : List UInt8) : (idR s).2 = 0 ∨ (idR s).2 = 3 := by
  unfold idR
  split
  · exact .inl rfl
  · exact .inr rfl
set_option maxHeartbeats 4000000 in
theorem rqparse_ok (b : List Int) (ha : AllB b) (hb : b.length ≤ 5000) : ref15_Parse 200000 b = some (parse15 b) := by
  obtain ⟨q1, q2⟩ := headR_len b
  unfold ref15_Parse parse15
  rw [rhead_ok b ha (by omega)]
  generalize headR b = H at q1 q2 ⊢
  obtain ⟨ls, size, e⟩ := H
  rw [Option.bind_some]
  simp only at q1 q2 ⊢
  by_cases h0 : e = 0
  · rw [decide_eq_true h0, if_pos h0, Bool.not_true, cond_false]
    match ls, q1, q2 with
    | [], _, _ => rfl
    | l :: r, q1, q2 =>
      have hl : l.length ≤ 5000 := by have := q2 l (by simp); omega
      have c0 : ¬ ((((List.length (l :: r)) : Nat) : Int) = (0 : Int)) := by simp only [List.length_cons]; omega
      have g0 : getI (l :: r) (0 : Int) = some l := rfl
      have d1 : dropI (l :: r) (1 : Int) = some r := (dropI_nat (l :: r) (i := 1) rfl (by simp)).trans rfl
      have hd1 : (l :: r).drop 1 = r := rfl
      have hd : ∀ x ∈ r, x.length < 100000 := fun x hx => by have := q2 x (by simp [hx]); omega
      have hd5 : ∀ x ∈ r, x.length ≤ 5000 := fun x hx => by have := q2 x (by simp [hx]); omega
      obtain ⟨f1, f2⟩ := fieldsR_len r (B := 5000) hd5
      have f3 := fieldsR_val r (B := 5000) hd5
      have hfr := rfields_ok (N := 200000) (by omega) r hd
      rw [decide_eq_false c0, cond_false, g0, Option.bind_some, rparts_ok l (by omega), Option.bind_some, hd1, d1, Option.bind_some, hfr, Option.bind_some]
      generalize fieldsR r = F at f1 f2 f3 ⊢
      have fl : F.1.length ≤ 5000 := by simp only [List.length_cons] at q1; omega
      rw [show firstQ (l :: r) = partQ (partsR l) from rfl]
      obtain ⟨P, hP⟩ : ∃ P, P = splitA [] l := ⟨_, rfl⟩
      have hpr : partsR l = if nonE P = true then P else [] := by unfold partsR; rw [hP]
      rw [hpr, ← hP]
      clear hpr hP
      by_cases h3 : P.length = 3
      · obtain ⟨a, b', c, rfl⟩ := three h3
        have c3 : (((List.length [a, b', c]) : Nat) : Int) = 3 := rfl
        have e0 : getI [a, b', c] (0 : Int) = some a := rfl
        have e1 : getI [a, b', c] (1 : Int) = some b' := rfl
        have e2 : getI [a, b', c] (2 : Int) = some c := rfl
        rw [decide_eq_true c3]
        simp only [Bool.not_true, cond_false, e0, e1, e2, Option.bind_some]
        by_cases hne : nonE [a, b', c] = true
        · have hn : a ≠ [] ∧ b' ≠ [] ∧ c ≠ [] := by unfold nonE at hne; simpa using hne
          rw [if_pos hne]
          simp only [decide_eq_false hn.1, decide_eq_false hn.2.1, decide_eq_false hn.2.2, cond_false, Option.bind_some]
          have hpq : partQ [a, b', c] = if a = metQ then (if c = verQ then (b', 0) else ([], 15)) else ([], 9) := by unfold partQ; rw [if_pos h3]; rfl
          rw [hpq]
          by_cases hm : a = metQ
          · rw [if_pos hm, decide_eq_true (show a = [83, 83, 84, 80, 95, 68, 85, 80, 76, 69, 88, 95, 80, 79, 83, 84] from hm), Bool.not_true, cond_false]
            by_cases hv : c = verQ
            · rw [if_pos hv, decide_eq_true (show c = [72, 84, 84, 80, 47, 49, 46, 49] from hv), Bool.not_true, cond_false]
              simp only [if_true]
              by_cases h2 : F.2 = 0
              · rw [decide_eq_true h2, if_pos h2, Bool.not_true, cond_false]
                by_cases hp : b' = pathQ
                · rw [decide_eq_true (show b' = [47, 115, 114, 97, 95, 123, 66, 65, 49, 57, 53, 57, 56, 48, 45, 67, 68, 52, 57, 45, 52, 53, 56, 98, 45, 57, 69, 50, 51, 45, 67, 56, 52, 69, 69, 48, 65, 68, 67, 68, 55, 53, 125, 47] from hp), if_pos hp, Bool.not_true, cond_false]
                  have b1 : ∀ x ∈ F.1, x.1.length ≤ 100000 := fun x hx => by have := f2 x hx; omega
                  have k1 : ref14_Find 200000 F.1 [72, 111, 115, 116] = some (findR F.1 hostQ) := rfind_ok (N := 200000) F.1 hostQ (by omega) (by omega) (by decide) b1
                  have k2 : ref14_Find 200000 F.1 [67, 111, 110, 116, 101, 110, 116, 45, 76, 101, 110, 103, 116, 104] = some (findR F.1 clQ) := rfind_ok (N := 200000) F.1 clQ (by omega) (by omega) (by decide) b1
                  have k3 : ref14_Find 200000 F.1 [83, 83, 84, 80, 67, 79, 82, 82, 69, 76, 65, 84, 73, 79, 78, 73, 68] = some (findR F.1 corQ) := rfind_ok (N := 200000) F.1 corQ (by omega) (by omega) (by decide) b1
                  have v1 := findR_val F.1 hostQ f3
                  have v3 := findR_val F.1 corQ f3
                  have er3 := findR_err F.1 corQ
                  unfold askR
                  rw [k1, k2, k3]
                  generalize findR F.1 hostQ = H at v1 ⊢
                  generalize findR F.1 clQ = C
                  generalize findR F.1 corQ = I at v3 er3 ⊢
                  have hh := rhost_ok H.1 (by omega)
                  have hi := rid_ok I.1 (by omega)
                  have ie := idR_err I.1
                  simp only [Option.bind_some, hh, hi]
                  by_cases p1 : H.2 = 0
                  · rw [decide_eq_true p1, if_pos p1, Bool.not_true, cond_false]
                    cases p2 : hostB H.1 with
                    | false => rfl
                    | true =>
                      rw [if_pos rfl, Bool.not_true, cond_false]
                      by_cases p3 : C.2 = 0
                      · rw [decide_eq_true p3, if_pos p3, Bool.not_true, cond_false]
                        by_cases p4 : C.1 = lenQ
                        · rw [decide_eq_true (show C.1 = [49, 56, 52, 52, 54, 55, 52, 52, 48, 55, 51, 55, 48, 57, 53, 53, 49, 54, 49, 53] from p4), if_pos p4, Bool.not_true, cond_false]
                          rcases er3 with z | ⟨z, z2⟩ | z
                          · have n7 : ¬ (I.2 = 7) := by omega
                            have n6 : ¬ (I.2 = 6) := by omega
                            simp only [decide_eq_false n7, decide_eq_true z, cond_true, cond_false, if_neg n6, if_pos z]
                            by_cases p7 : (idR I.1).2 = 0
                            · simp only [decide_eq_true p7, if_pos p7, Bool.not_true, cond_false, if_true]
                              rfl
                            · have p8 : (idR I.1).2 = 3 := by omega
                              simp only [decide_eq_false p7, if_neg p7, Bool.not_false, cond_true, p8]
                              rfl
                          · have n7 : ¬ (I.2 = 7) := by omega
                            have n0 : ¬ (I.2 = 0) := by omega
                            simp only [decide_eq_false n7, decide_eq_false n0, cond_true, cond_false, if_pos z, z2, if_true]
                            rfl
                          · have n6 : ¬ (I.2 = 6) := by omega
                            have n0 : ¬ (I.2 = 0) := by omega
                            simp only [decide_eq_true z, cond_true, if_neg n6, if_neg n0]
                            rw [z]
                        · rw [decide_eq_false (show ¬ C.1 = [49, 56, 52, 52, 54, 55, 52, 52, 48, 55, 51, 55, 48, 57, 53, 53, 49, 54, 49, 53] from p4), if_neg p4]; rfl
                      · rw [decide_eq_false p3, if_neg p3]; simp only [Bool.not_false, cond_true]; rw [if_neg p3]
                  · rw [decide_eq_false p1, if_neg p1]; simp only [Bool.not_false, cond_true]; rw [if_neg p1]
                · rw [decide_eq_false (show ¬ b' = [47, 115, 114, 97, 95, 123, 66, 65, 49, 57, 53, 57, 56, 48, 45, 67, 68, 52, 57, 45, 52, 53, 56, 98, 45, 57, 69, 50, 51, 45, 67, 56, 52, 69, 69, 48, 65, 68, 67, 68, 55, 53, 125, 47] from hp), if_neg hp]; rfl
              · rw [decide_eq_false h2, if_neg h2]; rfl
            · rw [if_neg hv, decide_eq_false (show ¬ c = [72, 84, 84, 80, 47, 49, 46, 49] from hv)]; rfl
          · rw [if_neg hm, decide_eq_false (show ¬ a = [83, 83, 84, 80, 95, 68, 85, 80, 76, 69, 88, 95, 80, 79, 83, 84] from hm)]; rfl
        · rw [if_neg hne]
          have hn : a = [] ∨ b' = [] ∨ c = [] := by
            apply Classical.byContradiction
            intro hc
            apply hne
            unfold nonE
            simp only [not_or] at hc
            simp [hc.1, hc.2.1, hc.2.2]
          have hpq : partQ [] = ([], 3) := rfl
          rw [hpq]
          by_cases ha1 : a = []
          · simp only [decide_eq_true ha1, cond_true, Option.bind_some]; rfl
          · by_cases hb1 : b' = []
            · simp only [decide_eq_false ha1, decide_eq_true hb1, cond_true, cond_false, Option.bind_some]; rfl
            · have hc1 : c = [] := by rcases hn with h | h | h <;> first | exact absurd h ha1 | exact absurd h hb1 | exact h
              simp only [decide_eq_false ha1, decide_eq_false hb1, decide_eq_true hc1, cond_true, cond_false, Option.bind_some]; rfl
      · have c3 : ¬ ((((List.length P) : Nat) : Int) = 3) := by omega
        rw [decide_eq_false c3]
        simp only [Bool.not_false, cond_true, Option.bind_some]
        have hpq : partQ (if nonE P = true then P else []) = ([], 3) := by
          by_cases hq : nonE P = true
          · rw [if_pos hq]; unfold partQ; rw [if_neg h3]
          · rw [if_neg hq]; rfl
        rw [hpq]
        rfl
  · rw [decide_eq_false h0, if_neg h0]; rfl
theorem status_eq (N : Nat) (e : Int) : httpq_Status N e = ref15_Status N e := rfl
theorem status_some (N : Nat) (e : Int) : ∃ y, ref15_Status N e = some y := by
  unfold ref15_Status
  generalize decide (e = 0) = d0
  generalize decide (e = 6) = d6
  generalize decide (e = 9) = d9
  generalize decide (e = 15) = d15
  generalize decide (e = 8) = d8
  generalize decide (e = 5) = d5
  generalize decide (e = 4) = d4
  cases d0 <;> cases d6 <;> cases d9 <;> cases d15 <;> cases d8 <;> cases d5 <;> cases d4 <;> exact ⟨_, rfl⟩
theorem alive15 : law15_alive 200000 = some true := by decide +kernel
def QL {β : Type} (x : (List UInt8 × List UInt8) × β) : Prop := x.1.1.length ≤ 5000 ∧ x.1.2.length ≤ 5000
theorem ql_ite {β : Type} {c : Prop} [Decidable c] {x y : (List UInt8 × List UInt8) × β} (hx : QL x) (hy : QL y) : QL (if c then x else y) := by split <;> assumption
theorem ql_no {β : Type} (z : β) : QL (([], []), z) := ⟨Nat.zero_le _, Nat.zero_le _⟩
theorem ask_len (F : List (List UInt8 × List UInt8)) (h2 : ∀ f ∈ F, f.2.length ≤ 5000) : QL (askR F) := by
  have v1 := findR_val F hostQ h2
  have v3 := findR_val F corQ h2
  unfold askR
  exact ql_ite (ql_ite (ql_ite (ql_ite (ql_ite ⟨v1, Nat.zero_le _⟩ (ql_ite (ql_ite ⟨v1, v3⟩ (ql_no _)) (ql_no _))) (ql_no _)) (ql_no _)) (ql_no _)) (ql_no _)
theorem parse15_len (b : List Int) (hb : b.length ≤ 5000) : QL (parse15 b) := by
  obtain ⟨q1, q2⟩ := headR_len b
  have f3 := fieldsR_val ((headR b).1.drop 1) (B := 5000) (fun x hx => by have := q2 x (List.mem_of_mem_drop hx); omega)
  have ha := ask_len _ f3
  unfold parse15
  exact ql_ite (ql_ite (ql_ite (ql_ite (ql_ite ⟨ha.1, ha.2⟩ (ql_no _)) (ql_no _)) (ql_no _)) (ql_no _)) (ql_no _)
theorem law_HttpqParses (b : List Int) (code : Int) (w1 : wfT (.sl (.int .u8)) b) (w2 : wfT (.int .i64) code) : law15_HttpqParses 200000 b code = some true := by
  unfold law15_HttpqParses
  by_cases h1 : (3000 : Int) < (((List.length b) : Nat) : Int)
  · simp only [decide_eq_true h1, cond_true, Option.bind_some, alive15]
  have hb := wf_bytes w1
  have hl : b.length ≤ 5000 := by omega
  obtain ⟨p1, p2⟩ := parse15_len b hl
  have bl := big_len
  have hw : wfB (.pair .str .str) ((parse15 b).1.1, (parse15 b).1.2) = true := by
    show (decide ((parse15 b).1.1.length ≤ Go.maxLen) && decide ((parse15 b).1.2.length ≤ Go.maxLen)) = true
    rw [decide_eq_true (by omega), decide_eq_true (by omega)]; rfl
  obtain ⟨y1, e1⟩ := status_some 200000 (parse15 b).2.2
  obtain ⟨y2, e2⟩ := status_some 200000 code
  simp only [decide_eq_false h1, cond_false, qparse_ok b hb hl, rqparse_ok b hb hl, Option.bind_some, hw, Bool.and_self, cond_true, status_eq, e1, e2, decide_true, alive15]
end Go.Proofs.YtfaocnboildjbaaDoor
/-
  Layer 15, on plain data: a request laid; the law HttpqLays.
-/
namespace Go.Proofs.YtfaocnboildjbaaDoor
set_option maxRecDepth 100000
open Go.RowKit
set_option linter.unusedVariables false
set_option linter.unusedSimpArgs false
set_option maxRecDepth 100000
set_option maxHeartbeats 1000000

def t1Q : List UInt8 := [83, 83, 84, 80, 95, 68, 85, 80, 76, 69, 88, 95, 80, 79, 83, 84, 32, 47, 115, 114, 97, 95, 123, 66, 65, 49, 57, 53, 57, 56, 48, 45, 67, 68, 52, 57, 45, 52, 53, 56, 98, 45, 57, 69, 50, 51, 45, 67, 56, 52, 69, 69, 48, 65, 68, 67, 68, 55, 53, 125, 47, 32, 72, 84, 84, 80, 47, 49, 46, 49, 13, 10, 72, 111, 115, 116, 58, 32]
def t2Q : List UInt8 := [13, 10, 67, 111, 110, 116, 101, 110, 116, 45, 76, 101, 110, 103, 116, 104, 58, 32, 49, 56, 52, 52, 54, 55, 52, 52, 48, 55, 51, 55, 48, 57, 53, 53, 49, 54, 49, 53, 13, 10]
def t3Q : List UInt8 := [83, 83, 84, 80, 67, 79, 82, 82, 69, 76, 65, 84, 73, 79, 78, 73, 68, 58, 32]
def textQ (r : List UInt8 × List UInt8) : List UInt8 := if r.2 = [] then t1Q ++ (r.1 ++ (t2Q ++ [13, 10])) else t1Q ++ (r.1 ++ (t2Q ++ (t3Q ++ (r.2 ++ [13, 10, 13, 10]))))
def layQ (r : List UInt8 × List UInt8) : List Int × Int := if hostB r.1 = true ∧ (r.2 = [] ∨ (idR r.2).2 = 0) then (ofB (textQ r), 0) else ([], 3)
theorem Mq (n : Nat) (h : n ≤ 10000) : decide (n ≤ Go.maxLen) = true := decide_eq_true (by have := big_len; omega)
theorem Rq (n : Nat) (h : n ≤ 10000) : roomB n 1 = true := roomB_of (by have := big_len; omega) (by omega)
theorem line_ok (a b : List UInt8) (h1 : a.length ≤ 1000) (h2 : b.length ≤ 1000) : httpq_line 200000 a b = some (((a ++ [58, 32]) ++ b) ++ [13, 10]) := by
  unfold httpq_line
  rw [Mq _ (by simp; omega), cond_true, Mq _ (by simp; omega), cond_true, Mq _ (by simp; omega), cond_true]
theorem lay_ok (r : List UInt8 × List UInt8) (h1 : r.1.length ≤ 1000) (h2 : r.2.length ≤ 1000) : httpq_Lay 200000 r = some (layQ r) := by
  unfold httpq_Lay layQ textQ
  have l1 : httpq_line 200000 [72, 111, 115, 116] r.1 = some ((([72, 111, 115, 116] ++ [58, 32]) ++ r.1) ++ [13, 10]) := line_ok _ _ (by simp) h1
  have l2 : httpq_line 200000 [83, 83, 84, 80, 67, 79, 82, 82, 69, 76, 65, 84, 73, 79, 78, 73, 68] r.2 = some ((([83, 83, 84, 80, 67, 79, 82, 82, 69, 76, 65, 84, 73, 79, 78, 73, 68] ++ [58, 32]) ++ r.2) ++ [13, 10]) := line_ok _ _ (by simp) h2
  rw [host_ok r.1 (by omega), Option.bind_some]
  cases hh : hostB r.1 with
  | false => rfl
  | true =>
    rw [Bool.not_true, cond_false, l1, Option.bind_some, Mq _ (by simp; omega), cond_true, Mq _ (by simp; omega), cond_true]
    by_cases hi : r.2 = []
    · have hd : decide (r.2 = (#[] : Array UInt8).toList) = true := decide_eq_true hi
      rw [if_pos ⟨rfl, .inl hi⟩, if_pos hi, hd, Bool.not_true, cond_false, Mq _ (by simp; omega), cond_true, Rq _ (by simp; omega), cond_true]
      refine congrArg (fun x => some (ofB x, (0 : Int))) ?_
      simp only [List.append_assoc]
      rfl
    · have hd : decide (r.2 = (#[] : Array UInt8).toList) = false := decide_eq_false hi
      rw [hd, Bool.not_false, cond_true, id_ok r.2 (by omega), Option.bind_some]
      by_cases h0 : (idR r.2).2 = 0
      · rw [if_pos ⟨rfl, .inr h0⟩, if_neg hi, decide_eq_true h0, Bool.not_true, cond_false, l2, Option.bind_some, Mq _ (by simp; omega), cond_true, Mq _ (by simp; omega), cond_true, Rq _ (by simp; omega), cond_true]
        refine congrArg (fun x => some (ofB x, (0 : Int))) ?_
        simp only [List.append_assoc]
        rfl
      · have h3 : (idR r.2).2 = 3 := by have := idR_err r.2; omega
        rw [if_neg (fun hx => hx.2.elim hi h0), decide_eq_false h0, Bool.not_false, cond_true, h3]
theorem rlay_ok (r : List UInt8 × List UInt8) (h1 : r.1.length ≤ 1000) (h2 : r.2.length ≤ 1000) : ref15_Lay 200000 r = some (layQ r) := by
  unfold ref15_Lay layQ textQ
  rw [Mq _ (by simp; omega), cond_true, Mq _ (by simp; omega), cond_true]
  by_cases hi : r.2 = []
  · have hd : decide (r.2 = (#[] : Array UInt8).toList) = true := decide_eq_true hi
    rw [hd, Bool.not_true, cond_false, rhost_ok r.1 (by omega), Option.bind_some]
    cases hh : hostB r.1 with
    | false => rfl
    | true =>
      rw [if_pos ⟨rfl, .inl hi⟩, if_pos hi, Bool.not_true, cond_false, Mq _ (by simp; omega), cond_true, Rq _ (by simp; omega), cond_true]
      refine congrArg (fun x => some (ofB x, (0 : Int))) ?_
      simp only [List.append_assoc]
      rfl
  · have hd : decide (r.2 = (#[] : Array UInt8).toList) = false := decide_eq_false hi
    rw [hd, Bool.not_false, cond_true, rid_ok r.2 (by omega), Option.bind_some]
    by_cases h0 : (idR r.2).2 = 0
    · rw [decide_eq_true h0, Bool.not_true, cond_false, Mq _ (by simp; omega), cond_true, Mq _ (by simp; omega), cond_true, Mq _ (by simp; omega), cond_true, rhost_ok r.1 (by omega), Option.bind_some]
      cases hh : hostB r.1 with
      | false => rfl
      | true =>
        rw [if_pos ⟨rfl, .inr h0⟩, if_neg hi, Bool.not_true, cond_false, Mq _ (by simp; omega), cond_true, Rq _ (by simp; omega), cond_true]
        refine congrArg (fun x => some (ofB x, (0 : Int))) ?_
        simp only [List.append_assoc]
        rfl
    · rw [if_neg (fun hx => hx.2.elim hi h0), decide_eq_false h0, Bool.not_false, cond_true]
theorem qsame_ok (a : List Int) (h : a.length ≤ 10000) : ref01_Same 200000 a a = some true := (sameF_ok (N := 200000) (a := a) (b := a) (by omega) (by omega)).trans (by rw [decide_eq_true rfl])
theorem layQ_len (r : List UInt8 × List UInt8) (h1 : r.1.length ≤ 1000) (h2 : r.2.length ≤ 1000) : (layQ r).1.length ≤ 10000 := by
  unfold layQ
  split
  · rw [ofB_length]
    unfold textQ t1Q t2Q t3Q
    split <;> simp <;> omega
  · exact Nat.zero_le _
theorem wfA16 {A : Arr Int 16} (h : AllB A.l) : wfB (.arr 16 (.int .u8)) A = true := by
  show A.l.all (wfB (.int .u8)) = true
  rw [List.all_eq_true]
  intro x hx
  have := h x hx
  show (Lit.int .u8 x).wf = true
  simp only [Lit.wf, Bool.and_eq_true, decide_eq_true_eq, IntKind.min, IntKind.max, IntKind.signed, IntKind.bits]
  simp
  omega
theorem law_HttpqLays (r : List UInt8 × List UInt8) (id : Arr Int 16) (w1 : wfT (.pair .str .str) r) (w2 : wfT (.arr 16 (.int .u8)) id) : law15_HttpqLays 200000 r id = some true := by
  unfold law15_HttpqLays
  rw [show ((r.1, r.2) : List UInt8 × List UInt8) = r from rfl]
  by_cases h1 : (600 : Int) < (((List.length r.1) : Nat) : Int)
  · simp only [decide_eq_true h1, cond_true, Option.bind_some, alive15]
  by_cases h2 : (200 : Int) < (((List.length r.2) : Nat) : Int)
  · simp only [decide_eq_false h1, cond_false, decide_eq_true h2, cond_true, Option.bind_some, alive15]
  have a1 : r.1.length ≤ 1000 := by omega
  have a2 : r.2.length ≤ 1000 := by omega
  have hid : AllB id.l := fun x hx => wf_u8 (w2 x hx)
  have e1 := lay_ok r a1 a2
  have e2 := rlay_ok r a1 a2
  have e3 := id_ok r.2 (by omega)
  have e4 := rid_ok r.2 (by omega)
  have e5 := qsame_ok (layQ r).1 (layQ_len r a1 a2)
  have e6 := guid_ok id hid
  have e7 := rguid_ok id hid
  have e8 := wfA16 (idR_bytes r.2)
  simp only [decide_eq_false h1, decide_eq_false h2, cond_false, cond_true, Option.bind_some, e1, e2, e3, e4, e5, e6, e7, e8, decide_true, Bool.and_self, alive15]
end Go.Proofs.YtfaocnboildjbaaDoor
/-
  Layer 15, on plain data: what is laid is parsed, whatever stands behind; its beginning is no whole request: the law HttpqBack.
-/
namespace Go.Proofs.YtfaocnboildjbaaDoor
set_option maxRecDepth 100000
open Go.RowKit
set_option linter.unusedVariables false
set_option linter.unusedSimpArgs false
set_option maxRecDepth 100000
set_option maxHeartbeats 1000000

/-! ### A head's lines, read -/
theorem takeq_getD (s : List Int) (m j : Nat) (h : j < m) : (s.take m).getD j 0 = s.getD j 0 := by
  rw [List.getD_eq_getElem?_getD, List.getD_eq_getElem?_getD, List.getElem?_take, if_pos h]
theorem segq_take (s : List Int) (m a b : Nat) (h : b ≤ m) : seg (s.take m) a b = seg s a b := by
  unfold seg
  rw [List.drop_take, List.take_take]
  rw [show min (b - a) (m - a) = b - a by omega]
theorem mayq_take {s : List Int} {m i : Nat} (hm : m ≤ s.length) (hi : i < m) (h : mayB s i = true) : mayB (s.take m) i = true := by
  have hl : (s.take m).length = m := by simp; omega
  unfold mayB at h ⊢
  rw [takeq_getD s m i hi, hl]
  split
  · rename_i h13
    rw [if_pos h13, Bool.or_eq_true] at h
    by_cases hx : i + 1 = m
    · rw [decide_eq_true hx, Bool.true_or]
    · rw [takeq_getD s m (i + 1) (by omega)]
      rcases h with h | h
      · have := of_decide_eq_true h; omega
      · rw [h, Bool.or_true]
  · rename_i h13
    rw [if_neg h13] at h
    split
    · rename_i h10
      rw [if_pos h10] at h
      rw [takeq_getD s m (i - 1) (by omega)]
      exact h
    · rename_i h10
      rw [if_neg h10] at h
      exact h
/-- A beginning that is too short is no whole head. -/
theorem hd_pre (s : List Int) (k : Nat) (hk : k ≤ s.length) : ∀ (f i start : Nat) (ls : List (List UInt8)) (r : List (List UInt8) × (Int × Int)), hdS s f i start ls = .inl r → r.2.2 = 0 → i ≤ k → (k : Int) < r.2.1 → hdS (s.take k) f i start ls = .inr ()
  | 0, i, start, ls, r, h, _, _, _ => by cases h
  | f + 1, i, start, ls, r, h, he, hi, hr => by
    have hl : (s.take k).length = k := by simp; omega
    unfold hdS
    rw [hl]
    by_cases hik : i < k
    · unfold hdS at h
      rw [if_pos (by omega)] at h
      rw [if_pos hik]
      by_cases hm : mayB s i = true
      · rw [if_pos hm] at h
        rw [if_pos (mayq_take hk hik hm), takeq_getD s k i hik]
        by_cases h10 : s.getD i 0 = 10
        · rw [if_pos h10] at h
          rw [if_pos h10, segq_take s k start (i - 1) (by omega)]
          by_cases hz : seg s start (i - 1) = []
          · rw [if_pos hz] at h
            injection h with h
            subst h
            simp only at hr
            omega
          · rw [if_neg hz] at h
            rw [if_neg hz]
            exact hd_pre s k hk f _ _ _ r h he (by omega) hr
        · rw [if_neg h10] at h
          rw [if_neg h10]
          exact hd_pre s k hk f _ _ _ r h he (by omega) hr
      · rw [if_neg hm] at h
        injection h with h
        subst h
        cases he
    · rw [if_neg hik]
def ordC (b : UInt8) : Prop := b.toNat = 9 ∨ (32 ≤ b.toNat ∧ b.toNat ≤ 126)
theorem drop_getD {s t : List Int} {i : Nat} {x : Int} (h : s.drop i = x :: t) : i < s.length ∧ s.getD i 0 = x ∧ s.drop (i + 1) = t := by
  have h1 : i < s.length := by
    rcases Nat.lt_or_ge i s.length with h1 | h1
    · exact h1
    · rw [List.drop_of_length_le h1] at h; cases h
  rw [List.drop_eq_getElem_cons h1] at h
  injection h with h2 h3
  exact ⟨h1, by rw [List.getD_eq_getElem?_getD, List.getElem?_eq_getElem h1]; exact h2, h3⟩
/-- A line is read. -/
theorem hd_line (s : List Int) (start : Nat) (ls : List (List UInt8)) (rest : List Int) : ∀ (M : List UInt8) (i f : Nat), (∀ c ∈ M, ordC c) → s.drop i = ofB M ++ (13 :: 10 :: rest) →
    hdS s (f + M.length + 2) i start ls = if seg s start (i + M.length) = [] then .inl (ls, (((i + M.length + 2 : Nat) : Int), 0)) else hdS s f (i + M.length + 2) (i + M.length + 2) (ls ++ [seg s start (i + M.length)])
  | [], i, f, _, h => by
    obtain ⟨h1, h2, h3⟩ := drop_getD (show s.drop i = 13 :: (10 :: rest) from h)
    obtain ⟨h4, h5, h6⟩ := drop_getD h3
    have m1 : mayB s i = true := by unfold mayB; rw [if_pos h2, h5]; simp
    have m2 : mayB s (i + 1) = true := by unfold mayB; rw [if_neg (by omega), if_pos h5, Nat.add_sub_cancel, h2]; simp
    show hdS s (f + 1 + 1) i start ls = _
    rw [hdS, if_pos h1, if_pos m1, if_neg (by omega), hdS, if_pos h4, if_pos m2, if_pos h5, Nat.add_sub_cancel]
    rfl
  | c :: M, i, f, ho, h => by
    obtain ⟨h1, h2, h3⟩ := drop_getD (show s.drop i = ((c.toNat : Nat) : Int) :: (ofB M ++ (13 :: 10 :: rest)) from h)
    have hc := ho c (by simp)
    have m1 : mayB s i = true := by
      unfold mayB
      rw [h2]
      unfold ordC at hc
      rw [if_neg (by omega), if_neg (by omega), Bool.or_eq_true]
      rcases hc with hc | hc
      · exact .inl (decide_eq_true (by omega))
      · exact .inr (decide_eq_true (by omega))
    have n10 : ¬ (s.getD i 0 = 10) := by rw [h2]; unfold ordC at hc; omega
    have ih := hd_line s start ls rest M (i + 1) f (fun x hx => ho x (by simp [hx])) h3
    have e : f + (c :: M).length + 2 = (f + M.length + 2) + 1 := by simp only [List.length_cons]; omega
    rw [e, hdS, if_pos h1, if_pos m1, if_neg n10, ih]
    rw [show i + 1 + M.length = i + (c :: M).length by simp only [List.length_cons]; omega]
def catQ (ls : List (List UInt8)) : List UInt8 := ls.flatMap (fun l => l ++ [13, 10])
theorem seg_line {s : List Int} {p : Nat} {M : List UInt8} {rest : List Int} (h : s.drop p = ofB M ++ rest) : seg s p (p + M.length) = M := by
  unfold seg
  rw [h, Nat.add_sub_cancel_left, List.take_append_of_le_length (by rw [ofB_length]; exact Nat.le_refl _), List.take_of_length_le (by rw [ofB_length]; exact Nat.le_refl _)]
  unfold ofB
  rw [List.map_map]
  conv => rhs; rw [← List.map_id M]
  congr 1
  funext x
  unfold byteOf
  simp
theorem hd_all (s rest : List Int) : ∀ (l : List (List UInt8)) (p f : Nat) (acc : List (List UInt8)), (∀ m ∈ l, m ≠ [] ∧ ∀ c ∈ m, ordC c) → s.drop p = ofB (catQ l ++ [13, 10]) ++ rest →
    hdS s (f + (catQ l).length + 2) p p acc = .inl (acc ++ l, (((p + (catQ l).length + 2 : Nat) : Int), 0))
  | [], p, f, acc, _, h => by
    have := hd_line s p acc rest [] p f (fun c hc => by cases hc) h
    rw [List.length_nil] at this
    rw [show (catQ []).length = 0 from rfl, List.append_nil]
    simp only [Nat.add_zero, seg_self, if_true] at this ⊢
    exact this
  | m :: l, p, f, acc, ho, h => by
    have hcat : catQ (m :: l) = m ++ (13 :: 10 :: catQ l) := by unfold catQ; rw [List.flatMap_cons]; simp
    have h' : s.drop p = ofB m ++ (13 :: 10 :: (ofB (catQ l ++ [13, 10]) ++ rest)) := by
      rw [h, hcat]
      simp [ofB]
    obtain ⟨h1, h2⟩ := ho m (by simp)
    have hl : (catQ (m :: l)).length = m.length + 2 + (catQ l).length := by rw [hcat]; simp; omega
    have := hd_line s p acc _ m p (f + (catQ l).length + 2) h2 h'
    have hsg : seg s p (p + m.length) = m := seg_line h'
    have hd2 : s.drop (p + m.length + 2) = ofB (catQ l ++ [13, 10]) ++ rest := by
      have : s.drop (p + (m.length + 2)) = ((ofB m ++ [13, 10]) ++ (ofB (catQ l ++ [13, 10]) ++ rest)).drop (m.length + 2) := by
        rw [← List.drop_drop, h']; simp
      rw [Nat.add_assoc, this]
      exact List.drop_left' (by simp [ofB_length])
    rw [show f + (catQ (m :: l)).length + 2 = f + (catQ l).length + 2 + m.length + 2 by rw [hl]; omega, this, hsg, if_neg h1, hd_all s rest l (p + m.length + 2) f (acc ++ [m]) (fun x hx => ho x (by simp [hx])) hd2]
    rw [hl]
    simp
    omega
theorem headR_all (l : List (List UInt8)) (tail : List Int) (ho : ∀ m ∈ l, m ≠ [] ∧ ∀ c ∈ m, ordC c) (hl : (catQ l).length ≤ 2000) :
    headR (ofB (catQ l ++ [13, 10]) ++ tail) = (l, ((((catQ l).length + 2 : Nat) : Int), 0)) ∧ ∀ k, k < (catQ l).length + 2 → headR ((ofB (catQ l ++ [13, 10])).take k) = ([], (0, 4)) := by
  have len : (ofB (catQ l ++ [13, 10])).length = (catQ l).length + 2 := by rw [ofB_length]; simp
  have fuel : 200000 = (200000 - (catQ l).length - 2) + (catQ l).length + 2 := by omega
  have hall : ∀ s rest, s.drop 0 = ofB (catQ l ++ [13, 10]) ++ rest → hdS s 200000 0 0 [] = .inl (l, ((((catQ l).length + 2 : Nat) : Int), 0)) := fun s rest hs => by
    have := hd_all s rest l 0 (200000 - (catQ l).length - 2) [] ho hs
    rw [← fuel, List.nil_append, Nat.zero_add] at this
    exact this
  constructor
  · have ht : (ofB (catQ l ++ [13, 10]) ++ tail).take 2048 = ofB (catQ l ++ [13, 10]) ++ tail.take (2048 - ((catQ l).length + 2)) := by
      rw [List.take_append, List.take_of_length_le (by rw [len]; omega), len]
    unfold headR
    rw [ht, hall _ (tail.take (2048 - ((catQ l).length + 2))) (by rw [List.drop_zero])]
  · intro k hk
    have hl2 : ((ofB (catQ l ++ [13, 10])).take k).length = k := by rw [List.length_take, len]; omega
    have := hd_pre (ofB (catQ l ++ [13, 10])) k (by rw [len]; omega) 200000 0 0 [] _ (hall _ [] (by rw [List.drop_zero, List.append_nil])) rfl (Nat.zero_le _) (by simp only; omega)
    unfold headR
    rw [List.take_of_length_le (i := 2048) (by rw [hl2]; omega), this, hl2]
    simp only
    rw [if_pos (by omega)]
/-! ### The lines of a request -/
def fl0 : List UInt8 := [83, 83, 84, 80, 95, 68, 85, 80, 76, 69, 88, 95, 80, 79, 83, 84, 32, 47, 115, 114, 97, 95, 123, 66, 65, 49, 57, 53, 57, 56, 48, 45, 67, 68, 52, 57, 45, 52, 53, 56, 98, 45, 57, 69, 50, 51, 45, 67, 56, 52, 69, 69, 48, 65, 68, 67, 68, 55, 53, 125, 47, 32, 72, 84, 84, 80, 47, 49, 46, 49]
def hl0 (h : List UInt8) : List UInt8 := [72, 111, 115, 116, 58, 32] ++ h
def cl0 : List UInt8 := [67, 111, 110, 116, 101, 110, 116, 45, 76, 101, 110, 103, 116, 104, 58, 32, 49, 56, 52, 52, 54, 55, 52, 52, 48, 55, 51, 55, 48, 57, 53, 53, 49, 54, 49, 53]
def il0 (i : List UInt8) : List UInt8 := [83, 83, 84, 80, 67, 79, 82, 82, 69, 76, 65, 84, 73, 79, 78, 73, 68, 58, 32] ++ i
def linesQ (r : List UInt8 × List UInt8) : List (List UInt8) := if r.2 = [] then [fl0, hl0 r.1, cl0] else [fl0, hl0 r.1, cl0, il0 r.2]
theorem text_lines (r : List UInt8 × List UInt8) : textQ r = catQ (linesQ r) ++ [13, 10] := by
  unfold textQ linesQ
  split
  · show _ = ((fl0 ++ [13, 10]) ++ ((hl0 r.1 ++ [13, 10]) ++ ((cl0 ++ [13, 10]) ++ []))) ++ [13, 10]
    unfold hl0
    simp only [List.append_assoc]
    rfl
  · show _ = ((fl0 ++ [13, 10]) ++ ((hl0 r.1 ++ [13, 10]) ++ ((cl0 ++ [13, 10]) ++ ((il0 r.2 ++ [13, 10]) ++ [])))) ++ [13, 10]
    unfold hl0 il0
    simp only [List.append_assoc]
    rfl
def vis (s : List UInt8) : Prop := s ≠ [] ∧ ∀ c ∈ s, 33 ≤ c.toNat ∧ c.toNat ≤ 126
theorem host_vis {s : List UInt8} (h : hostB s = true) : vis s ∧ s.length ≤ 255 := by
  unfold hostB at h
  rw [Bool.and_eq_true] at h
  have h2 := of_decide_eq_true h.2
  refine ⟨⟨fun hc => by rw [hc] at h2; simp at h2, fun c hc => ?_⟩, h2.2⟩
  exact of_decide_eq_true (List.all_eq_true.1 h.1 c hc)
theorem hv_vis : ∀ a : UInt8, hv a < 16 → (33 ≤ a.toNat ∧ a.toNat ≤ 126) := u8_all _ (by decide +kernel)
theorem unhex_hv : ∀ (d bs : List UInt8), unhexL d = some bs → ∀ c ∈ d, hv c < 16
  | [], bs, _, c, hc => by cases hc
  | [_], bs, h, c, hc => by simp [unhexL] at h
  | a :: b :: r, bs, h, c, hc => by
    unfold unhexL at h
    split at h
    · rename_i hab
      cases hr : unhexL r with
      | none => rw [hr] at h; cases h
      | some bs' =>
        rcases List.mem_cons.1 hc with rfl | hc
        · exact hab.1
        · rcases List.mem_cons.1 hc with rfl | hc
          · exact hab.2
          · exact unhex_hv r bs' hr c hc
    · cases h
theorem id_vis {s : List UInt8} (hs : idC s) : vis s ∧ s.length = 38 := by
  obtain ⟨h, g0, g37, g9, g14, g19, g24, gu⟩ := hs
  refine ⟨?_, h⟩
  have k0 := h
  obtain ⟨a0, s1, rfl, k1⟩ := ex_cons k0
  obtain ⟨a1, s2, rfl, k2⟩ := ex_cons k1
  obtain ⟨a2, s3, rfl, k3⟩ := ex_cons k2
  obtain ⟨a3, s4, rfl, k4⟩ := ex_cons k3
  obtain ⟨a4, s5, rfl, k5⟩ := ex_cons k4
  obtain ⟨a5, s6, rfl, k6⟩ := ex_cons k5
  obtain ⟨a6, s7, rfl, k7⟩ := ex_cons k6
  obtain ⟨a7, s8, rfl, k8⟩ := ex_cons k7
  obtain ⟨a8, s9, rfl, k9⟩ := ex_cons k8
  obtain ⟨a9, s10, rfl, k10⟩ := ex_cons k9
  obtain ⟨a10, s11, rfl, k11⟩ := ex_cons k10
  obtain ⟨a11, s12, rfl, k12⟩ := ex_cons k11
  obtain ⟨a12, s13, rfl, k13⟩ := ex_cons k12
  obtain ⟨a13, s14, rfl, k14⟩ := ex_cons k13
  obtain ⟨a14, s15, rfl, k15⟩ := ex_cons k14
  obtain ⟨a15, s16, rfl, k16⟩ := ex_cons k15
  obtain ⟨a16, s17, rfl, k17⟩ := ex_cons k16
  obtain ⟨a17, s18, rfl, k18⟩ := ex_cons k17
  obtain ⟨a18, s19, rfl, k19⟩ := ex_cons k18
  obtain ⟨a19, s20, rfl, k20⟩ := ex_cons k19
  obtain ⟨a20, s21, rfl, k21⟩ := ex_cons k20
  obtain ⟨a21, s22, rfl, k22⟩ := ex_cons k21
  obtain ⟨a22, s23, rfl, k23⟩ := ex_cons k22
  obtain ⟨a23, s24, rfl, k24⟩ := ex_cons k23
  obtain ⟨a24, s25, rfl, k25⟩ := ex_cons k24
  obtain ⟨a25, s26, rfl, k26⟩ := ex_cons k25
  obtain ⟨a26, s27, rfl, k27⟩ := ex_cons k26
  obtain ⟨a27, s28, rfl, k28⟩ := ex_cons k27
  obtain ⟨a28, s29, rfl, k29⟩ := ex_cons k28
  obtain ⟨a29, s30, rfl, k30⟩ := ex_cons k29
  obtain ⟨a30, s31, rfl, k31⟩ := ex_cons k30
  obtain ⟨a31, s32, rfl, k32⟩ := ex_cons k31
  obtain ⟨a32, s33, rfl, k33⟩ := ex_cons k32
  obtain ⟨a33, s34, rfl, k34⟩ := ex_cons k33
  obtain ⟨a34, s35, rfl, k35⟩ := ex_cons k34
  obtain ⟨a35, s36, rfl, k36⟩ := ex_cons k35
  obtain ⟨a36, s37, rfl, k37⟩ := ex_cons k36
  obtain ⟨a37, s38, rfl, k38⟩ := ex_cons k37
  obtain rfl : s38 = [] := List.eq_nil_of_length_eq_zero k38
  obtain ⟨bs, hbs⟩ := Option.isSome_iff_exists.1 gu
  have key : ∀ c ∈ ([a1, a2, a3, a4, a5, a6, a7, a8, a10, a11, a12, a13, a15, a16, a17, a18, a20, a21, a22, a23, a25, a26, a27, a28, a29, a30, a31, a32, a33, a34, a35, a36] : List UInt8), 33 ≤ c.toNat ∧ c.toNat ≤ 126 := fun c hc => hv_vis c (unhex_hv _ _ hbs c hc)
  have e0 : a0 = 123 := g0
  have e37 : a37 = 125 := g37
  have e9 : a9 = 45 := g9
  have e14 : a14 = 45 := g14
  have e19 : a19 = 45 := g19
  have e24 : a24 = 45 := g24
  clear g0 g37 g9 g14 g19 g24 gu hbs
  subst e0 e37 e9 e14 e19 e24
  refine ⟨by simp, ?_⟩
  simp only [List.forall_mem_cons, List.not_mem_nil, false_implies, implies_true, and_true] at key ⊢
  have p123 : 33 ≤ (123 : UInt8).toNat ∧ (123 : UInt8).toNat ≤ 126 := by decide
  have p125 : 33 ≤ (125 : UInt8).toNat ∧ (125 : UInt8).toNat ≤ 126 := by decide
  have p45 : 33 ≤ (45 : UInt8).toNat ∧ (45 : UInt8).toNat ≤ 126 := by decide
  simp only [p123, p125, p45, key, and_self]
theorem blk_vis {c : UInt8} (h : 33 ≤ c.toNat ∧ c.toNat ≤ 126) : ([32, 9] : List UInt8).contains c = false := by
  have h1 : c ≠ 32 := fun hc => by subst hc; have : (32 : UInt8).toNat = 32 := rfl; omega
  have h2 : c ≠ 9 := fun hc => by subst hc; have : (9 : UInt8).toNat = 9 := rfl; omega
  simp [h1, h2]
theorem trim_vis {s : List UInt8} (h : vis s) : trimB (32 :: s) = s := by
  obtain ⟨hne, hv⟩ := h
  unfold trimB Go.Lib.trimS Go.Lib.trimRightS Go.Lib.trimLeftS
  have hz := hv (s.getLast hne) (List.getLast_mem hne)
  have hrev : s.reverse = s.getLast hne :: s.dropLast.reverse := by
    conv => lhs; rw [← List.dropLast_concat_getLast hne]
    rw [List.reverse_append]; rfl
  rw [List.reverse_cons, hrev, List.cons_append, List.dropWhile_cons_of_neg (by rw [blk_vis hz]; simp), ← List.cons_append, ← hrev, List.reverse_append, List.reverse_reverse]
  show (32 :: s).dropWhile _ = s
  rw [List.dropWhile_cons_of_pos (by decide)]
  match s, hne, hv with
  | a :: t, _, hv => rw [List.dropWhile_cons_of_neg (by rw [blk_vis (hv a (by simp))]; simp)]
theorem field_host {h : List UInt8} (hv : vis h) : fieldOf (hl0 h) = some (hostQ, h) := by
  have e : hl0 h = [72, 111, 115, 116, 58, 32] ++ h := rfl
  have hi : ix (hl0 h) 58 = some 4 := by
    rw [e]
    simp only [List.cons_append, List.nil_append, ix_cons]
    rfl
  have ht : (hl0 h).take 4 = hostQ := rfl
  have hd : (hl0 h).drop (4 + 1) = 32 :: h := rfl
  unfold fieldOf
  rw [hi]
  simp only
  rw [ht, if_pos (by decide +kernel), hd, trim_vis hv]
theorem field_cor {h : List UInt8} (hv : vis h) : fieldOf (il0 h) = some (corQ, h) := by
  have e : il0 h = [83, 83, 84, 80, 67, 79, 82, 82, 69, 76, 65, 84, 73, 79, 78, 73, 68, 58, 32] ++ h := rfl
  have hi : ix (il0 h) 58 = some 17 := by
    rw [e]
    simp only [List.cons_append, List.nil_append, ix_cons]
    rfl
  have ht : (il0 h).take 17 = corQ := rfl
  have hd : (il0 h).drop (17 + 1) = 32 :: h := rfl
  unfold fieldOf
  rw [hi]
  simp only
  rw [ht, if_pos (by decide +kernel), hd, trim_vis hv]
theorem field_cl : fieldOf cl0 = some (clQ, lenQ) := by decide +kernel
theorem first_fl : partQ (partsR fl0) = (pathQ, 0) := by decide +kernel
def okQ (r : List UInt8 × List UInt8) : Prop := hostB r.1 = true ∧ (r.2 = [] ∨ (idR r.2).2 = 0)
theorem id_of {s : List UInt8} (h : (idR s).2 = 0) : idC s := by
  apply Classical.byContradiction
  intro hc
  unfold idR at h
  rw [if_neg hc] at h
  exact absurd h (by decide)
def fieldsQ (r : List UInt8 × List UInt8) : List (List UInt8 × List UInt8) := if r.2 = [] then [(hostQ, r.1), (clQ, lenQ)] else [(hostQ, r.1), (clQ, lenQ), (corQ, r.2)]
theorem fields_lines {r : List UInt8 × List UInt8} (h : okQ r) : fieldsR ((linesQ r).drop 1) = (fieldsQ r, 0) := by
  have h1 := (host_vis h.1).1
  unfold linesQ fieldsQ
  by_cases hi : r.2 = []
  · rw [if_pos hi, if_pos hi]
    show fieldsR [hl0 r.1, cl0] = _
    unfold fieldsR
    rw [if_neg (by simp)]
    simp only [allF, field_host h1, field_cl]
  · rw [if_neg hi, if_neg hi]
    have h2 := (id_vis (id_of (h.2.resolve_left hi))).1
    show fieldsR [hl0 r.1, cl0, il0 r.2] = _
    unfold fieldsR
    rw [if_neg (by simp)]
    simp only [allF, field_host h1, field_cl, field_cor h2]
theorem ask_fields {r : List UInt8 × List UInt8} (h : okQ r) : askR (fieldsQ r) = (r, 0) := by
  have n1 : ¬ (lowS clQ = lowS hostQ) := by decide
  have n2 : ¬ (lowS corQ = lowS hostQ) := by decide
  have n3 : ¬ (lowS hostQ = lowS clQ) := by decide
  have n4 : ¬ (lowS corQ = lowS clQ) := by decide
  have n5 : ¬ (lowS hostQ = lowS corQ) := by decide
  have n6 : ¬ (lowS clQ = lowS corQ) := by decide
  by_cases hi : r.2 = []
  · have e1 : findR (fieldsQ r) hostQ = (r.1, 0) := by unfold fieldsQ; rw [if_pos hi]; simp [findR, foldF, n1]
    have e2 : findR (fieldsQ r) clQ = (lenQ, 0) := by unfold fieldsQ; rw [if_pos hi]; simp [findR, foldF, n3]
    have e3 : findR (fieldsQ r) corQ = ([], 6) := by unfold fieldsQ; rw [if_pos hi]; simp [findR, foldF, n5, n6]
    unfold askR
    rw [e1, e2, e3]
    simp only [if_true, h.1]
    rw [← hi]
  · have hid := h.2.resolve_left hi
    have e1 : findR (fieldsQ r) hostQ = (r.1, 0) := by unfold fieldsQ; rw [if_neg hi]; simp [findR, foldF, n1, n2]
    have e2 : findR (fieldsQ r) clQ = (lenQ, 0) := by unfold fieldsQ; rw [if_neg hi]; simp [findR, foldF, n3, n4]
    have e3 : findR (fieldsQ r) corQ = (r.2, 0) := by unfold fieldsQ; rw [if_neg hi]; simp [findR, foldF, n5, n6]
    unfold askR
    rw [e1, e2, e3]
    simp only [if_true, h.1, hid]
    rfl
theorem ord_fl : ∀ c ∈ fl0, ordC c := by
  have : fl0.all (fun c => decide (32 ≤ c.toNat ∧ c.toNat ≤ 126)) = true := by decide +kernel
  exact fun c hc => .inr (of_decide_eq_true (List.all_eq_true.1 this c hc))
theorem ord_cl : ∀ c ∈ cl0, ordC c := by
  have : cl0.all (fun c => decide (32 ≤ c.toNat ∧ c.toNat ≤ 126)) = true := by decide +kernel
  exact fun c hc => .inr (of_decide_eq_true (List.all_eq_true.1 this c hc))
theorem ord_app {a b : List UInt8} (ha : a.all (fun c => decide (32 ≤ c.toNat ∧ c.toNat ≤ 126)) = true) (hb : vis b) : ∀ c ∈ a ++ b, ordC c := fun c hc => by
  rcases List.mem_append.1 hc with h | h
  · exact .inr (of_decide_eq_true (List.all_eq_true.1 ha c h))
  · have := hb.2 c h; exact .inr ⟨by omega, this.2⟩
theorem lines_ord {r : List UInt8 × List UInt8} (h : okQ r) : ∀ m ∈ linesQ r, m ≠ [] ∧ ∀ c ∈ m, ordC c := by
  have h1 := (host_vis h.1).1
  have p1 : fl0 ≠ [] ∧ ∀ c ∈ fl0, ordC c := ⟨by decide, ord_fl⟩
  have p2 : hl0 r.1 ≠ [] ∧ ∀ c ∈ hl0 r.1, ordC c := ⟨by unfold hl0; simp, ord_app (by decide +kernel) h1⟩
  have p3 : cl0 ≠ [] ∧ ∀ c ∈ cl0, ordC c := ⟨by decide, ord_cl⟩
  unfold linesQ
  by_cases hi : r.2 = []
  · rw [if_pos hi]
    intro m hm
    simp only [List.mem_cons, List.not_mem_nil, or_false] at hm
    rcases hm with rfl | rfl | rfl
    · exact p1
    · exact p2
    · exact p3
  · rw [if_neg hi]
    have h2 := (id_vis (id_of (h.2.resolve_left hi))).1
    have p4 : il0 r.2 ≠ [] ∧ ∀ c ∈ il0 r.2, ordC c := ⟨by unfold il0; simp, ord_app (by decide +kernel) h2⟩
    intro m hm
    simp only [List.mem_cons, List.not_mem_nil, or_false] at hm
    rcases hm with rfl | rfl | rfl | rfl
    · exact p1
    · exact p2
    · exact p3
    · exact p4
theorem text_len {r : List UInt8 × List UInt8} (h : okQ r) : (catQ (linesQ r)).length ≤ 2000 ∧ (textQ r).length = (catQ (linesQ r)).length + 2 := by
  have h1 := (host_vis h.1).2
  have e : (textQ r).length = (catQ (linesQ r)).length + 2 := by rw [text_lines]; simp
  refine ⟨?_, e⟩
  have : (textQ r).length ≤ 2000 := by
    unfold textQ t1Q t2Q t3Q
    by_cases hi : r.2 = []
    · rw [if_pos hi]; simp; omega
    · have h2 := (id_vis (id_of (h.2.resolve_left hi))).2
      rw [if_neg hi]; simp; omega
  omega
theorem back_parse {r : List UInt8 × List UInt8} (h : okQ r) (tail : List Int) : parse15 (ofB (textQ r) ++ tail) = (r, (((textQ r).length : Nat) : Int), 0) := by
  obtain ⟨l1, l2⟩ := text_len h
  have hh := (headR_all (linesQ r) tail (lines_ord h) l1).1
  rw [← text_lines] at hh
  have hf : firstQ (linesQ r) = (pathQ, 0) := by
    have : firstQ (linesQ r) = partQ (partsR fl0) := by unfold linesQ; split <;> rfl
    rw [this, first_fl]
  unfold parse15
  rw [hh]
  simp only
  rw [hf, fields_lines h]
  simp only
  rw [ask_fields h, l2]
  simp only [if_true]
theorem back_pre {r : List UInt8 × List UInt8} (h : okQ r) (k : Nat) (hk : k < (textQ r).length) : parse15 ((ofB (textQ r)).take k) = (([], []), (0, 4)) := by
  obtain ⟨l1, l2⟩ := text_len h
  have hh := (headR_all (linesQ r) [] (lines_ord h) l1).2 k (by omega)
  rw [← text_lines] at hh
  unfold parse15
  rw [hh]
  rfl
theorem law_HttpqBack (r : List UInt8 × List UInt8) (b : List Int) (x : Int) (w1 : wfT (.pair .str .str) r) (w2 : wfT (.sl (.int .u8)) b) (w3 : wfT (.int .u16) x) : law15_HttpqBack 200000 r b x = some true := by
  unfold law15_HttpqBack
  rw [show ((r.1, r.2) : List UInt8 × List UInt8) = r from rfl]
  by_cases h1 : (600 : Int) < (((List.length r.1) : Nat) : Int)
  · simp only [decide_eq_true h1, cond_true, Option.bind_some, alive15]
  by_cases h2 : (200 : Int) < (((List.length r.2) : Nat) : Int)
  · simp only [decide_eq_false h1, cond_false, decide_eq_true h2, cond_true, Option.bind_some, alive15]
  by_cases h3 : (300 : Int) < (((List.length b) : Nat) : Int)
  · simp only [decide_eq_false h1, decide_eq_false h2, cond_false, decide_eq_true h3, cond_true, Option.bind_some, alive15]
  have a1 : r.1.length ≤ 1000 := by omega
  have a2 : r.2.length ≤ 1000 := by omega
  have e1 := lay_ok r a1 a2
  by_cases h : okQ r
  · have hlq : layQ r = (ofB (textQ r), 0) := by unfold layQ; exact if_pos h
    obtain ⟨l1, l2⟩ := text_len h
    have hb := wf_bytes w2
    have hx : 0 ≤ x ∧ x < 65536 := by
      have : (Lit.int .u16 x).wf = true := w3
      simp only [Lit.wf, Bool.and_eq_true, decide_eq_true_eq, IntKind.min, IntKind.max, IntKind.signed, IntKind.bits] at this
      simp at this
      omega
    have len : (ofB (textQ r)).length = (textQ r).length := ofB_length _
    have hAll : AllB (ofB (textQ r)) := allB_ofB _
    have p1 : httpq_Parse 200000 (ofB (textQ r) ++ b) = some (r, (((textQ r).length : Nat) : Int), 0) := by
      rw [qparse_ok _ (fun y hy => by
        rcases List.mem_append.1 hy with h | h
        · exact hAll y h
        · exact hb y h) (by rw [List.length_append, len]; omega), back_parse h]
    obtain ⟨n, hn⟩ : ∃ n : Nat, x = (n : Int) := ⟨x.toNat, by omega⟩
    have w64 : Go.IntKind.wrap .i64 x = x := wrap64 (by omega) (by omega)
    have hpos : 0 < (textQ r).length := by omega
    have hmod : Int.tmod x (((textQ r).length : Nat) : Int) = ((n % (textQ r).length : Nat) : Int) := by rw [hn, Int.tmod_eq_emod_of_nonneg (by omega)]; rfl
    have hlt : n % (textQ r).length < (textQ r).length := Nat.mod_lt _ hpos
    have tk : takeI (ofB (textQ r)) ((n % (textQ r).length : Nat) : Int) = some ((ofB (textQ r)).take (n % (textQ r).length)) := takeI_nat _ rfl (by rw [len]; omega)
    have p2 : httpq_Parse 200000 ((ofB (textQ r)).take (n % (textQ r).length)) = some (([], []), (0, 4)) := by
      rw [qparse_ok _ (fun y hy => hAll y (List.mem_of_mem_take hy)) (by rw [List.length_take, len]; omega), back_pre h _ hlt]
    have c0 : ¬ ((((List.length (ofB (textQ r))) : Nat) : Int) = 0) := by rw [len]; omega
    have r1 : roomB (List.length (ofB (textQ r))) 1 = true := Rq _ (by rw [len]; omega)
    have r2 : roomB ((List.length (ofB (textQ r))) + (List.length b)) 1 = true := Rq _ (by rw [len]; omega)
    have bl := big_len
    have hw : wfB (.pair .str .str) (r.1, r.2) = true := by
      show (decide (r.1.length ≤ Go.maxLen) && decide (r.2.length ≤ Go.maxLen)) = true
      rw [decide_eq_true (by omega), decide_eq_true (by omega)]; rfl
    have hlen' : (((List.length (ofB (textQ r))) : Nat) : Int) = (((textQ r).length : Nat) : Int) := by rw [len]
    have d0 : decide ((((textQ r).length : Nat) : Int) = 0) = false := decide_eq_false (by omega)
    simp only [decide_eq_false h1, decide_eq_false h2, decide_eq_false h3, cond_false, cond_true, Option.bind_some, e1, hlq, decide_true, Bool.not_true, r1, r2, p1, hlen', d0, w64, hmod, tk, p2, hw, Bool.and_self, alive15]
  · have hlq : layQ r = ([], 3) := by unfold layQ; exact if_neg h
    have d3 : decide ((3 : Int) = 0) = false := rfl
    have d4 : decide ((((List.length ([] : List Int)) : Nat) : Int) = 0) = true := rfl
    simp only [decide_eq_false h1, decide_eq_false h2, decide_eq_false h3, cond_false, cond_true, Option.bind_some, e1, hlq, d3, d4, Bool.not_false, alive15]
end Go.Proofs.YtfaocnboildjbaaDoor
