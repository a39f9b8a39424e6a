/-
  Layer 22, on plain data: control packets laid, parsed, the same; the law CtlLays.
-/
import Derived.Test.YtdaminjbockmbaaQOGCtl
namespace Go.Proofs.Ytdaminjbockmbaa
set_option maxRecDepth 100000
open Go.RowKit
set_option linter.unusedVariables false
set_option linter.unusedSimpArgs false
set_option maxRecDepth 100000

theorem alive22 : law22_alive 200000 = some true := by decide +kernel
theorem list4 {l : List Int} (h : 4 ≤ l.length) : ∃ x y z w r, l = x :: y :: z :: w :: r := by
  match l, h with
  | x :: y :: z :: w :: r, _ => exact ⟨x, y, z, w, r, rfl⟩
section
variable {N : Nat}
theorem oput2 (n : Int) (h : 0 ≤ n ∧ n < 18446744073709551616) (hN : 10000 ≤ N) : octs_Put N n 2 false = some ([n / 256 % 256, n % 256], 0) := put2 (N := N) n h (by omega)
theorem oput4 (n : Int) (h : 0 ≤ n ∧ n < 18446744073709551616) (hN : 10000 ≤ N) : octs_Put N n 4 false = some ([n / 16777216 % 256, n / 65536 % 256, n / 256 % 256, n % 256], 0) := put4 (N := N) n h (by omega)
theorem oget2 (x y : Int) (hx : 0 ≤ x ∧ x < 256) (hy : 0 ≤ y ∧ y < 256) (hN : 10000 ≤ N) : octs_Get N [x, y] false = some (x * 256 + y, 0) := get2 (N := N) x y hx hy (by omega)
theorem oget4 (x y z u : Int) (hx : 0 ≤ x ∧ x < 256) (hy : 0 ≤ y ∧ y < 256) (hz : 0 ≤ z ∧ z < 256) (hu : 0 ≤ u ∧ u < 256) (hN : 10000 ≤ N) : octs_Get N [x, y, z, u] false = some (((x * 256 + y) * 256 + z) * 256 + u, 0) := get4 (N := N) x y z u hx hy hz hu (by omega)
theorem ojoin (l : List (List Int)) (hl : l.length ≤ 1000) (hs : ∀ p ∈ l, p.length ≤ 100000) (hN : 10000 ≤ N) : octs_Join N l = some l.flatten := join_ok (N := N) l hl hs (by omega)
theorem bigl2 (n : Int) (h : 0 ≤ n ∧ n < 18446744073709551616) (hN : 10000 ≤ N) : qRBigL3R N ((n, ((1 : Int), ())), (([0, 0] : List Int), ())) = some ((), ([n / 256 % 256, n % 256], ())) := by
  have b := big2 (N := N) n h (by omega)
  have c0 : ((decide ((0 : Int) ≤ 2 ∧ (2 : Int) ≤ 2)) && roomB (Int.toNat 2) 1) = true := by decide
  have w : Go.IntKind.wrap .i64 ((2 : Int) - 1) = 1 := by decide
  have r2 : List.replicate (Int.toNat 2) (0 : Int) = [0, 0] := rfl
  unfold qRBig at b
  rw [c0, w, r2] at b
  simp only [cond_true] at b
  obtain ⟨⟨⟨⟩, l, ⟨⟩⟩, h1, h2⟩ := Option.bind_eq_some_iff.1 b
  simp only [Option.some.injEq] at h2
  rw [← h2]; exact h1
theorem bigl4 (n : Int) (h : 0 ≤ n ∧ n < 18446744073709551616) (hN : 10000 ≤ N) : qRBigL3R N ((n, ((3 : Int), ())), (([0, 0, 0, 0] : List Int), ())) = some ((), ([n / 16777216 % 256, n / 65536 % 256, n / 256 % 256, n % 256], ())) := by
  have b := big4 (N := N) n h (by omega)
  have c0 : ((decide ((0 : Int) ≤ 4 ∧ (4 : Int) ≤ 4)) && roomB (Int.toNat 4) 1) = true := by decide
  have w : Go.IntKind.wrap .i64 ((4 : Int) - 1) = 3 := by decide
  have r2 : List.replicate (Int.toNat 4) (0 : Int) = [0, 0, 0, 0] := rfl
  unfold qRBig at b
  rw [c0, w, r2] at b
  simp only [cond_true] at b
  obtain ⟨⟨⟨⟩, l, ⟨⟩⟩, h1, h2⟩ := Option.bind_eq_some_iff.1 b
  simp only [Option.some.injEq] at h2
  rw [← h2]; exact h1
theorem laybig (n : Int) (h : 0 ≤ n ∧ n < 18446744073709551616) (hN : 10000 ≤ N) : ref22_Lay_3_ref01_Big_L3_R N ((n, ((Go.IntKind.wrap .i64 ((2 : Int) - (1 : Int))), ())), (List.replicate (Int.toNat (2 : Int)) (0 : Int), ())) = some ((), ([n / 256 % 256, n % 256], ())) := by
  have w : Go.IntKind.wrap .i64 ((2 : Int) - 1) = 1 := by decide
  rw [w]
  exact bigl2 n h hN
theorem rnum2 (x y : Int) (hx : 0 ≤ x ∧ x < 256) (hy : 0 ≤ y ∧ y < 256) (hN : 10000 ≤ N) : ref01_Num N [x, y] = some (x * 256 + y) := num2 (N := N) x y hx hy (by omega)
theorem rnum4 (x y z u : Int) (hx : 0 ≤ x ∧ x < 256) (hy : 0 ≤ y ∧ y < 256) (hz : 0 ≤ z ∧ z < 256) (hu : 0 ≤ u ∧ u < 256) (hN : 10000 ≤ N) : ref01_Num N [x, y, z, u] = some (((x * 256 + y) * 256 + z) * 256 + u) := num4 (N := N) x y z u hx hy hz hu (by omega)
theorem rsame (a b : List Int) (h : a.length < N) (hb : a.length < 1000000000) : ref01_Same N a b = some (decide (a = b)) := sameF_ok h hb
abbrev Ct := Int × Int × List Int
def wfC (c : Ct) : Prop := (0 ≤ c.1 ∧ c.1 < 256) ∧ (0 ≤ c.2.1 ∧ c.2.1 < 256) ∧ AllB c.2.2
/-! ### Laid -/
def layC (c : Ct) : List Int × Int := if 4000 < c.2.2.length then ([], 8) else (c.1 :: c.2.1 :: ((4 + (c.2.2.length : Int)) / 256) :: ((4 + (c.2.2.length : Int)) % 256) :: c.2.2, 0)
theorem clay_ok (c : Ct) (hl : c.2.2.length ≤ 5000) (hN : 10000 ≤ N) : ctl_Lay N c = some (layC c) := by
  unfold ctl_Lay layC
  have w1 : Go.IntKind.wrap .i64 ((4 : Int) + (c.2.2.length : Int)) = 4 + (c.2.2.length : Int) := wrap64 (by omega) (by omega)
  have w2 : Go.IntKind.wrap .u64 ((4 : Int) + (c.2.2.length : Int)) = 4 + (c.2.2.length : Int) := wrapU64 (by omega) (by omega)
  by_cases hb : 4000 < c.2.2.length
  · have c1 : (4000 : Int) < (c.2.2.length : Int) := by omega
    simp [c1, hb]
  · have c1 : ¬ (4000 : Int) < (c.2.2.length : Int) := by omega
    rw [decide_eq_false c1, w1, w2, oput2 _ (by omega) hN]
    simp only [cond_false, Option.bind_some]
    rw [ojoin _ (by simp) (fun p hp => by
      simp only [List.mem_cons, List.not_mem_nil, or_false] at hp
      rcases hp with rfl | rfl | rfl
      · simp
      · simp
      · omega) hN]
    have e1 : (4 + (c.2.2.length : Int)) / 256 % 256 = (4 + (c.2.2.length : Int)) / 256 := by omega
    simp [hb, e1]
theorem crlay_ok (c : Ct) (hl : c.2.2.length ≤ 5000) (hN : 10000 ≤ N) : ref22_Lay N c = some (layC c) := by
  unfold ref22_Lay layC
  have w1 : Go.IntKind.wrap .i64 ((4 : Int) + (c.2.2.length : Int)) = 4 + (c.2.2.length : Int) := wrap64 (by omega) (by omega)
  have w2 : Go.IntKind.wrap .u64 ((4 : Int) + (c.2.2.length : Int)) = 4 + (c.2.2.length : Int) := wrapU64 (by omega) (by omega)
  by_cases hb : 4000 < c.2.2.length
  · have c1 : (4000 : Int) < (c.2.2.length : Int) := by omega
    simp [c1, hb]
  · have c1 : ¬ (4000 : Int) < (c.2.2.length : Int) := by omega
    have e1 : (4 + (c.2.2.length : Int)) / 256 % 256 = (4 + (c.2.2.length : Int)) / 256 := by omega
    have r1 : ∀ x y : Int, roomB (([c.1, c.2.1] : List Int).length + ([x, y] : List Int).length) 1 = true := fun x y => by simp only [List.length_cons, List.length_nil]; decide
    have r2 : ∀ x y : Int, roomB ((([c.1, c.2.1] : List Int) ++ [x, y]).length + c.2.2.length) 1 = true := fun x y => roomB_of (by have := big_len; simp only [List.length_append, List.length_cons, List.length_nil]; omega) (by simp only [List.length_append, List.length_cons, List.length_nil]; omega)
    rw [decide_eq_false c1, w1, w2]
    simp only [cond_false]
    rw [laybig _ (by omega) hN]
    simp only [Option.bind_some, r1, r2, List.isEmpty_cons, Bool.not_false, Bool.and_true, cond_true, e1, hb, if_false]
    simp
/-! ### Parsed -/
def parC (b : List Int) : Ct × Int :=
  if b.length < 4 then ((0, 0, []), 4) else if b.getD 2 0 * 256 + b.getD 3 0 < 4 then ((0, 0, []), 3) else if (b.length : Int) < b.getD 2 0 * 256 + b.getD 3 0 then ((0, 0, []), 4) else if 4004 < b.getD 2 0 * 256 + b.getD 3 0 then ((0, 0, []), 8) else
    ((b.getD 0 0, b.getD 1 0, (b.drop 4).take ((b.getD 2 0 * 256 + b.getD 3 0).toNat - 4)), 0)
theorem cpar_ok (b : List Int) (hl : b.length ≤ 100000) (hw : AllB b) (hN : 10000 ≤ N) : ctl_Parse N b = some (parC b) := by
  unfold ctl_Parse parC
  by_cases h4 : b.length < 4
  · have c1 : (b.length : Int) < 4 := by omega
    rw [decide_eq_true c1, if_pos h4]; rfl
  · have c1 : ¬ (b.length : Int) < 4 := by omega
    obtain ⟨x, y, z, u, r, rfl⟩ := list4 (by omega : 4 ≤ b.length)
    have bz := hw z (by simp)
    have bu := hw u (by simp)
    rw [decide_eq_false c1, if_neg h4]
    have s1 : subI (x :: y :: z :: u :: r) (2 : Int) 4 = some [z, u] := subI_nat _ (i := 2) (j := 4) rfl rfl (by omega) (by simp)
    have g0 : getI (x :: y :: z :: u :: r) (0 : Int) = some x := rfl
    have g1 : getI (x :: y :: z :: u :: r) (1 : Int) = some y := rfl
    have w1 : Go.IntKind.wrap .i64 (z * 256 + u) = z * 256 + u := wrap64 (by omega) (by omega)
    simp only [cond_false, s1, Option.bind_some, oget2 z u bz bu hN, g0, g1, w1, List.getD_cons_zero, List.getD_cons_succ]
    generalize hL : (x :: y :: z :: u :: r : List Int) = L at *
    by_cases h1 : z * 256 + u < 4
    · simp [h1]
    · by_cases h2 : (L.length : Int) < z * 256 + u
      · simp [h1, h2]
      · by_cases h3 : 4004 < z * 256 + u
        · simp [h1, h2, h3]
        · have s2 := subI_nat L (a := (4 : Int)) (b := z * 256 + u) (i := 4) (j := (z * 256 + u).toNat) rfl (by omega) (by omega) (by omega)
          have hc : slices_Clone_byte_byte N ((L.drop 4).take ((z * 256 + u).toNat - 4)) = some ((L.drop 4).take ((z * 256 + u).toNat - 4)) := clone_ok _ (by rw [List.length_take, List.length_drop]; omega)
          simp [h1, h2, h3, s2, hc]
theorem crpar_ok (b : List Int) (hl : b.length ≤ 100000) (hw : AllB b) (hN : 10000 ≤ N) : ref22_Parse N b = some (parC b) := by
  unfold ref22_Parse parC
  by_cases h4 : b.length < 4
  · have c1 : (b.length : Int) < 4 := by omega
    rw [decide_eq_true c1, if_pos h4]; rfl
  · have c1 : ¬ (b.length : Int) < 4 := by omega
    obtain ⟨x, y, z, u, r, rfl⟩ := list4 (by omega : 4 ≤ b.length)
    have bz := hw z (by simp)
    have bu := hw u (by simp)
    rw [decide_eq_false c1, if_neg h4]
    have s1 : subI (x :: y :: z :: u :: r) (2 : Int) 4 = some [z, u] := subI_nat _ (i := 2) (j := 4) rfl rfl (by omega) (by simp)
    have g0 : getI (x :: y :: z :: u :: r) (0 : Int) = some x := rfl
    have g1 : getI (x :: y :: z :: u :: r) (1 : Int) = some y := rfl
    have w1 : Go.IntKind.wrap .i64 (z * 256 + u) = z * 256 + u := wrap64 (by omega) (by omega)
    have w2 : Go.IntKind.wrap .i64 (z * 256 + u - 4) = z * 256 + u - 4 := wrap64 (by omega) (by omega)
    simp only [cond_false, s1, Option.bind_some, rnum2 z u bz bu hN, g0, g1, w1, w2, List.getD_cons_zero, List.getD_cons_succ]
    generalize hL : (x :: y :: z :: u :: r : List Int) = L at *
    by_cases h1 : z * 256 + u < 4
    · simp [h1]
    · by_cases h2 : (L.length : Int) < z * 256 + u
      · simp [h1, h2]
      · by_cases h3 : 4004 < z * 256 + u
        · have h3' : 4000 < z * 256 + u - 4 := by omega
          simp [h1, h2, h3, h3']
        · have h3' : ¬ 4000 < z * 256 + u - 4 := by omega
          have s2 := subI_nat L (a := (4 : Int)) (b := z * 256 + u) (i := 4) (j := (z * 256 + u).toNat) rfl (by omega) (by omega) (by omega)
          simp [h1, h2, h3, h3', s2]
theorem parC_wf (b : List Int) (hw : AllB b) : wfC (parC b).1 ∧ (parC b).1.2.2.length ≤ b.length := by
  have hz : wfC ((0 : Int), (0 : Int), ([] : List Int)) := ⟨by decide, by decide, AllB.nil⟩
  have hg : ∀ i, i < b.length → 0 ≤ b.getD i 0 ∧ b.getD i 0 < 256 := fun i hi => by
    rw [List.getD_eq_getElem?_getD, List.getElem?_eq_getElem hi]
    exact hw.get i hi
  unfold parC
  split
  · exact ⟨hz, by simp⟩
  · rename_i h4
    split
    · exact ⟨hz, by simp⟩
    · split
      · exact ⟨hz, by simp⟩
      · split
        · exact ⟨hz, by simp⟩
        · refine ⟨⟨hg 0 (by omega), hg 1 (by omega), (hw.drop _).take _⟩, ?_⟩
          show ((b.drop 4).take _).length ≤ _
          rw [List.length_take, List.length_drop]; omega
theorem layC_back (c : Ct) (b : List Int) (h : (layC c).2 = 0) : parC ((layC c).1 ++ b) = (c, 0) := by
  unfold layC at h ⊢
  split at h
  · cases h
  · rename_i hl
    rw [if_neg hl]
    have e1 : (4 + (c.2.2.length : Int)) / 256 * 256 + (4 + (c.2.2.length : Int)) % 256 = 4 + (c.2.2.length : Int) := by omega
    have e2 : (4 + (c.2.2.length : Int)).toNat - 4 = c.2.2.length := by omega
    unfold parC
    simp only [List.cons_append, List.length_cons, List.getD_cons_zero, List.getD_cons_succ, e1, List.drop_succ_cons, List.drop_zero, e2, List.length_append]
    rw [if_neg (by omega), if_neg (by omega), if_neg (by omega), if_neg (by omega)]
    rw [List.take_left]
theorem csame_ok (a b : Ct) (ha : wfC a) (hb : wfC b) : ctl_Same N a b = some (decide (a = b)) := by
  unfold ctl_Same bytes_Equal
  rw [toBy_map ha.2.2, toBy_map hb.2.2]
  simp only [Option.bind_some, bytes_dec ha.2.2 hb.2.2]
  obtain ⟨a1, a2, a3⟩ := a
  obtain ⟨b1, b2, b3⟩ := b
  by_cases e1 : a1 = b1 <;> by_cases e2 : a2 = b2 <;> by_cases e3 : a3 = b3 <;> simp [e1, e2, e3]
theorem crsame_ok (a b : Ct) (hl : a.2.2.length ≤ 9000) (hN : 10000 ≤ N) : ref22_Same N a b = some (decide (a = b)) := by
  have h : ref01_Same N a.2.2 b.2.2 = some (decide (a.2.2 = b.2.2)) := rsame _ _ (by omega) (by omega)
  unfold ref22_Same
  rw [h]
  obtain ⟨a1, a2, a3⟩ := a
  obtain ⟨b1, b2, b3⟩ := b
  by_cases e1 : a1 = b1 <;> by_cases e2 : a2 = b2 <;> by_cases e3 : a3 = b3 <;> simp [e1, e2, e3]
theorem layC_wf (c : Ct) (hc : wfC c) (hl : c.2.2.length ≤ 5000) : (layC c).1.length ≤ 6000 ∧ AllB (layC c).1 := by
  unfold layC
  split
  · exact ⟨by simp, AllB.nil⟩
  · refine ⟨by simp only [List.length_cons]; omega, ?_⟩
    exact AllB.cons hc.1 (AllB.cons hc.2.1 (AllB.cons (by omega) (AllB.cons (by omega) hc.2.2)))
end
theorem wf_ct {c : Ct} (h : wfT (.pair (.int .u8) (.pair (.int .u8) (.sl (.int .u8)))) c) : wfC c := ⟨wf_u8 h.1, wf_u8 h.2.1, wf_bytes h.2.2⟩
theorem law_CtlLays (c : Ct) (b : List Int) (h1 : wfT (.pair (.int .u8) (.pair (.int .u8) (.sl (.int .u8)))) c) (h2 : wfT (.sl (.int .u8)) b) : law22_CtlLays 200000 c b = some true := by
  have wc := wf_ct h1
  have wb := wf_bytes h2
  unfold law22_CtlLays
  by_cases ha : (4500 : Int) < (c.2.2.length : Int)
  · simp only [ha, decide_true, cond_true, alive22, Option.bind_some]
  · by_cases hb : (4500 : Int) < (b.length : Int)
    · simp only [ha, hb, decide_true, decide_false, cond_true, cond_false, alive22, Option.bind_some]
    · simp only [ha, hb, decide_false, cond_false]
      have la : c.2.2.length ≤ 4500 := by omega
      have lb : b.length ≤ 4500 := by omega
      obtain ⟨hx1, hx2⟩ := layC_wf c wc (by omega)
      have hback := layC_back c b
      have hpw := parC_wf b wb
      have hpw2 := parC_wf ((layC c).1 ++ b) (hx2.append wb)
      have e1 : ctl_Lay 200000 (c.1, (c.2.1, c.2.2)) = some (layC c) := clay_ok c (by omega) (by omega)
      have e2 : ref22_Lay 200000 (c.1, (c.2.1, c.2.2)) = some (layC c) := crlay_ok c (by omega) (by omega)
      have e3 : ctl_Parse 200000 ((layC c).1 ++ b) = some (parC ((layC c).1 ++ b)) := cpar_ok _ (by rw [List.length_append]; omega) (hx2.append wb) (by omega)
      have s1 : ref01_Same 200000 (layC c).1 (layC c).1 = some (decide ((layC c).1 = (layC c).1)) := rsame _ _ (by omega) (by omega)
      have s2 : ctl_Same 200000 ((parC b).1.1, ((parC b).1.2.1, (parC b).1.2.2)) ((parC b).1.1, ((parC b).1.2.1, (parC b).1.2.2)) = some (decide ((parC b).1 = (parC b).1)) := csame_ok (parC b).1 (parC b).1 hpw.1 hpw.1
      have s3 : ctl_Same 200000 ((parC b).1.1, ((parC b).1.2.1, (parC b).1.2.2)) (c.1, (c.2.1, c.2.2)) = some (decide ((parC b).1 = c)) := csame_ok (parC b).1 c hpw.1 wc
      have s4 : ref22_Same 200000 ((parC b).1.1, ((parC b).1.2.1, (parC b).1.2.2)) (c.1, (c.2.1, c.2.2)) = some (decide ((parC b).1 = c)) := crsame_ok (parC b).1 c (by have := hpw.2; omega) (by omega)
      have s5 : ctl_Same 200000 ((parC ((layC c).1 ++ b)).1.1, ((parC ((layC c).1 ++ b)).1.2.1, (parC ((layC c).1 ++ b)).1.2.2)) (c.1, (c.2.1, c.2.2)) = some (decide ((parC ((layC c).1 ++ b)).1 = c)) := csame_ok (parC ((layC c).1 ++ b)).1 c hpw2.1 wc
      have r1 : roomB (layC c).1.length 1 = true := roomB_of (by have := big_len; omega) (by omega)
      have r2 : roomB ((layC c).1.length + b.length) 1 = true := roomB_of (by have := big_len; omega) (by omega)
      rw [e1, Option.bind_some, e2, Option.bind_some, cpar_ok b (by omega) wb (by omega), Option.bind_some, crpar_ok b (by omega) wb (by omega), Option.bind_some, r1, cond_true, r2, cond_true, e3, Option.bind_some, s1, Option.bind_some]
      simp only [decide_true, cond_true, s2, Option.bind_some, s3, s4]
      by_cases hz : (layC c).2 = 0
      · have hh := hback hz
        rw [s5, hh]
        simp [hz, alive22]
      · simp [hz, alive22]
end Go.Proofs.Ytdaminjbockmbaa
