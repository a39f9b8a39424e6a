/-
  Layer 18, on plain data: attributes laid, parsed, the same.
-/
import Derived.Test.YtpijcgohhjgdbaaQOcts
import Derived.Test.YtpijcgohhjgdbaaGRfw
namespace Go.Proofs.Ytpijcgohhjgdbaa
set_option maxRecDepth 100000
open Go.RowKit
set_option linter.unusedVariables false
set_option linter.unusedSimpArgs false
set_option maxRecDepth 100000

theorem wfu8 {n : Int} (h : 0 ≤ n ∧ n < 256) : (Lit.int .u8 n).wf = true := by
  simp only [Lit.wf, Bool.and_eq_true, decide_eq_true_eq, IntKind.min, IntKind.max, IntKind.signed, IntKind.bits]
  simp
  omega
theorem list4 {l : List Int} (h : 4 ≤ l.length) : ∃ x y z w r, l = x :: y :: z :: w :: r := by
  match l, h with
  | x :: y :: z :: w :: r, _ => exact ⟨x, y, z, w, r, rfl⟩
section
variable {N : Nat}
theorem oput2 (n : Int) (h : 0 ≤ n ∧ n < 18446744073709551616) (hN : 10000 ≤ N) : octs_Put N n 2 false = some ([n / 256 % 256, n % 256], 0) := put2 (N := N) n h (by omega)
theorem oget2 (x y : Int) (hx : 0 ≤ x ∧ x < 256) (hy : 0 ≤ y ∧ y < 256) (hN : 10000 ≤ N) : octs_Get N [x, y] false = some (x * 256 + y, 0) := get2 (N := N) x y hx hy (by omega)
theorem ojoin (l : List (List Int)) (hl : l.length ≤ 1000) (hs : ∀ p ∈ l, p.length ≤ 100000) (hN : 10000 ≤ N) : octs_Join N l = some l.flatten := join_ok (N := N) l hl hs (by omega)
theorem bigl2 (n : Int) (h : 0 ≤ n ∧ n < 18446744073709551616) (hN : 10000 ≤ N) : qRBigL3R N ((n, ((1 : Int), ())), (([0, 0] : List Int), ())) = some ((), ([n / 256 % 256, n % 256], ())) := by
  have b := big2 (N := N) n h (by omega)
  have c0 : ((decide ((0 : Int) ≤ 2 ∧ (2 : Int) ≤ 2)) && roomB (Int.toNat 2) 1) = true := by decide
  have w : Go.IntKind.wrap .i64 ((2 : Int) - 1) = 1 := by decide
  have r2 : List.replicate (Int.toNat 2) (0 : Int) = [0, 0] := rfl
  unfold qRBig at b
  rw [c0, w, r2] at b
  simp only [cond_true] at b
  obtain ⟨⟨⟨⟩, l, ⟨⟩⟩, h1, h2⟩ := Option.bind_eq_some_iff.1 b
  simp only [Option.some.injEq] at h2
  rw [← h2]; exact h1
theorem rnum2 (x y : Int) (hx : 0 ≤ x ∧ x < 256) (hy : 0 ≤ y ∧ y < 256) (hN : 10000 ≤ N) : ref01_Num N [x, y] = some (x * 256 + y) := num2 (N := N) x y hx hy (by omega)
theorem oclone (s : List Int) (h : s.length ≤ 1000000) : slices_Clone_byte_byte N s = some s := by
  have : roomB s.length 1 = true := roomB_of (by have := big_len; omega) (by omega)
  cases s <;> simp_all [slices_Clone_byte_byte, slices_Clone_byte_byte_ne]
abbrev At2 := Int × List Int
def kindB (k : Int) : Bool := decide (1 ≤ k ∧ k ≤ 4)
theorem kind_ok (k : Int) : attr_isKind N k = some (kindB k) := by
  unfold attr_isKind kindB
  by_cases h1 : 1 ≤ k <;> by_cases h2 : k ≤ 4 <;> simp [h1, h2]
theorem rkind_ok (k : Int) : ref17_kind N k = some (kindB k) := by
  unfold ref17_kind kindB
  by_cases h1 : 1 ≤ k <;> by_cases h2 : k ≤ 4 <;> simp [h1, h2]
/-! ### Laid -/
def layA (a : At2) : List Int × Int := if kindB a.1 = false then ([], 9) else if 4091 < a.2.length then ([], 8) else (0 :: a.1 :: ((4 + (a.2.length : Int)) / 256) :: ((4 + (a.2.length : Int)) % 256) :: a.2, 0)
theorem alay_ok (a : At2) (hl : a.2.length ≤ 5000) (hN : 10000 ≤ N) : attr_Lay N a = some (layA a) := by
  unfold attr_Lay layA
  rw [kind_ok]
  simp only [Option.bind_some]
  cases hk : kindB a.1 with
  | false => simp
  | true =>
    have w1 : Go.IntKind.wrap .i64 ((4 : Int) + (a.2.length : Int)) = 4 + (a.2.length : Int) := wrap64 (by omega) (by omega)
    have w2 : Go.IntKind.wrap .u64 ((4 : Int) + (a.2.length : Int)) = 4 + (a.2.length : Int) := wrapU64 (by omega) (by omega)
    simp only [Bool.not_true, cond_false, w1]
    by_cases hb : 4091 < a.2.length
    · have c1 : (4095 : Int) < 4 + (a.2.length : Int) := by omega
      simp [c1, hb]
    · have c1 : ¬ (4095 : Int) < 4 + (a.2.length : Int) := by omega
      rw [decide_eq_false c1, w2, oput2 _ (by omega) hN]
      simp only [cond_false, Option.bind_some]
      rw [ojoin _ (by simp) (fun p hp => by
        simp only [List.mem_cons, List.not_mem_nil, or_false] at hp
        rcases hp with rfl | rfl | rfl
        · simp
        · simp
        · omega) hN]
      have e1 : (4 + (a.2.length : Int)) / 256 % 256 = (4 + (a.2.length : Int)) / 256 := by omega
      simp [hb, e1]
def parA (b : List Int) : At2 × Int × Int :=
  if b.length < 4 then ((0, []), (0, 4)) else if b.getD 0 0 ≠ 0 ∨ b.getD 2 0 * 256 + b.getD 3 0 < 4 ∨ 4095 < b.getD 2 0 * 256 + b.getD 3 0 then ((0, []), (0, 3)) else if kindB (b.getD 1 0) = false then ((0, []), (0, 9)) else
    if (b.length : Int) < b.getD 2 0 * 256 + b.getD 3 0 then ((0, []), (0, 4)) else ((b.getD 1 0, (b.drop 4).take ((b.getD 2 0 * 256 + b.getD 3 0).toNat - 4)), (b.getD 2 0 * 256 + b.getD 3 0, 0))
theorem apar_ok (b : List Int) (hl : b.length ≤ 100000) (hw : AllB b) (hN : 10000 ≤ N) : attr_Parse N b = some (parA b) := by
  unfold attr_Parse parA
  by_cases h4 : b.length < 4
  · have c1 : (b.length : Int) < 4 := by omega
    rw [decide_eq_true c1, if_pos h4]; rfl
  · have c1 : ¬ (b.length : Int) < 4 := by omega
    obtain ⟨x, y, z, u, r, rfl⟩ := list4 (by omega : 4 ≤ b.length)
    have bx := hw x (by simp)
    have by' := hw y (by simp)
    have bz := hw z (by simp)
    have bu := hw u (by simp)
    rw [decide_eq_false c1, if_neg h4]
    have s1 : subI (x :: y :: z :: u :: r) (2 : Int) 4 = some [z, u] := subI_nat _ (i := 2) (j := 4) rfl rfl (by omega) (by simp)
    have g0 : getI (x :: y :: z :: u :: r) (0 : Int) = some x := rfl
    have g1 : getI (x :: y :: z :: u :: r) (1 : Int) = some y := rfl
    have w1 : Go.IntKind.wrap .i64 (z * 256 + u) = z * 256 + u := wrap64 (by omega) (by omega)
    simp only [cond_false, s1, Option.bind_some, oget2 z u bz bu hN, g0, g1, w1, kind_ok, List.getD_cons_zero, List.getD_cons_succ]
    by_cases hx : x = 0
    · by_cases h1 : z * 256 + u < 4
      · simp [hx, h1]
      · by_cases h2 : 4095 < z * 256 + u
        · simp [hx, h1, h2]
        · cases hk : kindB y with
          | false => simp [hx, h1, h2]
          | true =>
            generalize hL : (x :: y :: z :: u :: r : List Int) = L at *
            by_cases h3 : (L.length : Int) < z * 256 + u
            · simp [hx, h1, h2, h3]
            · have s2 := subI_nat L (a := (4 : Int)) (b := z * 256 + u) (i := 4) (j := (z * 256 + u).toNat) rfl (by omega) (by omega) (by omega)
              have hc : slices_Clone_byte_byte N ((L.drop 4).take ((z * 256 + u).toNat - 4)) = some ((L.drop 4).take ((z * 256 + u).toNat - 4)) := oclone _ (by rw [List.length_take, List.length_drop]; omega)
              simp [hx, h1, h2, h3, s2, hc]
    · simp [hx]
theorem arpar_ok (b : List Int) (hl : b.length ≤ 100000) (hw : AllB b) (hN : 10000 ≤ N) : ref17_Parse N b = some (parA b) := by
  unfold ref17_Parse parA
  by_cases h4 : b.length < 4
  · have c1 : (b.length : Int) < 4 := by omega
    rw [decide_eq_true c1, if_pos h4]; rfl
  · have c1 : ¬ (b.length : Int) < 4 := by omega
    obtain ⟨x, y, z, u, r, rfl⟩ := list4 (by omega : 4 ≤ b.length)
    have bx := hw x (by simp)
    have by' := hw y (by simp)
    have bz := hw z (by simp)
    have bu := hw u (by simp)
    rw [decide_eq_false c1, if_neg h4]
    have s1 : subI (x :: y :: z :: u :: r) (2 : Int) 4 = some [z, u] := subI_nat _ (i := 2) (j := 4) rfl rfl (by omega) (by simp)
    have g0 : getI (x :: y :: z :: u :: r) (0 : Int) = some x := rfl
    have g1 : getI (x :: y :: z :: u :: r) (1 : Int) = some y := rfl
    have w1 : Go.IntKind.wrap .i64 (z * 256 + u) = z * 256 + u := wrap64 (by omega) (by omega)
    simp only [cond_false, s1, Option.bind_some, rnum2 z u bz bu hN, g0, g1, w1, rkind_ok, List.getD_cons_zero, List.getD_cons_succ]
    by_cases hx : x = 0
    · by_cases h1 : z * 256 + u < 4
      · simp [hx, h1]
      · by_cases h2 : 4095 < z * 256 + u
        · simp [hx, h1, h2]
        · cases hk : kindB y with
          | false => simp [hx, h1, h2]
          | true =>
            generalize hL : (x :: y :: z :: u :: r : List Int) = L at *
            by_cases h3 : (L.length : Int) < z * 256 + u
            · simp [hx, h1, h2, h3]
            · have s2 := subI_nat L (a := (4 : Int)) (b := z * 256 + u) (i := 4) (j := (z * 256 + u).toNat) rfl (by omega) (by omega) (by omega)
              simp [hx, h1, h2, h3, s2]
    · simp [hx]
/-- Attributes of bytes. -/
def wfA (a : At2) : Prop := (0 ≤ a.1 ∧ a.1 < 256) ∧ AllB a.2
theorem parA_wf (b : List Int) (hw : AllB b) : wfA (parA b).1 ∧ (parA b).1.2.length ≤ b.length := by
  have hz : wfA ((0 : Int), ([] : List Int)) := ⟨by decide, AllB.nil⟩
  unfold parA
  split
  · exact ⟨hz, by simp⟩
  · rename_i h4
    split
    · exact ⟨hz, by simp⟩
    · split
      · exact ⟨hz, by simp⟩
      · split
        · exact ⟨hz, by simp⟩
        · refine ⟨⟨?_, (hw.drop _).take _⟩, ?_⟩
          · have : b.getD 1 0 = b[1]'(by omega) := by rw [List.getD_eq_getElem?_getD, List.getElem?_eq_getElem (by omega)]; rfl
            rw [this]
            exact hw.get 1 (by omega)
          · show ((b.drop 4).take _).length ≤ _
            rw [List.length_take, List.length_drop]; omega
theorem layA_back (a : At2) (ha : wfA a) (b : List Int) (h : (layA a).2 = 0) : parA ((layA a).1 ++ b) = (a, (((layA a).1.length : Int), 0)) := by
  unfold layA at h ⊢
  split at h
  · cases h
  · rename_i hk
    split at h
    · cases h
    · rename_i hl
      have hk' : kindB a.1 = true := by cases hh : kindB a.1 <;> simp_all
      rw [if_neg hk, if_neg hl]
      have e1 : (4 + (a.2.length : Int)) / 256 * 256 + (4 + (a.2.length : Int)) % 256 = 4 + (a.2.length : Int) := by omega
      have e2 : (4 + (a.2.length : Int)).toNat - 4 = a.2.length := by omega
      unfold parA
      simp only [List.cons_append, List.length_cons, List.getD_cons_zero, List.getD_cons_succ, e1, hk', List.drop_succ_cons, List.drop_zero, e2, List.length_append]
      rw [if_neg (by omega), if_neg (by omega), if_neg (by decide), if_neg (by omega)]
      rw [List.take_left]
      simp only [Prod.mk.injEq, and_true, true_and]
      omega
theorem asame_ok (a b : At2) (ha : wfA a) (hb : wfA b) (la : a.2.length ≤ 100000) (lb : b.2.length ≤ 100000) : attr_Same N a b = some (decide (a = b)) := by
  have hlen : ∀ l : List Int, l.length ≤ 100000 → decide ((l.map byteOf).length ≤ maxLen) = true := fun l h => decide_eq_true (by have := big_len; rw [List.length_map]; omega)
  have hd : (@Decidable.decide (@Eq (Int × (List UInt8)) (a.1, a.2.map byteOf) (b.1, b.2.map byteOf)) (decT (.pair (.int .u8) .str) (a.1, a.2.map byteOf) (b.1, b.2.map byteOf))) = decide (a = b) := by
    rw [decide_eq_decide]
    obtain ⟨a1, a2⟩ := a
    obtain ⟨b1, b2⟩ := b
    constructor
    · intro h
      simp only [Prod.mk.injEq] at h
      have e : a2 = b2 := bytes_inj ha.2 hb.2 h.2
      rw [h.1, e]
    · intro h; rw [h]
  unfold attr_Same
  rw [toBy_map ha.2, toBy_map hb.2]
  simp only [Option.bind_some, wfB, wfu8 ha.1, wfu8 hb.1, hlen _ la, hlen _ lb, Bool.and_true, Bool.and_self, cond_true]
  rw [hd]
/-- What is parsed is laid again. -/
theorem parA_back (b : List Int) (hw : AllB b) (h : (parA b).2.2 = 0) : 4 ≤ (parA b).2.1 ∧ (parA b).2.1 ≤ (b.length : Int) ∧ layA (parA b).1 = (b.take (parA b).2.1.toNat, 0) := by
  unfold parA at h ⊢
  by_cases h4 : b.length < 4
  · rw [if_pos h4] at h; cases h
  · rw [if_neg h4] at h ⊢
    by_cases h5 : b.getD 0 0 ≠ 0 ∨ b.getD 2 0 * 256 + b.getD 3 0 < 4 ∨ 4095 < b.getD 2 0 * 256 + b.getD 3 0
    · rw [if_pos h5] at h; cases h
    · rw [if_neg h5] at h ⊢
      by_cases h6 : kindB (b.getD 1 0) = false
      · rw [if_pos h6] at h; cases h
      · rw [if_neg h6] at h ⊢
        by_cases h7 : (b.length : Int) < b.getD 2 0 * 256 + b.getD 3 0
        · rw [if_pos h7] at h; cases h
        · rw [if_neg h7]
          obtain ⟨x, y, z, u, r, rfl⟩ := list4 (by omega : 4 ≤ b.length)
          have bz := hw z (by simp)
          have bu := hw u (by simp)
          simp only [List.getD_cons_zero, List.getD_cons_succ] at h5 h6 h7 ⊢
          have hn : 4 ≤ z * 256 + u ∧ z * 256 + u ≤ 4095 := by omega
          have hx : x = 0 := by omega
          refine ⟨hn.1, by omega, ?_⟩
          obtain ⟨m, hm⟩ : ∃ m : Nat, (z * 256 + u).toNat = m + 4 := ⟨(z * 256 + u).toNat - 4, by omega⟩
          have hl : (((x :: y :: z :: u :: r).drop 4).take ((z * 256 + u).toNat - 4)).length = m := by
            simp only [List.length_take, List.drop_succ_cons, List.drop_zero]
            simp only [List.length_cons] at h7
            omega
          unfold layA
          simp only [hl]
          rw [if_neg h6, if_neg (by omega), hm]
          have e1 : ((4 : Int) + (m : Int)) / 256 = z := by omega
          have e2 : ((4 : Int) + (m : Int)) % 256 = u := by omega
          rw [e1, e2, hx]
          simp
end
end Go.Proofs.Ytpijcgohhjgdbaa
