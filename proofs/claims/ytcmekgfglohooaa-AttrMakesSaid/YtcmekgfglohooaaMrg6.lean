/-
  Parts of my own, one behind the other: QAM0, QAM1, QAM2, QAM3.
-/
import Derived.Test.YtcmekgfglohooaaMrg4
import Derived.Test.YtcmekgfglohooaaMrg5
/-
  Layer 17, on plain data: attributes laid, parsed, checked.
-/
namespace Go.Proofs.Ytcmekgfglohooaa
set_option maxRecDepth 100000
open Go.RowKit
set_option linter.unusedVariables false
set_option linter.unusedSimpArgs false
set_option maxRecDepth 100000

theorem wfu8 {n : Int} (h : 0 ≤ n ∧ n < 256) : (Lit.int .u8 n).wf = true := by
  simp only [Lit.wf, Bool.and_eq_true, decide_eq_true_eq, IntKind.min, IntKind.max, IntKind.signed, IntKind.bits]
  simp
  omega
theorem list4 {l : List Int} (h : 4 ≤ l.length) : ∃ x y z w r, l = x :: y :: z :: w :: r := by
  match l, h with
  | x :: y :: z :: w :: r, _ => exact ⟨x, y, z, w, r, rfl⟩
section
variable {N : Nat}
theorem oput2 (n : Int) (h : 0 ≤ n ∧ n < 18446744073709551616) (hN : 10000 ≤ N) : octs_Put N n 2 false = some ([n / 256 % 256, n % 256], 0) := put2 (N := N) n h (by omega)
theorem oput4 (n : Int) (h : 0 ≤ n ∧ n < 18446744073709551616) (hN : 10000 ≤ N) : octs_Put N n 4 false = some ([n / 16777216 % 256, n / 65536 % 256, n / 256 % 256, n % 256], 0) := put4 (N := N) n h (by omega)
theorem oget2 (x y : Int) (hx : 0 ≤ x ∧ x < 256) (hy : 0 ≤ y ∧ y < 256) (hN : 10000 ≤ N) : octs_Get N [x, y] false = some (x * 256 + y, 0) := get2 (N := N) x y hx hy (by omega)
theorem oget4 (x y z u : Int) (hx : 0 ≤ x ∧ x < 256) (hy : 0 ≤ y ∧ y < 256) (hz : 0 ≤ z ∧ z < 256) (hu : 0 ≤ u ∧ u < 256) (hN : 10000 ≤ N) : octs_Get N [x, y, z, u] false = some (((x * 256 + y) * 256 + z) * 256 + u, 0) := get4 (N := N) x y z u hx hy hz hu (by omega)
theorem ojoin (l : List (List Int)) (hl : l.length ≤ 1000) (hs : ∀ p ∈ l, p.length ≤ 100000) (hN : 10000 ≤ N) : octs_Join N l = some l.flatten := join_ok (N := N) l hl hs (by omega)
theorem rbig2 (n : Int) (h : 0 ≤ n ∧ n < 18446744073709551616) (hN : 10000 ≤ N) : ref01_Big N n 2 = some [n / 256 % 256, n % 256] := big2 (N := N) n h (by omega)
theorem rnum2 (x y : Int) (hx : 0 ≤ x ∧ x < 256) (hy : 0 ≤ y ∧ y < 256) (hN : 10000 ≤ N) : ref01_Num N [x, y] = some (x * 256 + y) := num2 (N := N) x y hx hy (by omega)
theorem rsame (a b : List Int) (h : a.length < N) (hb : a.length < 1000000000) : ref01_Same N a b = some (decide (a = b)) := sameF_ok h hb
theorem oclone (s : List Int) (h : s.length ≤ 1000000) : slices_Clone_byte_byte N s = some s := by
  unfold slices_Clone_byte_byte slices_Clone_byte_byte_ne
  cases s with
  | nil => rfl
  | cons x s =>
    have : roomB (x :: s).length 1 = true := roomB_of (by have := big_len; omega) (by omega)
    simp only [List.isEmpty_cons, cond_false, this, cond_true]
abbrev At2 := Int × List Int
def kindB (k : Int) : Bool := decide (1 ≤ k ∧ k ≤ 4)
theorem kind_ok (k : Int) : attr_isKind N k = some (kindB k) := by
  unfold attr_isKind kindB
  by_cases h1 : 1 ≤ k <;> by_cases h2 : k ≤ 4 <;> simp [h1, h2]
theorem rkind_ok (k : Int) : ref17_kind N k = some (kindB k) := by
  unfold ref17_kind kindB
  by_cases h1 : 1 ≤ k <;> by_cases h2 : k ≤ 4 <;> simp [h1, h2]
/-! ### Laid -/
def layA (a : At2) : List Int × Int := if kindB a.1 = false then ([], 9) else if 4091 < a.2.length then ([], 8) else (0 :: a.1 :: ((4 + (a.2.length : Int)) / 256) :: ((4 + (a.2.length : Int)) % 256) :: a.2, 0)
theorem alay_ok (a : At2) (hl : a.2.length ≤ 5000) (hN : 10000 ≤ N) : attr_Lay N a = some (layA a) := by
  unfold attr_Lay layA
  rw [kind_ok]
  simp only [Option.bind_some]
  cases hk : kindB a.1 with
  | false => simp
  | true =>
    have w1 : Go.IntKind.wrap .i64 ((4 : Int) + (a.2.length : Int)) = 4 + (a.2.length : Int) := wrap64 (by omega) (by omega)
    have w2 : Go.IntKind.wrap .u64 ((4 : Int) + (a.2.length : Int)) = 4 + (a.2.length : Int) := wrapU64 (by omega) (by omega)
    simp only [Bool.not_true, cond_false, w1]
    by_cases hb : 4091 < a.2.length
    · have c1 : (4095 : Int) < 4 + (a.2.length : Int) := by omega
      simp [c1, hb]
    · have c1 : ¬ (4095 : Int) < 4 + (a.2.length : Int) := by omega
      rw [decide_eq_false c1, w2, oput2 _ (by omega) hN]
      simp only [cond_false, Option.bind_some]
      rw [ojoin _ (by simp) (fun p hp => by
        simp only [List.mem_cons, List.not_mem_nil, or_false] at hp
        rcases hp with rfl | rfl | rfl
        · simp
        · simp
        · omega) hN]
      have e1 : (4 + (a.2.length : Int)) / 256 % 256 = (4 + (a.2.length : Int)) / 256 := by omega
      simp [hb, e1]
theorem arlay_ok (a : At2) (hl : a.2.length ≤ 5000) (hN : 10000 ≤ N) : ref17_Lay N a = some (layA a) := by
  unfold ref17_Lay layA
  rw [rkind_ok]
  simp only [Option.bind_some]
  cases hk : kindB a.1 with
  | false => simp
  | true =>
    have w1 : Go.IntKind.wrap .i64 ((4 : Int) + (a.2.length : Int)) = 4 + (a.2.length : Int) := wrap64 (by omega) (by omega)
    have w2 : Go.IntKind.wrap .u64 ((4 : Int) + (a.2.length : Int)) = 4 + (a.2.length : Int) := wrapU64 (by omega) (by omega)
    simp only [Bool.not_true, cond_false, w1, w2]
    by_cases hb : 4091 < a.2.length
    · have c1 : (4091 : Int) < (a.2.length : Int) := by omega
      simp [c1, hb]
    · have c1 : ¬ (4091 : Int) < (a.2.length : Int) := by omega
      have e1 : (4 + (a.2.length : Int)) / 256 % 256 = (4 + (a.2.length : Int)) / 256 := by omega
      have r1 : ∀ x y : Int, roomB (([0, a.1] : List Int).length + ([x, y] : List Int).length) 1 = true := fun x y => by simp only [List.length_cons, List.length_nil]; decide
      have r2 : ∀ x y : Int, roomB ((([0, a.1] : List Int) ++ [x, y]).length + a.2.length) 1 = true := fun x y => roomB_of (by have := big_len; simp only [List.length_append, List.length_cons, List.length_nil]; omega) (by simp only [List.length_append, List.length_cons, List.length_nil]; omega)
      rw [decide_eq_false c1, rbig2 _ (by omega) hN]
      simp only [cond_false, Option.bind_some, r1, r2, List.isEmpty_cons, Bool.not_false, Bool.and_true, cond_true, e1, hb, if_false]
      simp
/-! ### Parsed -/
def parA (b : List Int) : At2 × Int × Int :=
  if b.length < 4 then ((0, []), (0, 4)) else if b.getD 0 0 ≠ 0 ∨ b.getD 2 0 * 256 + b.getD 3 0 < 4 ∨ 4095 < b.getD 2 0 * 256 + b.getD 3 0 then ((0, []), (0, 3)) else if kindB (b.getD 1 0) = false then ((0, []), (0, 9)) else
    if (b.length : Int) < b.getD 2 0 * 256 + b.getD 3 0 then ((0, []), (0, 4)) else ((b.getD 1 0, (b.drop 4).take ((b.getD 2 0 * 256 + b.getD 3 0).toNat - 4)), (b.getD 2 0 * 256 + b.getD 3 0, 0))
theorem apar_ok (b : List Int) (hl : b.length ≤ 100000) (hw : AllB b) (hN : 10000 ≤ N) : attr_Parse N b = some (parA b) := by
  unfold attr_Parse parA
  by_cases h4 : b.length < 4
  · have c1 : (b.length : Int) < 4 := by omega
    rw [decide_eq_true c1, if_pos h4]; rfl
  · have c1 : ¬ (b.length : Int) < 4 := by omega
    obtain ⟨x, y, z, u, r, rfl⟩ := list4 (by omega : 4 ≤ b.length)
    have bx := hw x (by simp)
    have by' := hw y (by simp)
    have bz := hw z (by simp)
    have bu := hw u (by simp)
    rw [decide_eq_false c1, if_neg h4]
    have s1 : subI (x :: y :: z :: u :: r) (2 : Int) 4 = some [z, u] := subI_nat _ (i := 2) (j := 4) rfl rfl (by omega) (by simp)
    have g0 : getI (x :: y :: z :: u :: r) (0 : Int) = some x := rfl
    have g1 : getI (x :: y :: z :: u :: r) (1 : Int) = some y := rfl
    have w1 : Go.IntKind.wrap .i64 (z * 256 + u) = z * 256 + u := wrap64 (by omega) (by omega)
    simp only [cond_false, s1, Option.bind_some, oget2 z u bz bu hN, g0, g1, w1, kind_ok, List.getD_cons_zero, List.getD_cons_succ]
    by_cases hx : x = 0
    · by_cases h1 : z * 256 + u < 4
      · simp [hx, h1]
      · by_cases h2 : 4095 < z * 256 + u
        · simp [hx, h1, h2]
        · cases hk : kindB y with
          | false => simp [hx, h1, h2]
          | true =>
            generalize hL : (x :: y :: z :: u :: r : List Int) = L at *
            by_cases h3 : (L.length : Int) < z * 256 + u
            · simp [hx, h1, h2, h3]
            · have s2 := subI_nat L (a := (4 : Int)) (b := z * 256 + u) (i := 4) (j := (z * 256 + u).toNat) rfl (by omega) (by omega) (by omega)
              have hc : slices_Clone_byte_byte N ((L.drop 4).take ((z * 256 + u).toNat - 4)) = some ((L.drop 4).take ((z * 256 + u).toNat - 4)) := oclone _ (by rw [List.length_take, List.length_drop]; omega)
              simp [hx, h1, h2, h3, s2, hc]
    · simp [hx]
theorem arpar_ok (b : List Int) (hl : b.length ≤ 100000) (hw : AllB b) (hN : 10000 ≤ N) : ref17_Parse N b = some (parA b) := by
  unfold ref17_Parse parA
  by_cases h4 : b.length < 4
  · have c1 : (b.length : Int) < 4 := by omega
    rw [decide_eq_true c1, if_pos h4]; rfl
  · have c1 : ¬ (b.length : Int) < 4 := by omega
    obtain ⟨x, y, z, u, r, rfl⟩ := list4 (by omega : 4 ≤ b.length)
    have bx := hw x (by simp)
    have by' := hw y (by simp)
    have bz := hw z (by simp)
    have bu := hw u (by simp)
    rw [decide_eq_false c1, if_neg h4]
    have s1 : subI (x :: y :: z :: u :: r) (2 : Int) 4 = some [z, u] := subI_nat _ (i := 2) (j := 4) rfl rfl (by omega) (by simp)
    have g0 : getI (x :: y :: z :: u :: r) (0 : Int) = some x := rfl
    have g1 : getI (x :: y :: z :: u :: r) (1 : Int) = some y := rfl
    have w1 : Go.IntKind.wrap .i64 (z * 256 + u) = z * 256 + u := wrap64 (by omega) (by omega)
    simp only [cond_false, s1, Option.bind_some, rnum2 z u bz bu hN, g0, g1, w1, rkind_ok, List.getD_cons_zero, List.getD_cons_succ]
    by_cases hx : x = 0
    · by_cases h1 : z * 256 + u < 4
      · simp [hx, h1]
      · by_cases h2 : 4095 < z * 256 + u
        · simp [hx, h1, h2]
        · cases hk : kindB y with
          | false => simp [hx, h1, h2]
          | true =>
            generalize hL : (x :: y :: z :: u :: r : List Int) = L at *
            by_cases h3 : (L.length : Int) < z * 256 + u
            · simp [hx, h1, h2, h3]
            · have s2 := subI_nat L (a := (4 : Int)) (b := z * 256 + u) (i := 4) (j := (z * 256 + u).toNat) rfl (by omega) (by omega) (by omega)
              simp [hx, h1, h2, h3, s2]
    · simp [hx]
/-- Attributes of bytes. -/
def wfA (a : At2) : Prop := (0 ≤ a.1 ∧ a.1 < 256) ∧ AllB a.2
theorem parA_wf (b : List Int) (hw : AllB b) : wfA (parA b).1 ∧ (parA b).1.2.length ≤ b.length := by
  have hz : wfA ((0 : Int), ([] : List Int)) := ⟨by decide, AllB.nil⟩
  unfold parA
  split
  · exact ⟨hz, by simp⟩
  · rename_i h4
    split
    · exact ⟨hz, by simp⟩
    · split
      · exact ⟨hz, by simp⟩
      · split
        · exact ⟨hz, by simp⟩
        · refine ⟨⟨?_, (hw.drop _).take _⟩, ?_⟩
          · have : b.getD 1 0 = b[1]'(by omega) := by rw [List.getD_eq_getElem?_getD, List.getElem?_eq_getElem (by omega)]; rfl
            rw [this]
            exact hw.get 1 (by omega)
          · show ((b.drop 4).take _).length ≤ _
            rw [List.length_take, List.length_drop]; omega
theorem layA_back (a : At2) (ha : wfA a) (b : List Int) (h : (layA a).2 = 0) : parA ((layA a).1 ++ b) = (a, (((layA a).1.length : Int), 0)) := by
  unfold layA at h ⊢
  split at h
  · cases h
  · rename_i hk
    split at h
    · cases h
    · rename_i hl
      have hk' : kindB a.1 = true := by cases hh : kindB a.1 <;> simp_all
      rw [if_neg hk, if_neg hl]
      have e1 : (4 + (a.2.length : Int)) / 256 * 256 + (4 + (a.2.length : Int)) % 256 = 4 + (a.2.length : Int) := by omega
      have e2 : (4 + (a.2.length : Int)).toNat - 4 = a.2.length := by omega
      unfold parA
      simp only [List.cons_append, List.length_cons, List.getD_cons_zero, List.getD_cons_succ, e1, hk', List.drop_succ_cons, List.drop_zero, e2, List.length_append]
      rw [if_neg (by omega), if_neg (by omega), if_neg (by decide), if_neg (by omega)]
      rw [List.take_left]
      simp only [Prod.mk.injEq, and_true, true_and]
      omega
theorem asame_ok (a b : At2) (ha : wfA a) (hb : wfA b) (la : a.2.length ≤ 100000) (lb : b.2.length ≤ 100000) : attr_Same N a b = some (decide (a = b)) := by
  have hlen : ∀ l : List Int, l.length ≤ 100000 → decide ((l.map byteOf).length ≤ maxLen) = true := fun l h => decide_eq_true (by have := big_len; rw [List.length_map]; omega)
  have hd : (@Decidable.decide (@Eq (Int × (List UInt8)) (a.1, a.2.map byteOf) (b.1, b.2.map byteOf)) (decT (.pair (.int .u8) .str) (a.1, a.2.map byteOf) (b.1, b.2.map byteOf))) = decide (a = b) := by
    rw [decide_eq_decide]
    obtain ⟨a1, a2⟩ := a
    obtain ⟨b1, b2⟩ := b
    constructor
    · intro h
      simp only [Prod.mk.injEq] at h
      have e : a2 = b2 := bytes_inj ha.2 hb.2 h.2
      rw [h.1, e]
    · intro h; rw [h]
  unfold attr_Same
  rw [toBy_map ha.2, toBy_map hb.2]
  simp only [Option.bind_some, wfB, wfu8 ha.1, wfu8 hb.1, hlen _ la, hlen _ lb, Bool.and_true, Bool.and_self, cond_true]
  rw [hd]
end
end Go.Proofs.Ytcmekgfglohooaa
/-
  Layer 17, on plain data: attributes checked; the law AttrLays.
-/
namespace Go.Proofs.Ytcmekgfglohooaa
set_option maxRecDepth 100000
open Go.RowKit
set_option linter.unusedVariables false
set_option linter.unusedSimpArgs false
set_option maxRecDepth 100000

theorem alive17 : law17_alive 200000 = some true := by decide +kernel
def z3 (x y z : Int) : Bool := decide (x = 0) && decide (y = 0) && decide (z = 0)
/-- Whether data of a kind begin as they must. -/
def okB (k w : Int) : Bool := if k = 2 then decide (w ≤ 4) else if k = 3 then decide (w = 1) || decide (w = 2) else decide (1 ≤ w) && decide (w ≤ 3)
def leastA (k : Int) : Nat := if k = 1 then 2 else if k = 2 then 8 else if k = 3 then 100 else 36
def mostA (k : Int) : Nat := if k = 1 then 2 else if k = 2 then 72 else if k = 3 then 100 else 36
def chk (a : At2) : Int :=
  if kindB a.1 = false then 9 else if a.2.length < leastA a.1 then 4 else if mostA a.1 < a.2.length then 3 else if a.1 = 1 then 0 else
    if (z3 (a.2.getD 0 0) (a.2.getD 1 0) (a.2.getD 2 0) && okB a.1 (a.2.getD 3 0)) = true then 0 else 3
theorem kindB_cases {k : Int} (h : kindB k = true) : k = 1 ∨ k = 2 ∨ k = 3 ∨ k = 4 := by
  unfold kindB at h
  have := of_decide_eq_true h
  omega
section
variable {N : Nat}
theorem zeros_ok (x y z : Int) (hN : 10000 ≤ N) : ref17_zeros N [x, y, z] = some (z3 x y z) := by
  obtain ⟨M, rfl⟩ : ∃ M, N = M + 4 := ⟨N - 4, by omega⟩
  have w1 : Go.IntKind.wrap .i64 ((0 : Int) + 1) = 1 := by decide
  have w2 : Go.IntKind.wrap .i64 ((1 : Int) + 1) = 2 := by decide
  have w3 : Go.IntKind.wrap .i64 ((2 : Int) + 1) = 3 := by decide
  have g0 : getI [x, y, z] (0 : Int) = some x := rfl
  have g1 : getI [x, y, z] (1 : Int) = some y := rfl
  have g2 : getI [x, y, z] (2 : Int) = some z := rfl
  have v1 : Go.IntKind.wrap .i64 (1 : Int) = 1 := by decide
  have v2 : Go.IntKind.wrap .i64 (2 : Int) = 2 := by decide
  have v3 : Go.IntKind.wrap .i64 (3 : Int) = 3 := by decide
  simp only [ref17_zeros, ref17_zeros_L2_R, gl, ref17_zeros_L2, z3]
  by_cases hx : x = 0 <;> by_cases hy : y = 0 <;> by_cases hz : z = 0 <;> simp [getI, v1, v2, v3, hx, hy, hz]
theorem fine_ok (k x y z w : Int) (r : List Int) (hk : k = 2 ∨ k = 3 ∨ k = 4) (hx : 0 ≤ x ∧ x < 256) (hy : 0 ≤ y ∧ y < 256) (hz : 0 ≤ z ∧ z < 256) : attr_fine N (k, x :: y :: z :: w :: r) = some (z3 x y z && okB k w) := by
  have g3 : getI (x :: y :: z :: w :: r) (3 : Int) = some w := rfl
  have t3 : takeI (x :: y :: z :: w :: r) (3 : Int) = some [x, y, z] := takeI_nat _ (i := 3) rfl (by simp)
  have ta : toArr 3 [x, y, z] = some ⟨[x, y, z], rfl⟩ := rfl
  have hwf : (wfB (.arr 3 (.int .u8)) ⟨[x, y, z], rfl⟩ && wfB (.arr 3 (.int .u8)) (Arr.cons (0 : Int) (Arr.cons (0 : Int) (Arr.cons (0 : Int) Arr.nil)))) = true := by
    have e0 : wfB (.arr 3 (.int .u8)) (Arr.cons (0 : Int) (Arr.cons (0 : Int) (Arr.cons (0 : Int) Arr.nil))) = true := by decide
    rw [e0]
    simp [wfB, wfu8 hx, wfu8 hy, wfu8 hz]
  have hd : (@Decidable.decide (@Eq (Arr Int 3) ⟨[x, y, z], rfl⟩ (Arr.cons (0 : Int) (Arr.cons (0 : Int) (Arr.cons (0 : Int) Arr.nil)))) (decT (.arr 3 (.int .u8)) ⟨[x, y, z], rfl⟩ (Arr.cons (0 : Int) (Arr.cons (0 : Int) (Arr.cons (0 : Int) Arr.nil))))) = z3 x y z := by
    rw [Bool.eq_iff_iff]
    unfold z3
    simp only [decide_eq_true_eq, Bool.and_eq_true]
    constructor
    · intro h
      have := congrArg Arr.l h
      simp only [Arr.cons, Arr.nil, List.cons.injEq, and_true] at this
      exact ⟨⟨this.1, this.2.1⟩, this.2.2⟩
    · rintro ⟨⟨rfl, rfl⟩, rfl⟩
      rfl
  have h1 : ¬ k = 1 := by omega
  unfold attr_fine
  simp only [h1, decide_false, cond_false, g3, t3, ta, Option.bind_some, hwf, cond_true, hd]
  cases hz3 : z3 x y z with
  | false => simp
  | true =>
    rcases hk with rfl | rfl | rfl
    · simp [okB]
    · by_cases h1 : w = 1 <;> by_cases h2 : w = 2 <;> simp [okB, h1, h2]
    · by_cases h1 : 1 ≤ w <;> by_cases h2 : w ≤ 3 <;> simp [okB, h1, h2]
theorem sizes_ok (k : Int) (h : kindB k = true) : attr_sizes N k = some (((leastA k : Nat) : Int), ((mostA k : Nat) : Int)) := by
  rcases kindB_cases h with rfl | rfl | rfl | rfl <;> rfl
theorem sizes_some (k : Int) : ∃ p, attr_sizes N k = some p := by
  unfold attr_sizes
  by_cases h1 : k = 1
  · exact ⟨_, by simp only [h1, decide_true, cond_true]; rfl⟩
  · by_cases h2 : k = 2
    · exact ⟨_, by simp only [h1, h2, decide_true, decide_false, cond_true, cond_false]; rfl⟩
    · by_cases h3 : k = 3
      · exact ⟨_, by simp only [h1, h2, h3, decide_true, decide_false, cond_true, cond_false]; rfl⟩
      · by_cases h4 : k = 4
        · exact ⟨_, by simp only [h1, h2, h3, h4, decide_true, decide_false, cond_true, cond_false]; rfl⟩
        · exact ⟨_, by simp only [h1, h2, h3, h4, decide_true, decide_false, cond_true, cond_false]; rfl⟩
theorem chk_ok (a : At2) (hw : AllB a.2) : attr_Check N a = some (chk a) := by
  unfold attr_Check chk
  rw [kind_ok]
  cases hk : kindB a.1 with
  | false =>
    obtain ⟨p, hp⟩ := sizes_some (N := N) a.1
    rw [hp]
    simp
  | true =>
    rw [sizes_ok a.1 hk]
    simp only [Option.bind_some, Bool.not_true, cond_false]
    by_cases h1 : a.2.length < leastA a.1
    · have c1 : (a.2.length : Int) < (leastA a.1 : Int) := by omega
      simp [h1, c1]
    · have c1 : ¬ (a.2.length : Int) < (leastA a.1 : Int) := by omega
      by_cases h2 : mostA a.1 < a.2.length
      · have c2 : (mostA a.1 : Int) < (a.2.length : Int) := by omega
        simp [h1, c1, h2, c2]
      · have c2 : ¬ (mostA a.1 : Int) < (a.2.length : Int) := by omega
        rw [decide_eq_false c1, decide_eq_false c2]
        simp only [cond_false, if_false, h1, h2]
        by_cases hk1 : a.1 = 1
        · have hf : attr_fine N (a.1, a.2) = some true := by unfold attr_fine; rw [decide_eq_true hk1]; rfl
          rw [hf]
          simp [hk1]
        · have hk2 : a.1 = 2 ∨ a.1 = 3 ∨ a.1 = 4 := by have := kindB_cases hk; omega
          have hl4 : 4 ≤ a.2.length := by
            have : 8 ≤ leastA a.1 := by rcases hk2 with h | h | h <;> rw [h] <;> decide
            omega
          obtain ⟨k, l⟩ := a
          obtain ⟨x, y, z, w, r, rfl⟩ := list4 hl4
          have hf := fine_ok (N := N) k x y z w r hk2 (hw x (by simp)) (hw y (by simp)) (hw z (by simp))
          simp only [hf, Option.bind_some, List.getD_cons_zero, List.getD_cons_succ]
          have hk1' : ¬ k = 1 := hk1
          cases hz : (z3 x y z && okB k w) <;> simp [hk1']
theorem rchk_ok (a : At2) (hw : AllB a.2) (hN : 10000 ≤ N) : ref17_Check N a = some (chk a) := by
  unfold ref17_Check chk
  rw [rkind_ok]
  cases hk : kindB a.1 with
  | false => simp
  | true =>
    have hleast : getI ([(2 : Int), 8, 100, 36] : List Int) (Go.IntKind.wrap .u8 (a.1 - 1)) = some ((leastA a.1 : Nat) : Int) := by
      rcases kindB_cases hk with h | h | h | h <;> rw [h] <;> rfl
    have hmost : getI ([(2 : Int), 72, 100, 36] : List Int) (Go.IntKind.wrap .u8 (a.1 - 1)) = some ((mostA a.1 : Nat) : Int) := by
      rcases kindB_cases hk with h | h | h | h <;> rw [h] <;> rfl
    simp only [Option.bind_some, Bool.not_true, cond_false, hleast, hmost]
    by_cases h1 : a.2.length < leastA a.1
    · have c1 : (a.2.length : Int) < (leastA a.1 : Int) := by omega
      simp [h1, c1]
    · have c1 : ¬ (a.2.length : Int) < (leastA a.1 : Int) := by omega
      by_cases h2 : mostA a.1 < a.2.length
      · have c2 : (mostA a.1 : Int) < (a.2.length : Int) := by omega
        simp [h1, c1, h2, c2]
      · have c2 : ¬ (mostA a.1 : Int) < (a.2.length : Int) := by omega
        rw [decide_eq_false c1, decide_eq_false c2]
        simp only [cond_false, if_false, h1, h2]
        by_cases hk1 : a.1 = 1
        · simp [hk1]
        · have hk2 : a.1 = 2 ∨ a.1 = 3 ∨ a.1 = 4 := by have := kindB_cases hk; omega
          have hl4 : 4 ≤ a.2.length := by
            have : 8 ≤ leastA a.1 := by rcases hk2 with h | h | h <;> rw [h] <;> decide
            omega
          obtain ⟨k, l⟩ := a
          obtain ⟨x, y, z, w, r, rfl⟩ := list4 hl4
          have g3 : getI (x :: y :: z :: w :: r) (3 : Int) = some w := rfl
          have t3 : takeI (x :: y :: z :: w :: r) (3 : Int) = some [x, y, z] := takeI_nat _ (i := 3) rfl (by simp)
          have hk1' : ¬ k = 1 := hk1
          simp only [hk1', decide_false, cond_false, if_false, g3, t3, Option.bind_some, zeros_ok x y z hN, List.getD_cons_zero, List.getD_cons_succ]
          cases hz : z3 x y z with
          | false => simp
          | true =>
            have hk2' : k = 2 ∨ k = 3 ∨ k = 4 := hk2
            rcases hk2' with rfl | rfl | rfl
            · by_cases h4 : w ≤ 4
              · have h4' : ¬ 4 < w := by omega
                simp [okB, h4, h4']
              · have h4' : 4 < w := by omega
                simp [okB, h4, h4']
            · by_cases e1 : w = 1 <;> by_cases e2 : w = 2 <;> simp [okB, e1, e2]
            · by_cases e1 : 1 ≤ w
              · have e1' : ¬ w < 1 := by omega
                by_cases e2 : w ≤ 3
                · have e2' : ¬ 3 < w := by omega
                  simp [okB, e1, e1', e2, e2']
                · have e2' : 3 < w := by omega
                  simp [okB, e1, e1', e2, e2']
              · have e1' : w < 1 := by omega
                simp [okB, e1, e1']
end
theorem wf_attr {a : At2} (h : wfT (.pair (.int .u8) (.sl (.int .u8))) a) : wfA a := ⟨wf_u8 h.1, wf_bytes h.2⟩
end Go.Proofs.Ytcmekgfglohooaa
/-
  Layer 17, on plain data: attributes taken apart, and made anew; the law AttrTakes.
-/
namespace Go.Proofs.Ytcmekgfglohooaa
set_option maxRecDepth 100000
open Go.RowKit
set_option linter.unusedVariables false
set_option linter.unusedSimpArgs false
set_option maxRecDepth 100000

/-- What is asked of one that takes apart data of a kind. -/
def toE (a : At2) (k : Int) : Int := if a.1 = k then chk a else 9
section
variable {N : Nat}
theorem checked_ok (a : At2) (k : Int) (hw : AllB a.2) : attr_checked N (a.1, a.2) k = some (toE a k) := by
  unfold attr_checked toE
  have h : attr_Check N (a.1, a.2) = some (chk a) := chk_ok a hw
  by_cases hk : a.1 = k
  · simp [hk]
    rw [← hk]; exact h
  · simp [hk]
theorem rto_ok (a : At2) (k : Int) (hw : AllB a.2) (hN : 10000 ≤ N) : ref17_To N (a.1, a.2) k = some (toE a k) := by
  unfold ref17_To toE
  have h : ref17_Check N (a.1, a.2) = some (chk a) := rchk_ok a hw hN
  by_cases hk : a.1 = k
  · simp [hk]
    rw [← hk]; exact h
  · simp [hk]
theorem chk_zero {a : At2} (h : chk a = 0) : kindB a.1 = true ∧ leastA a.1 ≤ a.2.length ∧ a.2.length ≤ mostA a.1 ∧ (a.1 ≠ 1 → z3 (a.2.getD 0 0) (a.2.getD 1 0) (a.2.getD 2 0) = true ∧ okB a.1 (a.2.getD 3 0) = true) := by
  unfold chk at h
  split at h
  · cases h
  · rename_i hk
    split at h
    · cases h
    · split at h
      · cases h
      · refine ⟨by cases hh : kindB a.1 <;> simp_all, by omega, by omega, fun h1 => ?_⟩
        rw [if_neg h1] at h
        split at h
        · rename_i h2
          rw [Bool.and_eq_true] at h2
          exact h2
        · cases h
theorem z3_true {x y z : Int} (h : z3 x y z = true) : x = 0 ∧ y = 0 ∧ z = 0 := by
  unfold z3 at h
  simp only [Bool.and_eq_true, decide_eq_true_eq] at h
  exact ⟨h.1.1, h.1.2, h.2⟩
theorem toE_zero {a : At2} {k : Int} (h : toE a k = 0) : a.1 = k ∧ chk a = 0 := by
  unfold toE at h
  split at h
  · exact ⟨by assumption, h⟩
  · cases h
theorem behind_ok (w : Int) (l : List (List Int)) (hl : l.length ≤ 900) (hs : ∀ p ∈ l, p.length ≤ 100) (hN : 10000 ≤ N) : attr_behind N w l = some (0 :: 0 :: 0 :: w :: l.flatten) := by
  unfold attr_behind
  rw [ojoin l (by omega) (fun p hp => by have := hs p hp; omega) hN]
  have hfl : ∀ m : List (List Int), (∀ p ∈ m, p.length ≤ 100) → m.flatten.length ≤ 100 * m.length := by
    intro m
    induction m with
    | nil => intro _; simp
    | cons p m ih =>
      intro h
      have h1 := h p List.mem_cons_self
      have h2 := ih fun q hq => h q (List.mem_cons_of_mem _ hq)
      rw [List.flatten_cons, List.length_append, List.length_cons]
      omega
  have h3 := hfl l hs
  simp only [Option.bind_some]
  rw [ojoin _ (by simp) (fun p hp => by
    simp only [List.mem_cons, List.not_mem_nil, or_false] at hp
    rcases hp with rfl | rfl | rfl
    · simp
    · simp
    · omega) hN]
  have e3 : List.replicate (Int.toNat 3) (0 : Int) = [0, 0, 0] := rfl
  rw [e3]
  simp
theorem take1_ok (a : At2) (hw : wfA a) (hN : 10000 ≤ N) : ∃ v, attr_ToProto N (a.1, a.2) = some (v, toE a 1) ∧ (toE a 1 = 0 → attr_Proto N v = some a) := by
  unfold attr_ToProto
  rw [checked_ok a 1 hw.2]
  simp only [Option.bind_some]
  by_cases h : toE a 1 = 0
  · obtain ⟨h1, h2⟩ := toE_zero h
    obtain ⟨_, h3, h4, _⟩ := chk_zero h2
    obtain ⟨k, l⟩ := a
    have h1' : k = 1 := h1
    subst h1'
    have hl : l.length = 2 := by
      have h3' : 2 ≤ l.length := h3
      have h4' : l.length ≤ 2 := h4
      omega
    match l, hl with
    | [x, y], _ =>
      have bx := hw.2 x (by simp)
      have by' := hw.2 y (by simp)
      have w1 : Go.IntKind.wrap .u16 (x * 256 + y) = x * 256 + y := by rw [IntKind.wrap_u16]; omega
      have w2 : Go.IntKind.wrap .u64 (x * 256 + y) = x * 256 + y := wrapU64 (by omega) (by omega)
      refine ⟨x * 256 + y, ?_, fun _ => ?_⟩
      · simp only [h, decide_true, Bool.not_true, cond_false, oget2 x y bx by' hN, Option.bind_some, w1]
      · have e1 : (x * 256 + y) / 256 % 256 = x := by omega
        have e2 : (x * 256 + y) % 256 = y := by omega
        unfold attr_Proto
        rw [w2, oput2 _ (by omega) hN, e1, e2]
        rfl
  · exact ⟨0, by simp [h], fun h' => absurd h' h⟩
theorem take2_ok (a : At2) (hw : wfA a) (hN : 10000 ≤ N) : ∃ v, attr_ToStatus N (a.1, a.2) = some (v, toE a 2) ∧ (toE a 2 = 0 → attr_OfStatus N v = some a) := by
  unfold attr_ToStatus
  rw [checked_ok a 2 hw.2]
  simp only [Option.bind_some]
  by_cases h : toE a 2 = 0
  · obtain ⟨h1, h2⟩ := toE_zero h
    obtain ⟨_, h3, h4, h5⟩ := chk_zero h2
    obtain ⟨k, l⟩ := a
    have h1' : k = 2 := h1
    have hne : (2 : Int) ≠ 1 := by decide
    subst h1'
    have h3' : 8 ≤ l.length := h3
    have h4' : l.length ≤ 72 := h4
    obtain ⟨x, y, z, w, r, rfl⟩ := list4 (by omega : 4 ≤ l.length)
    simp only [List.length_cons] at h3' h4'
    obtain ⟨c1, c2, c3, c4, d, rfl⟩ := list4 (by omega : 4 ≤ r.length)
    simp only [List.length_cons] at h3' h4'
    obtain ⟨h6, h7⟩ := h5 hne
    obtain ⟨rfl, rfl, rfl⟩ := z3_true h6
    have b1 := hw.2 c1 (by simp)
    have b2 := hw.2 c2 (by simp)
    have b3 := hw.2 c3 (by simp)
    have b4 := hw.2 c4 (by simp)
    have s1 : subI ((0 : Int) :: 0 :: 0 :: w :: c1 :: c2 :: c3 :: c4 :: d) 4 8 = some [c1, c2, c3, c4] := subI_nat _ (i := 4) (j := 8) rfl rfl (by omega) (by simp)
    have g3 : getI ((0 : Int) :: 0 :: 0 :: w :: c1 :: c2 :: c3 :: c4 :: d) 3 = some w := rfl
    have d8 : dropI ((0 : Int) :: 0 :: 0 :: w :: c1 :: c2 :: c3 :: c4 :: d) 8 = some d := dropI_nat _ (i := 8) rfl (by simp)
    have w1 : Go.IntKind.wrap .u32 (((c1 * 256 + c2) * 256 + c3) * 256 + c4) = ((c1 * 256 + c2) * 256 + c3) * 256 + c4 := by rw [IntKind.wrap_u32]; omega
    have w2 : Go.IntKind.wrap .u64 (((c1 * 256 + c2) * 256 + c3) * 256 + c4) = ((c1 * 256 + c2) * 256 + c3) * 256 + c4 := wrapU64 (by omega) (by omega)
    have hc : slices_Clone_byte_byte N d = some d := oclone d (by omega)
    refine ⟨(w, ((c1 * 256 + c2) * 256 + c3) * 256 + c4, d), ?_, fun _ => ?_⟩
    · simp only [h, decide_true, Bool.not_true, cond_false, s1, oget4 c1 c2 c3 c4 b1 b2 b3 b4 hN, g3, d8, hc, Option.bind_some, w1]
    · have e1 : (((c1 * 256 + c2) * 256 + c3) * 256 + c4) / 16777216 % 256 = c1 := by omega
      have e2 : (((c1 * 256 + c2) * 256 + c3) * 256 + c4) / 65536 % 256 = c2 := by omega
      have e3 : (((c1 * 256 + c2) * 256 + c3) * 256 + c4) / 256 % 256 = c3 := by omega
      have e4 : (((c1 * 256 + c2) * 256 + c3) * 256 + c4) % 256 = c4 := by omega
      have hm : minI (d.length : Int) 64 = (d.length : Int) := by unfold minI; rw [if_neg (by omega)]
      have ht : takeI d (d.length : Int) = some d := by rw [takeI_nat d (i := d.length) rfl (Nat.le_refl _), List.take_length]
      unfold attr_OfStatus
      simp only [w2]
      rw [oput4 _ (by omega) hN, e1, e2, e3, e4]
      simp only [Option.bind_some, hm, ht]
      rw [behind_ok w _ (by simp) (fun p hp => by
        simp only [List.mem_cons, List.not_mem_nil, or_false] at hp
        rcases hp with rfl | rfl
        · simp
        · omega) hN]
      simp
  · exact ⟨(0, 0, []), by simp [h], fun h' => absurd h' h⟩
theorem take4_ok (a : At2) (hw : wfA a) (hN : 10000 ≤ N) : ∃ v, attr_ToAsk N (a.1, a.2) = some (v, toE a 4) ∧ (toE a 4 = 0 → attr_OfAsk N v = some a) := by
  unfold attr_ToAsk
  rw [checked_ok a 4 hw.2]
  simp only [Option.bind_some]
  by_cases h : toE a 4 = 0
  · obtain ⟨h1, h2⟩ := toE_zero h
    obtain ⟨_, h3, h4, h5⟩ := chk_zero h2
    obtain ⟨k, l⟩ := a
    have h1' : k = 4 := h1
    have hne : (4 : Int) ≠ 1 := by decide
    subst h1'
    have h3' : 36 ≤ l.length := h3
    have h4' : l.length ≤ 36 := h4
    obtain ⟨x, y, z, w, r, rfl⟩ := list4 (by omega : 4 ≤ l.length)
    simp only [List.length_cons] at h3' h4'
    obtain ⟨h6, h7⟩ := h5 hne
    obtain ⟨rfl, rfl, rfl⟩ := z3_true h6
    have g3 : getI ((0 : Int) :: 0 :: 0 :: w :: r) 3 = some w := rfl
    have d4 : dropI ((0 : Int) :: 0 :: 0 :: w :: r) 4 = some r := dropI_nat _ (i := 4) rfl (by simp)
    have hr : r.length = 32 := by omega
    have ta : toArr 32 r = some ⟨r, hr⟩ := by
      unfold toArr
      rw [dif_pos (by omega)]
      congr 1
      exact Arr.ext' (List.take_of_length_le (by omega))
    refine ⟨(w, ⟨r, hr⟩), ?_, fun _ => ?_⟩
    · simp only [h, decide_true, Bool.not_true, cond_false, g3, d4, ta, Option.bind_some]
    · unfold attr_OfAsk
      rw [behind_ok w _ (by simp) (fun p hp => by simp only [List.mem_singleton] at hp; rw [hp]; show r.length ≤ 100; omega) hN]
      simp
  · exact ⟨_, by simp only [h, decide_false, Bool.not_false, cond_true]; rfl, fun h' => absurd h' h⟩
theorem take3_ok (a : At2) (hw : wfA a) (hN : 10000 ≤ N) : ∃ v, attr_ToBinding N (a.1, a.2) = some (v, toE a 3) ∧ (toE a 3 = 0 → attr_OfBinding N v = some a) := by
  unfold attr_ToBinding
  rw [checked_ok a 3 hw.2]
  simp only [Option.bind_some]
  by_cases h : toE a 3 = 0
  · obtain ⟨h1, h2⟩ := toE_zero h
    obtain ⟨_, h3, h4, h5⟩ := chk_zero h2
    obtain ⟨k, l⟩ := a
    have h1' : k = 3 := h1
    have hne : (3 : Int) ≠ 1 := by decide
    subst h1'
    have h3' : 100 ≤ l.length := h3
    have h4' : l.length ≤ 100 := h4
    have hl : l.length = 100 := by omega
    have hl' := hl
    obtain ⟨x, y, z, w, r, rfl⟩ := list4 (by omega : 4 ≤ l.length)
    simp only [List.length_cons] at hl'
    obtain ⟨h6, h7⟩ := h5 hne
    obtain ⟨rfl, rfl, rfl⟩ := z3_true h6
    have hr : r.length = 96 := by omega
    have g3 : getI ((0 : Int) :: 0 :: 0 :: w :: r) 3 = some w := rfl
    have s1 : subI ((0 : Int) :: 0 :: 0 :: w :: r) 4 36 = some (r.take 32) := subI_nat _ (i := 4) (j := 36) rfl rfl (by omega) (by simp; omega)
    have s2 : subI ((0 : Int) :: 0 :: 0 :: w :: r) 36 68 = some ((r.drop 32).take 32) := subI_nat _ (i := 36) (j := 68) rfl rfl (by omega) (by simp; omega)
    have s3 : dropI ((0 : Int) :: 0 :: 0 :: w :: r) 68 = some (r.drop 64) := dropI_nat _ (i := 68) rfl (by simp; omega)
    have l1 : (r.take 32).length = 32 := by rw [List.length_take]; omega
    have l2 : ((r.drop 32).take 32).length = 32 := by rw [List.length_take, List.length_drop]; omega
    have l3 : (r.drop 64).length = 32 := by rw [List.length_drop]; omega
    have ta : ∀ (m : List Int) (hm : m.length = 32), toArr 32 m = some ⟨m, hm⟩ := fun m hm => by
      unfold toArr
      rw [dif_pos (by omega)]
      congr 1
      exact Arr.ext' (List.take_of_length_le (by omega))
    refine ⟨(w, ⟨r.take 32, l1⟩, ⟨(r.drop 32).take 32, l2⟩, ⟨r.drop 64, l3⟩), ?_, fun _ => ?_⟩
    · simp only [h, decide_true, Bool.not_true, cond_false, g3, s1, s2, s3, ta _ l1, ta _ l2, ta _ l3, Option.bind_some]
    · unfold attr_OfBinding
      rw [behind_ok w _ (by simp) (fun p hp => by
        simp only [List.mem_cons, List.not_mem_nil, or_false] at hp
        rcases hp with rfl | rfl | rfl
        · show (r.take 32).length ≤ 100; omega
        · show ((r.drop 32).take 32).length ≤ 100; omega
        · show (r.drop 64).length ≤ 100; omega) hN]
      have e1 : r.take 32 ++ ((r.drop 32).take 32 ++ r.drop 64) = r := by
        have : (r.drop 32).take 32 ++ r.drop 64 = r.drop 32 := by
          rw [show r.drop 64 = (r.drop 32).drop 32 by rw [List.drop_drop], List.take_append_drop]
        rw [this, List.take_append_drop]
      simp [e1]
  · exact ⟨_, by simp only [h, decide_false, Bool.not_false, cond_true]; rfl, fun h' => absurd h' h⟩
end
end Go.Proofs.Ytcmekgfglohooaa
/-
  Layer 17, on plain data: attributes made; the law AttrMakes.
-/
namespace Go.Proofs.Ytcmekgfglohooaa
set_option maxRecDepth 100000
open Go.RowKit
set_option linter.unusedVariables false
set_option linter.unusedSimpArgs false
set_option maxRecDepth 100000

/-- A status's attribute; a binding's; one that asks for it. -/
def stA (ab code : Int) (d : List Int) : At2 := (2, 0 :: 0 :: 0 :: ab :: (code / 16777216 % 256) :: (code / 65536 % 256) :: (code / 256 % 256) :: (code % 256) :: d.take 64)
def biA (m : Int) (x y z : Arr Int 32) : At2 := (3, 0 :: 0 :: 0 :: m :: (x.l ++ (y.l ++ z.l)))
def asA (m : Int) (x : Arr Int 32) : At2 := (4, 0 :: 0 :: 0 :: m :: x.l)
theorem take64_ok (d : List Int) : takeI d (minI (d.length : Int) 64) = some (d.take 64) := by
  unfold minI
  split
  · exact takeI_nat d (i := 64) rfl (by omega)
  · rw [takeI_nat d (i := d.length) rfl (Nat.le_refl _), List.take_length, List.take_of_length_le (by omega)]
theorem toArr32 (l : List Int) (h : l.length = 32) : toArr 32 l = some ⟨l, h⟩ := by
  unfold toArr
  rw [dif_pos (by omega)]
  congr 1
  exact Arr.ext' (List.take_of_length_le (by omega))
theorem rsmall {n : Nat} (h : n ≤ 100000) : roomB n 1 = true := roomB_of (by have := big_len; omega) (by omega)
section
variable {N : Nat}
theorem ofSt_ok (ab code : Int) (d : List Int) (hc : 0 ≤ code ∧ code < 4294967296) (hN : 10000 ≤ N) : attr_OfStatus N (ab, (code, d)) = some (stA ab code d) := by
  have w2 : Go.IntKind.wrap .u64 code = code := wrapU64 (by omega) (by omega)
  unfold attr_OfStatus
  simp only [w2]
  rw [oput4 _ (by omega) hN]
  simp only [Option.bind_some, take64_ok]
  rw [behind_ok ab _ (by simp) (fun p hp => by
    simp only [List.mem_cons, List.not_mem_nil, or_false] at hp
    rcases hp with rfl | rfl
    · simp
    · rw [List.length_take]; omega) hN]
  simp [stA]
theorem ofBi_ok (m : Int) (x y z : Arr Int 32) (hN : 10000 ≤ N) : attr_OfBinding N (m, (x, (y, z))) = some (biA m x y z) := by
  have hx := x.h
  have hy := y.h
  have hz := z.h
  unfold attr_OfBinding
  rw [behind_ok m _ (by simp) (fun p hp => by
    simp only [List.mem_cons, List.not_mem_nil, or_false] at hp
    rcases hp with rfl | rfl | rfl
    · omega
    · omega
    · omega) hN]
  simp [biA]
theorem ofAs_ok (m : Int) (x : Arr Int 32) (hN : 10000 ≤ N) : attr_OfAsk N (m, x) = some (asA m x) := by
  have hx := x.h
  unfold attr_OfAsk
  rw [behind_ok m _ (by simp) (fun p hp => by rw [List.mem_singleton.1 hp]; show x.l.length ≤ 100; omega) hN]
  simp [asA]
theorem rSt_ok (ab code : Int) (d : List Int) (hc : 0 ≤ code ∧ code < 4294967296) (hN : 10000 ≤ N) : ref17_Status N ab code d = some (stA ab code d) := by
  have w2 : Go.IntKind.wrap .u64 code = code := wrapU64 (by omega) (by omega)
  have hb : ref01_Big N code 4 = some [code / 16777216 % 256, code / 65536 % 256, code / 256 % 256, code % 256] := big4 (N := N) code (by omega) (by omega)
  unfold ref17_Status
  simp only [w2, hb, Option.bind_some, take64_ok]
  rw [rsmall (by simp), rsmall (by simp only [List.length_append, List.length_cons, List.length_nil, List.length_take]; omega)]
  simp [stA]
theorem ne_emp {x : Arr Int 32} : x.l.isEmpty = false := by
  have hx := x.h
  cases h : x.l with
  | nil => rw [h] at hx; simp at hx
  | cons a l => rfl
theorem rBi_ok (m : Int) (x y z : Arr Int 32) : ref17_Binding N m x y z = some (biA m x y z) := by
  have hx := x.h
  have hy := y.h
  have hz := z.h
  unfold ref17_Binding
  rw [rsmall (by simp; omega), rsmall (by simp only [List.length_append, List.length_cons, List.length_nil]; omega), rsmall (by simp only [List.length_append, List.length_cons, List.length_nil]; omega), ne_emp]
  simp [biA]
theorem rAs_ok (m : Int) (x : Arr Int 32) : ref17_Ask N m x = some (asA m x) := by
  have hx := x.h
  unfold ref17_Ask
  rw [rsmall (by simp; omega), ne_emp]
  simp [asA]
/-! ### Taken apart -/
theorem stA_B (ab code : Int) (d : List Int) (ha : 0 ≤ ab ∧ ab < 256) (hd : AllB d) : AllB (stA ab code d).2 ∧ (stA ab code d).2.length ≤ 72 := by
  refine ⟨?_, ?_⟩
  · exact AllB.cons (by omega) (AllB.cons (by omega) (AllB.cons (by omega) (AllB.cons ha (AllB.cons (by omega) (AllB.cons (by omega) (AllB.cons (by omega) (AllB.cons (by omega) (hd.take 64))))))))
  · simp only [stA, List.length_cons, List.length_take]; omega
theorem biA_B (m : Int) (x y z : Arr Int 32) (hm : 0 ≤ m ∧ m < 256) (hx : AllB x.l) (hy : AllB y.l) (hz : AllB z.l) : AllB (biA m x y z).2 :=
  AllB.cons (by omega) (AllB.cons (by omega) (AllB.cons (by omega) (AllB.cons hm (hx.append (hy.append hz)))))
theorem asA_B (m : Int) (x : Arr Int 32) (hm : 0 ≤ m ∧ m < 256) (hx : AllB x.l) : AllB (asA m x).2 :=
  AllB.cons (by omega) (AllB.cons (by omega) (AllB.cons (by omega) (AllB.cons hm hx)))
theorem stA_e (ab code : Int) (d : List Int) : toE (stA ab code d) 2 = if ab ≤ 4 then 0 else 3 := by
  have hl : (stA ab code d).2.length = 8 + min 64 d.length := by simp only [stA, List.length_cons, List.length_take]; omega
  unfold toE
  rw [if_pos (show (stA ab code d).1 = 2 from rfl)]
  unfold chk
  rw [show (stA ab code d).1 = 2 from rfl, if_neg (show ¬ kindB 2 = false by decide), if_neg (by rw [hl]; show ¬ _ < 8; omega), if_neg (by rw [hl]; show ¬ 72 < _; omega), if_neg (show ¬ (2 : Int) = 1 by decide)]
  have h1 : (z3 ((stA ab code d).2.getD 0 0) ((stA ab code d).2.getD 1 0) ((stA ab code d).2.getD 2 0) && okB 2 ((stA ab code d).2.getD 3 0)) = decide (ab ≤ 4) := by
    show (z3 0 0 0 && okB 2 ab) = _
    simp [z3, okB]
  rw [h1]
  by_cases h : ab ≤ 4 <;> simp [h]
theorem biA_e (m : Int) (x y z : Arr Int 32) : toE (biA m x y z) 3 = if m = 1 ∨ m = 2 then 0 else 3 := by
  have hx := x.h
  have hy := y.h
  have hz := z.h
  have hl : (biA m x y z).2.length = 100 := by simp only [biA, List.length_cons, List.length_append]; omega
  unfold toE
  rw [if_pos (show (biA m x y z).1 = 3 from rfl)]
  unfold chk
  rw [show (biA m x y z).1 = 3 from rfl, if_neg (show ¬ kindB 3 = false by decide), if_neg (by rw [hl]; exact (by decide : ¬ 100 < leastA 3)), if_neg (by rw [hl]; exact (by decide : ¬ mostA 3 < 100)), if_neg (show ¬ (3 : Int) = 1 by decide)]
  have h1 : (z3 ((biA m x y z).2.getD 0 0) ((biA m x y z).2.getD 1 0) ((biA m x y z).2.getD 2 0) && okB 3 ((biA m x y z).2.getD 3 0)) = (decide (m = 1) || decide (m = 2)) := by
    show (z3 0 0 0 && okB 3 m) = _
    simp [z3, okB]
  rw [h1]
  by_cases h : m = 1 <;> by_cases h' : m = 2 <;> simp [h, h']
theorem asA_e (m : Int) (x : Arr Int 32) : toE (asA m x) 4 = if 1 ≤ m ∧ m ≤ 3 then 0 else 3 := by
  have hx := x.h
  have hl : (asA m x).2.length = 36 := by simp only [asA, List.length_cons]; omega
  unfold toE
  rw [if_pos (show (asA m x).1 = 4 from rfl)]
  unfold chk
  rw [show (asA m x).1 = 4 from rfl, if_neg (show ¬ kindB 4 = false by decide), if_neg (by rw [hl]; exact (by decide : ¬ 36 < leastA 4)), if_neg (by rw [hl]; exact (by decide : ¬ mostA 4 < 36)), if_neg (show ¬ (4 : Int) = 1 by decide)]
  have h1 : (z3 ((asA m x).2.getD 0 0) ((asA m x).2.getD 1 0) ((asA m x).2.getD 2 0) && okB 4 ((asA m x).2.getD 3 0)) = (decide (1 ≤ m) && decide (m ≤ 3)) := by
    show (z3 0 0 0 && okB 4 m) = _
    simp [z3, okB]
  rw [h1]
  by_cases h : 1 ≤ m <;> by_cases h' : m ≤ 3 <;> simp [h, h']
theorem toSt_ok (ab code : Int) (d : List Int) (ha : 0 ≤ ab ∧ ab < 256) (hc : 0 ≤ code ∧ code < 4294967296) (hd : AllB d) (hN : 10000 ≤ N) : attr_ToStatus N ((stA ab code d).1, (stA ab code d).2) = some (if ab ≤ 4 then ((ab, (code, d.take 64)), 0) else ((0, (0, [])), 3)) := by
  unfold attr_ToStatus
  rw [checked_ok (stA ab code d) 2 (stA_B ab code d ha hd).1, stA_e]
  simp only [Option.bind_some]
  by_cases h : ab ≤ 4
  · have s1 : subI (stA ab code d).2 4 8 = some [code / 16777216 % 256, code / 65536 % 256, code / 256 % 256, code % 256] := subI_nat _ (i := 4) (j := 8) rfl rfl (by omega) (by simp [stA])
    have g3 : getI (stA ab code d).2 3 = some ab := rfl
    have d8 : dropI (stA ab code d).2 8 = some (d.take 64) := dropI_nat _ (i := 8) rfl (by simp [stA])
    have hcl : slices_Clone_byte_byte N (d.take 64) = some (d.take 64) := oclone _ (by rw [List.length_take]; omega)
    have e1 : (((code / 16777216 % 256 * 256 + code / 65536 % 256) * 256 + code / 256 % 256) * 256 + code % 256) = code := by omega
    have w1 : Go.IntKind.wrap .u32 code = code := by rw [IntKind.wrap_u32]; omega
    simp only [h, if_true, decide_true, Bool.not_true, cond_false, s1, Option.bind_some, oget4 _ _ _ _ (by omega : 0 ≤ code / 16777216 % 256 ∧ code / 16777216 % 256 < 256) (by omega : 0 ≤ code / 65536 % 256 ∧ code / 65536 % 256 < 256) (by omega : 0 ≤ code / 256 % 256 ∧ code / 256 % 256 < 256) (by omega : 0 ≤ code % 256 ∧ code % 256 < 256) hN, g3, d8, hcl, e1, w1]
  · simp [h]
theorem toBi_ok (m : Int) (x y z : Arr Int 32) (hm : 0 ≤ m ∧ m < 256) (hx : AllB x.l) (hy : AllB y.l) (hz : AllB z.l) : ∃ v, attr_ToBinding N ((biA m x y z).1, (biA m x y z).2) = some (v, if m = 1 ∨ m = 2 then 0 else 3) ∧ (m = 1 ∨ m = 2 → v = (m, (x, (y, z)))) := by
  have lx := x.h
  have ly := y.h
  have lz := z.h
  unfold attr_ToBinding
  rw [checked_ok (biA m x y z) 3 (biA_B m x y z hm hx hy hz), biA_e]
  simp only [Option.bind_some]
  by_cases h : m = 1 ∨ m = 2
  · have hl : (biA m x y z).2.length = 100 := by simp only [biA, List.length_cons, List.length_append]; omega
    have g3 : getI (biA m x y z).2 3 = some m := rfl
    have t1 : (x.l ++ (y.l ++ z.l)).take 32 = x.l := List.take_left' lx
    have t2 : ((x.l ++ (y.l ++ z.l)).drop 32).take 32 = y.l := by rw [List.drop_left' lx]; exact List.take_left' ly
    have t3 : (x.l ++ (y.l ++ z.l)).drop 64 = z.l := by
      have : (x.l ++ (y.l ++ z.l)).drop 64 = ((x.l ++ (y.l ++ z.l)).drop 32).drop 32 := by rw [List.drop_drop]
      rw [this, List.drop_left' lx]; exact List.drop_left' ly
    have s1 : subI (biA m x y z).2 4 36 = some x.l := (subI_nat (biA m x y z).2 (a := (4 : Int)) (b := 36) (i := 4) (j := 36) rfl rfl (by omega) (by omega)).trans (congrArg some t1)
    have s2 : subI (biA m x y z).2 36 68 = some y.l := (subI_nat (biA m x y z).2 (a := (36 : Int)) (b := 68) (i := 36) (j := 68) rfl rfl (by omega) (by omega)).trans (congrArg some t2)
    have s3 : dropI (biA m x y z).2 68 = some z.l := (dropI_nat (biA m x y z).2 (a := (68 : Int)) (i := 68) rfl (by omega)).trans (congrArg some t3)
    refine ⟨(m, (x, (y, z))), ?_, fun _ => rfl⟩
    rw [if_pos h]
    simp only [decide_true, Bool.not_true, cond_false, g3, s1, s2, s3, toArr32 _ lx, toArr32 _ ly, toArr32 _ lz, Option.bind_some]
  · refine ⟨_, by rw [if_neg h]; rfl, fun h' => absurd h' h⟩
theorem toAs_ok (m : Int) (x : Arr Int 32) (hm : 0 ≤ m ∧ m < 256) (hx : AllB x.l) : ∃ v, attr_ToAsk N ((asA m x).1, (asA m x).2) = some (v, if 1 ≤ m ∧ m ≤ 3 then 0 else 3) ∧ (1 ≤ m ∧ m ≤ 3 → v = (m, x)) := by
  have lx := x.h
  unfold attr_ToAsk
  rw [checked_ok (asA m x) 4 (asA_B m x hm hx), asA_e]
  simp only [Option.bind_some]
  by_cases h : 1 ≤ m ∧ m ≤ 3
  · have g3 : getI (asA m x).2 3 = some m := rfl
    have s3 : dropI (asA m x).2 4 = some x.l := dropI_nat _ (i := 4) rfl (by simp [asA])
    refine ⟨(m, x), ?_, fun _ => rfl⟩
    rw [if_pos h]
    simp only [decide_true, Bool.not_true, cond_false, g3, s3, toArr32 _ lx, Option.bind_some]
  · refine ⟨_, by rw [if_neg h]; rfl, fun h' => absurd h' h⟩
theorem proto_ok (n : Int) (h : 0 ≤ n ∧ n < 65536) (hN : 10000 ≤ N) : attr_Proto N n = some (1, [n / 256 % 256, n % 256]) := by
  unfold attr_Proto
  rw [wrapU64 (by omega) (by omega), oput2 _ (by omega) hN]
  rfl
theorem toPr_ok (n : Int) (h : 0 ≤ n ∧ n < 65536) (hN : 10000 ≤ N) : attr_ToProto N (1, [n / 256 % 256, n % 256]) = some (n, 0) := by
  have hB : AllB [n / 256 % 256, n % 256] := AllB.cons (by omega) (AllB.cons (by omega) AllB.nil)
  have he : toE ((1, [n / 256 % 256, n % 256]) : At2) 1 = 0 := by
    unfold toE chk
    simp [kindB, leastA, mostA]
  have w1 : Go.IntKind.wrap .u16 (n / 256 % 256 * 256 + n % 256) = n := by rw [IntKind.wrap_u16]; omega
  unfold attr_ToProto
  rw [checked_ok ((1, [n / 256 % 256, n % 256]) : At2) 1 hB, he]
  simp only [Option.bind_some, decide_true, Bool.not_true, cond_false]
  rw [oget2 _ _ (by omega) (by omega) hN, Option.bind_some, w1]
end
theorem wfB_p1 {m : Int} {x : Arr Int 32} (hm : 0 ≤ m ∧ m < 256) (hx : AllB x.l) : wfB (.pair (.int .u8) (.arr 32 (.int .u8))) (m, x) = true := by
  have h2 : wfB (.arr 32 (.int .u8)) x = true := List.all_eq_true.2 fun y hy => wfu8 (hx y hy)
  show (wfB (.int .u8) m && wfB (.arr 32 (.int .u8)) x) = true
  rw [h2, Bool.and_true]
  exact wfu8 hm
theorem wfB_p3 {m : Int} {x y z : Arr Int 32} (hm : 0 ≤ m ∧ m < 256) (hx : AllB x.l) (hy : AllB y.l) (hz : AllB z.l) : wfB (.pair (.int .u8) (.pair (.arr 32 (.int .u8)) (.pair (.arr 32 (.int .u8)) (.arr 32 (.int .u8))))) (m, (x, (y, z))) = true := by
  have h2 : wfB (.arr 32 (.int .u8)) x = true := List.all_eq_true.2 fun y hy => wfu8 (hx y hy)
  have h3 : wfB (.arr 32 (.int .u8)) y = true := List.all_eq_true.2 fun z hz => wfu8 (hy z hz)
  have h4 : wfB (.arr 32 (.int .u8)) z = true := List.all_eq_true.2 fun y hy => wfu8 (hz y hy)
  show (wfB (.int .u8) m && (wfB (.arr 32 (.int .u8)) x && (wfB (.arr 32 (.int .u8)) y && wfB (.arr 32 (.int .u8)) z))) = true
  rw [h2, h3, h4, Bool.and_true, Bool.and_true, Bool.and_true]
  exact wfu8 hm
theorem law_AttrMakes (s : Int × (Int × List Int)) (x : Int × (Arr Int 32 × (Arr Int 32 × Arr Int 32))) (y : Int × Arr Int 32) (h1 : wfT (.pair (.int .u8) (.pair (.int .u32) (.sl (.int .u8)))) s) (h2 : wfT (.pair (.int .u8) (.pair (.arr 32 (.int .u8)) (.pair (.arr 32 (.int .u8)) (.arr 32 (.int .u8))))) x) (h3 : wfT (.pair (.int .u8) (.arr 32 (.int .u8))) y) : law17_AttrMakes 200000 s x y = some true := by
  obtain ⟨ab, code, d⟩ := s
  obtain ⟨m, xa, xb, xc⟩ := x
  obtain ⟨q, ya⟩ := y
  have ha : 0 ≤ ab ∧ ab < 256 := wf_u8 h1.1
  have hc : 0 ≤ code ∧ code < 4294967296 := by
    have := h1.2.1
    have h : (Lit.int .u32 code).wf = true := this
    simp only [Lit.wf, Bool.and_eq_true, decide_eq_true_eq, IntKind.min, IntKind.max, IntKind.signed, IntKind.bits] at h
    simp at h
    omega
  have hd : AllB d := wf_bytes h1.2.2
  have hm : 0 ≤ m ∧ m < 256 := wf_u8 h2.1
  have hxa : AllB xa.l := fun z hz => wf_u8 (h2.2.1 z hz)
  have hxb : AllB xb.l := fun z hz => wf_u8 (h2.2.2.1 z hz)
  have hxc : AllB xc.l := fun z hz => wf_u8 (h2.2.2.2 z hz)
  have hq : 0 ≤ q ∧ q < 256 := wf_u8 h3.1
  have hya : AllB ya.l := fun z hz => wf_u8 (h3.2 z hz)
  have lya := ya.h
  have lxa := xa.h
  have lxb := xb.h
  have lxc := xc.h
  unfold law17_AttrMakes
  by_cases hl : (300 : Int) < (d.length : Int)
  · rw [decide_eq_true hl]
    simp only [cond_true, alive17, Option.bind_some]
  · obtain ⟨sB, sL⟩ := stA_B ab code d ha hd
    have sS : attr_Same 200000 ((stA ab code d).1, (stA ab code d).2) ((stA ab code d).1, (stA ab code d).2) = some true := by
      have := asame_ok (N := 200000) (stA ab code d) (stA ab code d) ⟨(show 0 ≤ (2 : Int) ∧ (2 : Int) < 256 by decide), sB⟩ ⟨(show 0 ≤ (2 : Int) ∧ (2 : Int) < 256 by decide), sB⟩ (by omega) (by omega)
      rw [decide_eq_true rfl] at this
      exact this
    have bL : (biA m xa xb xc).2.length ≤ 1000 := by simp only [biA, List.length_cons, List.length_append]; omega
    have bS : attr_Same 200000 ((biA m xa xb xc).1, (biA m xa xb xc).2) ((biA m xa xb xc).1, (biA m xa xb xc).2) = some true := by
      have hB := biA_B m xa xb xc hm hxa hxb hxc
      have := asame_ok (N := 200000) (biA m xa xb xc) (biA m xa xb xc) ⟨(show 0 ≤ (3 : Int) ∧ (3 : Int) < 256 by decide), hB⟩ ⟨(show 0 ≤ (3 : Int) ∧ (3 : Int) < 256 by decide), hB⟩ (by omega) (by omega)
      rw [decide_eq_true rfl] at this
      exact this
    have aL : (asA q ya).2.length ≤ 1000 := by simp only [asA, List.length_cons]; omega
    have aS : attr_Same 200000 ((asA q ya).1, (asA q ya).2) ((asA q ya).1, (asA q ya).2) = some true := by
      have hB := asA_B q ya hq hya
      have := asame_ok (N := 200000) (asA q ya) (asA q ya) ⟨(show 0 ≤ (4 : Int) ∧ (4 : Int) < 256 by decide), hB⟩ ⟨(show 0 ≤ (4 : Int) ∧ (4 : Int) < 256 by decide), hB⟩ (by omega) (by omega)
      rw [decide_eq_true rfl] at this
      exact this
    have t1 := toSt_ok (N := 200000) ab code d ha hc hd (by omega)
    obtain ⟨v2, t2, e2⟩ := toBi_ok (N := 200000) m xa xb xc hm hxa hxb hxc
    obtain ⟨v3, t3, e3⟩ := toAs_ok (N := 200000) q ya hq hya
    have hw : 0 ≤ Go.IntKind.wrap .u16 code ∧ Go.IntKind.wrap .u16 code < 65536 := by rw [IntKind.wrap_u16]; omega
    have p1 := proto_ok (N := 200000) (Go.IntKind.wrap .u16 code) hw (by omega)
    have p2 := toPr_ok (N := 200000) (Go.IntKind.wrap .u16 code) hw (by omega)
    have hsame : ref01_Same 200000 (d.take 64) (d.take 64) = some true := by
      have h64 : (d.take 64).length ≤ 64 := by rw [List.length_take]; omega
      have := rsame (N := 200000) (d.take 64) (d.take 64) (by omega) (by omega)
      rw [decide_eq_true rfl] at this
      exact this
    rw [decide_eq_false hl]
    simp only [cond_false]
    rw [ofSt_ok (N := 200000) ab code d hc (by omega), Option.bind_some, ofBi_ok (N := 200000) m xa xb xc (by omega), Option.bind_some, ofAs_ok (N := 200000) q ya (by omega), Option.bind_some, rSt_ok (N := 200000) ab code d hc (by omega), Option.bind_some, sS, Option.bind_some]
    simp only [Bool.not_true, cond_false]
    rw [rBi_ok, Option.bind_some, bS, Option.bind_some]
    simp only [Bool.not_true, cond_false]
    rw [rAs_ok, Option.bind_some, aS, Option.bind_some]
    simp only [Bool.not_true, cond_false]
    rw [t1, Option.bind_some, t2, Option.bind_some, t3, Option.bind_some]
    simp only [p1, p2, Option.bind_some]
    have k3 := wfB_p1 hq hya
    have k2 := wfB_p3 hm hxa hxb hxc
    by_cases c1 : ab ≤ 4
    · by_cases c2 : m = 1 ∨ m = 2
      · have e2' := e2 c2
        subst e2'
        by_cases c3 : 1 ≤ q ∧ q ≤ 3
        · have e3' := e3 c3
          subst e3'
          rcases c2 with rfl | rfl <;> simp [c1, c3.1, c3.2, take64_ok, hsame, alive17, k2, k3]
        · by_cases c4 : 1 ≤ q
          · have c5 : ¬ q ≤ 3 := fun h => c3 ⟨c4, h⟩
            rcases c2 with rfl | rfl <;> simp [c1, c3, c4, c5, take64_ok, hsame, alive17, k2]
          · rcases c2 with rfl | rfl <;> simp [c1, c3, c4, take64_ok, hsame, alive17, k2]
      · have c21 : ¬ m = 1 := fun h => c2 (.inl h)
        have c22 : ¬ m = 2 := fun h => c2 (.inr h)
        by_cases c3 : 1 ≤ q ∧ q ≤ 3
        · have e3' := e3 c3
          subst e3'
          simp [c1, c21, c22, c3.1, c3.2, take64_ok, hsame, alive17, k3]
        · by_cases c4 : 1 ≤ q
          · have c5 : ¬ q ≤ 3 := fun h => c3 ⟨c4, h⟩
            simp [c1, c21, c22, c3, c4, c5, take64_ok, hsame, alive17]
          · simp [c1, c21, c22, c3, c4, take64_ok, hsame, alive17]
    · by_cases c2 : m = 1 ∨ m = 2
      · have e2' := e2 c2
        subst e2'
        by_cases c3 : 1 ≤ q ∧ q ≤ 3
        · have e3' := e3 c3
          subst e3'
          rcases c2 with rfl | rfl <;> simp [c1, c3.1, c3.2, take64_ok, hsame, alive17, k2, k3]
        · by_cases c4 : 1 ≤ q
          · have c5 : ¬ q ≤ 3 := fun h => c3 ⟨c4, h⟩
            rcases c2 with rfl | rfl <;> simp [c1, c3, c4, c5, take64_ok, hsame, alive17, k2]
          · rcases c2 with rfl | rfl <;> simp [c1, c3, c4, take64_ok, hsame, alive17, k2]
      · have c21 : ¬ m = 1 := fun h => c2 (.inl h)
        have c22 : ¬ m = 2 := fun h => c2 (.inr h)
        by_cases c3 : 1 ≤ q ∧ q ≤ 3
        · have e3' := e3 c3
          subst e3'
          simp [c1, c21, c22, c3.1, c3.2, take64_ok, hsame, alive17, k3]
        · by_cases c4 : 1 ≤ q
          · have c5 : ¬ q ≤ 3 := fun h => c3 ⟨c4, h⟩
            simp [c1, c21, c22, c3, c4, c5, take64_ok, hsame, alive17]
          · simp [c1, c21, c22, c3, c4, take64_ok, hsame, alive17]
end Go.Proofs.Ytcmekgfglohooaa
