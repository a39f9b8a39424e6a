/-
  Layer 34, on plain data: bindings and what asks for them as attributes.
-/
import Derived.Test.YtbaidlcbldbmdaaQY5
namespace Go.Proofs.Ytbaidlcbldbmdaa
set_option maxRecDepth 100000
open Go.RowKit
set_option linter.unusedVariables false
set_option linter.unusedSimpArgs false
set_option maxRecDepth 100000

def toE (a : At2) (k : Int) : Int := if a.1 = k then chk a else 9
abbrev A32 := Arr Int 32
/-- A binding's data. -/
def bdat (m : Int) (n h s : A32) : List Int := 0 :: 0 :: 0 :: m :: (n.l ++ (h.l ++ s.l))
def adat (m : Int) (n : A32) : List Int := 0 :: 0 :: 0 :: m :: n.l
theorem bdat_len (m : Int) (n h s : A32) : (bdat m n h s).length = 100 := by
  unfold bdat
  simp only [List.length_cons, List.length_append, n.h, h.h, s.h]
theorem adat_len (m : Int) (n : A32) : (adat m n).length = 36 := by
  unfold adat
  simp only [List.length_cons, n.h]
theorem bdat_B {m : Int} {n h s : A32} (hm : 0 ≤ m ∧ m < 256) (hn : AllB n.l) (hh : AllB h.l) (hs : AllB s.l) : AllB (bdat m n h s) := AllB.cons (by decide) (AllB.cons (by decide) (AllB.cons (by decide) (AllB.cons hm (hn.append (hh.append hs)))))
theorem adat_B {m : Int} {n : A32} (hm : 0 ≤ m ∧ m < 256) (hn : AllB n.l) : AllB (adat m n) := AllB.cons (by decide) (AllB.cons (by decide) (AllB.cons (by decide) (AllB.cons hm hn)))
theorem bdat_chk (n h s : A32) : chk (3, bdat 2 n h s) = 0 := by
  have l := bdat_len 2 n h s
  unfold chk
  have k : kindB 3 = true := by decide
  have l1 : leastA 3 = 100 := rfl
  have l2 : mostA 3 = 100 := rfl
  simp only [k, l1, l2, l]
  rw [if_neg (by decide), if_neg (by omega), if_neg (by omega), if_neg (by decide)]
  show (if (z3 0 0 0 && okB 3 2) = true then (0 : Int) else 3) = 0
  rw [if_pos (by decide)]
theorem adat_chk (n : A32) : chk (4, adat 2 n) = 0 := by
  have l := adat_len 2 n
  unfold chk
  have k : kindB 4 = true := by decide
  have l1 : leastA 4 = 36 := rfl
  have l2 : mostA 4 = 36 := rfl
  simp only [k, l1, l2, l]
  rw [if_neg (by decide), if_neg (by omega), if_neg (by omega), if_neg (by decide)]
  show (if (z3 0 0 0 && okB 4 2) = true then (0 : Int) else 3) = 0
  rw [if_pos (by decide)]
section
variable {N : Nat}
theorem checked_ok (a : At2) (k : Int) (hw : AllB a.2) : attr_checked N (a.1, a.2) k = some (toE a k) := by
  unfold attr_checked toE
  by_cases h : a.1 = k
  · have e : attr_Check N (a.1, a.2) = some (chk a) := chk_ok a hw
    simp [h]
    rw [← h]
    exact e
  · simp [h]
theorem behind_ok (w : Int) (l : List (List Int)) (hl : l.length ≤ 900) (hs : ∀ p ∈ l, p.length ≤ 100) (hN : 10000 ≤ N) : attr_behind N w l = some (0 :: 0 :: 0 :: w :: l.flatten) := by
  unfold attr_behind
  rw [ojoin l (by omega) (fun p hp => by have := hs p hp; omega) hN]
  have hfl : ∀ m : List (List Int), (∀ p ∈ m, p.length ≤ 100) → m.flatten.length ≤ 100 * m.length := by
    intro m
    induction m with
    | nil => intro _; simp
    | cons p m ih =>
      intro h
      have h1 := h p List.mem_cons_self
      have h2 := ih fun q hq => h q (List.mem_cons_of_mem _ hq)
      rw [List.flatten_cons, List.length_append, List.length_cons]
      omega
  have h3 := hfl l hs
  simp only [Option.bind_some]
  rw [ojoin _ (by simp) (fun p hp => by
    simp only [List.mem_cons, List.not_mem_nil, or_false] at hp
    rcases hp with rfl | rfl | rfl
    · simp
    · simp
    · omega) hN]
  have e3 : List.replicate (Int.toNat 3) (0 : Int) = [0, 0, 0] := rfl
  rw [e3]
  simp
theorem ofb_ok (m : Int) (n h s : A32) (hN : 10000 ≤ N) : attr_OfBinding N (m, n, h, s) = some (3, bdat m n h s) := by
  unfold attr_OfBinding
  simp only
  rw [behind_ok m _ (by simp) (fun p hp => by
    simp only [List.mem_cons, List.not_mem_nil, or_false] at hp
    rcases hp with rfl | rfl | rfl
    · rw [n.h]; omega
    · rw [h.h]; omega
    · rw [s.h]; omega) hN]
  simp [bdat]
theorem ofa_ok (m : Int) (n : A32) (hN : 10000 ≤ N) : attr_OfAsk N (m, n) = some (4, adat m n) := by
  unfold attr_OfAsk
  simp only
  rw [behind_ok m _ (by simp) (fun p hp => by
    simp only [List.mem_cons, List.not_mem_nil, or_false] at hp
    subst hp
    rw [n.h]; omega) hN]
  simp [adat]
theorem to32 (a : A32) : toArr 32 a.l = some a := by
  unfold toArr
  have := a.h
  rw [dif_pos (by omega)]
  congr 1
  exact Arr.ext' (List.take_of_length_le (by omega))
theorem tob_ok (n h s : A32) (hn : AllB n.l) (hh : AllB h.l) (hs : AllB s.l) : attr_ToBinding N (3, bdat 2 n h s) = some ((2, n, h, s), 0) := by
  unfold attr_ToBinding
  have e := checked_ok (N := N) (3, bdat 2 n h s) 3 (bdat_B (by decide) hn hh hs)
  have e2 : toE (3, bdat 2 n h s) 3 = 0 := by unfold toE; rw [if_pos rfl, bdat_chk]
  rw [e2] at e
  simp only at e ⊢
  rw [e]
  have l := bdat_len 2 n h s
  have g3 : getI (bdat 2 n h s) 3 = some 2 := rfl
  have s1 : subI (bdat 2 n h s) 4 36 = some n.l := by
    refine (subI_nat (bdat 2 n h s) (a := (4 : Int)) (b := 36) (i := 4) (j := 36) rfl rfl (by omega) (by omega)).trans ?_
    show some ((n.l ++ (h.l ++ s.l)).take 32) = _
    rw [List.take_append_of_le_length (by rw [n.h]; omega), List.take_of_length_le (by rw [n.h]; omega)]
  have s2 : subI (bdat 2 n h s) 36 68 = some h.l := by
    refine (subI_nat (bdat 2 n h s) (a := (36 : Int)) (b := 68) (i := 36) (j := 68) rfl rfl (by omega) (by omega)).trans ?_
    show some (((n.l ++ (h.l ++ s.l)).drop 32).take 32) = _
    have : (n.l ++ (h.l ++ s.l)).drop 32 = h.l ++ s.l := by
      have := List.drop_left (l₁ := n.l) (l₂ := h.l ++ s.l)
      rw [n.h] at this; exact this
    rw [this, List.take_append_of_le_length (by rw [h.h]; omega), List.take_of_length_le (by rw [h.h]; omega)]
  have s3 : dropI (bdat 2 n h s) 68 = some s.l := by
    refine (dropI_nat (bdat 2 n h s) (a := (68 : Int)) (i := 68) rfl (by omega)).trans ?_
    show some ((n.l ++ (h.l ++ s.l)).drop 64) = _
    have h1 : (n.l ++ (h.l ++ s.l)).drop 32 = h.l ++ s.l := by
      have := List.drop_left (l₁ := n.l) (l₂ := h.l ++ s.l)
      rw [n.h] at this; exact this
    have h2 : (h.l ++ s.l).drop 32 = s.l := by
      have := List.drop_left (l₁ := h.l) (l₂ := s.l)
      rw [h.h] at this; exact this
    rw [show (64 : Nat) = 32 + 32 by rfl, ← List.drop_drop, h1, h2]
  simp only [Option.bind_some, decide_true, Bool.not_true, cond_false, g3, s1, s2, s3, to32]
theorem toa_ok (n : A32) (hn : AllB n.l) : attr_ToAsk N (4, adat 2 n) = some ((2, n), 0) := by
  unfold attr_ToAsk
  have e := checked_ok (N := N) (4, adat 2 n) 4 (adat_B (by decide) hn)
  have e2 : toE (4, adat 2 n) 4 = 0 := by unfold toE; rw [if_pos rfl, adat_chk]
  rw [e2] at e
  simp only at e ⊢
  rw [e]
  have l := adat_len 2 n
  have g3 : getI (adat 2 n) 3 = some 2 := rfl
  have s3 : dropI (adat 2 n) 4 = some n.l := by
    exact (dropI_nat (adat 2 n) (a := (4 : Int)) (i := 4) rfl (by omega)).trans rfl
  simp only [Option.bind_some, decide_true, Bool.not_true, cond_false, g3, s3, to32]
theorem rofb_ok (m : Int) (n h s : A32) : ref17_Binding N m n h s = some (3, bdat m n h s) := by
  unfold ref17_Binding
  have r1 : roomB (([0, 0, 0, m] : List Int).length + n.l.length) 1 = true := by rw [n.h]; show roomB (4 + 32) 1 = true; decide
  have r2 : roomB ((([0, 0, 0, m] : List Int) ++ n.l).length + h.l.length) 1 = true := by rw [List.length_append, n.h, h.h]; show roomB (4 + 32 + 32) 1 = true; decide
  have r3 : roomB (((([0, 0, 0, m] : List Int) ++ n.l) ++ h.l).length + s.l.length) 1 = true := by rw [List.length_append, List.length_append, n.h, h.h, s.h]; show roomB (4 + 32 + 32 + 32) 1 = true; decide
  have e : n.l.isEmpty = false := by
    cases hl : n.l with
    | nil => have := n.h; rw [hl] at this; simp at this
    | cons x r => rfl
  rw [r1, e]
  simp only [Bool.not_false, Bool.and_true, cond_true, r2, r3]
  simp [bdat]
theorem rofa_ok (m : Int) (n : A32) : ref17_Ask N m n = some (4, adat m n) := by
  unfold ref17_Ask
  have r1 : roomB (([0, 0, 0, m] : List Int).length + n.l.length) 1 = true := by rw [n.h]; show roomB (4 + 32) 1 = true; decide
  have e : n.l.isEmpty = false := by
    cases hl : n.l with
    | nil => have := n.h; rw [hl] at this; simp at this
    | cons x r => rfl
  rw [r1, e]
  simp only [Bool.not_false, Bool.and_true, cond_true]
  simp [adat]
end
end Go.Proofs.Ytbaidlcbldbmdaa
