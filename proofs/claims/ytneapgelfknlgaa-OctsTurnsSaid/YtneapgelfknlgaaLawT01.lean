/-
  The walk of the law OctsTurns.
-/
import Derived.Test.YtneapgelfknlgaaLaws01
namespace Go.Proofs.Ytneapgelfknlgaa
open Go.RowKit
set_option linter.unusedVariables false

set_option maxHeartbeats 4000000 in
theorem law_turns (A B : Option Addr) (n m c d : Nat) (xs ys : List UInt8) (w : World) (hx : RB w A n xs) (hy : RB w B m ys) (hnc : n ≤ c) (hcm : c ≤ maxLen) (hmd : m ≤ d) (hdm : d ≤ maxLen) :
    Calls Try.prog 4 #[.slice A n c, .slice B m d] w fun e w' => e = .returned (.bool true) ∧ Below w.heap.size w w' := by
  have Hcm := Lib.hid hcm
  have Hdm := Lib.hid hdm
  unfold maxLen at hcm hdm
  by_cases h300 : 300 < n ∨ 300 < m
  · rcases h300 with h | h
    · go_enter Try.func4, Try.ntmps4
      go_wp2_with fail
      refine (alive_true _).mono ?_
      rintro e w1 ⟨rfl, hb1⟩
      go_wp2
      go_ret
      exact ⟨rfl, hb1⟩
    · go_enter Try.func4, Try.ntmps4
      go_wp2_with fail
      all_goals
        refine (alive_true _).mono ?_
        rintro e w1 ⟨rfl, hb1⟩
        go_wp2
        go_ret
        exact ⟨rfl, hb1⟩
  · have hn : n ≤ 300 := by omega
    have hm : m ≤ 300 := by omega
    clear h300
    go_enter Try.func4, Try.ntmps4
    go_wp2_with fail
    refine (octs_xor_all A B n m c d xs ys _ hx hy (by omega) (by simp only [maxLen]; omega)).mono ?_
    rintro e w1 ⟨A1, n1, c1, rfl, hc1, hm1, hr1, hb1⟩
    have Hr1 := Lib.hid hr1; clear hr1
    go_wp2_with fail
    refine (ref_xor_all A B n m c d xs ys _ (hx.below hb1) (hy.below hb1) (by omega) (by simp only [maxLen]; omega)).mono ?_
    rintro e w2 ⟨A2, n2, c2, rfl, hc2, hm2, hr2, hb2⟩
    have Hr2 := Lib.hid hr2; clear hr2
    have hb12 := hb1.trans (hb2.mono hb1.size)
    go_wp2_with fail
    refine (octs_join _ 3 3 [xs, [], ys] _ (RPs.new3 (hx.below hb12) (RB.nil w2 none) (hy.below hb12) hnc (Nat.le_refl 0) hmd Hcm.out (by simp [maxLen]) Hdm.out _ _ rfl) (by simp [maxLen]) (by simp [tot, hx.len, hy.len]; omega)).mono ?_
    rintro e w3 ⟨v3, rfl, ho3, hb3⟩
    have et : tot [xs, [], ys] = n + m := by simp [tot, hx.len, hy.len]
    have ef : [xs, [], ys].flatten = xs ++ ys := by simp
    rw [et, ef] at ho3
    obtain ⟨A3, c3, rfl, hc3, hm3, hr3⟩ := ho3.shape
    have Hr3 := Lib.hid hr3; clear hr3 ho3 et ef
    have hb23 := ((Below.refl w2.heap.size w2).alloc (Nat.le_refl _) (.cells #[.slice A n c, .slice none 0 0, .slice B m d] 23)).trans (hb3.mono (by simp))
    have hb13 := hb12.trans (hb23.mono hb12.size)
    have hx3 := hx.below hb13
    have hy3 := hy.below hb13
    have Hx3 := Lib.hid hx3; clear hx3
    have Hy3 := Lib.hid hy3; clear hy3
    have H12 := Lib.hid ((Hr1.out.below hb2).below hb23)
    have H22 := Lib.hid (Hr2.out.below hb23)
    have Hb13 := Lib.hid hb13
    clear hb13 hb23 hb3 hb12 hb1 hb2 Hr1 Hr2 hx hy
    go_wp2_with fail
    refine (ref_same A1 A2 n1 n2 c1 c2 _ _ _ H12.out H22.out (by omega) (by omega)).mono ?_
    rintro e w4 ⟨rfl, hq4⟩
    rw [same_self]
    have Hq4 := Lib.hid hq4; clear hq4
    go_wp2_with fail
    refine (octs_same A B n m c d _ _ _ (Hx3.out.qt Hq4.out) (Hy3.out.qt Hq4.out) (by simp only [maxLen]; omega) (by simp only [maxLen]; omega)).mono ?_
    rintro e w5 ⟨rfl, hq5⟩
    have Hq5 := Lib.hid (Hq4.out.trans hq5); clear hq5
    go_wp2_with fail
    refine (ref_same A B n m c d _ _ _ (Hx3.out.qt Hq5.out) (Hy3.out.qt Hq5.out) (by simp only [maxLen]; omega) (by simp only [maxLen]; omega)).mono ?_
    rintro e w6 ⟨rfl, hq6⟩
    have Hq6 := Lib.hid (Hq5.out.trans hq6); clear hq6
    obtain ⟨D, hD⟩ : ∃ D, D = decide (xs = ys) := ⟨_, rfl⟩
    rw [← hD]
    clear hD
    go_wp2_with fail
    have ht := Hr3.out.upto (k := n) (by omega)
    rw [List.take_left' Hx3.out.len] at ht
    refine (ref_same A3 A n n c3 c xs xs _ (ht.qt Hq6.out) (Hx3.out.qt Hq6.out) (by simp only [maxLen]; omega) (by simp only [maxLen]; omega)).mono ?_
    rintro e w7 ⟨rfl, hq7⟩
    rw [same_self]
    have Hq7 := Lib.hid (Hq6.out.trans hq7); clear hq7 ht
    have hd := Hr3.out.from_ (k := n) (c := c3) (by omega) (by omega)
    rw [List.drop_left' Hx3.out.len, show n + m - n = m by omega] at hd
    have Hd := Lib.hid hd; clear hd
    by_cases hcn : c3 = n
    · have hd := Hd.out
      rw [if_pos hcn] at hd
      obtain rfl : m = 0 := by omega
      subst hcn
      have Hd' := Lib.hid hd; clear hd
      go_wp2_with fail
      refine (ref_same _ B 0 0 _ d ys ys _ (Hd'.out.qt Hq7.out) (Hy3.out.qt Hq7.out) (by simp only [maxLen]; omega) (by simp only [maxLen]; omega)).mono ?_
      rintro e w8 ⟨rfl, hq8⟩
      rw [same_self]
      have Hq8 := Lib.hid (Hq7.out.trans hq8); clear hq8
      go_wp2_with fail
      refine (alive_true _).mono ?_
      rintro e w9 ⟨rfl, hb9⟩
      go_wp2
      go_ret
      have h8 := below_qt Hb13.out Hq8.out
      exact ⟨rfl, h8.trans (hb9.mono h8.size)⟩
    · have hd := Hd.out
      rw [if_neg hcn] at hd
      have Hd' := Lib.hid hd; clear hd
      have hc3n : ¬ ((c3 : Int) = n) := by omega
      go_wp2_with fail
      refine (ref_same _ B _ m _ d ys ys _ (Hd'.out.qt Hq7.out) (Hy3.out.qt Hq7.out) (by simp only [maxLen]; omega) (by simp only [maxLen]; omega)).mono ?_
      rintro e w8 ⟨rfl, hq8⟩
      rw [same_self]
      have Hq8 := Lib.hid (Hq7.out.trans hq8); clear hq8
      go_wp2_with fail
      refine (alive_true _).mono ?_
      rintro e w9 ⟨rfl, hb9⟩
      go_wp2
      go_ret
      have h8 := below_qt Hb13.out Hq8.out
      exact ⟨rfl, h8.trans (hb9.mono h8.size)⟩

end Go.Proofs.Ytneapgelfknlgaa
