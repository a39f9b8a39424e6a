/-
  Walk: any word permuted, turned and split, and any bit of it, are the document's.
-/
import Derived.Test.YtkndelbnjhkbcaaLawA03
import Derived.Test.YtkndelbnjhkbcaaRef03c
namespace Go.Proofs.Ytkndelbnjhkbcaa
open Go.RowKit
set_option linter.unusedVariables false

theorem both_bit (x : Nat) (W i : Int) (hx : x < 18446744073709551616) : ∃ v : Int,
    (∀ w, Calls Try.prog 27 #[.int .u64 x, .int .i64 W, .int .i64 i] w fun e w' => e = .returned (.int .u64 v) ∧ w = w') ∧
    (∀ w, Calls Try.prog 28 #[.int .u64 x, .int .i64 W, .int .i64 i] w fun e w' => e = .returned (.int .u64 v) ∧ Below w.heap.size w w') := by
  by_cases h : MayW W ∧ 1 ≤ i ∧ i ≤ W
  · obtain ⟨⟨g1, g2⟩, h1, h2⟩ := h
    obtain ⟨V, rfl⟩ : ∃ V : Nat, W = (V : Int) := ⟨W.toNat, by omega⟩
    obtain ⟨j, rfl⟩ : ∃ j : Nat, i = (j : Int) := ⟨i.toNat, by omega⟩
    exact ⟨_, fun w => bitp_bit_yes x V j w hx (by omega) (by omega) (by omega), fun w => ref_bit_yes x V j w hx (by omega) (by omega) (by omega)⟩
  · exact ⟨0, fun w => bitp_bit_no x W i w h, fun w => (ref_bit_no x W i w h).mono fun e w' ⟨he, hw⟩ => ⟨he, hw ▸ Below.refl _ _⟩⟩
theorem both_split (x : Nat) (W i : Int) (hx : x < 18446744073709551616) : ∃ p q r : Int,
    (∀ w, Calls Try.prog 25 #[.int .u64 x, .int .i64 W, .int .i64 i] w fun e w' => e = .returned (.tuple #[.int .u64 p, .int .u64 q, .int .i64 r]) ∧ Qt w w') ∧
    (∀ w, Calls Try.prog 26 #[.int .u64 x, .int .i64 W, .int .i64 i] w fun e w' => e = .returned (.tuple #[.int .u64 p, .int .u64 q, .int .i64 r]) ∧ Below w.heap.size w w') := by
  by_cases h : MayW W ∧ 0 ≤ i ∧ i ≤ W
  · obtain ⟨⟨g1, g2⟩, h1, h2⟩ := h
    obtain ⟨V, rfl⟩ : ∃ V : Nat, W = (V : Int) := ⟨W.toNat, by omega⟩
    obtain ⟨j, rfl⟩ : ∃ j : Nat, i = (j : Int) := ⟨i.toNat, by omega⟩
    exact ⟨_, _, _, fun w => bitp_split_yes x V j w hx (by omega) (by omega) (by omega), fun w => ref_split_yes x V j w hx (by omega) (by omega) (by omega)⟩
  · exact ⟨0, 0, 1, fun w => (bitp_split_no x W i w h).mono fun e w' ⟨he, hw⟩ => ⟨he, hw ▸ Qt.refl _⟩, fun w => (ref_split_no x W i w h).mono fun e w' ⟨he, hw⟩ => ⟨he, hw ▸ Below.refl _ _⟩⟩
theorem both_turn (x : Nat) (W i : Int) (hx : x < 18446744073709551616) : ∃ p r : Int,
    (∀ w, Calls Try.prog 23 #[.int .u64 x, .int .i64 W, .int .i64 i] w fun e w' => e = .returned (.tuple #[.int .u64 p, .int .i64 r]) ∧ Qt w w') ∧
    (∀ w, Calls Try.prog 24 #[.int .u64 x, .int .i64 W, .int .i64 i] w fun e w' => e = .returned (.tuple #[.int .u64 p, .int .i64 r]) ∧ Below w.heap.size w w') := by
  by_cases h : MayW W
  · obtain ⟨g1, g2⟩ := h
    obtain ⟨V, rfl⟩ : ∃ V : Nat, W = (V : Int) := ⟨W.toNat, by omega⟩
    exact ⟨_, _, fun w => bitp_turn_yes x V i w hx (by omega) (by omega), fun w => ref_turn_yes x V i w hx (by omega) (by omega)⟩
  · exact ⟨0, 1, fun w => (bitp_turn_no x W i w h).mono fun e w' ⟨he, hw⟩ => ⟨he, hw ▸ Qt.refl _⟩, fun w => (ref_turn_no x W i w h).mono fun e w' ⟨he, hw⟩ => ⟨he, hw ▸ Below.refl _ _⟩⟩

set_option maxRecDepth 100000 in
set_option maxHeartbeats 2000000 in
theorem law_words (x n c : Nat) (W t i : Int) (A : Option Addr) (zs : List Int) (w : World) (hx : x < 18446744073709551616) (hz : RV w A n (zs.map iz)) (hn : n ≤ c) (hc : c ≤ maxLen) :
    Calls Try.prog 7 #[.int .u64 x, .agg #[.int .i64 W, .int .i64 t, .int .i64 i], .slice A n c] w fun e w' => e = .returned (.bool true) ∧ Below w.heap.size w w' := by
  have hnm : n ≤ maxLen := Nat.le_trans hn hc
  have hnm' := hnm
  unfold maxLen at hnm'
  by_cases hbig : 200 < n
  · clear hz hn hc hnm
    go_enter Try.func7, Try.ntmps7
    go_wp2_with fail
    refine (alive03 _).mono ?_
    rintro e w4 ⟨rfl, hb4⟩
    go_wp2
    go_ret
    exact ⟨rfl, ((Below.refl _ _).alloc (Nat.le_refl _) _).trans (hb4.mono (by simp))⟩
  · obtain ⟨b, bit1, bit2⟩ := both_bit x W i hx
    obtain ⟨p, q, r, sp1, sp2⟩ := both_split x W i hx
    obtain ⟨u, v, tu1, tu2⟩ := both_turn x W t hx
    obtain ⟨P, hP⟩ : ∃ P, P = permI x W zs := ⟨_, rfl⟩
    obtain ⟨E, hE⟩ : ∃ E, E = permE W zs := ⟨_, rfl⟩
    have pe1 : ∀ w', Below w.heap.size w w' → Calls Try.prog 21 #[.int .u64 x, .int .i64 W, .slice A n c] w' fun e w'' => e = .returned (.tuple #[.int .u64 P, .int .i64 E]) ∧ Below w'.heap.size w' w'' := fun w' hb => by
      rw [hP, hE]; exact bitp_permute x n c W A zs w' hx (hz.below hb) hnm
    have pe2 : ∀ w', Below w.heap.size w w' → Calls Try.prog 22 #[.int .u64 x, .int .i64 W, .slice A n c] w' fun e w'' => e = .returned (.tuple #[.int .u64 P, .int .i64 E]) ∧ Below w'.heap.size w' w'' := fun w' hb => by
      rw [hP, hE]; exact ref_permute x n c W A zs w' hx (hz.below hb) hnm
    have Bit1 := Lib.hid bit1; clear bit1
    have Bit2 := Lib.hid bit2; clear bit2
    have Sp1 := Lib.hid sp1; clear sp1
    have Sp2 := Lib.hid sp2; clear sp2
    have Tu1 := Lib.hid tu1; clear tu1
    have Tu2 := Lib.hid tu2; clear tu2
    have Pe1 := Lib.hid pe1; clear pe1
    have Pe2 := Lib.hid pe2; clear pe2
    have hb0 := (Below.refl w.heap.size w).alloc (Nat.le_refl _) (.cells #[.int .i64 W, .int .i64 t, .int .i64 i] 39)
    have Hb0 := Lib.hid hb0; clear hb0
    clear hz hP hE hn hc hnm
    go_enter Try.func7, Try.ntmps7
    go_wp2
    go_quiet (fail)
    go_wp2_with fail
    refine (Pe1.out _ (below_drewN Hb0.out _)).mono ?_
    rintro e w1 ⟨rfl, hb1⟩
    have Hb1 := Lib.hid ((below_drewN Hb0.out nq).trans (hb1.mono (by simp))); clear hb1
    go_wp2_with fail
    refine (Pe2.out _ Hb1.out).mono ?_
    rintro e w2 ⟨rfl, hb2⟩
    have Hb2 := Lib.hid (Hb1.out.trans (hb2.mono Hb1.out.size)); clear hb2
    go_wp2_with fail
    refine (Tu1.out _).mono ?_
    rintro e w3 ⟨rfl, hq3⟩
    have Hb3 := Lib.hid (below_qt Hb2.out hq3); clear hq3
    go_wp2_with fail
    refine (Tu2.out _).mono ?_
    rintro e w4 ⟨rfl, hb4⟩
    have Hb4 := Lib.hid (Hb3.out.trans (hb4.mono Hb3.out.size)); clear hb4
    go_wp2_with fail
    refine (Sp1.out _).mono ?_
    rintro e w5 ⟨rfl, hq5⟩
    have Hb5 := Lib.hid (below_qt Hb4.out hq5); clear hq5
    go_wp2_with fail
    refine (Sp2.out _).mono ?_
    rintro e w6 ⟨rfl, hb6⟩
    have Hb6 := Lib.hid (Hb5.out.trans (hb6.mono Hb5.out.size)); clear hb6
    go_wp2_with fail
    refine (Bit1.out _).mono ?_
    rintro e w7 ⟨rfl, rfl⟩
    go_wp2_with fail
    refine (Bit2.out _).mono ?_
    rintro e w8 ⟨rfl, hb8⟩
    have Hb8 := Lib.hid (Hb6.out.trans (hb8.mono Hb6.out.size)); clear hb8
    go_wp2_with fail
    refine (alive03 _).mono ?_
    rintro e w9 ⟨rfl, hb9⟩
    go_wp2
    go_ret
    exact ⟨rfl, Hb8.out.trans (hb9.mono Hb8.out.size)⟩
end Go.Proofs.Ytkndelbnjhkbcaa
