/-
  Walk: roots do not fall; a bit more tells the same root more closely.
-/
import Derived.Test.YtkndelbnjhkbcaaLawA02
namespace Go.Proofs.Ytkndelbnjhkbcaa
open Go.RowKit
set_option linter.unusedVariables false

set_option maxRecDepth 100000 in
set_option maxHeartbeats 1000000 in
theorem law_rise (n d b : Int) (w : World) :
    Calls Try.prog 5 #[.int .i64 n, .int .i64 d, .int .i64 b] w fun e w' => e = .returned (.bool true) ∧ Below w.heap.size w w' := by
  by_cases h : MayRootI n d b
  · obtain ⟨N, D, B, rfl, rfl, rfl, hm⟩ := h.nat
    clear h
    have Hm := Lib.hid hm
    obtain ⟨h1, h2, h3⟩ := hm
    obtain ⟨X, hX⟩ : ∃ X, X = rootOf N D B := ⟨_, rfl⟩
    obtain ⟨Y, hY⟩ : ∃ Y, Y = rootOf (N + 1) D B := ⟨_, rfl⟩
    obtain ⟨Z, hZ⟩ : ∃ Z, Z = rootOf N D (B + 1) := ⟨_, rfl⟩
    have c1 : ∀ w, Calls Try.prog 11 #[.int .i64 N, .int .i64 D, .int .i64 B] w fun e w' => e = .returned (.tuple #[.int .u64 X, .int .i64 0]) ∧ Qt w w' := fun w => by
      rw [hX]; exact roots_root N D B w Hm.out
    have c2 : N < 1000 → (X ≤ Y ∧ ∀ w, Calls Try.prog 11 #[.int .i64 ((N : Int) + 1), .int .i64 D, .int .i64 B] w fun e w' => e = .returned (.tuple #[.int .u64 Y, .int .i64 0]) ∧ Qt w w') := fun hN => by
      have hm' : MayRoot (N + 1) D B := ⟨by omega, h2, h3⟩
      rw [hX, hY]
      refine ⟨rootOf_mono Hm.out hm', fun w => ?_⟩
      have := roots_root (N + 1) D B w hm'
      rw [Int.natCast_add] at this
      exact this
    have c3 : B < 32 → (Z < 137438953472 ∧ ((Z : Int) / 2 != (X : Int)) = false ∧ ∀ w, Calls Try.prog 11 #[.int .i64 N, .int .i64 D, .int .i64 ((B : Int) + 1)] w fun e w' => e = .returned (.tuple #[.int .u64 Z, .int .i64 0]) ∧ Qt w w') := fun hB => by
      have hm' : MayRoot N D (B + 1) := ⟨h1, h2, by omega⟩
      refine ⟨by rw [hZ]; exact rootOf_lt hm', ?_, fun w => ?_⟩
      · have := rootOf_bit Hm.out hm'
        rw [← hX, ← hZ] at this
        simp; omega
      · rw [hZ]
        have := roots_root N D (B + 1) w hm'
        rw [Int.natCast_add] at this
        exact this
    clear hX hY hZ
    have H2 := Lib.hid h2; clear h2
    have C2 := Lib.hid c2; clear c2
    have C3 := Lib.hid c3; clear c3
    by_cases hN : N < 1000
    · obtain ⟨hXY, c2⟩ := C2.out hN
      by_cases hB : B < 32
      · obtain ⟨hzl, hz, c3⟩ := C3.out hB
        go_enter Try.func5, Try.ntmps5
        go_wp2_with fail
        refine (c1 _).mono ?_
        rintro e w1 ⟨rfl, hq1⟩
        have Hb1 := Lib.hid (hq1.below w.heap.size); clear hq1
        go_wp2_with fail
        refine (c2 _).mono ?_
        rintro e w2 ⟨rfl, hq2⟩
        have Hb2 := Lib.hid (below_qt Hb1.out hq2); clear hq2
        go_wp2_with fail
        refine (c3 _).mono ?_
        rintro e w3 ⟨rfl, hq3⟩
        have Hb3 := Lib.hid (below_qt Hb2.out hq3); clear hq3
        go_wp2_with fail
        refine (alive02 _).mono ?_
        rintro e w4 ⟨rfl, hb4⟩
        go_wp2
        go_ret
        exact ⟨rfl, Hb3.out.trans (hb4.mono Hb3.out.size)⟩
      · go_enter Try.func5, Try.ntmps5
        go_wp2_with fail
        refine (c1 _).mono ?_
        rintro e w1 ⟨rfl, hq1⟩
        have Hb1 := Lib.hid (hq1.below w.heap.size); clear hq1
        go_wp2_with fail
        refine (c2 _).mono ?_
        rintro e w2 ⟨rfl, hq2⟩
        have Hb2 := Lib.hid (below_qt Hb1.out hq2); clear hq2
        go_wp2_with fail
        refine (alive02 _).mono ?_
        rintro e w4 ⟨rfl, hb4⟩
        go_wp2
        go_ret
        exact ⟨rfl, Hb2.out.trans (hb4.mono Hb2.out.size)⟩
    · by_cases hB : B < 32
      · obtain ⟨hzl, hz, c3⟩ := C3.out hB
        go_enter Try.func5, Try.ntmps5
        go_wp2_with fail
        refine (c1 _).mono ?_
        rintro e w1 ⟨rfl, hq1⟩
        have Hb1 := Lib.hid (hq1.below w.heap.size); clear hq1
        go_wp2_with fail
        refine (c3 _).mono ?_
        rintro e w3 ⟨rfl, hq3⟩
        have Hb3 := Lib.hid (below_qt Hb1.out hq3); clear hq3
        go_wp2_with fail
        refine (alive02 _).mono ?_
        rintro e w4 ⟨rfl, hb4⟩
        go_wp2
        go_ret
        exact ⟨rfl, Hb3.out.trans (hb4.mono Hb3.out.size)⟩
      · go_enter Try.func5, Try.ntmps5
        go_wp2_with fail
        refine (c1 _).mono ?_
        rintro e w1 ⟨rfl, hq1⟩
        have Hb1 := Lib.hid (hq1.below w.heap.size); clear hq1
        go_wp2_with fail
        refine (alive02 _).mono ?_
        rintro e w4 ⟨rfl, hb4⟩
        go_wp2
        go_ret
        exact ⟨rfl, Hb1.out.trans (hb4.mono Hb1.out.size)⟩
  · have hr := roots_root_no n d b w h
    have hi : rootE n d b = 1 := by unfold MayRootI at h; simp only [rootE, if_neg h]
    have his := fun w => roots_is 0 n d b false w (by omega) (by rw [hi]; simp)
    clear h hi
    go_enter Try.func5, Try.ntmps5
    go_wp2_with fail
    refine hr.mono ?_
    rintro e w1 ⟨rfl, rfl⟩
    go_wp2_with fail
    refine (his _).mono ?_
    rintro e w2 ⟨rfl, hq2⟩
    have Hb2 := Lib.hid (hq2.below w.heap.size); clear hq2
    go_wp2_with fail
    refine (alive02 _).mono ?_
    rintro e w4 ⟨rfl, hb4⟩
    go_wp2
    go_ret
    exact ⟨rfl, Hb2.out.trans (hb4.mono Hb2.out.size)⟩
end Go.Proofs.Ytkndelbnjhkbcaa
