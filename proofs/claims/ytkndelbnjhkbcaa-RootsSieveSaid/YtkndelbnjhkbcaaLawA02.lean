/-
  Contract: the probe of layer 2 answers true.
-/
import Derived.Test.YtkndelbnjhkbcaaRoots2
namespace Go.Proofs.Ytkndelbnjhkbcaa
open Go.RowKit
set_option linter.unusedVariables false

theorem rootI_2_2_30 : rootI 2 2 30 = 1518500249 := by decide +kernel
theorem rootE_2_2_30 : rootE 2 2 30 = 0 := by decide
theorem first4 : firstPrimes 4 = [2, 3, 5, 7] := by decide +kernel
theorem frac_2_2 : fracI 2 2 = 1779033703 := by decide +kernel
theorem is_2_4 : true = decide (rootE 4 2 0 = 0 ∧ 2 = rootI 4 2 0) := by decide +kernel
theorem fracs_2 : (fracs 2 3).length = 2 := by decide +kernel
set_option maxHeartbeats 800000 in
theorem alive02 (w : World) : Calls Try.prog 16 #[] w fun e w' => e = .returned (.bool true) ∧ Below w.heap.size w w' := by
  have c1 : ∀ w, Calls Try.prog 11 #[.int .i64 2, .int .i64 2, .int .i64 30] w fun e w' => e = .returned (.tuple #[.int .u64 1518500249, .int .i64 0]) ∧ Qt w w' := fun w => by
    have := roots_root_all 2 2 30 w
    rw [rootI_2_2_30, rootE_2_2_30] at this
    exact this
  have c2 : ∀ w, Calls Try.prog 17 #[.int .i64 4] w (RetV 3 w [.int .i64 2, .int .i64 3, .int .i64 5, .int .i64 7]) := fun w => by
    have := roots_primes 4 w
    rw [show (min (4 : Int) 168).toNat = 4 from rfl, first4] at this
    exact this
  have c3 : ∀ w, Calls Try.prog 14 #[.int .i64 2, .int .i64 2] w fun e w' => e = .returned (.int .u32 1779033703) ∧ Qt w w' := fun w => by
    have := roots_frac 2 2 w
    rw [frac_2_2] at this
    exact this
  have c4 : ∀ w, Calls Try.prog 13 #[.int .u64 2, .int .i64 4, .int .i64 2, .int .i64 0] w fun e w' => e = .returned (.bool true) ∧ Qt w w' := fun w =>
    roots_is 2 4 2 0 true w (by omega) is_2_4
  have c5 : ∀ w, Calls Try.prog 19 #[.int .i64 2, .int .i64 3] w fun e w' => ∃ A c, e = .returned (.slice A 2 c) ∧ Below w.heap.size w w' := fun w =>
    (roots_fracs 2 3 w).mono fun e w' ⟨v, he, ho, hb⟩ => by
      rw [show (min (2 : Int) 168).toNat = 2 from rfl, List.length_map, fracs_2] at ho
      obtain ⟨A, c, rfl, _⟩ := ho.shape
      exact ⟨A, c, he, hb⟩
  go_enter Try.func16, Try.ntmps16
  go_wp2_with fail
  refine (c1 _).mono ?_
  rintro e w1 ⟨rfl, hq1⟩
  have hb1 := hq1.below w.heap.size
  clear hq1
  go_wp2_with fail
  refine (c2 _).mono ?_
  rintro e w2 ⟨v, rfl, hown, hb2⟩
  obtain ⟨A, c, rfl, hnc, hcm, hrv⟩ := hown.shape
  have hb12 := hb1.trans (hb2.mono hb1.size)
  have Hrv := Lib.hid hrv
  obtain ⟨ad, vv, hA, hlt, hvk, hcell⟩ := hrv.at_ (k := 3) (by decide)
  simp at hvk
  subst hvk
  subst hA
  have hcell' : w2.cell? { block := ad.block, off := ad.off + 3 } = some (.int .i64 7) := by simpa [Addr.add] using hcell
  clear hcell
  clear hown hb1 hb2 hrv hlt
  have Hb := Lib.hid hb12; clear hb12
  have hlen : [Value.int .i64 2, Value.int .i64 3, Value.int .i64 5, Value.int .i64 7].length = 4 := rfl
  rw [hlen]
  clear hlen
  go_wp2_with fail
  refine (c3 _).mono ?_
  rintro e w3 ⟨rfl, hq3⟩
  have Hb3 := Lib.hid (below_qt Hb.out hq3); clear hq3
  go_wp2_with fail
  refine (c4 _).mono ?_
  rintro e w4 ⟨rfl, hq4⟩
  have Hb4 := Lib.hid (below_qt Hb3.out hq4); clear hq4
  go_wp2_with fail
  refine (c5 _).mono ?_
  rintro e w5 ⟨A5, c5, rfl, hb5⟩
  have Hb5 := Lib.hid (Hb4.out.trans (hb5.mono Hb4.out.size)); clear hb5
  go_wp2
  go_ret
  exact ⟨rfl, Hb5.out⟩
end Go.Proofs.Ytkndelbnjhkbcaa
