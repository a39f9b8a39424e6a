/-
  The walk of the law OctsHex.
-/
import Derived.Test.YtneapgelfknlgaaLaws01
namespace Go.Proofs.Ytneapgelfknlgaa
open Go.RowKit
set_option linter.unusedVariables false

set_option maxHeartbeats 4000000 in
theorem law_hex (A : Option Addr) (n c : Nat) (xs : List UInt8) (s : ByteArray) (w : World) (hx : RB w A n xs) (hnc : n ≤ c) (hcm : c ≤ maxLen) (hs : s.size ≤ maxLen) :
    Calls Try.prog 5 #[.slice A n c, .string s] w fun e w' => e = .returned (.bool true) ∧ Below w.heap.size w w' := by
  unfold maxLen at hcm hs
  by_cases h300 : 300 < n ∨ 300 < s.size
  · rcases h300 with h | h
    · go_enter Try.func5, Try.ntmps5
      go_wp2_with fail
      refine (alive_true _).mono ?_
      rintro e w1 ⟨rfl, hb1⟩
      go_wp2
      go_ret
      exact ⟨rfl, hb1⟩
    · go_enter Try.func5, Try.ntmps5
      go_wp2_with fail
      all_goals
        refine (alive_true _).mono ?_
        rintro e w1 ⟨rfl, hb1⟩
        go_wp2
        go_ret
        exact ⟨rfl, hb1⟩
  · have hn : n ≤ 300 := by omega
    have hm : s.size ≤ 300 := by omega
    clear h300 hs
    go_enter Try.func5, Try.ntmps5
    go_wp2_with fail
    refine (octs_unhex_all s _ (by omega)).mono ?_
    rintro e w1 ⟨A1, n1, c1, rfl, hc1, hm1, hr1, hb1⟩
    have Hr1 := Lib.hid hr1; clear hr1
    go_wp2_with fail
    refine (ref_unhex_all s _ (by omega)).mono ?_
    rintro e w2 ⟨A2, n2, c2, rfl, hc2, hm2, hr2, hb2⟩
    have Hr2 := Lib.hid hr2; clear hr2
    have hb12 := hb1.trans (hb2.mono hb1.size)
    have Hx2 := Lib.hid (hx.below hb12)
    have Hr1' := Lib.hid (Hr1.out.below hb2)
    go_wp2_with fail
    refine (octs_hex A n c xs _ Hx2.out (by omega)).mono ?_
    rintro e w3 ⟨rfl, hb3⟩
    have hb13 := hb12.trans (hb3.mono hb12.size)
    go_wp2_with fail
    refine (ref_hex A n c xs _ (Hx2.out.below hb3) (by omega)).mono ?_
    rintro e w4 ⟨rfl, hq4⟩
    have hb14 := below_qt hb13 hq4
    have Hq4 := Lib.hid hq4; clear hq4
    go_wp2_with fail
    refine (ref_same A1 A2 n1 n2 c1 c2 _ _ _ ((Hr1'.out.below hb3).qt Hq4.out) ((Hr2.out.below hb3).qt Hq4.out) (by omega) (by omega)).mono ?_
    rintro e w5 ⟨rfl, hq5⟩
    rw [same_self]
    have hb15 := below_qt hb14 hq5
    clear hq5 hb1 hb2 hb3 hb12 hb13 hb14
    go_wp2_with fail
    refine (alive_true _).mono ?_
    rintro e w9 ⟨rfl, hb9⟩
    go_wp2
    go_ret
    exact ⟨rfl, hb15.trans (hb9.mono hb15.size)⟩
end Go.Proofs.Ytneapgelfknlgaa
