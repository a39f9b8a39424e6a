/-
  The walks of the laws of layer 1.
-/
import Derived.Test.YtneapgelfknlgaaSame
import Derived.Test.YtneapgelfknlgaaNums
import Derived.Test.YtneapgelfknlgaaXor
import Derived.Test.YtneapgelfknlgaaJoin
import Derived.Test.YtneapgelfknlgaaHex
import Derived.Test.YtneapgelfknlgaaUnhex
namespace Go.Proofs.Ytneapgelfknlgaa
open Go.RowKit
set_option linter.unusedVariables false

set_option maxHeartbeats 2000000 in
theorem alive_true (w : World) : Calls Try.prog 7 #[] w fun e w' => e = .returned (.bool true) ∧ Below w.heap.size w w' := by
  go_enter Try.func7, Try.ntmps7
  go_wp2_with fail
  refine (octs_put 258 2 false _ (by omega) (by omega) (by omega)).mono ?_
  rintro e w1 ⟨v1, rfl, ho1, hb1⟩
  obtain ⟨A1, c1, rfl, hc1, hm1, hr1⟩ := ho1.shape
  have Hr1 := Lib.hid hr1; clear hr1 ho1
  go_wp2_with fail
  refine (octs_put 258 2 true _ (by omega) (by omega) (by omega)).mono ?_
  rintro e w2 ⟨v2, rfl, ho2, hb2⟩
  obtain ⟨A2, c2, rfl, hc2, hm2, hr2⟩ := ho2.shape
  have Hr1' := Lib.hid (Hr1.out.below hb2)
  have Hr2 := Lib.hid hr2; clear hr2 ho2
  go_wp2_with fail
  refine (octs_get A1 2 c1 _ false _ Hr1'.out (by omega) (by omega)).mono ?_
  rintro e w3 ⟨rfl, hq3⟩
  rw [num_laid]
  have Hq3 := Lib.hid hq3; clear hq3
  have e1 : laid 2 258 false = [1, 2] := by decide
  have e2 : laid 2 258 true = [2, 1] := by decide
  have hst1 := str_bytes A1 2 c1 [1, 2] w3 (by rw [← e1]; exact Hr1'.out.qt Hq3.out)
  have hst2 := str_bytes A2 2 c2 [2, 1] w3 (by rw [← e2]; exact Hr2.out.qt Hq3.out)
  clear e1 e2
  go_wp2_with fail
  refine (octs_hex _ 1 1 [171] _ (RB.new1 w3 171 _ (by simp)) (by omega)).mono ?_
  rintro e w4 ⟨rfl, hb4⟩
  have e3 : hexL [171] = [65, 66] := by decide
  rw [e3]
  clear e3 hst1 hst2
  have Hb4 := Lib.hid hb4; clear hb4
  go_wp2_with fail
  refine (octs_same A1 A1 2 2 c1 c1 _ _ _ (((Hr1'.out.qt Hq3.out).below ((Below.refl _ _).alloc (Nat.le_refl _) _)).below Hb4.out) (((Hr1'.out.qt Hq3.out).below ((Below.refl _ _).alloc (Nat.le_refl _) _)).below Hb4.out) (by simp [maxLen]) (by simp [maxLen])).mono ?_
  rintro e w5 ⟨rfl, hq5⟩
  have Hq5 := Lib.hid hq5; clear hq5
  go_wp2
  go_ret
  refine ⟨by simp, ?_⟩
  have h2 := hb1.size
  have h3 := hb2.size
  have h23 := below_qt (hb1.trans (hb2.mono hb1.size)) Hq3.out
  have h4 := h23.size
  exact below_qt ((h23.alloc h4 _).trans (Hb4.out.mono (by simp; omega))) Hq5.out

theorem same_self {xs : List UInt8} : decide (xs = xs) = true := by simp

set_option maxHeartbeats 4000000 in
theorem law_puts (N : Nat) (n : Int) (A : Option Addr) (m c : Nat) (bs : List UInt8) (w : World) (hN : N < 18446744073709551616) (hb : RB w A m bs) (hm : m ≤ maxLen) :
    Calls Try.prog 3 #[.int .u64 N, .int .i64 n, .slice A m c] w fun e w' => e = .returned (.bool true) ∧ Below w.heap.size w w' := by
  have Hm := Lib.hid hm
  unfold maxLen at hm
  by_cases h100 : 100 < m
  · go_enter Try.func3, Try.ntmps3
    go_wp2_with fail
    refine (alive_true _).mono ?_
    rintro e w1 ⟨rfl, hb1⟩
    go_wp2
    go_ret
    exact ⟨rfl, hb1⟩
  · go_enter Try.func3, Try.ntmps3
    go_wp2
    go_loopw [23] (fun i wr => ∃ k : Nat, k ≤ 2 ∧ i = .int .i64 k ∧ (k < 2 → ∃ l : Bool, wr.cell? ⟨w.heap.size, k, none⟩ = some (.bool l)) ∧ (k + 1 < 2 → ∃ l : Bool, wr.cell? ⟨w.heap.size, k + 1, none⟩ = some (.bool l)) ∧ w.heap.size < wr.heap.size ∧ Below w.heap.size w wr) (fun i _ => 2 - (intOf i).toNat)
    case atStart => exact ⟨0, by omega, rfl, fun _ => ⟨false, by simp [World.cell?_alloc_at]⟩, fun _ => ⟨true, by simp [World.cell?_alloc_at]⟩, by simp, (Below.refl _ _).alloc (Nat.le_refl _) _⟩
    case round =>
      obtain ⟨k, hk, rfl, h1, h2, hsz, hbel⟩ := hrel
      have H1 := Lib.hid h1; clear h1
      have H2 := Lib.hid h2; clear h2
      by_cases hlt : k < 2
      · obtain ⟨l, hl⟩ := H1.out hlt
        go_wp2_with fail
        refine (octs_put_all N n l _ hN).mono ?_
        rintro e w1 ⟨A1, n1, c1, rfl, hc1, hm1, hr1, hb1⟩
        have Hr1 := Lib.hid hr1; clear hr1
        go_wp2_with fail
        refine (ref_put_all N n l _ hN).mono ?_
        rintro e w2 ⟨A2, n2, c2, rfl, hc2, hm2, hr2, hb2⟩
        have Hr2 := Lib.hid hr2; clear hr2
        have hb12 := hb1.trans (hb2.mono hb1.size)
        go_wp2_with fail
        refine (octs_get_all A m c bs l _ ((hb.below hbel).below hb12) Hm.out).mono ?_
        rintro e w3 ⟨rfl, hb3⟩
        have hb13 := hb12.trans (hb3.mono hb12.size)
        go_wp2_with fail
        refine (ref_get_all A m c bs l _ ((hb.below hbel).below hb13) Hm.out).mono ?_
        rintro e w4 ⟨rfl, hb4⟩
        have hb14 := hb13.trans (hb4.mono hb13.size)
        go_wp2_with fail
        refine (ref_same A1 A2 n1 n2 c1 c2 _ _ _ (((Hr1.out.below hb2).below hb3).below hb4) ((Hr2.out.below hb3).below hb4) (by omega) (by omega)).mono ?_
        rintro e w5 ⟨rfl, hq5⟩
        rw [same_self]
        have hb15 := below_qt hb14 hq5
        clear hq5
        have Hb15 := Lib.hid hb15
        clear hb15 hb14 hb13 hb12 hb1 hb2 hb3 hb4 hl
        go_wp2
        go_roundw
        case rel =>
          refine ⟨k + 1, by omega, by go_num, fun h => ?_, fun h => by omega, Nat.lt_of_lt_of_le hsz Hb15.out.size, hbel.trans (Hb15.out.mono (by omega))⟩
          obtain ⟨l', hl'⟩ := H2.out h
          exact ⟨l', (Hb15.out.cell (p := ⟨w.heap.size, k + 1, none⟩) hsz).trans hl'⟩
        case measure => simp [intOf]; omega
      · go_wp2_with fail
        refine (alive_true _).mono ?_
        rintro e w1 ⟨rfl, hb1⟩
        go_wp2
        go_ret
        exact ⟨rfl, hbel.trans (hb1.mono hbel.size)⟩

end Go.Proofs.Ytneapgelfknlgaa
