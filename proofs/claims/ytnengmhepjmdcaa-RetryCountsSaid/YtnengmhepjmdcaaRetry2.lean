/-
  How long a restart takes at most.
-/
import Derived.Test.YtnengmhepjmdcaaRetry1
namespace Go.Proofs.Ytnengmhepjmdcaa
set_option maxRecDepth 100000
open Go.RowKit
set_option linter.unusedVariables false
set_option linter.unusedSimpArgs false

set_option maxRecDepth 100000 in
set_option maxHeartbeats 1000000 in
theorem retry_longest_lt (m : Nat) (w : World) (h1 : 1 ≤ m) (h9 : m ≤ 10) :
    Calls Try.prog 18 #[.int .i64 (m : Int)] w fun e w' => e = .returned (.int .i64 (3 * (m : Int))) ∧ Gr w w' := by

  go_enter Try.func18, Try.ntmps18
  go_wp2_with fail
  refine (retry_more_yes (m : Int) 0 _ (by omega)).mono ?_
  rintro e w1 ⟨rfl, hb1⟩
  have s1 := (StA.new w [.int .i64 (m : Int), .int .i64 0] 24).gr hb1
  have c0 := s1.cell 0 _ rfl
  have c1 := s1.cell 1 _ rfl
  have f0 := s1.free 0 _ rfl
  have f1 := s1.free 1 _ rfl
  have G1 : Gr w w1 := by (repeat (first | exact Below.refl _ _ | (refine Below.setCell ?_ (by first | (simp; done) | omega | (simp; omega) | (simp at *; omega)) _) | (refine Below.alloc ?_ (by first | (simp; done) | omega | (simp; omega) | (simp at *; omega)) _) | (refine Below.drew ?_) | (refine below_drewN ?_ _) | (refine Below.trans ?_ (Below.mono (by assumption) (by first | (simp; done) | omega | (simp; omega) | (simp at *; omega))))))
  clear hb1
  go_wp2_with fail
  refine (retry_sent_yes (m : Int) 0 _ (by omega) (by omega)).mono ?_
  rintro e w2 ⟨rfl, hb2⟩
  have s2 := s1.gr hb2
  have G2 := G1.trans hb2
  clear hb2 c0 c1 f0 f1 G1 s1
  have c0 := s2.cell 0 _ rfl
  have c1 := s2.cell 1 _ rfl
  have f0 := s2.free 0 _ rfl
  have f1 := s2.free 1 _ rfl
  go_wp2
  go_loopw [14] (fun i wr => ∃ k c l : Nat, i = .int .i64 k ∧ 1 ≤ l ∧ l ≤ 3 ∧ (k : Int) + 3 * c + l = 3 * (m : Int) ∧ StA wr w.heap.size [.int .i64 c, .int .i64 l] ∧ Gr w wr) (fun i _ => 30 - (intOf i).toNat)
  case atStart => exact ⟨0, m - 1, 3, rfl, by omega, by omega, by omega, by rw [show ((m - 1 : Nat) : Int) = (m : Int) - 1 by omega]; exact s2.set (us := [.int .i64 ((m : Int) - 1), .int .i64 3]) rfl, Below.trans G2 (setCells_below [.int .i64 ((m : Int) - 1), .int .i64 3] (Nat.le_refl _) s2.lt)⟩
  case round =>
    obtain ⟨k, c, l, rfl, hl1, hl3, hkc, hst, hg⟩ := hrel
    clear c0 c1 f0 f1 s2 G2
    have c0 := hst.cell 0 _ rfl
    have c1 := hst.cell 1 _ rfl
    have f0 := hst.free 0 _ rfl
    have f1 := hst.free 1 _ rfl
    have hk30 : k < 30 := by omega
    have hc10 : c ≤ 10 := by omega
    have Hkc := Lib.hid hkc
    by_cases hl : 2 ≤ l
    · go_wp2_with fail
      refine (retry_tick_no c l _ (by omega) (by omega)).mono ?_
      rintro e w3 ⟨rfl, hb3⟩
      have s3 := hst.gr hb3
      clear c0 c1 f0 f1
      have c0 := s3.cell 0 _ rfl
      have c1 := s3.cell 1 _ rfl
      have f0 := s3.free 0 _ rfl
      have f1 := s3.free 1 _ rfl
      clear hkc
      go_wp2
      go_roundw
      case rel => exact ⟨k + 1, c, l - 1, by go_num, by omega, by omega, by have := Hkc.out; omega, by rw [show ((l - 1 : Nat) : Int) = (l : Int) - 1 by omega]; exact s3.set (us := [.int .i64 c, .int .i64 ((l : Int) - 1)]) rfl, Below.trans (hg.trans hb3) (setCells_below [.int .i64 c, .int .i64 ((l : Int) - 1)] (Nat.le_refl _) s3.lt)⟩
      case measure => simp [intOf] <;> omega
    · obtain rfl : l = 1 := by omega
      by_cases hc : 0 < c
      · go_wp2_with fail
        refine (retry_tick_yes c _).mono ?_
        rintro e w3 ⟨rfl, hb3⟩
        have s3 := hst.gr hb3
        clear c0 c1 f0 f1
        have c0 := s3.cell 0 _ rfl
        have c1 := s3.cell 1 _ rfl
        have f0 := s3.free 0 _ rfl
        have f1 := s3.free 1 _ rfl
        clear hkc
        go_wp2_with fail
        refine (retry_more_yes c 0 _ (by omega)).mono ?_
        rintro e w4 ⟨rfl, hb4⟩
        have s4 := (s3.set (us := [.int .i64 c, .int .i64 0]) rfl).gr hb4
        have G4 : Gr w w4 := (Below.trans (hg.trans hb3) (setCells_below [.int .i64 c, .int .i64 0] (Nat.le_refl _) s3.lt)).trans (hb4.mono (by simp; have := (hg.trans hb3).size; omega))
        clear c0 c1 f0 f1 hb3 hb4 hst hg s3
        have c0 := s4.cell 0 _ rfl
        have c1 := s4.cell 1 _ rfl
        have f0 := s4.free 0 _ rfl
        have f1 := s4.free 1 _ rfl
        go_wp2_with fail
        refine (retry_sent_yes c 0 _ (by omega) (by omega)).mono ?_
        rintro e w5 ⟨rfl, hb5⟩
        have s5 := s4.gr hb5
        have G5 := G4.trans hb5
        clear c0 c1 f0 f1 hb5 s4 G4
        have c0 := s5.cell 0 _ rfl
        have c1 := s5.cell 1 _ rfl
        have f0 := s5.free 0 _ rfl
        have f1 := s5.free 1 _ rfl
        go_wp2
        go_roundw
        case rel => exact ⟨k + 1, c - 1, 3, by go_num, by omega, by omega, by have := Hkc.out; omega, by rw [show ((c - 1 : Nat) : Int) = (c : Int) - 1 by omega]; exact s5.set (us := [.int .i64 ((c : Int) - 1), .int .i64 3]) rfl, Below.trans G5 (setCells_below [.int .i64 ((c : Int) - 1), .int .i64 3] (Nat.le_refl _) s5.lt)⟩
        case measure => simp [intOf] <;> omega
      · obtain rfl : c = 0 := by omega
        go_wp2_with fail
        refine (retry_tick_yes 0 _).mono ?_
        rintro e w3 ⟨rfl, hb3⟩
        have s3 := hst.gr hb3
        clear c0 c1 f0 f1
        have c0 := s3.cell 0 _ rfl
        have c1 := s3.cell 1 _ rfl
        have f0 := s3.free 0 _ rfl
        have f1 := s3.free 1 _ rfl
        clear hkc
        go_wp2_with fail
        refine (retry_more_no 0 0 _ (by omega)).mono ?_
        rintro e w4 ⟨rfl, hb4⟩
        have G4 : Gr w w4 := (Below.trans (hg.trans hb3) (setCells_below [.int .i64 0, .int .i64 0] (Nat.le_refl _) s3.lt)).trans (hb4.mono (by simp; have := (hg.trans hb3).size; omega))
        go_wp2
        go_ret
        exact ⟨ret_int (by have := Hkc.out; omega), G4⟩

set_option maxRecDepth 100000 in
set_option maxHeartbeats 1000000 in
theorem retry_longest_ge (n : Int) (w : World) (h10 : 10 < n) :
    Calls Try.prog 18 #[.int .i64 n] w fun e w' => e = .returned (.int .i64 (3 * 10)) ∧ Gr w w' := by
  have hn10 : 10 < n := h10
  have hmin : min n 10 = 10 := by omega
  have hn0 : decide (0 < n) = true := by simp; omega
  go_enter Try.func18, Try.ntmps18
  go_wp2_with fail
  refine (retry_more_yes 10 0 _ (by omega)).mono ?_
  rintro e w1 ⟨rfl, hb1⟩
  have s1 := (StA.new w [.int .i64 10, .int .i64 0] 24).gr hb1
  have c0 := s1.cell 0 _ rfl
  have c1 := s1.cell 1 _ rfl
  have f0 := s1.free 0 _ rfl
  have f1 := s1.free 1 _ rfl
  have G1 : Gr w w1 := by (repeat (first | exact Below.refl _ _ | (refine Below.setCell ?_ (by first | (simp; done) | omega | (simp; omega) | (simp at *; omega)) _) | (refine Below.alloc ?_ (by first | (simp; done) | omega | (simp; omega) | (simp at *; omega)) _) | (refine Below.drew ?_) | (refine below_drewN ?_ _) | (refine Below.trans ?_ (Below.mono (by assumption) (by first | (simp; done) | omega | (simp; omega) | (simp at *; omega))))))
  clear hb1
  go_wp2_with fail
  refine (retry_sent_yes 10 0 _ (by omega) (by omega)).mono ?_
  rintro e w2 ⟨rfl, hb2⟩
  have s2 := s1.gr hb2
  have G2 := G1.trans hb2
  clear hb2 c0 c1 f0 f1 G1 s1
  have c0 := s2.cell 0 _ rfl
  have c1 := s2.cell 1 _ rfl
  have f0 := s2.free 0 _ rfl
  have f1 := s2.free 1 _ rfl
  go_wp2
  go_loopw [14] (fun i wr => ∃ k c l : Nat, i = .int .i64 k ∧ 1 ≤ l ∧ l ≤ 3 ∧ (k : Int) + 3 * c + l = 3 * 10 ∧ StA wr w.heap.size [.int .i64 c, .int .i64 l] ∧ Gr w wr) (fun i _ => 30 - (intOf i).toNat)
  case atStart => exact ⟨0, 9, 3, rfl, by omega, by omega, by omega, by exact s2.set (us := [.int .i64 9, .int .i64 3]) rfl, Below.trans G2 (setCells_below [.int .i64 9, .int .i64 3] (Nat.le_refl _) s2.lt)⟩
  case round =>
    obtain ⟨k, c, l, rfl, hl1, hl3, hkc, hst, hg⟩ := hrel
    clear c0 c1 f0 f1 s2 G2
    have c0 := hst.cell 0 _ rfl
    have c1 := hst.cell 1 _ rfl
    have f0 := hst.free 0 _ rfl
    have f1 := hst.free 1 _ rfl
    have hk30 : k < 30 := by omega
    have hc10 : c ≤ 10 := by omega
    have Hkc := Lib.hid hkc
    by_cases hl : 2 ≤ l
    · go_wp2_with fail
      refine (retry_tick_no c l _ (by omega) (by omega)).mono ?_
      rintro e w3 ⟨rfl, hb3⟩
      have s3 := hst.gr hb3
      clear c0 c1 f0 f1
      have c0 := s3.cell 0 _ rfl
      have c1 := s3.cell 1 _ rfl
      have f0 := s3.free 0 _ rfl
      have f1 := s3.free 1 _ rfl
      clear hkc
      go_wp2
      go_roundw
      case rel => exact ⟨k + 1, c, l - 1, by go_num, by omega, by omega, by have := Hkc.out; omega, by rw [show ((l - 1 : Nat) : Int) = (l : Int) - 1 by omega]; exact s3.set (us := [.int .i64 c, .int .i64 ((l : Int) - 1)]) rfl, Below.trans (hg.trans hb3) (setCells_below [.int .i64 c, .int .i64 ((l : Int) - 1)] (Nat.le_refl _) s3.lt)⟩
      case measure => simp [intOf] <;> omega
    · obtain rfl : l = 1 := by omega
      by_cases hc : 0 < c
      · go_wp2_with fail
        refine (retry_tick_yes c _).mono ?_
        rintro e w3 ⟨rfl, hb3⟩
        have s3 := hst.gr hb3
        clear c0 c1 f0 f1
        have c0 := s3.cell 0 _ rfl
        have c1 := s3.cell 1 _ rfl
        have f0 := s3.free 0 _ rfl
        have f1 := s3.free 1 _ rfl
        clear hkc
        go_wp2_with fail
        refine (retry_more_yes c 0 _ (by omega)).mono ?_
        rintro e w4 ⟨rfl, hb4⟩
        have s4 := (s3.set (us := [.int .i64 c, .int .i64 0]) rfl).gr hb4
        have G4 : Gr w w4 := (Below.trans (hg.trans hb3) (setCells_below [.int .i64 c, .int .i64 0] (Nat.le_refl _) s3.lt)).trans (hb4.mono (by simp; have := (hg.trans hb3).size; omega))
        clear c0 c1 f0 f1 hb3 hb4 hst hg s3
        have c0 := s4.cell 0 _ rfl
        have c1 := s4.cell 1 _ rfl
        have f0 := s4.free 0 _ rfl
        have f1 := s4.free 1 _ rfl
        go_wp2_with fail
        refine (retry_sent_yes c 0 _ (by omega) (by omega)).mono ?_
        rintro e w5 ⟨rfl, hb5⟩
        have s5 := s4.gr hb5
        have G5 := G4.trans hb5
        clear c0 c1 f0 f1 hb5 s4 G4
        have c0 := s5.cell 0 _ rfl
        have c1 := s5.cell 1 _ rfl
        have f0 := s5.free 0 _ rfl
        have f1 := s5.free 1 _ rfl
        go_wp2
        go_roundw
        case rel => exact ⟨k + 1, c - 1, 3, by go_num, by omega, by omega, by have := Hkc.out; omega, by rw [show ((c - 1 : Nat) : Int) = (c : Int) - 1 by omega]; exact s5.set (us := [.int .i64 ((c : Int) - 1), .int .i64 3]) rfl, Below.trans G5 (setCells_below [.int .i64 ((c : Int) - 1), .int .i64 3] (Nat.le_refl _) s5.lt)⟩
        case measure => simp [intOf] <;> omega
      · obtain rfl : c = 0 := by omega
        go_wp2_with fail
        refine (retry_tick_yes 0 _).mono ?_
        rintro e w3 ⟨rfl, hb3⟩
        have s3 := hst.gr hb3
        clear c0 c1 f0 f1
        have c0 := s3.cell 0 _ rfl
        have c1 := s3.cell 1 _ rfl
        have f0 := s3.free 0 _ rfl
        have f1 := s3.free 1 _ rfl
        clear hkc
        go_wp2_with fail
        refine (retry_more_no 0 0 _ (by omega)).mono ?_
        rintro e w4 ⟨rfl, hb4⟩
        have G4 : Gr w w4 := (Below.trans (hg.trans hb3) (setCells_below [.int .i64 0, .int .i64 0] (Nat.le_refl _) s3.lt)).trans (hb4.mono (by simp; have := (hg.trans hb3).size; omega))
        go_wp2
        go_ret
        exact ⟨ret_int (by have := Hkc.out; omega), G4⟩
end Go.Proofs.Ytnengmhepjmdcaa
