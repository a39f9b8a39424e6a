/-
  Restarts, by the document.
-/
import Derived.Test.YtnengmhepjmdcaaRetry2
namespace Go.Proofs.Ytnengmhepjmdcaa
set_option maxRecDepth 100000
open Go.RowKit
set_option linter.unusedVariables false
set_option linter.unusedSimpArgs false

set_option maxHeartbeats 400000 in
theorem retry_longest_no (n : Int) (w : World) (h : n ≤ 0) :
    Calls Try.prog 18 #[.int .i64 n] w fun e w' => e = .returned (.int .i64 0) ∧ Gr w w' := by
  have hn : ¬ 10 < n := by omega
  go_enter Try.func18, Try.ntmps18
  go_wp2_with fail
  refine (retry_more_no n 0 _ h).mono ?_
  rintro e w1 ⟨rfl, hb1⟩
  go_wp2
  go_ret
  exact ⟨rfl, by (repeat (first | exact Below.refl _ _ | (refine Below.setCell ?_ (by first | (simp; done) | omega | (simp; omega) | (simp at *; omega)) _) | (refine Below.alloc ?_ (by first | (simp; done) | omega | (simp; omega) | (simp at *; omega)) _) | (refine Below.drew ?_) | (refine below_drewN ?_ _) | (refine Below.trans ?_ (Below.mono (by assumption) (by first | (simp; done) | omega | (simp; omega) | (simp at *; omega))))))⟩
set_option maxHeartbeats 400000 in
theorem ref24_init (c l : Int) (b : Bool) (w : World) :
    Calls Try.prog 24 #[.agg #[.int .i64 c, .int .i64 l], .bool b] w fun e w' => e = .returned (rv (if b then 2 else 10) l) ∧ Gr w w' := by
  cases b with
  | true =>
    go_enter Try.func24, Try.ntmps24
    go_wp2
    refine bodyPost_ret (v := rv 2 l) (by simp [results, Try.results24, go_sem, rv]) rfl ⟨rfl, ?_⟩
    (repeat (first | exact Below.refl _ _ | (refine Below.setCell ?_ (by first | (simp; done) | omega | (simp; omega) | (simp at *; omega)) _) | (refine Below.alloc ?_ (by first | (simp; done) | omega | (simp; omega) | (simp at *; omega)) _) | (refine Below.drew ?_) | (refine below_drewN ?_ _) | (refine Below.trans ?_ (Below.mono (by assumption) (by first | (simp; done) | omega | (simp; omega) | (simp at *; omega))))))
  | false =>
    go_enter Try.func24, Try.ntmps24
    go_wp2
    refine bodyPost_ret (v := rv 10 l) (by simp [results, Try.results24, go_sem, rv]) rfl ⟨rfl, ?_⟩
    (repeat (first | exact Below.refl _ _ | (refine Below.setCell ?_ (by first | (simp; done) | omega | (simp; omega) | (simp at *; omega)) _) | (refine Below.alloc ?_ (by first | (simp; done) | omega | (simp; omega) | (simp at *; omega)) _) | (refine Below.drew ?_) | (refine below_drewN ?_ _) | (refine Below.trans ?_ (Below.mono (by assumption) (by first | (simp; done) | omega | (simp; omega) | (simp at *; omega))))))
set_option maxHeartbeats 400000 in
theorem ref24_sent (c l : Int) (w : World) (hc : -9223372036854775808 ≤ c) (hc' : c ≤ 9223372036854775807) :
    Calls Try.prog 25 #[.agg #[.int .i64 c, .int .i64 l]] w fun e w' => e = .returned (rv (sentC c) 3) ∧ Gr w w' := by
  unfold sentC
  by_cases h : 0 < c
  · rw [if_pos h]
    have hn : ¬ c ≤ 0 := by omega
    go_enter Try.func25, Try.ntmps25
    go_wp2
    refine bodyPost_ret (v := rv (c - 1) 3) (by simp [results, Try.results25, go_sem, rv]) rfl ⟨rfl, ?_⟩
    (repeat (first | exact Below.refl _ _ | (refine Below.setCell ?_ (by first | (simp; done) | omega | (simp; omega) | (simp at *; omega)) _) | (refine Below.alloc ?_ (by first | (simp; done) | omega | (simp; omega) | (simp at *; omega)) _) | (refine Below.drew ?_) | (refine below_drewN ?_ _) | (refine Below.trans ?_ (Below.mono (by assumption) (by first | (simp; done) | omega | (simp; omega) | (simp at *; omega))))))
  · rw [if_neg h]
    have hn : c ≤ 0 := by omega
    go_enter Try.func25, Try.ntmps25
    go_wp2
    refine bodyPost_ret (v := rv 0 3) (by simp [results, Try.results25, go_sem, rv]) rfl ⟨rfl, ?_⟩
    (repeat (first | exact Below.refl _ _ | (refine Below.setCell ?_ (by first | (simp; done) | omega | (simp; omega) | (simp at *; omega)) _) | (refine Below.alloc ?_ (by first | (simp; done) | omega | (simp; omega) | (simp at *; omega)) _) | (refine Below.drew ?_) | (refine below_drewN ?_ _) | (refine Below.trans ?_ (Below.mono (by assumption) (by first | (simp; done) | omega | (simp; omega) | (simp at *; omega))))))
theorem beq_eq_decide (a b : Int) : (a == b) = decide (a = b) := by rw [Bool.eq_iff_iff]; simp
set_option maxHeartbeats 400000 in
theorem ref24_tick (c l : Int) (w : World) (hl : -9223372036854775808 ≤ l) (hl' : l ≤ 9223372036854775807) :
    Calls Try.prog 23 #[.agg #[.int .i64 c, .int .i64 l]] w fun e w' => e = .returned (.tuple #[rv c (tickL l), .bool (decide (l = 1))]) ∧ Gr w w' := by
  unfold tickL
  by_cases h : 0 < l
  · rw [if_pos h]
    have hn : ¬ l ≤ 0 := by omega
    go_enter Try.func23, Try.ntmps23
    go_wp2
    go_region
    all_goals
      go_wp2
      refine bodyPost_ret (v := .tuple #[rv c (l - 1), .bool (decide (l = 1))]) (by simp [results, Try.results23, go_sem, rv, beq_eq_decide]) rfl ⟨rfl, ?_⟩
      (repeat (first | exact Below.refl _ _ | (refine Below.setCell ?_ (by first | (simp; done) | omega | (simp; omega) | (simp at *; omega)) _) | (refine Below.alloc ?_ (by first | (simp; done) | omega | (simp; omega) | (simp at *; omega)) _) | (refine Below.drew ?_) | (refine below_drewN ?_ _) | (refine Below.trans ?_ (Below.mono (by assumption) (by first | (simp; done) | omega | (simp; omega) | (simp at *; omega))))))
  · rw [if_neg h]
    have hn : l ≤ 0 := by omega
    have hb1 : decide (l = 1) = false := by simp; omega
    rw [hb1]
    go_enter Try.func23, Try.ntmps23
    go_wp2
    refine bodyPost_ret (v := .tuple #[rv c l, .bool false]) (by simp [results, Try.results23, go_sem, rv]) rfl ⟨rfl, ?_⟩
    (repeat (first | exact Below.refl _ _ | (refine Below.setCell ?_ (by first | (simp; done) | omega | (simp; omega) | (simp at *; omega)) _) | (refine Below.alloc ?_ (by first | (simp; done) | omega | (simp; omega) | (simp at *; omega)) _) | (refine Below.drew ?_) | (refine below_drewN ?_ _) | (refine Below.trans ?_ (Below.mono (by assumption) (by first | (simp; done) | omega | (simp; omega) | (simp at *; omega))))))
theorem ref24_tick_no (c l : Int) (w : World) (h : 2 ≤ l) (h' : l ≤ 3) :
    Calls Try.prog 23 #[.agg #[.int .i64 c, .int .i64 l]] w fun e w' => e = .returned (.tuple #[.agg #[.int .i64 c, .int .i64 (l - 1)], .bool false]) ∧ Gr w w' := by
  have := ref24_tick c l w (by omega) (by omega)
  rw [tickL, if_pos (by omega), show decide (l = 1) = false by simp; omega] at this
  exact this
theorem ref24_tick_yes (c : Int) (w : World) :
    Calls Try.prog 23 #[.agg #[.int .i64 c, .int .i64 1]] w fun e w' => e = .returned (.tuple #[.agg #[.int .i64 c, .int .i64 0], .bool true]) ∧ Gr w w' := by
  have := ref24_tick c 1 w (by omega) (by omega)
  rw [tickL, if_pos (by omega)] at this
  exact this
theorem ref24_sent_yes (c l : Int) (w : World) (h : 0 < c) (h' : c ≤ 9223372036854775807) :
    Calls Try.prog 25 #[.agg #[.int .i64 c, .int .i64 l]] w fun e w' => e = .returned (.agg #[.int .i64 (c - 1), .int .i64 3]) ∧ Gr w w' := by
  have := ref24_sent c l w (by omega) h'
  rw [sentC, if_pos h] at this
  exact this
set_option maxHeartbeats 400000 in
theorem ref24_longest_no (n : Int) (w : World) (h : n ≤ 0) :
    Calls Try.prog 27 #[.int .i64 n] w fun e w' => e = .returned (.int .i64 0) ∧ Gr w w' := by
  have hn : n < 1 := by omega
  go_enter Try.func27, Try.ntmps27
  go_wp2
  go_ret
  exact ⟨rfl, by (repeat (first | exact Below.refl _ _ | (refine Below.setCell ?_ (by first | (simp; done) | omega | (simp; omega) | (simp at *; omega)) _) | (refine Below.alloc ?_ (by first | (simp; done) | omega | (simp; omega) | (simp at *; omega)) _) | (refine Below.drew ?_) | (refine below_drewN ?_ _) | (refine Below.trans ?_ (Below.mono (by assumption) (by first | (simp; done) | omega | (simp; omega) | (simp at *; omega))))))⟩
set_option maxRecDepth 100000 in
set_option maxHeartbeats 1000000 in
theorem ref24_longest_lt (m : Nat) (w : World) (h1 : 1 ≤ m) (h9 : m ≤ 10) :
    Calls Try.prog 27 #[.int .i64 (m : Int)] w fun e w' => e = .returned (.int .i64 (3 * (m : Int))) ∧ Gr w w' := by
  have hm1 : ¬ (m : Int) < 1 := by omega
  go_enter Try.func27, Try.ntmps27
  go_wp2_with fail
  refine (ref24_sent_yes (m : Int) 0 _ (by omega) (by omega)).mono ?_
  rintro e w2 ⟨rfl, hb2⟩
  have s2 := StA.new w2 [.int .i64 ((m : Int) - 1), .int .i64 3] 23
  go_wp2
  go_loopw [4] (fun i wr => ∃ k c l : Nat, i = .int .i64 k ∧ 1 ≤ l ∧ l ≤ 3 ∧ (k : Int) + 3 * c + l = 3 * (m : Int) ∧ StA wr w2.heap.size [.int .i64 c, .int .i64 l] ∧ Gr w2 wr) (fun i _ => 30 - (intOf i).toNat)
  case atStart => exact ⟨0, m - 1, 3, rfl, by omega, by omega, by omega, by rw [show ((m - 1 : Nat) : Int) = (m : Int) - 1 by omega]; exact s2, by (repeat (first | exact Below.refl _ _ | (refine Below.setCell ?_ (by first | (simp; done) | omega | (simp; omega) | (simp at *; omega)) _) | (refine Below.alloc ?_ (by first | (simp; done) | omega | (simp; omega) | (simp at *; omega)) _) | (refine Below.drew ?_) | (refine below_drewN ?_ _) | (refine Below.trans ?_ (Below.mono (by assumption) (by first | (simp; done) | omega | (simp; omega) | (simp at *; omega))))))⟩
  case round =>
    obtain ⟨k, c, l, rfl, hl1, hl3, hkc, hst, hg⟩ := hrel
    clear s2
    have c0 := hst.cell 0 _ rfl
    have c1 := hst.cell 1 _ rfl
    have f0 := hst.free 0 _ rfl
    have f1 := hst.free 1 _ rfl
    have hk30 : k < 1000 := by omega
    have hk31 : k < 30 := by omega
    have hc10 : c ≤ 10 := by omega
    have Hkc := Lib.hid hkc
    by_cases hl : 2 ≤ l
    · go_wp2_with fail
      refine (ref24_tick_no c l _ (by omega) (by omega)).mono ?_
      rintro e w3 ⟨rfl, hb3⟩
      have s3 := hst.gr hb3
      have z3 := s3.lt
      clear c0 c1 f0 f1
      have c0 := s3.cell 0 _ rfl
      have c1 := s3.cell 1 _ rfl
      have f0 := s3.free 0 _ rfl
      have f1 := s3.free 1 _ rfl
      clear hkc
      go_wp2
      go_roundw
      case rel => exact ⟨k + 1, c, l - 1, by go_num, by omega, by omega, by have := Hkc.out; omega, by rw [show ((l - 1 : Nat) : Int) = (l : Int) - 1 by omega]; exact (s3.set (us := [.int .i64 c, .int .i64 ((l : Int) - 1)]) rfl).gr ((Gr.refl _).alloc (Nat.le_refl _) _), Below.alloc (Below.trans (hg.trans hb3) (setCells_below [.int .i64 c, .int .i64 ((l : Int) - 1)] (Nat.le_refl _) s3.lt)) (by rw [setCells_size]; omega) _⟩
      case measure => simp [intOf] <;> omega
    · obtain rfl : l = 1 := by omega
      by_cases hc : 0 < c
      · have hc0 : ¬ ((c : Int) = 0) := by omega
        go_wp2_with fail
        refine (ref24_tick_yes c _).mono ?_
        rintro e w3 ⟨rfl, hb3⟩
        have s3 := hst.gr (Below.alloc hb3 hb3.size (.cells #[.int .i64 c, .int .i64 0] 23))
        have t3 := StA.new w3 [.int .i64 c, .int .i64 0] 23
        have G3 := hg.trans (Below.alloc hb3 hb3.size (.cells #[.int .i64 c, .int .i64 0] 23))
        have z3 := (hst.gr hb3).lt
        clear c0 c1 f0 f1 hkc
        go_wp2_with fail
        refine (ref24_sent_yes c 0 _ (by omega) (by omega)).mono ?_
        rintro e w5 ⟨rfl, hb5⟩
        have s5 := s3.gr hb5
        have t5 := t3.gr hb5
        have G5 := G3.trans hb5
        clear hb5 s3 G3 t3
        have c0 := s5.cell 0 _ rfl
        have c1 := s5.cell 1 _ rfl
        have f0 := s5.free 0 _ rfl
        have f1 := s5.free 1 _ rfl
        have d0 := t5.cell 0 _ rfl
        have d1 := t5.cell 1 _ rfl
        have g0 := t5.free 0 _ rfl
        have g1 := t5.free 1 _ rfl
        have hne : ¬ w2.heap.size = w3.heap.size := by omega
        have hne' : ¬ w3.heap.size = w2.heap.size := by omega
        have z5 := t5.lt
        go_wp2
        go_roundw
        case rel => exact ⟨k + 1, c - 1, 3, by go_num, by omega, by omega, by have := Hkc.out; omega, by rw [show ((c - 1 : Nat) : Int) = (c : Int) - 1 by omega]; exact (s5.set_other (C := w3.heap.size) (us := [.int .i64 ((c : Int) - 1), .int .i64 3]) hne).set (us := [.int .i64 ((c : Int) - 1), .int .i64 3]) rfl, Below.trans (Below.trans G5 (setCells_below (C := w3.heap.size) [.int .i64 ((c : Int) - 1), .int .i64 3] (by omega) z5)) (setCells_below (C := w2.heap.size) [.int .i64 ((c : Int) - 1), .int .i64 3] (Nat.le_refl _) (by rw [setCells_size]; omega))⟩
        case measure => simp [intOf] <;> omega
      · obtain rfl : c = 0 := by omega
        go_wp2_with fail
        refine (ref24_tick_yes 0 _).mono ?_
        rintro e w3 ⟨rfl, hb3⟩
        clear hkc
        go_wp2
        go_ret
        exact ⟨ret_int (by have := Hkc.out; omega), Below.alloc ((hb2.trans hg).trans hb3) ((hb2.trans hg).trans hb3).size _⟩

set_option maxRecDepth 100000 in
set_option maxHeartbeats 1000000 in
theorem ref24_longest_ge (n : Int) (w : World) (h10 : 10 < n) :
    Calls Try.prog 27 #[.int .i64 n] w fun e w' => e = .returned (.int .i64 (3 * 10)) ∧ Gr w w' := by
  have hn10 : 10 < n := h10
  have hmin : min n 10 = 10 := by omega
  have hn0 : ¬ n < 1 := by omega
  go_enter Try.func27, Try.ntmps27
  go_wp2_with fail
  refine (ref24_sent_yes 10 0 _ (by omega) (by omega)).mono ?_
  rintro e w2 ⟨rfl, hb2⟩
  have s2 := StA.new w2 [.int .i64 9, .int .i64 3] 23
  go_wp2
  go_loopw [4] (fun i wr => ∃ k c l : Nat, i = .int .i64 k ∧ 1 ≤ l ∧ l ≤ 3 ∧ (k : Int) + 3 * c + l = 3 * 10 ∧ StA wr w2.heap.size [.int .i64 c, .int .i64 l] ∧ Gr w2 wr) (fun i _ => 30 - (intOf i).toNat)
  case atStart => exact ⟨0, 9, 3, rfl, by omega, by omega, by omega, by exact s2, by (repeat (first | exact Below.refl _ _ | (refine Below.setCell ?_ (by first | (simp; done) | omega | (simp; omega) | (simp at *; omega)) _) | (refine Below.alloc ?_ (by first | (simp; done) | omega | (simp; omega) | (simp at *; omega)) _) | (refine Below.drew ?_) | (refine below_drewN ?_ _) | (refine Below.trans ?_ (Below.mono (by assumption) (by first | (simp; done) | omega | (simp; omega) | (simp at *; omega))))))⟩
  case round =>
    obtain ⟨k, c, l, rfl, hl1, hl3, hkc, hst, hg⟩ := hrel
    clear s2
    have c0 := hst.cell 0 _ rfl
    have c1 := hst.cell 1 _ rfl
    have f0 := hst.free 0 _ rfl
    have f1 := hst.free 1 _ rfl
    have hk30 : k < 1000 := by omega
    have hk31 : k < 30 := by omega
    have hc10 : c ≤ 10 := by omega
    have Hkc := Lib.hid hkc
    by_cases hl : 2 ≤ l
    · go_wp2_with fail
      refine (ref24_tick_no c l _ (by omega) (by omega)).mono ?_
      rintro e w3 ⟨rfl, hb3⟩
      have s3 := hst.gr hb3
      have z3 := s3.lt
      clear c0 c1 f0 f1
      have c0 := s3.cell 0 _ rfl
      have c1 := s3.cell 1 _ rfl
      have f0 := s3.free 0 _ rfl
      have f1 := s3.free 1 _ rfl
      clear hkc
      go_wp2
      go_roundw
      case rel => exact ⟨k + 1, c, l - 1, by go_num, by omega, by omega, by have := Hkc.out; omega, by rw [show ((l - 1 : Nat) : Int) = (l : Int) - 1 by omega]; exact (s3.set (us := [.int .i64 c, .int .i64 ((l : Int) - 1)]) rfl).gr ((Gr.refl _).alloc (Nat.le_refl _) _), Below.alloc (Below.trans (hg.trans hb3) (setCells_below [.int .i64 c, .int .i64 ((l : Int) - 1)] (Nat.le_refl _) s3.lt)) (by rw [setCells_size]; omega) _⟩
      case measure => simp [intOf] <;> omega
    · obtain rfl : l = 1 := by omega
      by_cases hc : 0 < c
      · have hc0 : ¬ ((c : Int) = 0) := by omega
        go_wp2_with fail
        refine (ref24_tick_yes c _).mono ?_
        rintro e w3 ⟨rfl, hb3⟩
        have s3 := hst.gr (Below.alloc hb3 hb3.size (.cells #[.int .i64 c, .int .i64 0] 23))
        have t3 := StA.new w3 [.int .i64 c, .int .i64 0] 23
        have G3 := hg.trans (Below.alloc hb3 hb3.size (.cells #[.int .i64 c, .int .i64 0] 23))
        have z3 := (hst.gr hb3).lt
        clear c0 c1 f0 f1 hkc
        go_wp2_with fail
        refine (ref24_sent_yes c 0 _ (by omega) (by omega)).mono ?_
        rintro e w5 ⟨rfl, hb5⟩
        have s5 := s3.gr hb5
        have t5 := t3.gr hb5
        have G5 := G3.trans hb5
        clear hb5 s3 G3 t3
        have c0 := s5.cell 0 _ rfl
        have c1 := s5.cell 1 _ rfl
        have f0 := s5.free 0 _ rfl
        have f1 := s5.free 1 _ rfl
        have d0 := t5.cell 0 _ rfl
        have d1 := t5.cell 1 _ rfl
        have g0 := t5.free 0 _ rfl
        have g1 := t5.free 1 _ rfl
        have hne : ¬ w2.heap.size = w3.heap.size := by omega
        have hne' : ¬ w3.heap.size = w2.heap.size := by omega
        have z5 := t5.lt
        go_wp2
        go_roundw
        case rel => exact ⟨k + 1, c - 1, 3, by go_num, by omega, by omega, by have := Hkc.out; omega, by rw [show ((c - 1 : Nat) : Int) = (c : Int) - 1 by omega]; exact (s5.set_other (C := w3.heap.size) (us := [.int .i64 ((c : Int) - 1), .int .i64 3]) hne).set (us := [.int .i64 ((c : Int) - 1), .int .i64 3]) rfl, Below.trans (Below.trans G5 (setCells_below (C := w3.heap.size) [.int .i64 ((c : Int) - 1), .int .i64 3] (by omega) z5)) (setCells_below (C := w2.heap.size) [.int .i64 ((c : Int) - 1), .int .i64 3] (Nat.le_refl _) (by rw [setCells_size]; omega))⟩
        case measure => simp [intOf] <;> omega
      · obtain rfl : c = 0 := by omega
        go_wp2_with fail
        refine (ref24_tick_yes 0 _).mono ?_
        rintro e w3 ⟨rfl, hb3⟩
        clear hkc
        go_wp2
        go_ret
        exact ⟨ret_int (by have := Hkc.out; omega), Below.alloc ((hb2.trans hg).trans hb3) ((hb2.trans hg).trans hb3).size _⟩
end Go.Proofs.Ytnengmhepjmdcaa
