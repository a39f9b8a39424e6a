/-
  What is sent expires once.
-/
import Derived.Test.YtnengmhepjmdcaaLawA24
namespace Go.Proofs.Ytnengmhepjmdcaa
set_option maxRecDepth 100000
open Go.RowKit
set_option linter.unusedVariables false
set_option linter.unusedSimpArgs false

def firedN (k : Nat) : Nat := if k < 3 then 0 else 1
set_option maxRecDepth 100000 in
set_option maxHeartbeats 2000000 in
theorem law_once_no (c l : Int) (n : Nat) (w : World) (hm : mayR c l = false) :
    Calls Try.prog 3 #[.agg #[.int .i64 c, .int .i64 l], .int .u8 n] w fun e w' => e = .returned (.bool true) ∧ Gr w w' := by
  go_enter Try.func3, Try.ntmps3
  go_wp2_with fail
  refine (retry_may c l _).mono ?_
  rw [hm]
  rintro e w1 ⟨rfl, hb1⟩
  clear hm
  go_wp2_with fail
  refine (alive24 _).mono ?_
  rintro e w2 ⟨rfl, hb2⟩
  go_wp2
  go_ret
  exact ⟨rfl, by (repeat (first | exact Gr.refl _ | assumption | (refine gr_alloc ?_ _) | (refine gr_drewN ?_ _) | (refine gr_drew ?_) | (refine gr_set ?_ (by first | (simp; done) | omega | (simp; omega) | (simp at *; omega)) _) | (refine Gr.trans ?_ (by assumption))))⟩
set_option maxRecDepth 100000 in
set_option maxHeartbeats 4000000 in
theorem law_once_yes (c l : Int) (n : Nat) (w : World) (hn : n < 256) (hm : mayR c l = true) (hc0 : 0 ≤ c) (hc1 : c ≤ 10) :
    Calls Try.prog 3 #[.agg #[.int .i64 c, .int .i64 l], .int .u8 n] w fun e w' => e = .returned (.bool true) ∧ Gr w w' := by
  obtain ⟨d, hd⟩ : ∃ d : Int, sentC c = d := ⟨_, rfl⟩
  obtain ⟨M, hM⟩ : ∃ M, M = n % 10 := ⟨_, rfl⟩
  have hM10 : M < 10 := by omega
  have hmod : (n : Int) % 10 = (M : Int) := by omega
  clear hM
  go_enter Try.func3, Try.ntmps3
  go_wp2_with fail
  refine (retry_may c l _).mono ?_
  rw [hm]
  rintro e w1 ⟨rfl, hb1⟩
  clear hm
  have s := (StA.new w [.int .i64 c, .int .i64 l] 23).gr hb1
  have G1 : Gr w w1 := by (repeat (first | exact Below.refl _ _ | (refine Below.setCell ?_ (by first | (simp; done) | omega | (simp; omega) | (simp at *; omega)) _) | (refine Below.alloc ?_ (by first | (simp; done) | omega | (simp; omega) | (simp at *; omega)) _) | (refine Below.drew ?_) | (refine below_drewN ?_ _) | (refine Below.trans ?_ (Below.mono (by assumption) (by first | (simp; done) | omega | (simp; omega) | (simp at *; omega))))))
  have sc0 := s.cell 0 _ rfl
  have sf0 := s.free 0 _ rfl
  have sc1 := s.cell 1 _ rfl
  have sf1 := s.free 1 _ rfl
  go_wp2_with fail
  refine (retry_sent c l _ (by omega) (by omega)).mono ?_
  rw [hd]
  rintro e w2 ⟨rfl, hb2⟩
  clear sc0 sf0 sc1 sf1
  have r := StA.new w2 [.int .i64 d, .int .i64 3] 24
  have G2 := G1.trans hb2
  clear hb1 hb2 G1 s hd
  go_wp2
  go_loopw [6, 21] (fun f i wr => ∃ k : Nat, k ≤ 20 ∧ i = .int .i64 k ∧ f = .int .i64 (firedN k : Nat) ∧ StA wr w2.heap.size [.int .i64 d, .int .i64 ((3 - k : Nat) : Int)] ∧ Gr w2 wr) (fun _ i _ => 20 - (intOf i).toNat)
  case atStart => exact ⟨0, by omega, rfl, rfl, r, by (repeat (first | exact Below.refl _ _ | (refine Below.setCell ?_ (by first | (simp; done) | omega | (simp; omega) | (simp at *; omega)) _) | (refine Below.alloc ?_ (by first | (simp; done) | omega | (simp; omega) | (simp at *; omega)) _) | (refine Below.drew ?_) | (refine below_drewN ?_ _) | (refine Below.trans ?_ (Below.mono (by assumption) (by first | (simp; done) | omega | (simp; omega) | (simp at *; omega))))))⟩
  case round =>
    obtain ⟨k, hk, rfl, rfl, hs, hg⟩ := hrel
    clear r
    have hsc0 := hs.cell 0 _ rfl
    have hsf0 := hs.free 0 _ rfl
    have hsc1 := hs.cell 1 _ rfl
    have hsf1 := hs.free 1 _ rfl
    have z := hs.lt
    by_cases hlt : k < 20
    · rcases (by omega : k < 2 ∨ k = 2 ∨ 3 ≤ k) with h | h | h
      · have e1 : (3 - k : Nat) = ((3 - k - 1 : Nat)) + 1 := by omega
        have hf : firedN (k + 1) = firedN k := by unfold firedN; rw [if_pos (by omega), if_pos (by omega)]
        have Hf := Lib.hid hf; clear hf
        clear e1
        go_wp2_with fail
        refine (retry_tick_no d ((3 - k : Nat) : Int) _ (by omega) (by omega)).mono ?_
        rintro e w3 ⟨rfl, hb3⟩
        (try clear hsc0 hsf0 hsc1 hsf1)
        replace hs := StA.gr hs hb3
        have hsc0 := hs.cell 0 _ rfl
        have hsf0 := hs.free 0 _ rfl
        have hsc1 := hs.cell 1 _ rfl
        have hsf1 := hs.free 1 _ rfl
        have z3 := hs.lt
        go_wp2
        go_roundw
        case rel => exact ⟨k + 1, by omega, by go_num, by rw [Hf.out], by rw [show ((3 - (k + 1) : Nat) : Int) = ((3 - k : Nat) : Int) - 1 by omega]; exact (hs.set (us := [.int .i64 d, .int .i64 (((3 - k : Nat) : Int) - 1)]) rfl).gr ((Gr.refl _).alloc (Nat.le_refl _) _), Below.alloc (Below.trans (hg.trans hb3) (setCells_below [.int .i64 d, .int .i64 (((3 - k : Nat) : Int) - 1)] (Nat.le_refl _) hs.lt)) (by rw [setCells_size]; omega) _⟩
        case measure => simp [intOf] <;> omega
      · subst h
        have hf2 : firedN 2 = 0 := rfl
        rw [hf2]
        clear hf2
        go_wp2_with fail
        refine (retry_tick_yes d _).mono ?_
        rintro e w3 ⟨rfl, hb3⟩
        (try clear hsc0 hsf0 hsc1 hsf1)
        replace hs := StA.gr hs hb3
        have hsc0 := hs.cell 0 _ rfl
        have hsf0 := hs.free 0 _ rfl
        have hsc1 := hs.cell 1 _ rfl
        have hsf1 := hs.free 1 _ rfl
        have z3 := hs.lt
        go_wp2
        go_roundw
        case rel => exact ⟨3, by omega, rfl, rfl, (hs.set (us := [.int .i64 d, .int .i64 0]) rfl).gr ((Gr.refl _).alloc (Nat.le_refl _) _), Below.alloc (Below.trans (hg.trans hb3) (setCells_below [.int .i64 d, .int .i64 0] (Nat.le_refl _) hs.lt)) (by rw [setCells_size]; omega) _⟩
        case measure => simp [intOf] <;> omega
      · have hf : firedN (k + 1) = firedN k := by unfold firedN; rw [if_neg (by omega), if_neg (by omega)]
        have Hf := Lib.hid hf; clear hf
        have e0 : (3 - k : Nat) = 0 := by omega
        rw [e0] at hs
        clear hsc0 hsf0 hsc1 hsf1
        have hsc0 := hs.cell 0 _ rfl
        have hsf0 := hs.free 0 _ rfl
        have hsc1 := hs.cell 1 _ rfl
        have hsf1 := hs.free 1 _ rfl
        go_wp2_with fail
        refine (retry_tick_off d _).mono ?_
        rintro e w3 ⟨rfl, hb3⟩
        (try clear hsc0 hsf0 hsc1 hsf1)
        replace hs := StA.gr hs hb3
        have hsc0 := hs.cell 0 _ rfl
        have hsf0 := hs.free 0 _ rfl
        have hsc1 := hs.cell 1 _ rfl
        have hsf1 := hs.free 1 _ rfl
        have z3 := hs.lt
        go_wp2
        go_roundw
        case rel => exact ⟨k + 1, by omega, by go_num, by rw [Hf.out], by rw [show (3 - (k + 1) : Nat) = 0 by omega]; exact (hs.set (us := [.int .i64 d, .int .i64 0]) rfl).gr ((Gr.refl _).alloc (Nat.le_refl _) _), Below.alloc (Below.trans (hg.trans hb3) (setCells_below [.int .i64 d, .int .i64 0] (Nat.le_refl _) hs.lt)) (by rw [setCells_size]; omega) _⟩
        case measure => simp [intOf] <;> omega
    · obtain rfl : k = 20 := by omega
      have G3 := G2.trans hg
      have hf20 : (firedN 20 : Nat) = 1 := rfl
      rw [hf20]
      clear hsc0 hsf0 hsc1 hsf1
      clear hs G2 hg hlt z hf20
      go_wp2_with fail
      refine (retry_sent_yes (M + 1) 0 _ (by omega) (by omega)).mono ?_
      rintro e w4 ⟨rfl, hb4⟩
      have r := StA.new w4 [.int .i64 ((M : Int) + 1 - 1), .int .i64 3] 24
      have G4 := G3.trans hb4
      clear G3 hb4
      go_wp2_with fail
      refine (retry_longest_lt (M + 1) _ (by omega) (by omega)).mono ?_
      rintro e w5 ⟨rfl, hb5⟩
      have G5 : Gr w w5 := by (repeat (first | exact Gr.refl _ | assumption | (refine gr_alloc ?_ _) | (refine gr_drewN ?_ _) | (refine gr_drew ?_) | (refine gr_set ?_ (by first | (simp; done) | omega | (simp; omega) | (simp at *; omega)) _) | (refine Gr.trans ?_ (by assumption))))
      have hsub : (M : Int) + 1 - 1 = M := by omega
      rw [hsub] at r
      replace r := r.gr hb5
      clear hsub
      have ecast : (3 * ((M + 1 : Nat) : Int)) = ((3 * M + 3 : Nat) : Int) := by omega
      rw [ecast]
      have z4 := G4.size
      clear ecast hb5 G4
      go_wp2
      go_loopw [45] (fun i wr => ∃ k c l : Nat, i = .int .i64 k ∧ 1 ≤ l ∧ l ≤ 3 ∧ k + 3 * c + l = 3 * M + 3 ∧ StA wr w4.heap.size [.int .i64 c, .int .i64 l] ∧ Below w4.heap.size w5 wr) (fun i _ => 3 * M + 3 - (intOf i).toNat)
      case atStart => exact ⟨0, M, 3, rfl, by omega, by omega, by omega, r, Below.refl _ _⟩
      case round =>
        obtain ⟨k, c, l, rfl, hl1, hl3, hkc, hs, hg⟩ := hrel
        clear r
        have hsc0 := hs.cell 0 _ rfl
        have hsf0 := hs.free 0 _ rfl
        have hsc1 := hs.cell 1 _ rfl
        have hsf1 := hs.free 1 _ rfl
        have hk : k < 3 * M + 3 := by omega
        have hc10 : c ≤ 10 := by omega
        have Hkc := Lib.hid hkc
        have zr := hs.lt
        by_cases hl : 2 ≤ l
        · clear hkc
          go_wp2_with fail
          refine (retry_tick_no c l _ (by omega) (by omega)).mono ?_
          rintro e w6 ⟨rfl, hb6⟩
          (try clear hsc0 hsf0 hsc1 hsf1)
          replace hs := StA.gr hs hb6
          have hsc0 := hs.cell 0 _ rfl
          have hsf0 := hs.free 0 _ rfl
          have hsc1 := hs.cell 1 _ rfl
          have hsf1 := hs.free 1 _ rfl
          have z6 := hs.lt
          go_wp2
          go_roundw
          case rel => exact ⟨k + 1, c, l - 1, by go_num, by omega, by omega, by have := Hkc.out; omega, by rw [show ((l - 1 : Nat) : Int) = (l : Int) - 1 by omega]; exact (hs.set (us := [.int .i64 c, .int .i64 ((l : Int) - 1)]) rfl).gr ((Gr.refl _).alloc (Nat.le_refl _) _), Below.alloc (Below.trans (Below.trans hg (hb6.mono (Nat.le_of_lt zr))) (setCells_below [.int .i64 c, .int .i64 ((l : Int) - 1)] (Nat.le_refl _) hs.lt)) (by rw [setCells_size]; omega) _⟩
          case measure => simp [intOf] <;> omega
        · obtain rfl : l = 1 := by omega
          by_cases hc : 0 < c
          · clear hkc
            go_wp2_with fail
            refine (retry_tick_yes c _).mono ?_
            rintro e w6 ⟨rfl, hb6⟩
            (try clear hsc0 hsf0 hsc1 hsf1)
            replace hs := StA.gr hs hb6
            have hsc0 := hs.cell 0 _ rfl
            have hsf0 := hs.free 0 _ rfl
            have hsc1 := hs.cell 1 _ rfl
            have hsf1 := hs.free 1 _ rfl
            have z6 := hs.lt
            have hb6' := Below.trans hg (hb6.mono (Nat.le_of_lt zr))
            clear hb6 hg
            have t := StA.new w6 [.int .i64 c, .int .i64 0] 24
            replace hs := hs.gr ((Gr.refl _).alloc (Nat.le_refl _) (.cells [Value.int .i64 c, .int .i64 0].toArray 24))
            have hb6'' := Below.alloc hb6' (Nat.le_of_lt z6) (.cells [Value.int .i64 c, .int .i64 0].toArray 24)
            clear hb6'
            go_wp2_with fail
            refine (retry_more_yes c 0 _ (by omega)).mono ?_
            rintro e w7 ⟨rfl, hb7⟩
            (try clear hsc0 hsf0 hsc1 hsf1)
            replace hs := StA.gr hs hb7
            have hsc0 := hs.cell 0 _ rfl
            have hsf0 := hs.free 0 _ rfl
            have hsc1 := hs.cell 1 _ rfl
            have hsf1 := hs.free 1 _ rfl
            (try clear tc0 tf0 tc1 tf1)
            replace t := StA.gr t hb7
            have tc0 := t.cell 0 _ rfl
            have tf0 := t.free 0 _ rfl
            have tc1 := t.cell 1 _ rfl
            have tf1 := t.free 1 _ rfl
            have hb7' := Below.trans hb6'' (hb7.mono (by simp; omega))
            clear hb6'' hb7
            go_wp2_with fail
            refine (retry_sent_yes c 0 _ (by omega) (by omega)).mono ?_
            rintro e w8 ⟨rfl, hb8⟩
            have z7 := hs.lt
            (try clear hsc0 hsf0 hsc1 hsf1)
            replace hs := StA.gr hs hb8
            have hsc0 := hs.cell 0 _ rfl
            have hsf0 := hs.free 0 _ rfl
            have hsc1 := hs.cell 1 _ rfl
            have hsf1 := hs.free 1 _ rfl
            (try clear tc0 tf0 tc1 tf1)
            replace t := StA.gr t hb8
            have tc0 := t.cell 0 _ rfl
            have tf0 := t.free 0 _ rfl
            have tc1 := t.cell 1 _ rfl
            have tf1 := t.free 1 _ rfl
            have hb8' := Below.trans hb7' (hb8.mono (by omega))
            clear hb7' hb8
            have z8 := t.lt
            have hne : ¬ w4.heap.size = w6.heap.size := by omega
            have hne' : ¬ w6.heap.size = w4.heap.size := by omega
            go_wp2
            go_roundw
            case rel => exact ⟨k + 1, c - 1, 3, by go_num, by omega, by omega, by have := Hkc.out; omega, by rw [show ((c - 1 : Nat) : Int) = (c : Int) - 1 by omega]; exact (hs.set_other (C := w6.heap.size) (us := [.int .i64 ((c : Int) - 1), .int .i64 3]) hne).set (us := [.int .i64 ((c : Int) - 1), .int .i64 3]) rfl, Below.trans (Below.trans hb8' (setCells_below (C := w6.heap.size) [.int .i64 ((c : Int) - 1), .int .i64 3] (by omega) z8)) (setCells_below (C := w4.heap.size) [.int .i64 ((c : Int) - 1), .int .i64 3] (Nat.le_refl _) (by rw [setCells_size]; omega))⟩
            case measure => simp [intOf] <;> omega
          · obtain rfl : c = 0 := by omega
            obtain rfl : k = 3 * M + 2 := by omega
            clear hkc Hkc
            go_wp2_with fail
            refine (retry_tick_yes 0 _).mono ?_
            rintro e w6 ⟨rfl, hb6⟩
            (try clear hsc0 hsf0 hsc1 hsf1)
            replace hs := StA.gr hs hb6
            have hsc0 := hs.cell 0 _ rfl
            have hsf0 := hs.free 0 _ rfl
            have hsc1 := hs.cell 1 _ rfl
            have hsf1 := hs.free 1 _ rfl
            have z6 := hs.lt
            have hb6' := Below.trans hg (hb6.mono (Nat.le_of_lt zr))
            clear hb6 hg
            go_wp2_with fail
            refine (retry_more_no 0 0 _ (by omega)).mono ?_
            rintro e w7 ⟨rfl, hb7⟩
            have hb7' := Below.trans (Below.alloc hb6' (Nat.le_of_lt z6) _) (hb7.mono (by simp; omega))
            have z7 := hb7.size
            simp at z7
            clear hb6' hb7 hs
            go_wp2_with fail
            refine (retry_longest_lt (M + 1) _ (by omega) (by omega)).mono ?_
            rintro e w8 ⟨rfl, hb8⟩
            have ecast : (3 * ((M + 1 : Nat) : Int)) = ((3 * M + 3 : Nat) : Int) := by omega
            rw [ecast]
            clear ecast
            have hb8' := Below.trans hb7' (hb8.mono (by omega))
            have z8 := hb8.size
            clear hb7' hb8
            go_wp2_with fail
            refine (alive24 _).mono ?_
            rintro e w9 ⟨rfl, hb9⟩
            have hb9' := Below.trans hb8' (hb9.mono (by omega))
            go_wp2
            go_ret
            exact ⟨rfl, Below.trans G5 (hb9'.mono z4)⟩
theorem law_once_all (c l : Int) (n : Nat) (w : World) (hn : n < 256) :
    Calls Try.prog 3 #[.agg #[.int .i64 c, .int .i64 l], .int .u8 n] w fun e w' => e = .returned (.bool true) ∧ Gr w w' := by
  cases hm : mayR c l with
  | false => exact law_once_no c l n w hm
  | true =>
    have h := hm
    unfold mayR at h
    simp at h
    exact law_once_yes c l n w hn hm h.1.1.1 h.1.1.2
end Go.Proofs.Ytnengmhepjmdcaa
