/-
  Frames: which numbers are protocols, which frames are the same.
-/
import Derived.Test.YtecnclcendcfmaaBytes
import Derived.Test.YtecnclcendcfmaaBits
import Derived.Test.YtecnclcendcfmaaNums
import Derived.Test.YtecnclcendcfmaaSame
namespace Go.Proofs.Ytecnclcendcfmaa
set_option maxRecDepth 100000
open Go.RowKit
set_option linter.unusedVariables false
set_option linter.unusedSimpArgs false

def protoB (p : Nat) : Bool := decide (p % 2 = 1) && decide (p / 256 % 2 = 0) && decide (p ≠ 255)
theorem u16_and1 (x : Nat) (hx : x < 65536) : bits .and .u16 (x : Int) 1 = ((x % 2 : Nat) : Int) := by
  have := u16_and_n x 1 hx (by omega)
  rw [Nat.and_one_is_mod] at this
  exact this

set_option maxHeartbeats 400000 in
theorem pppf_may (p : Nat) (w : World) (hp : p < 65536) :
    Calls Try.prog 17 #[.int .u16 p] w fun e w' => e = .returned (.bool (protoB p)) ∧ w = w' := by
  have k1 := u16_and1 p hp
  have k2 := u16_and1 (p / 256) (by omega)
  have k3 : ((p / 256 : Nat) : Int) = (p : Int) / 256 := by omega
  rw [k3] at k2
  clear k3
  by_cases h1 : p % 2 = 1
  · rw [h1] at k1
    by_cases h2 : p / 256 % 2 = 0
    · rw [h2] at k2
      have e1 : protoB p = decide (p ≠ 255) := by unfold protoB; simp [h1, h2]
      rw [e1]
      skip
      skip
      have H1 := Lib.hid h1; clear h1
      have H2 := Lib.hid h2; clear h2 e1
      go_enter Try.func17, Try.ntmps17
      go_wp2
      go_ret
      exact ⟨ret_bool (by rw [Bool.eq_iff_iff]; simp; try omega), rfl⟩
    · rw [show p / 256 % 2 = 1 by omega] at k2
      have e1 : protoB p = false := by unfold protoB; simp [h1, h2]
      rw [e1]
      skip
      skip
      have H1 := Lib.hid h1; clear h1
      have H2 := Lib.hid h2; clear h2 e1
      go_enter Try.func17, Try.ntmps17
      go_wp2
      go_ret
      exact ⟨rfl, rfl⟩
  · rw [show p % 2 = 0 by omega] at k1
    have e1 : protoB p = false := by unfold protoB; simp [h1]
    rw [e1]
    skip
    have H1 := Lib.hid h1; clear h1 e1
    go_enter Try.func17, Try.ntmps17
    go_wp2
    go_ret
    exact ⟨rfl, rfl⟩

set_option maxHeartbeats 400000 in
theorem ref20_may (p : Nat) (w : World) (hp : p < 65536) :
    Calls Try.prog 18 #[.int .u16 p] w fun e w' => e = .returned (.bool (protoB p)) ∧ w = w' := by
  have k1 := u16_and1 p hp
  have k2 := u16_and1 (p / 256) (by omega)
  have k3 : ((p / 256 : Nat) : Int) = (p : Int) / 256 := by omega
  rw [k3] at k2
  clear k3
  by_cases h1 : p % 2 = 1
  · rw [h1] at k1
    by_cases h2 : p / 256 % 2 = 0
    · rw [h2] at k2
      have e1 : protoB p = decide (p ≠ 255) := by unfold protoB; simp [h1, h2]
      rw [e1]
      have g1 : (p : Int) % 2 = 1 := by omega
      have g2 : (p : Int) / 256 % 2 = 0 := by omega
      have H1 := Lib.hid h1; clear h1
      have H2 := Lib.hid h2; clear h2 e1
      go_enter Try.func18, Try.ntmps18
      go_wp2
      go_ret
      exact ⟨ret_bool (by rw [Bool.eq_iff_iff]; simp; try omega), rfl⟩
    · rw [show p / 256 % 2 = 1 by omega] at k2
      have e1 : protoB p = false := by unfold protoB; simp [h1, h2]
      rw [e1]
      have g1 : (p : Int) % 2 = 1 := by omega
      have g2 : (p : Int) / 256 % 2 = 1 := by omega
      have H1 := Lib.hid h1; clear h1
      have H2 := Lib.hid h2; clear h2 e1
      go_enter Try.func18, Try.ntmps18
      go_wp2
      go_ret
      exact ⟨rfl, rfl⟩
  · rw [show p % 2 = 0 by omega] at k1
    have e1 : protoB p = false := by unfold protoB; simp [h1]
    rw [e1]
    have g1 : (p : Int) % 2 = 0 := by omega
    have H1 := Lib.hid h1; clear h1 e1
    go_enter Try.func18, Try.ntmps18
    go_wp2
    go_ret
    exact ⟨rfl, rfl⟩

set_option maxHeartbeats 400000 in
theorem theirs20 (p : Nat) (A : Option Addr) (n c : Nat) (w : World) :
    Calls Try.prog 13 #[.agg #[.int .u16 p, .slice A n c]] w fun e w' => e = .returned (.agg #[.int .u16 p, .slice A n c]) ∧ Gr w w' := by
  go_enter Try.func13, Try.ntmps13
  go_wp2
  refine bodyPost_ret (v := .agg #[.int .u16 p, .slice A n c]) (by simp [results, Try.results13, go_sem]) rfl ⟨rfl, ?_⟩
  (repeat (first | exact Gr.refl _ | assumption | (refine gr_alloc ?_ _) | (refine gr_drewN ?_ _) | (refine gr_drew ?_) | (refine gr_set ?_ (by first | (simp; done) | omega | (simp; omega) | (simp at *; omega)) _) | (refine Gr.trans ?_ (by assumption))))
set_option maxHeartbeats 400000 in
theorem pppf_same (p q : Nat) (A B : Option Addr) (n c m d : Nat) (xs ys : List UInt8) (w : World) (hx : RB w A n xs) (hy : RB w B m ys) :
    Calls Try.prog 20 #[.agg #[.int .u16 p, .slice A n c], .agg #[.int .u16 q, .slice B m d]] w fun e w' => e = .returned (.bool (decide (p = q) && decide (xs = ys))) ∧ Gr w w' := by
  by_cases h : p = q
  · subst h
    have e1 : (decide (p = p) && decide (xs = ys)) = decide (xs = ys) := by simp
    rw [e1]
    clear e1
    go_enter Try.func20, Try.ntmps20
    go_wp2_with fail
    refine (bytes_equal A B n m c d xs ys _ (hx.gr (by (repeat (first | exact Gr.refl _ | assumption | (refine gr_alloc ?_ _) | (refine gr_drewN ?_ _) | (refine gr_drew ?_) | (refine gr_set ?_ (by first | (simp; done) | omega | (simp; omega) | (simp at *; omega)) _) | (refine Gr.trans ?_ (by assumption)))))) (hy.gr (by (repeat (first | exact Gr.refl _ | assumption | (refine gr_alloc ?_ _) | (refine gr_drewN ?_ _) | (refine gr_drew ?_) | (refine gr_set ?_ (by first | (simp; done) | omega | (simp; omega) | (simp at *; omega)) _) | (refine Gr.trans ?_ (by assumption))))))).mono ?_
    rintro e w1 ⟨rfl, rfl⟩
    go_wp2
    go_ret
    exact ⟨rfl, by (repeat (first | exact Gr.refl _ | assumption | (refine gr_alloc ?_ _) | (refine gr_drewN ?_ _) | (refine gr_drew ?_) | (refine gr_set ?_ (by first | (simp; done) | omega | (simp; omega) | (simp at *; omega)) _) | (refine Gr.trans ?_ (by assumption))))⟩
  · have e1 : (decide (p = q) && decide (xs = ys)) = false := by simp [h]
    rw [e1]
    clear e1
    have h' : ((p : Int) == (q : Int)) = false := by simp; omega
    clear h
    go_enter Try.func20, Try.ntmps20
    go_wp2
    go_ret
    exact ⟨rfl, by (repeat (first | exact Gr.refl _ | assumption | (refine gr_alloc ?_ _) | (refine gr_drewN ?_ _) | (refine gr_drew ?_) | (refine gr_set ?_ (by first | (simp; done) | omega | (simp; omega) | (simp at *; omega)) _) | (refine Gr.trans ?_ (by assumption))))⟩
theorem Qt.gr {w w' : World} (h : Qt w w') : Gr w w' := h.below _
set_option maxHeartbeats 400000 in
theorem ref20_same (p q : Nat) (A B : Option Addr) (n c m d : Nat) (xs ys : List UInt8) (w : World) (hx : RB w A n xs) (hy : RB w B m ys) (hn : n ≤ maxLen) (hm : m ≤ maxLen) :
    Calls Try.prog 22 #[.agg #[.int .u16 p, .slice A n c], .agg #[.int .u16 q, .slice B m d]] w fun e w' => e = .returned (.bool (decide (p = q) && decide (xs = ys))) ∧ Gr w w' := by
  by_cases h : p = q
  · subst h
    have e1 : (decide (p = p) && decide (xs = ys)) = decide (xs = ys) := by simp
    rw [e1]
    clear e1
    go_enter Try.func22, Try.ntmps22
    go_wp2_with fail
    refine (ref_same A B n m c d xs ys _ (hx.gr (by (repeat (first | exact Gr.refl _ | assumption | (refine gr_alloc ?_ _) | (refine gr_drewN ?_ _) | (refine gr_drew ?_) | (refine gr_set ?_ (by first | (simp; done) | omega | (simp; omega) | (simp at *; omega)) _) | (refine Gr.trans ?_ (by assumption)))))) (hy.gr (by (repeat (first | exact Gr.refl _ | assumption | (refine gr_alloc ?_ _) | (refine gr_drewN ?_ _) | (refine gr_drew ?_) | (refine gr_set ?_ (by first | (simp; done) | omega | (simp; omega) | (simp at *; omega)) _) | (refine Gr.trans ?_ (by assumption)))))) hn hm).mono ?_
    rintro e w1 ⟨rfl, hq⟩
    have hg := hq.gr
    go_wp2
    go_ret
    exact ⟨rfl, by (repeat (first | exact Gr.refl _ | assumption | (refine gr_alloc ?_ _) | (refine gr_drewN ?_ _) | (refine gr_drew ?_) | (refine gr_set ?_ (by first | (simp; done) | omega | (simp; omega) | (simp at *; omega)) _) | (refine Gr.trans ?_ (by assumption))))⟩
  · have e1 : (decide (p = q) && decide (xs = ys)) = false := by simp [h]
    rw [e1]
    clear e1
    have h' : ((p : Int) == (q : Int)) = false := by simp; omega
    clear h
    go_enter Try.func22, Try.ntmps22
    go_wp2
    go_ret
    exact ⟨rfl, by (repeat (first | exact Gr.refl _ | assumption | (refine gr_alloc ?_ _) | (refine gr_drewN ?_ _) | (refine gr_drew ?_) | (refine gr_set ?_ (by first | (simp; done) | omega | (simp; omega) | (simp at *; omega)) _) | (refine Gr.trans ?_ (by assumption))))⟩
def knownB (p : Nat) : Bool := decide (p = 33) || decide (p = 32801) || decide (p = 49185) || decide (p = 49699)
set_option maxHeartbeats 400000 in
theorem pppf_known (p : Nat) (w : World) :
    Calls Try.prog 19 #[.int .u16 p] w fun e w' => e = .returned (.bool (knownB p)) ∧ w = w' := by
  go_enter Try.func19, Try.ntmps19
  go_wp2
  all_goals
    go_ret
    refine ⟨ret_bool ?_, rfl⟩
    simp only [beq_iff_eq, beq_eq_false_iff_ne] at *
    rw [Bool.eq_iff_iff]
    simp [knownB]
    try omega
theorem OB.lit (w : World) (base : Nat) (bs : List UInt8) (hb : base ≤ w.heap.size) (hl : bs.length ≤ maxLen) :
    OB (w.alloc (.cells (bs.map bv).toArray 5)) base (.slice (some ⟨w.heap.size, 0, none⟩) bs.length bs.length) bs.length bs :=
  ⟨by simp, .inr ⟨w.heap.size, bs.length, _, rfl, hb, heap_alloc_new w _, Nat.le_refl _, hl, by simp, by rw [Nat.mul_one]; exact List.take_of_length_le (by simp)⟩⟩
theorem pppf_ahead (w : World) :
    Calls Try.prog 29 #[] w fun e w' => e = .returned (.slice (some ⟨w.heap.size, 0, none⟩) 2 2) ∧ OB w' w.heap.size (.slice (some ⟨w.heap.size, 0, none⟩) 2 2) 2 [255, 3] ∧ Gr w w' := by
  have h := OB.lit w w.heap.size [255, 3] (Nat.le_refl _) (by simp [maxLen])
  go_enter Try.func29, Try.ntmps29
  go_wp2
  go_ret
  exact ⟨rfl, h, by (repeat (first | exact Gr.refl _ | assumption | (refine gr_alloc ?_ _) | (refine gr_drewN ?_ _) | (refine gr_drew ?_) | (refine gr_set ?_ (by first | (simp; done) | omega | (simp; omega) | (simp at *; omega)) _) | (refine Gr.trans ?_ (by assumption))))⟩
end Go.Proofs.Ytecnclcendcfmaa
