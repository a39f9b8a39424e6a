/-
  Sent again and again a counter goes down to 0.
-/
import Derived.Test.YtnengmhepjmdcaaLawA24
namespace Go.Proofs.Ytnengmhepjmdcaa
set_option maxRecDepth 100000
open Go.RowKit
set_option linter.unusedVariables false
set_option linter.unusedSimpArgs false

set_option maxRecDepth 100000 in
set_option maxHeartbeats 2000000 in
theorem law_counts (t : Bool) (n : Nat) (w : World) (hn : n < 256) :
    Calls Try.prog 4 #[.bool t, .int .u8 n] w fun e w' => e = .returned (.bool true) ∧ Gr w w' := by
  obtain ⟨c, hc, hct⟩ : ∃ c : Nat, (2 ≤ c ∧ c ≤ 10) ∧ (if t then (2 : Int) else 10) = c := by
    cases t
    · exact ⟨10, by omega, rfl⟩
    · exact ⟨2, by omega, rfl⟩
  obtain ⟨N, hN⟩ : ∃ N, N = n % 30 := ⟨_, rfl⟩
  have hN30 : N < 30 := by omega
  have hmod : (n : Int) % 30 = (N : Int) := by omega
  clear hN
  go_enter Try.func4, Try.ntmps4
  go_wp2_with fail
  refine (retry_init 0 0 t _).mono ?_
  rw [hct]
  rintro e w1 ⟨rfl, hb1⟩
  have Hct := Lib.hid hct; clear hct
  have s := StA.new w1 [.int .i64 c, .int .i64 0] 24
  go_wp2
  rw [hmod]
  go_loopw [15] (fun i wr => ∃ k m l : Nat, i = .int .i64 k ∧ k ≤ N ∧ (m : Int) = max ((c : Int) - k) 0 ∧ l ≤ 3 ∧ StA wr w1.heap.size [.int .i64 m, .int .i64 l] ∧ Gr w1 wr) (fun i _ => N - (intOf i).toNat)
  case atStart => exact ⟨0, c, 0, rfl, Nat.zero_le _, by omega, by omega, s, by (repeat (first | exact Below.refl _ _ | (refine Below.setCell ?_ (by first | (simp; done) | omega | (simp; omega) | (simp at *; omega)) _) | (refine Below.alloc ?_ (by first | (simp; done) | omega | (simp; omega) | (simp at *; omega)) _) | (refine Below.drew ?_) | (refine below_drewN ?_ _) | (refine Below.trans ?_ (Below.mono (by assumption) (by first | (simp; done) | omega | (simp; omega) | (simp at *; omega))))))⟩
  case round =>
    obtain ⟨k, m, l, rfl, hk, hm, hl, hs, hg⟩ := hrel
    have hm10 : m ≤ 10 := by omega
    have Hm := Lib.hid hm; clear hm
    clear s
    have hsc0 := hs.cell 0 _ rfl
    have hsf0 := hs.free 0 _ rfl
    have hsc1 := hs.cell 1 _ rfl
    have hsf1 := hs.free 1 _ rfl
    by_cases hlt : k < N
    · obtain ⟨m', hm'⟩ : ∃ m' : Nat, sentC m = (m' : Int) := by
        unfold sentC
        split
        · exact ⟨m - 1, by omega⟩
        · exact ⟨0, rfl⟩
      have hmm : (m' : Int) = max ((c : Int) - ((k + 1 : Nat) : Int)) 0 := by
        rw [← hm']; unfold sentC; have := Hm.out; split <;> omega
      have hm'10 : m' ≤ 10 := by omega
      have Hmm := Lib.hid hmm; clear hmm
      go_wp2_with fail
      refine (retry_sent m l _ (by omega) (by omega)).mono ?_
      rw [hm']
      rintro e w2 ⟨rfl, hb2⟩
      have Hm' := Lib.hid hm'; clear hm'
      have s2 := (hs.gr hb2).set (us := [.int .i64 m', .int .i64 3]) rfl
      have G2 : Gr w1 (setCells w2 w1.heap.size 0 [.int .i64 m', .int .i64 3]) := Below.trans (hg.trans hb2) (setCells_below _ (Nat.le_refl _) (hs.gr hb2).lt)
      replace hs := hs.gr hb2
      clear hsc0 hsf0 hsc1 hsf1
      have hsc0 := hs.cell 0 _ rfl
      have hsf0 := hs.free 0 _ rfl
      have hsc1 := hs.cell 1 _ rfl
      have hsf1 := hs.free 1 _ rfl
      go_wp2
      refine name_world fun W hW => ?_
      have s3 : StA W w1.heap.size [.int .i64 m', .int .i64 3] := by rw [hW]; exact s2
      have G3 : Gr w1 W := by rw [hW]; exact G2
      clear hsc0 hsf0 hsc1 hsf1
      clear hW s2 G2 hs hg
      have s3c0 := s3.cell 0 _ rfl
      have s3f0 := s3.free 0 _ rfl
      have s3c1 := s3.cell 1 _ rfl
      have s3f1 := s3.free 1 _ rfl
      have z3 := s3.lt
      refine wp_region_facts 21 (by kernel_rfl) (by kernel_rfl) ?_
      simp only [List.take_succ_cons, List.take_zero, List.drop_succ_cons, List.drop_zero, List.map_cons, List.map_nil]
      (repeat (first | (refine wpF_val (v := ?_) (by rfl) (fun ys wx N hG hN => ?_) ?_; rotate_left; simp only [actS, fillS]; (have hGc := bcell hG); go_simp; (try go_bits); exact hN _ (Gr.refl _); rotate_left; simp only [putS, addS, List.set_cons_zero, List.set_cons_succ]) | (refine wpF_skip way_gr (by rfl) ?_; simp only [putS, addS, List.set_cons_zero, List.set_cons_succ])))
      (refine wpF_val (v := ?_) (by rfl) (fun ys wx N hG hN => ?_) ?_; rotate_left; simp only [actS, fillS]; (have hGc := bcell hG); go_simp; (try go_bits); refine (retry_on_yes m' 3 _ (by omega)).mono ?_; rintro e w3 ⟨rfl, hb3⟩; refine ⟨_, rfl, ?_⟩; exact hN _ (by assumption); rotate_left; simp only [putS, addS, List.set_cons_zero, List.set_cons_succ])
      (repeat (first | (refine wpF_val (v := ?_) (by rfl) (fun ys wx N hG hN => ?_) ?_; rotate_left; simp only [actS, fillS]; (have hGc := bcell hG); go_simp; (try go_bits); exact hN _ (Gr.refl _); rotate_left; simp only [putS, addS, List.set_cons_zero, List.set_cons_succ]) | (refine wpF_skip way_gr (by rfl) ?_; simp only [putS, addS, List.set_cons_zero, List.set_cons_succ])))
      (refine wpF_val (v := ?_) (by rfl) (fun ys wx N hG hN => ?_) ?_; rotate_left; simp only [actS, fillS]; (have hGc := bcell hG); go_simp; (try go_bits); refine (retry_may m' 3 _).mono ?_; rw [show mayR m' 3 = true by unfold mayR; simp; omega]; rintro e w3 ⟨rfl, hb3⟩; refine ⟨_, rfl, ?_⟩; exact hN _ (by assumption); rotate_left; simp only [putS, addS, List.set_cons_zero, List.set_cons_succ])
      (repeat (first | (refine wpF_val (v := ?_) (by rfl) (fun ys wx N hG hN => ?_) ?_; rotate_left; simp only [actS, fillS]; (have hGc := bcell hG); go_simp; (try go_bits); exact hN _ (Gr.refl _); rotate_left; simp only [putS, addS, List.set_cons_zero, List.set_cons_succ]) | (refine wpF_skip way_gr (by rfl) ?_; simp only [putS, addS, List.set_cons_zero, List.set_cons_succ])))
      (refine wpF_val (v := ?_) (by rfl) (fun ys wx N hG hN => ?_) ?_; rotate_left; simp only [actS, fillS]; (have hGc := bcell hG); go_simp; (try go_bits); refine (retry_stop m' 3 _).mono ?_; rintro e w3 ⟨rfl, hb3⟩; refine ⟨_, rfl, ?_⟩; exact hN _ (by assumption); rotate_left; simp only [putS, addS, List.set_cons_zero, List.set_cons_succ])
      (refine wpF_val (v := ?_) (by rfl) (fun ys wx N hG hN => ?_) ?_; rotate_left; simp only [actS, fillS]; (have hGc := bcell hG); go_simp; (try go_bits); refine (retry_on_no m' 0 _ (by omega)).mono ?_; rintro e w3 ⟨rfl, hb3⟩; refine ⟨_, rfl, ?_⟩; exact hN _ (by assumption); rotate_left; simp only [putS, addS, List.set_cons_zero, List.set_cons_succ])
      (repeat (first | (refine wpF_val (v := ?_) (by rfl) (fun ys wx N hG hN => ?_) ?_; rotate_left; simp only [actS, fillS]; (have hGc := bcell hG); go_simp; (try go_bits); exact hN _ (Gr.refl _); rotate_left; simp only [putS, addS, List.set_cons_zero, List.set_cons_succ]) | (refine wpF_skip way_gr (by rfl) ?_; simp only [putS, addS, List.set_cons_zero, List.set_cons_succ])))
      (refine wpF_val (v := ?_) (by rfl) (fun ys wx N hG hN => ?_) ?_; rotate_left; simp only [actS, fillS]; (have hGc := bcell hG); go_simp; (try go_bits); refine (retry_stop m' 3 _).mono ?_; rintro e w3 ⟨rfl, hb3⟩; refine ⟨_, rfl, ?_⟩; exact hN _ (by assumption); rotate_left; simp only [putS, addS, List.set_cons_zero, List.set_cons_succ])
      (repeat (first | (refine wpF_val (v := ?_) (by rfl) (fun ys wx N hG hN => ?_) ?_; rotate_left; simp only [actS, fillS]; (have hGc := bcell hG); go_simp; (try go_bits); exact hN _ (Gr.refl _); rotate_left; simp only [putS, addS, List.set_cons_zero, List.set_cons_succ]) | (refine wpF_skip way_gr (by rfl) ?_; simp only [putS, addS, List.set_cons_zero, List.set_cons_succ])))
      refine wpF_end (fun ys wz hG _ _ => ?_)
      simp only [actS, fillS]
      replace s3 := s3.gr hG
      clear s3c0 s3f0 s3c1 s3f1
      go_wp2
      go_roundw
      case rel => exact ⟨k + 1, m', 3, by go_num, by omega, Hmm.out, by omega, s3, G3.trans hG⟩
      case measure => simp [intOf] <;> omega
    · obtain rfl : k = N := by omega
      clear hlt
      have hc0 : 0 < c := by omega
      have hmx : ((m : Int) == if (c : Int) - k < 0 then 0 else (c : Int) - k) = true := by have := Hm.out; simp; split <;> omega
      have z := hs.lt
      go_wp2
      refine wp_region_facts 25 (by kernel_rfl) (by kernel_rfl) ?_
      simp only [List.take_succ_cons, List.take_zero, List.drop_succ_cons, List.drop_zero, List.map_cons, List.map_nil]
      (repeat (first | (refine wpF_val (v := ?_) (by rfl) (fun ys wx N hG hN => ?_) ?_; rotate_left; simp only [actS, fillS]; (have hGc := bcell hG); go_simp; (try go_bits); exact hN _ (Gr.refl _); rotate_left; simp only [putS, addS, List.set_cons_zero, List.set_cons_succ]) | (refine wpF_skip way_gr (by rfl) ?_; simp only [putS, addS, List.set_cons_zero, List.set_cons_succ])))
      (refine wpF_val (v := ?_) (by rfl) (fun ys wx N hG hN => ?_) ?_; rotate_left; simp only [actS, fillS]; (have hGc := bcell hG); go_simp; (try go_bits); refine (retry_more m l _).mono ?_; rintro e w3 ⟨rfl, hb3⟩; refine ⟨_, rfl, ?_⟩; exact hN _ (by assumption); rotate_left; simp only [putS, addS, List.set_cons_zero, List.set_cons_succ])
      (repeat (first | (refine wpF_val (v := ?_) (by rfl) (fun ys wx N hG hN => ?_) ?_; rotate_left; simp only [actS, fillS]; (have hGc := bcell hG); go_simp; (try go_bits); exact hN _ (Gr.refl _); rotate_left; simp only [putS, addS, List.set_cons_zero, List.set_cons_succ]) | (refine wpF_skip way_gr (by rfl) ?_; simp only [putS, addS, List.set_cons_zero, List.set_cons_succ])))
      (refine wpF_val (v := ?_) (by rfl) (fun ys wx N hG hN => ?_) ?_; rotate_left; simp only [actS, fillS]; (have hGc := bcell hG); go_simp; (try go_bits); refine (alive24 _).mono ?_; rintro e w3 ⟨rfl, hb3⟩; refine ⟨_, rfl, ?_⟩; exact hN _ (by assumption); rotate_left; simp only [putS, addS, List.set_cons_zero, List.set_cons_succ])
      (repeat (first | (refine wpF_val (v := ?_) (by rfl) (fun ys wx N hG hN => ?_) ?_; rotate_left; simp only [actS, fillS]; (have hGc := bcell hG); go_simp; (try go_bits); exact hN _ (Gr.refl _); rotate_left; simp only [putS, addS, List.set_cons_zero, List.set_cons_succ]) | (refine wpF_skip way_gr (by rfl) ?_; simp only [putS, addS, List.set_cons_zero, List.set_cons_succ])))
      refine wpF_end (fun ys wz hG _ _ => ?_)
      simp only [actS, fillS]
      go_wp2
      all_goals
        go_ret
        exact ⟨rfl, (hb1.trans hg).trans hG⟩
end Go.Proofs.Ytnengmhepjmdcaa
