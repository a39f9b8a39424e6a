/-
  What comes of any restart by each call.
-/
import Derived.Test.YtnengmhepjmdcaaLawA24
namespace Go.Proofs.Ytnengmhepjmdcaa
set_option maxRecDepth 100000
open Go.RowKit
set_option linter.unusedVariables false
set_option linter.unusedSimpArgs false

def longestI (n : Int) : Int := if n ≤ 0 then 0 else 3 * min n 10
theorem retry_longest_all (n : Int) (w : World) :
    Calls Try.prog 18 #[.int .i64 n] w fun e w' => e = .returned (.int .i64 (longestI n)) ∧ Gr w w' := by
  unfold longestI
  by_cases h : n ≤ 0
  · rw [if_pos h]; exact retry_longest_no n w h
  · rw [if_neg h]
    by_cases h' : n ≤ 10
    · obtain ⟨m, rfl⟩ := Int.eq_ofNat_of_zero_le (show 0 ≤ n by omega)
      rw [show min (m : Int) 10 = m by omega]; exact retry_longest_lt m w (by omega) (by omega)
    · rw [show min n 10 = 10 by omega]; exact retry_longest_ge n w (by omega)
theorem ref24_longest_all (n : Int) (w : World) :
    Calls Try.prog 27 #[.int .i64 n] w fun e w' => e = .returned (.int .i64 (longestI n)) ∧ Gr w w' := by
  unfold longestI
  by_cases h : n ≤ 0
  · rw [if_pos h]; exact ref24_longest_no n w h
  · rw [if_neg h]
    by_cases h' : n ≤ 10
    · obtain ⟨m, rfl⟩ := Int.eq_ofNat_of_zero_le (show 0 ≤ n by omega)
      rw [show min (m : Int) 10 = m by omega]; exact ref24_longest_lt m w (by omega) (by omega)
    · rw [show min n 10 = 10 by omega]; exact ref24_longest_ge n w (by omega)

set_option maxRecDepth 100000 in
set_option maxHeartbeats 4000000 in
theorem law_moves (c l : Int) (t : Bool) (n : Int) (w : World) (hc : -9223372036854775808 ≤ c) (hc' : c ≤ 9223372036854775807) (hl : -9223372036854775808 ≤ l) (hl' : l ≤ 9223372036854775807) :
    Calls Try.prog 5 #[.agg #[.int .i64 c, .int .i64 l], .bool t, .int .i64 n] w fun e w' => e = .returned (.bool true) ∧ Gr w w' := by
  obtain ⟨tl, htl⟩ : ∃ tl, tickL l = tl := ⟨_, rfl⟩
  obtain ⟨tb, htb⟩ : ∃ tb, decide (l = 1) = tb := ⟨_, rfl⟩
  obtain ⟨sc, hsc⟩ : ∃ sc, sentC c = sc := ⟨_, rfl⟩
  obtain ⟨ic, hic⟩ : ∃ ic : Int, (if t then (2 : Int) else 10) = ic := ⟨_, rfl⟩
  obtain ⟨lo, hlo⟩ : ∃ lo, longestI n = lo := ⟨_, rfl⟩
  obtain ⟨mb, hmb⟩ : ∃ mb, mayR c l = mb := ⟨_, rfl⟩
  have hcase : (0 ≤ c ∧ c ≤ 10 ∧ 0 ≤ l ∧ l ≤ 3 ∧ mb = true) ∨ (c < 0 ∧ mb = false) ∨ (0 ≤ c ∧ 10 < c ∧ mb = false) ∨ (0 ≤ c ∧ c ≤ 10 ∧ l < 0 ∧ mb = false) ∨ (0 ≤ c ∧ c ≤ 10 ∧ 0 ≤ l ∧ decide (l ≤ 3) = false ∧ mb = false) := by
    subst hmb
    unfold mayR
    by_cases h1 : 0 ≤ c <;> by_cases h2 : c ≤ 10 <;> by_cases h3 : 0 ≤ l <;> by_cases h4 : l ≤ 3 <;> simp [h1, h2, h3, h4] <;> omega
  have Htl := Lib.hid htl; clear htl
  have Htb := Lib.hid htb; clear htb
  have Hsc := Lib.hid hsc; clear hsc
  have Hic := Lib.hid hic; clear hic
  have Hlo := Lib.hid hlo; clear hlo
  have Hmb := Lib.hid hmb; clear hmb
  have Hc := Lib.hid hc
  have Hc' := Lib.hid hc'
  have Hl := Lib.hid hl
  have Hl' := Lib.hid hl'
  clear hc hc' hl hl'
  rcases hcase with ⟨g1, g2, g3, g4, rfl⟩ | ⟨g1, rfl⟩ | ⟨g1, g2, rfl⟩ | ⟨g1, g2, g3, rfl⟩ | ⟨g1, g2, g3, g4, rfl⟩
  all_goals
    go_enter Try.func5, Try.ntmps5
    go_wp2_with fail
    refine (retry_tick c l _ Hl.out Hl'.out).mono ?_
    rw [Htl.out, Htb.out]
    rintro e w1 ⟨rfl, hb1⟩
    have x := (StA.new w [.int .i64 c, .int .i64 l] 23).gr ((gr_alloc (Gr.refl _) (.cells [Value.int .i64 c, .int .i64 l].toArray 24)).trans hb1)
    have r := (StA.new (w.alloc (.cells [Value.int .i64 c, .int .i64 l].toArray 23)) [.int .i64 c, .int .i64 l] 24).gr hb1
    have hsz : (w.alloc (.cells [Value.int .i64 c, .int .i64 l].toArray 23)).heap.size = w.heap.size + 1 := by simp
    rw [hsz] at r
    clear hsz
    have G : Gr w w1 := by (repeat (first | exact Gr.refl _ | assumption | (refine gr_alloc ?_ _) | (refine gr_drewN ?_ _) | (refine gr_drew ?_) | (refine gr_set ?_ (by first | (simp; done) | omega | (simp; omega) | (simp at *; omega)) _) | (refine Gr.trans ?_ (by assumption))))
    clear hb1
    have a := StA.new w1 [.int .i64 tl, .int .i64 tl] 24
    clear a
    have a := StA.new w1 [.int .i64 c, .int .i64 tl] 24
    have ga := gr_alloc (Gr.refl w1) (.cells [Value.int .i64 c, .int .i64 tl].toArray 24)
    replace x := x.gr ga
    replace r := r.gr ga
    replace G := G.trans ga
    clear ga
    have xc0 := x.cell 0 _ rfl
    have xf0 := x.free 0 _ rfl
    have xc1 := x.cell 1 _ rfl
    have xf1 := x.free 1 _ rfl
    have rc0 := r.cell 0 _ rfl
    have rf0 := r.free 0 _ rfl
    have rc1 := r.cell 1 _ rfl
    have rf1 := r.free 1 _ rfl
    go_wp2_with fail
    refine (ref24_tick c l _ Hl.out Hl'.out).mono ?_
    rw [Htl.out, Htb.out]
    rintro e w2 ⟨rfl, hb2⟩
    have b := StA.new w2 [.int .i64 c, .int .i64 tl] 23
    have gb := hb2.trans (gr_alloc (Gr.refl w2) (.cells [Value.int .i64 c, .int .i64 tl].toArray 23))
    replace a := a.gr gb
    (try clear xc0 xf0 xc1 xf1)
    replace x := StA.gr x gb
    have xc0 := x.cell 0 _ rfl
    have xf0 := x.free 0 _ rfl
    have xc1 := x.cell 1 _ rfl
    have xf1 := x.free 1 _ rfl
    (try clear rc0 rf0 rc1 rf1)
    replace r := StA.gr r gb
    have rc0 := r.cell 0 _ rfl
    have rf0 := r.free 0 _ rfl
    have rc1 := r.cell 1 _ rfl
    have rf1 := r.free 1 _ rfl
    replace G := G.trans gb
    clear gb hb2
    go_wp2
    clear xc0 xf0 xc1 xf1
    clear rc0 rf0 rc1 rf1
    refine name_world fun W hW => ?_
    rw [← hW] at x r a b G
    clear hW
    have xc0 := x.cell 0 _ rfl
    have xf0 := x.free 0 _ rfl
    have xc1 := x.cell 1 _ rfl
    have xf1 := x.free 1 _ rfl
    have rc0 := r.cell 0 _ rfl
    have rf0 := r.free 0 _ rfl
    have rc1 := r.cell 1 _ rfl
    have rf1 := r.free 1 _ rfl
    have ac0 := a.cell 0 _ rfl
    have af0 := a.free 0 _ rfl
    have ac1 := a.cell 1 _ rfl
    have af1 := a.free 1 _ rfl
    have bc0 := b.cell 0 _ rfl
    have bf0 := b.free 0 _ rfl
    have bc1 := b.cell 1 _ rfl
    have bf1 := b.free 1 _ rfl
    have zx := x.lt
    have zr := r.lt
    have za := a.lt
    have zb := b.lt
    (refine wp_region_all (by kernel_rfl) (by kernel_rfl) ?_; simp only [List.map_cons, List.map_nil])
    (repeat (first | (refine wpF_val (v := ?_) (by rfl) (fun ys wx N hG hN => ?_) ?_; rotate_left; simp only [actS, fillS]; (have hGc := bcell hG); go_simp; (try go_bits); exact hN _ (Gr.refl _); rotate_left; simp only [putS, addS, List.set_cons_zero, List.set_cons_succ]) | (refine wpF_skip way_gr (by rfl) ?_; simp only [putS, addS, List.set_cons_zero, List.set_cons_succ])))
    (refine wpF_val (v := ?_) (by rfl) (fun ys wx N hG hN => ?_) ?_; rotate_left; simp only [actS, fillS]; (have hGc := bcell hG); go_simp; (try go_bits); refine (retry_init c l t _).mono ?_; rw [Hic.out]; rintro e w3 ⟨rfl, hb3⟩; refine ⟨_, rfl, ?_⟩; exact hN _ (by assumption); rotate_left; simp only [putS, addS, List.set_cons_zero, List.set_cons_succ])
    (repeat (first | (refine wpF_val (v := ?_) (by rfl) (fun ys wx N hG hN => ?_) ?_; rotate_left; simp only [actS, fillS]; (have hGc := bcell hG); go_simp; (try go_bits); exact hN _ (Gr.refl _); rotate_left; simp only [putS, addS, List.set_cons_zero, List.set_cons_succ]) | (refine wpF_skip way_gr (by rfl) ?_; simp only [putS, addS, List.set_cons_zero, List.set_cons_succ])))
    (refine wpF_val (v := ?_) (by rfl) (fun ys wx N hG hN => ?_) ?_; rotate_left; simp only [actS, fillS]; (have hGc := bcell hG); go_simp; (try go_bits); refine (ref24_init c l t _).mono ?_; rw [Hic.out]; rintro e w3 ⟨rfl, hb3⟩; refine ⟨_, rfl, ?_⟩; exact hN _ (by assumption); rotate_left; simp only [putS, addS, List.set_cons_zero, List.set_cons_succ])
    (repeat (first | (refine wpF_val (v := ?_) (by rfl) (fun ys wx N hG hN => ?_) ?_; rotate_left; simp only [actS, fillS]; (have hGc := bcell hG); go_simp; (try go_bits); exact hN _ (Gr.refl _); rotate_left; simp only [putS, addS, List.set_cons_zero, List.set_cons_succ]) | (refine wpF_skip way_gr (by rfl) ?_; simp only [putS, addS, List.set_cons_zero, List.set_cons_succ])))
    (refine wpF_val (v := ?_) (by rfl) (fun ys wx N hG hN => ?_) ?_; rotate_left; simp only [actS, fillS]; (have hGc := bcell hG); go_simp; (try go_bits); refine (retry_sent c l _ Hc.out Hc'.out).mono ?_; rw [Hsc.out]; rintro e w3 ⟨rfl, hb3⟩; refine ⟨_, rfl, ?_⟩; exact hN _ (by assumption); rotate_left; simp only [putS, addS, List.set_cons_zero, List.set_cons_succ])
    (repeat (first | (refine wpF_val (v := ?_) (by rfl) (fun ys wx N hG hN => ?_) ?_; rotate_left; simp only [actS, fillS]; (have hGc := bcell hG); go_simp; (try go_bits); exact hN _ (Gr.refl _); rotate_left; simp only [putS, addS, List.set_cons_zero, List.set_cons_succ]) | (refine wpF_skip way_gr (by rfl) ?_; simp only [putS, addS, List.set_cons_zero, List.set_cons_succ])))
    (refine wpF_val (v := ?_) (by rfl) (fun ys wx N hG hN => ?_) ?_; rotate_left; simp only [actS, fillS]; (have hGc := bcell hG); go_simp; (try go_bits); refine (ref24_sent c l _ Hc.out Hc'.out).mono ?_; rw [Hsc.out]; rintro e w3 ⟨rfl, hb3⟩; refine ⟨_, rfl, ?_⟩; exact hN _ (by assumption); rotate_left; simp only [putS, addS, List.set_cons_zero, List.set_cons_succ])
    (repeat (first | (refine wpF_val (v := ?_) (by rfl) (fun ys wx N hG hN => ?_) ?_; rotate_left; simp only [actS, fillS]; (have hGc := bcell hG); go_simp; (try go_bits); exact hN _ (Gr.refl _); rotate_left; simp only [putS, addS, List.set_cons_zero, List.set_cons_succ]) | (refine wpF_skip way_gr (by rfl) ?_; simp only [putS, addS, List.set_cons_zero, List.set_cons_succ])))
    (refine wpF_val (v := ?_) (by rfl) (fun ys wx N hG hN => ?_) ?_; rotate_left; simp only [actS, fillS]; (have hGc := bcell hG); go_simp; (try go_bits); refine (retry_zero c l _).mono ?_; rintro e w3 ⟨rfl, hb3⟩; refine ⟨_, rfl, ?_⟩; exact hN _ (by assumption); rotate_left; simp only [putS, addS, List.set_cons_zero, List.set_cons_succ])
    (repeat (first | (refine wpF_val (v := ?_) (by rfl) (fun ys wx N hG hN => ?_) ?_; rotate_left; simp only [actS, fillS]; (have hGc := bcell hG); go_simp; (try go_bits); exact hN _ (Gr.refl _); rotate_left; simp only [putS, addS, List.set_cons_zero, List.set_cons_succ]) | (refine wpF_skip way_gr (by rfl) ?_; simp only [putS, addS, List.set_cons_zero, List.set_cons_succ])))
    (refine wpF_val (v := ?_) (by rfl) (fun ys wx N hG hN => ?_) ?_; rotate_left; simp only [actS, fillS]; (have hGc := bcell hG); go_simp; (try go_bits); refine (retry_stop c l _).mono ?_; rintro e w3 ⟨rfl, hb3⟩; refine ⟨_, rfl, ?_⟩; exact hN _ (by assumption); rotate_left; simp only [putS, addS, List.set_cons_zero, List.set_cons_succ])
    (repeat (first | (refine wpF_val (v := ?_) (by rfl) (fun ys wx N hG hN => ?_) ?_; rotate_left; simp only [actS, fillS]; (have hGc := bcell hG); go_simp; (try go_bits); exact hN _ (Gr.refl _); rotate_left; simp only [putS, addS, List.set_cons_zero, List.set_cons_succ]) | (refine wpF_skip way_gr (by rfl) ?_; simp only [putS, addS, List.set_cons_zero, List.set_cons_succ])))
    (refine wpF_val (v := ?_) (by rfl) (fun ys wx N hG hN => ?_) ?_; rotate_left; simp only [actS, fillS]; (have hGc := bcell hG); go_simp; (try go_bits); refine (retry_on c l _).mono ?_; rintro e w3 ⟨rfl, hb3⟩; refine ⟨_, rfl, ?_⟩; exact hN _ (by assumption); rotate_left; simp only [putS, addS, List.set_cons_zero, List.set_cons_succ])
    (repeat (first | (refine wpF_val (v := ?_) (by rfl) (fun ys wx N hG hN => ?_) ?_; rotate_left; simp only [actS, fillS]; (have hGc := bcell hG); go_simp; (try go_bits); exact hN _ (Gr.refl _); rotate_left; simp only [putS, addS, List.set_cons_zero, List.set_cons_succ]) | (refine wpF_skip way_gr (by rfl) ?_; simp only [putS, addS, List.set_cons_zero, List.set_cons_succ])))
    (refine wpF_val (v := ?_) (by rfl) (fun ys wx N hG hN => ?_) ?_; rotate_left; simp only [actS, fillS]; (have hGc := bcell hG); go_simp; (try go_bits); refine (retry_more c l _).mono ?_; rintro e w3 ⟨rfl, hb3⟩; refine ⟨_, rfl, ?_⟩; exact hN _ (by assumption); rotate_left; simp only [putS, addS, List.set_cons_zero, List.set_cons_succ])
    (repeat (first | (refine wpF_val (v := ?_) (by rfl) (fun ys wx N hG hN => ?_) ?_; rotate_left; simp only [actS, fillS]; (have hGc := bcell hG); go_simp; (try go_bits); exact hN _ (Gr.refl _); rotate_left; simp only [putS, addS, List.set_cons_zero, List.set_cons_succ]) | (refine wpF_skip way_gr (by rfl) ?_; simp only [putS, addS, List.set_cons_zero, List.set_cons_succ])))
    (refine wpF_val (v := ?_) (by rfl) (fun ys wx N hG hN => ?_) ?_; rotate_left; simp only [actS, fillS]; (have hGc := bcell hG); go_simp; (try go_bits); refine (retry_may c l _).mono ?_; rw [Hmb.out]; rintro e w3 ⟨rfl, hb3⟩; refine ⟨_, rfl, ?_⟩; exact hN _ (by assumption); rotate_left; simp only [putS, addS, List.set_cons_zero, List.set_cons_succ])
    (repeat (first | (refine wpF_val (v := ?_) (by rfl) (fun ys wx N hG hN => ?_) ?_; rotate_left; simp only [actS, fillS]; (have hGc := bcell hG); go_simp; (try go_bits); exact hN _ (Gr.refl _); rotate_left; simp only [putS, addS, List.set_cons_zero, List.set_cons_succ]) | (refine wpF_skip way_gr (by rfl) ?_; simp only [putS, addS, List.set_cons_zero, List.set_cons_succ])))
    (refine wpF_val (v := ?_) (by rfl) (fun ys wx N hG hN => ?_) ?_; rotate_left; simp only [actS, fillS]; (have hGc := bcell hG); go_simp; (try go_bits); refine (retry_longest_all n _).mono ?_; rw [Hlo.out]; rintro e w3 ⟨rfl, hb3⟩; refine ⟨_, rfl, ?_⟩; exact hN _ (by assumption); rotate_left; simp only [putS, addS, List.set_cons_zero, List.set_cons_succ])
    (repeat (first | (refine wpF_val (v := ?_) (by rfl) (fun ys wx N hG hN => ?_) ?_; rotate_left; simp only [actS, fillS]; (have hGc := bcell hG); go_simp; (try go_bits); exact hN _ (Gr.refl _); rotate_left; simp only [putS, addS, List.set_cons_zero, List.set_cons_succ]) | (refine wpF_skip way_gr (by rfl) ?_; simp only [putS, addS, List.set_cons_zero, List.set_cons_succ])))
    (refine wpF_val (v := ?_) (by rfl) (fun ys wx N hG hN => ?_) ?_; rotate_left; simp only [actS, fillS]; (have hGc := bcell hG); go_simp; (try go_bits); refine (ref24_longest_all n _).mono ?_; rw [Hlo.out]; rintro e w3 ⟨rfl, hb3⟩; refine ⟨_, rfl, ?_⟩; exact hN _ (by assumption); rotate_left; simp only [putS, addS, List.set_cons_zero, List.set_cons_succ])
    (repeat (first | (refine wpF_val (v := ?_) (by rfl) (fun ys wx N hG hN => ?_) ?_; rotate_left; simp only [actS, fillS]; (have hGc := bcell hG); go_simp; (try go_bits); exact hN _ (Gr.refl _); rotate_left; simp only [putS, addS, List.set_cons_zero, List.set_cons_succ]) | (refine wpF_skip way_gr (by rfl) ?_; simp only [putS, addS, List.set_cons_zero, List.set_cons_succ])))
    (refine wpF_val (v := ?_) (by rfl) (fun ys wx N hG hN => ?_) ?_; rotate_left; simp only [actS, fillS]; (have hGc := bcell hG); go_simp; (try go_bits); refine (alive24 _).mono ?_; rintro e w3 ⟨rfl, hb3⟩; refine ⟨_, rfl, ?_⟩; exact hN _ (by assumption); rotate_left; simp only [putS, addS, List.set_cons_zero, List.set_cons_succ])
    (repeat (first | (refine wpF_val (v := ?_) (by rfl) (fun ys wx N hG hN => ?_) ?_; rotate_left; simp only [actS, fillS]; (have hGc := bcell hG); go_simp; (try go_bits); exact hN _ (Gr.refl _); rotate_left; simp only [putS, addS, List.set_cons_zero, List.set_cons_succ]) | (refine wpF_skip way_gr (by rfl) ?_; simp only [putS, addS, List.set_cons_zero, List.set_cons_succ])))
    (refine wpF_end (fun ys wz hG _ _ => ?_); simp only [actS, fillS])
    go_wp2
    go_ret
    exact ⟨rfl, G.trans hG⟩
end Go.Proofs.Ytnengmhepjmdcaa
