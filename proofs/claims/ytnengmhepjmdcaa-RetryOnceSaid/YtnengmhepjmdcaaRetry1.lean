/-
  Contracts of package retry.
-/
import Derived.Test.YtnengmhepjmdcaaFacts
import Derived.Test.YtnengmhepjmdcaaRgn
import Derived.Deep.RegionWith
namespace Go.Proofs.Ytnengmhepjmdcaa
set_option maxRecDepth 100000
open Go.RowKit
set_option linter.unusedVariables false
set_option linter.unusedSimpArgs false

/-- A restart as a value. -/
abbrev rv (c l : Int) : Value := .agg #[.int .i64 c, .int .i64 l]

set_option maxHeartbeats 400000 in
theorem retry_more (c l : Int) (w : World) :
    Calls Try.prog 19 #[.agg #[.int .i64 c, .int .i64 l]] w fun e w' => e = .returned (.bool (decide (0 < c))) ∧ Gr w w' := by
  go_enter Try.func19, Try.ntmps19
  go_wp2
  go_ret
  exact ⟨rfl, (Below.refl _ _).alloc (Nat.le_refl _) _⟩
set_option maxHeartbeats 400000 in
theorem retry_on (c l : Int) (w : World) :
    Calls Try.prog 21 #[.agg #[.int .i64 c, .int .i64 l]] w fun e w' => e = .returned (.bool (decide (0 < l))) ∧ Gr w w' := by
  go_enter Try.func21, Try.ntmps21
  go_wp2
  go_ret
  exact ⟨rfl, (Below.refl _ _).alloc (Nat.le_refl _) _⟩
theorem retry_more_yes (c l : Int) (w : World) (h : 0 < c) :
    Calls Try.prog 19 #[.agg #[.int .i64 c, .int .i64 l]] w fun e w' => e = .returned (.bool true) ∧ Gr w w' := by
  have := retry_more c l w
  rwa [show decide (0 < c) = true by simpa using h] at this
theorem retry_more_no (c l : Int) (w : World) (h : c ≤ 0) :
    Calls Try.prog 19 #[.agg #[.int .i64 c, .int .i64 l]] w fun e w' => e = .returned (.bool false) ∧ Gr w w' := by
  have := retry_more c l w
  rwa [show decide (0 < c) = false by simpa using h] at this
theorem retry_on_yes (c l : Int) (w : World) (h : 0 < l) :
    Calls Try.prog 21 #[.agg #[.int .i64 c, .int .i64 l]] w fun e w' => e = .returned (.bool true) ∧ Gr w w' := by
  have := retry_on c l w
  rwa [show decide (0 < l) = true by simpa using h] at this
theorem retry_on_no (c l : Int) (w : World) (h : l ≤ 0) :
    Calls Try.prog 21 #[.agg #[.int .i64 c, .int .i64 l]] w fun e w' => e = .returned (.bool false) ∧ Gr w w' := by
  have := retry_on c l w
  rwa [show decide (0 < l) = false by simpa using h] at this
def mayR (c l : Int) : Bool := decide (0 ≤ c) && decide (c ≤ 10) && decide (0 ≤ l) && decide (l ≤ 3)
set_option maxHeartbeats 400000 in
theorem retry_may (c l : Int) (w : World) :
    Calls Try.prog 14 #[.agg #[.int .i64 c, .int .i64 l]] w fun e w' => e = .returned (.bool (mayR c l)) ∧ Gr w w' := by
  go_enter Try.func14, Try.ntmps14
  go_wp2
  all_goals
    go_ret
    exact ⟨ret_bool (by unfold mayR; simp [*] <;> omega), (Below.refl _ _).alloc (Nat.le_refl _) _⟩
def sentC (c : Int) : Int := if 0 < c then c - 1 else 0
set_option maxHeartbeats 400000 in
theorem retry_sent (c l : Int) (w : World) (hc : -9223372036854775808 ≤ c) (hc' : c ≤ 9223372036854775807) :
    Calls Try.prog 16 #[.agg #[.int .i64 c, .int .i64 l]] w fun e w' => e = .returned (rv (sentC c) 3) ∧ Gr w w' := by
  unfold sentC
  by_cases h : 0 < c
  · rw [if_pos h]
    have hd : decide (0 < c) = true := by simpa using h
    go_enter Try.func16, Try.ntmps16
    go_wp2_with fail
    refine (retry_more c l _).mono ?_
    rintro e w1 ⟨rfl, hb⟩
    obtain ⟨hc, hf⟩ := bcell hb
    go_wp2
    refine bodyPost_ret (v := rv (c - 1) 3) (by simp [results, Try.results16, go_sem, hc, rv]) rfl ⟨rfl, ?_⟩
    (repeat (first | exact Below.refl _ _ | (refine Below.setCell ?_ (by first | (simp; done) | omega | (simp; omega) | (simp at *; omega)) _) | (refine Below.alloc ?_ (by first | (simp; done) | omega | (simp; omega) | (simp at *; omega)) _) | (refine Below.drew ?_) | (refine below_drewN ?_ _) | (refine Below.trans ?_ (Below.mono (by assumption) (by first | (simp; done) | omega | (simp; omega) | (simp at *; omega))))))
  · rw [if_neg h]
    have hd : decide (0 < c) = false := by simpa using h
    go_enter Try.func16, Try.ntmps16
    go_wp2_with fail
    refine (retry_more c l _).mono ?_
    rintro e w1 ⟨rfl, hb⟩
    obtain ⟨hc, hf⟩ := bcell hb
    go_wp2
    refine bodyPost_ret (v := rv 0 3) (by simp [results, Try.results16, go_sem, hc, rv]) rfl ⟨rfl, ?_⟩
    (repeat (first | exact Below.refl _ _ | (refine Below.setCell ?_ (by first | (simp; done) | omega | (simp; omega) | (simp at *; omega)) _) | (refine Below.alloc ?_ (by first | (simp; done) | omega | (simp; omega) | (simp at *; omega)) _) | (refine Below.drew ?_) | (refine below_drewN ?_ _) | (refine Below.trans ?_ (Below.mono (by assumption) (by first | (simp; done) | omega | (simp; omega) | (simp at *; omega))))))
def tickL (l : Int) : Int := if 0 < l then l - 1 else l
set_option maxRecDepth 100000 in
set_option maxHeartbeats 400000 in
theorem retry_tick (c l : Int) (w : World) (hl : -9223372036854775808 ≤ l) (hl' : l ≤ 9223372036854775807) :
    Calls Try.prog 17 #[.agg #[.int .i64 c, .int .i64 l]] w fun e w' => e = .returned (.tuple #[rv c (tickL l), .bool (decide (l = 1))]) ∧ Gr w w' := by
  unfold tickL
  by_cases h : 0 < l
  · rw [if_pos h]
    have hd : decide (0 < l) = true := by simpa using h
    go_enter Try.func17, Try.ntmps17
    go_wp2_with fail
    refine (retry_on c l _).mono ?_
    rintro e w1 ⟨rfl, hb⟩
    obtain ⟨hc, hf⟩ := bcell hb
    have hz := hb.size
    simp at hz
    go_wp2
    refine name_world fun W hW => ?_
    have c0 : W.cell? ⟨w.heap.size, 0, none⟩ = some (.int .i64 c) := by subst hW; go_simp
    have c1 : W.cell? ⟨w.heap.size, 1, none⟩ = some (.int .i64 (l - 1)) := by subst hW; exact World.cell?_setCell_same _ _ _ (by rw [hc _ _ (by simp; omega)]; simp; rfl)
    have d0 : W.cell? ⟨w.heap.size + 1, 0, none⟩ = some (.int .i64 0) := by subst hW; go_simp
    have d1 : W.cell? ⟨w.heap.size + 1, 1, none⟩ = some (.int .i64 0) := by subst hW; go_simp
    have f0 : W.frozen? ⟨w.heap.size + 1, 0, none⟩ = false := by subst hW; go_simp
    have f1 : W.frozen? ⟨w.heap.size + 1, 1, none⟩ = false := by subst hW; go_simp
    have z0 : w.heap.size < W.heap.size := by rw [hW]; simp; omega
    have z1 : w.heap.size + 1 < W.heap.size := by rw [hW]; simp; omega
    have ex : ∀ i, i < 2 → ∃ x, W.cell? ⟨w.heap.size + 1, 0 + i, none⟩ = some x := fun i hi => by
      rcases (by omega : i = 0 ∨ i = 1) with rfl | rfl
      · exact ⟨_, d0⟩
      · exact ⟨_, d1⟩
    have G0 : Gr w W := by rw [hW]; (repeat (first | exact Below.refl _ _ | (refine Below.setCell ?_ (by first | (simp; done) | omega | (simp; omega) | (simp at *; omega)) _) | (refine Below.alloc ?_ (by first | (simp; done) | omega | (simp; omega) | (simp at *; omega)) _) | (refine Below.drew ?_) | (refine below_drewN ?_ _) | (refine Below.trans ?_ (Below.mono (by assumption) (by first | (simp; done) | omega | (simp; omega) | (simp at *; omega))))))
    clear hW hc hf hb
    refine wp_region_way (way_gs [w.heap.size + 1] (cellsAt (w.heap.size + 1) 0 [.int .i64 c, .int .i64 (l - 1)])) 6 (by kernel_rfl) (by kernel_rfl) ?_
    simp only [List.take_succ_cons, List.take_zero, List.drop_succ_cons, List.drop_zero, List.map_cons, List.map_nil]
    (refine wpF_val (v := ?_) (by rfl) (fun ys wx N hG hN => ?_) ?_; rotate_left; simp only [actS, fillS]; (have hGc := gcell hG); go_simp; (try go_bits); exact hN _ (Gs.refl _ _ _); rotate_left; simp only [putS, addS, List.set_cons_zero, List.set_cons_succ])
    (refine wpF_val (v := ?_) (by rfl) (fun ys wx N hG hN => ?_) ?_; rotate_left; simp only [actS, fillS]; (have hGc := gcell hG); go_simp; (try go_bits); exact hN _ (Gs.refl _ _ _); rotate_left; simp only [putS, addS, List.set_cons_zero, List.set_cons_succ])
    (refine wpF_val (v := ?_) (by rfl) (fun ys wx N hG hN => ?_) ?_; rotate_left; simp only [actS, fillS]; (have hGc := gcell hG); go_simp; (try go_bits);  refine (retry_on c (l - 1) _).mono ?_; rintro e w2 ⟨rfl, hb2⟩; refine ⟨_, rfl, ?_⟩; exact hN _ (Gr.gs (by assumption) _ _); rotate_left; simp only [putS, addS, List.set_cons_zero, List.set_cons_succ])
    (refine wpF_val (v := ?_) (by rfl) (fun ys wx N hG hN => ?_) ?_; rotate_left; simp only [actS, fillS]; (have hGc := gcell hG); go_simp; (try go_bits); exact hN _ (Gs.refl _ _ _); rotate_left; simp only [putS, addS, List.set_cons_zero, List.set_cons_succ])
    refine wpF_sat (saidS _) (kept_said _ _) (by rfl) (fun ys wx N hG hF hN => ?_) ?_
    · have hE := hG.there (n := 2) List.mem_cons_self ex
      obtain ⟨x0, e0⟩ := hE 0 (by omega)
      obtain ⟨x1, e1⟩ := hE 1 (by omega)
      have hGc := gcell hG
      simp only [actS, fillS]
      go_simp
      exact hN undef _ (setCells_said hE) (setCells_own _ _ wx)
    simp only [putS, addS, List.set_cons_zero, List.set_cons_succ]
    (refine wpF_val (v := ?_) (by rfl) (fun ys wx N hG hN => ?_) ?_; rotate_left; simp only [actS, fillS]; (have hGc := gcell hG); go_simp; (try go_bits); exact hN _ (Gs.refl _ _ _); rotate_left; simp only [putS, addS, List.set_cons_zero, List.set_cons_succ])
    refine wpF_end (fun ys wz hG _ hΦ => ?_)
    obtain ⟨_, hS⟩ := hΦ _ (List.mem_singleton.2 rfl)
    simp only [actS, fillS]
    go_wp2
    have k0 : wz.cell? ⟨w.heap.size + 1, 0, none⟩ = _ := hS _ List.mem_cons_self
    have k1 : wz.cell? ⟨w.heap.size + 1, 1, none⟩ = _ := hS _ (List.mem_cons_of_mem _ List.mem_cons_self)
    have hb : (!decide (1 < l)) = decide (l = 1) := by rw [Bool.eq_iff_iff]; simp; omega
    refine bodyPost_ret (v := .tuple #[rv c (l - 1), .bool (decide (l = 1))]) (by simp [results, Try.results17, go_sem, rv, k0, k1, hb]) rfl ⟨rfl, Below.trans G0 (hG.below G0.size (by simp))⟩
  · rw [if_neg h]
    have hd : decide (0 < l) = false := by simpa using h
    have hb1 : decide (l = 1) = false := by simp; omega
    rw [hb1]
    go_enter Try.func17, Try.ntmps17
    go_wp2_with fail
    refine (retry_on c l _).mono ?_
    rintro e w1 ⟨rfl, hb⟩
    obtain ⟨hc, hf⟩ := bcell hb
    go_wp2
    refine bodyPost_ret (v := .tuple #[rv c l, .bool false]) (by simp [results, Try.results17, go_sem, hc, rv]) rfl ⟨rfl, ?_⟩
    (repeat (first | exact Below.refl _ _ | (refine Below.setCell ?_ (by first | (simp; done) | omega | (simp; omega) | (simp at *; omega)) _) | (refine Below.alloc ?_ (by first | (simp; done) | omega | (simp; omega) | (simp at *; omega)) _) | (refine Below.drew ?_) | (refine below_drewN ?_ _) | (refine Below.trans ?_ (Below.mono (by assumption) (by first | (simp; done) | omega | (simp; omega) | (simp at *; omega))))))
theorem retry_tick_no (c l : Int) (w : World) (h : 2 ≤ l) (h' : l ≤ 3) :
    Calls Try.prog 17 #[.agg #[.int .i64 c, .int .i64 l]] w fun e w' => e = .returned (.tuple #[.agg #[.int .i64 c, .int .i64 (l - 1)], .bool false]) ∧ Gr w w' := by
  have := retry_tick c l w (by omega) (by omega)
  rw [tickL, if_pos (by omega), show decide (l = 1) = false by simp; omega] at this
  exact this
theorem retry_tick_yes (c : Int) (w : World) :
    Calls Try.prog 17 #[.agg #[.int .i64 c, .int .i64 1]] w fun e w' => e = .returned (.tuple #[.agg #[.int .i64 c, .int .i64 0], .bool true]) ∧ Gr w w' := by
  have := retry_tick c 1 w (by omega) (by omega)
  rw [tickL, if_pos (by omega)] at this
  exact this
theorem retry_tick_off (c : Int) (w : World) :
    Calls Try.prog 17 #[.agg #[.int .i64 c, .int .i64 0]] w fun e w' => e = .returned (.tuple #[.agg #[.int .i64 c, .int .i64 0], .bool false]) ∧ Gr w w' := by
  have := retry_tick c 0 w (by omega) (by omega)
  rw [tickL, if_neg (by omega)] at this
  exact this
theorem retry_sent_yes (c l : Int) (w : World) (h : 0 < c) (h' : c ≤ 9223372036854775807) :
    Calls Try.prog 16 #[.agg #[.int .i64 c, .int .i64 l]] w fun e w' => e = .returned (.agg #[.int .i64 (c - 1), .int .i64 3]) ∧ Gr w w' := by
  have := retry_sent c l w (by omega) h'
  rw [sentC, if_pos h] at this
  exact this
set_option maxHeartbeats 400000 in
theorem retry_stop (c l : Int) (w : World) :
    Calls Try.prog 22 #[.agg #[.int .i64 c, .int .i64 l]] w fun e w' => e = .returned (rv c 0) ∧ Gr w w' := by
  go_enter Try.func22, Try.ntmps22
  go_wp2
  refine bodyPost_ret (v := rv c 0) (by simp [results, Try.results22, go_sem, rv]) rfl ⟨rfl, ?_⟩
  (repeat (first | exact Below.refl _ _ | (refine Below.setCell ?_ (by first | (simp; done) | omega | (simp; omega) | (simp at *; omega)) _) | (refine Below.alloc ?_ (by first | (simp; done) | omega | (simp; omega) | (simp at *; omega)) _) | (refine Below.drew ?_) | (refine below_drewN ?_ _) | (refine Below.trans ?_ (Below.mono (by assumption) (by first | (simp; done) | omega | (simp; omega) | (simp at *; omega))))))
set_option maxHeartbeats 400000 in
theorem retry_init (c l : Int) (b : Bool) (w : World) :
    Calls Try.prog 20 #[.agg #[.int .i64 c, .int .i64 l], .bool b] w fun e w' => e = .returned (rv (if b then 2 else 10) l) ∧ Gr w w' := by
  cases b with
  | true =>
    go_enter Try.func20, Try.ntmps20
    go_wp2
    refine bodyPost_ret (v := rv 2 l) (by simp [results, Try.results20, go_sem, rv]) rfl ⟨rfl, ?_⟩
    (repeat (first | exact Below.refl _ _ | (refine Below.setCell ?_ (by first | (simp; done) | omega | (simp; omega) | (simp at *; omega)) _) | (refine Below.alloc ?_ (by first | (simp; done) | omega | (simp; omega) | (simp at *; omega)) _) | (refine Below.drew ?_) | (refine below_drewN ?_ _) | (refine Below.trans ?_ (Below.mono (by assumption) (by first | (simp; done) | omega | (simp; omega) | (simp at *; omega))))))
  | false =>
    go_enter Try.func20, Try.ntmps20
    go_wp2
    refine bodyPost_ret (v := rv 10 l) (by simp [results, Try.results20, go_sem, rv]) rfl ⟨rfl, ?_⟩
    (repeat (first | exact Below.refl _ _ | (refine Below.setCell ?_ (by first | (simp; done) | omega | (simp; omega) | (simp at *; omega)) _) | (refine Below.alloc ?_ (by first | (simp; done) | omega | (simp; omega) | (simp at *; omega)) _) | (refine Below.drew ?_) | (refine below_drewN ?_ _) | (refine Below.trans ?_ (Below.mono (by assumption) (by first | (simp; done) | omega | (simp; omega) | (simp at *; omega))))))
set_option maxHeartbeats 400000 in
theorem retry_zero (c l : Int) (w : World) :
    Calls Try.prog 26 #[.agg #[.int .i64 c, .int .i64 l]] w fun e w' => e = .returned (rv 0 3) ∧ Gr w w' := by
  go_enter Try.func26, Try.ntmps26
  go_wp2
  refine bodyPost_ret (v := rv 0 3) (by simp [results, Try.results26, go_sem, rv]) rfl ⟨rfl, ?_⟩
  (repeat (first | exact Below.refl _ _ | (refine Below.setCell ?_ (by first | (simp; done) | omega | (simp; omega) | (simp at *; omega)) _) | (refine Below.alloc ?_ (by first | (simp; done) | omega | (simp; omega) | (simp at *; omega)) _) | (refine Below.drew ?_) | (refine below_drewN ?_ _) | (refine Below.trans ?_ (Below.mono (by assumption) (by first | (simp; done) | omega | (simp; omega) | (simp at *; omega))))))
end Go.Proofs.Ytnengmhepjmdcaa
