/-
  Frames that are short: the law.
-/
import Derived.Test.YtecnclcendcfmaaLaw20
import Derived.IntWalk
namespace Go.Proofs.Ytecnclcendcfmaa
set_option maxRecDepth 100000
open Go.RowKit
set_option pp.deepTerms true
set_option pp.deepTerms.threshold 100000
set_option pp.maxSteps 10000000
set_option linter.unusedVariables false
set_option linter.unusedSimpArgs false

set_option maxHeartbeats 1000000 in
theorem law20_short_long (p : Nat) (A : Option Addr) (n c : Nat) (xs : List UInt8) (w : World) (hp : p < 65536) (hx : RB w A n xs) (hnc : n ≤ c) (hcm : c ≤ maxLen) (h : 4000 < n) :
    Calls Try.prog 6 #[.agg #[.int .u16 p, .slice A n c]] w fun e w' => e = .returned (.bool true) ∧ Gr w w' := by
  have s0 := StA.new w [.int .u16 p, .slice A n c] 36
  have g0 := gr_alloc (Gr.refl w) (.cells [Value.int .u16 p, .slice A n c].toArray 36)
  have hx1 := hx.gr g0
  clear hx
  have s0c0 := s0.cell 0 _ rfl
  have s0f0 := s0.free 0 _ rfl
  have s0c1 := s0.cell 1 _ rfl
  have s0f1 := s0.free 1 _ rfl
  have h1 : (4000 : Int) < (n : Int) := by omega
  go_enter Try.func6, Try.ntmps6
  go_wp2_with fail
  refine (alive20 _).mono ?_
  rintro e w1 ⟨rfl, hb1⟩
  go_wp2
  go_ret
  exact ⟨rfl, Gr.trans g0 hb1⟩
set_option maxHeartbeats 1000000 in
theorem law20_short_none (p : Nat) (A : Option Addr) (n c : Nat) (xs : List UInt8) (w : World) (hp : p < 65536) (hx : RB w A n xs) (hnc : n ≤ c) (hcm : c ≤ maxLen) (h : n ≤ 4000) (hpr : protoB p = false) :
    Calls Try.prog 6 #[.agg #[.int .u16 p, .slice A n c]] w fun e w' => e = .returned (.bool true) ∧ Gr w w' := by
  have s0 := StA.new w [.int .u16 p, .slice A n c] 36
  have g0 := gr_alloc (Gr.refl w) (.cells [Value.int .u16 p, .slice A n c].toArray 36)
  have hx1 := hx.gr g0
  clear hx
  have s0c0 := s0.cell 0 _ rfl
  have s0f0 := s0.free 0 _ rfl
  have s0c1 := s0.cell 1 _ rfl
  have s0f1 := s0.free 1 _ rfl
  have h1 : ¬ (4000 : Int) < (n : Int) := by omega
  go_enter Try.func6, Try.ntmps6
  go_wp2_with fail
  refine (pppf_may p _ hp).mono ?_
  rw [hpr]
  rintro e w0 ⟨rfl, hw0⟩
  subst hw0
  go_wp2_with fail
  refine (alive20 _).mono ?_
  rintro e w1 ⟨rfl, hb1⟩
  go_wp2
  go_ret
  exact ⟨rfl, Gr.trans g0 hb1⟩
set_option maxHeartbeats 4000000 in
theorem law20_short_lt (p : Nat) (A : Option Addr) (n c : Nat) (xs : List UInt8) (w : World) (hp : p < 65536) (hx : RB w A n xs) (hnc : n ≤ c) (hcm : c ≤ maxLen) (h : n ≤ 4000) (hpr : protoB p = true) (hq : p < 256) :
    Calls Try.prog 6 #[.agg #[.int .u16 p, .slice A n c]] w fun e w' => e = .returned (.bool true) ∧ Gr w w' := by
  have hl := hx.len
  obtain ⟨R1, hR1⟩ : ∃ R, R = 255 :: 3 :: UInt8.ofNat (p / 256) :: UInt8.ofNat p :: xs := ⟨_, rfl⟩
  obtain ⟨R2, hR2⟩ : ∃ R, R = UInt8.ofNat (p / 256) :: UInt8.ofNat p :: xs := ⟨_, rfl⟩
  obtain ⟨R3, hR3⟩ : ∃ R, R = UInt8.ofNat p :: xs := ⟨_, rfl⟩
  have e1 : layR p xs false false = R1 := by unfold layR; rw [if_pos ⟨hpr, by omega⟩, hR1]; unfold layF; simp
  have e2 : layR p xs true false = R2 := by unfold layR; rw [if_pos ⟨hpr, by omega⟩, hR2]; unfold layF; simp
  have e3 : layR p xs true true = R3 := by unfold layR; rw [if_pos ⟨hpr, by omega⟩, hR3]; unfold layF; simp [hq]
  have ee : layE p n = 0 := by unfold layE; rw [if_pos hpr, if_pos h]
  have k1 : R1.length = n + 4 := by rw [hR1, ← hl]; simp
  have k2 : R2.length = n + 2 := by rw [hR2, ← hl]; simp
  have k3 : R3.length = n + 1 := by rw [hR3, ← hl]; simp
  have d4 : R1.drop 4 = xs := by rw [hR1]; rfl
  have d2 : R1.drop 2 = R2 := by rw [hR1, hR2]; rfl
  have d3 : R3.drop 1 = xs := by rw [hR3]; rfl
  have E1 := Lib.hid e1; have E2 := Lib.hid e2; have E3 := Lib.hid e3; have EE := Lib.hid ee
  have K1 := Lib.hid k1; have K2 := Lib.hid k2; have K3 := Lib.hid k3
  have D4 := Lib.hid d4; have D2 := Lib.hid d2; have D3 := Lib.hid d3
  clear e1 e2 e3 ee k1 k2 k3 d4 d2 d3 hR1 hR2 hR3 hl
  have G := Gr.refl w
  have s0 := StA.new w [.int .u16 p, .slice A n c] 36
  have g0 := gr_alloc (Gr.refl w) (.cells [Value.int .u16 p, .slice A n c].toArray 36)
  have hx1 := hx.gr g0
  clear hx
  have s0c0 := s0.cell 0 _ rfl
  have s0f0 := s0.free 0 _ rfl
  have s0c1 := s0.cell 1 _ rfl
  have s0f1 := s0.free 1 _ rfl
  replace G := Gr.trans G g0
  clear g0
  have h1 : ¬ (4000 : Int) < (n : Int) := by omega
  go_enter Try.func6, Try.ntmps6
  go_wp2_with fail
  refine (pppf_may p _ hp).mono ?_
  rw [hpr]
  rintro e w0 ⟨rfl, hw0⟩
  subst hw0
  go_wp2_with fail
  refine (theirs20 p A n c _).mono ?_
  rintro e wt ⟨rfl, hbt⟩
  replace s0 := s0.gr hbt
  clear s0c0 s0f0 s0c1 s0f1
  have s0c0 := s0.cell 0 _ rfl
  have s0f0 := s0.free 0 _ rfl
  have s0c1 := s0.cell 1 _ rfl
  have s0f1 := s0.free 1 _ rfl
  go_wp2_with fail
  refine (pppf_lay_all p A n c xs false false _ hp (hx1.gr hbt) hnc).mono ?_
  rw [E1.out, EE.out]
  rintro e w1 ⟨A1, n1, c1, rfl, i1, j1, h1, hb⟩
  obtain rfl : n1 = n + 4 := by have := h1.len; rw [← this, K1.out]
  have gm := hbt.trans hb
  replace s0 := s0.gr hb
  replace hx1 := hx1.gr gm
  replace G := Gr.trans G gm
  clear s0c0 s0f0 s0c1 s0f1
  clear hbt hb gm
  have s0c0 := s0.cell 0 _ rfl
  have s0f0 := s0.free 0 _ rfl
  have s0c1 := s0.cell 1 _ rfl
  have s0f1 := s0.free 1 _ rfl
  dsimp only
  go_wp2_with fail
  refine (theirs20 p A n c _).mono ?_
  rintro e wt ⟨rfl, hbt⟩
  replace s0 := s0.gr hbt
  clear s0c0 s0f0 s0c1 s0f1
  have s0c0 := s0.cell 0 _ rfl
  have s0f0 := s0.free 0 _ rfl
  have s0c1 := s0.cell 1 _ rfl
  have s0f1 := s0.free 1 _ rfl
  go_wp2_with fail
  refine (pppf_lay_all p A n c xs true false _ hp (hx1.gr hbt) hnc).mono ?_
  rw [E2.out, EE.out]
  rintro e w2 ⟨A2, n2, c2, rfl, i2, j2, h2, hb⟩
  obtain rfl : n2 = n + 2 := by have := h2.len; rw [← this, K2.out]
  have gm := hbt.trans hb
  replace s0 := s0.gr hb
  replace hx1 := hx1.gr gm
  replace G := Gr.trans G gm
  replace h1 := h1.gr gm
  clear s0c0 s0f0 s0c1 s0f1
  clear hbt hb gm
  have s0c0 := s0.cell 0 _ rfl
  have s0f0 := s0.free 0 _ rfl
  have s0c1 := s0.cell 1 _ rfl
  have s0f1 := s0.free 1 _ rfl
  dsimp only
  go_wp2_with fail
  refine (theirs20 p A n c _).mono ?_
  rintro e wt ⟨rfl, hbt⟩
  replace s0 := s0.gr hbt
  clear s0c0 s0f0 s0c1 s0f1
  have s0c0 := s0.cell 0 _ rfl
  have s0f0 := s0.free 0 _ rfl
  have s0c1 := s0.cell 1 _ rfl
  have s0f1 := s0.free 1 _ rfl
  go_wp2_with fail
  refine (pppf_lay_all p A n c xs true true _ hp (hx1.gr hbt) hnc).mono ?_
  rw [E3.out, EE.out]
  rintro e w3 ⟨A3, n3, c3, rfl, i3, j3, h3, hb⟩
  obtain rfl : n3 = n + 1 := by have := h3.len; rw [← this, K3.out]
  have gm := hbt.trans hb
  replace s0 := s0.gr hb
  replace hx1 := hx1.gr gm
  replace G := Gr.trans G gm
  replace h1 := h1.gr gm
  replace h2 := h2.gr gm
  clear s0c0 s0f0 s0c1 s0f1
  clear hbt hb gm
  have s0c0 := s0.cell 0 _ rfl
  have s0f0 := s0.free 0 _ rfl
  have s0c1 := s0.cell 1 _ rfl
  have s0f1 := s0.free 1 _ rfl
  dsimp only
  have Hcm := Lib.hid hcm; clear hcm
  have I1 := Lib.hid (Nat.le_trans i1 j1)
  have I2 := Lib.hid (Nat.le_trans i2 j2)
  have I3 := Lib.hid (Nat.le_trans i3 j3)
  have Inc := Lib.hid (Nat.le_trans hnc Hcm.out)
  obtain ⟨B1, hs1, -, hr1⟩ := cut_from A1 (n + 4) c1 4 4 rfl R1 _ h1 (by omega) i1
  obtain ⟨B2, hs2, -, hr2⟩ := cut_from A1 (n + 4) c1 2 2 rfl R1 _ h1 (by omega) i1
  obtain ⟨B3, hs3, -, hr3⟩ := cut_from A3 (n + 1) c3 1 1 rfl R3 _ h3 (by omega) i3
  rw [D4.out, show n + 4 - 4 = n by omega] at hr1
  rw [D2.out, show n + 4 - 2 = n + 2 by omega] at hr2
  rw [D3.out, show n + 1 - 1 = n by omega] at hr3
  have H0 := Lib.hid (show n ≤ maxLen from Nat.le_trans h (by unfold maxLen; omega))
  clear i1 j1 i2 j2 i3 j3
  go_wp2
  refine name_world fun W hW => ?_
  rw [← hW] at s0 hr1 hr2 hr3 hx1 h1 h2 h3 G
  clear hW
  clear s0c0 s0f0 s0c1 s0f1
  have s0c0 := s0.cell 0 _ rfl
  have s0f0 := s0.free 0 _ rfl
  have s0c1 := s0.cell 1 _ rfl
  have s0f1 := s0.free 1 _ rfl
  have zs0 := s0.lt
  have w1 : IntKind.i64.wrap (4 + (n : Int)) = (n : Int) + 4 := by rw [IntWalk.i64_in _ (by omega)]; omega
  have w2 : IntKind.i64.wrap ((n : Int) + 4 - 2) = (n : Int) + 2 := by rw [IntWalk.i64_in _ (by omega)]; omega
  have w3 : IntKind.i64.wrap ((n : Int) + 2 - 1) = (n : Int) + 1 := by rw [IntWalk.i64_in _ (by omega)]; omega
  (refine wp_region_all (by kernel_rfl) (by kernel_rfl) ?_; simp only [List.map_cons, List.map_nil])
  (repeat (first | (refine wpF_val (v := ?_) (by rfl) (fun ys wx N hG hN => ?_) ?_; rotate_left; simp only [actS, fillS]; (have hGc := bcell hG); (have hGd := acell hG); go_simp; (try go_bits); exact hN _ (Gr.refl _); rotate_left; simp only [putS, addS, List.set_cons_zero, List.set_cons_succ]) | (refine wpF_skip way_gr (by rfl) ?_; simp only [putS, addS, List.set_cons_zero, List.set_cons_succ])))
  (refine wpF_val (v := ?_) (by rfl) (fun ys wx N hG hN => ?_) ?_; rotate_left; simp only [actS, fillS]; (have hGc := bcell hG); (have hGd := acell hG); go_simp; (try go_bits); refine (ref_same B1 A n n (c1 - 4) c xs xs _ (hr1.gr hG) (hx1.gr hG) H0.out H0.out).mono ?_; rw [decide_eq_true (rfl : xs = xs)]; rintro e w5 ⟨rfl, hb5⟩; have hbq := Qt.gr (by assumption); refine ⟨_, rfl, ?_⟩; exact hN _ hbq; rotate_left; simp only [putS, addS, List.set_cons_zero, List.set_cons_succ])
  (repeat (first | (refine wpF_val (v := ?_) (by rfl) (fun ys wx N hG hN => ?_) ?_; rotate_left; simp only [actS, fillS]; (have hGc := bcell hG); (have hGd := acell hG); go_simp; (try go_bits); exact hN _ (Gr.refl _); rotate_left; simp only [putS, addS, List.set_cons_zero, List.set_cons_succ]) | (refine wpF_skip way_gr (by rfl) ?_; simp only [putS, addS, List.set_cons_zero, List.set_cons_succ])))
  (refine wpF_val (v := ?_) (by rfl) (fun ys wx N hG hN => ?_) ?_; rotate_left; simp only [actS, fillS]; (have hGc := bcell hG); (have hGd := acell hG); go_simp; (try go_bits); refine (ref_same B2 A2 (n + 2) (n + 2) (c1 - 2) c2 R2 R2 _ (hr2.gr hG) (h2.gr hG) I2.out I2.out).mono ?_; rw [decide_eq_true (rfl : R2 = R2)]; rintro e w5 ⟨rfl, hb5⟩; have hbq := Qt.gr (by assumption); refine ⟨_, rfl, ?_⟩; exact hN _ hbq; rotate_left; simp only [putS, addS, List.set_cons_zero, List.set_cons_succ])
  (repeat (first | (refine wpF_val (v := ?_) (by rfl) (fun ys wx N hG hN => ?_) ?_; rotate_left; simp only [actS, fillS]; (have hGc := bcell hG); (have hGd := acell hG); go_simp; (try go_bits); exact hN _ (Gr.refl _); rotate_left; simp only [putS, addS, List.set_cons_zero, List.set_cons_succ]) | (refine wpF_skip way_gr (by rfl) ?_; simp only [putS, addS, List.set_cons_zero, List.set_cons_succ])))
  (refine wpF_val (v := ?_) (by rfl) (fun ys wx N hG hN => ?_) ?_; rotate_left; simp only [actS, fillS]; (have hGc := bcell hG); (have hGd := acell hG); go_simp; (try go_bits); refine (ref_same B3 A n n (c3 - 1) c xs xs _ (hr3.gr hG) (hx1.gr hG) H0.out H0.out).mono ?_; rw [decide_eq_true (rfl : xs = xs)]; rintro e w5 ⟨rfl, hb5⟩; have hbq := Qt.gr (by assumption); refine ⟨_, rfl, ?_⟩; exact hN _ hbq; rotate_left; simp only [putS, addS, List.set_cons_zero, List.set_cons_succ])
  (repeat (first | (refine wpF_val (v := ?_) (by rfl) (fun ys wx N hG hN => ?_) ?_; rotate_left; simp only [actS, fillS]; (have hGc := bcell hG); (have hGd := acell hG); go_simp; (try go_bits); exact hN _ (Gr.refl _); rotate_left; simp only [putS, addS, List.set_cons_zero, List.set_cons_succ]) | (refine wpF_skip way_gr (by rfl) ?_; simp only [putS, addS, List.set_cons_zero, List.set_cons_succ])))
  (refine wpF_val (v := ?_) (by rfl) (fun ys wx N hG hN => ?_) ?_; rotate_left; simp only [actS, fillS]; (have hGc := bcell hG); (have hGd := acell hG); go_simp; (try go_bits); refine (alive20 _).mono ?_; rintro e w5 ⟨rfl, hb5⟩; refine ⟨_, rfl, ?_⟩; exact hN _ (by assumption); rotate_left; simp only [putS, addS, List.set_cons_zero, List.set_cons_succ])
  (repeat (first | (refine wpF_val (v := ?_) (by rfl) (fun ys wx N hG hN => ?_) ?_; rotate_left; simp only [actS, fillS]; (have hGc := bcell hG); (have hGd := acell hG); go_simp; (try go_bits); exact hN _ (Gr.refl _); rotate_left; simp only [putS, addS, List.set_cons_zero, List.set_cons_succ]) | (refine wpF_skip way_gr (by rfl) ?_; simp only [putS, addS, List.set_cons_zero, List.set_cons_succ])))
  (refine wpF_end (fun ys wz hG _ _ => ?_); simp only [actS, fillS])
  go_wp2
  go_ret
  exact ⟨rfl, G.trans hG⟩
set_option maxHeartbeats 4000000 in
theorem law20_short_ge (p : Nat) (A : Option Addr) (n c : Nat) (xs : List UInt8) (w : World) (hp : p < 65536) (hx : RB w A n xs) (hnc : n ≤ c) (hcm : c ≤ maxLen) (h : n ≤ 4000) (hpr : protoB p = true) (hq : ¬ p < 256) :
    Calls Try.prog 6 #[.agg #[.int .u16 p, .slice A n c]] w fun e w' => e = .returned (.bool true) ∧ Gr w w' := by
  have hl := hx.len
  obtain ⟨R1, hR1⟩ : ∃ R, R = 255 :: 3 :: UInt8.ofNat (p / 256) :: UInt8.ofNat p :: xs := ⟨_, rfl⟩
  obtain ⟨R2, hR2⟩ : ∃ R, R = UInt8.ofNat (p / 256) :: UInt8.ofNat p :: xs := ⟨_, rfl⟩
  obtain ⟨R3, hR3⟩ : ∃ R, R = UInt8.ofNat (p / 256) :: UInt8.ofNat p :: xs := ⟨_, rfl⟩
  have e1 : layR p xs false false = R1 := by unfold layR; rw [if_pos ⟨hpr, by omega⟩, hR1]; unfold layF; simp
  have e2 : layR p xs true false = R2 := by unfold layR; rw [if_pos ⟨hpr, by omega⟩, hR2]; unfold layF; simp
  have e3 : layR p xs true true = R3 := by unfold layR; rw [if_pos ⟨hpr, by omega⟩, hR3]; unfold layF; simp [hq]
  have ee : layE p n = 0 := by unfold layE; rw [if_pos hpr, if_pos h]
  have k1 : R1.length = n + 4 := by rw [hR1, ← hl]; simp
  have k2 : R2.length = n + 2 := by rw [hR2, ← hl]; simp
  have k3 : R3.length = n + 2 := by rw [hR3, ← hl]; simp
  have d4 : R1.drop 4 = xs := by rw [hR1]; rfl
  have d2 : R1.drop 2 = R2 := by rw [hR1, hR2]; rfl
  have d3 : R3.drop 2 = xs := by rw [hR3]; rfl
  have E1 := Lib.hid e1; have E2 := Lib.hid e2; have E3 := Lib.hid e3; have EE := Lib.hid ee
  have K1 := Lib.hid k1; have K2 := Lib.hid k2; have K3 := Lib.hid k3
  have D4 := Lib.hid d4; have D2 := Lib.hid d2; have D3 := Lib.hid d3
  clear e1 e2 e3 ee k1 k2 k3 d4 d2 d3 hR1 hR2 hR3 hl
  have G := Gr.refl w
  have s0 := StA.new w [.int .u16 p, .slice A n c] 36
  have g0 := gr_alloc (Gr.refl w) (.cells [Value.int .u16 p, .slice A n c].toArray 36)
  have hx1 := hx.gr g0
  clear hx
  have s0c0 := s0.cell 0 _ rfl
  have s0f0 := s0.free 0 _ rfl
  have s0c1 := s0.cell 1 _ rfl
  have s0f1 := s0.free 1 _ rfl
  replace G := Gr.trans G g0
  clear g0
  have h1 : ¬ (4000 : Int) < (n : Int) := by omega
  go_enter Try.func6, Try.ntmps6
  go_wp2_with fail
  refine (pppf_may p _ hp).mono ?_
  rw [hpr]
  rintro e w0 ⟨rfl, hw0⟩
  subst hw0
  go_wp2_with fail
  refine (theirs20 p A n c _).mono ?_
  rintro e wt ⟨rfl, hbt⟩
  replace s0 := s0.gr hbt
  clear s0c0 s0f0 s0c1 s0f1
  have s0c0 := s0.cell 0 _ rfl
  have s0f0 := s0.free 0 _ rfl
  have s0c1 := s0.cell 1 _ rfl
  have s0f1 := s0.free 1 _ rfl
  go_wp2_with fail
  refine (pppf_lay_all p A n c xs false false _ hp (hx1.gr hbt) hnc).mono ?_
  rw [E1.out, EE.out]
  rintro e w1 ⟨A1, n1, c1, rfl, i1, j1, h1, hb⟩
  obtain rfl : n1 = n + 4 := by have := h1.len; rw [← this, K1.out]
  have gm := hbt.trans hb
  replace s0 := s0.gr hb
  replace hx1 := hx1.gr gm
  replace G := Gr.trans G gm
  clear s0c0 s0f0 s0c1 s0f1
  clear hbt hb gm
  have s0c0 := s0.cell 0 _ rfl
  have s0f0 := s0.free 0 _ rfl
  have s0c1 := s0.cell 1 _ rfl
  have s0f1 := s0.free 1 _ rfl
  dsimp only
  go_wp2_with fail
  refine (theirs20 p A n c _).mono ?_
  rintro e wt ⟨rfl, hbt⟩
  replace s0 := s0.gr hbt
  clear s0c0 s0f0 s0c1 s0f1
  have s0c0 := s0.cell 0 _ rfl
  have s0f0 := s0.free 0 _ rfl
  have s0c1 := s0.cell 1 _ rfl
  have s0f1 := s0.free 1 _ rfl
  go_wp2_with fail
  refine (pppf_lay_all p A n c xs true false _ hp (hx1.gr hbt) hnc).mono ?_
  rw [E2.out, EE.out]
  rintro e w2 ⟨A2, n2, c2, rfl, i2, j2, h2, hb⟩
  obtain rfl : n2 = n + 2 := by have := h2.len; rw [← this, K2.out]
  have gm := hbt.trans hb
  replace s0 := s0.gr hb
  replace hx1 := hx1.gr gm
  replace G := Gr.trans G gm
  replace h1 := h1.gr gm
  clear s0c0 s0f0 s0c1 s0f1
  clear hbt hb gm
  have s0c0 := s0.cell 0 _ rfl
  have s0f0 := s0.free 0 _ rfl
  have s0c1 := s0.cell 1 _ rfl
  have s0f1 := s0.free 1 _ rfl
  dsimp only
  go_wp2_with fail
  refine (theirs20 p A n c _).mono ?_
  rintro e wt ⟨rfl, hbt⟩
  replace s0 := s0.gr hbt
  clear s0c0 s0f0 s0c1 s0f1
  have s0c0 := s0.cell 0 _ rfl
  have s0f0 := s0.free 0 _ rfl
  have s0c1 := s0.cell 1 _ rfl
  have s0f1 := s0.free 1 _ rfl
  go_wp2_with fail
  refine (pppf_lay_all p A n c xs true true _ hp (hx1.gr hbt) hnc).mono ?_
  rw [E3.out, EE.out]
  rintro e w3 ⟨A3, n3, c3, rfl, i3, j3, h3, hb⟩
  obtain rfl : n3 = n + 2 := by have := h3.len; rw [← this, K3.out]
  have gm := hbt.trans hb
  replace s0 := s0.gr hb
  replace hx1 := hx1.gr gm
  replace G := Gr.trans G gm
  replace h1 := h1.gr gm
  replace h2 := h2.gr gm
  clear s0c0 s0f0 s0c1 s0f1
  clear hbt hb gm
  have s0c0 := s0.cell 0 _ rfl
  have s0f0 := s0.free 0 _ rfl
  have s0c1 := s0.cell 1 _ rfl
  have s0f1 := s0.free 1 _ rfl
  dsimp only
  have Hcm := Lib.hid hcm; clear hcm
  have I1 := Lib.hid (Nat.le_trans i1 j1)
  have I2 := Lib.hid (Nat.le_trans i2 j2)
  have I3 := Lib.hid (Nat.le_trans i3 j3)
  have Inc := Lib.hid (Nat.le_trans hnc Hcm.out)
  obtain ⟨B1, hs1, -, hr1⟩ := cut_from A1 (n + 4) c1 4 4 rfl R1 _ h1 (by omega) i1
  obtain ⟨B2, hs2, -, hr2⟩ := cut_from A1 (n + 4) c1 2 2 rfl R1 _ h1 (by omega) i1
  obtain ⟨B3, hs3, -, hr3⟩ := cut_from A3 (n + 2) c3 2 2 rfl R3 _ h3 (by omega) i3
  rw [D4.out, show n + 4 - 4 = n by omega] at hr1
  rw [D2.out, show n + 4 - 2 = n + 2 by omega] at hr2
  rw [D3.out, show n + 2 - 2 = n by omega] at hr3
  have H0 := Lib.hid (show n ≤ maxLen from Nat.le_trans h (by unfold maxLen; omega))
  clear i1 j1 i2 j2 i3 j3
  go_wp2
  refine name_world fun W hW => ?_
  rw [← hW] at s0 hr1 hr2 hr3 hx1 h1 h2 h3 G
  clear hW
  clear s0c0 s0f0 s0c1 s0f1
  have s0c0 := s0.cell 0 _ rfl
  have s0f0 := s0.free 0 _ rfl
  have s0c1 := s0.cell 1 _ rfl
  have s0f1 := s0.free 1 _ rfl
  have zs0 := s0.lt
  have w1 : IntKind.i64.wrap (4 + (n : Int)) = (n : Int) + 4 := by rw [IntWalk.i64_in _ (by omega)]; omega
  have w2 : IntKind.i64.wrap ((n : Int) + 4 - 2) = (n : Int) + 2 := by rw [IntWalk.i64_in _ (by omega)]; omega
  have w3 : IntKind.i64.wrap ((n : Int) + 2 - 0) = (n : Int) + 2 := by rw [IntWalk.i64_in _ (by omega)]; omega
  (refine wp_region_all (by kernel_rfl) (by kernel_rfl) ?_; simp only [List.map_cons, List.map_nil])
  (repeat (first | (refine wpF_val (v := ?_) (by rfl) (fun ys wx N hG hN => ?_) ?_; rotate_left; simp only [actS, fillS]; (have hGc := bcell hG); (have hGd := acell hG); go_simp; (try go_bits); exact hN _ (Gr.refl _); rotate_left; simp only [putS, addS, List.set_cons_zero, List.set_cons_succ]) | (refine wpF_skip way_gr (by rfl) ?_; simp only [putS, addS, List.set_cons_zero, List.set_cons_succ])))
  (refine wpF_val (v := ?_) (by rfl) (fun ys wx N hG hN => ?_) ?_; rotate_left; simp only [actS, fillS]; (have hGc := bcell hG); (have hGd := acell hG); go_simp; (try go_bits); refine (ref_same B1 A n n (c1 - 4) c xs xs _ (hr1.gr hG) (hx1.gr hG) H0.out H0.out).mono ?_; rw [decide_eq_true (rfl : xs = xs)]; rintro e w5 ⟨rfl, hb5⟩; have hbq := Qt.gr (by assumption); refine ⟨_, rfl, ?_⟩; exact hN _ hbq; rotate_left; simp only [putS, addS, List.set_cons_zero, List.set_cons_succ])
  (repeat (first | (refine wpF_val (v := ?_) (by rfl) (fun ys wx N hG hN => ?_) ?_; rotate_left; simp only [actS, fillS]; (have hGc := bcell hG); (have hGd := acell hG); go_simp; (try go_bits); exact hN _ (Gr.refl _); rotate_left; simp only [putS, addS, List.set_cons_zero, List.set_cons_succ]) | (refine wpF_skip way_gr (by rfl) ?_; simp only [putS, addS, List.set_cons_zero, List.set_cons_succ])))
  (refine wpF_val (v := ?_) (by rfl) (fun ys wx N hG hN => ?_) ?_; rotate_left; simp only [actS, fillS]; (have hGc := bcell hG); (have hGd := acell hG); go_simp; (try go_bits); refine (ref_same B2 A2 (n + 2) (n + 2) (c1 - 2) c2 R2 R2 _ (hr2.gr hG) (h2.gr hG) I2.out I2.out).mono ?_; rw [decide_eq_true (rfl : R2 = R2)]; rintro e w5 ⟨rfl, hb5⟩; have hbq := Qt.gr (by assumption); refine ⟨_, rfl, ?_⟩; exact hN _ hbq; rotate_left; simp only [putS, addS, List.set_cons_zero, List.set_cons_succ])
  (repeat (first | (refine wpF_val (v := ?_) (by rfl) (fun ys wx N hG hN => ?_) ?_; rotate_left; simp only [actS, fillS]; (have hGc := bcell hG); (have hGd := acell hG); go_simp; (try go_bits); exact hN _ (Gr.refl _); rotate_left; simp only [putS, addS, List.set_cons_zero, List.set_cons_succ]) | (refine wpF_skip way_gr (by rfl) ?_; simp only [putS, addS, List.set_cons_zero, List.set_cons_succ])))
  (refine wpF_val (v := ?_) (by rfl) (fun ys wx N hG hN => ?_) ?_; rotate_left; simp only [actS, fillS]; (have hGc := bcell hG); (have hGd := acell hG); go_simp; (try go_bits); refine (ref_same B3 A n n (c3 - 2) c xs xs _ (hr3.gr hG) (hx1.gr hG) H0.out H0.out).mono ?_; rw [decide_eq_true (rfl : xs = xs)]; rintro e w5 ⟨rfl, hb5⟩; have hbq := Qt.gr (by assumption); refine ⟨_, rfl, ?_⟩; exact hN _ hbq; rotate_left; simp only [putS, addS, List.set_cons_zero, List.set_cons_succ])
  (repeat (first | (refine wpF_val (v := ?_) (by rfl) (fun ys wx N hG hN => ?_) ?_; rotate_left; simp only [actS, fillS]; (have hGc := bcell hG); (have hGd := acell hG); go_simp; (try go_bits); exact hN _ (Gr.refl _); rotate_left; simp only [putS, addS, List.set_cons_zero, List.set_cons_succ]) | (refine wpF_skip way_gr (by rfl) ?_; simp only [putS, addS, List.set_cons_zero, List.set_cons_succ])))
  (refine wpF_val (v := ?_) (by rfl) (fun ys wx N hG hN => ?_) ?_; rotate_left; simp only [actS, fillS]; (have hGc := bcell hG); (have hGd := acell hG); go_simp; (try go_bits); refine (alive20 _).mono ?_; rintro e w5 ⟨rfl, hb5⟩; refine ⟨_, rfl, ?_⟩; exact hN _ (by assumption); rotate_left; simp only [putS, addS, List.set_cons_zero, List.set_cons_succ])
  (repeat (first | (refine wpF_val (v := ?_) (by rfl) (fun ys wx N hG hN => ?_) ?_; rotate_left; simp only [actS, fillS]; (have hGc := bcell hG); (have hGd := acell hG); go_simp; (try go_bits); exact hN _ (Gr.refl _); rotate_left; simp only [putS, addS, List.set_cons_zero, List.set_cons_succ]) | (refine wpF_skip way_gr (by rfl) ?_; simp only [putS, addS, List.set_cons_zero, List.set_cons_succ])))
  (refine wpF_end (fun ys wz hG _ _ => ?_); simp only [actS, fillS])
  go_wp2
  go_ret
  exact ⟨rfl, G.trans hG⟩
theorem law20_short (p : Nat) (A : Option Addr) (n c : Nat) (xs : List UInt8) (w : World) (hp : p < 65536) (hx : RB w A n xs) (hnc : n ≤ c) (hcm : c ≤ maxLen) :
    Calls Try.prog 6 #[.agg #[.int .u16 p, .slice A n c]] w fun e w' => e = .returned (.bool true) ∧ Gr w w' := by
  rcases Nat.lt_or_ge 4000 n with h | h
  · exact law20_short_long p A n c xs w hp hx hnc hcm h
  · cases hpr : protoB p with
    | false => exact law20_short_none p A n c xs w hp hx hnc hcm h hpr
    | true =>
      by_cases hq : p < 256
      · exact law20_short_lt p A n c xs w hp hx hnc hcm h hpr hq
      · exact law20_short_ge p A n c xs w hp hx hnc hcm h hpr hq
end Go.Proofs.Ytecnclcendcfmaa
