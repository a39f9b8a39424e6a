/-
  Frames that are parsed: the law.
-/
import Derived.Test.YtecnclcendcfmaaLaw20
namespace Go.Proofs.Ytecnclcendcfmaa
set_option maxRecDepth 100000
open Go.RowKit
set_option linter.unusedVariables false
set_option linter.unusedSimpArgs false

set_option maxHeartbeats 4000000 in
theorem law20_parses (A : Option Addr) (n c : Nat) (xs : List UInt8) (q : Nat) (B : Option Addr) (m d : Nat) (qs : List UInt8) (w : World) (hx : RB w A n xs) (hnc : n ≤ c) (hcm : c ≤ maxLen) (hy : RB w B m qs) (hmd : m ≤ d) (hdm : d ≤ maxLen) :
    Calls Try.prog 5 #[.slice A n c, .agg #[.int .u16 q, .slice B m d]] w fun e w' => e = .returned (.bool true) ∧ Gr w w' := by
  obtain ⟨P, hP⟩ : ∃ P, P = parseF xs := ⟨_, rfl⟩
  obtain ⟨p, zs, er⟩ := P
  have HP := Lib.hid hP; clear hP
  obtain ⟨sb, hsb⟩ : ∃ sb, sb = (decide (p = q) && decide (zs = qs)) := ⟨_, rfl⟩
  have Hsb := Lib.hid hsb; clear hsb
  have Hcm := Lib.hid hcm; clear hcm
  have Hdm := Lib.hid hdm; clear hdm
  have s0 := StA.new w [.int .u16 q, .slice B m d] 36
  have g0 := gr_alloc (Gr.refl w) (.cells [Value.int .u16 q, .slice B m d].toArray 36)
  have hx1 := hx.gr g0
  have hy1 := hy.gr g0
  clear hx hy
  rcases Nat.lt_or_ge 4500 n with h1 | h1
  · have h1' : (4500 : Int) < (n : Int) := by omega
    go_enter Try.func5, Try.ntmps5
    go_wp2_with fail
    refine (alive20 _).mono ?_
    rintro e w1 ⟨rfl, hb1⟩
    go_wp2
    go_ret
    exact ⟨rfl, Gr.trans g0 hb1⟩
  have h1' : ¬ (4500 : Int) < (n : Int) := by omega
  have s0c0 := s0.cell 0 _ rfl
  have s0f0 := s0.free 0 _ rfl
  have s0c1 := s0.cell 1 _ rfl
  have s0f1 := s0.free 1 _ rfl
  rcases Nat.lt_or_ge 4500 m with h2 | h2
  · have h2' : (4500 : Int) < (m : Int) := by omega
    go_enter Try.func5, Try.ntmps5
    go_wp2_with fail
    refine (alive20 _).mono ?_
    rintro e w1 ⟨rfl, hb1⟩
    go_wp2
    go_ret
    exact ⟨rfl, Gr.trans g0 hb1⟩
  have h2' : ¬ (4500 : Int) < (m : Int) := by omega
  go_enter Try.func5, Try.ntmps5
  go_wp2_with fail
  refine (pppf_parse _ _ _ _ _ hx1 hnc Hcm.out).mono ?_
  rw [← HP.out]
  rintro e w1 ⟨A1, n1, c1, rfl, h11, h12, h13, hb1⟩
  dsimp only
  have x := StA.new w1 [.int .u16 p, .slice A1 n1 c1] 39
  have gx := gr_alloc (Gr.refl w1) (.cells [Value.int .u16 p, .slice A1 n1 c1].toArray 39)
  have gm := hb1.trans gx
  replace s0 := s0.gr gm
  replace hx1 := hx1.gr gm
  replace hy1 := hy1.gr gm
  replace h13 := h13.gr gx
  have G := Gr.trans g0 gm
  clear gm gx g0 hb1 s0c0 s0c1 s0f0 s0f1
  go_wp2_with fail
  refine (ref20_parse _ _ _ _ _ hx1 hnc Hcm.out).mono ?_
  rw [← HP.out]
  rintro e w2 ⟨A2, n2, c2, rfl, h21, h22, h23, hb2⟩
  dsimp only
  have y := StA.new w2 [.int .u16 p, .slice A2 n2 c2] 36
  have gm := hb2.trans (gr_alloc (Gr.refl w2) (.cells [Value.int .u16 p, .slice A2 n2 c2].toArray 36))
  have gy := gr_alloc (Gr.refl w2) (.cells [Value.int .u16 p, .slice A2 n2 c2].toArray 36)
  replace s0 := s0.gr gm
  replace x := x.gr gm
  replace hy1 := hy1.gr gm
  replace h13 := h13.gr gm
  replace h23 := h23.gr gy
  replace G := Gr.trans G gm
  clear gm gy hb2 hx1
  go_wp2
  refine name_world fun W hW => ?_
  rw [← hW] at s0 x y h13 h23 hy1 G
  clear hW
  have s0c0 := s0.cell 0 _ rfl
  have s0f0 := s0.free 0 _ rfl
  have s0c1 := s0.cell 1 _ rfl
  have s0f1 := s0.free 1 _ rfl
  have xc0 := x.cell 0 _ rfl
  have xf0 := x.free 0 _ rfl
  have xc1 := x.cell 1 _ rfl
  have xf1 := x.free 1 _ rfl
  have yc0 := y.cell 0 _ rfl
  have yf0 := y.free 0 _ rfl
  have yc1 := y.cell 1 _ rfl
  have yf1 := y.free 1 _ rfl
  have zs0 := s0.lt
  have zx := x.lt
  have zy := y.lt
  have et : (decide (p = p) && decide (zs = zs)) = true := by simp
  (refine wp_region_all (by kernel_rfl) (by kernel_rfl) ?_; simp only [List.map_cons, List.map_nil])
  (repeat (first | (refine wpF_val (v := ?_) (by rfl) (fun ys wx N hG hN => ?_) ?_; rotate_left; simp only [actS, fillS]; (have hGc := bcell hG); (have hGd := acell hG); go_simp; (try go_bits); exact hN _ (Gr.refl _); rotate_left; simp only [putS, addS, List.set_cons_zero, List.set_cons_succ]) | (refine wpF_skip way_gr (by rfl) ?_; simp only [putS, addS, List.set_cons_zero, List.set_cons_succ])))
  (refine wpF_val (v := ?_) (by rfl) (fun ys wx N hG hN => ?_) ?_; rotate_left; simp only [actS, fillS]; (have hGc := bcell hG); (have hGd := acell hG); go_simp; (try go_bits); refine (theirs20 p A2 n2 c2 _).mono ?_; rintro e w3 ⟨rfl, hb3⟩; refine ⟨_, rfl, ?_⟩; exact hN _ (by assumption); rotate_left; simp only [putS, addS, List.set_cons_zero, List.set_cons_succ])
  (repeat (first | (refine wpF_val (v := ?_) (by rfl) (fun ys wx N hG hN => ?_) ?_; rotate_left; simp only [actS, fillS]; (have hGc := bcell hG); (have hGd := acell hG); go_simp; (try go_bits); exact hN _ (Gr.refl _); rotate_left; simp only [putS, addS, List.set_cons_zero, List.set_cons_succ]) | (refine wpF_skip way_gr (by rfl) ?_; simp only [putS, addS, List.set_cons_zero, List.set_cons_succ])))
  (refine wpF_val (v := ?_) (by rfl) (fun ys wx N hG hN => ?_) ?_; rotate_left; simp only [actS, fillS]; (have hGc := bcell hG); (have hGd := acell hG); go_simp; (try go_bits); refine (pppf_same p p A1 A2 n1 c1 n2 c2 zs zs _ (h13.gr hG) (h23.gr hG)).mono ?_; rw [et]; rintro e w3 ⟨rfl, hb3⟩; refine ⟨_, rfl, ?_⟩; exact hN _ (by assumption); rotate_left; simp only [putS, addS, List.set_cons_zero, List.set_cons_succ])
  (repeat (first | (refine wpF_val (v := ?_) (by rfl) (fun ys wx N hG hN => ?_) ?_; rotate_left; simp only [actS, fillS]; (have hGc := bcell hG); (have hGd := acell hG); go_simp; (try go_bits); exact hN _ (Gr.refl _); rotate_left; simp only [putS, addS, List.set_cons_zero, List.set_cons_succ]) | (refine wpF_skip way_gr (by rfl) ?_; simp only [putS, addS, List.set_cons_zero, List.set_cons_succ])))
  (refine wpF_val (v := ?_) (by rfl) (fun ys wx N hG hN => ?_) ?_; rotate_left; simp only [actS, fillS]; (have hGc := bcell hG); (have hGd := acell hG); go_simp; (try go_bits); refine (theirs20 q B m d _).mono ?_; rintro e w3 ⟨rfl, hb3⟩; refine ⟨_, rfl, ?_⟩; exact hN _ (by assumption); rotate_left; simp only [putS, addS, List.set_cons_zero, List.set_cons_succ])
  (repeat (first | (refine wpF_val (v := ?_) (by rfl) (fun ys wx N hG hN => ?_) ?_; rotate_left; simp only [actS, fillS]; (have hGc := bcell hG); (have hGd := acell hG); go_simp; (try go_bits); exact hN _ (Gr.refl _); rotate_left; simp only [putS, addS, List.set_cons_zero, List.set_cons_succ]) | (refine wpF_skip way_gr (by rfl) ?_; simp only [putS, addS, List.set_cons_zero, List.set_cons_succ])))
  (refine wpF_val (v := ?_) (by rfl) (fun ys wx N hG hN => ?_) ?_; rotate_left; simp only [actS, fillS]; (have hGc := bcell hG); (have hGd := acell hG); go_simp; (try go_bits); refine (pppf_same p q A1 B n1 c1 m d zs qs _ (h13.gr hG) (hy1.gr hG)).mono ?_; rw [← Hsb.out]; rintro e w3 ⟨rfl, hb3⟩; refine ⟨_, rfl, ?_⟩; exact hN _ (by assumption); rotate_left; simp only [putS, addS, List.set_cons_zero, List.set_cons_succ])
  (repeat (first | (refine wpF_val (v := ?_) (by rfl) (fun ys wx N hG hN => ?_) ?_; rotate_left; simp only [actS, fillS]; (have hGc := bcell hG); (have hGd := acell hG); go_simp; (try go_bits); exact hN _ (Gr.refl _); rotate_left; simp only [putS, addS, List.set_cons_zero, List.set_cons_succ]) | (refine wpF_skip way_gr (by rfl) ?_; simp only [putS, addS, List.set_cons_zero, List.set_cons_succ])))
  (refine wpF_val (v := ?_) (by rfl) (fun ys wx N hG hN => ?_) ?_; rotate_left; simp only [actS, fillS]; (have hGc := bcell hG); (have hGd := acell hG); go_simp; (try go_bits); refine (ref20_same p q A2 B n2 c2 m d zs qs _ (h23.gr hG) (hy1.gr hG) (by have := Hdm.out; omega) (by have := Hdm.out; omega)).mono ?_; rw [← Hsb.out]; rintro e w3 ⟨rfl, hb3⟩; refine ⟨_, rfl, ?_⟩; exact hN _ (by assumption); rotate_left; simp only [putS, addS, List.set_cons_zero, List.set_cons_succ])
  (repeat (first | (refine wpF_val (v := ?_) (by rfl) (fun ys wx N hG hN => ?_) ?_; rotate_left; simp only [actS, fillS]; (have hGc := bcell hG); (have hGd := acell hG); go_simp; (try go_bits); exact hN _ (Gr.refl _); rotate_left; simp only [putS, addS, List.set_cons_zero, List.set_cons_succ]) | (refine wpF_skip way_gr (by rfl) ?_; simp only [putS, addS, List.set_cons_zero, List.set_cons_succ])))
  (refine wpF_val (v := ?_) (by rfl) (fun ys wx N hG hN => ?_) ?_; rotate_left; simp only [actS, fillS]; (have hGc := bcell hG); (have hGd := acell hG); go_simp; (try go_bits); refine (alive20 _).mono ?_; rintro e w3 ⟨rfl, hb3⟩; refine ⟨_, rfl, ?_⟩; exact hN _ (by assumption); rotate_left; simp only [putS, addS, List.set_cons_zero, List.set_cons_succ])
  (repeat (first | (refine wpF_val (v := ?_) (by rfl) (fun ys wx N hG hN => ?_) ?_; rotate_left; simp only [actS, fillS]; (have hGc := bcell hG); (have hGd := acell hG); go_simp; (try go_bits); exact hN _ (Gr.refl _); rotate_left; simp only [putS, addS, List.set_cons_zero, List.set_cons_succ]) | (refine wpF_skip way_gr (by rfl) ?_; simp only [putS, addS, List.set_cons_zero, List.set_cons_succ])))
  (refine wpF_end (fun ys wz hG _ _ => ?_); simp only [actS, fillS])
  go_wp2
  go_ret
  exact ⟨rfl, G.trans hG⟩
end Go.Proofs.Ytecnclcendcfmaa
