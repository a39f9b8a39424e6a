/-
  Frames that are laid: the law.
-/
import Derived.Test.YtecnclcendcfmaaLaw20
namespace Go.Proofs.Ytecnclcendcfmaa
set_option maxRecDepth 100000
open Go.RowKit
set_option linter.unusedVariables false
set_option linter.unusedSimpArgs false

set_option maxHeartbeats 4000000 in
theorem law20_lays (p : Nat) (A : Option Addr) (n c : Nat) (xs : List UInt8) (bare short : Bool) (w : World) (hp : p < 65536) (hx : RB w A n xs) (hnc : n ≤ c) (hcm : c ≤ maxLen) :
    Calls Try.prog 4 #[.agg #[.int .u16 p, .slice A n c], .bool bare, .bool short] w fun e w' => e = .returned (.bool true) ∧ Gr w w' := by
  have s0 := StA.new w [.int .u16 p, .slice A n c] 36
  have g0 := gr_alloc (Gr.refl w) (.cells [Value.int .u16 p, .slice A n c].toArray 36)
  have hx1 := hx.gr g0
  clear hx
  have s0c0 := s0.cell 0 _ rfl
  have s0f0 := s0.free 0 _ rfl
  have s0c1 := s0.cell 1 _ rfl
  have s0f1 := s0.free 1 _ rfl
  rcases Nat.lt_or_ge 4500 n with h1 | h1
  · have h1' : (4500 : Int) < (n : Int) := by omega
    go_enter Try.func4, Try.ntmps4
    go_wp2_with fail
    refine (alive20 _).mono ?_
    rintro e w1 ⟨rfl, hb1⟩
    go_wp2
    go_ret
    exact ⟨rfl, Gr.trans g0 hb1⟩
  have h1' : ¬ (4500 : Int) < (n : Int) := by omega
  obtain ⟨r, hr⟩ : ∃ r, r = layR p xs bare short := ⟨_, rfl⟩
  obtain ⟨er, her⟩ : ∃ er, er = layE p n := ⟨_, rfl⟩
  obtain ⟨P, hP⟩ : ∃ P, P = parseF r := ⟨_, rfl⟩
  obtain ⟨q, zs, es⟩ := P
  have hl := hx1.len
  have hcase : (er = 3 ∨ er = 8) ∨ (er = 0 ∧ q = p ∧ zs = xs ∧ es = 0) := by
    by_cases h : er = 0
    · right
      subst hr her
      unfold layE at h
      have hpr : protoB p = true := by
        cases hq : protoB p
        · rw [hq] at h; simp at h
        · rfl
      rw [hpr] at h
      have hn : n ≤ 4000 := by
        rcases Nat.lt_or_ge 4000 n with h2 | h2
        · rw [if_pos rfl, if_neg (by omega)] at h; omega
        · exact h2
      have e := parse_lay p xs bare short hp hpr (by omega)
      unfold layR at hP
      rw [if_pos ⟨hpr, by omega⟩, e] at hP
      have e1 := congrArg (·.1) hP
      have e2 := congrArg (·.2.1) hP
      have e3 := congrArg (·.2.2) hP
      exact ⟨by unfold layE; rw [if_pos hpr, if_pos hn], e1, e2, e3⟩
    · left
      subst her
      unfold layE at h ⊢
      cases h9 : protoB p <;> rw [h9] at h
      · exact .inl rfl
      · rcases Nat.lt_or_ge 4000 n with h8 | h8
        · rw [if_pos rfl, if_neg (by omega)]; exact .inr rfl
        · rw [if_pos rfl, if_pos (by omega)] at h; exact absurd rfl h
  have Hr := Lib.hid hr; clear hr
  have Her := Lib.hid her; clear her
  have HP := Lib.hid hP; clear hP
  go_enter Try.func4, Try.ntmps4
  go_wp2_with fail
  refine (theirs20 p A n c _).mono ?_
  rintro e w1 ⟨rfl, hb1⟩
  replace s0 := s0.gr hb1
  replace hx1 := hx1.gr hb1
  have G := Gr.trans g0 hb1
  clear hb1 g0 s0c0 s0c1 s0f0 s0f1
  have s0c0 := s0.cell 0 _ rfl
  have s0f0 := s0.free 0 _ rfl
  have s0c1 := s0.cell 1 _ rfl
  have s0f1 := s0.free 1 _ rfl
  go_wp2_with fail
  refine (pppf_lay_all p A n c xs bare short _ hp hx1 hnc).mono ?_
  rw [← Hr.out, ← Her.out]
  rintro e w2 ⟨A1, n1, c1, rfl, h11, h12, h13, hb2⟩
  replace s0 := s0.gr hb2
  replace hx1 := hx1.gr hb2
  replace G := Gr.trans G hb2
  clear s0c0 s0f0 s0c1 s0f1
  clear hb2
  have s0c0 := s0.cell 0 _ rfl
  have s0f0 := s0.free 0 _ rfl
  have s0c1 := s0.cell 1 _ rfl
  have s0f1 := s0.free 1 _ rfl
  dsimp only
  go_wp2_with fail
  refine (ref20_lay_all p A n c xs bare short _ hp hx1 hnc).mono ?_
  rw [← Hr.out, ← Her.out]
  rintro e w3 ⟨A2, n2, c2, rfl, h21, h22, h23, hb3⟩
  replace s0 := s0.gr hb3
  replace hx1 := hx1.gr hb3
  replace h13 := h13.gr hb3
  replace G := Gr.trans G hb3
  clear s0c0 s0f0 s0c1 s0f1
  clear hb3
  dsimp only
  go_wp2_with fail
  refine (pppf_parse _ _ _ _ _ h13 h11 h12).mono ?_
  rw [← HP.out]
  rintro e w4 ⟨A3, n3, c3, rfl, h31, h32, h33, hb4⟩
  dsimp only
  have x := StA.new w4 [.int .u16 q, .slice A3 n3 c3] 39
  have gy := gr_alloc (Gr.refl w4) (.cells [Value.int .u16 q, .slice A3 n3 c3].toArray 39)
  have gm := hb4.trans gy
  replace s0 := s0.gr gm
  replace hx1 := hx1.gr gm
  replace h13 := h13.gr gm
  replace h23 := h23.gr gm
  replace h33 := h33.gr gy
  replace G := Gr.trans G gm
  clear gm gy hb4
  go_upto_region 6 with fail
  refine name_world fun W hW => ?_
  rw [← hW] at s0 x h13 h23 h33 hx1 G
  clear hW
  have s0c0 := s0.cell 0 _ rfl
  have s0f0 := s0.free 0 _ rfl
  have s0c1 := s0.cell 1 _ rfl
  have s0f1 := s0.free 1 _ rfl
  have xc0 := x.cell 0 _ rfl
  have xf0 := x.free 0 _ rfl
  have xc1 := x.cell 1 _ rfl
  have xf1 := x.free 1 _ rfl
  obtain ⟨kb, hkb⟩ : ∃ kb, kb = knownB p := ⟨_, rfl⟩
  have Hkb := Lib.hid hkb; clear hkb
  go_cut [13] (fun s wx => s = .bool kb ∧ wx = W)
  case first =>
    have hk := Hkb.out
    clear Hkb hcase
    by_cases k1 : p = 33
    · subst k1
      obtain rfl : kb = true := hk
      go_wp2
      go_meet
      exact ⟨rfl, rfl⟩
    by_cases k2 : p = 32801
    · subst k2
      obtain rfl : kb = true := hk
      go_wp2
      go_meet
      exact ⟨rfl, rfl⟩
    by_cases k3 : p = 49185
    · subst k3
      obtain rfl : kb = true := hk
      go_wp2
      go_meet
      exact ⟨rfl, rfl⟩
    by_cases k4 : p = 49699
    · subst k4
      obtain rfl : kb = true := hk
      go_wp2
      go_meet
      exact ⟨rfl, rfl⟩
    have hk' : kb = false := by rw [hk]; unfold knownB; simp [k1, k2, k3, k4]
    subst hk'
    clear hk
    have k1' : ((p : Int) == 33) = false := by simp; omega
    have k2' : ((p : Int) == 32801) = false := by simp; omega
    have k3' : ((p : Int) == 49185) = false := by simp; omega
    have k4' : ((p : Int) == 49699) = false := by simp; omega
    clear k1 k2 k3 k4
    go_wp2
    go_meet
    exact ⟨rfl, rfl⟩
  case rest =>
    obtain ⟨rfl, hwc⟩ := hcut
    obtain rfl : W = wc := hwc.symm
    have zs0 := s0.lt
    have zx := x.lt
    obtain ⟨pb, hpb⟩ : ∃ pb, protoB p = pb := ⟨_, rfl⟩
    have Hpb := Lib.hid hpb; clear hpb
    have H1 := Lib.hid (Nat.le_trans h11 h12)
    have H2 := Lib.hid (Nat.le_trans h21 h22)
    clear h11 h21 h31
    rcases hcase with (rfl | rfl) | ⟨rfl, rfl, rfl, rfl⟩
    · go_wp2
      (refine wp_region_all (by kernel_rfl) (by kernel_rfl) ?_; simp only [List.map_cons, List.map_nil])
      (repeat (first | (refine wpF_val (v := ?_) (by rfl) (fun ys wx N hG hN => ?_) ?_; rotate_left; simp only [actS, fillS]; (have hGc := bcell hG); (have hGd := acell hG); go_simp; (try go_bits); exact hN _ (Gr.refl _); rotate_left; simp only [putS, addS, List.set_cons_zero, List.set_cons_succ]) | (refine wpF_skip way_gr (by rfl) ?_; simp only [putS, addS, List.set_cons_zero, List.set_cons_succ])))
      (refine wpF_val (v := ?_) (by rfl) (fun ys wx N hG hN => ?_) ?_; rotate_left; simp only [actS, fillS]; (have hGc := bcell hG); (have hGd := acell hG); go_simp; (try go_bits); refine (ref_same A1 A2 n1 n2 c1 c2 r r _ (h13.gr hG) (h23.gr hG) H1.out H2.out).mono ?_; rw [decide_eq_true (rfl : r = r)]; rintro e w5 ⟨rfl, hb5⟩; have hbq := Qt.gr (by assumption); refine ⟨_, rfl, ?_⟩; exact hN _ hbq; rotate_left; simp only [putS, addS, List.set_cons_zero, List.set_cons_succ])
      (repeat (first | (refine wpF_val (v := ?_) (by rfl) (fun ys wx N hG hN => ?_) ?_; rotate_left; simp only [actS, fillS]; (have hGc := bcell hG); (have hGd := acell hG); go_simp; (try go_bits); exact hN _ (Gr.refl _); rotate_left; simp only [putS, addS, List.set_cons_zero, List.set_cons_succ]) | (refine wpF_skip way_gr (by rfl) ?_; simp only [putS, addS, List.set_cons_zero, List.set_cons_succ])))
      (refine wpF_val (v := ?_) (by rfl) (fun ys wx N hG hN => ?_) ?_; rotate_left; simp only [actS, fillS]; (have hGc := bcell hG); (have hGd := acell hG); go_simp; (try go_bits); refine (pppf_may p _ hp).mono ?_; rw [Hpb.out]; rintro e w5 ⟨rfl, rfl⟩; refine ⟨_, rfl, ?_⟩; exact hN _ (Gr.refl _); rotate_left; simp only [putS, addS, List.set_cons_zero, List.set_cons_succ])
      (repeat (first | (refine wpF_val (v := ?_) (by rfl) (fun ys wx N hG hN => ?_) ?_; rotate_left; simp only [actS, fillS]; (have hGc := bcell hG); (have hGd := acell hG); go_simp; (try go_bits); exact hN _ (Gr.refl _); rotate_left; simp only [putS, addS, List.set_cons_zero, List.set_cons_succ]) | (refine wpF_skip way_gr (by rfl) ?_; simp only [putS, addS, List.set_cons_zero, List.set_cons_succ])))
      (refine wpF_val (v := ?_) (by rfl) (fun ys wx N hG hN => ?_) ?_; rotate_left; simp only [actS, fillS]; (have hGc := bcell hG); (have hGd := acell hG); go_simp; (try go_bits); refine (ref20_may p _ hp).mono ?_; rw [Hpb.out]; rintro e w5 ⟨rfl, rfl⟩; refine ⟨_, rfl, ?_⟩; exact hN _ (Gr.refl _); rotate_left; simp only [putS, addS, List.set_cons_zero, List.set_cons_succ])
      (repeat (first | (refine wpF_val (v := ?_) (by rfl) (fun ys wx N hG hN => ?_) ?_; rotate_left; simp only [actS, fillS]; (have hGc := bcell hG); (have hGd := acell hG); go_simp; (try go_bits); exact hN _ (Gr.refl _); rotate_left; simp only [putS, addS, List.set_cons_zero, List.set_cons_succ]) | (refine wpF_skip way_gr (by rfl) ?_; simp only [putS, addS, List.set_cons_zero, List.set_cons_succ])))
      (refine wpF_val (v := ?_) (by rfl) (fun ys wx N hG hN => ?_) ?_; rotate_left; simp only [actS, fillS]; (have hGc := bcell hG); (have hGd := acell hG); go_simp; (try go_bits); refine (pppf_known p _).mono ?_; rw [← Hkb.out]; rintro e w5 ⟨rfl, rfl⟩; refine ⟨_, rfl, ?_⟩; exact hN _ (Gr.refl _); rotate_left; simp only [putS, addS, List.set_cons_zero, List.set_cons_succ])
      (repeat (first | (refine wpF_val (v := ?_) (by rfl) (fun ys wx N hG hN => ?_) ?_; rotate_left; simp only [actS, fillS]; (have hGc := bcell hG); (have hGd := acell hG); go_simp; (try go_bits); exact hN _ (Gr.refl _); rotate_left; simp only [putS, addS, List.set_cons_zero, List.set_cons_succ]) | (refine wpF_skip way_gr (by rfl) ?_; simp only [putS, addS, List.set_cons_zero, List.set_cons_succ])))
      (refine wpF_val (v := ?_) (by rfl) (fun ys wx N hG hN => ?_) ?_; rotate_left; simp only [actS, fillS]; (have hGc := bcell hG); (have hGd := acell hG); go_simp; (try go_bits); refine (alive20 _).mono ?_; rintro e w5 ⟨rfl, hb5⟩; refine ⟨_, rfl, ?_⟩; exact hN _ (by assumption); rotate_left; simp only [putS, addS, List.set_cons_zero, List.set_cons_succ])
      (repeat (first | (refine wpF_val (v := ?_) (by rfl) (fun ys wx N hG hN => ?_) ?_; rotate_left; simp only [actS, fillS]; (have hGc := bcell hG); (have hGd := acell hG); go_simp; (try go_bits); exact hN _ (Gr.refl _); rotate_left; simp only [putS, addS, List.set_cons_zero, List.set_cons_succ]) | (refine wpF_skip way_gr (by rfl) ?_; simp only [putS, addS, List.set_cons_zero, List.set_cons_succ])))
      (refine wpF_end (fun ys wz hG _ _ => ?_); simp only [actS, fillS])
      go_wp2
      go_ret
      exact ⟨rfl, G.trans hG⟩
    · go_wp2
      (refine wp_region_all (by kernel_rfl) (by kernel_rfl) ?_; simp only [List.map_cons, List.map_nil])
      (repeat (first | (refine wpF_val (v := ?_) (by rfl) (fun ys wx N hG hN => ?_) ?_; rotate_left; simp only [actS, fillS]; (have hGc := bcell hG); (have hGd := acell hG); go_simp; (try go_bits); exact hN _ (Gr.refl _); rotate_left; simp only [putS, addS, List.set_cons_zero, List.set_cons_succ]) | (refine wpF_skip way_gr (by rfl) ?_; simp only [putS, addS, List.set_cons_zero, List.set_cons_succ])))
      (refine wpF_val (v := ?_) (by rfl) (fun ys wx N hG hN => ?_) ?_; rotate_left; simp only [actS, fillS]; (have hGc := bcell hG); (have hGd := acell hG); go_simp; (try go_bits); refine (ref_same A1 A2 n1 n2 c1 c2 r r _ (h13.gr hG) (h23.gr hG) H1.out H2.out).mono ?_; rw [decide_eq_true (rfl : r = r)]; rintro e w5 ⟨rfl, hb5⟩; have hbq := Qt.gr (by assumption); refine ⟨_, rfl, ?_⟩; exact hN _ hbq; rotate_left; simp only [putS, addS, List.set_cons_zero, List.set_cons_succ])
      (repeat (first | (refine wpF_val (v := ?_) (by rfl) (fun ys wx N hG hN => ?_) ?_; rotate_left; simp only [actS, fillS]; (have hGc := bcell hG); (have hGd := acell hG); go_simp; (try go_bits); exact hN _ (Gr.refl _); rotate_left; simp only [putS, addS, List.set_cons_zero, List.set_cons_succ]) | (refine wpF_skip way_gr (by rfl) ?_; simp only [putS, addS, List.set_cons_zero, List.set_cons_succ])))
      (refine wpF_val (v := ?_) (by rfl) (fun ys wx N hG hN => ?_) ?_; rotate_left; simp only [actS, fillS]; (have hGc := bcell hG); (have hGd := acell hG); go_simp; (try go_bits); refine (pppf_may p _ hp).mono ?_; rw [Hpb.out]; rintro e w5 ⟨rfl, rfl⟩; refine ⟨_, rfl, ?_⟩; exact hN _ (Gr.refl _); rotate_left; simp only [putS, addS, List.set_cons_zero, List.set_cons_succ])
      (repeat (first | (refine wpF_val (v := ?_) (by rfl) (fun ys wx N hG hN => ?_) ?_; rotate_left; simp only [actS, fillS]; (have hGc := bcell hG); (have hGd := acell hG); go_simp; (try go_bits); exact hN _ (Gr.refl _); rotate_left; simp only [putS, addS, List.set_cons_zero, List.set_cons_succ]) | (refine wpF_skip way_gr (by rfl) ?_; simp only [putS, addS, List.set_cons_zero, List.set_cons_succ])))
      (refine wpF_val (v := ?_) (by rfl) (fun ys wx N hG hN => ?_) ?_; rotate_left; simp only [actS, fillS]; (have hGc := bcell hG); (have hGd := acell hG); go_simp; (try go_bits); refine (ref20_may p _ hp).mono ?_; rw [Hpb.out]; rintro e w5 ⟨rfl, rfl⟩; refine ⟨_, rfl, ?_⟩; exact hN _ (Gr.refl _); rotate_left; simp only [putS, addS, List.set_cons_zero, List.set_cons_succ])
      (repeat (first | (refine wpF_val (v := ?_) (by rfl) (fun ys wx N hG hN => ?_) ?_; rotate_left; simp only [actS, fillS]; (have hGc := bcell hG); (have hGd := acell hG); go_simp; (try go_bits); exact hN _ (Gr.refl _); rotate_left; simp only [putS, addS, List.set_cons_zero, List.set_cons_succ]) | (refine wpF_skip way_gr (by rfl) ?_; simp only [putS, addS, List.set_cons_zero, List.set_cons_succ])))
      (refine wpF_val (v := ?_) (by rfl) (fun ys wx N hG hN => ?_) ?_; rotate_left; simp only [actS, fillS]; (have hGc := bcell hG); (have hGd := acell hG); go_simp; (try go_bits); refine (pppf_known p _).mono ?_; rw [← Hkb.out]; rintro e w5 ⟨rfl, rfl⟩; refine ⟨_, rfl, ?_⟩; exact hN _ (Gr.refl _); rotate_left; simp only [putS, addS, List.set_cons_zero, List.set_cons_succ])
      (repeat (first | (refine wpF_val (v := ?_) (by rfl) (fun ys wx N hG hN => ?_) ?_; rotate_left; simp only [actS, fillS]; (have hGc := bcell hG); (have hGd := acell hG); go_simp; (try go_bits); exact hN _ (Gr.refl _); rotate_left; simp only [putS, addS, List.set_cons_zero, List.set_cons_succ]) | (refine wpF_skip way_gr (by rfl) ?_; simp only [putS, addS, List.set_cons_zero, List.set_cons_succ])))
      (refine wpF_val (v := ?_) (by rfl) (fun ys wx N hG hN => ?_) ?_; rotate_left; simp only [actS, fillS]; (have hGc := bcell hG); (have hGd := acell hG); go_simp; (try go_bits); refine (alive20 _).mono ?_; rintro e w5 ⟨rfl, hb5⟩; refine ⟨_, rfl, ?_⟩; exact hN _ (by assumption); rotate_left; simp only [putS, addS, List.set_cons_zero, List.set_cons_succ])
      (repeat (first | (refine wpF_val (v := ?_) (by rfl) (fun ys wx N hG hN => ?_) ?_; rotate_left; simp only [actS, fillS]; (have hGc := bcell hG); (have hGd := acell hG); go_simp; (try go_bits); exact hN _ (Gr.refl _); rotate_left; simp only [putS, addS, List.set_cons_zero, List.set_cons_succ]) | (refine wpF_skip way_gr (by rfl) ?_; simp only [putS, addS, List.set_cons_zero, List.set_cons_succ])))
      (refine wpF_end (fun ys wz hG _ _ => ?_); simp only [actS, fillS])
      go_wp2
      go_ret
      exact ⟨rfl, G.trans hG⟩
    · go_wp2
      (refine wp_region_all (by kernel_rfl) (by kernel_rfl) ?_; simp only [List.map_cons, List.map_nil])
      (repeat (first | (refine wpF_val (v := ?_) (by rfl) (fun ys wx N hG hN => ?_) ?_; rotate_left; simp only [actS, fillS]; (have hGc := bcell hG); (have hGd := acell hG); go_simp; (try go_bits); exact hN _ (Gr.refl _); rotate_left; simp only [putS, addS, List.set_cons_zero, List.set_cons_succ]) | (refine wpF_skip way_gr (by rfl) ?_; simp only [putS, addS, List.set_cons_zero, List.set_cons_succ])))
      (refine wpF_val (v := ?_) (by rfl) (fun ys wx N hG hN => ?_) ?_; rotate_left; simp only [actS, fillS]; (have hGc := bcell hG); (have hGd := acell hG); go_simp; (try go_bits); refine (ref_same A1 A2 n1 n2 c1 c2 r r _ (h13.gr hG) (h23.gr hG) H1.out H2.out).mono ?_; rw [decide_eq_true (rfl : r = r)]; rintro e w5 ⟨rfl, hb5⟩; have hbq := Qt.gr (by assumption); refine ⟨_, rfl, ?_⟩; exact hN _ hbq; rotate_left; simp only [putS, addS, List.set_cons_zero, List.set_cons_succ])
      (repeat (first | (refine wpF_val (v := ?_) (by rfl) (fun ys wx N hG hN => ?_) ?_; rotate_left; simp only [actS, fillS]; (have hGc := bcell hG); (have hGd := acell hG); go_simp; (try go_bits); exact hN _ (Gr.refl _); rotate_left; simp only [putS, addS, List.set_cons_zero, List.set_cons_succ]) | (refine wpF_skip way_gr (by rfl) ?_; simp only [putS, addS, List.set_cons_zero, List.set_cons_succ])))
      (refine wpF_val (v := ?_) (by rfl) (fun ys wx N hG hN => ?_) ?_; rotate_left; simp only [actS, fillS]; (have hGc := bcell hG); (have hGd := acell hG); go_simp; (try go_bits); refine (pppf_may q _ hp).mono ?_; rw [Hpb.out]; rintro e w5 ⟨rfl, rfl⟩; refine ⟨_, rfl, ?_⟩; exact hN _ (Gr.refl _); rotate_left; simp only [putS, addS, List.set_cons_zero, List.set_cons_succ])
      (repeat (first | (refine wpF_val (v := ?_) (by rfl) (fun ys wx N hG hN => ?_) ?_; rotate_left; simp only [actS, fillS]; (have hGc := bcell hG); (have hGd := acell hG); go_simp; (try go_bits); exact hN _ (Gr.refl _); rotate_left; simp only [putS, addS, List.set_cons_zero, List.set_cons_succ]) | (refine wpF_skip way_gr (by rfl) ?_; simp only [putS, addS, List.set_cons_zero, List.set_cons_succ])))
      (refine wpF_val (v := ?_) (by rfl) (fun ys wx N hG hN => ?_) ?_; rotate_left; simp only [actS, fillS]; (have hGc := bcell hG); (have hGd := acell hG); go_simp; (try go_bits); refine (ref20_may q _ hp).mono ?_; rw [Hpb.out]; rintro e w5 ⟨rfl, rfl⟩; refine ⟨_, rfl, ?_⟩; exact hN _ (Gr.refl _); rotate_left; simp only [putS, addS, List.set_cons_zero, List.set_cons_succ])
      (repeat (first | (refine wpF_val (v := ?_) (by rfl) (fun ys wx N hG hN => ?_) ?_; rotate_left; simp only [actS, fillS]; (have hGc := bcell hG); (have hGd := acell hG); go_simp; (try go_bits); exact hN _ (Gr.refl _); rotate_left; simp only [putS, addS, List.set_cons_zero, List.set_cons_succ]) | (refine wpF_skip way_gr (by rfl) ?_; simp only [putS, addS, List.set_cons_zero, List.set_cons_succ])))
      (refine wpF_val (v := ?_) (by rfl) (fun ys wx N hG hN => ?_) ?_; rotate_left; simp only [actS, fillS]; (have hGc := bcell hG); (have hGd := acell hG); go_simp; (try go_bits); refine (pppf_known q _).mono ?_; rw [← Hkb.out]; rintro e w5 ⟨rfl, rfl⟩; refine ⟨_, rfl, ?_⟩; exact hN _ (Gr.refl _); rotate_left; simp only [putS, addS, List.set_cons_zero, List.set_cons_succ])
      (repeat (first | (refine wpF_val (v := ?_) (by rfl) (fun ys wx N hG hN => ?_) ?_; rotate_left; simp only [actS, fillS]; (have hGc := bcell hG); (have hGd := acell hG); go_simp; (try go_bits); exact hN _ (Gr.refl _); rotate_left; simp only [putS, addS, List.set_cons_zero, List.set_cons_succ]) | (refine wpF_skip way_gr (by rfl) ?_; simp only [putS, addS, List.set_cons_zero, List.set_cons_succ])))
      (refine wpF_val (v := ?_) (by rfl) (fun ys wx N hG hN => ?_) ?_; rotate_left; simp only [actS, fillS]; (have hGc := bcell hG); (have hGd := acell hG); go_simp; (try go_bits); refine (theirs20 q A n c _).mono ?_; rintro e w5 ⟨rfl, hb5⟩; refine ⟨_, rfl, ?_⟩; exact hN _ (by assumption); rotate_left; simp only [putS, addS, List.set_cons_zero, List.set_cons_succ])
      (repeat (first | (refine wpF_val (v := ?_) (by rfl) (fun ys wx N hG hN => ?_) ?_; rotate_left; simp only [actS, fillS]; (have hGc := bcell hG); (have hGd := acell hG); go_simp; (try go_bits); exact hN _ (Gr.refl _); rotate_left; simp only [putS, addS, List.set_cons_zero, List.set_cons_succ]) | (refine wpF_skip way_gr (by rfl) ?_; simp only [putS, addS, List.set_cons_zero, List.set_cons_succ])))
      (refine wpF_val (v := ?_) (by rfl) (fun ys wx N hG hN => ?_) ?_; rotate_left; simp only [actS, fillS]; (have hGc := bcell hG); (have hGd := acell hG); go_simp; (try go_bits); refine (pppf_same q q A3 A n3 c3 n c zs zs _ (h33.gr hG) (hx1.gr hG)).mono ?_; rw [decide_eq_true (rfl : q = q), decide_eq_true (rfl : zs = zs), Bool.true_and]; rintro e w5 ⟨rfl, hb5⟩; refine ⟨_, rfl, ?_⟩; exact hN _ (by assumption); rotate_left; simp only [putS, addS, List.set_cons_zero, List.set_cons_succ])
      (repeat (first | (refine wpF_val (v := ?_) (by rfl) (fun ys wx N hG hN => ?_) ?_; rotate_left; simp only [actS, fillS]; (have hGc := bcell hG); (have hGd := acell hG); go_simp; (try go_bits); exact hN _ (Gr.refl _); rotate_left; simp only [putS, addS, List.set_cons_zero, List.set_cons_succ]) | (refine wpF_skip way_gr (by rfl) ?_; simp only [putS, addS, List.set_cons_zero, List.set_cons_succ])))
      (refine wpF_val (v := ?_) (by rfl) (fun ys wx N hG hN => ?_) ?_; rotate_left; simp only [actS, fillS]; (have hGc := bcell hG); (have hGd := acell hG); go_simp; (try go_bits); refine (alive20 _).mono ?_; rintro e w5 ⟨rfl, hb5⟩; refine ⟨_, rfl, ?_⟩; exact hN _ (by assumption); rotate_left; simp only [putS, addS, List.set_cons_zero, List.set_cons_succ])
      (repeat (first | (refine wpF_val (v := ?_) (by rfl) (fun ys wx N hG hN => ?_) ?_; rotate_left; simp only [actS, fillS]; (have hGc := bcell hG); (have hGd := acell hG); go_simp; (try go_bits); exact hN _ (Gr.refl _); rotate_left; simp only [putS, addS, List.set_cons_zero, List.set_cons_succ]) | (refine wpF_skip way_gr (by rfl) ?_; simp only [putS, addS, List.set_cons_zero, List.set_cons_succ])))
      (refine wpF_end (fun ys wz hG _ _ => ?_); simp only [actS, fillS])
      go_wp2
      go_ret
      exact ⟨rfl, G.trans hG⟩
end Go.Proofs.Ytecnclcendcfmaa
