/-
  Frames are parsed, by the document.
-/
import Derived.Test.YtecnclcendcfmaaPppf3
import Derived.Test.YtecnclcendcfmaaCut
import Derived.Deep.DeepCutAuto
namespace Go.Proofs.Ytecnclcendcfmaa
set_option maxRecDepth 100000
open Go.RowKit
set_option linter.unusedVariables false
set_option linter.unusedSimpArgs false

set_option maxHeartbeats 4000000 in
theorem ref20_parse (A : Option Addr) (n c : Nat) (xs : List UInt8) (w : World) (hx : RB w A n xs) (hnc : n ≤ c) (hcm : c ≤ maxLen) :
    Calls Try.prog 21 #[.slice A n c] w (RetF w (parseF xs)) := by
  obtain ⟨r, hr⟩ : ∃ r, r = parseF xs := ⟨_, rfl⟩
  rw [← hr]
  have HR := Lib.hid hr; clear hr
  have Hcm := Lib.hid hcm
  unfold maxLen at hcm
  have s0 := StA.new w [.int .u16 0, .slice none 0 0] 36
  have G0 := gr_alloc (Gr.refl w) (.cells [Value.int .u16 0, .slice none 0 0].toArray 36)
  have hx1 := hx.gr G0
  obtain ⟨B, hB⟩ : ∃ B, B = decide (xs.take 2 = [255, 3]) := ⟨_, rfl⟩
  have HB := Lib.hid hB; clear hB
  go_enter Try.func21, Try.ntmps21
  go_upto_region 1 with fail
  refine name_world fun W hW => ?_
  rw [← hW] at s0 G0 hx1
  clear hW
  go_cut [19] (fun s wx => s = .bool B ∧ wx = W)
  case first =>
    rcases Nat.lt_or_ge n 2 with h | h
    · have hB : B = false := by rw [HB.out]; have := hx.len; simp; intro e; have := congrArg List.length e; simp at this; omega
      subst hB
      have h' : ¬ 2 ≤ n := by omega
      go_wp2
      go_meet
      exact ⟨rfl, rfl⟩
    · obtain ⟨x, y, t, rfl⟩ : ∃ x y t, xs = x :: y :: t := by
        have := hx.len
        match xs, this with
        | [], e => simp at e; omega
        | [_], e => simp at e; omega
        | x :: y :: t, _ => exact ⟨x, y, t, rfl⟩
      obtain ⟨ad, rfl, had, hcell⟩ := hx1.2 (by omega)
      have d0 := hcell 0 x rfl
      have d1 := hcell 1 y rfl
      rw [show ad.add 0 = ad from rfl] at d0
      simp [Addr.add] at d1
      clear hcell
      have hn0 : (0 : Int) < (n : Int) := by omega
      have hn1 : (1 : Int) < (n : Int) := by omega
      by_cases ex : x = 255
      · subst ex
        by_cases ey : y = 3
        · subst ey
          have hB : B = true := by rw [HB.out]; simp
          subst hB
          go_wp2
          go_meet
          exact ⟨rfl, rfl⟩
        · have hB : B = false := by rw [HB.out]; simp [ey]
          subst hB
          have hy := u8_ne_eq ey
          rw [show ((3 : UInt8).toNat : Int) = 3 from rfl] at hy
          clear ey
          go_wp2
          go_meet
          exact ⟨rfl, rfl⟩
      · have hB : B = false := by rw [HB.out]; simp [ex]
        subst hB
        have hy := u8_ne_eq ex
        rw [show ((255 : UInt8).toNat : Int) = 255 from rfl] at hy
        clear ex
        go_wp2
        go_meet
        exact ⟨rfl, rfl⟩
  case rest =>
    obtain ⟨rfl, hwc⟩ := hcut
    obtain rfl : W = wc := hwc.symm
    obtain ⟨ss, hss⟩ : ∃ ss, ss = strip2 255 3 xs := ⟨_, rfl⟩
    have Hss := Lib.hid hss; clear hss
    go_upto_if 19 with fail
    go_cut [0] (fun s wx => ∃ A' n' c', s = .slice A' n' c' ∧ n' ≤ c' ∧ c' ≤ maxLen ∧ RB w A' n' ss ∧ wx = W)
    case first =>
      cases B with
      | true =>
        have h2 : xs.take 2 = [255, 3] := by simpa using HB.out.symm
        have hn2 : 2 ≤ n := by have := congrArg List.length h2; have := hx.len; simp at *; omega
        have hs : ss = xs.drop 2 := by rw [Hss.out]; unfold strip2; rw [if_pos h2]
        obtain ⟨A2, k1, k2, k3⟩ := cut_from A n c 2 2 rfl xs w hx hn2 hnc
        rw [← hs] at k3
        have K3 := Lib.hid k3; clear k3
        clear hs h2
        go_wp2
        go_meet
        exact ⟨A2, n - 2, c - 2, rfl, by omega, by simp only [maxLen]; omega, K3.out, rfl⟩
      | false =>
        have hs : ss = xs := by rw [Hss.out]; unfold strip2; rw [if_neg (by simpa using HB.out.symm)]
        subst hs
        go_wp2
        go_meet
        exact ⟨A, n, c, rfl, hnc, Hcm.out, hx, rfl⟩
    case rest =>
      obtain ⟨A', n', c', rfl, h1, h2, h3w, hwc⟩ := hcut
      have h3 := h3w.gr G0
      obtain rfl : W = wc := hwc.symm
      have HE := Lib.hid (show r = parseL ss by rw [HR.out, Hss.out]; rfl)
      clear HB Hss HR
      have H2 := Lib.hid h2
      unfold maxLen at h2
      have s0c0 := s0.cell 0 _ rfl
      have s0f0 := s0.free 0 _ rfl
      have s0c1 := s0.cell 1 _ rfl
      have s0f1 := s0.free 1 _ rfl
      match ss with
      | [] =>
        obtain rfl : n' = 0 := by have := h3.len; simpa using this.symm
        go_wp2
        refine name_post fun W hW => ?_
        have s : StA W w.heap.size [.int .u16 0, .slice none 0 0] := by rw [hW]; exact s0.set (us := [.int .u16 0, .slice none 0 0]) rfl
        have G : Gr w W := by rw [hW]; exact Below.trans G0 (setCells_below [.int .u16 0, .slice none 0 0] (Nat.le_refl _) s0.lt)
        skip
        clear hW
        have k0 := s.cell 0 _ rfl
        have k1 := s.cell 1 _ rfl
        refine bodyPost_ret (v := .tuple #[.agg #[.int .u16 0, .slice none 0 0], .int .i64 4]) (by simp [results, Try.results21, go_sem, k0, k1]) rfl (by rw [HE.out, show parseL [] = (0, [], 4) from rfl]; exact RetF.err 4 G)
      | x :: t =>
        have hlen := h3.len
        have hn' : 1 ≤ n' := by simp at hlen; omega
        have hrl : t.length = n' - 1 := by simp at hlen; omega
        have Hrl := Lib.hid hrl; clear hrl hlen
        obtain ⟨ad, rfl, had, hcell⟩ := h3.2 (by omega)
        have d0 := hcell 0 x rfl
        rw [show ad.add 0 = ad from rfl] at d0
        have hn0 : ¬ ((n' : Int) = 0) := by omega
        have hn1 : (0 : Int) < (n' : Int) := by omega
        have hn1' : 0 < n' := by omega
        obtain ⟨A1, k1, k2, k3⟩ := cut_from (some ad) n' c' 1 1 rfl (x :: t) w h3w hn' h1
        have K3 := Lib.hid k3; clear k3
        rw [List.drop_succ_cons, List.drop_zero] at K3
        go_wp2
        refine wp_region_facts 8 (by kernel_rfl) (by kernel_rfl) ?_
        simp only [List.take_succ_cons, List.take_zero, List.drop_succ_cons, List.drop_zero, List.map_cons, List.map_nil]
        (repeat (first | (refine wpF_val (v := ?_) (by rfl) (fun ys wx N hG hN => ?_) ?_; rotate_left; simp only [actS, fillS]; (have hGc := bcell hG); (have hGd := acell hG); go_simp; (try go_bits); exact hN _ (Gr.refl _); rotate_left; simp only [putS, addS, List.set_cons_zero, List.set_cons_succ]) | (refine wpF_skip way_gr (by rfl) ?_; simp only [putS, addS, List.set_cons_zero, List.set_cons_succ])))
        refine wpF_sat (freshS W [.int .u16 0, .slice none 0 0]) (freshS_kept _ _) (by rfl) (fun ys wx N hG hF hN => ?_) ?_
        · simp only [actS, fillS]
          go_simp
          exact hN _ _ (freshS_new hG _ _) (gr_alloc (Gr.refl _) _)
        simp only [putS, addS, List.set_cons_zero, List.set_cons_succ]
        refine wpF_end (fun ys wz hG hS _ => ?_)
        obtain ⟨g, hg, st, hgz⟩ := hS 4 _ rfl
        simp only [actS, fillS, freshS, Nat.zero_add, Nat.reduceAdd]
        rw [hg]
        clear hS hg
        have z0 := s0.lt
        have stc0 := st.cell 0 _ rfl
        have stf0 := st.free 0 _ rfl
        have stc1 := st.cell 1 _ rfl
        have stf1 := st.free 1 _ rfl
        have hkw : IntKind.u16.wrap (x.toNat : Int) = (x.toNat : Int) := by rw [IntKind.wrap_u16]; have := x.toNat_lt; omega
        go_upto_region 6 with fail
        refine name_world fun W1 hW1 => ?_
        have st1 : StA W1 g [.int .u16 x.toNat, .slice A1 (n' - 1) (c' - 1)] := by rw [hW1]; exact st.set (us := [.int .u16 x.toNat, .slice A1 (n' - 1) (c' - 1)]) rfl
        have HG1 : Gr W W1 := by rw [hW1]; exact Below.trans hG (setCells_below [.int .u16 x.toNat, .slice A1 (n' - 1) (c' - 1)] hgz st.lt)
        clear hW1
        clear stc0 stf0 stc1 stf1
        clear s0c0 s0f0 s0c1 s0f1
        clear st
        have hx1 := x.toNat_lt
        by_cases hodd : x.toNat % 2 = 1
        · have ho : (x.toNat : Int) % 2 = 1 := by omega
          have hpl : parseL (x :: t) = finR x.toNat t := by cases t <;> simp [parseL, hodd]
          rw [hpl] at HE
          have d1 : W1.cell? ad = some (.int .u8 (x.toNat : Int)) := (HG1.cell had).trans d0
          have had1 := Nat.lt_of_lt_of_le had HG1.size
          obtain ⟨M, hMx⟩ : ∃ M, M = x.toNat := ⟨_, rfl⟩
          rw [← hMx] at HE st1
          have hM : M < 65536 := by omega
          obtain ⟨c1, hc1e⟩ : ∃ c1, c1 = c' - 1 := ⟨_, rfl⟩
          rw [← hc1e] at st1
          have hc1 : n' - 1 ≤ c1 := by omega
          have hc1m : Hid (c1 ≤ maxLen) := by have := H2.out; rw [hc1e]; exact Lib.hid (by omega)
          have HMx := Lib.hid hMx; clear hMx hc1e
          have HG := HG1
          have st2 := st1
          have s2 := s0.gr HG
          have z2 := s2.lt
          have G2 := G0.trans HG
          have s2c0 := s2.cell 0 _ rfl
          have s2f0 := s2.free 0 _ rfl
          have s2c1 := s2.cell 1 _ rfl
          have s2f1 := s2.free 1 _ rfl
          have st2c0 := st2.cell 0 _ rfl
          have st2f0 := st2.free 0 _ rfl
          have st2c1 := st2.cell 1 _ rfl
          have st2f1 := st2.free 1 _ rfl
          have hne : ¬ g = w.heap.size := by have := s0.lt; omega
          have hne' : ¬ w.heap.size = g := by omega
          go_wp2_with fail
          refine (ref20_may M _ hM).mono ?_
          rintro e w4 ⟨rfl, hw4⟩
          subst hw4
          cases hpr : protoB M with
          | false =>
            go_wp2
            refine name_post fun W3 hW => ?_
            have s : StA W3 w.heap.size [.int .u16 0, .slice none 0 0] := by rw [hW]; exact s2.set (us := [.int .u16 0, .slice none 0 0]) rfl
            have G : Gr w W3 := by rw [hW]; exact Below.trans G2 (setCells_below [.int .u16 0, .slice none 0 0] (Nat.le_refl _) z2)
            clear hW
            have k0 := s.cell 0 _ rfl
            have k1 := s.cell 1 _ rfl
            refine bodyPost_ret (v := .tuple #[.agg #[.int .u16 0, .slice none 0 0], .int .i64 3]) (by simp [results, Try.results21, go_sem, k0, k1]) rfl (by rw [HE.out, show finR M t = (0, [], 3) by unfold finR; rw [hpr]; rfl]; exact RetF.err 3 G)
          | true =>
            by_cases hbig : n' - 1 ≤ 4000
            · have hb1 : ¬ (4000 : Int) < (n' - 1 : Int) := by omega
              have hb2 : ¬ 4000 < n' - 1 := by omega
              go_wp2
              refine name_post fun W3 hW => ?_
              have s : StA W3 w.heap.size [.int .u16 M, .slice A1 (n' - 1) c1] := by rw [hW]; exact s2.set (us := [.int .u16 M, .slice A1 (n' - 1) c1]) rfl
              have G : Gr w W3 := by rw [hW]; exact Below.trans G2 (setCells_below [.int .u16 M, .slice A1 (n' - 1) c1] (Nat.le_refl _) z2)
              have hr : RB W3 A1 (n' - 1) t := K3.out.gr G
              clear hW
              have k0 := s.cell 0 _ rfl
              have k1 := s.cell 1 _ rfl
              refine bodyPost_ret (v := .tuple #[.agg #[.int .u16 M, .slice A1 (n' - 1) c1], .int .i64 0]) (by simp [results, Try.results21, go_sem, k0, k1]) rfl (by rw [HE.out, show finR M t = (M, t, 0) by unfold finR; rw [hpr, Hrl.out, if_pos rfl, if_pos hbig]]; exact ⟨A1, _, c1, rfl, hc1, hc1m.out, hr, G⟩)
            · have hb1 : (4000 : Int) < (n' - 1 : Int) := by omega
              have hb2 : 4000 < n' - 1 := by omega
              go_wp2
              refine name_post fun W3 hW => ?_
              have s : StA W3 w.heap.size [.int .u16 0, .slice none 0 0] := by rw [hW]; exact s2.set (us := [.int .u16 0, .slice none 0 0]) rfl
              have G : Gr w W3 := by rw [hW]; exact Below.trans G2 (setCells_below [.int .u16 0, .slice none 0 0] (Nat.le_refl _) z2)
              clear hW
              have k0 := s.cell 0 _ rfl
              have k1 := s.cell 1 _ rfl
              refine bodyPost_ret (v := .tuple #[.agg #[.int .u16 0, .slice none 0 0], .int .i64 8]) (by simp [results, Try.results21, go_sem, k0, k1]) rfl (by rw [HE.out, show finR M t = (0, [], 8) by unfold finR; rw [hpr, Hrl.out, if_pos rfl, if_neg hbig]]; exact RetF.err 8 G)
        · have ho : (x.toNat : Int) % 2 = 0 := by omega
          match t with
          | [] =>
            have hpl : parseL [x] = (0, [], 4) := by simp [parseL, hodd]
            rw [hpl] at HE
            obtain rfl : n' = 1 := by have := h3.len; simpa using this.symm
            have d1 : W1.cell? ad = some (.int .u8 (x.toNat : Int)) := (HG1.cell had).trans d0
            have s1 := s0.gr HG1
            have z1 := s1.lt
            have G1 := G0.trans HG1
            have s1c0 := s1.cell 0 _ rfl
            have s1f0 := s1.free 0 _ rfl
            have s1c1 := s1.cell 1 _ rfl
            have s1f1 := s1.free 1 _ rfl
            go_wp2
            refine name_post fun W3 hW => ?_
            have s : StA W3 w.heap.size [.int .u16 0, .slice none 0 0] := by rw [hW]; exact s1.set (us := [.int .u16 0, .slice none 0 0]) rfl
            have G : Gr w W3 := by rw [hW]; exact Below.trans G1 (setCells_below [.int .u16 0, .slice none 0 0] (Nat.le_refl _) z1)
            clear hW
            have k0 := s.cell 0 _ rfl
            have k1 := s.cell 1 _ rfl
            refine bodyPost_ret (v := .tuple #[.agg #[.int .u16 0, .slice none 0 0], .int .i64 4]) (by simp [results, Try.results21, go_sem, k0, k1]) rfl (by rw [HE.out]; exact RetF.err 4 G)
          | y :: t =>
            have hpl : parseL (x :: y :: t) = finR (256 * x.toNat + y.toNat) t := by simp [parseL, hodd]
            rw [hpl] at HE
            have hl2 := h3.len
            have hn2 : 2 ≤ n' := by simp at hl2; omega
            have Hrl := Lib.hid (show t.length = n' - 2 by simp at hl2; omega)
            clear hl2
            have d1 : W1.cell? ad = some (.int .u8 (x.toNat : Int)) := (HG1.cell had).trans d0
            have had1 := Nat.lt_of_lt_of_le had HG1.size
            have e1 : W1.cell? (ad.add 1) = some (.int .u8 (y.toNat : Int)) := (HG1.cell (by rw [block_of_add]; exact had)).trans (hcell 1 y rfl)
            simp [Addr.add] at e1
            obtain ⟨A2, l1, l2, l3⟩ := cut_from (some ad) n' c' 2 2 rfl (x :: y :: t) w h3w hn2 h1
            have K3 := Lib.hid l3; clear l3
            rw [List.drop_succ_cons, List.drop_succ_cons, List.drop_zero] at K3
            have hy1 := y.toNat_lt
            obtain ⟨M, hMx⟩ : ∃ M, M = 256 * x.toNat + y.toNat := ⟨_, rfl⟩
            have hM : M < 65536 := by omega
            have hkx : IntKind.u16.wrap (256 * (x.toNat : Int)) = 256 * (x.toNat : Int) := by rw [IntKind.wrap_u16]; omega
            have hky : IntKind.u16.wrap (y.toNat : Int) = (y.toNat : Int) := by rw [IntKind.wrap_u16]; omega
            have hkm : IntKind.u16.wrap (256 * (x.toNat : Int) + (y.toNat : Int)) = (M : Int) := by rw [IntKind.wrap_u16]; omega
            rw [← hMx] at HE
            have HMx := Lib.hid hMx; clear hMx
            have hn2' : (1 : Int) < (n' : Int) := by omega
            have hn2'' : 1 < n' := by omega
            have hnl : ¬ n' < 2 := by omega
            have st1c0 := st1.cell 0 _ rfl
            have st1f0 := st1.free 0 _ rfl
            have st1c1 := st1.cell 1 _ rfl
            have st1f1 := st1.free 1 _ rfl
            have zg := st1.lt
            go_wp2
            refine wp_region_facts 13 (by kernel_rfl) (by kernel_rfl) ?_
            simp only [List.take_succ_cons, List.take_zero, List.drop_succ_cons, List.drop_zero, List.map_cons, List.map_nil]
            (repeat (first | (refine wpF_val (v := ?_) (by rfl) (fun ys wx N hG hN => ?_) ?_; rotate_left; simp only [actS, fillS]; (have hGc := bcell hG); (have hGd := acell hG); go_simp; (try go_bits); exact hN _ (Gr.refl _); rotate_left; simp only [putS, addS, List.set_cons_zero, List.set_cons_succ]) | (refine wpF_skip way_gr (by rfl) ?_; simp only [putS, addS, List.set_cons_zero, List.set_cons_succ])))
            (refine wpF_end (fun ys wz hG _ _ => ?_); simp only [actS, fillS])
            have zz := Nat.lt_of_lt_of_le zg hG.size
            replace st1 := st1.gr hG
            clear st1c0 st1f0 st1c1 st1f1
            have st1c0 := st1.cell 0 _ rfl
            have st1f0 := st1.free 0 _ rfl
            have st1c1 := st1.cell 1 _ rfl
            have st1f1 := st1.free 1 _ rfl
            go_upto_region 10 with fail
            refine name_world fun W2 hW2 => ?_
            have st2 : StA W2 g [.int .u16 M, .slice A2 (n' - 2) (c' - 2)] := by rw [hW2]; exact st1.set (us := [.int .u16 M, .slice A2 (n' - 2) (c' - 2)]) rfl
            have HG : Gr W W2 := by rw [hW2]; exact Below.trans (HG1.trans hG) (setCells_below [.int .u16 M, .slice A2 (n' - 2) (c' - 2)] hgz zz)
            clear hW2
            clear st1c0 st1f0 st1c1 st1f1
            clear st1 hG HG1
            obtain ⟨c1, hc1e⟩ : ∃ c1, c1 = c' - 2 := ⟨_, rfl⟩
            rw [← hc1e] at st2
            have hc1 : n' - 2 ≤ c1 := by omega
            have hc1m : Hid (c1 ≤ maxLen) := by have := H2.out; rw [hc1e]; exact Lib.hid (by omega)
            clear hc1e d1 e1
            have s2 := s0.gr HG
            have z2 := s2.lt
            have G2 := G0.trans HG
            have s2c0 := s2.cell 0 _ rfl
            have s2f0 := s2.free 0 _ rfl
            have s2c1 := s2.cell 1 _ rfl
            have s2f1 := s2.free 1 _ rfl
            have st2c0 := st2.cell 0 _ rfl
            have st2f0 := st2.free 0 _ rfl
            have st2c1 := st2.cell 1 _ rfl
            have st2f1 := st2.free 1 _ rfl
            have hne : ¬ g = w.heap.size := by have := s0.lt; omega
            have hne' : ¬ w.heap.size = g := by omega
            go_wp2_with fail
            refine (ref20_may M _ hM).mono ?_
            rintro e w4 ⟨rfl, hw4⟩
            subst hw4
            cases hpr : protoB M with
            | false =>
              go_wp2
              refine name_post fun W3 hW => ?_
              have s : StA W3 w.heap.size [.int .u16 0, .slice none 0 0] := by rw [hW]; exact s2.set (us := [.int .u16 0, .slice none 0 0]) rfl
              have G : Gr w W3 := by rw [hW]; exact Below.trans G2 (setCells_below [.int .u16 0, .slice none 0 0] (Nat.le_refl _) z2)
              clear hW
              have k0 := s.cell 0 _ rfl
              have k1 := s.cell 1 _ rfl
              refine bodyPost_ret (v := .tuple #[.agg #[.int .u16 0, .slice none 0 0], .int .i64 3]) (by simp [results, Try.results21, go_sem, k0, k1]) rfl (by rw [HE.out, show finR M t = (0, [], 3) by unfold finR; rw [hpr]; rfl]; exact RetF.err 3 G)
            | true =>
              by_cases hbig : n' - 2 ≤ 4000
              · have hb1 : ¬ (4000 : Int) < (n' - 2 : Int) := by omega
                have hb2 : ¬ 4000 < n' - 2 := by omega
                go_wp2
                refine name_post fun W3 hW => ?_
                have s : StA W3 w.heap.size [.int .u16 M, .slice A2 (n' - 2) c1] := by rw [hW]; exact s2.set (us := [.int .u16 M, .slice A2 (n' - 2) c1]) rfl
                have G : Gr w W3 := by rw [hW]; exact Below.trans G2 (setCells_below [.int .u16 M, .slice A2 (n' - 2) c1] (Nat.le_refl _) z2)
                have hr : RB W3 A2 (n' - 2) t := K3.out.gr G
                clear hW
                have k0 := s.cell 0 _ rfl
                have k1 := s.cell 1 _ rfl
                refine bodyPost_ret (v := .tuple #[.agg #[.int .u16 M, .slice A2 (n' - 2) c1], .int .i64 0]) (by simp [results, Try.results21, go_sem, k0, k1]) rfl (by rw [HE.out, show finR M t = (M, t, 0) by unfold finR; rw [hpr, Hrl.out, if_pos rfl, if_pos hbig]]; exact ⟨A2, _, c1, rfl, hc1, hc1m.out, hr, G⟩)
              · have hb1 : (4000 : Int) < (n' - 2 : Int) := by omega
                have hb2 : 4000 < n' - 2 := by omega
                go_wp2
                refine name_post fun W3 hW => ?_
                have s : StA W3 w.heap.size [.int .u16 0, .slice none 0 0] := by rw [hW]; exact s2.set (us := [.int .u16 0, .slice none 0 0]) rfl
                have G : Gr w W3 := by rw [hW]; exact Below.trans G2 (setCells_below [.int .u16 0, .slice none 0 0] (Nat.le_refl _) z2)
                clear hW
                have k0 := s.cell 0 _ rfl
                have k1 := s.cell 1 _ rfl
                refine bodyPost_ret (v := .tuple #[.agg #[.int .u16 0, .slice none 0 0], .int .i64 8]) (by simp [results, Try.results21, go_sem, k0, k1]) rfl (by rw [HE.out, show finR M t = (0, [], 8) by unfold finR; rw [hpr, Hrl.out, if_pos rfl, if_neg hbig]]; exact RetF.err 8 G)
end Go.Proofs.Ytecnclcendcfmaa
