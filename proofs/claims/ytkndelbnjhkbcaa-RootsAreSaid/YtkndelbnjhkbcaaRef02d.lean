/-
  Contracts: roots, their bits, by the document.
-/
import Derived.Test.YtkndelbnjhkbcaaRef02c
namespace Go.Proofs.Ytkndelbnjhkbcaa
open Go.RowKit
set_option linter.unusedVariables false

/-- The bit that stands next: none behind the last one. -/
def bitAt : Nat → Nat
  | 0 => 0
  | k + 1 => 2 ^ k
theorem bitAt_half (k : Nat) : 2 ^ k / 2 = bitAt k := by
  cases k with
  | zero => rfl
  | succ k => rw [Nat.pow_succ]; simp [bitAt]

set_option maxRecDepth 100000 in
set_option maxHeartbeats 2000000 in
theorem ref_root (n d b : Nat) (w : World) (hm : MayRoot n d b) :
    Calls Try.prog 12 #[.int .i64 n, .int .i64 d, .int .i64 b] w fun e w' => e = .returned (.tuple #[.int .u64 (rootOf n d b : Nat), .int .i64 0]) ∧ Below w.heap.size w w' := by
  have Hm := Lib.hid hm
  obtain ⟨h1, h2, h3⟩ := hm
  have hdb : d * b ≤ 96 := by rcases h2 with rfl | rfl <;> omega
  have hd3 : d ≤ 3 := by omega
  clear h2
  have hdb' : (d : Int) * (b : Int) ≤ 96 := by have := Int.ofNat_le.2 hdb; simpa using this
  have hdb0 : (0 : Int) ≤ (d : Int) * (b : Int) := Int.mul_nonneg (by omega) (by omega)
  obtain ⟨s, hs⟩ : ∃ s, s = d * b := ⟨_, rfl⟩
  have hdbc : (d : Int) * (b : Int) = (s : Int) := by rw [hs]; simp
  rw [← hs] at hdb
  have Hs := Lib.hid hs; clear hs
  go_enter Try.func12, Try.ntmps12
  go_wp2_with fail
  refine (ref02_may_yes n d b _ Hm.out).mono ?_
  rintro e w' ⟨rfl, rfl⟩
  go_wp2_with fail
  refine (ref_most n s _ (by omega) (by omega)).mono ?_
  rintro e w1 ⟨v, T, rfl, hown, hd, ⟨hv, hl⟩, hb1⟩
  obtain ⟨A, c, rfl, hnc, hcm, hrv⟩ := hown.shape
  have Hrv := Lib.hid hrv; clear hrv hown
  have Hd := Lib.hid hd; clear hd
  have hv' : nval T = topOf n d b := by rw [hv, Hs.out]; rfl
  have Hv := Lib.hid hv'; clear hv hv' hdbc hdb0 hdb'
  go_wp2
  go_loopw [9, 10] (fun r i wr => ∃ k x : Nat, k ≤ 41 ∧ i = .int .u64 (bitAt k : Nat) ∧ r = .int .u64 x ∧ GrowR n d b k x ∧ Below w.heap.size w wr ∧ Below w1.heap.size w1 wr) (fun _ i _ => (intOf i).toNat)
  case atStart => exact ⟨41, 0, Nat.le_refl _, rfl, rfl, GrowR.start Hm.out, hb1, Below.refl _ _⟩
  case round =>
    obtain ⟨k, x, hk, rfl, rfl, hg, hbel, hbel1⟩ := hrel
    have Hg := Lib.hid hg; clear hg
    rcases k with _ | j
    · have hx := Hg.out.last
      have Hx := Lib.hid hx; clear hx
      have hz : (bitAt 0 : Nat) = 0 := rfl
      rw [hz]
      clear hz
      go_wp2
      go_ret2
      exact ⟨ret2 (int_eq (by rw [Hx.out])) rfl, hbel⟩
    · have hbj : bitAt (j + 1) = 2 ^ j := rfl
      rw [hbj]
      obtain ⟨P, hP⟩ : ∃ P, P = 2 ^ j := ⟨_, rfl⟩
      have hhalf := bitAt_half j
      rw [← hP] at hhalf ⊢
      have hP0 : 0 < P := by rw [hP]; exact Nat.pos_of_ne_zero (by simp)
      have hPI : (P : Int) / 2 = ((bitAt j : Nat) : Int) := by omega
      have hlt2 : bitAt j < P := by omega
      obtain ⟨y, hy⟩ : ∃ y, y = x + P := ⟨_, rfl⟩
      have hyI : (x : Int) + (P : Int) = (y : Int) := by omega
      have hyl : y < 4398046511104 ∧ x < 4398046511104 ∧ P < 4398046511104 := by
        have hb := Hg.out.2
        have : 2 ^ (j + 1) = 2 ^ j * 2 := Nat.pow_succ ..
        rw [← hP] at this
        omega
      obtain ⟨hyl, hxl, hPl⟩ := hyl
      have Hy := Lib.hid hy; clear hy
      have HP := Lib.hid hP; clear hP hbj hhalf
      have cabove := fun (q : Bool) (B : Option Addr) (l : List Nat) (cc : Nat) (w' : World) (hq : q = decide (topOf n d b < nval l)) (hr : RV w' B l.length (l.map uv)) (hdl : Digs l) (hll : l.length ≤ 100) (hbb : Below w1.heap.size w1 w') =>
        ref_above B A l T l.length T.length cc c q w' hr (Hrv.out.below hbb) hdl Hd.out (by omega) (by omega) (by rw [Hv.out]; exact hq)
      have Ca := Lib.hid cabove; clear cabove
      by_cases hc : y ^ d ≤ topOf n d b
      · have hfalse : false = decide (topOf n d b < y ^ d) := by simp; omega
        have Hf := Lib.hid hfalse; clear hfalse
        have Hyes := Lib.hid (Hg.out.yes (by rw [← HP.out, ← Hy.out]; exact hc))
        clear hc
        go_wp2_with fail
        refine (ref_power y d _ (by omega) hd3).mono ?_
        rintro e w2 ⟨v2, l2, rfl, hown2, hd2, ⟨hv2, hl2⟩, hb2⟩
        obtain ⟨B, c2, rfl, hnc2, hcm2, hrv2⟩ := hown2.shape
        have Hrv2 := Lib.hid hrv2; clear hrv2 hown2
        have Hd2 := Lib.hid hd2; clear hd2
        have Hv2 := Lib.hid hv2; clear hv2
        have Hbel2 := Lib.hid (hbel.trans (hb2.mono hbel.size))
        have Hbel12 := Lib.hid (hbel1.trans (hb2.mono hbel1.size))
        clear hb2
        go_wp2_with fail
        refine (Ca.out false B l2 c2 _ (by rw [Hv2.out]; exact Hf.out) Hrv2.out Hd2.out (by omega) Hbel12.out).mono ?_
        rintro e w3 ⟨rfl, hq3⟩
        have Hq3 := Lib.hid hq3; clear hq3
        go_wp2
        go_roundw
        case rel => exact ⟨j, y, by omega, rfl, rfl, by rw [Hy.out, HP.out]; exact Hyes.out, below_qt Hbel2.out Hq3.out, below_qt Hbel12.out Hq3.out⟩
        case measure => simp [intOf] <;> omega
      · have htrue : true = decide (topOf n d b < y ^ d) := by simp; omega
        have Hf := Lib.hid htrue; clear htrue
        have Hno := Lib.hid (Hg.out.no (by rw [← HP.out, ← Hy.out]; omega))
        clear hc
        go_wp2_with fail
        refine (ref_power y d _ (by omega) hd3).mono ?_
        rintro e w2 ⟨v2, l2, rfl, hown2, hd2, ⟨hv2, hl2⟩, hb2⟩
        obtain ⟨B, c2, rfl, hnc2, hcm2, hrv2⟩ := hown2.shape
        have Hrv2 := Lib.hid hrv2; clear hrv2 hown2
        have Hd2 := Lib.hid hd2; clear hd2
        have Hv2 := Lib.hid hv2; clear hv2
        have Hbel2 := Lib.hid (hbel.trans (hb2.mono hbel.size))
        have Hbel12 := Lib.hid (hbel1.trans (hb2.mono hbel1.size))
        clear hb2
        go_wp2_with fail
        refine (Ca.out true B l2 c2 _ (by rw [Hv2.out]; exact Hf.out) Hrv2.out Hd2.out (by omega) Hbel12.out).mono ?_
        rintro e w3 ⟨rfl, hq3⟩
        have Hq3 := Lib.hid hq3; clear hq3
        go_wp2
        go_roundw
        case rel => exact ⟨j, x, by omega, rfl, rfl, Hno.out, below_qt Hbel2.out Hq3.out, below_qt Hbel12.out Hq3.out⟩
        case measure => simp [intOf] <;> omega
set_option maxHeartbeats 400000 in
theorem ref_root_no (n d b : Int) (w : World) (hm : ¬ MayRootI n d b) :
    Calls Try.prog 12 #[.int .i64 n, .int .i64 d, .int .i64 b] w fun e w' => e = .returned (.tuple #[.int .u64 0, .int .i64 1]) ∧ w = w' := by
  have Hm := Lib.hid hm; clear hm
  go_enter Try.func12, Try.ntmps12
  go_wp2_with fail
  refine (ref02_may_no n d b _ Hm.out).mono ?_
  rintro e w' ⟨rfl, rfl⟩
  go_wp2
  go_ret2
  exact ⟨rfl, rfl⟩
theorem ref_root_all (n d b : Int) (w : World) :
    Calls Try.prog 12 #[.int .i64 n, .int .i64 d, .int .i64 b] w fun e w' => e = .returned (.tuple #[.int .u64 (rootI n d b : Nat), .int .i64 (rootE n d b)]) ∧ Below w.heap.size w w' := by
  by_cases h : MayRootI n d b
  · have h' := h
    unfold MayRootI at h'
    obtain ⟨N, D, B, rfl, rfl, rfl, hm⟩ := h.nat
    simp only [rootI, rootE, if_pos h']
    exact ref_root N D B w hm
  · have h' := h
    unfold MayRootI at h'
    simp only [rootI, rootE, if_neg h']
    exact (ref_root_no n d b w h).mono fun e w' ⟨he, hw⟩ => ⟨he, hw ▸ Below.refl _ _⟩
theorem ref_frac (n d : Int) (w : World) :
    Calls Try.prog 15 #[.int .i64 n, .int .i64 d] w fun e w' => e = .returned (.int .u32 (fracI n d : Nat)) ∧ Below w.heap.size w w' := by
  obtain ⟨R, hR⟩ : ∃ R, R = rootI n d 32 := ⟨_, rfl⟩
  have hcall := ref_root_all n d 32 w
  have hRl : R < 18446744073709551616 := by
    rw [hR]
    unfold rootI
    split
    · rename_i h
      have := rootOf_lt (n := n.toNat) (d := d.toNat) (b := (32 : Int).toNat) ⟨by omega, by omega, by decide⟩
      omega
    · omega
  rw [← hR] at hcall
  have HR := Lib.hid hR; clear hR
  obtain ⟨E, hE⟩ : ∃ E, E = rootE n d 32 := ⟨_, rfl⟩
  rw [← hE] at hcall
  clear hE
  go_enter Try.func15, Try.ntmps15
  go_wp2_with fail
  refine hcall.mono ?_
  rintro e w' ⟨rfl, hq1⟩
  have Hq1 := Lib.hid hq1; clear hq1
  go_wp2
  go_ret
  exact ⟨ret_int (by unfold fracI; rw [← HR.out]; simp), Hq1.out⟩
end Go.Proofs.Ytkndelbnjhkbcaa
