/-
  Contracts: words as rows of bits, by the document.
-/
import Derived.Test.YtkndelbnjhkbcaaRowPlain
import Derived.Test.YtkndelbnjhkbcaaBitp2
import Derived.Outline
namespace Go.Proofs.Ytkndelbnjhkbcaa
open Go.RowKit
set_option linter.unusedVariables false

theorem ref_wide_yes (n : Int) (w : World) (h1 : 1 ≤ n) (h2 : n ≤ 64) :
    Calls Try.prog 46 #[.int .i64 n] w fun e w' => e = .returned (.bool true) ∧ w = w' := by
  go_enter Try.func46, Try.ntmps46
  go_wp2
  go_ret
  first | exact ⟨rfl, rfl⟩ | exact ⟨ret_bool (by simp; omega), rfl⟩
theorem ref_wide_no (n : Int) (w : World) (h : ¬ MayW n) :
    Calls Try.prog 46 #[.int .i64 n] w fun e w' => e = .returned (.bool false) ∧ w = w' := by
  unfold MayW at h
  by_cases h1 : 1 ≤ n
  all_goals
    go_enter Try.func46, Try.ntmps46
    go_wp2
    go_ret
    first | exact ⟨rfl, rfl⟩ | exact ⟨ret_bool (by simp; omega), rfl⟩
set_option maxRecDepth 100000 in
set_option maxHeartbeats 1000000 in
theorem ref_row (x W : Nat) (w : World) (hx : x < 18446744073709551616) (h2 : W ≤ 64) :
    Calls Try.prog 47 #[.int .u64 x, .int .i64 W] w fun e w' => ∃ g, e = .returned (.slice (some ⟨g, 0, none⟩) W W) ∧ OB w' w.heap.size (.slice (some ⟨g, 0, none⟩) W W) W (rowB x W) ∧ Below w.heap.size w w' := by
  have hmk := mk_bytes W W (by omega) (by omega) (by omega)
  have hrl := rowB_length x W
  obtain ⟨R, hR⟩ : ∃ R, R = rowB x W := ⟨_, rfl⟩
  have hRat : ∀ i, i < W → R[i]? = some (UInt8.ofNat (x / 2 ^ (W - 1 - i) % 2)) := fun i hi => by rw [hR]; exact rowB_at hi
  rw [← hR] at hrl ⊢
  clear hR
  have HRat := Lib.hid hRat; clear hRat
  have Hrl := Lib.hid hrl; clear hrl
  go_enter Try.func47, Try.ntmps47
  go_wp2
  clear hmk
  go_loopw [0, 6] (fun s i wr => ∃ (k y : Nat) (cur : List UInt8), k ≤ W ∧ i = .int .i64 ((k : Int) - 1) ∧ s = .int .u64 y ∧ y = x / 2 ^ (W - k) ∧ OB wr w.heap.size (.slice (some ⟨w.heap.size, 0, none⟩) W W) W cur ∧ cur.drop k = R.drop k ∧ Below w.heap.size w wr) (fun _ i _ => (intOf i + 1).toNat)
  case atStart =>
    refine ⟨W, x, List.replicate W 0, Nat.le_refl _, rfl, rfl, by simp, OB.made _ _ _ _ (Nat.le_refl _) (by simp [maxLen]; omega) (Nat.le_refl _), ?_, (Below.refl _ _).alloc (Nat.le_refl _) _⟩
    rw [List.drop_of_length_le (by simp), List.drop_of_length_le (by rw [Hrl.out]; exact Nat.le_refl _)]
  case round =>
    obtain ⟨k, y, cur, hk, rfl, rfl, hy, hown, hdr, hbel⟩ := hrel
    have Hown := Lib.hid hown; clear hown
    have Hdr := Lib.hid hdr; clear hdr
    have hyl : y < 18446744073709551616 := by rw [hy]; exact Nat.lt_of_le_of_lt (Nat.div_le_self _ _) hx
    have Hy := Lib.hid hy; clear hy
    rcases k with _ | j
    · have h1 : cur = R := by simpa using Hdr.out
      subst h1
      go_wp2
      go_ret
      exact ⟨_, rfl, Hown.out, hbel⟩
    · have hj : ((j + 1 : Nat) : Int) - 1 = (j : Int) := by omega
      rw [hj]
      clear hj
      have hcl := Hown.out.len
      obtain ⟨z, hz⟩ : ∃ z, cur[j]? = some z := ⟨_, List.getElem?_eq_getElem (by omega)⟩
      have hcc := Hown.out.cellAt hz
      have hfz := Hown.out.frozenAt j
      have hat := HRat.out j (by omega)
      rw [show x / 2 ^ (W - 1 - j) = y by rw [Hy.out]; congr 2; omega] at hat
      obtain ⟨q, hq⟩ : ∃ q : UInt8, q = UInt8.ofNat (y % 2) := ⟨_, rfl⟩
      have hqI : (y : Int) % 2 = (q.toNat : Int) := by rw [hq, UInt8.toNat_ofNat']; omega
      rw [← hq] at hat
      have Hnx := Lib.hid (set_drop Hdr.out (by omega) hat)
      have Hyn := Lib.hid (show y / 2 = x / 2 ^ (W - j) by
        rw [Hy.out, Nat.div_div_eq_div_mul, ← Nat.pow_succ]; congr 2; omega)
      have hyI : (y : Int) / 2 = ((y / 2 : Nat) : Int) := by omega
      obtain ⟨y2, hy2⟩ : ∃ y2, y2 = y / 2 := ⟨_, rfl⟩
      rw [← hy2] at Hyn hyI
      clear hz hat hq hy2 hcl
      go_wp2
      go_roundw
      case rel => exact ⟨j, y2, cur.set j q, by omega, rfl, rfl, Hyn.out, Hown.out.stored _ _, Hnx.out, hbel.setCell (Nat.le_refl _) _⟩
      case measure => simp [intOf] <;> omega

set_option maxRecDepth 100000 in
set_option maxHeartbeats 1000000 in
theorem ref_word (A : Option Addr) (n c : Nat) (bs : List UInt8) (w : World) (h : RB w A n bs) (hb : Bytes2 bs) (hn : n ≤ 64) :
    Calls Try.prog 48 #[.slice A n c] w fun e w' => e = .returned (.int .u64 (wordN (natsOf bs) : Nat)) ∧ w = w' := by
  have hl := h.len
  have H := Lib.hid h; clear h
  have Hb := Lib.hid hb; clear hb
  have Hl := Lib.hid hl; clear hl
  go_enter Try.func48, Try.ntmps48
  go_wp2
  go_loopw [3, 4] (fun x i wr => ∃ k : Nat, k ≤ n ∧ i = .int .i64 k ∧ x = .int .u64 (wordN (natsOf (bs.take k)) : Nat) ∧ w = wr) (fun _ i _ => n - (intOf i).toNat)
  case atStart => exact ⟨0, Nat.zero_le _, rfl, rfl, rfl⟩
  case round =>
    obtain ⟨k, hk, rfl, rfl, rfl⟩ := hrel
    by_cases hlt : k < n
    · obtain ⟨ad, b, rfl, _, hbk, hbc, hb0, hb1⟩ := H.out.at_ hlt
      have hb2 := Hb.out b (List.mem_of_getElem? hbk)
      have hsn : wordN (natsOf (bs.take (k + 1))) = 2 * wordN (natsOf (bs.take k)) + b.toNat := by rw [natsOf_snoc hbk, wordN_snoc]
      have hlt2 := wordN_lt k (natsOf (bs.take k)) (by rw [natsOf_length, List.length_take, Hl.out]; omega) (Bytes2.nats fun y hy => Hb.out y (List.mem_of_mem_take hy))
      have hlt3 := Nat.lt_of_lt_of_le hlt2 (pow2_le (m := 63) (by omega))
      obtain ⟨v, hv⟩ : ∃ v, v = wordN (natsOf (bs.take k)) := ⟨_, rfl⟩
      rw [← hv] at hsn hlt3 ⊢
      have Hsn := Lib.hid hsn
      clear hsn hv hlt2 hbk
      go_wp2
      go_roundw
      case rel => exact ⟨k + 1, by omega, by go_num, by rw [Hsn.out]; go_num, by first | rfl | trivial⟩
      case measure => simp [intOf] <;> omega
    · obtain rfl : k = n := by omega
      have ht : bs.take k = bs := List.take_of_length_le (by rw [Hl.out]; exact Nat.le_refl _)
      rw [ht]
      go_wp2
      go_ret
      exact ⟨rfl, rfl⟩

set_option maxRecDepth 100000 in
set_option maxHeartbeats 1000000 in
theorem ref_odd (b : Nat) (w : World) (hb : b < 256) :
    Calls Try.prog 35 #[.int .u8 b] w fun e w' => e = .returned (.int .u8 (oddN b : Nat)) ∧ w = w' := by
  have hod := odd_pop b hb
  obtain ⟨o, ho⟩ : ∃ o, o = oddN b := ⟨_, rfl⟩
  rw [← ho] at hod ⊢
  have Hod := Lib.hid hod; clear hod ho
  go_enter Try.func35, Try.ntmps35
  go_wp2
  go_loopw [3, 4] (fun n i wr => ∃ k : Nat, k ≤ 7 ∧ i = .int .i64 ((k : Int) + 1) ∧ n = .int .u8 (popTo b k : Nat) ∧ w = wr) (fun _ i _ => 8 - (intOf i).toNat)
  case atStart => exact ⟨0, Nat.zero_le _, rfl, rfl, rfl⟩
  case round =>
    obtain ⟨k, hk, rfl, rfl, rfl⟩ := hrel
    have hle := popTo_le b k
    by_cases hlt : k < 7
    · have hs := popTo_succ b k
      obtain ⟨y, hy⟩ : ∃ y, y = b / 2 ^ (k + 1) % 2 := ⟨_, rfl⟩
      obtain ⟨n, hn⟩ : ∃ n, n = popTo b k := ⟨_, rfl⟩
      rw [← hy, ← hn] at hs
      rw [← hn] at hle ⊢
      have hsh : ((b : Int) / 2 ^ (k + 1)).tmod 2 = (y : Int) := by rw [div_cast, Int.tmod_eq_emod_of_nonneg (Int.natCast_nonneg _), hy, Int.natCast_emod]; rfl
      have hy2 : y < 2 := by rw [hy]; exact Nat.mod_lt _ (by omega)
      have Hs := Lib.hid hs
      clear hs hy hn
      go_wp2
      go_roundw
      case rel => exact ⟨k + 1, by omega, by go_num, by rw [Hs.out]; go_num, by first | rfl | trivial⟩
      case measure => simp [intOf] <;> omega
    · obtain rfl : k = 7 := by omega
      have h1 := Hod.out
      obtain ⟨n, hn⟩ : ∃ n, n = popTo b 7 := ⟨_, rfl⟩
      rw [← hn] at h1
      rw [← hn] at hle ⊢
      have H1 := Lib.hid h1; clear h1 hn Hod
      go_wp2
      go_ret
      exact ⟨ret_int (by have := H1.out; omega), rfl⟩

theorem ref_bit_yes (x W i : Nat) (w : World) (hx : x < 18446744073709551616) (h1 : 1 ≤ i) (h2 : i ≤ W) (h3 : W ≤ 64) :
    Calls Try.prog 28 #[.int .u64 x, .int .i64 W, .int .i64 i] w fun e w' => e = .returned (.int .u64 (x / 2 ^ (W - i) % 2 : Nat)) ∧ Below w.heap.size w w' := by
  have hat := rowB_at (x := x) (W := W) (i := i - 1) (by omega)
  rw [show W - 1 - (i - 1) = W - i by omega] at hat
  obtain ⟨y, hy⟩ : ∃ y, y = x / 2 ^ (W - i) % 2 := ⟨_, rfl⟩
  rw [← hy] at hat ⊢
  have hy2 : y < 2 := by rw [hy]; exact Nat.mod_lt _ (by omega)
  have hyn : (UInt8.ofNat y).toNat = y := by rw [UInt8.toNat_ofNat']; omega
  have Hat := Lib.hid hat; clear hat hy
  have hi1 : (i : Int) - 1 = ((i - 1 : Nat) : Int) := by omega
  go_enter Try.func28, Try.ntmps28
  go_wp2_with fail
  refine (ref_wide_yes W _ (by omega) (by omega)).mono ?_
  rintro e w' ⟨rfl, rfl⟩
  go_wp2_with fail
  refine (ref_row x W _ hx h3).mono ?_
  rintro e w1 ⟨g, rfl, hown, hb1⟩
  have hcell := hown.cellAt Hat.out
  rw [hyn] at hcell
  clear hown hyn
  go_wp2
  go_ret
  exact ⟨rfl, hb1⟩
theorem ref_bit_no (x W i : Int) (w : World) (h : ¬ (MayW W ∧ 1 ≤ i ∧ i ≤ W)) :
    Calls Try.prog 28 #[.int .u64 x, .int .i64 W, .int .i64 i] w fun e w' => e = .returned (.int .u64 0) ∧ w = w' := by
  by_cases hW : MayW W
  · have hW' := hW
    obtain ⟨g1, g2⟩ := hW
    by_cases h1 : 1 ≤ i
    · have h2 : W < i := by
        rcases Int.lt_or_le W i with h2 | h2
        · exact h2
        · exact absurd ⟨hW', h1, h2⟩ h
      clear h hW'
      go_enter Try.func28, Try.ntmps28
      go_wp2_with fail
      refine (ref_wide_yes W _ g1 g2).mono ?_
      rintro e w' ⟨rfl, rfl⟩
      go_wp2
      go_ret
      exact ⟨rfl, rfl⟩
    · clear h hW'
      go_enter Try.func28, Try.ntmps28
      go_wp2_with fail
      refine (ref_wide_yes W _ g1 g2).mono ?_
      rintro e w' ⟨rfl, rfl⟩
      go_wp2
      go_ret
      exact ⟨rfl, rfl⟩
  · clear h
    have HW := Lib.hid hW; clear hW
    go_enter Try.func28, Try.ntmps28
    go_wp2_with fail
    refine (ref_wide_no W _ HW.out).mono ?_
    rintro e w' ⟨rfl, rfl⟩
    go_wp2
    go_ret
    exact ⟨rfl, rfl⟩
end Go.Proofs.Ytkndelbnjhkbcaa
