/-
  The walk of the law OctsBack.
-/
import Derived.Test.YtneapgelfknlgaaLaws01
namespace Go.Proofs.Ytneapgelfknlgaa
open Go.RowKit
set_option linter.unusedVariables false

/-- What stands behind the number's part of the law: what is turned twice, what is told in digits. -/
theorem xorB_back {xs ys : List UInt8} (h : xs.length = ys.length) : xorB (xorB xs ys) ys = xs := by
  apply List.ext_getElem?
  intro i
  by_cases hi : i < xs.length
  · have hx : xs[i]? = some xs[i] := List.getElem?_eq_getElem hi
    have hy : ys[i]? = some ys[i] := List.getElem?_eq_getElem (by omega)
    rw [xorB_at (xorB_at hx hy) hy, hx, UInt8.xor_assoc, UInt8.xor_self, UInt8.xor_zero]
  · rw [List.getElem?_eq_none (by rw [xorB_length (by rw [xorB_length h]; exact h), xorB_length h]; omega), List.getElem?_eq_none (by omega)]
theorem hv_hexd (m : Nat) (h : m < 16) : hv (hexd m) = m := by
  have : m = 0 ∨ m = 1 ∨ m = 2 ∨ m = 3 ∨ m = 4 ∨ m = 5 ∨ m = 6 ∨ m = 7 ∨ m = 8 ∨ m = 9 ∨ m = 10 ∨ m = 11 ∨ m = 12 ∨ m = 13 ∨ m = 14 ∨ m = 15 := by omega
  rcases this with rfl | rfl | rfl | rfl | rfl | rfl | rfl | rfl | rfl | rfl | rfl | rfl | rfl | rfl | rfl | rfl <;> decide
theorem unhex_hex (xs : List UInt8) : unhexL (hexL xs) = some xs := by
  induction xs with
  | nil => rfl
  | cons b r ih =>
    have hb := b.toNat_lt
    have e : hexL (b :: r) = hexd (b.toNat / 16) :: hexd (b.toNat % 16) :: hexL r := by simp [hexL]
    have h1 := hv_hexd (b.toNat / 16) (by omega)
    have h2 := hv_hexd (b.toNat % 16) (by omega)
    rw [e, unhexL, h1, h2, if_pos ⟨by omega, by omega⟩, ih, show 16 * (b.toNat / 16) + b.toNat % 16 = b.toNat by omega]
    simp

theorem xorBytes_back {xs ys : List UInt8} (h : xs.length = ys.length) : xorBytes (xorBytes xs ys) ys = xs := by
  have h2 : (xorB xs ys).length = ys.length := by rw [xorB_length h, h]
  rw [xorBytes, xorBytes, if_pos h, if_pos h2, xorB_back h]
theorem xorBytes_length (xs ys : List UInt8) : (xorBytes xs ys).length = if xs.length = ys.length then xs.length else 0 := by
  unfold xorBytes; split
  · rw [xorB_length (by assumption)]
  · rfl
theorem unhex_of_hex (xs : List UInt8) (w : World) (h : xs.length ≤ 300) : Calls Try.prog 17 #[.string ⟨(hexL xs).toArray⟩] w (RetBE w xs 0) := by
  have h2 := octs_unhex_all ⟨(hexL xs).toArray⟩ w (by show (hexL xs).toArray.size ≤ _; rw [List.size_toArray, hexL_length]; omega)
  have e1 : (ByteArray.mk (hexL xs).toArray).data.toList = hexL xs := by simp
  have e2 : unhexErr (hexL xs) = 0 := by rw [unhexErr, unhex_hex]; rfl
  have e3 : (unhexL (hexL xs)).getD [] = xs := by rw [unhex_hex]; rfl
  rwa [e1, e2, e3] at h2

set_option maxHeartbeats 4000000 in
theorem law_back (N : Nat) (n : Int) (A B : Option Addr) (la lb c d : Nat) (xs ys : List UInt8) (w : World) (hN : N < 18446744073709551616) (hx : RB w A la xs) (hy : RB w B lb ys)
    (hac : la ≤ c) (hcm : c ≤ maxLen) (hbd : lb ≤ d) (hdm : d ≤ maxLen) :
    Calls Try.prog 6 #[.int .u64 N, .int .i64 n, .agg #[.slice A la c, .slice B lb d]] w fun e w' => e = .returned (.bool true) ∧ Below w.heap.size w w' := by
  unfold maxLen at hcm hdm
  have hbox := (Below.refl w.heap.size w).alloc (Nat.le_refl _) (.cells #[.slice A la c, .slice B lb d] 44)
  have Hbox := Lib.hid hbox; clear hbox
  by_cases h300 : 300 < la ∨ 300 < lb
  · rcases h300 with h | h
    · go_enter Try.func6, Try.ntmps6
      go_wp2
      go_quiet (fail)
      go_wp2_with fail
      refine (alive_true _).mono ?_
      rintro e w1 ⟨rfl, hb1⟩
      go_wp2
      go_ret
      exact ⟨rfl, (below_drewN Hbox.out _).trans (hb1.mono (B' := w.heap.size) (by simp))⟩
    · by_cases h0 : 300 < la
      all_goals
        go_enter Try.func6, Try.ntmps6
        go_wp2
        go_quiet (fail)
        go_wp2_with fail
        refine (alive_true _).mono ?_
        rintro e w1 ⟨rfl, hb1⟩
        go_wp2
        go_ret
        exact ⟨rfl, (below_drewN Hbox.out _).trans (hb1.mono (B' := w.heap.size) (by simp))⟩
  · have hla : la ≤ 300 := by omega
    have hlb : lb ≤ 300 := by omega
    clear h300
    by_cases hw : 1 ≤ n ∧ n ≤ 8
    · obtain ⟨k, rfl⟩ := Int.eq_ofNat_of_zero_le (show 0 ≤ n by omega)
      obtain ⟨hk1, hk8⟩ := hw
      go_enter Try.func6, Try.ntmps6
      go_wp2
      go_quiet (fail)
      go_wp2_with fail
      refine (octs_put N k true _ (by omega) (by omega) hN).mono ?_
      rintro e w1 ⟨v1, rfl, ho1, hb1⟩
      obtain ⟨A1, c1, rfl, hc1, hm1, hr1⟩ := ho1.shape
      have Hr1 := Lib.hid hr1; clear hr1 ho1
      go_wp2_with fail
      refine (octs_get A1 k c1 _ true _ Hr1.out (by omega) (by omega)).mono ?_
      rintro e w2 ⟨rfl, hq2⟩
      rw [num_laid]
      have Hq2 := Lib.hid hq2; clear hq2
      have hbw := (below_drewN Hbox.out nq).trans (hb1.mono (B' := w.heap.size) (by simp))
      have hbw2 := below_qt hbw Hq2.out
      clear hbw hb1
      by_cases h8 : k = 8
      · subst h8
        have e8 : N % 256 ^ 8 = N := Nat.mod_eq_of_lt (by omega)
        rw [e8]
        clear e8
        go_wp2_with fail
        refine (octs_xor_all A B la lb c d xs ys _ (hx.below hbw2) (hy.below hbw2) (by omega) (by simp only [maxLen]; omega)).mono ?_
        rintro e w3 ⟨A3, n3, c3, rfl, hc3, hm3, hr3, hb3⟩
        have Hr3 := Lib.hid hr3; clear hr3
        have hb13 := hbw2.trans (hb3.mono hbw2.size)
        have hn3 : n3 = if la = lb then la else 0 := by rw [← Hr3.out.len, xorBytes_length, hx.len, hy.len]
        have Hn3 := Lib.hid hn3; clear hn3
        have hn3' : n3 ≤ 300 := by rw [Hn3.out]; split <;> omega
        clear hb3
        go_wp2_with fail
        refine (octs_xor_all A3 B n3 lb c3 d _ ys _ Hr3.out (hy.below hb13) (by omega) (by simp only [maxLen]; omega)).mono ?_
        rintro e w4 ⟨A4, n4, c4, rfl, hc4, hm4, hr4, hb4⟩
        have Hr4 := Lib.hid hr4; clear hr4
        have hb14 := hb13.trans (hb4.mono hb13.size)
        go_wp2_with fail
        refine (octs_hex A la c xs _ (hx.below hb14) (by omega)).mono ?_
        rintro e w5 ⟨rfl, hb5⟩
        have hb15 := hb14.trans (hb5.mono hb14.size)
        have Hr4' := Lib.hid (Hr4.out.below hb5)
        go_wp2_with fail
        refine (unhex_of_hex xs _ (by rw [hx.len]; omega)).mono ?_
        rintro e w6 ⟨A6, n6, c6, rfl, hc6, hm6, hr6, hb6⟩
        have Hr6 := Lib.hid hr6; clear hr6
        have hb16 := hb15.trans (hb6.mono hb15.size)
        have Hr4'' := Lib.hid (Hr4'.out.below hb6)
        have Hx6 := Lib.hid (hx.below hb16)
        have Hb16 := Lib.hid hb16
        have Lx := Lib.hid hx.len
        have Ly := Lib.hid hy.len
        clear hb16 hb15 hb14 hb13 hb4 hb5 hb6 Hr4 Hr4' Hr3 hx hy
        by_cases hll : la = lb
        · have hx0 : xorErr la lb = 0 := by simp [xorErr, hll]
          have hx1 : xorErr n3 lb = 0 := by rw [Hn3.out]; simp [xorErr, hll]
          have hzz := Hr4''.out
          rw [xorBytes_back (by rw [Lx.out, Ly.out, hll])] at hzz
          have Hzz := Lib.hid hzz
          clear hzz hll
          go_wp2_with fail
          refine (ref_same A4 A n4 la c4 c xs xs _ Hzz.out Hx6.out (by omega) (by simp only [maxLen]; omega)).mono ?_
          rintro e w7 ⟨rfl, hq7⟩
          rw [same_self]
          have Hq7 := Lib.hid hq7; clear hq7
          go_wp2_with fail
          refine (ref_same A6 A n6 la c6 c xs xs _ (Hr6.out.qt Hq7.out) (Hx6.out.qt Hq7.out) (by omega) (by simp only [maxLen]; omega)).mono ?_
          rintro e w8 ⟨rfl, hq8⟩
          rw [same_self]
          have Hq8 := Lib.hid (Hq7.out.trans hq8); clear hq8
          have hb18 := below_qt Hb16.out Hq8.out
          go_wp2_with fail
          refine (alive_true _).mono ?_
          rintro e w9 ⟨rfl, hb9⟩
          go_wp2
          go_ret
          exact ⟨rfl, hb18.trans (hb9.mono hb18.size)⟩
        · have hx0 : xorErr la lb = 1 := by simp [xorErr, hll]
          clear hll
          go_wp2_with fail
          refine (ref_same A6 A n6 la c6 c xs xs _ Hr6.out Hx6.out (by omega) (by simp only [maxLen]; omega)).mono ?_
          rintro e w8 ⟨rfl, hq8⟩
          rw [same_self]
          have hb18 := below_qt Hb16.out hq8
          clear hq8
          go_wp2_with fail
          refine (alive_true _).mono ?_
          rintro e w9 ⟨rfl, hb9⟩
          go_wp2
          go_ret
          exact ⟨rfl, hb18.trans (hb9.mono hb18.size)⟩
      · have hk7 : k ≤ 7 := by omega
        obtain ⟨M, hM⟩ : ∃ M, M = N % 256 ^ k := ⟨_, rfl⟩
        rw [← hM]
        have hmod : (N : Int) % IntKind.u64.wrap (2 ^ (8 * k)) = (M : Int) := by
          rw [hM, Int.natCast_emod]
          congr 1
          have := or_shl 0 1 k (Nat.pow_pos (by omega)) (by omega) hk7
          have e : (2 : Int) ^ (8 * k) = ((256 ^ k : Nat) : Int) := by rw [Int.pow_mul]; simp
          have hp := pow256_le hk7
          rw [e, IntKind.wrap_u64, Int.emod_eq_of_lt (by omega) (by omega)]
        have hnz : ¬ IntKind.u64.wrap (2 ^ (8 * k)) = 0 := by
          have e : (2 : Int) ^ (8 * k) = ((256 ^ k : Nat) : Int) := by rw [Int.pow_mul]; simp
          have hp := pow256_le hk7
          have hq : 0 < 256 ^ k := Nat.pow_pos (by omega)
          rw [e, IntKind.wrap_u64, Int.emod_eq_of_lt (by omega) (by omega)]
          omega
        clear hM h8
        go_wp2_with fail
        refine (octs_xor_all A B la lb c d xs ys _ (hx.below hbw2) (hy.below hbw2) (by omega) (by simp only [maxLen]; omega)).mono ?_
        rintro e w3 ⟨A3, n3, c3, rfl, hc3, hm3, hr3, hb3⟩
        have Hr3 := Lib.hid hr3; clear hr3
        have hb13 := hbw2.trans (hb3.mono hbw2.size)
        have hn3 : n3 = if la = lb then la else 0 := by rw [← Hr3.out.len, xorBytes_length, hx.len, hy.len]
        have Hn3 := Lib.hid hn3; clear hn3
        have hn3' : n3 ≤ 300 := by rw [Hn3.out]; split <;> omega
        clear hb3
        go_wp2_with fail
        refine (octs_xor_all A3 B n3 lb c3 d _ ys _ Hr3.out (hy.below hb13) (by omega) (by simp only [maxLen]; omega)).mono ?_
        rintro e w4 ⟨A4, n4, c4, rfl, hc4, hm4, hr4, hb4⟩
        have Hr4 := Lib.hid hr4; clear hr4
        have hb14 := hb13.trans (hb4.mono hb13.size)
        go_wp2_with fail
        refine (octs_hex A la c xs _ (hx.below hb14) (by omega)).mono ?_
        rintro e w5 ⟨rfl, hb5⟩
        have hb15 := hb14.trans (hb5.mono hb14.size)
        have Hr4' := Lib.hid (Hr4.out.below hb5)
        go_wp2_with fail
        refine (unhex_of_hex xs _ (by rw [hx.len]; omega)).mono ?_
        rintro e w6 ⟨A6, n6, c6, rfl, hc6, hm6, hr6, hb6⟩
        have Hr6 := Lib.hid hr6; clear hr6
        have hb16 := hb15.trans (hb6.mono hb15.size)
        have Hr4'' := Lib.hid (Hr4'.out.below hb6)
        have Hx6 := Lib.hid (hx.below hb16)
        have Hb16 := Lib.hid hb16
        have Lx := Lib.hid hx.len
        have Ly := Lib.hid hy.len
        clear hb16 hb15 hb14 hb13 hb4 hb5 hb6 Hr4 Hr4' Hr3 hx hy
        by_cases hll : la = lb
        · have hx0 : xorErr la lb = 0 := by simp [xorErr, hll]
          have hx1 : xorErr n3 lb = 0 := by rw [Hn3.out]; simp [xorErr, hll]
          have hzz := Hr4''.out
          rw [xorBytes_back (by rw [Lx.out, Ly.out, hll])] at hzz
          have Hzz := Lib.hid hzz
          clear hzz hll
          go_wp2_with fail
          refine (ref_same A4 A n4 la c4 c xs xs _ Hzz.out Hx6.out (by omega) (by simp only [maxLen]; omega)).mono ?_
          rintro e w7 ⟨rfl, hq7⟩
          rw [same_self]
          have Hq7 := Lib.hid hq7; clear hq7
          go_wp2_with fail
          refine (ref_same A6 A n6 la c6 c xs xs _ (Hr6.out.qt Hq7.out) (Hx6.out.qt Hq7.out) (by omega) (by simp only [maxLen]; omega)).mono ?_
          rintro e w8 ⟨rfl, hq8⟩
          rw [same_self]
          have Hq8 := Lib.hid (Hq7.out.trans hq8); clear hq8
          have hb18 := below_qt Hb16.out Hq8.out
          go_wp2_with fail
          refine (alive_true _).mono ?_
          rintro e w9 ⟨rfl, hb9⟩
          go_wp2
          go_ret
          exact ⟨rfl, hb18.trans (hb9.mono hb18.size)⟩
        · have hx0 : xorErr la lb = 1 := by simp [xorErr, hll]
          clear hll
          go_wp2_with fail
          refine (ref_same A6 A n6 la c6 c xs xs _ Hr6.out Hx6.out (by omega) (by simp only [maxLen]; omega)).mono ?_
          rintro e w8 ⟨rfl, hq8⟩
          rw [same_self]
          have hb18 := below_qt Hb16.out hq8
          clear hq8
          go_wp2_with fail
          refine (alive_true _).mono ?_
          rintro e w9 ⟨rfl, hb9⟩
          go_wp2
          go_ret
          exact ⟨rfl, hb18.trans (hb9.mono hb18.size)⟩
    · have hno : putErr n = 1 := by simp [putErr, InW, hw]
      go_enter Try.func6, Try.ntmps6
      go_wp2
      go_quiet (fail)
      go_wp2_with fail
      refine (octs_put_all N n true _ hN).mono ?_
      rintro e w1 ⟨A1, n1, c1, rfl, hc1, hm1, hr1, hb1⟩
      have Hr1 := Lib.hid hr1; clear hr1
      have hbw := (below_drewN Hbox.out nq).trans (hb1.mono (B' := w.heap.size) (by simp))
      go_wp2_with fail
      refine (octs_get_all A1 n1 c1 _ true _ Hr1.out (by omega)).mono ?_
      rintro e w2 ⟨rfl, hb2⟩
      have hbw2 := hbw.trans (hb2.mono hbw.size)
      clear hbw hb1 hb2
      go_wp2_with fail
      refine (octs_xor_all A B la lb c d xs ys _ (hx.below hbw2) (hy.below hbw2) (by omega) (by simp only [maxLen]; omega)).mono ?_
      rintro e w3 ⟨A3, n3, c3, rfl, hc3, hm3, hr3, hb3⟩
      have Hr3 := Lib.hid hr3; clear hr3
      have hb13 := hbw2.trans (hb3.mono hbw2.size)
      have hn3 : n3 = if la = lb then la else 0 := by rw [← Hr3.out.len, xorBytes_length, hx.len, hy.len]
      have Hn3 := Lib.hid hn3; clear hn3
      have hn3' : n3 ≤ 300 := by rw [Hn3.out]; split <;> omega
      clear hb3
      go_wp2_with fail
      refine (octs_xor_all A3 B n3 lb c3 d _ ys _ Hr3.out (hy.below hb13) (by omega) (by simp only [maxLen]; omega)).mono ?_
      rintro e w4 ⟨A4, n4, c4, rfl, hc4, hm4, hr4, hb4⟩
      have Hr4 := Lib.hid hr4; clear hr4
      have hb14 := hb13.trans (hb4.mono hb13.size)
      go_wp2_with fail
      refine (octs_hex A la c xs _ (hx.below hb14) (by omega)).mono ?_
      rintro e w5 ⟨rfl, hb5⟩
      have hb15 := hb14.trans (hb5.mono hb14.size)
      have Hr4' := Lib.hid (Hr4.out.below hb5)
      go_wp2_with fail
      refine (unhex_of_hex xs _ (by rw [hx.len]; omega)).mono ?_
      rintro e w6 ⟨A6, n6, c6, rfl, hc6, hm6, hr6, hb6⟩
      have Hr6 := Lib.hid hr6; clear hr6
      have hb16 := hb15.trans (hb6.mono hb15.size)
      have Hr4'' := Lib.hid (Hr4'.out.below hb6)
      have Hx6 := Lib.hid (hx.below hb16)
      have Hb16 := Lib.hid hb16
      have Lx := Lib.hid hx.len
      have Ly := Lib.hid hy.len
      clear hb16 hb15 hb14 hb13 hb4 hb5 hb6 Hr4 Hr4' Hr3 hx hy
      by_cases hll : la = lb
      · have hx0 : xorErr la lb = 0 := by simp [xorErr, hll]
        have hx1 : xorErr n3 lb = 0 := by rw [Hn3.out]; simp [xorErr, hll]
        have hzz := Hr4''.out
        rw [xorBytes_back (by rw [Lx.out, Ly.out, hll])] at hzz
        have Hzz := Lib.hid hzz
        clear hzz hll
        go_wp2_with fail
        refine (ref_same A4 A n4 la c4 c xs xs _ Hzz.out Hx6.out (by omega) (by simp only [maxLen]; omega)).mono ?_
        rintro e w7 ⟨rfl, hq7⟩
        rw [same_self]
        have Hq7 := Lib.hid hq7; clear hq7
        go_wp2_with fail
        refine (ref_same A6 A n6 la c6 c xs xs _ (Hr6.out.qt Hq7.out) (Hx6.out.qt Hq7.out) (by omega) (by simp only [maxLen]; omega)).mono ?_
        rintro e w8 ⟨rfl, hq8⟩
        rw [same_self]
        have Hq8 := Lib.hid (Hq7.out.trans hq8); clear hq8
        have hb18 := below_qt Hb16.out Hq8.out
        go_wp2_with fail
        refine (alive_true _).mono ?_
        rintro e w9 ⟨rfl, hb9⟩
        go_wp2
        go_ret
        exact ⟨rfl, hb18.trans (hb9.mono hb18.size)⟩
      · have hx0 : xorErr la lb = 1 := by simp [xorErr, hll]
        clear hll
        go_wp2_with fail
        refine (ref_same A6 A n6 la c6 c xs xs _ Hr6.out Hx6.out (by omega) (by simp only [maxLen]; omega)).mono ?_
        rintro e w8 ⟨rfl, hq8⟩
        rw [same_self]
        have hb18 := below_qt Hb16.out hq8
        clear hq8
        go_wp2_with fail
        refine (alive_true _).mono ?_
        rintro e w9 ⟨rfl, hb9⟩
        go_wp2
        go_ret
        exact ⟨rfl, hb18.trans (hb9.mono hb18.size)⟩
end Go.Proofs.Ytneapgelfknlgaa
