/-
  Contracts: powers, roots, their bits, by the document.
-/
import Derived.Test.YtkndelbnjhkbcaaRef02b
import Derived.Test.YtkndelbnjhkbcaaRoots2
namespace Go.Proofs.Ytkndelbnjhkbcaa
open Go.RowKit
set_option linter.unusedVariables false

theorem RV.ofOwn {E : TypeId} {w : World} {base n : Nat} {A : Option Addr} {c : Nat} {vs : List Value} (h : OV E w base (.slice A n c) n vs) : RV w A n vs ∧ n ≤ c ∧ c ≤ maxLen := by
  obtain ⟨A', c', he, h1, h2, h3⟩ := h.shape
  injection he with e1 e2 e3
  subst e1 e3
  exact ⟨h3, h1, h2⟩

set_option maxRecDepth 100000 in
set_option maxHeartbeats 1000000 in
theorem ref_most (n s : Nat) (w : World) (hn : n < 18446744073709551616) (hs : s ≤ 1000) :
    Calls Try.prog 40 #[.int .u64 n, .int .i64 s] w (RetDig w fun l => nval l = n * 2 ^ s ∧ l.length ≤ 4 + 2 * s) := by
  go_enter Try.func40, Try.ntmps40
  go_wp2_with fail
  refine (ref_digits n _ hn).mono ?_
  rintro e w1 ⟨v, l, rfl, hown, hd, ⟨hv, hl⟩, hb1⟩
  have Hown := Lib.hid hown; clear hown
  have Hd := Lib.hid hd; clear hd
  have Hv := Lib.hid hv; clear hv
  go_wp2
  go_loopw [5, 6] (fun v i wr => ∃ (k : Nat) (l : List Nat), k ≤ s ∧ i = .int .i64 k ∧ OV 22 wr w.heap.size v l.length (l.map uv) ∧ Digs l ∧ nval l = n * 2 ^ k ∧ l.length ≤ 4 + 2 * k ∧ Below w.heap.size w wr) (fun _ i _ => s - (intOf i).toNat)
  case atStart => exact ⟨0, l, Nat.zero_le _, rfl, Hown.out, Hd.out, by rw [Hv.out]; simp, by omega, hb1⟩
  case round =>
    clear hl Hd Hown Hv
    obtain ⟨k, l, hk, rfl, hown, hd, hv, hl, hbel⟩ := hrel
    have Hd := Lib.hid hd; clear hd
    have Hv := Lib.hid hv; clear hv
    by_cases hlt : k < s
    · obtain ⟨A, c, rfl, hnc, hcm, hrv⟩ := hown.shape
      have hll : l.length = (l.map uv).length := by simp
      have Hrv := Lib.hid hrv; clear hrv hll hown
      have hsz := hbel.size
      have hbA := hbel.alloc hsz (.cells #[.int .u64 2] 22)
      have HbA := Lib.hid hbA; clear hbA
      have ct := fun (B : Option Addr) (d : Nat) (w' : World) (h1 : RV w' A l.length (l.map uv)) (h2 : RV w' B 1 [.int .u64 2]) =>
        ref_times A B l [2] c d w' h1 h2 Hd.out (fun x hx => by simp at hx; omega) (by omega) (by simp)
      go_wp2_with fail
      refine (ct _ _ _ (Hrv.out.below ((Below.refl _ _).alloc (Nat.le_refl _) _)) (RV.one_ _ _ _ _ (by simp))).mono ?_
      rintro e w2 ⟨v2, l2, rfl, hown2, hd2, ⟨hv2, hl2⟩, hb2⟩
      have Hown2 := Lib.hid hown2; clear hown2
      have Hd2 := Lib.hid hd2; clear hd2
      have Hv2 := Lib.hid hv2; clear hv2
      have hl2' : l2.length = l.length + 2 := by rw [hl2]; simp
      have Hl2 := Lib.hid hl2'; clear hl2 hl2'
      have hb12 := HbA.out.trans (hb2.mono HbA.out.size)
      clear hb2
      go_wp2
      go_roundw
      case rel =>
        refine ⟨k + 1, l2, by omega, by go_num, Hown2.out.more (by simp; omega), Hd2.out, ?_, by rw [Hl2.out]; omega, hb12⟩
        rw [Hv2.out, Hv.out, Nat.pow_succ, Nat.mul_assoc]; simp [nval]
      case measure => simp [intOf] <;> omega
    · obtain rfl : k = s := by omega
      go_wp2
      go_ret
      exact RetDig.of hown Hd.out ⟨Hv.out, hl⟩ hbel

set_option maxRecDepth 100000 in
set_option maxHeartbeats 1000000 in
theorem ref_power (x d : Nat) (w : World) (hx : x < 18446744073709551616) (hd3 : d ≤ 3) :
    Calls Try.prog 42 #[.int .u64 x, .int .i64 d] w (RetDig w fun l => nval l = x ^ d ∧ l.length ≤ 1 + 5 * d) := by
  go_enter Try.func42, Try.ntmps42
  go_wp2
  go_loopw [5, 6] (fun v i wr => ∃ (k : Nat) (l : List Nat), k ≤ d ∧ i = .int .i64 k ∧ (∃ A c, v = .slice A l.length c ∧ RV wr A l.length (l.map uv)) ∧ Digs l ∧ nval l = x ^ k ∧ l.length ≤ 1 + 5 * k ∧ Below w.heap.size w wr ∧ OV 22 wr w.heap.size v l.length (l.map uv)) (fun _ i _ => d - (intOf i).toNat)
  case atStart =>
    refine ⟨0, [1], Nat.zero_le _, rfl, ⟨_, 1, rfl, RV.one_ _ _ _ _ rfl⟩, fun x hx => by simp at hx; omega, by simp [nval], by simp, (Below.refl _ _).alloc (Nat.le_refl _) _, ?_⟩
    refine ⟨rfl, .inr ⟨w.heap.size, 1, _, rfl, Nat.le_refl _, heap_alloc_new w _, Nat.le_refl _, by simp [maxLen], rfl, rfl⟩⟩
  case round =>
    obtain ⟨k, l, hk, rfl, ⟨A, c, rfl, hrv⟩, hd, hv, hl, hbel, hown⟩ := hrel
    have Hd := Lib.hid hd; clear hd
    have Hv := Lib.hid hv; clear hv
    have Hrv := Lib.hid hrv; clear hrv
    have Hown := Lib.hid hown; clear hown
    by_cases hlt : k < d
    · go_wp2_with fail
      refine (ref_digits x _ hx).mono ?_
      rintro e w1 ⟨v1, l1, rfl, hown1, hd1, ⟨hv1, hl1⟩, hb1⟩
      obtain ⟨B, c1, rfl, hnc1, hcm1, hrv1⟩ := hown1.shape
      have Hrv1 := Lib.hid hrv1; clear hrv1 hown1
      have Hd1 := Lib.hid hd1; clear hd1
      have Hv1 := Lib.hid hv1; clear hv1
      have hbel1 := hbel.trans (hb1.mono hbel.size)
      go_wp2_with fail
      refine (ref_times A B l l1 c c1 _ (Hrv.out.below hb1) Hrv1.out Hd.out Hd1.out (by omega) (by omega)).mono ?_
      rintro e w2 ⟨v2, l2, rfl, hown2, hd2, ⟨hv2, hl2⟩, hb2⟩
      obtain ⟨A2, c2, rfl, hnc2, hcm2, hrv2⟩ := hown2.shape
      have Hrv2 := Lib.hid hrv2; clear hrv2
      have Hown2 := Lib.hid hown2; clear hown2
      have Hd2 := Lib.hid hd2; clear hd2
      have Hv2 := Lib.hid hv2; clear hv2
      have Hl2 := Lib.hid hl2; clear hl2
      have hbel2 := hbel1.trans (hb2.mono hbel1.size)
      clear hb2 hb1
      go_wp2
      go_roundw
      case rel =>
        refine ⟨k + 1, l2, by omega, by go_num, ⟨_, _, rfl, Hrv2.out⟩, Hd2.out, ?_, by rw [Hl2.out]; omega, hbel2, Hown2.out.more hbel1.size⟩
        rw [Hv2.out, Hv.out, Hv1.out, Nat.pow_succ]
      case measure => simp [intOf] <;> omega
    · obtain rfl : k = d := by omega
      go_wp2
      go_ret
      exact RetDig.of Hown.out Hd.out ⟨Hv.out, hl⟩ hbel

set_option maxHeartbeats 400000 in
theorem ref02_may_yes (n d b : Nat) (w : World) (h : MayRoot n d b) :
    Calls Try.prog 39 #[.int .i64 n, .int .i64 d, .int .i64 b] w fun e w' => e = .returned (.bool true) ∧ w = w' := by
  obtain ⟨h1, h2, h3⟩ := h
  rcases h2 with rfl | rfl
  all_goals
    go_enter Try.func39, Try.ntmps39
    go_wp2
    go_ret
    first | exact ⟨rfl, rfl⟩ | exact ⟨ret_bool (by simp; omega), rfl⟩
set_option maxHeartbeats 1000000 in
theorem ref02_may_no (n d b : Int) (w : World) (h : ¬ MayRootI n d b) :
    Calls Try.prog 39 #[.int .i64 n, .int .i64 d, .int .i64 b] w fun e w' => e = .returned (.bool false) ∧ w = w' := by
  unfold MayRootI at h
  by_cases h1 : 0 ≤ n
  · by_cases h2 : n ≤ 1000
    · by_cases h3 : d = 2 ∨ d = 3
      · by_cases h4 : 0 ≤ b
        · have h5 : 32 < b := by omega
          clear h
          rcases h3 with rfl | rfl
          all_goals
            go_enter Try.func39, Try.ntmps39
            go_wp2
            go_ret
            first | exact ⟨rfl, rfl⟩ | exact ⟨ret_bool (by simp; omega), rfl⟩
        · clear h
          rcases h3 with rfl | rfl
          all_goals
            go_enter Try.func39, Try.ntmps39
            go_wp2
            go_ret
            first | exact ⟨rfl, rfl⟩ | exact ⟨ret_bool (by simp; omega), rfl⟩
      · have a1 : (d == 2) = false := by simp; omega
        have a2 : (d == 3) = false := by simp; omega
        clear h h3
        go_enter Try.func39, Try.ntmps39
        go_wp2
        go_ret
        first | exact ⟨rfl, rfl⟩ | exact ⟨ret_bool (by simp; omega), rfl⟩
    · clear h
      go_enter Try.func39, Try.ntmps39
      go_wp2
      go_ret
      first | exact ⟨rfl, rfl⟩ | exact ⟨ret_bool (by simp; omega), rfl⟩
  · clear h
    go_enter Try.func39, Try.ntmps39
    go_wp2
    go_ret
    first | exact ⟨rfl, rfl⟩ | exact ⟨ret_bool (by simp; omega), rfl⟩
end Go.Proofs.Ytkndelbnjhkbcaa
