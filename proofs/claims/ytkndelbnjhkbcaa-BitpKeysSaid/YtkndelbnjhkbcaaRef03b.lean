/-
  Contracts: words permuted, turned and split, by the document.
-/
import Derived.Test.YtkndelbnjhkbcaaRef03a
import Derived.Test.YtkndelbnjhkbcaaTurnPlain
namespace Go.Proofs.Ytkndelbnjhkbcaa
open Go.RowKit
set_option linter.unusedVariables false

theorem Bytes2.take {bs : List UInt8} (h : Bytes2 bs) (k : Nat) : Bytes2 (bs.take k) := fun b hb => h b (List.mem_of_mem_take hb)
theorem Bytes2.drop {bs : List UInt8} (h : Bytes2 bs) (k : Nat) : Bytes2 (bs.drop k) := fun b hb => h b (List.mem_of_mem_drop hb)
theorem Bytes2.append {a b : List UInt8} (h : Bytes2 a) (k : Bytes2 b) : Bytes2 (a ++ b) := fun x hx => (List.mem_append.1 hx).elim (h x) (k x)
theorem quiet_left' {P : Program} {f : FuncId} {args : Array Value} {w : World} {n : Nat} {v : Value}
    (h : Calls P f args (w.drewN n) fun e w' => e = .returned v ∧ w.drewN n = w') : Calls P f args (w.drewN n) fun e w'' => e = .returned v ∧ ∃ m, w'' = w.drewN m := quiet_left h

set_option maxRecDepth 100000 in
set_option maxHeartbeats 1000000 in
theorem ref_split_yes (x W t : Nat) (w : World) (hx : x < 18446744073709551616) (h1 : 1 ≤ W) (h2 : W ≤ 64) (h3 : t ≤ W) :
    Calls Try.prog 26 #[.int .u64 x, .int .i64 W, .int .i64 t] w fun e w' => e = .returned (.tuple #[.int .u64 (x % 2 ^ W / 2 ^ (W - t) : Nat), .int .u64 (x % 2 ^ (W - t) : Nat), .int .i64 0]) ∧ Below w.heap.size w w' := by
  have e1 := word_head (x := x) h3
  have e2 := word_tail (x := x) h3
  obtain ⟨p, hp⟩ : ∃ p, p = x % 2 ^ W / 2 ^ (W - t) := ⟨_, rfl⟩
  obtain ⟨q, hq⟩ : ∃ q, q = x % 2 ^ (W - t) := ⟨_, rfl⟩
  rw [← hp] at e1 ⊢
  rw [← hq] at e2 ⊢
  have hb2 := rowB_two x W
  have hrow := fun w => ref_row x W w hx h2
  obtain ⟨R, hR⟩ : ∃ R, R = rowB x W := ⟨_, rfl⟩
  rw [← hR] at e1 e2 hb2
  simp only [← hR] at hrow
  clear hp hq hR
  have E1 := Lib.hid e1; clear e1
  have E2 := Lib.hid e2; clear e2
  have Hb2 := Lib.hid hb2; clear hb2
  have Hrow := Lib.hid hrow; clear hrow
  by_cases htW : t = W
  · obtain rfl : t = W := htW
    go_enter Try.func26, Try.ntmps26
    go_wp2_with fail
    refine (ref_wide_yes t _ (by omega) (by omega)).mono ?_
    rintro e w' ⟨rfl, rfl⟩
    go_wp2_with fail
    refine (Hrow.out _).mono ?_
    rintro e w1 ⟨g, rfl, hown, hb1⟩
    have hrb := (RB.ofOwn hown).1
    have hr1 := hrb.upto (Nat.le_refl t)
    have hr2 : RB w1 (some ⟨g, 0, none⟩) 0 (R.drop t) := by
      rw [List.drop_of_length_le (by rw [hrb.len]; exact Nat.le_refl _)]; exact RB.nil _ _
    have hB1 := Hb2.out.take t
    have hB2 := Hb2.out.drop t
    have Hr1 := Lib.hid hr1; clear hr1
    have Hr2 := Lib.hid hr2; clear hr2
    have HB1 := Lib.hid hB1; clear hB1
    have HB2 := Lib.hid hB2; clear hB2
    clear hrb hown
    go_wp2
    go_quiet ((go_at_call 48; exact quiet_left (ref_word _ _ _ _ _ (by first | exact Hr1.out.drewN _ | exact Hr2.out.drewN _) (by first | exact HB1.out | exact HB2.out) (by omega))))
    go_wp2
    go_ret3
    refine ⟨ret3 (int_eq ?_) (int_eq ?_) rfl, below_drewN hb1 _⟩
    · rw [← E1.out]
    · rw [← E2.out]
  · have htl : t < W := by omega
    clear htW
    go_enter Try.func26, Try.ntmps26
    go_wp2_with fail
    refine (ref_wide_yes W _ (by omega) (by omega)).mono ?_
    rintro e w' ⟨rfl, rfl⟩
    go_wp2_with fail
    refine (Hrow.out _).mono ?_
    rintro e w1 ⟨g, rfl, hown, hb1⟩
    have hrb := (RB.ofOwn hown).1
    have hr1 := hrb.upto (Nat.le_of_lt htl)
    have hr2 := hrb.from_ (c := W) (Nat.le_of_lt htl) (Nat.le_refl _)
    rw [if_neg (by omega)] at hr2
    have hr2' : RB w1 (some ⟨g, t, none⟩) (W - t) (R.drop t) := by
      have e : Option.map (fun x => Addr.add x t) (some ⟨g, 0, none⟩) = some ⟨g, t, none⟩ := by
        unfold Addr.add; simp; omega
      rw [e] at hr2; exact hr2
    have hB1 := Hb2.out.take t
    have hB2 := Hb2.out.drop t
    have Hr1 := Lib.hid hr1; clear hr1
    have Hr2 := Lib.hid hr2'; clear hr2 hr2'
    have HB1 := Lib.hid hB1; clear hB1
    have HB2 := Lib.hid hB2; clear hB2
    clear hrb hown
    have hsub : ((W : Int) - (t : Int)).toNat = W - t := by omega
    go_wp2
    go_quiet ((go_at_call 48; exact quiet_left (ref_word _ _ _ _ _ (by first | exact Hr1.out.drewN _ | exact Hr2.out.drewN _) (by first | exact HB1.out | exact HB2.out) (by omega))))
    go_wp2
    go_ret3
    refine ⟨ret3 (int_eq ?_) (int_eq ?_) rfl, below_drewN hb1 _⟩
    · rw [← E1.out]
    · rw [← E2.out]
theorem ref_split_no (x W t : Int) (w : World) (h : ¬ (MayW W ∧ 0 ≤ t ∧ t ≤ W)) :
    Calls Try.prog 26 #[.int .u64 x, .int .i64 W, .int .i64 t] w fun e w' => e = .returned (.tuple #[.int .u64 0, .int .u64 0, .int .i64 1]) ∧ w = w' := by
  by_cases hW : MayW W
  · have hW' := hW
    obtain ⟨g1, g2⟩ := hW
    by_cases h1 : 0 ≤ t
    · have h2 : W < t := by
        rcases Int.lt_or_le W t with h2 | h2
        · exact h2
        · exact absurd ⟨hW', h1, h2⟩ h
      clear h hW'
      go_enter Try.func26, Try.ntmps26
      go_wp2_with fail
      refine (ref_wide_yes W _ g1 g2).mono ?_
      rintro e w' ⟨rfl, rfl⟩
      go_wp2
      go_ret3
      exact ⟨rfl, rfl⟩
    · clear h hW'
      go_enter Try.func26, Try.ntmps26
      go_wp2_with fail
      refine (ref_wide_yes W _ g1 g2).mono ?_
      rintro e w' ⟨rfl, rfl⟩
      go_wp2
      go_ret3
      exact ⟨rfl, rfl⟩
  · clear h
    have HW := Lib.hid hW; clear hW
    go_enter Try.func26, Try.ntmps26
    go_wp2_with fail
    refine (ref_wide_no W _ HW.out).mono ?_
    rintro e w' ⟨rfl, rfl⟩
    go_wp2
    go_ret3
    exact ⟨rfl, rfl⟩
theorem ref_turn_no (x W n : Int) (w : World) (h : ¬ MayW W) :
    Calls Try.prog 24 #[.int .u64 x, .int .i64 W, .int .i64 n] w fun e w' => e = .returned (.tuple #[.int .u64 0, .int .i64 1]) ∧ w = w' := by
  have HW := Lib.hid h; clear h
  go_enter Try.func24, Try.ntmps24
  go_wp2_with fail
  refine (ref_wide_no W _ HW.out).mono ?_
  rintro e w' ⟨rfl, rfl⟩
  go_wp2
  go_ret2
  exact ⟨rfl, rfl⟩
theorem tmod_shift {n W : Int} (hW : 0 < W) : (n.tmod W + W) % W = n % W := by
  obtain ⟨g1, g2, g3, g4⟩ := tmod_fix (n := n) hW
  rw [Int.add_emod_right]
  rcases Int.lt_or_le (n.tmod W) 0 with h | h
  · rw [← g3 h, ← Int.add_emod_right, Int.emod_eq_of_lt (by omega) (by omega)]
  · rw [← g4 h, Int.emod_eq_of_lt h g2]
set_option maxRecDepth 100000 in
set_option maxHeartbeats 2000000 in
theorem ref_turn_yes (x W : Nat) (n : Int) (w : World) (hx : x < 18446744073709551616) (h1 : 1 ≤ W) (h2 : W ≤ 64) :
    Calls Try.prog 24 #[.int .u64 x, .int .i64 W, .int .i64 n] w fun e w' => e = .returned (.tuple #[.int .u64 (turnW x W (n % (W : Int)).toNat : Nat), .int .i64 0]) ∧ Below w.heap.size w w' := by
  obtain ⟨g1, g2, _, _⟩ := tmod_fix (n := n) (W := (W : Int)) (by omega)
  have hsh := tmod_shift (n := n) (W := (W : Int)) (by omega)
  obtain ⟨r, hr⟩ : ∃ r, r = n.tmod (W : Int) := ⟨_, rfl⟩
  rw [← hr] at g1 g2 hsh
  have hr' : n.tmod (W : Int) = r := hr.symm
  clear hr
  have hn0 := Int.emod_nonneg n (by omega : (W : Int) ≠ 0)
  have hn1 := Int.emod_lt_of_pos n (by omega : (0 : Int) < (W : Int))
  obtain ⟨l, hl⟩ : ∃ l, l = (n % (W : Int)).toNat := ⟨_, rfl⟩
  rw [← hl]
  have hlW : l < W := by omega
  have hsh' : (r + (W : Int)) % (W : Int) = (l : Int) := by omega
  clear hl hn0 hn1 hsh
  have hE := word_turn (x := x) (W := W) (t := l) (by omega)
  obtain ⟨T, hT⟩ : ∃ T, T = turnW x W l := ⟨_, rfl⟩
  rw [← hT] at hE ⊢
  have hb2 := rowB_two x W
  have hrow := fun w => ref_row x W w hx h2
  obtain ⟨R, hR⟩ : ∃ R, R = rowB x W := ⟨_, rfl⟩
  rw [← hR] at hE hb2
  simp only [← hR] at hrow
  clear hT hR
  have HE := Lib.hid hE; clear hE
  have Hb2 := Lib.hid hb2; clear hb2
  have Hrow := Lib.hid hrow; clear hrow
  go_enter Try.func24, Try.ntmps24
  go_wp2_with fail
  refine (ref_wide_yes W _ (by omega) (by omega)).mono ?_
  rintro e w' ⟨rfl, rfl⟩
  go_wp2_with fail
  refine (Hrow.out _).mono ?_
  rintro e w1 ⟨g, rfl, hown, hb1⟩
  have hrb := (RB.ofOwn hown).1
  have hr1 := hrb.upto (Nat.le_of_lt hlW)
  have hr2 := hrb.from_ (c := W) (Nat.le_of_lt hlW) (Nat.le_refl _)
  rw [if_neg (by omega)] at hr2
  have hr2' : RB w1 (some ⟨g, l, none⟩) (W - l) (R.drop l) := by
    have e : Option.map (fun x => Addr.add x l) (some ⟨g, 0, none⟩) = some ⟨g, l, none⟩ := by
      unfold Addr.add; simp; omega
    rw [e] at hr2; exact hr2
  have hB := (Hb2.out.drop l).append (Hb2.out.take l)
  have Hr1 := Lib.hid hr1; clear hr1
  have Hr2 := Lib.hid hr2'; clear hr2 hr2'
  have HB := Lib.hid hB; clear hB
  clear hrb hown
  have hsub : ((W : Int) - (l : Int)).toNat = W - l := by omega
  go_wp2
  have b1 : (0 : Int) ≤ (l : Int) := by omega
  have b2 : (l : Int) ≤ (W : Int) := by omega
  have b3 : ((l : Int)).toNat = l := rfl
  have b4 : ((W : Int)).toNat = W := rfl
  have b5 : ¬ W = l := by omega
  have b6 : l ≤ W := by omega
  have tok1 : True := trivial
  have tok2 : True := trivial
  have tok3 : True := trivial
  go_region_law (first
    | (have _t := tok1; refine step_appb _ rfl (.const (.slice none 0 0)) (.tmp 25) rfl w1.heap.size _ _ _ rfl (OB.nil _ _) _ _ _ _ rfl Hr2.out (by omega) (by simp) ?_; intro v1 w2 hown1 hg1 hat1; have hbl1 := (Below.refl w1.heap.size w1).drew.grown hg1 (by simp) (fun j hj => by cases hj); have Hown1 := Lib.hid hown1; clear hown1 hg1 hat1 tok1 _t)
    | (have _t := tok2; have _s := hbl1; refine step_appb _ rfl (.tmp 26) (.tmp 29) rfl w1.heap.size _ _ _ rfl Hown1.out _ _ _ _ rfl (Hr1.out.below hbl1) (by omega) hbl1.size ?_; intro v2 w3 hown2 hg2 hat2; rw [show 0 + (W - l) + l = W by omega, List.nil_append] at hown2; have hbl2 := hbl1.grown hg2 hbl1.size (fun j hj => (Hown1.out.lt j hj).1); obtain ⟨A3, c3, rfl, hnc3, hcm3, hrb3⟩ := hown2.shape; have Hrb3 := Lib.hid hrb3; clear hown2 hg2 hat2 hrb3 tok2 _t _s)
    | (have _s := Hrb3; go_simp; go_at_call 48; refine (ref_word _ _ _ _ _ Hrb3.out HB.out (by omega)).mono ?_; rintro e w4 ⟨rfl, rfl⟩))
  all_goals
    go_wp2
    go_ret2
    exact ⟨ret2 (int_eq (by rw [← HE.out])) rfl, hb1.trans (hbl2.mono hb1.size)⟩
end Go.Proofs.Ytkndelbnjhkbcaa
