/-
  Walk: each byte of a key that is spread has an odd number of bits that are 1; so has each byte that is made odd.
-/
import Derived.Test.YtkndelbnjhkbcaaLawA03
namespace Go.Proofs.Ytkndelbnjhkbcaa
open Go.RowKit
set_option linter.unusedVariables false

/-- An array of bytes in memory reads as its bytes. -/
theorem RB.arr (w : World) (bs : List UInt8) (t : TypeId) (g : Nat) (hg : g = w.heap.size) : RB (w.alloc (.cells (bs.map bv).toArray t)) (some ⟨g, 0, none⟩) bs.length bs := by
  subst hg
  refine ⟨rfl, fun _ => ⟨_, rfl, by simp, fun j b hj => ?_⟩⟩
  have : (⟨w.heap.size, 0, none⟩ : Addr).add j = ⟨w.heap.size, j, none⟩ := by unfold Addr.add; split <;> simp_all
  rw [this, World.cell?_alloc_at _ _ _ _ rfl]
  simp [hj, bv]
/-- How many of the lowest bits of a byte are 1. -/
def onesTo (c i : Nat) : Nat := ((List.range i).map fun j => c / 2 ^ j % 2).sum
theorem onesTo_succ (c i : Nat) : onesTo c (i + 1) = onesTo c i + c / 2 ^ i % 2 := by
  unfold onesTo; rw [List.range_succ, List.map_append, List.sum_append]; simp
theorem onesTo_le (c i : Nat) : onesTo c i ≤ i := by
  induction i with
  | zero => simp [onesTo]
  | succ i ih => rw [onesTo_succ]; omega
theorem odd_onesTo : ∀ n : Nat, n < 256 → onesTo (oddN n) 8 % 2 = 1 := by decide +kernel
theorem spread_odd {bs : List UInt8} (h : bs.length = 7) {s : UInt8} (hs : s ∈ spreadB bs) : onesTo s.toNat 8 % 2 = 1 := by
  unfold spreadB at hs
  obtain ⟨t, ht, rfl⟩ := List.mem_map.1 hs
  have := packed7_lt h ht
  have h2 := oddN_lt (2 * t.toNat) (by omega)
  have e : (UInt8.ofNat (oddN (2 * t.toNat))).toNat = oddN (2 * t.toNat) := by rw [UInt8.toNat_ofNat']; omega
  rw [e]
  exact odd_onesTo _ (by omega)

set_option maxRecDepth 100000 in
set_option maxHeartbeats 2000000 in
theorem law_odd (bs : List UInt8) (b : Nat) (w : World) (hl : bs.length = 7) (hb : b < 256) :
    Calls Try.prog 10 #[.agg (bs.map bv).toArray, .int .u8 b] w fun e w' => e = .returned (.bool true) ∧ Below w.heap.size w w' := by
  have hr := RB.arr w bs 62 w.heap.size rfl
  rw [hl] at hr
  have c1 := bitp_spread (w.alloc (.cells (bs.map bv).toArray 62)) 7 _ bs hr
  have hsl := spreadB_length hl
  have hso := fun s hs => spread_odd hl (s := s) hs
  obtain ⟨L, hL⟩ : ∃ L, L = spreadB bs := ⟨_, rfl⟩
  rw [← hL] at c1 hsl
  simp only [← hL] at hso
  obtain ⟨cs, hcs⟩ : ∃ cs, cs = (bs.map bv).toArray := ⟨_, rfl⟩
  have hcz : cs.size = 7 := by rw [hcs]; simp [hl]
  rw [← hcs] at c1 ⊢
  clear hcs hL hr hl
  have c2 := fun w => bitp_odd b w hb
  have hol := oddN_lt b hb
  have c3 := fun w => bitp_odd (oddN b) w hol
  rw [odd_odd b hb] at c3
  have hhalf := odd_half b hb
  have hoo := odd_onesTo b hb
  obtain ⟨o, ho⟩ : ∃ o : UInt8, o = UInt8.ofNat (oddN b) := ⟨_, rfl⟩
  have hoN : oddN b = o.toNat := by rw [ho, UInt8.toNat_ofNat']; omega
  rw [hoN] at c3 hhalf hoo
  simp only [hoN] at c2
  clear ho hoN hol
  have hhI : (o.toNat : Int) / 2 = (b : Int) / 2 := by omega
  have hol := o.toNat_lt
  have C1 := Lib.hid c1; clear c1
  have C2 := Lib.hid c2; clear c2
  have C3 := Lib.hid c3; clear c3
  have Hso := Lib.hid (show ∀ s ∈ L ++ [o], onesTo s.toNat 8 % 2 = 1 from fun s hs => by
    rcases List.mem_append.1 hs with h | h
    · exact hso s h
    · simp at h; subst h; exact hoo)
  clear hso hoo hhalf
  have Hsl := Lib.hid hsl; clear hsl
  have Hcz := Lib.hid hcz; clear hcz
  go_enter Try.func10, Try.ntmps10
  go_wp2_with fail
  refine C1.out.mono ?_
  rintro e w1 ⟨v, rfl, hown, hb1⟩
  have Hb1 := Lib.hid (((Below.refl w.heap.size w).alloc (Nat.le_refl _) _).trans (hb1.mono (by simp)))
  have hszz := hb1.size
  clear hb1
  obtain ⟨A, c, rfl, hnc, hcm, _⟩ := hown.shape
  have Hown := Lib.hid hown; clear hown
  go_wp2_with fail
  refine (C2.out _).mono ?_
  rintro e w2 ⟨rfl, rfl⟩
  go_wp2_with (at_builtin; refine wpList_appb _ rfl (.tmp 16) (.tmp 19) rfl _ _ _ _ rfl (Hown.out.alloc _) _ _ _ _ rfl (RB.new1 _ o _ (by simp)) (by omega) (by simp at hszz ⊢; omega) ?_; intro v' w2 hown2 hg2 hat2; obtain ⟨A2, c2, rfl, hnc2, hcm2, hrb2⟩ := hown2.shape; have Hrb2 := Lib.hid hrb2; have Hb2 := Lib.hid ((Hb1.out.alloc Hb1.out.size _).grown hg2 (by have := Hb1.out.size; simp; omega) fun j hj => by have := (Hown.out.lt j hj).1; simp at this; omega); clear hrb2 hown2 hg2 hat2)
  go_loopw [22] (fun i wr => ∃ k : Nat, k ≤ 9 ∧ i = .int .i64 k ∧ w2 = wr) (fun i _ => 9 - (intOf i).toNat)
  case atStart => exact ⟨0, Nat.zero_le _, rfl, rfl⟩
  case round =>
    obtain ⟨k, hk, rfl, rfl⟩ := hrel
    by_cases hlt : k < 9
    · obtain ⟨ad, x, rfl, _, hxk, hxc, hx0, hx1⟩ := Hrb2.out.at_ hlt
      have hodd := Hso.out x (List.mem_of_getElem? hxk)
      have Hodd := Lib.hid hodd; clear hodd hxk
      obtain ⟨wo, hwo⟩ : ∃ wo : World, wo = w2 := ⟨_, rfl⟩
      subst hwo
      go_wp2
      clear hxc
      go_loopw [9, 26] (fun n i wy => ∃ j : Nat, j ≤ 8 ∧ i = .int .i64 j ∧ n = .int .i64 (onesTo x.toNat j : Nat) ∧ wo = wy) (fun _ i _ => 8 - (intOf i).toNat)
      case atStart => exact ⟨0, Nat.zero_le _, rfl, rfl, rfl⟩
      case round =>
        obtain ⟨j, hj, rfl, rfl, rfl⟩ := hrel
        have hle := onesTo_le x.toNat j
        by_cases hjl : j < 8
        · have hs := onesTo_succ x.toNat j
          obtain ⟨y, hy⟩ : ∃ y, y = x.toNat / 2 ^ j % 2 := ⟨_, rfl⟩
          obtain ⟨n, hn⟩ : ∃ n, n = onesTo x.toNat j := ⟨_, rfl⟩
          rw [← hy, ← hn] at hs
          rw [← hn] at hle ⊢
          have hand : bits .and .u8 ((x.toNat : Int) / 2 ^ j) 1 = (y : Int) := by
            rw [div_cast, hy]
            exact u8_and1 _ (Nat.lt_of_le_of_lt (Nat.div_le_self _ _) x.toNat_lt)
          have hy2 : y < 2 := by rw [hy]; exact Nat.mod_lt _ (by omega)
          have Hs := Lib.hid hs
          clear hs hy hn
          go_wp2
          go_roundw
          case rel => exact ⟨j + 1, by omega, by go_num, by rw [Hs.out]; go_num, by first | rfl | trivial⟩
          case measure => simp [intOf] <;> omega
        · obtain rfl : j = 8 := by omega
          have ho1 := Hodd.out
          obtain ⟨n, hn⟩ : ∃ n, n = onesTo x.toNat 8 := ⟨_, rfl⟩
          rw [← hn] at ho1 hle ⊢
          have hne : ((n : Int) % 2 != 1) = false := by simp; omega
          clear ho1 hn
          go_wp2
          go_roundw
          case rel => exact ⟨k + 1, by omega, by go_num, by first | rfl | trivial⟩
          case measure => simp [intOf] <;> omega
    · go_wp2_with fail
      refine (C2.out _).mono ?_
      rintro e w3 ⟨rfl, rfl⟩
      go_wp2_with fail
      refine (C2.out _).mono ?_
      rintro e w3 ⟨rfl, rfl⟩
      go_wp2_with fail
      refine (C3.out _).mono ?_
      rintro e w3 ⟨rfl, rfl⟩
      go_wp2_with fail
      refine (C2.out _).mono ?_
      rintro e w3 ⟨rfl, rfl⟩
      go_wp2_with fail
      refine (alive03 _).mono ?_
      rintro e w4 ⟨rfl, hb4⟩
      go_wp2
      go_ret
      exact ⟨rfl, Hb2.out.trans (hb4.mono Hb2.out.size)⟩
end Go.Proofs.Ytkndelbnjhkbcaa
