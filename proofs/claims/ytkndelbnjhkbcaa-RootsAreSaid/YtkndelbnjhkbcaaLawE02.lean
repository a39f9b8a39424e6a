/-
  Walk: any root, and whether any number is it, and its bits behind the point, are the document's.
-/
import Derived.Test.YtkndelbnjhkbcaaLawA02
import Derived.Test.YtkndelbnjhkbcaaRef02d
namespace Go.Proofs.Ytkndelbnjhkbcaa
open Go.RowKit
set_option linter.unusedVariables false

theorem u64_xor_nat (a b : Nat) (ha : a < 18446744073709551616) (hb : b < 18446744073709551616) : bits .xor .u64 (a : Int) (b : Int) = ((a ^^^ b : Nat) : Int) := by
  have hx : a ^^^ b < 2 ^ 64 := Nat.xor_lt_two_pow (by omega) (by omega)
  have e : ∀ x : Nat, x < 18446744073709551616 → (BitVec.ofInt 64 (x : Int)).toNat = x := fun x h => by
    rw [BitVec.ofInt_natCast, BitVec.toNat_ofNat]; exact Nat.mod_eq_of_lt h
  show IntKind.u64.wrap ((BitVec.ofInt 64 (a : Int) ^^^ BitVec.ofInt 64 (b : Int)).toNat : Int) = _
  rw [BitVec.toNat_xor, e a ha, e b hb, IntKind.wrap_u64]
  omega
theorem rootI_lt (n d b : Int) : rootI n d b < 137438953472 := by
  unfold rootI
  split
  · rename_i h
    have := rootOf_lt (n := n.toNat) (d := d.toNat) (b := b.toNat) ⟨by omega, by omega, by omega⟩
    omega
  · omega
theorem rootE_01 (n d b : Int) : rootE n d b = 0 ∨ rootE n d b = 1 := by unfold rootE; split <;> simp

set_option maxRecDepth 100000 in
set_option maxHeartbeats 1000000 in
theorem law_are (n d b : Int) (w : World) :
    Calls Try.prog 3 #[.int .i64 n, .int .i64 d, .int .i64 b] w fun e w' => e = .returned (.bool true) ∧ Below w.heap.size w w' := by
  have c1 := fun w => roots_root_all n d b w
  have c2 := fun w => ref_root_all n d b w
  have c3 := fun (q : Bool) (hq : q = decide (rootE n d b = 0)) w => roots_is (rootI n d b) n d b q w (by have := rootI_lt n d b; omega) (by rw [hq]; simp)
  have c4 := fun w => roots_is (rootI n d b ^^^ 1) n d b false w (by have := rootI_lt n d b; have : rootI n d b ^^^ 1 < 2 ^ 64 := Nat.xor_lt_two_pow (by omega) (by omega); omega) (by
    have hne : rootI n d b ^^^ 1 ≠ rootI n d b := fun h => by
      have h2 : rootI n d b ^^^ (rootI n d b ^^^ 1) = rootI n d b ^^^ rootI n d b := by rw [h]
      rw [← Nat.xor_assoc, Nat.xor_self, Nat.zero_xor] at h2
      cases h2
    simp [hne])
  have c5 := fun w => roots_frac n d w
  have c6 := fun w => ref_frac n d w
  have hE := rootE_01 n d b
  have hX := rootI_lt n d b
  have hxor := u64_xor_nat (rootI n d b) 1 (by omega) (by omega)
  obtain ⟨X, hx⟩ : ∃ X, X = rootI n d b := ⟨_, rfl⟩
  obtain ⟨Y, hy⟩ : ∃ Y, Y = rootI n d b ^^^ 1 := ⟨_, rfl⟩
  obtain ⟨E, he⟩ : ∃ E, E = rootE n d b := ⟨_, rfl⟩
  obtain ⟨F, hf⟩ : ∃ F, F = fracI n d := ⟨_, rfl⟩
  rw [← hy] at hxor
  rw [← hx] at hX hxor
  simp only [← hy] at c4
  simp only [← hx, ← he] at c1 c2 c3
  simp only [← hf] at c5 c6
  rw [← he] at hE
  have hxor' : bits .xor .u64 (X : Int) 1 = (Y : Int) := hxor
  clear hx hy he hf hxor
  rcases hE with rfl | rfl
  · have c3' := c3 true (by decide)
    clear c3
    go_enter Try.func3, Try.ntmps3
    go_wp2_with fail
    refine (c1 _).mono ?_
    rintro e w1 ⟨rfl, hq1⟩
    have Hb1 := Lib.hid (hq1.below w.heap.size); clear hq1
    go_wp2_with fail
    refine (c2 _).mono ?_
    rintro e w2 ⟨rfl, hb2⟩
    have Hb2 := Lib.hid (Hb1.out.trans (hb2.mono Hb1.out.size)); clear hb2
    go_wp2_with fail
    refine (c3' _).mono ?_
    rintro e w3 ⟨rfl, hq3⟩
    have Hb3 := Lib.hid (below_qt Hb2.out hq3); clear hq3
    go_wp2_with fail
    refine (c4 _).mono ?_
    rintro e w4 ⟨rfl, hq4⟩
    have Hb4 := Lib.hid (below_qt Hb3.out hq4); clear hq4
    go_wp2_with fail
    refine (c5 _).mono ?_
    rintro e w5 ⟨rfl, hq5⟩
    have Hb5 := Lib.hid (below_qt Hb4.out hq5); clear hq5
    go_wp2_with fail
    refine (c6 _).mono ?_
    rintro e w6 ⟨rfl, hb6⟩
    have Hb6 := Lib.hid (Hb5.out.trans (hb6.mono Hb5.out.size)); clear hb6
    go_wp2_with fail
    refine (alive02 _).mono ?_
    rintro e w7 ⟨rfl, hb7⟩
    go_wp2
    go_ret
    exact ⟨rfl, Hb6.out.trans (hb7.mono Hb6.out.size)⟩
  · have c3' := c3 false (by decide)
    clear c3
    go_enter Try.func3, Try.ntmps3
    go_wp2_with fail
    refine (c1 _).mono ?_
    rintro e w1 ⟨rfl, hq1⟩
    have Hb1 := Lib.hid (hq1.below w.heap.size); clear hq1
    go_wp2_with fail
    refine (c2 _).mono ?_
    rintro e w2 ⟨rfl, hb2⟩
    have Hb2 := Lib.hid (Hb1.out.trans (hb2.mono Hb1.out.size)); clear hb2
    go_wp2_with fail
    refine (c3' _).mono ?_
    rintro e w3 ⟨rfl, hq3⟩
    have Hb3 := Lib.hid (below_qt Hb2.out hq3); clear hq3
    go_wp2_with fail
    refine (c4 _).mono ?_
    rintro e w4 ⟨rfl, hq4⟩
    have Hb4 := Lib.hid (below_qt Hb3.out hq4); clear hq4
    go_wp2_with fail
    refine (c5 _).mono ?_
    rintro e w5 ⟨rfl, hq5⟩
    have Hb5 := Lib.hid (below_qt Hb4.out hq5); clear hq5
    go_wp2_with fail
    refine (c6 _).mono ?_
    rintro e w6 ⟨rfl, hb6⟩
    have Hb6 := Lib.hid (Hb5.out.trans (hb6.mono Hb5.out.size)); clear hb6
    go_wp2_with fail
    refine (alive02 _).mono ?_
    rintro e w7 ⟨rfl, hb7⟩
    go_wp2
    go_ret
    exact ⟨rfl, Hb6.out.trans (hb7.mono Hb6.out.size)⟩
end Go.Proofs.Ytkndelbnjhkbcaa
