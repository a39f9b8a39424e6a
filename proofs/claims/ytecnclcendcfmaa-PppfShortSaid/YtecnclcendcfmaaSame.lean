/-
  Contracts: whether two slices of bytes are the same.
-/
import Derived.Test.YtecnclcendcfmaaBase
import Derived.Test.YtecnclcendcfmaaFacts
import Derived.Test.YtecnclcendcfmaaPlain01
namespace Go.Proofs.Ytecnclcendcfmaa
set_option maxRecDepth 100000
open Go.RowKit

theorem ne_of_getElem? {α : Type} {xs ys : List α} {k : Nat} {x y : α} (hx : xs[k]? = some x) (hy : ys[k]? = some y) (h : x ≠ y) : xs ≠ ys := by
  rintro rfl; rw [hx] at hy; injection hy with hy; exact h hy
theorem take_ext {α : Type} {xs ys : List α} {k : Nat} {x : α} (h : xs.take k = ys.take k) (hx : xs[k]? = some x) (hy : ys[k]? = some x) : xs.take (k + 1) = ys.take (k + 1) := by
  rw [List.take_add_one, List.take_add_one, h, hx, hy]

theorem decide_ne {α : Type} [DecidableEq α] {xs ys : List α} (h : xs ≠ ys) : decide (xs = ys) = false := by simp [h]

set_option maxHeartbeats 400000 in
theorem ref_same (A B : Option Addr) (n m c d : Nat) (xs ys : List UInt8) (w : World) (hx : RB w A n xs) (hy : RB w B m ys) (hn : n ≤ maxLen) (hm : m ≤ maxLen) :
    Calls Try.prog 16 #[.slice A n c, .slice B m d] w fun e w' => e = .returned (.bool (decide (xs = ys))) ∧ Qt w w' := by
  unfold maxLen at hn hm
  by_cases hnm : n = m
  · subst hnm
    have lx := Lib.hid hx.len
    have ly := Lib.hid hy.len
    go_enter Try.func16, Try.ntmps16
    go_wp2
    go_loopw [5] (fun i wr => ∃ k : Nat, k ≤ n ∧ i = .int .i64 k ∧ xs.take k = ys.take k ∧ Qt w wr) (fun i _ => n - (intOf i).toNat)
    case atStart => exact ⟨0, Nat.zero_le _, rfl, rfl, Qt.refl _⟩
    case round =>
      obtain ⟨k, hk, rfl, htk, q, rfl⟩ := hrel
      have Htk := Lib.hid htk; clear htk
      by_cases hlt : k < n
      · obtain ⟨ad, x, rfl, _, hxk, hxc, hx0, hx1⟩ := hx.at_ hlt
        obtain ⟨be, y, rfl, _, hyk, hyc, hy0, hy1⟩ := hy.at_ hlt
        have Hxk := Lib.hid hxk; clear hxk
        have Hyk := Lib.hid hyk; clear hyk
        clear hx hy
        by_cases hxy : x = y
        · subst hxy
          go_wp2
          go_quiet (fail)
          go_wp2
          go_roundw
          case rel => exact ⟨k + 1, by omega, by go_num, take_ext Htk.out Hxk.out Hyk.out, by first | exact Qt.d _ _ | exact Qt.dd _ _ _⟩
          case measure => simp [intOf]; omega
        · have hne := u8_ne hxy
          have Hd := Lib.hid (decide_ne (ne_of_getElem? Hxk.out Hyk.out hxy))
          clear hxy
          go_wp2
          go_quiet (fail)
          go_wp2
          go_ret
          exact ⟨ret_bool Hd.out.symm, by first | exact Qt.d _ _ | exact Qt.dd _ _ _⟩
      · go_wp2
        go_ret
        have : xs = ys := by
          have := Htk.out
          rwa [List.take_of_length_le (by rw [lx.out]; omega), List.take_of_length_le (by rw [ly.out]; omega)] at this
        exact ⟨ret_bool (by rw [this]; simp), Qt.d _ _⟩
  · have hd : decide (xs = ys) = false := decide_ne fun h => hnm (by rw [← hx.len, ← hy.len, h])
    have Hd := Lib.hid hd; clear hd hx hy
    have hne : ((n : Int) != (m : Int)) = true := by simp; omega
    go_enter Try.func16, Try.ntmps16
    go_wp2
    go_ret
    exact ⟨ret_bool Hd.out.symm, Qt.refl _⟩

/-- What the differences gathered so far tell. -/
def DiffOf (n m k d : Nat) (xs ys : List UInt8) : Prop := d < 9223372036854775808 ∧ (d = 0 ↔ n = m ∧ xs.take k = ys.take k)
theorem DiffOf.step {n m k d : Nat} {xs ys : List UInt8} {x y : UInt8} (h : DiffOf n m k d xs ys) (hx : xs[k]? = some x) (hy : ys[k]? = some y) :
    DiffOf n m (k + 1) (d ||| (x ^^^ y).toNat) xs ys := by
  have hlx := (List.getElem?_eq_some_iff.1 hx).1
  have hly := (List.getElem?_eq_some_iff.1 hy).1
  refine ⟨Nat.or_lt_two_pow (n := 63) h.1 (by have := (x ^^^ y).toNat_lt; omega), ?_⟩
  rw [nor_zero, h.2, u8xor_zero, take_snoc hx, take_snoc hy]
  constructor
  · rintro ⟨⟨rfl, h1⟩, rfl⟩; exact ⟨rfl, by rw [h1]⟩
  · rintro ⟨rfl, h1⟩
    have h2 := List.append_inj h1 (by simp; omega)
    exact ⟨⟨rfl, h2.1⟩, by simpa using h2.2⟩
theorem DiffOf.last {n m d : Nat} {xs ys : List UInt8} (h : DiffOf n m (min n m) d xs ys) (hx : xs.length = n) (hy : ys.length = m) :
    ((d : Int) == 0) = decide (xs = ys) := by
  rw [Bool.eq_iff_iff, beq_iff_eq, decide_eq_true_iff]
  have : ((d : Int) = 0) ↔ d = 0 := by omega
  rw [this, h.2]
  constructor
  · rintro ⟨rfl, h1⟩
    rwa [Nat.min_self, List.take_of_length_le (by omega), List.take_of_length_le (by omega)] at h1
  · rintro rfl; exact ⟨by omega, rfl⟩

end Go.Proofs.Ytecnclcendcfmaa
