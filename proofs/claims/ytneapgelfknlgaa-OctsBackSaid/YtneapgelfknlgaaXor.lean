/-
  Contracts: bytes turned by others; all parts, one behind the other.
-/
import Derived.Test.YtneapgelfknlgaaFacts
import Derived.Test.YtneapgelfknlgaaNums
namespace Go.Proofs.Ytneapgelfknlgaa
open Go.RowKit
set_option linter.unusedVariables false

/-- Each byte turned by the other one. -/
def xorB (xs ys : List UInt8) : List UInt8 := List.zipWith (· ^^^ ·) xs ys
theorem xorB_length {xs ys : List UInt8} (h : xs.length = ys.length) : (xorB xs ys).length = xs.length := by simp [xorB, h]
theorem xorB_at {xs ys : List UInt8} {k : Nat} {x y : UInt8} (hx : xs[k]? = some x) (hy : ys[k]? = some y) : (xorB xs ys)[k]? = some (x ^^^ y) := by
  rw [xorB, List.getElem?_zipWith, hx, hy]

set_option maxHeartbeats 400000 in
theorem octs_xor (A B : Option Addr) (n c d : Nat) (xs ys : List UInt8) (w : World) (hx : RB w A n xs) (hy : RB w B n ys) (hn : n ≤ 140737488355328) :
    Calls Try.prog 13 #[.slice A n c, .slice B n d] w fun e w' => ∃ v, e = .returned (.tuple #[v, .int .i64 0]) ∧ OB w' w.heap.size v n (xorB xs ys) ∧ Below w.heap.size w w' := by
  have hmk := mk_bytes n n (by omega) (by omega) (by omega)
  have hm0 : n ≤ maxLen := by simp only [maxLen]; omega
  have lx := Lib.hid hx.len
  have ly := Lib.hid hy.len
  have lz := Lib.hid (show (xorB xs ys).length = n by rw [xorB_length (by rw [lx.out, ly.out]), lx.out])
  go_enter Try.func13, Try.ntmps13
  go_wp2
  clear hmk
  go_loopw [18] (fun i wr => ∃ (k : Nat) (cur : List UInt8), k ≤ n ∧ i = .int .i64 k ∧ OB wr w.heap.size (.slice (some ⟨w.heap.size, 0, none⟩) n n) n cur ∧ cur.take k = (xorB xs ys).take k ∧ Below w.heap.size w wr) (fun i _ => n - (intOf i).toNat)
  case atStart => exact ⟨0, List.replicate n 0, Nat.zero_le _, rfl, OB.made _ _ _ _ (Nat.le_refl _) hm0 (Nat.le_refl _), rfl, (Below.refl _ _).alloc (Nat.le_refl _) _⟩
  case round =>
    obtain ⟨k, cur, hk, rfl, hown, heq, hbel⟩ := hrel
    have Heq := Lib.hid heq; clear heq
    by_cases hlt : k < n
    · obtain ⟨ad, x, rfl, _, hxk, hxc, hx0, hx1⟩ := (hx.below hbel).at_ hlt
      obtain ⟨be, y, rfl, _, hyk, hyc, hy0, hy1⟩ := (hy.below hbel).at_ hlt
      have Hz := Lib.hid (xorB_at hxk hyk)
      clear hxk hyk hx hy
      have hux := u8_xor_u x y
      have hcl := Lib.hid hown.len
      have hfz := hown.frozenAt k
      obtain ⟨z, hz⟩ : ∃ z, cur[k]? = some z := ⟨_, List.getElem?_eq_getElem (by rw [hcl.out]; omega)⟩
      have hcc := hown.cellAt hz
      clear hz
      go_wp2
      go_still_tail 12, (by kernel_rfl)
      go_wp2
      go_roundw
      case rel =>
        exact ⟨k + 1, cur.set k (x ^^^ y), by omega, by go_num, OB.stored hown _ _, set_take Heq.out (by rw [hcl.out]; omega) Hz.out, hbel.drew.setCell (Nat.le_refl _) _⟩
      case measure => simp [intOf]; omega
    · have hkn : k = n := by omega
      have Hkn := Lib.hid hkn; clear hkn
      go_wp2
      go_ret2
      refine ⟨_, rfl, ?_, hbel⟩
      have h := Heq.out
      rw [Hkn.out, List.take_of_length_le (by rw [hown.len]; omega), List.take_of_length_le (by rw [lz.out]; omega)] at h
      rw [← h]; exact hown

set_option maxHeartbeats 400000 in
theorem octs_xor_no (A B : Option Addr) (n m c d : Nat) (w : World) (h : n ≠ m) (hn : n ≤ maxLen) (hm : m ≤ maxLen) :
    Calls Try.prog 13 #[.slice A n c, .slice B m d] w fun e w' => e = .returned (.tuple #[.slice none 0 0, .int .i64 1]) ∧ w = w' := by
  have hne : ((n : Int) != (m : Int)) = true := by simp; omega
  clear h
  go_enter Try.func13, Try.ntmps13
  go_wp2
  go_ret2
  exact ⟨rfl, rfl⟩

set_option maxHeartbeats 400000 in
theorem ref_xor (A B : Option Addr) (n c d : Nat) (xs ys : List UInt8) (w : World) (hx : RB w A n xs) (hy : RB w B n ys) (hn : n ≤ 140737488355328) :
    Calls Try.prog 14 #[.slice A n c, .slice B n d] w fun e w' => ∃ v, e = .returned (.tuple #[v, .int .i64 0]) ∧ OB w' w.heap.size v n (xorB xs ys) ∧ Below w.heap.size w w' := by
  have hmk := mk_bytes n n (by omega) (by omega) (by omega)
  have hm0 : n ≤ maxLen := by simp only [maxLen]; omega
  have lx := Lib.hid hx.len
  have ly := Lib.hid hy.len
  have lz := Lib.hid (show (xorB xs ys).length = n by rw [xorB_length (by rw [lx.out, ly.out]), lx.out])
  go_enter Try.func14, Try.ntmps14
  go_wp2
  clear hmk
  go_loopw [7] (fun i wr => ∃ (k : Nat) (cur : List UInt8), k ≤ n ∧ i = .int .i64 k ∧ OB wr w.heap.size (.slice (some ⟨w.heap.size, 0, none⟩) n n) n cur ∧ cur.take k = (xorB xs ys).take k ∧ Below w.heap.size w wr) (fun i _ => n - (intOf i).toNat)
  case atStart => exact ⟨0, List.replicate n 0, Nat.zero_le _, rfl, OB.made _ _ _ _ (Nat.le_refl _) hm0 (Nat.le_refl _), rfl, (Below.refl _ _).alloc (Nat.le_refl _) _⟩
  case round =>
    obtain ⟨k, cur, hk, rfl, hown, heq, hbel⟩ := hrel
    have Heq := Lib.hid heq; clear heq
    by_cases hlt : k < n
    · obtain ⟨ad, x, rfl, _, hxk, hxc, hx0, hx1⟩ := (hx.below hbel).at_ hlt
      obtain ⟨be, y, rfl, _, hyk, hyc, hy0, hy1⟩ := (hy.below hbel).at_ hlt
      have Hz := Lib.hid (xorB_at hxk hyk)
      clear hxk hyk hx hy
      have hux := u8_xor_u x y
      have hcl := Lib.hid hown.len
      have hfz := hown.frozenAt k
      obtain ⟨z, hz⟩ : ∃ z, cur[k]? = some z := ⟨_, List.getElem?_eq_getElem (by rw [hcl.out]; omega)⟩
      have hcc := hown.cellAt hz
      clear hz
      go_wp2
      go_still_tail 12, (by kernel_rfl)
      go_wp2
      go_roundw
      case rel =>
        exact ⟨k + 1, cur.set k (x ^^^ y), by omega, by go_num, OB.stored hown _ _, set_take Heq.out (by rw [hcl.out]; omega) Hz.out, hbel.drew.setCell (Nat.le_refl _) _⟩
      case measure => simp [intOf]; omega
    · have hkn : k = n := by omega
      have Hkn := Lib.hid hkn; clear hkn
      go_wp2
      go_ret2
      refine ⟨_, rfl, ?_, hbel⟩
      have h := Heq.out
      rw [Hkn.out, List.take_of_length_le (by rw [hown.len]; omega), List.take_of_length_le (by rw [lz.out]; omega)] at h
      rw [← h]; exact hown

set_option maxHeartbeats 400000 in
theorem ref_xor_no (A B : Option Addr) (n m c d : Nat) (w : World) (h : n ≠ m) (hn : n ≤ maxLen) (hm : m ≤ maxLen) :
    Calls Try.prog 14 #[.slice A n c, .slice B m d] w fun e w' => e = .returned (.tuple #[.slice none 0 0, .int .i64 1]) ∧ w = w' := by
  have hne : ((n : Int) != (m : Int)) = true := by simp; omega
  clear h
  go_enter Try.func14, Try.ntmps14
  go_wp2
  go_ret2
  exact ⟨rfl, rfl⟩

def xorErr (n m : Nat) : Int := if n = m then 0 else 1
def xorBytes (xs ys : List UInt8) : List UInt8 := if xs.length = ys.length then xorB xs ys else []
theorem octs_xor_all (A B : Option Addr) (n m c d : Nat) (xs ys : List UInt8) (w : World) (hx : RB w A n xs) (hy : RB w B m ys) (hn : n ≤ 140737488355328) (hm : m ≤ maxLen) :
    Calls Try.prog 13 #[.slice A n c, .slice B m d] w (RetBE w (xorBytes xs ys) (xorErr n m)) := by
  by_cases h : n = m
  · subst h
    simp only [xorBytes, xorErr, if_pos, hx.len, hy.len]
    exact (octs_xor A B n c d xs ys w hx hy hn).mono fun e w' ⟨v, he, ho, hb⟩ => by subst he; exact RetBE.of ho hb
  · simp only [xorBytes, xorErr, hx.len, hy.len, if_neg h]
    exact (octs_xor_no A B n m c d w h (by simp only [maxLen]; omega) hm).mono fun e w' ⟨he, hw⟩ => by subst he hw; exact RetBE.nil _ _
theorem ref_xor_all (A B : Option Addr) (n m c d : Nat) (xs ys : List UInt8) (w : World) (hx : RB w A n xs) (hy : RB w B m ys) (hn : n ≤ 140737488355328) (hm : m ≤ maxLen) :
    Calls Try.prog 14 #[.slice A n c, .slice B m d] w (RetBE w (xorBytes xs ys) (xorErr n m)) := by
  by_cases h : n = m
  · subst h
    simp only [xorBytes, xorErr, if_pos, hx.len, hy.len]
    exact (ref_xor A B n c d xs ys w hx hy hn).mono fun e w' ⟨v, he, ho, hb⟩ => by subst he; exact RetBE.of ho hb
  · simp only [xorBytes, xorErr, hx.len, hy.len, if_neg h]
    exact (ref_xor_no A B n m c d w h (by simp only [maxLen]; omega) hm).mono fun e w' ⟨he, hw⟩ => by subst he hw; exact RetBE.nil _ _
end Go.Proofs.Ytneapgelfknlgaa
