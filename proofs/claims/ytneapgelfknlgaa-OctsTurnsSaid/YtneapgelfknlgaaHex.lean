/-
  Contracts: bytes in digits, and the bytes of digits.
-/
import Derived.Test.YtneapgelfknlgaaFacts
import Derived.Test.YtneapgelfknlgaaPlain01
namespace Go.Proofs.Ytneapgelfknlgaa
open Go.RowKit
set_option linter.unusedVariables false

/-- The digit of base 16 for n. -/
def hexd (n : Nat) : UInt8 := UInt8.ofNat (if n < 10 then 48 + n else 55 + n)
/-- Bytes in digits. -/
def hexL (bs : List UInt8) : List UInt8 := bs.flatMap fun b => [hexd (b.toNat / 16), hexd (b.toNat % 16)]
theorem hexL_snoc {bs : List UInt8} {k : Nat} {b : UInt8} (h : bs[k]? = some b) : hexL (bs.take (k + 1)) = hexL (bs.take k) ++ [hexd (b.toNat / 16), hexd (b.toNat % 16)] := by
  rw [take_snoc h]; simp [hexL]
theorem hexL_length (bs : List UInt8) : (hexL bs).length = 2 * bs.length := by
  induction bs with
  | nil => rfl
  | cons b r ih => simp only [hexL, List.flatMap_cons, List.length_append, List.length_cons, List.length_nil] at ih ⊢; omega

theorem digit_at (i : Int) (m : Nat) (e : i = m) (h : m < 16) (w : World) : (Instr.index 9 (.string { data := #[48, 49, 50, 51, 52, 53, 54, 55, 56, 57, 65, 66, 67, 68, 69, 70] }) (.int .u8 i)).run Try.prog w = .ok (.int .u8 ((hexd m).toNat : Int)) w := by
  subst e
  rw [run_index_string (P := Try.prog) (w := w) _ _ _ _ Try.underlying9, dif_pos ⟨by omega, by show (m : Int) < 16; omega⟩]
  have : m = 0 ∨ m = 1 ∨ m = 2 ∨ m = 3 ∨ m = 4 ∨ m = 5 ∨ m = 6 ∨ m = 7 ∨ m = 8 ∨ m = 9 ∨ m = 10 ∨ m = 11 ∨ m = 12 ∨ m = 13 ∨ m = 14 ∨ m = 15 := by omega
  rcases this with rfl | rfl | rfl | rfl | rfl | rfl | rfl | rfl | rfl | rfl | rfl | rfl | rfl | rfl | rfl | rfl <;> rfl

theorem digit_cut (i : Int) (m : Nat) (e : i = m) (h : m < 16) (w : World) :
    (Instr.slice 9 (.string { data := #[48, 49, 50, 51, 52, 53, 54, 55, 56, 57, 65, 66, 67, 68, 69, 70] }) (some (.int .i64 i)) (some (.int .i64 (i + 1))) none).run Try.prog w = .ok (.string ⟨[hexd m].toArray⟩) w := by
  subst e
  rw [run_slice_string (P := Try.prog) (w := w) _ _ _ _ _ _ Try.underlying9 (by omega) (by omega) (by show (m : Int) + 1 ≤ 16; omega)]
  have : m = 0 ∨ m = 1 ∨ m = 2 ∨ m = 3 ∨ m = 4 ∨ m = 5 ∨ m = 6 ∨ m = 7 ∨ m = 8 ∨ m = 9 ∨ m = 10 ∨ m = 11 ∨ m = 12 ∨ m = 13 ∨ m = 14 ∨ m = 15 := by omega
  rcases this with rfl | rfl | rfl | rfl | rfl | rfl | rfl | rfl | rfl | rfl | rfl | rfl | rfl | rfl | rfl | rfl <;> rfl
theorem add_str (a b : List UInt8) (w : World) (h : a.length + b.length ≤ 9223372036854775807) : (Op.stringOp .add ⟨a.toArray⟩ ⟨b.toArray⟩).run Try.prog w = .ok (.string ⟨(a ++ b).toArray⟩) w := by
  rw [run_string_add_sum w _ _ (by simpa [ByteArray.size] using h), ByteArray.mk_append_mk]

set_option maxHeartbeats 800000 in
theorem octs_hex (A : Option Addr) (n c : Nat) (xs : List UInt8) (w : World) (hx : RB w A n xs) (hn : n ≤ 1000000) :
    Calls Try.prog 19 #[.slice A n c] w fun e w' => e = .returned (.string ⟨(hexL xs).toArray⟩) ∧ Below w.heap.size w w' := by
  have lx := Lib.hid hx.len
  have hmk := mk_bytes 0 (2 * n) (by omega) (by omega) (by omega)
  go_enter Try.func19, Try.ntmps19
  go_wp2
  clear hmk
  go_loopw [3, 12] (fun v i wr => ∃ k : Nat, k ≤ n ∧ i = .int .i64 k ∧ OB wr w.heap.size v (2 * k) (hexL (xs.take k)) ∧ Below w.heap.size w wr) (fun _ i _ => n - (intOf i).toNat)
  case atStart =>
    refine ⟨0, Nat.zero_le _, rfl, ?_, (Below.refl _ _).alloc (Nat.le_refl _) _⟩
    exact OB.made _ w.heap.size 0 (2 * n) (Nat.zero_le _) (by simp only [maxLen]; omega) (Nat.le_refl _)
  case round =>
    obtain ⟨k, hk, rfl, hown, hbel⟩ := hrel
    have Hown := Lib.hid hown; clear hown
    by_cases hlt : k < n
    · obtain ⟨ad, x, rfl, _, hxk, hxc, hx0, hx1⟩ := (hx.below hbel).at_ hlt
      have Hxk := Lib.hid (hexL_snoc hxk); clear hxk hx
      go_wp2
      have hsz := hbel.size
      have hd1 : ∀ w : World, (Instr.index 9 (.string { data := #[48, 49, 50, 51, 52, 53, 54, 55, 56, 57, 65, 66, 67, 68, 69, 70] }) (.int .u8 (x.toNat / 16))).run Try.prog w = .ok (.int .u8 ((hexd (x.toNat / 16)).toNat : Int)) w := digit_at _ _ (by omega) (by have := x.toNat_lt; omega)
      have hd2 : ∀ w : World, (Instr.index 9 (.string { data := #[48, 49, 50, 51, 52, 53, 54, 55, 56, 57, 65, 66, 67, 68, 69, 70] }) (.int .u8 (x.toNat % 16))).run Try.prog w = .ok (.int .u8 ((hexd (x.toNat % 16)).toNat : Int)) w := digit_at _ _ (by omega) (by omega)
      have hand : bits .and .u8 (x.toNat : Int) 15 = (x.toNat : Int) % 16 := by
        have := u8_and_nat x.toNat 15 x.toNat_lt (by omega)
        rw [nat_mask4] at this; exact this
      go_region_law (refine step_appb _ rfl (.tmp 16) (.tmp 23) rfl w.heap.size _ _ _ rfl ((Hown.out.drewN _).alloc _) _ _ _ _ rfl (RB.new2 _ _ _ _ (by simp)) (by omega) (by simp; omega) ?_; intro v' w1 hown1 hg1 hat1; have Hown1 := Lib.hid hown1; clear hown1)
      all_goals
        go_wp2
        go_roundw
        case rel =>
          refine ⟨k + 1, by omega, by go_num, ?_, ?_⟩
          · rw [Hxk.out]; exact Hown1.out
          · exact ((below_drewN hbel _).alloc (by simp; omega) _).grown hg1 (by simp; omega) fun j hj => (Hown.out.lt j hj).1
        case measure => simp [intOf]; omega
    · have hkn : k = n := by omega
      have hF : xs.take k = xs := List.take_of_length_le (by rw [lx.out, hkn]; omega)
      have hown := Hown.out
      rw [hF] at hown
      obtain ⟨A1, c1, rfl, hnc, hcm, hr⟩ := hown.shape
      have hst := str_bytes A1 (2 * k) c1 _ wr hr
      clear hkn hr hF hown
      go_wp2
      go_ret
      exact ⟨rfl, hbel⟩

set_option maxHeartbeats 800000 in
theorem ref_hex (A : Option Addr) (n c : Nat) (xs : List UInt8) (w : World) (hx : RB w A n xs) (hn : n ≤ 1000000) :
    Calls Try.prog 20 #[.slice A n c] w fun e w' => e = .returned (.string ⟨(hexL xs).toArray⟩) ∧ Qt w w' := by
  have lx := Lib.hid hx.len
  go_enter Try.func20, Try.ntmps20
  go_wp2
  go_loopw [4, 5] (fun v i wr => ∃ k : Nat, k ≤ n ∧ i = .int .i64 k ∧ v = .string ⟨(hexL (xs.take k)).toArray⟩ ∧ Qt w wr) (fun _ i _ => n - (intOf i).toNat)
  case atStart => exact ⟨0, Nat.zero_le _, rfl, rfl, Qt.refl _⟩
  case round =>
    obtain ⟨k, hk, rfl, rfl, q, rfl⟩ := hrel
    by_cases hlt : k < n
    · obtain ⟨ad, x, rfl, _, hxk, hxc, hx0, hx1⟩ := hx.at_ hlt
      have Hxk := Lib.hid (hexL_snoc hxk); clear hxk hx
      go_wp2
      go_quiet (fail)
      have hs1 := digit_cut ((x.toNat : Int) / 16) (x.toNat / 16) (by omega) (by have := x.toNat_lt; omega)
      have hs2 := digit_cut ((x.toNat : Int) % 16) (x.toNat % 16) (by omega) (by omega)
      have hl : (hexL (xs.take k)).length ≤ 2000000 := by rw [hexL_length, List.length_take]; omega
      have ha1 := fun w => add_str [hexd (x.toNat / 16)] [hexd (x.toNat % 16)] w (by simp)
      have ha2 := fun w => add_str (hexL (xs.take k)) [hexd (x.toNat / 16), hexd (x.toNat % 16)] w (by simp; omega)
      simp only [List.singleton_append] at ha1
      clear hl
      go_wp2
      go_quiet (fail)
      go_wp2
      go_roundw
      case rel => exact ⟨k + 1, by omega, by go_num, by rw [Hxk.out], by first | exact Qt.d _ _ | exact Qt.dd _ _ _⟩
      case measure => simp [intOf]; omega
    · have hF : xs.take k = xs := List.take_of_length_le (by rw [lx.out]; omega)
      rw [hF]
      clear hF
      go_wp2
      go_ret
      exact ⟨rfl, Qt.d _ _⟩
end Go.Proofs.Ytneapgelfknlgaa
