/-
  Contracts: numbers as bytes, and bytes as numbers.
-/
import Derived.Test.YtecnclcendcfmaaFacts
import Derived.Test.YtecnclcendcfmaaPlain01
namespace Go.Proofs.Ytecnclcendcfmaa
set_option maxRecDepth 100000
open Go.RowKit
set_option linter.unusedVariables false

theorem or_shl (M x k : Nat) (hM : M < 256 ^ k) (hx : x < 256) (hk : k ≤ 7) : bits .or .u64 (M : Int) (IntKind.u64.wrap ((x : Int) * 2 ^ (8 * k))) = ((M + x * 256 ^ k : Nat) : Int) := by
  have e : (2 : Int) ^ (8 * k) = ((256 ^ k : Nat) : Int) := by rw [Int.pow_mul]; simp
  have hp := pow256_le hk
  have hxp : x * 256 ^ k ≤ 255 * 256 ^ k := Nat.mul_le_mul_right _ (by omega)
  rw [e, ← Int.natCast_mul, IntKind.wrap_u64, Int.emod_eq_of_lt (by omega) (by omega), u64_or_nat _ _ (by omega) (by omega), or_add hM]
theorem nle_take_snoc {xs : List UInt8} {k : Nat} {b : UInt8} (h : xs[k]? = some b) : nle (xs.take (k + 1)) = nle (xs.take k) + b.toNat * 256 ^ k := by
  have hk := (List.getElem?_eq_some_iff.1 h).1
  rw [take_snoc h, nle_snoc, List.length_take, Nat.min_eq_left (by omega)]
theorem nle_take_lt (xs : List UInt8) (k : Nat) (h : k ≤ xs.length) : nle (xs.take k) < 256 ^ k := by
  have hl := nle_lt (xs.take k)
  rwa [List.length_take, Nat.min_eq_left h] at hl

set_option maxHeartbeats 400000 in
theorem octs_get (A : Option Addr) (n c : Nat) (xs : List UInt8) (l : Bool) (w : World) (hx : RB w A n xs) (h1 : 1 ≤ n) (hn : n ≤ 8) :
    Calls Try.prog 31 #[.slice A n c, .bool l] w fun e w' => e = .returned (.tuple #[.int .u64 (num xs l : Nat), .int .i64 0]) ∧ Qt w w' := by
  have lx := Lib.hid hx.len
  cases l with
  | true =>
    go_enter Try.func31, Try.ntmps31
    go_wp2
    go_loopw [6, 18] (fun m i wr => ∃ k : Nat, k ≤ n ∧ i = .int .i64 k ∧ m = .int .u64 (nle (xs.take k) : Nat) ∧ Qt w wr) (fun _ i _ => n - (intOf i).toNat)
    case atStart => exact ⟨0, Nat.zero_le _, rfl, rfl, Qt.refl _⟩
    case round =>
      obtain ⟨k, hk, rfl, rfl, q, rfl⟩ := hrel
      have HL := Lib.hid (nle_take_lt xs k (by rw [lx.out]; exact hk))
      obtain ⟨M, hMe⟩ : ∃ M, M = nle (xs.take k) := ⟨_, rfl⟩
      rw [← hMe] at HL ⊢
      have HM := Lib.hid hMe; clear hMe
      by_cases hlt : k < n
      · obtain ⟨ad, x, rfl, _, hxk, hxc, hx0, hx1⟩ := hx.at_ hlt
        have Hxk := Lib.hid hxk; clear hxk
        clear hx
        go_wp2
        go_roundw
        case rel =>
          refine ⟨k + 1, by omega, by go_num, ?_, by first | exact Qt.d _ _ | exact Qt.dd _ _ _⟩
          rw [or_shl _ _ _ HL.out x.toNat_lt (by omega), nle_take_snoc Hxk.out, HM.out]
        case measure => simp [intOf]; omega
      · have hkn : k = n := by omega
        have Hkn := Lib.hid hkn; clear hkn
        go_wp2
        go_ret2
        refine ⟨?_, Qt.d _ _⟩
        rw [HM.out, List.take_of_length_le (by rw [lx.out, Hkn.out]; omega)]; rfl
  | false =>
    go_enter Try.func31, Try.ntmps31
    go_wp2
    go_loopw [6, 18] (fun m i wr => ∃ k : Nat, k ≤ n ∧ i = .int .i64 k ∧ m = .int .u64 (nle (xs.reverse.take k) : Nat) ∧ Qt w wr) (fun _ i _ => n - (intOf i).toNat)
    case atStart => exact ⟨0, Nat.zero_le _, rfl, rfl, Qt.refl _⟩
    case round =>
      obtain ⟨k, hk, rfl, rfl, q, rfl⟩ := hrel
      have HL := Lib.hid (nle_take_lt xs.reverse k (by rw [List.length_reverse, lx.out]; exact hk))
      obtain ⟨M, hMe⟩ : ∃ M, M = nle (xs.reverse.take k) := ⟨_, rfl⟩
      rw [← hMe] at HL ⊢
      have HM := Lib.hid hMe; clear hMe
      by_cases hlt : k < n
      · obtain ⟨ad, x, rfl, _, hxk, hxc, hx0, hx1⟩ := hx.at_ (k := n - 1 - k) (by omega)
        have hxr : xs.reverse[k]? = some x := by rw [List.getElem?_reverse (by rw [lx.out]; omega), lx.out]; exact hxk
        have Hxk := Lib.hid hxr; clear hxk hxr
        clear hx
        go_wp2
        go_roundw
        case rel =>
          refine ⟨k + 1, by omega, by go_num, ?_, by first | exact Qt.d _ _ | exact Qt.dd _ _ _⟩
          rw [or_shl _ _ _ HL.out x.toNat_lt (by omega), nle_take_snoc Hxk.out, HM.out]
        case measure => simp [intOf]; omega
      · have hkn : k = n := by omega
        have Hkn := Lib.hid hkn; clear hkn
        go_wp2
        go_ret2
        refine ⟨?_, Qt.d _ _⟩
        rw [HM.out, List.take_of_length_le (by rw [List.length_reverse, lx.out, Hkn.out]; omega)]; rfl

set_option maxHeartbeats 400000 in
theorem octs_get_no (A : Option Addr) (n c : Nat) (l : Bool) (w : World) (h : n < 1 ∨ 8 < n) (hn : n ≤ maxLen) :
    Calls Try.prog 31 #[.slice A n c, .bool l] w fun e w' => e = .returned (.tuple #[.int .u64 0, .int .i64 1]) ∧ w = w' := by
  unfold maxLen at hn
  rcases h with h | h
  · go_enter Try.func31, Try.ntmps31
    go_wp2
    go_ret2
    exact ⟨rfl, rfl⟩
  · go_enter Try.func31, Try.ntmps31
    go_wp2
    go_ret2
    exact ⟨rfl, rfl⟩

def InW (n : Int) : Prop := 1 ≤ n ∧ n ≤ 8
instance (n : Int) : Decidable (InW n) := by unfold InW; infer_instance
def putErr (n : Int) : Int := if InW n then 0 else 1
def putBytes (N : Nat) (n : Int) (l : Bool) : List UInt8 := if InW n then laid n.toNat N l else []
/-- A slice of bytes with an error's number is handed back; nothing that was there has turned. -/
def RetBE (w : World) (bs : List UInt8) (err : Int) (e : Ending) (w' : World) : Prop :=
  ∃ A n c, e = .returned (.tuple #[.slice A n c, .int .i64 err]) ∧ n ≤ c ∧ c ≤ maxLen ∧ RB w' A n bs ∧ Below w.heap.size w w'
theorem RetBE.of {w w' : World} {v : Value} {n : Nat} {bs : List UInt8} {base : Nat} {err : Int} (ho : OB w' base v n bs) (hb : Below w.heap.size w w') : RetBE w bs err (.returned (.tuple #[v, .int .i64 err])) w' := by
  obtain ⟨A, c, rfl, h1, h2, h3⟩ := ho.shape
  exact ⟨A, n, c, rfl, h1, h2, h3, hb⟩
theorem RetBE.nil (w : World) (err : Int) : RetBE w [] err (.returned (.tuple #[.slice none 0 0, .int .i64 err])) w :=
  ⟨none, 0, 0, rfl, Nat.le_refl _, by simp [maxLen], RB.nil _ _, Below.refl _ _⟩
def getNum (xs : List UInt8) (l : Bool) : Nat := if InW xs.length then num xs l else 0
theorem octs_get_all (A : Option Addr) (n c : Nat) (xs : List UInt8) (l : Bool) (w : World) (hx : RB w A n xs) (hn : n ≤ maxLen) :
    Calls Try.prog 31 #[.slice A n c, .bool l] w fun e w' => e = .returned (.tuple #[.int .u64 (getNum xs l : Nat), .int .i64 (putErr n)]) ∧ Below w.heap.size w w' := by
  have hl := hx.len
  by_cases h : InW n
  · simp only [getNum, putErr, if_pos h, hl]
    exact (octs_get A n c xs l w hx (by unfold InW at h; omega) (by unfold InW at h; omega)).mono fun e w' ⟨he, hq⟩ => ⟨he, hq.below _⟩
  · simp only [getNum, putErr, if_neg h, hl]
    exact (octs_get_no A n c l w (by unfold InW at h; omega) hn).mono fun e w' ⟨he, hq⟩ => ⟨he, by subst hq; exact Below.refl _ _⟩
end Go.Proofs.Ytecnclcendcfmaa
