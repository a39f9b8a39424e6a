/-
  Contracts: numbers as bytes, and bytes as numbers.
-/
import Derived.Test.YtkndelbnjhkbcaaFacts
import Derived.Test.YtkndelbnjhkbcaaPlain01
namespace Go.Proofs.Ytkndelbnjhkbcaa
open Go.RowKit
set_option linter.unusedVariables false

theorem or_shl (M x k : Nat) (hM : M < 256 ^ k) (hx : x < 256) (hk : k ≤ 7) : bits .or .u64 (M : Int) (IntKind.u64.wrap ((x : Int) * 2 ^ (8 * k))) = ((M + x * 256 ^ k : Nat) : Int) := by
  have e : (2 : Int) ^ (8 * k) = ((256 ^ k : Nat) : Int) := by rw [Int.pow_mul]; simp
  have hp := pow256_le hk
  have hxp : x * 256 ^ k ≤ 255 * 256 ^ k := Nat.mul_le_mul_right _ (by omega)
  rw [e, ← Int.natCast_mul, IntKind.wrap_u64, Int.emod_eq_of_lt (by omega) (by omega), u64_or_nat _ _ (by omega) (by omega), or_add hM]
theorem nle_take_snoc {xs : List UInt8} {k : Nat} {b : UInt8} (h : xs[k]? = some b) : nle (xs.take (k + 1)) = nle (xs.take k) + b.toNat * 256 ^ k := by
  have hk := (List.getElem?_eq_some_iff.1 h).1
  rw [take_snoc h, nle_snoc, List.length_take, Nat.min_eq_left (by omega)]
theorem nle_take_lt (xs : List UInt8) (k : Nat) (h : k ≤ xs.length) : nle (xs.take k) < 256 ^ k := by
  have hl := nle_lt (xs.take k)
  rwa [List.length_take, Nat.min_eq_left h] at hl

def InW (n : Int) : Prop := 1 ≤ n ∧ n ≤ 8
instance (n : Int) : Decidable (InW n) := by unfold InW; infer_instance
def putErr (n : Int) : Int := if InW n then 0 else 1
def putBytes (N : Nat) (n : Int) (l : Bool) : List UInt8 := if InW n then laid n.toNat N l else []
/-- A slice of bytes with an error's number is handed back; nothing that was there has turned. -/
def RetBE (w : World) (bs : List UInt8) (err : Int) (e : Ending) (w' : World) : Prop :=
  ∃ A n c, e = .returned (.tuple #[.slice A n c, .int .i64 err]) ∧ n ≤ c ∧ c ≤ maxLen ∧ RB w' A n bs ∧ Below w.heap.size w w'
theorem RetBE.of {w w' : World} {v : Value} {n : Nat} {bs : List UInt8} {base : Nat} {err : Int} (ho : OB w' base v n bs) (hb : Below w.heap.size w w') : RetBE w bs err (.returned (.tuple #[v, .int .i64 err])) w' := by
  obtain ⟨A, c, rfl, h1, h2, h3⟩ := ho.shape
  exact ⟨A, n, c, rfl, h1, h2, h3, hb⟩
theorem RetBE.nil (w : World) (err : Int) : RetBE w [] err (.returned (.tuple #[.slice none 0 0, .int .i64 err])) w :=
  ⟨none, 0, 0, rfl, Nat.le_refl _, by simp [maxLen], RB.nil _ _, Below.refl _ _⟩
def getNum (xs : List UInt8) (l : Bool) : Nat := if InW xs.length then num xs l else 0
end Go.Proofs.Ytkndelbnjhkbcaa
