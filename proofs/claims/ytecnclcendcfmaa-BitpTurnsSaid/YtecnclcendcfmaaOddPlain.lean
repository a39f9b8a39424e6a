/-
  Plain facts on bytes with an odd number of bits. Nothing of the program.
-/
import Derived.Test.YtecnclcendcfmaaBits
import Derived.Lib.BitFns
namespace Go.Proofs.Ytecnclcendcfmaa
set_option maxRecDepth 100000

theorem high_of : ∀ n : Nat, n < 256 → bits .andNot .u8 (n : Int) 1 = ((n - n % 2 : Nat) : Int) := by decide +kernel
def oddN (n : Nat) : Nat := if Lib.onesCount (n - n % 2) % 2 = 0 then n - n % 2 + 1 else n - n % 2
theorem oddN_lt : ∀ n : Nat, n < 256 → oddN n < 256 := by decide +kernel
theorem or1_of : ∀ n : Nat, n < 256 → bits .or .u8 ((n - n % 2 : Nat) : Int) 1 = ((n - n % 2 + 1 : Nat) : Int) := by decide +kernel
theorem ones_le : ∀ n : Nat, n < 256 → Lib.onesCount (n - n % 2) ≤ 8 := by decide +kernel
end Go.Proofs.Ytecnclcendcfmaa
