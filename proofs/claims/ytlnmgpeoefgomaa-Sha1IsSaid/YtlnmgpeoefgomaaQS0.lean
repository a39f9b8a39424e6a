/-
  Layer 5, on plain data: it is alive.
-/
import Derived.Test.YtlnmgpeoefgomaaQOcts
import Derived.Test.YtlnmgpeoefgomaaGSha1
namespace Go.Proofs.Ytlnmgpeoefgomaa
set_option maxRecDepth 100000
set_option maxRecDepth 100000
theorem alive05 : law05_alive 200000 = some true := by decide +kernel
theorem consts05 : sha1_constants 200000 = some (Arr.cons 1518500249 (Arr.cons 1859775393 (Arr.cons 2400959708 (Arr.cons 3395469782 Arr.nil)))) := by kernel_rfl
end Go.Proofs.Ytlnmgpeoefgomaa
