/-
  Layer 4, on plain data: it is alive.
-/
import Derived.Test.YtpjamebfpgmjdaaDoorQOcts
import Derived.Test.YtpjamebfpgmjdaaDoorGMd4
namespace Go.Proofs.YtpjamebfpgmjdaaDoor
set_option maxRecDepth 100000
set_option maxRecDepth 100000
theorem alive04 : law04_alive 200000 = some true := by decide +kernel
theorem consts04 : md4_constants 200000 = some (Arr.cons 0 (Arr.cons 1518500249 (Arr.cons 1859775393 Arr.nil))) := by kernel_rfl
end Go.Proofs.YtpjamebfpgmjdaaDoor
