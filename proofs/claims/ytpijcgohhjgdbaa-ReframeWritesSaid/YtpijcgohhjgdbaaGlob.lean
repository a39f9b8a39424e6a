/-
  The program's tables, as the law's row lists them: variables of the program that hold numbers alone.
-/
import Derived.Test.YtpijcgohhjgdbaaRgn
namespace Go.Proofs.Ytpijcgohhjgdbaa
set_option maxRecDepth 100000
open Go.RowKit
def globs : List (Nat × List Value) := [
]
end Go.Proofs.Ytpijcgohhjgdbaa
