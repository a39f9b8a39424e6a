/-
  The program's tables, as the law's row lists them: variables of the program that hold numbers alone.
-/
import Derived.Test.YtopfadmfbgnbhaaDoorRgn
namespace Go.Proofs.YtopfadmfbgnbhaaDoor
set_option maxRecDepth 100000
open Go.RowKit
def globs : List (Nat × List Value) := [
  (0, [1, 2, 9, 16].map (.int .i64)),
]
end Go.Proofs.YtopfadmfbgnbhaaDoor
