/-
  The program's tables, as the law's row lists them: variables of the program that hold numbers alone.
-/
import Derived.Test.YtpjamebfpgmjdaaDoorRgn
namespace Go.Proofs.YtpjamebfpgmjdaaDoor
set_option maxRecDepth 100000
open Go.RowKit
def globs : List (Nat × List Value) := [
  (0, [3, 7, 11, 19, 3, 5, 9, 13, 3, 9, 11, 15].map (.int .i64)),
  (4, [0, 8, 4, 12, 2, 10, 6, 14, 1, 9, 5, 13, 3, 11, 7, 15].map (.int .i64)),
]
end Go.Proofs.YtpjamebfpgmjdaaDoor
