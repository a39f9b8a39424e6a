/-
  Parts of my own, one behind the other: QKf.
-/
import Derived.Test.YtobcpglaeonklaaGreatDoorMrg9
namespace Go.Proofs.YtobcpglaeonklaaGreatDoor
set_option maxRecDepth 100000
open Go.RowKit
set_option maxRecDepth 100000
def pf : Arr Int 16 := ⟨7 :: List.replicate 15 0, rfl⟩
def af : Arr Int 16 := ⟨9 :: List.replicate 15 0, rfl⟩
theorem ans29 : ((chap2_Prove 200000 pf af [117] [112]).bind fun x => (nthash_Of 200000 [112]).bind fun h => (chap2_Challenge 200000 pf af [117]).bind fun c => (chap2_Answer 200000 h.1 x.1 c).map fun a => decide (a.length ≤ 1000) && x.1.l.all (fun n => decide (0 ≤ n) && decide (n < 256))) = some true := by decide +kernel
end Go.Proofs.YtobcpglaeonklaaGreatDoor
