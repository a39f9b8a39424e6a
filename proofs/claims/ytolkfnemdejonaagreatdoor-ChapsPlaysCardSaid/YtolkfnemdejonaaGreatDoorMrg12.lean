/-
  Parts of my own, one behind the other: QZe.
-/
import Derived.Test.YtolkfnemdejonaaGreatDoorMrg10
namespace Go.Proofs.YtolkfnemdejonaaGreatDoor
set_option maxRecDepth 100000
open Go.RowKit
set_option maxRecDepth 100000
def pe:Arr Int 16:=⟨7::List.replicate 15 0,rfl⟩
def au:Arr Int 16:=⟨9::List.replicate 15 0,rfl⟩
theorem atT:((de 200000 pe au [117] [112]).bind fun x=>(gH 200000 [112]).bind fun h=>(iN 200000 h.1 x.1 true).map fun k=>(decide (x.2=0)&&decide (h.2=0))&&(decide (k.l≠List.replicate 32 0)&&wfB (.arr 32 (.int .u8)) k))=some true:=by decide +kernel
end Go.Proofs.YtolkfnemdejonaaGreatDoor
