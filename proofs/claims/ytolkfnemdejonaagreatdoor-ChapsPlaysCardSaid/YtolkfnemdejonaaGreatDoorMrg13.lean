/-
  Parts of my own, one behind the other: QZf.
-/
import Derived.Test.YtolkfnemdejonaaGreatDoorMrg10
namespace Go.Proofs.YtolkfnemdejonaaGreatDoor
set_option maxRecDepth 100000
open Go.RowKit
set_option maxRecDepth 100000
def pf:Arr Int 16:=⟨7::List.replicate 15 0,rfl⟩
def af:Arr Int 16:=⟨9::List.replicate 15 0,rfl⟩
theorem at7:((de 200000 pf af [117] [112]).bind fun x=>(gH 200000 [112]).bind fun h=>(bz 200000 pf af [117]).bind fun c=>(eU 200000 h.1 x.1 c).map fun a=>decide (a.length≤1000)&&x.1.l.all (fun n=>decide (0≤n)&&decide (n<256)))=some true:=by decide +kernel
end Go.Proofs.YtolkfnemdejonaaGreatDoor
