/-
  Parts of my own, one behind the other: Qbe.
-/
import Derived.Test.YtllpjoggnfclgaaGreatDoorMrg9
namespace Go.Proofs.YtllpjoggnfclgaaGreatDoor
set_option maxRecDepth 100000
open Go.RowKit
set_option maxRecDepth 100000
def pe:Arr Int 16:=⟨2::List.replicate 15 0,rfl⟩
def au:Arr Int 16:=⟨1::List.replicate 15 0,rfl⟩
theorem asb:((cN 200000 [112]).bind fun h=>(aQ 200000 pe au [117]).bind fun c=>(bB 200000 c h.1).bind fun r=>(dP 200000 h.1 r false).map fun k=>decide (h.2=0)&&decide (k.l≠List.replicate 32 0))=some true:=by decide +kernel
end Go.Proofs.YtllpjoggnfclgaaGreatDoor
