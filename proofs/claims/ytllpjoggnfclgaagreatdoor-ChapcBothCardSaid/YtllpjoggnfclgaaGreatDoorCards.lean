/-
  DERIVED. GIVEN WITH THE SEED: THE CARDS: each row of YtllpjoggnfclgaaGreatDoorRows.lean that lists a variable, with what it lists TIED to the program's text (the seventh form; the later family's looks); each row that meets fmt, with fmt's text TOLD by the authors' own Lean function (tested against real Go, not proved from fmt's source: count such statements apart). THE CARD IS WHAT COUNTS. Prove the row's statement (the work); the ties are given (YtllpjoggnfclgaaGreatDoorTie.lean); close each card by the builder's one call (the guide's Derived/Test/ToyasCard.lean, 'card_holds'). Laid BY PROGRAM, IN A SANDBOX (cutbox-door.mjs). By AI agents, Wed Nov 11 2026. No macro, syntax, notation, axiom, sorry.
-/
import Derived.Test.YtllpjoggnfclgaaGreatDoorRows
import GoSem.ClaimSeven
namespace Go.Proofs.YtllpjoggnfclgaaGreatDoor
namespace Rows

/-- THE TIED CARD OF 'euphroelaw29.ChapsPlays'. -/
def chapsPlaysCard : Claim7 := { stood := { row := chapsPlaysRow, standIns := [], harness := (true, "b1a90ee83a734061178abef276dd638aa37f47f670b9e89e697a784b18210f4c"), looks := true }, kinds := [], alts := [], laidByText := true, laidKinds := [.data, .data, .data, .data, .data, .data, .data, .pinned], laidTests := true, laidLooks := .later }
def ChapsPlaysCardSaid : Prop := Claim7.holds Tryz.pinned (.plain (OpenSpec.ofChange chapsPlaysSpec)) chapsPlaysCard

/-- THE TIED CARD OF 'euphroelaw30.ChapcBoth'. -/
def chapcBothCard : Claim7 := { stood := { row := chapcBothRow, standIns := [], harness := (true, "b1a90ee83a734061178abef276dd638aa37f47f670b9e89e697a784b18210f4c"), looks := true }, kinds := [], alts := [], laidByText := true, laidKinds := [.data, .data, .data, .data, .sentinel, .sentinel, .data, .data, .data, .pinned], laidTests := true, laidLooks := .later }
def ChapcBothCardSaid : Prop := Claim7.holds Tryz.pinned (.plain (OpenSpec.ofChange chapcBothSpec)) chapcBothCard

/-- THE SECOND FORM's CARD OF 'euphroelaw29.ChapsPlays'. -/
def chapsPlaysUptoCard : Claim7 := { stood := { row := chapsPlaysUptoRow, standIns := [], harness := (true, "b1a90ee83a734061178abef276dd638aa37f47f670b9e89e697a784b18210f4c"), looks := true }, kinds := [], alts := [], laidByText := true, laidKinds := [.data, .data, .data, .data, .data, .data, .data, .pinned], laidTests := true, laidLooks := .later }
def ChapsPlaysUptoCardSaid : Prop := Claim7.holds Tryz.pinned (.plain (OpenSpec.upto chapsPlaysSpec)) chapsPlaysUptoCard

/-- THE SECOND FORM's CARD OF 'euphroelaw30.ChapcBoth'. -/
def chapcBothUptoCard : Claim7 := { stood := { row := chapcBothUptoRow, standIns := [], harness := (true, "b1a90ee83a734061178abef276dd638aa37f47f670b9e89e697a784b18210f4c"), looks := true }, kinds := [], alts := [], laidByText := true, laidKinds := [.data, .data, .data, .data, .sentinel, .sentinel, .data, .data, .data, .pinned], laidTests := true, laidLooks := .later }
def ChapcBothUptoCardSaid : Prop := Claim7.holds Tryz.pinned (.plain (OpenSpec.upto chapcBothSpec)) chapcBothUptoCard
end Rows
end Go.Proofs.YtllpjoggnfclgaaGreatDoor
