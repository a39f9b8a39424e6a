/-
  DERIVED. GIVEN WITH THE SEED: THE CARDS: each row of YtphkpiocblmpeaaGreatDoorRows.lean that lists a variable, with what it lists TIED to the program's text (the seventh form; the later family's looks); each row that meets fmt, with fmt's text TOLD by the authors' own Lean function (tested against real Go, not proved from fmt's source: count such statements apart). THE CARD IS WHAT COUNTS. Prove the row's statement (the work); the ties are given (YtphkpiocblmpeaaGreatDoorTie.lean); close each card by the builder's one call (the guide's Derived/Test/ToyasCard.lean, 'card_holds'). Laid BY PROGRAM, IN A SANDBOX (cutbox-door.mjs). By AI agents, Wed Nov 11 2026. No macro, syntax, notation, axiom, sorry.
-/
import Derived.Test.YtphkpiocblmpeaaGreatDoorRows
import GoSem.ClaimSeven
namespace Go.Proofs.YtphkpiocblmpeaaGreatDoor
namespace Rows

/-- THE TIED CARD OF 'euphroelaw11.Chap2Tells'. -/
def chap2TellsCard : Claim7 := { stood := { row := chap2TellsRow, standIns := [], harness := (true, "b1ace43bc842dc1ea074e0f7da04bb53254fa5630024988172a3c83226045247"), looks := true }, kinds := [], alts := [], laidByText := true, laidKinds := [.data, .data, .data, .data, .sentinel, .sentinel, .data, .data, .data, .pinned], laidTests := true, laidLooks := .later }
def Chap2TellsCardSaid : Prop := Claim7.holds Tryz.pinned (.plain (OpenSpec.ofChange chap2TellsSpec)) chap2TellsCard

/-- THE TIED CARD OF 'euphroelaw11.Chap2Back'. -/
def chap2BackCard : Claim7 := { stood := { row := chap2BackRow, standIns := [], harness := (true, "b1ace43bc842dc1ea074e0f7da04bb53254fa5630024988172a3c83226045247"), looks := true }, kinds := [], alts := [], laidByText := true, laidKinds := [.data, .data, .data, .data, .sentinel, .sentinel, .data, .data, .data, .pinned], laidTests := true, laidLooks := .later }
def Chap2BackCardSaid : Prop := Claim7.holds Tryz.pinned (.plain (OpenSpec.ofChange chap2BackSpec)) chap2BackCard

/-- THE SECOND FORM's CARD OF 'euphroelaw11.Chap2Tells'. -/
def chap2TellsUptoCard : Claim7 := { stood := { row := chap2TellsUptoRow, standIns := [], harness := (true, "b1ace43bc842dc1ea074e0f7da04bb53254fa5630024988172a3c83226045247"), looks := true }, kinds := [], alts := [], laidByText := true, laidKinds := [.data, .data, .data, .data, .sentinel, .sentinel, .data, .data, .data, .pinned], laidTests := true, laidLooks := .later }
def Chap2TellsUptoCardSaid : Prop := Claim7.holds Tryz.pinned (.plain (OpenSpec.upto chap2TellsSpec)) chap2TellsUptoCard

/-- THE SECOND FORM's CARD OF 'euphroelaw11.Chap2Back'. -/
def chap2BackUptoCard : Claim7 := { stood := { row := chap2BackUptoRow, standIns := [], harness := (true, "b1ace43bc842dc1ea074e0f7da04bb53254fa5630024988172a3c83226045247"), looks := true }, kinds := [], alts := [], laidByText := true, laidKinds := [.data, .data, .data, .data, .sentinel, .sentinel, .data, .data, .data, .pinned], laidTests := true, laidLooks := .later }
def Chap2BackUptoCardSaid : Prop := Claim7.holds Tryz.pinned (.plain (OpenSpec.upto chap2BackSpec)) chap2BackUptoCard
end Rows
end Go.Proofs.YtphkpiocblmpeaaGreatDoor
