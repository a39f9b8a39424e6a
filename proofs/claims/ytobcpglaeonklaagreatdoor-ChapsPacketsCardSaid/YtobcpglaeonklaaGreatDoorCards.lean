/-
  DERIVED. GIVEN WITH THE SEED: THE CARDS: each row of YtobcpglaeonklaaGreatDoorRows.lean that lists a variable, with what it lists TIED to the program's text (the seventh form; the later family's looks); each row that meets fmt, with fmt's text TOLD by the authors' own Lean function (tested against real Go, not proved from fmt's source: count such statements apart). THE CARD IS WHAT COUNTS. Prove the row's statement (the work); the ties are given (YtobcpglaeonklaaGreatDoorTie.lean); close each card by the builder's one call (the guide's Derived/Test/ToyasCard.lean, 'card_holds'). Laid BY PROGRAM, IN A SANDBOX (cutbox-door.mjs). By AI agents, Wed Nov 11 2026. No macro, syntax, notation, axiom, sorry.
-/
import Derived.Test.YtobcpglaeonklaaGreatDoorRows
import GoSem.ClaimSeven
namespace Go.Proofs.YtobcpglaeonklaaGreatDoor
namespace Rows

/-- THE TIED CARD OF 'euphroelaw29.ChapsPackets'. -/
def chapsPacketsCard : Claim7 := { stood := { row := chapsPacketsRow, standIns := [], harness := (true, "782e1a2821bb30f08ee81d052e374b968bb2234aa3395b46151235ee9bc57a40"), looks := false }, kinds := [], alts := [], laidByText := true, laidKinds := [.data, .data, .data, .data, .data, .data, .data, .pinned], laidTests := true, laidLooks := .later }
def ChapsPacketsCardSaid : Prop := Claim7.holds Tryz.pinned (.plain (OpenSpec.ofChange chapsPacketsSpec)) chapsPacketsCard

/-- THE SECOND FORM's CARD OF 'euphroelaw29.ChapsPackets'. -/
def chapsPacketsUptoCard : Claim7 := { stood := { row := chapsPacketsUptoRow, standIns := [], harness := (true, "782e1a2821bb30f08ee81d052e374b968bb2234aa3395b46151235ee9bc57a40"), looks := false }, kinds := [], alts := [], laidByText := true, laidKinds := [.data, .data, .data, .data, .data, .data, .data, .pinned], laidTests := true, laidLooks := .later }
def ChapsPacketsUptoCardSaid : Prop := Claim7.holds Tryz.pinned (.plain (OpenSpec.upto chapsPacketsSpec)) chapsPacketsUptoCard
end Rows
end Go.Proofs.YtobcpglaeonklaaGreatDoor
