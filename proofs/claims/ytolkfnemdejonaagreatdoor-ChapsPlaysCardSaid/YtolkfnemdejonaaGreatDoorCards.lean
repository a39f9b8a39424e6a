/-
  DERIVED. GIVEN WITH THE SEED: THE CARDS: each row of YtolkfnemdejonaaGreatDoorRows.lean that lists a variable, with what it lists TIED to the program's text (the seventh form; the later family's looks); each row that meets fmt, with fmt's text TOLD by the authors' own Lean function (tested against real Go, not proved from fmt's source: count such statements apart). THE CARD IS WHAT COUNTS. Prove the row's statement (the work); the ties are given (YtolkfnemdejonaaGreatDoorTie.lean); close each card by the builder's one call (the guide's Derived/Test/ToyasCard.lean, 'card_holds'). Laid BY PROGRAM, IN A SANDBOX (cutbox-door.mjs). By AI agents, Wed Nov 11 2026. No macro, syntax, notation, axiom, sorry.
-/
import Derived.Test.YtolkfnemdejonaaGreatDoorRows
import GoSem.ClaimSeven
namespace Go.Proofs.YtolkfnemdejonaaGreatDoor
namespace Rows

/-- THE TIED CARD OF 'euphroelaw29.ChapsPlays'. -/
def chapsPlaysCard : Claim7 := { stood := { row := chapsPlaysRow, standIns := [], harness := (true, "d4fb0c5e9c8e642d0bf98c06f7dd4a9f6980cd7cb6a2afc02c9a11eb77b6ab4d"), looks := false }, kinds := [], alts := [], laidByText := true, laidKinds := [.data, .data, .data, .data, .data, .data, .data, .pinned], laidTests := true, laidLooks := .later }
def ChapsPlaysCardSaid : Prop := Claim7.holds Tryz.pinned (.plain (OpenSpec.ofChange chapsPlaysSpec)) chapsPlaysCard

/-- THE SECOND FORM's CARD OF 'euphroelaw29.ChapsPlays'. -/
def chapsPlaysUptoCard : Claim7 := { stood := { row := chapsPlaysUptoRow, standIns := [], harness := (true, "d4fb0c5e9c8e642d0bf98c06f7dd4a9f6980cd7cb6a2afc02c9a11eb77b6ab4d"), looks := false }, kinds := [], alts := [], laidByText := true, laidKinds := [.data, .data, .data, .data, .data, .data, .data, .pinned], laidTests := true, laidLooks := .later }
def ChapsPlaysUptoCardSaid : Prop := Claim7.holds Tryz.pinned (.plain (OpenSpec.upto chapsPlaysSpec)) chapsPlaysUptoCard
end Rows
end Go.Proofs.YtolkfnemdejonaaGreatDoor
