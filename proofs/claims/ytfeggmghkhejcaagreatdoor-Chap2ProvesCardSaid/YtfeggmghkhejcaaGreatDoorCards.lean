/-
  DERIVED. GIVEN WITH THE SEED: THE CARDS: each row of YtfeggmghkhejcaaGreatDoorRows.lean that lists a variable, with what it lists TIED to the program's text (the seventh form; the later family's looks); each row that meets fmt, with fmt's text TOLD by the authors' own Lean function (tested against real Go, not proved from fmt's source: count such statements apart). THE CARD IS WHAT COUNTS. Prove the row's statement (the work); the ties are given (YtfeggmghkhejcaaGreatDoorTie.lean); close each card by the builder's one call (the guide's Derived/Test/ToyasCard.lean, 'card_holds'). Laid BY PROGRAM, IN A SANDBOX (cutbox-door.mjs). By AI agents, Wed Nov 11 2026. No macro, syntax, notation, axiom, sorry.
-/
import Derived.Test.YtfeggmghkhejcaaGreatDoorRows
import GoSem.ClaimSeven
namespace Go.Proofs.YtfeggmghkhejcaaGreatDoor
namespace Rows

/-- THE TIED CARD OF 'euphroelaw11.Chap2Proves'. -/
def chap2ProvesCard : Claim7 := { stood := { row := chap2ProvesRow, standIns := [], harness := (true, "254f2033c518110e56b1a31723a05a0503ddb154b89243b8bb26e40c0f9aa384"), looks := true }, kinds := [], alts := [], laidByText := true, laidKinds := [.data, .data, .data, .data, .pinned], laidTests := true, laidLooks := .later }
def Chap2ProvesCardSaid : Prop := Claim7.holds Tryz.pinned (.plain (OpenSpec.ofChange chap2ProvesSpec)) chap2ProvesCard

/-- THE TIED CARD OF 'euphroelaw11.Chap2Tells'. -/
def chap2TellsCard : Claim7 := { stood := { row := chap2TellsRow, standIns := [], harness := (true, "254f2033c518110e56b1a31723a05a0503ddb154b89243b8bb26e40c0f9aa384"), looks := true }, kinds := [], alts := [], laidByText := true, laidKinds := [.data, .data, .data, .data, .sentinel, .sentinel, .data, .data, .data, .pinned], laidTests := true, laidLooks := .later }
def Chap2TellsCardSaid : Prop := Claim7.holds Tryz.pinned (.plain (OpenSpec.ofChange chap2TellsSpec)) chap2TellsCard

/-- THE TIED CARD OF 'euphroelaw11.Chap2Back'. -/
def chap2BackCard : Claim7 := { stood := { row := chap2BackRow, standIns := [], harness := (true, "254f2033c518110e56b1a31723a05a0503ddb154b89243b8bb26e40c0f9aa384"), looks := true }, kinds := [], alts := [], laidByText := true, laidKinds := [.data, .data, .data, .data, .sentinel, .sentinel, .data, .data, .data, .pinned], laidTests := true, laidLooks := .later }
def Chap2BackCardSaid : Prop := Claim7.holds Tryz.pinned (.plain (OpenSpec.ofChange chap2BackSpec)) chap2BackCard

/-- THE SECOND FORM's CARD OF 'euphroelaw11.Chap2Proves'. -/
def chap2ProvesUptoCard : Claim7 := { stood := { row := chap2ProvesUptoRow, standIns := [], harness := (true, "254f2033c518110e56b1a31723a05a0503ddb154b89243b8bb26e40c0f9aa384"), looks := true }, kinds := [], alts := [], laidByText := true, laidKinds := [.data, .data, .data, .data, .pinned], laidTests := true, laidLooks := .later }
def Chap2ProvesUptoCardSaid : Prop := Claim7.holds Tryz.pinned (.plain (OpenSpec.upto chap2ProvesSpec)) chap2ProvesUptoCard

/-- THE SECOND FORM's CARD OF 'euphroelaw11.Chap2Tells'. -/
def chap2TellsUptoCard : Claim7 := { stood := { row := chap2TellsUptoRow, standIns := [], harness := (true, "254f2033c518110e56b1a31723a05a0503ddb154b89243b8bb26e40c0f9aa384"), looks := true }, kinds := [], alts := [], laidByText := true, laidKinds := [.data, .data, .data, .data, .sentinel, .sentinel, .data, .data, .data, .pinned], laidTests := true, laidLooks := .later }
def Chap2TellsUptoCardSaid : Prop := Claim7.holds Tryz.pinned (.plain (OpenSpec.upto chap2TellsSpec)) chap2TellsUptoCard

/-- THE SECOND FORM's CARD OF 'euphroelaw11.Chap2Back'. -/
def chap2BackUptoCard : Claim7 := { stood := { row := chap2BackUptoRow, standIns := [], harness := (true, "254f2033c518110e56b1a31723a05a0503ddb154b89243b8bb26e40c0f9aa384"), looks := true }, kinds := [], alts := [], laidByText := true, laidKinds := [.data, .data, .data, .data, .sentinel, .sentinel, .data, .data, .data, .pinned], laidTests := true, laidLooks := .later }
def Chap2BackUptoCardSaid : Prop := Claim7.holds Tryz.pinned (.plain (OpenSpec.upto chap2BackSpec)) chap2BackUptoCard
end Rows
end Go.Proofs.YtfeggmghkhejcaaGreatDoor
