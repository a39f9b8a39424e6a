/-
  DERIVED. GIVEN WITH THE SEED: THE CARDS: each row of YtkcdnjgieabjoaaGreatDoorRows.lean that lists a variable, with what it lists TIED to the program's text (the seventh form; the later family's looks); each row that meets fmt, with fmt's text TOLD by the authors' own Lean function (tested against real Go, not proved from fmt's source: count such statements apart). THE CARD IS WHAT COUNTS. Prove the row's statement (the work); the ties are given (YtkcdnjgieabjoaaGreatDoorTie.lean); close each card by the builder's one call (the guide's Derived/Test/ToyasCard.lean, 'card_holds'). Laid BY PROGRAM, IN A SANDBOX (cutbox-door.mjs). By AI agents, Wed Nov 11 2026. No macro, syntax, notation, axiom, sorry.
-/
import Derived.Test.YtkcdnjgieabjoaaGreatDoorRows
import GoSem.ClaimSeven
namespace Go.Proofs.YtkcdnjgieabjoaaGreatDoor
namespace Rows

/-- THE TIED CARD OF 'euphroelaw29.ChapsPlays'. -/
def chapsPlaysCard : Claim7 := { stood := { row := chapsPlaysRow, standIns := [], harness := (true, "1f29fe412959fe2a20ccc312066a49a8250fd1c127e8cbafc8ce34605cf4ccdf"), looks := true }, kinds := [], alts := [], laidByText := true, laidKinds := [.data, .data, .data, .data, .data, .data, .data, .pinned], laidTests := true, laidLooks := .later }
def ChapsPlaysCardSaid : Prop := Claim7.holds Tryz.pinned (.plain (OpenSpec.ofChange chapsPlaysSpec)) chapsPlaysCard

/-- THE TIED CARD OF 'euphroelaw29.ChapsProves'. -/
def chapsProvesCard : Claim7 := { stood := { row := chapsProvesRow, standIns := [], harness := (true, "1f29fe412959fe2a20ccc312066a49a8250fd1c127e8cbafc8ce34605cf4ccdf"), looks := true }, kinds := [], alts := [], laidByText := true, laidKinds := [.data, .data, .data, .data, .data, .data, .data, .pinned], laidTests := true, laidLooks := .later }
def ChapsProvesCardSaid : Prop := Claim7.holds Tryz.pinned (.plain (OpenSpec.ofChange chapsProvesSpec)) chapsProvesCard

/-- THE TIED CARD OF 'euphroelaw30.ChapcBoth'. -/
def chapcBothCard : Claim7 := { stood := { row := chapcBothRow, standIns := [], harness := (true, "1f29fe412959fe2a20ccc312066a49a8250fd1c127e8cbafc8ce34605cf4ccdf"), looks := true }, kinds := [], alts := [], laidByText := true, laidKinds := [.data, .data, .data, .data, .sentinel, .sentinel, .data, .data, .data, .pinned], laidTests := true, laidLooks := .later }
def ChapcBothCardSaid : Prop := Claim7.holds Tryz.pinned (.plain (OpenSpec.ofChange chapcBothSpec)) chapcBothCard

/-- THE SECOND FORM's CARD OF 'euphroelaw29.ChapsPlays'. -/
def chapsPlaysUptoCard : Claim7 := { stood := { row := chapsPlaysUptoRow, standIns := [], harness := (true, "1f29fe412959fe2a20ccc312066a49a8250fd1c127e8cbafc8ce34605cf4ccdf"), looks := true }, kinds := [], alts := [], laidByText := true, laidKinds := [.data, .data, .data, .data, .data, .data, .data, .pinned], laidTests := true, laidLooks := .later }
def ChapsPlaysUptoCardSaid : Prop := Claim7.holds Tryz.pinned (.plain (OpenSpec.upto chapsPlaysSpec)) chapsPlaysUptoCard

/-- THE SECOND FORM's CARD OF 'euphroelaw29.ChapsProves'. -/
def chapsProvesUptoCard : Claim7 := { stood := { row := chapsProvesUptoRow, standIns := [], harness := (true, "1f29fe412959fe2a20ccc312066a49a8250fd1c127e8cbafc8ce34605cf4ccdf"), looks := true }, kinds := [], alts := [], laidByText := true, laidKinds := [.data, .data, .data, .data, .data, .data, .data, .pinned], laidTests := true, laidLooks := .later }
def ChapsProvesUptoCardSaid : Prop := Claim7.holds Tryz.pinned (.plain (OpenSpec.upto chapsProvesSpec)) chapsProvesUptoCard

/-- THE SECOND FORM's CARD OF 'euphroelaw30.ChapcBoth'. -/
def chapcBothUptoCard : Claim7 := { stood := { row := chapcBothUptoRow, standIns := [], harness := (true, "1f29fe412959fe2a20ccc312066a49a8250fd1c127e8cbafc8ce34605cf4ccdf"), looks := true }, kinds := [], alts := [], laidByText := true, laidKinds := [.data, .data, .data, .data, .sentinel, .sentinel, .data, .data, .data, .pinned], laidTests := true, laidLooks := .later }
def ChapcBothUptoCardSaid : Prop := Claim7.holds Tryz.pinned (.plain (OpenSpec.upto chapcBothSpec)) chapcBothUptoCard
end Rows
end Go.Proofs.YtkcdnjgieabjoaaGreatDoor
