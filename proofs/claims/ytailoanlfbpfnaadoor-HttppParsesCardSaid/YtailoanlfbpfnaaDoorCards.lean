/-
  DERIVED. GIVEN WITH THE SEED: THE CARDS: each row of YtailoanlfbpfnaaDoorRows.lean that lists a variable, with what it lists TIED to the program's text (the seventh form; the later family's looks); each row that meets fmt, with fmt's text TOLD by the authors' own Lean function (tested against real Go, not proved from fmt's source: count such statements apart). THE CARD IS WHAT COUNTS. Prove the row's statement (the work); the ties are given (YtailoanlfbpfnaaDoorTie.lean); close each card by the builder's one call (the guide's Derived/Test/ToyasCard.lean, 'card_holds'). Laid BY PROGRAM, IN A SANDBOX (cutbox-door.mjs). By AI agents, Wed Nov 11 2026. No macro, syntax, notation, axiom, sorry.
-/
import Derived.Test.YtailoanlfbpfnaaDoorRows
import GoSem.ClaimSeven
namespace Go.Proofs.YtailoanlfbpfnaaDoor
namespace Rows

/-- THE TIED CARD OF 'euphroelaw16.HttppParses'. -/
def httppParsesCard : Claim7 := { stood := { row := httppParsesRow, standIns := [], harness := (true, "9e455ef722bd946ec8b94a21752c93efe42091c6226a9d0e4142e634defd3fe4"), looks := true }, kinds := [], alts := [], laidByText := true, laidKinds := [.data, .data, .data, .data, .sentinel, .sentinel, .pinned], laidTests := true, laidLooks := .later }
def HttppParsesCardSaid : Prop := Claim7.holds Tryd.pinned (.plain (OpenSpec.ofChange httppParsesSpec)) httppParsesCard

/-- THE SECOND FORM's CARD OF 'euphroelaw16.HttppParses'. -/
def httppParsesUptoCard : Claim7 := { stood := { row := httppParsesUptoRow, standIns := [], harness := (true, "9e455ef722bd946ec8b94a21752c93efe42091c6226a9d0e4142e634defd3fe4"), looks := true }, kinds := [], alts := [], laidByText := true, laidKinds := [.data, .data, .data, .data, .sentinel, .sentinel, .pinned], laidTests := true, laidLooks := .later }
def HttppParsesUptoCardSaid : Prop := Claim7.holds Tryd.pinned (.plain (OpenSpec.upto httppParsesSpec)) httppParsesUptoCard
end Rows
end Go.Proofs.YtailoanlfbpfnaaDoor
