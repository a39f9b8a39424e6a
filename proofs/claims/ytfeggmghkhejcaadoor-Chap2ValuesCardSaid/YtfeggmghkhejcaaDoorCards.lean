/-
  DERIVED. GIVEN WITH THE SEED: THE CARDS: each row of YtfeggmghkhejcaaDoorRows.lean that lists a variable, with what it lists TIED to the program's text (the seventh form; the later family's looks); each row that meets fmt, with fmt's text TOLD by the authors' own Lean function (tested against real Go, not proved from fmt's source: count such statements apart). THE CARD IS WHAT COUNTS. Prove the row's statement (the work); the ties are given (YtfeggmghkhejcaaDoorTie.lean); close each card by the builder's one call (the guide's Derived/Test/ToyasCard.lean, 'card_holds'). Laid BY PROGRAM, IN A SANDBOX (cutbox-door.mjs). By AI agents, Wed Nov 11 2026. No macro, syntax, notation, axiom, sorry.
-/
import Derived.Test.YtfeggmghkhejcaaDoorRows
import GoSem.ClaimSeven
namespace Go.Proofs.YtfeggmghkhejcaaDoor
namespace Rows

/-- THE TIED CARD OF 'euphroelaw11.Chap2Values'. -/
def chap2ValuesCard : Claim7 := { stood := { row := chap2ValuesRow, standIns := [], harness := (true, "63d749d440910bae915977518326d564a182497e9fd7cbf1219bded17b8ec85c"), looks := false }, kinds := [], alts := [], laidByText := true, laidKinds := [.data, .data, .data, .data, .pinned], laidTests := true, laidLooks := .later }
def Chap2ValuesCardSaid : Prop := Claim7.holds Tryd.pinned (.plain (OpenSpec.ofChange chap2ValuesSpec)) chap2ValuesCard

/-- THE SECOND FORM's CARD OF 'euphroelaw11.Chap2Values'. -/
def chap2ValuesUptoCard : Claim7 := { stood := { row := chap2ValuesUptoRow, standIns := [], harness := (true, "63d749d440910bae915977518326d564a182497e9fd7cbf1219bded17b8ec85c"), looks := false }, kinds := [], alts := [], laidByText := true, laidKinds := [.data, .data, .data, .data, .pinned], laidTests := true, laidLooks := .later }
def Chap2ValuesUptoCardSaid : Prop := Claim7.holds Tryd.pinned (.plain (OpenSpec.upto chap2ValuesSpec)) chap2ValuesUptoCard
end Rows
end Go.Proofs.YtfeggmghkhejcaaDoor
