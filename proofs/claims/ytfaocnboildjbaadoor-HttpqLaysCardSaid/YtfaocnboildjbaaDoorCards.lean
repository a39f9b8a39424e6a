/-
  DERIVED. GIVEN WITH THE SEED: THE CARDS: each row of YtfaocnboildjbaaDoorRows.lean that lists a variable, with what it lists TIED to the program's text (the seventh form; the later family's looks); each row that meets fmt, with fmt's text TOLD by the authors' own Lean function (tested against real Go, not proved from fmt's source: count such statements apart). THE CARD IS WHAT COUNTS. Prove the row's statement (the work); the ties are given (YtfaocnboildjbaaDoorTie.lean); close each card by the builder's one call (the guide's Derived/Test/ToyasCard.lean, 'card_holds'). Laid BY PROGRAM, IN A SANDBOX (cutbox-door.mjs). By AI agents, Wed Nov 11 2026. No macro, syntax, notation, axiom, sorry.
-/
import Derived.Test.YtfaocnboildjbaaDoorRows
import GoSem.ClaimSeven
namespace Go.Proofs.YtfaocnboildjbaaDoor
namespace Rows

/-- THE TIED CARD OF 'euphroelaw15.HttpqLays'. -/
def httpqLaysCard : Claim7 := { stood := { row := httpqLaysRow, standIns := [], harness := (true, "f86e85d5a3269c43353852b258a71126b2391f70cfc98c6d511b9843fc3dfa0b"), looks := false }, kinds := [], alts := [], laidByText := true, laidKinds := [.data, .pinned], laidTests := true, laidLooks := .later }
def HttpqLaysCardSaid : Prop := Claim7.holds Tryd.pinned (.plain (OpenSpec.ofChange httpqLaysSpec)) httpqLaysCard

/-- THE TIED CARD OF 'euphroelaw15.HttpqParses'. -/
def httpqParsesCard : Claim7 := { stood := { row := httpqParsesRow, standIns := [], harness := (true, "f86e85d5a3269c43353852b258a71126b2391f70cfc98c6d511b9843fc3dfa0b"), looks := false }, kinds := [], alts := [], laidByText := true, laidKinds := [.data, .pinned], laidTests := true, laidLooks := .later }
def HttpqParsesCardSaid : Prop := Claim7.holds Tryd.pinned (.plain (OpenSpec.ofChange httpqParsesSpec)) httpqParsesCard

/-- THE TIED CARD OF 'euphroelaw15.HttpqBack'. -/
def httpqBackCard : Claim7 := { stood := { row := httpqBackRow, standIns := [], harness := (true, "f86e85d5a3269c43353852b258a71126b2391f70cfc98c6d511b9843fc3dfa0b"), looks := false }, kinds := [], alts := [], laidByText := true, laidKinds := [.data, .pinned], laidTests := true, laidLooks := .later }
def HttpqBackCardSaid : Prop := Claim7.holds Tryd.pinned (.plain (OpenSpec.ofChange httpqBackSpec)) httpqBackCard

/-- THE SECOND FORM's CARD OF 'euphroelaw15.HttpqLays'. -/
def httpqLaysUptoCard : Claim7 := { stood := { row := httpqLaysUptoRow, standIns := [], harness := (true, "f86e85d5a3269c43353852b258a71126b2391f70cfc98c6d511b9843fc3dfa0b"), looks := false }, kinds := [], alts := [], laidByText := true, laidKinds := [.data, .pinned], laidTests := true, laidLooks := .later }
def HttpqLaysUptoCardSaid : Prop := Claim7.holds Tryd.pinned (.plain (OpenSpec.upto httpqLaysSpec)) httpqLaysUptoCard

/-- THE SECOND FORM's CARD OF 'euphroelaw15.HttpqParses'. -/
def httpqParsesUptoCard : Claim7 := { stood := { row := httpqParsesUptoRow, standIns := [], harness := (true, "f86e85d5a3269c43353852b258a71126b2391f70cfc98c6d511b9843fc3dfa0b"), looks := false }, kinds := [], alts := [], laidByText := true, laidKinds := [.data, .pinned], laidTests := true, laidLooks := .later }
def HttpqParsesUptoCardSaid : Prop := Claim7.holds Tryd.pinned (.plain (OpenSpec.upto httpqParsesSpec)) httpqParsesUptoCard

/-- THE SECOND FORM's CARD OF 'euphroelaw15.HttpqBack'. -/
def httpqBackUptoCard : Claim7 := { stood := { row := httpqBackUptoRow, standIns := [], harness := (true, "f86e85d5a3269c43353852b258a71126b2391f70cfc98c6d511b9843fc3dfa0b"), looks := false }, kinds := [], alts := [], laidByText := true, laidKinds := [.data, .pinned], laidTests := true, laidLooks := .later }
def HttpqBackUptoCardSaid : Prop := Claim7.holds Tryd.pinned (.plain (OpenSpec.upto httpqBackSpec)) httpqBackUptoCard
end Rows
end Go.Proofs.YtfaocnboildjbaaDoor
