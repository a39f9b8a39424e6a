/-
  DERIVED. GIVEN WITH THE SEED: THE CARDS: each row of YtopfadmfbgnbhaaDoorRows.lean that lists a variable, with what it lists TIED to the program's text (the seventh form; the later family's looks); each row that meets fmt, with fmt's text TOLD by the authors' own Lean function (tested against real Go, not proved from fmt's source: count such statements apart). THE CARD IS WHAT COUNTS. Prove the row's statement (the work); the ties are given (YtopfadmfbgnbhaaDoorTie.lean); close each card by the builder's one call (the guide's Derived/Test/ToyasCard.lean, 'card_holds'). Laid BY PROGRAM, IN A SANDBOX (cutbox-door.mjs). By AI agents, Wed Nov 11 2026. No macro, syntax, notation, axiom, sorry.
-/
import Derived.Test.YtopfadmfbgnbhaaDoorRows
import GoSem.ClaimSeven
namespace Go.Proofs.YtopfadmfbgnbhaaDoor
namespace Rows

/-- THE TIED CARD OF 'euphroelaw08.DesWords'. -/
def desWordsCard : Claim7 := { stood := { row := desWordsRow, standIns := [], harness := (true, "e1c6a0d2b4e9d920224cfc9ea75cce9b8fc8f31bb8daccf32ff59897d48e24fe"), looks := false }, kinds := [], alts := [], laidByText := true, laidKinds := [.data], laidTests := true, laidLooks := .later }
def DesWordsCardSaid : Prop := Claim7.holds Tryd.pinned (.plain (OpenSpec.ofChange desWordsSpec)) desWordsCard

/-- THE TIED CARD OF 'euphroelaw08.DesTurns'. -/
def desTurnsCard : Claim7 := { stood := { row := desTurnsRow, standIns := [], harness := (true, "e1c6a0d2b4e9d920224cfc9ea75cce9b8fc8f31bb8daccf32ff59897d48e24fe"), looks := false }, kinds := [], alts := [], laidByText := true, laidKinds := [.data], laidTests := true, laidLooks := .later }
def DesTurnsCardSaid : Prop := Claim7.holds Tryd.pinned (.plain (OpenSpec.ofChange desTurnsSpec)) desTurnsCard

/-- THE TIED CARD OF 'euphroelaw08.DesSeven'. -/
def desSevenCard : Claim7 := { stood := { row := desSevenRow, standIns := [], harness := (true, "e1c6a0d2b4e9d920224cfc9ea75cce9b8fc8f31bb8daccf32ff59897d48e24fe"), looks := false }, kinds := [], alts := [], laidByText := true, laidKinds := [.data], laidTests := true, laidLooks := .later }
def DesSevenCardSaid : Prop := Claim7.holds Tryd.pinned (.plain (OpenSpec.ofChange desSevenSpec)) desSevenCard

/-- THE TIED CARD OF 'euphroelaw08.DesBack'. -/
def desBackCard : Claim7 := { stood := { row := desBackRow, standIns := [], harness := (true, "e1c6a0d2b4e9d920224cfc9ea75cce9b8fc8f31bb8daccf32ff59897d48e24fe"), looks := false }, kinds := [], alts := [], laidByText := true, laidKinds := [.data], laidTests := true, laidLooks := .later }
def DesBackCardSaid : Prop := Claim7.holds Tryd.pinned (.plain (OpenSpec.ofChange desBackSpec)) desBackCard

/-- THE TIED CARD OF 'euphroelaw08.DesOther'. -/
def desOtherCard : Claim7 := { stood := { row := desOtherRow, standIns := [], harness := (true, "e1c6a0d2b4e9d920224cfc9ea75cce9b8fc8f31bb8daccf32ff59897d48e24fe"), looks := false }, kinds := [], alts := [], laidByText := true, laidKinds := [.data], laidTests := true, laidLooks := .later }
def DesOtherCardSaid : Prop := Claim7.holds Tryd.pinned (.plain (OpenSpec.ofChange desOtherSpec)) desOtherCard

/-- THE SECOND FORM's CARD OF 'euphroelaw08.DesWords'. -/
def desWordsUptoCard : Claim7 := { stood := { row := desWordsUptoRow, standIns := [], harness := (true, "e1c6a0d2b4e9d920224cfc9ea75cce9b8fc8f31bb8daccf32ff59897d48e24fe"), looks := false }, kinds := [], alts := [], laidByText := true, laidKinds := [.data], laidTests := true, laidLooks := .later }
def DesWordsUptoCardSaid : Prop := Claim7.holds Tryd.pinned (.plain (OpenSpec.upto desWordsSpec)) desWordsUptoCard

/-- THE SECOND FORM's CARD OF 'euphroelaw08.DesTurns'. -/
def desTurnsUptoCard : Claim7 := { stood := { row := desTurnsUptoRow, standIns := [], harness := (true, "e1c6a0d2b4e9d920224cfc9ea75cce9b8fc8f31bb8daccf32ff59897d48e24fe"), looks := false }, kinds := [], alts := [], laidByText := true, laidKinds := [.data], laidTests := true, laidLooks := .later }
def DesTurnsUptoCardSaid : Prop := Claim7.holds Tryd.pinned (.plain (OpenSpec.upto desTurnsSpec)) desTurnsUptoCard

/-- THE SECOND FORM's CARD OF 'euphroelaw08.DesSeven'. -/
def desSevenUptoCard : Claim7 := { stood := { row := desSevenUptoRow, standIns := [], harness := (true, "e1c6a0d2b4e9d920224cfc9ea75cce9b8fc8f31bb8daccf32ff59897d48e24fe"), looks := false }, kinds := [], alts := [], laidByText := true, laidKinds := [.data], laidTests := true, laidLooks := .later }
def DesSevenUptoCardSaid : Prop := Claim7.holds Tryd.pinned (.plain (OpenSpec.upto desSevenSpec)) desSevenUptoCard

/-- THE SECOND FORM's CARD OF 'euphroelaw08.DesBack'. -/
def desBackUptoCard : Claim7 := { stood := { row := desBackUptoRow, standIns := [], harness := (true, "e1c6a0d2b4e9d920224cfc9ea75cce9b8fc8f31bb8daccf32ff59897d48e24fe"), looks := false }, kinds := [], alts := [], laidByText := true, laidKinds := [.data], laidTests := true, laidLooks := .later }
def DesBackUptoCardSaid : Prop := Claim7.holds Tryd.pinned (.plain (OpenSpec.upto desBackSpec)) desBackUptoCard

/-- THE SECOND FORM's CARD OF 'euphroelaw08.DesOther'. -/
def desOtherUptoCard : Claim7 := { stood := { row := desOtherUptoRow, standIns := [], harness := (true, "e1c6a0d2b4e9d920224cfc9ea75cce9b8fc8f31bb8daccf32ff59897d48e24fe"), looks := false }, kinds := [], alts := [], laidByText := true, laidKinds := [.data], laidTests := true, laidLooks := .later }
def DesOtherUptoCardSaid : Prop := Claim7.holds Tryd.pinned (.plain (OpenSpec.upto desOtherSpec)) desOtherUptoCard
end Rows
end Go.Proofs.YtopfadmfbgnbhaaDoor
