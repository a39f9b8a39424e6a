/-
  DERIVED. GIVEN WITH THE SEED: THE CARDS: each row of YtdkklfegpjlklaaDoorRows.lean that lists a variable, with what it lists TIED to the program's text (the seventh form; the later family's looks); each row that meets fmt, with fmt's text TOLD by the authors' own Lean function (tested against real Go, not proved from fmt's source: count such statements apart). THE CARD IS WHAT COUNTS. Prove the row's statement (the work); the ties are given (YtdkklfegpjlklaaDoorTie.lean); close each card by the builder's one call (the guide's Derived/Test/ToyasCard.lean, 'card_holds'). Laid BY PROGRAM, IN A SANDBOX (cutbox-door.mjs). By AI agents, Wed Nov 11 2026. No macro, syntax, notation, axiom, sorry.
-/
import Derived.Test.YtdkklfegpjlklaaDoorRows
import GoSem.ClaimSeven
namespace Go.Proofs.YtdkklfegpjlklaaDoor
namespace Rows

/-- THE TIED CARD OF 'euphroelaw10.NthashOf'. -/
def nthashOfCard : Claim7 := { stood := { row := nthashOfRow, standIns := [], harness := (true, "1162d9a4aa40c7291cf0bfe00e1f07cb5aa8d65826f2a0c3bd391d0ae76d9cae"), looks := false }, kinds := [], alts := [], laidByText := true, laidKinds := [.data, .data, .data, .pinned], laidTests := true, laidLooks := .later }
def NthashOfCardSaid : Prop := Claim7.holds Tryd.pinned (.plain (OpenSpec.ofChange nthashOfSpec)) nthashOfCard

/-- THE TIED CARD OF 'euphroelaw10.NthashThirds'. -/
def nthashThirdsCard : Claim7 := { stood := { row := nthashThirdsRow, standIns := [], harness := (true, "1162d9a4aa40c7291cf0bfe00e1f07cb5aa8d65826f2a0c3bd391d0ae76d9cae"), looks := false }, kinds := [], alts := [], laidByText := true, laidKinds := [.data, .data, .data, .pinned], laidTests := true, laidLooks := .later }
def NthashThirdsCardSaid : Prop := Claim7.holds Tryd.pinned (.plain (OpenSpec.ofChange nthashThirdsSpec)) nthashThirdsCard

/-- THE TIED CARD OF 'euphroelaw12.MppeKeys'. -/
def mppeKeysCard : Claim7 := { stood := { row := mppeKeysRow, standIns := [], harness := (true, "1162d9a4aa40c7291cf0bfe00e1f07cb5aa8d65826f2a0c3bd391d0ae76d9cae"), looks := false }, kinds := [], alts := [], laidByText := true, laidKinds := [.data, .data, .data, .pinned], laidTests := true, laidLooks := .later }
def MppeKeysCardSaid : Prop := Claim7.holds Tryd.pinned (.plain (OpenSpec.ofChange mppeKeysSpec)) mppeKeysCard

/-- THE TIED CARD OF 'euphroelaw12.MppeUpper'. -/
def mppeUpperCard : Claim7 := { stood := { row := mppeUpperRow, standIns := [], harness := (true, "1162d9a4aa40c7291cf0bfe00e1f07cb5aa8d65826f2a0c3bd391d0ae76d9cae"), looks := false }, kinds := [], alts := [], laidByText := true, laidKinds := [.data, .data, .data, .pinned], laidTests := true, laidLooks := .later }
def MppeUpperCardSaid : Prop := Claim7.holds Tryd.pinned (.plain (OpenSpec.ofChange mppeUpperSpec)) mppeUpperCard

/-- THE TIED CARD OF 'euphroelaw12.MppeBoth'. -/
def mppeBothCard : Claim7 := { stood := { row := mppeBothRow, standIns := [], harness := (true, "1162d9a4aa40c7291cf0bfe00e1f07cb5aa8d65826f2a0c3bd391d0ae76d9cae"), looks := false }, kinds := [], alts := [], laidByText := true, laidKinds := [.data, .data, .data, .pinned], laidTests := true, laidLooks := .later }
def MppeBothCardSaid : Prop := Claim7.holds Tryd.pinned (.plain (OpenSpec.ofChange mppeBothSpec)) mppeBothCard

/-- THE SECOND FORM's CARD OF 'euphroelaw10.NthashOf'. -/
def nthashOfUptoCard : Claim7 := { stood := { row := nthashOfUptoRow, standIns := [], harness := (true, "1162d9a4aa40c7291cf0bfe00e1f07cb5aa8d65826f2a0c3bd391d0ae76d9cae"), looks := false }, kinds := [], alts := [], laidByText := true, laidKinds := [.data, .data, .data, .pinned], laidTests := true, laidLooks := .later }
def NthashOfUptoCardSaid : Prop := Claim7.holds Tryd.pinned (.plain (OpenSpec.upto nthashOfSpec)) nthashOfUptoCard

/-- THE SECOND FORM's CARD OF 'euphroelaw10.NthashThirds'. -/
def nthashThirdsUptoCard : Claim7 := { stood := { row := nthashThirdsUptoRow, standIns := [], harness := (true, "1162d9a4aa40c7291cf0bfe00e1f07cb5aa8d65826f2a0c3bd391d0ae76d9cae"), looks := false }, kinds := [], alts := [], laidByText := true, laidKinds := [.data, .data, .data, .pinned], laidTests := true, laidLooks := .later }
def NthashThirdsUptoCardSaid : Prop := Claim7.holds Tryd.pinned (.plain (OpenSpec.upto nthashThirdsSpec)) nthashThirdsUptoCard

/-- THE SECOND FORM's CARD OF 'euphroelaw12.MppeKeys'. -/
def mppeKeysUptoCard : Claim7 := { stood := { row := mppeKeysUptoRow, standIns := [], harness := (true, "1162d9a4aa40c7291cf0bfe00e1f07cb5aa8d65826f2a0c3bd391d0ae76d9cae"), looks := false }, kinds := [], alts := [], laidByText := true, laidKinds := [.data, .data, .data, .pinned], laidTests := true, laidLooks := .later }
def MppeKeysUptoCardSaid : Prop := Claim7.holds Tryd.pinned (.plain (OpenSpec.upto mppeKeysSpec)) mppeKeysUptoCard

/-- THE SECOND FORM's CARD OF 'euphroelaw12.MppeUpper'. -/
def mppeUpperUptoCard : Claim7 := { stood := { row := mppeUpperUptoRow, standIns := [], harness := (true, "1162d9a4aa40c7291cf0bfe00e1f07cb5aa8d65826f2a0c3bd391d0ae76d9cae"), looks := false }, kinds := [], alts := [], laidByText := true, laidKinds := [.data, .data, .data, .pinned], laidTests := true, laidLooks := .later }
def MppeUpperUptoCardSaid : Prop := Claim7.holds Tryd.pinned (.plain (OpenSpec.upto mppeUpperSpec)) mppeUpperUptoCard

/-- THE SECOND FORM's CARD OF 'euphroelaw12.MppeBoth'. -/
def mppeBothUptoCard : Claim7 := { stood := { row := mppeBothUptoRow, standIns := [], harness := (true, "1162d9a4aa40c7291cf0bfe00e1f07cb5aa8d65826f2a0c3bd391d0ae76d9cae"), looks := false }, kinds := [], alts := [], laidByText := true, laidKinds := [.data, .data, .data, .pinned], laidTests := true, laidLooks := .later }
def MppeBothUptoCardSaid : Prop := Claim7.holds Tryd.pinned (.plain (OpenSpec.upto mppeBothSpec)) mppeBothUptoCard
end Rows
end Go.Proofs.YtdkklfegpjlklaaDoor
