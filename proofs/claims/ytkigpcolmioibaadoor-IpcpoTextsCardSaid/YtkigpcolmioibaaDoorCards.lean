/-
  DERIVED. GIVEN WITH THE SEED: THE CARDS: each row of YtkigpcolmioibaaDoorRows.lean that lists a variable, with what it lists TIED to the program's text (the seventh form; the later family's looks); each row that meets fmt, with fmt's text TOLD by the authors' own Lean function (tested against real Go, not proved from fmt's source: count such statements apart). THE CARD IS WHAT COUNTS. Prove the row's statement (the work); the ties are given (YtkigpcolmioibaaDoorTie.lean); close each card by the builder's one call (the guide's Derived/Test/ToyasCard.lean, 'card_holds'). Laid BY PROGRAM, IN A SANDBOX (cutbox-door.mjs). By AI agents, Wed Nov 11 2026. No macro, syntax, notation, axiom, sorry.
-/
import Derived.Test.YtkigpcolmioibaaDoorRows
import GoSem.ClaimSeven
namespace Go.Proofs.YtkigpcolmioibaaDoor
namespace Rows

/-- THE TIED CARD OF 'euphroelaw26.IpcpoJudges'. -/
def ipcpoJudgesCard : Claim7 := { stood := { row := ipcpoJudgesRow, standIns := [], harness := (true, "36c008058d986f0df8b3b7d7e0c9c80b078a805d31bc2a0fa59dfeac2a5e7001"), looks := true }, kinds := [], alts := [], laidByText := true, laidKinds := [.data, .data, .data, .data, .sentinel, .sentinel, .pinned], laidTests := true, laidLooks := .later }
def IpcpoJudgesCardSaid : Prop := Claim7.holds Tryd.pinned (.plain (OpenSpec.ofChange ipcpoJudgesSpec)) ipcpoJudgesCard

/-- THE TIED CARD OF 'euphroelaw26.IpcpoTexts'. -/
def ipcpoTextsCard : Claim7 := { stood := { row := ipcpoTextsRow, standIns := [], harness := (true, "36c008058d986f0df8b3b7d7e0c9c80b078a805d31bc2a0fa59dfeac2a5e7001"), looks := true }, kinds := [], alts := [], laidByText := true, laidKinds := [.data, .data, .data, .data, .sentinel, .sentinel, .pinned], laidTests := true, laidLooks := .later }
def IpcpoTextsCardSaid : Prop := Claim7.holds Tryd.pinned (.plain (OpenSpec.ofChange ipcpoTextsSpec)) ipcpoTextsCard

/-- THE TIED CARD OF 'euphroelaw26.IpcpoAgrees'. -/
def ipcpoAgreesCard : Claim7 := { stood := { row := ipcpoAgreesRow, standIns := [], harness := (true, "36c008058d986f0df8b3b7d7e0c9c80b078a805d31bc2a0fa59dfeac2a5e7001"), looks := true }, kinds := [], alts := [], laidByText := true, laidKinds := [.data, .data, .data, .data, .sentinel, .sentinel, .pinned], laidTests := true, laidLooks := .later }
def IpcpoAgreesCardSaid : Prop := Claim7.holds Tryd.pinned (.plain (OpenSpec.ofChange ipcpoAgreesSpec)) ipcpoAgreesCard

/-- THE SECOND FORM's CARD OF 'euphroelaw26.IpcpoJudges'. -/
def ipcpoJudgesUptoCard : Claim7 := { stood := { row := ipcpoJudgesUptoRow, standIns := [], harness := (true, "36c008058d986f0df8b3b7d7e0c9c80b078a805d31bc2a0fa59dfeac2a5e7001"), looks := true }, kinds := [], alts := [], laidByText := true, laidKinds := [.data, .data, .data, .data, .sentinel, .sentinel, .pinned], laidTests := true, laidLooks := .later }
def IpcpoJudgesUptoCardSaid : Prop := Claim7.holds Tryd.pinned (.plain (OpenSpec.upto ipcpoJudgesSpec)) ipcpoJudgesUptoCard

/-- THE SECOND FORM's CARD OF 'euphroelaw26.IpcpoTexts'. -/
def ipcpoTextsUptoCard : Claim7 := { stood := { row := ipcpoTextsUptoRow, standIns := [], harness := (true, "36c008058d986f0df8b3b7d7e0c9c80b078a805d31bc2a0fa59dfeac2a5e7001"), looks := true }, kinds := [], alts := [], laidByText := true, laidKinds := [.data, .data, .data, .data, .sentinel, .sentinel, .pinned], laidTests := true, laidLooks := .later }
def IpcpoTextsUptoCardSaid : Prop := Claim7.holds Tryd.pinned (.plain (OpenSpec.upto ipcpoTextsSpec)) ipcpoTextsUptoCard

/-- THE SECOND FORM's CARD OF 'euphroelaw26.IpcpoAgrees'. -/
def ipcpoAgreesUptoCard : Claim7 := { stood := { row := ipcpoAgreesUptoRow, standIns := [], harness := (true, "36c008058d986f0df8b3b7d7e0c9c80b078a805d31bc2a0fa59dfeac2a5e7001"), looks := true }, kinds := [], alts := [], laidByText := true, laidKinds := [.data, .data, .data, .data, .sentinel, .sentinel, .pinned], laidTests := true, laidLooks := .later }
def IpcpoAgreesUptoCardSaid : Prop := Claim7.holds Tryd.pinned (.plain (OpenSpec.upto ipcpoAgreesSpec)) ipcpoAgreesUptoCard
end Rows
end Go.Proofs.YtkigpcolmioibaaDoor
