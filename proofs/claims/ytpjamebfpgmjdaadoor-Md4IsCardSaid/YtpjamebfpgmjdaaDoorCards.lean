/-
  DERIVED. GIVEN WITH THE SEED: THE CARDS: each row of YtpjamebfpgmjdaaDoorRows.lean that lists a variable, with what it lists TIED to the program's text (the seventh form; the later family's looks); each row that meets fmt, with fmt's text TOLD by the authors' own Lean function (tested against real Go, not proved from fmt's source: count such statements apart). THE CARD IS WHAT COUNTS. Prove the row's statement (the work); the ties are given (YtpjamebfpgmjdaaDoorTie.lean); close each card by the builder's one call (the guide's Derived/Test/ToyasCard.lean, 'card_holds'). Laid BY PROGRAM, IN A SANDBOX (cutbox-door.mjs). By AI agents, Wed Nov 11 2026. No macro, syntax, notation, axiom, sorry.
-/
import Derived.Test.YtpjamebfpgmjdaaDoorRows
import GoSem.ClaimSeven
namespace Go.Proofs.YtpjamebfpgmjdaaDoor
namespace Rows

/-- THE TIED CARD OF 'euphroelaw04.Md4Blocks'. -/
def md4BlocksCard : Claim7 := { stood := { row := md4BlocksRow, standIns := [], harness := (true, "f9308a211131b2d84d70eac898645a89a4d0a7ff700b9a461c82ff11e18e1149"), looks := false }, kinds := [], alts := [], laidByText := true, laidKinds := [.data, .data], laidTests := true, laidLooks := .later }
def Md4BlocksCardSaid : Prop := Claim7.holds Tryd.pinned (.plain (OpenSpec.ofChange md4BlocksSpec)) md4BlocksCard

/-- THE TIED CARD OF 'euphroelaw04.Md4Is'. -/
def md4IsCard : Claim7 := { stood := { row := md4IsRow, standIns := [], harness := (true, "f9308a211131b2d84d70eac898645a89a4d0a7ff700b9a461c82ff11e18e1149"), looks := false }, kinds := [], alts := [], laidByText := true, laidKinds := [.data, .data], laidTests := true, laidLooks := .later }
def Md4IsCardSaid : Prop := Claim7.holds Tryd.pinned (.plain (OpenSpec.ofChange md4IsSpec)) md4IsCard

/-- THE TIED CARD OF 'euphroelaw04.Md4Parts'. -/
def md4PartsCard : Claim7 := { stood := { row := md4PartsRow, standIns := [], harness := (true, "f9308a211131b2d84d70eac898645a89a4d0a7ff700b9a461c82ff11e18e1149"), looks := false }, kinds := [], alts := [], laidByText := true, laidKinds := [.data, .data], laidTests := true, laidLooks := .later }
def Md4PartsCardSaid : Prop := Claim7.holds Tryd.pinned (.plain (OpenSpec.ofChange md4PartsSpec)) md4PartsCard

/-- THE TIED CARD OF 'euphroelaw08.DesWords'. -/
def desWordsCard : Claim7 := { stood := { row := desWordsRow, standIns := [], harness := (true, "f9308a211131b2d84d70eac898645a89a4d0a7ff700b9a461c82ff11e18e1149"), looks := false }, kinds := [], alts := [], laidByText := true, laidKinds := [.data], laidTests := true, laidLooks := .later }
def DesWordsCardSaid : Prop := Claim7.holds Tryd.pinned (.plain (OpenSpec.ofChange desWordsSpec)) desWordsCard

/-- THE TIED CARD OF 'euphroelaw08.DesTurns'. -/
def desTurnsCard : Claim7 := { stood := { row := desTurnsRow, standIns := [], harness := (true, "f9308a211131b2d84d70eac898645a89a4d0a7ff700b9a461c82ff11e18e1149"), looks := false }, kinds := [], alts := [], laidByText := true, laidKinds := [.data], laidTests := true, laidLooks := .later }
def DesTurnsCardSaid : Prop := Claim7.holds Tryd.pinned (.plain (OpenSpec.ofChange desTurnsSpec)) desTurnsCard

/-- THE TIED CARD OF 'euphroelaw08.DesSeven'. -/
def desSevenCard : Claim7 := { stood := { row := desSevenRow, standIns := [], harness := (true, "f9308a211131b2d84d70eac898645a89a4d0a7ff700b9a461c82ff11e18e1149"), looks := false }, kinds := [], alts := [], laidByText := true, laidKinds := [.data], laidTests := true, laidLooks := .later }
def DesSevenCardSaid : Prop := Claim7.holds Tryd.pinned (.plain (OpenSpec.ofChange desSevenSpec)) desSevenCard

/-- THE TIED CARD OF 'euphroelaw08.DesBack'. -/
def desBackCard : Claim7 := { stood := { row := desBackRow, standIns := [], harness := (true, "f9308a211131b2d84d70eac898645a89a4d0a7ff700b9a461c82ff11e18e1149"), looks := false }, kinds := [], alts := [], laidByText := true, laidKinds := [.data], laidTests := true, laidLooks := .later }
def DesBackCardSaid : Prop := Claim7.holds Tryd.pinned (.plain (OpenSpec.ofChange desBackSpec)) desBackCard

/-- THE TIED CARD OF 'euphroelaw08.DesOther'. -/
def desOtherCard : Claim7 := { stood := { row := desOtherRow, standIns := [], harness := (true, "f9308a211131b2d84d70eac898645a89a4d0a7ff700b9a461c82ff11e18e1149"), looks := false }, kinds := [], alts := [], laidByText := true, laidKinds := [.data], laidTests := true, laidLooks := .later }
def DesOtherCardSaid : Prop := Claim7.holds Tryd.pinned (.plain (OpenSpec.ofChange desOtherSpec)) desOtherCard

/-- THE TIED CARD OF 'euphroelaw09.Utf16Lays'. -/
def utf16LaysCard : Claim7 := { stood := { row := utf16LaysRow, standIns := [], harness := (true, "f9308a211131b2d84d70eac898645a89a4d0a7ff700b9a461c82ff11e18e1149"), looks := false }, kinds := [], alts := [], laidByText := true, laidKinds := [.data, .pinned], laidTests := true, laidLooks := .later }
def Utf16LaysCardSaid : Prop := Claim7.holds Tryd.pinned (.plain (OpenSpec.ofChange utf16LaysSpec)) utf16LaysCard

/-- THE TIED CARD OF 'euphroelaw09.Utf16Back'. -/
def utf16BackCard : Claim7 := { stood := { row := utf16BackRow, standIns := [], harness := (true, "f9308a211131b2d84d70eac898645a89a4d0a7ff700b9a461c82ff11e18e1149"), looks := false }, kinds := [], alts := [], laidByText := true, laidKinds := [.data, .pinned], laidTests := true, laidLooks := .later }
def Utf16BackCardSaid : Prop := Claim7.holds Tryd.pinned (.plain (OpenSpec.ofChange utf16BackSpec)) utf16BackCard

/-- THE TIED CARD OF 'euphroelaw09.Utf16Units'. -/
def utf16UnitsCard : Claim7 := { stood := { row := utf16UnitsRow, standIns := [], harness := (true, "f9308a211131b2d84d70eac898645a89a4d0a7ff700b9a461c82ff11e18e1149"), looks := false }, kinds := [], alts := [], laidByText := true, laidKinds := [.data, .pinned], laidTests := true, laidLooks := .later }
def Utf16UnitsCardSaid : Prop := Claim7.holds Tryd.pinned (.plain (OpenSpec.ofChange utf16UnitsSpec)) utf16UnitsCard

/-- THE SECOND FORM's CARD OF 'euphroelaw04.Md4Blocks'. -/
def md4BlocksUptoCard : Claim7 := { stood := { row := md4BlocksUptoRow, standIns := [], harness := (true, "f9308a211131b2d84d70eac898645a89a4d0a7ff700b9a461c82ff11e18e1149"), looks := false }, kinds := [], alts := [], laidByText := true, laidKinds := [.data, .data], laidTests := true, laidLooks := .later }
def Md4BlocksUptoCardSaid : Prop := Claim7.holds Tryd.pinned (.plain (OpenSpec.upto md4BlocksSpec)) md4BlocksUptoCard

/-- THE SECOND FORM's CARD OF 'euphroelaw04.Md4Is'. -/
def md4IsUptoCard : Claim7 := { stood := { row := md4IsUptoRow, standIns := [], harness := (true, "f9308a211131b2d84d70eac898645a89a4d0a7ff700b9a461c82ff11e18e1149"), looks := false }, kinds := [], alts := [], laidByText := true, laidKinds := [.data, .data], laidTests := true, laidLooks := .later }
def Md4IsUptoCardSaid : Prop := Claim7.holds Tryd.pinned (.plain (OpenSpec.upto md4IsSpec)) md4IsUptoCard

/-- THE SECOND FORM's CARD OF 'euphroelaw04.Md4Parts'. -/
def md4PartsUptoCard : Claim7 := { stood := { row := md4PartsUptoRow, standIns := [], harness := (true, "f9308a211131b2d84d70eac898645a89a4d0a7ff700b9a461c82ff11e18e1149"), looks := false }, kinds := [], alts := [], laidByText := true, laidKinds := [.data, .data], laidTests := true, laidLooks := .later }
def Md4PartsUptoCardSaid : Prop := Claim7.holds Tryd.pinned (.plain (OpenSpec.upto md4PartsSpec)) md4PartsUptoCard

/-- THE SECOND FORM's CARD OF 'euphroelaw08.DesWords'. -/
def desWordsUptoCard : Claim7 := { stood := { row := desWordsUptoRow, standIns := [], harness := (true, "f9308a211131b2d84d70eac898645a89a4d0a7ff700b9a461c82ff11e18e1149"), looks := false }, kinds := [], alts := [], laidByText := true, laidKinds := [.data], laidTests := true, laidLooks := .later }
def DesWordsUptoCardSaid : Prop := Claim7.holds Tryd.pinned (.plain (OpenSpec.upto desWordsSpec)) desWordsUptoCard

/-- THE SECOND FORM's CARD OF 'euphroelaw08.DesTurns'. -/
def desTurnsUptoCard : Claim7 := { stood := { row := desTurnsUptoRow, standIns := [], harness := (true, "f9308a211131b2d84d70eac898645a89a4d0a7ff700b9a461c82ff11e18e1149"), looks := false }, kinds := [], alts := [], laidByText := true, laidKinds := [.data], laidTests := true, laidLooks := .later }
def DesTurnsUptoCardSaid : Prop := Claim7.holds Tryd.pinned (.plain (OpenSpec.upto desTurnsSpec)) desTurnsUptoCard

/-- THE SECOND FORM's CARD OF 'euphroelaw08.DesSeven'. -/
def desSevenUptoCard : Claim7 := { stood := { row := desSevenUptoRow, standIns := [], harness := (true, "f9308a211131b2d84d70eac898645a89a4d0a7ff700b9a461c82ff11e18e1149"), looks := false }, kinds := [], alts := [], laidByText := true, laidKinds := [.data], laidTests := true, laidLooks := .later }
def DesSevenUptoCardSaid : Prop := Claim7.holds Tryd.pinned (.plain (OpenSpec.upto desSevenSpec)) desSevenUptoCard

/-- THE SECOND FORM's CARD OF 'euphroelaw08.DesBack'. -/
def desBackUptoCard : Claim7 := { stood := { row := desBackUptoRow, standIns := [], harness := (true, "f9308a211131b2d84d70eac898645a89a4d0a7ff700b9a461c82ff11e18e1149"), looks := false }, kinds := [], alts := [], laidByText := true, laidKinds := [.data], laidTests := true, laidLooks := .later }
def DesBackUptoCardSaid : Prop := Claim7.holds Tryd.pinned (.plain (OpenSpec.upto desBackSpec)) desBackUptoCard

/-- THE SECOND FORM's CARD OF 'euphroelaw08.DesOther'. -/
def desOtherUptoCard : Claim7 := { stood := { row := desOtherUptoRow, standIns := [], harness := (true, "f9308a211131b2d84d70eac898645a89a4d0a7ff700b9a461c82ff11e18e1149"), looks := false }, kinds := [], alts := [], laidByText := true, laidKinds := [.data], laidTests := true, laidLooks := .later }
def DesOtherUptoCardSaid : Prop := Claim7.holds Tryd.pinned (.plain (OpenSpec.upto desOtherSpec)) desOtherUptoCard

/-- THE SECOND FORM's CARD OF 'euphroelaw09.Utf16Lays'. -/
def utf16LaysUptoCard : Claim7 := { stood := { row := utf16LaysUptoRow, standIns := [], harness := (true, "f9308a211131b2d84d70eac898645a89a4d0a7ff700b9a461c82ff11e18e1149"), looks := false }, kinds := [], alts := [], laidByText := true, laidKinds := [.data, .pinned], laidTests := true, laidLooks := .later }
def Utf16LaysUptoCardSaid : Prop := Claim7.holds Tryd.pinned (.plain (OpenSpec.upto utf16LaysSpec)) utf16LaysUptoCard

/-- THE SECOND FORM's CARD OF 'euphroelaw09.Utf16Back'. -/
def utf16BackUptoCard : Claim7 := { stood := { row := utf16BackUptoRow, standIns := [], harness := (true, "f9308a211131b2d84d70eac898645a89a4d0a7ff700b9a461c82ff11e18e1149"), looks := false }, kinds := [], alts := [], laidByText := true, laidKinds := [.data, .pinned], laidTests := true, laidLooks := .later }
def Utf16BackUptoCardSaid : Prop := Claim7.holds Tryd.pinned (.plain (OpenSpec.upto utf16BackSpec)) utf16BackUptoCard

/-- THE SECOND FORM's CARD OF 'euphroelaw09.Utf16Units'. -/
def utf16UnitsUptoCard : Claim7 := { stood := { row := utf16UnitsUptoRow, standIns := [], harness := (true, "f9308a211131b2d84d70eac898645a89a4d0a7ff700b9a461c82ff11e18e1149"), looks := false }, kinds := [], alts := [], laidByText := true, laidKinds := [.data, .pinned], laidTests := true, laidLooks := .later }
def Utf16UnitsUptoCardSaid : Prop := Claim7.holds Tryd.pinned (.plain (OpenSpec.upto utf16UnitsSpec)) utf16UnitsUptoCard
end Rows
end Go.Proofs.YtpjamebfpgmjdaaDoor
