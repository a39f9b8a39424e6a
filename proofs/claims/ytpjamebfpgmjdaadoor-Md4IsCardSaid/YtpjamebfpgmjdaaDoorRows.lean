/-
  NARROWER THAN 'FOR EVERY INPUT', by the rows' own cells (each row's printed sentence says how): Md4Blocks: laid · Md4Is: laid · Md4Parts: laid · DesWords: laid · DesTurns: laid · DesSeven: laid · DesBack: laid · DesOther: laid · Utf16Lays: laid · Utf16Back: laid · Utf16Units: laid.
  DERIVED. THE GIVEN ROWS OF THIS SEAT. 11 by the template 'for every input the law returns true; each argument reads behind the call as it read before'; 0 by the template 'total and deterministic' (their statements: YtpjamebfpgmjdaaDoorTotals.lean).
  GIVEN WITH THE SEED: the statements are not yours to turn. If you find one false, say at which input.
  Laid BY PROGRAM, IN A SANDBOX (cutbox-rows.mjs): the forced cells as the released guide's own fill.sh prints them over the translation cd864459a392a7c2… (all of the seat's roots in one cut). By AI agents, Wed Nov 11 2026. No macro, syntax, notation, axiom, sorry.
-/
import Derived.Test.YtpjamebfpgmjdaaDoorChecked
import GoSem.PinnedTables
import GoSem.Claim
import GoSem.ClaimJoined
import GoSem.ClaimMapViews
import Derived.JoinedTies
import Derived.KernelRfl
namespace Go.Proofs.YtpjamebfpgmjdaaDoor
/- THE CELL 'sum', in the pinned program and in every row, IS THE sha256 OF THE DUMP (.gsa) THAT YtpjamebfpgmjdaaDoorProg.lean LOADS. Nothing in Lean hashes anything: it is a label: what it is worth is what the hold of that sum in a sandbox is worth. -/
noncomputable def Tryd.pinned : Pinned := { name := "ytpjamebfpgmjdaadoor", sum := "cd864459a392a7c23e666b5425dda621a3618435614cb5ec14a07fbb7ffda190", checked := Tryd.checked }
namespace Rows
def none {H : Type} : Left H := { results := [], args := [] }

/- WHAT THE LISTED PACKAGE-LEVEL VARIABLES READ AS WHEN THE CALL BEGINS. Each datum BY PROGRAM (the guide's laid-datum.mjs) off the statement by which the dump's own 'gosem.cut.vars' lays the variable. In a bare row this is a premise. The card (YtpjamebfpgmjdaaDoorCards.lean) ties it to the program's text. -/
def laid_euphroe_md4_turns {H : Type} : DataW H := .agg [.agg [.lit (.int .i64 3), .lit (.int .i64 7), .lit (.int .i64 11), .lit (.int .i64 19)], .agg [.lit (.int .i64 3), .lit (.int .i64 5), .lit (.int .i64 9), .lit (.int .i64 13)], .agg [.lit (.int .i64 3), .lit (.int .i64 9), .lit (.int .i64 11), .lit (.int .i64 15)]]
def laid_euphroe_md4_crossed {H : Type} : DataW H := .agg [.lit (.int .i64 0), .lit (.int .i64 8), .lit (.int .i64 4), .lit (.int .i64 12), .lit (.int .i64 2), .lit (.int .i64 10), .lit (.int .i64 6), .lit (.int .i64 14), .lit (.int .i64 1), .lit (.int .i64 9), .lit (.int .i64 5), .lit (.int .i64 13), .lit (.int .i64 3), .lit (.int .i64 11), .lit (.int .i64 7), .lit (.int .i64 15)]
def laid_euphroe_des_byOne {H : Type} : DataW H := .agg [.lit (.int .i64 1), .lit (.int .i64 2), .lit (.int .i64 9), .lit (.int .i64 16)]
def laid_unicode_utf8_acceptRanges {H : Type} : DataW H := .agg [.agg [.lit (.int .u8 128), .lit (.int .u8 191)], .agg [.lit (.int .u8 160), .lit (.int .u8 191)], .agg [.lit (.int .u8 128), .lit (.int .u8 159)], .agg [.lit (.int .u8 144), .lit (.int .u8 191)], .agg [.lit (.int .u8 128), .lit (.int .u8 143)], .agg [.lit (.int .u8 0), .lit (.int .u8 0)], .agg [.lit (.int .u8 0), .lit (.int .u8 0)], .agg [.lit (.int .u8 0), .lit (.int .u8 0)], .agg [.lit (.int .u8 0), .lit (.int .u8 0)], .agg [.lit (.int .u8 0), .lit (.int .u8 0)], .agg [.lit (.int .u8 0), .lit (.int .u8 0)], .agg [.lit (.int .u8 0), .lit (.int .u8 0)], .agg [.lit (.int .u8 0), .lit (.int .u8 0)], .agg [.lit (.int .u8 0), .lit (.int .u8 0)], .agg [.lit (.int .u8 0), .lit (.int .u8 0)], .agg [.lit (.int .u8 0), .lit (.int .u8 0)]]
/-- One of Go's own tables, pinned by name: the form's constant. -/
def laid_unicode_utf8_first : DataW Unit := Go.Pinned.utf8First

/-- 'euphroelaw04.Md4Blocks': WHATEVER THE INPUT: true; the input reads as it did. -/
def md4BlocksSpec : ChangeSpec := { name := "md4Blocks", fn := fun _ => fun
  | [d1, d2, d3] => { results := [.lit (.bool true)], args := [d1, d2, d3] }
  | _ => none }
def md4BlocksRow : OpenClaim := { program := "ytpjamebfpgmjdaadoor", sum := "cd864459a392a7c23e666b5425dda621a3618435614cb5ec14a07fbb7ffda190", func := "euphroe/euphroelaw04.Md4Blocks", spec := "md4Blocks", named := ["euphroe/md4.turns", "euphroe/md4.crossed"], apart := false, laid := [("euphroe/md4.turns", laid_euphroe_md4_turns), ("euphroe/md4.crossed", laid_euphroe_md4_crossed)] }
def Md4BlocksSaid : Prop := md4BlocksRow.holds Tryd.pinned (OpenSpec.ofChange md4BlocksSpec)

/-- ITS FALSE NEIGHBOUR: 'it returns false'. Refute it at one input. -/
def md4BlocksWrong : ChangeSpec := { name := "md4Blocks", fn := fun _ => fun
  | [d1, d2, d3] => { results := [.lit (.bool false)], args := [d1, d2, d3] }
  | _ => none }
def Md4BlocksWrongFalsely : Prop := md4BlocksRow.holds Tryd.pinned (OpenSpec.ofChange md4BlocksWrong)

/-- 'euphroelaw04.Md4Is': WHATEVER THE INPUT: true; the input reads as it did. -/
def md4IsSpec : ChangeSpec := { name := "md4Is", fn := fun _ => fun
  | [d] => { results := [.lit (.bool true)], args := [d] }
  | _ => none }
def md4IsRow : OpenClaim := { program := "ytpjamebfpgmjdaadoor", sum := "cd864459a392a7c23e666b5425dda621a3618435614cb5ec14a07fbb7ffda190", func := "euphroe/euphroelaw04.Md4Is", spec := "md4Is", named := ["euphroe/md4.turns", "euphroe/md4.crossed"], apart := false, laid := [("euphroe/md4.turns", laid_euphroe_md4_turns), ("euphroe/md4.crossed", laid_euphroe_md4_crossed)] }
def Md4IsSaid : Prop := md4IsRow.holds Tryd.pinned (OpenSpec.ofChange md4IsSpec)

/-- ITS FALSE NEIGHBOUR: 'it returns false'. Refute it at one input. -/
def md4IsWrong : ChangeSpec := { name := "md4Is", fn := fun _ => fun
  | [d] => { results := [.lit (.bool false)], args := [d] }
  | _ => none }
def Md4IsWrongFalsely : Prop := md4IsRow.holds Tryd.pinned (OpenSpec.ofChange md4IsWrong)

/-- 'euphroelaw04.Md4Parts': WHATEVER THE INPUT: true; the input reads as it did. -/
def md4PartsSpec : ChangeSpec := { name := "md4Parts", fn := fun _ => fun
  | [d] => { results := [.lit (.bool true)], args := [d] }
  | _ => none }
def md4PartsRow : OpenClaim := { program := "ytpjamebfpgmjdaadoor", sum := "cd864459a392a7c23e666b5425dda621a3618435614cb5ec14a07fbb7ffda190", func := "euphroe/euphroelaw04.Md4Parts", spec := "md4Parts", named := ["euphroe/md4.turns", "euphroe/md4.crossed"], apart := false, laid := [("euphroe/md4.turns", laid_euphroe_md4_turns), ("euphroe/md4.crossed", laid_euphroe_md4_crossed)] }
def Md4PartsSaid : Prop := md4PartsRow.holds Tryd.pinned (OpenSpec.ofChange md4PartsSpec)

/-- ITS FALSE NEIGHBOUR: 'it returns false'. Refute it at one input. -/
def md4PartsWrong : ChangeSpec := { name := "md4Parts", fn := fun _ => fun
  | [d] => { results := [.lit (.bool false)], args := [d] }
  | _ => none }
def Md4PartsWrongFalsely : Prop := md4PartsRow.holds Tryd.pinned (OpenSpec.ofChange md4PartsWrong)

/-- 'euphroelaw08.DesWords': WHATEVER THE INPUT: true; the input reads as it did. -/
def desWordsSpec : ChangeSpec := { name := "desWords", fn := fun _ => fun
  | [d1, d2, d3] => { results := [.lit (.bool true)], args := [d1, d2, d3] }
  | _ => none }
def desWordsRow : OpenClaim := { program := "ytpjamebfpgmjdaadoor", sum := "cd864459a392a7c23e666b5425dda621a3618435614cb5ec14a07fbb7ffda190", func := "euphroe/euphroelaw08.DesWords", spec := "desWords", inPlace := ["internal/bytealg.IndexByteString"], unfollowed := true, recurses := true, named := ["euphroe/des.byOne"], apart := false, laid := [("euphroe/des.byOne", laid_euphroe_des_byOne)] }
def DesWordsSaid : Prop := desWordsRow.holds Tryd.pinned (OpenSpec.ofChange desWordsSpec)

/-- ITS FALSE NEIGHBOUR: 'it returns false'. Refute it at one input. -/
def desWordsWrong : ChangeSpec := { name := "desWords", fn := fun _ => fun
  | [d1, d2, d3] => { results := [.lit (.bool false)], args := [d1, d2, d3] }
  | _ => none }
def DesWordsWrongFalsely : Prop := desWordsRow.holds Tryd.pinned (OpenSpec.ofChange desWordsWrong)

/-- 'euphroelaw08.DesTurns': WHATEVER THE INPUT: true; the input reads as it did. -/
def desTurnsSpec : ChangeSpec := { name := "desTurns", fn := fun _ => fun
  | [d1, d2] => { results := [.lit (.bool true)], args := [d1, d2] }
  | _ => none }
def desTurnsRow : OpenClaim := { program := "ytpjamebfpgmjdaadoor", sum := "cd864459a392a7c23e666b5425dda621a3618435614cb5ec14a07fbb7ffda190", func := "euphroe/euphroelaw08.DesTurns", spec := "desTurns", inPlace := ["internal/bytealg.IndexByteString"], unfollowed := true, recurses := true, named := ["euphroe/des.byOne"], apart := false, laid := [("euphroe/des.byOne", laid_euphroe_des_byOne)] }
def DesTurnsSaid : Prop := desTurnsRow.holds Tryd.pinned (OpenSpec.ofChange desTurnsSpec)

/-- ITS FALSE NEIGHBOUR: 'it returns false'. Refute it at one input. -/
def desTurnsWrong : ChangeSpec := { name := "desTurns", fn := fun _ => fun
  | [d1, d2] => { results := [.lit (.bool false)], args := [d1, d2] }
  | _ => none }
def DesTurnsWrongFalsely : Prop := desTurnsRow.holds Tryd.pinned (OpenSpec.ofChange desTurnsWrong)

/-- 'euphroelaw08.DesSeven': WHATEVER THE INPUT: true; the input reads as it did. -/
def desSevenSpec : ChangeSpec := { name := "desSeven", fn := fun _ => fun
  | [d1, d2] => { results := [.lit (.bool true)], args := [d1, d2] }
  | _ => none }
def desSevenRow : OpenClaim := { program := "ytpjamebfpgmjdaadoor", sum := "cd864459a392a7c23e666b5425dda621a3618435614cb5ec14a07fbb7ffda190", func := "euphroe/euphroelaw08.DesSeven", spec := "desSeven", inPlace := ["internal/bytealg.IndexByteString"], unfollowed := true, recurses := true, named := ["euphroe/des.byOne"], apart := false, laid := [("euphroe/des.byOne", laid_euphroe_des_byOne)] }
def DesSevenSaid : Prop := desSevenRow.holds Tryd.pinned (OpenSpec.ofChange desSevenSpec)

/-- ITS FALSE NEIGHBOUR: 'it returns false'. Refute it at one input. -/
def desSevenWrong : ChangeSpec := { name := "desSeven", fn := fun _ => fun
  | [d1, d2] => { results := [.lit (.bool false)], args := [d1, d2] }
  | _ => none }
def DesSevenWrongFalsely : Prop := desSevenRow.holds Tryd.pinned (OpenSpec.ofChange desSevenWrong)

/-- 'euphroelaw08.DesBack': WHATEVER THE INPUT: true; the input reads as it did. -/
def desBackSpec : ChangeSpec := { name := "desBack", fn := fun _ => fun
  | [d1, d2, d3] => { results := [.lit (.bool true)], args := [d1, d2, d3] }
  | _ => none }
def desBackRow : OpenClaim := { program := "ytpjamebfpgmjdaadoor", sum := "cd864459a392a7c23e666b5425dda621a3618435614cb5ec14a07fbb7ffda190", func := "euphroe/euphroelaw08.DesBack", spec := "desBack", inPlace := ["internal/bytealg.IndexByteString"], unfollowed := true, recurses := true, named := ["euphroe/des.byOne"], apart := false, laid := [("euphroe/des.byOne", laid_euphroe_des_byOne)] }
def DesBackSaid : Prop := desBackRow.holds Tryd.pinned (OpenSpec.ofChange desBackSpec)

/-- ITS FALSE NEIGHBOUR: 'it returns false'. Refute it at one input. -/
def desBackWrong : ChangeSpec := { name := "desBack", fn := fun _ => fun
  | [d1, d2, d3] => { results := [.lit (.bool false)], args := [d1, d2, d3] }
  | _ => none }
def DesBackWrongFalsely : Prop := desBackRow.holds Tryd.pinned (OpenSpec.ofChange desBackWrong)

/-- 'euphroelaw08.DesOther': WHATEVER THE INPUT: true; the input reads as it did. -/
def desOtherSpec : ChangeSpec := { name := "desOther", fn := fun _ => fun
  | [d1, d2] => { results := [.lit (.bool true)], args := [d1, d2] }
  | _ => none }
def desOtherRow : OpenClaim := { program := "ytpjamebfpgmjdaadoor", sum := "cd864459a392a7c23e666b5425dda621a3618435614cb5ec14a07fbb7ffda190", func := "euphroe/euphroelaw08.DesOther", spec := "desOther", inPlace := ["internal/bytealg.IndexByteString"], unfollowed := true, recurses := true, named := ["euphroe/des.byOne"], apart := false, laid := [("euphroe/des.byOne", laid_euphroe_des_byOne)] }
def DesOtherSaid : Prop := desOtherRow.holds Tryd.pinned (OpenSpec.ofChange desOtherSpec)

/-- ITS FALSE NEIGHBOUR: 'it returns false'. Refute it at one input. -/
def desOtherWrong : ChangeSpec := { name := "desOther", fn := fun _ => fun
  | [d1, d2] => { results := [.lit (.bool false)], args := [d1, d2] }
  | _ => none }
def DesOtherWrongFalsely : Prop := desOtherRow.holds Tryd.pinned (OpenSpec.ofChange desOtherWrong)

/-- 'euphroelaw09.Utf16Lays': WHATEVER THE INPUT: true; the input reads as it did. -/
def utf16LaysSpec : ChangeSpec := { name := "utf16Lays", fn := fun _ => fun
  | [d] => { results := [.lit (.bool true)], args := [d] }
  | _ => none }
def utf16LaysRow : OpenClaim := { program := "ytpjamebfpgmjdaadoor", sum := "cd864459a392a7c23e666b5425dda621a3618435614cb5ec14a07fbb7ffda190", func := "euphroe/euphroelaw09.Utf16Lays", spec := "utf16Lays", inPlace := ["internal/abi.NoEscape"], named := ["unicode/utf8.first", "unicode/utf8.acceptRanges"], apart := false, laid := [("unicode/utf8.acceptRanges", laid_unicode_utf8_acceptRanges), ("unicode/utf8.first", laid_unicode_utf8_first)] }
def Utf16LaysSaid : Prop := utf16LaysRow.holds Tryd.pinned (OpenSpec.ofChange utf16LaysSpec)

/-- ITS FALSE NEIGHBOUR: 'it returns false'. Refute it at one input. -/
def utf16LaysWrong : ChangeSpec := { name := "utf16Lays", fn := fun _ => fun
  | [d] => { results := [.lit (.bool false)], args := [d] }
  | _ => none }
def Utf16LaysWrongFalsely : Prop := utf16LaysRow.holds Tryd.pinned (OpenSpec.ofChange utf16LaysWrong)

/-- 'euphroelaw09.Utf16Back': WHATEVER THE INPUT: true; the input reads as it did. -/
def utf16BackSpec : ChangeSpec := { name := "utf16Back", fn := fun _ => fun
  | [d1, d2] => { results := [.lit (.bool true)], args := [d1, d2] }
  | _ => none }
def utf16BackRow : OpenClaim := { program := "ytpjamebfpgmjdaadoor", sum := "cd864459a392a7c23e666b5425dda621a3618435614cb5ec14a07fbb7ffda190", func := "euphroe/euphroelaw09.Utf16Back", spec := "utf16Back", inPlace := ["internal/abi.NoEscape"], named := ["unicode/utf8.first", "unicode/utf8.acceptRanges"], apart := false, laid := [("unicode/utf8.acceptRanges", laid_unicode_utf8_acceptRanges), ("unicode/utf8.first", laid_unicode_utf8_first)] }
def Utf16BackSaid : Prop := utf16BackRow.holds Tryd.pinned (OpenSpec.ofChange utf16BackSpec)

/-- ITS FALSE NEIGHBOUR: 'it returns false'. Refute it at one input. -/
def utf16BackWrong : ChangeSpec := { name := "utf16Back", fn := fun _ => fun
  | [d1, d2] => { results := [.lit (.bool false)], args := [d1, d2] }
  | _ => none }
def Utf16BackWrongFalsely : Prop := utf16BackRow.holds Tryd.pinned (OpenSpec.ofChange utf16BackWrong)

/-- 'euphroelaw09.Utf16Units': WHATEVER THE INPUT: true; the input reads as it did. -/
def utf16UnitsSpec : ChangeSpec := { name := "utf16Units", fn := fun _ => fun
  | [d] => { results := [.lit (.bool true)], args := [d] }
  | _ => none }
def utf16UnitsRow : OpenClaim := { program := "ytpjamebfpgmjdaadoor", sum := "cd864459a392a7c23e666b5425dda621a3618435614cb5ec14a07fbb7ffda190", func := "euphroe/euphroelaw09.Utf16Units", spec := "utf16Units", inPlace := ["internal/abi.NoEscape"], named := ["unicode/utf8.first", "unicode/utf8.acceptRanges"], apart := false, laid := [("unicode/utf8.acceptRanges", laid_unicode_utf8_acceptRanges), ("unicode/utf8.first", laid_unicode_utf8_first)] }
def Utf16UnitsSaid : Prop := utf16UnitsRow.holds Tryd.pinned (OpenSpec.ofChange utf16UnitsSpec)

/-- ITS FALSE NEIGHBOUR: 'it returns false'. Refute it at one input. -/
def utf16UnitsWrong : ChangeSpec := { name := "utf16Units", fn := fun _ => fun
  | [d] => { results := [.lit (.bool false)], args := [d] }
  | _ => none }
def Utf16UnitsWrongFalsely : Prop := utf16UnitsRow.holds Tryd.pinned (OpenSpec.ofChange utf16UnitsWrong)

/- THE SECOND FORM. 'bulk': how many values and letters a reading holds, each counted each time it is reached (what is shared counts as often as it is met; a slice's spare places count too). A statement '..UptoSaid' is the law's where the arguments, and the package variables that the reading takes, are together of bulk at most 1048576: NARROWER than '..Said'. Prove '..Said' where nothing that the law and all that it calls make is longer than what came in: it says more and counts as full. Else prove '..UptoSaid'. A law counts once. -/
mutual
def uptoBulk {H : Type} : DataW H → Nat
  | .lit (.string bytes) => bytes.length + 1
  | .lit _ => 1
  | .nil => 1
  | .ptr d => uptoBulk d + 1
  | .slice elems spare => uptoBulkAll elems + uptoBulkAll spare + 1
  | .agg parts => uptoBulkAll parts + 1
  | .iface _ d => uptoBulk d + 1
  | .map entries => uptoBulkEntries entries + 1
  | .held _ => 1
def uptoBulkAll {H : Type} : List (DataW H) → Nat
  | [] => 0
  | d :: r => uptoBulk d + uptoBulkAll r
def uptoBulkEntries {H : Type} : List (Lit × DataW H) → Nat
  | [] => 0
  | x :: r => uptoBulkEntry x + uptoBulkEntries r
def uptoBulkEntry {H : Type} : Lit × DataW H → Nat
  | (.string bytes, d) => bytes.length + uptoBulk d + 1
  | (_, d) => uptoBulk d + 1
 end
def uptoSmall : (H : Type) → List (DataW H) → Bool := fun _ ds => decide (uptoBulkAll ds ≤ 1048576)
def OpenSpec.upto (s : _root_.Go.ChangeSpec) : _root_.Go.OpenSpec := { _root_.Go.OpenSpec.ofChange s with cond := some uptoSmall }

/-- 'euphroelaw04.Md4Blocks', WHERE WHAT IT READS IS OF BULK AT MOST 1048576: true; the input reads as it did. -/
def md4BlocksUptoRow : OpenClaim := { program := "ytpjamebfpgmjdaadoor", sum := "cd864459a392a7c23e666b5425dda621a3618435614cb5ec14a07fbb7ffda190", func := "euphroe/euphroelaw04.Md4Blocks", spec := "md4Blocks", named := ["euphroe/md4.turns", "euphroe/md4.crossed"], apart := false, laid := [("euphroe/md4.turns", laid_euphroe_md4_turns), ("euphroe/md4.crossed", laid_euphroe_md4_crossed)], narrowed := true }
def Md4BlocksUptoSaid : Prop := md4BlocksUptoRow.holds Tryd.pinned (OpenSpec.upto md4BlocksSpec)

/-- 'euphroelaw04.Md4Is', WHERE WHAT IT READS IS OF BULK AT MOST 1048576: true; the input reads as it did. -/
def md4IsUptoRow : OpenClaim := { program := "ytpjamebfpgmjdaadoor", sum := "cd864459a392a7c23e666b5425dda621a3618435614cb5ec14a07fbb7ffda190", func := "euphroe/euphroelaw04.Md4Is", spec := "md4Is", named := ["euphroe/md4.turns", "euphroe/md4.crossed"], apart := false, laid := [("euphroe/md4.turns", laid_euphroe_md4_turns), ("euphroe/md4.crossed", laid_euphroe_md4_crossed)], narrowed := true }
def Md4IsUptoSaid : Prop := md4IsUptoRow.holds Tryd.pinned (OpenSpec.upto md4IsSpec)

/-- 'euphroelaw04.Md4Parts', WHERE WHAT IT READS IS OF BULK AT MOST 1048576: true; the input reads as it did. -/
def md4PartsUptoRow : OpenClaim := { program := "ytpjamebfpgmjdaadoor", sum := "cd864459a392a7c23e666b5425dda621a3618435614cb5ec14a07fbb7ffda190", func := "euphroe/euphroelaw04.Md4Parts", spec := "md4Parts", named := ["euphroe/md4.turns", "euphroe/md4.crossed"], apart := false, laid := [("euphroe/md4.turns", laid_euphroe_md4_turns), ("euphroe/md4.crossed", laid_euphroe_md4_crossed)], narrowed := true }
def Md4PartsUptoSaid : Prop := md4PartsUptoRow.holds Tryd.pinned (OpenSpec.upto md4PartsSpec)

/-- 'euphroelaw08.DesWords', WHERE WHAT IT READS IS OF BULK AT MOST 1048576: true; the input reads as it did. -/
def desWordsUptoRow : OpenClaim := { program := "ytpjamebfpgmjdaadoor", sum := "cd864459a392a7c23e666b5425dda621a3618435614cb5ec14a07fbb7ffda190", func := "euphroe/euphroelaw08.DesWords", spec := "desWords", inPlace := ["internal/bytealg.IndexByteString"], unfollowed := true, recurses := true, named := ["euphroe/des.byOne"], apart := false, laid := [("euphroe/des.byOne", laid_euphroe_des_byOne)], narrowed := true }
def DesWordsUptoSaid : Prop := desWordsUptoRow.holds Tryd.pinned (OpenSpec.upto desWordsSpec)

/-- 'euphroelaw08.DesTurns', WHERE WHAT IT READS IS OF BULK AT MOST 1048576: true; the input reads as it did. -/
def desTurnsUptoRow : OpenClaim := { program := "ytpjamebfpgmjdaadoor", sum := "cd864459a392a7c23e666b5425dda621a3618435614cb5ec14a07fbb7ffda190", func := "euphroe/euphroelaw08.DesTurns", spec := "desTurns", inPlace := ["internal/bytealg.IndexByteString"], unfollowed := true, recurses := true, named := ["euphroe/des.byOne"], apart := false, laid := [("euphroe/des.byOne", laid_euphroe_des_byOne)], narrowed := true }
def DesTurnsUptoSaid : Prop := desTurnsUptoRow.holds Tryd.pinned (OpenSpec.upto desTurnsSpec)

/-- 'euphroelaw08.DesSeven', WHERE WHAT IT READS IS OF BULK AT MOST 1048576: true; the input reads as it did. -/
def desSevenUptoRow : OpenClaim := { program := "ytpjamebfpgmjdaadoor", sum := "cd864459a392a7c23e666b5425dda621a3618435614cb5ec14a07fbb7ffda190", func := "euphroe/euphroelaw08.DesSeven", spec := "desSeven", inPlace := ["internal/bytealg.IndexByteString"], unfollowed := true, recurses := true, named := ["euphroe/des.byOne"], apart := false, laid := [("euphroe/des.byOne", laid_euphroe_des_byOne)], narrowed := true }
def DesSevenUptoSaid : Prop := desSevenUptoRow.holds Tryd.pinned (OpenSpec.upto desSevenSpec)

/-- 'euphroelaw08.DesBack', WHERE WHAT IT READS IS OF BULK AT MOST 1048576: true; the input reads as it did. -/
def desBackUptoRow : OpenClaim := { program := "ytpjamebfpgmjdaadoor", sum := "cd864459a392a7c23e666b5425dda621a3618435614cb5ec14a07fbb7ffda190", func := "euphroe/euphroelaw08.DesBack", spec := "desBack", inPlace := ["internal/bytealg.IndexByteString"], unfollowed := true, recurses := true, named := ["euphroe/des.byOne"], apart := false, laid := [("euphroe/des.byOne", laid_euphroe_des_byOne)], narrowed := true }
def DesBackUptoSaid : Prop := desBackUptoRow.holds Tryd.pinned (OpenSpec.upto desBackSpec)

/-- 'euphroelaw08.DesOther', WHERE WHAT IT READS IS OF BULK AT MOST 1048576: true; the input reads as it did. -/
def desOtherUptoRow : OpenClaim := { program := "ytpjamebfpgmjdaadoor", sum := "cd864459a392a7c23e666b5425dda621a3618435614cb5ec14a07fbb7ffda190", func := "euphroe/euphroelaw08.DesOther", spec := "desOther", inPlace := ["internal/bytealg.IndexByteString"], unfollowed := true, recurses := true, named := ["euphroe/des.byOne"], apart := false, laid := [("euphroe/des.byOne", laid_euphroe_des_byOne)], narrowed := true }
def DesOtherUptoSaid : Prop := desOtherUptoRow.holds Tryd.pinned (OpenSpec.upto desOtherSpec)

/-- 'euphroelaw09.Utf16Lays', WHERE WHAT IT READS IS OF BULK AT MOST 1048576: true; the input reads as it did. -/
def utf16LaysUptoRow : OpenClaim := { program := "ytpjamebfpgmjdaadoor", sum := "cd864459a392a7c23e666b5425dda621a3618435614cb5ec14a07fbb7ffda190", func := "euphroe/euphroelaw09.Utf16Lays", spec := "utf16Lays", inPlace := ["internal/abi.NoEscape"], named := ["unicode/utf8.first", "unicode/utf8.acceptRanges"], apart := false, laid := [("unicode/utf8.acceptRanges", laid_unicode_utf8_acceptRanges), ("unicode/utf8.first", laid_unicode_utf8_first)], narrowed := true }
def Utf16LaysUptoSaid : Prop := utf16LaysUptoRow.holds Tryd.pinned (OpenSpec.upto utf16LaysSpec)

/-- 'euphroelaw09.Utf16Back', WHERE WHAT IT READS IS OF BULK AT MOST 1048576: true; the input reads as it did. -/
def utf16BackUptoRow : OpenClaim := { program := "ytpjamebfpgmjdaadoor", sum := "cd864459a392a7c23e666b5425dda621a3618435614cb5ec14a07fbb7ffda190", func := "euphroe/euphroelaw09.Utf16Back", spec := "utf16Back", inPlace := ["internal/abi.NoEscape"], named := ["unicode/utf8.first", "unicode/utf8.acceptRanges"], apart := false, laid := [("unicode/utf8.acceptRanges", laid_unicode_utf8_acceptRanges), ("unicode/utf8.first", laid_unicode_utf8_first)], narrowed := true }
def Utf16BackUptoSaid : Prop := utf16BackUptoRow.holds Tryd.pinned (OpenSpec.upto utf16BackSpec)

/-- 'euphroelaw09.Utf16Units', WHERE WHAT IT READS IS OF BULK AT MOST 1048576: true; the input reads as it did. -/
def utf16UnitsUptoRow : OpenClaim := { program := "ytpjamebfpgmjdaadoor", sum := "cd864459a392a7c23e666b5425dda621a3618435614cb5ec14a07fbb7ffda190", func := "euphroe/euphroelaw09.Utf16Units", spec := "utf16Units", inPlace := ["internal/abi.NoEscape"], named := ["unicode/utf8.first", "unicode/utf8.acceptRanges"], apart := false, laid := [("unicode/utf8.acceptRanges", laid_unicode_utf8_acceptRanges), ("unicode/utf8.first", laid_unicode_utf8_first)], narrowed := true }
def Utf16UnitsUptoSaid : Prop := utf16UnitsUptoRow.holds Tryd.pinned (OpenSpec.upto utf16UnitsSpec)

end Rows
end Go.Proofs.YtpjamebfpgmjdaaDoor
