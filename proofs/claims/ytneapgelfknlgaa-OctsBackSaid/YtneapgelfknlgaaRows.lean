/-
  No cell of these rows narrows 'for every input' (looked for: loops, veiled, ifaces, maps, wideKeys, modest, calm, conditions, laid).
  DERIVED. THE GIVEN ROWS OF THIS SEAT. 4 by the template 'for every input the law returns true; each argument reads behind the call as it read before'; 0 by the template 'total and deterministic' (their statements: YtneapgelfknlgaaTotals.lean).
  GIVEN WITH THE SEED: the statements are not yours to turn. If you find one false, say at which input.
  Laid BY PROGRAM, IN A SANDBOX (cutbox-rows.mjs): the forced cells as the released guide's own fill.sh prints them over the translation 11e60046746b9066… (all of the seat's roots in one cut). By AI agents, Wed Nov 11 2026. No macro, syntax, notation, axiom, sorry.
-/
import Derived.Test.YtneapgelfknlgaaChecked
import GoSem.Claim
import GoSem.ClaimJoined
import GoSem.ClaimMapViews
import Derived.JoinedTies
import Derived.KernelRfl
namespace Go.Proofs.Ytneapgelfknlgaa
/- THE CELL 'sum', in the pinned program and in every row, IS THE sha256 OF THE DUMP (.gsa) THAT YtneapgelfknlgaaProg.lean LOADS. Nothing in Lean hashes anything: it is a label: what it is worth is what the hold of that sum in a sandbox is worth. -/
noncomputable def Try.pinned : Pinned := { name := "ytneapgelfknlgaa", sum := "11e60046746b9066d1c6210a52973a0ec78c7dde8cd9d531c46837df1301ff49", checked := Try.checked }
namespace Rows
def none {H : Type} : Left H := { results := [], args := [] }

/-- 'euphroelaw01.OctsPuts': WHATEVER THE INPUT: true; the input reads as it did. -/
def octsPutsSpec : ChangeSpec := { name := "octsPuts", fn := fun _ => fun
  | [d1, d2, d3] => { results := [.lit (.bool true)], args := [d1, d2, d3] }
  | _ => none }
def octsPutsRow : OpenClaim := { program := "ytneapgelfknlgaa", sum := "11e60046746b9066d1c6210a52973a0ec78c7dde8cd9d531c46837df1301ff49", func := "euphroe/euphroelaw01.OctsPuts", spec := "octsPuts", apart := false }
def OctsPutsSaid : Prop := octsPutsRow.holds Try.pinned (OpenSpec.ofChange octsPutsSpec)

/-- ITS FALSE NEIGHBOUR: 'it returns false'. Refute it at one input. -/
def octsPutsWrong : ChangeSpec := { name := "octsPuts", fn := fun _ => fun
  | [d1, d2, d3] => { results := [.lit (.bool false)], args := [d1, d2, d3] }
  | _ => none }
def OctsPutsWrongFalsely : Prop := octsPutsRow.holds Try.pinned (OpenSpec.ofChange octsPutsWrong)

/-- 'euphroelaw01.OctsTurns': WHATEVER THE INPUT: true; the input reads as it did. -/
def octsTurnsSpec : ChangeSpec := { name := "octsTurns", fn := fun _ => fun
  | [d1, d2] => { results := [.lit (.bool true)], args := [d1, d2] }
  | _ => none }
def octsTurnsRow : OpenClaim := { program := "ytneapgelfknlgaa", sum := "11e60046746b9066d1c6210a52973a0ec78c7dde8cd9d531c46837df1301ff49", func := "euphroe/euphroelaw01.OctsTurns", spec := "octsTurns", apart := false }
def OctsTurnsSaid : Prop := octsTurnsRow.holds Try.pinned (OpenSpec.ofChange octsTurnsSpec)

/-- ITS FALSE NEIGHBOUR: 'it returns false'. Refute it at one input. -/
def octsTurnsWrong : ChangeSpec := { name := "octsTurns", fn := fun _ => fun
  | [d1, d2] => { results := [.lit (.bool false)], args := [d1, d2] }
  | _ => none }
def OctsTurnsWrongFalsely : Prop := octsTurnsRow.holds Try.pinned (OpenSpec.ofChange octsTurnsWrong)

/-- 'euphroelaw01.OctsHex': WHATEVER THE INPUT: true; the input reads as it did. -/
def octsHexSpec : ChangeSpec := { name := "octsHex", fn := fun _ => fun
  | [d1, d2] => { results := [.lit (.bool true)], args := [d1, d2] }
  | _ => none }
def octsHexRow : OpenClaim := { program := "ytneapgelfknlgaa", sum := "11e60046746b9066d1c6210a52973a0ec78c7dde8cd9d531c46837df1301ff49", func := "euphroe/euphroelaw01.OctsHex", spec := "octsHex", apart := false }
def OctsHexSaid : Prop := octsHexRow.holds Try.pinned (OpenSpec.ofChange octsHexSpec)

/-- ITS FALSE NEIGHBOUR: 'it returns false'. Refute it at one input. -/
def octsHexWrong : ChangeSpec := { name := "octsHex", fn := fun _ => fun
  | [d1, d2] => { results := [.lit (.bool false)], args := [d1, d2] }
  | _ => none }
def OctsHexWrongFalsely : Prop := octsHexRow.holds Try.pinned (OpenSpec.ofChange octsHexWrong)

/-- 'euphroelaw01.OctsBack': WHATEVER THE INPUT: true; the input reads as it did. -/
def octsBackSpec : ChangeSpec := { name := "octsBack", fn := fun _ => fun
  | [d1, d2, d3] => { results := [.lit (.bool true)], args := [d1, d2, d3] }
  | _ => none }
def octsBackRow : OpenClaim := { program := "ytneapgelfknlgaa", sum := "11e60046746b9066d1c6210a52973a0ec78c7dde8cd9d531c46837df1301ff49", func := "euphroe/euphroelaw01.OctsBack", spec := "octsBack", apart := false }
def OctsBackSaid : Prop := octsBackRow.holds Try.pinned (OpenSpec.ofChange octsBackSpec)

/-- ITS FALSE NEIGHBOUR: 'it returns false'. Refute it at one input. -/
def octsBackWrong : ChangeSpec := { name := "octsBack", fn := fun _ => fun
  | [d1, d2, d3] => { results := [.lit (.bool false)], args := [d1, d2, d3] }
  | _ => none }
def OctsBackWrongFalsely : Prop := octsBackRow.holds Try.pinned (OpenSpec.ofChange octsBackWrong)

/- THE SECOND FORM. 'bulk': how many values and letters a reading holds, each counted each time it is reached (what is shared counts as often as it is met; a slice's spare places count too). A statement '..UptoSaid' is the law's where the arguments, and the package variables that the reading takes, are together of bulk at most 1048576: NARROWER than '..Said'. Prove '..Said' where nothing that the law and all that it calls make is longer than what came in: it says more and counts as full. Else prove '..UptoSaid'. A law counts once. -/
mutual
def uptoBulk {H : Type} : DataW H → Nat
  | .lit (.string bytes) => bytes.length + 1
  | .lit _ => 1
  | .nil => 1
  | .ptr d => uptoBulk d + 1
  | .slice elems spare => uptoBulkAll elems + uptoBulkAll spare + 1
  | .agg parts => uptoBulkAll parts + 1
  | .iface _ d => uptoBulk d + 1
  | .map entries => uptoBulkEntries entries + 1
  | .held _ => 1
def uptoBulkAll {H : Type} : List (DataW H) → Nat
  | [] => 0
  | d :: r => uptoBulk d + uptoBulkAll r
def uptoBulkEntries {H : Type} : List (Lit × DataW H) → Nat
  | [] => 0
  | x :: r => uptoBulkEntry x + uptoBulkEntries r
def uptoBulkEntry {H : Type} : Lit × DataW H → Nat
  | (.string bytes, d) => bytes.length + uptoBulk d + 1
  | (_, d) => uptoBulk d + 1
 end
def uptoSmall : (H : Type) → List (DataW H) → Bool := fun _ ds => decide (uptoBulkAll ds ≤ 1048576)
def OpenSpec.upto (s : _root_.Go.ChangeSpec) : _root_.Go.OpenSpec := { _root_.Go.OpenSpec.ofChange s with cond := some uptoSmall }

/-- 'euphroelaw01.OctsPuts', WHERE WHAT IT READS IS OF BULK AT MOST 1048576: true; the input reads as it did. -/
def octsPutsUptoRow : OpenClaim := { program := "ytneapgelfknlgaa", sum := "11e60046746b9066d1c6210a52973a0ec78c7dde8cd9d531c46837df1301ff49", func := "euphroe/euphroelaw01.OctsPuts", spec := "octsPuts", apart := false, narrowed := true }
def OctsPutsUptoSaid : Prop := octsPutsUptoRow.holds Try.pinned (OpenSpec.upto octsPutsSpec)

/-- 'euphroelaw01.OctsTurns', WHERE WHAT IT READS IS OF BULK AT MOST 1048576: true; the input reads as it did. -/
def octsTurnsUptoRow : OpenClaim := { program := "ytneapgelfknlgaa", sum := "11e60046746b9066d1c6210a52973a0ec78c7dde8cd9d531c46837df1301ff49", func := "euphroe/euphroelaw01.OctsTurns", spec := "octsTurns", apart := false, narrowed := true }
def OctsTurnsUptoSaid : Prop := octsTurnsUptoRow.holds Try.pinned (OpenSpec.upto octsTurnsSpec)

/-- 'euphroelaw01.OctsHex', WHERE WHAT IT READS IS OF BULK AT MOST 1048576: true; the input reads as it did. -/
def octsHexUptoRow : OpenClaim := { program := "ytneapgelfknlgaa", sum := "11e60046746b9066d1c6210a52973a0ec78c7dde8cd9d531c46837df1301ff49", func := "euphroe/euphroelaw01.OctsHex", spec := "octsHex", apart := false, narrowed := true }
def OctsHexUptoSaid : Prop := octsHexUptoRow.holds Try.pinned (OpenSpec.upto octsHexSpec)

/-- 'euphroelaw01.OctsBack', WHERE WHAT IT READS IS OF BULK AT MOST 1048576: true; the input reads as it did. -/
def octsBackUptoRow : OpenClaim := { program := "ytneapgelfknlgaa", sum := "11e60046746b9066d1c6210a52973a0ec78c7dde8cd9d531c46837df1301ff49", func := "euphroe/euphroelaw01.OctsBack", spec := "octsBack", apart := false, narrowed := true }
def OctsBackUptoSaid : Prop := octsBackUptoRow.holds Try.pinned (OpenSpec.upto octsBackSpec)

end Rows
end Go.Proofs.Ytneapgelfknlgaa
