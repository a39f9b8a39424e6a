/-
  No cell of these rows narrows 'for every input' (looked for: loops, veiled, ifaces, maps, wideKeys, modest, calm, conditions, laid).
  DERIVED. THE GIVEN ROWS OF THIS SEAT. 4 by the template 'for every input the law returns true; each argument reads behind the call as it read before'; 0 by the template 'total and deterministic' (their statements: YtecnclcendcfmaaTotals.lean).
  GIVEN WITH THE SEED: the statements are not yours to turn. If you find one false, say at which input.
  Laid BY PROGRAM, IN A SANDBOX (cutbox-rows.mjs): the forced cells as the released guide's own fill.sh prints them over the translation 20c2b0b4b53a1776… (all of the seat's roots in one cut). By AI agents, Wed Nov 11 2026. No macro, syntax, notation, axiom, sorry.
-/
import Derived.Test.YtecnclcendcfmaaChecked
import GoSem.Claim
import GoSem.ClaimJoined
import GoSem.ClaimMapViews
import Derived.JoinedTies
import Derived.KernelRfl
namespace Go.Proofs.Ytecnclcendcfmaa
/- THE CELL 'sum', in the pinned program and in every row, IS THE sha256 OF THE DUMP (.gsa) THAT YtecnclcendcfmaaProg.lean LOADS. Nothing in Lean hashes anything: it is a label: what it is worth is what the hold of that sum in a sandbox is worth. -/
noncomputable def Try.pinned : Pinned := { name := "ytecnclcendcfmaa", sum := "20c2b0b4b53a1776531c2fd3e5196b2199b43ed88e8ad51c2a7cda0c0be44b53", checked := Try.checked }
namespace Rows
def none {H : Type} : Left H := { results := [], args := [] }

/-- 'euphroelaw03.BitpTurns': WHATEVER THE INPUT: true; the input reads as it did. -/
def bitpTurnsSpec : ChangeSpec := { name := "bitpTurns", fn := fun _ => fun
  | [d1, d2, d3] => { results := [.lit (.bool true)], args := [d1, d2, d3] }
  | _ => none }
def bitpTurnsRow : OpenClaim := { program := "ytecnclcendcfmaa", sum := "20c2b0b4b53a1776531c2fd3e5196b2199b43ed88e8ad51c2a7cda0c0be44b53", func := "euphroe/euphroelaw03.BitpTurns", spec := "bitpTurns", unfollowed := true, recurses := true, apart := false }
def BitpTurnsSaid : Prop := bitpTurnsRow.holds Try.pinned (OpenSpec.ofChange bitpTurnsSpec)

/-- ITS FALSE NEIGHBOUR: 'it returns false'. Refute it at one input. -/
def bitpTurnsWrong : ChangeSpec := { name := "bitpTurns", fn := fun _ => fun
  | [d1, d2, d3] => { results := [.lit (.bool false)], args := [d1, d2, d3] }
  | _ => none }
def BitpTurnsWrongFalsely : Prop := bitpTurnsRow.holds Try.pinned (OpenSpec.ofChange bitpTurnsWrong)

/-- 'euphroelaw20.PppfLays': WHATEVER THE INPUT: true; the input reads as it did. -/
def pppfLaysSpec : ChangeSpec := { name := "pppfLays", fn := fun _ => fun
  | [d1, d2, d3] => { results := [.lit (.bool true)], args := [d1, d2, d3] }
  | _ => none }
def pppfLaysRow : OpenClaim := { program := "ytecnclcendcfmaa", sum := "20c2b0b4b53a1776531c2fd3e5196b2199b43ed88e8ad51c2a7cda0c0be44b53", func := "euphroe/euphroelaw20.PppfLays", spec := "pppfLays", apart := false }
def PppfLaysSaid : Prop := pppfLaysRow.holds Try.pinned (OpenSpec.ofChange pppfLaysSpec)

/-- ITS FALSE NEIGHBOUR: 'it returns false'. Refute it at one input. -/
def pppfLaysWrong : ChangeSpec := { name := "pppfLays", fn := fun _ => fun
  | [d1, d2, d3] => { results := [.lit (.bool false)], args := [d1, d2, d3] }
  | _ => none }
def PppfLaysWrongFalsely : Prop := pppfLaysRow.holds Try.pinned (OpenSpec.ofChange pppfLaysWrong)

/-- 'euphroelaw20.PppfParses': WHATEVER THE INPUT: true; the input reads as it did. -/
def pppfParsesSpec : ChangeSpec := { name := "pppfParses", fn := fun _ => fun
  | [d1, d2] => { results := [.lit (.bool true)], args := [d1, d2] }
  | _ => none }
def pppfParsesRow : OpenClaim := { program := "ytecnclcendcfmaa", sum := "20c2b0b4b53a1776531c2fd3e5196b2199b43ed88e8ad51c2a7cda0c0be44b53", func := "euphroe/euphroelaw20.PppfParses", spec := "pppfParses", apart := false }
def PppfParsesSaid : Prop := pppfParsesRow.holds Try.pinned (OpenSpec.ofChange pppfParsesSpec)

/-- ITS FALSE NEIGHBOUR: 'it returns false'. Refute it at one input. -/
def pppfParsesWrong : ChangeSpec := { name := "pppfParses", fn := fun _ => fun
  | [d1, d2] => { results := [.lit (.bool false)], args := [d1, d2] }
  | _ => none }
def PppfParsesWrongFalsely : Prop := pppfParsesRow.holds Try.pinned (OpenSpec.ofChange pppfParsesWrong)

/-- 'euphroelaw20.PppfShort': WHATEVER THE INPUT: true; the input reads as it did. -/
def pppfShortSpec : ChangeSpec := { name := "pppfShort", fn := fun _ => fun
  | [d] => { results := [.lit (.bool true)], args := [d] }
  | _ => none }
def pppfShortRow : OpenClaim := { program := "ytecnclcendcfmaa", sum := "20c2b0b4b53a1776531c2fd3e5196b2199b43ed88e8ad51c2a7cda0c0be44b53", func := "euphroe/euphroelaw20.PppfShort", spec := "pppfShort", apart := false }
def PppfShortSaid : Prop := pppfShortRow.holds Try.pinned (OpenSpec.ofChange pppfShortSpec)

/-- ITS FALSE NEIGHBOUR: 'it returns false'. Refute it at one input. -/
def pppfShortWrong : ChangeSpec := { name := "pppfShort", fn := fun _ => fun
  | [d] => { results := [.lit (.bool false)], args := [d] }
  | _ => none }
def PppfShortWrongFalsely : Prop := pppfShortRow.holds Try.pinned (OpenSpec.ofChange pppfShortWrong)

/- THE SECOND FORM. 'bulk': how many values and letters a reading holds, each counted each time it is reached (what is shared counts as often as it is met; a slice's spare places count too). A statement '..UptoSaid' is the law's where the arguments, and the package variables that the reading takes, are together of bulk at most 1048576: NARROWER than '..Said'. Prove '..Said' where nothing that the law and all that it calls make is longer than what came in: it says more and counts as full. Else prove '..UptoSaid'. A law counts once. -/
mutual
def uptoBulk {H : Type} : DataW H → Nat
  | .lit (.string bytes) => bytes.length + 1
  | .lit _ => 1
  | .nil => 1
  | .ptr d => uptoBulk d + 1
  | .slice elems spare => uptoBulkAll elems + uptoBulkAll spare + 1
  | .agg parts => uptoBulkAll parts + 1
  | .iface _ d => uptoBulk d + 1
  | .map entries => uptoBulkEntries entries + 1
  | .held _ => 1
def uptoBulkAll {H : Type} : List (DataW H) → Nat
  | [] => 0
  | d :: r => uptoBulk d + uptoBulkAll r
def uptoBulkEntries {H : Type} : List (Lit × DataW H) → Nat
  | [] => 0
  | x :: r => uptoBulkEntry x + uptoBulkEntries r
def uptoBulkEntry {H : Type} : Lit × DataW H → Nat
  | (.string bytes, d) => bytes.length + uptoBulk d + 1
  | (_, d) => uptoBulk d + 1
 end
def uptoSmall : (H : Type) → List (DataW H) → Bool := fun _ ds => decide (uptoBulkAll ds ≤ 1048576)
def OpenSpec.upto (s : _root_.Go.ChangeSpec) : _root_.Go.OpenSpec := { _root_.Go.OpenSpec.ofChange s with cond := some uptoSmall }

/-- 'euphroelaw03.BitpTurns', WHERE WHAT IT READS IS OF BULK AT MOST 1048576: true; the input reads as it did. -/
def bitpTurnsUptoRow : OpenClaim := { program := "ytecnclcendcfmaa", sum := "20c2b0b4b53a1776531c2fd3e5196b2199b43ed88e8ad51c2a7cda0c0be44b53", func := "euphroe/euphroelaw03.BitpTurns", spec := "bitpTurns", unfollowed := true, recurses := true, apart := false, narrowed := true }
def BitpTurnsUptoSaid : Prop := bitpTurnsUptoRow.holds Try.pinned (OpenSpec.upto bitpTurnsSpec)

/-- 'euphroelaw20.PppfLays', WHERE WHAT IT READS IS OF BULK AT MOST 1048576: true; the input reads as it did. -/
def pppfLaysUptoRow : OpenClaim := { program := "ytecnclcendcfmaa", sum := "20c2b0b4b53a1776531c2fd3e5196b2199b43ed88e8ad51c2a7cda0c0be44b53", func := "euphroe/euphroelaw20.PppfLays", spec := "pppfLays", apart := false, narrowed := true }
def PppfLaysUptoSaid : Prop := pppfLaysUptoRow.holds Try.pinned (OpenSpec.upto pppfLaysSpec)

/-- 'euphroelaw20.PppfParses', WHERE WHAT IT READS IS OF BULK AT MOST 1048576: true; the input reads as it did. -/
def pppfParsesUptoRow : OpenClaim := { program := "ytecnclcendcfmaa", sum := "20c2b0b4b53a1776531c2fd3e5196b2199b43ed88e8ad51c2a7cda0c0be44b53", func := "euphroe/euphroelaw20.PppfParses", spec := "pppfParses", apart := false, narrowed := true }
def PppfParsesUptoSaid : Prop := pppfParsesUptoRow.holds Try.pinned (OpenSpec.upto pppfParsesSpec)

/-- 'euphroelaw20.PppfShort', WHERE WHAT IT READS IS OF BULK AT MOST 1048576: true; the input reads as it did. -/
def pppfShortUptoRow : OpenClaim := { program := "ytecnclcendcfmaa", sum := "20c2b0b4b53a1776531c2fd3e5196b2199b43ed88e8ad51c2a7cda0c0be44b53", func := "euphroe/euphroelaw20.PppfShort", spec := "pppfShort", apart := false, narrowed := true }
def PppfShortUptoSaid : Prop := pppfShortUptoRow.holds Try.pinned (OpenSpec.upto pppfShortSpec)

end Rows
end Go.Proofs.Ytecnclcendcfmaa
