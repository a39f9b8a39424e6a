/-
  No cell of these rows narrows 'for every input' (looked for: loops, veiled, ifaces, maps, wideKeys, modest, calm, conditions, laid).
  DERIVED. THE GIVEN ROWS OF THIS SEAT. 10 by the template 'for every input the law returns true; each argument reads behind the call as it read before'; 0 by the template 'total and deterministic' (their statements: YtdaminjbockmbaaTotals.lean).
  GIVEN WITH THE SEED: the statements are not yours to turn. If you find one false, say at which input.
  Laid BY PROGRAM, IN A SANDBOX (cutbox-rows.mjs): the forced cells as the released guide's own fill.sh prints them over the translation a15f19661fe50db1… (all of the seat's roots in one cut). By AI agents, Wed Nov 11 2026. No macro, syntax, notation, axiom, sorry.
-/
import Derived.Test.YtdaminjbockmbaaChecked
import GoSem.Claim
import GoSem.ClaimJoined
import GoSem.ClaimMapViews
import Derived.JoinedTies
import Derived.KernelRfl
namespace Go.Proofs.Ytdaminjbockmbaa
/- THE CELL 'sum', in the pinned program and in every row, IS THE sha256 OF THE DUMP (.gsa) THAT YtdaminjbockmbaaProg.lean LOADS. Nothing in Lean hashes anything: it is a label: what it is worth is what the hold of that sum in a sandbox is worth. -/
noncomputable def Try.pinned : Pinned := { name := "ytdaminjbockmbaa", sum := "a15f19661fe50db1b84c030e03d64635a2320cc4b2f159ff4148129a0116fcf4", checked := Try.checked }
namespace Rows
def none {H : Type} : Left H := { results := [], args := [] }

/-- 'euphroelaw18.PacketLays': WHATEVER THE INPUT: true; the input reads as it did. -/
def packetLaysSpec : ChangeSpec := { name := "packetLays", fn := fun _ => fun
  | [d] => { results := [.lit (.bool true)], args := [d] }
  | _ => none }
def packetLaysRow : OpenClaim := { program := "ytdaminjbockmbaa", sum := "a15f19661fe50db1b84c030e03d64635a2320cc4b2f159ff4148129a0116fcf4", func := "euphroe/euphroelaw18.PacketLays", spec := "packetLays", unfollowed := true, recurses := true, apart := false }
def PacketLaysSaid : Prop := packetLaysRow.holds Try.pinned (OpenSpec.ofChange packetLaysSpec)

/-- ITS FALSE NEIGHBOUR: 'it returns false'. Refute it at one input. -/
def packetLaysWrong : ChangeSpec := { name := "packetLays", fn := fun _ => fun
  | [d] => { results := [.lit (.bool false)], args := [d] }
  | _ => none }
def PacketLaysWrongFalsely : Prop := packetLaysRow.holds Try.pinned (OpenSpec.ofChange packetLaysWrong)

/-- 'euphroelaw18.PacketParses': WHATEVER THE INPUT: true; the input reads as it did. -/
def packetParsesSpec : ChangeSpec := { name := "packetParses", fn := fun _ => fun
  | [d] => { results := [.lit (.bool true)], args := [d] }
  | _ => none }
def packetParsesRow : OpenClaim := { program := "ytdaminjbockmbaa", sum := "a15f19661fe50db1b84c030e03d64635a2320cc4b2f159ff4148129a0116fcf4", func := "euphroe/euphroelaw18.PacketParses", spec := "packetParses", unfollowed := true, recurses := true, apart := false }
def PacketParsesSaid : Prop := packetParsesRow.holds Try.pinned (OpenSpec.ofChange packetParsesSpec)

/-- ITS FALSE NEIGHBOUR: 'it returns false'. Refute it at one input. -/
def packetParsesWrong : ChangeSpec := { name := "packetParses", fn := fun _ => fun
  | [d] => { results := [.lit (.bool false)], args := [d] }
  | _ => none }
def PacketParsesWrongFalsely : Prop := packetParsesRow.holds Try.pinned (OpenSpec.ofChange packetParsesWrong)

/-- 'euphroelaw18.PacketBack': WHATEVER THE INPUT: true; the input reads as it did. -/
def packetBackSpec : ChangeSpec := { name := "packetBack", fn := fun _ => fun
  | [d1, d2, d3] => { results := [.lit (.bool true)], args := [d1, d2, d3] }
  | _ => none }
def packetBackRow : OpenClaim := { program := "ytdaminjbockmbaa", sum := "a15f19661fe50db1b84c030e03d64635a2320cc4b2f159ff4148129a0116fcf4", func := "euphroe/euphroelaw18.PacketBack", spec := "packetBack", unfollowed := true, recurses := true, apart := false }
def PacketBackSaid : Prop := packetBackRow.holds Try.pinned (OpenSpec.ofChange packetBackSpec)

/-- ITS FALSE NEIGHBOUR: 'it returns false'. Refute it at one input. -/
def packetBackWrong : ChangeSpec := { name := "packetBack", fn := fun _ => fun
  | [d1, d2, d3] => { results := [.lit (.bool false)], args := [d1, d2, d3] }
  | _ => none }
def PacketBackWrongFalsely : Prop := packetBackRow.holds Try.pinned (OpenSpec.ofChange packetBackWrong)

/-- 'euphroelaw18.PacketMakes': WHATEVER THE INPUT: true; the input reads as it did. -/
def packetMakesSpec : ChangeSpec := { name := "packetMakes", fn := fun _ => fun
  | [d1, d2] => { results := [.lit (.bool true)], args := [d1, d2] }
  | _ => none }
def packetMakesRow : OpenClaim := { program := "ytdaminjbockmbaa", sum := "a15f19661fe50db1b84c030e03d64635a2320cc4b2f159ff4148129a0116fcf4", func := "euphroe/euphroelaw18.PacketMakes", spec := "packetMakes", unfollowed := true, recurses := true, apart := false }
def PacketMakesSaid : Prop := packetMakesRow.holds Try.pinned (OpenSpec.ofChange packetMakesSpec)

/-- ITS FALSE NEIGHBOUR: 'it returns false'. Refute it at one input. -/
def packetMakesWrong : ChangeSpec := { name := "packetMakes", fn := fun _ => fun
  | [d1, d2] => { results := [.lit (.bool false)], args := [d1, d2] }
  | _ => none }
def PacketMakesWrongFalsely : Prop := packetMakesRow.holds Try.pinned (OpenSpec.ofChange packetMakesWrong)

/-- 'euphroelaw18.PacketLength': WHATEVER THE INPUT: true; the input reads as it did. -/
def packetLengthSpec : ChangeSpec := { name := "packetLength", fn := fun _ => fun
  | [d1, d2] => { results := [.lit (.bool true)], args := [d1, d2] }
  | _ => none }
def packetLengthRow : OpenClaim := { program := "ytdaminjbockmbaa", sum := "a15f19661fe50db1b84c030e03d64635a2320cc4b2f159ff4148129a0116fcf4", func := "euphroe/euphroelaw18.PacketLength", spec := "packetLength", unfollowed := true, recurses := true, apart := false }
def PacketLengthSaid : Prop := packetLengthRow.holds Try.pinned (OpenSpec.ofChange packetLengthSpec)

/-- ITS FALSE NEIGHBOUR: 'it returns false'. Refute it at one input. -/
def packetLengthWrong : ChangeSpec := { name := "packetLength", fn := fun _ => fun
  | [d1, d2] => { results := [.lit (.bool false)], args := [d1, d2] }
  | _ => none }
def PacketLengthWrongFalsely : Prop := packetLengthRow.holds Try.pinned (OpenSpec.ofChange packetLengthWrong)

/-- 'euphroelaw22.CtlLays': WHATEVER THE INPUT: true; the input reads as it did. -/
def ctlLaysSpec : ChangeSpec := { name := "ctlLays", fn := fun _ => fun
  | [d1, d2] => { results := [.lit (.bool true)], args := [d1, d2] }
  | _ => none }
def ctlLaysRow : OpenClaim := { program := "ytdaminjbockmbaa", sum := "a15f19661fe50db1b84c030e03d64635a2320cc4b2f159ff4148129a0116fcf4", func := "euphroe/euphroelaw22.CtlLays", spec := "ctlLays", apart := false }
def CtlLaysSaid : Prop := ctlLaysRow.holds Try.pinned (OpenSpec.ofChange ctlLaysSpec)

/-- ITS FALSE NEIGHBOUR: 'it returns false'. Refute it at one input. -/
def ctlLaysWrong : ChangeSpec := { name := "ctlLays", fn := fun _ => fun
  | [d1, d2] => { results := [.lit (.bool false)], args := [d1, d2] }
  | _ => none }
def CtlLaysWrongFalsely : Prop := ctlLaysRow.holds Try.pinned (OpenSpec.ofChange ctlLaysWrong)

/-- 'euphroelaw22.CtlOptions': WHATEVER THE INPUT: true; the input reads as it did. -/
def ctlOptionsSpec : ChangeSpec := { name := "ctlOptions", fn := fun _ => fun
  | [d1, d2, d3] => { results := [.lit (.bool true)], args := [d1, d2, d3] }
  | _ => none }
def ctlOptionsRow : OpenClaim := { program := "ytdaminjbockmbaa", sum := "a15f19661fe50db1b84c030e03d64635a2320cc4b2f159ff4148129a0116fcf4", func := "euphroe/euphroelaw22.CtlOptions", spec := "ctlOptions", unfollowed := true, recurses := true, apart := false }
def CtlOptionsSaid : Prop := ctlOptionsRow.holds Try.pinned (OpenSpec.ofChange ctlOptionsSpec)

/-- ITS FALSE NEIGHBOUR: 'it returns false'. Refute it at one input. -/
def ctlOptionsWrong : ChangeSpec := { name := "ctlOptions", fn := fun _ => fun
  | [d1, d2, d3] => { results := [.lit (.bool false)], args := [d1, d2, d3] }
  | _ => none }
def CtlOptionsWrongFalsely : Prop := ctlOptionsRow.holds Try.pinned (OpenSpec.ofChange ctlOptionsWrong)

/-- 'euphroelaw22.CtlRejects': WHATEVER THE INPUT: true; the input reads as it did. -/
def ctlRejectsSpec : ChangeSpec := { name := "ctlRejects", fn := fun _ => fun
  | [d1, d2, d3] => { results := [.lit (.bool true)], args := [d1, d2, d3] }
  | _ => none }
def ctlRejectsRow : OpenClaim := { program := "ytdaminjbockmbaa", sum := "a15f19661fe50db1b84c030e03d64635a2320cc4b2f159ff4148129a0116fcf4", func := "euphroe/euphroelaw22.CtlRejects", spec := "ctlRejects", apart := false }
def CtlRejectsSaid : Prop := ctlRejectsRow.holds Try.pinned (OpenSpec.ofChange ctlRejectsSpec)

/-- ITS FALSE NEIGHBOUR: 'it returns false'. Refute it at one input. -/
def ctlRejectsWrong : ChangeSpec := { name := "ctlRejects", fn := fun _ => fun
  | [d1, d2, d3] => { results := [.lit (.bool false)], args := [d1, d2, d3] }
  | _ => none }
def CtlRejectsWrongFalsely : Prop := ctlRejectsRow.holds Try.pinned (OpenSpec.ofChange ctlRejectsWrong)

/-- 'euphroelaw17.AttrMakes': WHATEVER THE INPUT: true; the input reads as it did. -/
def attrMakesSpec : ChangeSpec := { name := "attrMakes", fn := fun _ => fun
  | [d1, d2, d3] => { results := [.lit (.bool true)], args := [d1, d2, d3] }
  | _ => none }
def attrMakesRow : OpenClaim := { program := "ytdaminjbockmbaa", sum := "a15f19661fe50db1b84c030e03d64635a2320cc4b2f159ff4148129a0116fcf4", func := "euphroe/euphroelaw17.AttrMakes", spec := "attrMakes", apart := false }
def AttrMakesSaid : Prop := attrMakesRow.holds Try.pinned (OpenSpec.ofChange attrMakesSpec)

/-- ITS FALSE NEIGHBOUR: 'it returns false'. Refute it at one input. -/
def attrMakesWrong : ChangeSpec := { name := "attrMakes", fn := fun _ => fun
  | [d1, d2, d3] => { results := [.lit (.bool false)], args := [d1, d2, d3] }
  | _ => none }
def AttrMakesWrongFalsely : Prop := attrMakesRow.holds Try.pinned (OpenSpec.ofChange attrMakesWrong)

/-- 'euphroelaw25.LcpoFine': WHATEVER THE INPUT: true; the input reads as it did. -/
def lcpoFineSpec : ChangeSpec := { name := "lcpoFine", fn := fun _ => fun
  | [d1, d2, d3] => { results := [.lit (.bool true)], args := [d1, d2, d3] }
  | _ => none }
def lcpoFineRow : OpenClaim := { program := "ytdaminjbockmbaa", sum := "a15f19661fe50db1b84c030e03d64635a2320cc4b2f159ff4148129a0116fcf4", func := "euphroe/euphroelaw25.LcpoFine", spec := "lcpoFine", unfollowed := true, recurses := true, apart := false }
def LcpoFineSaid : Prop := lcpoFineRow.holds Try.pinned (OpenSpec.ofChange lcpoFineSpec)

/-- ITS FALSE NEIGHBOUR: 'it returns false'. Refute it at one input. -/
def lcpoFineWrong : ChangeSpec := { name := "lcpoFine", fn := fun _ => fun
  | [d1, d2, d3] => { results := [.lit (.bool false)], args := [d1, d2, d3] }
  | _ => none }
def LcpoFineWrongFalsely : Prop := lcpoFineRow.holds Try.pinned (OpenSpec.ofChange lcpoFineWrong)

/- THE SECOND FORM. 'bulk': how many values and letters a reading holds, each counted each time it is reached (what is shared counts as often as it is met; a slice's spare places count too). A statement '..UptoSaid' is the law's where the arguments, and the package variables that the reading takes, are together of bulk at most 1048576: NARROWER than '..Said'. Prove '..Said' where nothing that the law and all that it calls make is longer than what came in: it says more and counts as full. Else prove '..UptoSaid'. A law counts once. -/
mutual
def uptoBulk {H : Type} : DataW H → Nat
  | .lit (.string bytes) => bytes.length + 1
  | .lit _ => 1
  | .nil => 1
  | .ptr d => uptoBulk d + 1
  | .slice elems spare => uptoBulkAll elems + uptoBulkAll spare + 1
  | .agg parts => uptoBulkAll parts + 1
  | .iface _ d => uptoBulk d + 1
  | .map entries => uptoBulkEntries entries + 1
  | .held _ => 1
def uptoBulkAll {H : Type} : List (DataW H) → Nat
  | [] => 0
  | d :: r => uptoBulk d + uptoBulkAll r
def uptoBulkEntries {H : Type} : List (Lit × DataW H) → Nat
  | [] => 0
  | x :: r => uptoBulkEntry x + uptoBulkEntries r
def uptoBulkEntry {H : Type} : Lit × DataW H → Nat
  | (.string bytes, d) => bytes.length + uptoBulk d + 1
  | (_, d) => uptoBulk d + 1
 end
def uptoSmall : (H : Type) → List (DataW H) → Bool := fun _ ds => decide (uptoBulkAll ds ≤ 1048576)
def OpenSpec.upto (s : _root_.Go.ChangeSpec) : _root_.Go.OpenSpec := { _root_.Go.OpenSpec.ofChange s with cond := some uptoSmall }

/-- 'euphroelaw18.PacketLays', WHERE WHAT IT READS IS OF BULK AT MOST 1048576: true; the input reads as it did. -/
def packetLaysUptoRow : OpenClaim := { program := "ytdaminjbockmbaa", sum := "a15f19661fe50db1b84c030e03d64635a2320cc4b2f159ff4148129a0116fcf4", func := "euphroe/euphroelaw18.PacketLays", spec := "packetLays", unfollowed := true, recurses := true, apart := false, narrowed := true }
def PacketLaysUptoSaid : Prop := packetLaysUptoRow.holds Try.pinned (OpenSpec.upto packetLaysSpec)

/-- 'euphroelaw18.PacketParses', WHERE WHAT IT READS IS OF BULK AT MOST 1048576: true; the input reads as it did. -/
def packetParsesUptoRow : OpenClaim := { program := "ytdaminjbockmbaa", sum := "a15f19661fe50db1b84c030e03d64635a2320cc4b2f159ff4148129a0116fcf4", func := "euphroe/euphroelaw18.PacketParses", spec := "packetParses", unfollowed := true, recurses := true, apart := false, narrowed := true }
def PacketParsesUptoSaid : Prop := packetParsesUptoRow.holds Try.pinned (OpenSpec.upto packetParsesSpec)

/-- 'euphroelaw18.PacketBack', WHERE WHAT IT READS IS OF BULK AT MOST 1048576: true; the input reads as it did. -/
def packetBackUptoRow : OpenClaim := { program := "ytdaminjbockmbaa", sum := "a15f19661fe50db1b84c030e03d64635a2320cc4b2f159ff4148129a0116fcf4", func := "euphroe/euphroelaw18.PacketBack", spec := "packetBack", unfollowed := true, recurses := true, apart := false, narrowed := true }
def PacketBackUptoSaid : Prop := packetBackUptoRow.holds Try.pinned (OpenSpec.upto packetBackSpec)

/-- 'euphroelaw18.PacketMakes', WHERE WHAT IT READS IS OF BULK AT MOST 1048576: true; the input reads as it did. -/
def packetMakesUptoRow : OpenClaim := { program := "ytdaminjbockmbaa", sum := "a15f19661fe50db1b84c030e03d64635a2320cc4b2f159ff4148129a0116fcf4", func := "euphroe/euphroelaw18.PacketMakes", spec := "packetMakes", unfollowed := true, recurses := true, apart := false, narrowed := true }
def PacketMakesUptoSaid : Prop := packetMakesUptoRow.holds Try.pinned (OpenSpec.upto packetMakesSpec)

/-- 'euphroelaw18.PacketLength', WHERE WHAT IT READS IS OF BULK AT MOST 1048576: true; the input reads as it did. -/
def packetLengthUptoRow : OpenClaim := { program := "ytdaminjbockmbaa", sum := "a15f19661fe50db1b84c030e03d64635a2320cc4b2f159ff4148129a0116fcf4", func := "euphroe/euphroelaw18.PacketLength", spec := "packetLength", unfollowed := true, recurses := true, apart := false, narrowed := true }
def PacketLengthUptoSaid : Prop := packetLengthUptoRow.holds Try.pinned (OpenSpec.upto packetLengthSpec)

/-- 'euphroelaw22.CtlLays', WHERE WHAT IT READS IS OF BULK AT MOST 1048576: true; the input reads as it did. -/
def ctlLaysUptoRow : OpenClaim := { program := "ytdaminjbockmbaa", sum := "a15f19661fe50db1b84c030e03d64635a2320cc4b2f159ff4148129a0116fcf4", func := "euphroe/euphroelaw22.CtlLays", spec := "ctlLays", apart := false, narrowed := true }
def CtlLaysUptoSaid : Prop := ctlLaysUptoRow.holds Try.pinned (OpenSpec.upto ctlLaysSpec)

/-- 'euphroelaw22.CtlOptions', WHERE WHAT IT READS IS OF BULK AT MOST 1048576: true; the input reads as it did. -/
def ctlOptionsUptoRow : OpenClaim := { program := "ytdaminjbockmbaa", sum := "a15f19661fe50db1b84c030e03d64635a2320cc4b2f159ff4148129a0116fcf4", func := "euphroe/euphroelaw22.CtlOptions", spec := "ctlOptions", unfollowed := true, recurses := true, apart := false, narrowed := true }
def CtlOptionsUptoSaid : Prop := ctlOptionsUptoRow.holds Try.pinned (OpenSpec.upto ctlOptionsSpec)

/-- 'euphroelaw22.CtlRejects', WHERE WHAT IT READS IS OF BULK AT MOST 1048576: true; the input reads as it did. -/
def ctlRejectsUptoRow : OpenClaim := { program := "ytdaminjbockmbaa", sum := "a15f19661fe50db1b84c030e03d64635a2320cc4b2f159ff4148129a0116fcf4", func := "euphroe/euphroelaw22.CtlRejects", spec := "ctlRejects", apart := false, narrowed := true }
def CtlRejectsUptoSaid : Prop := ctlRejectsUptoRow.holds Try.pinned (OpenSpec.upto ctlRejectsSpec)

/-- 'euphroelaw17.AttrMakes', WHERE WHAT IT READS IS OF BULK AT MOST 1048576: true; the input reads as it did. -/
def attrMakesUptoRow : OpenClaim := { program := "ytdaminjbockmbaa", sum := "a15f19661fe50db1b84c030e03d64635a2320cc4b2f159ff4148129a0116fcf4", func := "euphroe/euphroelaw17.AttrMakes", spec := "attrMakes", apart := false, narrowed := true }
def AttrMakesUptoSaid : Prop := attrMakesUptoRow.holds Try.pinned (OpenSpec.upto attrMakesSpec)

/-- 'euphroelaw25.LcpoFine', WHERE WHAT IT READS IS OF BULK AT MOST 1048576: true; the input reads as it did. -/
def lcpoFineUptoRow : OpenClaim := { program := "ytdaminjbockmbaa", sum := "a15f19661fe50db1b84c030e03d64635a2320cc4b2f159ff4148129a0116fcf4", func := "euphroe/euphroelaw25.LcpoFine", spec := "lcpoFine", unfollowed := true, recurses := true, apart := false, narrowed := true }
def LcpoFineUptoSaid : Prop := lcpoFineUptoRow.holds Try.pinned (OpenSpec.upto lcpoFineSpec)

end Rows
end Go.Proofs.Ytdaminjbockmbaa
