/-
  No cell of these rows narrows 'for every input' (looked for: loops, veiled, ifaces, maps, wideKeys, modest, calm, conditions, laid).
  DERIVED. THE GIVEN ROWS OF THIS SEAT. 11 by the template 'for every input the law returns true; each argument reads behind the call as it read before'; 0 by the template 'total and deterministic' (their statements: YtpdmmjbgidjhdaaTotals.lean).
  GIVEN WITH THE SEED: the statements are not yours to turn. If you find one false, say at which input.
  Laid BY PROGRAM, IN A SANDBOX (cutbox-rows.mjs): the forced cells as the released guide's own fill.sh prints them over the translation 932c908e8225230c… (all of the seat's roots in one cut). By AI agents, Wed Nov 11 2026. No macro, syntax, notation, axiom, sorry.
-/
import Derived.Test.YtpdmmjbgidjhdaaChecked
import GoSem.Claim
import GoSem.ClaimJoined
import GoSem.ClaimMapViews
import Derived.JoinedTies
import Derived.KernelRfl
namespace Go.Proofs.Ytpdmmjbgidjhdaa
/- THE CELL 'sum', in the pinned program and in every row, IS THE sha256 OF THE DUMP (.gsa) THAT YtpdmmjbgidjhdaaProg.lean LOADS. Nothing in Lean hashes anything: it is a label: what it is worth is what the hold of that sum in a sandbox is worth. -/
noncomputable def Try.pinned : Pinned := { name := "ytpdmmjbgidjhdaa", sum := "932c908e8225230c7ac4d6a5df6dac1f451df56c6ee4b1c7c920fb857e29a311", checked := Try.checked }
namespace Rows
def none {H : Type} : Left H := { results := [], args := [] }

/-- 'euphroelaw21.OptsLays': WHATEVER THE INPUT: true; the input reads as it did. -/
def optsLaysSpec : ChangeSpec := { name := "optsLays", fn := fun _ => fun
  | [d1, d2] => { results := [.lit (.bool true)], args := [d1, d2] }
  | _ => none }
def optsLaysRow : OpenClaim := { program := "ytpdmmjbgidjhdaa", sum := "932c908e8225230c7ac4d6a5df6dac1f451df56c6ee4b1c7c920fb857e29a311", func := "euphroe/euphroelaw21.OptsLays", spec := "optsLays", unfollowed := true, recurses := true, apart := false }
def OptsLaysSaid : Prop := optsLaysRow.holds Try.pinned (OpenSpec.ofChange optsLaysSpec)

/-- ITS FALSE NEIGHBOUR: 'it returns false'. Refute it at one input. -/
def optsLaysWrong : ChangeSpec := { name := "optsLays", fn := fun _ => fun
  | [d1, d2] => { results := [.lit (.bool false)], args := [d1, d2] }
  | _ => none }
def OptsLaysWrongFalsely : Prop := optsLaysRow.holds Try.pinned (OpenSpec.ofChange optsLaysWrong)

/-- 'euphroelaw21.OptsAsks': WHATEVER THE INPUT: true; the input reads as it did. -/
def optsAsksSpec : ChangeSpec := { name := "optsAsks", fn := fun _ => fun
  | [d1, d2, d3] => { results := [.lit (.bool true)], args := [d1, d2, d3] }
  | _ => none }
def optsAsksRow : OpenClaim := { program := "ytpdmmjbgidjhdaa", sum := "932c908e8225230c7ac4d6a5df6dac1f451df56c6ee4b1c7c920fb857e29a311", func := "euphroe/euphroelaw21.OptsAsks", spec := "optsAsks", unfollowed := true, recurses := true, apart := false }
def OptsAsksSaid : Prop := optsAsksRow.holds Try.pinned (OpenSpec.ofChange optsAsksSpec)

/-- ITS FALSE NEIGHBOUR: 'it returns false'. Refute it at one input. -/
def optsAsksWrong : ChangeSpec := { name := "optsAsks", fn := fun _ => fun
  | [d1, d2, d3] => { results := [.lit (.bool false)], args := [d1, d2, d3] }
  | _ => none }
def OptsAsksWrongFalsely : Prop := optsAsksRow.holds Try.pinned (OpenSpec.ofChange optsAsksWrong)

/-- 'euphroelaw23.FsmNext': WHATEVER THE INPUT: true; the input reads as it did. -/
def fsmNextSpec : ChangeSpec := { name := "fsmNext", fn := fun _ => fun
  | [d1, d2] => { results := [.lit (.bool true)], args := [d1, d2] }
  | _ => none }
def fsmNextRow : OpenClaim := { program := "ytpdmmjbgidjhdaa", sum := "932c908e8225230c7ac4d6a5df6dac1f451df56c6ee4b1c7c920fb857e29a311", func := "euphroe/euphroelaw23.FsmNext", spec := "fsmNext", apart := false }
def FsmNextSaid : Prop := fsmNextRow.holds Try.pinned (OpenSpec.ofChange fsmNextSpec)

/-- ITS FALSE NEIGHBOUR: 'it returns false'. Refute it at one input. -/
def fsmNextWrong : ChangeSpec := { name := "fsmNext", fn := fun _ => fun
  | [d1, d2] => { results := [.lit (.bool false)], args := [d1, d2] }
  | _ => none }
def FsmNextWrongFalsely : Prop := fsmNextRow.holds Try.pinned (OpenSpec.ofChange fsmNextWrong)

/-- 'euphroelaw23.FsmRuns': WHATEVER THE INPUT: true; the input reads as it did. -/
def fsmRunsSpec : ChangeSpec := { name := "fsmRuns", fn := fun _ => fun
  | [d1, d2, d3] => { results := [.lit (.bool true)], args := [d1, d2, d3] }
  | _ => none }
def fsmRunsRow : OpenClaim := { program := "ytpdmmjbgidjhdaa", sum := "932c908e8225230c7ac4d6a5df6dac1f451df56c6ee4b1c7c920fb857e29a311", func := "euphroe/euphroelaw23.FsmRuns", spec := "fsmRuns", apart := false }
def FsmRunsSaid : Prop := fsmRunsRow.holds Try.pinned (OpenSpec.ofChange fsmRunsSpec)

/-- ITS FALSE NEIGHBOUR: 'it returns false'. Refute it at one input. -/
def fsmRunsWrong : ChangeSpec := { name := "fsmRuns", fn := fun _ => fun
  | [d1, d2, d3] => { results := [.lit (.bool false)], args := [d1, d2, d3] }
  | _ => none }
def FsmRunsWrongFalsely : Prop := fsmRunsRow.holds Try.pinned (OpenSpec.ofChange fsmRunsWrong)

/-- 'euphroelaw23.FsmLayers': WHATEVER THE INPUT: true; the input reads as it did. -/
def fsmLayersSpec : ChangeSpec := { name := "fsmLayers", fn := fun _ => fun
  | [d1, d2] => { results := [.lit (.bool true)], args := [d1, d2] }
  | _ => none }
def fsmLayersRow : OpenClaim := { program := "ytpdmmjbgidjhdaa", sum := "932c908e8225230c7ac4d6a5df6dac1f451df56c6ee4b1c7c920fb857e29a311", func := "euphroe/euphroelaw23.FsmLayers", spec := "fsmLayers", apart := false }
def FsmLayersSaid : Prop := fsmLayersRow.holds Try.pinned (OpenSpec.ofChange fsmLayersSpec)

/-- ITS FALSE NEIGHBOUR: 'it returns false'. Refute it at one input. -/
def fsmLayersWrong : ChangeSpec := { name := "fsmLayers", fn := fun _ => fun
  | [d1, d2] => { results := [.lit (.bool false)], args := [d1, d2] }
  | _ => none }
def FsmLayersWrongFalsely : Prop := fsmLayersRow.holds Try.pinned (OpenSpec.ofChange fsmLayersWrong)

/-- 'euphroelaw23.FsmCloses': WHATEVER THE INPUT: true; the input reads as it did. -/
def fsmClosesSpec : ChangeSpec := { name := "fsmCloses", fn := fun _ => fun
  | [d1, d2] => { results := [.lit (.bool true)], args := [d1, d2] }
  | _ => none }
def fsmClosesRow : OpenClaim := { program := "ytpdmmjbgidjhdaa", sum := "932c908e8225230c7ac4d6a5df6dac1f451df56c6ee4b1c7c920fb857e29a311", func := "euphroe/euphroelaw23.FsmCloses", spec := "fsmCloses", apart := false }
def FsmClosesSaid : Prop := fsmClosesRow.holds Try.pinned (OpenSpec.ofChange fsmClosesSpec)

/-- ITS FALSE NEIGHBOUR: 'it returns false'. Refute it at one input. -/
def fsmClosesWrong : ChangeSpec := { name := "fsmCloses", fn := fun _ => fun
  | [d1, d2] => { results := [.lit (.bool false)], args := [d1, d2] }
  | _ => none }
def FsmClosesWrongFalsely : Prop := fsmClosesRow.holds Try.pinned (OpenSpec.ofChange fsmClosesWrong)

/-- 'euphroelaw31.PoolAll': WHATEVER THE INPUT: true; the input reads as it did. -/
def poolAllSpec : ChangeSpec := { name := "poolAll", fn := fun _ => fun
  | [d1, d2] => { results := [.lit (.bool true)], args := [d1, d2] }
  | _ => none }
def poolAllRow : OpenClaim := { program := "ytpdmmjbgidjhdaa", sum := "932c908e8225230c7ac4d6a5df6dac1f451df56c6ee4b1c7c920fb857e29a311", func := "euphroe/euphroelaw31.PoolAll", spec := "poolAll", apart := false }
def PoolAllSaid : Prop := poolAllRow.holds Try.pinned (OpenSpec.ofChange poolAllSpec)

/-- ITS FALSE NEIGHBOUR: 'it returns false'. Refute it at one input. -/
def poolAllWrong : ChangeSpec := { name := "poolAll", fn := fun _ => fun
  | [d1, d2] => { results := [.lit (.bool false)], args := [d1, d2] }
  | _ => none }
def PoolAllWrongFalsely : Prop := poolAllRow.holds Try.pinned (OpenSpec.ofChange poolAllWrong)

/-- 'euphroelaw38.ChansPlay': WHATEVER THE INPUT: true; the input reads as it did. -/
def chansPlaySpec : ChangeSpec := { name := "chansPlay", fn := fun _ => fun
  | [d] => { results := [.lit (.bool true)], args := [d] }
  | _ => none }
def chansPlayRow : OpenClaim := { program := "ytpdmmjbgidjhdaa", sum := "932c908e8225230c7ac4d6a5df6dac1f451df56c6ee4b1c7c920fb857e29a311", func := "euphroe/euphroelaw38.ChansPlay", spec := "chansPlay", apart := false }
def ChansPlaySaid : Prop := chansPlayRow.holds Try.pinned (OpenSpec.ofChange chansPlaySpec)

/-- ITS FALSE NEIGHBOUR: 'it returns false'. Refute it at one input. -/
def chansPlayWrong : ChangeSpec := { name := "chansPlay", fn := fun _ => fun
  | [d] => { results := [.lit (.bool false)], args := [d] }
  | _ => none }
def ChansPlayWrongFalsely : Prop := chansPlayRow.holds Try.pinned (OpenSpec.ofChange chansPlayWrong)

/-- 'euphroelaw38.ChansOrder': WHATEVER THE INPUT: true; the input reads as it did. -/
def chansOrderSpec : ChangeSpec := { name := "chansOrder", fn := fun _ => fun
  | [d1, d2] => { results := [.lit (.bool true)], args := [d1, d2] }
  | _ => none }
def chansOrderRow : OpenClaim := { program := "ytpdmmjbgidjhdaa", sum := "932c908e8225230c7ac4d6a5df6dac1f451df56c6ee4b1c7c920fb857e29a311", func := "euphroe/euphroelaw38.ChansOrder", spec := "chansOrder", apart := false }
def ChansOrderSaid : Prop := chansOrderRow.holds Try.pinned (OpenSpec.ofChange chansOrderSpec)

/-- ITS FALSE NEIGHBOUR: 'it returns false'. Refute it at one input. -/
def chansOrderWrong : ChangeSpec := { name := "chansOrder", fn := fun _ => fun
  | [d1, d2] => { results := [.lit (.bool false)], args := [d1, d2] }
  | _ => none }
def ChansOrderWrongFalsely : Prop := chansOrderRow.holds Try.pinned (OpenSpec.ofChange chansOrderWrong)

/-- 'euphroelaw38.ChansNobody': WHATEVER THE INPUT: true; the input reads as it did. -/
def chansNobodySpec : ChangeSpec := { name := "chansNobody", fn := fun _ => fun
  | [d1, d2, d3] => { results := [.lit (.bool true)], args := [d1, d2, d3] }
  | _ => none }
def chansNobodyRow : OpenClaim := { program := "ytpdmmjbgidjhdaa", sum := "932c908e8225230c7ac4d6a5df6dac1f451df56c6ee4b1c7c920fb857e29a311", func := "euphroe/euphroelaw38.ChansNobody", spec := "chansNobody", apart := false }
def ChansNobodySaid : Prop := chansNobodyRow.holds Try.pinned (OpenSpec.ofChange chansNobodySpec)

/-- ITS FALSE NEIGHBOUR: 'it returns false'. Refute it at one input. -/
def chansNobodyWrong : ChangeSpec := { name := "chansNobody", fn := fun _ => fun
  | [d1, d2, d3] => { results := [.lit (.bool false)], args := [d1, d2, d3] }
  | _ => none }
def ChansNobodyWrongFalsely : Prop := chansNobodyRow.holds Try.pinned (OpenSpec.ofChange chansNobodyWrong)

/-- 'euphroelaw38.ChansRelays': WHATEVER THE INPUT: true; the input reads as it did. -/
def chansRelaysSpec : ChangeSpec := { name := "chansRelays", fn := fun _ => fun
  | [d1, d2, d3] => { results := [.lit (.bool true)], args := [d1, d2, d3] }
  | _ => none }
def chansRelaysRow : OpenClaim := { program := "ytpdmmjbgidjhdaa", sum := "932c908e8225230c7ac4d6a5df6dac1f451df56c6ee4b1c7c920fb857e29a311", func := "euphroe/euphroelaw38.ChansRelays", spec := "chansRelays", apart := false }
def ChansRelaysSaid : Prop := chansRelaysRow.holds Try.pinned (OpenSpec.ofChange chansRelaysSpec)

/-- ITS FALSE NEIGHBOUR: 'it returns false'. Refute it at one input. -/
def chansRelaysWrong : ChangeSpec := { name := "chansRelays", fn := fun _ => fun
  | [d1, d2, d3] => { results := [.lit (.bool false)], args := [d1, d2, d3] }
  | _ => none }
def ChansRelaysWrongFalsely : Prop := chansRelaysRow.holds Try.pinned (OpenSpec.ofChange chansRelaysWrong)

/- THE SECOND FORM. 'bulk': how many values and letters a reading holds, each counted each time it is reached (what is shared counts as often as it is met; a slice's spare places count too). A statement '..UptoSaid' is the law's where the arguments, and the package variables that the reading takes, are together of bulk at most 1048576: NARROWER than '..Said'. Prove '..Said' where nothing that the law and all that it calls make is longer than what came in: it says more and counts as full. Else prove '..UptoSaid'. A law counts once. -/
mutual
def uptoBulk {H : Type} : DataW H → Nat
  | .lit (.string bytes) => bytes.length + 1
  | .lit _ => 1
  | .nil => 1
  | .ptr d => uptoBulk d + 1
  | .slice elems spare => uptoBulkAll elems + uptoBulkAll spare + 1
  | .agg parts => uptoBulkAll parts + 1
  | .iface _ d => uptoBulk d + 1
  | .map entries => uptoBulkEntries entries + 1
  | .held _ => 1
def uptoBulkAll {H : Type} : List (DataW H) → Nat
  | [] => 0
  | d :: r => uptoBulk d + uptoBulkAll r
def uptoBulkEntries {H : Type} : List (Lit × DataW H) → Nat
  | [] => 0
  | x :: r => uptoBulkEntry x + uptoBulkEntries r
def uptoBulkEntry {H : Type} : Lit × DataW H → Nat
  | (.string bytes, d) => bytes.length + uptoBulk d + 1
  | (_, d) => uptoBulk d + 1
 end
def uptoSmall : (H : Type) → List (DataW H) → Bool := fun _ ds => decide (uptoBulkAll ds ≤ 1048576)
def OpenSpec.upto (s : _root_.Go.ChangeSpec) : _root_.Go.OpenSpec := { _root_.Go.OpenSpec.ofChange s with cond := some uptoSmall }

/-- 'euphroelaw21.OptsLays', WHERE WHAT IT READS IS OF BULK AT MOST 1048576: true; the input reads as it did. -/
def optsLaysUptoRow : OpenClaim := { program := "ytpdmmjbgidjhdaa", sum := "932c908e8225230c7ac4d6a5df6dac1f451df56c6ee4b1c7c920fb857e29a311", func := "euphroe/euphroelaw21.OptsLays", spec := "optsLays", unfollowed := true, recurses := true, apart := false, narrowed := true }
def OptsLaysUptoSaid : Prop := optsLaysUptoRow.holds Try.pinned (OpenSpec.upto optsLaysSpec)

/-- 'euphroelaw21.OptsAsks', WHERE WHAT IT READS IS OF BULK AT MOST 1048576: true; the input reads as it did. -/
def optsAsksUptoRow : OpenClaim := { program := "ytpdmmjbgidjhdaa", sum := "932c908e8225230c7ac4d6a5df6dac1f451df56c6ee4b1c7c920fb857e29a311", func := "euphroe/euphroelaw21.OptsAsks", spec := "optsAsks", unfollowed := true, recurses := true, apart := false, narrowed := true }
def OptsAsksUptoSaid : Prop := optsAsksUptoRow.holds Try.pinned (OpenSpec.upto optsAsksSpec)

/-- 'euphroelaw23.FsmNext', WHERE WHAT IT READS IS OF BULK AT MOST 1048576: true; the input reads as it did. -/
def fsmNextUptoRow : OpenClaim := { program := "ytpdmmjbgidjhdaa", sum := "932c908e8225230c7ac4d6a5df6dac1f451df56c6ee4b1c7c920fb857e29a311", func := "euphroe/euphroelaw23.FsmNext", spec := "fsmNext", apart := false, narrowed := true }
def FsmNextUptoSaid : Prop := fsmNextUptoRow.holds Try.pinned (OpenSpec.upto fsmNextSpec)

/-- 'euphroelaw23.FsmRuns', WHERE WHAT IT READS IS OF BULK AT MOST 1048576: true; the input reads as it did. -/
def fsmRunsUptoRow : OpenClaim := { program := "ytpdmmjbgidjhdaa", sum := "932c908e8225230c7ac4d6a5df6dac1f451df56c6ee4b1c7c920fb857e29a311", func := "euphroe/euphroelaw23.FsmRuns", spec := "fsmRuns", apart := false, narrowed := true }
def FsmRunsUptoSaid : Prop := fsmRunsUptoRow.holds Try.pinned (OpenSpec.upto fsmRunsSpec)

/-- 'euphroelaw23.FsmLayers', WHERE WHAT IT READS IS OF BULK AT MOST 1048576: true; the input reads as it did. -/
def fsmLayersUptoRow : OpenClaim := { program := "ytpdmmjbgidjhdaa", sum := "932c908e8225230c7ac4d6a5df6dac1f451df56c6ee4b1c7c920fb857e29a311", func := "euphroe/euphroelaw23.FsmLayers", spec := "fsmLayers", apart := false, narrowed := true }
def FsmLayersUptoSaid : Prop := fsmLayersUptoRow.holds Try.pinned (OpenSpec.upto fsmLayersSpec)

/-- 'euphroelaw23.FsmCloses', WHERE WHAT IT READS IS OF BULK AT MOST 1048576: true; the input reads as it did. -/
def fsmClosesUptoRow : OpenClaim := { program := "ytpdmmjbgidjhdaa", sum := "932c908e8225230c7ac4d6a5df6dac1f451df56c6ee4b1c7c920fb857e29a311", func := "euphroe/euphroelaw23.FsmCloses", spec := "fsmCloses", apart := false, narrowed := true }
def FsmClosesUptoSaid : Prop := fsmClosesUptoRow.holds Try.pinned (OpenSpec.upto fsmClosesSpec)

/-- 'euphroelaw31.PoolAll', WHERE WHAT IT READS IS OF BULK AT MOST 1048576: true; the input reads as it did. -/
def poolAllUptoRow : OpenClaim := { program := "ytpdmmjbgidjhdaa", sum := "932c908e8225230c7ac4d6a5df6dac1f451df56c6ee4b1c7c920fb857e29a311", func := "euphroe/euphroelaw31.PoolAll", spec := "poolAll", apart := false, narrowed := true }
def PoolAllUptoSaid : Prop := poolAllUptoRow.holds Try.pinned (OpenSpec.upto poolAllSpec)

/-- 'euphroelaw38.ChansPlay', WHERE WHAT IT READS IS OF BULK AT MOST 1048576: true; the input reads as it did. -/
def chansPlayUptoRow : OpenClaim := { program := "ytpdmmjbgidjhdaa", sum := "932c908e8225230c7ac4d6a5df6dac1f451df56c6ee4b1c7c920fb857e29a311", func := "euphroe/euphroelaw38.ChansPlay", spec := "chansPlay", apart := false, narrowed := true }
def ChansPlayUptoSaid : Prop := chansPlayUptoRow.holds Try.pinned (OpenSpec.upto chansPlaySpec)

/-- 'euphroelaw38.ChansOrder', WHERE WHAT IT READS IS OF BULK AT MOST 1048576: true; the input reads as it did. -/
def chansOrderUptoRow : OpenClaim := { program := "ytpdmmjbgidjhdaa", sum := "932c908e8225230c7ac4d6a5df6dac1f451df56c6ee4b1c7c920fb857e29a311", func := "euphroe/euphroelaw38.ChansOrder", spec := "chansOrder", apart := false, narrowed := true }
def ChansOrderUptoSaid : Prop := chansOrderUptoRow.holds Try.pinned (OpenSpec.upto chansOrderSpec)

/-- 'euphroelaw38.ChansNobody', WHERE WHAT IT READS IS OF BULK AT MOST 1048576: true; the input reads as it did. -/
def chansNobodyUptoRow : OpenClaim := { program := "ytpdmmjbgidjhdaa", sum := "932c908e8225230c7ac4d6a5df6dac1f451df56c6ee4b1c7c920fb857e29a311", func := "euphroe/euphroelaw38.ChansNobody", spec := "chansNobody", apart := false, narrowed := true }
def ChansNobodyUptoSaid : Prop := chansNobodyUptoRow.holds Try.pinned (OpenSpec.upto chansNobodySpec)

/-- 'euphroelaw38.ChansRelays', WHERE WHAT IT READS IS OF BULK AT MOST 1048576: true; the input reads as it did. -/
def chansRelaysUptoRow : OpenClaim := { program := "ytpdmmjbgidjhdaa", sum := "932c908e8225230c7ac4d6a5df6dac1f451df56c6ee4b1c7c920fb857e29a311", func := "euphroe/euphroelaw38.ChansRelays", spec := "chansRelays", apart := false, narrowed := true }
def ChansRelaysUptoSaid : Prop := chansRelaysUptoRow.holds Try.pinned (OpenSpec.upto chansRelaysSpec)

end Rows
end Go.Proofs.Ytpdmmjbgidjhdaa
