/-
  No cell of these rows narrows 'for every input' (looked for: loops, veiled, ifaces, maps, wideKeys, modest, calm, conditions, laid).
  DERIVED. THE GIVEN ROWS OF THIS SEAT. 11 by the template 'for every input the law returns true; each argument reads behind the call as it read before'; 0 by the template 'total and deterministic' (their statements: YtnengmhepjmdcaaTotals.lean).
  GIVEN WITH THE SEED: the statements are not yours to turn. If you find one false, say at which input.
  Laid BY PROGRAM, IN A SANDBOX (cutbox-rows.mjs): the forced cells as the released guide's own fill.sh prints them over the translation ba819f4f5f0887b8… (all of the seat's roots in one cut). By AI agents, Wed Nov 11 2026. No macro, syntax, notation, axiom, sorry.
-/
import Derived.Test.YtnengmhepjmdcaaChecked
import GoSem.Claim
import GoSem.ClaimJoined
import GoSem.ClaimMapViews
import Derived.JoinedTies
import Derived.KernelRfl
namespace Go.Proofs.Ytnengmhepjmdcaa
/- THE CELL 'sum', in the pinned program and in every row, IS THE sha256 OF THE DUMP (.gsa) THAT YtnengmhepjmdcaaProg.lean LOADS. Nothing in Lean hashes anything: it is a label: what it is worth is what the hold of that sum in a sandbox is worth. -/
noncomputable def Try.pinned : Pinned := { name := "ytnengmhepjmdcaa", sum := "ba819f4f5f0887b8186d8e469785a894162889c892094ec417a35a25be3d7a3c", checked := Try.checked }
namespace Rows
def none {H : Type} : Left H := { results := [], args := [] }

/-- 'euphroelaw24.RetryOnce': WHATEVER THE INPUT: true; the input reads as it did. -/
def retryOnceSpec : ChangeSpec := { name := "retryOnce", fn := fun _ => fun
  | [d1, d2] => { results := [.lit (.bool true)], args := [d1, d2] }
  | _ => none }
def retryOnceRow : OpenClaim := { program := "ytnengmhepjmdcaa", sum := "ba819f4f5f0887b8186d8e469785a894162889c892094ec417a35a25be3d7a3c", func := "euphroe/euphroelaw24.RetryOnce", spec := "retryOnce", apart := false }
def RetryOnceSaid : Prop := retryOnceRow.holds Try.pinned (OpenSpec.ofChange retryOnceSpec)

/-- ITS FALSE NEIGHBOUR: 'it returns false'. Refute it at one input. -/
def retryOnceWrong : ChangeSpec := { name := "retryOnce", fn := fun _ => fun
  | [d1, d2] => { results := [.lit (.bool false)], args := [d1, d2] }
  | _ => none }
def RetryOnceWrongFalsely : Prop := retryOnceRow.holds Try.pinned (OpenSpec.ofChange retryOnceWrong)

/-- 'euphroelaw24.RetryCounts': WHATEVER THE INPUT: true; the input reads as it did. -/
def retryCountsSpec : ChangeSpec := { name := "retryCounts", fn := fun _ => fun
  | [d1, d2] => { results := [.lit (.bool true)], args := [d1, d2] }
  | _ => none }
def retryCountsRow : OpenClaim := { program := "ytnengmhepjmdcaa", sum := "ba819f4f5f0887b8186d8e469785a894162889c892094ec417a35a25be3d7a3c", func := "euphroe/euphroelaw24.RetryCounts", spec := "retryCounts", apart := false }
def RetryCountsSaid : Prop := retryCountsRow.holds Try.pinned (OpenSpec.ofChange retryCountsSpec)

/-- ITS FALSE NEIGHBOUR: 'it returns false'. Refute it at one input. -/
def retryCountsWrong : ChangeSpec := { name := "retryCounts", fn := fun _ => fun
  | [d1, d2] => { results := [.lit (.bool false)], args := [d1, d2] }
  | _ => none }
def RetryCountsWrongFalsely : Prop := retryCountsRow.holds Try.pinned (OpenSpec.ofChange retryCountsWrong)

/-- 'euphroelaw24.RetryMoves': WHATEVER THE INPUT: true; the input reads as it did. -/
def retryMovesSpec : ChangeSpec := { name := "retryMoves", fn := fun _ => fun
  | [d1, d2, d3] => { results := [.lit (.bool true)], args := [d1, d2, d3] }
  | _ => none }
def retryMovesRow : OpenClaim := { program := "ytnengmhepjmdcaa", sum := "ba819f4f5f0887b8186d8e469785a894162889c892094ec417a35a25be3d7a3c", func := "euphroe/euphroelaw24.RetryMoves", spec := "retryMoves", apart := false }
def RetryMovesSaid : Prop := retryMovesRow.holds Try.pinned (OpenSpec.ofChange retryMovesSpec)

/-- ITS FALSE NEIGHBOUR: 'it returns false'. Refute it at one input. -/
def retryMovesWrong : ChangeSpec := { name := "retryMoves", fn := fun _ => fun
  | [d1, d2, d3] => { results := [.lit (.bool false)], args := [d1, d2, d3] }
  | _ => none }
def RetryMovesWrongFalsely : Prop := retryMovesRow.holds Try.pinned (OpenSpec.ofChange retryMovesWrong)

/-- 'euphroelaw23.FsmLayers': WHATEVER THE INPUT: true; the input reads as it did. -/
def fsmLayersSpec : ChangeSpec := { name := "fsmLayers", fn := fun _ => fun
  | [d1, d2] => { results := [.lit (.bool true)], args := [d1, d2] }
  | _ => none }
def fsmLayersRow : OpenClaim := { program := "ytnengmhepjmdcaa", sum := "ba819f4f5f0887b8186d8e469785a894162889c892094ec417a35a25be3d7a3c", func := "euphroe/euphroelaw23.FsmLayers", spec := "fsmLayers", apart := false }
def FsmLayersSaid : Prop := fsmLayersRow.holds Try.pinned (OpenSpec.ofChange fsmLayersSpec)

/-- ITS FALSE NEIGHBOUR: 'it returns false'. Refute it at one input. -/
def fsmLayersWrong : ChangeSpec := { name := "fsmLayers", fn := fun _ => fun
  | [d1, d2] => { results := [.lit (.bool false)], args := [d1, d2] }
  | _ => none }
def FsmLayersWrongFalsely : Prop := fsmLayersRow.holds Try.pinned (OpenSpec.ofChange fsmLayersWrong)

/-- 'euphroelaw23.FsmCloses': WHATEVER THE INPUT: true; the input reads as it did. -/
def fsmClosesSpec : ChangeSpec := { name := "fsmCloses", fn := fun _ => fun
  | [d1, d2] => { results := [.lit (.bool true)], args := [d1, d2] }
  | _ => none }
def fsmClosesRow : OpenClaim := { program := "ytnengmhepjmdcaa", sum := "ba819f4f5f0887b8186d8e469785a894162889c892094ec417a35a25be3d7a3c", func := "euphroe/euphroelaw23.FsmCloses", spec := "fsmCloses", apart := false }
def FsmClosesSaid : Prop := fsmClosesRow.holds Try.pinned (OpenSpec.ofChange fsmClosesSpec)

/-- ITS FALSE NEIGHBOUR: 'it returns false'. Refute it at one input. -/
def fsmClosesWrong : ChangeSpec := { name := "fsmCloses", fn := fun _ => fun
  | [d1, d2] => { results := [.lit (.bool false)], args := [d1, d2] }
  | _ => none }
def FsmClosesWrongFalsely : Prop := fsmClosesRow.holds Try.pinned (OpenSpec.ofChange fsmClosesWrong)

/-- 'euphroelaw23.FsmNext': WHATEVER THE INPUT: true; the input reads as it did. -/
def fsmNextSpec : ChangeSpec := { name := "fsmNext", fn := fun _ => fun
  | [d1, d2] => { results := [.lit (.bool true)], args := [d1, d2] }
  | _ => none }
def fsmNextRow : OpenClaim := { program := "ytnengmhepjmdcaa", sum := "ba819f4f5f0887b8186d8e469785a894162889c892094ec417a35a25be3d7a3c", func := "euphroe/euphroelaw23.FsmNext", spec := "fsmNext", apart := false }
def FsmNextSaid : Prop := fsmNextRow.holds Try.pinned (OpenSpec.ofChange fsmNextSpec)

/-- ITS FALSE NEIGHBOUR: 'it returns false'. Refute it at one input. -/
def fsmNextWrong : ChangeSpec := { name := "fsmNext", fn := fun _ => fun
  | [d1, d2] => { results := [.lit (.bool false)], args := [d1, d2] }
  | _ => none }
def FsmNextWrongFalsely : Prop := fsmNextRow.holds Try.pinned (OpenSpec.ofChange fsmNextWrong)

/-- 'euphroelaw23.FsmRuns': WHATEVER THE INPUT: true; the input reads as it did. -/
def fsmRunsSpec : ChangeSpec := { name := "fsmRuns", fn := fun _ => fun
  | [d1, d2, d3] => { results := [.lit (.bool true)], args := [d1, d2, d3] }
  | _ => none }
def fsmRunsRow : OpenClaim := { program := "ytnengmhepjmdcaa", sum := "ba819f4f5f0887b8186d8e469785a894162889c892094ec417a35a25be3d7a3c", func := "euphroe/euphroelaw23.FsmRuns", spec := "fsmRuns", apart := false }
def FsmRunsSaid : Prop := fsmRunsRow.holds Try.pinned (OpenSpec.ofChange fsmRunsSpec)

/-- ITS FALSE NEIGHBOUR: 'it returns false'. Refute it at one input. -/
def fsmRunsWrong : ChangeSpec := { name := "fsmRuns", fn := fun _ => fun
  | [d1, d2, d3] => { results := [.lit (.bool false)], args := [d1, d2, d3] }
  | _ => none }
def FsmRunsWrongFalsely : Prop := fsmRunsRow.holds Try.pinned (OpenSpec.ofChange fsmRunsWrong)

/-- 'euphroelaw31.PoolAll': WHATEVER THE INPUT: true; the input reads as it did. -/
def poolAllSpec : ChangeSpec := { name := "poolAll", fn := fun _ => fun
  | [d1, d2] => { results := [.lit (.bool true)], args := [d1, d2] }
  | _ => none }
def poolAllRow : OpenClaim := { program := "ytnengmhepjmdcaa", sum := "ba819f4f5f0887b8186d8e469785a894162889c892094ec417a35a25be3d7a3c", func := "euphroe/euphroelaw31.PoolAll", spec := "poolAll", apart := false }
def PoolAllSaid : Prop := poolAllRow.holds Try.pinned (OpenSpec.ofChange poolAllSpec)

/-- ITS FALSE NEIGHBOUR: 'it returns false'. Refute it at one input. -/
def poolAllWrong : ChangeSpec := { name := "poolAll", fn := fun _ => fun
  | [d1, d2] => { results := [.lit (.bool false)], args := [d1, d2] }
  | _ => none }
def PoolAllWrongFalsely : Prop := poolAllRow.holds Try.pinned (OpenSpec.ofChange poolAllWrong)

/-- 'euphroelaw20.PppfShort': WHATEVER THE INPUT: true; the input reads as it did. -/
def pppfShortSpec : ChangeSpec := { name := "pppfShort", fn := fun _ => fun
  | [d] => { results := [.lit (.bool true)], args := [d] }
  | _ => none }
def pppfShortRow : OpenClaim := { program := "ytnengmhepjmdcaa", sum := "ba819f4f5f0887b8186d8e469785a894162889c892094ec417a35a25be3d7a3c", func := "euphroe/euphroelaw20.PppfShort", spec := "pppfShort", apart := false }
def PppfShortSaid : Prop := pppfShortRow.holds Try.pinned (OpenSpec.ofChange pppfShortSpec)

/-- ITS FALSE NEIGHBOUR: 'it returns false'. Refute it at one input. -/
def pppfShortWrong : ChangeSpec := { name := "pppfShort", fn := fun _ => fun
  | [d] => { results := [.lit (.bool false)], args := [d] }
  | _ => none }
def PppfShortWrongFalsely : Prop := pppfShortRow.holds Try.pinned (OpenSpec.ofChange pppfShortWrong)

/-- 'euphroelaw20.PppfLays': WHATEVER THE INPUT: true; the input reads as it did. -/
def pppfLaysSpec : ChangeSpec := { name := "pppfLays", fn := fun _ => fun
  | [d1, d2, d3] => { results := [.lit (.bool true)], args := [d1, d2, d3] }
  | _ => none }
def pppfLaysRow : OpenClaim := { program := "ytnengmhepjmdcaa", sum := "ba819f4f5f0887b8186d8e469785a894162889c892094ec417a35a25be3d7a3c", func := "euphroe/euphroelaw20.PppfLays", spec := "pppfLays", apart := false }
def PppfLaysSaid : Prop := pppfLaysRow.holds Try.pinned (OpenSpec.ofChange pppfLaysSpec)

/-- ITS FALSE NEIGHBOUR: 'it returns false'. Refute it at one input. -/
def pppfLaysWrong : ChangeSpec := { name := "pppfLays", fn := fun _ => fun
  | [d1, d2, d3] => { results := [.lit (.bool false)], args := [d1, d2, d3] }
  | _ => none }
def PppfLaysWrongFalsely : Prop := pppfLaysRow.holds Try.pinned (OpenSpec.ofChange pppfLaysWrong)

/-- 'euphroelaw20.PppfParses': WHATEVER THE INPUT: true; the input reads as it did. -/
def pppfParsesSpec : ChangeSpec := { name := "pppfParses", fn := fun _ => fun
  | [d1, d2] => { results := [.lit (.bool true)], args := [d1, d2] }
  | _ => none }
def pppfParsesRow : OpenClaim := { program := "ytnengmhepjmdcaa", sum := "ba819f4f5f0887b8186d8e469785a894162889c892094ec417a35a25be3d7a3c", func := "euphroe/euphroelaw20.PppfParses", spec := "pppfParses", apart := false }
def PppfParsesSaid : Prop := pppfParsesRow.holds Try.pinned (OpenSpec.ofChange pppfParsesSpec)

/-- ITS FALSE NEIGHBOUR: 'it returns false'. Refute it at one input. -/
def pppfParsesWrong : ChangeSpec := { name := "pppfParses", fn := fun _ => fun
  | [d1, d2] => { results := [.lit (.bool false)], args := [d1, d2] }
  | _ => none }
def PppfParsesWrongFalsely : Prop := pppfParsesRow.holds Try.pinned (OpenSpec.ofChange pppfParsesWrong)

/- THE SECOND FORM. 'bulk': how many values and letters a reading holds, each counted each time it is reached (what is shared counts as often as it is met; a slice's spare places count too). A statement '..UptoSaid' is the law's where the arguments, and the package variables that the reading takes, are together of bulk at most 1048576: NARROWER than '..Said'. Prove '..Said' where nothing that the law and all that it calls make is longer than what came in: it says more and counts as full. Else prove '..UptoSaid'. A law counts once. -/
mutual
def uptoBulk {H : Type} : DataW H → Nat
  | .lit (.string bytes) => bytes.length + 1
  | .lit _ => 1
  | .nil => 1
  | .ptr d => uptoBulk d + 1
  | .slice elems spare => uptoBulkAll elems + uptoBulkAll spare + 1
  | .agg parts => uptoBulkAll parts + 1
  | .iface _ d => uptoBulk d + 1
  | .map entries => uptoBulkEntries entries + 1
  | .held _ => 1
def uptoBulkAll {H : Type} : List (DataW H) → Nat
  | [] => 0
  | d :: r => uptoBulk d + uptoBulkAll r
def uptoBulkEntries {H : Type} : List (Lit × DataW H) → Nat
  | [] => 0
  | x :: r => uptoBulkEntry x + uptoBulkEntries r
def uptoBulkEntry {H : Type} : Lit × DataW H → Nat
  | (.string bytes, d) => bytes.length + uptoBulk d + 1
  | (_, d) => uptoBulk d + 1
 end
def uptoSmall : (H : Type) → List (DataW H) → Bool := fun _ ds => decide (uptoBulkAll ds ≤ 1048576)
def OpenSpec.upto (s : _root_.Go.ChangeSpec) : _root_.Go.OpenSpec := { _root_.Go.OpenSpec.ofChange s with cond := some uptoSmall }

/-- 'euphroelaw24.RetryOnce', WHERE WHAT IT READS IS OF BULK AT MOST 1048576: true; the input reads as it did. -/
def retryOnceUptoRow : OpenClaim := { program := "ytnengmhepjmdcaa", sum := "ba819f4f5f0887b8186d8e469785a894162889c892094ec417a35a25be3d7a3c", func := "euphroe/euphroelaw24.RetryOnce", spec := "retryOnce", apart := false, narrowed := true }
def RetryOnceUptoSaid : Prop := retryOnceUptoRow.holds Try.pinned (OpenSpec.upto retryOnceSpec)

/-- 'euphroelaw24.RetryCounts', WHERE WHAT IT READS IS OF BULK AT MOST 1048576: true; the input reads as it did. -/
def retryCountsUptoRow : OpenClaim := { program := "ytnengmhepjmdcaa", sum := "ba819f4f5f0887b8186d8e469785a894162889c892094ec417a35a25be3d7a3c", func := "euphroe/euphroelaw24.RetryCounts", spec := "retryCounts", apart := false, narrowed := true }
def RetryCountsUptoSaid : Prop := retryCountsUptoRow.holds Try.pinned (OpenSpec.upto retryCountsSpec)

/-- 'euphroelaw24.RetryMoves', WHERE WHAT IT READS IS OF BULK AT MOST 1048576: true; the input reads as it did. -/
def retryMovesUptoRow : OpenClaim := { program := "ytnengmhepjmdcaa", sum := "ba819f4f5f0887b8186d8e469785a894162889c892094ec417a35a25be3d7a3c", func := "euphroe/euphroelaw24.RetryMoves", spec := "retryMoves", apart := false, narrowed := true }
def RetryMovesUptoSaid : Prop := retryMovesUptoRow.holds Try.pinned (OpenSpec.upto retryMovesSpec)

/-- 'euphroelaw23.FsmLayers', WHERE WHAT IT READS IS OF BULK AT MOST 1048576: true; the input reads as it did. -/
def fsmLayersUptoRow : OpenClaim := { program := "ytnengmhepjmdcaa", sum := "ba819f4f5f0887b8186d8e469785a894162889c892094ec417a35a25be3d7a3c", func := "euphroe/euphroelaw23.FsmLayers", spec := "fsmLayers", apart := false, narrowed := true }
def FsmLayersUptoSaid : Prop := fsmLayersUptoRow.holds Try.pinned (OpenSpec.upto fsmLayersSpec)

/-- 'euphroelaw23.FsmCloses', WHERE WHAT IT READS IS OF BULK AT MOST 1048576: true; the input reads as it did. -/
def fsmClosesUptoRow : OpenClaim := { program := "ytnengmhepjmdcaa", sum := "ba819f4f5f0887b8186d8e469785a894162889c892094ec417a35a25be3d7a3c", func := "euphroe/euphroelaw23.FsmCloses", spec := "fsmCloses", apart := false, narrowed := true }
def FsmClosesUptoSaid : Prop := fsmClosesUptoRow.holds Try.pinned (OpenSpec.upto fsmClosesSpec)

/-- 'euphroelaw23.FsmNext', WHERE WHAT IT READS IS OF BULK AT MOST 1048576: true; the input reads as it did. -/
def fsmNextUptoRow : OpenClaim := { program := "ytnengmhepjmdcaa", sum := "ba819f4f5f0887b8186d8e469785a894162889c892094ec417a35a25be3d7a3c", func := "euphroe/euphroelaw23.FsmNext", spec := "fsmNext", apart := false, narrowed := true }
def FsmNextUptoSaid : Prop := fsmNextUptoRow.holds Try.pinned (OpenSpec.upto fsmNextSpec)

/-- 'euphroelaw23.FsmRuns', WHERE WHAT IT READS IS OF BULK AT MOST 1048576: true; the input reads as it did. -/
def fsmRunsUptoRow : OpenClaim := { program := "ytnengmhepjmdcaa", sum := "ba819f4f5f0887b8186d8e469785a894162889c892094ec417a35a25be3d7a3c", func := "euphroe/euphroelaw23.FsmRuns", spec := "fsmRuns", apart := false, narrowed := true }
def FsmRunsUptoSaid : Prop := fsmRunsUptoRow.holds Try.pinned (OpenSpec.upto fsmRunsSpec)

/-- 'euphroelaw31.PoolAll', WHERE WHAT IT READS IS OF BULK AT MOST 1048576: true; the input reads as it did. -/
def poolAllUptoRow : OpenClaim := { program := "ytnengmhepjmdcaa", sum := "ba819f4f5f0887b8186d8e469785a894162889c892094ec417a35a25be3d7a3c", func := "euphroe/euphroelaw31.PoolAll", spec := "poolAll", apart := false, narrowed := true }
def PoolAllUptoSaid : Prop := poolAllUptoRow.holds Try.pinned (OpenSpec.upto poolAllSpec)

/-- 'euphroelaw20.PppfShort', WHERE WHAT IT READS IS OF BULK AT MOST 1048576: true; the input reads as it did. -/
def pppfShortUptoRow : OpenClaim := { program := "ytnengmhepjmdcaa", sum := "ba819f4f5f0887b8186d8e469785a894162889c892094ec417a35a25be3d7a3c", func := "euphroe/euphroelaw20.PppfShort", spec := "pppfShort", apart := false, narrowed := true }
def PppfShortUptoSaid : Prop := pppfShortUptoRow.holds Try.pinned (OpenSpec.upto pppfShortSpec)

/-- 'euphroelaw20.PppfLays', WHERE WHAT IT READS IS OF BULK AT MOST 1048576: true; the input reads as it did. -/
def pppfLaysUptoRow : OpenClaim := { program := "ytnengmhepjmdcaa", sum := "ba819f4f5f0887b8186d8e469785a894162889c892094ec417a35a25be3d7a3c", func := "euphroe/euphroelaw20.PppfLays", spec := "pppfLays", apart := false, narrowed := true }
def PppfLaysUptoSaid : Prop := pppfLaysUptoRow.holds Try.pinned (OpenSpec.upto pppfLaysSpec)

/-- 'euphroelaw20.PppfParses', WHERE WHAT IT READS IS OF BULK AT MOST 1048576: true; the input reads as it did. -/
def pppfParsesUptoRow : OpenClaim := { program := "ytnengmhepjmdcaa", sum := "ba819f4f5f0887b8186d8e469785a894162889c892094ec417a35a25be3d7a3c", func := "euphroe/euphroelaw20.PppfParses", spec := "pppfParses", apart := false, narrowed := true }
def PppfParsesUptoSaid : Prop := pppfParsesUptoRow.holds Try.pinned (OpenSpec.upto pppfParsesSpec)

end Rows
end Go.Proofs.Ytnengmhepjmdcaa
