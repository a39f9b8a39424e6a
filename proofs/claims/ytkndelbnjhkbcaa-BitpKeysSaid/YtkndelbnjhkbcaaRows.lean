/-
  No cell of these rows narrows 'for every input' (looked for: loops, veiled, ifaces, maps, wideKeys, modest, calm, conditions, laid).
  DERIVED. THE GIVEN ROWS OF THIS SEAT. 8 by the template 'for every input the law returns true; each argument reads behind the call as it read before'; 0 by the template 'total and deterministic' (their statements: YtkndelbnjhkbcaaTotals.lean).
  GIVEN WITH THE SEED: the statements are not yours to turn. If you find one false, say at which input.
  Laid BY PROGRAM, IN A SANDBOX (cutbox-rows.mjs): the forced cells as the released guide's own fill.sh prints them over the translation e9f5b2589ad4bd3a… (all of the seat's roots in one cut). By AI agents, Wed Nov 11 2026. No macro, syntax, notation, axiom, sorry.
-/
import Derived.Test.YtkndelbnjhkbcaaChecked
import GoSem.Claim
import GoSem.ClaimJoined
import GoSem.ClaimMapViews
import Derived.JoinedTies
import Derived.KernelRfl
namespace Go.Proofs.Ytkndelbnjhkbcaa
/- THE CELL 'sum', in the pinned program and in every row, IS THE sha256 OF THE DUMP (.gsa) THAT YtkndelbnjhkbcaaProg.lean LOADS. Nothing in Lean hashes anything: it is a label: what it is worth is what the hold of that sum in a sandbox is worth. -/
noncomputable def Try.pinned : Pinned := { name := "ytkndelbnjhkbcaa", sum := "e9f5b2589ad4bd3a63f8d3e33981c5662f3ceac06457db23a35f21674e8e37eb", checked := Try.checked }
namespace Rows
def none {H : Type} : Left H := { results := [], args := [] }

/-- 'euphroelaw02.RootsAre': WHATEVER THE INPUT: true; the input reads as it did. -/
def rootsAreSpec : ChangeSpec := { name := "rootsAre", fn := fun _ => fun
  | [d1, d2, d3] => { results := [.lit (.bool true)], args := [d1, d2, d3] }
  | _ => none }
def rootsAreRow : OpenClaim := { program := "ytkndelbnjhkbcaa", sum := "e9f5b2589ad4bd3a63f8d3e33981c5662f3ceac06457db23a35f21674e8e37eb", func := "euphroe/euphroelaw02.RootsAre", spec := "rootsAre", apart := false }
def RootsAreSaid : Prop := rootsAreRow.holds Try.pinned (OpenSpec.ofChange rootsAreSpec)

/-- ITS FALSE NEIGHBOUR: 'it returns false'. Refute it at one input. -/
def rootsAreWrong : ChangeSpec := { name := "rootsAre", fn := fun _ => fun
  | [d1, d2, d3] => { results := [.lit (.bool false)], args := [d1, d2, d3] }
  | _ => none }
def RootsAreWrongFalsely : Prop := rootsAreRow.holds Try.pinned (OpenSpec.ofChange rootsAreWrong)

/-- 'euphroelaw02.RootsPrimes': WHATEVER THE INPUT: true; the input reads as it did. -/
def rootsPrimesSpec : ChangeSpec := { name := "rootsPrimes", fn := fun _ => fun
  | [d1, d2] => { results := [.lit (.bool true)], args := [d1, d2] }
  | _ => none }
def rootsPrimesRow : OpenClaim := { program := "ytkndelbnjhkbcaa", sum := "e9f5b2589ad4bd3a63f8d3e33981c5662f3ceac06457db23a35f21674e8e37eb", func := "euphroe/euphroelaw02.RootsPrimes", spec := "rootsPrimes", apart := false }
def RootsPrimesSaid : Prop := rootsPrimesRow.holds Try.pinned (OpenSpec.ofChange rootsPrimesSpec)

/-- ITS FALSE NEIGHBOUR: 'it returns false'. Refute it at one input. -/
def rootsPrimesWrong : ChangeSpec := { name := "rootsPrimes", fn := fun _ => fun
  | [d1, d2] => { results := [.lit (.bool false)], args := [d1, d2] }
  | _ => none }
def RootsPrimesWrongFalsely : Prop := rootsPrimesRow.holds Try.pinned (OpenSpec.ofChange rootsPrimesWrong)

/-- 'euphroelaw02.RootsRise': WHATEVER THE INPUT: true; the input reads as it did. -/
def rootsRiseSpec : ChangeSpec := { name := "rootsRise", fn := fun _ => fun
  | [d1, d2, d3] => { results := [.lit (.bool true)], args := [d1, d2, d3] }
  | _ => none }
def rootsRiseRow : OpenClaim := { program := "ytkndelbnjhkbcaa", sum := "e9f5b2589ad4bd3a63f8d3e33981c5662f3ceac06457db23a35f21674e8e37eb", func := "euphroe/euphroelaw02.RootsRise", spec := "rootsRise", apart := false }
def RootsRiseSaid : Prop := rootsRiseRow.holds Try.pinned (OpenSpec.ofChange rootsRiseSpec)

/-- ITS FALSE NEIGHBOUR: 'it returns false'. Refute it at one input. -/
def rootsRiseWrong : ChangeSpec := { name := "rootsRise", fn := fun _ => fun
  | [d1, d2, d3] => { results := [.lit (.bool false)], args := [d1, d2, d3] }
  | _ => none }
def RootsRiseWrongFalsely : Prop := rootsRiseRow.holds Try.pinned (OpenSpec.ofChange rootsRiseWrong)

/-- 'euphroelaw02.RootsSieve': WHATEVER THE INPUT: true; the input reads as it did. -/
def rootsSieveSpec : ChangeSpec := { name := "rootsSieve", fn := fun _ => fun
  | [d] => { results := [.lit (.bool true)], args := [d] }
  | _ => none }
def rootsSieveRow : OpenClaim := { program := "ytkndelbnjhkbcaa", sum := "e9f5b2589ad4bd3a63f8d3e33981c5662f3ceac06457db23a35f21674e8e37eb", func := "euphroe/euphroelaw02.RootsSieve", spec := "rootsSieve", apart := false }
def RootsSieveSaid : Prop := rootsSieveRow.holds Try.pinned (OpenSpec.ofChange rootsSieveSpec)

/-- ITS FALSE NEIGHBOUR: 'it returns false'. Refute it at one input. -/
def rootsSieveWrong : ChangeSpec := { name := "rootsSieve", fn := fun _ => fun
  | [d] => { results := [.lit (.bool false)], args := [d] }
  | _ => none }
def RootsSieveWrongFalsely : Prop := rootsSieveRow.holds Try.pinned (OpenSpec.ofChange rootsSieveWrong)

/-- 'euphroelaw03.BitpWords': WHATEVER THE INPUT: true; the input reads as it did. -/
def bitpWordsSpec : ChangeSpec := { name := "bitpWords", fn := fun _ => fun
  | [d1, d2, d3] => { results := [.lit (.bool true)], args := [d1, d2, d3] }
  | _ => none }
def bitpWordsRow : OpenClaim := { program := "ytkndelbnjhkbcaa", sum := "e9f5b2589ad4bd3a63f8d3e33981c5662f3ceac06457db23a35f21674e8e37eb", func := "euphroe/euphroelaw03.BitpWords", spec := "bitpWords", unfollowed := true, recurses := true, apart := false }
def BitpWordsSaid : Prop := bitpWordsRow.holds Try.pinned (OpenSpec.ofChange bitpWordsSpec)

/-- ITS FALSE NEIGHBOUR: 'it returns false'. Refute it at one input. -/
def bitpWordsWrong : ChangeSpec := { name := "bitpWords", fn := fun _ => fun
  | [d1, d2, d3] => { results := [.lit (.bool false)], args := [d1, d2, d3] }
  | _ => none }
def BitpWordsWrongFalsely : Prop := bitpWordsRow.holds Try.pinned (OpenSpec.ofChange bitpWordsWrong)

/-- 'euphroelaw03.BitpKeys': WHATEVER THE INPUT: true; the input reads as it did. -/
def bitpKeysSpec : ChangeSpec := { name := "bitpKeys", fn := fun _ => fun
  | [d1, d2] => { results := [.lit (.bool true)], args := [d1, d2] }
  | _ => none }
def bitpKeysRow : OpenClaim := { program := "ytkndelbnjhkbcaa", sum := "e9f5b2589ad4bd3a63f8d3e33981c5662f3ceac06457db23a35f21674e8e37eb", func := "euphroe/euphroelaw03.BitpKeys", spec := "bitpKeys", unfollowed := true, recurses := true, apart := false }
def BitpKeysSaid : Prop := bitpKeysRow.holds Try.pinned (OpenSpec.ofChange bitpKeysSpec)

/-- ITS FALSE NEIGHBOUR: 'it returns false'. Refute it at one input. -/
def bitpKeysWrong : ChangeSpec := { name := "bitpKeys", fn := fun _ => fun
  | [d1, d2] => { results := [.lit (.bool false)], args := [d1, d2] }
  | _ => none }
def BitpKeysWrongFalsely : Prop := bitpKeysRow.holds Try.pinned (OpenSpec.ofChange bitpKeysWrong)

/-- 'euphroelaw03.BitpTurns': WHATEVER THE INPUT: true; the input reads as it did. -/
def bitpTurnsSpec : ChangeSpec := { name := "bitpTurns", fn := fun _ => fun
  | [d1, d2, d3] => { results := [.lit (.bool true)], args := [d1, d2, d3] }
  | _ => none }
def bitpTurnsRow : OpenClaim := { program := "ytkndelbnjhkbcaa", sum := "e9f5b2589ad4bd3a63f8d3e33981c5662f3ceac06457db23a35f21674e8e37eb", func := "euphroe/euphroelaw03.BitpTurns", spec := "bitpTurns", unfollowed := true, recurses := true, apart := false }
def BitpTurnsSaid : Prop := bitpTurnsRow.holds Try.pinned (OpenSpec.ofChange bitpTurnsSpec)

/-- ITS FALSE NEIGHBOUR: 'it returns false'. Refute it at one input. -/
def bitpTurnsWrong : ChangeSpec := { name := "bitpTurns", fn := fun _ => fun
  | [d1, d2, d3] => { results := [.lit (.bool false)], args := [d1, d2, d3] }
  | _ => none }
def BitpTurnsWrongFalsely : Prop := bitpTurnsRow.holds Try.pinned (OpenSpec.ofChange bitpTurnsWrong)

/-- 'euphroelaw03.BitpOdd': WHATEVER THE INPUT: true; the input reads as it did. -/
def bitpOddSpec : ChangeSpec := { name := "bitpOdd", fn := fun _ => fun
  | [d1, d2] => { results := [.lit (.bool true)], args := [d1, d2] }
  | _ => none }
def bitpOddRow : OpenClaim := { program := "ytkndelbnjhkbcaa", sum := "e9f5b2589ad4bd3a63f8d3e33981c5662f3ceac06457db23a35f21674e8e37eb", func := "euphroe/euphroelaw03.BitpOdd", spec := "bitpOdd", unfollowed := true, recurses := true, apart := false }
def BitpOddSaid : Prop := bitpOddRow.holds Try.pinned (OpenSpec.ofChange bitpOddSpec)

/-- ITS FALSE NEIGHBOUR: 'it returns false'. Refute it at one input. -/
def bitpOddWrong : ChangeSpec := { name := "bitpOdd", fn := fun _ => fun
  | [d1, d2] => { results := [.lit (.bool false)], args := [d1, d2] }
  | _ => none }
def BitpOddWrongFalsely : Prop := bitpOddRow.holds Try.pinned (OpenSpec.ofChange bitpOddWrong)

/- THE SECOND FORM. 'bulk': how many values and letters a reading holds, each counted each time it is reached (what is shared counts as often as it is met; a slice's spare places count too). A statement '..UptoSaid' is the law's where the arguments, and the package variables that the reading takes, are together of bulk at most 1048576: NARROWER than '..Said'. Prove '..Said' where nothing that the law and all that it calls make is longer than what came in: it says more and counts as full. Else prove '..UptoSaid'. A law counts once. -/
mutual
def uptoBulk {H : Type} : DataW H → Nat
  | .lit (.string bytes) => bytes.length + 1
  | .lit _ => 1
  | .nil => 1
  | .ptr d => uptoBulk d + 1
  | .slice elems spare => uptoBulkAll elems + uptoBulkAll spare + 1
  | .agg parts => uptoBulkAll parts + 1
  | .iface _ d => uptoBulk d + 1
  | .map entries => uptoBulkEntries entries + 1
  | .held _ => 1
def uptoBulkAll {H : Type} : List (DataW H) → Nat
  | [] => 0
  | d :: r => uptoBulk d + uptoBulkAll r
def uptoBulkEntries {H : Type} : List (Lit × DataW H) → Nat
  | [] => 0
  | x :: r => uptoBulkEntry x + uptoBulkEntries r
def uptoBulkEntry {H : Type} : Lit × DataW H → Nat
  | (.string bytes, d) => bytes.length + uptoBulk d + 1
  | (_, d) => uptoBulk d + 1
 end
def uptoSmall : (H : Type) → List (DataW H) → Bool := fun _ ds => decide (uptoBulkAll ds ≤ 1048576)
def OpenSpec.upto (s : _root_.Go.ChangeSpec) : _root_.Go.OpenSpec := { _root_.Go.OpenSpec.ofChange s with cond := some uptoSmall }

/-- 'euphroelaw02.RootsAre', WHERE WHAT IT READS IS OF BULK AT MOST 1048576: true; the input reads as it did. -/
def rootsAreUptoRow : OpenClaim := { program := "ytkndelbnjhkbcaa", sum := "e9f5b2589ad4bd3a63f8d3e33981c5662f3ceac06457db23a35f21674e8e37eb", func := "euphroe/euphroelaw02.RootsAre", spec := "rootsAre", apart := false, narrowed := true }
def RootsAreUptoSaid : Prop := rootsAreUptoRow.holds Try.pinned (OpenSpec.upto rootsAreSpec)

/-- 'euphroelaw02.RootsPrimes', WHERE WHAT IT READS IS OF BULK AT MOST 1048576: true; the input reads as it did. -/
def rootsPrimesUptoRow : OpenClaim := { program := "ytkndelbnjhkbcaa", sum := "e9f5b2589ad4bd3a63f8d3e33981c5662f3ceac06457db23a35f21674e8e37eb", func := "euphroe/euphroelaw02.RootsPrimes", spec := "rootsPrimes", apart := false, narrowed := true }
def RootsPrimesUptoSaid : Prop := rootsPrimesUptoRow.holds Try.pinned (OpenSpec.upto rootsPrimesSpec)

/-- 'euphroelaw02.RootsRise', WHERE WHAT IT READS IS OF BULK AT MOST 1048576: true; the input reads as it did. -/
def rootsRiseUptoRow : OpenClaim := { program := "ytkndelbnjhkbcaa", sum := "e9f5b2589ad4bd3a63f8d3e33981c5662f3ceac06457db23a35f21674e8e37eb", func := "euphroe/euphroelaw02.RootsRise", spec := "rootsRise", apart := false, narrowed := true }
def RootsRiseUptoSaid : Prop := rootsRiseUptoRow.holds Try.pinned (OpenSpec.upto rootsRiseSpec)

/-- 'euphroelaw02.RootsSieve', WHERE WHAT IT READS IS OF BULK AT MOST 1048576: true; the input reads as it did. -/
def rootsSieveUptoRow : OpenClaim := { program := "ytkndelbnjhkbcaa", sum := "e9f5b2589ad4bd3a63f8d3e33981c5662f3ceac06457db23a35f21674e8e37eb", func := "euphroe/euphroelaw02.RootsSieve", spec := "rootsSieve", apart := false, narrowed := true }
def RootsSieveUptoSaid : Prop := rootsSieveUptoRow.holds Try.pinned (OpenSpec.upto rootsSieveSpec)

/-- 'euphroelaw03.BitpWords', WHERE WHAT IT READS IS OF BULK AT MOST 1048576: true; the input reads as it did. -/
def bitpWordsUptoRow : OpenClaim := { program := "ytkndelbnjhkbcaa", sum := "e9f5b2589ad4bd3a63f8d3e33981c5662f3ceac06457db23a35f21674e8e37eb", func := "euphroe/euphroelaw03.BitpWords", spec := "bitpWords", unfollowed := true, recurses := true, apart := false, narrowed := true }
def BitpWordsUptoSaid : Prop := bitpWordsUptoRow.holds Try.pinned (OpenSpec.upto bitpWordsSpec)

/-- 'euphroelaw03.BitpKeys', WHERE WHAT IT READS IS OF BULK AT MOST 1048576: true; the input reads as it did. -/
def bitpKeysUptoRow : OpenClaim := { program := "ytkndelbnjhkbcaa", sum := "e9f5b2589ad4bd3a63f8d3e33981c5662f3ceac06457db23a35f21674e8e37eb", func := "euphroe/euphroelaw03.BitpKeys", spec := "bitpKeys", unfollowed := true, recurses := true, apart := false, narrowed := true }
def BitpKeysUptoSaid : Prop := bitpKeysUptoRow.holds Try.pinned (OpenSpec.upto bitpKeysSpec)

/-- 'euphroelaw03.BitpTurns', WHERE WHAT IT READS IS OF BULK AT MOST 1048576: true; the input reads as it did. -/
def bitpTurnsUptoRow : OpenClaim := { program := "ytkndelbnjhkbcaa", sum := "e9f5b2589ad4bd3a63f8d3e33981c5662f3ceac06457db23a35f21674e8e37eb", func := "euphroe/euphroelaw03.BitpTurns", spec := "bitpTurns", unfollowed := true, recurses := true, apart := false, narrowed := true }
def BitpTurnsUptoSaid : Prop := bitpTurnsUptoRow.holds Try.pinned (OpenSpec.upto bitpTurnsSpec)

/-- 'euphroelaw03.BitpOdd', WHERE WHAT IT READS IS OF BULK AT MOST 1048576: true; the input reads as it did. -/
def bitpOddUptoRow : OpenClaim := { program := "ytkndelbnjhkbcaa", sum := "e9f5b2589ad4bd3a63f8d3e33981c5662f3ceac06457db23a35f21674e8e37eb", func := "euphroe/euphroelaw03.BitpOdd", spec := "bitpOdd", unfollowed := true, recurses := true, apart := false, narrowed := true }
def BitpOddUptoSaid : Prop := bitpOddUptoRow.holds Try.pinned (OpenSpec.upto bitpOddSpec)

end Rows
end Go.Proofs.Ytkndelbnjhkbcaa
