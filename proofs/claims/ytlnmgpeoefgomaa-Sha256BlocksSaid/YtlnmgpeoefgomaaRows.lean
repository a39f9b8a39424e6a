/-
  No cell of these rows narrows 'for every input' (looked for: loops, veiled, ifaces, maps, wideKeys, modest, calm, conditions, laid).
  DERIVED. THE GIVEN ROWS OF THIS SEAT. 6 by the template 'for every input the law returns true; each argument reads behind the call as it read before'; 0 by the template 'total and deterministic' (their statements: YtlnmgpeoefgomaaTotals.lean).
  GIVEN WITH THE SEED: the statements are not yours to turn. If you find one false, say at which input.
  Laid BY PROGRAM, IN A SANDBOX (cutbox-rows.mjs): the forced cells as the released guide's own fill.sh prints them over the translation 662884c2570daa1e… (all of the seat's roots in one cut). By AI agents, Wed Nov 11 2026. No macro, syntax, notation, axiom, sorry.
-/
import Derived.Test.YtlnmgpeoefgomaaChecked
import GoSem.Claim
import GoSem.ClaimJoined
import GoSem.ClaimMapViews
import Derived.JoinedTies
import Derived.KernelRfl
namespace Go.Proofs.Ytlnmgpeoefgomaa
/- THE CELL 'sum', in the pinned program and in every row, IS THE sha256 OF THE DUMP (.gsa) THAT YtlnmgpeoefgomaaProg.lean LOADS. Nothing in Lean hashes anything: it is a label: what it is worth is what the hold of that sum in a sandbox is worth. -/
noncomputable def Try.pinned : Pinned := { name := "ytlnmgpeoefgomaa", sum := "662884c2570daa1e87c8997a53fe134f503660e268bf7b6f6ad62b59668f0f9d", checked := Try.checked }
namespace Rows
def none {H : Type} : Left H := { results := [], args := [] }

/-- 'euphroelaw05.Sha1Blocks': WHATEVER THE INPUT: true; the input reads as it did. -/
def sha1BlocksSpec : ChangeSpec := { name := "sha1Blocks", fn := fun _ => fun
  | [d1, d2, d3] => { results := [.lit (.bool true)], args := [d1, d2, d3] }
  | _ => none }
def sha1BlocksRow : OpenClaim := { program := "ytlnmgpeoefgomaa", sum := "662884c2570daa1e87c8997a53fe134f503660e268bf7b6f6ad62b59668f0f9d", func := "euphroe/euphroelaw05.Sha1Blocks", spec := "sha1Blocks", apart := false }
def Sha1BlocksSaid : Prop := sha1BlocksRow.holds Try.pinned (OpenSpec.ofChange sha1BlocksSpec)

/-- ITS FALSE NEIGHBOUR: 'it returns false'. Refute it at one input. -/
def sha1BlocksWrong : ChangeSpec := { name := "sha1Blocks", fn := fun _ => fun
  | [d1, d2, d3] => { results := [.lit (.bool false)], args := [d1, d2, d3] }
  | _ => none }
def Sha1BlocksWrongFalsely : Prop := sha1BlocksRow.holds Try.pinned (OpenSpec.ofChange sha1BlocksWrong)

/-- 'euphroelaw05.Sha1Is': WHATEVER THE INPUT: true; the input reads as it did. -/
def sha1IsSpec : ChangeSpec := { name := "sha1Is", fn := fun _ => fun
  | [d] => { results := [.lit (.bool true)], args := [d] }
  | _ => none }
def sha1IsRow : OpenClaim := { program := "ytlnmgpeoefgomaa", sum := "662884c2570daa1e87c8997a53fe134f503660e268bf7b6f6ad62b59668f0f9d", func := "euphroe/euphroelaw05.Sha1Is", spec := "sha1Is", apart := false }
def Sha1IsSaid : Prop := sha1IsRow.holds Try.pinned (OpenSpec.ofChange sha1IsSpec)

/-- ITS FALSE NEIGHBOUR: 'it returns false'. Refute it at one input. -/
def sha1IsWrong : ChangeSpec := { name := "sha1Is", fn := fun _ => fun
  | [d] => { results := [.lit (.bool false)], args := [d] }
  | _ => none }
def Sha1IsWrongFalsely : Prop := sha1IsRow.holds Try.pinned (OpenSpec.ofChange sha1IsWrong)

/-- 'euphroelaw05.Sha1Parts': WHATEVER THE INPUT: true; the input reads as it did. -/
def sha1PartsSpec : ChangeSpec := { name := "sha1Parts", fn := fun _ => fun
  | [d] => { results := [.lit (.bool true)], args := [d] }
  | _ => none }
def sha1PartsRow : OpenClaim := { program := "ytlnmgpeoefgomaa", sum := "662884c2570daa1e87c8997a53fe134f503660e268bf7b6f6ad62b59668f0f9d", func := "euphroe/euphroelaw05.Sha1Parts", spec := "sha1Parts", apart := false }
def Sha1PartsSaid : Prop := sha1PartsRow.holds Try.pinned (OpenSpec.ofChange sha1PartsSpec)

/-- ITS FALSE NEIGHBOUR: 'it returns false'. Refute it at one input. -/
def sha1PartsWrong : ChangeSpec := { name := "sha1Parts", fn := fun _ => fun
  | [d] => { results := [.lit (.bool false)], args := [d] }
  | _ => none }
def Sha1PartsWrongFalsely : Prop := sha1PartsRow.holds Try.pinned (OpenSpec.ofChange sha1PartsWrong)

/-- 'euphroelaw06.Sha256Blocks': WHATEVER THE INPUT: true; the input reads as it did. -/
def sha256BlocksSpec : ChangeSpec := { name := "sha256Blocks", fn := fun _ => fun
  | [d1, d2, d3] => { results := [.lit (.bool true)], args := [d1, d2, d3] }
  | _ => none }
def sha256BlocksRow : OpenClaim := { program := "ytlnmgpeoefgomaa", sum := "662884c2570daa1e87c8997a53fe134f503660e268bf7b6f6ad62b59668f0f9d", func := "euphroe/euphroelaw06.Sha256Blocks", spec := "sha256Blocks", apart := false }
def Sha256BlocksSaid : Prop := sha256BlocksRow.holds Try.pinned (OpenSpec.ofChange sha256BlocksSpec)

/-- ITS FALSE NEIGHBOUR: 'it returns false'. Refute it at one input. -/
def sha256BlocksWrong : ChangeSpec := { name := "sha256Blocks", fn := fun _ => fun
  | [d1, d2, d3] => { results := [.lit (.bool false)], args := [d1, d2, d3] }
  | _ => none }
def Sha256BlocksWrongFalsely : Prop := sha256BlocksRow.holds Try.pinned (OpenSpec.ofChange sha256BlocksWrong)

/-- 'euphroelaw06.Sha256Is': WHATEVER THE INPUT: true; the input reads as it did. -/
def sha256IsSpec : ChangeSpec := { name := "sha256Is", fn := fun _ => fun
  | [d] => { results := [.lit (.bool true)], args := [d] }
  | _ => none }
def sha256IsRow : OpenClaim := { program := "ytlnmgpeoefgomaa", sum := "662884c2570daa1e87c8997a53fe134f503660e268bf7b6f6ad62b59668f0f9d", func := "euphroe/euphroelaw06.Sha256Is", spec := "sha256Is", apart := false }
def Sha256IsSaid : Prop := sha256IsRow.holds Try.pinned (OpenSpec.ofChange sha256IsSpec)

/-- ITS FALSE NEIGHBOUR: 'it returns false'. Refute it at one input. -/
def sha256IsWrong : ChangeSpec := { name := "sha256Is", fn := fun _ => fun
  | [d] => { results := [.lit (.bool false)], args := [d] }
  | _ => none }
def Sha256IsWrongFalsely : Prop := sha256IsRow.holds Try.pinned (OpenSpec.ofChange sha256IsWrong)

/-- 'euphroelaw06.Sha256Parts': WHATEVER THE INPUT: true; the input reads as it did. -/
def sha256PartsSpec : ChangeSpec := { name := "sha256Parts", fn := fun _ => fun
  | [d] => { results := [.lit (.bool true)], args := [d] }
  | _ => none }
def sha256PartsRow : OpenClaim := { program := "ytlnmgpeoefgomaa", sum := "662884c2570daa1e87c8997a53fe134f503660e268bf7b6f6ad62b59668f0f9d", func := "euphroe/euphroelaw06.Sha256Parts", spec := "sha256Parts", apart := false }
def Sha256PartsSaid : Prop := sha256PartsRow.holds Try.pinned (OpenSpec.ofChange sha256PartsSpec)

/-- ITS FALSE NEIGHBOUR: 'it returns false'. Refute it at one input. -/
def sha256PartsWrong : ChangeSpec := { name := "sha256Parts", fn := fun _ => fun
  | [d] => { results := [.lit (.bool false)], args := [d] }
  | _ => none }
def Sha256PartsWrongFalsely : Prop := sha256PartsRow.holds Try.pinned (OpenSpec.ofChange sha256PartsWrong)

/- THE SECOND FORM. 'bulk': how many values and letters a reading holds, each counted each time it is reached (what is shared counts as often as it is met; a slice's spare places count too). A statement '..UptoSaid' is the law's where the arguments, and the package variables that the reading takes, are together of bulk at most 1048576: NARROWER than '..Said'. Prove '..Said' where nothing that the law and all that it calls make is longer than what came in: it says more and counts as full. Else prove '..UptoSaid'. A law counts once. -/
mutual
def uptoBulk {H : Type} : DataW H → Nat
  | .lit (.string bytes) => bytes.length + 1
  | .lit _ => 1
  | .nil => 1
  | .ptr d => uptoBulk d + 1
  | .slice elems spare => uptoBulkAll elems + uptoBulkAll spare + 1
  | .agg parts => uptoBulkAll parts + 1
  | .iface _ d => uptoBulk d + 1
  | .map entries => uptoBulkEntries entries + 1
  | .held _ => 1
def uptoBulkAll {H : Type} : List (DataW H) → Nat
  | [] => 0
  | d :: r => uptoBulk d + uptoBulkAll r
def uptoBulkEntries {H : Type} : List (Lit × DataW H) → Nat
  | [] => 0
  | x :: r => uptoBulkEntry x + uptoBulkEntries r
def uptoBulkEntry {H : Type} : Lit × DataW H → Nat
  | (.string bytes, d) => bytes.length + uptoBulk d + 1
  | (_, d) => uptoBulk d + 1
 end
def uptoSmall : (H : Type) → List (DataW H) → Bool := fun _ ds => decide (uptoBulkAll ds ≤ 1048576)
def OpenSpec.upto (s : _root_.Go.ChangeSpec) : _root_.Go.OpenSpec := { _root_.Go.OpenSpec.ofChange s with cond := some uptoSmall }

/-- 'euphroelaw05.Sha1Blocks', WHERE WHAT IT READS IS OF BULK AT MOST 1048576: true; the input reads as it did. -/
def sha1BlocksUptoRow : OpenClaim := { program := "ytlnmgpeoefgomaa", sum := "662884c2570daa1e87c8997a53fe134f503660e268bf7b6f6ad62b59668f0f9d", func := "euphroe/euphroelaw05.Sha1Blocks", spec := "sha1Blocks", apart := false, narrowed := true }
def Sha1BlocksUptoSaid : Prop := sha1BlocksUptoRow.holds Try.pinned (OpenSpec.upto sha1BlocksSpec)

/-- 'euphroelaw05.Sha1Is', WHERE WHAT IT READS IS OF BULK AT MOST 1048576: true; the input reads as it did. -/
def sha1IsUptoRow : OpenClaim := { program := "ytlnmgpeoefgomaa", sum := "662884c2570daa1e87c8997a53fe134f503660e268bf7b6f6ad62b59668f0f9d", func := "euphroe/euphroelaw05.Sha1Is", spec := "sha1Is", apart := false, narrowed := true }
def Sha1IsUptoSaid : Prop := sha1IsUptoRow.holds Try.pinned (OpenSpec.upto sha1IsSpec)

/-- 'euphroelaw05.Sha1Parts', WHERE WHAT IT READS IS OF BULK AT MOST 1048576: true; the input reads as it did. -/
def sha1PartsUptoRow : OpenClaim := { program := "ytlnmgpeoefgomaa", sum := "662884c2570daa1e87c8997a53fe134f503660e268bf7b6f6ad62b59668f0f9d", func := "euphroe/euphroelaw05.Sha1Parts", spec := "sha1Parts", apart := false, narrowed := true }
def Sha1PartsUptoSaid : Prop := sha1PartsUptoRow.holds Try.pinned (OpenSpec.upto sha1PartsSpec)

/-- 'euphroelaw06.Sha256Blocks', WHERE WHAT IT READS IS OF BULK AT MOST 1048576: true; the input reads as it did. -/
def sha256BlocksUptoRow : OpenClaim := { program := "ytlnmgpeoefgomaa", sum := "662884c2570daa1e87c8997a53fe134f503660e268bf7b6f6ad62b59668f0f9d", func := "euphroe/euphroelaw06.Sha256Blocks", spec := "sha256Blocks", apart := false, narrowed := true }
def Sha256BlocksUptoSaid : Prop := sha256BlocksUptoRow.holds Try.pinned (OpenSpec.upto sha256BlocksSpec)

/-- 'euphroelaw06.Sha256Is', WHERE WHAT IT READS IS OF BULK AT MOST 1048576: true; the input reads as it did. -/
def sha256IsUptoRow : OpenClaim := { program := "ytlnmgpeoefgomaa", sum := "662884c2570daa1e87c8997a53fe134f503660e268bf7b6f6ad62b59668f0f9d", func := "euphroe/euphroelaw06.Sha256Is", spec := "sha256Is", apart := false, narrowed := true }
def Sha256IsUptoSaid : Prop := sha256IsUptoRow.holds Try.pinned (OpenSpec.upto sha256IsSpec)

/-- 'euphroelaw06.Sha256Parts', WHERE WHAT IT READS IS OF BULK AT MOST 1048576: true; the input reads as it did. -/
def sha256PartsUptoRow : OpenClaim := { program := "ytlnmgpeoefgomaa", sum := "662884c2570daa1e87c8997a53fe134f503660e268bf7b6f6ad62b59668f0f9d", func := "euphroe/euphroelaw06.Sha256Parts", spec := "sha256Parts", apart := false, narrowed := true }
def Sha256PartsUptoSaid : Prop := sha256PartsUptoRow.holds Try.pinned (OpenSpec.upto sha256PartsSpec)

end Rows
end Go.Proofs.Ytlnmgpeoefgomaa
