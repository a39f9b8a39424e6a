/-
  No cell of these rows narrows 'for every input' (looked for: loops, veiled, ifaces, maps, wideKeys, modest, calm, conditions, laid).
  DERIVED. THE GIVEN ROWS OF THIS SEAT. 4 by the template 'for every input the law returns true; each argument reads behind the call as it read before'; 0 by the template 'total and deterministic' (their statements: YtpijcgohhjgdbaaTotals.lean).
  GIVEN WITH THE SEED: the statements are not yours to turn. If you find one false, say at which input.
  Laid BY PROGRAM, IN A SANDBOX (cutbox-rows.mjs): the forced cells as the released guide's own fill.sh prints them over the translation e1b06a6cfc70b6f4… (all of the seat's roots in one cut). By AI agents, Wed Nov 11 2026. No macro, syntax, notation, axiom, sorry.
-/
import Derived.Test.YtpijcgohhjgdbaaChecked
import GoSem.Claim
import GoSem.ClaimJoined
import GoSem.ClaimMapViews
import Derived.JoinedTies
import Derived.KernelRfl
namespace Go.Proofs.Ytpijcgohhjgdbaa
/- THE CELL 'sum', in the pinned program and in every row, IS THE sha256 OF THE DUMP (.gsa) THAT YtpijcgohhjgdbaaProg.lean LOADS. Nothing in Lean hashes anything: it is a label: what it is worth is what the hold of that sum in a sandbox is worth. -/
noncomputable def Try.pinned : Pinned := { name := "ytpijcgohhjgdbaa", sum := "e1b06a6cfc70b6f4a7ffc3abe250235170f60ce89d6871107b0a584cbaba737b", checked := Try.checked }
namespace Rows
def none {H : Type} : Left H := { results := [], args := [] }

/-- 'euphroelaw19.ReframeWrites': WHATEVER THE INPUT: true; the input reads as it did. -/
def reframeWritesSpec : ChangeSpec := { name := "reframeWrites", fn := fun _ => fun
  | [d1, d2] => { results := [.lit (.bool true)], args := [d1, d2] }
  | _ => none }
def reframeWritesRow : OpenClaim := { program := "ytpijcgohhjgdbaa", sum := "e1b06a6cfc70b6f4a7ffc3abe250235170f60ce89d6871107b0a584cbaba737b", func := "euphroe/euphroelaw19.ReframeWrites", spec := "reframeWrites", unfollowed := true, recurses := true, apart := false }
def ReframeWritesSaid : Prop := reframeWritesRow.holds Try.pinned (OpenSpec.ofChange reframeWritesSpec)

/-- ITS FALSE NEIGHBOUR: 'it returns false'. Refute it at one input. -/
def reframeWritesWrong : ChangeSpec := { name := "reframeWrites", fn := fun _ => fun
  | [d1, d2] => { results := [.lit (.bool false)], args := [d1, d2] }
  | _ => none }
def ReframeWritesWrongFalsely : Prop := reframeWritesRow.holds Try.pinned (OpenSpec.ofChange reframeWritesWrong)

/-- 'euphroelaw19.ReframeSame': WHATEVER THE INPUT: true; the input reads as it did. -/
def reframeSameSpec : ChangeSpec := { name := "reframeSame", fn := fun _ => fun
  | [d1, d2] => { results := [.lit (.bool true)], args := [d1, d2] }
  | _ => none }
def reframeSameRow : OpenClaim := { program := "ytpijcgohhjgdbaa", sum := "e1b06a6cfc70b6f4a7ffc3abe250235170f60ce89d6871107b0a584cbaba737b", func := "euphroe/euphroelaw19.ReframeSame", spec := "reframeSame", unfollowed := true, recurses := true, apart := false }
def ReframeSameSaid : Prop := reframeSameRow.holds Try.pinned (OpenSpec.ofChange reframeSameSpec)

/-- ITS FALSE NEIGHBOUR: 'it returns false'. Refute it at one input. -/
def reframeSameWrong : ChangeSpec := { name := "reframeSame", fn := fun _ => fun
  | [d1, d2] => { results := [.lit (.bool false)], args := [d1, d2] }
  | _ => none }
def ReframeSameWrongFalsely : Prop := reframeSameRow.holds Try.pinned (OpenSpec.ofChange reframeSameWrong)

/-- 'euphroelaw19.ReframeNobody': WHATEVER THE INPUT: true; the input reads as it did. -/
def reframeNobodySpec : ChangeSpec := { name := "reframeNobody", fn := fun _ => fun
  | [d1, d2] => { results := [.lit (.bool true)], args := [d1, d2] }
  | _ => none }
def reframeNobodyRow : OpenClaim := { program := "ytpijcgohhjgdbaa", sum := "e1b06a6cfc70b6f4a7ffc3abe250235170f60ce89d6871107b0a584cbaba737b", func := "euphroe/euphroelaw19.ReframeNobody", spec := "reframeNobody", apart := false }
def ReframeNobodySaid : Prop := reframeNobodyRow.holds Try.pinned (OpenSpec.ofChange reframeNobodySpec)

/-- ITS FALSE NEIGHBOUR: 'it returns false'. Refute it at one input. -/
def reframeNobodyWrong : ChangeSpec := { name := "reframeNobody", fn := fun _ => fun
  | [d1, d2] => { results := [.lit (.bool false)], args := [d1, d2] }
  | _ => none }
def ReframeNobodyWrongFalsely : Prop := reframeNobodyRow.holds Try.pinned (OpenSpec.ofChange reframeNobodyWrong)

/-- 'euphroelaw19.ReframeHeld': WHATEVER THE INPUT: true; the input reads as it did. -/
def reframeHeldSpec : ChangeSpec := { name := "reframeHeld", fn := fun _ => fun
  | [d1, d2] => { results := [.lit (.bool true)], args := [d1, d2] }
  | _ => none }
def reframeHeldRow : OpenClaim := { program := "ytpijcgohhjgdbaa", sum := "e1b06a6cfc70b6f4a7ffc3abe250235170f60ce89d6871107b0a584cbaba737b", func := "euphroe/euphroelaw19.ReframeHeld", spec := "reframeHeld", apart := false }
def ReframeHeldSaid : Prop := reframeHeldRow.holds Try.pinned (OpenSpec.ofChange reframeHeldSpec)

/-- ITS FALSE NEIGHBOUR: 'it returns false'. Refute it at one input. -/
def reframeHeldWrong : ChangeSpec := { name := "reframeHeld", fn := fun _ => fun
  | [d1, d2] => { results := [.lit (.bool false)], args := [d1, d2] }
  | _ => none }
def ReframeHeldWrongFalsely : Prop := reframeHeldRow.holds Try.pinned (OpenSpec.ofChange reframeHeldWrong)

/- THE SECOND FORM. 'bulk': how many values and letters a reading holds, each counted each time it is reached (what is shared counts as often as it is met; a slice's spare places count too). A statement '..UptoSaid' is the law's where the arguments, and the package variables that the reading takes, are together of bulk at most 1048576: NARROWER than '..Said'. Prove '..Said' where nothing that the law and all that it calls make is longer than what came in: it says more and counts as full. Else prove '..UptoSaid'. A law counts once. -/
mutual
def uptoBulk {H : Type} : DataW H → Nat
  | .lit (.string bytes) => bytes.length + 1
  | .lit _ => 1
  | .nil => 1
  | .ptr d => uptoBulk d + 1
  | .slice elems spare => uptoBulkAll elems + uptoBulkAll spare + 1
  | .agg parts => uptoBulkAll parts + 1
  | .iface _ d => uptoBulk d + 1
  | .map entries => uptoBulkEntries entries + 1
  | .held _ => 1
def uptoBulkAll {H : Type} : List (DataW H) → Nat
  | [] => 0
  | d :: r => uptoBulk d + uptoBulkAll r
def uptoBulkEntries {H : Type} : List (Lit × DataW H) → Nat
  | [] => 0
  | x :: r => uptoBulkEntry x + uptoBulkEntries r
def uptoBulkEntry {H : Type} : Lit × DataW H → Nat
  | (.string bytes, d) => bytes.length + uptoBulk d + 1
  | (_, d) => uptoBulk d + 1
 end
def uptoSmall : (H : Type) → List (DataW H) → Bool := fun _ ds => decide (uptoBulkAll ds ≤ 1048576)
def OpenSpec.upto (s : _root_.Go.ChangeSpec) : _root_.Go.OpenSpec := { _root_.Go.OpenSpec.ofChange s with cond := some uptoSmall }

/-- 'euphroelaw19.ReframeWrites', WHERE WHAT IT READS IS OF BULK AT MOST 1048576: true; the input reads as it did. -/
def reframeWritesUptoRow : OpenClaim := { program := "ytpijcgohhjgdbaa", sum := "e1b06a6cfc70b6f4a7ffc3abe250235170f60ce89d6871107b0a584cbaba737b", func := "euphroe/euphroelaw19.ReframeWrites", spec := "reframeWrites", unfollowed := true, recurses := true, apart := false, narrowed := true }
def ReframeWritesUptoSaid : Prop := reframeWritesUptoRow.holds Try.pinned (OpenSpec.upto reframeWritesSpec)

/-- 'euphroelaw19.ReframeSame', WHERE WHAT IT READS IS OF BULK AT MOST 1048576: true; the input reads as it did. -/
def reframeSameUptoRow : OpenClaim := { program := "ytpijcgohhjgdbaa", sum := "e1b06a6cfc70b6f4a7ffc3abe250235170f60ce89d6871107b0a584cbaba737b", func := "euphroe/euphroelaw19.ReframeSame", spec := "reframeSame", unfollowed := true, recurses := true, apart := false, narrowed := true }
def ReframeSameUptoSaid : Prop := reframeSameUptoRow.holds Try.pinned (OpenSpec.upto reframeSameSpec)

/-- 'euphroelaw19.ReframeNobody', WHERE WHAT IT READS IS OF BULK AT MOST 1048576: true; the input reads as it did. -/
def reframeNobodyUptoRow : OpenClaim := { program := "ytpijcgohhjgdbaa", sum := "e1b06a6cfc70b6f4a7ffc3abe250235170f60ce89d6871107b0a584cbaba737b", func := "euphroe/euphroelaw19.ReframeNobody", spec := "reframeNobody", apart := false, narrowed := true }
def ReframeNobodyUptoSaid : Prop := reframeNobodyUptoRow.holds Try.pinned (OpenSpec.upto reframeNobodySpec)

/-- 'euphroelaw19.ReframeHeld', WHERE WHAT IT READS IS OF BULK AT MOST 1048576: true; the input reads as it did. -/
def reframeHeldUptoRow : OpenClaim := { program := "ytpijcgohhjgdbaa", sum := "e1b06a6cfc70b6f4a7ffc3abe250235170f60ce89d6871107b0a584cbaba737b", func := "euphroe/euphroelaw19.ReframeHeld", spec := "reframeHeld", apart := false, narrowed := true }
def ReframeHeldUptoSaid : Prop := reframeHeldUptoRow.holds Try.pinned (OpenSpec.upto reframeHeldSpec)

end Rows
end Go.Proofs.Ytpijcgohhjgdbaa
