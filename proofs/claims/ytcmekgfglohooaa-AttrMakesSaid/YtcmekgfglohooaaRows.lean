/-
  No cell of these rows narrows 'for every input' (looked for: loops, veiled, ifaces, maps, wideKeys, modest, calm, conditions, laid).
  DERIVED. THE GIVEN ROWS OF THIS SEAT. 7 by the template 'for every input the law returns true; each argument reads behind the call as it read before'; 0 by the template 'total and deterministic' (their statements: YtcmekgfglohooaaTotals.lean).
  GIVEN WITH THE SEED: the statements are not yours to turn. If you find one false, say at which input.
  Laid BY PROGRAM, IN A SANDBOX (cutbox-rows.mjs): the forced cells as the released guide's own fill.sh prints them over the translation 609258879c96c94c… (all of the seat's roots in one cut). By AI agents, Wed Nov 11 2026. No macro, syntax, notation, axiom, sorry.
-/
import Derived.Test.YtcmekgfglohooaaChecked
import GoSem.Claim
import GoSem.ClaimJoined
import GoSem.ClaimMapViews
import Derived.JoinedTies
import Derived.KernelRfl
namespace Go.Proofs.Ytcmekgfglohooaa
/- THE CELL 'sum', in the pinned program and in every row, IS THE sha256 OF THE DUMP (.gsa) THAT YtcmekgfglohooaaProg.lean LOADS. Nothing in Lean hashes anything: it is a label: what it is worth is what the hold of that sum in a sandbox is worth. -/
noncomputable def Try.pinned : Pinned := { name := "ytcmekgfglohooaa", sum := "609258879c96c94cb27b4b6f3651896aba67aa2b7f47cca84b687c3778c642d0", checked := Try.checked }
namespace Rows
def none {H : Type} : Left H := { results := [], args := [] }

/-- 'euphroelaw17.AttrLays': WHATEVER THE INPUT: true; the input reads as it did. -/
def attrLaysSpec : ChangeSpec := { name := "attrLays", fn := fun _ => fun
  | [d1, d2] => { results := [.lit (.bool true)], args := [d1, d2] }
  | _ => none }
def attrLaysRow : OpenClaim := { program := "ytcmekgfglohooaa", sum := "609258879c96c94cb27b4b6f3651896aba67aa2b7f47cca84b687c3778c642d0", func := "euphroe/euphroelaw17.AttrLays", spec := "attrLays", apart := false }
def AttrLaysSaid : Prop := attrLaysRow.holds Try.pinned (OpenSpec.ofChange attrLaysSpec)

/-- ITS FALSE NEIGHBOUR: 'it returns false'. Refute it at one input. -/
def attrLaysWrong : ChangeSpec := { name := "attrLays", fn := fun _ => fun
  | [d1, d2] => { results := [.lit (.bool false)], args := [d1, d2] }
  | _ => none }
def AttrLaysWrongFalsely : Prop := attrLaysRow.holds Try.pinned (OpenSpec.ofChange attrLaysWrong)

/-- 'euphroelaw17.AttrMakes': WHATEVER THE INPUT: true; the input reads as it did. -/
def attrMakesSpec : ChangeSpec := { name := "attrMakes", fn := fun _ => fun
  | [d1, d2, d3] => { results := [.lit (.bool true)], args := [d1, d2, d3] }
  | _ => none }
def attrMakesRow : OpenClaim := { program := "ytcmekgfglohooaa", sum := "609258879c96c94cb27b4b6f3651896aba67aa2b7f47cca84b687c3778c642d0", func := "euphroe/euphroelaw17.AttrMakes", spec := "attrMakes", apart := false }
def AttrMakesSaid : Prop := attrMakesRow.holds Try.pinned (OpenSpec.ofChange attrMakesSpec)

/-- ITS FALSE NEIGHBOUR: 'it returns false'. Refute it at one input. -/
def attrMakesWrong : ChangeSpec := { name := "attrMakes", fn := fun _ => fun
  | [d1, d2, d3] => { results := [.lit (.bool false)], args := [d1, d2, d3] }
  | _ => none }
def AttrMakesWrongFalsely : Prop := attrMakesRow.holds Try.pinned (OpenSpec.ofChange attrMakesWrong)

/-- 'euphroelaw17.AttrTakes': WHATEVER THE INPUT: true; the input reads as it did. -/
def attrTakesSpec : ChangeSpec := { name := "attrTakes", fn := fun _ => fun
  | [d] => { results := [.lit (.bool true)], args := [d] }
  | _ => none }
def attrTakesRow : OpenClaim := { program := "ytcmekgfglohooaa", sum := "609258879c96c94cb27b4b6f3651896aba67aa2b7f47cca84b687c3778c642d0", func := "euphroe/euphroelaw17.AttrTakes", spec := "attrTakes", apart := false }
def AttrTakesSaid : Prop := attrTakesRow.holds Try.pinned (OpenSpec.ofChange attrTakesSpec)

/-- ITS FALSE NEIGHBOUR: 'it returns false'. Refute it at one input. -/
def attrTakesWrong : ChangeSpec := { name := "attrTakes", fn := fun _ => fun
  | [d] => { results := [.lit (.bool false)], args := [d] }
  | _ => none }
def AttrTakesWrongFalsely : Prop := attrTakesRow.holds Try.pinned (OpenSpec.ofChange attrTakesWrong)

/-- 'euphroelaw25.LcpoJudges': WHATEVER THE INPUT: true; the input reads as it did. -/
def lcpoJudgesSpec : ChangeSpec := { name := "lcpoJudges", fn := fun _ => fun
  | [d1, d2, d3] => { results := [.lit (.bool true)], args := [d1, d2, d3] }
  | _ => none }
def lcpoJudgesRow : OpenClaim := { program := "ytcmekgfglohooaa", sum := "609258879c96c94cb27b4b6f3651896aba67aa2b7f47cca84b687c3778c642d0", func := "euphroe/euphroelaw25.LcpoJudges", spec := "lcpoJudges", unfollowed := true, recurses := true, apart := false }
def LcpoJudgesSaid : Prop := lcpoJudgesRow.holds Try.pinned (OpenSpec.ofChange lcpoJudgesSpec)

/-- ITS FALSE NEIGHBOUR: 'it returns false'. Refute it at one input. -/
def lcpoJudgesWrong : ChangeSpec := { name := "lcpoJudges", fn := fun _ => fun
  | [d1, d2, d3] => { results := [.lit (.bool false)], args := [d1, d2, d3] }
  | _ => none }
def LcpoJudgesWrongFalsely : Prop := lcpoJudgesRow.holds Try.pinned (OpenSpec.ofChange lcpoJudgesWrong)

/-- 'euphroelaw25.LcpoWants': WHATEVER THE INPUT: true; the input reads as it did. -/
def lcpoWantsSpec : ChangeSpec := { name := "lcpoWants", fn := fun _ => fun
  | [d1, d2, d3] => { results := [.lit (.bool true)], args := [d1, d2, d3] }
  | _ => none }
def lcpoWantsRow : OpenClaim := { program := "ytcmekgfglohooaa", sum := "609258879c96c94cb27b4b6f3651896aba67aa2b7f47cca84b687c3778c642d0", func := "euphroe/euphroelaw25.LcpoWants", spec := "lcpoWants", unfollowed := true, recurses := true, apart := false }
def LcpoWantsSaid : Prop := lcpoWantsRow.holds Try.pinned (OpenSpec.ofChange lcpoWantsSpec)

/-- ITS FALSE NEIGHBOUR: 'it returns false'. Refute it at one input. -/
def lcpoWantsWrong : ChangeSpec := { name := "lcpoWants", fn := fun _ => fun
  | [d1, d2, d3] => { results := [.lit (.bool false)], args := [d1, d2, d3] }
  | _ => none }
def LcpoWantsWrongFalsely : Prop := lcpoWantsRow.holds Try.pinned (OpenSpec.ofChange lcpoWantsWrong)

/-- 'euphroelaw25.LcpoFine': WHATEVER THE INPUT: true; the input reads as it did. -/
def lcpoFineSpec : ChangeSpec := { name := "lcpoFine", fn := fun _ => fun
  | [d1, d2, d3] => { results := [.lit (.bool true)], args := [d1, d2, d3] }
  | _ => none }
def lcpoFineRow : OpenClaim := { program := "ytcmekgfglohooaa", sum := "609258879c96c94cb27b4b6f3651896aba67aa2b7f47cca84b687c3778c642d0", func := "euphroe/euphroelaw25.LcpoFine", spec := "lcpoFine", unfollowed := true, recurses := true, apart := false }
def LcpoFineSaid : Prop := lcpoFineRow.holds Try.pinned (OpenSpec.ofChange lcpoFineSpec)

/-- ITS FALSE NEIGHBOUR: 'it returns false'. Refute it at one input. -/
def lcpoFineWrong : ChangeSpec := { name := "lcpoFine", fn := fun _ => fun
  | [d1, d2, d3] => { results := [.lit (.bool false)], args := [d1, d2, d3] }
  | _ => none }
def LcpoFineWrongFalsely : Prop := lcpoFineRow.holds Try.pinned (OpenSpec.ofChange lcpoFineWrong)

/-- 'euphroelaw25.LcpoAnswers': WHATEVER THE INPUT: true; the input reads as it did. -/
def lcpoAnswersSpec : ChangeSpec := { name := "lcpoAnswers", fn := fun _ => fun
  | [d1, d2, d3] => { results := [.lit (.bool true)], args := [d1, d2, d3] }
  | _ => none }
def lcpoAnswersRow : OpenClaim := { program := "ytcmekgfglohooaa", sum := "609258879c96c94cb27b4b6f3651896aba67aa2b7f47cca84b687c3778c642d0", func := "euphroe/euphroelaw25.LcpoAnswers", spec := "lcpoAnswers", unfollowed := true, recurses := true, apart := false }
def LcpoAnswersSaid : Prop := lcpoAnswersRow.holds Try.pinned (OpenSpec.ofChange lcpoAnswersSpec)

/-- ITS FALSE NEIGHBOUR: 'it returns false'. Refute it at one input. -/
def lcpoAnswersWrong : ChangeSpec := { name := "lcpoAnswers", fn := fun _ => fun
  | [d1, d2, d3] => { results := [.lit (.bool false)], args := [d1, d2, d3] }
  | _ => none }
def LcpoAnswersWrongFalsely : Prop := lcpoAnswersRow.holds Try.pinned (OpenSpec.ofChange lcpoAnswersWrong)

/- THE SECOND FORM. 'bulk': how many values and letters a reading holds, each counted each time it is reached (what is shared counts as often as it is met; a slice's spare places count too). A statement '..UptoSaid' is the law's where the arguments, and the package variables that the reading takes, are together of bulk at most 1048576: NARROWER than '..Said'. Prove '..Said' where nothing that the law and all that it calls make is longer than what came in: it says more and counts as full. Else prove '..UptoSaid'. A law counts once. -/
mutual
def uptoBulk {H : Type} : DataW H → Nat
  | .lit (.string bytes) => bytes.length + 1
  | .lit _ => 1
  | .nil => 1
  | .ptr d => uptoBulk d + 1
  | .slice elems spare => uptoBulkAll elems + uptoBulkAll spare + 1
  | .agg parts => uptoBulkAll parts + 1
  | .iface _ d => uptoBulk d + 1
  | .map entries => uptoBulkEntries entries + 1
  | .held _ => 1
def uptoBulkAll {H : Type} : List (DataW H) → Nat
  | [] => 0
  | d :: r => uptoBulk d + uptoBulkAll r
def uptoBulkEntries {H : Type} : List (Lit × DataW H) → Nat
  | [] => 0
  | x :: r => uptoBulkEntry x + uptoBulkEntries r
def uptoBulkEntry {H : Type} : Lit × DataW H → Nat
  | (.string bytes, d) => bytes.length + uptoBulk d + 1
  | (_, d) => uptoBulk d + 1
 end
def uptoSmall : (H : Type) → List (DataW H) → Bool := fun _ ds => decide (uptoBulkAll ds ≤ 1048576)
def OpenSpec.upto (s : _root_.Go.ChangeSpec) : _root_.Go.OpenSpec := { _root_.Go.OpenSpec.ofChange s with cond := some uptoSmall }

/-- 'euphroelaw17.AttrLays', WHERE WHAT IT READS IS OF BULK AT MOST 1048576: true; the input reads as it did. -/
def attrLaysUptoRow : OpenClaim := { program := "ytcmekgfglohooaa", sum := "609258879c96c94cb27b4b6f3651896aba67aa2b7f47cca84b687c3778c642d0", func := "euphroe/euphroelaw17.AttrLays", spec := "attrLays", apart := false, narrowed := true }
def AttrLaysUptoSaid : Prop := attrLaysUptoRow.holds Try.pinned (OpenSpec.upto attrLaysSpec)

/-- 'euphroelaw17.AttrMakes', WHERE WHAT IT READS IS OF BULK AT MOST 1048576: true; the input reads as it did. -/
def attrMakesUptoRow : OpenClaim := { program := "ytcmekgfglohooaa", sum := "609258879c96c94cb27b4b6f3651896aba67aa2b7f47cca84b687c3778c642d0", func := "euphroe/euphroelaw17.AttrMakes", spec := "attrMakes", apart := false, narrowed := true }
def AttrMakesUptoSaid : Prop := attrMakesUptoRow.holds Try.pinned (OpenSpec.upto attrMakesSpec)

/-- 'euphroelaw17.AttrTakes', WHERE WHAT IT READS IS OF BULK AT MOST 1048576: true; the input reads as it did. -/
def attrTakesUptoRow : OpenClaim := { program := "ytcmekgfglohooaa", sum := "609258879c96c94cb27b4b6f3651896aba67aa2b7f47cca84b687c3778c642d0", func := "euphroe/euphroelaw17.AttrTakes", spec := "attrTakes", apart := false, narrowed := true }
def AttrTakesUptoSaid : Prop := attrTakesUptoRow.holds Try.pinned (OpenSpec.upto attrTakesSpec)

/-- 'euphroelaw25.LcpoJudges', WHERE WHAT IT READS IS OF BULK AT MOST 1048576: true; the input reads as it did. -/
def lcpoJudgesUptoRow : OpenClaim := { program := "ytcmekgfglohooaa", sum := "609258879c96c94cb27b4b6f3651896aba67aa2b7f47cca84b687c3778c642d0", func := "euphroe/euphroelaw25.LcpoJudges", spec := "lcpoJudges", unfollowed := true, recurses := true, apart := false, narrowed := true }
def LcpoJudgesUptoSaid : Prop := lcpoJudgesUptoRow.holds Try.pinned (OpenSpec.upto lcpoJudgesSpec)

/-- 'euphroelaw25.LcpoWants', WHERE WHAT IT READS IS OF BULK AT MOST 1048576: true; the input reads as it did. -/
def lcpoWantsUptoRow : OpenClaim := { program := "ytcmekgfglohooaa", sum := "609258879c96c94cb27b4b6f3651896aba67aa2b7f47cca84b687c3778c642d0", func := "euphroe/euphroelaw25.LcpoWants", spec := "lcpoWants", unfollowed := true, recurses := true, apart := false, narrowed := true }
def LcpoWantsUptoSaid : Prop := lcpoWantsUptoRow.holds Try.pinned (OpenSpec.upto lcpoWantsSpec)

/-- 'euphroelaw25.LcpoFine', WHERE WHAT IT READS IS OF BULK AT MOST 1048576: true; the input reads as it did. -/
def lcpoFineUptoRow : OpenClaim := { program := "ytcmekgfglohooaa", sum := "609258879c96c94cb27b4b6f3651896aba67aa2b7f47cca84b687c3778c642d0", func := "euphroe/euphroelaw25.LcpoFine", spec := "lcpoFine", unfollowed := true, recurses := true, apart := false, narrowed := true }
def LcpoFineUptoSaid : Prop := lcpoFineUptoRow.holds Try.pinned (OpenSpec.upto lcpoFineSpec)

/-- 'euphroelaw25.LcpoAnswers', WHERE WHAT IT READS IS OF BULK AT MOST 1048576: true; the input reads as it did. -/
def lcpoAnswersUptoRow : OpenClaim := { program := "ytcmekgfglohooaa", sum := "609258879c96c94cb27b4b6f3651896aba67aa2b7f47cca84b687c3778c642d0", func := "euphroe/euphroelaw25.LcpoAnswers", spec := "lcpoAnswers", unfollowed := true, recurses := true, apart := false, narrowed := true }
def LcpoAnswersUptoSaid : Prop := lcpoAnswersUptoRow.holds Try.pinned (OpenSpec.upto lcpoAnswersSpec)

end Rows
end Go.Proofs.Ytcmekgfglohooaa
