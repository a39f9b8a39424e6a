/-
  No cell of these rows narrows 'for every input' (looked for: loops, veiled, ifaces, maps, wideKeys, modest, calm, conditions, laid).
  DERIVED. THE GIVEN ROWS OF THIS SEAT. 11 by the template 'for every input the law returns true; each argument reads behind the call as it read before'; 0 by the template 'total and deterministic' (their statements: YtpnoegajljbfoaaTotals.lean).
  GIVEN WITH THE SEED: the statements are not yours to turn. If you find one false, say at which input.
  Laid BY PROGRAM, IN A SANDBOX (cutbox-rows.mjs): the forced cells as the released guide's own fill.sh prints them over the translation d48a9c6828764f0f… (all of the seat's roots in one cut). By AI agents, Wed Nov 11 2026. No macro, syntax, notation, axiom, sorry.
-/
import Derived.Test.YtpnoegajljbfoaaChecked
import GoSem.Claim
import GoSem.ClaimJoined
import GoSem.ClaimMapViews
import Derived.JoinedTies
import Derived.KernelRfl
namespace Go.Proofs.Ytpnoegajljbfoaa
/- THE CELL 'sum', in the pinned program and in every row, IS THE sha256 OF THE DUMP (.gsa) THAT YtpnoegajljbfoaaProg.lean LOADS. Nothing in Lean hashes anything: it is a label: what it is worth is what the hold of that sum in a sandbox is worth. -/
noncomputable def Try.pinned : Pinned := { name := "ytpnoegajljbfoaa", sum := "d48a9c6828764f0fc2cf3d8fe4ab2d5702d87cbcf834b670a0f85fcfded5fed5", checked := Try.checked }
namespace Rows
def none {H : Type} : Left H := { results := [], args := [] }

/-- 'euphroelaw07.HmacSeals': WHATEVER THE INPUT: true; the input reads as it did. -/
def hmacSealsSpec : ChangeSpec := { name := "hmacSeals", fn := fun _ => fun
  | [d1, d2, d3] => { results := [.lit (.bool true)], args := [d1, d2, d3] }
  | _ => none }
def hmacSealsRow : OpenClaim := { program := "ytpnoegajljbfoaa", sum := "d48a9c6828764f0fc2cf3d8fe4ab2d5702d87cbcf834b670a0f85fcfded5fed5", func := "euphroe/euphroelaw07.HmacSeals", spec := "hmacSeals", apart := false }
def HmacSealsSaid : Prop := hmacSealsRow.holds Try.pinned (OpenSpec.ofChange hmacSealsSpec)

/-- ITS FALSE NEIGHBOUR: 'it returns false'. Refute it at one input. -/
def hmacSealsWrong : ChangeSpec := { name := "hmacSeals", fn := fun _ => fun
  | [d1, d2, d3] => { results := [.lit (.bool false)], args := [d1, d2, d3] }
  | _ => none }
def HmacSealsWrongFalsely : Prop := hmacSealsRow.holds Try.pinned (OpenSpec.ofChange hmacSealsWrong)

/-- 'euphroelaw07.HmacChains': WHATEVER THE INPUT: true; the input reads as it did. -/
def hmacChainsSpec : ChangeSpec := { name := "hmacChains", fn := fun _ => fun
  | [d1, d2] => { results := [.lit (.bool true)], args := [d1, d2] }
  | _ => none }
def hmacChainsRow : OpenClaim := { program := "ytpnoegajljbfoaa", sum := "d48a9c6828764f0fc2cf3d8fe4ab2d5702d87cbcf834b670a0f85fcfded5fed5", func := "euphroe/euphroelaw07.HmacChains", spec := "hmacChains", apart := false }
def HmacChainsSaid : Prop := hmacChainsRow.holds Try.pinned (OpenSpec.ofChange hmacChainsSpec)

/-- ITS FALSE NEIGHBOUR: 'it returns false'. Refute it at one input. -/
def hmacChainsWrong : ChangeSpec := { name := "hmacChains", fn := fun _ => fun
  | [d1, d2] => { results := [.lit (.bool false)], args := [d1, d2] }
  | _ => none }
def HmacChainsWrongFalsely : Prop := hmacChainsRow.holds Try.pinned (OpenSpec.ofChange hmacChainsWrong)

/-- 'euphroelaw07.HmacNoughts': WHATEVER THE INPUT: true; the input reads as it did. -/
def hmacNoughtsSpec : ChangeSpec := { name := "hmacNoughts", fn := fun _ => fun
  | [d1, d2, d3] => { results := [.lit (.bool true)], args := [d1, d2, d3] }
  | _ => none }
def hmacNoughtsRow : OpenClaim := { program := "ytpnoegajljbfoaa", sum := "d48a9c6828764f0fc2cf3d8fe4ab2d5702d87cbcf834b670a0f85fcfded5fed5", func := "euphroe/euphroelaw07.HmacNoughts", spec := "hmacNoughts", apart := false }
def HmacNoughtsSaid : Prop := hmacNoughtsRow.holds Try.pinned (OpenSpec.ofChange hmacNoughtsSpec)

/-- ITS FALSE NEIGHBOUR: 'it returns false'. Refute it at one input. -/
def hmacNoughtsWrong : ChangeSpec := { name := "hmacNoughts", fn := fun _ => fun
  | [d1, d2, d3] => { results := [.lit (.bool false)], args := [d1, d2, d3] }
  | _ => none }
def HmacNoughtsWrongFalsely : Prop := hmacNoughtsRow.holds Try.pinned (OpenSpec.ofChange hmacNoughtsWrong)

/-- 'euphroelaw07.HmacLong': WHATEVER THE INPUT: true; the input reads as it did. -/
def hmacLongSpec : ChangeSpec := { name := "hmacLong", fn := fun _ => fun
  | [d1, d2] => { results := [.lit (.bool true)], args := [d1, d2] }
  | _ => none }
def hmacLongRow : OpenClaim := { program := "ytpnoegajljbfoaa", sum := "d48a9c6828764f0fc2cf3d8fe4ab2d5702d87cbcf834b670a0f85fcfded5fed5", func := "euphroe/euphroelaw07.HmacLong", spec := "hmacLong", apart := false }
def HmacLongSaid : Prop := hmacLongRow.holds Try.pinned (OpenSpec.ofChange hmacLongSpec)

/-- ITS FALSE NEIGHBOUR: 'it returns false'. Refute it at one input. -/
def hmacLongWrong : ChangeSpec := { name := "hmacLong", fn := fun _ => fun
  | [d1, d2] => { results := [.lit (.bool false)], args := [d1, d2] }
  | _ => none }
def HmacLongWrongFalsely : Prop := hmacLongRow.holds Try.pinned (OpenSpec.ofChange hmacLongWrong)

/-- 'euphroelaw13.PrfDerives': WHATEVER THE INPUT: true; the input reads as it did. -/
def prfDerivesSpec : ChangeSpec := { name := "prfDerives", fn := fun _ => fun
  | [d1, d2, d3] => { results := [.lit (.bool true)], args := [d1, d2, d3] }
  | _ => none }
def prfDerivesRow : OpenClaim := { program := "ytpnoegajljbfoaa", sum := "d48a9c6828764f0fc2cf3d8fe4ab2d5702d87cbcf834b670a0f85fcfded5fed5", func := "euphroe/euphroelaw13.PrfDerives", spec := "prfDerives", unfollowed := true, recurses := true, apart := false }
def PrfDerivesSaid : Prop := prfDerivesRow.holds Try.pinned (OpenSpec.ofChange prfDerivesSpec)

/-- ITS FALSE NEIGHBOUR: 'it returns false'. Refute it at one input. -/
def prfDerivesWrong : ChangeSpec := { name := "prfDerives", fn := fun _ => fun
  | [d1, d2, d3] => { results := [.lit (.bool false)], args := [d1, d2, d3] }
  | _ => none }
def PrfDerivesWrongFalsely : Prop := prfDerivesRow.holds Try.pinned (OpenSpec.ofChange prfDerivesWrong)

/-- 'euphroelaw13.PrfBinds': WHATEVER THE INPUT: true; the input reads as it did. -/
def prfBindsSpec : ChangeSpec := { name := "prfBinds", fn := fun _ => fun
  | [d1, d2, d3] => { results := [.lit (.bool true)], args := [d1, d2, d3] }
  | _ => none }
def prfBindsRow : OpenClaim := { program := "ytpnoegajljbfoaa", sum := "d48a9c6828764f0fc2cf3d8fe4ab2d5702d87cbcf834b670a0f85fcfded5fed5", func := "euphroe/euphroelaw13.PrfBinds", spec := "prfBinds", unfollowed := true, recurses := true, apart := false }
def PrfBindsSaid : Prop := prfBindsRow.holds Try.pinned (OpenSpec.ofChange prfBindsSpec)

/-- ITS FALSE NEIGHBOUR: 'it returns false'. Refute it at one input. -/
def prfBindsWrong : ChangeSpec := { name := "prfBinds", fn := fun _ => fun
  | [d1, d2, d3] => { results := [.lit (.bool false)], args := [d1, d2, d3] }
  | _ => none }
def PrfBindsWrongFalsely : Prop := prfBindsRow.holds Try.pinned (OpenSpec.ofChange prfBindsWrong)

/-- 'euphroelaw13.PrfLong': WHATEVER THE INPUT: true; the input reads as it did. -/
def prfLongSpec : ChangeSpec := { name := "prfLong", fn := fun _ => fun
  | [d1, d2, d3] => { results := [.lit (.bool true)], args := [d1, d2, d3] }
  | _ => none }
def prfLongRow : OpenClaim := { program := "ytpnoegajljbfoaa", sum := "d48a9c6828764f0fc2cf3d8fe4ab2d5702d87cbcf834b670a0f85fcfded5fed5", func := "euphroe/euphroelaw13.PrfLong", spec := "prfLong", unfollowed := true, recurses := true, apart := false }
def PrfLongSaid : Prop := prfLongRow.holds Try.pinned (OpenSpec.ofChange prfLongSpec)

/-- ITS FALSE NEIGHBOUR: 'it returns false'. Refute it at one input. -/
def prfLongWrong : ChangeSpec := { name := "prfLong", fn := fun _ => fun
  | [d1, d2, d3] => { results := [.lit (.bool false)], args := [d1, d2, d3] }
  | _ => none }
def PrfLongWrongFalsely : Prop := prfLongRow.holds Try.pinned (OpenSpec.ofChange prfLongWrong)

/-- 'euphroelaw22.CtlLays': WHATEVER THE INPUT: true; the input reads as it did. -/
def ctlLaysSpec : ChangeSpec := { name := "ctlLays", fn := fun _ => fun
  | [d1, d2] => { results := [.lit (.bool true)], args := [d1, d2] }
  | _ => none }
def ctlLaysRow : OpenClaim := { program := "ytpnoegajljbfoaa", sum := "d48a9c6828764f0fc2cf3d8fe4ab2d5702d87cbcf834b670a0f85fcfded5fed5", func := "euphroe/euphroelaw22.CtlLays", spec := "ctlLays", apart := false }
def CtlLaysSaid : Prop := ctlLaysRow.holds Try.pinned (OpenSpec.ofChange ctlLaysSpec)

/-- ITS FALSE NEIGHBOUR: 'it returns false'. Refute it at one input. -/
def ctlLaysWrong : ChangeSpec := { name := "ctlLays", fn := fun _ => fun
  | [d1, d2] => { results := [.lit (.bool false)], args := [d1, d2] }
  | _ => none }
def CtlLaysWrongFalsely : Prop := ctlLaysRow.holds Try.pinned (OpenSpec.ofChange ctlLaysWrong)

/-- 'euphroelaw22.CtlOptions': WHATEVER THE INPUT: true; the input reads as it did. -/
def ctlOptionsSpec : ChangeSpec := { name := "ctlOptions", fn := fun _ => fun
  | [d1, d2, d3] => { results := [.lit (.bool true)], args := [d1, d2, d3] }
  | _ => none }
def ctlOptionsRow : OpenClaim := { program := "ytpnoegajljbfoaa", sum := "d48a9c6828764f0fc2cf3d8fe4ab2d5702d87cbcf834b670a0f85fcfded5fed5", func := "euphroe/euphroelaw22.CtlOptions", spec := "ctlOptions", unfollowed := true, recurses := true, apart := false }
def CtlOptionsSaid : Prop := ctlOptionsRow.holds Try.pinned (OpenSpec.ofChange ctlOptionsSpec)

/-- ITS FALSE NEIGHBOUR: 'it returns false'. Refute it at one input. -/
def ctlOptionsWrong : ChangeSpec := { name := "ctlOptions", fn := fun _ => fun
  | [d1, d2, d3] => { results := [.lit (.bool false)], args := [d1, d2, d3] }
  | _ => none }
def CtlOptionsWrongFalsely : Prop := ctlOptionsRow.holds Try.pinned (OpenSpec.ofChange ctlOptionsWrong)

/-- 'euphroelaw22.CtlRejects': WHATEVER THE INPUT: true; the input reads as it did. -/
def ctlRejectsSpec : ChangeSpec := { name := "ctlRejects", fn := fun _ => fun
  | [d1, d2, d3] => { results := [.lit (.bool true)], args := [d1, d2, d3] }
  | _ => none }
def ctlRejectsRow : OpenClaim := { program := "ytpnoegajljbfoaa", sum := "d48a9c6828764f0fc2cf3d8fe4ab2d5702d87cbcf834b670a0f85fcfded5fed5", func := "euphroe/euphroelaw22.CtlRejects", spec := "ctlRejects", apart := false }
def CtlRejectsSaid : Prop := ctlRejectsRow.holds Try.pinned (OpenSpec.ofChange ctlRejectsSpec)

/-- ITS FALSE NEIGHBOUR: 'it returns false'. Refute it at one input. -/
def ctlRejectsWrong : ChangeSpec := { name := "ctlRejects", fn := fun _ => fun
  | [d1, d2, d3] => { results := [.lit (.bool false)], args := [d1, d2, d3] }
  | _ => none }
def CtlRejectsWrongFalsely : Prop := ctlRejectsRow.holds Try.pinned (OpenSpec.ofChange ctlRejectsWrong)

/-- 'euphroelaw17.AttrMakes': WHATEVER THE INPUT: true; the input reads as it did. -/
def attrMakesSpec : ChangeSpec := { name := "attrMakes", fn := fun _ => fun
  | [d1, d2, d3] => { results := [.lit (.bool true)], args := [d1, d2, d3] }
  | _ => none }
def attrMakesRow : OpenClaim := { program := "ytpnoegajljbfoaa", sum := "d48a9c6828764f0fc2cf3d8fe4ab2d5702d87cbcf834b670a0f85fcfded5fed5", func := "euphroe/euphroelaw17.AttrMakes", spec := "attrMakes", apart := false }
def AttrMakesSaid : Prop := attrMakesRow.holds Try.pinned (OpenSpec.ofChange attrMakesSpec)

/-- ITS FALSE NEIGHBOUR: 'it returns false'. Refute it at one input. -/
def attrMakesWrong : ChangeSpec := { name := "attrMakes", fn := fun _ => fun
  | [d1, d2, d3] => { results := [.lit (.bool false)], args := [d1, d2, d3] }
  | _ => none }
def AttrMakesWrongFalsely : Prop := attrMakesRow.holds Try.pinned (OpenSpec.ofChange attrMakesWrong)

/- THE SECOND FORM. 'bulk': how many values and letters a reading holds, each counted each time it is reached (what is shared counts as often as it is met; a slice's spare places count too). A statement '..UptoSaid' is the law's where the arguments, and the package variables that the reading takes, are together of bulk at most 1048576: NARROWER than '..Said'. Prove '..Said' where nothing that the law and all that it calls make is longer than what came in: it says more and counts as full. Else prove '..UptoSaid'. A law counts once. -/
mutual
def uptoBulk {H : Type} : DataW H → Nat
  | .lit (.string bytes) => bytes.length + 1
  | .lit _ => 1
  | .nil => 1
  | .ptr d => uptoBulk d + 1
  | .slice elems spare => uptoBulkAll elems + uptoBulkAll spare + 1
  | .agg parts => uptoBulkAll parts + 1
  | .iface _ d => uptoBulk d + 1
  | .map entries => uptoBulkEntries entries + 1
  | .held _ => 1
def uptoBulkAll {H : Type} : List (DataW H) → Nat
  | [] => 0
  | d :: r => uptoBulk d + uptoBulkAll r
def uptoBulkEntries {H : Type} : List (Lit × DataW H) → Nat
  | [] => 0
  | x :: r => uptoBulkEntry x + uptoBulkEntries r
def uptoBulkEntry {H : Type} : Lit × DataW H → Nat
  | (.string bytes, d) => bytes.length + uptoBulk d + 1
  | (_, d) => uptoBulk d + 1
 end
def uptoSmall : (H : Type) → List (DataW H) → Bool := fun _ ds => decide (uptoBulkAll ds ≤ 1048576)
def OpenSpec.upto (s : _root_.Go.ChangeSpec) : _root_.Go.OpenSpec := { _root_.Go.OpenSpec.ofChange s with cond := some uptoSmall }

/-- 'euphroelaw07.HmacSeals', WHERE WHAT IT READS IS OF BULK AT MOST 1048576: true; the input reads as it did. -/
def hmacSealsUptoRow : OpenClaim := { program := "ytpnoegajljbfoaa", sum := "d48a9c6828764f0fc2cf3d8fe4ab2d5702d87cbcf834b670a0f85fcfded5fed5", func := "euphroe/euphroelaw07.HmacSeals", spec := "hmacSeals", apart := false, narrowed := true }
def HmacSealsUptoSaid : Prop := hmacSealsUptoRow.holds Try.pinned (OpenSpec.upto hmacSealsSpec)

/-- 'euphroelaw07.HmacChains', WHERE WHAT IT READS IS OF BULK AT MOST 1048576: true; the input reads as it did. -/
def hmacChainsUptoRow : OpenClaim := { program := "ytpnoegajljbfoaa", sum := "d48a9c6828764f0fc2cf3d8fe4ab2d5702d87cbcf834b670a0f85fcfded5fed5", func := "euphroe/euphroelaw07.HmacChains", spec := "hmacChains", apart := false, narrowed := true }
def HmacChainsUptoSaid : Prop := hmacChainsUptoRow.holds Try.pinned (OpenSpec.upto hmacChainsSpec)

/-- 'euphroelaw07.HmacNoughts', WHERE WHAT IT READS IS OF BULK AT MOST 1048576: true; the input reads as it did. -/
def hmacNoughtsUptoRow : OpenClaim := { program := "ytpnoegajljbfoaa", sum := "d48a9c6828764f0fc2cf3d8fe4ab2d5702d87cbcf834b670a0f85fcfded5fed5", func := "euphroe/euphroelaw07.HmacNoughts", spec := "hmacNoughts", apart := false, narrowed := true }
def HmacNoughtsUptoSaid : Prop := hmacNoughtsUptoRow.holds Try.pinned (OpenSpec.upto hmacNoughtsSpec)

/-- 'euphroelaw07.HmacLong', WHERE WHAT IT READS IS OF BULK AT MOST 1048576: true; the input reads as it did. -/
def hmacLongUptoRow : OpenClaim := { program := "ytpnoegajljbfoaa", sum := "d48a9c6828764f0fc2cf3d8fe4ab2d5702d87cbcf834b670a0f85fcfded5fed5", func := "euphroe/euphroelaw07.HmacLong", spec := "hmacLong", apart := false, narrowed := true }
def HmacLongUptoSaid : Prop := hmacLongUptoRow.holds Try.pinned (OpenSpec.upto hmacLongSpec)

/-- 'euphroelaw13.PrfDerives', WHERE WHAT IT READS IS OF BULK AT MOST 1048576: true; the input reads as it did. -/
def prfDerivesUptoRow : OpenClaim := { program := "ytpnoegajljbfoaa", sum := "d48a9c6828764f0fc2cf3d8fe4ab2d5702d87cbcf834b670a0f85fcfded5fed5", func := "euphroe/euphroelaw13.PrfDerives", spec := "prfDerives", unfollowed := true, recurses := true, apart := false, narrowed := true }
def PrfDerivesUptoSaid : Prop := prfDerivesUptoRow.holds Try.pinned (OpenSpec.upto prfDerivesSpec)

/-- 'euphroelaw13.PrfBinds', WHERE WHAT IT READS IS OF BULK AT MOST 1048576: true; the input reads as it did. -/
def prfBindsUptoRow : OpenClaim := { program := "ytpnoegajljbfoaa", sum := "d48a9c6828764f0fc2cf3d8fe4ab2d5702d87cbcf834b670a0f85fcfded5fed5", func := "euphroe/euphroelaw13.PrfBinds", spec := "prfBinds", unfollowed := true, recurses := true, apart := false, narrowed := true }
def PrfBindsUptoSaid : Prop := prfBindsUptoRow.holds Try.pinned (OpenSpec.upto prfBindsSpec)

/-- 'euphroelaw13.PrfLong', WHERE WHAT IT READS IS OF BULK AT MOST 1048576: true; the input reads as it did. -/
def prfLongUptoRow : OpenClaim := { program := "ytpnoegajljbfoaa", sum := "d48a9c6828764f0fc2cf3d8fe4ab2d5702d87cbcf834b670a0f85fcfded5fed5", func := "euphroe/euphroelaw13.PrfLong", spec := "prfLong", unfollowed := true, recurses := true, apart := false, narrowed := true }
def PrfLongUptoSaid : Prop := prfLongUptoRow.holds Try.pinned (OpenSpec.upto prfLongSpec)

/-- 'euphroelaw22.CtlLays', WHERE WHAT IT READS IS OF BULK AT MOST 1048576: true; the input reads as it did. -/
def ctlLaysUptoRow : OpenClaim := { program := "ytpnoegajljbfoaa", sum := "d48a9c6828764f0fc2cf3d8fe4ab2d5702d87cbcf834b670a0f85fcfded5fed5", func := "euphroe/euphroelaw22.CtlLays", spec := "ctlLays", apart := false, narrowed := true }
def CtlLaysUptoSaid : Prop := ctlLaysUptoRow.holds Try.pinned (OpenSpec.upto ctlLaysSpec)

/-- 'euphroelaw22.CtlOptions', WHERE WHAT IT READS IS OF BULK AT MOST 1048576: true; the input reads as it did. -/
def ctlOptionsUptoRow : OpenClaim := { program := "ytpnoegajljbfoaa", sum := "d48a9c6828764f0fc2cf3d8fe4ab2d5702d87cbcf834b670a0f85fcfded5fed5", func := "euphroe/euphroelaw22.CtlOptions", spec := "ctlOptions", unfollowed := true, recurses := true, apart := false, narrowed := true }
def CtlOptionsUptoSaid : Prop := ctlOptionsUptoRow.holds Try.pinned (OpenSpec.upto ctlOptionsSpec)

/-- 'euphroelaw22.CtlRejects', WHERE WHAT IT READS IS OF BULK AT MOST 1048576: true; the input reads as it did. -/
def ctlRejectsUptoRow : OpenClaim := { program := "ytpnoegajljbfoaa", sum := "d48a9c6828764f0fc2cf3d8fe4ab2d5702d87cbcf834b670a0f85fcfded5fed5", func := "euphroe/euphroelaw22.CtlRejects", spec := "ctlRejects", apart := false, narrowed := true }
def CtlRejectsUptoSaid : Prop := ctlRejectsUptoRow.holds Try.pinned (OpenSpec.upto ctlRejectsSpec)

/-- 'euphroelaw17.AttrMakes', WHERE WHAT IT READS IS OF BULK AT MOST 1048576: true; the input reads as it did. -/
def attrMakesUptoRow : OpenClaim := { program := "ytpnoegajljbfoaa", sum := "d48a9c6828764f0fc2cf3d8fe4ab2d5702d87cbcf834b670a0f85fcfded5fed5", func := "euphroe/euphroelaw17.AttrMakes", spec := "attrMakes", apart := false, narrowed := true }
def AttrMakesUptoSaid : Prop := attrMakesUptoRow.holds Try.pinned (OpenSpec.upto attrMakesSpec)

end Rows
end Go.Proofs.Ytpnoegajljbfoaa
