/-
  What a law's last step needs, and no more: for seats that go over the evaluator.
-/
import Derived.Test.YtpijcgohhjgdbaaQBase
import Derived.ProofKit
import Derived.OpenShut
import Derived.ShutString
import Derived.ChangeOld
namespace Go.Proofs.Ytpijcgohhjgdbaa
set_option maxRecDepth 100000
open Go.ChangeShapes Go.WideShapes Go.ChangeAt Go.RowKit
set_option linter.unusedVariables false

theorem own : ownKnob Try.prog.godebug = none := by kernel_rfl
theorem laidOut : laidOutB Try.prog = true := by kernel_rfl
/-- A law that comes to true, as its last step asks for it. -/
theorem callsK_true {f : FuncId} {args : List V} {cargs : List Value} {w : World} (h : CallsK Try.prog f args (.c (.bool true))) (hr : RelL w [] [] (args.map ex) cargs) (hgl : GlobOK w [] := by intro g l h; simp [globs] at h) :
    Calls Try.prog f cargs.toArray w fun e w' => e = .returned (.bool true) ∧ Below w.heap.size w w' :=
  (h w [] cargs (by simp) hgl (by rw [hr.1, List.length_map]) (fun i x hx => hr.2 i (ex x) (by rw [List.getElem?_map, hx]; rfl))).mono fun e w' ⟨v, he, hg, hrel⟩ => by cases hrel; exact ⟨he, ⟨hg.os, hg.tape, hg.output, hg.size, fun b hb => hg.block b hb⟩⟩
section
variable {H : Type} {enc : TypeId × Value → H} {W : World}
theorem lt_of_trod {T : TypeId} {v : Value} {d : DataW H} {p : List MemPlace} (h : DataW.Trod enc Try.prog W 0 (fun _ => true) true T v d p) : ∀ x ∈ p, x.block < W.heap.size := by
  obtain ⟨m, hm⟩ := h; exact DataW.trod_lt m _ _ _ hm
end
end Go.Proofs.Ytpijcgohhjgdbaa
