/-
  The program's tables, as typed data.
-/
import Derived.Test.YtpijcgohhjgdbaaK7
namespace Go.Proofs.Ytpijcgohhjgdbaa
set_option maxRecDepth 100000
open Go.RowKit
set_option linter.unusedVariables false
def globVs : List (Nat × List V) := [
]
def globV (g : Nat) : Option (List V) := (globVs.find? (·.1 == g)).map (·.2)
theorem globVs_ok : globVs.map (fun p => (p.1, segsA p.2)) = globs.map (fun p => (p.1, p.2.map AV.c)) := by kernel_rfl
theorem globV_rel {w : World} {B : List Nat} {η : List Value} {g : Nat} {l : List V} (h : GlobOK w B) (hl : globV g = some l) : Rel2 w B η (.adr l) (.pointer (some ⟨g, 0, none⟩)) := by
  unfold globV at hl
  rw [Option.map_eq_some_iff] at hl
  obtain ⟨p, hp, rfl⟩ := hl
  have h1 := List.mem_of_find?_eq_some hp
  have h2 := List.find?_some hp
  simp only [beq_iff_eq] at h2
  have h3 : (p.1, segsA p.2) ∈ globs.map (fun p => (p.1, p.2.map AV.c)) := by
    rw [← globVs_ok]
    exact List.mem_map.2 ⟨p, h1, rfl⟩
  obtain ⟨q, q1, q2⟩ := List.mem_map.1 h3
  injection q2 with q3 q4
  have h4 := h q.1 q.2 q1
  rw [q3, h2, q4] at h4
  exact h4.any
end Go.Proofs.Ytpijcgohhjgdbaa
