/-
  What the walks are told of an argument, out of its reading: bytes, and small arrays of them.
-/
import Derived.Test.YtkndelbnjhkbcaaFacts
import Derived.ProofKit
import Derived.OpenShut
import Derived.ShutString
import Derived.ChangeOld
namespace Go.Proofs.Ytkndelbnjhkbcaa
open Go.ChangeShapes Go.WideShapes Go.ChangeAt Go.RowKit
open Go.ChangeMaps (open_string shut_string)
set_option linter.unusedVariables false

theorem own : ownKnob Try.prog.godebug = none := by kernel_rfl
theorem laidOut : laidOutB Try.prog = true := by kernel_rfl

section
variable {H : Type} {enc : TypeId × Value → H} {W : World}
theorem open_bytes_cell {fuel : Nat} {c : Value} {x : DataW H × List MemPlace} (h : DataW.trod enc Try.prog W 0 (fun _ => true) true fuel 50 [c] = some x) :
    ∃ A len cap bs, c = .slice A len cap ∧ RB W A len bs ∧ len ≤ cap ∧ cap ≤ maxLen := by
  rcases open_ints Try.underlying50 Try.underlying5 (by kernel_rfl) h with ⟨hcs, _⟩ | ⟨a, l, cp, zs, hcs, _, hl, hm, hz, _, hcell, hwz⟩
  · simp at hcs
    exact ⟨none, 0, 0, [], hcs, RB.nil _ _, Nat.le_refl _, by simp [maxLen]⟩
  · simp at hcs hz
    refine ⟨some a, l, cp, (zs.take l).map (fun z => UInt8.ofNat z.toNat), hcs, ⟨by simp; omega, fun h0 => ?_⟩, hl, hm⟩
    refine ⟨a, rfl, ?_, fun j b hj => ?_⟩
    · have := World.block_lt_of_cell? W _ (hcell 0 (by omega))
      rwa [block_of_add] at this
    · rw [List.getElem?_map, List.getElem?_take] at hj
      split at hj
      · cases hzj : zs[j]? with
        | none => rw [hzj] at hj; cases hj
        | some z =>
          rw [hzj] at hj
          have hlt : j < zs.length := (List.getElem?_eq_some_iff.1 hzj).1
          have hmem : z ∈ zs := List.mem_of_getElem? hzj
          have hw := bounds_u8 (hwz z hmem)
          simp at hj
          subst hj
          rw [hcell j hlt]
          have hzd : zs.getD j 0 = z := by simp [List.getD, hzj]
          rw [hzd]
          congr 2
          rw [UInt8.toNat_ofNat']
          omega
      · cases hj
theorem open_bytes {A : Option Addr} {len cap : Nat} {d : DataW H} {p : List MemPlace} (h : DataW.Trod enc Try.prog W 0 (fun _ => true) true 50 (.slice A len cap) d p) :
    ∃ bs, RB W A len bs ∧ len ≤ cap ∧ cap ≤ maxLen := by
  obtain ⟨fuel, hf⟩ := h
  obtain ⟨A', l', c', bs, hc, hr⟩ := open_bytes_cell (by simpa [Value.cells] using hf)
  injection hc with h1 h2 h3
  subst h1 h2 h3
  exact ⟨bs, hr⟩
theorem u8_nat {a : Int} (h : (Lit.int .u8 a).wf = true) : ∃ N : Nat, a = (N : Int) ∧ N < 256 := by
  have := bounds_u8 h
  exact ⟨a.toNat, by omega, by omega⟩
theorem u64_nat {a : Int} (h : (Lit.int .u64 a).wf = true) : ∃ N : Nat, a = (N : Int) ∧ N < 18446744073709551616 := by
  have := bounds_u64 h
  exact ⟨a.toNat, by omega, by omega⟩
theorem lt_of_trod {T : TypeId} {v : Value} {d : DataW H} {p : List MemPlace} (h : DataW.Trod enc Try.prog W 0 (fun _ => true) true T v d p) : ∀ x ∈ p, x.block < W.heap.size := by
  obtain ⟨m, hm⟩ := h; exact DataW.trod_lt m _ _ _ hm
end
end Go.Proofs.Ytkndelbnjhkbcaa
