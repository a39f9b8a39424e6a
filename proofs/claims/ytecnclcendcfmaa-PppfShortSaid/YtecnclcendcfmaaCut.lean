/-
  A piece of bytes, under one name whatever its capacity.
-/
import Derived.Test.YtecnclcendcfmaaBytes
namespace Go.Proofs.Ytecnclcendcfmaa
set_option maxRecDepth 100000
open Go.RowKit
set_option linter.unusedVariables false
set_option linter.unusedSimpArgs false

theorem elem_bytes : Try.prog.underlying 34 = some (.slice (Try.prog.elem 34)) := by
  have he : Try.prog.elem 34 = 5 := by kernel_rfl
  rw [he]; exact Try.underlying34
/-- b[k:] under one name. -/
theorem cut_from (A : Option Addr) (n c k : Nat) (K : Int) (hK : K = k) (bs : List UInt8) (W : World) (hr : RB W A n bs) (hk : k ≤ n) (hnc : n ≤ c) :
    ∃ A2, (∀ w, (Instr.sliceAt 34 (.slice A n c) (some (.int .i64 K)) none none).run Try.prog w = .ok (.slice A2 (n - k) (c - k)) w) ∧
      (∀ w, (Instr.slice 34 (.slice A n c) (some (.int .i64 K)) none none).run Try.prog w = .ok (.slice A2 (n - k) (c - k)) w) ∧ RB W A2 (n - k) (bs.drop k) := by
  subst hK
  have h2 : ∀ w, (Instr.slice 34 (.slice A n c) (some (.int .i64 k)) none none).run Try.prog w = .ok (.slice (if c = k then A else A.map (·.add k)) (n - k) (c - k)) w := by
    intro w
    obtain ⟨i0, hi, _, hs, _⟩ := info_parts u8info
    have he : Try.prog.elem 34 = 5 := by kernel_rfl
    rw [run_slice_l (P := Try.prog) w 34 A n c elem_bytes .i64 k (by omega) (by omega), he]
    simp [sizeOf, typeInfo, hi, hs, sliced, Result.andThen]
  refine ⟨_, fun w => ?_, h2, hr.from_ hk hnc⟩
  rw [run_sliceAt_slice (P := Try.prog) w 34 _ _ _ _ elem_bytes]
  exact h2 w
end Go.Proofs.Ytecnclcendcfmaa
