/-
  What the walks are told of an argument, out of its reading: bytes, and small arrays of them.
-/
import Derived.Test.YtecnclcendcfmaaVals
import Derived.ProofKit
import Derived.OpenShut
import Derived.ShutString
import Derived.ChangeOld
namespace Go.Proofs.Ytecnclcendcfmaa
set_option maxRecDepth 100000
open Go.ChangeShapes Go.WideShapes Go.ChangeAt Go.RowKit
open Go.ChangeMaps (open_string shut_string)
set_option linter.unusedVariables false

theorem own : ownKnob Try.prog.godebug = none := by kernel_rfl
theorem laidOut : laidOutB Try.prog = true := by kernel_rfl

section
variable {H : Type} {enc : TypeId × Value → H} {W : World}
theorem open_bytes_cell {fuel : Nat} {c : Value} {x : DataW H × List MemPlace} (h : DataW.trod enc Try.prog W 0 (fun _ => true) true fuel 34 [c] = some x) :
    ∃ A len cap bs, c = .slice A len cap ∧ RB W A len bs ∧ len ≤ cap ∧ cap ≤ maxLen := by
  rcases open_ints Try.underlying34 Try.underlying5 (by kernel_rfl) h with ⟨hcs, _⟩ | ⟨a, l, cp, zs, hcs, _, hl, hm, hz, _, hcell, hwz⟩
  · simp at hcs
    exact ⟨none, 0, 0, [], hcs, RB.nil _ _, Nat.le_refl _, by simp [maxLen]⟩
  · simp at hcs hz
    refine ⟨some a, l, cp, (zs.take l).map (fun z => UInt8.ofNat z.toNat), hcs, ⟨by simp; omega, fun h0 => ?_⟩, hl, hm⟩
    refine ⟨a, rfl, ?_, fun j b hj => ?_⟩
    · have := World.block_lt_of_cell? W _ (hcell 0 (by omega))
      rwa [block_of_add] at this
    · rw [List.getElem?_map, List.getElem?_take] at hj
      split at hj
      · cases hzj : zs[j]? with
        | none => rw [hzj] at hj; cases hj
        | some z =>
          rw [hzj] at hj
          have hlt : j < zs.length := (List.getElem?_eq_some_iff.1 hzj).1
          have hmem : z ∈ zs := List.mem_of_getElem? hzj
          have hw := bounds_u8 (hwz z hmem)
          simp at hj
          subst hj
          rw [hcell j hlt]
          have hzd : zs.getD j 0 = z := by simp [List.getD, hzj]
          rw [hzd]
          congr 2
          rw [UInt8.toNat_ofNat']
          omega
      · cases hj
theorem open_bytes {A : Option Addr} {len cap : Nat} {d : DataW H} {p : List MemPlace} (h : DataW.Trod enc Try.prog W 0 (fun _ => true) true 34 (.slice A len cap) d p) :
    ∃ bs, RB W A len bs ∧ len ≤ cap ∧ cap ≤ maxLen := by
  obtain ⟨fuel, hf⟩ := h
  obtain ⟨A', l', c', bs, hc, hr⟩ := open_bytes_cell (by simpa [Value.cells] using hf)
  injection hc with h1 h2 h3
  subst h1 h2 h3
  exact ⟨bs, hr⟩
theorem len_two {α : Type} : ∀ {l : List α}, l.length = 2 → ∃ a b, l = [a, b]
  | [a, b], _ => ⟨a, b, rfl⟩
theorem len_three {α : Type} : ∀ {l : List α}, l.length = 3 → ∃ a b c, l = [a, b, c]
  | [a, b, c], _ => ⟨a, b, c, rfl⟩
theorem u8_nat {a : Int} (h : (Lit.int .u8 a).wf = true) : ∃ N : Nat, a = (N : Int) ∧ N < 256 := by
  have := bounds_u8 h
  exact ⟨a.toNat, by omega, by omega⟩
theorem u64_nat {a : Int} (h : (Lit.int .u64 a).wf = true) : ∃ N : Nat, a = (N : Int) ∧ N < 18446744073709551616 := by
  have := bounds_u64 h
  exact ⟨a.toNat, by omega, by omega⟩
/-- A slice of whole numbers. -/
theorem open_ivals {S E : TypeId} {k : IntKind} (uS : Try.prog.underlying S = some (.slice E)) (uE : Try.prog.underlying E = some (.int k)) (cE : Try.prog.cellsOf E = 1)
    {A : Option Addr} {len cap : Nat} {d : DataW H} {p : List MemPlace} (h : DataW.Trod enc Try.prog W 0 (fun _ => true) true S (.slice A len cap) d p) :
    ∃ zs : List Int, RV W A len (zs.map (Value.int k)) ∧ len ≤ cap ∧ cap ≤ maxLen ∧ ∀ z ∈ zs, (Lit.int k z).wf = true := by
  obtain ⟨fuel, hf⟩ := h
  rcases open_ints uS uE cE hf with ⟨hcs, _⟩ | ⟨a, l, cp, zs, hcs, _, hl, hm, hz, _, hcell, hwz⟩
  · simp [Value.cells] at hcs
    obtain ⟨rfl, rfl, rfl⟩ := hcs
    exact ⟨[], RV.nil _ _, Nat.le_refl _, by simp [maxLen], fun z hz => by cases hz⟩
  · simp [Value.cells] at hcs hz
    obtain ⟨rfl, rfl, rfl⟩ := hcs
    refine ⟨zs.take len, ⟨by simp; omega, fun h0 => ⟨a, rfl, ?_, fun j v hj => ?_⟩⟩, hl, hm, fun z hz' => hwz z (List.mem_of_mem_take hz')⟩
    · have := World.block_lt_of_cell? W _ (hcell 0 (by omega))
      rwa [block_of_add] at this
    · rw [List.getElem?_map, List.getElem?_take] at hj
      split at hj
      · cases hzj : zs[j]? with
        | none => rw [hzj] at hj; cases hj
        | some z =>
          rw [hzj] at hj
          have hlt : j < zs.length := (List.getElem?_eq_some_iff.1 hzj).1
          have hzd : zs.getD j 0 = z := by simp [List.getD, hzj]
          have := hcell j hlt
          rw [hzd] at this
          injection hj with hj
          subst hj; exact this
      · cases hj
/-- An array of whole numbers. -/
theorem open_arr {T E : TypeId} {n base : Nat} {k : IntKind} (uT : Try.prog.underlying T = some (.array n E)) (uE : Try.prog.underlying E = some (.int k)) (cE : Try.prog.cellsOf E = 1) (cT : Try.prog.cellsOf T = n)
    {v : Value} {d : DataW H} {p : List MemPlace} (hv : Value.okWide Try.prog W .any base T v) (h : DataW.Trod enc Try.prog W 0 (fun _ => true) true T v d p) :
    ∃ zs : List Int, zs.length = n ∧ v = .agg (zs.map (Value.int k)).toArray ∧ ∀ z ∈ zs, (Lit.int k z).wf = true := by
  simp only [Value.okWide, uT] at hv
  obtain ⟨cs, rfl, h2, _⟩ := hv
  obtain ⟨fuel, hf⟩ := h
  obtain ⟨l⟩ := cs
  have hl : l.length = n := by have := h2.trans cT; simpa using this
  obtain ⟨xs, m, rfl, _, _, hxl, hi⟩ := DataW.trod_array uT hf
  have key : ∀ i, i < n → ∃ z, l[i]? = some (Value.int k z) ∧ (Lit.int k z).wf = true := fun i hin => by
    have h0 := hi i hin
    rw [cE] at h0
    simp only [Value.cells, Nat.mul_one] at h0
    obtain ⟨z, hz, _, hw⟩ := DataW.trod_int uE (h0.trans (List.getElem?_eq_getElem (by omega)))
    refine ⟨z, ?_, hw⟩
    have := congrArg (fun q => q[0]?) hz
    simpa using this
  have hall : ∀ (l : List Value), (∀ i, i < l.length → ∃ z, l[i]? = some (Value.int k z) ∧ (Lit.int k z).wf = true) → ∃ zs : List Int, l = zs.map (Value.int k) ∧ ∀ z ∈ zs, (Lit.int k z).wf = true := by
    intro l
    induction l with
    | nil => intro _; exact ⟨[], rfl, fun z hz => by cases hz⟩
    | cons a l ih =>
      intro hk
      obtain ⟨z, hz, hw⟩ := hk 0 (by simp)
      obtain ⟨zs, hzs, hws⟩ := ih fun i hin => by
        have := hk (i + 1) (by simp; omega)
        simpa using this
      simp at hz
      refine ⟨z :: zs, by rw [hz, hzs]; rfl, fun y hy => ?_⟩
      rcases List.mem_cons.1 hy with rfl | hy
      · exact hw
      · exact hws y hy
  obtain ⟨zs, hzs, hws⟩ := hall l fun i hin => key i (by omega)
  exact ⟨zs, by rw [← hl, hzs, List.length_map], by rw [hzs], hws⟩
theorem open_barr {T : TypeId} {n base : Nat} (uT : Try.prog.underlying T = some (.array n 5)) (cT : Try.prog.cellsOf T = n)
    {v : Value} {d : DataW H} {p : List MemPlace} (hv : Value.okWide Try.prog W .any base T v) (h : DataW.Trod enc Try.prog W 0 (fun _ => true) true T v d p) :
    ∃ bs : List UInt8, bs.length = n ∧ v = .agg (bs.map bv).toArray := by
  obtain ⟨zs, hl, rfl, hw⟩ := open_arr uT Try.underlying5 (by kernel_rfl) cT hv h
  refine ⟨zs.map fun z => UInt8.ofNat z.toNat, by simpa using hl, ?_⟩
  congr 2
  rw [List.map_map]
  apply List.map_congr_left
  intro z hz
  have := bounds_u8 (hw z hz)
  simp only [Function.comp_apply, bv]
  rw [UInt8.toNat_ofNat']
  congr 1
  omega
theorem lt_of_trod {T : TypeId} {v : Value} {d : DataW H} {p : List MemPlace} (h : DataW.Trod enc Try.prog W 0 (fun _ => true) true T v d p) : ∀ x ∈ p, x.block < W.heap.size := by
  obtain ⟨m, hm⟩ := h; exact DataW.trod_lt m _ _ _ hm
end
end Go.Proofs.Ytecnclcendcfmaa
