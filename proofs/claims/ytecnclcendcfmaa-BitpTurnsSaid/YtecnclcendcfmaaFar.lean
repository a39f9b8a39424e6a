/-
  What is owned is kept by stores elsewhere; cells elsewhere are kept by what grows. Nothing of the program.
-/
import Derived.Test.YtecnclcendcfmaaVals
namespace Go.Proofs.Ytecnclcendcfmaa
set_option maxRecDepth 100000
open Go.RowKit

/-- An array of bytes in memory reads as its bytes. -/
theorem RB.arr (w : World) (bs : List UInt8) (t : TypeId) (g : Nat) (hg : g = w.heap.size) : RB (w.alloc (.cells (bs.map bv).toArray t)) (some ⟨g, 0, none⟩) bs.length bs := by
  subst hg
  refine ⟨rfl, fun _ => ⟨_, rfl, by simp, fun j b hj => ?_⟩⟩
  have : (⟨w.heap.size, 0, none⟩ : Addr).add j = ⟨w.heap.size, j, none⟩ := by unfold Addr.add; split <;> simp_all
  rw [this, World.cell?_alloc_at _ _ _ _ rfl]
  simp [hj, bv]
theorem grownBy_setCell (w : World) (p : Addr) (u : Value) : w.grownBy (w.setCell p u) (some p.block) :=
  ⟨rfl, rfl, rfl, by simp, fun k _ hne => Below.heap_setCell w p u k fun e => hne (by rw [e])⟩
theorem OB.far {w : World} {base n : Nat} {v : Value} {bs : List UInt8} {p : Addr} (h : OB w base v n bs) (hp : p.block < base) (u : Value) : OB (w.setCell p u) base v n bs := by
  refine h.kept (grownBy_setCell w p u) ?_
  cases hv : v.ownBlock with
  | none => exact .inl rfl
  | some k => exact .inr fun e => by have := (h.lt k hv).1; injection e with e; omega
theorem OV.far {E : TypeId} {w : World} {base n : Nat} {v : Value} {vs : List Value} {p : Addr} (h : OV E w base v n vs) (hp : p.block < base) (u : Value) : OV E (w.setCell p u) base v n vs := by
  refine h.kept (grownBy_setCell w p u) ?_
  cases hv : v.ownBlock with
  | none => exact .inl rfl
  | some k => exact .inr fun e => by have := (h.lt k hv).1; injection e with e; omega
theorem OB.form {w : World} {base n : Nat} {v : Value} {bs : List UInt8} (h : OB w base v n bs) (hn : 0 < n) : ∃ g c, v = .slice (some ⟨g, 0, none⟩) n c ∧ n ≤ c ∧ c ≤ maxLen := by
  rcases h.2 with ⟨rfl, h0⟩ | ⟨g, cap, cur, rfl, _, _, hnc, hcm, _⟩
  · omega
  · exact ⟨g, cap, rfl, hnc, hcm⟩
theorem grown_cell {w w' : World} {row : Option Nat} {p : Addr} {B : Nat} (hg : w.grownBy w' row) (hr : ∀ k, row = some k → B ≤ k) (hp : p.block < B) (hs : p.block < w.heap.size) :
    w'.cell? p = w.cell? p ∧ w'.frozen? p = w.frozen? p :=
  have h := hg.block p.block hs fun e => by have := hr _ e.symm; omega
  ⟨World.cell?_of_block h, World.frozen?_of_block h⟩
theorem OB.ownGe {w : World} {base n : Nat} {v : Value} {bs : List UInt8} (h : OB w base v n bs) : ∀ k, v.ownBlock = some k → base ≤ k := fun k hk => (h.lt k hk).1
theorem OV.ownGe {E : TypeId} {w : World} {base n : Nat} {v : Value} {vs : List Value} (h : OV E w base v n vs) : ∀ k, v.ownBlock = some k → base ≤ k := fun k hk => (h.lt k hk).1
theorem set_other {w : World} {a b : Nat} {u : Value} (h : a ≠ b) : (w.setCell ⟨a, 0, none⟩ u).cell? ⟨b, 0, none⟩ = w.cell? ⟨b, 0, none⟩ :=
  World.cell?_setCell_other _ _ _ _ (fun e => h (by injection e))
theorem set_same {w : World} {a : Nat} {u v : Value} (h : w.cell? ⟨a, 0, none⟩ = some v) : (w.setCell ⟨a, 0, none⟩ u).cell? ⟨a, 0, none⟩ = some u :=
  World.cell?_setCell_same _ _ _ h
theorem alloc_other {w : World} {b : Nat} {o : Obj} (h : b < w.heap.size) : (w.alloc o).cell? ⟨b, 0, none⟩ = w.cell? ⟨b, 0, none⟩ := World.cell?_alloc_lt w o _ h
theorem alloc_frozen {w : World} {b : Nat} {o : Obj} (h : b < w.heap.size) : (w.alloc o).frozen? ⟨b, 0, none⟩ = w.frozen? ⟨b, 0, none⟩ :=
  World.frozen?_of_block (a := ⟨b, 0, none⟩) (Below.heap_alloc w o b h)
theorem set_frozen {w : World} {p q : Addr} {u : Value} : (w.setCell p u).frozen? q = w.frozen? q := by simp
theorem alloc_new {w : World} {g : Nat} {u : Value} {t : TypeId} (h : g = w.heap.size) : (w.alloc (.cells #[u] t)).cell? ⟨g, 0, none⟩ = some u := by subst h; simp
theorem alloc_new_frozen {w : World} {g : Nat} {u : Value} {t : TypeId} (h : g = w.heap.size) : (w.alloc (.cells #[u] t)).frozen? ⟨g, 0, none⟩ = false := by subst h; simp
end Go.Proofs.Ytecnclcendcfmaa
