/-
  The words of memory that all walks of this seat share: a slice of bytes that reads as a list, what is kept behind a call. Nothing of the program.
-/
import Derived.WalkKit
import Derived.WalkSpells
import Derived.WalkLawsBesides
import Derived.BigQuiet
import Derived.Deep.QuietTactic
import Derived.Deep.Draws
import Derived.Deep.AppendLies
import Derived.Lib.Hide
import Derived.Maps.AppendAt
import Derived.StillTailTactics
namespace Go.Proofs.Ytpijcgohhjgdbaa
set_option maxRecDepth 100000
open Go.RowKit

/-- A byte as a value. -/
def bv (b : UInt8) : Value := .int .u8 (b.toNat : Int)

/-- The slice at A of n elements reads as the bytes bs. -/
def RB (w : World) (A : Option Addr) (n : Nat) (bs : List UInt8) : Prop :=
  bs.length = n ∧ (0 < n → ∃ ad, A = some ad ∧ ad.block < w.heap.size ∧ ∀ j b, bs[j]? = some b → w.cell? (ad.add j) = some (.int .u8 (b.toNat : Int)))

theorem block_of_add (a : Addr) (n : Nat) : (a.add n).block = a.block := by unfold Addr.add; split <;> rfl
theorem add_of_add (a : Addr) (i j : Nat) : (a.add i).add j = a.add (i + j) := by
  unfold Addr.add
  by_cases hi : i = 0 <;> by_cases hj : j = 0 <;> simp [hi, hj, Nat.add_assoc]

section
variable {w w' : World} {n : Nat} {A : Option Addr} {bs : List UInt8}
theorem RB.len (h : RB w A n bs) : bs.length = n := h.1
theorem RB.nil (w : World) (A : Option Addr) : RB w A 0 [] := ⟨rfl, fun h => absurd h (by omega)⟩
theorem RB.at_ {k : Nat} (h : RB w A n bs) (hk : k < n) :
    ∃ ad b, A = some ad ∧ ad.block < w.heap.size ∧ bs[k]? = some b ∧ w.cell? (ad.add k) = some (.int .u8 (b.toNat : Int)) ∧ (0 : Int) ≤ (b.toNat : Int) ∧ (b.toNat : Int) < 256 := by
  obtain ⟨ad, e, hb, hc⟩ := h.2 (by omega)
  have hl : k < bs.length := by have := h.1; omega
  refine ⟨ad, bs[k], e, hb, List.getElem?_eq_getElem hl, hc k _ (List.getElem?_eq_getElem hl), by omega, ?_⟩
  have := bs[k].toNat_lt
  omega
theorem RB.below (h : RB w A n bs) (hb : Below w.heap.size w w') : RB w' A n bs :=
  ⟨h.1, fun hn => by
    obtain ⟨ad, e, hlt, hc⟩ := h.2 hn
    exact ⟨ad, e, Nat.lt_of_lt_of_le hlt hb.size, fun j u hu => (hb.cell (by rw [block_of_add]; exact hlt)).trans (hc j u hu)⟩⟩
theorem RB.belowB {B : Nat} (h : RB w A n bs) (hB : w.heap.size ≤ B) (hb : Below B w w') : RB w' A n bs := h.below (hb.mono hB)
theorem RB.drewN (h : RB w A n bs) (k : Nat) : RB (w.drewN k) A n bs := h
theorem RB.drew (h : RB w A n bs) : RB w.drew A n bs := h
end
theorem RB.upto {w : World} {A : Option Addr} {n k : Nat} {bs : List UInt8} (h : RB w A n bs) (hk : k ≤ n) : RB w A k (bs.take k) := by
  have hl := h.1
  refine ⟨by rw [List.length_take]; omega, fun h0 => ?_⟩
  obtain ⟨ad, rfl, hb, hc⟩ := h.2 (by omega)
  refine ⟨ad, rfl, hb, fun j b hj => hc j b ?_⟩
  rw [List.getElem?_take] at hj
  split at hj
  · exact hj
  · cases hj
theorem RB.from_ {w : World} {A : Option Addr} {n k c : Nat} {bs : List UInt8} (h : RB w A n bs) (hk : k ≤ n) (hc : n ≤ c) : RB w (if c = k then A else A.map (·.add k)) (n - k) (bs.drop k) := by
  have hl := h.1
  refine ⟨by rw [List.length_drop]; omega, fun h0 => ?_⟩
  obtain ⟨ad, rfl, hb, hcell⟩ := h.2 (by omega)
  rw [if_neg (by omega)]
  refine ⟨ad.add k, rfl, by rw [block_of_add]; exact hb, fun j b hj => ?_⟩
  rw [add_of_add]
  exact hcell _ b (by rw [← hj, List.getElem?_drop])
/-- Nothing but draws. -/
def Qt (w w' : World) : Prop := ∃ q, w' = w.drewN q
theorem Qt.refl (w : World) : Qt w w := ⟨0, rfl⟩
theorem Qt.d (w : World) (q : Nat) : Qt w (w.drewN q) := ⟨q, rfl⟩
theorem Qt.dd (w : World) (q p : Nat) : Qt w ((w.drewN q).drewN p) := ⟨q + p, World.drewN_drewN _ _ _⟩
theorem Qt.trans {a b c : World} (h : Qt a b) (k : Qt b c) : Qt a c := by
  obtain ⟨q, rfl⟩ := h; obtain ⟨p, rfl⟩ := k; exact Qt.dd _ _ _
theorem Qt.below {w w' : World} (h : Qt w w') (B : Nat) : Below B w w' := by
  obtain ⟨q, rfl⟩ := h; exact ⟨rfl, rfl, rfl, Nat.le_refl _, fun _ _ => rfl⟩
theorem below_qt {B : Nat} {a w w' : World} (h : Below B a w) (k : Qt w w') : Below B a w' := h.trans (k.below B)
theorem RB.qt {w w' : World} {n : Nat} {A : Option Addr} {bs : List UInt8} (h : RB w A n bs) (k : Qt w w') : RB w' A n bs := by
  obtain ⟨q, rfl⟩ := k; exact h

/-- v, a slice of n bytes, is the call's own: it lies in a block from base on, and holds bs. -/
def OB (w : World) (base : Nat) (v : Value) (n : Nat) (bs : List UInt8) : Prop := w.ownsRow base 5 1 v n (bs.map bv)
section
variable {w w' : World} {base n : Nat} {v : Value} {bs : List UInt8}
theorem OB.len (h : OB w base v n bs) : bs.length = n := by have := h.1; simpa using this
theorem OB.nil (w : World) (base : Nat) : OB w base (.slice none 0 0) 0 [] := World.ownsRow_nil _ _ _ _
theorem OB.alloc (h : OB w base v n bs) (o : Obj) : OB (w.alloc o) base v n bs := World.ownsRow.alloc h o
theorem OB.drewN (h : OB w base v n bs) (q : Nat) : OB (w.drewN q) base v n bs := h
theorem OB.drew (h : OB w base v n bs) : OB w.drew base v n bs := h
theorem OB.qt (h : OB w base v n bs) (k : Qt w w') : OB w' base v n bs := by obtain ⟨q, rfl⟩ := k; exact h
theorem OB.lt (h : OB w base v n bs) : ∀ k, v.ownBlock = some k → base ≤ k ∧ k < w.heap.size := World.ownsRow.lt h
theorem OB.kept {row : Option Nat} (h : OB w base v n bs) (hg : w.grownBy w' row) (hne : v.ownBlock = none ∨ v.ownBlock ≠ row) : OB w' base v n bs := World.ownsRow.kept h hg hne
theorem OB.below (h : OB w base v n bs) (hb : Below w.heap.size w w') : OB w' base v n bs := by
  refine World.ownsRow.kept (row := none) h ⟨hb.os, hb.tape, hb.output, hb.size, fun k hk _ => hb.block k hk⟩ ?_
  cases hv : v.ownBlock <;> simp
theorem OB.more {b' : Nat} (h : OB w base v n bs) (hb : b' ≤ base) : OB w b' v n bs := by
  refine ⟨h.1, ?_⟩
  rcases h.2 with h' | ⟨g, cap, cur, hv, hg, r⟩
  · exact .inl h'
  · exact .inr ⟨g, cap, cur, hv, Nat.le_trans hb hg, r⟩
/-- What is owned is a slice, and reads. -/
theorem OB.shape (h : OB w base v n bs) : ∃ A c, v = .slice A n c ∧ n ≤ c ∧ c ≤ maxLen ∧ RB w A n bs := by
  have hl := h.len
  rcases h.2 with ⟨rfl, rfl⟩ | ⟨g, cap, cur, rfl, hb, hg, hnc, hcm, hcs, htake⟩
  · exact ⟨none, 0, rfl, Nat.le_refl _, by simp [maxLen], hl, fun h => absurd h (by omega)⟩
  · refine ⟨_, cap, rfl, hnc, hcm, hl, fun hn => ⟨_, rfl, (Array.getElem?_eq_some_iff.1 hg).1, fun j b hj => ?_⟩⟩
    exact World.ownsRow.cells h (g := g) rfl j _ (by rw [List.getElem?_map, hj]; rfl)
theorem OB.cellAt {g cap : Nat} (h : OB w base (.slice (some ⟨g, 0, none⟩) n cap) n bs) {j : Nat} {b : UInt8} (hj : bs[j]? = some b) : w.cell? ⟨g, j, none⟩ = some (.int .u8 (b.toNat : Int)) := by
  have hl := h.len
  have hlt : j < bs.length := (List.getElem?_eq_some_iff.1 hj).1
  rw [World.ownsRow.cellAt h j (by omega), List.getElem?_map, hj]; rfl
theorem OB.frozenAt {g cap : Nat} (h : OB w base (.slice (some ⟨g, 0, none⟩) n cap) n bs) (j : Nat) : w.frozen? ⟨g, j, none⟩ = false := World.ownsRow.frozenAt h j
theorem OB.stored {g cap : Nat} (h : OB w base (.slice (some ⟨g, 0, none⟩) n cap) n bs) (j : Nat) (b : UInt8) :
    OB (w.setCell ⟨g, j, none⟩ (.int .u8 (b.toNat : Int))) base (.slice (some ⟨g, 0, none⟩) n cap) n (bs.set j b) := by
  have := (World.ownsRow.stored h j (bv b)).1
  unfold OB
  rw [List.map_set]; exact this
theorem OB.ge {g cap m : Nat} (h : OB w base (.slice (some ⟨g, 0, none⟩) m cap) n bs) : base ≤ g ∧ g < w.heap.size := World.ownsRow.lt h g rfl
/-- A slice made whole: l noughts, room for c. -/
theorem OB.made (w : World) (base l c : Nat) (hl : l ≤ c) (hc : c ≤ maxLen) (hb : base ≤ w.heap.size) :
    OB (w.alloc (.cells (madeCells #[.int .u8 0] c) 5)) base (.slice (some ⟨w.heap.size, 0, none⟩) l c) l (List.replicate l 0) := by
  refine ⟨by simp, .inr ⟨w.heap.size, c, _, rfl, hb, heap_alloc_new w _, hl, hc, by rw [size_madeCells]; simp, ?_⟩⟩
  rw [toList_madeCells_one, Nat.mul_one, List.take_replicate, Nat.min_eq_left hl, List.map_replicate]; rfl
end
theorem RB.ofOwn {w : World} {base n c : Nat} {A : Option Addr} {bs : List UInt8} (h : OB w base (.slice A n c) n bs) : RB w A n bs ∧ n ≤ c ∧ c ≤ maxLen := by
  obtain ⟨A', c', he, h1, h2, h3⟩ := h.shape
  injection he with e1 e2 e3
  subst e1 e3
  exact ⟨h3, h1, h2⟩
/-- The slice at A of n elements, one cell each, reads as the values vs. -/
def RV (w : World) (A : Option Addr) (n : Nat) (vs : List Value) : Prop :=
  vs.length = n ∧ (0 < n → ∃ ad, A = some ad ∧ ad.block < w.heap.size ∧ ∀ j v, vs[j]? = some v → w.cell? (ad.add j) = some v)
section
variable {w w' : World} {n : Nat} {A : Option Addr} {vs : List Value}
theorem RV.len (h : RV w A n vs) : vs.length = n := h.1
theorem RV.at_ {k : Nat} (h : RV w A n vs) (hk : k < n) : ∃ ad v, A = some ad ∧ ad.block < w.heap.size ∧ vs[k]? = some v ∧ w.cell? (ad.add k) = some v := by
  obtain ⟨ad, e, hb, hc⟩ := h.2 (by omega)
  have hl : k < vs.length := by have := h.1; omega
  exact ⟨ad, vs[k], e, hb, List.getElem?_eq_getElem hl, hc k _ (List.getElem?_eq_getElem hl)⟩
theorem RV.below (h : RV w A n vs) (hb : Below w.heap.size w w') : RV w' A n vs :=
  ⟨h.1, fun hn => by
    obtain ⟨ad, e, hlt, hc⟩ := h.2 hn
    exact ⟨ad, e, Nat.lt_of_lt_of_le hlt hb.size, fun j u hu => (hb.cell (by rw [block_of_add]; exact hlt)).trans (hc j u hu)⟩⟩
end
/-- The slice at A of n slices of bytes reads as the parts ps. -/
def RPs (w : World) (A : Option Addr) (n : Nat) (ps : List (List UInt8)) : Prop :=
  ∃ vs : List Value, RV w A n vs ∧ ps.length = n ∧ ∀ (j : Nat) (v : Value) (p : List UInt8), vs[j]? = some v → ps[j]? = some p → ∃ B m c, v = Value.slice B m c ∧ m ≤ c ∧ c ≤ maxLen ∧ RB w B m p
theorem RPs.below {w w' : World} {A : Option Addr} {n : Nat} {ps : List (List UInt8)} (h : RPs w A n ps) (hb : Below w.heap.size w w') : RPs w' A n ps := by
  obtain ⟨vs, hv, hl, hp⟩ := h
  refine ⟨vs, hv.below hb, hl, fun j v p h1 h2 => ?_⟩
  obtain ⟨B, m, c, rfl, h3, h4, h5⟩ := hp j v p h1 h2
  exact ⟨B, m, c, rfl, h3, h4, h5.below hb⟩
theorem RPs.len {w : World} {A : Option Addr} {n : Nat} {ps : List (List UInt8)} (h : RPs w A n ps) : ps.length = n := by obtain ⟨_, _, hl, _⟩ := h; exact hl
theorem RPs.at_ {w : World} {A : Option Addr} {n k : Nat} {ps : List (List UInt8)} (h : RPs w A n ps) (hk : k < n) :
    ∃ ad B m c p, A = some ad ∧ ps[k]? = some p ∧ w.cell? (ad.add k) = some (.slice B m c) ∧ m ≤ c ∧ c ≤ maxLen ∧ RB w B m p := by
  obtain ⟨vs, hv, hl, hp⟩ := h
  obtain ⟨ad, v, rfl, _, hvk, hc⟩ := hv.at_ hk
  have hpk : ps[k]? = some ps[k] := List.getElem?_eq_getElem (by omega)
  obtain ⟨B, m, c, rfl, h3, h4, h5⟩ := hp k v _ hvk hpk
  exact ⟨ad, B, m, c, _, rfl, hpk, hc, h3, h4, h5⟩
theorem RPs.new3 {w : World} {A B C : Option Addr} {l m n c d e : Nat} {xs ys zs : List UInt8} (hx : RB w A l xs) (hy : RB w B m ys) (hz : RB w C n zs) (h1 : l ≤ c) (h2 : m ≤ d) (h3 : n ≤ e)
    (g1 : c ≤ maxLen) (g2 : d ≤ maxLen) (g3 : e ≤ maxLen) (t : TypeId) (g : Nat) (hg : g = w.heap.size) : RPs (w.alloc (.cells #[.slice A l c, .slice B m d, .slice C n e] t)) (some ⟨g, 0, none⟩) 3 [xs, ys, zs] := by
  subst hg
  have hb := (Below.refl w.heap.size w).alloc (Nat.le_refl _) (.cells #[.slice A l c, .slice B m d, .slice C n e] t)
  refine ⟨[.slice A l c, .slice B m d, .slice C n e], ⟨rfl, fun _ => ⟨_, rfl, by simp, fun j v hj => ?_⟩⟩, rfl, fun j v p hj hp => ?_⟩
  · match j, hj with
    | 0, hj => simp at hj; subst hj; simp [Addr.add, World.cell?_alloc_at]
    | 1, hj => simp at hj; subst hj; simp [Addr.add, World.cell?_alloc_at]
    | 2, hj => simp at hj; subst hj; simp [Addr.add, World.cell?_alloc_at]
  · match j, hj, hp with
    | 0, hj, hp => simp at hj hp; subst hj hp; exact ⟨A, l, c, rfl, h1, g1, hx.below hb⟩
    | 1, hj, hp => simp at hj hp; subst hj hp; exact ⟨B, m, d, rfl, h2, g2, hy.below hb⟩
    | 2, hj, hp => simp at hj hp; subst hj hp; exact ⟨C, n, e, rfl, h3, g3, hz.below hb⟩
theorem RB.lit1 (w : World) (a : UInt8) : RB (w.alloc (.cells #[.int .u8 (a.toNat : Int)] 5)) (some ⟨w.heap.size, 0, none⟩) 1 [a] := by
  refine ⟨rfl, fun _ => ⟨_, rfl, by simp, fun j b hj => ?_⟩⟩
  match j, hj with
  | 0, hj => simp at hj; subst hj; simp [Addr.add]
theorem RB.lit2 (w : World) (a b : UInt8) : RB (w.alloc (.cells #[.int .u8 (a.toNat : Int), .int .u8 (b.toNat : Int)] 5)) (some ⟨w.heap.size, 0, none⟩) 2 [a, b] := by
  refine ⟨rfl, fun _ => ⟨_, rfl, by simp, fun j b hj => ?_⟩⟩
  match j, hj with
  | 0, hj => simp at hj; subst hj; simp [Addr.add]
  | 1, hj => simp at hj; subst hj; simp [Addr.add]
theorem RB.new1 (w : World) (a : UInt8) (g : Nat) (hg : g = w.heap.size) : RB (w.alloc (.cells #[.int .u8 (a.toNat : Int)] 5)) (some ⟨g, 0, none⟩) 1 [a] := by
  subst hg; exact RB.lit1 w a
theorem RB.new2 (w : World) (a b : UInt8) (g : Nat) (hg : g = w.heap.size) : RB (w.alloc (.cells #[.int .u8 (a.toNat : Int), .int .u8 (b.toNat : Int)] 5)) (some ⟨g, 0, none⟩) 2 [a, b] := by
  subst hg; exact RB.lit2 w a b
theorem quiet_left {P : Program} {f : FuncId} {args : Array Value} {w : World} {n : Nat} {v : Value}
    (h : Calls P f args (w.drewN n) fun e w' => e = .returned v ∧ w.drewN n = w') : Calls P f args (w.drewN n) fun e w'' => e = .returned v ∧ ∃ m, w'' = w.drewN m :=
  h.mono fun _ _ ⟨he, hm⟩ => ⟨he, n, hm.symm⟩
theorem quiet_qt {P : Program} {f : FuncId} {args : Array Value} {w : World} {n : Nat} {v : Value}
    (h : Calls P f args (w.drewN n) fun e w' => e = .returned v ∧ Qt (w.drewN n) w') : Calls P f args (w.drewN n) fun e w'' => e = .returned v ∧ ∃ m, w'' = w.drewN m :=
  h.mono fun _ _ ⟨he, hm⟩ => ⟨he, by obtain ⟨q, rfl⟩ := hm; exact ⟨n + q, World.drewN_drewN _ _ _⟩⟩
theorem ret_bool {a b : Bool} (h : a = b) : Ending.returned (.bool a) = .returned (.bool b) := by rw [h]
theorem ret_int {k : IntKind} {a b : Int} (h : a = b) : Ending.returned (.int k a) = .returned (.int k b) := by rw [h]
theorem ret2 {a b c d : Value} (h : a = b) (k : c = d) : Ending.returned (.tuple #[a, c]) = .returned (.tuple #[b, d]) := by rw [h, k]
theorem int_eq {k : IntKind} {a b : Int} (h : a = b) : Value.int k a = Value.int k b := by rw [h]
theorem ret_val {a b : Value} (h : a = b) : Ending.returned a = .returned b := by rw [h]
theorem u8_ne {x y : UInt8} (h : x ≠ y) : ((x.toNat : Int) != (y.toNat : Int)) = true := by
  have : x.toNat ≠ y.toNat := fun e => h (UInt8.toNat_inj.1 e)
  simp; omega
theorem u8_ne_eq {x y : UInt8} (h : x ≠ y) : ((x.toNat : Int) == (y.toNat : Int)) = false := by
  have : x.toNat ≠ y.toNat := fun e => h (UInt8.toNat_inj.1 e)
  simp; omega
theorem below_drewN {B : Nat} {a w : World} (h : Below B a w) (n : Nat) : Below B a (w.drewN n) := ⟨h.os, h.tape, h.output, h.size, h.block⟩
end Go.Proofs.Ytpijcgohhjgdbaa
