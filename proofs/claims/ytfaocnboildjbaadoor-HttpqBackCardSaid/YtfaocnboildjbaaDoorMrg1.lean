/-
  Parts of my own, one behind the other: Base, Rgn, Glob, Eng1, Eng2, Eng3, Eng4, Eng4b, Eng4c, Eng4d, Facts, Eng4e, Eng5, Eng6, Eng7, Eng8.
-/
import Derived.WalkKit
import Derived.WalkSpells
import Derived.WalkLawsBesides
import Derived.BigQuiet
import Derived.Deep.QuietTactic
import Derived.Deep.Draws
import Derived.Deep.AppendLies
import Derived.Lib.Hide
import Derived.Maps.AppendAt
import Derived.StillTailTactics
import Derived.StillTail
import Derived.Deep.MidRow
import Derived.Laws.Tables
import Derived.Laws.MakeOwn
import Derived.Test.YtfaocnboildjbaaDoorRows
import Derived.Deep.RegionLaw
import Derived.Deep.RegionHeld3
import Derived.Scope
import Derived.LoopN
import Derived.Laws.CopyRow
import Derived.ArgAppend
/-
  The words of memory that all walks of this seat share: a slice of bytes that reads as a list, what is kept behind a call. Nothing of the program.
-/
namespace Go.Proofs.YtfaocnboildjbaaDoor
set_option maxRecDepth 100000
open Go.RowKit

/-- A byte as a value. -/
def bv (b : UInt8) : Value := .int .u8 (b.toNat : Int)

/-- The slice at A of n elements reads as the bytes bs. -/
def RB (w : World) (A : Option Addr) (n : Nat) (bs : List UInt8) : Prop :=
  bs.length = n ∧ (0 < n → ∃ ad, A = some ad ∧ ad.block < w.heap.size ∧ ∀ j b, bs[j]? = some b → w.cell? (ad.add j) = some (.int .u8 (b.toNat : Int)))

theorem block_of_add (a : Addr) (n : Nat) : (a.add n).block = a.block := by unfold Addr.add; split <;> rfl
theorem add_of_add (a : Addr) (i j : Nat) : (a.add i).add j = a.add (i + j) := by
  unfold Addr.add
  by_cases hi : i = 0 <;> by_cases hj : j = 0 <;> simp [hi, hj, Nat.add_assoc]

section
variable {w w' : World} {n : Nat} {A : Option Addr} {bs : List UInt8}
theorem RB.len (h : RB w A n bs) : bs.length = n := h.1
theorem RB.nil (w : World) (A : Option Addr) : RB w A 0 [] := ⟨rfl, fun h => absurd h (by omega)⟩
theorem RB.at_ {k : Nat} (h : RB w A n bs) (hk : k < n) :
    ∃ ad b, A = some ad ∧ ad.block < w.heap.size ∧ bs[k]? = some b ∧ w.cell? (ad.add k) = some (.int .u8 (b.toNat : Int)) ∧ (0 : Int) ≤ (b.toNat : Int) ∧ (b.toNat : Int) < 256 := by
  obtain ⟨ad, e, hb, hc⟩ := h.2 (by omega)
  have hl : k < bs.length := by have := h.1; omega
  refine ⟨ad, bs[k], e, hb, List.getElem?_eq_getElem hl, hc k _ (List.getElem?_eq_getElem hl), by omega, ?_⟩
  have := bs[k].toNat_lt
  omega
theorem RB.below (h : RB w A n bs) (hb : Below w.heap.size w w') : RB w' A n bs :=
  ⟨h.1, fun hn => by
    obtain ⟨ad, e, hlt, hc⟩ := h.2 hn
    exact ⟨ad, e, Nat.lt_of_lt_of_le hlt hb.size, fun j u hu => (hb.cell (by rw [block_of_add]; exact hlt)).trans (hc j u hu)⟩⟩
theorem RB.belowB {B : Nat} (h : RB w A n bs) (hB : w.heap.size ≤ B) (hb : Below B w w') : RB w' A n bs := h.below (hb.mono hB)
theorem RB.drewN (h : RB w A n bs) (k : Nat) : RB (w.drewN k) A n bs := h
theorem RB.drew (h : RB w A n bs) : RB w.drew A n bs := h
end
theorem RB.upto {w : World} {A : Option Addr} {n k : Nat} {bs : List UInt8} (h : RB w A n bs) (hk : k ≤ n) : RB w A k (bs.take k) := by
  have hl := h.1
  refine ⟨by rw [List.length_take]; omega, fun h0 => ?_⟩
  obtain ⟨ad, rfl, hb, hc⟩ := h.2 (by omega)
  refine ⟨ad, rfl, hb, fun j b hj => hc j b ?_⟩
  rw [List.getElem?_take] at hj
  split at hj
  · exact hj
  · cases hj
theorem RB.from_ {w : World} {A : Option Addr} {n k c : Nat} {bs : List UInt8} (h : RB w A n bs) (hk : k ≤ n) (hc : n ≤ c) : RB w (if c = k then A else A.map (·.add k)) (n - k) (bs.drop k) := by
  have hl := h.1
  refine ⟨by rw [List.length_drop]; omega, fun h0 => ?_⟩
  obtain ⟨ad, rfl, hb, hcell⟩ := h.2 (by omega)
  rw [if_neg (by omega)]
  refine ⟨ad.add k, rfl, by rw [block_of_add]; exact hb, fun j b hj => ?_⟩
  rw [add_of_add]
  exact hcell _ b (by rw [← hj, List.getElem?_drop])
/-- Nothing but draws. -/
def Qt (w w' : World) : Prop := ∃ q, w' = w.drewN q
theorem Qt.refl (w : World) : Qt w w := ⟨0, rfl⟩
theorem Qt.d (w : World) (q : Nat) : Qt w (w.drewN q) := ⟨q, rfl⟩
theorem Qt.dd (w : World) (q p : Nat) : Qt w ((w.drewN q).drewN p) := ⟨q + p, World.drewN_drewN _ _ _⟩
theorem Qt.trans {a b c : World} (h : Qt a b) (k : Qt b c) : Qt a c := by
  obtain ⟨q, rfl⟩ := h; obtain ⟨p, rfl⟩ := k; exact Qt.dd _ _ _
theorem Qt.below {w w' : World} (h : Qt w w') (B : Nat) : Below B w w' := by
  obtain ⟨q, rfl⟩ := h; exact ⟨rfl, rfl, rfl, Nat.le_refl _, fun _ _ => rfl⟩
theorem below_qt {B : Nat} {a w w' : World} (h : Below B a w) (k : Qt w w') : Below B a w' := h.trans (k.below B)
theorem RB.qt {w w' : World} {n : Nat} {A : Option Addr} {bs : List UInt8} (h : RB w A n bs) (k : Qt w w') : RB w' A n bs := by
  obtain ⟨q, rfl⟩ := k; exact h

/-- v, a slice of n bytes, is the call's own: it lies in a block from base on, and holds bs. -/
def OB (w : World) (base : Nat) (v : Value) (n : Nat) (bs : List UInt8) : Prop := w.ownsRow base 5 1 v n (bs.map bv)
section
variable {w w' : World} {base n : Nat} {v : Value} {bs : List UInt8}
theorem OB.len (h : OB w base v n bs) : bs.length = n := by have := h.1; simpa using this
theorem OB.nil (w : World) (base : Nat) : OB w base (.slice none 0 0) 0 [] := World.ownsRow_nil _ _ _ _
theorem OB.alloc (h : OB w base v n bs) (o : Obj) : OB (w.alloc o) base v n bs := World.ownsRow.alloc h o
theorem OB.drewN (h : OB w base v n bs) (q : Nat) : OB (w.drewN q) base v n bs := h
theorem OB.drew (h : OB w base v n bs) : OB w.drew base v n bs := h
theorem OB.qt (h : OB w base v n bs) (k : Qt w w') : OB w' base v n bs := by obtain ⟨q, rfl⟩ := k; exact h
theorem OB.lt (h : OB w base v n bs) : ∀ k, v.ownBlock = some k → base ≤ k ∧ k < w.heap.size := World.ownsRow.lt h
theorem OB.kept {row : Option Nat} (h : OB w base v n bs) (hg : w.grownBy w' row) (hne : v.ownBlock = none ∨ v.ownBlock ≠ row) : OB w' base v n bs := World.ownsRow.kept h hg hne
theorem OB.below (h : OB w base v n bs) (hb : Below w.heap.size w w') : OB w' base v n bs := by
  refine World.ownsRow.kept (row := none) h ⟨hb.os, hb.tape, hb.output, hb.size, fun k hk _ => hb.block k hk⟩ ?_
  cases hv : v.ownBlock <;> simp
theorem OB.more {b' : Nat} (h : OB w base v n bs) (hb : b' ≤ base) : OB w b' v n bs := by
  refine ⟨h.1, ?_⟩
  rcases h.2 with h' | ⟨g, cap, cur, hv, hg, r⟩
  · exact .inl h'
  · exact .inr ⟨g, cap, cur, hv, Nat.le_trans hb hg, r⟩
/-- What is owned is a slice, and reads. -/
theorem OB.shape (h : OB w base v n bs) : ∃ A c, v = .slice A n c ∧ n ≤ c ∧ c ≤ maxLen ∧ RB w A n bs := by
  have hl := h.len
  rcases h.2 with ⟨rfl, rfl⟩ | ⟨g, cap, cur, rfl, hb, hg, hnc, hcm, hcs, htake⟩
  · exact ⟨none, 0, rfl, Nat.le_refl _, by simp [maxLen], hl, fun h => absurd h (by omega)⟩
  · refine ⟨_, cap, rfl, hnc, hcm, hl, fun hn => ⟨_, rfl, (Array.getElem?_eq_some_iff.1 hg).1, fun j b hj => ?_⟩⟩
    exact World.ownsRow.cells h (g := g) rfl j _ (by rw [List.getElem?_map, hj]; rfl)
theorem OB.cellAt {g cap : Nat} (h : OB w base (.slice (some ⟨g, 0, none⟩) n cap) n bs) {j : Nat} {b : UInt8} (hj : bs[j]? = some b) : w.cell? ⟨g, j, none⟩ = some (.int .u8 (b.toNat : Int)) := by
  have hl := h.len
  have hlt : j < bs.length := (List.getElem?_eq_some_iff.1 hj).1
  rw [World.ownsRow.cellAt h j (by omega), List.getElem?_map, hj]; rfl
theorem OB.frozenAt {g cap : Nat} (h : OB w base (.slice (some ⟨g, 0, none⟩) n cap) n bs) (j : Nat) : w.frozen? ⟨g, j, none⟩ = false := World.ownsRow.frozenAt h j
theorem OB.stored {g cap : Nat} (h : OB w base (.slice (some ⟨g, 0, none⟩) n cap) n bs) (j : Nat) (b : UInt8) :
    OB (w.setCell ⟨g, j, none⟩ (.int .u8 (b.toNat : Int))) base (.slice (some ⟨g, 0, none⟩) n cap) n (bs.set j b) := by
  have := (World.ownsRow.stored h j (bv b)).1
  unfold OB
  rw [List.map_set]; exact this
theorem OB.ge {g cap m : Nat} (h : OB w base (.slice (some ⟨g, 0, none⟩) m cap) n bs) : base ≤ g ∧ g < w.heap.size := World.ownsRow.lt h g rfl
/-- A slice made whole: l noughts, room for c. -/
theorem OB.made (w : World) (base l c : Nat) (hl : l ≤ c) (hc : c ≤ maxLen) (hb : base ≤ w.heap.size) :
    OB (w.alloc (.cells (madeCells #[.int .u8 0] c) 5)) base (.slice (some ⟨w.heap.size, 0, none⟩) l c) l (List.replicate l 0) := by
  refine ⟨by simp, .inr ⟨w.heap.size, c, _, rfl, hb, heap_alloc_new w _, hl, hc, by rw [size_madeCells]; simp, ?_⟩⟩
  rw [toList_madeCells_one, Nat.mul_one, List.take_replicate, Nat.min_eq_left hl, List.map_replicate]; rfl
end
theorem RB.ofOwn {w : World} {base n c : Nat} {A : Option Addr} {bs : List UInt8} (h : OB w base (.slice A n c) n bs) : RB w A n bs ∧ n ≤ c ∧ c ≤ maxLen := by
  obtain ⟨A', c', he, h1, h2, h3⟩ := h.shape
  injection he with e1 e2 e3
  subst e1 e3
  exact ⟨h3, h1, h2⟩
/-- The slice at A of n elements, one cell each, reads as the values vs. -/
def RV (w : World) (A : Option Addr) (n : Nat) (vs : List Value) : Prop :=
  vs.length = n ∧ (0 < n → ∃ ad, A = some ad ∧ ad.block < w.heap.size ∧ ∀ j v, vs[j]? = some v → w.cell? (ad.add j) = some v)
section
variable {w w' : World} {n : Nat} {A : Option Addr} {vs : List Value}
theorem RV.len (h : RV w A n vs) : vs.length = n := h.1
theorem RV.at_ {k : Nat} (h : RV w A n vs) (hk : k < n) : ∃ ad v, A = some ad ∧ ad.block < w.heap.size ∧ vs[k]? = some v ∧ w.cell? (ad.add k) = some v := by
  obtain ⟨ad, e, hb, hc⟩ := h.2 (by omega)
  have hl : k < vs.length := by have := h.1; omega
  exact ⟨ad, vs[k], e, hb, List.getElem?_eq_getElem hl, hc k _ (List.getElem?_eq_getElem hl)⟩
theorem RV.below (h : RV w A n vs) (hb : Below w.heap.size w w') : RV w' A n vs :=
  ⟨h.1, fun hn => by
    obtain ⟨ad, e, hlt, hc⟩ := h.2 hn
    exact ⟨ad, e, Nat.lt_of_lt_of_le hlt hb.size, fun j u hu => (hb.cell (by rw [block_of_add]; exact hlt)).trans (hc j u hu)⟩⟩
end
/-- The slice at A of n slices of bytes reads as the parts ps. -/
def RPs (w : World) (A : Option Addr) (n : Nat) (ps : List (List UInt8)) : Prop :=
  ∃ vs : List Value, RV w A n vs ∧ ps.length = n ∧ ∀ (j : Nat) (v : Value) (p : List UInt8), vs[j]? = some v → ps[j]? = some p → ∃ B m c, v = Value.slice B m c ∧ m ≤ c ∧ c ≤ maxLen ∧ RB w B m p
theorem RPs.below {w w' : World} {A : Option Addr} {n : Nat} {ps : List (List UInt8)} (h : RPs w A n ps) (hb : Below w.heap.size w w') : RPs w' A n ps := by
  obtain ⟨vs, hv, hl, hp⟩ := h
  refine ⟨vs, hv.below hb, hl, fun j v p h1 h2 => ?_⟩
  obtain ⟨B, m, c, rfl, h3, h4, h5⟩ := hp j v p h1 h2
  exact ⟨B, m, c, rfl, h3, h4, h5.below hb⟩
theorem RPs.len {w : World} {A : Option Addr} {n : Nat} {ps : List (List UInt8)} (h : RPs w A n ps) : ps.length = n := by obtain ⟨_, _, hl, _⟩ := h; exact hl
theorem RPs.at_ {w : World} {A : Option Addr} {n k : Nat} {ps : List (List UInt8)} (h : RPs w A n ps) (hk : k < n) :
    ∃ ad B m c p, A = some ad ∧ ps[k]? = some p ∧ w.cell? (ad.add k) = some (.slice B m c) ∧ m ≤ c ∧ c ≤ maxLen ∧ RB w B m p := by
  obtain ⟨vs, hv, hl, hp⟩ := h
  obtain ⟨ad, v, rfl, _, hvk, hc⟩ := hv.at_ hk
  have hpk : ps[k]? = some ps[k] := List.getElem?_eq_getElem (by omega)
  obtain ⟨B, m, c, rfl, h3, h4, h5⟩ := hp k v _ hvk hpk
  exact ⟨ad, B, m, c, _, rfl, hpk, hc, h3, h4, h5⟩
theorem RPs.new3 {w : World} {A B C : Option Addr} {l m n c d e : Nat} {xs ys zs : List UInt8} (hx : RB w A l xs) (hy : RB w B m ys) (hz : RB w C n zs) (h1 : l ≤ c) (h2 : m ≤ d) (h3 : n ≤ e)
    (g1 : c ≤ maxLen) (g2 : d ≤ maxLen) (g3 : e ≤ maxLen) (t : TypeId) (g : Nat) (hg : g = w.heap.size) : RPs (w.alloc (.cells #[.slice A l c, .slice B m d, .slice C n e] t)) (some ⟨g, 0, none⟩) 3 [xs, ys, zs] := by
  subst hg
  have hb := (Below.refl w.heap.size w).alloc (Nat.le_refl _) (.cells #[.slice A l c, .slice B m d, .slice C n e] t)
  refine ⟨[.slice A l c, .slice B m d, .slice C n e], ⟨rfl, fun _ => ⟨_, rfl, by simp, fun j v hj => ?_⟩⟩, rfl, fun j v p hj hp => ?_⟩
  · match j, hj with
    | 0, hj => simp at hj; subst hj; simp [Addr.add, World.cell?_alloc_at]
    | 1, hj => simp at hj; subst hj; simp [Addr.add, World.cell?_alloc_at]
    | 2, hj => simp at hj; subst hj; simp [Addr.add, World.cell?_alloc_at]
  · match j, hj, hp with
    | 0, hj, hp => simp at hj hp; subst hj hp; exact ⟨A, l, c, rfl, h1, g1, hx.below hb⟩
    | 1, hj, hp => simp at hj hp; subst hj hp; exact ⟨B, m, d, rfl, h2, g2, hy.below hb⟩
    | 2, hj, hp => simp at hj hp; subst hj hp; exact ⟨C, n, e, rfl, h3, g3, hz.below hb⟩
theorem RB.lit1 (w : World) (a : UInt8) : RB (w.alloc (.cells #[.int .u8 (a.toNat : Int)] 5)) (some ⟨w.heap.size, 0, none⟩) 1 [a] := by
  refine ⟨rfl, fun _ => ⟨_, rfl, by simp, fun j b hj => ?_⟩⟩
  match j, hj with
  | 0, hj => simp at hj; subst hj; simp [Addr.add]
theorem RB.lit2 (w : World) (a b : UInt8) : RB (w.alloc (.cells #[.int .u8 (a.toNat : Int), .int .u8 (b.toNat : Int)] 5)) (some ⟨w.heap.size, 0, none⟩) 2 [a, b] := by
  refine ⟨rfl, fun _ => ⟨_, rfl, by simp, fun j b hj => ?_⟩⟩
  match j, hj with
  | 0, hj => simp at hj; subst hj; simp [Addr.add]
  | 1, hj => simp at hj; subst hj; simp [Addr.add]
theorem RB.new1 (w : World) (a : UInt8) (g : Nat) (hg : g = w.heap.size) : RB (w.alloc (.cells #[.int .u8 (a.toNat : Int)] 5)) (some ⟨g, 0, none⟩) 1 [a] := by
  subst hg; exact RB.lit1 w a
theorem RB.new2 (w : World) (a b : UInt8) (g : Nat) (hg : g = w.heap.size) : RB (w.alloc (.cells #[.int .u8 (a.toNat : Int), .int .u8 (b.toNat : Int)] 5)) (some ⟨g, 0, none⟩) 2 [a, b] := by
  subst hg; exact RB.lit2 w a b
theorem quiet_left {P : Program} {f : FuncId} {args : Array Value} {w : World} {n : Nat} {v : Value}
    (h : Calls P f args (w.drewN n) fun e w' => e = .returned v ∧ w.drewN n = w') : Calls P f args (w.drewN n) fun e w'' => e = .returned v ∧ ∃ m, w'' = w.drewN m :=
  h.mono fun _ _ ⟨he, hm⟩ => ⟨he, n, hm.symm⟩
theorem quiet_qt {P : Program} {f : FuncId} {args : Array Value} {w : World} {n : Nat} {v : Value}
    (h : Calls P f args (w.drewN n) fun e w' => e = .returned v ∧ Qt (w.drewN n) w') : Calls P f args (w.drewN n) fun e w'' => e = .returned v ∧ ∃ m, w'' = w.drewN m :=
  h.mono fun _ _ ⟨he, hm⟩ => ⟨he, by obtain ⟨q, rfl⟩ := hm; exact ⟨n + q, World.drewN_drewN _ _ _⟩⟩
theorem ret_bool {a b : Bool} (h : a = b) : Ending.returned (.bool a) = .returned (.bool b) := by rw [h]
theorem ret_int {k : IntKind} {a b : Int} (h : a = b) : Ending.returned (.int k a) = .returned (.int k b) := by rw [h]
theorem ret2 {a b c d : Value} (h : a = b) (k : c = d) : Ending.returned (.tuple #[a, c]) = .returned (.tuple #[b, d]) := by rw [h, k]
theorem int_eq {k : IntKind} {a b : Int} (h : a = b) : Value.int k a = Value.int k b := by rw [h]
theorem ret_val {a b : Value} (h : a = b) : Ending.returned a = .returned b := by rw [h]
theorem u8_ne {x y : UInt8} (h : x ≠ y) : ((x.toNat : Int) != (y.toNat : Int)) = true := by
  have : x.toNat ≠ y.toNat := fun e => h (UInt8.toNat_inj.1 e)
  simp; omega
theorem u8_ne_eq {x y : UInt8} (h : x ≠ y) : ((x.toNat : Int) == (y.toNat : Int)) = false := by
  have : x.toNat ≠ y.toNat := fun e => h (UInt8.toNat_inj.1 e)
  simp; omega
theorem below_drewN {B : Nat} {a w : World} (h : Below B a w) (n : Nat) : Below B a (w.drewN n) := ⟨h.os, h.tape, h.output, h.size, h.block⟩
end Go.Proofs.YtfaocnboildjbaaDoor
/-
  A region that draws its order, walked once in the order of the text: each operation is shown for every world that has grown out of the first one, by what is known of the slots that it looks at. Nothing of the program.
-/
namespace Go.Proofs.YtfaocnboildjbaaDoor
set_option maxRecDepth 100000
open Go.RowKit
set_option linter.unusedVariables false

/-- w' has grown out of w: what was there is as it was. -/
abbrev Gr (w w' : World) : Prop := Below w.heap.size w w'
theorem Gr.refl (w : World) : Gr w w := Below.refl _ _
theorem Gr.trans {a b c : World} (h : Gr a b) (k : Gr b c) : Gr a c := Below.trans h (k.mono h.size)

theorem alloc_size (w : World) (o : Obj) : (w.alloc o).heap.size = w.heap.size + 1 := by simp
theorem drew_size (w : World) : w.drew.heap.size = w.heap.size := rfl
theorem setCell_size (w : World) (p : Addr) (u : Value) : (w.setCell p u).heap.size = w.heap.size := by simp
theorem gr_alloc {a b : World} (h : Gr a b) (o : Obj) : Gr a (b.alloc o) := Below.alloc h h.size o
theorem gr_drewN {a b : World} (h : Gr a b) (n : Nat) : Gr a (b.drewN n) := below_drewN h n
theorem gr_drew {a b : World} (h : Gr a b) : Gr a b.drew := Below.drew h
theorem gr_set {a b : World} (h : Gr a b) {p : Addr} (hp : a.heap.size ≤ p.block) (u : Value) : Gr a (b.setCell p u) := Below.setCell h hp u
theorem bcell {W w1 : World} (hb : Below W.heap.size W w1) : (∀ b o, b < W.heap.size → w1.cell? ⟨b, o, none⟩ = W.cell? ⟨b, o, none⟩) ∧ (∀ b o, b < W.heap.size → w1.frozen? ⟨b, o, none⟩ = W.frozen? ⟨b, o, none⟩) :=
  ⟨fun b o h => hb.cell (p := ⟨b, o, none⟩) h, fun b o h => hb.frozen (p := ⟨b, o, none⟩) h⟩

theorem acell {W w1 : World} (hb : Below W.heap.size W w1) : ∀ p : Addr, p.block < W.heap.size → w1.cell? p = W.cell? p := fun p h => hb.cell h
theorem name_world {P : Program} {c : Code} {Q : Exit → Act → World → Prop} {a : Act} {W : World} (h : ∀ W', W' = W → c.wp P Q a W') : c.wp P Q a W := h W rfl

theorem name_post {P : Program} {fn : Func} {R : Ending → World → Prop} {ex : Exit} {a : Act} {W : World} (h : ∀ W', W' = W → bodyPost P fn R ex a W') : bodyPost P fn R ex a W := h W rfl

/-- What is known of a slot. -/
inductive Slot where
  | is (v : Value)
  | sat (R : Value → World → Prop)
def Slot.Has : Slot → Value → World → Prop
  | .is x, v, _ => v = x
  | .sat R, v, w => R v w
/-- A way in which the world may go on. -/
structure Way (L : World → World → Prop) : Prop where
  refl : ∀ w, L w w
  trans : ∀ a b c, L a b → L b c → L a c
  draw : ∀ w : World, L w { w with drawn := w.drawn + 1 }
theorem way_gr : Way Gr := ⟨Gr.refl, fun _ _ _ h k => Gr.trans h k, fun _ => ⟨rfl, rfl, rfl, Nat.le_refl _, fun _ _ => rfl⟩⟩
/-- It stays as the world goes on. -/
def Slot.Kept (L : World → World → Prop) (s : Slot) : Prop := ∀ v w w', L w w' → s.Has v w → s.Has v w'
theorem Slot.kept_is (L : World → World → Prop) (v : Value) : (Slot.is v).Kept L := fun _ _ _ _ h => h

def fillS (ys : Nat → Value) : List Slot → Nat → List Value
  | [], _ => []
  | .is x :: σ, k => x :: fillS ys σ (k + 1)
  | .sat _ :: σ, k => ys k :: fillS ys σ (k + 1)
theorem fillS_length (ys : Nat → Value) : ∀ (σ : List Slot) (k : Nat), (fillS ys σ k).length = σ.length
  | [], _ => rfl
  | .is _ :: σ, k => by simp [fillS, fillS_length ys σ]
  | .sat _ :: σ, k => by simp [fillS, fillS_length ys σ]
theorem fillS_at (ys : Nat → Value) : ∀ (σ : List Slot) (k t : Nat), (fillS ys σ k)[t]? = (σ[t]?).map fun | .is x => x | .sat _ => ys (k + t)
  | [], _, _ => by simp [fillS]
  | .is _ :: σ, k, 0 => by simp [fillS]
  | .sat _ :: σ, k, 0 => by simp [fillS]
  | .is _ :: σ, k, t + 1 => by simp [fillS, fillS_at ys σ (k + 1) t, Nat.add_assoc, Nat.add_comm 1 t]
  | .sat _ :: σ, k, t + 1 => by simp [fillS, fillS_at ys σ (k + 1) t, Nat.add_assoc, Nat.add_comm 1 t]

section
variable {P : Program} {L : World → World → Prop} {ops : Array Oper} {W : World} {ds : List Deferred}
/-- The state of slots, the open ones filled. -/
def actS (ds : List Deferred) (σ : List Slot) (ys : Nat → Value) : Act := ⟨(fillS ys σ 0).toArray, ds⟩
def putS (σ : List Slot) (d : Option Tmp) (R : Slot) : List Slot := match d with | some d => σ.set d R | none => σ
theorem putS_length (σ : List Slot) (d : Option Tmp) (R : Slot) : (putS σ d R).length = σ.length := by cases d <;> simp [putS]

/-- What an operation leaves in its temporary, and the world behind it. -/
def Oper.val (P : Program) (ρ : Operand → Value) (o : Oper) (w : World) (N : Value → World → Prop) : Prop :=
  match (execOp ρ o).run P w with
  | .ok (.value v) w' => N v w'
  | .ok .skip w' => N undef w'
  | .ok (.enter f args) w' => Calls P f args w' fun e w'' => ∃ v, e = .returned v ∧ N v w''
  | _ => False
/-- One operation does what is said, in every world that has grown out of W. -/
def OpDoes (P : Program) (L : World → World → Prop) (ops : Array Oper) (W : World) (ds : List Deferred) (σ : List Slot) (o : Oper) (R : Slot) : Prop :=
  ∀ (ys : Nat → Value) (w : World) (N : Value → World → Prop), L W w →
    (∀ t ∈ o.looksAt ops, ∀ S, σ[t]? = some (Slot.sat S) → S (ys t) w) →
    (∀ v w', R.Has v w' → L w w' → N v w') →
    if Region.wanted o (yielded ops (actS ds σ ys).tmps) = true then Oper.val P (actS ds σ ys).eval o w N else N undef w

/-- What is known of the world by an operation that has no slot. -/
def addS (Φ : List Slot) (d : Option Tmp) (R : Slot) : List Slot := match d with | some _ => Φ | none => R :: Φ
def wpF (P : Program) (L : World → World → Prop) (ops : Array Oper) (W : World) (ds : List Deferred) (Kf : List Slot → List Slot → Prop) : List Oper → List Slot → List Slot → Prop
  | [], σ, Φ => Kf σ Φ
  | o :: rest, σ, Φ => ∃ R : Slot, R.Kept L ∧ OpDoes P L ops W ds σ o R ∧ wpF P L ops W ds Kf rest (putS σ o.dst R) (addS Φ o.dst R)

/-! ### What the text itself must be like -/
def ancB (ops : Array Oper) : Nat → Nat → Nat → Bool
  | 0, _, _ => false
  | f + 1, j, i => match ops[j]? with
    | none => false
    | some o => o.after.any fun e => Region.binds .any e && (e.on == i || ancB ops f e.on i)
/-- j looks at a slot that i writes: i stands ahead, and j waits for it; or it stands behind, and waits for j. -/
def dataB (ops : Array Oper) (n : Nat) : Bool :=
  (List.range n).all fun j => (List.range n).all fun i => match ops[i]?, ops[j]? with
    | some oi, some oj => (match oi.dst with
      | some t => !(oj.looksAt ops).contains t || i == j || (decide (i < j) && Region.waitsFor .any ops j i) || (decide (j < i) && ancB ops ops.size i j)
      | none => true)
    | _, _ => true
def onceB (ops : Array Oper) (n : Nat) : Bool :=
  (List.range n).all fun j => (List.range n).all fun i => i == j || match ops[i]?, ops[j]? with
    | some oi, some oj => (match oi.dst with | some t => oj.dst != some t | none => true)
    | _, _ => true
def backB (ops : Array Oper) : Bool := (List.range ops.size).all fun j => match ops[j]? with | some o => o.after.all fun e => !Region.binds .any e || decide (e.on < j) | none => true
def headOf (m n : Nat) : Array Bool := ((List.range m).map fun i => decide (i < n)).toArray
def textB (ops : Array Oper) (n : Nat) : Bool :=
  Region.noSelect ops && decide (n ≤ ops.size) && backB ops && onceB ops n && dataB ops n &&
  (decide (n = ops.size) || (Region.sinkB .any ops n && Region.chainB .any ops n)) && Region.seqB .any ops (ops.size - n) n (headOf ops.size n)

theorem ancB_spec {listed : Array Bool} (hc : ∀ j oj, ops[j]? = some oj → listed.getD j false = true → ∀ e ∈ oj.after, Region.binds .any e = true → listed.getD e.on false = true) :
    ∀ (f j i : Nat), ancB ops f j i = true → listed.getD j false = true → listed.getD i false = true
  | 0, _, _, h, _ => by cases h
  | f + 1, j, i, h, hl => by
    unfold ancB at h
    split at h
    · cases h
    · rename_i o ho
      obtain ⟨e, he, hb⟩ := Array.any_eq_true'.1 h
      simp only [Bool.and_eq_true, Bool.or_eq_true, beq_iff_eq] at hb
      have h1 := hc j o ho hl e he hb.1
      rcases hb.2 with rfl | h2
      · exact h1
      · exact ancB_spec hc f e.on i h2 h1

/-- The slots behind the first k operations, by what each of them leaves. -/
def stateS (ops : Array Oper) (σ0 : List Slot) (Rs : Nat → Slot) : Nat → List Slot
  | 0 => σ0
  | k + 1 => putS (stateS ops σ0 Rs k) ((ops[k]?).bind (·.dst)) (Rs k)
theorem stateS_length (σ0 : List Slot) (Rs : Nat → Slot) : ∀ k, (stateS ops σ0 Rs k).length = σ0.length
  | 0 => rfl
  | k + 1 => by simp [stateS, putS_length, stateS_length σ0 Rs k]
theorem stateS_none (σ0 : List Slot) (Rs : Nat → Slot) {t : Tmp} : ∀ k, (∀ i < k, (ops[i]?).bind (·.dst) ≠ some t) → (stateS ops σ0 Rs k)[t]? = σ0[t]?
  | 0, _ => rfl
  | k + 1, h => by
    have ih := stateS_none σ0 Rs k (fun i hi => h i (by omega))
    have hk := h k (by omega)
    unfold stateS putS
    cases hd : (ops[k]?).bind (·.dst) with
    | none => exact ih
    | some d =>
      have hne : d ≠ t := fun e => hk (by rw [hd, e])
      simp only [List.getElem?_set_ne hne]; exact ih
theorem stateS_some (σ0 : List Slot) (Rs : Nat → Slot) {t : Tmp} (ht : t < σ0.length) {i : Nat} (hi : (ops[i]?).bind (·.dst) = some t) :
    ∀ k, i < k → (∀ j, i < j → j < k → (ops[j]?).bind (·.dst) ≠ some t) → (stateS ops σ0 Rs k)[t]? = some (Rs i)
  | 0, h, _ => by omega
  | k + 1, h, hu => by
    unfold stateS putS
    by_cases hik : i = k
    · subst hik
      rw [hi]
      simp only
      rw [List.getElem?_set_self (by rw [stateS_length]; exact ht)]
    · have ih := stateS_some σ0 Rs ht hi k (by omega) (fun j h1 h2 => hu j h1 (by omega))
      have hk := hu k (by omega) (by omega)
      cases hd : (ops[k]?).bind (·.dst) with
      | none => exact ih
      | some d =>
        have hne : d ≠ t := fun e => hk (by rw [hd, e])
        simp only [List.getElem?_set_ne hne]; exact ih

/-- What the operations without a slot leave, the first k of them. -/
def factS (ops : Array Oper) (Rs : Nat → Slot) : Nat → List Slot
  | 0 => []
  | k + 1 => match ops[k]? with | some o => addS (factS ops Rs k) o.dst (Rs k) | none => factS ops Rs k
theorem factS_mem {Rs : Nat → Slot} : ∀ k, ∀ R ∈ factS ops Rs k, ∃ i, i < k ∧ R = Rs i ∧ ∃ o, ops[i]? = some o ∧ o.dst = none
  | 0, R, h => by cases h
  | k + 1, R, h => by
    unfold factS at h
    cases ho : ops[k]? with
    | none =>
      rw [ho] at h
      obtain ⟨i, h1, h2⟩ := factS_mem k R h
      exact ⟨i, by omega, h2⟩
    | some o =>
      rw [ho] at h
      simp only [addS] at h
      cases hd : o.dst with
      | some d =>
        rw [hd] at h
        obtain ⟨i, h1, h2⟩ := factS_mem k R h
        exact ⟨i, by omega, h2⟩
      | none =>
        rw [hd] at h
        rcases List.mem_cons.1 h with h | h
        · exact ⟨k, by omega, h, o, ho, hd⟩
        · obtain ⟨i, h1, h2⟩ := factS_mem k R h
          exact ⟨i, by omega, h2⟩
theorem wpF_unfold {Kf : List Slot → List Slot → Prop} {σ0 : List Slot} : ∀ (l : List Oper) (k : Nat) (σ Φ : List Slot) (Rs0 : Nat → Slot), (∀ j, j < l.length → l[j]? = ops[k + j]?) → stateS ops σ0 Rs0 k = σ → factS ops Rs0 k = Φ → wpF P L ops W ds Kf l σ Φ →
    ∃ Rs : Nat → Slot, (∀ i < k, Rs i = Rs0 i) ∧ (∀ i o, k ≤ i → i < k + l.length → ops[i]? = some o → (Rs i).Kept L ∧ OpDoes P L ops W ds (stateS ops σ0 Rs i) o (Rs i)) ∧ Kf (stateS ops σ0 Rs (k + l.length)) (factS ops Rs (k + l.length))
  | [], k, σ, Φ, Rs0, _, hσ, hΦ, h => ⟨Rs0, fun _ _ => rfl, fun i o h1 h2 => by simp at h2; omega, by simp only [List.length_nil, Nat.add_zero, hσ, hΦ]; exact h⟩
  | o :: l, k, σ, Φ, Rs0, hl, hσ, hΦ, h => by
    obtain ⟨R, hk, hd, hr⟩ := h
    have h0 : ops[k]? = some o := by simpa using (hl 0 (by simp)).symm
    have same : ∀ (A B : Nat → Slot) (m : Nat), (∀ i < m, A i = B i) → stateS ops σ0 A m = stateS ops σ0 B m := by
      intro A B m
      induction m with
      | zero => intro _; rfl
      | succ m ih => intro hab; simp only [stateS]; rw [ih (fun i hi => hab i (by omega)), hab m (by omega)]
    have sameF : ∀ (A B : Nat → Slot) (m : Nat), (∀ i < m, A i = B i) → factS ops A m = factS ops B m := by
      intro A B m
      induction m with
      | zero => intro _; rfl
      | succ m ih => intro hab; simp only [factS]; rw [ih (fun i hi => hab i (by omega)), hab m (by omega)]
    have hσ1 : stateS ops σ0 (fun i => if i = k then R else Rs0 i) (k + 1) = putS σ o.dst R := by
      simp only [stateS, h0, Option.bind_some, if_true]
      rw [← hσ, same _ Rs0 k (fun i hi => by simp [Nat.ne_of_lt hi])]
    have hΦ1 : factS ops (fun i => if i = k then R else Rs0 i) (k + 1) = addS Φ o.dst R := by
      simp only [factS, h0, if_true]
      rw [← hΦ, sameF _ Rs0 k (fun i hi => by simp [Nat.ne_of_lt hi])]
    obtain ⟨Rs, h1, h2, h3⟩ := wpF_unfold l (k + 1) _ _ _ (fun j hj => by have := hl (j + 1) (by simp; omega); simpa [Nat.add_assoc, Nat.add_comm 1 j] using this) hσ1 hΦ1 hr
    refine ⟨Rs, fun i hi => by rw [h1 i (by omega)]; simp [Nat.ne_of_lt hi], fun i o' hi1 hi2 ho' => ?_, by simpa [Nat.add_assoc, Nat.add_comm 1] using h3⟩
    by_cases hik : i = k
    · subst hik
      have : o' = o := by rw [h0] at ho'; exact (Option.some.inj ho').symm
      subst this
      have hR : Rs i = R := by rw [h1 i (by omega)]; simp
      rw [hR, same Rs Rs0 i (fun j hj => by rw [h1 j (by omega)]; simp [Nat.ne_of_lt hj]), hσ]
      exact ⟨hk, hd⟩
    · exact h2 i o' (by omega) (by simp only [List.length_cons] at hi2; omega) ho'

/-- What is known, whichever of the operations have come up. -/
structure InvS (L : World → World → Prop) (ops : Array Oper) (n : Nat) (W : World) (ds : List Deferred) (σ0 : List Slot) (Rs : Nat → Slot) (listed : Array Bool) (a : Act) (w : World) : Prop where
  defers : a.defers = ds
  size : a.tmps.size = σ0.length
  grown : L W w
  done : ∀ t x i, a.tmps[t]? = some x → i < n → (ops[i]?).bind (·.dst) = some t → listed.getD i false = true → (Rs i).Has x w
  bare : ∀ i o, i < n → ops[i]? = some o → o.dst = none → listed.getD i false = true → ∃ v, (Rs i).Has v w
  open_ : ∀ t x S, a.tmps[t]? = some x → (∀ i < n, (ops[i]?).bind (·.dst) = some t → listed.getD i false = false) → σ0[t]? = some S → S.Has x w

theorem onceB_spec {n : Nat} (h : onceB ops n = true) {i j : Nat} {t : Tmp} (hi : i < n) (hj : j < n) (h1 : (ops[i]?).bind (·.dst) = some t) (h2 : (ops[j]?).bind (·.dst) = some t) : i = j := by
  have := List.all_eq_true.1 (List.all_eq_true.1 h j (List.mem_range.2 hj)) i (List.mem_range.2 hi)
  obtain ⟨oi, hoi, hdi⟩ := Option.bind_eq_some_iff.1 h1
  obtain ⟨oj, hoj, hdj⟩ := Option.bind_eq_some_iff.1 h2
  simp only [hoi, hoj, hdi, hdj, Bool.or_eq_true, beq_iff_eq] at this
  rcases this with h | h
  · exact h
  · simp at h
theorem dataB_spec {n : Nat} (h : dataB ops n = true) {i j : Nat} {t : Tmp} {oj : Oper} (hi : i < n) (hj : j < n) (h1 : (ops[i]?).bind (·.dst) = some t) (h2 : ops[j]? = some oj) (hl : t ∈ oj.looksAt ops) :
    i = j ∨ (i < j ∧ Region.waitsFor .any ops j i = true) ∨ (j < i ∧ ancB ops ops.size i j = true) := by
  have := List.all_eq_true.1 (List.all_eq_true.1 h j (List.mem_range.2 hj)) i (List.mem_range.2 hi)
  obtain ⟨oi, hoi, hdi⟩ := Option.bind_eq_some_iff.1 h1
  simp only [hoi, h2, hdi, Bool.or_eq_true, beq_iff_eq, Bool.and_eq_true, decide_eq_true_eq, Bool.not_eq_true', List.contains_eq_mem, decide_eq_false_iff_not] at this
  rcases this with ((h | h) | h) | h
  · exact absurd hl h
  · exact .inl h
  · exact .inr (.inl h)
  · exact .inr (.inr h)

theorem invS_step (way : Way L) {n : Nat} {σ0 : List Slot} {Rs : Nat → Slot} {Q : Exit → Act → World → Prop} (hsel : Region.noSelect ops = true) (honce : onceB ops n = true) (hdata : dataB ops n = true)
    (hdo : ∀ i o, i < n → ops[i]? = some o → (Rs i).Kept L ∧ OpDoes P L ops W ds (stateS ops σ0 Rs i) o (Rs i)) (h0k : ∀ S ∈ σ0, S.Kept L)
    {listed : Array Bool} {a : Act} {w : World} (hcl : ∀ j oj, ops[j]? = some oj → listed.getD j false = true → ∀ e ∈ oj.after, Region.binds .any e = true → listed.getD e.on false = true)
    (hls : listed.size = ops.size) (inv : InvS L ops n W ds σ0 Rs listed a w) {j : Nat} (hj : j ∈ Region.ready .any ops listed) (hjn : j < n) {K : Act → World → Prop}
    (hK : ∀ a' w', InvS L ops n W ds σ0 Rs (listed.setIfInBounds j true) a' w' → K a' w') : wpOp P ops Q j K a w := by
  obtain ⟨hjun, oj, hoj, hall⟩ := mem_ready.1 hj
  have hjs : j < ops.size := (Array.getElem?_eq_some_iff.1 hoj).1
  have hjunF : listed.getD j false = false := by rw [← hls] at hjs; simp [hjs] at hjun ⊢; exact hjun
  obtain ⟨hkept, hdoes⟩ := hdo j oj hjn hoj
  obtain ⟨ys, hys⟩ : ∃ ys : Nat → Value, ys = fun t => a.tmps.getD t undef := ⟨_, rfl⟩
  have hlen : (stateS ops σ0 Rs j).length = a.tmps.size := by rw [stateS_length, inv.size]
  -- the slots that it looks at are as said
  have hlook : ∀ t ∈ oj.looksAt ops, ∀ x, a.tmps[t]? = some x → ∃ S, (stateS ops σ0 Rs j)[t]? = some S ∧ S.Has x w := by
    intro t ht x hx
    have htl : t < σ0.length := by rw [← inv.size]; exact (Array.getElem?_eq_some_iff.1 hx).1
    by_cases hw : ∃ i, i < n ∧ (ops[i]?).bind (·.dst) = some t
    · obtain ⟨i, hin, hdi⟩ := hw
      rcases dataB_spec hdata hin hjn hdi hoj ht with h | ⟨h1, h2⟩ | ⟨h1, h2⟩
      · subst h
        refine ⟨_, ?_, inv.open_ t x _ hx (fun k hk hdk => by rw [onceB_spec honce hk hin hdk hdi]; exact hjunF) (List.getElem?_eq_getElem htl)⟩
        rw [stateS_none σ0 Rs i (fun k hk hdk => by have := onceB_spec honce (by omega) hin hdk hdi; omega), List.getElem?_eq_getElem htl]
      · obtain ⟨o', ho', e, he, hb, hon⟩ := Region.waitsFor_spec h2
        have : o' = oj := by rw [hoj] at ho'; exact (Option.some.inj ho').symm
        subst this
        have hli : listed.getD i false = true := by rw [← hon]; exact hall e he hb
        exact ⟨_, stateS_some σ0 Rs htl hdi j h1 (fun k hk1 hk2 hdk => by have := onceB_spec honce (by omega) hin hdk hdi; omega), inv.done t x i hx hin hdi hli⟩
      · have hiun : listed.getD i false = false := by
          cases hli : listed.getD i false with
          | false => rfl
          | true => have := ancB_spec hcl _ i j h2 hli; rw [hjunF] at this; cases this
        refine ⟨_, ?_, inv.open_ t x _ hx (fun k hk hdk => by rw [onceB_spec honce hk hin hdk hdi]; exact hiun) (List.getElem?_eq_getElem htl)⟩
        rw [stateS_none σ0 Rs j (fun k hk hdk => by have := onceB_spec honce (by omega) hin hdk hdi; omega), List.getElem?_eq_getElem htl]
    · refine ⟨_, ?_, inv.open_ t x _ hx (fun k hk hdk => absurd ⟨k, hk, hdk⟩ hw) (List.getElem?_eq_getElem htl)⟩
      rw [stateS_none σ0 Rs j (fun k hk hdk => hw ⟨k, by omega, hdk⟩), List.getElem?_eq_getElem htl]
  have hsame : ∀ t ∈ oj.looksAt ops, (actS ds (stateS ops σ0 Rs j) ys).tmps[t]? = a.tmps[t]? := by
    intro t ht
    have e1 : (actS ds (stateS ops σ0 Rs j) ys).tmps[t]? = ((stateS ops σ0 Rs j)[t]?).map fun | .is x => x | .sat _ => ys (0 + t) := by
      unfold actS; simp only [List.getElem?_toArray]; exact fillS_at ys _ 0 t
    rw [e1]
    cases hx : a.tmps[t]? with
    | none =>
      have : a.tmps.size ≤ t := Array.getElem?_eq_none_iff.1 hx
      rw [List.getElem?_eq_none (by rw [hlen]; exact this)]; rfl
    | some x =>
      obtain ⟨S, hS, hh⟩ := hlook t ht x hx
      rw [hS]
      cases S with
      | is y => have hxy : x = y := hh; subst hxy; rfl
      | sat R => simp [hys, hx]
  have heval : ∀ x ∈ oj.op.operands, (actS ds (stateS ops σ0 Rs j) ys).eval x = a.eval x := by
    intro x hx
    cases x with
    | tmp t =>
      have := hsame t (List.mem_append_left _ (List.mem_filterMap.2 ⟨.tmp t, by simpa using hx, rfl⟩))
      simp only [Act.eval, Array.getD_eq_getD_getElem?, this]
    | _ => rfl
  have hex : execOp (actS ds (stateS ops σ0 Rs j) ys).eval oj = execOp a.eval oj := execOp_congr oj (fun cs b => Region.noSelect_spec hsel j oj cs b hoj) heval
  have hwant : Region.wanted oj (yielded ops (actS ds (stateS ops σ0 Rs j) ys).tmps) = Region.wanted oj (yielded ops a.tmps) := by
    unfold Region.wanted
    cases hg : oj.guard with
    | none => rfl
    | some gw =>
      obtain ⟨g, want⟩ := gw
      have hy : yielded ops (actS ds (stateS ops σ0 Rs j) ys).tmps g = yielded ops a.tmps g := by
        unfold yielded
        cases ht : (ops[g]?).bind (·.dst) with
        | none => rfl
        | some t =>
          have := hsame t (List.mem_append_right _ (by simp [hg, ht]))
          simp [this]
      simp only [hy]
  -- what it leaves
  have hput : ∀ v w', (Rs j).Has v w' → L w w' → K (a.put oj.dst v) w' := by
    intro v w' hv hgw
    refine hK _ _ ⟨?_, ?_, way.trans _ _ _ inv.grown hgw, ?_, ?_, ?_⟩
    · cases oj.dst <;> exact inv.defers
    · cases hd : oj.dst <;> simp [Act.put, inv.size]
    · intro t x i hx hin hdi hli
      by_cases hij : i = j
      · subst hij
        rw [hoj] at hdi
        have hdi' : oj.dst = some t := hdi
        rw [hdi'] at hx
        have : t < a.tmps.size := by
          have := (Array.getElem?_eq_some_iff.1 hx).1
          simpa [Act.put] using this
        simp only [Act.put, Array.getElem?_setIfInBounds_self_of_lt this, Option.some.injEq] at hx
        subst hx; exact hv
      · have hx' : a.tmps[t]? = some x := by
          cases hd : oj.dst with
          | none => rw [hd] at hx; exact hx
          | some d =>
            have hne : d ≠ t := fun e => hij (onceB_spec honce hin hjn hdi (by rw [hoj]; subst e; exact hd))
            rw [hd] at hx
            simpa [Act.put, Array.getElem?_setIfInBounds_ne hne] using hx
        rw [getD_set_ne false (Ne.symm hij)] at hli
        exact (by obtain ⟨o, ho, _⟩ := Option.bind_eq_some_iff.1 hdi; exact (hdo i o hin ho).1 : (Rs i).Kept L) x w w' hgw (inv.done t x i hx' hin hdi hli)
    · intro i o hin ho hd hli
      by_cases hij : i = j
      · subst hij; exact ⟨v, hv⟩
      · rw [getD_set_ne false (Ne.symm hij)] at hli
        obtain ⟨u, hu⟩ := inv.bare i o hin ho hd hli
        exact ⟨u, (hdo i o hin ho).1 u w w' hgw hu⟩
    · intro t x S hx hno hS
      have hx' : a.tmps[t]? = some x := by
        cases hd : oj.dst with
        | none => rw [hd] at hx; exact hx
        | some d =>
          have hne : d ≠ t := fun e => by
            have := hno j hjn (by rw [hoj]; subst e; exact hd)
            rw [← hls] at hjs
            simp [hjs] at this
          rw [hd] at hx
          simpa [Act.put, Array.getElem?_setIfInBounds_ne hne] using hx
      refine h0k S (List.mem_of_getElem? hS) x w w' hgw (inv.open_ t x S hx' (fun i hin hdi => ?_) hS)
      have := hno i hin hdi
      by_cases hij : i = j
      · subst hij; exact hjunF
      · rwa [getD_set_ne false (Ne.symm hij)] at this
  have H := hdoes ys w (fun v w' => K (a.put oj.dst v) w') inv.grown
    (fun t ht S hS => by
      have htl : t < a.tmps.size := by rw [← hlen]; exact (List.getElem?_eq_some_iff.1 hS).1
      obtain ⟨S', h1, h2⟩ := hlook t ht _ (Array.getElem?_eq_getElem htl)
      rw [hS] at h1
      injection h1 with h1
      subst h1
      have : ys t = a.tmps[t] := by rw [hys]; simp [htl]
      rw [this]; exact h2) hput
  unfold wpOp
  simp only [hoj]
  rw [hwant] at H
  split
  · rename_i hw
    simp only [hw, if_true] at H
    refine .inl ?_
    unfold Oper.val at H
    unfold Oper.wp
    rw [hex] at H
    generalize (execOp a.eval oj).run P w = r at *
    cases r with
    | ok nx w' =>
      cases nx <;> simp only [Oper.upon] at H ⊢
      case value u => exact H
      case skip => exact H
      case enter f args => exact Calls.mono H fun e w'' ⟨v, he, hk⟩ => by subst he; exact hk
    | halt x w' => simp only at H
  · rename_i hw
    simp only [hw] at H
    exact H

theorem headOf_at (m n i : Nat) : (headOf m n)[i]? = if i < m then some (decide (i < n)) else none := by
  unfold headOf
  simp only [List.getElem?_toArray, List.getElem?_map]
  by_cases h : i < m
  · rw [List.getElem?_range h]; simp [h]
  · rw [List.getElem?_eq_none (by simp; omega)]; simp [h]

theorem wpAny_facts (way : Way L) {n : Nat} {σ0 : List Slot} {Rs : Nat → Slot} {Q : Exit → Act → World → Prop} (hsel : Region.noSelect ops = true) (honce : onceB ops n = true) (hdata : dataB ops n = true) (hback : backB ops = true)
    (hn : n ≤ ops.size) (htail : n = ops.size ∨ (Region.sinkB .any ops n = true ∧ Region.chainB .any ops n = true))
    (hdo : ∀ i o, i < n → ops[i]? = some o → (Rs i).Kept L ∧ OpDoes P L ops W ds (stateS ops σ0 Rs i) o (Rs i)) (h0k : ∀ S ∈ σ0, S.Kept L)
    (hQ : ∀ a w, InvS L ops n W ds σ0 Rs (headOf ops.size n) a w → wpAny P .any ops Q (ops.size - n) (headOf ops.size n) a w) :
    ∀ (f : Nat) (listed : Array Bool) (a : Act) (w : World), ((List.range n).filter fun i => !listed.getD i false).length = f → HeadInv .any ops n listed → InvS L ops n W ds σ0 Rs listed a w →
      wpAny P .any ops Q (f + (ops.size - n)) listed a w
  | 0, listed, a, w, hf, hi, inv => by
    have hall : ∀ i, i < n → listed.getD i false = true := fun i hin => by
      cases hl : listed.getD i false with
      | true => rfl
      | false =>
        have : i ∈ (List.range n).filter fun i => !listed.getD i false := List.mem_filter.2 ⟨List.mem_range.2 hin, by rw [hl]; rfl⟩
        rw [List.length_eq_zero_iff.1 hf] at this; cases this
    have he : listed = headOf ops.size n := by
      apply Array.ext_getElem?
      intro i
      rw [headOf_at]
      by_cases his : i < ops.size
      · rw [if_pos his]
        have hil : i < listed.size := by rw [hi.size]; exact his
        rw [Array.getElem?_eq_getElem hil]
        by_cases hin : i < n
        · have := hall i hin
          simp [hil] at this
          simp [hin, this]
        · have := hi.tail i (by omega) his
          simp [hil] at this
          simp [hin, this]
      · rw [if_neg his, Array.getElem?_eq_none (by rw [hi.size]; omega)]
    subst he
    rw [Nat.zero_add]
    exact hQ a w inv
  | f + 1, listed, a, w, hf, hi, inv => by
    rw [show f + 1 + (ops.size - n) = (f + (ops.size - n)) + 1 by omega]
    -- the first that has not come up may come up
    have hex : ∃ i, i < n ∧ listed.getD i false = false := by
      cases hfil : (List.range n).filter fun i => !listed.getD i false with
      | nil => rw [hfil] at hf; cases hf
      | cons x xs =>
        have : x ∈ (List.range n).filter fun i => !listed.getD i false := by rw [hfil]; exact List.mem_cons_self
        obtain ⟨h1, h2⟩ := List.mem_filter.1 this
        exact ⟨x, List.mem_range.1 h1, by simpa using h2⟩
    have hready : ∃ i, i ∈ Region.ready .any ops listed := by
      obtain ⟨i0, hin0, hun0⟩ := hex
      revert hin0 hun0
      refine Nat.strongRecOn i0 fun i ih hin hun => ?_
      · have his : i < ops.size := by omega
        by_cases hall : ∀ e ∈ ops[i].after, Region.binds .any e = true → listed.getD e.on false = true
        · refine ⟨i, mem_ready.2 ⟨?_, ops[i], Array.getElem?_eq_getElem his, hall⟩⟩
          have hil : i < listed.size := by rw [hi.size]; exact his
          simp [hil] at hun ⊢; exact hun
        · have : ∃ e ∈ ops[i].after, Region.binds .any e = true ∧ listed.getD e.on false = false := by
            apply Classical.byContradiction
            intro hc
            apply hall
            intro e he hb
            cases hl : listed.getD e.on false with
            | true => rfl
            | false => exact absurd ⟨e, he, hb, hl⟩ hc
          obtain ⟨e, he, hb, hl⟩ := this
          have h1 := List.all_eq_true.1 hback i (List.mem_range.2 his)
          simp only [Array.getElem?_eq_getElem his] at h1
          have h2 := Array.all_eq_true_iff_forall_mem.1 h1 e he
          simp only [hb, Bool.not_true, Bool.false_or, decide_eq_true_eq] at h2
          exact ih e.on h2 (by omega) hl
    refine ⟨fun h0 => by obtain ⟨i, hi2⟩ := hready; rw [h0] at hi2; exact (List.not_mem_nil hi2).elim, fun j hj => ?_⟩
    have hjn : j < n := by
      rcases htail with he | ⟨hs, hc⟩
      · obtain ⟨_, o, ho, _⟩ := mem_ready.1 hj
        have := (Array.getElem?_eq_some_iff.1 ho).1
        omega
      · rcases Nat.lt_or_ge j n with h | h
        · exact h
        · obtain ⟨i, hin, hun⟩ := hex
          have hjs : j < ops.size := by obtain ⟨_, o, ho, _⟩ := mem_ready.1 hj; exact (Array.getElem?_eq_some_iff.1 ho).1
          exact absurd hj (tail_waits hs hc (by omega) hi _ i rfl hin (by
            have hil : i < listed.size := by rw [hi.size]; omega
            simp [hil] at hun ⊢; exact hun) j h)
    refine invS_step way hsel honce hdata hdo h0k hi.closed hi.size inv hj hjn (fun a' w' inv' => wpAny_facts way hsel honce hdata hback hn htail hdo h0k hQ f _ a' w' ?_ (hi.set hj hjn) inv')
    have hjl : j < listed.size := by rw [hi.size]; omega
    have hjun : listed.getD j false = false := by
      have := (mem_ready.1 hj).1
      simp [hjl] at this ⊢; exact this
    -- one less is left
    have : ∀ (l : List Nat), l.Nodup → j ∈ l → (l.filter fun i => !(listed.setIfInBounds j true).getD i false).length + 1 = (l.filter fun i => !listed.getD i false).length := by
      intro l
      induction l with
      | nil => intro _ h; cases h
      | cons x l ih =>
        intro hnd hm
        obtain ⟨hx, hnd'⟩ := List.nodup_cons.1 hnd
        rcases List.mem_cons.1 hm with rfl | hm'
        · have e1 : (listed.setIfInBounds j true).getD j false = true := by simp [hjl]
          have e2 : (l.filter fun i => !(listed.setIfInBounds j true).getD i false) = l.filter fun i => !listed.getD i false :=
            List.filter_congr fun i hi' => by rw [getD_set_ne false (fun e => hx (by rw [e]; exact hi'))]
          rw [List.filter_cons_of_neg (by rw [e1]; simp), List.filter_cons_of_pos (by rw [hjun]; rfl), e2, List.length_cons]
        · have hne : j ≠ x := fun e => hx (by rw [← e]; exact hm')
          have ih' := ih hnd' hm'
          by_cases hlx : listed.getD x false = true
          · rw [List.filter_cons_of_neg (by rw [getD_set_ne false hne, hlx]; simp), List.filter_cons_of_neg (by rw [hlx]; simp)]; exact ih'
          · have hlx' : listed.getD x false = false := by simpa using hlx
            rw [List.filter_cons_of_pos (by rw [getD_set_ne false hne, hlx']; rfl), List.filter_cons_of_pos (by rw [hlx']; rfl), List.length_cons, List.length_cons]; omega
    have h := this (List.range n) List.nodup_range (List.mem_range.2 hjn)
    omega

/-- Is the operation wanted? Told by what is known of the slots. -/
def wantS (ops : Array Oper) (σ : List Slot) (o : Oper) : Option Bool :=
  match o.guard with
  | none => some true
  | some (g, want) => match (ops[g]?).bind (·.dst) with
    | some d => match σ[d]? with
      | some (.is v) => match v with
        | .bool b => some (b == want)
        | _ => some false
      | _ => none
    | none => none
theorem wantS_spec {σ : List Slot} {o : Oper} {b : Bool} (h : wantS ops σ o = some b) (ys : Nat → Value) : Region.wanted o (yielded ops (actS ds σ ys).tmps) = b := by
  unfold wantS at h
  unfold Region.wanted
  cases hg : o.guard with
  | none => rw [hg] at h; exact Option.some.inj h
  | some gw =>
    obtain ⟨g, want⟩ := gw
    simp only [hg] at h ⊢
    cases hd : (ops[g]?).bind (·.dst) with
    | none => rw [hd] at h; cases h
    | some d =>
      simp only [hd] at h
      unfold yielded
      simp only [hd, Option.bind_some]
      have e : (actS ds σ ys).tmps[d]? = (σ[d]?).map fun | .is x => x | .sat _ => ys (0 + d) := by
        unfold actS; simp only [List.getElem?_toArray]; exact fillS_at ys _ 0 d
      rw [e]
      cases hs : σ[d]? with
      | none => rw [hs] at h; cases h
      | some S =>
        rw [hs] at h
        cases S with
        | sat R => cases h
        | is x =>
          cases x with
          | bool c =>
            simp only [Option.some.injEq] at h
            subst h
            simp only [Option.map_some]
            cases c <;> cases want <;> rfl
          | _ =>
            obtain rfl : false = b := by simpa using h
            rfl
/-- An operation that is wanted, and leaves a value that is known. -/
theorem wpF_val {Kf : List Slot → List Slot → Prop} {o : Oper} {rest : List Oper} {σ Φ : List Slot} {v : Value} (hw : wantS ops σ o = some true)
    (hd : ∀ (ys : Nat → Value) (w : World) (N : Value → World → Prop), L W w → (∀ w', L w w' → N v w') → Oper.val P (actS ds σ ys).eval o w N)
    (h : wpF P L ops W ds Kf rest (putS σ o.dst (.is v)) (addS Φ o.dst (.is v))) : wpF P L ops W ds Kf (o :: rest) σ Φ :=
  ⟨.is v, Slot.kept_is L v, fun ys w N hG _ hN => by rw [if_pos (wantS_spec hw ys)]; exact hd ys w N hG fun w' hg => hN v w' rfl hg, h⟩
/-- One that is not wanted. -/
theorem wpF_skip (way : Way L) {Kf : List Slot → List Slot → Prop} {o : Oper} {rest : List Oper} {σ Φ : List Slot} (hw : wantS ops σ o = some false)
    (h : wpF P L ops W ds Kf rest (putS σ o.dst (.is undef)) (addS Φ o.dst (.is undef))) : wpF P L ops W ds Kf (o :: rest) σ Φ :=
  ⟨.is undef, Slot.kept_is L _, fun ys w N _ _ hN => by rw [if_neg (by rw [wantS_spec hw ys]; exact Bool.false_ne_true)]; exact hN undef w rfl (way.refl _), h⟩
/-- One whose slot is open behind it, or that looks at an open slot. -/
theorem wpF_sat {Kf : List Slot → List Slot → Prop} {o : Oper} {rest : List Oper} {σ Φ : List Slot} (R : Slot) (hk : R.Kept L) (hw : wantS ops σ o = some true)
    (hd : ∀ (ys : Nat → Value) (w : World) (N : Value → World → Prop), L W w → (∀ t ∈ o.looksAt ops, ∀ S, σ[t]? = some (Slot.sat S) → S (ys t) w) → (∀ v w', R.Has v w' → L w w' → N v w') → Oper.val P (actS ds σ ys).eval o w N)
    (h : wpF P L ops W ds Kf rest (putS σ o.dst R) (addS Φ o.dst R)) : wpF P L ops W ds Kf (o :: rest) σ Φ :=
  ⟨R, hk, fun ys w N hG hF hN => by rw [if_pos (wantS_spec hw ys)]; exact hd ys w N hG hF hN, h⟩
attribute [go_sem] Oper.val

/-- The frame behind the region's head: what is known of each slot. -/
def EndS (L : World → World → Prop) (W : World) (ds : List Deferred) (σ Φ : List Slot) (T : Act → World → Prop) : Prop :=
  ∀ (ys : Nat → Value) (w : World), L W w → (∀ t S, σ[t]? = some (Slot.sat S) → S (ys t) w) → (∀ S ∈ Φ, ∃ v, S.Has v w) → T (actS ds σ ys) w

/-- A region that draws: its first n operations in the order of the text, each for every world that has grown; then the others, which come in one order. -/
theorem wp_region_way (way : Way L) {id : Nat} {Q : Exit → Act → World → Prop} {a : Act} {w : World} {l : List Oper} (n : Nat) (hm : P.follows .mixedOrders = true) (hB : textB l.toArray n = true)
    (h : wpF P L l.toArray w a.defers (fun σ Φ => EndS L w a.defers σ Φ fun a' w' => wpList P l.toArray Q (l.drop n) a' w') (l.take n) (a.tmps.toList.map Slot.is) []) : (Code.region id l.toArray true).wp P Q a w := by
  simp only [textB, Bool.and_eq_true, Bool.or_eq_true, decide_eq_true_eq] at hB
  obtain ⟨⟨⟨⟨⟨⟨hsel, hn⟩, hback⟩, honce⟩, hdata⟩, htail⟩, hseq⟩ := hB
  have hn' : n ≤ l.length := by simpa using hn
  have htl : (l.take n).length = n := by simp; omega
  have hdl : (l.drop n).length = l.toArray.size - n := by simp
  obtain ⟨Rs, _, hdo, hend⟩ := wpF_unfold (l.take n) 0 _ _ (fun _ => Slot.is undef) (fun j hj => by
    have hj' : j < n := by rw [htl] at hj; exact hj
    simp [hj']) rfl rfl h
  rw [Nat.zero_add, htl] at hdo hend
  refine wp_region_any hm ?_
  have inv0 : HeadInv .any l.toArray n (Array.replicate l.toArray.size false) :=
    ⟨by simp, fun j oj _ hl => (by rw [getD_replicate_false] at hl; cases hl), fun t _ ht => getD_in (by simpa using ht) (getD_replicate_false _ _)⟩
  have hcount : ((List.range n).filter fun i => !(Array.replicate l.toArray.size false).getD i false).length = n := by
    rw [List.filter_eq_self.2 (fun i _ => by rw [getD_replicate_false]; rfl), List.length_range]
  have H := wpAny_facts (P := P) (L := L) way (W := w) (ds := a.defers) (σ0 := a.tmps.toList.map Slot.is) (Rs := Rs) (Q := Q) hsel honce hdata hback hn htail
    (fun i o hi ho => hdo i o (Nat.zero_le _) hi ho) (fun S hS => by obtain ⟨v, _, rfl⟩ := List.mem_map.1 hS; exact Slot.kept_is L v)
    (fun a' w' inv => by
      have := wpAny_of_seq (md := .any) (P := P) (ops := l.toArray) (Q' := Q) (l.drop n) n (headOf l.toArray.size n) a' w' (fun j => by simp [List.getElem?_drop]) (by rw [hdl]; exact hseq) ?_
      · rwa [hdl] at this
      · have hsz : (stateS l.toArray (a.tmps.toList.map Slot.is) Rs n).length = a'.tmps.size := by rw [stateS_length, inv.size]
        have hk : ∀ t (ht : t < a'.tmps.size), ∃ S, (stateS l.toArray (a.tmps.toList.map Slot.is) Rs n)[t]? = some S ∧ S.Has a'.tmps[t] w' := by
          intro t ht
          have htl0 : t < (a.tmps.toList.map Slot.is).length := by rw [← inv.size]; exact ht
          by_cases hw : ∃ i, i < n ∧ (l.toArray[i]?).bind (·.dst) = some t
          · obtain ⟨i, hin, hdi⟩ := hw
            refine ⟨_, stateS_some _ Rs htl0 hdi n hin (fun k hk1 hk2 hdk => by have := onceB_spec honce hk2 hin hdk hdi; omega), inv.done t _ i (Array.getElem?_eq_getElem ht) hin hdi ?_⟩
            have his : i < l.length := by omega
            simp [headOf_at, hin, his]
          · refine ⟨_, ?_, inv.open_ t _ _ (Array.getElem?_eq_getElem ht) (fun k hk hdk => absurd ⟨k, hk, hdk⟩ hw) (List.getElem?_eq_getElem htl0)⟩
            rw [stateS_none _ Rs n (fun k hk hdk => hw ⟨k, hk, hdk⟩), List.getElem?_eq_getElem htl0]
        have ha : actS a.defers (stateS l.toArray (a.tmps.toList.map Slot.is) Rs n) (fun t => a'.tmps.getD t undef) = a' := by
          obtain ⟨tm, df⟩ := a'
          have hd := inv.defers
          simp only at hd hk hsz
          subst hd
          unfold actS
          congr 1
          apply Array.ext_getElem?
          intro t
          simp only [List.getElem?_toArray]
          rw [fillS_at]
          by_cases ht : t < tm.size
          · obtain ⟨S, hS, hh⟩ := hk t ht
            rw [hS]
            cases S with
            | is y => have : tm[t] = y := hh; simp [ht, this]
            | sat R => simp [ht]
          · rw [List.getElem?_eq_none (by rw [hsz]; omega), Array.getElem?_eq_none (by omega)]; rfl
        have := hend (fun t => a'.tmps.getD t undef) w' inv.grown (fun t S hS => by
          have ht : t < a'.tmps.size := by rw [← hsz]; exact (List.getElem?_eq_some_iff.1 hS).1
          obtain ⟨S', h1, h2⟩ := hk t ht
          rw [hS] at h1
          injection h1 with h1
          subst h1
          have h3 : S a'.tmps[t] w' := h2
          simpa [ht] using h3) (fun S hS => by
          obtain ⟨i, hin, rfl, o, ho, hd⟩ := factS_mem n S hS
          refine inv.bare i o hin ho hd ?_
          have his : i < l.length := by omega
          simp [headOf_at, hin, his])
        rwa [ha] at this)
    n (Array.replicate l.toArray.size false) a { w with drawn := w.drawn + 1 } hcount inv0
    ⟨rfl, by simp, way.draw _, fun t x i _ _ _ hl => (by rw [getD_replicate_false] at hl; cases hl), fun i o _ _ _ hl => (by rw [getD_replicate_false] at hl; cases hl), fun t x S hx _ hS => by
      rw [List.getElem?_map, Array.getElem?_toList, hx] at hS
      injection hS with hS
      subst hS; rfl⟩
  rw [show n + (l.toArray.size - n) = l.toArray.size by omega] at H
  exact H
theorem wpF_end {T : Act → World → Prop} {σ Φ : List Slot} (h : ∀ (ys : Nat → Value) (w : World), L W w → (∀ t S, σ[t]? = some (Slot.sat S) → S (ys t) w) → (∀ S ∈ Φ, ∃ v, S.Has v w) → T (actS ds σ ys) w) :
    wpF P L ops W ds (fun σ Φ => EndS L W ds σ Φ T) [] σ Φ := h
/-- Where nothing is written: the world grows. -/
theorem wp_region_facts {id : Nat} {Q : Exit → Act → World → Prop} {a : Act} {w : World} {l : List Oper} (n : Nat) (hm : P.follows .mixedOrders = true) (hB : textB l.toArray n = true)
    (h : wpF P Gr l.toArray w a.defers (fun σ Φ => EndS Gr w a.defers σ Φ fun a' w' => wpList P l.toArray Q (l.drop n) a' w') (l.take n) (a.tmps.toList.map Slot.is) []) : (Code.region id l.toArray true).wp P Q a w :=
  wp_region_way way_gr n hm hB h
/-- The whole region. -/
theorem wp_region_whole (way : Way L) {id : Nat} {Q : Exit → Act → World → Prop} {a : Act} {w : World} {l : List Oper} (hm : P.follows .mixedOrders = true) (hB : textB l.toArray l.length = true)
    (h : wpF P L l.toArray w a.defers (fun σ Φ => EndS L w a.defers σ Φ fun a' w' => wpList P l.toArray Q [] a' w') l (a.tmps.toList.map Slot.is) []) : (Code.region id l.toArray true).wp P Q a w := by
  refine wp_region_way way l.length hm hB ?_
  rw [List.take_length, List.drop_length]; exact h
theorem wp_region_all {id : Nat} {Q : Exit → Act → World → Prop} {a : Act} {w : World} {l : List Oper} (hm : P.follows .mixedOrders = true) (hB : textB l.toArray l.length = true)
    (h : wpF P Gr l.toArray w a.defers (fun σ Φ => EndS Gr w a.defers σ Φ fun a' w' => wpList P l.toArray Q [] a' w') l (a.tmps.toList.map Slot.is) []) : (Code.region id l.toArray true).wp P Q a w :=
  wp_region_whole way_gr hm hB h
end

/-! ### Where blocks of the call's own are written -/
/-- The world grows, but for blocks bs; what is said of cells there is as it was said, once it is so. -/
structure Gs (bs : List Nat) (ps : List (Addr × Value)) (w w' : World) : Prop where
  os : w'.os = w.os
  tape : w'.tape = w.tape
  output : w'.output = w.output
  size : w.heap.size ≤ w'.heap.size
  block : ∀ k, k < w.heap.size → k ∉ bs → w'.heap[k]? = w.heap[k]?
  frozen : ∀ p : Addr, p.block ∈ bs → p.block < w.heap.size → w'.frozen? p = w.frozen? p
  some_ : ∀ p : Addr, p.block ∈ bs → (∃ v, w.cell? p = some v) → ∃ v, w'.cell? p = some v
  said : ∀ p ∈ ps, w.cell? p.1 = some p.2 → w'.cell? p.1 = some p.2
theorem Gs.refl (bs : List Nat) (ps : List (Addr × Value)) (w : World) : Gs bs ps w w := ⟨rfl, rfl, rfl, Nat.le_refl _, fun _ _ _ => rfl, fun _ _ _ => rfl, fun _ _ h => h, fun _ _ h => h⟩
theorem Gs.trans {bs : List Nat} {ps : List (Addr × Value)} {a b c : World} (h : Gs bs ps a b) (k : Gs bs ps b c) : Gs bs ps a c :=
  ⟨k.os.trans h.os, k.tape.trans h.tape, k.output.trans h.output, Nat.le_trans h.size k.size, fun i hi hn => (k.block i (Nat.lt_of_lt_of_le hi h.size) hn).trans (h.block i hi hn),
   fun p hp hi => (k.frozen p hp (Nat.lt_of_lt_of_le hi h.size)).trans (h.frozen p hp hi), fun p hp he => k.some_ p hp (h.some_ p hp he), fun p hp he => k.said p hp (h.said p hp he)⟩
theorem way_gs (bs : List Nat) (ps : List (Addr × Value)) : Way (Gs bs ps) :=
  ⟨Gs.refl bs ps, fun _ _ _ h k => Gs.trans h k, fun _ => ⟨rfl, rfl, rfl, Nat.le_refl _, fun _ _ _ => rfl, fun _ _ _ => rfl, fun _ _ h => h, fun _ _ h => h⟩⟩
theorem cell_block_lt {w : World} {p : Addr} {v : Value} (h : w.cell? p = some v) : p.block < w.heap.size := by
  unfold World.cell? at h
  rcases Nat.lt_or_ge p.block w.heap.size with hl | hl
  · exact hl
  · rw [Array.getElem?_eq_none hl] at h; cases h
theorem Gr.gs {w w' : World} (h : Gr w w') (bs : List Nat) (ps : List (Addr × Value)) : Gs bs ps w w' :=
  ⟨h.os, h.tape, h.output, h.size, fun k hk _ => h.block k hk, fun p _ hp => h.frozen hp, fun p _ ⟨v, hv⟩ => ⟨v, (h.cell (cell_block_lt hv)).trans hv⟩, fun p _ hv => (h.cell (cell_block_lt hv)).trans hv⟩
theorem Gs.set {bs : List Nat} {ps : List (Addr × Value)} {w : World} {p : Addr} {u : Value} (hp : p.block ∈ bs) (hs : ∀ q ∈ ps, q.1 = p → q.2 = u) : Gs bs ps w (w.setCell p u) := by
  refine ⟨rfl, rfl, rfl, by simp, fun k _ hn => Below.heap_setCell _ _ _ _ (fun e => hn (by rw [e]; exact hp)), fun q _ _ => by simp, fun q _ ⟨v, hv⟩ => ?_, fun q hq hv => ?_⟩
  · by_cases he : q = p
    · subst he; exact ⟨u, World.cell?_setCell_same _ _ _ hv⟩
    · exact ⟨v, by rw [World.cell?_setCell_other _ _ _ _ (fun e => he e.symm)]; exact hv⟩
  · by_cases he : q.1 = p
    · rw [hs q hq he, he]; rw [he] at hv; exact World.cell?_setCell_same _ _ _ hv
    · rw [World.cell?_setCell_other _ _ _ _ (fun e => he e.symm)]; exact hv
theorem Gs.cell {bs : List Nat} {ps : List (Addr × Value)} {w w' : World} (h : Gs bs ps w w') {p : Addr} (hp : p.block < w.heap.size) (hn : p.block ∉ bs) : w'.cell? p = w.cell? p := World.cell?_of_block (w := w) (h.block _ hp hn)
theorem gcell {bs : List Nat} {ps : List (Addr × Value)} {W w : World} (h : Gs bs ps W w) : (∀ b o, b < W.heap.size → b ∉ bs → w.cell? ⟨b, o, none⟩ = W.cell? ⟨b, o, none⟩) ∧ (∀ b o, b < W.heap.size → w.frozen? ⟨b, o, none⟩ = W.frozen? ⟨b, o, none⟩) :=
  ⟨fun b o hb hn => h.cell (p := ⟨b, o, none⟩) hb hn, fun b o hb => by
    by_cases hm : b ∈ bs
    · exact h.frozen ⟨b, o, none⟩ hm hb
    · exact World.frozen?_of_block (w := W) (a := ⟨b, o, none⟩) (h.block b hb hm)⟩
/-- What is said of the cells is so. -/
def saidS (ps : List (Addr × Value)) : Slot := .sat fun _ w => ∀ q ∈ ps, w.cell? q.1 = some q.2
theorem kept_said (bs : List Nat) (ps : List (Addr × Value)) : (saidS ps).Kept (Gs bs ps) := fun _ _ _ h ha q hq => h.said q hq (ha q hq)
/-- Cells of one block, from k on. -/
def cellsAt (b : Nat) : Nat → List Value → List (Addr × Value)
  | _, [] => []
  | k, v :: vs => (⟨b, k, none⟩, v) :: cellsAt b (k + 1) vs
def setCells (w : World) (b : Nat) : Nat → List Value → World
  | _, [] => w
  | k, v :: vs => setCells (w.setCell ⟨b, k, none⟩ v) b (k + 1) vs
theorem cellsAt_mem {b : Nat} : ∀ {vs : List Value} {k : Nat} {q : Addr × Value}, q ∈ cellsAt b k vs → ∃ i, vs[i]? = some q.2 ∧ q.1 = ⟨b, k + i, none⟩
  | [], _, _, h => by cases h
  | v :: vs, k, q, h => by
    rcases List.mem_cons.1 h with rfl | h
    · exact ⟨0, rfl, rfl⟩
    · obtain ⟨i, h1, h2⟩ := cellsAt_mem h
      exact ⟨i + 1, by simpa using h1, by rw [h2]; congr 1; omega⟩
theorem setCells_other {b : Nat} {p : Addr} : ∀ (vs : List Value) (k : Nat) (w : World), (∀ i, i < vs.length → p ≠ ⟨b, k + i, none⟩) → (setCells w b k vs).cell? p = w.cell? p
  | [], _, _, _ => rfl
  | v :: vs, k, w, h => by
    show (setCells (w.setCell ⟨b, k, none⟩ v) b (k + 1) vs).cell? p = _
    rw [setCells_other vs (k + 1) _ (fun i hi => by have := h (i + 1) (by simp; omega); rwa [show k + 1 + i = k + (i + 1) by omega]), World.cell?_setCell_other _ _ _ _ (fun e => h 0 (by simp) (by rw [← e]; rfl))]
theorem setCells_at {b : Nat} : ∀ (vs : List Value) (k : Nat) (w : World), (∀ i, i < vs.length → ∃ x, w.cell? ⟨b, k + i, none⟩ = some x) → ∀ i v, vs[i]? = some v → (setCells w b k vs).cell? ⟨b, k + i, none⟩ = some v
  | [], _, _, _, i, v, h => by simp at h
  | u :: vs, k, w, hex, 0, v, h => by
    show (setCells (w.setCell ⟨b, k, none⟩ u) b (k + 1) vs).cell? _ = _
    rw [setCells_other vs (k + 1) _ (fun i _ e => by injection e; omega)]
    have : u = v := by simpa using h
    subst this
    obtain ⟨x, hx⟩ := hex 0 (by simp)
    exact World.cell?_setCell_same _ _ _ hx
  | u :: vs, k, w, hex, i + 1, v, h => by
    have := setCells_at vs (k + 1) (w.setCell ⟨b, k, none⟩ u) (fun j hj => by
      obtain ⟨x, hx⟩ := hex (j + 1) (by simp; omega)
      exact ⟨x, by rw [World.cell?_setCell_other _ _ _ _ (fun e => by injection e; omega)]; rw [show k + 1 + j = k + (j + 1) by omega]; exact hx⟩) i v (by simpa using h)
    rw [show k + (i + 1) = k + 1 + i by omega]; exact this
theorem setCells_said {b k : Nat} {vs : List Value} {w : World} (hex : ∀ i, i < vs.length → ∃ x, w.cell? ⟨b, k + i, none⟩ = some x) : ∀ q ∈ cellsAt b k vs, (setCells w b k vs).cell? q.1 = some q.2 := fun q hq => by
  obtain ⟨i, h1, h2⟩ := cellsAt_mem hq
  rw [h2]; exact setCells_at vs k w hex i q.2 h1
theorem setCells_way {bs : List Nat} {ps : List (Addr × Value)} {b : Nat} (hb : b ∈ bs) : ∀ (vs : List Value) (k : Nat) (w : World), (∀ q ∈ ps, ∀ i v, vs[i]? = some v → q.1 = ⟨b, k + i, none⟩ → q.2 = v) → Gs bs ps w (setCells w b k vs)
  | [], _, w, _ => Gs.refl _ _ _
  | v :: vs, k, w, h => Gs.trans (Gs.set (p := ⟨b, k, none⟩) (u := v) hb (fun q hq he => h q hq 0 v rfl he)) (setCells_way hb vs (k + 1) _ (fun q hq i u hu he => h q hq (i + 1) u (by simpa using hu) (by rw [he]; congr 1; omega)))
/-- A struct is stored where it belongs. -/
theorem setCells_own (b : Nat) (vs : List Value) (w : World) : Gs [b] (cellsAt b 0 vs) w (setCells w b 0 vs) :=
  setCells_way List.mem_cons_self vs 0 w fun q hq i v hv he => by
    obtain ⟨j, h1, h2⟩ := cellsAt_mem hq
    rw [h2] at he
    injection he with _ he
    have : j = i := by omega
    subst this
    rw [h1] at hv; exact Option.some.inj hv
theorem Gs.there {bs : List Nat} {ps : List (Addr × Value)} {W w : World} (h : Gs bs ps W w) {b n : Nat} (hb : b ∈ bs) (he : ∀ i, i < n → ∃ x, W.cell? ⟨b, 0 + i, none⟩ = some x) : ∀ i, i < n → ∃ x, w.cell? ⟨b, 0 + i, none⟩ = some x :=
  fun i hi => h.some_ ⟨b, 0 + i, none⟩ hb (he i hi)
/-- All that was there but the blocks bs. -/
theorem Gs.below {bs : List Nat} {ps : List (Addr × Value)} {w w' : World} (h : Gs bs ps w w') {B : Nat} (hB : B ≤ w.heap.size) (hn : ∀ b ∈ bs, B ≤ b) : Below B w w' :=
  ⟨h.os, h.tape, h.output, h.size, fun k hk => h.block k (by omega) (fun e => by have := hn k e; omega)⟩

/-! ### A struct in a block of the call's own -/
/-- Block B has the cells vs, that may be written. -/
structure StA (w : World) (B : Nat) (vs : List Value) : Prop where
  cell : ∀ i v, vs[i]? = some v → w.cell? ⟨B, i, none⟩ = some v
  free : ∀ i v, vs[i]? = some v → w.frozen? ⟨B, i, none⟩ = false
  lt : B < w.heap.size
theorem StA.gr {w w' : World} {B : Nat} {vs : List Value} (h : StA w B vs) (g : Gr w w') : StA w' B vs :=
  ⟨fun i v hv => (g.cell (p := ⟨B, i, none⟩) h.lt).trans (h.cell i v hv), fun i v hv => (g.frozen (p := ⟨B, i, none⟩) h.lt).trans (h.free i v hv), Nat.lt_of_lt_of_le h.lt g.size⟩
theorem StA.drewN {w : World} {B : Nat} {vs : List Value} (h : StA w B vs) (n : Nat) : StA (w.drewN n) B vs := h.gr (below_drewN (Gr.refl w) n)
theorem StA.set {w : World} {B : Nat} {vs us : List Value} (h : StA w B vs) (hl : us.length = vs.length) : StA (setCells w B 0 us) B us := by
  have hex : ∀ i, i < us.length → ∃ x, w.cell? ⟨B, 0 + i, none⟩ = some x := fun i hi => ⟨_, by rw [Nat.zero_add]; exact h.cell i _ (List.getElem?_eq_getElem (by omega))⟩
  have g := setCells_own B us w
  refine ⟨fun i v hv => by have := setCells_at us 0 w hex i v hv; rwa [Nat.zero_add] at this, fun i v hv => ?_, Nat.lt_of_lt_of_le h.lt g.size⟩
  have hi : i < us.length := (List.getElem?_eq_some_iff.1 hv).1
  rw [g.frozen ⟨B, i, none⟩ List.mem_cons_self h.lt]
  exact h.free i _ (List.getElem?_eq_getElem (by omega))
theorem setCells_below {w : World} {B C : Nat} (us : List Value) (hB : B ≤ C) (hC : C < w.heap.size) : Below B w (setCells w C 0 us) := (setCells_own C us w).below (by omega) (fun b hb => by rw [List.mem_singleton.1 hb]; exact hB)
theorem setCells_size (b : Nat) : ∀ (vs : List Value) (k : Nat) (w : World), (setCells w b k vs).heap.size = w.heap.size
  | [], _, _ => rfl
  | v :: vs, k, w => by
    show (setCells (w.setCell ⟨b, k, none⟩ v) b (k + 1) vs).heap.size = _
    rw [setCells_size b vs]; simp
theorem StA.set_other {w : World} {B C : Nat} {vs us : List Value} (h : StA w B vs) (hne : B ≠ C) : StA (setCells w C 0 us) B vs := by
  have g := setCells_own C us w
  have hb := g.block B h.lt (by simp [hne])
  exact ⟨fun i v hv => (World.cell?_of_block (w := w) (a := ⟨B, i, none⟩) hb).trans (h.cell i v hv), fun i v hv => (World.frozen?_of_block (w := w) (a := ⟨B, i, none⟩) hb).trans (h.free i v hv), Nat.lt_of_lt_of_le h.lt g.size⟩
theorem StA.new (w : World) (vs : List Value) (t : TypeId) : StA (w.alloc (.cells vs.toArray t)) w.heap.size vs := by
  refine ⟨fun i v hv => ?_, fun i v hv => ?_, by simp⟩
  · rw [World.cell?_alloc_at _ _ _ _ rfl]; simpa using hv
  · exact World.frozen?_alloc_at _ _ _ _ rfl
/-- A slot that points to a new block with the cells vs. -/
def freshS (W : World) (vs : List Value) : Slot := .sat fun v w => ∃ g, v = .pointer (some ⟨g, 0, none⟩) ∧ StA w g vs ∧ W.heap.size ≤ g
theorem freshS_kept (W : World) (vs : List Value) : (freshS W vs).Kept Gr := fun v w w' h ⟨g, h1, h2, h3⟩ => ⟨g, h1, h2.gr h, h3⟩
theorem freshS_new {W w : World} (hG : Gr W w) (vs : List Value) (t : TypeId) : (freshS W vs).Has (.pointer (some ⟨w.heap.size, 0, none⟩)) (w.alloc (.cells vs.toArray t)) := ⟨w.heap.size, rfl, StA.new w vs t, hG.size⟩
end Go.Proofs.YtfaocnboildjbaaDoor
/-
  The program's tables, as the law's row lists them: variables of the program that hold numbers alone.
-/
namespace Go.Proofs.YtfaocnboildjbaaDoor
set_option maxRecDepth 100000
open Go.RowKit
def globs : List (Nat × List Value) := [
]
/-- Variables that hold an interface's value, not nil. -/
def globNN : List Nat := []
/-- Variables that hold a number. -/
def globNum : List Nat := []
/-- Variables that hold just these cells. -/
def globRows : List (Nat × List Value) := []
end Go.Proofs.YtfaocnboildjbaaDoor
/-
  Plain values: what a value of the program says, without where in memory it lies; and what stands for it.
-/
namespace Go.Proofs.YtfaocnboildjbaaDoor
set_option maxRecDepth 100000
open Go.RowKit
set_option linter.unusedVariables false

/-- A value, as plain data. -/
inductive AV where
  | c (v : Value)
  | agg (l : List AV)
  | tup (l : List AV)
  | sl (l : List AV) (k : Nat)
  | fresh (l : List AV) (k : Nat)
  | emp
  | adr (l : List AV)
  | box (id off : Nat)
  | own (id : Nat)
  | oadr (id off : Nat)
  | nn
  deriving Inhabited

/-- Cells from ad on stay, and hold these. -/
structure At (w : World) (B : List Nat) (ad : Addr) (len : Nat) (us : Nat → Value) : Prop where
  spot : ad.spot = none
  lt : ad.block < w.heap.size
  out : ad.block ∉ B
  cell : ∀ i, i < len → w.cell? (ad.add i) = some (us i)

inductive Rel (w : World) (B : List Nat) : List Value → AV → Value → Prop where
  | c (η : List Value) (v : Value) : Rel w B η (.c v) v
  | agg (η : List Value) (l : List AV) (cs : Array Value) (us : Nat → Value) (hs : cs.size = l.length) (hu : ∀ i x, l[i]? = some x → cs[i]? = some (us i)) (hr : ∀ i x, l[i]? = some x → Rel w B η x (us i)) : Rel w B η (.agg l) (.agg cs)
  | tup (η : List Value) (l : List AV) (cs : Array Value) (us : Nat → Value) (hs : cs.size = l.length) (hu : ∀ i x, l[i]? = some x → cs[i]? = some (us i)) (hr : ∀ i x, l[i]? = some x → Rel w B η x (us i)) : Rel w B η (.tup l) (.tuple cs)
  | sl (η : List Value) (l : List AV) (k : Nat) (A : Option Addr) (n c : Nat) (us : Nat → Value) (hk : 1 ≤ k) (hn : n * k = l.length) (hc : n ≤ c) (hm : c ≤ maxLen) (hA : 0 < n → ∃ ad, A = some ad ∧ At w B ad l.length us) (hr : ∀ i x, l[i]? = some x → Rel w B [] x (us i)) : Rel w B η (.sl l k) (.slice A n c)
  | fresh (η : List Value) (l : List AV) (k : Nat) (A : Option Addr) (n : Nat) (us : Nat → Value) (hk : 1 ≤ k) (hn : n * k = l.length) (h0 : A = none → n = 0) (hm : n ≤ maxLen) (hA : 0 < n → ∃ ad, A = some ad ∧ At w B ad l.length us) (hr : ∀ i x, l[i]? = some x → Rel w B [] x (us i)) : Rel w B η (.fresh l k) (.slice A n n)
  | emp (η : List Value) (A : Option Addr) : Rel w B η .emp (.slice A 0 0)
  | adr (η : List Value) (l : List AV) (ad : Addr) (us : Nat → Value) (ha : At w B ad l.length us) (hr : ∀ i x, l[i]? = some x → Rel w B [] x (us i)) : Rel w B η (.adr l) (.pointer (some ad))
  | box (η : List Value) (id off b : Nat) (h : η[id]? = some (.pointer (some ⟨b, 0, none⟩))) : Rel w B η (.box id off) (.pointer (some ⟨b, off, none⟩))
  | own (η : List Value) (id : Nat) (a : Option Addr) (n c : Nat) (h : η[id]? = some (.slice a n c)) : Rel w B η (.own id) (.slice a n c)
  | oadr (η : List Value) (id off b o n c : Nat) (h : η[id]? = some (.slice (some ⟨b, o, none⟩) n c)) : Rel w B η (.oadr id off) (.pointer (some ⟨b, o + off, none⟩))
  | nn (η : List Value) (t : TypeId) (v : Value) : Rel w B η .nn (.iface t v)

/-- A block of cells holds what it held (it may be marked as one that a text shares). -/
def Soft (w w' : World) (b : Nat) : Prop := ∀ c e fr, w.heap[b]? = some (.cells c e fr) → ∃ fr', w'.heap[b]? = some (.cells c e fr')
theorem Soft.of {w w' : World} {b : Nat} (h : w'.heap[b]? = w.heap[b]?) : Soft w w' b := fun c e fr hc => ⟨fr, by rw [h]; exact hc⟩
theorem Soft.cell {w w' : World} {b : Nat} (h : Soft w w' b) {p : Addr} (hp : p.block = b) {u : Value} (hu : w.cell? p = some u) : w'.cell? p = some u := by
  subst hp
  unfold World.cell? at hu ⊢
  split at hu
  · rename_i c e fr hc
    obtain ⟨fr', hc'⟩ := h c e fr hc
    rw [hc']
    exact hu
  · cases hu
theorem Soft.trans {a b c : World} {k : Nat} (h : Soft a b k) (h' : Soft b c k) : Soft a c k := fun x e fr hx => by
  obtain ⟨fr', h1⟩ := h x e fr hx
  exact h' x e fr' h1
/-- The world goes on: what is not among B stays. -/
structure On (B : List Nat) (w w' : World) : Prop where
  os : w'.os = w.os
  tape : w'.tape = w.tape
  output : w'.output = w.output
  size : w.heap.size ≤ w'.heap.size
  block : ∀ b, b < w.heap.size → b ∉ B → Soft w w' b
theorem On.refl (B : List Nat) (w : World) : On B w w := ⟨rfl, rfl, rfl, Nat.le_refl _, fun _ _ _ => .of rfl⟩
theorem On.gr {B : List Nat} {w w' : World} (h : Gr w w') : On B w w' := ⟨h.os, h.tape, h.output, h.size, fun b hb _ => .of (h.block b hb)⟩
/-- The world goes on: what is below n0, or among B, stays just so; all else holds what it held. -/
structure Gk (n0 : Nat) (B : List Nat) (w w' : World) : Prop where
  os : w'.os = w.os
  tape : w'.tape = w.tape
  output : w'.output = w.output
  size : w.heap.size ≤ w'.heap.size
  block : ∀ b, b < w.heap.size → Soft w w' b
  just : ∀ b, b < w.heap.size → b < n0 ∨ b ∈ B → w'.heap[b]? = w.heap[b]?
theorem Gk.refl (n0 : Nat) (B : List Nat) (w : World) : Gk n0 B w w := ⟨rfl, rfl, rfl, Nat.le_refl _, fun _ _ => .of rfl, fun _ _ _ => rfl⟩
theorem Gk.gr {n0 : Nat} {B : List Nat} {w w' : World} (h : Gr w w') : Gk n0 B w w' := ⟨h.os, h.tape, h.output, h.size, fun b hb => .of (h.block b hb), fun b hb _ => h.block b hb⟩
theorem Gk.trans {n0 : Nat} {B : List Nat} {a b c : World} (h : Gk n0 B a b) (k : Gk n0 B b c) : Gk n0 B a c :=
  ⟨k.os.trans h.os, k.tape.trans h.tape, k.output.trans h.output, Nat.le_trans h.size k.size, fun i hi => (h.block i hi).trans (k.block i (Nat.lt_of_lt_of_le hi h.size)),
   fun i hi hj => (k.just i (Nat.lt_of_lt_of_le hi h.size) hj).trans (h.just i hi hj)⟩
theorem Gk.on {n0 : Nat} {B B' : List Nat} {w w' : World} (h : Gk n0 B w w') : On B' w w' := ⟨h.os, h.tape, h.output, h.size, fun b hb _ => h.block b hb⟩
theorem Gk.below {n0 : Nat} {B : List Nat} {w w' : World} (h : Gk n0 B w w') (hn : n0 ≤ w.heap.size) : Below n0 w w' := ⟨h.os, h.tape, h.output, h.size, fun b hb => h.just b (by omega) (.inl hb)⟩
theorem way_gk (n0 : Nat) (B : List Nat) : Way (Gk n0 B) := ⟨Gk.refl n0 B, fun _ _ _ h k => Gk.trans h k, fun _ => ⟨rfl, rfl, rfl, Nat.le_refl _, fun _ _ => .of rfl, fun _ _ _ => rfl⟩⟩
theorem At.on {w w' : World} {B B' : List Nat} {ad : Addr} {len : Nat} {us : Nat → Value} (h : At w B ad len us) (g : On B w w') (hB : ∀ b ∈ B', b ∈ B ∨ w.heap.size ≤ b) : At w' B' ad len us :=
  ⟨h.spot, Nat.lt_of_lt_of_le h.lt g.size, fun hb => (hB _ hb).elim h.out (fun hb => by have := h.lt; omega),
   fun i hi => (g.block _ h.lt h.out).cell (block_of_add _ _) (h.cell i hi)⟩
theorem Rel.on {w w' : World} {B B' : List Nat} {η η' : List Value} {x : AV} {v : Value} (h : Rel w B η x v) (g : On B w w') (hB : ∀ b ∈ B', b ∈ B ∨ w.heap.size ≤ b) (he : ∀ (id : Nat) v, η[id]? = some v → η'[id]? = some v) : Rel w' B' η' x v := by
  induction h generalizing η' with
  | c η v => exact .c _ v
  | agg η l cs us hs hu hr ih => exact .agg _ l cs us hs hu (fun i x hx => ih i x hx he)
  | tup η l cs us hs hu hr ih => exact .tup _ l cs us hs hu (fun i x hx => ih i x hx he)
  | sl η l k A n c us hk hn hc hm hA hr ih => exact .sl _ l k A n c us hk hn hc hm (fun h0 => by obtain ⟨ad, h1, h2⟩ := hA h0; exact ⟨ad, h1, h2.on g hB⟩) (fun i x hx => ih i x hx (fun _ _ h => h))
  | fresh η l k A n us hk hn h0 hm hA hr ih => exact .fresh _ l k A n us hk hn h0 hm (fun h0 => by obtain ⟨ad, h1, h2⟩ := hA h0; exact ⟨ad, h1, h2.on g hB⟩) (fun i x hx => ih i x hx (fun _ _ h => h))
  | emp η A => exact .emp _ A
  | adr η l ad us ha hr ih => exact .adr _ l ad us (ha.on g hB) (fun i x hx => ih i x hx (fun _ _ h => h))
  | box η id off b h => exact .box _ id off b (he _ _ h)
  | own η id a n c h => exact .own _ id a n c (he _ _ h)
  | oadr η id off b o n c h => exact .oadr _ id off b o n c (he _ _ h)
  | nn η t v => exact .nn _ t v
/-- It does not speak of what the call itself writes. -/
def AV.imm0 : AV → Bool
  | .c _ | .sl _ _ | .adr _ | .emp | .nn => true
  | _ => false
def AV.imm : AV → Bool
  | .agg l | .tup l => l.all AV.imm0
  | x => x.imm0
theorem Rel.bare0 {w : World} {B : List Nat} {η η' : List Value} {x : AV} {v : Value} (h : Rel w B η x v) (hi : x.imm0 = true) : Rel w B η' x v := by
  cases h with
  | c => exact .c _ _
  | sl _ l k A n c us hk hn hc hm hA hr => exact .sl _ l k A n c us hk hn hc hm hA hr
  | adr _ l ad us ha hr => exact .adr _ l ad us ha hr
  | emp _ A => exact .emp _ A
  | nn _ t v => exact .nn _ t v
  | _ => simp [AV.imm0] at hi
theorem Rel.bare {w : World} {B : List Nat} {η η' : List Value} {x : AV} {v : Value} (h : Rel w B η x v) (hi : x.imm = true) : Rel w B η' x v := by
  cases h with
  | c => exact .c _ _
  | sl _ l k A n c us hk hn hc hm hA hr => exact .sl _ l k A n c us hk hn hc hm hA hr
  | adr _ l ad us ha hr => exact .adr _ l ad us ha hr
  | emp _ A => exact .emp _ A
  | nn _ t v => exact .nn _ t v
  | agg _ l cs us hs hu hr => exact .agg _ l cs us hs hu (fun i x hx => (hr i x hx).bare0 (List.all_eq_true.1 hi x (List.mem_of_getElem? hx)))
  | tup _ l cs us hs hu hr => exact .tup _ l cs us hs hu (fun i x hx => (hr i x hx).bare0 (List.all_eq_true.1 hi x (List.mem_of_getElem? hx)))
  | _ => simp [AV.imm, AV.imm0] at hi
theorem Rel.any {w : World} {B : List Nat} {η : List Value} {x : AV} {v : Value} (h : Rel w B [] x v) : Rel w B η x v := h.on (On.refl _ _) (fun _ h => .inl h) (fun _ _ h => by simp at h)
theorem Rel.gr {w w' : World} {B : List Nat} {η : List Value} {x : AV} {v : Value} (h : Rel w B η x v) (g : Gr w w') : Rel w' B η x v := h.on (.gr g) (fun _ hb => .inl hb) (fun _ _ h => h)
theorem Rel.gk {n0 : Nat} {w w' : World} {B : List Nat} {η : List Value} {x : AV} {v : Value} (h : Rel w B η x v) (g : Gk n0 B w w') : Rel w' B η x v := h.on g.on (fun _ hb => .inl hb) (fun _ _ h => h)
theorem On.trans {B B' : List Nat} {a b c : World} (h : On B a b) (k : On B' b c) (hB : ∀ b ∈ B', b ∈ B ∨ a.heap.size ≤ b) : On B a c :=
  ⟨k.os.trans h.os, k.tape.trans h.tape, k.output.trans h.output, Nat.le_trans h.size k.size, fun i hi hn => by
    exact (h.block i hi hn).trans (k.block i (Nat.lt_of_lt_of_le hi h.size) (fun hb => (hB _ hb).elim hn (fun hb => by omega)))⟩

/-- What stands in a block of the call's own. -/
inductive Ent where
  | dead
  | box (cells : List AV) (T : TypeId)
  | own (cells : List AV) (E : TypeId) (k : Nat)
  | itr (s : ByteArray) (pos : Nat)
  deriving Inhabited

def RelL (w : World) (B : List Nat) (η : List Value) (l : List AV) (us : List Value) : Prop := us.length = l.length ∧ ∀ (i : Nat) x, l[i]? = some x → ∃ u, us[i]? = some u ∧ Rel w B η x u
theorem RelL.on {w w' : World} {B B' : List Nat} {η η' : List Value} {l : List AV} {us : List Value} (h : RelL w B η l us) (g : On B w w') (hB : ∀ b ∈ B', b ∈ B ∨ w.heap.size ≤ b) (he : ∀ (id : Nat) v, η[id]? = some v → η'[id]? = some v) : RelL w' B' η' l us :=
  ⟨h.1, fun i x hx => by obtain ⟨u, h1, h2⟩ := h.2 i x hx; exact ⟨u, h1, h2.on g hB he⟩⟩
theorem RelL.nil (w : World) (B : List Nat) (η : List Value) : RelL w B η [] [] := ⟨rfl, fun i x h => by simp at h⟩
theorem RelL.cons {w : World} {B : List Nat} {η : List Value} {x : AV} {l : List AV} {u : Value} {us : List Value} (h : Rel w B η x u) (k : RelL w B η l us) : RelL w B η (x :: l) (u :: us) :=
  ⟨by simp [k.1], fun i y hy => by
    cases i with
    | zero => simp at hy; subst hy; exact ⟨u, rfl, h⟩
    | succ i => simp at hy; obtain ⟨v, h1, h2⟩ := k.2 i y hy; exact ⟨v, by simpa using h1, h2⟩⟩
theorem RelL.append {w : World} {B : List Nat} {η : List Value} {l m : List AV} {us vs : List Value} (h : RelL w B η l us) (k : RelL w B η m vs) : RelL w B η (l ++ m) (us ++ vs) :=
  ⟨by simp [h.1, k.1], fun i x hx => by
    rw [List.getElem?_append] at hx ⊢
    rw [h.1]
    split at hx
    · rename_i hi; rw [if_pos hi]; exact h.2 i x hx
    · rename_i hi; rw [if_neg hi]; exact k.2 _ x hx⟩
theorem RelL.take {w : World} {B : List Nat} {η : List Value} {l : List AV} {us : List Value} (h : RelL w B η l us) (n : Nat) : RelL w B η (l.take n) (us.take n) :=
  ⟨by simp [h.1], fun i x hx => by
    rw [List.getElem?_take] at hx ⊢
    split at hx
    · rename_i hi; rw [if_pos hi]; exact h.2 i x hx
    · cases hx⟩
theorem RelL.drop {w : World} {B : List Nat} {η : List Value} {l : List AV} {us : List Value} (h : RelL w B η l us) (n : Nat) : RelL w B η (l.drop n) (us.drop n) :=
  ⟨by simp [h.1], fun i x hx => by rw [List.getElem?_drop] at hx ⊢; exact h.2 _ x hx⟩
theorem RelL.set {w : World} {B : List Nat} {η : List Value} {l : List AV} {us : List Value} (h : RelL w B η l us) {x : AV} {u : Value} (hx : Rel w B η x u) (n : Nat) : RelL w B η (l.set n x) (us.set n u) :=
  ⟨by simp [h.1], fun i y hy => by
    rw [List.getElem?_set] at hy ⊢
    rw [h.1]
    split at hy
    · split at hy
      · rename_i h1 h2; rw [if_pos h1, if_pos h2]; injection hy with hy; subst hy; exact ⟨u, rfl, hx⟩
      · cases hy
    · rename_i h1; rw [if_neg h1]; exact h.2 i y hy⟩

/-- A slice, at whatever place, of a block of the call's own. -/
def OwnAt (w : World) (base : Nat) (e : TypeId) (k : Nat) (v : Value) (n : Nat) (us : List Value) : Prop :=
  us.length = n * k ∧ ((v = .slice none 0 0 ∧ n = 0) ∨ ∃ g o cap cur, v = .slice (some ⟨g, o, none⟩) n cap ∧ base ≤ g ∧ w.heap[g]? = some (.cells cur e (0, 0)) ∧ n ≤ cap ∧ cap ≤ maxLen ∧ o + cap * k ≤ cur.size ∧ (cur.toList.drop o).take (n * k) = us)
theorem OwnAt.nil (w : World) (base e k : Nat) : OwnAt w base e k (.slice none 0 0) 0 [] := ⟨by simp, .inl ⟨rfl, rfl⟩⟩
theorem OwnAt.row {w : World} {base base' e k n : Nat} {v : Value} {us : List Value} (h : w.ownsRow base' e k v n us) (hb : base ≤ base') : OwnAt w base e k v n us := by
  refine ⟨h.1, ?_⟩
  rcases h.2 with hn | ⟨g, cap, cur, hv, hg, hh, h1, h2, h3, h4⟩
  · exact .inl hn
  · exact .inr ⟨g, 0, cap, cur, hv, by omega, hh, h1, h2, by omega, by simpa using h4⟩
theorem OwnAt.cells {w : World} {base e k n g o c : Nat} {us : List Value} (h : OwnAt w base e k (.slice (some ⟨g, o, none⟩) n c) n us) : ∀ (j : Nat) u, us[j]? = some u → w.cell? ⟨g, o + j, none⟩ = some u := by
  intro j u hu
  rcases h.2 with ⟨hv, _⟩ | ⟨g', o', cap, cur, hv, _, hh, _, _, _, ht⟩
  · cases hv
  · injection hv with q1 q2 q3
    injection q1 with q1
    injection q1 with q4 q5
    subst q4 q5
    rw [cell_of_row w g _ cur e (0, 0) hh]
    rw [← ht, List.getElem?_take] at hu
    split at hu
    · rw [List.getElem?_drop] at hu; simpa using hu
    · cases hu
theorem OwnAt.len {w : World} {base e k n m c : Nat} {a : Option Addr} {us : List Value} (h : OwnAt w base e k (.slice a m c) n us) : m = n := by
  rcases h.2 with ⟨hv, hn⟩ | ⟨g', o', cap, cur, hv, _⟩ <;> injection hv with q1 q2 q3 <;> omega
def EntOK (n0 : Nat) (Bx : List Nat) (w : World) (B : List Nat) (η : List Value) (v : Value) : Ent → Prop
  | .dead => True
  | .box cells T => ∃ b us, v = .pointer (some ⟨b, 0, none⟩) ∧ n0 ≤ b ∧ b ∈ B ∧ b ∉ Bx ∧ w.heap[b]? = some (.cells us.toArray T (0, 0)) ∧ RelL w B η cells us
  | .own cells E k => ∃ n us, OwnAt w n0 E k v n us ∧ RelL w B η cells us ∧ 1 ≤ k ∧ ∀ b, v.ownBlock = some b → b ∈ B ∧ b ∉ Bx
  | .itr s pos => ∃ b, v = .pointer (some ⟨b, 0, none⟩) ∧ n0 ≤ b ∧ b ∈ B ∧ b ∉ Bx ∧ w.heap[b]? = some (.stringIter s pos)

/-- The block of a live one. -/
def blkOf (v : Value) : Option Nat := match v with
  | .pointer (some a) => some a.block
  | .slice (some a) _ _ => some a.block
  | _ => none
def Ent.live : Ent → Bool
  | .dead => false
  | _ => true

/-- The program's tables hold what they hold. -/
structure GlobOK (w : World) (B : List Nat) : Prop where
  tab : ∀ g l, (g, l) ∈ globs → Rel w B [] (.adr (l.map .c)) (.pointer (some ⟨g, 0, none⟩))
  nn : ∀ g ∈ globNN, Rel w B [] (.adr [.nn]) (.pointer (some ⟨g, 0, none⟩))
  num : ∀ g ∈ globNum, ∃ m, Rel w B [] (.adr [.c (.int .i64 m)]) (.pointer (some ⟨g, 0, none⟩))
  row : ∀ g l, (g, l) ∈ globRows → g ∉ B ∧ ∃ T fr, w.heap[g]? = some (.cells l.toArray T fr)
theorem GlobOK.on {w w' : World} {B B' : List Nat} (h : GlobOK w B) (g : On B w w') (hB : ∀ b ∈ B', b ∈ B ∨ w.heap.size ≤ b) : GlobOK w' B' := ⟨fun i l hi => (h.tab i l hi).on g hB (fun _ _ h => h), fun i hi => (h.nn i hi).on g hB (fun _ _ h => h), fun i hi => (h.num i hi).elim fun m hm => ⟨m, hm.on g hB (fun _ _ h => h)⟩, fun i l hi => by
    obtain ⟨h1, T, fr, h2⟩ := h.row i l hi
    have hlt := (Array.getElem?_eq_some_iff.1 h2).1
    obtain ⟨fr', h3⟩ := g.block i hlt h1 _ _ _ h2
    exact ⟨fun hb => (hB i hb).elim h1 (fun hc => by omega), T, fr', h3⟩⟩
/-- What holds of memory, between two operations. -/
structure Inv (n0 : Nat) (Bx : List Nat) (w : World) (B : List Nat) (η : List Value) (H : List Ent) : Prop where
  len : η.length = H.length
  base : n0 ≤ w.heap.size ∧ GlobOK w B
  sub : ∀ b ∈ Bx, b ∈ B ∧ b < n0
  lt : ∀ b ∈ B, b < w.heap.size
  ent : ∀ id e, H[id]? = some e → EntOK n0 Bx w B η (η.getD id undef) e
  sep : ∀ i j ei ej, i ≠ j → H[i]? = some ei → H[j]? = some ej → ei.live = true → ej.live = true → ∀ b, blkOf (η.getD i undef) = some b → blkOf (η.getD j undef) ≠ some b

theorem EntOK.keep {n0 : Nat} {Bx : List Nat} {w w' : World} {B B' : List Nat} {η η' : List Value} {v : Value} {e : Ent} (h : EntOK n0 Bx w B η v e) (g : On B w w') (hB : ∀ b ∈ B', b ∈ B ∨ w.heap.size ≤ b) (hs : ∀ b ∈ B, b ∈ B') (he : ∀ (id : Nat) v, η[id]? = some v → η'[id]? = some v)
    (hb : e.live = true → ∀ b, blkOf v = some b → w'.heap[b]? = w.heap[b]?) : EntOK n0 Bx w' B' η' v e := by
  cases e with
  | dead => trivial
  | box cells T =>
    obtain ⟨b, us, h1, h2, h3, h4, h5, h6⟩ := h
    refine ⟨b, us, h1, h2, hs _ h3, h4, ?_, h6.on g hB he⟩
    rw [hb rfl b (by rw [h1]; rfl)]; exact h5
  | own cells E k =>
    obtain ⟨n, us, h1, h2, h3, h4⟩ := h
    refine ⟨n, us, ⟨h1.1, ?_⟩, h2.on g hB he, h3, fun b hb' => ⟨hs _ (h4 b hb').1, (h4 b hb').2⟩⟩
    rcases h1.2 with hn | ⟨gg, oo, cap, cur, hv, hb', hgg, rest⟩
    · exact .inl hn
    · refine .inr ⟨gg, oo, cap, cur, hv, hb', ?_, rest⟩
      rw [hb rfl gg (by rw [hv]; rfl)]; exact hgg
  | itr s pos =>
    obtain ⟨b, h1, h2, h3, h4, h5⟩ := h
    exact ⟨b, h1, h2, hs _ h3, h4, by rw [hb rfl b (by rw [h1]; rfl)]; exact h5⟩
theorem EntOK.lt {n0 : Nat} {Bx : List Nat} {w : World} {B : List Nat} {η : List Value} {v : Value} {e : Ent} (h : EntOK n0 Bx w B η v e) (hl : e.live = true) : ∀ b, blkOf v = some b → b < w.heap.size ∧ b ∈ B := by
  intro b hb
  cases e with
  | dead => cases hl
  | box cells T =>
    obtain ⟨b', us, h1, h2, h3, h4, h5, h6⟩ := h
    rw [h1] at hb; simp [blkOf] at hb; subst hb
    exact ⟨(Array.getElem?_eq_some_iff.1 h5).1, h3⟩
  | own cells E k =>
    obtain ⟨n, us, h1, h2, h3, h4⟩ := h
    rcases h1.2 with ⟨hv, _⟩ | ⟨gg, oo, cap, cur, hv, hb', hgg, rest⟩
    · rw [hv] at hb; cases hb
    · rw [hv] at hb; simp [blkOf] at hb; subst hb
      exact ⟨(Array.getElem?_eq_some_iff.1 hgg).1, (h4 gg (by rw [hv]; rfl)).1⟩
  | itr s pos =>
    obtain ⟨b', h1, h2, h3, h4, h5⟩ := h
    rw [h1] at hb; simp [blkOf] at hb; subst hb
    exact ⟨(Array.getElem?_eq_some_iff.1 h5).1, h3⟩
theorem EntOK.on {n0 : Nat} {Bx : List Nat} {w w' : World} {B : List Nat} {η η' : List Value} {v : Value} {e : Ent} (h : EntOK n0 Bx w B η v e) (g : Gr w w') (he : ∀ (id : Nat) v, η[id]? = some v → η'[id]? = some v) : EntOK n0 Bx w' B η' v e :=
  EntOK.keep h (.gr g) (fun _ h => .inl h) (fun _ h => h) he (fun hl b hb => g.block b (EntOK.lt h hl b hb).1)
theorem Inv.gk {n0 : Nat} {Bx : List Nat} {w w' : World} {B : List Nat} {η : List Value} {H : List Ent} (h : Inv n0 Bx w B η H) (g : Gk n0 B w w') : Inv n0 Bx w' B η H :=
  ⟨h.len, ⟨Nat.le_trans h.base.1 g.size, h.base.2.on g.on (fun _ h => .inl h)⟩, h.sub, fun b hb => Nat.lt_of_lt_of_le (h.lt b hb) g.size, fun id e he => EntOK.keep (h.ent id e he) g.on (fun _ h => .inl h) (fun _ h => h) (fun _ _ h => h)
    (fun hl b hb => have hlt := EntOK.lt (h.ent id e he) hl b hb; g.just b hlt.1 (.inr hlt.2)), h.sep⟩
theorem Inv.gr {n0 : Nat} {Bx : List Nat} {w w' : World} {B : List Nat} {η : List Value} {H : List Ent} (h : Inv n0 Bx w B η H) (g : Gr w w') : Inv n0 Bx w' B η H :=
  ⟨h.len, ⟨Nat.le_trans h.base.1 g.size, h.base.2.on (.gr g) (fun _ h => .inl h)⟩, h.sub, fun b hb => Nat.lt_of_lt_of_le (h.lt b hb) g.size, fun id e he => EntOK.on (h.ent id e he) g (fun _ _ h => h), h.sep⟩
end Go.Proofs.YtfaocnboildjbaaDoor
/-
  One operation, on plain values, that writes nothing: what it yields; and that it does so in every memory.
-/
namespace Go.Proofs.YtfaocnboildjbaaDoor
set_option maxRecDepth 100000
open Go.RowKit
set_option linter.unusedVariables false
set_option linter.unusedSimpArgs false

/-- A run that asks nothing of memory. -/
def pureRun (P : Program) {α : Type} : Sem α → Option α
  | .pure a => some a
  | .program k => pureRun P (k P)
  | .mark _ k => pureRun P k
  | _ => none
theorem pureRun_run {P : Program} {α : Type} {s : Sem α} {a : α} (h : pureRun P s = some a) (w : World) : s.run P w = .ok a w := by
  induction s with
  | pure b => simp only [pureRun, Option.some.injEq] at h; subst h; rfl
  | program k ih => exact ih P h
  | mark m k ih => exact ih h
  | _ => simp [pureRun] at h
theorem pureRun_bind {P : Program} {α β : Type} (s : Sem α) (f : α → Sem β) : pureRun P (s.bind f) = (pureRun P s).bind fun a => pureRun P (f a) := by
  induction s with
  | pure b => rfl
  | program k ih => exact ih P
  | mark m k ih => exact ih
  | _ => rfl
theorem pureRun_bind' {P : Program} {α β : Type} (s : Sem α) (f : α → Sem β) : pureRun P (s >>= f) = (pureRun P s).bind fun a => pureRun P (f a) := pureRun_bind s f
theorem pureRun_pure {P : Program} {α : Type} (a : α) : pureRun P (pure a : Sem α) = some a := rfl

def AV.isC : AV → Bool
  | .c _ => true
  | _ => false
def AV.val : AV → Value
  | .c v => v
  | _ => undef
theorem Rel.isC {w : World} {B : List Nat} {η : List Value} {x : AV} {v : Value} (h : Rel w B η x v) (hc : x.isC = true) : v = x.val := by
  cases h <;> simp_all [AV.isC, AV.val]
theorem Rel.ofC {w : World} {B : List Nat} {η : List Value} {v u : Value} (h : Rel w B η (.c v) u) : u = v := by cases h; rfl
/-- The cells of a value. -/
def AV.toL : AV → List AV
  | .agg l => l
  | .c (.agg cs) => cs.toList.map .c
  | x => [x]
theorem Rel.toL {w : World} {B : List Nat} {η : List Value} {x : AV} {v : Value} (h : Rel w B η x v) (hnt : ∀ l, x ≠ .tup l) : RelL w B η x.toL v.cells.toList := by
  cases h with
  | c v =>
    cases v with
    | agg cs => exact ⟨by simp [AV.toL, Value.cells], fun i y hy => by
        simp only [AV.toL, List.getElem?_map, Option.map_eq_some_iff] at hy
        obtain ⟨u, hu, rfl⟩ := hy
        exact ⟨u, by simpa [Value.cells] using hu, .c _ _⟩⟩
    | _ => exact RelL.cons (.c _ _) (RelL.nil _ _ _)
  | agg _ l cs us hs hu hr =>
    exact ⟨by simp [AV.toL, Value.cells, hs], fun i y hy => ⟨us i, by simpa [Value.cells] using hu i y hy, hr i y hy⟩⟩
  | tup => exact absurd rfl (hnt _)
  | sl _ l k A n c us hk hn hc hm hA hr => exact RelL.cons (.sl _ l k A n c us hk hn hc hm hA hr) (RelL.nil _ _ _)
  | fresh _ l k A n us hk hn h0 hm hA hr => exact RelL.cons (.fresh _ l k A n us hk hn h0 hm hA hr) (RelL.nil _ _ _)
  | emp _ A => exact RelL.cons (.emp _ A) (RelL.nil _ _ _)
  | adr _ l ad us ha hr => exact RelL.cons (.adr _ l ad us ha hr) (RelL.nil _ _ _)
  | box _ id off b h => exact RelL.cons (.box _ id off b h) (RelL.nil _ _ _)
  | own _ id a n c h => exact RelL.cons (.own _ id a n c h) (RelL.nil _ _ _)
  | oadr _ id off b o n c h => exact RelL.cons (.oadr _ id off b o n c h) (RelL.nil _ _ _)
  | nn _ t v => exact RelL.cons (.nn _ t v) (RelL.nil _ _ _)

/-- The operation is of values that stand as they are. -/
def evDef (P : Program) (ρ : Operand → AV) (o : Oper) : Option AV :=
  if o.op.operands.toList.all (fun x => (ρ x).isC) then
    match pureRun P (execOp (fun x => (ρ x).val) o) with
    | some (.value v) => some (.c v)
    | _ => none
  else none
def addOff : AV → Nat → Option AV
  | .box i o, n => some (.box i (o + n))
  | .oadr i o, n => some (.oadr i (o + n))
  | .adr l, n => some (.adr (l.drop n))
  | _, _ => none
/-- The cells from an address on. -/
def cellsA (H : List Ent) : AV → Option (List AV)
  | .adr l => some l
  | .box id off => match H[id]? with | some (.box cells _) => some (cells.drop off) | _ => none
  | .oadr id off => match H[id]? with | some (.own cells _ _) => some (cells.drop off) | _ => none
  | _ => none
def rowT (P : Program) (t : TypeId) : Option Bool := match P.underlying t with
  | some (.struct _) | some (.array _ _) => some true
  | some _ => some false
  | none => none
def loadA (P : Program) (H : List Ent) (t : TypeId) (x : AV) : Option AV :=
  match cellsA H x, rowT P t with
  | some l, some true => if P.cellsOf t ≤ l.length then some (.agg (l.take (P.cellsOf t))) else none
  | some l, some false => l.head?
  | _, _ => none
def partA (P : Program) (t : TypeId) (l : List AV) (off : Nat) : Option AV :=
  match rowT P t with
  | some true => if off + P.cellsOf t ≤ l.length then some (.agg ((l.drop off).take (P.cellsOf t))) else none
  | some false => l[off]?
  | none => none
def intA : AV → Option Int
  | .c (.int _ n) => some n
  | _ => none
def fieldP (P : Program) (s : TypeId) (f : Nat) : Option Field := match P.underlying s with
  | some (.struct fs) => fs[f]?
  | _ => none
/-- The bytes of cells. -/
def byteAV (b : UInt8) : AV := .c (bv b)
def toB : AV → Option UInt8
  | .c (.int .u8 n) => if 0 ≤ n ∧ n < 256 then some (UInt8.ofNat n.toNat) else none
  | _ => none
def toBs : List AV → Option (List UInt8)
  | [] => some []
  | x :: l => match toB x, toBs l with | some b, some bs => some (b :: bs) | _, _ => none
theorem toB_byte (b : UInt8) : toB (byteAV b) = some b := by
  have := b.toNat_lt
  simp [toB, byteAV, bv]; omega
theorem toBs_map (bs : List UInt8) : toBs (bs.map byteAV) = some bs := by
  induction bs with
  | nil => rfl
  | cons b bs ih => simp [toBs, toB_byte, ih]
theorem toB_eq {x : AV} {b : UInt8} (h : toB x = some b) : x = byteAV b := by
  unfold toB at h
  split at h
  · split at h
    · injection h with h
      subst h
      rename_i n hn
      simp only [byteAV, bv, AV.c.injEq, Value.int.injEq, true_and]
      rw [UInt8.toNat_ofNat']; omega
    · cases h
  · cases h
theorem toBs_eq {l : List AV} {bs : List UInt8} (h : toBs l = some bs) : l = bs.map byteAV := by
  induction l generalizing bs with
  | nil => simp [toBs] at h; subst h; rfl
  | cons x l ih =>
    simp only [toBs] at h
    split at h
    · rename_i b bs' h1 h2
      injection h with h; subst h
      rw [List.map_cons, ← ih h2, ← toB_eq h1]
    · cases h

section
variable {P : Program} {w : World} {B : List Nat} {η : List Value} {H : List Ent}
theorem rowT_isAgg {t : TypeId} {b : Bool} (h : rowT P t = some b) (w : World) : (isAgg t).run P w = .ok b w ∧ ∃ d, P.underlying t = some d ∧ d.isRow = b := by
  unfold rowT at h
  cases hu : P.underlying t with
  | none => rw [hu] at h; cases h
  | some d =>
    rw [hu] at h
    have hb : d.isRow = b := by cases d <;> simp_all [TypeDesc.isRow]
    refine ⟨?_, d, rfl, hb⟩
    unfold isAgg
    rw [Sem.run_bind, run_underlying hu w]
    subst hb
    cases d <;> rfl
theorem info_of {t : TypeId} {d : TypeDesc} (h : P.underlying t = some d) : ∃ i, P.info? t = some i ∧ i.size = P.cellsOf t := by
  unfold Program.underlying at h
  cases hi : P.info? t with
  | none => rw [hi] at h; cases h
  | some i => exact ⟨i, rfl, by simp [Program.cellsOf, hi]⟩
theorem run_sizeOf {t : TypeId} {i : TypeInfo} (h : P.info? t = some i) (w : World) : (sizeOf t).run P w = .ok i.size w := by
  simp [sizeOf, typeInfo, h]
theorem At.shift {ad : Addr} {len : Nat} {us : Nat → Value} (h : At w B ad len us) (n : Nat) : At w B (ad.add n) (len - n) (fun i => us (n + i)) :=
  ⟨by unfold Addr.add; split <;> simp [h.spot], by rw [block_of_add]; exact h.lt, by rw [block_of_add]; exact h.out, fun i hi => by
    have := h.cell (n + i) (by omega)
    rw [← this]
    congr 1
    obtain ⟨b, o, s⟩ := ad
    have hs : s = none := h.spot
    subst hs
    simp [Addr.add_mid, Nat.add_assoc]⟩
theorem addr_mk {ad : Addr} (h : ad.spot = none) : ad = ⟨ad.block, ad.off, none⟩ := by obtain ⟨b, o, s⟩ := ad; simp at h; subst h; rfl

/-- An address, and the cells from it on. -/
theorem cellsA_spec {n0 : Nat} {Bx : List Nat} (inv : Inv n0 Bx w B η H) {x : AV} {v : Value} {l : List AV} (hx : Rel w B η x v) (h : cellsA H x = some l) :
    ∃ b o us, v = .pointer (some ⟨b, o, none⟩) ∧ w.rangeAt b o us ∧ RelL w B η l us := by
  cases hx with
  | adr _ l' ad us ha hr =>
    simp only [cellsA, Option.some.injEq] at h; subst h
    obtain ⟨b, o, sp⟩ := ad
    obtain rfl : sp = none := ha.spot
    refine ⟨b, o, (List.range l'.length).map us, rfl, fun j v hj => ?_, by simp, fun i y hy => ?_⟩
    · have hj' : j < l'.length := by have := (List.getElem?_eq_some_iff.1 hj).1; simpa using this
      have := ha.cell j hj'
      rw [Addr.add_mid] at this
      rw [this]
      simp [hj'] at hj
      rw [hj]
    · have hi : i < l'.length := (List.getElem?_eq_some_iff.1 hy).1
      exact ⟨us i, by simp [hi], (hr i y hy).any⟩
  | box _ id off b hb =>
    simp only [cellsA] at h
    split at h
    · rename_i cells T hH
      injection h with h; subst h
      have he := inv.ent id _ hH
      have hg : η.getD id undef = .pointer (some ⟨b, 0, none⟩) := by simp [List.getD_eq_getElem?_getD, hb]
      rw [hg] at he
      obtain ⟨b', us, h1, h2, h3, h4, h5, h6⟩ := he
      obtain rfl : b = b' := by simpa using h1
      refine ⟨b, off, us.drop off, rfl, fun j v hj => ?_, h6.drop off⟩
      rw [List.getElem?_drop] at hj
      rw [cell_of_row w b _ us.toArray T (0, 0) h5]
      simpa using hj
    · cases h
  | oadr _ id off b o n c hb =>
    simp only [cellsA] at h
    split at h
    · rename_i cells E k hH
      injection h with h; subst h
      have he := inv.ent id _ hH
      have hg : η.getD id undef = .slice (some ⟨b, o, none⟩) n c := by simp [List.getD_eq_getElem?_getD, hb]
      rw [hg] at he
      obtain ⟨n', us, h1, h2, h3, h4⟩ := he
      obtain rfl := h1.len
      refine ⟨b, o + off, us.drop off, rfl, fun j v hj => ?_, h2.drop off⟩
      rw [List.getElem?_drop] at hj
      rw [Nat.add_assoc]
      exact h1.cells (off + j) v hj
    · cases h
  | _ => simp [cellsA] at h
end
end Go.Proofs.YtfaocnboildjbaaDoor
/-
  One operation, on plain values: soundness, kind by kind.
-/
namespace Go.Proofs.YtfaocnboildjbaaDoor
set_option maxRecDepth 100000
open Go.RowKit
set_option linter.unusedVariables false
set_option linter.unusedSimpArgs false

/-- The operation yields r, and the world has only grown. -/
def OpOK (P : Program) (n0 : Nat) (w : World) (ρ : Operand → Value) (o : Oper) (B : List Nat) (η : List Value) (r : AV) : Prop :=
  ∀ N : Value → World → Prop, (∀ v w', Gk n0 B w w' → Rel w' B η r v → N v w') → Oper.val P ρ o w N

section
variable {P : Program} {n0 : Nat} {w : World} {B : List Nat} {η : List Value} {H : List Ent} {ρ : Operand → Value} {ρA : Operand → AV} {o : Oper}
theorem OpOK.of_run {r : AV} {v : Value} (h : (execOp ρ o).run P w = .ok (.value v) w) (hr : Rel w B η r v) : OpOK P n0 w ρ o B η r := by
  intro N hN
  unfold Oper.val
  rw [h]
  exact hN v w (Gk.refl _ _ w) hr
theorem evDef_ok (hs : ∀ cs b, o.op ≠ .select cs b) (he : ∀ x ∈ o.op.operands, Rel w B η (ρA x) (ρ x)) {r : AV} (h : evDef P ρA o = some r) : OpOK P n0 w ρ o B η r := by
  unfold evDef at h
  split at h
  · rename_i ha
    split at h
    · rename_i v hv
      injection h with h; subst h
      have : execOp ρ o = execOp (fun x => (ρA x).val) o := execOp_congr o hs (fun x hx => (he x hx).isC (List.all_eq_true.1 ha x (by simpa using hx)))
      exact .of_run (by rw [this]; exact pureRun_run hv w) (.c _ _)
    · cases h
  · cases h
theorem move_ok (he : ∀ x ∈ o.op.operands, Rel w B η (ρA x) (ρ x)) {x : Operand} (ho : o.op = .move x ∨ o.op = .assign x) : OpOK P n0 w ρ o B η (ρA x) := by
  refine .of_run (v := ρ x) ?_ (he x (by rcases ho with ho | ho <;> simp [ho, Op.operands]))
  rcases ho with ho | ho <;> simp [execOp, ho]
theorem pick_ok (he : ∀ x ∈ o.op.operands, Rel w B η (ρA x) (ρ x)) {c a b : Operand} {t : Bool} (ho : o.op = .pick c a b) (hc : ρA c = .c (.bool t)) : OpOK P n0 w ρ o B η (cond t (ρA a) (ρA b)) := by
  have h1 : ρ c = .bool t := by have := he c (by simp [ho, Op.operands]); rw [hc] at this; exact this.ofC
  cases t with
  | true => exact .of_run (v := ρ a) (by simp [execOp, ho, h1, asBool]) (he a (by simp [ho, Op.operands]))
  | false => exact .of_run (v := ρ b) (by simp [execOp, ho, h1, asBool]) (he b (by simp [ho, Op.operands]))
theorem nilCheck_ok (he : ∀ x ∈ o.op.operands, Rel w B η (ρA x) (ρ x)) {x : Operand} (ho : o.op = .nilCheck x) (hx : (∃ i n, ρA x = .box i n) ∨ (∃ l, ρA x = .adr l) ∨ (∃ i n, ρA x = .oadr i n)) : OpOK P n0 w ρ o B η (ρA x) := by
  have h := he x (by simp [ho, Op.operands])
  have : ∃ ad, ρ x = .pointer (some ad) := by
    generalize ρ x = v at h
    rcases hx with ⟨i, n, hx⟩ | ⟨l, hx⟩ | ⟨i, n, hx⟩ <;> rw [hx] at h <;> cases h <;> exact ⟨_, rfl⟩
  obtain ⟨ad, hv⟩ := this
  exact .of_run (v := ρ x) (by simp [execOp, ho, hv]) h
theorem addOff_spec {x r : AV} {v : Value} {n : Nat} (hx : Rel w B η x v) (h : addOff x n = some r) : ∃ ad, v = .pointer (some ad) ∧ Rel w B η r (.pointer (some (ad.add n))) := by
  cases hx with
  | adr _ l ad us ha hr =>
    simp only [addOff, Option.some.injEq] at h; subst h
    refine ⟨ad, rfl, .adr _ _ _ (fun i => us (n + i)) ?_ (fun i x hx => hr (n + i) x (by rw [List.getElem?_drop] at hx; exact hx))⟩
    rw [List.length_drop]; exact ha.shift n
  | box _ id off b hb =>
    simp only [addOff, Option.some.injEq] at h; subst h
    exact ⟨_, rfl, by rw [Addr.add_mid]; exact .box _ _ _ _ hb⟩
  | oadr _ id off b o m c hb =>
    simp only [addOff, Option.some.injEq] at h; subst h
    exact ⟨_, rfl, by rw [Addr.add_mid, Nat.add_assoc]; exact .oadr _ _ _ _ _ _ _ hb⟩
  | _ => simp [addOff] at h
theorem fieldP_spec {s : TypeId} {f : Nat} {fd : Field} (h : fieldP P s f = some fd) : ∃ fs, P.underlying s = some (.struct fs) ∧ fs[f]? = some fd := by
  unfold fieldP at h
  split at h
  · exact ⟨_, by assumption, h⟩
  · cases h
theorem cells_info {t : TypeId} (h : P.cellsOf t ≠ 0) : ∃ i, P.info? t = some i ∧ i.size = P.cellsOf t := by
  unfold Program.cellsOf at h ⊢
  cases hi : P.info? t with
  | none => rw [hi] at h; simp at h
  | some i => exact ⟨i, rfl, by simp⟩
theorem fieldAddr_ok (he : ∀ x ∈ o.op.operands, Rel w B η (ρA x) (ρ x)) {s : TypeId} {x : Operand} {f : Nat} {fd : Field} {r : AV} (ho : o.op = .fieldAddr s x f) (hf : fieldP P s f = some fd) (hc : P.cellsOf fd.type ≠ 0) (h : addOff (ρA x) fd.offset = some r) : OpOK P n0 w ρ o B η r := by
  obtain ⟨fs, hu, hfs⟩ := fieldP_spec hf
  obtain ⟨ad, hv, hr⟩ := addOff_spec (he x (by simp [ho, Op.operands])) h
  obtain ⟨i, hi, hs⟩ := cells_info hc
  refine .of_run (v := .pointer (some (ad.add fd.offset))) ?_ hr
  have hz : (fieldPlace ad fd).run P w = .ok (ad.add fd.offset) w := by
    unfold fieldPlace
    rw [Sem.run_bind, run_sizeOf hi]
    simp only [Result.andThen_ok]
    rw [if_neg (by rw [hs]; exact hc)]
    rfl
  simp [execOp, ho, Instr.fieldAt, Sem.run_bind, run_underlying hu, hfs, hv, Instr.sureAddr, hz]
theorem loadA_run {Bx : List Nat} (inv : Inv n0 Bx w B η H) {t : TypeId} {x r : AV} {v : Value} (hx : Rel w B η x v) (h : loadA P H t x = some r) : ∃ ad u, v = .pointer (some ad) ∧ (loadVar t ad).run P w = .ok u w ∧ Rel w B η r u := by
  unfold loadA at h
  split at h
  · rename_i l b hl hrow
    rename_i hb
    split at h
    · rename_i hle
      injection h with h; subst h
      obtain ⟨bl, of, us, hv, hus, hrel⟩ := cellsA_spec inv hx hl
      obtain ⟨_, d, hu, hd⟩ := rowT_isAgg hrow w
      obtain ⟨i, hi, hs⟩ := info_of hu
      have hlen : (us.take (P.cellsOf t)).length = P.cellsOf t := by rw [List.length_take, hrel.1]; omega
      have hrun := run_loadVar_mid (P := P) w bl of t (us.take (P.cellsOf t)) d (fun j v hj => hus j v (by rw [List.getElem?_take] at hj; split at hj; exact hj; cases hj)) hu hd (by rw [hi]; simp [hs, hlen])
      refine ⟨_, .agg (us.take (P.cellsOf t)).toArray, hv, hrun, ?_⟩
      have hr2 := hrel.take (P.cellsOf t)
      exact .agg _ _ _ (fun i => (us.take (P.cellsOf t)).getD i undef) (by simp [hr2.1]) (fun i y hy => by
        obtain ⟨u, h1, h2⟩ := hr2.2 i y hy
        simp [List.getD_eq_getElem?_getD, h1]) (fun i y hy => by
        obtain ⟨u, h1, h2⟩ := hr2.2 i y hy
        simpa [List.getD_eq_getElem?_getD, h1] using h2)
    · cases h
  · rename_i l hl hrow
    obtain ⟨bl, of, us, hv, hus, hrel⟩ := cellsA_spec inv hx hl
    obtain ⟨hagg, _⟩ := rowT_isAgg hrow w
    cases l with
    | nil => cases h
    | cons y l =>
      simp only [List.head?_cons, Option.some.injEq] at h; subst h
      obtain ⟨u, h1, h2⟩ := hrel.2 0 y rfl
      have hcell := hus 0 u h1
      rw [Nat.add_zero] at hcell
      refine ⟨_, u, hv, ?_, h2⟩
      simp [loadVar, Sem.run_bind, hagg, load, Sem.run, hcell]
  · cases h
theorem loadA_ok {Bx : List Nat} (inv : Inv n0 Bx w B η H) (he : ∀ x ∈ o.op.operands, Rel w B η (ρA x) (ρ x)) {t : TypeId} {x : Operand} {r : AV} (ho : o.op = .load t x) (h : loadA P H t (ρA x) = some r) : OpOK P n0 w ρ o B η r := by
  obtain ⟨ad, u, hv, hrun, hr⟩ := loadA_run (P := P) inv (he x (by simp [ho, Op.operands])) h
  exact .of_run (v := u) (by simp [execOp, ho, hv, Instr.loadAt, Instr.sureAddr, Sem.run_bind, hrun]) hr
theorem partA_run {t : TypeId} {l : List AV} {cs : Array Value} {off : Nat} {r : AV} (hl : RelL w B η l cs.toList) (h : partA P t l off = some r) : ∃ v, (part t cs off).run P w = .ok v w ∧ Rel w B η r v := by
  unfold partA at h
  split at h
  · rename_i hrow
    split at h
    · rename_i hle
      injection h with h; subst h
      obtain ⟨hagg, d, hu, hd⟩ := rowT_isAgg hrow w
      obtain ⟨i, hi, hs⟩ := info_of hu
      have hr2 := (hl.drop off).take (P.cellsOf t)
      have hcs : (cs.extract off (off + P.cellsOf t)).toList = (cs.toList.drop off).take (P.cellsOf t) := by
        rw [Array.toList_extract, List.extract_eq_take_drop]; simp
      refine ⟨.agg (cs.extract off (off + P.cellsOf t)), ?_, ?_⟩
      · simp [part, Sem.run_bind, hagg, run_sizeOf hi, hs]
      · exact .agg _ _ _ (fun i => ((cs.toList.drop off).take (P.cellsOf t)).getD i undef) (by rw [← Array.length_toList, hcs, hr2.1]) (fun i y hy => by
          obtain ⟨u, h1, h2⟩ := hr2.2 i y hy
          rw [← Array.getElem?_toList, hcs]
          simp [List.getD_eq_getElem?_getD, h1]) (fun i y hy => by
          obtain ⟨u, h1, h2⟩ := hr2.2 i y hy
          simpa [List.getD_eq_getElem?_getD, h1] using h2)
    · cases h
  · rename_i hrow
    obtain ⟨hagg, _⟩ := rowT_isAgg hrow w
    obtain ⟨u, h1, h2⟩ := hl.2 off r h
    refine ⟨u, ?_, h2⟩
    have : cs[off]? = some u := by simpa using h1
    simp [part, Sem.run_bind, hagg, this]
  · cases h
theorem Rel.aggL {l : List AV} {v : Value} (h : Rel w B η (.agg l) v) : ∃ cs, v = .agg cs ∧ RelL w B η l cs.toList := by
  cases h with
  | agg _ _ cs us hs hu hr => exact ⟨cs, rfl, by simp [hs], fun i x hx => ⟨us i, by simpa using hu i x hx, hr i x hx⟩⟩
theorem field_ok (he : ∀ x ∈ o.op.operands, Rel w B η (ρA x) (ρ x)) {s : TypeId} {x : Operand} {f : Nat} {fd : Field} {l : List AV} {r : AV} (ho : o.op = .field s x f) (hf : fieldP P s f = some fd) (hx : ρA x = .agg l) (h : partA P fd.type l fd.offset = some r) : OpOK P n0 w ρ o B η r := by
  obtain ⟨fs, hu, hfs⟩ := fieldP_spec hf
  have h0 := he x (by simp [ho, Op.operands])
  rw [hx] at h0
  obtain ⟨cs, hv, hl⟩ := h0.aggL
  obtain ⟨v, h1, h2⟩ := partA_run (P := P) hl h
  exact .of_run (v := v) (by simp [execOp, ho, Instr.field, Sem.run_bind, run_underlying hu, hfs, hv, asAgg, h1]) h2
theorem index_ok (he : ∀ x ∈ o.op.operands, Rel w B η (ρA x) (ρ x)) {t e : TypeId} {x i : Operand} {m : Nat} {k : IntKind} {n : Int} {l : List AV} {r : AV} (ho : o.op = .index t x i) (hu : P.underlying t = some (.array m e)) (hx : ρA x = .agg l) (hi : ρA i = .c (.int k n)) (h0 : 0 ≤ n ∧ n < m) (hc : P.cellsOf e ≠ 0) (h : partA P e l (n.toNat * P.cellsOf e) = some r) : OpOK P n0 w ρ o B η r := by
  have h1 := he x (by simp [ho, Op.operands])
  rw [hx] at h1
  obtain ⟨cs, hv, hl⟩ := h1.aggL
  have h2 := he i (by simp [ho, Op.operands])
  rw [hi] at h2
  have h2 := h2.ofC
  obtain ⟨v, h3, h4⟩ := partA_run (P := P) hl h
  obtain ⟨ii, hii, hs⟩ := cells_info hc
  refine .of_run (v := v) ?_ h4
  simp [execOp, ho, Instr.index, Sem.run_bind, run_underlying hu, hv, h2, asIntOf, h0, run_sizeOf hii, hs, h3]
theorem extract_ok (he : ∀ x ∈ o.op.operands, Rel w B η (ρA x) (ρ x)) {x : Operand} {i : Nat} {l : List AV} {r : AV} (ho : o.op = .extract x i) (hx : ρA x = .tup l) (h : l[i]? = some r) : OpOK P n0 w ρ o B η r := by
  have h1 := he x (by simp [ho, Op.operands])
  rw [hx] at h1
  generalize hv : ρ x = v at h1
  cases h1 with
  | tup _ _ cs us hs hu hr =>
    exact .of_run (v := us i) (by simp [execOp, ho, hv, Instr.extract, hu i r h]) (hr i r h)
end
end Go.Proofs.YtfaocnboildjbaaDoor
/-
  One operation, on plain values: addresses of elements, parts of slices, lengths, structs and slices that are built, calls.
-/
namespace Go.Proofs.YtfaocnboildjbaaDoor
set_option maxRecDepth 100000
open Go.RowKit
set_option linter.unusedVariables false
set_option linter.unusedSimpArgs false

section
variable {P : Program} {n0 : Nat} {w : World} {B : List Nat} {η : List Value} {H : List Ent} {ρ : Operand → Value} {ρA : Operand → AV} {o : Oper}
theorem Rel.slL {l : List AV} {k : Nat} {v : Value} (h : Rel w B η (.sl l k) v) : ∃ A n c us, v = .slice A n c ∧ 1 ≤ k ∧ n * k = l.length ∧ n ≤ c ∧ c ≤ maxLen ∧ (0 < n → ∃ ad, A = some ad ∧ At w B ad l.length us) ∧ ∀ i x, l[i]? = some x → Rel w B [] x (us i) := by
  cases h with
  | sl _ _ _ A n c us hk hn hc hm hA hr => exact ⟨A, n, c, us, rfl, hk, hn, hc, hm, hA, hr⟩
theorem mul_lt_of {a n k : Nat} (h : a * k < n * k) : a < n := Nat.lt_of_mul_lt_mul_right h
theorem indexSl_ok (he : ∀ x ∈ o.op.operands, Rel w B η (ρA x) (ρ x)) {t e : TypeId} {x i : Operand} {kk : IntKind} {z : Int} {l : List AV} {k : Nat} (ho : o.op = .indexAddr t x i) (hu : P.underlying t = some (.slice e)) (hx : ρA x = .sl l k) (hi : ρA i = .c (.int kk z))
    (h0 : 0 ≤ z ∧ z.toNat * k < l.length) (hk : k = P.cellsOf e) : OpOK P n0 w ρ o B η (.adr (l.drop (z.toNat * k))) := by
  have h1 := he x (by simp [ho, Op.operands])
  rw [hx] at h1
  obtain ⟨A, n, c, us, hv, hk1, hn, hc, hm, hA, hr⟩ := h1.slL
  have h2 := he i (by simp [ho, Op.operands])
  rw [hi] at h2
  have h2 := h2.ofC
  have hlt : z.toNat < n := mul_lt_of (by rw [hn]; exact h0.2)
  obtain ⟨ad, hA1, hA2⟩ := hA (by omega)
  subst hA1
  obtain ⟨ii, hii, hs⟩ := cells_info (t := e) (P := P) (by omega)
  refine .of_run (v := .pointer (some (ad.add (z.toNat * k)))) ?_ ?_
  · have hz : z < (n : Int) := by omega
    simp [execOp, ho, Instr.indexAt, Sem.run_bind, run_underlying hu, hv, h2, asIntOf, h0.1, hz, run_sizeOf hii, hs, hk]
  · refine .adr _ _ _ (fun i => us (z.toNat * k + i)) ?_ (fun i x hx => hr _ x (by rw [List.getElem?_drop] at hx; exact hx))
    rw [List.length_drop]; exact hA2.shift _
theorem indexOwn_ok {Bx : List Nat} (inv : Inv n0 Bx w B η H) (he : ∀ x ∈ o.op.operands, Rel w B η (ρA x) (ρ x)) {t e : TypeId} {x i : Operand} {kk : IntKind} {z : Int} {id : Nat} {cells : List AV} {E k : Nat} (ho : o.op = .indexAddr t x i) (hu : P.underlying t = some (.slice e)) (hx : ρA x = .own id) (hi : ρA i = .c (.int kk z))
    (hH : H[id]? = some (.own cells E k)) (h0 : 0 ≤ z ∧ z.toNat * k < cells.length) (hk : k = P.cellsOf e) : OpOK P n0 w ρ o B η (.oadr id (z.toNat * k)) := by
  have h1 := he x (by simp [ho, Op.operands])
  rw [hx] at h1
  have h2 := he i (by simp [ho, Op.operands])
  rw [hi] at h2
  have h2 := h2.ofC
  generalize hv : ρ x = v at h1
  cases h1 with
  | own _ _ a1 n1 c1 hid =>
  have hent := inv.ent id _ hH
  rw [List.getD_eq_getElem?_getD, hid, Option.getD_some] at hent
  obtain ⟨n, us, hown, hrel, hk1, hbl⟩ := hent
  have hlen : cells.length = n * k := by rw [← hrel.1]; exact hown.1
  have hlt : z.toNat < n := mul_lt_of (by rw [← hlen]; exact h0.2)
  rcases hown.2 with ⟨_, hn0⟩ | ⟨g, oo, cap, cur, hvv, hb, hg, hnc, hcm, hsz, htk⟩
  · omega
  injection hvv with q1 q2 q3
  subst q1 q2 q3
  obtain ⟨ii, hii, hs⟩ := cells_info (t := e) (P := P) (by omega)
  refine .of_run (v := .pointer (some ⟨g, oo + z.toNat * k, none⟩)) ?_ (.oadr _ _ _ _ _ _ _ hid)
  have hz : z < (n1 : Int) := by omega
  simp [execOp, ho, Instr.indexAt, Sem.run_bind, run_underlying hu, hv, h2, asIntOf, h0.1, hz, run_sizeOf hii, hs, hk, Addr.add_mid]
theorem indexArr_ok (he : ∀ x ∈ o.op.operands, Rel w B η (ρA x) (ρ x)) {t e : TypeId} {x i : Operand} {kk : IntKind} {z : Int} {m : Nat} {r : AV} (ho : o.op = .indexAddr t x i) (hu : P.underlying t = some (.array m e)) (hi : ρA i = .c (.int kk z))
    (h0 : 0 ≤ z ∧ z < m) (hk : P.cellsOf e ≠ 0) (h : addOff (ρA x) (z.toNat * P.cellsOf e) = some r) : OpOK P n0 w ρ o B η r := by
  obtain ⟨ad, hv, hr⟩ := addOff_spec (he x (by simp [ho, Op.operands])) h
  have h2 := he i (by simp [ho, Op.operands])
  rw [hi] at h2
  have h2 := h2.ofC
  obtain ⟨ii, hii, hs⟩ := cells_info hk
  refine .of_run (v := .pointer (some (ad.add (z.toNat * P.cellsOf e)))) ?_ hr
  simp [execOp, ho, Instr.indexAt, Instr.sureAddr, Sem.run_bind, run_underlying hu, hv, h2, asIntOf, h0.1, h0.2, run_sizeOf hii, hs]
theorem run_sliceBound {kk : IntKind} {z : Int} {y : Nat} {code : BoundsCode} (h : 0 ≤ z ∧ z ≤ y) (w : World) : (Instr.sliceBound (.int kk z) y code).run P w = .ok z.toNat w := by
  simp [Instr.sliceBound, asIntOf, Sem.run_bind, h]
/-- The bounds of a part: none is the whole. -/
def boundA (ρA : Operand → AV) (d : Nat) : Option Operand → Option Nat
  | none => some d
  | some x => match ρA x with
    | .c (.int _ z) => if 0 ≤ z then some z.toNat else none
    | _ => none
theorem boundA_spec {d r : Nat} {x : Option Operand} (he : ∀ y, x = some y → Rel w B η (ρA y) (ρ y)) (h : boundA ρA d x = some r) : (x = none ∧ r = d) ∨ ∃ y kk z, x = some y ∧ ρ y = .int kk z ∧ 0 ≤ z ∧ r = z.toNat := by
  unfold boundA at h
  split at h
  · injection h with h; exact .inl ⟨rfl, h.symm⟩
  · rename_i y
    split at h
    · rename_i kk z hy
      split at h
      · rename_i hz
        injection h with h
        have := he y rfl
        rw [hy] at this
        exact .inr ⟨y, kk, z, rfl, this.ofC, hz, h.symm⟩
      · cases h
    · cases h
theorem slice_ok (he : ∀ x ∈ o.op.operands, Rel w B η (ρA x) (ρ x)) {t e : TypeId} {x : Operand} {lo hi : Option Operand} {l : List AV} {k a b : Nat} (ho : o.op = .slice t x lo hi none) (hu : P.underlying t = some (.slice e)) (hx : ρA x = .sl l k)
    (hk : k = P.cellsOf e) (hlo : boundA ρA 0 lo = some a) (hhi : boundA ρA (l.length / k) hi = some b) (hab : a ≤ b) (hb : b * k ≤ l.length) : OpOK P n0 w ρ o B η (.sl ((l.drop (a * k)).take ((b - a) * k)) k) := by
  have hel : ∀ y, lo = some y → Rel w B η (ρA y) (ρ y) := fun y h => he y (by simp [ho, Op.operands, h])
  have heh : ∀ y, hi = some y → Rel w B η (ρA y) (ρ y) := fun y h => he y (by simp [ho, Op.operands, h])
  have h1 := he x (by simp [ho, Op.operands])
  rw [hx] at h1
  obtain ⟨A, n, c, us, hv, hk1, hn, hc, hm, hA, hr⟩ := h1.slL
  have hdiv : l.length / k = n := by rw [← hn]; exact Nat.mul_div_cancel _ hk1
  rw [hdiv] at hhi
  have hbn : b ≤ n := Nat.le_of_mul_le_mul_right (by rw [hn]; exact hb) hk1
  obtain ⟨ii, hii, hs⟩ := cells_info (t := e) (P := P) (by omega)
  refine .of_run (v := .slice (if c = a then A else A.map (·.add (a * k))) (b - a) (c - a)) ?_ ?_
  · have hbounds : (Instr.sliceBounds true n c (lo.map ρ) (hi.map ρ) none).run P w = .ok (a, b, c) w := by
      have hb' : ∀ z : Int, b = z.toNat → 0 ≤ z → z ≤ (c : Int) := by omega
      have ha' : ∀ z : Int, a = z.toNat → 0 ≤ z → z ≤ (b : Int) := by omega
      rcases boundA_spec hel hlo with ⟨rfl, rfl⟩ | ⟨y, kk, z, rfl, hy, hz, hza⟩
      · rcases boundA_spec heh hhi with ⟨rfl, rfl⟩ | ⟨y2, kk2, z2, rfl, hy2, hz2, hzb⟩
        · simp [Instr.sliceBounds, Sem.run_bind]
        · subst hzb
          simp [Instr.sliceBounds, Sem.run_bind, hy2, run_sliceBound (P := P) ⟨hz2, hb' _ rfl hz2⟩]
      · subst hza
        rcases boundA_spec heh hhi with ⟨rfl, rfl⟩ | ⟨y2, kk2, z2, rfl, hy2, hz2, hzb⟩
        · simp [Instr.sliceBounds, Sem.run_bind, hy, run_sliceBound (P := P) ⟨hz, ha' _ rfl hz⟩]
        · subst hzb
          simp [Instr.sliceBounds, Sem.run_bind, hy, hy2, run_sliceBound (P := P) ⟨hz2, hb' _ rfl hz2⟩, run_sliceBound (P := P) ⟨hz, ha' _ rfl hz⟩]
    simp [execOp, ho, Instr.sliceAt, Instr.slice, Sem.run_bind, run_underlying hu, hv, hbounds, run_sizeOf hii, hs, hk]
  · have hlen : ((l.drop (a * k)).take ((b - a) * k)).length = (b - a) * k := by
      rw [List.length_take, List.length_drop, ← hn, ← Nat.sub_mul]
      exact Nat.min_eq_left (Nat.mul_le_mul_right k (by omega))
    refine .sl _ _ _ _ _ _ (fun i => us (a * k + i)) hk1 hlen.symm (by omega) (by omega) (fun h0 => ?_) (fun i y hy => ?_)
    · obtain ⟨ad, rfl, hat⟩ := hA (by omega)
      rw [if_neg (by omega)]
      refine ⟨_, rfl, ?_⟩
      have := hat.shift (a * k)
      exact ⟨this.spot, this.lt, this.out, fun i hi => this.cell i (by
        rw [hlen] at hi
        have : (b - a) * k + a * k ≤ l.length := by rw [← Nat.add_mul, ← hn]; exact Nat.mul_le_mul_right k (by omega)
        omega)⟩
    · rw [List.getElem?_take] at hy
      split at hy
      · rw [List.getElem?_drop] at hy; exact hr _ y hy
      · cases hy
theorem slice3_ok (he : ∀ x ∈ o.op.operands, Rel w B η (ρA x) (ρ x)) {t e : TypeId} {x hi mx : Operand} {l : List AV} {k : Nat} {kh km : IntKind} (ho : o.op = .slice t x none (some hi) (some mx)) (hu : P.underlying t = some (.slice e)) (hx : ρA x = .sl l k) (hk : P.cellsOf e ≠ 0) (hhi : ρA hi = .c (.int kh 0)) (hmx : ρA mx = .c (.int km 0)) : OpOK P n0 w ρ o B η .emp := by
  have h1 := he x (by simp [ho, Op.operands])
  rw [hx] at h1
  obtain ⟨A, n, c, us, hv, hk1, hn, hc, hm, hA, hr⟩ := h1.slL
  have h2 := he hi (by simp [ho, Op.operands])
  rw [hhi] at h2
  have h2 := h2.ofC
  have h3 := he mx (by simp [ho, Op.operands])
  rw [hmx] at h3
  have h3 := h3.ofC
  obtain ⟨ii, hii, hs⟩ := cells_info (t := e) (P := P) hk
  refine .of_run (v := .slice A 0 0) ?_ (.emp _ _)
  have b1 : (Instr.sliceBound (.int km 0) c .slice3Acap).run P w = .ok 0 w := by
    have := run_sliceBound (P := P) (kk := km) (z := 0) (y := c) (code := .slice3Acap) ⟨by omega, by omega⟩ w
    simpa using this
  have b2 : (Instr.sliceBound (.int kh 0) 0 .slice3B).run P w = .ok 0 w := by
    have := run_sliceBound (P := P) (kk := kh) (z := 0) (y := 0) (code := .slice3B) ⟨by omega, by omega⟩ w
    simpa using this
  have hb : (Instr.sliceBounds true n c none (some (.int kh 0)) (some (.int km 0))).run P w = .ok (0, 0, 0) w := by
    simp [Instr.sliceBounds, Sem.run_bind, b1, b2]
  simp [execOp, ho, Instr.sliceAt, Instr.slice, Sem.run_bind, run_underlying hu, hv, h2, h3, hb, run_sizeOf hii]
theorem slice3c_ok (he : ∀ x ∈ o.op.operands, Rel w B η (ρA x) (ρ x)) {t e : TypeId} {x hi mx : Operand} {A : Addr} {c : Nat} {kh km : IntKind} (ho : o.op = .slice t x none (some hi) (some mx)) (hu : P.underlying t = some (.slice e)) (hx : ρA x = .c (.slice (some A) 0 c)) (hk : P.cellsOf e ≠ 0) (hhi : ρA hi = .c (.int kh 0)) (hmx : ρA mx = .c (.int km 0)) : OpOK P n0 w ρ o B η .emp := by
  have h1 := he x (by simp [ho, Op.operands])
  rw [hx] at h1
  have hv := h1.ofC
  have h2 := he hi (by simp [ho, Op.operands])
  rw [hhi] at h2
  have h2 := h2.ofC
  have h3 := he mx (by simp [ho, Op.operands])
  rw [hmx] at h3
  have h3 := h3.ofC
  obtain ⟨ii, hii, hs⟩ := cells_info (t := e) (P := P) hk
  refine .of_run (v := .slice (some A) 0 0) ?_ (.emp _ _)
  have b1 : (Instr.sliceBound (.int km 0) c .slice3Acap).run P w = .ok 0 w := by
    have := run_sliceBound (P := P) (kk := km) (z := 0) (y := c) (code := .slice3Acap) ⟨by omega, by omega⟩ w
    simpa using this
  have b2 : (Instr.sliceBound (.int kh 0) 0 .slice3B).run P w = .ok 0 w := by
    have := run_sliceBound (P := P) (kk := kh) (z := 0) (y := 0) (code := .slice3B) ⟨by omega, by omega⟩ w
    simpa using this
  have hb : (Instr.sliceBounds true 0 c none (some (.int kh 0)) (some (.int km 0))).run P w = .ok (0, 0, 0) w := by
    simp [Instr.sliceBounds, Sem.run_bind, b1, b2]
  simp [execOp, ho, Instr.sliceAt, Instr.slice, Sem.run_bind, run_underlying hu, hv, h2, h3, hb, run_sizeOf hii]
theorem lenE_ok (he : ∀ x ∈ o.op.operands, Rel w B η (ρA x) (ρ x)) {x : Operand} {ts : Array TypeId} {t e : TypeId} (ho : o.op = .call ⟨.builtin .len, #[x], ts⟩) (ht : ts[0]? = some t) (hu : P.underlying t = some (.slice e)) (hx : ρA x = .emp) : OpOK P n0 w ρ o B η (.c (.int .i64 0)) := by
  have h1 := he x (by simp [ho, Op.operands, Call.operands])
  rw [hx] at h1
  generalize hv : ρ x = v at h1
  cases h1 with
  | emp _ A =>
    refine .of_run (v := .int .i64 0) ?_ (.c _ _)
    simp [execOp, ho, resolve, invoke, builtin, Builtin.len_, Sem.run_bind, hv, ht, run_underlying hu, goInt]
theorem len_ok (he : ∀ x ∈ o.op.operands, Rel w B η (ρA x) (ρ x)) {x : Operand} {ts : Array TypeId} {t e : TypeId} {l : List AV} {k : Nat} (ho : o.op = .call ⟨.builtin .len, #[x], ts⟩) (ht : ts[0]? = some t) (hu : P.underlying t = some (.slice e)) (hx : ρA x = .sl l k) : OpOK P n0 w ρ o B η (.c (.int .i64 ((l.length / k : Nat) : Int))) := by
  have h1 := he x (by simp [ho, Op.operands, Call.operands])
  rw [hx] at h1
  obtain ⟨A, n, c, us, hv, hk1, hn, hc, hm, hA, hr⟩ := h1.slL
  have hdiv : l.length / k = n := by rw [← hn]; exact Nat.mul_div_cancel _ hk1
  rw [hdiv]
  refine .of_run (v := .int .i64 n) ?_ (.c _ _)
  simp [execOp, ho, resolve, invoke, builtin, Builtin.len_, Sem.run_bind, hv, ht, run_underlying hu, goInt]
theorem lenOwn_ok {Bx : List Nat} (inv : Inv n0 Bx w B η H) (he : ∀ x ∈ o.op.operands, Rel w B η (ρA x) (ρ x)) {x : Operand} {ts : Array TypeId} {t e id k E : Nat} {cells : List AV} (ho : o.op = .call ⟨.builtin .len, #[x], ts⟩) (ht : ts[0]? = some t) (hu : P.underlying t = some (.slice e)) (hx : ρA x = .own id) (hH : H[id]? = some (.own cells E k)) : OpOK P n0 w ρ o B η (.c (.int .i64 ((cells.length / k : Nat) : Int))) := by
  have h1 := he x (by simp [ho, Op.operands, Call.operands])
  rw [hx] at h1
  generalize hv : ρ x = v at h1
  cases h1 with
  | own _ _ A n c hid =>
  have hent := inv.ent id _ hH
  rw [List.getD_eq_getElem?_getD, hid, Option.getD_some] at hent
  obtain ⟨n', us, hown, hrel, hk1, hbl⟩ := hent
  obtain rfl := hown.len
  have hdiv : cells.length / k = n := by rw [← hrel.1, hown.1]; exact Nat.mul_div_cancel _ hk1
  rw [hdiv]
  refine .of_run (v := .int .i64 n) ?_ (.c _ _)
  simp [execOp, ho, resolve, invoke, builtin, Builtin.len_, Sem.run_bind, hv, ht, run_underlying hu, goInt]
/-- What functions do, as plain functions on plain values. -/
abbrev Con := FuncId → List AV → Option AV
structure ConOK (P : Program) (C : Con) : Prop where
  callable : ∀ f args r, C f args = some r → ∃ fn, P.funcs[f]? = some fn ∧ fn.name ≠ "runtime.NumGoroutine" ∧ fn.body ≠ none
  calls : ∀ f args r, C f args = some r → ∀ (w : World) (B : List Nat) (cargs : List Value), (∀ b ∈ B, b < w.heap.size) → RelL w B [] args cargs → Calls P f cargs.toArray w fun e w' => ∃ v, e = .returned v ∧ Gr w w' ∧ Rel w' B [] r v
def immA (ρA : Operand → AV) (args : List Operand) : Option (List AV) := if args.all (fun x => (ρA x).imm) then some (args.map ρA) else none
theorem call_ok {C : Con} (hC : ConOK P C) {Bx : List Nat} (inv : Inv n0 Bx w B η H) (he : ∀ x ∈ o.op.operands, Rel w B η (ρA x) (ρ x)) (hf0 : ∀ f, ρ (.func f) = .func (.func f) #[] #[]) {f : FuncId} {args : Array Operand} {ts : Array TypeId} {xs : List AV} {r : AV}
    (ho : o.op = .call ⟨.value (.func f), args, ts⟩) (ha : immA ρA args.toList = some xs) (h : C f xs = some r) : OpOK P n0 w ρ o B η r := by
  unfold immA at ha
  split at ha
  · rename_i himm
    injection ha with ha; subst ha
    obtain ⟨fn, h1, h2, h3⟩ := hC.callable _ _ _ h
    have hrel : RelL w B [] (args.toList.map ρA) (args.toList.map ρ) := ⟨by simp, fun i x hx => by
      rw [List.getElem?_map, Option.map_eq_some_iff] at hx
      obtain ⟨y, hy, rfl⟩ := hx
      exact ⟨ρ y, by rw [List.getElem?_map, hy]; rfl, (he y (by have := List.mem_of_getElem? hy; simp [ho, Op.operands, Call.operands]; exact .inr (by simpa using this))).bare (List.all_eq_true.1 himm y (List.mem_of_getElem? hy))⟩⟩
    have hcall := hC.calls _ _ _ h w B _ inv.lt hrel
    intro N hN
    unfold Oper.val
    have hrun : (execOp ρ o).run P w = .ok (.enter f (args.map ρ)) w := by
      simp [execOp, ho, resolve, Deferred.ofValue, hf0, invoke, callFunc, Sem.run_bind, h1, h2, h3]
    rw [hrun]
    have hargs : (args.toList.map ρ).toArray = args.map ρ := by apply Array.ext'; simp
    rw [hargs] at hcall
    exact hcall.mono fun e w' ⟨v, h4, h5, h6⟩ => ⟨v, h4, hN v w' (.gr h5) h6.any⟩
  · cases ha
end
end Go.Proofs.YtfaocnboildjbaaDoor
/-
  Operations on numbers, bools and texts; structs and slices that are built.
-/
namespace Go.Proofs.YtfaocnboildjbaaDoor
set_option maxRecDepth 100000
open Go.RowKit
set_option linter.unusedVariables false
set_option linter.unusedSimpArgs false

def intV (op : BinOp) (k : IntKind) (a b : Int) : Option Value :=
  match op with
  | .add => some (.int k (k.wrap (a + b)))
  | .sub => some (.int k (k.wrap (a - b)))
  | .mul => some (.int k (k.wrap (a * b)))
  | .quo => if b = 0 then none else some (.int k (k.wrap (a.tdiv b)))
  | .rem => if b = 0 then none else some (.int k (a.tmod b))
  | .and => some (.int k (bits .and k a b))
  | .or => some (.int k (bits .or k a b))
  | .xor => some (.int k (bits .xor k a b))
  | .andNot => some (.int k (bits .andNot k a b))
  | .eql => some (.bool (decide (a = b)))
  | .neq => some (.bool (!decide (a = b)))
  | .lss => some (.bool (decide (a < b)))
  | .leq => some (.bool (decide (a ≤ b)))
  | .gtr => some (.bool (decide (b < a)))
  | .geq => some (.bool (decide (b ≤ a)))
  | _ => none
def strV (op : BinOp) (x y : List UInt8) : Option Value :=
  match op with
  | .eql => some (.bool (decide (x = y)))
  | .neq => some (.bool (!decide (x = y)))
  | _ => none
/-- Is it a type of bools? of slices? -/
def boolT (P : Program) (t : TypeId) : Bool := match P.underlying t with
  | some .bool => true
  | _ => false
def sliB (P : Program) (t : TypeId) : Bool := match P.underlying t with
  | some (.slice _) => true
  | _ => false
def kindT (P : Program) (t : TypeId) : Option IntKind := match P.underlying t with
  | some (.int k) => some k
  | _ => none
def binV (P : Program) (op : BinOp) (t : TypeId) (x y : Value) : Option Value :=
  match x, y with
  | .int k a, .int k' b => (match op with
    | .shl => if 0 ≤ b then some (.int k (k.wrap (a * 2 ^ min b.toNat k.bits))) else none
    | .shr => if 0 ≤ b then some (.int k (a.fdiv (2 ^ min b.toNat k.bits))) else none
    | op => if k = k' then intV op k a b else none)
  | .bool a, .bool b => (match op with
    | .eql => if boolT P t = true then some (.bool (a == b)) else none
    | .neq => if boolT P t = true then some (.bool (!(a == b))) else none
    | _ => none)
  | .string a, .string b => strV op a.data.toList b.data.toList
  | .slice none _ _, .slice none _ _ => if sliB P t = true then (match op with
    | .eql => some (.bool true)
    | .neq => some (.bool false)
    | _ => none) else none
  | .slice (some _) _ _, .slice none _ _ => if sliB P t = true then (match op with
    | .eql => some (.bool false)
    | .neq => some (.bool true)
    | _ => none) else none
  | _, _ => none
def unV (op : UnOp) (x : Value) : Option Value :=
  match op, x with
  | .not, .bool b => some (.bool (!b))
  | .neg, .int k n => some (.int k (k.wrap (0 - n)))
  | _, _ => none
def convV (P : Program) (src dst : TypeId) (x : Value) : Option Value :=
  match x with
  | .int _ n => (match kindT P dst, kindT P src with | some k, some _ => some (.int k (k.wrap n)) | _, _ => none)
  | _ => none

section
variable {P : Program} {n0 : Nat} {w : World} {B : List Nat} {η : List Value} {H : List Ent} {ρ : Operand → Value} {ρA : Operand → AV} {o : Oper}
theorem intV_run {op : BinOp} {k : IntKind} {a b : Int} {v : Value} {t : TypeId} (h : intV op k a b = some v) (w : World) : (binOp op t (.int k a) (.int k b)).run P w = .ok v w := by
  cases op <;> simp only [intV] at h <;> first
    | (injection h with h; subst h; simp [binOp, Op.intArith, Op.intCmp, Op.intBits, bits]; done)
    | (split at h
       · cases h
       · rename_i hb; injection h with h; subst h; simp [binOp, Op.intDiv, hb]; done)
    | (injection h with h; subst h; simp [binOp, Op.intCmp]; rw [Bool.eq_iff_iff]; simp; done)
    | (cases h; done)
theorem guard_int {op : BinOp} {t : TypeId} {x y : Operand} {k k' : IntKind} {a b : Int} (w : World) : (eqGuard op t x y (.int k a) (.int k' b)).run P w = .ok () w := by
  cases op <;> simp [eqGuard]
theorem guard_bool {op : BinOp} {t : TypeId} {x y : Operand} {a b : Bool} (w : World) : (eqGuard op t x y (.bool a) (.bool b)).run P w = .ok () w := by
  cases op <;> simp [eqGuard]
theorem guard_str {op : BinOp} {t : TypeId} {x y : Operand} {a b : ByteArray} (w : World) : (eqGuard op t x y (.string a) (.string b)).run P w = .ok () w := by
  cases op <;> simp [eqGuard]
theorem str_eq (a b : ByteArray) : (a.toList == b.toList) = decide (a.data.toList = b.data.toList) := by
  rw [ByteArray.toList_eq, ByteArray.toList_eq, Bool.eq_iff_iff]
  simp
theorem binV_run {op : BinOp} {t : TypeId} {x y : Value} {v : Value} (h : binV P op t x y = some v) (px py : Operand) (w : World) : (do eqGuard op t px py x y; binOp op t x y : Sem Value).run P w = .ok v w := by
  unfold binV at h
  split at h
  · rename_i k a k' b
    rw [Sem.run_bind, guard_int]
    simp only [Result.andThen_ok]
    split at h
    · split at h
      · rename_i hb; injection h with h; subst h
        have : ¬ b < 0 := by omega
        simp [binOp, Op.shift, this]
      · cases h
    · split at h
      · rename_i hb; injection h with h; subst h
        have : ¬ b < 0 := by omega
        simp [binOp, Op.shift, this]
      · cases h
    · split at h
      · rename_i hk; subst hk; exact intV_run h w
      · cases h
  · rename_i a b
    rw [Sem.run_bind, guard_bool]
    simp only [Result.andThen_ok]
    have hu : boolT P t = true → P.underlying t = some .bool := fun hb => by
      unfold boolT at hb
      split at hb
      · assumption
      · cases hb
    split at h
    · split at h
      · rename_i hb; injection h with h; subst h
        exact run_eql_bool w t a b (hu hb)
      · cases h
    · split at h
      · rename_i hb; injection h with h; subst h
        exact run_neq_bool w t a b (hu hb)
      · cases h
    · cases h
  · rename_i a b
    rw [Sem.run_bind, guard_str]
    simp only [Result.andThen_ok]
    unfold strV at h
    split at h
    · injection h with h; subst h
      simp only [binOp, Op.stringOp, str_eq, Sem.run_pure]
    · injection h with h; subst h
      simp only [binOp, Op.stringOp, str_eq, Sem.run_pure]
    · cases h
  · rename_i n c n' c'
    split at h
    · rename_i hb
      obtain ⟨e, hu⟩ : ∃ e, P.underlying t = some (.slice e) := by
        unfold sliB at hb
        split at hb
        · exact ⟨_, by assumption⟩
        · cases hb
      have hg : (eqGuard op t px py (.slice none n c) (.slice none n' c')).run P w = .ok () w := by cases op <;> simp [eqGuard]
      rw [Sem.run_bind, hg]
      simp only [Result.andThen_ok]
      split at h
      · injection h with h; subst h
        rw [Lib.run_eql_slice_nil w t e _ _ _ _ _ hu]; rfl
      · injection h with h; subst h
        rw [run_neq_slice_nil_any w t e _ _ _ _ _ hu]; rfl
      · cases h
    · cases h
  · rename_i A0 n c n' c'
    split at h
    · rename_i hb
      obtain ⟨e, hu⟩ : ∃ e, P.underlying t = some (.slice e) := by
        unfold sliB at hb
        split at hb
        · exact ⟨_, by assumption⟩
        · cases hb
      have hg : (eqGuard op t px py (.slice (some A0) n c) (.slice none n' c')).run P w = .ok () w := by cases op <;> simp [eqGuard]
      rw [Sem.run_bind, hg]
      simp only [Result.andThen_ok]
      split at h
      · injection h with h; subst h
        rw [Lib.run_eql_slice_nil w t e _ _ _ _ _ hu]; rfl
      · injection h with h; subst h
        rw [run_neq_slice_nil_any w t e _ _ _ _ _ hu]; rfl
      · cases h
    · cases h
  · cases h
theorem bin_ok (he : ∀ x ∈ o.op.operands, Rel w B η (ρA x) (ρ x)) {op : BinOp} {t t2 : TypeId} {x y : Operand} {a b v : Value} (ho : o.op = .binOp op t x y t2) (hx : ρA x = .c a) (hy : ρA y = .c b) (h : binV P op t a b = some v) : OpOK P n0 w ρ o B η (.c v) := by
  have h1 := he x (by simp [ho, Op.operands])
  have h2 := he y (by simp [ho, Op.operands])
  rw [hx] at h1; rw [hy] at h2
  have h1 := h1.ofC
  have h2 := h2.ofC
  have := binV_run (P := P) h x y w
  exact .of_run (v := v) (by simp only [execOp, ho, h1, h2]; rw [Sem.run_bind]; rw [this]; rfl) (.c _ _)
theorem un_ok (he : ∀ x ∈ o.op.operands, Rel w B η (ρA x) (ρ x)) {op : UnOp} {t : TypeId} {x : Operand} {a v : Value} (ho : o.op = .unOp op t x) (hx : ρA x = .c a) (h : unV op a = some v) : OpOK P n0 w ρ o B η (.c v) := by
  have h1 := he x (by simp [ho, Op.operands])
  rw [hx] at h1
  have h1 := h1.ofC
  refine .of_run (v := v) ?_ (.c _ _)
  unfold unV at h
  split at h <;> first | (injection h with h; subst h; simp [execOp, ho, h1, Op.unary, Op.intArith]; done) | (cases h; done)
theorem kindT_spec {t : TypeId} {k : IntKind} (h : kindT P t = some k) : P.underlying t = some (.int k) := by
  unfold kindT at h
  split at h
  · rename_i hu; injection h with h; subst h; exact hu
  · cases h
theorem conv_ok (he : ∀ x ∈ o.op.operands, Rel w B η (ρA x) (ρ x)) {s d : TypeId} {x : Operand} {a v : Value} (ho : o.op = .convert s d x) (hx : ρA x = .c a) (h : convV P s d a = some v) : OpOK P n0 w ρ o B η (.c v) := by
  have h1 := he x (by simp [ho, Op.operands])
  rw [hx] at h1
  have h1 := h1.ofC
  refine .of_run (v := v) ?_ (.c _ _)
  unfold convV at h
  split at h
  · split at h
    · rename_i k k' hd hs
      injection h with h; subst h
      simp [execOp, ho, h1, convert, Sem.run_bind, run_underlying (kindT_spec hd), run_underlying (kindT_spec hs), Conv.intToInt]
    · cases h
  · cases h
end
end Go.Proofs.YtfaocnboildjbaaDoor
/-
  Structs and slices that are built; bytes as a text; slices against nil.
-/
namespace Go.Proofs.YtfaocnboildjbaaDoor
set_option maxRecDepth 100000
open Go.RowKit
set_option linter.unusedVariables false
set_option linter.unusedSimpArgs false

def notTup : AV → Bool
  | .tup _ => false
  | _ => true
/-- The cells from off on are these. -/
def putL {α : Type} (cells : List α) (off : Nat) (l : List α) : List α := cells.take off ++ l ++ cells.drop (off + l.length)
theorem RelL.putL {w : World} {B : List Nat} {η : List Value} {l m : List AV} {us vs : List Value} (h : RelL w B η l us) (k : RelL w B η m vs) (off : Nat) : RelL w B η (putL l off m) (putL us off vs) := by
  unfold Go.Proofs.YtfaocnboildjbaaDoor.putL
  rw [k.1]
  exact ((h.take off).append k).append (h.drop _)
def fillA (place : Nat → Option (Nat × Nat)) (cells : List AV) : List (Nat × AV) → Option (List AV)
  | [] => some cells
  | (i, x) :: rest => match place i with
    | none => none
    | some (off, size) => if notTup x = true ∧ x.toL.length = size ∧ off + x.toL.length ≤ cells.length then fillA place (putL cells off x.toL) rest else none
/-- A struct's, or an array's, zero cells, and where its parts lie. -/
def layP (P : Program) (t : TypeId) : Option (List Value × List (Nat × Nat)) :=
  match P.info? t, P.underlying t with
  | some it, some (.struct fields) => (match it.zero, fields.toList.mapM (fun f => (P.info? f.type).map fun i => (f.offset, i.size)) with
    | some z, some places => some (z.cells.toList, places)
    | _, _ => none)
  | _, _ => none
def layE (P : Program) (t : TypeId) : Option (List Value × Nat) :=
  match P.info? t, P.underlying t with
  | some it, some (.array _ e) => (match it.zero, P.info? e with
    | some z, some ie => some (z.cells.toList, ie.size)
    | _, _ => none)
  | _, _ => none
def buildA (P : Program) (t : TypeId) (parts : List (Nat × AV)) : Option AV :=
  match layP P t with
  | some (z, places) => (match fillA (places[·]?) (z.map .c) parts with | some l => some (.agg l) | none => none)
  | none => match layE P t with
    | some (z, size) => (match fillA (fun i => some (i * size, size)) (z.map .c) parts with | some l => some (.agg l) | none => none)
    | none => none
section
variable {P : Program} {n0 : Nat} {w : World} {B : List Nat} {η : List Value} {H : List Ent} {ρ : Operand → Value} {ρA : Operand → AV} {o : Oper}
theorem fold_put : ∀ (l : List Value) (s off : Nat) (cs : Array Value), off + s + l.length ≤ cs.size →
    ((l.zipIdx s).foldl (fun cs (x : Value × Nat) => cs.setIfInBounds (off + x.2) x.1) cs).toList = putL cs.toList (off + s) l
  | [], s, off, cs, h => by simp [putL]
  | x :: l, s, off, cs, h => by
    rw [List.zipIdx_cons, List.foldl_cons, fold_put l (s + 1) off _ (by simp at h ⊢; omega)]
    simp only [putL, Array.toList_setIfInBounds, List.length_cons]
    have hlt : off + s < cs.toList.length := by simp at h ⊢; omega
    rw [show off + (s + 1) = (off + s) + 1 by omega, List.take_add_one, List.getElem?_set_self hlt, List.take_set_of_le (Nat.le_refl _)]
    rw [List.drop_set_of_lt (by omega)]
    simp [Nat.add_assoc, Nat.add_comm 1]
theorem fill_ok {place : Nat → Option (Nat × Nat)} : ∀ (parts : List (Nat × AV)) (cparts : List (Nat × Value)) (cells l : List AV) (cs : Array Value), RelL w B η cells cs.toList → cparts.length = parts.length → (∀ (i : Nat) (p : Nat × AV), parts[i]? = some p → ∃ v, cparts[i]? = some (p.1, v) ∧ Rel w B η p.2 v) → fillA place cells parts = some l →
    ∃ cs', Instr.fill place cs cparts = some cs' ∧ RelL w B η l cs'.toList
  | [], cparts, cells, l, cs, hr, hlen, hp, h => by
    simp only [fillA, Option.some.injEq] at h; subst h
    have : cparts = [] := List.eq_nil_of_length_eq_zero hlen
    subst this
    exact ⟨cs, rfl, hr⟩
  | (i, x) :: rest, [], cells, l, cs, hr, hlen, hp, h => by simp at hlen
  | (i, x) :: rest, (j, v) :: crest, cells, l, cs, hr, hlen, hp, h => by
    obtain ⟨v', h1, h2⟩ := hp 0 (i, x) rfl
    simp only [List.getElem?_cons_zero, Option.some.injEq, Prod.mk.injEq] at h1
    obtain ⟨rfl, rfl⟩ := h1
    simp only [fillA] at h
    unfold Instr.fill
    split at h
    · cases h
    · rename_i off size hpl
      rw [hpl]
      split at h
      · rename_i hc
        have hx := h2.toL (fun l e => by have e' : x = .tup l := e; rw [e'] at hc; exact absurd hc.1 (by simp [notTup]))
        have hsz : v.cells.size = size := by rw [← hc.2.1, ← hx.1]; simp
        have hbd : off + v.cells.size ≤ cs.size := by have := hc.2.2; have e1 := hx.1; have e2 := hr.1; simp at e1 e2; omega
        simp only [hsz, ne_eq, not_true_eq_false, decide_false, Bool.false_or]
        rw [if_neg (by simp; omega)]
        have hfold : (v.cells.zipIdx.foldl (fun cs (x : Value × Nat) => cs.setIfInBounds (off + x.2) x.1) cs).toList = putL cs.toList off v.cells.toList := by
          have := fold_put v.cells.toList 0 off cs (by simpa using hbd)
          rw [← Array.foldl_toList, Array.toList_zipIdx]
          simpa using this
        exact fill_ok rest crest _ l _ (by
          have := hr.putL hx off
          rw [← hfold] at this
          exact this) (by simpa using hlen) (fun i p hip => hp (i + 1) p hip) h
      · cases h
theorem layP_spec {t : TypeId} {z : List Value} {places : List (Nat × Nat)} (h : layP P t = some (z, places)) (parts : List (Nat × Value)) : P.built t parts = Instr.fill (places[·]?) z.toArray parts := by
  unfold layP at h
  split at h
  · rename_i it fields hi hu
    split at h
    · rename_i z' places' hz hp
      injection h with h; injection h with h1 h2; subst h1 h2
      simp only [Program.built, hi, hu, hz, hp]
      simp
    · cases h
  · cases h
theorem layE_spec {t : TypeId} {z : List Value} {size : Nat} (h : layE P t = some (z, size)) (parts : List (Nat × Value)) : P.built t parts = Instr.fill (fun i => some (i * size, size)) z.toArray parts := by
  unfold layE at h
  split at h
  · rename_i it n e hi hu
    split at h
    · rename_i z' ie hz hp
      injection h with h; injection h with h1 h2; subst h1 h2
      simp only [Program.built, hi, hu, hz, hp]
    · cases h
  · cases h
theorem relL_c (l : List Value) : RelL w B η (l.map .c) l := ⟨by simp, fun i x hx => by
  rw [List.getElem?_map, Option.map_eq_some_iff] at hx
  obtain ⟨u, hu, rfl⟩ := hx
  exact ⟨u, hu, .c _ _⟩⟩
theorem RelL.toAgg {l : List AV} {us : List Value} (h : RelL w B η l us) : Rel w B η (.agg l) (.agg us.toArray) :=
  .agg _ _ _ (fun i => us.getD i undef) (by simp [h.1]) (fun i y hy => by obtain ⟨u, h1, h2⟩ := h.2 i y hy; simp [List.getD_eq_getElem?_getD, h1]) (fun i y hy => by obtain ⟨u, h1, h2⟩ := h.2 i y hy; simpa [List.getD_eq_getElem?_getD, h1] using h2)
def partsA (ρA : Operand → AV) (parts : Array (Nat × Operand)) : List (Nat × AV) := parts.toList.map fun p => (p.1, ρA p.2)
theorem parts_rel (he : ∀ x ∈ o.op.operands, Rel w B η (ρA x) (ρ x)) {parts : Array (Nat × Operand)} (hin : ∀ p ∈ parts.toList, p.2 ∈ o.op.operands) : (parts.map fun (i, x) => (i, ρ x)).toList.length = (partsA ρA parts).length ∧ ∀ (i : Nat) (p : Nat × AV), (partsA ρA parts)[i]? = some p → ∃ v, (parts.map fun (i, x) => (i, ρ x)).toList[i]? = some (p.1, v) ∧ Rel w B η p.2 v := by
  refine ⟨by simp [partsA], fun i p hp => ?_⟩
  unfold partsA at hp
  rw [List.getElem?_map, Option.map_eq_some_iff] at hp
  obtain ⟨q, hq, rfl⟩ := hp
  refine ⟨ρ q.2, ?_, he q.2 (hin q (List.mem_of_getElem? hq))⟩
  have : parts[i]? = some q := by simpa using hq
  simp [this]
theorem build_ok (he : ∀ x ∈ o.op.operands, Rel w B η (ρA x) (ρ x)) {t : TypeId} {parts : Array (Nat × Operand)} {r : AV} (ho : o.op = .build t parts) (h : buildA P t (partsA ρA parts) = some r) : OpOK P n0 w ρ o B η r := by
  obtain ⟨hl, hp⟩ := parts_rel he (parts := parts) (fun p hp => by rw [ho]; simp [Op.operands]; exact ⟨p.1, by simpa using hp⟩)
  have key : ∃ l cells, r = .agg l ∧ P.built t (parts.map fun (i, x) => (i, ρ x)).toList = some cells ∧ RelL w B η l cells.toList := by
    unfold buildA at h
    split at h
    · rename_i z places hlay
      split at h
      · rename_i l hfill
        injection h with h; subst h
        obtain ⟨cs, h1, h2⟩ := fill_ok (place := (places[·]?)) _ _ _ _ z.toArray (by simpa using relL_c z) hl hp hfill
        exact ⟨l, cs, rfl, by rw [layP_spec hlay]; exact h1, h2⟩
      · cases h
    · split at h
      · rename_i z size hlay
        split at h
        · rename_i l hfill
          injection h with h; subst h
          obtain ⟨cs, h1, h2⟩ := fill_ok (place := fun i => some (i * size, size)) _ _ _ _ z.toArray (by simpa using relL_c z) hl hp hfill
          exact ⟨l, cs, rfl, by rw [layE_spec hlay]; exact h1, h2⟩
        · cases h
      · cases h
  obtain ⟨l, cells, rfl, hb, hr⟩ := key
  exact .of_run (v := .agg cells) (by simp only [execOp, ho]; rw [Sem.run_bind, run_build w t _ cells hb]; rfl) hr.toAgg
end
end Go.Proofs.YtfaocnboildjbaaDoor
/-
  Slices that are built; bytes as a text, a text as bytes; slices against nil.
-/
namespace Go.Proofs.YtfaocnboildjbaaDoor
set_option maxRecDepth 100000
open Go.RowKit
set_option linter.unusedVariables false
set_option linter.unusedSimpArgs false

/-- What a slice is of: its elements' type, how many cells each has, and these at first. -/
def sliT (P : Program) (t : TypeId) : Option (TypeId × Nat × List Value) :=
  match P.underlying t with
  | some (.slice e) => (match P.info? e with
    | some i => (match i.zero with
      | some z => if z.cells.size = i.size ∧ 1 ≤ i.size then some (e, i.size, z.cells.toList) else none
      | none => none)
    | none => none)
  | _ => none
def repL (n : Nat) (z : List Value) : List Value := (List.replicate n z).flatten
def buildSlA (P : Program) (t : TypeId) (len : Nat) (parts : List (Nat × AV)) : Option AV :=
  match sliT P t with
  | some (_, k, z) => if len * k ≤ 16777216 then (match fillA (fun i => some (i * k, k)) ((repL len z).map .c) parts with
    | some l => if l.all AV.imm0 = true then some (.sl l k) else none
    | none => none) else none
  | none => none
section
variable {P : Program} {n0 : Nat} {w : World} {B : List Nat} {η : List Value} {H : List Ent} {ρ : Operand → Value} {ρA : Operand → AV} {o : Oper}
theorem sliT_spec {t e k : Nat} {z : List Value} (h : sliT P t = some (e, k, z)) : ∃ i zv, P.underlying t = some (.slice e) ∧ P.info? e = some i ∧ i.zero = some zv ∧ i.size = k ∧ zv.cells.toList = z ∧ z.length = k ∧ 1 ≤ k := by
  unfold sliT at h
  split at h
  · rename_i e' hu
    split at h
    · rename_i i hi
      split at h
      · rename_i zv hz
        split at h
        · rename_i hc
          injection h with h; injection h with h1 h2; injection h2 with h2 h3; subst h1 h2 h3
          exact ⟨i, zv, hu, hi, hz, rfl, rfl, by simpa using hc.1, hc.2⟩
        · cases h
      · cases h
    · cases h
  · cases h
theorem repL_length (n : Nat) (z : List Value) : (repL n z).length = n * z.length := by
  simp [repL, List.length_flatten]
theorem repL_get : ∀ (n : Nat) (z : List Value) (j : Nat), j < n * z.length → (repL n z)[j]? = z[j % z.length]?
  | 0, z, j, h => by simp at h
  | n + 1, z, j, h => by
    have e : repL (n + 1) z = z ++ repL n z := by simp [repL, List.replicate_succ]
    rw [e]
    rcases Nat.lt_or_ge j z.length with hj | hj
    · rw [List.getElem?_append_left hj, Nat.mod_eq_of_lt hj]
    · rw [List.getElem?_append_right hj, repL_get n z (j - z.length) (by rw [Nat.add_mul] at h; omega)]
      rw [Nat.mod_eq_sub_mod hj]
theorem made_repL (z : Array Value) (n : Nat) (hz : 0 < z.size) : (madeCells z (n * z.size)).toList = repL n z.toList := by
  apply List.ext_getElem?
  intro j
  rcases Nat.lt_or_ge j (n * z.size) with hj | hj
  · rw [repL_get n z.toList j (by simpa using hj)]
    have hm : j % z.size < z.size := Nat.mod_lt _ hz
    simp [madeCells, hj, hm]
  · rw [List.getElem?_eq_none (by simpa [size_madeCells] using hj), List.getElem?_eq_none (by rw [repL_length]; simpa using hj)]
theorem buildSl_raw (hlt : ∀ b ∈ B, b < w.heap.size) (he : ∀ x ∈ o.op.operands, Rel w B η (ρA x) (ρ x)) {t : TypeId} {len : Nat} {parts : Array (Nat × Operand)} {r : AV} (ho : o.op = .buildSlice t len parts) (hm : len ≤ maxLen) (h : buildSlA P t len (partsA ρA parts) = some r) (N : Value → World → Prop) (hN : ∀ v w', Gr w w' → Rel w' B η r v → (∀ ad n c, v = .slice (some ad) n c → w.heap.size ≤ ad.block) → (∃ A, v = .slice A len len) → N v w') : Oper.val P ρ o w N := by
  obtain ⟨hl, hp⟩ := parts_rel he (parts := parts) (fun p hp => by rw [ho]; simp [Op.operands]; exact ⟨p.1, by simpa using hp⟩)
  unfold buildSlA at h
  split at h
  · rename_i e k z hs
    obtain ⟨i, zv, hu, hi, hz, hsz, hzc, hzl, hk⟩ := sliT_spec hs
    split at h
    · rename_i hle
      split at h
      · rename_i l hfill
        split at h
        · rename_i himm
          injection h with h; subst h
          have hzs : zv.cells.size = k := by rw [← hzl, ← hzc]; simp
          have hbase : RelL w B η ((repL len z).map .c) (madeCells zv.cells (len * k)).toList := by
            have : (madeCells zv.cells (len * k)).toList = repL len z := by rw [← hzc, ← hzs]; exact made_repL _ _ (by omega)
            rw [this]; exact relL_c _
          obtain ⟨cs, h1, h2⟩ := fill_ok (place := fun i => some (i * k, k)) _ _ _ _ _ hbase hl hp hfill
          unfold Oper.val
          have hrun : (execOp ρ o).run P w = .ok (.value (.slice (some ⟨w.heap.size, 0, none⟩) len len)) (w.alloc (.cells cs e)) := by
            have h0 : len = 0 ∨ 0 < len := by omega
            simp only [execOp, ho, Instr.buildSlice, Sem.run_bind, run_underlying hu, Result.andThen_ok, run_sizeOf hi, hsz]
            rw [if_neg (by omega)]
            by_cases h00 : len * k = 0
            · have hm0 : (Array.range 0).map ((#[] : Array Value)[· % (#[] : Array Value).size]!) = madeCells zv.cells (len * k) := by rw [h00]; simp [madeCells]
              simp only [h00, if_true, Sem.run_bind, Sem.run_pure, Result.andThen_ok]
              rw [hm0, h1]
              rfl
            · have hm0 : (Array.range (len * k)).map (zv.cells[· % zv.cells.size]!) = madeCells zv.cells (len * k) := rfl
              have hzr : (zeroValue e).run P w = .ok zv w := by simp [zeroValue, typeInfo, hi, hz, Sem.run_bind]
              simp only [h00, if_false, Sem.run_bind, hzr, Sem.run_pure, Result.andThen_ok]
              rw [hm0, h1]
              rfl
          rw [hrun]
          have g : Gr w (w.alloc (.cells cs e)) := gr_alloc (Gr.refl w) _
          have hcl : cs.toList.length = len * k := by
            rw [h2.1]
            have : ∀ (parts : List (Nat × AV)) (cells l : List AV), fillA (fun i => some (i * k, k)) cells parts = some l → l.length = cells.length := by
              intro parts
              induction parts with
              | nil => intro cells l h; simp only [fillA, Option.some.injEq] at h; subst h; rfl
              | cons p rest ih =>
                obtain ⟨j, x⟩ := p
                intro cells l h
                simp only [fillA] at h
                split at h
                · rename_i hc
                  rw [ih _ _ h]
                  simp [putL]; omega
                · cases h
            rw [this _ _ _ hfill]; simp [repL_length, hzl]
          refine hN _ _ g (.sl _ _ _ _ _ _ (fun i => cs.toList.getD i undef) hk (by rw [← h2.1, hcl]) (Nat.le_refl _) hm (fun _ => ⟨_, rfl, rfl, by simp, fun hb => ?_, fun j hj => ?_⟩) (fun j x hx => ?_)) (fun ad n c hh => by injection hh with hh; injection hh with hh; subst hh; exact Nat.le_refl _) ⟨_, rfl⟩
          · have := hlt _ hb; simp at this
          · have hj' : j < cs.toList.length := by rw [h2.1]; exact hj
            rw [Addr.add_mid, Nat.zero_add, cell_of_row (w.alloc (.cells cs e)) w.heap.size j cs e (0, 0) (by show (w.heap.push _)[w.heap.size]? = _; simp)]
            rw [← Array.getElem?_toList, List.getElem?_eq_getElem hj', List.getD_eq_getElem?_getD, List.getElem?_eq_getElem hj', Option.getD_some]
          · obtain ⟨u, q1, q2⟩ := h2.2 j x hx
            rw [List.getD_eq_getElem?_getD, q1, Option.getD_some]
            exact ((q2.bare0 (List.all_eq_true.1 himm x (List.mem_of_getElem? hx))) : Rel w B [] x u).gr g
        · cases h
      · cases h
    · cases h
  · cases h
theorem buildSl_own (he : ∀ x ∈ o.op.operands, Rel w B η (ρA x) (ρ x)) {t : TypeId} {len k e : Nat} {z : List Value} {parts : Array (Nat × Operand)} {l : List AV} (ho : o.op = .buildSlice t len parts) (hs : sliT P t = some (e, k, z)) (hle : len * k ≤ 16777216) (hfill : fillA (fun i => some (i * k, k)) ((repL len z).map .c) (partsA ρA parts) = some l) (N : Value → World → Prop)
    (hN : ∀ cs : Array Value, Gr w (w.alloc (.cells cs e)) → cs.size = len * k → RelL w B η l cs.toList → N (.slice (some ⟨w.heap.size, 0, none⟩) len len) (w.alloc (.cells cs e))) : Oper.val P ρ o w N := by
  obtain ⟨hl, hp⟩ := parts_rel he (parts := parts) (fun p hp => by rw [ho]; simp [Op.operands]; exact ⟨p.1, by simpa using hp⟩)
  obtain ⟨i, zv, hu, hi, hz, hsz, hzc, hzl, hk⟩ := sliT_spec hs
  have hzs : zv.cells.size = k := by rw [← hzl, ← hzc]; simp
  have hbase : RelL w B η ((repL len z).map .c) (madeCells zv.cells (len * k)).toList := by
    have : (madeCells zv.cells (len * k)).toList = repL len z := by rw [← hzc, ← hzs]; exact made_repL _ _ (by omega)
    rw [this]; exact relL_c _
  obtain ⟨cs, h1, h2⟩ := fill_ok (place := fun i => some (i * k, k)) _ _ _ _ _ hbase hl hp hfill
  unfold Oper.val
  have hrun : (execOp ρ o).run P w = .ok (.value (.slice (some ⟨w.heap.size, 0, none⟩) len len)) (w.alloc (.cells cs e)) := by
    have h0 : len = 0 ∨ 0 < len := by omega
    simp only [execOp, ho, Instr.buildSlice, Sem.run_bind, run_underlying hu, Result.andThen_ok, run_sizeOf hi, hsz]
    rw [if_neg (by omega)]
    by_cases h00 : len * k = 0
    · have hm0 : (Array.range 0).map ((#[] : Array Value)[· % (#[] : Array Value).size]!) = madeCells zv.cells (len * k) := by rw [h00]; simp [madeCells]
      simp only [h00, if_true, Sem.run_bind, Sem.run_pure, Result.andThen_ok]
      rw [hm0, h1]
      rfl
    · have hm0 : (Array.range (len * k)).map (zv.cells[· % zv.cells.size]!) = madeCells zv.cells (len * k) := rfl
      have hzr : (zeroValue e).run P w = .ok zv w := by simp [zeroValue, typeInfo, hi, hz, Sem.run_bind]
      simp only [h00, if_false, Sem.run_bind, hzr, Sem.run_pure, Result.andThen_ok]
      rw [hm0, h1]
      rfl
  rw [hrun]
  have g : Gr w (w.alloc (.cells cs e)) := gr_alloc (Gr.refl w) _
  have hcl : cs.toList.length = len * k := by
    rw [h2.1]
    have : ∀ (parts : List (Nat × AV)) (cells l : List AV), fillA (fun i => some (i * k, k)) cells parts = some l → l.length = cells.length := by
      intro parts
      induction parts with
      | nil => intro cells l h; simp only [fillA, Option.some.injEq] at h; subst h; rfl
      | cons p rest ih =>
        obtain ⟨j, x⟩ := p
        intro cells l h
        simp only [fillA] at h
        split at h
        · rename_i hc
          rw [ih _ _ h]
          simp [putL]; omega
        · cases h
    rw [this _ _ _ hfill]; simp [repL_length, hzl]
  exact hN cs g (by simpa using hcl) h2
end
end Go.Proofs.YtfaocnboildjbaaDoor
/-
  The program's own facts: what a byte is, make and append of bytes.
-/
namespace Go.Proofs.YtfaocnboildjbaaDoor
set_option maxRecDepth 100000
open Go.RowKit
theorem u8info : (Tryd.prog.info? 5).map (fun i => (i.zero, i.size, i.bytes)) = some (some (.int .u8 0), 1, 1) := by kernel_rfl

theorem mk_bytes (L C : Int) (h0 : 0 ≤ L) (hl : L ≤ C) (hc : C ≤ 281474976710656) (w : World) :
    (Instr.makeSlice 26 (.int .i64 L) (.int .i64 C)).run Tryd.prog w = .ok (.slice (some ⟨w.heap.size, 0, none⟩) L.toNat C.toNat) (w.alloc (.cells (madeCells #[.int .u8 0] C.toNat) 5)) := by
  obtain ⟨i0, hi, hz, hs, hb⟩ := info_parts u8info
  have := run_make (P := Tryd.prog) w 26 5 i0 _ Tryd.underlying26 hi hz .i64 .i64 L C h0 hl (by rw [hb]; omega) (by omega)
  rw [hs, Nat.mul_one] at this
  exact this

/-- string(b). -/
theorem str_bytes (A : Option Addr) (n c : Nat) (bs : List UInt8) (w : World) (h : RB w A n bs) :
    (convert 26 9 (.slice A n c)).run Tryd.prog w = .ok (.string ⟨bs.toArray⟩) w := by
  rcases A with _ | ad
  · have hn : n = 0 := by
      rcases Nat.eq_zero_or_pos n with h0 | h0
      · exact h0
      · obtain ⟨ad, h1, _⟩ := h.2 h0
        cases h1
    subst hn
    have hb : bs = [] := List.eq_nil_of_length_eq_zero h.1
    subst hb
    rw [run_convert_bytes_nil w _ _ Tryd.underlying26 Tryd.underlying5 0 c _ Tryd.underlying9]
    rfl
  · have hl : (loadCells ad n).run Tryd.prog w = .ok ((bs.map fun b => (b.toNat : Int)).map (Value.int .u8)).toArray w := by
      have := run_loadCells_list (P := Tryd.prog) w ad ((bs.map fun b => (b.toNat : Int)).map (Value.int .u8)) (fun j v hj => by
        rw [List.map_map, List.getElem?_map] at hj
        cases hb : bs[j]? with
        | none => rw [hb] at hj; cases hj
        | some b =>
          rw [hb] at hj
          have hlt : j < bs.length := (List.getElem?_eq_some_iff.1 hb).1
          obtain ⟨ad', h1, _, hc⟩ := h.2 (by have := h.1; omega)
          injection h1 with h1
          subst h1
          injection hj with hj
          subst hj
          exact hc j b hb)
      simpa [h.1] using this
    rw [run_convert_bytes_string w _ _ _ _ n c Tryd.underlying26 Tryd.underlying5 Tryd.underlying9, run_bytesToString w _ n c _ hl, foldl_push_bytes]
    simp [ByteArray.empty, ByteArray.emptyWithCapacity, List.map_map, Function.comp_def]
    rfl

section
variable {P : Program} (w : World)
theorem bv_one (bs : List UInt8) : ∀ u ∈ bs.map bv, u.oneCell' = true := by
  intro u hu
  obtain ⟨b, _, rfl⟩ := List.mem_map.1 hu
  rfl
set_option maxRecDepth 100000 in
theorem run_appb (ty base : Nat) (v : Value) (n : Nat) (bs : List UInt8) (hown : OB w base v n bs) (A : Option Addr) (m c : Nat) (news : List UInt8) (hr : RB w A m news)
    (hb : n + m ≤ 140737488355328) (hbase : base ≤ w.heap.size) :
    ∃ v' w', (Builtin.append_ #[26, 26] ty #[v, .slice A m c]).run Tryd.prog w = .ok v' w' ∧ OB w' base v' (n + m) (bs ++ news) ∧ w.grownBy w' v.ownBlock ∧
      (v'.ownBlock = v.ownBlock ∨ v'.ownBlock = some w.heap.size) := by
  obtain ⟨i0, hi, hz, hs, hby⟩ := info_parts u8info
  have ht := Tryd.underlying26
  rcases A with _ | ad
  · have hm : m = 0 := by
      rcases Nat.eq_zero_or_pos m with h0 | h0
      · exact h0
      · obtain ⟨ad, h, _⟩ := hr.2 h0
        cases h
    subst hm
    have hn : news = [] := List.eq_nil_of_length_eq_zero hr.1
    subst hn
    refine ⟨v, w, ?_, by simpa using hown, World.grownBy.refl w _, .inl rfl⟩
    rcases hown.2 with ⟨rfl, rfl⟩ | ⟨g, cap, cur, rfl, _, _, hnc, _⟩
    · simp [Builtin.append_, run_underlying ht, sizeOf, typeInfo, hi, Builtin.lenOf, Builtin.firstCells]
    · simp [Builtin.append_, run_underlying ht, sizeOf, typeInfo, hi, Builtin.lenOf, Builtin.firstCells, hnc, storeCells]
  · have hcells : ∀ j u, (news.map bv)[j]? = some u → w.cell? (ad.add j) = some u := by
      intro j u hu
      rw [List.getElem?_map] at hu
      cases hj : news[j]? with
      | none => rw [hj] at hu; cases hu
      | some b =>
        rw [hj] at hu
        have hlt : j < news.length := (List.getElem?_eq_some_iff.1 hj).1
        obtain ⟨ad', h, _, hc⟩ := hr.2 (by have := hr.1; omega)
        injection h with h
        subst h
        injection hu with hu
        subst hu
        exact hc j b hj
    obtain ⟨v', w', hrun, h2, h3, _, h5⟩ := run_append_own_at (P := Tryd.prog) w base 26 ty 5 i0 (.int .u8 0) 1 1 ht hi hz hs hby rfl (by omega) v n (bs.map bv) hown ad m c (news.map bv)
      (by rw [List.length_map, hr.1, Nat.mul_one]) hcells (bv_one _) (by simp only [maxLen]; omega) (by omega) hbase
    exact ⟨v', w', hrun, by unfold OB; rw [List.map_append]; exact h2, h3, h5⟩
theorem wp_appb {o : Oper} {a : Act} {K : Act → World → Prop} {Q : Exit → Act → World → Prop} (s x : Operand)
    (ho : o.op = .call { callee := .builtin .append, args := #[s, x], argTypes := #[26, 26] })
    (base : Nat) (v : Value) (n : Nat) (bs : List UInt8) (hs : a.eval s = v) (hown : OB w base v n bs)
    (A : Option Addr) (m c : Nat) (news : List UInt8) (hx : a.eval x = .slice A m c) (hr : RB w A m news) (hb : n + m ≤ 140737488355328) (hbase : base ≤ w.heap.size)
    (h : ∀ v' w', OB w' base v' (n + m) (bs ++ news) → w.grownBy w' v.ownBlock → (v'.ownBlock = v.ownBlock ∨ v'.ownBlock = some w.heap.size) → K (a.put o.dst v') w') : o.wp Tryd.prog a w K Q := by
  obtain ⟨v', w', hrun, h2, h3, h4⟩ := run_appb w o.type base v n bs hown A m c news hr hb hbase
  unfold Oper.wp execOp
  simp only [ho, resolve, invoke, builtin, Sem.run_bind, Sem.run_pure, Result.andThen_ok, List.map_toArray, List.map_cons, List.map_nil, hs, hx, hrun]
  exact h v' w' h2 h3 h4
theorem wpList_appb {ops : Array Oper} {rest : List Oper} {o : Oper} {a : Act} {Q : Exit → Act → World → Prop} (hgd : o.guard = none) (s x : Operand)
    (ho : o.op = .call { callee := .builtin .append, args := #[s, x], argTypes := #[26, 26] })
    (base : Nat) (v : Value) (n : Nat) (bs : List UInt8) (hs : a.eval s = v) (hown : OB w base v n bs)
    (A : Option Addr) (m c : Nat) (news : List UInt8) (hx : a.eval x = .slice A m c) (hr : RB w A m news) (hb : n + m ≤ 140737488355328) (hbase : base ≤ w.heap.size)
    (h : ∀ v' w', OB w' base v' (n + m) (bs ++ news) → w.grownBy w' v.ownBlock → (v'.ownBlock = v.ownBlock ∨ v'.ownBlock = some w.heap.size) → wpList Tryd.prog ops Q rest (a.put o.dst v') w') : wpList Tryd.prog ops Q (o :: rest) a w :=
  wpList_plain hgd fun _ hK => wp_appb w s x ho base v n bs hs hown A m c news hx hr hb hbase fun v' w' h2 h3 h4 => hK _ _ (h v' w' h2 h3 h4)
theorem step_appb {ops : Array Oper} {o : Oper} {a : Act} {K : Act → World → Prop} {Q : Exit → Act → World → Prop} {E : Prop} (hgd : o.guard = none) (s x : Operand)
    (ho : o.op = .call { callee := .builtin .append, args := #[s, x], argTypes := #[26, 26] })
    (base : Nat) (v : Value) (n : Nat) (bs : List UInt8) (hs : a.eval s = v) (hown : OB w base v n bs)
    (A : Option Addr) (m c : Nat) (news : List UInt8) (hx : a.eval x = .slice A m c) (hr : RB w A m news) (hb : n + m ≤ 140737488355328) (hbase : base ≤ w.heap.size)
    (h : ∀ v' w', OB w' base v' (n + m) (bs ++ news) → w.grownBy w' v.ownBlock → (v'.ownBlock = v.ownBlock ∨ v'.ownBlock = some w.heap.size) → K (a.put o.dst v') w') :
    if Region.wanted o (yielded ops a.tmps) = true then Oper.wp Tryd.prog o a w K Q else E := by
  have hw : Region.wanted o (yielded ops a.tmps) = true := by simp [Region.wanted, hgd]
  rw [if_pos hw]
  exact wp_appb w s x ho base v n bs hs hown A m c news hx hr hb hbase h
end
end Go.Proofs.YtfaocnboildjbaaDoor
/-
  Bytes as a text, a text as bytes; slices against nil.
-/
namespace Go.Proofs.YtfaocnboildjbaaDoor
set_option maxRecDepth 100000
open Go.RowKit
set_option linter.unusedVariables false
set_option linter.unusedSimpArgs false

def bytesT (P : Program) (t : TypeId) : Option TypeId := match P.underlying t with
  | some (.slice e) => (match P.underlying e with | some (.int .u8) => some e | _ => none)
  | _ => none
def stringT (P : Program) (t : TypeId) : Bool := match P.underlying t with
  | some .string => true
  | _ => false
section
variable {P : Program} {n0 : Nat} {w : World} {B : List Nat} {η : List Value} {H : List Ent} {ρ : Operand → Value} {ρA : Operand → AV} {o : Oper}
theorem bytesT_spec {t e : TypeId} (h : bytesT P t = some e) : P.underlying t = some (.slice e) ∧ P.underlying e = some (.int .u8) := by
  unfold bytesT at h
  split at h
  · rename_i e' hu
    split at h
    · rename_i hk; injection h with h; subst h; exact ⟨hu, hk⟩
    · cases h
  · cases h
theorem stringT_spec {t : TypeId} (h : stringT P t = true) : P.underlying t = some .string := by
  unfold stringT at h
  split at h
  · assumption
  · cases h
theorem Rel.toRB {bs : List UInt8} {v : Value} (h : Rel w B η (.sl (bs.map byteAV) 1) v) : ∃ A n c, v = .slice A n c ∧ RB w A n bs ∧ n ≤ c ∧ c ≤ maxLen := by
  obtain ⟨A, n, c, us, hv, hk, hn, hc, hm, hA, hr⟩ := h.slL
  refine ⟨A, n, c, hv, ⟨by simpa using hn.symm, fun h0 => ?_⟩, hc, hm⟩
  obtain ⟨ad, h1, h2⟩ := hA h0
  refine ⟨ad, h1, h2.lt, fun j b hj => ?_⟩
  have hlt : j < bs.length := (List.getElem?_eq_some_iff.1 hj).1
  rw [h2.cell j (by simpa using hlt)]
  have := hr j (byteAV b) (by rw [List.getElem?_map, hj]; rfl)
  have := this.ofC
  rw [this]; rfl
theorem str_any {s d e : TypeId} (hs : P.underlying s = some (.slice e)) (he : P.underlying e = some (.int .u8)) (hd : P.underlying d = some .string) (A : Option Addr) (n c : Nat) (bs : List UInt8) (h : RB w A n bs) :
    (convert s d (.slice A n c)).run P w = .ok (.string ⟨bs.toArray⟩) w := by
  rcases A with _ | ad
  · have hn : n = 0 := by
      rcases Nat.eq_zero_or_pos n with h0 | h0
      · exact h0
      · obtain ⟨ad, h1, _⟩ := h.2 h0
        cases h1
    subst hn
    have hb : bs = [] := List.eq_nil_of_length_eq_zero h.1
    subst hb
    rw [run_convert_bytes_nil w _ _ hs he 0 c _ hd]
    rfl
  · have hl : (loadCells ad n).run P w = .ok ((bs.map fun b => (b.toNat : Int)).map (Value.int .u8)).toArray w := by
      have := run_loadCells_list (P := P) w ad ((bs.map fun b => (b.toNat : Int)).map (Value.int .u8)) (fun j v hj => by
        rw [List.map_map, List.getElem?_map] at hj
        cases hb : bs[j]? with
        | none => rw [hb] at hj; cases hj
        | some b =>
          rw [hb] at hj
          have hlt : j < bs.length := (List.getElem?_eq_some_iff.1 hb).1
          obtain ⟨ad', h1, _, hc⟩ := h.2 (by have := h.1; omega)
          injection h1 with h1
          subst h1
          injection hj with hj
          subst hj
          exact hc j b hb)
      simpa [h.1] using this
    rw [run_convert_bytes_string w _ _ _ _ n c hs he hd, run_bytesToString w _ n c _ hl, foldl_push_bytes]
    simp [ByteArray.empty, ByteArray.emptyWithCapacity, List.map_map, Function.comp_def]
    rfl
theorem toStr_ok (he : ∀ x ∈ o.op.operands, Rel w B η (ρA x) (ρ x)) {s d e : TypeId} {x : Operand} {l : List AV} {bs : List UInt8} (ho : o.op = .convert s d x) (hx : ρA x = .sl l 1) (hs : bytesT P s = some e) (hd : stringT P d = true) (hb : toBs l = some bs) : OpOK P n0 w ρ o B η (.c (.string ⟨bs.toArray⟩)) := by
  have h1 := he x (by simp [ho, Op.operands])
  rw [hx, toBs_eq hb] at h1
  obtain ⟨A, n, c, hv, hr, _, _⟩ := h1.toRB
  obtain ⟨q1, q2⟩ := bytesT_spec hs
  exact .of_run (v := .string ⟨bs.toArray⟩) (by simp only [execOp, ho, hv, Sem.run_bind, str_any q1 q2 (stringT_spec hd) A n c bs hr]; rfl) (.c _ _)
/-- A slice against nil. -/
def nilV (op : BinOp) : Option Bool := match op with
  | .eql => some false
  | .neq => some true
  | _ => none
theorem nil_ok (he : ∀ x ∈ o.op.operands, Rel w B η (ρA x) (ρ x)) {op : BinOp} {t t2 e k n' c' : Nat} {x y : Operand} {l : List AV} {b : Bool} (ho : o.op = .binOp op t x y t2) (hx : ρA x = .sl l k) (hy : ρA y = .c (.slice none n' c')) (hl : l ≠ []) (hu : P.underlying t = some (.slice e)) (h : nilV op = some b) : OpOK P n0 w ρ o B η (.c (.bool b)) := by
  have h1 := he x (by simp [ho, Op.operands])
  have h2 := he y (by simp [ho, Op.operands])
  rw [hx] at h1; rw [hy] at h2
  have h2 := h2.ofC
  obtain ⟨A, n, c, us, hv, hk, hn, hc, hm, hA, hr⟩ := h1.slL
  have hn0 : 0 < n := by
    have : 0 < l.length := List.length_pos_iff.2 hl
    exact Nat.pos_of_ne_zero fun h => by subst h; omega
  obtain ⟨ad, rfl, _⟩ := hA hn0
  have hg : (eqGuard op t x y (.slice (some ad) n c) (.slice none n' c')).run P w = .ok () w := by cases op <;> simp [eqGuard]
  refine .of_run (v := .bool b) ?_ (.c _ _)
  cases op <;> simp only [nilV, Option.some.injEq] at h <;> first
    | (subst h
       simp only [execOp, ho, hv, h2]
       rw [Sem.run_bind, Sem.run_bind, hg]
       simp only [Result.andThen_ok]
       first
         | (rw [Lib.run_eql_slice_nil w t e _ _ _ _ _ hu]; rfl)
         | (rw [run_neq_slice_nil_any w t e _ _ _ _ _ hu]; rfl))
    | (cases h; done)
theorem freeze_gk {b k : Nat} (hb : n0 ≤ b) (hB : b ∉ B) : Gk n0 B w (w.freeze ⟨b, k, none⟩ 1) := by
  refine ⟨rfl, rfl, rfl, by simp [World.freeze], fun i hi c e fr hc => ?_, fun i hi hj => ?_⟩
  · simp only [World.freeze, Nat.one_ne_zero, if_false, Array.getElem?_modify]
    by_cases hbi : b = i
    · subst hbi
      simp only [if_true, hc, Option.map_some]
      obtain ⟨lo, hi'⟩ := fr
      exact ⟨_, rfl⟩
    · simp only [hbi, if_false]; exact ⟨fr, hc⟩
  · simp only [World.freeze, Nat.one_ne_zero, if_false, Array.getElem?_modify]
    rw [if_neg (fun h => by subst h; exact hj.elim (fun h => by omega) hB)]
/-- Bytes of the call's own are marked as a text's. -/
theorem mark_ok (he : ∀ x ∈ o.op.operands, Rel w B η (ρA x) (ρ x)) {s e : TypeId} {x : Operand} {l : List AV} (ho : o.op = .convert s s x) (hx : ρA x = .sl l 1) (hs : bytesT P s = some e) (hl : l ≠ []) (hfr : ∀ ad n c, ρ x = .slice (some ad) n c → n0 ≤ ad.block) : OpOK P n0 w ρ o B η (.sl l 1) := by
  have h1 := he x (by simp [ho, Op.operands])
  rw [hx] at h1
  have h1' := h1
  obtain ⟨A, n, c, us, hv, hk, hn, hc, hm, hA, hr⟩ := h1.slL
  obtain ⟨q1, q2⟩ := bytesT_spec hs
  have hn0 : 0 < n := by
    have : 0 < l.length := List.length_pos_iff.2 hl
    omega
  obtain ⟨ad, hA1, hat⟩ := hA hn0
  subst hA1
  have hge := hfr ad n c hv
  intro N hN
  unfold Oper.val
  have hcell := hat.cell 0 (by omega)
  obtain ⟨b, of, sp⟩ := ad
  obtain rfl : sp = none := hat.spot
  rw [Addr.add_mid] at hcell
  have hsh : ∃ E m, w.shape? b = some (E, m) := by
    unfold World.cell? at hcell
    unfold World.shape?
    split at hcell
    · rename_i cc e' fr hcc
      simp only at hcc
      rw [hcc]; exact ⟨_, _, rfl⟩
    · cases hcell
  obtain ⟨E, m, hsh⟩ := hsh
  have hrun : (execOp ρ o).run P w = .ok (.value (.slice (some ⟨b, of, none⟩) n c)) (w.freeze ⟨b, m, none⟩ 1) := by
    simp [execOp, ho, hv, convert, Sem.run_bind, run_underlying q1, run_underlying q2, markStringish, shape, Sem.run, hsh, freeze]
  rw [hrun]
  have g : Gk n0 B w (w.freeze ⟨b, m, none⟩ 1) := freeze_gk hge hat.out
  rw [hv] at h1'
  exact hN _ _ g (h1'.gk g)
end
end Go.Proofs.YtfaocnboildjbaaDoor
/-
  Regions, code, functions: run on plain values.
-/
namespace Go.Proofs.YtfaocnboildjbaaDoor
set_option maxRecDepth 100000
open Go.RowKit
set_option linter.unusedVariables false
set_option linter.unusedSimpArgs false

structure St where
  slots : List AV
  heap : List Ent
def unf : AV → AV
  | .fresh l k => .sl l k
  | x => x
def isFresh : AV → Bool
  | .fresh _ _ => true
  | _ => false
theorem Rel.unf {w : World} {B : List Nat} {η : List Value} {x : AV} {v : Value} (h : Rel w B η x v) : Rel w B η (unf x) v := by
  cases h with
  | fresh _ l k A n us hk hn h0 hm hA hr => exact .sl _ l k A n n us hk hn (Nat.le_refl _) hm hA hr
  | c => exact .c _ _
  | agg _ l cs us hs hu hr => exact .agg _ l cs us hs hu hr
  | tup _ l cs us hs hu hr => exact .tup _ l cs us hs hu hr
  | sl _ l k A n c us hk hn hc hm hA hr => exact .sl _ l k A n c us hk hn hc hm hA hr
  | adr _ l ad us ha hr => exact .adr _ l ad us ha hr
  | box _ id off b h => exact .box _ id off b h
  | own _ id a n c h => exact .own _ id a n c h
  | emp _ A => exact .emp _ A
  | oadr _ id off b o n c h => exact .oadr _ id off b o n c h
  | nn _ t v => exact .nn _ t v
theorem unf_not (x : AV) : isFresh (unf x) = false := by cases x <;> rfl
def FreshV (n0 : Nat) (r : AV) (v : Value) : Prop := isFresh r = true → ∀ ad n c, v = .slice (some ad) n c → n0 ≤ ad.block
def opA (sl : List AV) : Operand → AV
  | .tmp t => unf (sl.getD t (.c undef))
  | .const v => .c v
  | .global g => .c (.pointer (some ⟨g, 0, none⟩))
  | .func f => .c (.func (.func f) #[] #[])
def rawA (sl : List AV) : Operand → AV
  | .tmp t => sl.getD t (.c undef)
  | .const v => .c v
  | .global g => .c (.pointer (some ⟨g, 0, none⟩))
  | .func f => .c (.func (.func f) #[] #[])
def elemT (P : Program) (t : TypeId) : Option TypeId := match P.underlying t with
  | some (.slice e) => some e
  | _ => none
theorem elemT_spec {P : Program} {t e : TypeId} (h : elemT P t = some e) : P.underlying t = some (.slice e) := by
  unfold elemT at h
  split at h
  · rename_i hu; injection h with h; subst h; exact hu
  · cases h
/-- An array's length, and its elements' type. -/
def arrT (P : Program) (t : TypeId) : Option (Nat × TypeId) := match P.underlying t with
  | some (.array m e) => some (m, e)
  | _ => none
theorem arrT_spec {P : Program} {t e : TypeId} {m : Nat} (h : arrT P t = some (m, e)) : P.underlying t = some (.array m e) := by
  unfold arrT at h
  split at h
  · rename_i hu; injection h with h; injection h with h1 h2; subst h1 h2; exact hu
  · cases h
def indexA (P : Program) (H : List Ent) (t : TypeId) (x i : AV) : Option AV :=
  match elemT P t, arrT P t, i with
  | some e, _, .c (.int _ z) => (match x with
    | .sl l k => if (0 ≤ z ∧ z.toNat * k < l.length) ∧ k = P.cellsOf e then some (.adr (l.drop (z.toNat * k))) else none
    | .own id => (match H[id]? with
      | some (.own cells _ k) => if (0 ≤ z ∧ z.toNat * k < cells.length) ∧ k = P.cellsOf e then some (.oadr id (z.toNat * k)) else none
      | _ => none)
    | _ => none)
  | none, some (m, e), .c (.int _ z) => if (0 ≤ z ∧ z < m) ∧ P.cellsOf e ≠ 0 then addOff x (z.toNat * P.cellsOf e) else none
  | _, _, _ => none
def elemAt (P : Program) (t : TypeId) (x i : AV) : Option AV :=
  match arrT P t, x, i with
  | some (m, e), .agg l, .c (.int _ z) => if (0 ≤ z ∧ z < m) ∧ P.cellsOf e ≠ 0 then partA P e l (z.toNat * P.cellsOf e) else none
  | _, _, _ => none
def sliceA (P : Program) (ρA : Operand → AV) (t : TypeId) (x : AV) (lo hi : Option Operand) : Option AV :=
  match elemT P t, x with
  | some e, .sl l k => (match boundA ρA 0 lo, boundA ρA (l.length / k) hi with
    | some a, some b => if k = P.cellsOf e ∧ a ≤ b ∧ b * k ≤ l.length then some (.sl ((l.drop (a * k)).take ((b - a) * k)) k) else none
    | _, _ => none)
  | _, _ => none
def slice3A (P : Program) (t : TypeId) (x hi mx : AV) : Option AV :=
  match elemT P t, x with
  | some e, .sl _ _ => (match hi, mx with
    | .c (.int _ a), .c (.int _ b) => if a = 0 ∧ b = 0 ∧ P.cellsOf e ≠ 0 then some .emp else none
    | _, _ => none)
  | _, _ => none
def callA (P : Program) (C : Con) (H : List Ent) (ρA : Operand → AV) (c : Call) : Option AV :=
  match c.callee, c.args.toList with
  | .value (.func f), xs => (match immA ρA xs with | some ys => C f ys | none => none)
  | .builtin .len, [x] => (match ρA x, c.argTypes[0]? with
    | .sl l k, some t => (match elemT P t with | some _ => some (.c (.int .i64 ((l.length / k : Nat) : Int))) | none => none)
    | .emp, some t => (match elemT P t with | some _ => some (.c (.int .i64 0)) | none => none)
    | .own id, some t => (match elemT P t, H[id]? with | some _, some (.own cells _ k) => some (.c (.int .i64 ((cells.length / k : Nat) : Int))) | _, _ => none)
    | _, _ => none)
  | _, _ => none
def fieldTO (P : Program) (s : TypeId) (f : Nat) : Option (TypeId × Nat) := match fieldP P s f with | some fd => some (fd.type, fd.offset) | none => none
theorem fieldTO_spec {P : Program} {s : TypeId} {f ty off : Nat} (h : fieldTO P s f = some (ty, off)) : ∃ fd, fieldP P s f = some fd ∧ fd.type = ty ∧ fd.offset = off := by
  unfold fieldTO at h
  split at h
  · rename_i fd hfd; injection h with h; injection h with h1 h2; exact ⟨fd, hfd, h1, h2⟩
  · cases h
def evSpec (P : Program) (C : Con) (H : List Ent) (ρA : Operand → AV) : Op → Option AV
  | .move x => some (ρA x)
  | .assign x => some (ρA x)
  | .pick c a b => match ρA c with | .c (.bool t) => some (cond t (ρA a) (ρA b)) | _ => none
  | .nilCheck x => match ρA x with | .box i n => some (.box i n) | .adr l => some (.adr l) | .oadr i n => some (.oadr i n) | _ => none
  | .fieldAddr s x f => match fieldTO P s f with | some (ty, off) => if P.cellsOf ty ≠ 0 then addOff (ρA x) off else none | none => none
  | .load t x => loadA P H t (ρA x)
  | .field s x f => match fieldTO P s f, (ρA x) with | some (ty, off), .agg l => partA P ty l off | _, _ => none
  | .index t x i => elemAt P t (ρA x) (ρA i)
  | .indexAddr t x i => indexA P H t (ρA x) (ρA i)
  | .extract x i => match ρA x with | .tup l => l[i]? | _ => none
  | .slice t x lo hi none => sliceA P ρA t (ρA x) lo hi
  | .slice t x none (some hi) (some mx) => slice3A P t (ρA x) (ρA hi) (ρA mx)
  | .call c => callA P C H ρA c
  | _ => none
def convA (P : Program) (ρA : Operand → AV) (fr : Operand → Bool) (s d : TypeId) (x : Operand) : Option AV :=
  match ρA x with
  | .c a => (match convV P s d a with | some v => some (.c v) | none => none)
  | .sl l k => if k = 1 then (match bytesT P s with
    | some _ => if s = d then (if fr x = true ∧ l.isEmpty = false then some (.sl l 1) else none) else (if stringT P d = true then (match toBs l with | some bs => some (.c (.string ⟨bs.toArray⟩)) | none => none) else none)
    | none => none) else none
  | _ => none
def binA (P : Program) (op : BinOp) (t : TypeId) (x y : AV) : Option AV :=
  match x, y with
  | .c a, .c b => (match binV P op t a b with | some v => some (.c v) | none => none)
  | .sl l _, .c (.slice none _ _) => (match elemT P t, nilV op with | some _, some b => if l.isEmpty = false then some (.c (.bool b)) else none | _, _ => none)
  | _, _ => none
def unA (op : UnOp) (x : AV) : Option AV :=
  match x with
  | .c a => (match unV op a with | some v => some (.c v) | none => none)
  | _ => none
/-- Operations that are told by kinds. -/
def evKind (P : Program) (ρA : Operand → AV) (fr : Operand → Bool) : Op → Option AV
  | .binOp op t x y _ => binA P op t (ρA x) (ρA y)
  | .unOp op _ x => unA op (ρA x)
  | .convert s d x => convA P ρA fr s d x
  | .build t parts => buildA P t (partsA ρA parts)
  | _ => none
def isSel : Op → Bool
  | .select _ _ => true
  | _ => false
def newSl (P : Program) (ρA : Operand → AV) : Op → Option AV
  | .buildSlice t len parts => if len ≤ maxLen then (match buildSlA P t len (partsA ρA parts) with | some (.sl l k) => if len = 0 then some .emp else some (.fresh l k) | _ => none) else none
  | _ => none
def sliceF (P : Program) (ρA : Operand → AV) (t : TypeId) (x : AV) (lo : Operand) : Option AV :=
  match elemT P t, x with
  | some e, .fresh l k => (match boundA ρA 0 (some lo) with
    | some a => if k = P.cellsOf e ∧ a * k ≤ l.length then some (.fresh (l.drop (a * k)) k) else none
    | none => none)
  | _, _ => none
/-- What stays fresh. -/
def keepR (P : Program) (ρA ρR : Operand → AV) : Op → Option AV
  | .move x => match ρR x with | .fresh l k => some (.fresh l k) | _ => none
  | .assign x => match ρR x with | .fresh l k => some (.fresh l k) | _ => none
  | .slice t x (some lo) none none => sliceF P ρA t (ρR x) lo
  | _ => none
def evP (P : Program) (C : Con) (H : List Ent) (ρA ρR : Operand → AV) (o : Oper) : Option AV :=
  match newSl P ρA o.op with
  | some r => some r
  | none => match keepR P ρA ρR o.op with
   | some r => some r
   | none => match evSpec P C H ρA o.op with
    | some r => some (unf r)
    | none => match evKind P ρA (fun x => isFresh (ρR x)) o.op with
      | some r => some (unf r)
      | none => if isSel o.op then none else match evDef P ρA o with
        | some r => some (unf r)
        | none => none
/-- The operation yields r; what is fresh lies in a block of the call's own. -/
def OpOKF (P : Program) (n0 : Nat) (w : World) (ρ : Operand → Value) (o : Oper) (B : List Nat) (η : List Value) (r : AV) : Prop :=
  ∀ N : Value → World → Prop, (∀ v w', Gk n0 B w w' → Rel w' B η r v → FreshV n0 r v → N v w') → Oper.val P ρ o w N

section
variable {P : Program} {n0 : Nat} {w : World} {B : List Nat} {η : List Value} {H : List Ent} {ρ : Operand → Value} {ρA ρR : Operand → AV} {fr : Operand → Bool} {o : Oper} {C : Con} {Bx : List Nat}
theorem OpOK.f {r : AV} (h : OpOK P n0 w ρ o B η r) : OpOKF P n0 w ρ o B η (unf r) := fun N hN => h N fun v w' g hr => hN v w' g hr.unf (fun hf => by rw [unf_not] at hf; cases hf)
theorem evSpec_ok (hC : ConOK P C) (inv : Inv n0 Bx w B η H) (he : ∀ x ∈ o.op.operands, Rel w B η (ρA x) (ρ x)) (hf0 : ∀ f, ρ (.func f) = .func (.func f) #[] #[]) {r : AV} (hs : evSpec P C H ρA o.op = some r) : OpOK P n0 w ρ o B η r := by
    generalize ho : o.op = op at hs
    unfold evSpec at hs
    split at hs
    · injection hs with hs; subst hs; exact move_ok he (.inl ho)
    · injection hs with hs; subst hs; exact move_ok he (.inr ho)
    · split at hs
      · rename_i hc; injection hs with hs; subst hs; exact pick_ok he ho hc
      · cases hs
    · split at hs
      · rename_i i n hx; injection hs with hs; subst hs; rw [← hx]; exact nilCheck_ok he ho (.inl ⟨i, n, hx⟩)
      · rename_i l hx; injection hs with hs; subst hs; rw [← hx]; exact nilCheck_ok he ho (.inr (.inl ⟨l, hx⟩))
      · rename_i i n hx; injection hs with hs; subst hs; rw [← hx]; exact nilCheck_ok he ho (.inr (.inr ⟨i, n, hx⟩))
      · cases hs
    · split at hs
      · rename_i ty off hfd
        obtain ⟨fd, hfd2, rfl, rfl⟩ := fieldTO_spec hfd
        split at hs
        · rename_i hc; exact fieldAddr_ok he ho hfd2 hc hs
        · cases hs
      · cases hs
    · exact loadA_ok inv he ho hs
    · split at hs
      · rename_i ty off l hfd hx
        obtain ⟨fd, hfd2, rfl, rfl⟩ := fieldTO_spec hfd
        exact field_ok he ho hfd2 hx hs
      · cases hs
    · unfold elemAt at hs
      split at hs
      · rename_i hu hx hi
        split at hs
        · rename_i hc; exact index_ok he ho (arrT_spec hu) hx hi hc.1 hc.2 hs
        · cases hs
      · cases hs
    · unfold indexA at hs
      split at hs
      · rename_i hu hi
        have hu := elemT_spec hu
        split at hs
        · rename_i hx
          split at hs
          · rename_i hc; injection hs with hs; subst hs; exact indexSl_ok he ho hu hx hi hc.1 hc.2
          · cases hs
        · rename_i hx
          split at hs
          · rename_i hH
            split at hs
            · rename_i hc; injection hs with hs; subst hs; exact indexOwn_ok inv he ho hu hx hi hH hc.1 hc.2
            · cases hs
          · cases hs
        · cases hs
      · rename_i hu hi
        split at hs
        · rename_i hc; exact indexArr_ok he ho (arrT_spec hu) hi hc.1 hc.2 hs
        · cases hs
      · cases hs
    · split at hs
      · rename_i hx; exact extract_ok he ho hx hs
      · cases hs
    · unfold sliceA at hs
      split at hs
      · rename_i hu hx
        split at hs
        · rename_i hlo hhi
          split at hs
          · rename_i hc; injection hs with hs; subst hs; exact slice_ok he ho (elemT_spec hu) hx hc.1 hlo hhi hc.2.1 hc.2.2
          · cases hs
        · cases hs
      · cases hs
    · unfold slice3A at hs
      split at hs
      · rename_i hu hx
        split at hs
        · rename_i hhi hmx
          split at hs
          · rename_i hc
            injection hs with hs; subst hs
            obtain ⟨rfl, rfl, hc⟩ := hc
            exact slice3_ok he ho (elemT_spec hu) hx hc hhi hmx
          · cases hs
        · cases hs
      · cases hs
    · rename_i c
      obtain ⟨cal, args, ts⟩ := c
      unfold callA at hs
      split at hs
      · rename_i hcal
        simp only at hcal hs
        subst hcal
        split at hs
        · rename_i ha; exact call_ok hC inv he hf0 ho ha hs
        · cases hs
      · rename_i hcal hargs
        simp only at hcal hargs hs
        subst hcal
        obtain ⟨args⟩ := args
        simp only at hargs
        subst hargs
        split at hs
        · rename_i hx ht
          split at hs
          · rename_i hu; injection hs with hs; subst hs; exact len_ok he ho ht (elemT_spec hu) hx
          · cases hs
        · rename_i hx ht
          split at hs
          · rename_i hu; injection hs with hs; subst hs; exact lenE_ok he ho ht (elemT_spec hu) hx
          · cases hs
        · rename_i hx ht
          split at hs
          · rename_i hu hH; injection hs with hs; subst hs; exact lenOwn_ok inv he ho ht (elemT_spec hu) hx hH
          · cases hs
        · cases hs
      · cases hs
    · cases hs
theorem evKind_ok (he : ∀ x ∈ o.op.operands, Rel w B η (ρA x) (ρ x)) (hfr : ∀ x ∈ o.op.operands, fr x = true → ∀ ad n c, ρ x = .slice (some ad) n c → n0 ≤ ad.block) {r : AV} (hs : evKind P ρA fr o.op = some r) : OpOK P n0 w ρ o B η r := by
  generalize ho : o.op = op at hs
  unfold evKind at hs
  split at hs
  · unfold binA at hs
    split at hs
    · rename_i hx hy
      split at hs
      · rename_i v hv; injection hs with hs; subst hs; exact bin_ok he ho hx hy hv
      · cases hs
    · rename_i hx hy
      split at hs
      · rename_i hu hb
        split at hs
        · rename_i hl; injection hs with hs; subst hs; exact nil_ok he ho hx hy (fun h => by rw [h] at hl; cases hl) (elemT_spec hu) hb
        · cases hs
      · cases hs
    · cases hs
  · unfold unA at hs
    split at hs
    · rename_i hx
      split at hs
      · rename_i v hv; injection hs with hs; subst hs; exact un_ok he ho hx hv
      · cases hs
    · cases hs
  · unfold convA at hs
    split at hs
    · rename_i hx
      split at hs
      · rename_i v hv; injection hs with hs; subst hs; exact conv_ok he ho hx hv
      · cases hs
    · rename_i l k hx
      split at hs
      · rename_i hk
        subst hk
        split at hs
        · rename_i e hb
          split at hs
          · rename_i hsd
            subst hsd
            split at hs
            · rename_i hc
              injection hs with hs; subst hs
              exact mark_ok he ho hx hb (fun h => by rw [h] at hc; exact absurd hc.2 (by simp)) (hfr _ (by simp [ho, Op.operands]) hc.1)
            · cases hs
          · split at hs
            · rename_i hd
              split at hs
              · rename_i bs hbs; injection hs with hs; subst hs; exact toStr_ok he ho hx hb hd hbs
              · cases hs
            · cases hs
        · cases hs
      · cases hs
    · cases hs
  · exact build_ok he ho hs
  · cases hs
theorem Rel.toFresh {l : List AV} {k n : Nat} {A : Option Addr} (h : Rel w B η (.sl l k) (.slice A n n)) : Rel w B η (.fresh l k) (.slice A n n) := by
  cases h with
  | sl _ l k A n c us hk hn hc hm hA hr => exact .fresh _ l k A n us hk hn (fun h => by
      subst h
      rcases Nat.eq_zero_or_pos n with h0 | h0
      · exact h0
      · obtain ⟨ad, h1, _⟩ := hA h0; cases h1) hm hA hr
theorem Rel.freshL {l : List AV} {k : Nat} {v : Value} (h : Rel w B η (.fresh l k) v) : ∃ A n us, v = .slice A n n ∧ 1 ≤ k ∧ n * k = l.length ∧ (A = none → n = 0) ∧ n ≤ maxLen ∧ (0 < n → ∃ ad, A = some ad ∧ At w B ad l.length us) ∧ ∀ i x, l[i]? = some x → Rel w B [] x (us i) := by
  cases h with
  | fresh _ _ _ A n us hk hn h0 hm hA hr => exact ⟨A, n, us, rfl, hk, hn, h0, hm, hA, hr⟩
theorem sliceF_ok (he : ∀ x ∈ o.op.operands, Rel w B η (ρA x) (ρ x)) (hR : ∀ x ∈ o.op.operands, Rel w B η (ρR x) (ρ x) ∧ FreshV n0 (ρR x) (ρ x)) {t e : TypeId} {x lo : Operand} {l : List AV} {k a : Nat} (ho : o.op = .slice t x (some lo) none none) (hu : P.underlying t = some (.slice e)) (hx : ρR x = .fresh l k)
    (hk : k = P.cellsOf e) (hlo : boundA ρA 0 (some lo) = some a) (hb : a * k ≤ l.length) : OpOKF P n0 w ρ o B η (.fresh (l.drop (a * k)) k) := by
  have h1 := hR x (by simp [ho, Op.operands])
  rw [hx] at h1
  obtain ⟨h1, hf⟩ := h1
  obtain ⟨A, n, us, hv, hk1, hn, h0, hm, hA, hr⟩ := h1.freshL
  have han : a ≤ n := Nat.le_of_mul_le_mul_right (by rw [hn]; exact hb) hk1
  obtain ⟨ii, hii, hs⟩ := cells_info (t := e) (P := P) (by omega)
  have hrun : (execOp ρ o).run P w = .ok (.value (.slice (if n = a then A else A.map (·.add (a * k))) (n - a) (n - a))) w := by
    have hbounds : (Instr.sliceBounds true n n (some (ρ lo)) none none).run P w = .ok (a, n, n) w := by
      rcases boundA_spec (fun y h => he y (by simp [ho, Op.operands, h])) hlo with ⟨h, _⟩ | ⟨y, kk, z, hy0, hy, hz, hza⟩
      · cases h
      · injection hy0 with hy0
        subst hy0 hza
        have hzn : z ≤ (n : Int) := by omega
        simp [Instr.sliceBounds, Sem.run_bind, hy, run_sliceBound (P := P) ⟨hz, hzn⟩]
    simp [execOp, ho, Instr.sliceAt, Instr.slice, Sem.run_bind, run_underlying hu, hv, hbounds, run_sizeOf hii, hs, hk]
  intro N hN
  unfold Oper.val
  rw [hrun]
  refine hN _ _ (Gk.refl _ _ w) (.fresh _ _ _ _ _ (fun i => us (a * k + i)) hk1 (by rw [List.length_drop, ← hn, Nat.sub_mul]) (fun h => ?_) (by omega) (fun hp => ?_) (fun i x hx => hr _ x (by rw [List.getElem?_drop] at hx; exact hx))) (fun _ ad m c hh => ?_)
  · cases A with
    | none => have := h0 rfl; omega
    | some ad => split at h <;> simp at h
  · obtain ⟨ad, rfl, hat⟩ := hA (by omega)
    rw [if_neg (by omega)]
    exact ⟨_, rfl, by rw [List.length_drop]; exact hat.shift (a * k)⟩
  · injection hh with hh
    cases A with
    | none => split at hh <;> simp at hh
    | some ad0 =>
      have := hf rfl ad0 n n hv
      split at hh
      · injection hh with hh; subst hh; exact this
      · simp at hh; subst hh; rw [block_of_add]; exact this
theorem buildSl_fresh (hlt : ∀ b ∈ B, b < w.heap.size) (hb : n0 ≤ w.heap.size) (he : ∀ x ∈ o.op.operands, Rel w B η (ρA x) (ρ x)) {t : TypeId} {len k : Nat} {l : List AV} {parts : Array (Nat × Operand)} (ho : o.op = .buildSlice t len parts) (hm : len ≤ maxLen) (h : buildSlA P t len (partsA ρA parts) = some (.sl l k)) : OpOKF P n0 w ρ o B η (.fresh l k) := fun N hN =>
  buildSl_raw hlt he ho hm h N fun v w' g hr hf hv0 => by
    obtain ⟨A, rfl⟩ := hv0
    exact hN _ w' (.gr g) hr.toFresh fun _ ad n c hv => Nat.le_trans hb (hf ad n c hv)
theorem buildSl_emp (hlt : ∀ b ∈ B, b < w.heap.size) (he : ∀ x ∈ o.op.operands, Rel w B η (ρA x) (ρ x)) {t : TypeId} {len k : Nat} {l : List AV} {parts : Array (Nat × Operand)} (ho : o.op = .buildSlice t len parts) (hm : len ≤ maxLen) (h0 : len = 0) (h : buildSlA P t len (partsA ρA parts) = some (.sl l k)) : OpOKF P n0 w ρ o B η .emp := fun N hN =>
  buildSl_raw hlt he ho hm h N fun v w' g hr hf hv => by
    obtain ⟨A, rfl⟩ := hv
    subst h0
    exact hN _ w' (.gr g) (.emp _ A) (fun h => by cases h)
theorem evP_ok (hC : ConOK P C) (inv : Inv n0 Bx w B η H) (he : ∀ x ∈ o.op.operands, Rel w B η (ρA x) (ρ x)) (hf0 : ∀ f, ρ (.func f) = .func (.func f) #[] #[]) (hR : ∀ x ∈ o.op.operands, Rel w B η (ρR x) (ρ x) ∧ FreshV n0 (ρR x) (ρ x)) {r : AV} (h : evP P C H ρA ρR o = some r) : OpOKF P n0 w ρ o B η r := by
  unfold evP at h
  split at h
  · rename_i r' hn
    injection h with h; subst h
    generalize ho : o.op = op at hn
    unfold newSl at hn
    split at hn
    · split at hn
      · rename_i hm
        split at hn
        · rename_i l k hb
          split at hn
          · rename_i h0; injection hn with hn; subst hn; exact buildSl_emp inv.lt he ho hm h0 hb
          · injection hn with hn; subst hn
            exact buildSl_fresh inv.lt inv.base.1 he ho hm hb
        · cases hn
      · cases hn
    · cases hn
  · split at h
    · rename_i r' hs
      injection h with h; subst h
      generalize ho : o.op = op at hs
      unfold keepR at hs
      split at hs
      · rename_i x
        split at hs
        · rename_i l k hx
          injection hs with hs; subst hs
          have h1 := hR x (by simp [ho, Op.operands])
          rw [hx] at h1
          intro N hN
          unfold Oper.val
          rw [show (execOp ρ o).run P w = .ok (.value (ρ x)) w by simp [execOp, ho]]
          exact hN _ _ (Gk.refl _ _ w) h1.1 h1.2
        · cases hs
      · rename_i x
        split at hs
        · rename_i l k hx
          injection hs with hs; subst hs
          have h1 := hR x (by simp [ho, Op.operands])
          rw [hx] at h1
          intro N hN
          unfold Oper.val
          rw [show (execOp ρ o).run P w = .ok (.value (ρ x)) w by simp [execOp, ho]]
          exact hN _ _ (Gk.refl _ _ w) h1.1 h1.2
        · cases hs
      · unfold sliceF at hs
        split at hs
        · rename_i hu hx
          split at hs
          · rename_i hlo
            split at hs
            · rename_i hc; injection hs with hs; subst hs; exact sliceF_ok he hR ho (elemT_spec hu) hx hc.1 hlo hc.2
            · cases hs
          · cases hs
        · cases hs
      · cases hs
    · split at h
      · rename_i r' hs; injection h with h; subst h; exact (evSpec_ok hC inv he hf0 hs).f
      · split at h
        · rename_i r' hs; injection h with h; subst h
          exact (evKind_ok he (fun x hx hf => (hR x hx).2 hf) hs).f
        · split at h
          · cases h
          · rename_i hsel
            split at h
            · rename_i r' hs; injection h with h; subst h
              exact (evDef_ok (fun cs b e => by rw [e] at hsel; exact hsel rfl) he hs).f
            · cases h
end

/-! ### Slots -/
structure SlotsOK (n0 : Nat) (w : World) (B : List Nat) (η : List Value) (sl : List AV) (tmps : Array Value) : Prop where
  size : sl.length = tmps.size
  rel : ∀ t, Rel w B η (sl.getD t (.c undef)) (tmps.getD t undef)
  fresh : ∀ t, FreshV n0 (sl.getD t (.c undef)) (tmps.getD t undef)
def setA (sl : List AV) (d : Option Tmp) (r : AV) : List AV := match d with | some t => sl.set t r | none => sl
theorem setA_length (sl : List AV) (d : Option Tmp) (r : AV) : (setA sl d r).length = sl.length := by cases d <;> simp [setA]
def wantA (ops : Array Oper) (sl : List AV) (o : Oper) : Option Bool :=
  match o.guard with
  | none => some true
  | some (g, want) => match (ops[g]?).bind (·.dst) with
    | some d => match sl[d]? with
      | some (.c v) => match v with
        | .bool b => some (b == want)
        | _ => some false
      | _ => none
    | none => none
section
variable {P : Program} {n0 : Nat} {w : World} {B : List Nat} {η : List Value} {H : List Ent} {sl : List AV} {a : Act} {C : Con} {Bx : List Nat}
theorem SlotsOK.op (h : SlotsOK n0 w B η sl a.tmps) (x : Operand) : Rel w B η (opA sl x) (a.eval x) := by
  cases x with
  | tmp t => exact (h.rel t).unf
  | const v => exact .c _ _
  | global g => exact .c _ _
  | func f => exact .c _ _
theorem SlotsOK.raw (h : SlotsOK n0 w B η sl a.tmps) (x : Operand) : Rel w B η (rawA sl x) (a.eval x) ∧ FreshV n0 (rawA sl x) (a.eval x) := by
  cases x with
  | tmp t => exact ⟨h.rel t, h.fresh t⟩
  | const v => exact ⟨.c _ _, fun h => by cases h⟩
  | global g => exact ⟨.c _ _, fun h => by cases h⟩
  | func f => exact ⟨.c _ _, fun h => by cases h⟩
theorem SlotsOK.put {r : AV} {v : Value} (h : SlotsOK n0 w B η sl a.tmps) (hr : Rel w B η r v) (hfv : FreshV n0 r v) (d : Option Tmp) : SlotsOK n0 w B η (setA sl d r) (a.put d v).tmps := by
  cases d with
  | none => exact h
  | some t =>
    have key : ∀ u, ((setA sl (some t) r).getD u (.c undef) = r ∧ (a.put (some t) v).tmps.getD u undef = v) ∨ ((setA sl (some t) r).getD u (.c undef) = sl.getD u (.c undef) ∧ (a.put (some t) v).tmps.getD u undef = a.tmps.getD u undef) := by
      intro u
      simp only [setA, Act.put, List.getD_eq_getElem?_getD, Array.getD_eq_getD_getElem?]
      rw [List.getElem?_set, Array.getElem?_setIfInBounds]
      by_cases htu : t = u
      · subst htu
        simp only [if_true]
        rw [h.size]
        by_cases hlt : t < a.tmps.size
        · simp [hlt]
        · right
          simp only [hlt, if_false]
          have e1 : sl[t]? = none := List.getElem?_eq_none (by rw [h.size]; exact Nat.le_of_not_lt hlt)
          have e2 : a.tmps[t]? = none := Array.getElem?_eq_none (Nat.le_of_not_lt hlt)
          rw [e1, e2]
          exact ⟨rfl, rfl⟩
      · simp [htu]
    refine ⟨by simp [setA, Act.put, h.size], fun u => ?_, fun u => ?_⟩
    · rcases key u with ⟨h1, h2⟩ | ⟨h1, h2⟩ <;> rw [h1, h2]
      · exact hr
      · exact h.rel u
    · rcases key u with ⟨h1, h2⟩ | ⟨h1, h2⟩ <;> rw [h1, h2]
      · exact hfv
      · exact h.fresh u
theorem SlotsOK.on {w' : World} {B' : List Nat} {η' : List Value} {tmps : Array Value} (h : SlotsOK n0 w B η sl tmps) (g : On B w w') (hB : ∀ b ∈ B', b ∈ B ∨ w.heap.size ≤ b) (he : ∀ (id : Nat) v, η[id]? = some v → η'[id]? = some v) : SlotsOK n0 w' B' η' sl tmps :=
  ⟨h.size, fun t => (h.rel t).on g hB he, h.fresh⟩
theorem wantA_spec {ops : Array Oper} {o : Oper} {b : Bool} (h : SlotsOK n0 w B η sl a.tmps) (hw : wantA ops sl o = some b) : Region.wanted o (yielded ops a.tmps) = b := by
  unfold wantA at hw
  unfold Region.wanted
  split at hw
  · rename_i hg; injection hw with hw; subst hw; simp [hg]
  · rename_i g want hg
    rw [hg]
    simp only
    unfold yielded
    split at hw
    · rename_i d hd
      split at hw
      · rename_i v hv
        have hr := h.rel d
        rw [List.getD_eq_getElem?_getD, hv, Option.getD_some] at hr
        have hlt : d < a.tmps.size := by rw [← h.size]; exact (List.getElem?_eq_some_iff.1 hv).1
        have hav : a.tmps[d]? = some v := by
          have := hr.ofC
          rw [Array.getD_eq_getD_getElem?, Array.getElem?_eq_getElem hlt, Option.getD_some] at this
          rw [Array.getElem?_eq_getElem hlt, this]
        simp only [hd, Option.bind_some, hav]
        split at hw
        · exact Option.some.inj hw
        · injection hw with hw; subst hw
          rename_i hnb
          cases v with
          | bool b => exact absurd rfl (hnb b)
          | _ => rfl
      · cases hw
    · cases hw
theorem val_wp {o : Oper} {K : Act → World → Prop} {Q : Exit → Act → World → Prop} (h : Oper.val P a.eval o w (fun v w' => K (a.put o.dst v) w')) : o.wp P a w K Q := by
  unfold Oper.val at h
  unfold Oper.wp
  generalize (execOp a.eval o).run P w = r at *
  cases r with
  | ok nx w' =>
    cases nx <;> simp only [Oper.upon] at h ⊢
    case value u => exact h
    case skip => exact h
    case enter f args => exact Calls.mono h fun e w'' ⟨v, he, hk⟩ => by subst he; exact hk
  | halt x w' => simp only at h
end
end Go.Proofs.YtfaocnboildjbaaDoor
/-
  Operations that make and write blocks of the call's own.
-/
namespace Go.Proofs.YtfaocnboildjbaaDoor
set_option maxRecDepth 100000
open Go.RowKit
set_option linter.unusedVariables false
set_option linter.unusedSimpArgs false

/-- It has one cell. -/
def AV.one : AV → Bool
  | .c v => v.oneCell'
  | .agg _ | .tup _ => false
  | _ => true
theorem Rel.one {w : World} {B : List Nat} {η : List Value} {x : AV} {v : Value} (h : Rel w B η x v) (hx : x.one = true) : v.oneCell' = true := by
  cases h with
  | c => exact hx
  | agg => cases hx
  | tup => cases hx
  | _ => rfl
theorem RelL.one {w : World} {B : List Nat} {η : List Value} {l : List AV} {us : List Value} (h : RelL w B η l us) (hl : l.all AV.one = true) : ∀ u ∈ us, u.oneCell' = true := by
  intro u hu
  obtain ⟨i, hi, rfl⟩ := List.getElem_of_mem hu
  obtain ⟨v, h1, h2⟩ := h.2 i (l[i]'(by rw [← h.1]; exact hi)) (List.getElem?_eq_getElem _)
  rw [List.getElem?_eq_getElem hi] at h1
  injection h1 with h1
  rw [h1]
  exact h2.one (List.all_eq_true.1 hl _ (List.getElem_mem _))
/-- What an operation does, also one that writes. -/
def OpS (P : Program) (n0 : Nat) (Bx : List Nat) (w : World) (ρ : Operand → Value) (o : Oper) (B : List Nat) (η : List Value) (r : AV) (H' : List Ent) : Prop :=
  ∀ N : Value → World → Prop, (∀ v w' B' η', On B w w' → (∀ b ∈ B', b ∈ B ∨ w.heap.size ≤ b) → (∀ (id : Nat) v, η[id]? = some v → η'[id]? = some v) → Below n0 w w' → Inv n0 Bx w' B' η' H' → Rel w' B' η' r v → FreshV n0 r v → N v w') → Oper.val P ρ o w N

section
variable {P : Program} {w w' : World} {B : List Nat} {η : List Value} {H : List Ent} {ρ : Operand → Value} {ρA : Operand → AV} {o : Oper} {C : Con} {n0 : Nat} {Bx : List Nat}
theorem OpOKF.s {r : AV} (inv : Inv n0 Bx w B η H) (h : OpOKF P n0 w ρ o B η r) : OpS P n0 Bx w ρ o B η r H := by
  intro N hN
  exact h N (fun v w' g hr hf => hN v w' B η g.on (fun _ h => .inl h) (fun _ _ h => h) (g.below inv.base.1) (inv.gk g) hr hf)
theorem push_old {α : Type} (l : List α) (x : α) : ∀ (i : Nat) v, l[i]? = some v → (l ++ [x])[i]? = some v := fun i v h => by
  have hi : i < l.length := (List.getElem?_eq_some_iff.1 h).1
  rw [List.getElem?_append_left hi]; exact h
theorem getD_push_old {l : List Value} {x d : Value} {i : Nat} (h : i < l.length) : (l ++ [x]).getD i d = l.getD i d := by
  rw [List.getD_eq_getElem?_getD, List.getD_eq_getElem?_getD, List.getElem?_append_left h]
theorem getD_push_new {l : List Value} {x d : Value} : (l ++ [x]).getD l.length d = x := by
  rw [List.getD_eq_getElem?_getD, List.getElem?_append_right (Nat.le_refl _)]; simp
/-- A new block comes. -/
theorem Inv.push (inv : Inv n0 Bx w B η H) (g : Gr w w') {b : Nat} {v : Value} {e : Ent} (hb : w.heap.size ≤ b) (hlt : b < w'.heap.size) (hv : blkOf v = some b) (he : EntOK n0 Bx w' (b :: B) (η ++ [v]) v e) : Inv n0 Bx w' (b :: B) (η ++ [v]) (H ++ [e]) := by
  have hB : ∀ x ∈ b :: B, x ∈ B ∨ w.heap.size ≤ x := fun x hx => by rcases List.mem_cons.1 hx with rfl | h; exact .inr hb; exact .inl h
  refine ⟨by simp [inv.len], ⟨Nat.le_trans inv.base.1 g.size, inv.base.2.on (.gr g) hB⟩, fun x hx => ⟨List.mem_cons_of_mem _ (inv.sub x hx).1, (inv.sub x hx).2⟩, fun x hx => ?_, fun id e' h => ?_, fun i j ei ej hij hi hj hli hlj c hc => ?_⟩
  · rcases List.mem_cons.1 hx with rfl | h
    · exact hlt
    · exact Nat.lt_of_lt_of_le (inv.lt x h) g.size
  · rcases Nat.lt_or_ge id H.length with hid | hid
    · rw [List.getElem?_append_left hid] at h
      rw [getD_push_old (by rw [inv.len]; exact hid)]
      exact EntOK.keep (inv.ent id e' h) (.gr g) hB (fun _ h => List.mem_cons_of_mem _ h) (push_old η v) (fun hl b hb => g.block b (EntOK.lt (inv.ent id e' h) hl b hb).1)
    · rw [List.getElem?_append_right hid] at h
      have : id = H.length := by have := (List.getElem?_eq_some_iff.1 h).1; simp at this; omega
      subst this
      simp at h; subst h
      rw [← inv.len, getD_push_new]; exact he
  · have key : ∀ (i : Nat) (ei : Ent), (H ++ [e])[i]? = some ei → (i < H.length ∧ H[i]? = some ei ∧ (η ++ [v]).getD i undef = η.getD i undef) ∨ (i = H.length ∧ (η ++ [v]).getD i undef = v) := by
      intro i ei h
      rcases Nat.lt_or_ge i H.length with hid | hid
      · exact .inl ⟨hid, by rwa [List.getElem?_append_left hid] at h, getD_push_old (by rw [inv.len]; exact hid)⟩
      · have : i = H.length := by
          rw [List.getElem?_append_right hid] at h
          have := (List.getElem?_eq_some_iff.1 h).1; simp at this; omega
        subst this
        exact .inr ⟨rfl, by rw [← inv.len, getD_push_new]⟩
    rcases key i ei hi with ⟨h1, h2, h3⟩ | ⟨h1, h3⟩ <;> rcases key j ej hj with ⟨k1, k2, k3⟩ | ⟨k1, k3⟩
    · rw [h3] at hc; rw [k3]; exact inv.sep i j ei ej hij h2 k2 hli hlj c hc
    · rw [h3] at hc; rw [k3, hv]
      have := (EntOK.lt (inv.ent i ei h2) hli c hc).1
      intro hcc; injection hcc with hcc; omega
    · rw [h3, hv] at hc; injection hc with hc; subst hc
      rw [k3]
      intro hcc
      have := (EntOK.lt (inv.ent j ej k2) hlj b hcc).1
      omega
    · omega
theorem alloc_block (w : World) (c : Array Value) (t : TypeId) : (w.alloc (.cells c t)).heap[w.heap.size]? = some (.cells c t (0, 0)) := by
  show (w.heap.push _)[w.heap.size]? = _
  simp
theorem box_push (inv : Inv n0 Bx w B η H) {l : List AV} {us : List Value} (hr : RelL w B η l us) (T : TypeId) : Inv n0 Bx (w.alloc (.cells us.toArray T)) (w.heap.size :: B) (η ++ [.pointer (some ⟨w.heap.size, 0, none⟩)]) (H ++ [.box l T]) := by
  have g := gr_alloc (Gr.refl w) (.cells us.toArray T)
  have hB : ∀ x ∈ w.heap.size :: B, x ∈ B ∨ w.heap.size ≤ x := fun x hx => by rcases List.mem_cons.1 hx with rfl | h; exact .inr (Nat.le_refl _); exact .inl h
  refine inv.push g (Nat.le_refl _) (by simp) rfl ⟨w.heap.size, us, rfl, inv.base.1, List.mem_cons_self, fun h => ?_, alloc_block w _ _, hr.on (.gr g) hB (push_old _ _)⟩
  have := (inv.sub _ h).2; have := inv.base.1; omega
theorem box_ok (inv : Inv n0 Bx w B η H) (he : ∀ x ∈ o.op.operands, Rel w B η (ρA x) (ρ x)) {T : TypeId} {x : Operand} (ho : o.op = .box T x) (hnt : notTup (ρA x) = true) : OpS P n0 Bx w ρ o B η (.box H.length 0) (H ++ [.box (ρA x).toL T]) := by
  intro N hN
  have hx := he x (by simp [ho, Op.operands])
  have hr := hx.toL (fun l e => by rw [e] at hnt; cases hnt)
  have g := gr_alloc (Gr.refl w) (.cells (ρ x).cells.toList.toArray T)
  have hB : ∀ y ∈ w.heap.size :: B, y ∈ B ∨ w.heap.size ≤ y := fun y hy => by rcases List.mem_cons.1 hy with rfl | h; exact .inr (Nat.le_refl _); exact .inl h
  have := hN (.pointer (some ⟨w.heap.size, 0, none⟩)) _ _ _ (.gr g) hB (push_old η _) (g.mono inv.base.1) (box_push inv hr T) (.box _ _ _ _ (by rw [← inv.len, List.getElem?_append_right (Nat.le_refl _)]; simp)) (fun h => by cases h)
  unfold Oper.val
  have hrun : (execOp ρ o).run P w = .ok (.value (.pointer (some ⟨w.heap.size, 0, none⟩))) (w.alloc (.cells (ρ x).cells.toList.toArray T)) := by
    simp only [execOp, ho]
    rfl
  rw [hrun]
  exact this
theorem alloc_ok (inv : Inv n0 Bx w B η H) {T : TypeId} {v : Value} (ho : o.op = .alloc T) (hz : pureRun P (zeroValue T) = some v) : OpS P n0 Bx w ρ o B η (.box H.length 0) (H ++ [.box (v.cells.toList.map .c) T]) := by
  intro N hN
  have hr : RelL w B η (v.cells.toList.map .c) v.cells.toList := ⟨by simp, fun i y hy => by
    rw [List.getElem?_map, Option.map_eq_some_iff] at hy
    obtain ⟨u, hu, rfl⟩ := hy
    exact ⟨u, hu, .c _ _⟩⟩
  have g := gr_alloc (Gr.refl w) (.cells v.cells.toList.toArray T)
  have hB : ∀ y ∈ w.heap.size :: B, y ∈ B ∨ w.heap.size ≤ y := fun y hy => by rcases List.mem_cons.1 hy with rfl | h; exact .inr (Nat.le_refl _); exact .inl h
  have := hN (.pointer (some ⟨w.heap.size, 0, none⟩)) _ _ _ (.gr g) hB (push_old η _) (g.mono inv.base.1) (box_push inv hr T) (.box _ _ _ _ (by rw [← inv.len, List.getElem?_append_right (Nat.le_refl _)]; simp)) (fun h => by cases h)
  unfold Oper.val
  have hrun : (execOp ρ o).run P w = .ok (.value (.pointer (some ⟨w.heap.size, 0, none⟩))) (w.alloc (.cells v.cells.toList.toArray T)) := by
    simp only [execOp, ho, Instr.alloc, Sem.run_bind, pureRun_run hz, Result.andThen_ok]
    rfl
  rw [hrun]
  exact this
/-- A block of the call's own is written. -/
theorem Inv.write (inv : Inv n0 Bx w B η H) {id b : Nat} {v : Value} {e e' : Ent} {cs : Array Value} (hH : H[id]? = some e) (hv : η[id]? = some v) (hl : e.live = true) (hb : blkOf v = some b) (hl' : e'.live = true) (he : EntOK n0 Bx (w.setRow b cs) B η v e') : Inv n0 Bx (w.setRow b cs) B η (H.set id e') ∧ On B w (w.setRow b cs) ∧ Below n0 w (w.setRow b cs) := by
  have hg : η.getD id undef = v := by simp [List.getD_eq_getElem?_getD, hv]
  have hlt := EntOK.lt (inv.ent id e hH) hl b (by rw [hg]; exact hb)
  have hon : On B w (w.setRow b cs) := ⟨rfl, rfl, rfl, by simp, fun k _ hk => .of (setRow_other w b k cs (fun h => hk (by rw [h]; exact hlt.2)))⟩
  have hn0 : n0 ≤ b := by
    have := inv.ent id e hH
    rw [hg] at this
    cases e with
    | dead => cases hl
    | box cells T => obtain ⟨b', us, h1, h2, _⟩ := this; rw [h1] at hb; simp [blkOf] at hb; omega
    | own cells E k =>
      obtain ⟨n, us, h1, _⟩ := this
      rcases h1.2 with ⟨hv', _⟩ | ⟨gg, oo, cap, cur, hv', hb', _⟩
      · rw [hv'] at hb; cases hb
      · rw [hv'] at hb; simp [blkOf] at hb; omega
    | itr s pos => obtain ⟨b', h1, h2, _⟩ := this; rw [h1] at hb; simp [blkOf] at hb; omega
  refine ⟨⟨by simp [inv.len], ⟨by simpa using inv.base.1, inv.base.2.on hon (fun _ h => .inl h)⟩, inv.sub, fun x hx => by simpa using inv.lt x hx, fun i ei hi => ?_, fun i j ei ej hij hi hj hli hlj c hc => ?_⟩, hon, ⟨rfl, rfl, rfl, by simp, fun k hk => setRow_other w b k cs (by omega)⟩⟩
  · rw [List.getElem?_set] at hi
    split at hi
    · rename_i hij
      subst hij
      split at hi
      · injection hi with hi; subst hi; rw [hg]; exact he
      · cases hi
    · rename_i hij
      exact EntOK.keep (inv.ent i ei hi) hon (fun _ h => .inl h) (fun _ h => h) (fun _ _ h => h) (fun hli k hk => setRow_other w b k cs (fun h => by
        subst h
        exact inv.sep id i e ei hij hH hi hl hli k (by rw [hg]; exact hb) hk))
  · have key : ∀ (i : Nat) (ei : Ent), (H.set id e')[i]? = some ei → ei.live = true → ∃ ei', H[i]? = some ei' ∧ ei'.live = true := by
      intro i ei h hlive
      rw [List.getElem?_set] at h
      split at h
      · rename_i hij; subst hij; exact ⟨e, hH, hl⟩
      · exact ⟨ei, h, hlive⟩
    obtain ⟨ei', h1, h2⟩ := key i ei hi hli
    obtain ⟨ej', k1, k2⟩ := key j ej hj hlj
    exact inv.sep i j ei' ej' hij h1 k1 h2 k2 c hc
theorem run_storeAt_row {b of : Nat} {T t : TypeId} {v : Value} {cur : List Value} (hg : w.heap[b]? = some (.cells cur.toArray t (0, 0))) (hs : v.cells.toList.length = P.cellsOf T) (hp : 0 < P.cellsOf T) (hle : of + v.cells.toList.length ≤ cur.length) (h1 : ∀ u ∈ v.cells.toList, u.oneCell' = true) :
    (Instr.storeAt T (.pointer (some ⟨b, of, none⟩)) v).run P w = .ok () (w.setRow b (putL cur of v.cells.toList).toArray) := by
  obtain ⟨i, hi, hsz⟩ := cells_info (P := P) (t := T) (by omega)
  have hst := run_storeCells_at (P := P) b of t v.cells.toList 0 cur.toArray w hg (by simpa using hle) h1
  simp only [Nat.add_zero] at hst
  have hne : v.cells.size = i.size := by rw [hsz, ← hs]; simp
  simp only [Instr.storeAt, Instr.sureAddr, storeVar, Sem.run_bind, Sem.run_pure, Result.andThen_ok, run_sizeOf hi, hne]
  rw [if_neg (by simp), hst]
  rfl
/-! ### Texts, sign by sign -/
theorem itr_push (inv : Inv n0 Bx w B η H) (s : ByteArray) (pos : Nat) : Inv n0 Bx (w.alloc (.stringIter s pos)) (w.heap.size :: B) (η ++ [.pointer (some ⟨w.heap.size, 0, none⟩)]) (H ++ [.itr s pos]) := by
  have g := gr_alloc (Gr.refl w) (.stringIter s pos)
  refine inv.push g (Nat.le_refl _) (by simp) rfl ⟨w.heap.size, rfl, inv.base.1, List.mem_cons_self, fun h => ?_, ?_⟩
  · have := (inv.sub _ h).2; have := inv.base.1; omega
  · show (w.heap.push _)[w.heap.size]? = _
    simp
theorem range_ok (inv : Inv n0 Bx w B η H) {T : TypeId} {x : Operand} {s : ByteArray} (ho : o.op = .range T x) (hu : P.underlying T = some .string) (hx : ρ x = .string s) : OpS P n0 Bx w ρ o B η (.box H.length 0) (H ++ [.itr s 0]) := by
  intro N hN
  have g := gr_alloc (Gr.refl w) (.stringIter s 0)
  have hB : ∀ y ∈ w.heap.size :: B, y ∈ B ∨ w.heap.size ≤ y := fun y hy => by rcases List.mem_cons.1 hy with rfl | h; exact .inr (Nat.le_refl _); exact .inl h
  have := hN (.pointer (some ⟨w.heap.size, 0, none⟩)) _ _ _ (.gr g) hB (push_old η _) (g.mono inv.base.1) (itr_push inv s 0) (.box _ _ _ _ (by rw [← inv.len, List.getElem?_append_right (Nat.le_refl _)]; simp)) (fun h => by cases h)
  unfold Oper.val
  have hrun : (execOp ρ o).run P w = .ok (.value (.pointer (some ⟨w.heap.size, 0, none⟩))) (w.alloc (.stringIter s 0)) := by
    simp only [execOp, ho, Instr.range, Sem.run_bind, run_underlying hu, Result.andThen_ok, hx]
    rfl
  rw [hrun]
  exact this
/-- Another thing stands in a block of the call's own. -/
theorem Inv.setItr (inv : Inv n0 Bx w B η H) {id b pos pos' : Nat} {s : ByteArray} (hH : H[id]? = some (.itr s pos)) (hv : η[id]? = some (.pointer (some ⟨b, 0, none⟩))) : Inv n0 Bx { w with heap := w.heap.setIfInBounds b (.stringIter s pos') } B η (H.set id (.itr s pos')) ∧ On B w { w with heap := w.heap.setIfInBounds b (.stringIter s pos') } ∧ Below n0 w { w with heap := w.heap.setIfInBounds b (.stringIter s pos') } ∧ w.heap[b]? = some (.stringIter s pos) := by
  have hg : η.getD id undef = .pointer (some ⟨b, 0, none⟩) := by simp [List.getD_eq_getElem?_getD, hv]
  have hent := inv.ent id _ hH
  rw [hg] at hent
  obtain ⟨b', h1, h2, h3, h4, h5⟩ := hent
  injection h1 with h1; injection h1 with h1; injection h1 with h1 _ _; subst h1
  have hlt := (Array.getElem?_eq_some_iff.1 h5).1
  have other : ∀ k, k ≠ b → ({ w with heap := w.heap.setIfInBounds b (.stringIter s pos') } : World).heap[k]? = w.heap[k]? := fun k hk => by
    show (w.heap.setIfInBounds b _)[k]? = _
    rw [Array.getElem?_setIfInBounds_ne (fun h => hk h.symm)]
  have hon : On B w { w with heap := w.heap.setIfInBounds b (.stringIter s pos') } := ⟨rfl, rfl, rfl, by simp, fun k _ hk => .of (other k (fun h => hk (by rw [h]; exact h3)))⟩
  refine ⟨⟨by simp [inv.len], ⟨by simpa using inv.base.1, inv.base.2.on hon (fun _ h => .inl h)⟩, inv.sub, fun x hx => by simpa using inv.lt x hx, fun i ei hi => ?_, fun i j ei ej hij hi hj hli hlj c hc => ?_⟩, hon, ⟨rfl, rfl, rfl, by simp, fun k hk => other k (by omega)⟩, h5⟩
  · rw [List.getElem?_set] at hi
    split at hi
    · rename_i hij
      subst hij
      split at hi
      · injection hi with hi; subst hi; rw [hg]
        exact ⟨b, rfl, h2, h3, h4, by show (w.heap.setIfInBounds b _)[b]? = _; simp [hlt]⟩
      · cases hi
    · rename_i hij
      exact EntOK.keep (inv.ent i ei hi) hon (fun _ h => .inl h) (fun _ h => h) (fun _ _ h => h) (fun hli k hk => other k (fun h => by
        subst h
        exact inv.sep id i (.itr s pos) ei hij hH hi rfl hli k (by rw [hg]; rfl) hk))
  · have key : ∀ (i : Nat) (ei : Ent), (H.set id (.itr s pos'))[i]? = some ei → ei.live = true → ∃ ei', H[i]? = some ei' ∧ ei'.live = true := by
      intro i ei h hlive
      rw [List.getElem?_set] at h
      split at h
      · rename_i hij; subst hij; exact ⟨_, hH, rfl⟩
      · exact ⟨ei, h, hlive⟩
    obtain ⟨ei', h1, h2⟩ := key i ei hi hli
    obtain ⟨ej', k1, k2⟩ := key j ej hj hlj
    exact inv.sep i j ei' ej' hij h1 k1 h2 k2 c hc
theorem rel_tup (l : List Value) : Rel w B η (.tup (l.map .c)) (.tuple l.toArray) := by
  refine .tup η _ _ (fun i => l.getD i undef) (by simp) (fun i x hx => ?_) (fun i x hx => ?_)
  · rw [List.getElem?_map, Option.map_eq_some_iff] at hx
    obtain ⟨u, hu, rfl⟩ := hx
    simp [List.getD_eq_getElem?_getD, hu]
  · rw [List.getElem?_map, Option.map_eq_some_iff] at hx
    obtain ⟨u, hu, rfl⟩ := hx
    rw [List.getD_eq_getElem?_getD, hu]
    exact .c _ _
theorem next_ok (inv : Inv n0 Bx w B η H) {x : Operand} {s : ByteArray} {id pos : Nat} (ho : o.op = .next x true) (hH : H[id]? = some (.itr s pos)) (hx : Rel w B η (.box id 0) (ρ x)) (hp : pos < s.size) :
    OpS P n0 Bx w ρ o B η (.tup ([Value.bool true, goInt pos, .int .i32 ((Utf8.decode s pos).1 : Nat)].map .c)) (H.set id (.itr s (pos + (Utf8.decode s pos).2))) := by
  intro N hN
  have : ∃ b, ρ x = .pointer (some ⟨b, 0, none⟩) ∧ η[id]? = some (.pointer (some ⟨b, 0, none⟩)) := by
    generalize ρ x = v at hx
    cases hx with
    | box _ _ _ b h => exact ⟨b, rfl, h⟩
  obtain ⟨b, e1, e2⟩ := this
  obtain ⟨i1, i2, i3, i4⟩ := inv.setItr (pos' := pos + (Utf8.decode s pos).2) hH e2
  have := hN (.tuple [Value.bool true, goInt pos, .int .i32 ((Utf8.decode s pos).1 : Nat)].toArray) _ B η i2 (fun _ h => .inl h) (fun _ _ h => h) i3 i1 (rel_tup _) (fun h => by cases h)
  unfold Oper.val
  have hrun : (execOp ρ o).run P w = .ok (.value (.tuple #[.bool true, goInt pos, .int .i32 ((Utf8.decode s pos).1 : Nat)])) { w with heap := w.heap.setIfInBounds b (.stringIter s (pos + (Utf8.decode s pos).2)) } := by
    have h1 : (getObj b).run P w = .ok (.stringIter s pos) w := by simp [getObj, Sem.run, i4]
    have h2 : ∀ ob, (setObj b ob).run P w = .ok () { w with heap := w.heap.setIfInBounds b ob } := fun ob => by simp [setObj, Sem.run, i4]
    simp only [execOp, ho, Instr.next, e1, Sem.run_bind, h1, Result.andThen_ok, hp, if_true, h2]
    rfl
  rw [hrun]
  exact this
theorem next_end (inv : Inv n0 Bx w B η H) {x : Operand} {s : ByteArray} {id pos : Nat} (ho : o.op = .next x true) (hH : H[id]? = some (.itr s pos)) (hx : Rel w B η (.box id 0) (ρ x)) (hp : ¬ pos < s.size) :
    OpS P n0 Bx w ρ o B η (.tup ([Value.bool false].map .c)) H := by
  intro N hN
  have : ∃ b, ρ x = .pointer (some ⟨b, 0, none⟩) ∧ η[id]? = some (.pointer (some ⟨b, 0, none⟩)) := by
    generalize ρ x = v at hx
    cases hx with
    | box _ _ _ b h => exact ⟨b, rfl, h⟩
  obtain ⟨b, e1, e2⟩ := this
  obtain ⟨i1, i2, i3, i4⟩ := inv.setItr (pos' := pos) hH e2
  have := hN (.tuple [Value.bool false].toArray) w B η (.gr (Gr.refl w)) (fun _ h => .inl h) (fun _ _ h => h) ⟨rfl, rfl, rfl, Nat.le_refl _, fun _ _ => rfl⟩ inv (rel_tup _) (fun h => by cases h)
  unfold Oper.val
  have hrun : (execOp ρ o).run P w = .ok (.value (.tuple #[.bool false])) w := by
    have h1 : (getObj b).run P w = .ok (.stringIter s pos) w := by simp [getObj, Sem.run, i4]
    simp only [execOp, ho, Instr.next, e1, Sem.run_bind, h1, Result.andThen_ok, hp, if_false]
    rfl
  rw [hrun]
  exact this
end
end Go.Proofs.YtfaocnboildjbaaDoor
/-
  Stores, and append.
-/
namespace Go.Proofs.YtfaocnboildjbaaDoor
set_option maxRecDepth 100000
open Go.RowKit
set_option linter.unusedVariables false
set_option linter.unusedSimpArgs false

section
variable {P : Program} {w w' : World} {B : List Nat} {η : List Value} {H : List Ent} {ρ : Operand → Value} {ρA : Operand → AV} {o : Oper} {C : Con} {n0 : Nat} {Bx : List Nat}
theorem val_skip {N : Value → World → Prop} {wx : World} (h : (execOp ρ o).run P w = .ok .skip wx) (hN : N undef wx) : Oper.val P ρ o w N := by
  unfold Oper.val; rw [h]; exact hN
theorem storeBox_ok (inv : Inv n0 Bx w B η H) (he : ∀ x ∈ o.op.operands, Rel w B η (ρA x) (ρ x)) {T T' : TypeId} {a x : Operand} {id off : Nat} {cells l : List AV} (ho : o.op = .store T a x) (ha : ρA a = .box id off) (hH : H[id]? = some (.box cells T')) (hx : ρA x ≠ ρA x ∨ (ρA x).toL = l) (hnt : notTup (ρA x) = true)
    (hl : l.length = P.cellsOf T) (hp : 0 < P.cellsOf T) (hle : off + l.length ≤ cells.length) (h1 : l.all AV.one = true) : OpS P n0 Bx w ρ o B η (.c undef) (H.set id (.box (putL cells off l) T')) := by
  intro N hN
  have hx' : (ρA x).toL = l := hx.elim (fun h => absurd rfl h) (fun h => h)
  have hr := (he x (by simp [ho, Op.operands])).toL (fun l e => by rw [e] at hnt; cases hnt)
  rw [hx'] at hr
  have h2 := he a (by simp [ho, Op.operands])
  rw [ha] at h2
  generalize hva : ρ a = va at h2
  cases h2 with
  | box _ _ _ b hid =>
    have hent := inv.ent id _ hH
    rw [List.getD_eq_getElem?_getD, hid, Option.getD_some] at hent
    obtain ⟨b', us, e1, e2, e3, e4, e5, e6⟩ := hent
    obtain rfl : b = b' := by simpa using e1
    have hrun := run_storeAt_row (P := P) (T := T) (v := ρ x) (of := off) e5 (by rw [hr.1]; exact hl) hp (by rw [hr.1, e6.1]; exact hle) (hr.one h1)
    have hon : On B w (w.setRow b (putL us off (ρ x).cells.toList).toArray) := ⟨rfl, rfl, rfl, by simp, fun k _ hk => .of (setRow_other w b k _ (fun h => hk (by rw [h]; exact e3)))⟩
    obtain ⟨i1, i2, i3⟩ := inv.write (e' := .box (putL cells off l) T') (cs := (putL us off (ρ x).cells.toList).toArray) hH hid rfl rfl rfl
      ⟨b, _, rfl, e2, e3, e4, setRow_heap w b us.toArray _ T' (0, 0) e5, (e6.putL hr off).on hon (fun _ h => .inl h) (fun _ _ h => h)⟩
    exact val_skip (by simp [execOp, ho, hva, Sem.run_bind, hrun]) (hN undef _ B η i2 (fun _ h => .inl h) (fun _ _ h => h) i3 i1 (.c _ _) (fun h => by cases h))
theorem take_putL {α : Type} (cur us vs : List α) (off N : Nat) (h : cur.take N = us) (hle : off + vs.length ≤ us.length) : (putL cur off vs).take N = putL us off vs := by
  have hN : us.length ≤ N := by rw [← h]; simp; omega
  have hc : us.length ≤ cur.length := by rw [← h]; simp; omega
  unfold putL
  subst h
  apply List.ext_getElem?
  intro i
  simp only [List.getElem?_take, List.getElem?_append, List.length_append, List.length_take, List.getElem?_drop]
  simp only [List.length_take] at hle hN hc
  by_cases h1 : i < off
  · have : i < N := by omega
    simp only [this, if_true]
    rw [if_pos (by omega), if_pos (by omega), if_pos (by omega), if_pos (by omega)]
    (repeat (first | rw [if_pos (by omega)] | rw [if_neg (by omega)]))
  · by_cases h2 : i < off + vs.length
    · have : i < N := by omega
      simp only [this, if_true]
      rw [if_pos (by omega), if_neg (by omega), if_pos (by omega), if_neg (by omega)]
      congr 1
      omega
    · by_cases h3 : i < N
      · simp only [h3, if_true]
        rw [if_neg (by omega), if_neg (by omega)]
        have e1 : off + vs.length + (i - (min off cur.length + vs.length)) = i := by omega
        have e2 : off + vs.length + (i - (min off (min N cur.length) + vs.length)) = i := by omega
        rw [e1, e2, if_pos h3]
      · simp only [h3, if_false]
        rw [if_neg (by omega)]
        have e2 : off + vs.length + (i - (min off (min N cur.length) + vs.length)) = i := by omega
        rw [e2, if_neg h3]
theorem drop_putL {α : Type} (cur vs : List α) (o off : Nat) (h : o + off + vs.length ≤ cur.length) : (putL cur (o + off) vs).drop o = putL (cur.drop o) off vs := by
  unfold putL
  apply List.ext_getElem?
  intro i
  simp only [List.getElem?_drop, List.getElem?_append, List.length_append, List.length_take, List.getElem?_take, List.length_drop]
  by_cases h1 : i < off
  · (repeat (first | rw [if_pos (by omega)] | rw [if_neg (by omega)]))
  · by_cases h2 : i < off + vs.length
    · rw [if_pos (by omega), if_neg (by omega), if_pos (by omega), if_neg (by omega)]
      congr 1
      omega
    · rw [if_neg (by omega), if_neg (by omega)]
      congr 1
      omega
theorem storeOwn_ok (inv : Inv n0 Bx w B η H) (he : ∀ x ∈ o.op.operands, Rel w B η (ρA x) (ρ x)) {T E k : Nat} {a x : Operand} {id off : Nat} {cells l : List AV} (ho : o.op = .store T a x) (ha : ρA a = .oadr id off) (hH : H[id]? = some (.own cells E k)) (hx : (ρA x).toL = l) (hnt : notTup (ρA x) = true)
    (hl : l.length = P.cellsOf T) (hp : 0 < P.cellsOf T) (hle : off + l.length ≤ cells.length) (h1 : l.all AV.one = true) : OpS P n0 Bx w ρ o B η (.c undef) (H.set id (.own (putL cells off l) E k)) := by
  intro N hN
  have hr := (he x (by simp [ho, Op.operands])).toL (fun l e => by rw [e] at hnt; cases hnt)
  rw [hx] at hr
  have h2 := he a (by simp [ho, Op.operands])
  rw [ha] at h2
  generalize hva : ρ a = va at h2
  cases h2 with
  | oadr _ _ _ b oo n c hid =>
    have hent := inv.ent id _ hH
    rw [List.getD_eq_getElem?_getD, hid, Option.getD_some] at hent
    obtain ⟨n', us, e1, e2, e3, e4⟩ := hent
    obtain rfl := e1.len
    rcases e1.2 with ⟨hv0, _⟩ | ⟨g, o', cap, cur, hvv, hb, hg, hnc, hcm, hsz, htk⟩
    · cases hv0
    injection hvv with q1 q2 q3
    injection q1 with q1
    injection q1 with q1 q4
    subst q1 q3 q4
    have hcur : w.heap[b]? = some (.cells cur.toList.toArray E (0, 0)) := hg
    have hul : off + (ρ x).cells.toList.length ≤ us.length := by rw [hr.1, e2.1]; exact hle
    have hlen : oo + us.length ≤ cur.toList.length := by
      have h1 : us.length = n * k := e1.1
      have h2 : n * k ≤ c * k := Nat.mul_le_mul_right k hnc
      simp; omega
    have hrun := run_storeAt_row (P := P) (T := T) (v := ρ x) (of := oo + off) hcur (by rw [hr.1]; exact hl) hp (by omega) (hr.one h1)
    have hbB := (e4 b rfl).1
    have hon : On B w (w.setRow b (putL cur.toList (oo + off) (ρ x).cells.toList).toArray) := ⟨rfl, rfl, rfl, by simp, fun k _ hk => .of (setRow_other w b k _ (fun h => hk (by rw [h]; exact hbB)))⟩
    have hnew : (w.setRow b (putL cur.toList (oo + off) (ρ x).cells.toList).toArray).heap[b]? = some (.cells (putL cur.toList (oo + off) (ρ x).cells.toList).toArray E (0, 0)) := setRow_heap w b cur _ E (0, 0) hg
    have hpl : (putL cur.toList (oo + off) (ρ x).cells.toList).length = cur.toList.length := by unfold putL; simp at *; omega
    have hpu : (putL us off (ρ x).cells.toList).length = us.length := by unfold putL; simp at *; omega
    obtain ⟨i1, i2, i3⟩ := inv.write (e' := .own (putL cells off l) E k) (cs := (putL cur.toList (oo + off) (ρ x).cells.toList).toArray) hH hid rfl rfl rfl
      ⟨n, putL us off (ρ x).cells.toList, ⟨by rw [hpu]; exact e1.1, .inr ⟨b, oo, c, _, rfl, hb, hnew, hnc, hcm, by
        have : (putL cur.toList (oo + off) (ρ x).cells.toList).toArray.size = cur.size := by simpa using hpl
        omega, by
        rw [List.toList_toArray, drop_putL _ _ _ _ (by omega)]
        exact take_putL _ _ _ _ _ htk hul⟩⟩, (e2.putL hr off).on hon (fun _ h => .inl h) (fun _ _ h => h), e3, fun g hg => by simp [Value.ownBlock] at hg; subst hg; exact e4 _ rfl⟩
    exact val_skip (by simp [execOp, ho, hva, Sem.run_bind, hrun]) (hN undef _ B η i2 (fun _ h => .inl h) (fun _ _ h => h) i3 i1 (.c _ _) (fun h => by cases h))
end
end Go.Proofs.YtfaocnboildjbaaDoor
/-
  Append.
-/
namespace Go.Proofs.YtfaocnboildjbaaDoor
set_option maxRecDepth 100000
open Go.RowKit
set_option linter.unusedVariables false
set_option linter.unusedSimpArgs false

/-- What stands behind a slice that is appended: its cells, and their width. -/
def srcA (H : List Ent) (k : Nat) : AV → Option (List AV)
  | .sl l k' => if k' = k then some l else none
  | .emp => some []
  | .c (.slice none n c) => if n = 0 then some [] else none
  | .c (.slice (some _) 0 _) => some []
  | _ => none
/-- What is appended to: its cells. -/
def dstA (H : List Ent) (E k : Nat) : AV → Option (List AV)
  | .c (.slice none n c) => if n = 0 ∧ c = 0 then some [] else none
  | .own id => match H[id]? with | some (.own cells E' k') => if E' = E ∧ k' = k then some cells else none | _ => none
  | _ => none
def killA (H : List Ent) : AV → List Ent
  | .own id => H.set id .dead
  | _ => H
section
variable {P : Program} {w w' : World} {B : List Nat} {η : List Value} {H : List Ent} {ρ : Operand → Value} {ρA : Operand → AV} {o : Oper} {C : Con} {n0 : Nat} {Bx : List Nat}
theorem Inv.kill (inv : Inv n0 Bx w B η H) (x : AV) : Inv n0 Bx w B η (killA H x) := by
  unfold killA
  split
  · rename_i id
    refine ⟨by simp [inv.len], inv.base, inv.sub, inv.lt, fun i ei hi => ?_, fun i j ei ej hij hi hj hli hlj => ?_⟩
    · rw [List.getElem?_set] at hi
      split at hi
      · split at hi
        · injection hi with hi; subst hi; trivial
        · cases hi
      · exact inv.ent i ei hi
    · have key : ∀ (i : Nat) (ei : Ent), (H.set id .dead)[i]? = some ei → ei.live = true → H[i]? = some ei := by
        intro i ei h hl
        rw [List.getElem?_set] at h
        split at h
        · split at h
          · injection h with h; subst h; cases hl
          · cases h
        · exact h
      exact inv.sep i j ei ej hij (key i ei hi hli) (key j ej hj hlj) hli hlj
  · exact inv
theorem dstA_spec (inv : Inv n0 Bx w B η H) {x : AV} {v : Value} {E k : Nat} {cells : List AV} (hx : Rel w B η x v) (hk : 1 ≤ k) (h : dstA H E k x = some cells) :
    ∃ n us, OwnAt w n0 E k v n us ∧ RelL w B η cells us ∧ (∀ b, v.ownBlock = some b → b ∈ B ∧ b ∉ Bx) ∧ ∀ b, v.ownBlock = some b → ∃ id e, x = .own id ∧ H[id]? = some e ∧ e.live = true ∧ blkOf (η.getD id undef) = some b := by
  unfold dstA at h
  split at h
  · rename_i n c
    split at h
    · rename_i hnc
      injection h with h; subst h
      obtain ⟨rfl, rfl⟩ := hnc
      have := hx.ofC
      subst this
      exact ⟨0, [], OwnAt.nil w n0 E k, RelL.nil _ _ _, (fun b hb => by cases hb), (fun b hb => by cases hb)⟩
    · cases h
  · rename_i id
    split at h
    · rename_i cells' E' k' hH
      split at h
      · rename_i hc
        injection h with h; subst h
        obtain ⟨rfl, rfl⟩ := hc
        cases hx with
        | own _ _ a n c hid =>
          have hent := inv.ent id _ hH
          have hg : η.getD id undef = .slice a n c := by simp [List.getD_eq_getElem?_getD, hid]
          rw [hg] at hent
          obtain ⟨n', us, h1, h2, h3, h4⟩ := hent
          exact ⟨n', us, h1, h2, h4, fun b hb => ⟨id, _, rfl, hH, rfl, by
            rw [hg]
            cases a with
            | none => cases hb
            | some ad => exact hb⟩⟩
      · cases h
    · cases h
  · cases h
theorem srcA_spec {x : AV} {v : Value} {k : Nat} {l : List AV} (hx : Rel w B η x v) (hk : 1 ≤ k) (h : srcA H k x = some l) : ∃ A n c us, v = .slice A n c ∧ n * k = l.length ∧ (0 < n → ∃ ad, A = some ad ∧ At w B ad l.length us) ∧ ∀ i x, l[i]? = some x → Rel w B [] x (us i) := by
  unfold srcA at h
  split at h
  · split at h
    · rename_i hkk
      injection h with h; subst h hkk
      obtain ⟨A, n, c, us, hv, _, hn, _, _, hA, hr⟩ := hx.slL
      exact ⟨A, n, c, us, hv, hn, hA, hr⟩
    · cases h
  · injection h with h; subst h
    cases hx with
    | emp _ A => exact ⟨A, 0, 0, fun _ => undef, rfl, by simp, fun h => absurd h (by omega), fun i x hx => by simp at hx⟩
  · rename_i n c
    split at h
    · rename_i hn
      injection h with h; subst h hn
      have := hx.ofC
      exact ⟨none, 0, c, fun _ => undef, this, by simp, fun h => absurd h (by omega), fun i x hx => by simp at hx⟩
    · cases h
  · rename_i A0 c
    injection h with h; subst h
    exact ⟨some A0, 0, c, fun _ => undef, hx.ofC, by simp, fun h => absurd h (by omega), fun i x hx => by simp at hx⟩
  · cases h
theorem run_append_none {base t ty e n m c : Nat} {i : TypeInfo} {v : Value} {xs : List Value} {A : Option Addr} (ht : P.underlying t = some (.slice e)) (hi : P.info? e = some i) (hown : OwnAt w base e i.size v n xs) (hm : m = 0) :
    (Builtin.append_ #[t, t] ty #[v, .slice A m c]).run P w = .ok v w := by
  subst hm
  rcases hown.2 with ⟨rfl, rfl⟩ | ⟨g, oo, cap, cur, rfl, _, _, hnc, _⟩
  · cases A <;> simp [Builtin.append_, run_underlying ht, sizeOf, typeInfo, hi, Builtin.lenOf, Builtin.firstCells, loadCells, loadCellsFrom]
  · cases A <;> simp [Builtin.append_, run_underlying ht, sizeOf, typeInfo, hi, Builtin.lenOf, Builtin.firstCells, hnc, storeCells, loadCells, loadCellsFrom]
/-- Append to a slice of the call's own, at whatever place. -/
theorem run_append_at {base t ty E k by_ : Nat} {i : TypeInfo} {z : Value} (ht : P.underlying t = some (.slice E)) (hi : P.info? E = some i) (hz : i.zero = some z) (hsz : i.size = k) (hby : i.bytes = by_) (hzs : z.cells.size = k) (hk : 1 ≤ k)
    {v : Value} {n : Nat} {us : List Value} (hown : OwnAt w base E k v n us) (ad : Addr) (m c : Nat) (news : List Value) (hl : news.length = m * k) (hnews : ∀ (j : Nat) u, news[j]? = some u → w.cell? (ad.add j) = some u) (h1 : ∀ u ∈ news, u.oneCell' = true)
    (hm : 0 < m) (h63 : n + m ≤ maxLen) (hbytes : (n + m) * by_ ≤ 140737488355328) (hbase : base ≤ w.heap.size) :
    ∃ g o cap w', (Builtin.append_ #[t, t] ty #[v, .slice (some ad) m c]).run P w = .ok (.slice (some ⟨g, o, none⟩) (n + m) cap) w' ∧ OwnAt w' base E k (.slice (some ⟨g, o, none⟩) (n + m) cap) (n + m) (us ++ news) ∧
      w.grownBy w' v.ownBlock ∧ (v.ownBlock = some g ∨ w.heap.size ≤ g) ∧ g < w'.heap.size := by
  have fresh : ∀ v' w', (Builtin.append_ #[t, t] ty #[v, .slice (some ad) m c]).run P w = .ok v' w' → w'.ownsRow w.heap.size E k v' (n + m) (us ++ news) → w.grownBy w' none → ∃ g o cap w', (Builtin.append_ #[t, t] ty #[v, .slice (some ad) m c]).run P w = .ok (.slice (some ⟨g, o, none⟩) (n + m) cap) w' ∧ OwnAt w' base E k (.slice (some ⟨g, o, none⟩) (n + m) cap) (n + m) (us ++ news) ∧ w.grownBy w' v.ownBlock ∧ (v.ownBlock = some g ∨ w.heap.size ≤ g) ∧ g < w'.heap.size := by
    intro v' w' hr h2 h3
    obtain ⟨g, cap, hv', hbg, hlt⟩ := h2.form (by omega)
    subst hv'
    exact ⟨g, 0, cap, w', hr, .row h2 hbase, ⟨h3.os, h3.tape, h3.output, h3.size, fun b hb _ => h3.block b hb (by simp)⟩, .inr hbg, hlt⟩
  rcases hown.2 with ⟨hv, hn⟩ | ⟨g, o, cap, cur, hv, hb, hg, hnc, hcm, hsize, htk⟩
  · subst hv hn
    have hus : us = [] := List.eq_nil_of_length_eq_zero (by rw [hown.1]; simp)
    subst hus
    obtain ⟨v', w', hr, h2, h3, _, h5⟩ := run_append_own_at (P := P) w base t ty E i z k by_ ht hi hz hsz hby hzs hk _ 0 [] (World.ownsRow_nil _ _ _ _) ad m c news hl hnews h1 h63 hbytes hbase
    obtain ⟨g, cap, hv', hbg, hlt⟩ := h2.form (by omega)
    subst hv'
    exact ⟨g, 0, cap, w', hr, .row h2 (Nat.le_refl _), h3, by
      rcases h5 with h5 | h5
      · cases h5
      · exact .inr (Nat.le_of_eq (Option.some.inj h5).symm), hlt⟩
  · subst hv
    rcases Nat.lt_or_ge cap (n + m) with hgr | hroom
    · obtain ⟨v', w', hr, h2, h3⟩ := run_append_arg_grows (P := P) w t ty E i z k by_ ht hi hz hsz hby hzs hk ⟨g, o, none⟩ n cap us hown.1 (fun j u hj => by rw [Addr.add_mid]; exact hown.cells j u hj) ad m c news hl hnews hgr h63 hbytes
      exact fresh v' w' hr h2 h3
    · have hmul : (n + m) * k ≤ cap * k := Nat.mul_le_mul_right k hroom
      have hnm : (n + m) * k = n * k + m * k := Nat.add_mul n m k
      have hfit : o + n * k + news.length ≤ cur.size := by omega
      have hst := run_storeCells_at (P := P) g (o + n * k) E news 0 cur w hg (by omega) h1
      simp only [Nat.add_zero] at hst
      have hfc := run_firstCells_some (P := P) w k m ad m c news hl hnews
      have hput : cur.toList.take (o + n * k) ++ news ++ cur.toList.drop (o + n * k + news.length) = putL cur.toList (o + n * k) news := rfl
      rw [hput] at hst
      have hpl : (putL cur.toList (o + n * k) news).length = cur.toList.length := by unfold putL; simp; omega
      have hglt : g < w.heap.size := (Array.getElem?_eq_some_iff.1 hg).1
      refine ⟨g, o, cap, w.setRow g (putL cur.toList (o + n * k) news).toArray, ?_, ⟨by simp [hown.1, hl, hnm], .inr ⟨g, o, cap, _, rfl, hb, setRow_heap w g cur _ E (0, 0) hg, hroom, hcm, ?_, ?_⟩⟩, ⟨rfl, rfl, rfl, by simp, fun b hb' hne => setRow_other w g b _ (fun h => hne (by rw [h]; rfl))⟩, .inl rfl, by simpa using hglt⟩
      · simp [Builtin.append_, run_underlying ht, sizeOf, typeInfo, hi, hsz, Builtin.lenOf, hroom, hfc, Addr.add_lit, hst]
      · have : (putL cur.toList (o + n * k) news).toArray.size = cur.size := by simpa using hpl
        omega
      · rw [List.toList_toArray, drop_putL _ _ _ _ (by simpa using hfit)]
        unfold putL
        rw [htk, List.append_assoc, List.take_append, hown.1]
        have hu : us.take ((n + m) * k) = us := List.take_of_length_le (by rw [hown.1]; omega)
        rw [hu, show (n + m) * k - n * k = news.length by omega, List.take_left]
theorem append_ok (inv : Inv n0 Bx w B η H) (he : ∀ x ∈ o.op.operands, Rel w B η (ρA x) (ρ x)) {s x : Operand} {t E k by_ : Nat} {i : TypeInfo} {z : Value} {cells l : List AV} (ho : o.op = .call ⟨.builtin .append, #[s, x], #[t, t]⟩)
    (ht : P.underlying t = some (.slice E)) (hi : P.info? E = some i) (hz : i.zero = some z) (hsz : i.size = k) (hby : i.bytes = by_) (hzs : z.cells.size = k) (hk : 1 ≤ k)
    (hd : dstA H E k (ρA s) = some cells) (hs : srcA H k (ρA x) = some l) (h1 : l.all AV.one = true) (hm : (cells.length + l.length) / k ≤ maxLen) (hb : (cells.length + l.length) / k * by_ ≤ 140737488355328) :
    OpS P n0 Bx w ρ o B η (.own H.length) (killA H (ρA s) ++ [.own (cells ++ l) E k]) := by
  intro N hN
  obtain ⟨n, us, hown, hrel, hbl, hex⟩ := dstA_spec inv (he s (by simp [ho, Op.operands, Call.operands])) hk hd
  obtain ⟨A, m, c, vs, hv, hn, hA, hr⟩ := srcA_spec (he x (by simp [ho, Op.operands, Call.operands])) hk hs
  have hlc : cells.length = n * k := by rw [← hrel.1]; exact hown.1
  have ik := inv.kill (ρA s)
  have klen : (killA H (ρA s)).length = H.length := by unfold killA; split <;> simp
  have hold : ∀ (id : Nat) (e : Ent), (killA H (ρA s))[id]? = some e → e.live = true → H[id]? = some e ∧ ∀ b, (ρ s).ownBlock = some b → blkOf (η.getD id undef) ≠ some b := by
    intro id e h hl
    have hH : H[id]? = some e ∧ ρA s ≠ .own id := by
      unfold killA at h
      split at h
      · rename_i id' hid'
        rw [List.getElem?_set] at h
        split at h
        · split at h
          · injection h with h; subst h; cases hl
          · cases h
        · rename_i hne; exact ⟨h, fun hh => hne (by rw [hid'] at hh; injection hh)⟩
      · rename_i hnot
        exact ⟨h, fun hh => hnot id hh⟩
    refine ⟨hH.1, fun b hb hc => ?_⟩
    obtain ⟨id2, e2, h2, h3, h4, h5⟩ := hex b hb
    exact inv.sep id2 id e2 e (fun hh => hH.2 (by rw [h2, hh])) h3 hH.1 h4 hl b h5 hc
  rcases Nat.eq_zero_or_pos m with hm0 | hmp
  · have hl0 : l = [] := List.eq_nil_of_length_eq_zero (by rw [← hn, hm0]; simp)
    subst hl0
    have hrun0 := run_append_none (P := P) (w := w) (ty := o.type) (A := A) (c := c) ht hi (by rw [hsz]; exact hown) hm0
    have hinv : Inv n0 Bx w B (η ++ [ρ s]) (killA H (ρA s) ++ [.own (cells ++ []) E k]) := by
      refine ⟨by simp [klen, inv.len], inv.base, inv.sub, inv.lt, fun id e h => ?_, fun i j ei ej hij hi' hj hli hlj b hb' => ?_⟩
      · rcases Nat.lt_or_ge id H.length with hid | hid
        · rw [List.getElem?_append_left (by rw [klen]; exact hid)] at h
          rw [getD_push_old (by rw [inv.len]; exact hid)]
          exact EntOK.on (ik.ent id e h) (Gr.refl w) (push_old η _)
        · rw [List.getElem?_append_right (by rw [klen]; exact hid)] at h
          have : id = H.length := by have := (List.getElem?_eq_some_iff.1 h).1; rw [klen] at this; simp at this; omega
          subst this
          simp [klen] at h; subst h
          rw [← inv.len, getD_push_new]
          exact ⟨n, us, hown, by simpa using hrel.on (On.refl _ _) (fun _ h => .inl h) (push_old η _), hk, hbl⟩
      · have key : ∀ (i : Nat) (ei : Ent), (killA H (ρA s) ++ [Ent.own (cells ++ []) E k])[i]? = some ei → (i < H.length ∧ (killA H (ρA s))[i]? = some ei ∧ (η ++ [ρ s]).getD i undef = η.getD i undef) ∨ (i = H.length ∧ (η ++ [ρ s]).getD i undef = ρ s) := by
          intro i ei h
          rcases Nat.lt_or_ge i H.length with hid | hid
          · exact .inl ⟨hid, by rwa [List.getElem?_append_left (by rw [klen]; exact hid)] at h, getD_push_old (by rw [inv.len]; exact hid)⟩
          · have : i = H.length := by
              rw [List.getElem?_append_right (by rw [klen]; exact hid)] at h
              have := (List.getElem?_eq_some_iff.1 h).1; rw [klen] at this; simp at this; omega
            subst this
            exact .inr ⟨rfl, by rw [← inv.len, getD_push_new]⟩
        have hos : ∀ b, blkOf (ρ s) = some b → (ρ s).ownBlock = some b := by
          intro b hb
          rcases hown.2 with ⟨hv0, _⟩ | ⟨g, oo, cap, cur, hv0, _⟩ <;> rw [hv0] at hb ⊢ <;> exact hb
        rcases key i ei hi' with ⟨h1, h2, h3⟩ | ⟨h1, h3⟩ <;> rcases key j ej hj with ⟨k1, k2, k3⟩ | ⟨k1, k3⟩
        · rw [h3] at hb'; rw [k3]; exact ik.sep i j ei ej hij h2 k2 hli hlj b hb'
        · rw [h3] at hb'; rw [k3]
          exact fun hcc => (hold i ei h2 hli).2 b (hos b hcc) hb'
        · rw [h3] at hb'; rw [k3]
          exact (hold j ej k2 hlj).2 b (hos b hb')
        · omega
    have hform : ∃ a nn cc, ρ s = .slice a nn cc := by
      rcases hown.2 with ⟨hv0, _⟩ | ⟨g, oo, cap, cur, hv0, _⟩ <;> rw [hv0] <;> exact ⟨_, _, _, rfl⟩
    obtain ⟨a0, nn, cc, hf⟩ := hform
    unfold Oper.val
    have hrun' : (execOp ρ o).run P w = .ok (.value (ρ s)) w := by
      simp only [execOp, ho, resolve, invoke, builtin, Sem.run_bind, Sem.run_pure, Result.andThen_ok, List.map_toArray, List.map_cons, List.map_nil, hv, hrun0]
    rw [hrun']
    exact hN _ _ _ _ (On.refl _ _) (fun _ h => .inl h) (push_old η _) (Below.refl _ _) hinv (by rw [hf]; exact .own _ _ _ _ _ (by rw [← inv.len, List.getElem?_append_right (Nat.le_refl _)]; simp)) (fun h => by cases h)
  obtain ⟨ad, hA1, hat⟩ := hA hmp
  subst hA1
  have hnews : RelL w B η l ((List.range l.length).map vs) := ⟨by simp, fun i y hy => by
    have hlt : i < l.length := (List.getElem?_eq_some_iff.1 hy).1
    exact ⟨vs i, by simp [hlt], (hr i y hy).any⟩⟩
  have hdiv : (cells.length + l.length) / k = n + m := by rw [hlc, ← hn, ← Nat.add_mul]; exact Nat.mul_div_cancel _ hk
  rw [hdiv] at hm hb
  obtain ⟨g, og, cap, w', hrun, hown', hgrow, hg, hglt⟩ := run_append_at (P := P) (ty := o.type) ht hi hz hsz hby hzs hk hown ad m c ((List.range l.length).map vs)
    (by simp [hn]) (fun j u hj => by
      have hlt : j < l.length := by have := (List.getElem?_eq_some_iff.1 hj).1; simpa using this
      rw [hat.cell j hlt]
      simp [hlt] at hj
      rw [hj]) (hnews.one h1) hmp hm hb inv.base.1
  have hng : n0 ≤ g := by
    rcases hown'.2 with ⟨hv0, _⟩ | ⟨g', o', cap', cur, hv0, hb', _⟩
    · cases hv0
    · injection hv0 with q1
      injection q1 with q1
      injection q1 with q1
      omega
  have hgB : g ∈ B ∨ w.heap.size ≤ g := hg.elim (fun h => .inl (hbl g h).1) (fun h => .inr h)
  have hon : On B w w' := ⟨hgrow.os, hgrow.tape, hgrow.output, hgrow.size, fun b hb hn => .of (hgrow.block b hb (fun h => hn (hbl b h.symm).1))⟩
  have hB : ∀ b ∈ g :: B, b ∈ B ∨ w.heap.size ≤ b := fun b hb => by rcases List.mem_cons.1 hb with rfl | h; exact hgB; exact .inl h
  have hbelow : Below n0 w w' := ⟨hgrow.os, hgrow.tape, hgrow.output, hgrow.size, fun b hb => hgrow.block b (by have := inv.base.1; omega) (fun h => by
    have hlt : n0 ≤ b := by
      rcases hown.2 with ⟨hv0, _⟩ | ⟨g', oo, cap', cur, hv0, hb', _⟩
      · rw [hv0] at h; cases h
      · rw [hv0] at h; simp [Value.ownBlock] at h; omega
    omega)⟩
  have hkeep : ∀ (id : Nat) (e : Ent), (killA H (ρA s))[id]? = some e → e.live = true → ∀ b, blkOf (η.getD id undef) = some b → w'.heap[b]? = w.heap[b]? ∧ b ≠ g := by
    intro id e h hl b hb
    obtain ⟨h1, h2⟩ := hold id e h hl
    have hlt := (EntOK.lt (inv.ent id e h1) hl b hb).1
    refine ⟨hgrow.block b hlt (fun hh => h2 b hh.symm hb), fun hh => ?_⟩
    subst hh
    rcases hg with h3 | h3
    · exact h2 b h3 hb
    · omega
  have hinv : Inv n0 Bx w' (g :: B) (η ++ [.slice (some ⟨g, og, none⟩) (n + m) cap]) (killA H (ρA s) ++ [.own (cells ++ l) E k]) := by
    refine ⟨by simp [klen, inv.len], ⟨Nat.le_trans inv.base.1 hgrow.size, inv.base.2.on hon hB⟩, fun b hb => ⟨List.mem_cons_of_mem _ (inv.sub b hb).1, (inv.sub b hb).2⟩, fun b hb => ?_, fun id e h => ?_, fun i j ei ej hij hi' hj hli hlj b hb' => ?_⟩
    · rcases List.mem_cons.1 hb with rfl | h
      · exact hglt
      · exact Nat.lt_of_lt_of_le (inv.lt b h) hgrow.size
    · rcases Nat.lt_or_ge id H.length with hid | hid
      · rw [List.getElem?_append_left (by rw [klen]; exact hid)] at h
        rw [getD_push_old (by rw [inv.len]; exact hid)]
        exact EntOK.keep (ik.ent id e h) hon hB (fun _ h => List.mem_cons_of_mem _ h) (push_old η _) (fun hl b hb => (hkeep id e h hl b hb).1)
      · rw [List.getElem?_append_right (by rw [klen]; exact hid)] at h
        have : id = H.length := by have := (List.getElem?_eq_some_iff.1 h).1; rw [klen] at this; simp at this; omega
        subst this
        simp [klen] at h; subst h
        rw [← inv.len, getD_push_new]
        refine ⟨n + m, _, hown', (hrel.append hnews).on hon hB (push_old η _), hk, fun b hb => ?_⟩
        simp [Value.ownBlock] at hb
        subst hb
        refine ⟨List.mem_cons_self, fun hbx => ?_⟩
        have := (inv.sub _ hbx).2
        omega
    · have key : ∀ (i : Nat) (ei : Ent), (killA H (ρA s) ++ [Ent.own (cells ++ l) E k])[i]? = some ei → (i < H.length ∧ (killA H (ρA s))[i]? = some ei ∧ (η ++ [Value.slice (some ⟨g, og, none⟩) (n + m) cap]).getD i undef = η.getD i undef) ∨ (i = H.length ∧ (η ++ [Value.slice (some ⟨g, og, none⟩) (n + m) cap]).getD i undef = Value.slice (some ⟨g, og, none⟩) (n + m) cap) := by
        intro i ei h
        rcases Nat.lt_or_ge i H.length with hid | hid
        · exact .inl ⟨hid, by rwa [List.getElem?_append_left (by rw [klen]; exact hid)] at h, getD_push_old (by rw [inv.len]; exact hid)⟩
        · have : i = H.length := by
            rw [List.getElem?_append_right (by rw [klen]; exact hid)] at h
            have := (List.getElem?_eq_some_iff.1 h).1; rw [klen] at this; simp at this; omega
          subst this
          exact .inr ⟨rfl, by rw [← inv.len, getD_push_new]⟩
      rcases key i ei hi' with ⟨h1, h2, h3⟩ | ⟨h1, h3⟩ <;> rcases key j ej hj with ⟨k1, k2, k3⟩ | ⟨k1, k3⟩
      · rw [h3] at hb'; rw [k3]; exact ik.sep i j ei ej hij h2 k2 hli hlj b hb'
      · rw [h3] at hb'; rw [k3]
        intro hcc
        have := (hkeep i ei h2 hli b hb').2
        simp [blkOf] at hcc
        omega
      · rw [h3] at hb'
        simp [blkOf] at hb'
        subst hb'
        rw [k3]
        intro hcc
        exact (hkeep j ej k2 hlj _ hcc).2 rfl
      · omega
  unfold Oper.val
  have hrun' : (execOp ρ o).run P w = .ok (.value (.slice (some ⟨g, og, none⟩) (n + m) cap)) w' := by
    simp only [execOp, ho, resolve, invoke, builtin, Sem.run_bind, Sem.run_pure, Result.andThen_ok, List.map_toArray, List.map_cons, List.map_nil, hv, hrun]
  rw [hrun']
  exact hN _ _ _ _ hon hB (push_old η _) hbelow hinv (.own _ _ _ _ _ (by rw [← inv.len, List.getElem?_append_right (Nat.le_refl _)]; simp)) (fun h => by cases h)
/-- Appended to a slice that has no room: all is new. -/
theorem appendE_ok (inv : Inv n0 Bx w B η H) (he : ∀ x ∈ o.op.operands, Rel w B η (ρA x) (ρ x)) {s x : Operand} {t E k by_ : Nat} {i : TypeInfo} {z : Value} {l : List AV} (ho : o.op = .call ⟨.builtin .append, #[s, x], #[t, t]⟩)
    (ht : P.underlying t = some (.slice E)) (hi : P.info? E = some i) (hz : i.zero = some z) (hsz : i.size = k) (hby : i.bytes = by_) (hzs : z.cells.size = k) (hk : 1 ≤ k)
    (hd : ρA s = .emp) (hs : srcA H k (ρA x) = some l) (h1 : l.all AV.one = true) (h2 : l.all AV.imm0 = true) (hm : l.length / k ≤ maxLen) (hb : l.length / k * by_ ≤ 140737488355328) :
    OpOK P n0 w ρ o B η (.sl l k) := by
  have h0 := he s (by simp [ho, Op.operands, Call.operands])
  rw [hd] at h0
  obtain ⟨A, m, c, vs, hv, hn, hA, hr⟩ := srcA_spec (he x (by simp [ho, Op.operands, Call.operands])) hk hs
  have hdiv : l.length / k = m := by rw [← hn]; exact Nat.mul_div_cancel _ hk
  rw [hdiv] at hm hb
  generalize hvs : ρ s = v0 at h0
  cases h0 with
  | emp _ A0 =>
    rcases Nat.eq_zero_or_pos m with hm0 | hmp
    · have hl0 : l = [] := List.eq_nil_of_length_eq_zero (by rw [← hn, hm0]; simp)
      subst hl0
      subst hm0
      refine .of_run (v := .slice A0 0 0) ?_ (.sl _ _ _ _ _ _ (fun _ => undef) hk (by simp) (Nat.le_refl _) (Nat.zero_le _) (fun h => absurd h (by omega)) (fun i x hx => by simp at hx))
      have hrun0 : (Builtin.append_ #[t, t] o.type #[.slice A0 0 0, .slice A 0 c]).run P w = .ok (.slice A0 0 0) w := by
        cases A <;> cases A0 <;> simp [Builtin.append_, run_underlying ht, sizeOf, typeInfo, hi, Builtin.lenOf, Builtin.firstCells, storeCells, loadCells, loadCellsFrom]
      simp only [execOp, ho, resolve, invoke, builtin, Sem.run_bind, Sem.run_pure, Result.andThen_ok, List.map_toArray, List.map_cons, List.map_nil, hv, hvs, hrun0]
    · obtain ⟨ad, hA1, hat⟩ := hA hmp
      subst hA1
      have hnews : RelL w B [] l ((List.range l.length).map vs) := ⟨by simp, fun i y hy => by
        have hlt : i < l.length := (List.getElem?_eq_some_iff.1 hy).1
        exact ⟨vs i, by simp [hlt], hr i y hy⟩⟩
      have hcells : ∀ j u, ((List.range l.length).map vs)[j]? = some u → w.cell? (ad.add j) = some u := fun j u hj => by
        have hlt : j < l.length := by have := (List.getElem?_eq_some_iff.1 hj).1; simpa using this
        rw [hat.cell j hlt]
        simp [hlt] at hj
        rw [hj]
      have key : ∃ v' w', (Builtin.append_ #[t, t] o.type #[.slice A0 0 0, .slice (some ad) m c]).run P w = .ok v' w' ∧ w'.ownsRow w.heap.size E k v' m ((List.range l.length).map vs) ∧ w.grownBy w' none := by
        cases A0 with
        | none =>
          obtain ⟨v', w', q1, q2, q3, q4, q5⟩ := run_append_own_at (P := P) w w.heap.size t o.type E i z k by_ ht hi hz hsz hby hzs hk (.slice none 0 0) 0 [] (World.ownsRow_nil _ _ _ _) ad m c ((List.range l.length).map vs) (by simp [hn]) hcells (hnews.one h1) (by simpa using hm) (by simpa using hb) (Nat.le_refl _)
          exact ⟨v', w', q1, by simpa using q2, q3⟩
        | some a0 =>
          obtain ⟨v', w', q1, q2, q3⟩ := run_append_arg_grows (P := P) w t o.type E i z k by_ ht hi hz hsz hby hzs hk a0 0 0 [] (by simp) (fun j u h => by simp at h) ad m c ((List.range l.length).map vs) (by simp [hn]) hcells (by omega) (by simpa using hm) (by simpa using hb)
          exact ⟨v', w', q1, by simpa using q2, q3⟩
      obtain ⟨v', w', q1, q2, q3⟩ := key
      have g : Gr w w' := ⟨q3.os, q3.tape, q3.output, q3.size, fun b hb => q3.block b hb (by simp)⟩
      intro N hN
      unfold Oper.val
      have hrun' : (execOp ρ o).run P w = .ok (.value v') w' := by
        simp only [execOp, ho, resolve, invoke, builtin, Sem.run_bind, Sem.run_pure, Result.andThen_ok, List.map_toArray, List.map_cons, List.map_nil, hv, hvs, q1]
      rw [hrun']
      rcases q2.2 with ⟨hv0, hm0⟩ | ⟨gg, cap, cur, hv0, hbase, hg, hnc, hcm, hsz', htk⟩
      · omega
      · subst hv0
        refine hN _ _ (.gr g) (.sl _ _ _ _ _ _ vs hk hn hnc hcm (fun _ => ⟨_, rfl, rfl, (Array.getElem?_eq_some_iff.1 hg).1, fun hb => ?_, fun j hj => ?_⟩) (fun j x hx => (hr j x hx).gr g))
        · have := inv.lt _ hb; simp at this; omega
        · exact q2.cells (g := gg) rfl j _ (by simp [hj])
end
end Go.Proofs.YtfaocnboildjbaaDoor
