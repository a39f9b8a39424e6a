/-
  The words of memory for slices of whatever elements of one cell: what is owned, what reads, make and append. Nothing of one function.
-/
import Derived.Test.YtecnclcendcfmaaFacts
namespace Go.Proofs.Ytecnclcendcfmaa
set_option maxRecDepth 100000
open Go.RowKit

/-- S is a slice of E; E's nought is z; it is of one cell, and so many bytes. -/
structure Elem (S E : TypeId) (z : Value) (by_ : Nat) : Prop where
  und : Try.prog.underlying S = some (TypeDesc.slice E)
  info : (Try.prog.info? E).map (fun i => (i.zero, i.size, i.bytes)) = some (some z, 1, by_)
  one : z.cells = #[z]
  little : by_ ≤ 8

/-- v, a slice of n elements, is the call's own: it lies in a block from base on, and holds vs. -/
def OV (E : TypeId) (w : World) (base : Nat) (v : Value) (n : Nat) (vs : List Value) : Prop := w.ownsRow base E 1 v n vs
section
variable {w w' : World} {E : TypeId} {base n : Nat} {v : Value} {vs : List Value}
theorem OV.len (h : OV E w base v n vs) : vs.length = n := by have := h.1; simpa using this
theorem OV.nil (E : TypeId) (w : World) (base : Nat) : OV E w base (.slice none 0 0) 0 [] := World.ownsRow_nil _ _ _ _
theorem OV.alloc (h : OV E w base v n vs) (o : Obj) : OV E (w.alloc o) base v n vs := World.ownsRow.alloc h o
theorem OV.drewN (h : OV E w base v n vs) (q : Nat) : OV E (w.drewN q) base v n vs := h
theorem OV.drew (h : OV E w base v n vs) : OV E w.drew base v n vs := h
theorem OV.qt (h : OV E w base v n vs) (k : Qt w w') : OV E w' base v n vs := by obtain ⟨q, rfl⟩ := k; exact h
theorem OV.lt (h : OV E w base v n vs) : ∀ k, v.ownBlock = some k → base ≤ k ∧ k < w.heap.size := World.ownsRow.lt h
theorem OV.kept {row : Option Nat} (h : OV E w base v n vs) (hg : w.grownBy w' row) (hne : v.ownBlock = none ∨ v.ownBlock ≠ row) : OV E w' base v n vs := World.ownsRow.kept h hg hne
theorem OV.below (h : OV E w base v n vs) (hb : Below w.heap.size w w') : OV E w' base v n vs := by
  refine World.ownsRow.kept (row := none) h ⟨hb.os, hb.tape, hb.output, hb.size, fun k hk _ => hb.block k hk⟩ ?_
  cases hv : v.ownBlock <;> simp
theorem OV.more {b' : Nat} (h : OV E w base v n vs) (hb : b' ≤ base) : OV E w b' v n vs := by
  refine ⟨h.1, ?_⟩
  rcases h.2 with h' | ⟨g, cap, cur, hv, hg, r⟩
  · exact .inl h'
  · exact .inr ⟨g, cap, cur, hv, Nat.le_trans hb hg, r⟩
theorem OV.shape (h : OV E w base v n vs) : ∃ A c, v = .slice A n c ∧ n ≤ c ∧ c ≤ maxLen ∧ RV w A n vs := by
  have hl := h.len
  rcases h.2 with ⟨rfl, rfl⟩ | ⟨g, cap, cur, rfl, hb, hg, hnc, hcm, hcs, htake⟩
  · exact ⟨none, 0, rfl, Nat.le_refl _, by simp [maxLen], hl, fun h => absurd h (by omega)⟩
  · refine ⟨_, cap, rfl, hnc, hcm, hl, fun hn => ⟨_, rfl, (Array.getElem?_eq_some_iff.1 hg).1, fun j b hj => ?_⟩⟩
    exact World.ownsRow.cells h (g := g) rfl j _ hj
theorem OV.cellAt {g cap : Nat} (h : OV E w base (.slice (some ⟨g, 0, none⟩) n cap) n vs) {j : Nat} {b : Value} (hj : vs[j]? = some b) : w.cell? ⟨g, j, none⟩ = some b := by
  have hl := h.len
  have hlt : j < vs.length := (List.getElem?_eq_some_iff.1 hj).1
  rw [World.ownsRow.cellAt h j (by omega), hj]
theorem OV.frozenAt {g cap : Nat} (h : OV E w base (.slice (some ⟨g, 0, none⟩) n cap) n vs) (j : Nat) : w.frozen? ⟨g, j, none⟩ = false := World.ownsRow.frozenAt h j
theorem OV.stored {g cap : Nat} (h : OV E w base (.slice (some ⟨g, 0, none⟩) n cap) n vs) (j : Nat) (b : Value) :
    OV E (w.setCell ⟨g, j, none⟩ b) base (.slice (some ⟨g, 0, none⟩) n cap) n (vs.set j b) := (World.ownsRow.stored h j b).1
theorem OV.ge {g cap m : Nat} (h : OV E w base (.slice (some ⟨g, 0, none⟩) m cap) n vs) : base ≤ g ∧ g < w.heap.size := World.ownsRow.lt h g rfl
theorem OV.made (E : TypeId) (z : Value) (w : World) (base l c : Nat) (hl : l ≤ c) (hc : c ≤ maxLen) (hb : base ≤ w.heap.size) :
    OV E (w.alloc (.cells (madeCells #[z] c) E)) base (.slice (some ⟨w.heap.size, 0, none⟩) l c) l (List.replicate l z) := by
  refine ⟨by simp, .inr ⟨w.heap.size, c, _, rfl, hb, heap_alloc_new w _, hl, hc, by rw [size_madeCells]; simp, ?_⟩⟩
  rw [toList_madeCells_one, Nat.mul_one, List.take_replicate, Nat.min_eq_left hl]
theorem RV.one_ (E : TypeId) (w : World) (u : Value) (g : Nat) (hg : g = w.heap.size) : RV (w.alloc (.cells #[u] E)) (some ⟨g, 0, none⟩) 1 [u] := by
  subst hg
  refine ⟨rfl, fun _ => ⟨_, rfl, by simp, fun j b hj => ?_⟩⟩
  match j, hj with
  | 0, hj => simp at hj; subst hj; simp [Addr.add]
theorem RV.nil (w : World) (A : Option Addr) : RV w A 0 [] := ⟨rfl, fun h => absurd h (by omega)⟩
theorem RV.qt {A : Option Addr} (h : RV w A n vs) (k : Qt w w') : RV w' A n vs := by obtain ⟨q, rfl⟩ := k; exact h
end

section
variable {S E : TypeId} {z : Value} {by_ : Nat}
theorem mk_vals (el : Elem S E z by_) (L C : Int) (h0 : 0 ≤ L) (hl : L ≤ C) (hc : C ≤ 17592186044416) (w : World) :
    (Instr.makeSlice S (.int .i64 L) (.int .i64 C)).run Try.prog w = .ok (.slice (some ⟨w.heap.size, 0, none⟩) L.toNat C.toNat) (w.alloc (.cells (madeCells #[z] C.toNat) E)) := by
  obtain ⟨i0, hi, hz, hs, hb⟩ := info_parts el.info
  have hle := el.little
  have hm : (by_ : Int) * C ≤ 8 * 17592186044416 := by
    refine Int.le_trans (Int.mul_le_mul_of_nonneg_right (by omega : (by_ : Int) ≤ 8) (by omega)) ?_
    omega
  have := run_make (P := Try.prog) w S E i0 _ el.und hi hz .i64 .i64 L C h0 hl (by rw [hb]; omega) (by omega)
  rw [hs, Nat.mul_one, el.one] at this
  exact this
set_option maxRecDepth 100000 in
theorem run_appv (el : Elem S E z by_) (w : World) (ty base : Nat) (v : Value) (n : Nat) (vs : List Value) (hown : OV E w base v n vs) (A : Option Addr) (m c : Nat) (news : List Value) (hr : RV w A m news)
    (h1 : ∀ u ∈ news, u.oneCell' = true) (hb : n + m ≤ 17592186044416) (hbase : base ≤ w.heap.size) :
    ∃ v' w', (Builtin.append_ #[S, S] ty #[v, .slice A m c]).run Try.prog w = .ok v' w' ∧ OV E w' base v' (n + m) (vs ++ news) ∧ w.grownBy w' v.ownBlock ∧
      (v'.ownBlock = v.ownBlock ∨ v'.ownBlock = some w.heap.size) := by
  obtain ⟨i0, hi, hz, hs, hby⟩ := info_parts el.info
  have hle := el.little
  have ht := el.und
  rcases A with _ | ad
  · have hm : m = 0 := by
      rcases Nat.eq_zero_or_pos m with h0 | h0
      · exact h0
      · obtain ⟨ad, h, _⟩ := hr.2 h0
        cases h
    subst hm
    have hn : news = [] := List.eq_nil_of_length_eq_zero hr.1
    subst hn
    refine ⟨v, w, ?_, by simpa using hown, World.grownBy.refl w _, .inl rfl⟩
    rcases hown.2 with ⟨rfl, rfl⟩ | ⟨g, cap, cur, rfl, _, _, hnc, _⟩
    · simp [Builtin.append_, run_underlying ht, sizeOf, typeInfo, hi, Builtin.lenOf, Builtin.firstCells]
    · simp [Builtin.append_, run_underlying ht, sizeOf, typeInfo, hi, Builtin.lenOf, Builtin.firstCells, hnc, storeCells]
  · have hcells : ∀ j u, news[j]? = some u → w.cell? (ad.add j) = some u := by
      intro j u hu
      have hlt : j < news.length := (List.getElem?_eq_some_iff.1 hu).1
      obtain ⟨ad', h, _, hc⟩ := hr.2 (by have := hr.1; omega)
      injection h with h
      subst h
      exact hc j u hu
    have hbb : (n + m) * by_ ≤ 17592186044416 * 8 := Nat.mul_le_mul hb hle
    obtain ⟨v', w', hrun, h2, h3, _, h5⟩ := run_append_own_at (P := Try.prog) w base S ty E i0 z 1 by_ ht hi hz hs hby (by rw [el.one]; rfl) (by omega) v n vs hown ad m c news
      (by rw [hr.1, Nat.mul_one]) hcells h1 (by simp only [maxLen]; omega) (by omega) hbase
    exact ⟨v', w', hrun, h2, h3, h5⟩
theorem wp_appv (el : Elem S E z by_) {w : World} {o : Oper} {a : Act} {K : Act → World → Prop} {Q : Exit → Act → World → Prop} (s x : Operand)
    (ho : o.op = .call { callee := .builtin .append, args := #[s, x], argTypes := #[S, S] })
    (base : Nat) (v : Value) (n : Nat) (vs : List Value) (hs : a.eval s = v) (hown : OV E w base v n vs)
    (A : Option Addr) (m c : Nat) (news : List Value) (hx : a.eval x = .slice A m c) (hr : RV w A m news) (h1 : ∀ u ∈ news, u.oneCell' = true) (hb : n + m ≤ 17592186044416) (hbase : base ≤ w.heap.size)
    (h : ∀ v' w', OV E w' base v' (n + m) (vs ++ news) → w.grownBy w' v.ownBlock → (v'.ownBlock = v.ownBlock ∨ v'.ownBlock = some w.heap.size) → K (a.put o.dst v') w') : o.wp Try.prog a w K Q := by
  obtain ⟨v', w', hrun, h2, h3, h4⟩ := run_appv el w o.type base v n vs hown A m c news hr h1 hb hbase
  unfold Oper.wp execOp
  simp only [ho, resolve, invoke, builtin, Sem.run_bind, Sem.run_pure, Result.andThen_ok, List.map_toArray, List.map_cons, List.map_nil, hs, hx, hrun]
  exact h v' w' h2 h3 h4
theorem wpList_appv (el : Elem S E z by_) {w : World} {ops : Array Oper} {rest : List Oper} {o : Oper} {a : Act} {Q : Exit → Act → World → Prop} (hgd : o.guard = none) (s x : Operand)
    (ho : o.op = .call { callee := .builtin .append, args := #[s, x], argTypes := #[S, S] })
    (base : Nat) (v : Value) (n : Nat) (vs : List Value) (hs : a.eval s = v) (hown : OV E w base v n vs)
    (A : Option Addr) (m c : Nat) (news : List Value) (hx : a.eval x = .slice A m c) (hr : RV w A m news) (h1 : ∀ u ∈ news, u.oneCell' = true) (hb : n + m ≤ 17592186044416) (hbase : base ≤ w.heap.size)
    (h : ∀ v' w', OV E w' base v' (n + m) (vs ++ news) → w.grownBy w' v.ownBlock → (v'.ownBlock = v.ownBlock ∨ v'.ownBlock = some w.heap.size) → wpList Try.prog ops Q rest (a.put o.dst v') w') : wpList Try.prog ops Q (o :: rest) a w :=
  wpList_plain hgd fun _ hK => wp_appv el s x ho base v n vs hs hown A m c news hx hr h1 hb hbase fun v' w' h2 h3 h4 => hK _ _ (h v' w' h2 h3 h4)
theorem step_appv (el : Elem S E z by_) {w : World} {ops : Array Oper} {o : Oper} {a : Act} {K : Act → World → Prop} {Q : Exit → Act → World → Prop} {F : Prop} (hgd : o.guard = none) (s x : Operand)
    (ho : o.op = .call { callee := .builtin .append, args := #[s, x], argTypes := #[S, S] })
    (base : Nat) (v : Value) (n : Nat) (vs : List Value) (hs : a.eval s = v) (hown : OV E w base v n vs)
    (A : Option Addr) (m c : Nat) (news : List Value) (hx : a.eval x = .slice A m c) (hr : RV w A m news) (h1 : ∀ u ∈ news, u.oneCell' = true) (hb : n + m ≤ 17592186044416) (hbase : base ≤ w.heap.size)
    (h : ∀ v' w', OV E w' base v' (n + m) (vs ++ news) → w.grownBy w' v.ownBlock → (v'.ownBlock = v.ownBlock ∨ v'.ownBlock = some w.heap.size) → K (a.put o.dst v') w') :
    if Region.wanted o (yielded ops a.tmps) = true then Oper.wp Try.prog o a w K Q else F := by
  have hw : Region.wanted o (yielded ops a.tmps) = true := by simp [Region.wanted, hgd]
  rw [if_pos hw]
  exact wp_appv el s x ho base v n vs hs hown A m c news hx hr h1 hb hbase h
end
theorem el_int : Elem 56 3 (.int .i64 0) 8 := ⟨Try.underlying56, by kernel_rfl, rfl, by omega⟩
/-- A number as a value. -/
def iv (n : Nat) : Value := .int .i64 (n : Int)
def uv (n : Nat) : Value := .int .u64 (n : Int)
def wv (n : Nat) : Value := .int .u32 (n : Int)
theorem one_i (n : Int) (k : IntKind) : ∀ u ∈ [Value.int k n], u.oneCell' = true := by
  intro u hu
  simp at hu
  subst hu; rfl
/-- What owns numbers, read. -/
theorem map_at {α : Type} {f : α → Value} {l : List α} {k : Nat} {x : α} (h : l[k]? = some x) : (l.map f)[k]? = some (f x) := by rw [List.getElem?_map, h]; rfl
end Go.Proofs.Ytecnclcendcfmaa
