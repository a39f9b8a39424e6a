/-
  Parts of my own, one behind the other: KRead, KLaid, QBase2, QOctsD, QOcts, Bw, Shf, Tx, KD, Dec, It, GLn, GGt, GtC, TxC, GScA.
-/
import Derived.Test.YtongdeioonikoaaDoorMrg3
import Derived.LaidMore
import Derived.MakeChecks
import Derived.SevenTiedAt
import Derived.Stop.LaidErr
import Derived.Test.YtongdeioonikoaaDoorMrg1
import Derived.Shelf.Strings.BuilderF
import Derived.ProofKit
import Derived.WalkKit
import Derived.Shelf.Strings.Builder1
import Derived.Shelf.Strings.BuilderK
import Derived.Shelf.Strconv.Itoa0
import Derived.Shelf.Strconv.Itoa1
import Derived.Shelf.LaysM
import Derived.Shelf.Strconv.Itoa2
import Derived.Shelf.Strconv.Itoa3
import Derived.Shelf.Bits.Mul64
import Derived.Shelf.Strings.BuilderCap
import Derived.Shelf.Bytes.SlSearch0
import Derived.Shelf.Bytes.SlEqualAll
import Derived.Shelf.Bytes.Small
import Derived.Test.YtongdeioonikoaaDoorProg
import Derived.Laws.Rows
import Derived.Laws.Tables
import Derived.Laws.CopyOwn
import Derived.Deep.WholeRow
import Derived.Lib.DecodeN
import Derived.Lib.ItoaNum
import Derived.Lib.AppendIntMem
namespace Go.Proofs.YtongdeioonikoaaDoor
set_option maxRecDepth 100000
open Go.ChangeShapes Go.WideShapes Go.ChangeAt Go.RowKit
set_option linter.unusedVariables false
set_option linter.unusedSimpArgs false
def wfT : (d : Td) → T d → Prop
 | .int k, n => (Lit.int k n).wf = true
 | .bool, _ => True
 | .str, s => s.length ≤ maxLen
 | .sl d, l => l.length ≤ maxLen ∧ ∀ x ∈ l, wfT d x
 | .arr n d, a => ∀ x ∈ a.l, wfT d x
 | .pair d e, x => wfT d x.1 ∧ wfT e x.2
section
variable {P : Program} {H : Type} {enc : TypeId × Value → H} {W : World}
theorem pick_list {α : Type} (Q : Nat → α → Prop) : ∀ n, (∀ i, i < n → ∃ y, Q i y) → ∃ l : List α, l.length = n ∧ ∀ i y, l[i]? = some y → Q i y
 | 0, _ => ⟨[], rfl, fun i y h => by simp at h⟩
 | n + 1, h => by
  obtain ⟨l, h1, h2⟩ := pick_list Q n fun i hi => h i (by omega)
  obtain ⟨y, hy⟩ := h n (by omega)
  refine ⟨l ++ [y], by simp [h1], fun i z hz => ?_⟩
  rcases Nat.lt_or_ge i n with hi | hi
  ·rw [List.getElem?_append_left (by omega)] at hz; exact h2 i z hz
  ·rw [List.getElem?_append_right (by omega)] at hz
   have : i - l.length = 0 := by have := (List.getElem?_eq_some_iff.1 hz).1; simp at this; omega
   rw [this] at hz
   simp at hz
   subst hz
   rw [show i = n by omega]; exact hy
theorem cell_spot {a : Addr} {v : Value} (h : W.cell? a = some v) : a.spot = none := by
 unfold World.cell? at h
 split at h
 ·split at h
  ·cases h
  ·rename_i hs; cases hx : a.spot with
   | none => rfl
   | some _ => rw [hx] at hs; simp at hs
 ·cases h
theorem add_add (a : Addr) (i j : Nat) (h : a.spot = none) : (a.add i).add j = a.add (i + j) := by
 unfold Addr.add
 obtain ⟨b, o, s⟩ := a
 simp only at h
 subst h
 by_cases hi : i = 0 <;> by_cases hj : j = 0 <;> simp [hi, hj, Nat.add_assoc]
theorem cells_get {a : Addr} {n : Nat} {cs : List Value} (h : W.cells? 0 a n = some cs) : cs.length = n ∧ ∀ i u, cs[i]? = some u → W.cell? (a.add i) = some u := by
 unfold World.cells? at h
 rw [if_pos (Nat.zero_le _)] at h
 have hl := mapM_some_length h
 rw [List.length_range] at hl
 refine ⟨hl, fun i u hu => ?_⟩
 have hi : i < n := by have := (List.getElem?_eq_some_iff.1 hu).1; omega
 rw [mapM_some_get h i i (by simp [hi])]
 exact hu
theorem flat_rel {d : Td} (xs : List (T d)) (us : Nat → Value) (B : List Nat) (h : ∀ i x, xs[i]? = some x → ∀ j y, (cells d x)[j]? = some y → Rel W B [] y (us (i * wd d + j))) : ∀ i y, (flat d xs)[i]? = some y → Rel W B [] y (us i) := by
 intro i y hy
 have hi : i < xs.length * wd d := by have := (List.getElem?_eq_some_iff.1 hy).1; rwa [flat_length] at this
 have hw : 0 < wd d := by rcases Nat.eq_zero_or_pos (wd d) with h | h; rw [h] at hi; omega; exact h
 have hq : i / wd d < xs.length := Nat.div_lt_of_lt_mul (by rw [Nat.mul_comm]; exact hi)
 have hx : xs[i / wd d]? = some xs[i / wd d] := List.getElem?_eq_getElem hq
 have hf := flat_at d xs (i / wd d) _ hx
 have hr : i % wd d < wd d := Nat.mod_lt _ hw
 have hdm := Nat.div_add_mod i (wd d)
 have h1 : (cells d xs[i / wd d])[i % wd d]? = some y := by
  rw [← hf, List.getElem?_take, if_pos hr, List.getElem?_drop]
  rw [show i / wd d * wd d + i % wd d = i by rw [Nat.mul_comm]; exact hdm]
  exact hy
 have := h _ _ hx _ _ h1
 rwa [show i / wd d * wd d + i % wd d = i by rw [Nat.mul_comm]; exact hdm] at this
mutual
theorem read_td : ∀ (n : Nat) (t : TypeId) (d : Td), layT' P n t d = true → ∀ (fuel : Nat) (cs : List Value) (x : DataW H × List MemPlace), DataW.trod enc P W 0 (fun _ => true) true fuel t cs = some x → ∃ y : T d, RelL W [] [] (cells d y) cs ∧ wfT d y
 | 0, t, d, h => by simp [layT'] at h
 | n + 1, t, d, h => by
  intro fuel cs x hx
  simp only [layT', Bool.and_eq_true, beq_iff_eq] at h
  obtain ⟨hc, h⟩ := h
  split at h
  ·rename_i k k' hu
   have := of_decide_eq_true h
   subst this
   obtain ⟨z, rfl, _, hw⟩ := DataW.trod_int hu hx
   exact ⟨z, RelL.cons (.c _ _) (RelL.nil _ _ _), hw⟩
  ·rename_i hu
   obtain ⟨z, rfl, _⟩ := DataW.trod_bool hu hx
   exact ⟨z, RelL.cons (.c _ _) (RelL.nil _ _ _), trivial⟩
  ·rename_i hu
   obtain ⟨s, rfl, _, hs⟩ := DataW.trod_string hu hx
   refine ⟨s.data.toList, RelL.cons ?_ (RelL.nil _ _ _), by show s.data.toList.length ≤ maxLen; simpa using hs⟩
   have : (⟨s.data.toList.toArray⟩ : ByteArray) = s := by cases s; simp
   rw [this]; exact .c _ _
  ·rename_i e d hu
   simp only [Bool.and_eq_true, decide_eq_true_eq] at h
   obtain ⟨hw, h⟩ := h
   have hce := layT_cells h
   rcases DataW.trod_slice hu hx with ⟨rfl, _⟩ | ⟨a, len, cap, elems, rest, m, rfl, rfl, _, _, hlc, hm, hel, hels, _⟩
   ·exact ⟨[], RelL.cons (rel_nil_sl hw (.c _ _)) (RelL.nil _ _ _), by simp [maxLen], fun x hx => by cases hx⟩
   ·obtain ⟨ys, hy1, hy2⟩ := pick_list (fun i y => ∃ us, W.cells? 0 (a.add (i * wd d)) (wd d) = some us ∧ RelL W [] [] (cells d y) us ∧ wfT d y) len fun i hi => by
     have h0 := hels i hi
     rw [List.getElem?_eq_getElem (by omega), hce] at h0
     obtain ⟨us, q1, q2⟩ := Option.bind_eq_some_iff.1 h0
     obtain ⟨y, q3, q4⟩ := read_td n e d h _ _ _ q2
     exact ⟨y, us, q1, q3, q4⟩
    refine ⟨ys, RelL.cons ?_ (RelL.nil _ _ _), by rw [hy1]; omega, fun x hx => ?_⟩
    ·have hspot : 0 < len → a.spot = none := fun h0 => by
      obtain ⟨us, q1, q3, _⟩ := hy2 0 ys[0] (List.getElem?_eq_getElem (by omega))
      have hl := (cells_get q1).1
      have := (cells_get q1).2 0 us[0] (List.getElem?_eq_getElem (by omega))
      have := cell_spot this
      unfold Addr.add at this
      simpa using this
     have hcell : ∀ i x, ys[i]? = some x → ∀ j y, (cells d x)[j]? = some y → Rel W [] [] y ((W.cell? (a.add (i * wd d + j))).getD undef) ∧ (W.cell? (a.add (i * wd d + j))).isSome = true := fun i x hx j y hy => by
      obtain ⟨us, q1, q3, _⟩ := hy2 i x hx
      obtain ⟨u, q4, q5⟩ := q3.2 j y hy
      have := (cells_get q1).2 j u q4
      have h0 : 0 < len := by have := (List.getElem?_eq_some_iff.1 hx).1; omega
      rw [add_add a _ _ (hspot h0)] at this
      rw [this]
      exact ⟨q5, rfl⟩
     have hr := flat_rel (W := W) ys (fun i => (W.cell? (a.add i)).getD undef) [] fun i x hx j y hy => (hcell i x hx j y hy).1
     refine .sl _ _ _ _ _ _ (fun i => (W.cell? (a.add i)).getD undef) hw (by show len * wd d = (flat d ys).length; rw [flat_length, hy1]) hlc hm (fun h0 => ⟨a, rfl, hspot h0, ?_, by simp, fun i hi => ?_⟩) hr
     ·obtain ⟨us, q1, q3, _⟩ := hy2 0 ys[0] (List.getElem?_eq_getElem (by omega))
      have hl := (cells_get q1).1
      have := (cells_get q1).2 0 us[0] (List.getElem?_eq_getElem (by omega))
      have := World.block_lt_of_cell? W _ this
      rwa [block_of_add, block_of_add] at this
     ·have hi' : i < len * wd d := by change i < (flat d ys).length at hi; rw [flat_length, hy1] at hi; exact hi
      have hq : i / wd d < ys.length := by rw [hy1]; exact Nat.div_lt_of_lt_mul (by rw [Nat.mul_comm]; exact hi')
      have hrm : i % wd d < (cells d ys[i / wd d]).length := by rw [cells_length]; exact Nat.mod_lt _ (by omega)
      have := (hcell _ _ (List.getElem?_eq_getElem hq) _ _ (List.getElem?_eq_getElem hrm)).2
      rw [show i / wd d * wd d + i % wd d = i by rw [Nat.mul_comm]; exact Nat.div_add_mod i (wd d)] at this
      obtain ⟨u, hu⟩ := Option.isSome_iff_exists.1 this
      rw [hu]; rfl
    ·obtain ⟨i, hi⟩ := List.getElem?_of_mem hx
     obtain ⟨_, _, _, q⟩ := hy2 i x hi
     exact q
  ·rename_i m e m' d hu
   simp only [Bool.and_eq_true, beq_iff_eq] at h
   obtain ⟨rfl, h⟩ := h
   have hce := layT_cells h
   obtain ⟨xs, m2, rfl, _, hl, hxl, hi⟩ := DataW.trod_array hu hx
   obtain ⟨ys, hy1, hy2⟩ := pick_list (fun i y => RelL W [] [] (cells d y) ((cs.drop (i * wd d)).take (wd d)) ∧ wfT d y) m fun i h1 => by
    have h0 := hi i h1
    rw [List.getElem?_eq_getElem (by omega), hce] at h0
    exact read_td n e d h _ _ _ h0
   refine ⟨⟨ys, hy1⟩, ⟨?_, ?_⟩, fun x hx => ?_⟩
   ·rw [cells_length, ← hc]; exact hl.symm ▸ rfl
   ·intro i y hy
    have hr := flat_rel (W := W) ys (fun i => cs.getD i undef) [] fun i x hx j y hy => by
     obtain ⟨u, q1, q2⟩ := (hy2 i x hx).1.2 j y hy
     rw [List.getElem?_take] at q1
     split at q1
     ·rw [List.getElem?_drop] at q1
      rw [List.getD_eq_getElem?_getD, q1]; exact q2
     ·cases q1
    have hlt : i < cs.length := by
     have := (List.getElem?_eq_some_iff.1 hy).1
     rw [cells_length, ← hc, ← hl] at this
     exact this
    refine ⟨cs[i], List.getElem?_eq_getElem hlt, ?_⟩
    have := hr i y hy
    rwa [List.getD_eq_getElem?_getD, List.getElem?_eq_getElem hlt] at this
   ·obtain ⟨i, hi⟩ := List.getElem?_of_mem hx
    exact (hy2 i x hi).2
  ·rename_i fs hu
   obtain ⟨xs, m2, rfl, _, hl, hxl, hi⟩ := DataW.trod_struct hu hx
   have := read_fs n fs.toList 0 _ h m2 cs (fun i f hf => by
    have h0 := hi i f (by simpa using hf)
    have hlt : i < xs.length := by have := (List.getElem?_eq_some_iff.1 hf).1; rw [hxl]; simpa using this
    exact ⟨_, h0.trans (List.getElem?_eq_getElem hlt)⟩) (by rw [hl, hc]; omega)
   simpa using this
  ·cases h
theorem read_fs : ∀ (n : Nat) (fs : List Field) (o : Nat) (d : Td), layFs P n fs o d = true → ∀ (m : Nat) (cs : List Value), (∀ (i : Nat) (f : Field), fs[i]? = some f → ∃ x, DataW.trod enc P W 0 (fun _ => true) true m f.type ((cs.drop f.offset).take (P.cellsOf f.type)) = some x) → cs.length = o + wd d → ∃ y : T d, RelL W [] [] (cells d y) (cs.drop o) ∧ wfT d y
 | 0, fs, o, d, h => by simp [layFs] at h
 | n + 1, [], o, d, h => by simp [layFs] at h
 | n + 1, [f], o, d, h => by
  intro m cs hx hl
  simp only [layFs, Bool.and_eq_true, beq_iff_eq] at h
  obtain ⟨rfl, h⟩ := h
  obtain ⟨x, hx⟩ := hx 0 f rfl
  rw [layT_cells h] at hx
  obtain ⟨y, h1, h2⟩ := read_td n _ d h _ _ _ hx
  rw [List.take_of_length_le (by rw [List.length_drop]; omega)] at h1
  exact ⟨y, h1, h2⟩
 | n + 1, f :: g :: fs, o, d, h => by
  intro m cs hx hl
  simp only [layFs] at h
  split at h
  ·rename_i d e
   simp only [Bool.and_eq_true, beq_iff_eq] at h
   obtain ⟨⟨rfl, h⟩, h'⟩ := h
   simp only [wd] at hl
   obtain ⟨x, hx0⟩ := hx 0 f rfl
   rw [layT_cells h] at hx0
   obtain ⟨y, h1, h2⟩ := read_td n _ d h _ _ _ hx0
   obtain ⟨z, h3, h4⟩ := read_fs n (g :: fs) _ e h' m cs (fun i f' hf => hx (i + 1) f' (by simpa using hf)) (by omega)
   refine ⟨(y, z), ?_, h2, h4⟩
   have := h1.append h3
   rw [← List.drop_drop, List.take_append_drop] at this
   exact this
  ·cases h
end
end
def rowB (P : Program) (t : TypeId) : Bool := match P.underlying t with
 | some (.struct _) | some (.array _ _) => true
 | _ => false
theorem okWide_row {P : Program} {W : World} {base : Nat} {t : TypeId} {v : Value} (h : rowB P t = true) (hv : Value.okWide P W .any base t v) : ∃ cs, v = .agg cs := by
 unfold rowB at h
 unfold Value.okWide at hv
 split at h
 ·rename_i hu; rw [hu] at hv; obtain ⟨cs, h1, _⟩ := hv; exact ⟨cs, h1⟩
 ·rename_i hu; rw [hu] at hv; obtain ⟨cs, h1, _⟩ := hv; exact ⟨cs, h1⟩
 ·cases h
theorem okWide_one {P : Program} {W : World} {base n : Nat} {t : TypeId} {d : Td} {v : Value} (hl : layT' P n t d = true) (h : rowB P t = false) (hv : Value.okWide P W .any base t v) : v.cells.toList = [v] := by
 cases n with
 | zero => simp [layT'] at hl
 | succ n =>
  simp only [layT', Bool.and_eq_true] at hl
  replace hl := hl.2
  split at hl
  ·rename_i hu; obtain ⟨_, rfl⟩ := okWide_int hu hv; rfl
  ·rename_i hu
   simp only [Value.okWide, hu, Cell.okWide] at hv
   cases v <;> first | rfl | simp_all [Cell.ok]
  ·rename_i hu; obtain ⟨_, rfl⟩ := okWide_string hu hv; rfl
  ·rename_i hu; obtain ⟨_, _, _, rfl⟩ := okWide_slice hu hv; rfl
  ·rename_i hu; simp [rowB, hu] at h
  ·rename_i hu; simp [rowB, hu] at h
  ·cases hl
theorem open_td {H : Type} {enc : TypeId × Value → H} {W : World} {t : TypeId} {d : Td} (hl : layT' Tryd.prog 24 t d = true) (hr : rowB Tryd.prog t = rowD d) {base : Nat} {v : Value} {x : DataW H} {p : List MemPlace} (hv : Value.okWide Tryd.prog W .any base t v) (h : DataW.Trod enc Tryd.prog W 0 (fun _ => true) true t v x p) : ∃ y : T d, Rel W [] [] (ex (valV d y)) v ∧ wfT d y := by
 obtain ⟨fuel, hf⟩ := h
 obtain ⟨y, h1, h2⟩ := read_td _ _ _ hl _ _ _ hf
 refine ⟨y, ?_, h2⟩
 cases hd : rowD d with
 | true =>
  obtain ⟨cs, rfl⟩ := okWide_row (hr.trans hd) hv
  rw [valV_row d y hd]
  refine .agg _ _ cs (fun i => cs.getD i undef) (by rw [← h1.1]; simp [Value.cells]) (fun i x hx => ?_) (fun i x hx => ?_)
  ·obtain ⟨u, q1, _⟩ := h1.2 i x hx
   simp only [Value.cells, Array.getElem?_toList] at q1
   rw [Array.getD_eq_getD_getElem?, q1]; rfl
  ·obtain ⟨u, q1, q2⟩ := h1.2 i x hx
   simp only [Value.cells, Array.getElem?_toList] at q1
   rw [Array.getD_eq_getD_getElem?, q1]; exact q2
 | false =>
  rw [okWide_one hl (hr.trans hd) hv, valV_one d y hd] at h1
  obtain ⟨u, q1, q2⟩ := h1.2 0 _ rfl
  simp at q1
  rw [q1]; exact q2
end Go.Proofs.YtongdeioonikoaaDoor
namespace Go.Proofs.YtongdeioonikoaaDoor
set_option maxRecDepth 100000
open Go.RowKit Go.ChangeShapes
set_option linter.unusedVariables false
set_option linter.unusedSimpArgs false
def datL {H : Type} : Nat → DataW H → List Value
 | 0, _ => []
 | n + 1, .lit l => [l.value]
 | n + 1, .agg ps => ps.flatMap (datL n)
 | _, _ => []
section
variable {P : Program} {H : Type} {enc : TypeId × Value → H} {W : World} {sp : Nat → Bool} {base : Nat} {held : Bool}
mutual
theorem lit_td : ∀ (n : Nat) (t : TypeId) (d : Td), layT' P n t d = true → eqD d = true → ∀ (fuel : Nat) (cs : List Value) (x : DataW H × List MemPlace), DataW.trod enc P W base sp held fuel t cs = some x → ∀ m, n ≤ m → datL m x.1 = cs
 | 0, t, d, h => by simp [layT'] at h
 | n + 1, t, d, h => by
  intro hd fuel cs x hx m hm
  obtain ⟨m, rfl⟩ : ∃ m', m = m' + 1 := ⟨m - 1, by omega⟩
  simp only [layT', Bool.and_eq_true, beq_iff_eq] at h
  obtain ⟨hc, h⟩ := h
  split at h
  ·rename_i k k' hu
   obtain ⟨z, rfl, rfl, hw⟩ := DataW.trod_int hu hx
   rfl
  ·rename_i hu
   obtain ⟨z, rfl, rfl⟩ := DataW.trod_bool hu hx
   rfl
  ·rename_i hu
   obtain ⟨s, rfl, rfl, hs⟩ := DataW.trod_string hu hx
   simp [datL, Lit.value]
  ·cases hd
  ·rename_i k e k' d hu
   simp only [Bool.and_eq_true, beq_iff_eq] at h
   obtain ⟨rfl, h⟩ := h
   have hce := layT_cells h
   obtain ⟨xs, m2, rfl, rfl, hl, hxl, hi⟩ := DataW.trod_array hu hx
   have key : ∀ (j i : Nat), j + i = k → ((xs.drop i).map (·.1)).flatMap (datL m) = cs.drop (i * wd d) := by
    intro j
    induction j with
    | zero =>
     intro i hi0
     rw [List.drop_of_length_le (by omega), List.drop_of_length_le (by rw [hl, hc]; simp only [wd]; rw [show i = k by omega]; exact Nat.le_refl _)]
     rfl
    | succ j ih =>
     intro i hi0
     have hlt : i < xs.length := by omega
     have h0 := hi i (by omega)
     rw [List.getElem?_eq_getElem hlt, hce] at h0
     have h1 := lit_td n e d h hd _ _ _ h0 m (by omega)
     have h2 := ih (i + 1) (by omega)
     rw [List.drop_eq_getElem_cons hlt, List.map_cons, List.flatMap_cons, h1, h2, Nat.add_mul, Nat.one_mul, ← List.drop_drop, List.take_append_drop]
   have := key k 0 (by omega)
   simpa [datL] using this
  ·rename_i fs hu
   obtain ⟨xs, m2, rfl, rfl, hl, hxl, hi⟩ := DataW.trod_struct hu hx
   have := lit_fs n fs.toList 0 _ h hd m2 cs xs (by simpa using hxl) (fun i f hf => hi i f (by simpa using hf)) (by rw [hl, hc]; omega) m (by omega)
   simpa [datL] using this
  ·cases h
theorem lit_fs : ∀ (n : Nat) (fs : List Field) (o : Nat) (d : Td), layFs P n fs o d = true → eqD d = true → ∀ (m0 : Nat) (cs : List Value) (xs : List (DataW H × List MemPlace)), xs.length = fs.length → (∀ (i : Nat) (f : Field), fs[i]? = some f → DataW.trod enc P W base sp held m0 f.type ((cs.drop f.offset).take (P.cellsOf f.type)) = xs[i]?) → cs.length = o + wd d → ∀ m, n ≤ m → (xs.map (·.1)).flatMap (datL m) = cs.drop o
 | 0, fs, o, d, h => by simp [layFs] at h
 | n + 1, [], o, d, h => by simp [layFs] at h
 | n + 1, [f], o, d, h => by
  intro hd m0 cs xs hxl hx hl m hm
  simp only [layFs, Bool.and_eq_true, beq_iff_eq] at h
  obtain ⟨rfl, h⟩ := h
  match xs, hxl with
  | [x], _ =>
   have h0 := hx 0 f rfl
   rw [layT_cells h] at h0
   have h1 := lit_td n _ d h hd _ _ _ h0 m (by omega)
   rw [List.take_of_length_le (by rw [List.length_drop]; omega)] at h1
   simp [h1]
 | n + 1, f :: g :: fs, o, d, h => by
  intro hd m0 cs xs hxl hx hl m hm
  simp only [layFs] at h
  split at h
  ·rename_i d e
   simp only [Bool.and_eq_true, beq_iff_eq] at h
   simp only [eqD, Bool.and_eq_true] at hd
   obtain ⟨⟨rfl, h⟩, h'⟩ := h
   simp only [wd] at hl
   match xs, hxl with
   | x :: xs, hxl =>
    have h0 := hx 0 f rfl
    rw [layT_cells h] at h0
    have h1 := lit_td n _ d h hd.1 _ _ _ h0 m (by omega)
    have h2 := lit_fs n (g :: fs) _ e h' hd.2 m0 cs xs (by simpa using hxl) (fun i f' hf => by have := hx (i + 1) f' (by simpa using hf); simpa using this) (by omega) m (by omega)
    rw [List.map_cons, List.flatMap_cons, h1, h2, ← List.drop_drop, List.take_append_drop]
  ·cases h
end
theorem laid_cells {n : String} {D : DataW Unit} {g : Nat} {t : TypeId} {d : Td} (hg : P.globalNamed n = some g) (ht : (P.globals[g]?).map (·.type) = some t) (hl : layT' P 24 t d = true) (hd : eqD d = true) {cs : Array Value} {fuel : Nat} {p : List MemPlace}
  (hv : W.var? P n = some cs) (hx : DataW.trod (fun _ => ()) P W 0 (fun _ => true) false fuel t cs.toList = some (D, p)) (hne : datL 24 D ≠ []) : Rel W [] [] (.adr ((datL 24 D).map .c)) (.pointer (some ⟨g, 0, none⟩)) := by
 have h1 := lit_td 24 t d hl hd _ _ _ hx 24 (Nat.le_refl _)
 simp only at h1
 rw [h1] at hne ⊢
 have hb : ∃ T fr, W.heap[g]? = some (.cells cs T fr) := by
  unfold World.var? at hv
  rw [hg] at hv
  simp only [Option.bind_some] at hv
  split at hv
  ·rename_i c T fr hc
   injection hv with hv
   subst hv
   exact ⟨T, fr, hc⟩
  ·cases hv
 obtain ⟨T, fr, hb⟩ := hb
 refine .adr _ _ _ (fun i => cs.toList.getD i undef) ⟨rfl, (Array.getElem?_eq_some_iff.1 hb).1, by simp, fun i hi => ?_⟩ (fun i x hx => ?_)
 ·rw [List.length_map] at hi
  have hc := cell_of_row W g i cs T fr hb
  have e : (⟨g, 0, none⟩ : Addr).add i = ⟨g, i, none⟩ := by simp [Addr.add]; omega
  rw [e, hc, List.getD_eq_getElem?_getD, List.getElem?_eq_getElem hi, Option.getD_some]
  simp at hi
  simp [hi]
 ·rw [List.getElem?_map, Option.map_eq_some_iff] at hx
  obtain ⟨v, hv', rfl⟩ := hx
  rw [List.getD_eq_getElem?_getD, hv', Option.getD_some]
  exact .c _ _
theorem laid_row {n : String} {D : DataW Unit} {g : Nat} {t : TypeId} {d : Td} (hg : P.globalNamed n = some g) (hl : layT' P 24 t d = true) (hd : eqD d = true) {cs : Array Value} {fuel : Nat} {p : List MemPlace}
  (hv : W.var? P n = some cs) (hx : DataW.trod (fun _ => ()) P W 0 (fun _ => true) false fuel t cs.toList = some (D, p)) : ∃ T fr, W.heap[g]? = some (.cells (datL 24 D).toArray T fr) := by
 have h1 := lit_td 24 t d hl hd _ _ _ hx 24 (Nat.le_refl _)
 simp only at h1
 unfold World.var? at hv
 rw [hg] at hv
 simp only [Option.bind_some] at hv
 split at hv
 ·rename_i c T fr hc
  injection hv with hv
  subst hv
  exact ⟨T, fr, by rw [hc, h1]⟩
 ·cases hv
end
end Go.Proofs.YtongdeioonikoaaDoor
namespace Go.Proofs.YtongdeioonikoaaDoor
set_option maxRecDepth 100000
open Go.RowKit
set_option linter.unusedVariables false
set_option linter.unusedSimpArgs false
def AllB (l : List Int) : Prop := ∀ x ∈ l, 0 ≤ x ∧ x < 256
theorem AllB.nil : AllB [] := fun _ h => by cases h
theorem AllB.cons {x : Int} {l : List Int} (h1 : 0 ≤ x ∧ x < 256) (h2 : AllB l) : AllB (x :: l) := fun y hy => by
  rcases List.mem_cons.1 hy with rfl | hy
  · exact h1
  · exact h2 y hy
theorem AllB.append {l m : List Int} (h1 : AllB l) (h2 : AllB m) : AllB (l ++ m) := fun y hy => by
  rcases List.mem_append.1 hy with hy | hy
  · exact h1 y hy
  · exact h2 y hy
theorem AllB.drop {l : List Int} (h : AllB l) (n : Nat) : AllB (l.drop n) := fun y hy => h y (List.mem_of_mem_drop hy)
theorem AllB.take {l : List Int} (h : AllB l) (n : Nat) : AllB (l.take n) := fun y hy => h y (List.mem_of_mem_take hy)
theorem AllB.get {l : List Int} (h : AllB l) (i : Nat) (hi : i < l.length) : 0 ≤ l[i] ∧ l[i] < 256 := h _ (List.getElem_mem hi)
theorem wf_u8 {n : Int} (h : (Lit.int .u8 n).wf = true) : 0 ≤ n ∧ n < 256 := by
  simp only [Lit.wf, Bool.and_eq_true, decide_eq_true_eq, IntKind.min, IntKind.max, IntKind.signed, IntKind.bits] at h
  simp at h
  omega
theorem wf_bytes {l : List Int} (h : wfT (.sl (.int .u8)) l) : AllB l := fun x hx => wf_u8 (h.2 x hx)
def byteOf (x : Int) : UInt8 := UInt8.ofNat x.toNat
theorem toBy_map : ∀ {l : List Int}, AllB l → toBy l = some (l.map byteOf)
  | [], _ => rfl
  | x :: l, h => by
    have h1 := h x List.mem_cons_self
    unfold toBy
    rw [if_pos h1, toBy_map (fun y hy => h y (List.mem_cons_of_mem _ hy))]
    rfl
theorem byte_inj {x y : Int} (h1 : 0 ≤ x ∧ x < 256) (h2 : 0 ≤ y ∧ y < 256) (h : byteOf x = byteOf y) : x = y := by
  unfold byteOf at h
  have := congrArg UInt8.toNat h
  simp only [UInt8.toNat_ofNat'] at this
  omega
theorem bytes_inj : ∀ {a b : List Int}, AllB a → AllB b → a.map byteOf = b.map byteOf → a = b
  | [], [], _, _, _ => rfl
  | [], _ :: _, _, _, h => by cases h
  | _ :: _, [], _, _, h => by cases h
  | x :: a, y :: b, h1, h2, h => by
    simp only [List.map_cons, List.cons.injEq] at h
    rw [byte_inj (h1 x List.mem_cons_self) (h2 y List.mem_cons_self) h.1, bytes_inj (fun z hz => h1 z (List.mem_cons_of_mem _ hz)) (fun z hz => h2 z (List.mem_cons_of_mem _ hz)) h.2]
theorem bytes_dec {a b : List Int} (h1 : AllB a) (h2 : AllB b) : decide (a.map byteOf = b.map byteOf) = decide (a = b) := by
  by_cases h : a = b
  · subst h; simp
  · rw [decide_eq_false h, decide_eq_false (fun h' => h (bytes_inj h1 h2 h'))]
theorem subI_nat {α : Type} (l : List α) {a b : Int} {i j : Nat} (ha : a = i) (hb : b = j) (h1 : i ≤ j) (h2 : j ≤ l.length) : subI l a b = some ((l.drop i).take (j - i)) := by
  subst ha hb
  unfold subI
  rw [if_pos ⟨by omega, by omega, by omega⟩, Int.toNat_natCast, Int.toNat_natCast]
theorem dropI_nat {α : Type} (l : List α) {a : Int} {i : Nat} (ha : a = i) (h1 : i ≤ l.length) : dropI l a = some (l.drop i) := by
  subst ha
  unfold dropI
  rw [if_pos ⟨by omega, by omega⟩, Int.toNat_natCast]
theorem takeI_nat {α : Type} (l : List α) {a : Int} {i : Nat} (ha : a = i) (h1 : i ≤ l.length) : takeI l a = some (l.take i) := by
  subst ha
  unfold takeI
  rw [if_pos ⟨by omega, by omega⟩, Int.toNat_natCast]
def sameB (X : (((List (Int)) × ((List (Int)) × ((Int) × Unit))) × Unit) → Option (((((Bool) × Unit) × Unit) ⊕ (Unit × Unit)))) (a0 : List (Int)) (b1 : List (Int)) (i5 : Int) : Option (((((Bool) × Unit) × Unit) ⊕ (Unit × Unit))) :=
 bif (decide (i5 < (((List.length a0) : Nat) : Int))) then
  Option.bind (getI a0 i5) fun (v5 : Int) =>
  Option.bind (getI b1 i5) fun (v6 : Int) =>
  bif (!(decide (v5 = v6))) then
   some ((.inl ((Bool.false, Unit.unit), Unit.unit)))
  else
   (X ((a0, (b1, ((IntKind.wrap .i64 (i5 + (1 : Int))), Unit.unit))), Unit.unit))
 else
  some ((.inr (Unit.unit, Unit.unit)))
def sameF (N : Nat) (a0 : List (Int)) (b1 : List (Int)) : Option (Bool) :=
 bif (!(decide ((((List.length a0) : Nat) : Int) = (((List.length b1) : Nat) : Int)))) then
  some (Bool.false)
 else
  Option.bind (gl (fun X c => sameB X c.1.1 c.1.2.1 c.1.2.2.1) N ((a0, (b1, ((0 : Int), Unit.unit))), Unit.unit)) fun (v3 : (((Bool × Unit) × Unit) ⊕ (Unit × Unit))) =>
  Sum.elim
   (fun (v4 : ((Bool × Unit) × Unit)) =>
   some (v4.1.1))
   (fun (v4 : (Unit × Unit)) =>
   some (Bool.true)) v3
theorem sameF_ok {N : Nat} {a b : List Int} (h : a.length < N) (hb : a.length < 1000000000) : sameF N a b = some (decide (a = b)) := by
  unfold sameF
  by_cases hl : a.length = b.length
  · have c0 : ((a.length : Int) = (b.length : Int)) := by omega
    simp only [c0, decide_true, Bool.not_true, cond_false]
    obtain ⟨o, h1, h2⟩ := gl_inv (G := fun (X : (((List (Int)) × ((List (Int)) × ((Int) × Unit))) × Unit) → Option (((((Bool) × Unit) × Unit) ⊕ (Unit × Unit)))) c => sameB X c.1.1 c.1.2.1 c.1.2.2.1)
      (fun n c => ∃ i : Nat, c = ((a, (b, ((i : Int), ()))), ()) ∧ i ≤ a.length ∧ n = a.length - i ∧ a.take i = b.take i) (fun o => o = if a = b then .inr ((), ()) else .inl ((false, ()), ())) (fun X n c ⟨i, hc, hi, hn, ht⟩ => by
      subst hc
      rcases Nat.lt_or_ge i a.length with hlt | hge
      · have c1 : ((i : Int) < (a.length : Int)) := by omega
        have c2 : IntKind.wrap .i64 ((i : Int) + 1) = ((i + 1 : Nat) : Int) := by rw [wrap64 (by omega) (by omega)]; omega
        by_cases he : a[i] = b[i]'(by omega)
        · right
          refine ⟨a.length - (i + 1), ((a, (b, (((i + 1 : Nat) : Int), ()))), ()), by omega, ⟨i + 1, rfl, hlt, rfl, ?_⟩, ?_⟩
          · rw [List.take_add_one, List.take_add_one, ht, List.getElem?_eq_getElem hlt, List.getElem?_eq_getElem (by omega), he]
          · simp only [sameB, c1, decide_true, cond_true, getI_lt a i hlt, getI_lt b i (by omega), Option.bind_some, he, Bool.not_true, cond_false, c2]
        · left
          refine ⟨.inl ((false, ()), ()), ?_, ?_⟩
          · simp only [sameB, c1, decide_true, cond_true, getI_lt a i hlt, getI_lt b i (by omega), Option.bind_some, he, decide_false, Bool.not_false]
          · rw [if_neg (fun h => he (by simp [h]))]
      · left
        have c1 : ¬ ((i : Int) < (a.length : Int)) := by omega
        refine ⟨.inr ((), ()), by simp only [sameB, c1, decide_false, cond_false], ?_⟩
        rw [List.take_of_length_le (by omega), List.take_of_length_le (by omega)] at ht
        rw [if_pos ht]) N a.length ((a, (b, ((0 : Int), ()))), ()) h ⟨0, rfl, by omega, by omega, by simp⟩
    rw [h1, h2]
    by_cases he : a = b <;> simp [he]
  · have c0 : ¬ ((a.length : Int) = (b.length : Int)) := by omega
    have c1 : ¬ (a = b) := fun h' => hl (by rw [h'])
    simp only [c0, c1, decide_false, Bool.not_false, cond_true]
def qOplace (N : Nat) (i0 : Int) (width1 : Int) (little2 : Bool) : Option (Int) :=
 bif little2 then
  some (i0)
 else
  some ((IntKind.wrap .i64 ((IntKind.wrap .i64 (width1 - (1 : Int))) - i0)))
def qOPutL5 (N : Nat) (X : (((Int) × ((Int) × ((Bool) × ((Int) × ((Int) × Unit))))) × ((List (Int)) × Unit)) → Option ((Unit × ((List (Int)) × Unit)))) (n0 : Int) (width1 : Int) (little2 : Bool) (x19 : Int) (x20 : Int) (h0 : List (Int)) : Option ((Unit × ((List (Int)) × Unit))) :=
 bif (decide (x20 < x19)) then
  Option.bind (qOplace N x20 width1 little2) fun (v8 : Int) =>
  bif (decide ((0 : Int) ≤ v8 ∧ v8 < (((List.length h0) : Nat) : Int))) then
   Option.bind (@GetElem?.getElem? (List Int) Nat Int (fun (as9 : (List Int)) => (fun (i10 : Nat) => (@LT.lt Nat @instLTNat i10 (List.length as9)))) (@List.instGetElem?NatLtLength Int) h0 (Int.toNat v8)) fun (v9 : Int) =>
   (X (((@Int.fdiv n0 (@HPow.hPow Int Nat Int (@instHPow Int Nat (@instPowNat Int @Int.instNatPow)) (2 : Int) (@Min.min Nat @instMinNat (Int.toNat (8 : Int)) (@IntKind.bits @IntKind.u64)))), (width1, (little2, (x19, ((IntKind.wrap .i64 (x20 + (1 : Int))), @Unit.unit))))), ((@List.set Int h0 (Int.toNat v8) (IntKind.wrap .u8 n0)), @Unit.unit)))
  else
   none
 else
  some ((@Unit.unit, (h0, @Unit.unit)))
def qOPutL5R (N : Nat) (c : (((Int) × ((Int) × ((Bool) × ((Int) × ((Int) × Unit))))) × ((List (Int)) × Unit))) : Option ((Unit × ((List (Int)) × Unit))) := gl (fun X c => qOPutL5 N X c.1.1 c.1.2.1 c.1.2.2.1 c.1.2.2.2.1 c.1.2.2.2.2.1 c.2.1) N c
def qOPut (N : Nat) (n0 : Int) (width1 : Int) (little2 : Bool) : Option ((List (Int)) × Int) :=
 bif (decide (width1 < (1 : Int))) then
  some ((([] : List (Int)), (1 : Int)))
 else
  bif (@cond Bool @Bool.false @Bool.true (decide ((8 : Int) < width1))) then
   some ((([] : List (Int)), (1 : Int)))
  else
   bif ((decide ((0 : Int) ≤ width1 ∧ width1 ≤ width1)) && (roomB (Int.toNat width1) 1)) then
    Option.bind (qOPutL5R N ((n0, (width1, (little2, ((((List.length (@List.replicate Int (Int.toNat width1) (0 : Int))) : Nat) : Int), ((0 : Int), @Unit.unit))))), ((@List.replicate Int (Int.toNat width1) (0 : Int)), @Unit.unit))) fun (v4 : (Unit × ((List Int) × Unit))) =>
    some ((v4.2.1, (0 : Int)))
   else
    none
def qOJoinL3 (N : Nat) (X : (((List (List (Int))) × ((Int) × ((List (List (Int))) × ((Int) × ((Int) × Unit))))) × Unit) → Option ((((List (List (Int))) × ((Int) × Unit)) × Unit))) (parts0 : List (List (Int))) (size3 : Int) (x9 : List (List (Int))) (x10 : Int) (x11 : Int) : Option ((((List (List (Int))) × ((Int) × Unit)) × Unit)) :=
 bif (decide (x11 < x10)) then
  Option.bind (getI x9 x11) fun (v7 : (List Int)) =>
  (X ((parts0, ((IntKind.wrap .i64 (size3 + (((List.length v7) : Nat) : Int))), (x9, (x10, ((IntKind.wrap .i64 (x11 + (1 : Int))), @Unit.unit))))), @Unit.unit))
 else
  some (((parts0, (size3, @Unit.unit)), @Unit.unit))
def qOJoinL3R (N : Nat) (c : (((List (List (Int))) × ((Int) × ((List (List (Int))) × ((Int) × ((Int) × Unit))))) × Unit)) : Option ((((List (List (Int))) × ((Int) × Unit)) × Unit)) := gl (fun X c => qOJoinL3 N X c.1.1 c.1.2.1 c.1.2.2.1 c.1.2.2.2.1 c.1.2.2.2.2.1) N c
def qOJoinL9 (N : Nat) (X : (((List (List (Int))) × ((Int) × ((Int) × Unit))) × ((List (Int)) × Unit)) → Option ((Unit × ((List (Int)) × Unit)))) (x22 : List (List (Int))) (x23 : Int) (x24 : Int) (h0 : List (Int)) : Option ((Unit × ((List (Int)) × Unit))) :=
 bif (decide (x24 < x23)) then
  Option.bind (getI x22 x24) fun (v6 : (List Int)) =>
  bif (roomB ((List.length h0) + (List.length v6)) 1) then
   (X ((x22, (x23, ((IntKind.wrap .i64 (x24 + (1 : Int))), @Unit.unit))), ((h0 ++ v6), @Unit.unit)))
  else
   none
 else
  some ((@Unit.unit, (h0, @Unit.unit)))
def qOJoinL9R (N : Nat) (c : (((List (List (Int))) × ((Int) × ((Int) × Unit))) × ((List (Int)) × Unit))) : Option ((Unit × ((List (Int)) × Unit))) := gl (fun X c => qOJoinL9 N X c.1.1 c.1.2.1 c.1.2.2.1 c.2.1) N c
def qOJoin (N : Nat) (parts0 : List (List (Int))) : Option (List (Int)) :=
 Option.bind (qOJoinL3R N ((parts0, ((0 : Int), (parts0, ((((List.length parts0) : Nat) : Int), ((0 : Int), @Unit.unit))))), @Unit.unit)) fun (v2 : (((List (List Int)) × (Int × Unit)) × Unit)) =>
 bif ((decide ((0 : Int) ≤ (0 : Int) ∧ (0 : Int) ≤ v2.1.2.1)) && (roomB (Int.toNat v2.1.2.1) 1)) then
  Option.bind (qOJoinL9R N ((v2.1.1, ((((List.length v2.1.1) : Nat) : Int), ((0 : Int), @Unit.unit))), ((@List.replicate Int (Int.toNat (0 : Int)) (0 : Int)), @Unit.unit))) fun (v3 : (Unit × ((List Int) × Unit))) =>
  some (v3.2.1)
 else
  none
def qOGetL5 (N : Nat) (X : (((List (Int)) × ((Bool) × ((Int) × ((Int) × ((Int) × Unit))))) × Unit) → Option ((((Int) × Unit) × Unit))) (b0 : List (Int)) (little1 : Bool) (n6 : Int) (x17 : Int) (x18 : Int) : Option ((((Int) × Unit) × Unit)) :=
 bif (decide (x18 < x17)) then
  Option.bind (qOplace N x18 (((List.length b0) : Nat) : Int) little1) fun (v7 : Int) =>
  Option.bind (getI b0 v7) fun (v8 : Int) =>
  bif (decide ((0 : Int) ≤ (IntKind.wrap .i64 ((8 : Int) * x18)))) then
   (X ((b0, (little1, ((@Go.bits @Go.BinOp.or @IntKind.u64 n6 (IntKind.wrap .u64 ((IntKind.wrap .u64 v8) * (@HPow.hPow Int Nat Int (@instHPow Int Nat (@instPowNat Int @Int.instNatPow)) (2 : Int) (@Min.min Nat @instMinNat (Int.toNat (IntKind.wrap .i64 ((8 : Int) * x18))) (@IntKind.bits @IntKind.u64)))))), (x17, ((IntKind.wrap .i64 (x18 + (1 : Int))), @Unit.unit))))), @Unit.unit))
  else
   none
 else
  some (((n6, @Unit.unit), @Unit.unit))
def qOGetL5R (N : Nat) (c : (((List (Int)) × ((Bool) × ((Int) × ((Int) × ((Int) × Unit))))) × Unit)) : Option ((((Int) × Unit) × Unit)) := gl (fun X c => qOGetL5 N X c.1.1 c.1.2.1 c.1.2.2.1 c.1.2.2.2.1 c.1.2.2.2.2.1) N c
def qOGet (N : Nat) (b0 : List (Int)) (little1 : Bool) : Option ((Int) × Int) :=
 bif (decide ((((List.length b0) : Nat) : Int) < (1 : Int))) then
  some (((0 : Int), (1 : Int)))
 else
  bif (@cond Bool @Bool.false @Bool.true (decide ((8 : Int) < (((List.length b0) : Nat) : Int)))) then
   some (((0 : Int), (1 : Int)))
  else
   Option.bind (qOGetL5R N ((b0, (little1, ((0 : Int), ((((List.length b0) : Nat) : Int), ((0 : Int), @Unit.unit))))), @Unit.unit)) fun (v3 : ((Int × Unit) × Unit)) =>
   some ((v3.1.1, (0 : Int)))
theorem q64_of (a : Nat) (ha : a < 18446744073709551616) : (BitVec.ofInt 64 (a : Int)).toNat = a := by
 rw [BitVec.ofInt_natCast, BitVec.toNat_ofNat]; exact Nat.mod_eq_of_lt (by omega)
theorem q64_or (a b : Nat) (ha : a < 18446744073709551616) (hb : b < 18446744073709551616) : bits .or .u64 (a : Int) (b : Int) = ((a ||| b : Nat) : Int) := by
 have hx : a ||| b < 2 ^ 64 := Nat.or_lt_two_pow (n := 64) (by omega) (by omega)
 show IntKind.u64.wrap ((BitVec.ofInt 64 (a : Int) ||| BitVec.ofInt 64 (b : Int)).toNat : Int) = _
 rw [BitVec.toNat_or, q64_of a ha, q64_of b hb, IntKind.wrap_u64]
 omega
theorem or_nat (x y k : Nat) (hx : x < 2 ^ k) (hx' : x < 18446744073709551616) (hy : y * 2 ^ k < 18446744073709551616) : bits .or .u64 (x : Int) ((y * 2 ^ k : Nat) : Int) = ((y * 2 ^ k + x : Nat) : Int) := by
 rw [q64_or x (y * 2 ^ k) hx' hy, Nat.or_comm, ← Nat.shiftLeft_eq, ← Nat.shiftLeft_add_eq_or_of_lt hx]
theorem or_at (a b : Int) (k : Nat) (h0 : 0 ≤ a) (ha : a.toNat < 2 ^ k) (ha' : a < 18446744073709551616) (hb : 0 ≤ b) (hk : b.toNat * 2 ^ k < 18446744073709551616) : bits .or .u64 a (b * ((2 ^ k : Nat) : Int)) = b * ((2 ^ k : Nat) : Int) + a := by
 obtain ⟨x, rfl⟩ := Int.eq_ofNat_of_zero_le h0
 obtain ⟨y, rfl⟩ := Int.eq_ofNat_of_zero_le hb
 have := or_nat x y k (by simpa using ha) (by omega) (by simpa using hk)
 rw [Int.natCast_add, Int.natCast_mul] at this
 exact this
theorem wrapU64 {x : Int} (h1 : 0 ≤ x) (h2 : x < 18446744073709551616) : IntKind.wrap .u64 x = x := by
 rw [IntKind.wrap_u64]; omega
section
variable {N : Nat}
theorem put2 (n : Int) (h : 0 ≤ n ∧ n < 18446744073709551616) (hN : 100 ≤ N) : qOPut N n 2 false = some ([n / 256 % 256, n % 256], 0) := by
 obtain ⟨M, rfl⟩ : ∃ M, N = M + 3 := ⟨N - 3, by omega⟩
 have r1 : roomB (Int.toNat 2) 1 = true := by decide
 have r2 : List.replicate (Int.toNat 2) (0 : Int) = [0, 0] := rfl
 have w1 : IntKind.wrap .i64 ((2 : Int) - 1) = 1 := by decide
 have w2 : IntKind.wrap .i64 ((1 : Int) - 1) = 0 := by decide
 have w3 : IntKind.wrap .i64 ((0 : Int) + 1) = 1 := by decide
 have w4 : IntKind.wrap .i64 ((1 : Int) + 1) = 2 := by decide
 have w5 : IntKind.wrap .i64 ((1 : Int) - 0) = 1 := by decide
 have e1 : (2 : Int) ^ min (Int.toNat 8) (IntKind.bits IntKind.u64) = 256 := by decide
 have d1 : Int.fdiv n 256 = n / 256 := Int.fdiv_eq_ediv_of_nonneg n (by decide)
 have d2 : Int.fdiv (n / 256) 256 = n / 256 / 256 := Int.fdiv_eq_ediv_of_nonneg _ (by decide)
 have w7 : IntKind.wrap .u8 n = n % 256 := by rw [IntKind.wrap_u8]
 have w8 : IntKind.wrap .u8 (n / 256) = n / 256 % 256 := by rw [IntKind.wrap_u8]
 simp only [qOPut, qOPutL5R, gl, qOPutL5, qOplace, r1, r2, e1, cond_false, Option.bind_some, w1, w2, w3, w4, w5]
 simp [w1, w2, w3, w4, w5, d1, d2, w7, w8]
theorem get2 (x y : Int) (hx : 0 ≤ x ∧ x < 256) (hy : 0 ≤ y ∧ y < 256) (hN : 100 ≤ N) : qOGet N [x, y] false = some (x * 256 + y, 0) := by
 obtain ⟨M, rfl⟩ : ∃ M, N = M + 3 := ⟨N - 3, by omega⟩
 have w1 : IntKind.wrap .i64 ((2 : Int) - 1) = 1 := by decide
 have w2 : IntKind.wrap .i64 ((1 : Int) - 1) = 0 := by decide
 have w3 : IntKind.wrap .i64 ((0 : Int) + 1) = 1 := by decide
 have w4 : IntKind.wrap .i64 ((1 : Int) + 1) = 2 := by decide
 have w0 : IntKind.wrap .i64 ((1 : Int) - 0) = 1 := by decide
 have w5 : IntKind.wrap .i64 ((8 : Int) * 0) = 0 := by decide
 have w6 : IntKind.wrap .i64 ((8 : Int) * 1) = 8 := by decide
 have w7 : IntKind.wrap .u64 x = x := wrapU64 (by omega) (by omega)
 have w8 : IntKind.wrap .u64 y = y := wrapU64 (by omega) (by omega)
 have e0 : (2 : Int) ^ min (Int.toNat 0) (IntKind.bits IntKind.u64) = 1 := by decide
 have e1 : (2 : Int) ^ min (Int.toNat 8) (IntKind.bits IntKind.u64) = 256 := by decide
 have w9 : IntKind.wrap .u64 (x * 256) = x * 256 := wrapU64 (by omega) (by omega)
 have w10 : IntKind.wrap .u64 (y * 1) = y := by rw [Int.mul_one]; exact w8
 have o1 : bits .or .u64 0 y = y := by
  have := or_at 0 y 0 (by decide) (by decide) (by decide) (by omega) (by simp; omega)
  simpa using this
 have o2 : bits .or .u64 y (x * 256) = x * 256 + y := or_at y x 8 (by omega) (by show y.toNat < 256; omega) (by omega) (by omega) (by show x.toNat * 256 < _; omega)
 have g0 : getI [x, y] (0 : Int) = some x := rfl
 have g1 : getI [x, y] (1 : Int) = some y := rfl
 have l2 : (([x, y] : List Int).length : Int) = 2 := rfl
 simp only [qOGet, qOGetL5R, gl, qOGetL5, qOplace, l2, cond_false, Option.bind_some, w0, w1, w2, w3, w4, w5, w6, w7, w8, w9, w10, e0, e1, o1, o2, g0, g1]
 simp [w4, w6, w7, w9, e1, o2, w2, g0]
theorem put4 (n : Int) (h : 0 ≤ n ∧ n < 18446744073709551616) (hN : 100 ≤ N) : qOPut N n 4 false = some ([n / 16777216 % 256, n / 65536 % 256, n / 256 % 256, n % 256], 0) := by
 obtain ⟨M, rfl⟩ : ∃ M, N = M + 5 := ⟨N - 5, by omega⟩
 have r1 : roomB (Int.toNat 4) 1 = true := by decide
 have r2 : List.replicate (Int.toNat 4) (0 : Int) = [0, 0, 0, 0] := rfl
 have w1 : IntKind.wrap .i64 ((4 : Int) - 1) = 3 := by decide
 have v0 : IntKind.wrap .i64 ((3 : Int) - 0) = 3 := by decide
 have v1 : IntKind.wrap .i64 ((3 : Int) - 1) = 2 := by decide
 have v2 : IntKind.wrap .i64 ((3 : Int) - 2) = 1 := by decide
 have v3 : IntKind.wrap .i64 ((3 : Int) - 3) = 0 := by decide
 have w3 : IntKind.wrap .i64 ((0 : Int) + 1) = 1 := by decide
 have w4 : IntKind.wrap .i64 ((1 : Int) + 1) = 2 := by decide
 have w5 : IntKind.wrap .i64 ((2 : Int) + 1) = 3 := by decide
 have w6 : IntKind.wrap .i64 ((3 : Int) + 1) = 4 := by decide
 have e1 : (2 : Int) ^ min (Int.toNat 8) (IntKind.bits IntKind.u64) = 256 := by decide
 have d1 : Int.fdiv n 256 = n / 256 := Int.fdiv_eq_ediv_of_nonneg n (by decide)
 have d2 : Int.fdiv (n / 256) 256 = n / 65536 := by rw [Int.fdiv_eq_ediv_of_nonneg _ (by decide)]; omega
 have d3 : Int.fdiv (n / 65536) 256 = n / 16777216 := by rw [Int.fdiv_eq_ediv_of_nonneg _ (by decide)]; omega
 have w7 : IntKind.wrap .u8 n = n % 256 := by rw [IntKind.wrap_u8]
 have w8 : IntKind.wrap .u8 (n / 256) = n / 256 % 256 := by rw [IntKind.wrap_u8]
 have w9 : IntKind.wrap .u8 (n / 65536) = n / 65536 % 256 := by rw [IntKind.wrap_u8]
 have w10 : IntKind.wrap .u8 (n / 16777216) = n / 16777216 % 256 := by rw [IntKind.wrap_u8]
 simp only [qOPut, qOPutL5R, gl, qOPutL5, qOplace, r1, r2, e1, cond_false, Option.bind_some, w1, v0, v1, v2, v3, w3, w4, w5, w6]
 simp [w1, v0, v1, v2, v3, w3, w4, w5, w6, d1, d2, d3, w7, w8, w9, w10]
theorem get4 (x y z u : Int) (hx : 0 ≤ x ∧ x < 256) (hy : 0 ≤ y ∧ y < 256) (hz : 0 ≤ z ∧ z < 256) (hu : 0 ≤ u ∧ u < 256) (hN : 100 ≤ N) : qOGet N [x, y, z, u] false = some (((x * 256 + y) * 256 + z) * 256 + u, 0) := by
 obtain ⟨M, rfl⟩ : ∃ M, N = M + 5 := ⟨N - 5, by omega⟩
 have w1 : IntKind.wrap .i64 ((4 : Int) - 1) = 3 := by decide
 have v0 : IntKind.wrap .i64 ((3 : Int) - 0) = 3 := by decide
 have v1 : IntKind.wrap .i64 ((3 : Int) - 1) = 2 := by decide
 have v2 : IntKind.wrap .i64 ((3 : Int) - 2) = 1 := by decide
 have v3 : IntKind.wrap .i64 ((3 : Int) - 3) = 0 := by decide
 have w3 : IntKind.wrap .i64 ((0 : Int) + 1) = 1 := by decide
 have w4 : IntKind.wrap .i64 ((1 : Int) + 1) = 2 := by decide
 have w5 : IntKind.wrap .i64 ((2 : Int) + 1) = 3 := by decide
 have w6 : IntKind.wrap .i64 ((3 : Int) + 1) = 4 := by decide
 have m0 : IntKind.wrap .i64 ((8 : Int) * 0) = 0 := by decide
 have m1 : IntKind.wrap .i64 ((8 : Int) * 1) = 8 := by decide
 have m2 : IntKind.wrap .i64 ((8 : Int) * 2) = 16 := by decide
 have m3 : IntKind.wrap .i64 ((8 : Int) * 3) = 24 := by decide
 have x1 : IntKind.wrap .u64 x = x := wrapU64 (by omega) (by omega)
 have y1 : IntKind.wrap .u64 y = y := wrapU64 (by omega) (by omega)
 have z1 : IntKind.wrap .u64 z = z := wrapU64 (by omega) (by omega)
 have u1 : IntKind.wrap .u64 u = u := wrapU64 (by omega) (by omega)
 have e0 : (2 : Int) ^ min (Int.toNat 0) (IntKind.bits IntKind.u64) = 1 := by decide
 have e1 : (2 : Int) ^ min (Int.toNat 8) (IntKind.bits IntKind.u64) = 256 := by decide
 have e2 : (2 : Int) ^ min (Int.toNat 16) (IntKind.bits IntKind.u64) = 65536 := by decide
 have e3 : (2 : Int) ^ min (Int.toNat 24) (IntKind.bits IntKind.u64) = 16777216 := by decide
 have u2 : IntKind.wrap .u64 (u * 1) = u := by rw [Int.mul_one]; exact u1
 have z2 : IntKind.wrap .u64 (z * 256) = z * 256 := wrapU64 (by omega) (by omega)
 have y2 : IntKind.wrap .u64 (y * 65536) = y * 65536 := wrapU64 (by omega) (by omega)
 have x2 : IntKind.wrap .u64 (x * 16777216) = x * 16777216 := wrapU64 (by omega) (by omega)
 have o1 : bits .or .u64 0 u = u := by
  have := or_at 0 u 0 (by decide) (by decide) (by decide) (by omega) (by simp; omega)
  simpa using this
 have o2 : bits .or .u64 u (z * 256) = z * 256 + u := or_at u z 8 (by omega) (by show u.toNat < 256; omega) (by omega) (by omega) (by show z.toNat * 256 < _; omega)
 have o3 : bits .or .u64 (z * 256 + u) (y * 65536) = y * 65536 + (z * 256 + u) := or_at (z * 256 + u) y 16 (by omega) (by show (z * 256 + u).toNat < 65536; omega) (by omega) (by omega) (by show y.toNat * 65536 < _; omega)
 have o4 : bits .or .u64 (y * 65536 + (z * 256 + u)) (x * 16777216) = x * 16777216 + (y * 65536 + (z * 256 + u)) := or_at (y * 65536 + (z * 256 + u)) x 24 (by omega) (by show (y * 65536 + (z * 256 + u)).toNat < 16777216; omega) (by omega) (by omega) (by show x.toNat * 16777216 < _; omega)
 have fin : x * 16777216 + (y * 65536 + (z * 256 + u)) = ((x * 256 + y) * 256 + z) * 256 + u := by omega
 have g0 : getI [x, y, z, u] (0 : Int) = some x := rfl
 have g1 : getI [x, y, z, u] (1 : Int) = some y := rfl
 have g2 : getI [x, y, z, u] (2 : Int) = some z := rfl
 have g3 : getI [x, y, z, u] (3 : Int) = some u := rfl
 have l4 : (([x, y, z, u] : List Int).length : Int) = 4 := rfl
 rw [← fin]
 simp only [qOGet, qOGetL5R, gl, qOGetL5, qOplace, l4, cond_false, Option.bind_some, w1, v0, v1, v2, v3, w3, w4, w5, w6, m0, m1, m2, m3, x1, y1, z1, u1, e0, e1, e2, e3, u2, z2, y2, x2, o1, o2, o3, o4, g0, g1, g2, g3]
 simp [w1, v0, v1, v2, v3, w3, w4, w5, w6, m1, m2, m3, x1, y1, z1, u1, e1, e2, e3, z2, y2, x2, o2, o3, o4, g0, g1, g2, g3]
theorem join_ok (l : List (List Int)) (hl : l.length ≤ 1000) (hs : ∀ p ∈ l, p.length ≤ 100000) (hN : 2000 ≤ N) : qOJoin N l = some l.flatten := by
 have tot : ∀ (m : List (List Int)), (∀ p ∈ m, p.length ≤ 100000) → m.flatten.length ≤ 100000 * m.length := by
  intro m
  induction m with
  | nil => intro _; simp
  | cons p m ih =>
   intro h
   have h1 := h p List.mem_cons_self
   have h2 := ih fun q hq => h q (List.mem_cons_of_mem _ hq)
   rw [List.flatten_cons, List.length_append, List.length_cons]
   omega
 have tk : ∀ i, (l.take i).flatten.length ≤ 100000000 := fun i => by
  have := tot (l.take i) fun p hp => hs p (List.mem_of_mem_take hp)
  rw [List.length_take] at this
  omega
 have hsn : ∀ i (hi : i < l.length), (l.take (i + 1)).flatten = (l.take i).flatten ++ l[i] := fun i hi => by
  have : l.take (i + 1) = l.take i ++ [l[i]] := by rw [List.take_add_one, List.getElem?_eq_getElem hi]; rfl
  rw [this, List.flatten_append]
  simp
 have h1 := gl_run (G := fun (X : ((List (List Int) × Int × List (List Int) × Int × Int × Unit) × Unit) → Option ((List (List Int) × Int × Unit) × Unit)) c => qOJoinL3 N X c.1.1 c.1.2.1 c.1.2.2.1 c.1.2.2.2.1 c.1.2.2.2.2.1)
  (fun i => ((l, (((l.take i).flatten.length : Int), (l, ((l.length : Int), ((i : Int), ()))))), ())) l.length ((l, ((l.flatten.length : Int), ())), ()) (fun X i hi => by
  have c1 : ((i : Int) < (l.length : Int)) := by omega
  have c2 : IntKind.wrap .i64 ((i : Int) + 1) = ((i + 1 : Nat) : Int) := by rw [wrap64 (by omega) (by omega)]; omega
  have hp := hs _ (List.getElem_mem hi)
  have ht := tk i
  have c3 : IntKind.wrap .i64 (((l.take i).flatten.length : Int) + (l[i].length : Int)) = (((l.take (i + 1)).flatten.length : Nat) : Int) := by rw [wrap64 (by omega) (by omega), hsn i hi, List.length_append]; omega
  simp only [qOJoinL3, c1, decide_true, cond_true, getI_lt l i hi, Option.bind_some, c3, c2]) (fun X => by
  simp [qOJoinL3]) N 0 (by omega) (by omega)
 have h2 := gl_run (G := fun (X : ((List (List Int) × Int × Int × Unit) × List Int × Unit) → Option (Unit × List Int × Unit)) c => qOJoinL9 N X c.1.1 c.1.2.1 c.1.2.2.1 c.2.1)
  (fun i => ((l, ((l.length : Int), ((i : Int), ()))), ((l.take i).flatten, ()))) l.length ((), (l.flatten, ())) (fun X i hi => by
  have c1 : ((i : Int) < (l.length : Int)) := by omega
  have c2 : IntKind.wrap .i64 ((i : Int) + 1) = ((i + 1 : Nat) : Int) := by rw [wrap64 (by omega) (by omega)]; omega
  have hp := hs _ (List.getElem_mem hi)
  have ht := tk i
  have c3 : roomB ((l.take i).flatten.length + l[i].length) 1 = true := roomB_of (by have := big_len; omega) (by omega)
  simp only [qOJoinL9, c1, decide_true, cond_true, getI_lt l i hi, Option.bind_some, c3, c2, hsn i hi]) (fun X => by
  simp [qOJoinL9]) N 0 (by omega) (by omega)
 have htot := tk l.length
 rw [List.take_length] at htot
 have c4 : (decide ((0 : Int) ≤ (0 : Int) ∧ (0 : Int) ≤ (l.flatten.length : Int)) && roomB (Int.toNat (l.flatten.length : Int)) 1) = true := by
  rw [Bool.and_eq_true]
  exact ⟨decide_eq_true ⟨by omega, by omega⟩, roomB_of (by have := big_len; omega) (by omega)⟩
 unfold qOJoin qOJoinL3R qOJoinL9R
 simp only [Int.natCast_zero, List.take_zero, List.flatten_nil, List.length_nil] at h1 h2
 rw [h1]
 simp only [Option.bind_some, c4, cond_true]
 have e0 : List.replicate (Int.toNat 0) (0 : Int) = [] := rfl
 rw [e0, h2]
 rfl
end
end Go.Proofs.YtongdeioonikoaaDoor
namespace Go.Proofs.YtongdeioonikoaaDoor
set_option maxRecDepth 100000
open Go.RowKit
set_option linter.unusedVariables false
theorem bsize : ∃ j, Tryd.prog.info? 84 = some j ∧ j.size = 2 := Option.map_eq_some_iff.1 (show (Tryd.prog.info? 84).map (·.size) = some 2 by kernel_rfl)
set_option maxHeartbeats 1000000 in
set_option maxRecDepth 100000 in
theorem chk_used (b : Nat) (w : World) (h0 : w.cell? ⟨b, 0, none⟩ = some (.pointer (some ⟨b, 0, none⟩))) :
  Calls Tryd.prog 50 #[.pointer (some ⟨b, 0, none⟩)] w fun e w' => e = .returned (.tuple #[]) ∧ w' = w := by
 obtain ⟨j, hj, _⟩ := bsize
 go_enter Tryd.func50, Tryd.ntmps50
 go_wp2
 rw [Lib.run_neq_ptr_same w _ Tryd.underlying82 hj]
 go_wp2
 go_end0
 exact ⟨rfl, rfl⟩
set_option maxHeartbeats 1000000 in
set_option maxRecDepth 100000 in
theorem chk_fresh (b : Nat) (w : World) (h0 : w.cell? ⟨b, 0, none⟩ = some (.pointer none)) (hsh : w.shape? b = some (84, 2)) (hfz : w.frozen? ⟨b, 0, none⟩ = false) :
  Calls Tryd.prog 50 #[.pointer (some ⟨b, 0, none⟩)] w fun e w' => e = .returned (.tuple #[]) ∧ w' = w.setCell ⟨b, 0, none⟩ (.pointer (some ⟨b, 0, none⟩)) := by
 obtain ⟨j, hj, hjs⟩ := bsize
 go_enter Tryd.func50, Tryd.ntmps50
 go_wp2
 rw [Lib.run_to_unsafe w ⟨b, 0, none⟩ Tryd.underlying82 Tryd.underlying117 hj (by rw [hjs]; decide) hsh (Nat.zero_lt_succ 1)]
 simp only [Result.andThen]
 rw [Oper.upon_value]
 go_wp2
 rw [run_callFunc_extern Tryd.func62 (by kernel_rfl) (by kernel_rfl) (by kernel_rfl) (e := Extern.AbiNoEscape.same) (by kernel_rfl)]
 rw [Lib.run_noEscape]
 simp only [Result.andThen]
 rw [Oper.upon_value]
 go_wp2
 rw [Lib.run_from_unsafe w ⟨b, 0, none⟩ Tryd.underlying117 Tryd.underlying82 hj hsh (by kernel_rfl)]
 simp only [Result.andThen]
 rw [Oper.upon_value]
 go_wp2
 go_end0
 exact ⟨rfl, rfl⟩
theorem chk_any (B b : Nat) (bs : List Value) (w : World) (h : Lib.IsBuilderF 84 5 B b bs w) :
  Calls Tryd.prog 50 #[.pointer (some ⟨b, 0, none⟩)] w fun e w' => e = .returned (.tuple #[]) ∧ Lib.BuilderAtF 84 5 B b (.pointer (some ⟨b, 0, none⟩)) bs w' ∧ Below B w w' := by
 rcases h with h | h
 ·refine (chk_fresh b w h.cell0 h.shape h.frozen0).mono ?_
  rintro e w' ⟨rfl, rfl⟩
  exact ⟨rfl, h.used _, (Below.refl B w).setCell (p := ⟨b, 0, none⟩) h.1 _⟩
 ·refine (chk_used b w h.cell0).mono ?_
  rintro e w' ⟨rfl, rfl⟩
  exact ⟨rfl, h, Below.refl B _⟩
theorem u8_info : (Tryd.prog.info? 5).map (fun i => (i.zero, i.size, i.bytes)) = some (some (.int .u8 0), 1, 1) := by kernel_rfl
set_option maxHeartbeats 2000000 in
set_option maxRecDepth 100000 in
theorem writeStr (B b : Nat) (bs : List Value) (s : ByteArray) (w : World) (h : Lib.IsBuilderF 84 5 B b bs w) (hlen : bs.length + s.size ≤ 140737488355328) (hBw : B ≤ w.heap.size) :
  Calls Tryd.prog 39 #[.pointer (some ⟨b, 0, none⟩), .string s] w fun e w' => e = .returned (.tuple #[.int .i64 s.size, .nilIface]) ∧ Lib.IsBuilderF 84 5 B b (bs ++ Lib.strCells s) w' ∧ Below B w w' := by
 obtain ⟨i0, q1, q2, q3, q4⟩ := info_parts u8_info
 go_enter Tryd.func39, Tryd.ntmps39
 go_wp2_with (go_at_call 50; refine (chk_any B b bs _ h).mono ?_)
 rintro e w1 ⟨rfl, h1, hb1⟩
 obtain ⟨hB, v, hbk, hown, hne⟩ := h1
 have hs1 := hb1.size
 have c0 : w1.cell? ⟨b, 0, none⟩ = some (.pointer (some ⟨b, 0, none⟩)) := by rw [Lib.cell_of_heap hbk]; rfl
 have c1 : w1.cell? ⟨b, 1, none⟩ = some v := by rw [Lib.cell_of_heap hbk]; rfl
 go_wp2_with (at_builtin; refine Lib.wpList_append_own_stringF _ rfl _ _ 28 9 rfl B 5 i0 Tryd.underlying28 Tryd.underlying9 q1 q2 q3 q4 _ _ _ rfl hown s rfl (by unfold maxLen; omega) (by omega) (by omega) ?_)
 intro v' w2 hown' hgrow _
 have hlt : b < w1.heap.size := by
  rcases Nat.lt_or_ge b w1.heap.size with h' | h'
  ·exact h'
  ·simp [Array.getElem?_eq_none h'] at hbk
 have hb2 : w2.heap[b]? = some (.cells #[.pointer (some ⟨b, 0, none⟩), v] 84 (0, 0)) := (hgrow.block b hlt (fun e => hne e.symm)).trans hbk
 have d0 : w2.cell? ⟨b, 0, none⟩ = some (.pointer (some ⟨b, 0, none⟩)) := by rw [Lib.cell_of_heap hb2]; rfl
 have d1 : w2.cell? ⟨b, 1, none⟩ = some v := by rw [Lib.cell_of_heap hb2]; rfl
 have f1 : w2.frozen? ⟨b, 1, none⟩ = false := Lib.frozen_of_heap hb2 1
 obtain ⟨ao, n', cap, rfl⟩ : ∃ ao n' cap, v' = .slice ao n' cap := by
  rcases hown'.2 with ⟨hv, _⟩ | ⟨g, cap, cur, fz, hv, _⟩ <;> exact ⟨_, _, _, hv⟩
 go_wp2
 go_ret2
 refine ⟨rfl, .inr ?_, ?_⟩
 ·exact Lib.BuilderAtF.put (T := 84) (e := 5) hB hb2 (bs' := bs ++ Lib.strCells s) (by simpa [Lib.strCells_length] using hown') (by decide)
 ·exact (hb1.grown hgrow (by omega) (fun k hk => (hown.lt k hk).1)).setCell (p := ⟨b, 1, none⟩) hB _
end Go.Proofs.YtongdeioonikoaaDoor
namespace Go.Proofs
open Go.Shelf
def Tryd.lays169_ren : Go.Shelf.Ren := ⟨fun | 169 => 41 | n => n, fun | 70 => 82 | 9 => 9 | 0 => 0 | 72 => 84 | 37 => 28 | 127 => 103 | 3 => 3 | 5 => 5 | n => n, fun | n => n⟩
theorem Tryd.lays169 : Go.Proofs.Lays.n169 Tryd.prog Tryd.lays169_ren := {
 mixed := by kernel_rfl
 f169 := Tryd.func41.trans (congrArg some (by kernel_rfl))
 t0 := Tryd.underlying0
 a0 := Tryd.isAgg0
 z0 := Tryd.sizeOf0
 v0 := Tryd.zeroValue0
 t3 := Tryd.underlying3
 a3 := Tryd.isAgg3
 z3 := Tryd.sizeOf3
 v3 := Tryd.zeroValue3
 t9 := Tryd.underlying9
 a9 := Tryd.isAgg9
 z9 := Tryd.sizeOf9
 v9 := Tryd.zeroValue9
 t37 := Tryd.underlying28
 a37 := Tryd.isAgg28
 z37 := Tryd.sizeOf28
 v37 := Tryd.zeroValue28
 t70 := Tryd.underlying82
 a70 := Tryd.isAgg82
 z70 := Tryd.sizeOf82
 v70 := Tryd.zeroValue82
 t72 := Tryd.underlying84
 a72 := Tryd.isAgg84
 z72 := Tryd.sizeOf84
 v72 := Tryd.zeroValue84
 t127 := Tryd.underlying103
 a127 := Tryd.isAgg103
 z127 := Tryd.sizeOf103
 v127 := Tryd.zeroValue103 }
theorem Tryd.Builder_Extra_169 : Builder.Extra Tryd.prog Tryd.lays169_ren := {
 sizeBuilder := by kernel_rfl
 liesBuilder := by kernel_rfl
 t5 := Tryd.underlying5
 a5 := Tryd.isAgg5
 z5 := Tryd.sizeOf5
 v5 := Tryd.zeroValue5
 infoByte := by kernel_rfl
 cellsByte := by kernel_rfl
 sizeByte := by kernel_rfl
 neB5 := by decide }
open Go.RowKit in
theorem Tryd.Builder_String_any_f (B b : Nat) (l : List UInt8) (w : World) (h : Lib.IsBuilderF 84 5 B b (Lib.byteCells l) w) (hBw : B ≤ w.heap.size) :
  Calls Tryd.prog 41 #[.pointer (some ⟨b, 0, none⟩)] w fun e w' => e = .returned (.string ⟨l.toArray⟩) ∧ (Lib.IsBuilderF 84 5 B b (Lib.byteCells l) w' ∧ Below B w w') := Any.Builder_String_any_f Tryd.lays169 Tryd.Builder_Extra_169 B b l w h hBw
def Tryd.laysM171_ren : Go.Shelf.Ren := ⟨fun | 171 => 51 | 243 => 63 | 246 => 71 | 283 => 78 | 284 => 79 | 285 => 80 | 286 => 81 | 129 => 85 | 317 => 84 | 318 => 86 | 319 => 87 | 320 => 88 | 337 => 92 | 338 => 93 | n => n, fun | 3 => 3 | 9 => 9 | 2 => 2 | 4 => 4 | 171 => 132 | 0 => 0 | 53 => 69 | 37 => 28 | 5 => 5 | 173 => 135 | 212 => 139 | 51 => 25 | 20 => 20 | 213 => 140 | 46 => 105 | 232 => 23 | 233 => 113 | n => n, fun | 17 => 1 | 18 => 2 | 19 => 3 | n => n⟩
theorem Tryd.laysM171 : Go.Proofs.LaysM.n171 Tryd.prog Tryd.laysM171_ren := {
 mixed := by kernel_rfl
 f129 := Tryd.func85.trans (congrArg some (by kernel_rfl))
 f171 := Tryd.func51.trans (congrArg some (by kernel_rfl))
 f243 := Tryd.func63.trans (congrArg some (by kernel_rfl))
 f246 := Tryd.func71.trans (congrArg some (by kernel_rfl))
 f283 := Tryd.func78.trans (congrArg some (by kernel_rfl))
 f284 := Tryd.func79.trans (congrArg some (by kernel_rfl))
 f285 := Tryd.func80.trans (congrArg some (by kernel_rfl))
 f286 := Tryd.func81.trans (congrArg some (by kernel_rfl))
 f317 := Tryd.func84.trans (congrArg some (by kernel_rfl))
 f318 := Tryd.func86.trans (congrArg some (by kernel_rfl))
 f319 := Tryd.func87.trans (congrArg some (by kernel_rfl))
 f320 := Tryd.func88.trans (congrArg some (by kernel_rfl))
 f337 := Tryd.func92.trans (congrArg some (by kernel_rfl))
 f338 := Tryd.func93.trans (congrArg some (by kernel_rfl))
 t0 := Tryd.underlying0
 a0 := Tryd.isAgg0
 z0 := Tryd.sizeOf0
 v0 := Tryd.zeroValue0
 t2 := Tryd.underlying2
 a2 := Tryd.isAgg2
 z2 := Tryd.sizeOf2
 v2 := Tryd.zeroValue2
 t3 := Tryd.underlying3
 a3 := Tryd.isAgg3
 z3 := Tryd.sizeOf3
 v3 := Tryd.zeroValue3
 t4 := Tryd.underlying4
 a4 := Tryd.isAgg4
 z4 := Tryd.sizeOf4
 v4 := Tryd.zeroValue4
 t5 := Tryd.underlying5
 a5 := Tryd.isAgg5
 z5 := Tryd.sizeOf5
 v5 := Tryd.zeroValue5
 t9 := Tryd.underlying9
 a9 := Tryd.isAgg9
 z9 := Tryd.sizeOf9
 v9 := Tryd.zeroValue9
 t20 := Tryd.underlying20
 a20 := Tryd.isAgg20
 z20 := Tryd.sizeOf20
 v20 := Tryd.zeroValue20
 t37 := Tryd.underlying28
 a37 := Tryd.isAgg28
 z37 := Tryd.sizeOf28
 v37 := Tryd.zeroValue28
 t46 := Tryd.underlying105
 a46 := Tryd.isAgg105
 z46 := Tryd.sizeOf105
 v46 := Tryd.zeroValue105
 t51 := Tryd.underlying25
 a51 := Tryd.isAgg25
 z51 := Tryd.sizeOf25
 v51 := Tryd.zeroValue25
 t53 := Tryd.underlying69
 a53 := Tryd.isAgg69
 z53 := Tryd.sizeOf69
 v53 := Tryd.zeroValue69
 t171 := Tryd.underlying132
 a171 := Tryd.isAgg132
 z171 := Tryd.sizeOf132
 v171 := Tryd.zeroValue132
 t173 := Tryd.underlying135
 a173 := Tryd.isAgg135
 z173 := Tryd.sizeOf135
 v173 := Tryd.zeroValue135
 t212 := Tryd.underlying139
 a212 := Tryd.isAgg139
 z212 := Tryd.sizeOf139
 v212 := Tryd.zeroValue139
 t213 := Tryd.underlying140
 a213 := Tryd.isAgg140
 z213 := Tryd.sizeOf140
 t232 := Tryd.underlying23
 a232 := Tryd.isAgg23
 z232 := Tryd.sizeOf23
 v232 := Tryd.zeroValue23
 t233 := Tryd.underlying113
 a233 := Tryd.isAgg113
 z233 := Tryd.sizeOf113
 v233 := Tryd.zeroValue113
 g17 := by kernel_rfl
 g18 := by kernel_rfl
 g19 := by kernel_rfl
 i0 := by kernel_rfl
 i2 := by kernel_rfl
 i3 := by kernel_rfl
 i4 := by kernel_rfl
 i5 := by kernel_rfl
 i9 := by kernel_rfl
 i20 := by kernel_rfl
 i37 := by kernel_rfl
 i46 := by kernel_rfl
 i51 := by kernel_rfl
 i53 := by kernel_rfl
 i171 := by kernel_rfl
 i173 := by kernel_rfl
 i212 := by kernel_rfl
 i232 := by kernel_rfl
 i233 := by kernel_rfl
 m17 := by kernel_rfl
 m18 := by kernel_rfl
 m19 := by kernel_rfl }
open Go.RowKit Go.Sort Go.Lib in
theorem Tryd.strconv_Itoa (n : Int) (h0 : -9223372036854775808 ≤ n) (h1 : n ≤ 9223372036854775807) (w : World) (htab : Lib.TabIs Tryd.prog w "internal/strconv.uint64pow10" .u64 Lib.pow10Tab) :
  Calls Tryd.prog 51 #[.int .i64 n] w fun e w' => e = .returned (.string ⟨(Lib.itoa n).toArray⟩) ∧ ∃ k os, w' = grow (w.drewN k) os := Any.strconv_Itoa Tryd.laysM171 n h0 h1 w htab
end Go.Proofs
namespace Go.Proofs.YtongdeioonikoaaDoor
set_option maxRecDepth 100000
open Go.RowKit
set_option linter.unusedVariables false
theorem bld_below {T e B b : Nat} {bs : List Value} {W W' : World} (h : Lib.IsBuilderF T e B b bs W) (hb : Below W.heap.size W W') : Lib.IsBuilderF T e B b bs W' := by
 have key : ∀ p, Lib.BuilderAtF T e B b p bs W → Lib.BuilderAtF T e B b p bs W' := by
  intro p h
  obtain ⟨hB, v, hbk, hown, hne⟩ := h
  refine ⟨hB, v, ?_, ?_, hne⟩
  ·rw [hb.block b (Array.getElem?_eq_some_iff.1 hbk).1]; exact hbk
  ·refine ⟨hown.1, ?_⟩
   rcases hown.2 with h0 | ⟨g, cap, cur, fz, h1, h2, h3, h4⟩
   ·exact .inl h0
   ·exact .inr ⟨g, cap, cur, fz, h1, h2, by rw [hb.block g (Array.getElem?_eq_some_iff.1 h3).1]; exact h3, h4⟩
 exact h.elim (fun h => .inl (key _ h)) (fun h => .inr (key _ h))
def txtR {α : Type} (F : α → Option (List UInt8)) : List α → List UInt8 → Option (List UInt8)
 | [], acc => some acc
 | n :: l, acc => match F n with
  | none => none
  | some t => if acc.length + (t.length + 1) ≤ 140737488355328 then txtR F l (acc ++ (t ++ [10])) else none
set_option maxRecDepth 100000 in
set_option maxHeartbeats 800000 in
theorem txt_walk {α : Type} (F : α → Option (List UInt8)) (l : List α) (w : World) (ad : Option Addr) (c : Nat) (us : Nat → Value) (hl : l.length ≤ 1000000000) (hc : l.length ≤ c) (hcm : c ≤ maxLen)
  (hone : ∀ j, j < l.length * 4 → (us j).oneCell' = true)
  (hA : 0 < l.length → ∃ b o, ad = some ⟨b, o, none⟩ ∧ b < w.heap.size ∧ ∀ j, j < l.length * 4 → w.cell? ⟨b, o + j, none⟩ = some (us j))
  (hF : ∀ (wr : World) (i : Nat) (x : α) (t : List UInt8), l[i]? = some x → Below w.heap.size w wr → F x = some t → Calls Tryd.prog 40 #[.agg #[us (i * 4), us (i * 4 + 1), us (i * 4 + 2), us (i * 4 + 3)]] wr fun e w' => e = .returned (.string ⟨t.toArray⟩) ∧ Below wr.heap.size wr w')
  (y : List UInt8) (hy : txtR F l [] = some y) :
  Calls Tryd.prog 22 #[.slice ad l.length c] w fun e w' => e = .returned (.string ⟨y.toArray⟩) ∧ Below w.heap.size w w' := by
 generalize hn : l.length = n at hl hc hA hone ⊢
 go_enter Tryd.func22, Tryd.ntmps22
 go_wp2
 go_loopw [8] (fun ix wr => ∃ (i : Nat) (acc : List UInt8), ix = .int .i64 i ∧ i ≤ n ∧ Lib.IsBuilderF 84 5 w.heap.size w.heap.size (Lib.byteCells acc) wr ∧ Below w.heap.size w wr ∧ acc.length ≤ 140737488355328 ∧ txtR F (l.drop i) acc = some y) (fun ix _ => n + 5 - (intOf ix).toNat)
 case atStart => exact ⟨0, [], rfl, by omega, Lib.IsBuilderF.of (Lib.fresh_isBuilder _ _ w), (Below.refl _ w).alloc (Nat.le_refl _) _, by simp, hy⟩
 case round =>
  obtain ⟨i, acc, rfl, hi, hI, hb, hacc, hp⟩ := hrel
  have hsz : w.heap.size < wr.heap.size := by
   rcases hI with h | h <;> exact h.lt
  by_cases hlt : i < n
  ·have c1 : ((i : Int) < (n : Int)) := by omega
   have hil : i < l.length := by omega
   rw [List.drop_eq_getElem_cons hil] at hp
   unfold txtR at hp
   cases hf : F l[i] with
   | none => rw [hf] at hp; cases hp
   | some t =>
   rw [hf] at hp
   simp only at hp
   split at hp
   case isFalse => cases hp
   rename_i hr
   obtain ⟨b, o, rfl, hbl, hcell⟩ := hA (by omega)
   have k0 : wr.cell? ⟨b, o + i * 4, none⟩ = some (us (i * 4)) := (hb.cell (p := ⟨b, o + (i * 4), none⟩) hbl).trans (hcell (i * 4) (by omega))
   have k1 : wr.cell? ⟨b, o + i * 4 + 1, none⟩ = some (us (i * 4 + 1)) := (hb.cell (p := ⟨b, o + i * 4 + 1, none⟩) hbl).trans (by rw [Nat.add_assoc]; exact hcell (i * 4 + 1) (by omega))
   have k2 : wr.cell? ⟨b, o + i * 4 + 2, none⟩ = some (us (i * 4 + 2)) := (hb.cell (p := ⟨b, o + i * 4 + 2, none⟩) hbl).trans (by rw [Nat.add_assoc]; exact hcell (i * 4 + 2) (by omega))
   have k3 : wr.cell? ⟨b, o + i * 4 + 3, none⟩ = some (us (i * 4 + 3)) := (hb.cell (p := ⟨b, o + i * 4 + 3, none⟩) hbl).trans (by rw [Nat.add_assoc]; exact hcell (i * 4 + 3) (by omega))
   have o0 := hone (i * 4) (by omega)
   have o1 := hone (i * 4 + 1) (by omega)
   have o2 := hone (i * 4 + 2) (by omega)
   have o3 := hone (i * 4 + 3) (by omega)
   have hca : (#[us (i * 4), us (i * 4 + 1), us (i * 4 + 2), us (i * 4 + 3)] : Array Value).all (·.oneCell') = true := by simp [o0, o1, o2, o3]
   have hcall := hF (wr.alloc (.cells #[us (i * 4), us (i * 4 + 1), us (i * 4 + 2), us (i * 4 + 3)] 64)) i l[i] t (List.getElem?_eq_getElem hil) (hb.alloc (Nat.le_of_lt hsz) _) hf
   have hnew := heap_alloc_new wr (.cells #[Value.bool false, Value.int IntKind.i64 0, Value.int IntKind.i64 0, Value.slice none 0 0] 64)
   have hrow := heap_alloc_new wr (.cells #[us (i * 4), us (i * 4 + 1), us (i * 4 + 2), us (i * 4 + 3)] 64)
   have e0 : (wr.alloc (.cells #[us (i * 4), us (i * 4 + 1), us (i * 4 + 2), us (i * 4 + 3)] 64)).cell? ⟨wr.heap.size, 0, none⟩ = some (us (i * 4)) := by rw [cell_of_row _ _ _ _ _ _ hrow]; rfl
   have e1 : (wr.alloc (.cells #[us (i * 4), us (i * 4 + 1), us (i * 4 + 2), us (i * 4 + 3)] 64)).cell? ⟨wr.heap.size, 1, none⟩ = some (us (i * 4 + 1)) := by rw [cell_of_row _ _ _ _ _ _ hrow]; rfl
   have e2 : (wr.alloc (.cells #[us (i * 4), us (i * 4 + 1), us (i * 4 + 2), us (i * 4 + 3)] 64)).cell? ⟨wr.heap.size, 2, none⟩ = some (us (i * 4 + 2)) := by rw [cell_of_row _ _ _ _ _ _ hrow]; rfl
   have e3 : (wr.alloc (.cells #[us (i * 4), us (i * 4 + 1), us (i * 4 + 2), us (i * 4 + 3)] 64)).cell? ⟨wr.heap.size, 3, none⟩ = some (us (i * 4 + 3)) := by rw [cell_of_row _ _ _ _ _ _ hrow]; rfl
   go_wp2_with (first
    | (refine wpList_store_row rfl 64 (.tmp 5) (.tmp 11) rfl wr.heap.size #[us (i * 4), us (i * 4 + 1), us (i * 4 + 2), us (i * 4 + 3)] rfl rfl 64 #[Value.bool false, Value.int IntKind.i64 0, Value.int IntKind.i64 0, Value.slice none 0 0] hnew (by kernel_rfl) rfl hca ?_; rw [World.setRow_alloc_new])
    | (go_at_call 40; refine hcall.mono ?_; rintro e w1 ⟨rfl, hb1⟩))
   have hcat : (ByteArray.mk t.toArray) ++ (ByteArray.mk #[10]) = ⟨(t ++ [10]).toArray⟩ := by
    apply ByteArray.ext
    rw [ByteArray.data_append]
    apply Array.ext'
    simp
   rw [hcat]
   have hbw1 : Below wr.heap.size wr w1 := ((Below.refl wr.heap.size wr).alloc (Nat.le_refl _) _).trans (hb1.mono (by simp))
   have hI1 := bld_below hI hbw1
   have hs1 := hbw1.size
   have hbb : Below w.heap.size w w1 := hb.trans (hbw1.mono (Nat.le_of_lt hsz))
   have hz1 : (ByteArray.mk (t ++ [10]).toArray).size = t.length + 1 := by show (t ++ [10]).toArray.size = _; simp
   have hlen : (Lib.byteCells acc).length + (ByteArray.mk (t ++ [10]).toArray).size ≤ 140737488355328 := by rw [Lib.byteCells_length, hz1]; exact hr
   have hBw : w.heap.size ≤ w1.heap.size := by clear hlen hr hacc; omega
   have hW := writeStr w.heap.size w.heap.size _ ⟨(t ++ [10]).toArray⟩ w1 hI1 hlen hBw
   clear hlen
   refine hW.mono ?_
   rintro e w2 ⟨rfl, hI2, hb2⟩
   go_wp2
   go_roundw
   case rel =>
    refine ⟨i + 1, acc ++ (t ++ [10]), by go_num, by omega, ?_, hbb.trans hb2, by rw [List.length_append, List.length_append]; exact hr, hp⟩
    rw [Lib.byteCells_append]; exact hI2
   case measure => simp [intOf]; omega
  ·have c1 : ¬ ((i : Int) < (n : Int)) := by omega
   have hd0 : l.drop i = [] := List.drop_eq_nil_of_le (by omega)
   rw [hd0] at hp
   injection hp with hp
   go_wp2_with fail
   refine (Tryd.Builder_String_any_f w.heap.size w.heap.size acc _ hI (by omega)).mono ?_
   rintro e w1 ⟨rfl, _, hb1⟩
   go_wp2
   go_ret
   exact ⟨rfl, hb.trans hb1⟩
end Go.Proofs.YtongdeioonikoaaDoor
namespace Go.Proofs.YtongdeioonikoaaDoor
set_option maxRecDepth 100000
open Go.RowKit
set_option linter.unusedVariables false
set_option linter.unusedSimpArgs false
section
variable {P : Program} {R : Type}
theorem EnvOK.addExt {Γ : (R : Type) → Env R} (hΓ : EnvOK P (Γ R)) {f : FuncId} {F : (R : Type) → List V → (V → Tree R) → Tree R} (h : ∀ args (k : V → Tree R) res, (F R args k).run = some res → ∃ r, (k r).run = some res ∧ r.plain = true ∧ (∀ l k, ex r ≠ .fresh l k) ∧ CallsV P f args r) : EnvOK P (Env.addFn Γ f F R) := by
 refine ⟨⟨fun f' args k res hc => ?_⟩, hΓ.inl, hΓ.lp, hΓ.cln⟩
 simp only [Env.addFn] at hc
 split at hc
 ·rename_i hff
  subst hff
  exact h args k res hc
 ·exact hΓ.fns.ok f' args k res hc
end
end Go.Proofs.YtongdeioonikoaaDoor
namespace Go.Proofs.YtongdeioonikoaaDoor
set_option maxRecDepth 100000
open Go.RowKit
set_option linter.unusedVariables false
theorem hasBody {f : Nat} {fn : Func} (hf : Tryd.prog.funcs[f]? = some fn) (hn : fn.name ≠ "runtime.NumGoroutine") (hb : fn.body.isSome = true) : ∃ fn, Tryd.prog.funcs[f]? = some fn ∧ fn.name ≠ "runtime.NumGoroutine" ∧ fn.body ≠ none :=
 ⟨fn, hf, hn, fun h => by rw [h] at hb; cases hb⟩
theorem rel_one {w : World} {B : List Nat} {x : V} {cargs : List Value} (hlen : cargs.length = [x].length) (h : ∀ (i : Nat) z, [x][i]? = some z → ∃ v, cargs[i]? = some v ∧ Rel w B [] (ex z) v) : ∃ a, cargs = [a] ∧ Rel w B [] (ex x) a := by
 obtain ⟨a, h1, h2⟩ := h 0 x rfl
 match cargs, hlen, h1 with
 | [p], _, h1 => simp at h1; subst h1; exact ⟨_, rfl, h2⟩
end Go.Proofs.YtongdeioonikoaaDoor
namespace Go.Proofs.YtongdeioonikoaaDoor
set_option maxRecDepth 100000
open Go.RowKit Go.Sort Go.Lib Go.Shelf
set_option linter.unusedVariables false
set_option linter.unusedSimpArgs false
theorem globi_tab {w : World} {B : List Nat} (h : GlobOK w B) : Lib.TabIs Tryd.prog w "internal/strconv.uint64pow10" .u64 Lib.pow10Tab := by
 obtain ⟨_, T, fr, h2⟩ := h.row 1 _ (by simp only [globRows, List.mem_cons]; exact .inl rfl)
 have h1 : Tryd.prog.globalNamed "internal/strconv.uint64pow10" = some 1 := by kernel_rfl
 unfold Lib.TabIs World.var?
 rw [h1, Option.bind_some, h2]
 rfl
def itK {R : Type} (args : List V) (k : V → Tree R) : Tree R := match args with
 | [.c (.int .i64 n)] => .ite (decide (-9223372036854775808 ≤ n ∧ n ≤ 9223372036854775807)) (k (.str (Lib.itoa n))) .fail
 | _ => .fail
theorem it_ok {R : Type} : ∀ args (k : V → Tree R) res, (itK args k).run = some res → ∃ r, (k r).run = some res ∧ r.plain = true ∧ (∀ l k, ex r ≠ .fresh l k) ∧ CallsV Tryd.prog 51 args r := by
 intro args k res h
 have hb : ∃ fn, Tryd.prog.funcs[51]? = some fn ∧ fn.name ≠ "runtime.NumGoroutine" ∧ fn.body ≠ none := hasBody Tryd.func51 (by decide +kernel) (by kernel_rfl)
 unfold itK at h
 split at h
 ·rename_i n
  rcases Tree.run_ite h with ⟨hs, h⟩ | ⟨_, h⟩
  ·obtain ⟨h1, h2⟩ := of_decide_eq_true hs
   refine ⟨_, h, rfl, (fun l k h => by cases h), CallsK.toV (fun w B cargs _ hgl hlen hrel => ?_) hb⟩
   obtain ⟨a, rfl, r1⟩ := rel_one hlen hrel
   have r1 := Rel.ofC r1
   subst r1
   have := Tryd.strconv_Itoa n h1 h2 w (globi_tab hgl)
   exact this.mono fun e w' ⟨he, k, os, hw⟩ => ⟨_, he, (by rw [hw]; exact Lib.below_grow _ w (Nat.le_refl _) k os), .c _ _⟩
  ·cases h
 ·cases h
end Go.Proofs.YtongdeioonikoaaDoor
namespace Go.Proofs.YtongdeioonikoaaDoor.Ln
open Go.RowKit Go.Proofs.YtongdeioonikoaaDoor
set_option linter.unusedVariables false
set_option maxRecDepth 100000
section
variable (N : Nat)
theorem hmx : Tryd.prog.follows .mixedOrders = true := by kernel_rfl
noncomputable def Ev0 (N : Nat) : (R : Type) → Env R := Env.addInl env0 []
theorem Ev0_ok (R : Type) : EnvOK Tryd.prog (Ev0 N R) := EnvOK.addInl (env0_ok R) (by kernel_rfl)
noncomputable def Ev1 : (R : Type) → Env R := Env.addBx (Ev0 N) [(40, 0)]
theorem Ev1_ok (R : Type) : EnvOK Tryd.prog (Ev1 N R) := EnvOK.addBx (Ev0_ok N R) [(40, 0)]
noncomputable def Ev2 : (R : Type) → Env R := Env.addFn (Ev1 N) 51 (fun R => itK)
theorem Ev2_ok (R : Type) : EnvOK Tryd.prog (Ev2 N R) := EnvOK.addExt (Ev1_ok N R) it_ok
noncomputable def script_line (N : Nat) (n0 : Bool × (Int × (Int × (List Int)))) : Option (List UInt8) :=
 bif n0.1 then
  bif (decide ((-9223372036854775808 : Int) ≤ n0.2.1 ∧ n0.2.1 ≤ (9223372036854775807 : Int))) then
   bif (decide (((List.length (Array.toList (List.toArray ([32] : List UInt8)))) + (List.length (@Go.Lib.itoa n0.2.1))) ≤ maxLen)) then
    bif (decide (((List.length ((Array.toList (List.toArray ([32] : List UInt8))) ++ (@Go.Lib.itoa n0.2.1))) + (List.length (Array.toList (List.toArray ([32] : List UInt8))))) ≤ maxLen)) then
     bif (decide (((List.length (Array.toList (List.toArray ([99, 108, 105, 101, 110, 116] : List UInt8)))) + (List.length (((Array.toList (List.toArray ([32] : List UInt8))) ++ (@Go.Lib.itoa n0.2.1)) ++ (Array.toList (List.toArray ([32] : List UInt8)))))) ≤ maxLen)) then
      Option.bind (bif (decide (n0.2.2.1 < (1 : Int))) then
        some (true)
       else
        some ((cond false true (decide ((4 : Int) ≤ n0.2.2.1))))) fun (v2 : Bool) =>
      bif v2 then
       bif (decide (((List.length ((Array.toList (List.toArray ([99, 108, 105, 101, 110, 116] : List UInt8))) ++ (((Array.toList (List.toArray ([32] : List UInt8))) ++ (@Go.Lib.itoa n0.2.1)) ++ (Array.toList (List.toArray ([32] : List UInt8)))))) + (List.length ([63] : List UInt8))) ≤ maxLen)) then
        some ((((Array.toList (List.toArray ([99, 108, 105, 101, 110, 116] : List UInt8))) ++ (((Array.toList (List.toArray ([32] : List UInt8))) ++ (@Go.Lib.itoa n0.2.1)) ++ (Array.toList (List.toArray ([32] : List UInt8))))) ++ ([63] : List UInt8)))
       else
        none
      else
       Option.bind (getI ([([63] : List UInt8), ([98, 111, 117, 110, 100] : List UInt8), ([99, 108, 111, 115, 101, 100] : List UInt8), ([100, 97, 116, 97] : List UInt8)] : List ((List UInt8))) n0.2.2.1) fun (v3 : (List UInt8)) =>
       bif (decide (((List.length ((Array.toList (List.toArray ([99, 108, 105, 101, 110, 116] : List UInt8))) ++ (((Array.toList (List.toArray ([32] : List UInt8))) ++ (@Go.Lib.itoa n0.2.1)) ++ (Array.toList (List.toArray ([32] : List UInt8)))))) + (List.length v3)) ≤ maxLen)) then
        bif (decide (n0.2.2.1 = (3 : Int))) then
         bif (decide ((-9223372036854775808 : Int) ≤ (((List.length n0.2.2.2) : Nat) : Int) ∧ (((List.length n0.2.2.2) : Nat) : Int) ≤ (9223372036854775807 : Int))) then
          bif (decide (((List.length (Array.toList (List.toArray ([32] : List UInt8)))) + (List.length (@Go.Lib.itoa (((List.length n0.2.2.2) : Nat) : Int)))) ≤ maxLen)) then
           bif (decide (((List.length (((Array.toList (List.toArray ([99, 108, 105, 101, 110, 116] : List UInt8))) ++ (((Array.toList (List.toArray ([32] : List UInt8))) ++ (@Go.Lib.itoa n0.2.1)) ++ (Array.toList (List.toArray ([32] : List UInt8))))) ++ v3)) + (List.length ((Array.toList (List.toArray ([32] : List UInt8))) ++ (@Go.Lib.itoa (((List.length n0.2.2.2) : Nat) : Int))))) ≤ maxLen)) then
            some (((((Array.toList (List.toArray ([99, 108, 105, 101, 110, 116] : List UInt8))) ++ (((Array.toList (List.toArray ([32] : List UInt8))) ++ (@Go.Lib.itoa n0.2.1)) ++ (Array.toList (List.toArray ([32] : List UInt8))))) ++ v3) ++ ((Array.toList (List.toArray ([32] : List UInt8))) ++ (@Go.Lib.itoa (((List.length n0.2.2.2) : Nat) : Int)))))
           else
            none
          else
           none
         else
          none
        else
         some ((((Array.toList (List.toArray ([99, 108, 105, 101, 110, 116] : List UInt8))) ++ (((Array.toList (List.toArray ([32] : List UInt8))) ++ (@Go.Lib.itoa n0.2.1)) ++ (Array.toList (List.toArray ([32] : List UInt8))))) ++ v3))
       else
        none
     else
      none
    else
     none
   else
    none
  else
   none
 else
  bif (decide ((-9223372036854775808 : Int) ≤ n0.2.1 ∧ n0.2.1 ≤ (9223372036854775807 : Int))) then
   bif (decide (((List.length (Array.toList (List.toArray ([32] : List UInt8)))) + (List.length (@Go.Lib.itoa n0.2.1))) ≤ maxLen)) then
    bif (decide (((List.length ((Array.toList (List.toArray ([32] : List UInt8))) ++ (@Go.Lib.itoa n0.2.1))) + (List.length (Array.toList (List.toArray ([32] : List UInt8))))) ≤ maxLen)) then
     bif (decide (((List.length (Array.toList (List.toArray ([115, 101, 114, 118, 101, 114] : List UInt8)))) + (List.length (((Array.toList (List.toArray ([32] : List UInt8))) ++ (@Go.Lib.itoa n0.2.1)) ++ (Array.toList (List.toArray ([32] : List UInt8)))))) ≤ maxLen)) then
      Option.bind (bif (decide (n0.2.2.1 < (1 : Int))) then
        some (true)
       else
        some ((cond false true (decide ((4 : Int) ≤ n0.2.2.1))))) fun (v2 : Bool) =>
      bif v2 then
       bif (decide (((List.length ((Array.toList (List.toArray ([115, 101, 114, 118, 101, 114] : List UInt8))) ++ (((Array.toList (List.toArray ([32] : List UInt8))) ++ (@Go.Lib.itoa n0.2.1)) ++ (Array.toList (List.toArray ([32] : List UInt8)))))) + (List.length ([63] : List UInt8))) ≤ maxLen)) then
        some ((((Array.toList (List.toArray ([115, 101, 114, 118, 101, 114] : List UInt8))) ++ (((Array.toList (List.toArray ([32] : List UInt8))) ++ (@Go.Lib.itoa n0.2.1)) ++ (Array.toList (List.toArray ([32] : List UInt8))))) ++ ([63] : List UInt8)))
       else
        none
      else
       Option.bind (getI ([([63] : List UInt8), ([98, 111, 117, 110, 100] : List UInt8), ([99, 108, 111, 115, 101, 100] : List UInt8), ([100, 97, 116, 97] : List UInt8)] : List ((List UInt8))) n0.2.2.1) fun (v3 : (List UInt8)) =>
       bif (decide (((List.length ((Array.toList (List.toArray ([115, 101, 114, 118, 101, 114] : List UInt8))) ++ (((Array.toList (List.toArray ([32] : List UInt8))) ++ (@Go.Lib.itoa n0.2.1)) ++ (Array.toList (List.toArray ([32] : List UInt8)))))) + (List.length v3)) ≤ maxLen)) then
        bif (decide (n0.2.2.1 = (3 : Int))) then
         bif (decide ((-9223372036854775808 : Int) ≤ (((List.length n0.2.2.2) : Nat) : Int) ∧ (((List.length n0.2.2.2) : Nat) : Int) ≤ (9223372036854775807 : Int))) then
          bif (decide (((List.length (Array.toList (List.toArray ([32] : List UInt8)))) + (List.length (@Go.Lib.itoa (((List.length n0.2.2.2) : Nat) : Int)))) ≤ maxLen)) then
           bif (decide (((List.length (((Array.toList (List.toArray ([115, 101, 114, 118, 101, 114] : List UInt8))) ++ (((Array.toList (List.toArray ([32] : List UInt8))) ++ (@Go.Lib.itoa n0.2.1)) ++ (Array.toList (List.toArray ([32] : List UInt8))))) ++ v3)) + (List.length ((Array.toList (List.toArray ([32] : List UInt8))) ++ (@Go.Lib.itoa (((List.length n0.2.2.2) : Nat) : Int))))) ≤ maxLen)) then
            some (((((Array.toList (List.toArray ([115, 101, 114, 118, 101, 114] : List UInt8))) ++ (((Array.toList (List.toArray ([32] : List UInt8))) ++ (@Go.Lib.itoa n0.2.1)) ++ (Array.toList (List.toArray ([32] : List UInt8))))) ++ v3) ++ ((Array.toList (List.toArray ([32] : List UInt8))) ++ (@Go.Lib.itoa (((List.length n0.2.2.2) : Nat) : Int)))))
           else
            none
          else
           none
         else
          none
        else
         some ((((Array.toList (List.toArray ([115, 101, 114, 118, 101, 114] : List UInt8))) ++ (((Array.toList (List.toArray ([32] : List UInt8))) ++ (@Go.Lib.itoa n0.2.1)) ++ (Array.toList (List.toArray ([32] : List UInt8))))) ++ v3))
       else
        none
     else
      none
    else
     none
   else
    none
  else
   none
theorem script_line_S (n0 : Bool × (Int × (Int × (List Int)))) : (runK Tryd.prog (Ev2 N) 400 40 [(.pair .bool (.pair (.int .i64) (.pair (.int .i64) (.sl (.int .u8)))))] [.str] (n0, ())).run = script_line N n0 := by kernel_rfl
theorem script_line_C (n0 : Bool × (Int × (Int × (List Int)))) (y : List UInt8) (h : script_line N n0 = some y) : CallsK Tryd.prog 40 (valA [(.pair .bool (.pair (.int .i64) (.pair (.int .i64) (.sl (.int .u8)))))] (n0, ())) (tupV (valR [.str] y)) := runK_ok hmx (Ev2_ok N _) (okFn_ok (by kernel_rfl)) (by rw [script_line_S]; exact h)
noncomputable def Ev3 : (R : Type) → Env R := Env.addFn (Ev2 N) 40 (fun R => fnK [(.pair .bool (.pair (.int .i64) (.pair (.int .i64) (.sl (.int .u8)))))] [.str] (fun c => script_line N c.1))
theorem Ev3_ok (R : Type) : EnvOK Tryd.prog (Ev3 N R) := EnvOK.addFn hmx (Ev2_ok N R) (Ev2_ok N _) (by kernel_rfl) (fun c => script_line_S N c.1)
end
end Go.Proofs.YtongdeioonikoaaDoor.Ln
namespace Go.Proofs.YtongdeioonikoaaDoor.Gt
open Go.RowKit Go.Proofs.YtongdeioonikoaaDoor
set_option linter.unusedVariables false
set_option maxRecDepth 100000
section
variable (N : Nat)
theorem hmx : Tryd.prog.follows .mixedOrders = true := by kernel_rfl
noncomputable def Ev0 (N : Nat) : (R : Type) → Env R := Env.addInl env0 []
theorem Ev0_ok (R : Type) : EnvOK Tryd.prog (Ev0 N R) := EnvOK.addInl (env0_ok R) (by kernel_rfl)
noncomputable def octs_place (N : Nat) (i0 : Int) (width1 : Int) (little2 : Bool) : Option Int :=
 bif little2 then
  some (i0)
 else
  some ((IntKind.wrap .i64 ((IntKind.wrap .i64 (width1 - 1)) - i0)))
theorem octs_place_S (i0 : Int) (width1 : Int) (little2 : Bool) : (runK Tryd.prog (Ev0 N) 400 52 [(.int .i64), (.int .i64), .bool] [(.int .i64)] (i0, width1, little2, ())).run = octs_place N i0 width1 little2 := by kernel_rfl
noncomputable def Ev1 : (R : Type) → Env R := Env.addFn (Ev0 N) 52 (fun R => fnK [(.int .i64), (.int .i64), .bool] [(.int .i64)] (fun c => octs_place N c.1 c.2.1 c.2.2.1))
theorem Ev1_ok (R : Type) : EnvOK Tryd.prog (Ev1 N R) := EnvOK.addFn hmx (Ev0_ok N R) (Ev0_ok N _) (by kernel_rfl) (fun c => octs_place_S N c.1 c.2.1 c.2.2.1)
noncomputable def octs_Get_L5_I : LI := ⟨37, 0, [], ⟨[(0, .ty (.sl (.int .u8))), (1, .ty .bool), (6, .ty (.int .u64)), (17, .ty (.int .i64)), (18, .ty (.int .i64))], []⟩, [(.exit 0, ⟨[(6, .ty (.int .u64))], []⟩)]⟩
noncomputable def octs_Get_L5 (X : (((List Int) × (Bool × (Int × (Int × (Int × Unit))))) × Unit) → Option (((Int × Unit) × Unit))) (b0 : List (Int)) (little1 : Bool) (n6 : Int) (x17 : Int) (x18 : Int) : Option (((Int × Unit) × Unit)) :=
 bif (decide (x18 < x17)) then
  Option.bind (octs_place N x18 (((List.length b0) : Nat) : Int) little1) fun v7 =>
  Option.bind (getI b0 v7) fun (v8 : Int) =>
  bif (decide ((0 : Int) ≤ (IntKind.wrap .i64 ((8 : Int) * x18)))) then
   (X ((b0, (little1, ((bits .or .u64 n6 (IntKind.wrap .u64 ((IntKind.wrap .u64 v8) * ((2 : Int) ^ (min (Int.toNat (IntKind.wrap .i64 ((8 : Int) * x18))) (IntKind.bits .u64)))))), (x17, ((IntKind.wrap .i64 (x18 + 1)), ()))))), ()))
  else
   none
 else
  some (((n6, ()), ()))
noncomputable def octs_Get_L5_R (c : (((List Int) × (Bool × (Int × (Int × (Int × Unit))))) × Unit)) : Option (((Int × Unit) × Unit)) := gl (fun X c => octs_Get_L5 N X c.1.1 c.1.2.1 c.1.2.2.1 c.1.2.2.2.1 c.1.2.2.2.2.1) N c
theorem octs_Get_L5_S (X : (((List Int) × (Bool × (Int × (Int × (Int × Unit))))) × Unit) → Option (((Int × Unit) × Unit))) (b0 : List (Int)) (little1 : Bool) (n6 : Int) (x17 : Int) (x18 : Int) : (roundK Tryd.prog (Ev1 N) 400 [47] octs_Get_L5_I (loopAt Tryd.prog [47] 5) X ((b0, little1, n6, x17, x18, ()), ())).run = octs_Get_L5 N X b0 little1 n6 x17 x18 := by kernel_rfl
noncomputable def Ev2 : (R : Type) → Env R := Env.addLp (Ev1 N) [47] 0 5 (fun R => lpK Tryd.prog octs_Get_L5_I (fun X c => octs_Get_L5 N X c.1.1 c.1.2.1 c.1.2.2.1 c.1.2.2.2.1 c.1.2.2.2.2.1) N)
theorem Ev2_ok (R : Type) : EnvOK Tryd.prog (Ev2 N R) := EnvOK.addLp (Ev1_ok N R) (by kernel_rfl) (lpK_ok (li := octs_Get_L5_I) (G := fun X c => octs_Get_L5 N X c.1.1 c.1.2.1 c.1.2.2.1 c.1.2.2.2.1 c.1.2.2.2.2.1) hmx (Ev1_ok N _) (by kernel_rfl) loopAt_sub (fun (X : CT octs_Get_L5_I.sh → Option (OT octs_Get_L5_I.outs)) (c : CT octs_Get_L5_I.sh) => octs_Get_L5_S N X c.1.1 c.1.2.1 c.1.2.2.1 c.1.2.2.2.1 c.1.2.2.2.2.1) N)
noncomputable def octs_Get (b0 : List (Int)) (little1 : Bool) : Option (Int × Int) :=
 bif (decide ((((List.length b0) : Nat) : Int) < (1 : Int))) then
  Option.bind (some (true)) fun (v3 : Bool) =>
  bif v3 then
   some (((0 : Int), (1 : Int)))
  else
   Option.bind (octs_Get_L5_R N ((b0, (little1, ((0 : Int), ((((List.length b0) : Nat) : Int), ((0 : Int), ()))))), ())) fun v4 =>
   some ((v4.1.1, (0 : Int)))
 else
  Option.bind (some ((cond false true (decide ((8 : Int) < (((List.length b0) : Nat) : Int)))))) fun (v3 : Bool) =>
  bif v3 then
   some (((0 : Int), (1 : Int)))
  else
   Option.bind (octs_Get_L5_R N ((b0, (little1, ((0 : Int), ((((List.length b0) : Nat) : Int), ((0 : Int), ()))))), ())) fun v4 =>
   some ((v4.1.1, (0 : Int)))
theorem octs_Get_S (b0 : List (Int)) (little1 : Bool) : (runK Tryd.prog (Ev2 N) 400 47 [(.sl (.int .u8)), .bool] [(.int .u64), (.int .i64)] (b0, little1, ())).run = octs_Get N b0 little1 := by kernel_rfl
theorem octs_Get_C (b0 : List (Int)) (little1 : Bool) (y : Int × Int) (h : octs_Get N b0 little1 = some y) : CallsK Tryd.prog 47 (valA [(.sl (.int .u8)), .bool] (b0, little1, ())) (tupV (valR [(.int .u64), (.int .i64)] y)) := runK_ok hmx (Ev2_ok N _) (okFn_ok (by kernel_rfl)) (by rw [octs_Get_S]; exact h)
noncomputable def Ev3 : (R : Type) → Env R := Env.addFn (Ev2 N) 47 (fun R => fnK [(.sl (.int .u8)), .bool] [(.int .u64), (.int .i64)] (fun c => octs_Get N c.1 c.2.1))
theorem Ev3_ok (R : Type) : EnvOK Tryd.prog (Ev3 N R) := EnvOK.addFn hmx (Ev2_ok N R) (Ev2_ok N _) (by kernel_rfl) (fun c => octs_Get_S N c.1 c.2.1)
end
end Go.Proofs.YtongdeioonikoaaDoor.Gt
namespace Go.Proofs.YtongdeioonikoaaDoor
set_option maxRecDepth 100000
open Go.RowKit
set_option linter.unusedVariables false
noncomputable def getK {R : Type} (args : List V) (k : V → Tree R) : Tree R := match args with
 | [.lst d l, .c (.bool b)] => castK d (.int .u8) (fun d => List (T d)) l fun l => .bind (Gt.octs_Get 200 l b) fun y => k (.tup [.c (.int .u64 y.1), .c (.int .i64 y.2)])
 | _ => .fail
theorem get_ok {R : Type} : ∀ args (k : V → Tree R) res, (getK args k).run = some res → ∃ r, (k r).run = some res ∧ r.plain = true ∧ (∀ l k, ex r ≠ .fresh l k) ∧ CallsV Tryd.prog 47 args r := by
 intro args k res h
 unfold getK at h
 split at h
 ·rename_i d l b
  obtain ⟨e1, h1⟩ := castK_run h
  subst e1
  obtain ⟨y, hy, h2⟩ := Tree.run_bind h1
  exact ⟨_, h2, rfl, (fun l k h => by cases h), (Gt.octs_Get_C 200 l b y hy).toV ⟨_, Tryd.func47, by decide +kernel, fun h => by
    have h2 : (Tryd.f47).body.isSome = true := by kernel_rfl
    rw [h] at h2
    cases h2⟩⟩
 ·cases h
abbrev NoteD : Td := .pair .bool (.pair (.int .i64) (.pair (.int .i64) (.sl (.int .u8))))
theorem note_cells (x : T NoteD) : cells NoteD x = [.c (.bool x.1), .c (.int .i64 x.2.1), .c (.int .i64 x.2.2.1), .sl (flat (.int .u8) x.2.2.2) 1] := rfl
theorem rel_one' {w : World} {B : List Nat} {x : AV} {v : Value} (h : Rel w B [] x v) (hx : (∃ u, x = .c u ∧ u.oneCell' = true) ∨ ∃ l k, x = .sl l k) : v.oneCell' = true := by
 rcases hx with ⟨u, rfl, hu⟩ | ⟨l, k, rfl⟩
 ·rw [h.ofC]; exact hu
 ·cases h; rfl
theorem note_at (l : List (T NoteD)) (i : Nat) (x : T NoteD) (h : l[i]? = some x) : ∀ j (y : AV), (cells NoteD x)[j]? = some y → (flat NoteD l)[i * 4 + j]? = some y := by
 intro j y hy
 have h1 := flat_at NoteD l i x h
 have hw : wd NoteD = 4 := rfl
 rw [hw] at h1
 have hj : j < 4 := by
  have := (List.getElem?_eq_some_iff.1 hy).1
  rw [cells_length, hw] at this
  exact this
 rw [← h1, List.getElem?_take, if_pos hj, List.getElem?_drop] at hy
 exact hy
noncomputable def script_TextF (N : Nat) (l : List (T NoteD)) : Option (List UInt8) := if l.length ≤ 1000000000 then txtR (Ln.script_line N) l [] else none
set_option maxRecDepth 100000 in
theorem text_C (N : Nat) (l : List (T NoteD)) (y : List UInt8) (h : script_TextF N l = some y) : CallsK Tryd.prog 22 [.lst NoteD l] (.str y) := by
 intro w B cargs hB hgl hlen hrel
 obtain ⟨v0, e0, r0⟩ := hrel 0 _ rfl
 have hc : cargs = [v0] := by
  match cargs, hlen, e0 with
  | [a], _, e0 => simp at e0; rw [e0]
 subst hc
 have r0' : Rel w B [] (.sl (flat NoteD l) 4) v0 := r0
 unfold script_TextF at h
 split at h
 case isFalse => cases h
 rename_i hl
 have hfl : (flat NoteD l).length = l.length * 4 := flat_length NoteD l
 obtain ⟨A, n, c, us, rfl, hn, hc, hm, hA, hr⟩ : ∃ A n c us, v0 = .slice A n c ∧ n * 4 = (flat NoteD l).length ∧ n ≤ c ∧ c ≤ maxLen ∧ (0 < n → ∃ ad, A = some ad ∧ At w B ad (flat NoteD l).length us) ∧ ∀ i x, (flat NoteD l)[i]? = some x → Rel w B [] x (us i) := by
  generalize v0 = v at r0'
  cases r0' with
  | sl _ l' k A n c us hk hn' hc hm hA hr => exact ⟨A, n, c, us, rfl, hn', hc, hm, hA, hr⟩
 have hnl : n = l.length := by omega
 subst hnl
 have hsh : ∀ (i : Nat) (x : T NoteD), l[i]? = some x → Rel w B [] (.c (.bool x.1)) (us (i * 4)) ∧ Rel w B [] (.c (.int .i64 x.2.1)) (us (i * 4 + 1)) ∧ Rel w B [] (.c (.int .i64 x.2.2.1)) (us (i * 4 + 2)) ∧ Rel w B [] (.sl (flat (.int .u8) x.2.2.2) 1) (us (i * 4 + 3)) := fun i x hx =>
  ⟨hr _ _ (note_at l i x hx 0 _ rfl), hr _ _ (note_at l i x hx 1 _ rfl), hr _ _ (note_at l i x hx 2 _ rfl), hr _ _ (note_at l i x hx 3 _ rfl)⟩
 refine (txt_walk (Ln.script_line N) l w A c us hl hc hm (fun j hj => ?_) (fun h0 => ?_) (fun wr i x t hx hb hf => ?_) y h).mono ?_
 ·have hq : j / 4 < l.length := by omega
  have hx := List.getElem?_eq_getElem hq
  obtain ⟨q0, q1, q2, q3⟩ := hsh (j / 4) _ hx
  have h4 : j % 4 = 0 ∨ j % 4 = 1 ∨ j % 4 = 2 ∨ j % 4 = 3 := by omega
  rcases h4 with h4 | h4 | h4 | h4
  ·rw [show j = j / 4 * 4 by omega]; exact rel_one' q0 (.inl ⟨_, rfl, rfl⟩)
  ·rw [show j = j / 4 * 4 + 1 by omega]; exact rel_one' q1 (.inl ⟨_, rfl, rfl⟩)
  ·rw [show j = j / 4 * 4 + 2 by omega]; exact rel_one' q2 (.inl ⟨_, rfl, rfl⟩)
  ·rw [show j = j / 4 * 4 + 3 by omega]; exact rel_one' q3 (.inr ⟨_, _, rfl⟩)
 ·obtain ⟨ad, rfl, hat⟩ := hA h0
  refine ⟨ad.block, ad.off, congrArg some (addr_mk hat.spot), hat.lt, fun j hj => ?_⟩
  have := hat.cell j (by omega)
  rw [addr_mk hat.spot, Addr.add_mid] at this
  exact this
 ·obtain ⟨q0, q1, q2, q3⟩ := hsh i x hx
  have hgr : Gr w wr := hb
  have hcall := Ln.script_line_C N x t hf wr B [.agg #[us (i * 4), us (i * 4 + 1), us (i * 4 + 2), us (i * 4 + 3)]] (fun b hb' => Nat.lt_of_lt_of_le (hB b hb') hb.size) (hgl.on (.gr hgr) (fun _ h => .inl h)) rfl (fun j a ha => by
   match j, ha with
   | 0, ha =>
    simp [valA] at ha; subst ha
    refine ⟨_, rfl, ?_⟩
    show Rel wr B [] (.agg (cells NoteD x)) _
    refine .agg _ _ _ (fun j => us (i * 4 + j)) rfl (fun j a ha => ?_) (fun j a ha => ?_)
    ·rw [note_cells] at ha
     match j, ha with
     | 0, _ => rfl
     | 1, _ => rfl
     | 2, _ => rfl
     | 3, _ => rfl
     | j + 4, ha => simp at ha
    ·rw [note_cells] at ha
     match j, ha with
     | 0, ha => simp at ha; subst ha; exact q0.gr hgr
     | 1, ha => simp at ha; subst ha; exact q1.gr hgr
     | 2, ha => simp at ha; subst ha; exact q2.gr hgr
     | 3, ha => simp at ha; subst ha; exact q3.gr hgr
     | j + 4, ha => simp at ha
   | j + 1, ha => simp [valA] at ha)
  refine hcall.mono ?_
  rintro e w' ⟨v, rfl, g, hr⟩
  have hr' : Rel w' B [] (.c (.string ⟨t.toArray⟩)) v := hr
  rw [hr'.ofC]
  exact ⟨rfl, g⟩
 ·rintro e w' ⟨rfl, hb⟩
  exact ⟨_, rfl, hb, .c _ _⟩
noncomputable def txK {R : Type} (args : List V) (k : V → Tree R) : Tree R := match args with
 | [.lst d l] => castK d NoteD (fun d => List (T d)) l fun l => .bind (script_TextF 200000 l) fun y => k (.str y)
 | _ => .fail
theorem tx_ok {R : Type} : ∀ args (k : V → Tree R) res, (txK args k).run = some res → ∃ r, (k r).run = some res ∧ r.plain = true ∧ (∀ l k, ex r ≠ .fresh l k) ∧ CallsV Tryd.prog 22 args r := by
 intro args k res h
 unfold txK at h
 split at h
 ·rename_i d l
  obtain ⟨e1, h1⟩ := castK_run h
  subst e1
  obtain ⟨y, hy, h2⟩ := Tree.run_bind h1
  exact ⟨_, h2, rfl, (fun l k h => by cases h), (text_C _ _ _ hy).toV ⟨_, Tryd.func22, by decide +kernel, fun h => by
    have h2 : (Tryd.f22).body.isSome = true := by kernel_rfl
    rw [h] at h2
    cases h2⟩⟩
 ·cases h
end Go.Proofs.YtongdeioonikoaaDoor
namespace Go.Proofs.YtongdeioonikoaaDoor
open Go.RowKit
set_option linter.unusedVariables false
set_option maxRecDepth 100000
section
variable (N : Nat)
theorem hmx : Tryd.prog.follows .mixedOrders = true := by kernel_rfl
noncomputable def Ev0 (N : Nat) : (R : Type) → Env R := Env.addInl env0 [23]
theorem Ev0_ok (R : Type) : EnvOK Tryd.prog (Ev0 N R) := EnvOK.addInl (env0_ok R) (by kernel_rfl)
noncomputable def Ev1 : (R : Type) → Env R := Env.addMv (Ev0 N) [(48, 3)]
theorem Ev1_ok (R : Type) : EnvOK Tryd.prog (Ev1 N R) := EnvOK.addMv (Ev0_ok N R) [(48, 3)]
noncomputable def Ev2 : (R : Type) → Env R := Env.addBx (Ev1 N) [(48, 3)]
theorem Ev2_ok (R : Type) : EnvOK Tryd.prog (Ev2 N R) := EnvOK.addBx (Ev1_ok N R) [(48, 3)]
noncomputable def sha256_Of_1_octs_Join_L3_I : LI := ⟨33, 1, [], ⟨[(0, .ty (.sl (.sl (.int .u8)))), (3, .ty (.int .i64)), (9, .ty (.sl (.sl (.int .u8)))), (10, .ty (.int .i64)), (11, .ty (.int .i64))], [.box 23 (.arr 32 (.int .u8))]⟩, [(.exit 0, ⟨[(0, .ty (.sl (.sl (.int .u8)))), (3, .ty (.int .i64))], [.box 23 (.arr 32 (.int .u8))]⟩)]⟩
noncomputable def sha256_Of_1_octs_Join_L3 (N : Nat) (X : (((List (List Int)) × (Int × ((List (List Int)) × (Int × (Int × Unit))))) × ((Arr Int 32) × Unit)) → Option ((((List (List Int)) × (Int × Unit)) × ((Arr Int 32) × Unit)))) (parts0 : List (List Int)) (size3 : Int) (x9 : List (List Int)) (x10 : Int) (x11 : Int) (h0 : Arr Int 32) : Option ((((List (List Int)) × (Int × Unit)) × ((Arr Int 32) × Unit))) :=
 bif (decide (x11 < x10)) then
  Option.bind (getI x9 x11) fun (v8 : (List Int)) =>
  (X ((parts0, ((IntKind.wrap .i64 (size3 + (((List.length v8) : Nat) : Int))), (x9, (x10, ((IntKind.wrap .i64 (x11 + 1)), ()))))), (h0, ())))
 else
  some (((parts0, (size3, ())), (h0, ())))
noncomputable def sha256_Of_1_octs_Join_L3_R (c : (((List (List Int)) × (Int × ((List (List Int)) × (Int × (Int × Unit))))) × ((Arr Int 32) × Unit))) : Option ((((List (List Int)) × (Int × Unit)) × ((Arr Int 32) × Unit))) := gl (fun X c => sha256_Of_1_octs_Join_L3 N X c.1.1 c.1.2.1 c.1.2.2.1 c.1.2.2.2.1 c.1.2.2.2.2.1 c.2.1) N c
theorem sha256_Of_1_octs_Join_L3_S (X : (((List (List Int)) × (Int × ((List (List Int)) × (Int × (Int × Unit))))) × ((Arr Int 32) × Unit)) → Option ((((List (List Int)) × (Int × Unit)) × ((Arr Int 32) × Unit)))) (parts0 : List (List Int)) (size3 : Int) (x9 : List (List Int)) (x10 : Int) (x11 : Int) (h0 : Arr Int 32) : (roundK Tryd.prog (Ev2 N) 400 [23, 1, 44] sha256_Of_1_octs_Join_L3_I (loopAt Tryd.prog [23, 1, 44] 3) X ((parts0, size3, x9, x10, x11, ()), (h0, ()))).run = sha256_Of_1_octs_Join_L3 N X parts0 size3 x9 x10 x11 h0 := by kernel_rfl
noncomputable def Ev3 : (R : Type) → Env R := Env.addLp (Ev2 N) [23, 1, 44] 1 3 (fun R => lpK Tryd.prog sha256_Of_1_octs_Join_L3_I (fun X c => sha256_Of_1_octs_Join_L3 N X c.1.1 c.1.2.1 c.1.2.2.1 c.1.2.2.2.1 c.1.2.2.2.2.1 c.2.1) N)
theorem Ev3_ok (R : Type) : EnvOK Tryd.prog (Ev3 N R) := EnvOK.addLp (Ev2_ok N R) (by kernel_rfl) (lpK_ok (li := sha256_Of_1_octs_Join_L3_I) (G := fun X c => sha256_Of_1_octs_Join_L3 N X c.1.1 c.1.2.1 c.1.2.2.1 c.1.2.2.2.1 c.1.2.2.2.2.1 c.2.1) hmx (Ev2_ok N _) (by kernel_rfl) loopAt_sub (fun (X : CT sha256_Of_1_octs_Join_L3_I.sh → Option (OT sha256_Of_1_octs_Join_L3_I.outs)) (c : CT sha256_Of_1_octs_Join_L3_I.sh) => sha256_Of_1_octs_Join_L3_S N X c.1.1 c.1.2.1 c.1.2.2.1 c.1.2.2.2.1 c.1.2.2.2.2.1 c.2.1) N)
noncomputable def sha256_Of_1_octs_Join_L9_I : LI := ⟨33, 1, [], ⟨[(6, .lit (.own 1)), (22, .ty (.sl (.sl (.int .u8)))), (23, .ty (.int .i64)), (24, .ty (.int .i64))], [.box 23 (.arr 32 (.int .u8)), .own (.int .u8) 5]⟩, [(.exit 2, ⟨[(6, .lit (.own 1))], [.box 23 (.arr 32 (.int .u8)), .own (.int .u8) 5]⟩)]⟩
noncomputable def sha256_Of_1_octs_Join_L9 (N : Nat) (X : (((List (List Int)) × (Int × (Int × Unit))) × ((Arr Int 32) × ((List Int) × Unit))) → Option ((Unit × ((Arr Int 32) × ((List Int) × Unit))))) (x22 : List (List Int)) (x23 : Int) (x24 : Int) (h0 : Arr Int 32) (h1 : List (Int)) : Option ((Unit × ((Arr Int 32) × ((List Int) × Unit)))) :=
 bif (decide (x24 < x23)) then
  Option.bind (getI x22 x24) fun (v7 : (List Int)) =>
  bif (roomB ((List.length h1) + (List.length v7)) 1) then
   (X ((x22, (x23, ((IntKind.wrap .i64 (x24 + 1)), ()))), (h0, ((h1 ++ v7), ()))))
  else
   none
 else
  some (((), (h0, (h1, ()))))
noncomputable def sha256_Of_1_octs_Join_L9_R (c : (((List (List Int)) × (Int × (Int × Unit))) × ((Arr Int 32) × ((List Int) × Unit)))) : Option ((Unit × ((Arr Int 32) × ((List Int) × Unit)))) := gl (fun X c => sha256_Of_1_octs_Join_L9 N X c.1.1 c.1.2.1 c.1.2.2.1 c.2.1 c.2.2.1) N c
theorem sha256_Of_1_octs_Join_L9_S (X : (((List (List Int)) × (Int × (Int × Unit))) × ((Arr Int 32) × ((List Int) × Unit))) → Option ((Unit × ((Arr Int 32) × ((List Int) × Unit))))) (x22 : List (List Int)) (x23 : Int) (x24 : Int) (h0 : Arr Int 32) (h1 : List (Int)) : (roundK Tryd.prog (Ev3 N) 400 [23, 1, 44] sha256_Of_1_octs_Join_L9_I (loopAt Tryd.prog [23, 1, 44] 9) X ((x22, x23, x24, ()), (h0, h1, ()))).run = sha256_Of_1_octs_Join_L9 N X x22 x23 x24 h0 h1 := by kernel_rfl
noncomputable def Ev4 : (R : Type) → Env R := Env.addLp (Ev3 N) [23, 1, 44] 1 9 (fun R => lpK Tryd.prog sha256_Of_1_octs_Join_L9_I (fun X c => sha256_Of_1_octs_Join_L9 N X c.1.1 c.1.2.1 c.1.2.2.1 c.2.1 c.2.2.1) N)
theorem Ev4_ok (R : Type) : EnvOK Tryd.prog (Ev4 N R) := EnvOK.addLp (Ev3_ok N R) (by kernel_rfl) (lpK_ok (li := sha256_Of_1_octs_Join_L9_I) (G := fun X c => sha256_Of_1_octs_Join_L9 N X c.1.1 c.1.2.1 c.1.2.2.1 c.2.1 c.2.2.1) hmx (Ev3_ok N _) (by kernel_rfl) loopAt_sub (fun (X : CT sha256_Of_1_octs_Join_L9_I.sh → Option (OT sha256_Of_1_octs_Join_L9_I.outs)) (c : CT sha256_Of_1_octs_Join_L9_I.sh) => sha256_Of_1_octs_Join_L9_S N X c.1.1 c.1.2.1 c.1.2.2.1 c.2.1 c.2.2.1) N)
noncomputable def octs_place (N : Nat) (i0 : Int) (width1 : Int) (little2 : Bool) : Option Int :=
 bif little2 then
  some (i0)
 else
  some ((IntKind.wrap .i64 ((IntKind.wrap .i64 (width1 - 1)) - i0)))
theorem octs_place_S (i0 : Int) (width1 : Int) (little2 : Bool) : (runK Tryd.prog (Ev4 N) 400 52 [(.int .i64), (.int .i64), .bool] [(.int .i64)] (i0, width1, little2, ())).run = octs_place N i0 width1 little2 := by kernel_rfl
noncomputable def Ev5 : (R : Type) → Env R := Env.addFn (Ev4 N) 52 (fun R => fnK [(.int .i64), (.int .i64), .bool] [(.int .i64)] (fun c => octs_place N c.1 c.2.1 c.2.2.1))
theorem Ev5_ok (R : Type) : EnvOK Tryd.prog (Ev5 N R) := EnvOK.addFn hmx (Ev4_ok N R) (Ev4_ok N _) (by kernel_rfl) (fun c => octs_place_S N c.1 c.2.1 c.2.2.1)
noncomputable def octs_Put_L5_I : LI := ⟨35, 0, [], ⟨[(0, .ty (.int .u64)), (1, .ty (.int .i64)), (2, .ty .bool), (8, .lit (.own 0)), (19, .ty (.int .i64)), (20, .ty (.int .i64))], [.own (.int .u8) 5]⟩, [(.exit 0, ⟨[(8, .lit (.own 0))], [.own (.int .u8) 5]⟩)]⟩
noncomputable def octs_Put_L5 (X : ((Int × (Int × (Bool × (Int × (Int × Unit))))) × ((List Int) × Unit)) → Option ((Unit × ((List Int) × Unit)))) (n0 : Int) (width1 : Int) (little2 : Bool) (x19 : Int) (x20 : Int) (h0 : List (Int)) : Option ((Unit × ((List Int) × Unit))) :=
 bif (decide (x20 < x19)) then
  Option.bind (octs_place N x20 width1 little2) fun v8 =>
  bif (decide ((0 : Int) ≤ v8 ∧ v8 < (((List.length h0) : Nat) : Int))) then
   Option.bind (h0[Int.toNat v8]?) fun (v9 : Int) =>
   (X (((@Int.fdiv n0 ((2 : Int) ^ (min (Int.toNat (8 : Int)) (IntKind.bits .u64)))), (width1, (little2, (x19, ((IntKind.wrap .i64 (x20 + 1)), ()))))), ((@List.set Int h0 (Int.toNat v8) (IntKind.wrap .u8 n0)), ())))
  else
   none
 else
  some (((), (h0, ())))
noncomputable def octs_Put_L5_R (c : ((Int × (Int × (Bool × (Int × (Int × Unit))))) × ((List Int) × Unit))) : Option ((Unit × ((List Int) × Unit))) := gl (fun X c => octs_Put_L5 N X c.1.1 c.1.2.1 c.1.2.2.1 c.1.2.2.2.1 c.1.2.2.2.2.1 c.2.1) N c
theorem octs_Put_L5_S (X : ((Int × (Int × (Bool × (Int × (Int × Unit))))) × ((List Int) × Unit)) → Option ((Unit × ((List Int) × Unit)))) (n0 : Int) (width1 : Int) (little2 : Bool) (x19 : Int) (x20 : Int) (h0 : List (Int)) : (roundK Tryd.prog (Ev5 N) 400 [42] octs_Put_L5_I (loopAt Tryd.prog [42] 5) X ((n0, width1, little2, x19, x20, ()), (h0, ()))).run = octs_Put_L5 N X n0 width1 little2 x19 x20 h0 := by kernel_rfl
noncomputable def Ev6 : (R : Type) → Env R := Env.addLp (Ev5 N) [42] 0 5 (fun R => lpK Tryd.prog octs_Put_L5_I (fun X c => octs_Put_L5 N X c.1.1 c.1.2.1 c.1.2.2.1 c.1.2.2.2.1 c.1.2.2.2.2.1 c.2.1) N)
theorem Ev6_ok (R : Type) : EnvOK Tryd.prog (Ev6 N R) := EnvOK.addLp (Ev5_ok N R) (by kernel_rfl) (lpK_ok (li := octs_Put_L5_I) (G := fun X c => octs_Put_L5 N X c.1.1 c.1.2.1 c.1.2.2.1 c.1.2.2.2.1 c.1.2.2.2.2.1 c.2.1) hmx (Ev5_ok N _) (by kernel_rfl) loopAt_sub (fun (X : CT octs_Put_L5_I.sh → Option (OT octs_Put_L5_I.outs)) (c : CT octs_Put_L5_I.sh) => octs_Put_L5_S N X c.1.1 c.1.2.1 c.1.2.2.1 c.1.2.2.2.1 c.1.2.2.2.2.1 c.2.1) N)
noncomputable def octs_Put (n0 : Int) (width1 : Int) (little2 : Bool) : Option ((List Int) × Int) :=
 Option.bind (bif (decide (width1 < (1 : Int))) then
   some (true)
  else
   some ((cond false true (decide ((8 : Int) < width1))))) fun (v4 : Bool) =>
 bif v4 then
  some ((([] : List Int), (1 : Int)))
 else
  bif ((decide ((0 : Int) ≤ width1 ∧ width1 ≤ width1)) && (roomB (Int.toNat width1) 1)) then
   Option.bind (octs_Put_L5_R N ((n0, (width1, (little2, ((((List.length (@List.replicate Int (Int.toNat width1) (0 : Int))) : Nat) : Int), ((0 : Int), ()))))), ((@List.replicate Int (Int.toNat width1) (0 : Int)), ()))) fun v5 =>
   some ((v5.2.1, (0 : Int)))
  else
   none
theorem octs_Put_S (n0 : Int) (width1 : Int) (little2 : Bool) : (runK Tryd.prog (Ev6 N) 400 42 [(.int .u64), (.int .i64), .bool] [(.sl (.int .u8)), (.int .i64)] (n0, width1, little2, ())).run = octs_Put N n0 width1 little2 := by kernel_rfl
noncomputable def Ev7 : (R : Type) → Env R := Env.addFn (Ev6 N) 42 (fun R => fnK [(.int .u64), (.int .i64), .bool] [(.sl (.int .u8)), (.int .i64)] (fun c => octs_Put N c.1 c.2.1 c.2.2.1))
theorem Ev7_ok (R : Type) : EnvOK Tryd.prog (Ev7 N R) := EnvOK.addFn hmx (Ev6_ok N R) (Ev6_ok N _) (by kernel_rfl) (fun c => octs_Put_S N c.1 c.2.1 c.2.2.1)
noncomputable def sha256_Tail_3_octs_Join_L3_I : LI := ⟨33, 1, [], ⟨[(0, .ty (.sl (.sl (.int .u8)))), (3, .ty (.int .i64)), (9, .ty (.sl (.sl (.int .u8)))), (10, .ty (.int .i64)), (11, .ty (.int .i64))], [.dead]⟩, [(.exit 0, ⟨[(0, .ty (.sl (.sl (.int .u8)))), (3, .ty (.int .i64))], [.dead]⟩)]⟩
noncomputable def sha256_Tail_3_octs_Join_L3 (N : Nat) (X : (((List (List Int)) × (Int × ((List (List Int)) × (Int × (Int × Unit))))) × Unit) → Option ((((List (List Int)) × (Int × Unit)) × Unit))) (parts0 : List (List Int)) (size3 : Int) (x9 : List (List Int)) (x10 : Int) (x11 : Int) : Option ((((List (List Int)) × (Int × Unit)) × Unit)) :=
 bif (decide (x11 < x10)) then
  Option.bind (getI x9 x11) fun (v7 : (List Int)) =>
  (X ((parts0, ((IntKind.wrap .i64 (size3 + (((List.length v7) : Nat) : Int))), (x9, (x10, ((IntKind.wrap .i64 (x11 + 1)), ()))))), ()))
 else
  some (((parts0, (size3, ())), ()))
noncomputable def sha256_Tail_3_octs_Join_L3_R (c : (((List (List Int)) × (Int × ((List (List Int)) × (Int × (Int × Unit))))) × Unit)) : Option ((((List (List Int)) × (Int × Unit)) × Unit)) := gl (fun X c => sha256_Tail_3_octs_Join_L3 N X c.1.1 c.1.2.1 c.1.2.2.1 c.1.2.2.2.1 c.1.2.2.2.2.1) N c
theorem sha256_Tail_3_octs_Join_L3_S (X : (((List (List Int)) × (Int × ((List (List Int)) × (Int × (Int × Unit))))) × Unit) → Option ((((List (List Int)) × (Int × Unit)) × Unit))) (parts0 : List (List Int)) (size3 : Int) (x9 : List (List Int)) (x10 : Int) (x11 : Int) : (roundK Tryd.prog (Ev7 N) 400 [23, 3, 53] sha256_Tail_3_octs_Join_L3_I (loopAt Tryd.prog [23, 3, 53] 3) X ((parts0, size3, x9, x10, x11, ()), ())).run = sha256_Tail_3_octs_Join_L3 N X parts0 size3 x9 x10 x11 := by kernel_rfl
noncomputable def Ev8 : (R : Type) → Env R := Env.addLp (Ev7 N) [23, 3, 53] 1 3 (fun R => lpK Tryd.prog sha256_Tail_3_octs_Join_L3_I (fun X c => sha256_Tail_3_octs_Join_L3 N X c.1.1 c.1.2.1 c.1.2.2.1 c.1.2.2.2.1 c.1.2.2.2.2.1) N)
theorem Ev8_ok (R : Type) : EnvOK Tryd.prog (Ev8 N R) := EnvOK.addLp (Ev7_ok N R) (by kernel_rfl) (lpK_ok (li := sha256_Tail_3_octs_Join_L3_I) (G := fun X c => sha256_Tail_3_octs_Join_L3 N X c.1.1 c.1.2.1 c.1.2.2.1 c.1.2.2.2.1 c.1.2.2.2.2.1) hmx (Ev7_ok N _) (by kernel_rfl) loopAt_sub (fun (X : CT sha256_Tail_3_octs_Join_L3_I.sh → Option (OT sha256_Tail_3_octs_Join_L3_I.outs)) (c : CT sha256_Tail_3_octs_Join_L3_I.sh) => sha256_Tail_3_octs_Join_L3_S N X c.1.1 c.1.2.1 c.1.2.2.1 c.1.2.2.2.1 c.1.2.2.2.2.1) N)
noncomputable def sha256_Tail_3_octs_Join_L9_I : LI := ⟨33, 1, [], ⟨[(6, .lit (.own 1)), (22, .ty (.sl (.sl (.int .u8)))), (23, .ty (.int .i64)), (24, .ty (.int .i64))], [.dead, .own (.int .u8) 5]⟩, [(.exit 2, ⟨[(6, .lit (.own 1))], [.dead, .own (.int .u8) 5]⟩)]⟩
noncomputable def sha256_Tail_3_octs_Join_L9 (N : Nat) (X : (((List (List Int)) × (Int × (Int × Unit))) × ((List Int) × Unit)) → Option ((Unit × ((List Int) × Unit)))) (x22 : List (List Int)) (x23 : Int) (x24 : Int) (h0 : List (Int)) : Option ((Unit × ((List Int) × Unit))) :=
 bif (decide (x24 < x23)) then
  Option.bind (getI x22 x24) fun (v6 : (List Int)) =>
  bif (roomB ((List.length h0) + (List.length v6)) 1) then
   (X ((x22, (x23, ((IntKind.wrap .i64 (x24 + 1)), ()))), ((h0 ++ v6), ())))
  else
   none
 else
  some (((), (h0, ())))
noncomputable def sha256_Tail_3_octs_Join_L9_R (c : (((List (List Int)) × (Int × (Int × Unit))) × ((List Int) × Unit))) : Option ((Unit × ((List Int) × Unit))) := gl (fun X c => sha256_Tail_3_octs_Join_L9 N X c.1.1 c.1.2.1 c.1.2.2.1 c.2.1) N c
theorem sha256_Tail_3_octs_Join_L9_S (X : (((List (List Int)) × (Int × (Int × Unit))) × ((List Int) × Unit)) → Option ((Unit × ((List Int) × Unit)))) (x22 : List (List Int)) (x23 : Int) (x24 : Int) (h0 : List (Int)) : (roundK Tryd.prog (Ev8 N) 400 [23, 3, 53] sha256_Tail_3_octs_Join_L9_I (loopAt Tryd.prog [23, 3, 53] 9) X ((x22, x23, x24, ()), (h0, ()))).run = sha256_Tail_3_octs_Join_L9 N X x22 x23 x24 h0 := by kernel_rfl
noncomputable def Ev9 : (R : Type) → Env R := Env.addLp (Ev8 N) [23, 3, 53] 1 9 (fun R => lpK Tryd.prog sha256_Tail_3_octs_Join_L9_I (fun X c => sha256_Tail_3_octs_Join_L9 N X c.1.1 c.1.2.1 c.1.2.2.1 c.2.1) N)
theorem Ev9_ok (R : Type) : EnvOK Tryd.prog (Ev9 N R) := EnvOK.addLp (Ev8_ok N R) (by kernel_rfl) (lpK_ok (li := sha256_Tail_3_octs_Join_L9_I) (G := fun X c => sha256_Tail_3_octs_Join_L9 N X c.1.1 c.1.2.1 c.1.2.2.1 c.2.1) hmx (Ev8_ok N _) (by kernel_rfl) loopAt_sub (fun (X : CT sha256_Tail_3_octs_Join_L9_I.sh → Option (OT sha256_Tail_3_octs_Join_L9_I.outs)) (c : CT sha256_Tail_3_octs_Join_L9_I.sh) => sha256_Tail_3_octs_Join_L9_S N X c.1.1 c.1.2.1 c.1.2.2.1 c.2.1) N)
noncomputable def sha256_Tail (n0 : Int) : Option (List Int) :=
 Option.bind (octs_Put N (IntKind.wrap .u64 ((8 : Int) * n0)) (8 : Int) false) fun v2 =>
 bif ((decide ((0 : Int) ≤ (@Int.tmod (IntKind.wrap .u64 ((119 : Int) - (@Int.tmod n0 (64 : Int)))) (64 : Int)) ∧ (@Int.tmod (IntKind.wrap .u64 ((119 : Int) - (@Int.tmod n0 (64 : Int)))) (64 : Int)) ≤ (@Int.tmod (IntKind.wrap .u64 ((119 : Int) - (@Int.tmod n0 (64 : Int)))) (64 : Int)))) && (roomB (Int.toNat (@Int.tmod (IntKind.wrap .u64 ((119 : Int) - (@Int.tmod n0 (64 : Int)))) (64 : Int))) 1)) then
  Option.bind (sha256_Tail_3_octs_Join_L3_R N ((([([128] : List Int), (@List.replicate Int (Int.toNat (@Int.tmod (IntKind.wrap .u64 ((119 : Int) - (@Int.tmod n0 (64 : Int)))) (64 : Int))) (0 : Int)), v2.1] : List ((List Int))), ((0 : Int), (([([128] : List Int), (@List.replicate Int (Int.toNat (@Int.tmod (IntKind.wrap .u64 ((119 : Int) - (@Int.tmod n0 (64 : Int)))) (64 : Int))) (0 : Int)), v2.1] : List ((List Int))), ((((List.length ([([128] : List Int), (@List.replicate Int (Int.toNat (@Int.tmod (IntKind.wrap .u64 ((119 : Int) - (@Int.tmod n0 (64 : Int)))) (64 : Int))) (0 : Int)), v2.1] : List ((List Int)))) : Nat) : Int), ((0 : Int), ()))))), ())) fun v3 =>
  bif ((decide ((0 : Int) ≤ (0 : Int) ∧ (0 : Int) ≤ v3.1.2.1)) && (roomB (Int.toNat v3.1.2.1) 1)) then
   Option.bind (sha256_Tail_3_octs_Join_L9_R N ((v3.1.1, ((((List.length v3.1.1) : Nat) : Int), ((0 : Int), ()))), ((@List.replicate Int (Int.toNat (0 : Int)) (0 : Int)), ()))) fun v4 =>
   some (v4.2.1)
  else
   none
 else
  none
theorem sha256_Tail_S (n0 : Int) : (runK Tryd.prog (Ev9 N) 400 53 [(.int .u64)] [(.sl (.int .u8))] (n0, ())).run = sha256_Tail N n0 := by kernel_rfl
noncomputable def Ev10 : (R : Type) → Env R := Env.addFn (Ev9 N) 53 (fun R => fnK [(.int .u64)] [(.sl (.int .u8))] (fun c => sha256_Tail N c.1))
theorem Ev10_ok (R : Type) : EnvOK Tryd.prog (Ev10 N R) := EnvOK.addFn hmx (Ev9_ok N R) (Ev9_ok N _) (by kernel_rfl) (fun c => sha256_Tail_S N c.1)
noncomputable def Ev11 : (R : Type) → Env R := Env.addMv (Ev10 N) [(64, 5)]
theorem Ev11_ok (R : Type) : EnvOK Tryd.prog (Ev11 N R) := EnvOK.addMv (Ev10_ok N R) [(64, 5)]
noncomputable def Ev12 : (R : Type) → Env R := Env.addMv (Ev11 N) [(72, 11)]
theorem Ev12_ok (R : Type) : EnvOK Tryd.prog (Ev12 N R) := EnvOK.addMv (Ev11_ok N R) [(72, 11)]
noncomputable def roots_Primes_L7_I : LI := ⟨31, 0, [], ⟨[(0, .ty (.int .i64)), (3, .lit (.own 0)), (4, .ty (.int .i64)), (15, .lit (.own 0)), (16, .ty (.int .i64)), (17, .ty (.int .i64))], [.own (.int .i64) 3]⟩, [(.exit 1, ⟨[(0, .ty (.int .i64)), (3, .lit (.own 0)), (4, .ty (.int .i64))], [.own (.int .i64) 3]⟩), (.exit 2, ⟨[(0, .ty (.int .i64)), (3, .lit (.own 0)), (4, .ty (.int .i64))], [.own (.int .i64) 3]⟩)]⟩
noncomputable def roots_Primes_L7 (N : Nat) (X : ((Int × (Int × (Int × (Int × Unit)))) × ((List Int) × Unit)) → Option ((((Int × (Int × Unit)) × ((List Int) × Unit)) ⊕ ((Int × (Int × Unit)) × ((List Int) × Unit))))) (many0 : Int) (n4 : Int) (x16 : Int) (x17 : Int) (h0 : List (Int)) : Option ((((Int × (Int × Unit)) × ((List Int) × Unit)) ⊕ ((Int × (Int × Unit)) × ((List Int) × Unit)))) :=
 bif (decide (x17 < x16)) then
  bif (decide ((0 : Int) ≤ x17 ∧ x17 < (((List.length h0) : Nat) : Int))) then
   Option.bind (h0[Int.toNat x17]?) fun (v7 : Int) =>
   bif (decide (v7 = (0 : Int))) then
    none
   else
    bif (decide ((@Int.tmod n4 v7) = (0 : Int))) then
     some ((.inl ((many0, (n4, ())), (h0, ()))))
    else
     (X ((many0, (n4, (x16, ((IntKind.wrap .i64 (x17 + 1)), ())))), (h0, ())))
  else
   none
 else
  some ((.inr ((many0, (n4, ())), (h0, ()))))
noncomputable def roots_Primes_L7_R (c : ((Int × (Int × (Int × (Int × Unit)))) × ((List Int) × Unit))) : Option ((((Int × (Int × Unit)) × ((List Int) × Unit)) ⊕ ((Int × (Int × Unit)) × ((List Int) × Unit)))) := gl (fun X c => roots_Primes_L7 N X c.1.1 c.1.2.1 c.1.2.2.1 c.1.2.2.2.1 c.2.1) N c
theorem roots_Primes_L7_S (X : ((Int × (Int × (Int × (Int × Unit)))) × ((List Int) × Unit)) → Option ((((Int × (Int × Unit)) × ((List Int) × Unit)) ⊕ ((Int × (Int × Unit)) × ((List Int) × Unit))))) (many0 : Int) (n4 : Int) (x16 : Int) (x17 : Int) (h0 : List (Int)) : (roundK Tryd.prog (Ev12 N) 400 [72] roots_Primes_L7_I (loopAt Tryd.prog [72] 7) X ((many0, n4, x16, x17, ()), (h0, ()))).run = roots_Primes_L7 N X many0 n4 x16 x17 h0 := by kernel_rfl
noncomputable def Ev13 : (R : Type) → Env R := Env.addLp (Ev12 N) [72] 0 7 (fun R => lpK Tryd.prog roots_Primes_L7_I (fun X c => roots_Primes_L7 N X c.1.1 c.1.2.1 c.1.2.2.1 c.1.2.2.2.1 c.2.1) N)
theorem Ev13_ok (R : Type) : EnvOK Tryd.prog (Ev13 N R) := EnvOK.addLp (Ev12_ok N R) (by kernel_rfl) (lpK_ok (li := roots_Primes_L7_I) (G := fun X c => roots_Primes_L7 N X c.1.1 c.1.2.1 c.1.2.2.1 c.1.2.2.2.1 c.2.1) hmx (Ev12_ok N _) (by kernel_rfl) loopAt_sub (fun (X : CT roots_Primes_L7_I.sh → Option (OT roots_Primes_L7_I.outs)) (c : CT roots_Primes_L7_I.sh) => roots_Primes_L7_S N X c.1.1 c.1.2.1 c.1.2.2.1 c.1.2.2.2.1 c.2.1) N)
noncomputable def roots_Primes_L4_I : LI := ⟨31, 0, [(3, 3)], ⟨[(0, .ty (.int .i64)), (3, .lit (.own 0)), (4, .ty (.int .i64))], [.own (.int .i64) 3]⟩, [(.exit 0, ⟨[(3, .lit (.own 0))], [.own (.int .i64) 3]⟩)]⟩
noncomputable def roots_Primes_L4 (X : ((Int × (Int × Unit)) × ((List Int) × Unit)) → Option ((Unit × ((List Int) × Unit)))) (many0 : Int) (n4 : Int) (h0 : List (Int)) : Option ((Unit × ((List Int) × Unit))) :=
 bif (decide ((((List.length h0) : Nat) : Int) < many0)) then
  Option.bind (roots_Primes_L7_R N ((many0, (n4, ((((List.length h0) : Nat) : Int), ((0 : Int), ())))), (h0, ()))) fun v5 =>
  Sum.elim
   (fun (v6 : ((Int × (Int × Unit)) × ((List Int) × Unit))) =>
   (X ((v6.1.1, ((IntKind.wrap .i64 (v6.1.2.1 + 1)), ())), (v6.2.1, ()))))
   (fun (v6 : ((Int × (Int × Unit)) × ((List Int) × Unit))) =>
   bif (roomB ((List.length v6.2.1) + (List.length ([v6.1.2.1] : List (Int)))) 8) then
    (X ((v6.1.1, ((IntKind.wrap .i64 (v6.1.2.1 + 1)), ())), ((v6.2.1 ++ ([v6.1.2.1] : List (Int))), ())))
   else
    none) v5
 else
  some (((), (h0, ())))
noncomputable def roots_Primes_L4_R (c : ((Int × (Int × Unit)) × ((List Int) × Unit))) : Option ((Unit × ((List Int) × Unit))) := gl (fun X c => roots_Primes_L4 N X c.1.1 c.1.2.1 c.2.1) N c
theorem roots_Primes_L4_S (X : ((Int × (Int × Unit)) × ((List Int) × Unit)) → Option ((Unit × ((List Int) × Unit)))) (many0 : Int) (n4 : Int) (h0 : List (Int)) : (roundK Tryd.prog (Ev13 N) 400 [72] roots_Primes_L4_I (loopAt Tryd.prog [72] 4) X ((many0, n4, ()), (h0, ()))).run = roots_Primes_L4 N X many0 n4 h0 := by kernel_rfl
noncomputable def Ev14 : (R : Type) → Env R := Env.addLp (Ev13 N) [72] 0 4 (fun R => lpK Tryd.prog roots_Primes_L4_I (fun X c => roots_Primes_L4 N X c.1.1 c.1.2.1 c.2.1) N)
theorem Ev14_ok (R : Type) : EnvOK Tryd.prog (Ev14 N R) := EnvOK.addLp (Ev13_ok N R) (by kernel_rfl) (lpK_ok (li := roots_Primes_L4_I) (G := fun X c => roots_Primes_L4 N X c.1.1 c.1.2.1 c.2.1) hmx (Ev13_ok N _) (by kernel_rfl) loopAt_sub (fun (X : CT roots_Primes_L4_I.sh → Option (OT roots_Primes_L4_I.outs)) (c : CT roots_Primes_L4_I.sh) => roots_Primes_L4_S N X c.1.1 c.1.2.1 c.2.1) N)
noncomputable def roots_Primes (many0 : Int) : Option (List Int) :=
 Option.bind (roots_Primes_L4_R N (((@minI many0 (168 : Int)), ((2 : Int), ())), (([] : List Int), ()))) fun v2 =>
 some (v2.2.1)
theorem roots_Primes_S (many0 : Int) : (runK Tryd.prog (Ev14 N) 400 72 [(.int .i64)] [(.sl (.int .i64))] (many0, ())).run = roots_Primes N many0 := by kernel_rfl
noncomputable def Ev15 : (R : Type) → Env R := Env.addFn (Ev14 N) 72 (fun R => fnK [(.int .i64)] [(.sl (.int .i64))] (fun c => roots_Primes N c.1))
theorem Ev15_ok (R : Type) : EnvOK Tryd.prog (Ev15 N R) := EnvOK.addFn hmx (Ev14_ok N R) (Ev14_ok N _) (by kernel_rfl) (fun c => roots_Primes_S N c.1)
noncomputable def roots_may (N : Nat) (n0 : Int) (degree1 : Int) (bits2 : Int) : Option Bool :=
 Option.bind (bif (decide ((0 : Int) ≤ n0)) then
   some ((cond true (decide (n0 ≤ (1000 : Int))) false))
  else
   some (false)) fun (v4 : Bool) =>
 Option.bind (bif v4 then
   bif (decide (degree1 = (2 : Int))) then
    some ((cond true true false))
   else
    some ((cond true (cond false true (decide (degree1 = (3 : Int)))) false))
  else
   some (false)) fun (v5 : Bool) =>
 Option.bind (bif v5 then
   some ((cond true (decide ((0 : Int) ≤ bits2)) false))
  else
   some (false)) fun (v6 : Bool) =>
 Option.bind (bif v6 then
   some ((cond true (decide (bits2 ≤ (32 : Int))) false))
  else
   some (false)) fun (v7 : Bool) =>
 some (v7)
theorem roots_may_S (n0 : Int) (degree1 : Int) (bits2 : Int) : (runK Tryd.prog (Ev15 N) 400 89 [(.int .i64), (.int .i64), (.int .i64)] [.bool] (n0, degree1, bits2, ())).run = roots_may N n0 degree1 bits2 := by kernel_rfl
noncomputable def Ev16 : (R : Type) → Env R := Env.addFn (Ev15 N) 89 (fun R => fnK [(.int .i64), (.int .i64), (.int .i64)] [.bool] (fun c => roots_may N c.1 c.2.1 c.2.2.1))
theorem Ev16_ok (R : Type) : EnvOK Tryd.prog (Ev16 N R) := EnvOK.addFn hmx (Ev15_ok N R) (Ev15_ok N _) (by kernel_rfl) (fun c => roots_may_S N c.1 c.2.1 c.2.2.1)
noncomputable def math_bits_Mul64 (N : Nat) (x0 : Int) (y1 : Int) : Option (Int × Int) :=
 some (((IntKind.wrap .u64 ((IntKind.wrap .u64 ((IntKind.wrap .u64 ((@Int.fdiv x0 ((2 : Int) ^ (min (Int.toNat (32 : Int)) (IntKind.bits .u64)))) * (@Int.fdiv y1 ((2 : Int) ^ (min (Int.toNat (32 : Int)) (IntKind.bits .u64)))))) + (@Int.fdiv (IntKind.wrap .u64 ((IntKind.wrap .u64 ((@Int.fdiv x0 ((2 : Int) ^ (min (Int.toNat (32 : Int)) (IntKind.bits .u64)))) * (bits .and .u64 y1 (4294967295 : Int)))) + (@Int.fdiv (IntKind.wrap .u64 ((bits .and .u64 x0 (4294967295 : Int)) * (bits .and .u64 y1 (4294967295 : Int)))) ((2 : Int) ^ (min (Int.toNat (32 : Int)) (IntKind.bits .u64)))))) ((2 : Int) ^ (min (Int.toNat (32 : Int)) (IntKind.bits .u64)))))) + (@Int.fdiv (IntKind.wrap .u64 ((bits .and .u64 (IntKind.wrap .u64 ((IntKind.wrap .u64 ((@Int.fdiv x0 ((2 : Int) ^ (min (Int.toNat (32 : Int)) (IntKind.bits .u64)))) * (bits .and .u64 y1 (4294967295 : Int)))) + (@Int.fdiv (IntKind.wrap .u64 ((bits .and .u64 x0 (4294967295 : Int)) * (bits .and .u64 y1 (4294967295 : Int)))) ((2 : Int) ^ (min (Int.toNat (32 : Int)) (IntKind.bits .u64)))))) (4294967295 : Int)) + (IntKind.wrap .u64 ((bits .and .u64 x0 (4294967295 : Int)) * (@Int.fdiv y1 ((2 : Int) ^ (min (Int.toNat (32 : Int)) (IntKind.bits .u64)))))))) ((2 : Int) ^ (min (Int.toNat (32 : Int)) (IntKind.bits .u64)))))), (IntKind.wrap .u64 (x0 * y1))))
theorem math_bits_Mul64_S (x0 : Int) (y1 : Int) : (runK Tryd.prog (Ev16 N) 400 96 [(.int .u64), (.int .u64)] [(.int .u64), (.int .u64)] (x0, y1, ())).run = math_bits_Mul64 N x0 y1 := by kernel_rfl
noncomputable def Ev17 : (R : Type) → Env R := Env.addFn (Ev16 N) 96 (fun R => fnK [(.int .u64), (.int .u64)] [(.int .u64), (.int .u64)] (fun c => math_bits_Mul64 N c.1 c.2.1))
theorem Ev17_ok (R : Type) : EnvOK Tryd.prog (Ev17 N R) := EnvOK.addFn hmx (Ev16_ok N R) (Ev16_ok N _) (by kernel_rfl) (fun c => math_bits_Mul64_S N c.1 c.2.1)
noncomputable def roots_power (N : Nat) (x0 : Int) (degree1 : Int) : Option (Int × Int) :=
 bif (decide (degree1 = (2 : Int))) then
  some (((IntKind.wrap .u64 ((IntKind.wrap .u64 ((IntKind.wrap .u64 ((@Int.fdiv x0 ((2 : Int) ^ (min (Int.toNat (32 : Int)) (IntKind.bits .u64)))) * (@Int.fdiv x0 ((2 : Int) ^ (min (Int.toNat (32 : Int)) (IntKind.bits .u64)))))) + (@Int.fdiv (IntKind.wrap .u64 ((IntKind.wrap .u64 ((@Int.fdiv x0 ((2 : Int) ^ (min (Int.toNat (32 : Int)) (IntKind.bits .u64)))) * (bits .and .u64 x0 (4294967295 : Int)))) + (@Int.fdiv (IntKind.wrap .u64 ((bits .and .u64 x0 (4294967295 : Int)) * (bits .and .u64 x0 (4294967295 : Int)))) ((2 : Int) ^ (min (Int.toNat (32 : Int)) (IntKind.bits .u64)))))) ((2 : Int) ^ (min (Int.toNat (32 : Int)) (IntKind.bits .u64)))))) + (@Int.fdiv (IntKind.wrap .u64 ((bits .and .u64 (IntKind.wrap .u64 ((IntKind.wrap .u64 ((@Int.fdiv x0 ((2 : Int) ^ (min (Int.toNat (32 : Int)) (IntKind.bits .u64)))) * (bits .and .u64 x0 (4294967295 : Int)))) + (@Int.fdiv (IntKind.wrap .u64 ((bits .and .u64 x0 (4294967295 : Int)) * (bits .and .u64 x0 (4294967295 : Int)))) ((2 : Int) ^ (min (Int.toNat (32 : Int)) (IntKind.bits .u64)))))) (4294967295 : Int)) + (IntKind.wrap .u64 ((bits .and .u64 x0 (4294967295 : Int)) * (@Int.fdiv x0 ((2 : Int) ^ (min (Int.toNat (32 : Int)) (IntKind.bits .u64)))))))) ((2 : Int) ^ (min (Int.toNat (32 : Int)) (IntKind.bits .u64)))))), (IntKind.wrap .u64 (x0 * x0))))
 else
  some (((IntKind.wrap .u64 ((IntKind.wrap .u64 ((IntKind.wrap .u64 ((IntKind.wrap .u64 ((IntKind.wrap .u64 ((@Int.fdiv x0 ((2 : Int) ^ (min (Int.toNat (32 : Int)) (IntKind.bits .u64)))) * (@Int.fdiv x0 ((2 : Int) ^ (min (Int.toNat (32 : Int)) (IntKind.bits .u64)))))) + (@Int.fdiv (IntKind.wrap .u64 ((IntKind.wrap .u64 ((@Int.fdiv x0 ((2 : Int) ^ (min (Int.toNat (32 : Int)) (IntKind.bits .u64)))) * (bits .and .u64 x0 (4294967295 : Int)))) + (@Int.fdiv (IntKind.wrap .u64 ((bits .and .u64 x0 (4294967295 : Int)) * (bits .and .u64 x0 (4294967295 : Int)))) ((2 : Int) ^ (min (Int.toNat (32 : Int)) (IntKind.bits .u64)))))) ((2 : Int) ^ (min (Int.toNat (32 : Int)) (IntKind.bits .u64)))))) + (@Int.fdiv (IntKind.wrap .u64 ((bits .and .u64 (IntKind.wrap .u64 ((IntKind.wrap .u64 ((@Int.fdiv x0 ((2 : Int) ^ (min (Int.toNat (32 : Int)) (IntKind.bits .u64)))) * (bits .and .u64 x0 (4294967295 : Int)))) + (@Int.fdiv (IntKind.wrap .u64 ((bits .and .u64 x0 (4294967295 : Int)) * (bits .and .u64 x0 (4294967295 : Int)))) ((2 : Int) ^ (min (Int.toNat (32 : Int)) (IntKind.bits .u64)))))) (4294967295 : Int)) + (IntKind.wrap .u64 ((bits .and .u64 x0 (4294967295 : Int)) * (@Int.fdiv x0 ((2 : Int) ^ (min (Int.toNat (32 : Int)) (IntKind.bits .u64)))))))) ((2 : Int) ^ (min (Int.toNat (32 : Int)) (IntKind.bits .u64)))))) * x0)) + (IntKind.wrap .u64 ((IntKind.wrap .u64 ((IntKind.wrap .u64 ((@Int.fdiv (IntKind.wrap .u64 (x0 * x0)) ((2 : Int) ^ (min (Int.toNat (32 : Int)) (IntKind.bits .u64)))) * (@Int.fdiv x0 ((2 : Int) ^ (min (Int.toNat (32 : Int)) (IntKind.bits .u64)))))) + (@Int.fdiv (IntKind.wrap .u64 ((IntKind.wrap .u64 ((@Int.fdiv (IntKind.wrap .u64 (x0 * x0)) ((2 : Int) ^ (min (Int.toNat (32 : Int)) (IntKind.bits .u64)))) * (bits .and .u64 x0 (4294967295 : Int)))) + (@Int.fdiv (IntKind.wrap .u64 ((bits .and .u64 (IntKind.wrap .u64 (x0 * x0)) (4294967295 : Int)) * (bits .and .u64 x0 (4294967295 : Int)))) ((2 : Int) ^ (min (Int.toNat (32 : Int)) (IntKind.bits .u64)))))) ((2 : Int) ^ (min (Int.toNat (32 : Int)) (IntKind.bits .u64)))))) + (@Int.fdiv (IntKind.wrap .u64 ((bits .and .u64 (IntKind.wrap .u64 ((IntKind.wrap .u64 ((@Int.fdiv (IntKind.wrap .u64 (x0 * x0)) ((2 : Int) ^ (min (Int.toNat (32 : Int)) (IntKind.bits .u64)))) * (bits .and .u64 x0 (4294967295 : Int)))) + (@Int.fdiv (IntKind.wrap .u64 ((bits .and .u64 (IntKind.wrap .u64 (x0 * x0)) (4294967295 : Int)) * (bits .and .u64 x0 (4294967295 : Int)))) ((2 : Int) ^ (min (Int.toNat (32 : Int)) (IntKind.bits .u64)))))) (4294967295 : Int)) + (IntKind.wrap .u64 ((bits .and .u64 (IntKind.wrap .u64 (x0 * x0)) (4294967295 : Int)) * (@Int.fdiv x0 ((2 : Int) ^ (min (Int.toNat (32 : Int)) (IntKind.bits .u64)))))))) ((2 : Int) ^ (min (Int.toNat (32 : Int)) (IntKind.bits .u64)))))))), (IntKind.wrap .u64 ((IntKind.wrap .u64 (x0 * x0)) * x0))))
theorem roots_power_S (x0 : Int) (degree1 : Int) : (runK Tryd.prog (Ev17 N) 400 94 [(.int .u64), (.int .i64)] [(.int .u64), (.int .u64)] (x0, degree1, ())).run = roots_power N x0 degree1 := by kernel_rfl
noncomputable def Ev18 : (R : Type) → Env R := Env.addFn (Ev17 N) 94 (fun R => fnK [(.int .u64), (.int .i64)] [(.int .u64), (.int .u64)] (fun c => roots_power N c.1 c.2.1))
theorem Ev18_ok (R : Type) : EnvOK Tryd.prog (Ev18 N R) := EnvOK.addFn hmx (Ev17_ok N R) (Ev17_ok N _) (by kernel_rfl) (fun c => roots_power_S N c.1 c.2.1)
noncomputable def roots_shifted (N : Nat) (n0 : Int) (shift1 : Int) : Option (Int × Int) :=
 bif (decide ((64 : Int) ≤ shift1)) then
  bif (decide ((0 : Int) ≤ (IntKind.wrap .i64 (shift1 - 64)))) then
   some (((IntKind.wrap .u64 (n0 * ((2 : Int) ^ (min (Int.toNat (IntKind.wrap .i64 (shift1 - 64))) (IntKind.bits .u64))))), (0 : Int)))
  else
   none
 else
  bif (decide ((0 : Int) ≤ (IntKind.wrap .i64 ((64 : Int) - shift1)))) then
   bif (decide ((0 : Int) ≤ shift1)) then
    some (((@Int.fdiv n0 ((2 : Int) ^ (min (Int.toNat (IntKind.wrap .i64 ((64 : Int) - shift1))) (IntKind.bits .u64)))), (IntKind.wrap .u64 (n0 * ((2 : Int) ^ (min (Int.toNat shift1) (IntKind.bits .u64)))))))
   else
    none
  else
   none
theorem roots_shifted_S (n0 : Int) (shift1 : Int) : (runK Tryd.prog (Ev18 N) 400 95 [(.int .u64), (.int .i64)] [(.int .u64), (.int .u64)] (n0, shift1, ())).run = roots_shifted N n0 shift1 := by kernel_rfl
noncomputable def Ev19 : (R : Type) → Env R := Env.addFn (Ev18 N) 95 (fun R => fnK [(.int .u64), (.int .i64)] [(.int .u64), (.int .u64)] (fun c => roots_shifted N c.1 c.2.1))
theorem Ev19_ok (R : Type) : EnvOK Tryd.prog (Ev19 N R) := EnvOK.addFn hmx (Ev18_ok N R) (Ev18_ok N _) (by kernel_rfl) (fun c => roots_shifted_S N c.1 c.2.1)
noncomputable def roots_above (x0 : Int) (n1 : Int) (degree2 : Int) (shift3 : Int) : Option Bool :=
 Option.bind (roots_power N x0 degree2) fun v5 =>
 Option.bind (roots_shifted N (IntKind.wrap .u64 n1) shift3) fun v6 =>
 bif (!(decide (v5.1 = v6.1))) then
  some ((decide (v6.1 < v5.1)))
 else
  some ((decide (v6.2 < v5.2)))
theorem roots_above_S (x0 : Int) (n1 : Int) (degree2 : Int) (shift3 : Int) : (runK Tryd.prog (Ev19 N) 400 90 [(.int .u64), (.int .i64), (.int .i64), (.int .i64)] [.bool] (x0, n1, degree2, shift3, ())).run = roots_above N x0 n1 degree2 shift3 := by kernel_rfl
noncomputable def Ev20 : (R : Type) → Env R := Env.addFn (Ev19 N) 90 (fun R => fnK [(.int .u64), (.int .i64), (.int .i64), (.int .i64)] [.bool] (fun c => roots_above N c.1 c.2.1 c.2.2.1 c.2.2.2.1))
theorem Ev20_ok (R : Type) : EnvOK Tryd.prog (Ev20 N R) := EnvOK.addFn hmx (Ev19_ok N R) (Ev19_ok N _) (by kernel_rfl) (fun c => roots_above_S N c.1 c.2.1 c.2.2.1 c.2.2.2.1)
noncomputable def roots_Root_L5_I : LI := ⟨34, 0, [], ⟨[(0, .ty (.int .i64)), (1, .ty (.int .i64)), (2, .ty (.int .i64)), (8, .ty (.int .u64)), (9, .ty (.int .i64))], []⟩, [(.exit 0, ⟨[(8, .ty (.int .u64))], []⟩)]⟩
noncomputable def roots_Root_L5 (X : ((Int × (Int × (Int × (Int × (Int × Unit))))) × Unit) → Option (((Int × Unit) × Unit))) (n0 : Int) (degree1 : Int) (bits2 : Int) (root8 : Int) (i9 : Int) : Option (((Int × Unit) × Unit)) :=
 bif (decide ((0 : Int) ≤ i9)) then
  bif (decide ((0 : Int) ≤ i9)) then
   Option.bind (roots_above N (bits .or .u64 root8 (IntKind.wrap .u64 ((1 : Int) * ((2 : Int) ^ (min (Int.toNat i9) (IntKind.bits .u64)))))) n0 degree1 (IntKind.wrap .i64 (degree1 * bits2))) fun v7 =>
   bif (!v7) then
    (X ((n0, (degree1, (bits2, ((bits .or .u64 root8 (IntKind.wrap .u64 ((1 : Int) * ((2 : Int) ^ (min (Int.toNat i9) (IntKind.bits .u64)))))), ((IntKind.wrap .i64 (i9 - 1)), ()))))), ()))
   else
    (X ((n0, (degree1, (bits2, (root8, ((IntKind.wrap .i64 (i9 - 1)), ()))))), ()))
  else
   none
 else
  some (((root8, ()), ()))
noncomputable def roots_Root_L5_R (c : ((Int × (Int × (Int × (Int × (Int × Unit))))) × Unit)) : Option (((Int × Unit) × Unit)) := gl (fun X c => roots_Root_L5 N X c.1.1 c.1.2.1 c.1.2.2.1 c.1.2.2.2.1 c.1.2.2.2.2.1) N c
theorem roots_Root_L5_S (X : ((Int × (Int × (Int × (Int × (Int × Unit))))) × Unit) → Option (((Int × Unit) × Unit))) (n0 : Int) (degree1 : Int) (bits2 : Int) (root8 : Int) (i9 : Int) : (roundK Tryd.prog (Ev20 N) 400 [82] roots_Root_L5_I (loopAt Tryd.prog [82] 5) X ((n0, degree1, bits2, root8, i9, ()), ())).run = roots_Root_L5 N X n0 degree1 bits2 root8 i9 := by kernel_rfl
noncomputable def Ev21 : (R : Type) → Env R := Env.addLp (Ev20 N) [82] 0 5 (fun R => lpK Tryd.prog roots_Root_L5_I (fun X c => roots_Root_L5 N X c.1.1 c.1.2.1 c.1.2.2.1 c.1.2.2.2.1 c.1.2.2.2.2.1) N)
theorem Ev21_ok (R : Type) : EnvOK Tryd.prog (Ev21 N R) := EnvOK.addLp (Ev20_ok N R) (by kernel_rfl) (lpK_ok (li := roots_Root_L5_I) (G := fun X c => roots_Root_L5 N X c.1.1 c.1.2.1 c.1.2.2.1 c.1.2.2.2.1 c.1.2.2.2.2.1) hmx (Ev20_ok N _) (by kernel_rfl) loopAt_sub (fun (X : CT roots_Root_L5_I.sh → Option (OT roots_Root_L5_I.outs)) (c : CT roots_Root_L5_I.sh) => roots_Root_L5_S N X c.1.1 c.1.2.1 c.1.2.2.1 c.1.2.2.2.1 c.1.2.2.2.2.1) N)
noncomputable def roots_Root (n0 : Int) (degree1 : Int) (bits2 : Int) : Option (Int × Int) :=
 Option.bind (roots_may N n0 degree1 bits2) fun v4 =>
 bif (!v4) then
  some (((0 : Int), (1 : Int)))
 else
  Option.bind (roots_Root_L5_R N ((n0, (degree1, (bits2, ((0 : Int), ((36 : Int), ()))))), ())) fun v5 =>
  some ((v5.1.1, (0 : Int)))
theorem roots_Root_S (n0 : Int) (degree1 : Int) (bits2 : Int) : (runK Tryd.prog (Ev21 N) 400 82 [(.int .i64), (.int .i64), (.int .i64)] [(.int .u64), (.int .i64)] (n0, degree1, bits2, ())).run = roots_Root N n0 degree1 bits2 := by kernel_rfl
noncomputable def Ev22 : (R : Type) → Env R := Env.addFn (Ev21 N) 82 (fun R => fnK [(.int .i64), (.int .i64), (.int .i64)] [(.int .u64), (.int .i64)] (fun c => roots_Root N c.1 c.2.1 c.2.2.1))
theorem Ev22_ok (R : Type) : EnvOK Tryd.prog (Ev22 N R) := EnvOK.addFn hmx (Ev21_ok N R) (Ev21_ok N _) (by kernel_rfl) (fun c => roots_Root_S N c.1 c.2.1 c.2.2.1)
noncomputable def roots_Frac (n0 : Int) (degree1 : Int) : Option Int :=
 Option.bind (roots_Root N n0 degree1 (32 : Int)) fun v3 =>
 some ((IntKind.wrap .u32 v3.1))
theorem roots_Frac_S (n0 : Int) (degree1 : Int) : (runK Tryd.prog (Ev22 N) 400 73 [(.int .i64), (.int .i64)] [(.int .u32)] (n0, degree1, ())).run = roots_Frac N n0 degree1 := by kernel_rfl
noncomputable def Ev23 : (R : Type) → Env R := Env.addFn (Ev22 N) 73 (fun R => fnK [(.int .i64), (.int .i64)] [(.int .u32)] (fun c => roots_Frac N c.1 c.2.1))
theorem Ev23_ok (R : Type) : EnvOK Tryd.prog (Ev23 N R) := EnvOK.addFn hmx (Ev22_ok N R) (Ev22_ok N _) (by kernel_rfl) (fun c => roots_Frac_S N c.1 c.2.1)
noncomputable def roots_Fracs_L3_I : LI := ⟨23, 0, [(5, 25)], ⟨[(1, .ty (.int .i64)), (5, .lit (.own 0)), (9, .ty (.sl (.int .i64))), (10, .ty (.int .i64)), (11, .ty (.int .i64))], [.own (.int .u32) 25]⟩, [(.exit 0, ⟨[(5, .lit (.own 0))], [.own (.int .u32) 25]⟩)]⟩
noncomputable def roots_Fracs_L3 (X : ((Int × ((List Int) × (Int × (Int × Unit)))) × ((List Int) × Unit)) → Option ((Unit × ((List Int) × Unit)))) (degree1 : Int) (x9 : List (Int)) (x10 : Int) (x11 : Int) (h0 : List (Int)) : Option ((Unit × ((List Int) × Unit))) :=
 bif (decide (x11 < x10)) then
  Option.bind (getI x9 x11) fun (v7 : Int) =>
  Option.bind (roots_Frac N v7 degree1) fun v8 =>
  bif (roomB ((List.length h0) + (List.length ([v8] : List (Int)))) 4) then
   (X ((degree1, (x9, (x10, ((IntKind.wrap .i64 (x11 + 1)), ())))), ((h0 ++ ([v8] : List (Int))), ())))
  else
   none
 else
  some (((), (h0, ())))
noncomputable def roots_Fracs_L3_R (c : ((Int × ((List Int) × (Int × (Int × Unit)))) × ((List Int) × Unit))) : Option ((Unit × ((List Int) × Unit))) := gl (fun X c => roots_Fracs_L3 N X c.1.1 c.1.2.1 c.1.2.2.1 c.1.2.2.2.1 c.2.1) N c
theorem roots_Fracs_L3_S (X : ((Int × ((List Int) × (Int × (Int × Unit)))) × ((List Int) × Unit)) → Option ((Unit × ((List Int) × Unit)))) (degree1 : Int) (x9 : List (Int)) (x10 : Int) (x11 : Int) (h0 : List (Int)) : (roundK Tryd.prog (Ev23 N) 400 [64] roots_Fracs_L3_I (loopAt Tryd.prog [64] 3) X ((degree1, x9, x10, x11, ()), (h0, ()))).run = roots_Fracs_L3 N X degree1 x9 x10 x11 h0 := by kernel_rfl
noncomputable def Ev24 : (R : Type) → Env R := Env.addLp (Ev23 N) [64] 0 3 (fun R => lpK Tryd.prog roots_Fracs_L3_I (fun X c => roots_Fracs_L3 N X c.1.1 c.1.2.1 c.1.2.2.1 c.1.2.2.2.1 c.2.1) N)
theorem Ev24_ok (R : Type) : EnvOK Tryd.prog (Ev24 N R) := EnvOK.addLp (Ev23_ok N R) (by kernel_rfl) (lpK_ok (li := roots_Fracs_L3_I) (G := fun X c => roots_Fracs_L3 N X c.1.1 c.1.2.1 c.1.2.2.1 c.1.2.2.2.1 c.2.1) hmx (Ev23_ok N _) (by kernel_rfl) loopAt_sub (fun (X : CT roots_Fracs_L3_I.sh → Option (OT roots_Fracs_L3_I.outs)) (c : CT roots_Fracs_L3_I.sh) => roots_Fracs_L3_S N X c.1.1 c.1.2.1 c.1.2.2.1 c.1.2.2.2.1 c.2.1) N)
noncomputable def roots_Fracs (many0 : Int) (degree1 : Int) : Option (List Int) :=
 Option.bind (roots_Primes N many0) fun v3 =>
 Option.bind (roots_Fracs_L3_R N ((degree1, (v3, ((((List.length v3) : Nat) : Int), ((0 : Int), ())))), (([] : List Int), ()))) fun v4 =>
 some (v4.2.1)
theorem roots_Fracs_S (many0 : Int) (degree1 : Int) : (runK Tryd.prog (Ev24 N) 400 64 [(.int .i64), (.int .i64)] [(.sl (.int .u32))] (many0, degree1, ())).run = roots_Fracs N many0 degree1 := by kernel_rfl
noncomputable def Ev25 : (R : Type) → Env R := Env.addFn (Ev24 N) 64 (fun R => fnK [(.int .i64), (.int .i64)] [(.sl (.int .u32))] (fun c => roots_Fracs N c.1 c.2.1))
theorem Ev25_ok (R : Type) : EnvOK Tryd.prog (Ev25 N R) := EnvOK.addFn hmx (Ev24_ok N R) (Ev24_ok N _) (by kernel_rfl) (fun c => roots_Fracs_S N c.1 c.2.1)
noncomputable def sha256_First : Option (Arr Int 8) :=
 Option.bind (roots_Fracs N (8 : Int) (2 : Int)) fun v1 =>
 Option.bind (@toArr Int (8 : Nat) v1) fun (v2 : (Arr Int 8)) =>
 some (v2)
theorem sha256_First_S : (runK Tryd.prog (Ev25 N) 400 54 [] [(.arr 8 (.int .u32))] ()).run = sha256_First N  := by kernel_rfl
noncomputable def Ev26 : (R : Type) → Env R := Env.addFn (Ev25 N) 54 (fun R => fnK [] [(.arr 8 (.int .u32))] (fun c => sha256_First N ))
theorem Ev26_ok (R : Type) : EnvOK Tryd.prog (Ev26 N R) := EnvOK.addFn hmx (Ev25_ok N R) (Ev25_ok N _) (by kernel_rfl) (fun c => sha256_First_S N )
noncomputable def sha256_constants : Option (Arr Int 64) :=
 Option.bind (roots_Fracs N (64 : Int) (3 : Int)) fun v1 =>
 Option.bind (@toArr Int (64 : Nat) v1) fun (v2 : (Arr Int 64)) =>
 some (v2)
theorem sha256_constants_S : (runK Tryd.prog (Ev26 N) 400 55 [] [(.arr 64 (.int .u32))] ()).run = sha256_constants N  := by kernel_rfl
noncomputable def Ev27 : (R : Type) → Env R := Env.addFn (Ev26 N) 55 (fun R => fnK [] [(.arr 64 (.int .u32))] (fun c => sha256_constants N ))
theorem Ev27_ok (R : Type) : EnvOK Tryd.prog (Ev27 N R) := EnvOK.addFn hmx (Ev26_ok N R) (Ev26_ok N _) (by kernel_rfl) (fun c => sha256_constants_S N )
noncomputable def Ev28 : (R : Type) → Env R := Env.addBx (Ev27 N) [(56, 0)]
theorem Ev28_ok (R : Type) : EnvOK Tryd.prog (Ev28 N R) := EnvOK.addBx (Ev27_ok N R) [(56, 0)]
noncomputable def Ev29 : (R : Type) → Env R := Env.addBx (Ev28 N) [(65, 0)]
theorem Ev29_ok (R : Type) : EnvOK Tryd.prog (Ev29 N R) := EnvOK.addBx (Ev28_ok N R) [(65, 0)]
noncomputable def Ev30 : (R : Type) → Env R := Env.addFn (Ev29 N) 47 (fun R => getK)
theorem Ev30_ok (R : Type) : EnvOK Tryd.prog (Ev30 N R) := EnvOK.addExt (Ev29_ok N R) get_ok
noncomputable def sha256_words_L3_I : LI := ⟨56, 0, [], ⟨[(1, .adr (.arr 64 (.int .u8))), (2, .lit (.box 0 0)), (3, .lit (.box 1 0)), (8, .ty (.int .i64))], [.box 110 (.arr 64 (.int .u32)), .box 110 (.arr 64 (.int .u32))]⟩, [(.exit 0, ⟨[(2, .lit (.box 0 0)), (3, .lit (.box 1 0))], [.box 110 (.arr 64 (.int .u32)), .box 110 (.arr 64 (.int .u32))]⟩)]⟩
noncomputable def sha256_words_L3 (N : Nat) (X : (((Arr Int 64) × (Int × Unit)) × ((Arr Int 64) × ((Arr Int 64) × Unit))) → Option ((Unit × ((Arr Int 64) × ((Arr Int 64) × Unit))))) (b1 : Arr Int 64) (x8 : Int) (h0 : Arr Int 64) (h1 : Arr Int 64) : Option ((Unit × ((Arr Int 64) × ((Arr Int 64) × Unit)))) :=
 bif (decide (x8 < (16 : Int))) then
  Option.bind (subI b1.l (IntKind.wrap .i64 ((4 : Int) * x8)) (IntKind.wrap .i64 ((IntKind.wrap .i64 ((4 : Int) * x8)) + 4))) fun (v6 : (List Int)) =>
  Option.bind (@Gt.octs_Get (200 : Nat) v6 false) fun (v7 : (Int × Int)) =>
  bif (decide ((0 : Int) ≤ x8 ∧ x8 < ((64 : Nat) : Int))) then
   Option.bind (h1.l[Int.toNat x8]?) fun (v8 : Int) =>
   (X ((b1, ((IntKind.wrap .i64 (x8 + 1)), ())), (h0, ((h1.set (Int.toNat x8) (IntKind.wrap .u32 v7.1)), ()))))
  else
   none
 else
  some (((), (h0, (h1, ()))))
noncomputable def sha256_words_L3_R (c : (((Arr Int 64) × (Int × Unit)) × ((Arr Int 64) × ((Arr Int 64) × Unit)))) : Option ((Unit × ((Arr Int 64) × ((Arr Int 64) × Unit)))) := gl (fun X c => sha256_words_L3 N X c.1.1 c.1.2.1 c.2.1 c.2.2.1) N c
theorem sha256_words_L3_S (X : (((Arr Int 64) × (Int × Unit)) × ((Arr Int 64) × ((Arr Int 64) × Unit))) → Option ((Unit × ((Arr Int 64) × ((Arr Int 64) × Unit))))) (b1 : Arr Int 64) (x8 : Int) (h0 : Arr Int 64) (h1 : Arr Int 64) : (roundK Tryd.prog (Ev30 N) 400 [65] sha256_words_L3_I (loopAt Tryd.prog [65] 3) X ((b1, x8, ()), (h0, h1, ()))).run = sha256_words_L3 N X b1 x8 h0 h1 := by kernel_rfl
noncomputable def Ev31 : (R : Type) → Env R := Env.addLp (Ev30 N) [65] 0 3 (fun R => lpK Tryd.prog sha256_words_L3_I (fun X c => sha256_words_L3 N X c.1.1 c.1.2.1 c.2.1 c.2.2.1) N)
theorem Ev31_ok (R : Type) : EnvOK Tryd.prog (Ev31 N R) := EnvOK.addLp (Ev30_ok N R) (by kernel_rfl) (lpK_ok (li := sha256_words_L3_I) (G := fun X c => sha256_words_L3 N X c.1.1 c.1.2.1 c.2.1 c.2.2.1) hmx (Ev30_ok N _) (by kernel_rfl) loopAt_sub (fun (X : CT sha256_words_L3_I.sh → Option (OT sha256_words_L3_I.outs)) (c : CT sha256_words_L3_I.sh) => sha256_words_L3_S N X c.1.1 c.1.2.1 c.2.1 c.2.2.1) N)
noncomputable def Ev32 : (R : Type) → Env R := Env.addBx (Ev31 N) [(74, 0)]
theorem Ev32_ok (R : Type) : EnvOK Tryd.prog (Ev32 N R) := EnvOK.addBx (Ev31_ok N R) [(74, 0)]
noncomputable def math_bits_RotateLeft32 (N : Nat) (x0 : Int) (k1 : Int) : Option Int :=
 bif (decide ((0 : Int) ≤ (IntKind.wrap .u64 ((32 : Int) - (bits .and .u64 (IntKind.wrap .u64 k1) (31 : Int)))))) then
  some ((bits .or .u32 (IntKind.wrap .u32 (x0 * ((2 : Int) ^ (min (Int.toNat (bits .and .u64 (IntKind.wrap .u64 k1) (31 : Int))) (IntKind.bits .u32))))) (@Int.fdiv x0 ((2 : Int) ^ (min (Int.toNat (IntKind.wrap .u64 ((32 : Int) - (bits .and .u64 (IntKind.wrap .u64 k1) (31 : Int))))) (IntKind.bits .u32))))))
 else
  none
theorem math_bits_RotateLeft32_S (x0 : Int) (k1 : Int) : (runK Tryd.prog (Ev32 N) 400 91 [(.int .u32), (.int .i64)] [(.int .u32)] (x0, k1, ())).run = math_bits_RotateLeft32 N x0 k1 := by kernel_rfl
noncomputable def Ev33 : (R : Type) → Env R := Env.addFn (Ev32 N) 91 (fun R => fnK [(.int .u32), (.int .i64)] [(.int .u32)] (fun c => math_bits_RotateLeft32 N c.1 c.2.1))
theorem Ev33_ok (R : Type) : EnvOK Tryd.prog (Ev33 N R) := EnvOK.addFn hmx (Ev32_ok N R) (Ev32_ok N _) (by kernel_rfl) (fun c => math_bits_RotateLeft32_S N c.1 c.2.1)
noncomputable def sha256_right (x0 : Int) (x1 : Int) : Option Int :=
 Option.bind (math_bits_RotateLeft32 N x0 (IntKind.wrap .i64 ((0 : Int) - x1))) fun v3 =>
 some (v3)
theorem sha256_right_S (x0 : Int) (x1 : Int) : (runK Tryd.prog (Ev33 N) 400 83 [(.int .u32), (.int .i64)] [(.int .u32)] (x0, x1, ())).run = sha256_right N x0 x1 := by kernel_rfl
noncomputable def Ev34 : (R : Type) → Env R := Env.addFn (Ev33 N) 83 (fun R => fnK [(.int .u32), (.int .i64)] [(.int .u32)] (fun c => sha256_right N c.1 c.2.1))
theorem Ev34_ok (R : Type) : EnvOK Tryd.prog (Ev34 N R) := EnvOK.addFn hmx (Ev33_ok N R) (Ev33_ok N _) (by kernel_rfl) (fun c => sha256_right_S N c.1 c.2.1)
noncomputable def sha256_small (x0 : Int) (x1 : Arr Int 3) : Option Int :=
 Option.bind (getI x1.l (0 : Int)) fun (v3 : Int) =>
 Option.bind (sha256_right N x0 v3) fun v4 =>
 Option.bind (getI x1.l (1 : Int)) fun (v5 : Int) =>
 Option.bind (sha256_right N x0 v5) fun v6 =>
 Option.bind (getI x1.l (2 : Int)) fun (v7 : Int) =>
 bif (decide ((0 : Int) ≤ v7)) then
  some ((bits .xor .u32 (bits .xor .u32 v4 v6) (@Int.fdiv x0 ((2 : Int) ^ (min (Int.toNat v7) (IntKind.bits .u32))))))
 else
  none
theorem sha256_small_S (x0 : Int) (x1 : Arr Int 3) : (runK Tryd.prog (Ev34 N) 400 74 [(.int .u32), (.arr 3 (.int .i64))] [(.int .u32)] (x0, x1, ())).run = sha256_small N x0 x1 := by kernel_rfl
noncomputable def Ev35 : (R : Type) → Env R := Env.addFn (Ev34 N) 74 (fun R => fnK [(.int .u32), (.arr 3 (.int .i64))] [(.int .u32)] (fun c => sha256_small N c.1 c.2.1))
theorem Ev35_ok (R : Type) : EnvOK Tryd.prog (Ev35 N R) := EnvOK.addFn hmx (Ev34_ok N R) (Ev34_ok N _) (by kernel_rfl) (fun c => sha256_small_S N c.1 c.2.1)
noncomputable def sha256_words_L9_I : LI := ⟨56, 0, [], ⟨[(2, .lit (.box 0 0)), (3, .lit (.box 1 0)), (7, .ty (.int .i64))], [.box 110 (.arr 64 (.int .u32)), .box 110 (.arr 64 (.int .u32))]⟩, [(.exit 2, ⟨[(2, .lit (.box 0 0)), (3, .lit (.box 1 0))], [.box 110 (.arr 64 (.int .u32)), .box 110 (.arr 64 (.int .u32))]⟩)]⟩
noncomputable def sha256_words_L9 (N : Nat) (X : ((Int × Unit) × ((Arr Int 64) × ((Arr Int 64) × Unit))) → Option ((Unit × ((Arr Int 64) × ((Arr Int 64) × Unit))))) (i7 : Int) (h0 : Arr Int 64) (h1 : Arr Int 64) : Option ((Unit × ((Arr Int 64) × ((Arr Int 64) × Unit)))) :=
 bif (decide (i7 < (64 : Int))) then
  bif (decide ((0 : Int) ≤ (IntKind.wrap .i64 (i7 - 16)) ∧ (IntKind.wrap .i64 (i7 - 16)) < ((64 : Nat) : Int))) then
   Option.bind (h1.l[Int.toNat (IntKind.wrap .i64 (i7 - 16))]?) fun (v5 : Int) =>
   bif (decide ((0 : Int) ≤ (IntKind.wrap .i64 (i7 - 7)) ∧ (IntKind.wrap .i64 (i7 - 7)) < ((64 : Nat) : Int))) then
    Option.bind (h1.l[Int.toNat (IntKind.wrap .i64 (i7 - 7))]?) fun (v6 : Int) =>
    bif (decide ((0 : Int) ≤ (IntKind.wrap .i64 (i7 - 15)) ∧ (IntKind.wrap .i64 (i7 - 15)) < ((64 : Nat) : Int))) then
     Option.bind (h1.l[Int.toNat (IntKind.wrap .i64 (i7 - 15))]?) fun (v7 : Int) =>
     bif (decide ((0 : Int) ≤ (IntKind.wrap .i64 (i7 - 2)) ∧ (IntKind.wrap .i64 (i7 - 2)) < ((64 : Nat) : Int))) then
      Option.bind (h1.l[Int.toNat (IntKind.wrap .i64 (i7 - 2))]?) fun (v8 : Int) =>
      bif (decide ((0 : Int) ≤ i7 ∧ i7 < ((64 : Nat) : Int))) then
       Option.bind (h1.l[Int.toNat i7]?) fun (v9 : Int) =>
       (X (((IntKind.wrap .i64 (i7 + 1)), ()), (h0, ((h1.set (Int.toNat i7) (IntKind.wrap .u32 ((IntKind.wrap .u32 ((IntKind.wrap .u32 (v5 + v6)) + (bits .xor .u32 (bits .xor .u32 (bits .or .u32 (IntKind.wrap .u32 (v7 * ((2 : Int) ^ (min (Int.toNat (bits .and .u64 (IntKind.wrap .u64 (IntKind.wrap .i64 ((0 : Int) - 7))) (31 : Int))) (IntKind.bits .u32))))) (@Int.fdiv v7 ((2 : Int) ^ (min (Int.toNat (IntKind.wrap .u64 ((32 : Int) - (bits .and .u64 (IntKind.wrap .u64 (IntKind.wrap .i64 ((0 : Int) - 7))) (31 : Int))))) (IntKind.bits .u32))))) (bits .or .u32 (IntKind.wrap .u32 (v7 * ((2 : Int) ^ (min (Int.toNat (bits .and .u64 (IntKind.wrap .u64 (IntKind.wrap .i64 ((0 : Int) - 18))) (31 : Int))) (IntKind.bits .u32))))) (@Int.fdiv v7 ((2 : Int) ^ (min (Int.toNat (IntKind.wrap .u64 ((32 : Int) - (bits .and .u64 (IntKind.wrap .u64 (IntKind.wrap .i64 ((0 : Int) - 18))) (31 : Int))))) (IntKind.bits .u32)))))) (@Int.fdiv v7 ((2 : Int) ^ (min (Int.toNat (3 : Int)) (IntKind.bits .u32))))))) + (bits .xor .u32 (bits .xor .u32 (bits .or .u32 (IntKind.wrap .u32 (v8 * ((2 : Int) ^ (min (Int.toNat (bits .and .u64 (IntKind.wrap .u64 (IntKind.wrap .i64 ((0 : Int) - 17))) (31 : Int))) (IntKind.bits .u32))))) (@Int.fdiv v8 ((2 : Int) ^ (min (Int.toNat (IntKind.wrap .u64 ((32 : Int) - (bits .and .u64 (IntKind.wrap .u64 (IntKind.wrap .i64 ((0 : Int) - 17))) (31 : Int))))) (IntKind.bits .u32))))) (bits .or .u32 (IntKind.wrap .u32 (v8 * ((2 : Int) ^ (min (Int.toNat (bits .and .u64 (IntKind.wrap .u64 (IntKind.wrap .i64 ((0 : Int) - 19))) (31 : Int))) (IntKind.bits .u32))))) (@Int.fdiv v8 ((2 : Int) ^ (min (Int.toNat (IntKind.wrap .u64 ((32 : Int) - (bits .and .u64 (IntKind.wrap .u64 (IntKind.wrap .i64 ((0 : Int) - 19))) (31 : Int))))) (IntKind.bits .u32)))))) (@Int.fdiv v8 ((2 : Int) ^ (min (Int.toNat (10 : Int)) (IntKind.bits .u32)))))))), ()))))
      else
       none
     else
      none
    else
     none
   else
    none
  else
   none
 else
  some (((), (h0, (h1, ()))))
noncomputable def sha256_words_L9_R (c : ((Int × Unit) × ((Arr Int 64) × ((Arr Int 64) × Unit)))) : Option ((Unit × ((Arr Int 64) × ((Arr Int 64) × Unit)))) := gl (fun X c => sha256_words_L9 N X c.1.1 c.2.1 c.2.2.1) N c
theorem sha256_words_L9_S (X : ((Int × Unit) × ((Arr Int 64) × ((Arr Int 64) × Unit))) → Option ((Unit × ((Arr Int 64) × ((Arr Int 64) × Unit))))) (i7 : Int) (h0 : Arr Int 64) (h1 : Arr Int 64) : (roundK Tryd.prog (Ev35 N) 400 [65] sha256_words_L9_I (loopAt Tryd.prog [65] 9) X ((i7, ()), (h0, h1, ()))).run = sha256_words_L9 N X i7 h0 h1 := by kernel_rfl
noncomputable def Ev36 : (R : Type) → Env R := Env.addLp (Ev35 N) [65] 0 9 (fun R => lpK Tryd.prog sha256_words_L9_I (fun X c => sha256_words_L9 N X c.1.1 c.2.1 c.2.2.1) N)
theorem Ev36_ok (R : Type) : EnvOK Tryd.prog (Ev36 N R) := EnvOK.addLp (Ev35_ok N R) (by kernel_rfl) (lpK_ok (li := sha256_words_L9_I) (G := fun X c => sha256_words_L9 N X c.1.1 c.2.1 c.2.2.1) hmx (Ev35_ok N _) (by kernel_rfl) loopAt_sub (fun (X : CT sha256_words_L9_I.sh → Option (OT sha256_words_L9_I.outs)) (c : CT sha256_words_L9_I.sh) => sha256_words_L9_S N X c.1.1 c.2.1 c.2.2.1) N)
noncomputable def sha256_words (b0 : Arr Int 64) : Option (Arr Int 64) :=
 Option.bind (sha256_words_L3_R N ((b0, ((0 : Int), ())), ((@Arr.cons Int 63 0 (@Arr.cons Int 62 0 (@Arr.cons Int 61 0 (@Arr.cons Int 60 0 (@Arr.cons Int 59 0 (@Arr.cons Int 58 0 (@Arr.cons Int 57 0 (@Arr.cons Int 56 0 (@Arr.cons Int 55 0 (@Arr.cons Int 54 0 (@Arr.cons Int 53 0 (@Arr.cons Int 52 0 (@Arr.cons Int 51 0 (@Arr.cons Int 50 0 (@Arr.cons Int 49 0 (@Arr.cons Int 48 0 (@Arr.cons Int 47 0 (@Arr.cons Int 46 0 (@Arr.cons Int 45 0 (@Arr.cons Int 44 0 (@Arr.cons Int 43 0 (@Arr.cons Int 42 0 (@Arr.cons Int 41 0 (@Arr.cons Int 40 0 (@Arr.cons Int 39 0 (@Arr.cons Int 38 0 (@Arr.cons Int 37 0 (@Arr.cons Int 36 0 (@Arr.cons Int 35 0 (@Arr.cons Int 34 0 (@Arr.cons Int 33 0 (@Arr.cons Int 32 0 (@Arr.cons Int 31 0 (@Arr.cons Int 30 0 (@Arr.cons Int 29 0 (@Arr.cons Int 28 0 (@Arr.cons Int 27 0 (@Arr.cons Int 26 0 (@Arr.cons Int 25 0 (@Arr.cons Int 24 0 (@Arr.cons Int 23 0 (@Arr.cons Int 22 0 (@Arr.cons Int 21 0 (@Arr.cons Int 20 0 (@Arr.cons Int 19 0 (@Arr.cons Int 18 0 (@Arr.cons Int 17 0 (@Arr.cons Int 16 0 (@Arr.cons Int 15 0 (@Arr.cons Int 14 0 (@Arr.cons Int 13 0 (@Arr.cons Int 12 0 (@Arr.cons Int 11 0 (@Arr.cons Int 10 0 (@Arr.cons Int 9 0 (@Arr.cons Int 8 0 (@Arr.cons Int 7 0 (@Arr.cons Int 6 0 (@Arr.cons Int 5 0 (@Arr.cons Int 4 0 (@Arr.cons Int 3 0 (@Arr.cons Int 2 0 (@Arr.cons Int 1 0 (@Arr.cons Int 0 0 (@Arr.nil Int))))))))))))))))))))))))))))))))))))))))))))))))))))))))))))))))), ((@Arr.cons Int 63 0 (@Arr.cons Int 62 0 (@Arr.cons Int 61 0 (@Arr.cons Int 60 0 (@Arr.cons Int 59 0 (@Arr.cons Int 58 0 (@Arr.cons Int 57 0 (@Arr.cons Int 56 0 (@Arr.cons Int 55 0 (@Arr.cons Int 54 0 (@Arr.cons Int 53 0 (@Arr.cons Int 52 0 (@Arr.cons Int 51 0 (@Arr.cons Int 50 0 (@Arr.cons Int 49 0 (@Arr.cons Int 48 0 (@Arr.cons Int 47 0 (@Arr.cons Int 46 0 (@Arr.cons Int 45 0 (@Arr.cons Int 44 0 (@Arr.cons Int 43 0 (@Arr.cons Int 42 0 (@Arr.cons Int 41 0 (@Arr.cons Int 40 0 (@Arr.cons Int 39 0 (@Arr.cons Int 38 0 (@Arr.cons Int 37 0 (@Arr.cons Int 36 0 (@Arr.cons Int 35 0 (@Arr.cons Int 34 0 (@Arr.cons Int 33 0 (@Arr.cons Int 32 0 (@Arr.cons Int 31 0 (@Arr.cons Int 30 0 (@Arr.cons Int 29 0 (@Arr.cons Int 28 0 (@Arr.cons Int 27 0 (@Arr.cons Int 26 0 (@Arr.cons Int 25 0 (@Arr.cons Int 24 0 (@Arr.cons Int 23 0 (@Arr.cons Int 22 0 (@Arr.cons Int 21 0 (@Arr.cons Int 20 0 (@Arr.cons Int 19 0 (@Arr.cons Int 18 0 (@Arr.cons Int 17 0 (@Arr.cons Int 16 0 (@Arr.cons Int 15 0 (@Arr.cons Int 14 0 (@Arr.cons Int 13 0 (@Arr.cons Int 12 0 (@Arr.cons Int 11 0 (@Arr.cons Int 10 0 (@Arr.cons Int 9 0 (@Arr.cons Int 8 0 (@Arr.cons Int 7 0 (@Arr.cons Int 6 0 (@Arr.cons Int 5 0 (@Arr.cons Int 4 0 (@Arr.cons Int 3 0 (@Arr.cons Int 2 0 (@Arr.cons Int 1 0 (@Arr.cons Int 0 0 (@Arr.nil Int))))))))))))))))))))))))))))))))))))))))))))))))))))))))))))))))), ())))) fun v2 =>
 Option.bind (sha256_words_L9_R N (((16 : Int), ()), (v2.2.1, (v2.2.2.1, ())))) fun v3 =>
 some (v3.2.2.1)
theorem sha256_words_S (b0 : Arr Int 64) : (runK Tryd.prog (Ev36 N) 400 65 [(.arr 64 (.int .u8))] [(.arr 64 (.int .u32))] (b0, ())).run = sha256_words N b0 := by kernel_rfl
noncomputable def Ev37 : (R : Type) → Env R := Env.addFn (Ev36 N) 65 (fun R => fnK [(.arr 64 (.int .u8))] [(.arr 64 (.int .u32))] (fun c => sha256_words N c.1))
theorem Ev37_ok (R : Type) : EnvOK Tryd.prog (Ev37 N R) := EnvOK.addFn hmx (Ev36_ok N R) (Ev36_ok N _) (by kernel_rfl) (fun c => sha256_words_S N c.1)
noncomputable def Ev38 : (R : Type) → Env R := Env.addBx (Ev37 N) [(66, 0)]
theorem Ev38_ok (R : Type) : EnvOK Tryd.prog (Ev38 N R) := EnvOK.addBx (Ev37_ok N R) [(66, 0)]
noncomputable def Ev39 : (R : Type) → Env R := Env.addBx (Ev38 N) [(75, 0)]
theorem Ev39_ok (R : Type) : EnvOK Tryd.prog (Ev39 N R) := EnvOK.addBx (Ev38_ok N R) [(75, 0)]
noncomputable def sha256_great (x0 : Int) (x1 : Arr Int 3) : Option Int :=
 Option.bind (getI x1.l (0 : Int)) fun (v3 : Int) =>
 Option.bind (sha256_right N x0 v3) fun v4 =>
 Option.bind (getI x1.l (1 : Int)) fun (v5 : Int) =>
 Option.bind (sha256_right N x0 v5) fun v6 =>
 Option.bind (getI x1.l (2 : Int)) fun (v7 : Int) =>
 Option.bind (sha256_right N x0 v7) fun v8 =>
 some ((bits .xor .u32 (bits .xor .u32 v4 v6) v8))
theorem sha256_great_S (x0 : Int) (x1 : Arr Int 3) : (runK Tryd.prog (Ev39 N) 400 75 [(.int .u32), (.arr 3 (.int .i64))] [(.int .u32)] (x0, x1, ())).run = sha256_great N x0 x1 := by kernel_rfl
noncomputable def Ev40 : (R : Type) → Env R := Env.addFn (Ev39 N) 75 (fun R => fnK [(.int .u32), (.arr 3 (.int .i64))] [(.int .u32)] (fun c => sha256_great N c.1 c.2.1))
theorem Ev40_ok (R : Type) : EnvOK Tryd.prog (Ev40 N R) := EnvOK.addFn hmx (Ev39_ok N R) (Ev39_ok N _) (by kernel_rfl) (fun c => sha256_great_S N c.1 c.2.1)
noncomputable def sha256_step (N : Nat) (s0 : Arr Int 8) (more1 : Int) : Option (Arr Int 8) :=
 Option.bind (getI s0.l (0 : Int)) fun (v3 : Int) =>
 Option.bind (getI s0.l (1 : Int)) fun (v4 : Int) =>
 Option.bind (getI s0.l (2 : Int)) fun (v5 : Int) =>
 Option.bind (getI s0.l (3 : Int)) fun (v6 : Int) =>
 Option.bind (getI s0.l (4 : Int)) fun (v7 : Int) =>
 Option.bind (getI s0.l (5 : Int)) fun (v8 : Int) =>
 Option.bind (getI s0.l (6 : Int)) fun (v9 : Int) =>
 Option.bind (getI s0.l (7 : Int)) fun (v10 : Int) =>
 some ((@Arr.cons Int (7 : Nat) (IntKind.wrap .u32 ((IntKind.wrap .u32 ((IntKind.wrap .u32 ((IntKind.wrap .u32 (v10 + (bits .xor .u32 (bits .xor .u32 (bits .or .u32 (IntKind.wrap .u32 (v7 * ((2 : Int) ^ (min (Int.toNat (bits .and .u64 (IntKind.wrap .u64 (IntKind.wrap .i64 ((0 : Int) - 6))) (31 : Int))) (IntKind.bits .u32))))) (@Int.fdiv v7 ((2 : Int) ^ (min (Int.toNat (IntKind.wrap .u64 ((32 : Int) - (bits .and .u64 (IntKind.wrap .u64 (IntKind.wrap .i64 ((0 : Int) - 6))) (31 : Int))))) (IntKind.bits .u32))))) (bits .or .u32 (IntKind.wrap .u32 (v7 * ((2 : Int) ^ (min (Int.toNat (bits .and .u64 (IntKind.wrap .u64 (IntKind.wrap .i64 ((0 : Int) - 11))) (31 : Int))) (IntKind.bits .u32))))) (@Int.fdiv v7 ((2 : Int) ^ (min (Int.toNat (IntKind.wrap .u64 ((32 : Int) - (bits .and .u64 (IntKind.wrap .u64 (IntKind.wrap .i64 ((0 : Int) - 11))) (31 : Int))))) (IntKind.bits .u32)))))) (bits .or .u32 (IntKind.wrap .u32 (v7 * ((2 : Int) ^ (min (Int.toNat (bits .and .u64 (IntKind.wrap .u64 (IntKind.wrap .i64 ((0 : Int) - 25))) (31 : Int))) (IntKind.bits .u32))))) (@Int.fdiv v7 ((2 : Int) ^ (min (Int.toNat (IntKind.wrap .u64 ((32 : Int) - (bits .and .u64 (IntKind.wrap .u64 (IntKind.wrap .i64 ((0 : Int) - 25))) (31 : Int))))) (IntKind.bits .u32)))))))) + (bits .or .u32 (bits .and .u32 v7 v8) (bits .and .u32 (bits .xor .u32 (@ite Int (@Eq Bool (@IntKind.signed @IntKind.u32) true) (@instDecidableEqBool (@IntKind.signed @IntKind.u32) true) (-1 : Int) (@IntKind.max @IntKind.u32)) v7) v9)))) + more1)) + (IntKind.wrap .u32 ((bits .xor .u32 (bits .xor .u32 (bits .or .u32 (IntKind.wrap .u32 (v3 * ((2 : Int) ^ (min (Int.toNat (bits .and .u64 (IntKind.wrap .u64 (IntKind.wrap .i64 ((0 : Int) - 2))) (31 : Int))) (IntKind.bits .u32))))) (@Int.fdiv v3 ((2 : Int) ^ (min (Int.toNat (IntKind.wrap .u64 ((32 : Int) - (bits .and .u64 (IntKind.wrap .u64 (IntKind.wrap .i64 ((0 : Int) - 2))) (31 : Int))))) (IntKind.bits .u32))))) (bits .or .u32 (IntKind.wrap .u32 (v3 * ((2 : Int) ^ (min (Int.toNat (bits .and .u64 (IntKind.wrap .u64 (IntKind.wrap .i64 ((0 : Int) - 13))) (31 : Int))) (IntKind.bits .u32))))) (@Int.fdiv v3 ((2 : Int) ^ (min (Int.toNat (IntKind.wrap .u64 ((32 : Int) - (bits .and .u64 (IntKind.wrap .u64 (IntKind.wrap .i64 ((0 : Int) - 13))) (31 : Int))))) (IntKind.bits .u32)))))) (bits .or .u32 (IntKind.wrap .u32 (v3 * ((2 : Int) ^ (min (Int.toNat (bits .and .u64 (IntKind.wrap .u64 (IntKind.wrap .i64 ((0 : Int) - 22))) (31 : Int))) (IntKind.bits .u32))))) (@Int.fdiv v3 ((2 : Int) ^ (min (Int.toNat (IntKind.wrap .u64 ((32 : Int) - (bits .and .u64 (IntKind.wrap .u64 (IntKind.wrap .i64 ((0 : Int) - 22))) (31 : Int))))) (IntKind.bits .u32)))))) + (bits .or .u32 (bits .or .u32 (bits .and .u32 v3 v4) (bits .and .u32 v3 v5)) (bits .and .u32 v4 v5)))))) (@Arr.cons Int (6 : Nat) v3 (@Arr.cons Int (5 : Nat) v4 (@Arr.cons Int (4 : Nat) v5 (@Arr.cons Int (3 : Nat) (IntKind.wrap .u32 (v6 + (IntKind.wrap .u32 ((IntKind.wrap .u32 ((IntKind.wrap .u32 (v10 + (bits .xor .u32 (bits .xor .u32 (bits .or .u32 (IntKind.wrap .u32 (v7 * ((2 : Int) ^ (min (Int.toNat (bits .and .u64 (IntKind.wrap .u64 (IntKind.wrap .i64 ((0 : Int) - 6))) (31 : Int))) (IntKind.bits .u32))))) (@Int.fdiv v7 ((2 : Int) ^ (min (Int.toNat (IntKind.wrap .u64 ((32 : Int) - (bits .and .u64 (IntKind.wrap .u64 (IntKind.wrap .i64 ((0 : Int) - 6))) (31 : Int))))) (IntKind.bits .u32))))) (bits .or .u32 (IntKind.wrap .u32 (v7 * ((2 : Int) ^ (min (Int.toNat (bits .and .u64 (IntKind.wrap .u64 (IntKind.wrap .i64 ((0 : Int) - 11))) (31 : Int))) (IntKind.bits .u32))))) (@Int.fdiv v7 ((2 : Int) ^ (min (Int.toNat (IntKind.wrap .u64 ((32 : Int) - (bits .and .u64 (IntKind.wrap .u64 (IntKind.wrap .i64 ((0 : Int) - 11))) (31 : Int))))) (IntKind.bits .u32)))))) (bits .or .u32 (IntKind.wrap .u32 (v7 * ((2 : Int) ^ (min (Int.toNat (bits .and .u64 (IntKind.wrap .u64 (IntKind.wrap .i64 ((0 : Int) - 25))) (31 : Int))) (IntKind.bits .u32))))) (@Int.fdiv v7 ((2 : Int) ^ (min (Int.toNat (IntKind.wrap .u64 ((32 : Int) - (bits .and .u64 (IntKind.wrap .u64 (IntKind.wrap .i64 ((0 : Int) - 25))) (31 : Int))))) (IntKind.bits .u32)))))))) + (bits .or .u32 (bits .and .u32 v7 v8) (bits .and .u32 (bits .xor .u32 (@ite Int (@Eq Bool (@IntKind.signed @IntKind.u32) true) (@instDecidableEqBool (@IntKind.signed @IntKind.u32) true) (-1 : Int) (@IntKind.max @IntKind.u32)) v7) v9)))) + more1)))) (@Arr.cons Int (2 : Nat) v7 (@Arr.cons Int (1 : Nat) v8 (@Arr.cons Int (0 : Nat) v9 (@Arr.nil Int))))))))))
theorem sha256_step_S (s0 : Arr Int 8) (more1 : Int) : (runK Tryd.prog (Ev40 N) 400 66 [(.arr 8 (.int .u32)), (.int .u32)] [(.arr 8 (.int .u32))] (s0, more1, ())).run = sha256_step N s0 more1 := by kernel_rfl
noncomputable def Ev41 : (R : Type) → Env R := Env.addFn (Ev40 N) 66 (fun R => fnK [(.arr 8 (.int .u32)), (.int .u32)] [(.arr 8 (.int .u32))] (fun c => sha256_step N c.1 c.2.1))
theorem Ev41_ok (R : Type) : EnvOK Tryd.prog (Ev41 N R) := EnvOK.addFn hmx (Ev40_ok N R) (Ev40_ok N _) (by kernel_rfl) (fun c => sha256_step_S N c.1 c.2.1)
noncomputable def sha256_behind_L4_I : LI := ⟨40, 0, [], ⟨[(3, .adr (.arr 8 (.int .u32))), (5, .adr (.arr 64 (.int .u32))), (6, .lit (.box 0 0)), (7, .lit (.box 1 0)), (8, .lit (.box 2 0)), (14, .ty (.int .i64))], [.box 108 (.arr 8 (.int .u32)), .box 110 (.arr 64 (.int .u32)), .box 108 (.arr 8 (.int .u32))]⟩, [(.exit 0, ⟨[(3, .adr (.arr 8 (.int .u32))), (6, .lit (.box 0 0)), (8, .lit (.box 1 0))], [.box 108 (.arr 8 (.int .u32)), .box 108 (.arr 8 (.int .u32))]⟩)]⟩
noncomputable def sha256_behind_L4 (X : (((Arr Int 8) × ((Arr Int 64) × (Int × Unit))) × ((Arr Int 8) × ((Arr Int 64) × ((Arr Int 8) × Unit)))) → Option ((((Arr Int 8) × Unit) × ((Arr Int 8) × ((Arr Int 8) × Unit))))) (s3 : Arr Int 8) (k5 : Arr Int 64) (x14 : Int) (h0 : Arr Int 8) (h1 : Arr Int 64) (h2 : Arr Int 8) : Option ((((Arr Int 8) × Unit) × ((Arr Int 8) × ((Arr Int 8) × Unit)))) :=
 bif (decide (x14 < (64 : Int))) then
  Option.bind (getI k5.l x14) fun (v8 : Int) =>
  bif (decide ((0 : Int) ≤ x14 ∧ x14 < ((64 : Nat) : Int))) then
   Option.bind (h1.l[Int.toNat x14]?) fun (v9 : Int) =>
   Option.bind (sha256_step N h2 (IntKind.wrap .u32 (v8 + v9))) fun v10 =>
   (X ((s3, (k5, ((IntKind.wrap .i64 (x14 + 1)), ()))), (h0, (h1, (v10, ())))))
  else
   none
 else
  some (((s3, ()), (h0, (h2, ()))))
noncomputable def sha256_behind_L4_R (c : (((Arr Int 8) × ((Arr Int 64) × (Int × Unit))) × ((Arr Int 8) × ((Arr Int 64) × ((Arr Int 8) × Unit))))) : Option ((((Arr Int 8) × Unit) × ((Arr Int 8) × ((Arr Int 8) × Unit)))) := gl (fun X c => sha256_behind_L4 N X c.1.1 c.1.2.1 c.1.2.2.1 c.2.1 c.2.2.1 c.2.2.2.1) N c
theorem sha256_behind_L4_S (X : (((Arr Int 8) × ((Arr Int 64) × (Int × Unit))) × ((Arr Int 8) × ((Arr Int 64) × ((Arr Int 8) × Unit)))) → Option ((((Arr Int 8) × Unit) × ((Arr Int 8) × ((Arr Int 8) × Unit))))) (s3 : Arr Int 8) (k5 : Arr Int 64) (x14 : Int) (h0 : Arr Int 8) (h1 : Arr Int 64) (h2 : Arr Int 8) : (roundK Tryd.prog (Ev41 N) 400 [56] sha256_behind_L4_I (loopAt Tryd.prog [56] 4) X ((s3, k5, x14, ()), (h0, h1, h2, ()))).run = sha256_behind_L4 N X s3 k5 x14 h0 h1 h2 := by kernel_rfl
noncomputable def Ev42 : (R : Type) → Env R := Env.addLp (Ev41 N) [56] 0 4 (fun R => lpK Tryd.prog sha256_behind_L4_I (fun X c => sha256_behind_L4 N X c.1.1 c.1.2.1 c.1.2.2.1 c.2.1 c.2.2.1 c.2.2.2.1) N)
theorem Ev42_ok (R : Type) : EnvOK Tryd.prog (Ev42 N R) := EnvOK.addLp (Ev41_ok N R) (by kernel_rfl) (lpK_ok (li := sha256_behind_L4_I) (G := fun X c => sha256_behind_L4 N X c.1.1 c.1.2.1 c.1.2.2.1 c.2.1 c.2.2.1 c.2.2.2.1) hmx (Ev41_ok N _) (by kernel_rfl) loopAt_sub (fun (X : CT sha256_behind_L4_I.sh → Option (OT sha256_behind_L4_I.outs)) (c : CT sha256_behind_L4_I.sh) => sha256_behind_L4_S N X c.1.1 c.1.2.1 c.1.2.2.1 c.2.1 c.2.2.1 c.2.2.2.1) N)
noncomputable def sha256_behind_L9_I : LI := ⟨40, 0, [], ⟨[(3, .adr (.arr 8 (.int .u32))), (6, .lit (.box 0 0)), (8, .lit (.box 1 0)), (27, .ty (.int .i64))], [.box 108 (.arr 8 (.int .u32)), .box 108 (.arr 8 (.int .u32))]⟩, [(.exit 2, ⟨[(6, .lit (.box 0 0)), (8, .lit (.box 1 0))], [.box 108 (.arr 8 (.int .u32)), .box 108 (.arr 8 (.int .u32))]⟩)]⟩
noncomputable def sha256_behind_L9 (N : Nat) (X : (((Arr Int 8) × (Int × Unit)) × ((Arr Int 8) × ((Arr Int 8) × Unit))) → Option ((Unit × ((Arr Int 8) × ((Arr Int 8) × Unit))))) (s3 : Arr Int 8) (x27 : Int) (h0 : Arr Int 8) (h1 : Arr Int 8) : Option ((Unit × ((Arr Int 8) × ((Arr Int 8) × Unit)))) :=
 bif (decide (x27 < (8 : Int))) then
  bif (decide ((0 : Int) ≤ x27 ∧ x27 < ((8 : Nat) : Int))) then
   Option.bind (h1.l[Int.toNat x27]?) fun (v6 : Int) =>
   Option.bind (getI s3.l x27) fun (v7 : Int) =>
   bif (decide ((0 : Int) ≤ x27 ∧ x27 < ((8 : Nat) : Int))) then
    Option.bind (h1.l[Int.toNat x27]?) fun (v8 : Int) =>
    (X ((s3, ((IntKind.wrap .i64 (x27 + 1)), ())), (h0, ((h1.set (Int.toNat x27) (IntKind.wrap .u32 (v6 + v7))), ()))))
   else
    none
  else
   none
 else
  some (((), (h0, (h1, ()))))
noncomputable def sha256_behind_L9_R (c : (((Arr Int 8) × (Int × Unit)) × ((Arr Int 8) × ((Arr Int 8) × Unit)))) : Option ((Unit × ((Arr Int 8) × ((Arr Int 8) × Unit)))) := gl (fun X c => sha256_behind_L9 N X c.1.1 c.1.2.1 c.2.1 c.2.2.1) N c
theorem sha256_behind_L9_S (X : (((Arr Int 8) × (Int × Unit)) × ((Arr Int 8) × ((Arr Int 8) × Unit))) → Option ((Unit × ((Arr Int 8) × ((Arr Int 8) × Unit))))) (s3 : Arr Int 8) (x27 : Int) (h0 : Arr Int 8) (h1 : Arr Int 8) : (roundK Tryd.prog (Ev42 N) 400 [56] sha256_behind_L9_I (loopAt Tryd.prog [56] 9) X ((s3, x27, ()), (h0, h1, ()))).run = sha256_behind_L9 N X s3 x27 h0 h1 := by kernel_rfl
noncomputable def Ev43 : (R : Type) → Env R := Env.addLp (Ev42 N) [56] 0 9 (fun R => lpK Tryd.prog sha256_behind_L9_I (fun X c => sha256_behind_L9 N X c.1.1 c.1.2.1 c.2.1 c.2.2.1) N)
theorem Ev43_ok (R : Type) : EnvOK Tryd.prog (Ev43 N R) := EnvOK.addLp (Ev42_ok N R) (by kernel_rfl) (lpK_ok (li := sha256_behind_L9_I) (G := fun X c => sha256_behind_L9 N X c.1.1 c.1.2.1 c.2.1 c.2.2.1) hmx (Ev42_ok N _) (by kernel_rfl) loopAt_sub (fun (X : CT sha256_behind_L9_I.sh → Option (OT sha256_behind_L9_I.outs)) (c : CT sha256_behind_L9_I.sh) => sha256_behind_L9_S N X c.1.1 c.1.2.1 c.2.1 c.2.2.1) N)
noncomputable def sha256_behind (s0 : Arr Int 8) (b1 : Arr Int 64) (k2 : Arr Int 64) : Option (Arr Int 8) :=
 Option.bind (sha256_words N b1) fun v4 =>
 Option.bind (sha256_behind_L4_R N ((s0, (k2, ((0 : Int), ()))), ((@Arr.cons Int 7 0 (@Arr.cons Int 6 0 (@Arr.cons Int 5 0 (@Arr.cons Int 4 0 (@Arr.cons Int 3 0 (@Arr.cons Int 2 0 (@Arr.cons Int 1 0 (@Arr.cons Int 0 0 (@Arr.nil Int))))))))), (v4, (s0, ()))))) fun v5 =>
 Option.bind (sha256_behind_L9_R N ((v5.1.1, ((0 : Int), ())), (v5.2.1, (v5.2.2.1, ())))) fun v6 =>
 some (v6.2.2.1)
theorem sha256_behind_S (s0 : Arr Int 8) (b1 : Arr Int 64) (k2 : Arr Int 64) : (runK Tryd.prog (Ev43 N) 400 56 [(.arr 8 (.int .u32)), (.arr 64 (.int .u8)), (.arr 64 (.int .u32))] [(.arr 8 (.int .u32))] (s0, b1, k2, ())).run = sha256_behind N s0 b1 k2 := by kernel_rfl
noncomputable def Ev44 : (R : Type) → Env R := Env.addFn (Ev43 N) 56 (fun R => fnK [(.arr 8 (.int .u32)), (.arr 64 (.int .u8)), (.arr 64 (.int .u32))] [(.arr 8 (.int .u32))] (fun c => sha256_behind N c.1 c.2.1 c.2.2.1))
theorem Ev44_ok (R : Type) : EnvOK Tryd.prog (Ev44 N R) := EnvOK.addFn hmx (Ev43_ok N R) (Ev43_ok N _) (by kernel_rfl) (fun c => sha256_behind_S N c.1 c.2.1 c.2.2.1)
noncomputable def sha256_Of_L5_I : LI := ⟨35, 0, [], ⟨[(2, .lit (.box 0 0)), (3, .ty (.sl (.int .u8))), (4, .lit (.box 1 0)), (5, .lit (.box 2 0)), (6, .ty (.int .i64))], [.box 23 (.arr 32 (.int .u8)), .box 108 (.arr 8 (.int .u32)), .box 110 (.arr 64 (.int .u32))]⟩, [(.exit 0, ⟨[(2, .lit (.box 0 0)), (4, .lit (.box 1 0))], [.box 23 (.arr 32 (.int .u8)), .box 108 (.arr 8 (.int .u32))]⟩)]⟩
noncomputable def sha256_Of_L5 (X : (((List Int) × (Int × Unit)) × ((Arr Int 32) × ((Arr Int 8) × ((Arr Int 64) × Unit)))) → Option ((Unit × ((Arr Int 32) × ((Arr Int 8) × Unit))))) (all3 : List (Int)) (i6 : Int) (h0 : Arr Int 32) (h1 : Arr Int 8) (h2 : Arr Int 64) : Option ((Unit × ((Arr Int 32) × ((Arr Int 8) × Unit)))) :=
 bif (decide (i6 < (((List.length all3) : Nat) : Int))) then
  Option.bind (subI all3 i6 (IntKind.wrap .i64 (i6 + 64))) fun (v7 : (List Int)) =>
  Option.bind (@toArr Int (64 : Nat) v7) fun (v8 : (Arr Int 64)) =>
  Option.bind (sha256_behind N h1 v8 h2) fun v9 =>
  (X ((all3, ((IntKind.wrap .i64 (i6 + 64)), ())), (h0, (v9, (h2, ())))))
 else
  some (((), (h0, (h1, ()))))
noncomputable def sha256_Of_L5_R (c : (((List Int) × (Int × Unit)) × ((Arr Int 32) × ((Arr Int 8) × ((Arr Int 64) × Unit))))) : Option ((Unit × ((Arr Int 32) × ((Arr Int 8) × Unit)))) := gl (fun X c => sha256_Of_L5 N X c.1.1 c.1.2.1 c.2.1 c.2.2.1 c.2.2.2.1) N c
theorem sha256_Of_L5_S (X : (((List Int) × (Int × Unit)) × ((Arr Int 32) × ((Arr Int 8) × ((Arr Int 64) × Unit)))) → Option ((Unit × ((Arr Int 32) × ((Arr Int 8) × Unit))))) (all3 : List (Int)) (i6 : Int) (h0 : Arr Int 32) (h1 : Arr Int 8) (h2 : Arr Int 64) : (roundK Tryd.prog (Ev44 N) 400 [44] sha256_Of_L5_I (loopAt Tryd.prog [44] 5) X ((all3, i6, ()), (h0, h1, h2, ()))).run = sha256_Of_L5 N X all3 i6 h0 h1 h2 := by kernel_rfl
noncomputable def Ev45 : (R : Type) → Env R := Env.addLp (Ev44 N) [44] 0 5 (fun R => lpK Tryd.prog sha256_Of_L5_I (fun X c => sha256_Of_L5 N X c.1.1 c.1.2.1 c.2.1 c.2.2.1 c.2.2.2.1) N)
theorem Ev45_ok (R : Type) : EnvOK Tryd.prog (Ev45 N R) := EnvOK.addLp (Ev44_ok N R) (by kernel_rfl) (lpK_ok (li := sha256_Of_L5_I) (G := fun X c => sha256_Of_L5 N X c.1.1 c.1.2.1 c.2.1 c.2.2.1 c.2.2.2.1) hmx (Ev44_ok N _) (by kernel_rfl) loopAt_sub (fun (X : CT sha256_Of_L5_I.sh → Option (OT sha256_Of_L5_I.outs)) (c : CT sha256_Of_L5_I.sh) => sha256_Of_L5_S N X c.1.1 c.1.2.1 c.2.1 c.2.2.1 c.2.2.2.1) N)
noncomputable def Ev46 : (R : Type) → Env R := Env.addBx (Ev45 N) [(57, 0)]
theorem Ev46_ok (R : Type) : EnvOK Tryd.prog (Ev46 N R) := EnvOK.addBx (Ev45_ok N R) [(57, 0)]
noncomputable def sha256_digest_L3_I : LI := ⟨25, 0, [(3, 5)], ⟨[(2, .lit (.box 0 0)), (3, .lit (.own 1)), (8, .ty (.arr 8 (.int .u32))), (9, .ty (.int .i64))], [.box 23 (.arr 32 (.int .u8)), .own (.int .u8) 5]⟩, [(.exit 0, ⟨[(2, .lit (.box 0 0)), (3, .lit (.own 1))], [.box 23 (.arr 32 (.int .u8)), .own (.int .u8) 5]⟩)]⟩
noncomputable def sha256_digest_L3 (X : (((Arr Int 8) × (Int × Unit)) × ((Arr Int 32) × ((List Int) × Unit))) → Option ((Unit × ((Arr Int 32) × ((List Int) × Unit))))) (x8 : Arr Int 8) (x9 : Int) (h0 : Arr Int 32) (h1 : List (Int)) : Option ((Unit × ((Arr Int 32) × ((List Int) × Unit)))) :=
 bif (decide (x9 < (8 : Int))) then
  Option.bind (getI x8.l x9) fun (v6 : Int) =>
  Option.bind (octs_Put N (IntKind.wrap .u64 v6) (4 : Int) false) fun v7 =>
  bif (roomB ((List.length h1) + (List.length v7.1)) 1) then
   (X ((x8, ((IntKind.wrap .i64 (x9 + 1)), ())), (h0, ((h1 ++ v7.1), ()))))
  else
   none
 else
  some (((), (h0, (h1, ()))))
noncomputable def sha256_digest_L3_R (c : (((Arr Int 8) × (Int × Unit)) × ((Arr Int 32) × ((List Int) × Unit)))) : Option ((Unit × ((Arr Int 32) × ((List Int) × Unit)))) := gl (fun X c => sha256_digest_L3 N X c.1.1 c.1.2.1 c.2.1 c.2.2.1) N c
theorem sha256_digest_L3_S (X : (((Arr Int 8) × (Int × Unit)) × ((Arr Int 32) × ((List Int) × Unit))) → Option ((Unit × ((Arr Int 32) × ((List Int) × Unit))))) (x8 : Arr Int 8) (x9 : Int) (h0 : Arr Int 32) (h1 : List (Int)) : (roundK Tryd.prog (Ev46 N) 400 [57] sha256_digest_L3_I (loopAt Tryd.prog [57] 3) X ((x8, x9, ()), (h0, h1, ()))).run = sha256_digest_L3 N X x8 x9 h0 h1 := by kernel_rfl
noncomputable def Ev47 : (R : Type) → Env R := Env.addLp (Ev46 N) [57] 0 3 (fun R => lpK Tryd.prog sha256_digest_L3_I (fun X c => sha256_digest_L3 N X c.1.1 c.1.2.1 c.2.1 c.2.2.1) N)
theorem Ev47_ok (R : Type) : EnvOK Tryd.prog (Ev47 N R) := EnvOK.addLp (Ev46_ok N R) (by kernel_rfl) (lpK_ok (li := sha256_digest_L3_I) (G := fun X c => sha256_digest_L3 N X c.1.1 c.1.2.1 c.2.1 c.2.2.1) hmx (Ev46_ok N _) (by kernel_rfl) loopAt_sub (fun (X : CT sha256_digest_L3_I.sh → Option (OT sha256_digest_L3_I.outs)) (c : CT sha256_digest_L3_I.sh) => sha256_digest_L3_S N X c.1.1 c.1.2.1 c.2.1 c.2.2.1) N)
noncomputable def sha256_digest (s0 : Arr Int 8) : Option (Arr Int 32) :=
 Option.bind (sha256_digest_L3_R N ((s0, ((0 : Int), ())), ((@Arr.cons Int 31 0 (@Arr.cons Int 30 0 (@Arr.cons Int 29 0 (@Arr.cons Int 28 0 (@Arr.cons Int 27 0 (@Arr.cons Int 26 0 (@Arr.cons Int 25 0 (@Arr.cons Int 24 0 (@Arr.cons Int 23 0 (@Arr.cons Int 22 0 (@Arr.cons Int 21 0 (@Arr.cons Int 20 0 (@Arr.cons Int 19 0 (@Arr.cons Int 18 0 (@Arr.cons Int 17 0 (@Arr.cons Int 16 0 (@Arr.cons Int 15 0 (@Arr.cons Int 14 0 (@Arr.cons Int 13 0 (@Arr.cons Int 12 0 (@Arr.cons Int 11 0 (@Arr.cons Int 10 0 (@Arr.cons Int 9 0 (@Arr.cons Int 8 0 (@Arr.cons Int 7 0 (@Arr.cons Int 6 0 (@Arr.cons Int 5 0 (@Arr.cons Int 4 0 (@Arr.cons Int 3 0 (@Arr.cons Int 2 0 (@Arr.cons Int 1 0 (@Arr.cons Int 0 0 (@Arr.nil Int))))))))))))))))))))))))))))))))), (([] : List Int), ())))) fun v2 =>
 Option.bind (@toArr Int (32 : Nat) v2.2.2.1) fun (v3 : (Arr Int 32)) =>
 some (v3)
theorem sha256_digest_S (s0 : Arr Int 8) : (runK Tryd.prog (Ev47 N) 400 57 [(.arr 8 (.int .u32))] [(.arr 32 (.int .u8))] (s0, ())).run = sha256_digest N s0 := by kernel_rfl
noncomputable def Ev48 : (R : Type) → Env R := Env.addFn (Ev47 N) 57 (fun R => fnK [(.arr 8 (.int .u32))] [(.arr 32 (.int .u8))] (fun c => sha256_digest N c.1))
theorem Ev48_ok (R : Type) : EnvOK Tryd.prog (Ev48 N R) := EnvOK.addFn hmx (Ev47_ok N R) (Ev47_ok N _) (by kernel_rfl) (fun c => sha256_digest_S N c.1)
noncomputable def sha256_Of (parts0 : List (List Int)) : Option (Arr Int 32) :=
 Option.bind (sha256_Of_1_octs_Join_L3_R N ((parts0, ((0 : Int), (parts0, ((((List.length parts0) : Nat) : Int), ((0 : Int), ()))))), ((@Arr.cons Int 31 0 (@Arr.cons Int 30 0 (@Arr.cons Int 29 0 (@Arr.cons Int 28 0 (@Arr.cons Int 27 0 (@Arr.cons Int 26 0 (@Arr.cons Int 25 0 (@Arr.cons Int 24 0 (@Arr.cons Int 23 0 (@Arr.cons Int 22 0 (@Arr.cons Int 21 0 (@Arr.cons Int 20 0 (@Arr.cons Int 19 0 (@Arr.cons Int 18 0 (@Arr.cons Int 17 0 (@Arr.cons Int 16 0 (@Arr.cons Int 15 0 (@Arr.cons Int 14 0 (@Arr.cons Int 13 0 (@Arr.cons Int 12 0 (@Arr.cons Int 11 0 (@Arr.cons Int 10 0 (@Arr.cons Int 9 0 (@Arr.cons Int 8 0 (@Arr.cons Int 7 0 (@Arr.cons Int 6 0 (@Arr.cons Int 5 0 (@Arr.cons Int 4 0 (@Arr.cons Int 3 0 (@Arr.cons Int 2 0 (@Arr.cons Int 1 0 (@Arr.cons Int 0 0 (@Arr.nil Int))))))))))))))))))))))))))))))))), ()))) fun v2 =>
 bif ((decide ((0 : Int) ≤ (0 : Int) ∧ (0 : Int) ≤ v2.1.2.1)) && (roomB (Int.toNat v2.1.2.1) 1)) then
  Option.bind (sha256_Of_1_octs_Join_L9_R N ((v2.1.1, ((((List.length v2.1.1) : Nat) : Int), ((0 : Int), ()))), (v2.2.1, ((@List.replicate Int (Int.toNat (0 : Int)) (0 : Int)), ())))) fun v3 =>
  Option.bind (sha256_Tail N (IntKind.wrap .u64 (((List.length v3.2.2.1) : Nat) : Int))) fun v4 =>
  bif (roomB ((List.length v3.2.2.1) + (List.length v4)) 1) then
   Option.bind (@sha256_First N) fun (v5 : (Arr Int 8)) =>
   Option.bind (@sha256_constants N) fun (v6 : (Arr Int 64)) =>
   Option.bind (sha256_Of_L5_R N (((v3.2.2.1 ++ v4), ((0 : Int), ())), (v3.2.1, (v5, (v6, ()))))) fun v7 =>
   Option.bind (sha256_digest N v7.2.2.1) fun v8 =>
   some (v8)
  else
   none
 else
  none
theorem sha256_Of_S (parts0 : List (List Int)) : (runK Tryd.prog (Ev48 N) 400 44 [(.sl (.sl (.int .u8)))] [(.arr 32 (.int .u8))] (parts0, ())).run = sha256_Of N parts0 := by kernel_rfl
noncomputable def Ev49 : (R : Type) → Env R := Env.addFn (Ev48 N) 44 (fun R => fnK [(.sl (.sl (.int .u8)))] [(.arr 32 (.int .u8))] (fun c => sha256_Of N c.1))
theorem Ev49_ok (R : Type) : EnvOK Tryd.prog (Ev49 N R) := EnvOK.addFn hmx (Ev48_ok N R) (Ev48_ok N _) (by kernel_rfl) (fun c => sha256_Of_S N c.1)
noncomputable def Ev50 : (R : Type) → Env R := Env.addMv (Ev49 N) [(67, 7)]
theorem Ev50_ok (R : Type) : EnvOK Tryd.prog (Ev50 N R) := EnvOK.addMv (Ev49_ok N R) [(67, 7)]
noncomputable def Ev51 : (R : Type) → Env R := Env.addMv (Ev50 N) [(76, 1), (76, 8)]
theorem Ev51_ok (R : Type) : EnvOK Tryd.prog (Ev51 N R) := EnvOK.addMv (Ev50_ok N R) [(76, 1), (76, 8)]
noncomputable def ref04_Tail_L2_I : LI := ⟨32, 0, [], ⟨[(0, .ty (.int .u64)), (3, .lit (.own 0))], [.own (.int .u8) 5]⟩, [(.exit 0, ⟨[(0, .ty (.int .u64)), (3, .lit (.own 0))], [.own (.int .u8) 5]⟩)]⟩
noncomputable def ref04_Tail_L2 (N : Nat) (X : ((Int × Unit) × ((List Int) × Unit)) → Option (((Int × Unit) × ((List Int) × Unit)))) (n0 : Int) (h0 : List (Int)) : Option (((Int × Unit) × ((List Int) × Unit))) :=
 bif (!(decide ((@Int.tmod (IntKind.wrap .u64 (n0 + (IntKind.wrap .u64 (((List.length h0) : Nat) : Int)))) (64 : Int)) = (56 : Int)))) then
  bif (roomB ((List.length h0) + (List.length ([0] : List Int))) 1) then
   (X ((n0, ()), ((h0 ++ ([0] : List Int)), ())))
  else
   none
 else
  some (((n0, ()), (h0, ())))
noncomputable def ref04_Tail_L2_R (c : ((Int × Unit) × ((List Int) × Unit))) : Option (((Int × Unit) × ((List Int) × Unit))) := gl (fun X c => ref04_Tail_L2 N X c.1.1 c.2.1) N c
theorem ref04_Tail_L2_S (X : ((Int × Unit) × ((List Int) × Unit)) → Option (((Int × Unit) × ((List Int) × Unit)))) (n0 : Int) (h0 : List (Int)) : (roundK Tryd.prog (Ev51 N) 400 [76] ref04_Tail_L2_I (loopAt Tryd.prog [76] 2) X ((n0, ()), (h0, ()))).run = ref04_Tail_L2 N X n0 h0 := by kernel_rfl
noncomputable def Ev52 : (R : Type) → Env R := Env.addLp (Ev51 N) [76] 0 2 (fun R => lpK Tryd.prog ref04_Tail_L2_I (fun X c => ref04_Tail_L2 N X c.1.1 c.2.1) N)
theorem Ev52_ok (R : Type) : EnvOK Tryd.prog (Ev52 N R) := EnvOK.addLp (Ev51_ok N R) (by kernel_rfl) (lpK_ok (li := ref04_Tail_L2_I) (G := fun X c => ref04_Tail_L2 N X c.1.1 c.2.1) hmx (Ev51_ok N _) (by kernel_rfl) loopAt_sub (fun (X : CT ref04_Tail_L2_I.sh → Option (OT ref04_Tail_L2_I.outs)) (c : CT ref04_Tail_L2_I.sh) => ref04_Tail_L2_S N X c.1.1 c.2.1) N)
noncomputable def ref04_Tail_L6_I : LI := ⟨32, 0, [], ⟨[(3, .lit (.own 0)), (4, .ty (.int .u64)), (5, .ty (.int .i64))], [.own (.int .u8) 5]⟩, [(.exit 2, ⟨[(3, .lit (.own 0))], [.own (.int .u8) 5]⟩)]⟩
noncomputable def ref04_Tail_L6 (N : Nat) (X : ((Int × (Int × Unit)) × ((List Int) × Unit)) → Option ((Unit × ((List Int) × Unit)))) (bits4 : Int) (i5 : Int) (h0 : List (Int)) : Option ((Unit × ((List Int) × Unit))) :=
 bif (decide (i5 < (8 : Int))) then
  bif (roomB ((List.length h0) + (List.length ([(IntKind.wrap .u8 (@Int.tmod bits4 (256 : Int)))] : List (Int)))) 1) then
   (X (((IntKind.wrap .u64 (@Int.tdiv bits4 (256 : Int))), ((IntKind.wrap .i64 (i5 + 1)), ())), ((h0 ++ ([(IntKind.wrap .u8 (@Int.tmod bits4 (256 : Int)))] : List (Int))), ())))
  else
   none
 else
  some (((), (h0, ())))
noncomputable def ref04_Tail_L6_R (c : ((Int × (Int × Unit)) × ((List Int) × Unit))) : Option ((Unit × ((List Int) × Unit))) := gl (fun X c => ref04_Tail_L6 N X c.1.1 c.1.2.1 c.2.1) N c
theorem ref04_Tail_L6_S (X : ((Int × (Int × Unit)) × ((List Int) × Unit)) → Option ((Unit × ((List Int) × Unit)))) (bits4 : Int) (i5 : Int) (h0 : List (Int)) : (roundK Tryd.prog (Ev52 N) 400 [76] ref04_Tail_L6_I (loopAt Tryd.prog [76] 6) X ((bits4, i5, ()), (h0, ()))).run = ref04_Tail_L6 N X bits4 i5 h0 := by kernel_rfl
noncomputable def Ev53 : (R : Type) → Env R := Env.addLp (Ev52 N) [76] 0 6 (fun R => lpK Tryd.prog ref04_Tail_L6_I (fun X c => ref04_Tail_L6 N X c.1.1 c.1.2.1 c.2.1) N)
theorem Ev53_ok (R : Type) : EnvOK Tryd.prog (Ev53 N R) := EnvOK.addLp (Ev52_ok N R) (by kernel_rfl) (lpK_ok (li := ref04_Tail_L6_I) (G := fun X c => ref04_Tail_L6 N X c.1.1 c.1.2.1 c.2.1) hmx (Ev52_ok N _) (by kernel_rfl) loopAt_sub (fun (X : CT ref04_Tail_L6_I.sh → Option (OT ref04_Tail_L6_I.outs)) (c : CT ref04_Tail_L6_I.sh) => ref04_Tail_L6_S N X c.1.1 c.1.2.1 c.2.1) N)
noncomputable def ref04_Tail (n0 : Int) : Option (List Int) :=
 Option.bind (ref04_Tail_L2_R N ((n0, ()), (([128] : List Int), ()))) fun v2 =>
 Option.bind (ref04_Tail_L6_R N (((IntKind.wrap .u64 ((8 : Int) * v2.1.1)), ((0 : Int), ())), (v2.2.1, ()))) fun v3 =>
 some (v3.2.1)
theorem ref04_Tail_S (n0 : Int) : (runK Tryd.prog (Ev53 N) 400 76 [(.int .u64)] [(.sl (.int .u8))] (n0, ())).run = ref04_Tail N n0 := by kernel_rfl
noncomputable def Ev54 : (R : Type) → Env R := Env.addFn (Ev53 N) 76 (fun R => fnK [(.int .u64)] [(.sl (.int .u8))] (fun c => ref04_Tail N c.1))
theorem Ev54_ok (R : Type) : EnvOK Tryd.prog (Ev54 N R) := EnvOK.addFn hmx (Ev53_ok N R) (Ev53_ok N _) (by kernel_rfl) (fun c => ref04_Tail_S N c.1)
noncomputable def ref05_Tail_L5_I : LI := ⟨30, 0, [], ⟨[(3, .ty (.sl (.int .u8))), (4, .ty (.int .i64)), (5, .lit (.own 0)), (6, .ty (.int .i64))], [.own (.int .u8) 5]⟩, [(.exit 0, ⟨[(5, .lit (.own 0))], [.own (.int .u8) 5]⟩)]⟩
noncomputable def ref05_Tail_L5 (N : Nat) (X : (((List Int) × (Int × (Int × Unit))) × ((List Int) × Unit)) → Option ((Unit × ((List Int) × Unit)))) (b3 : List (Int)) (k4 : Int) (i6 : Int) (h0 : List (Int)) : Option ((Unit × ((List Int) × Unit))) :=
 bif (decide ((0 : Int) ≤ i6)) then
  Option.bind (getI b3 (IntKind.wrap .i64 (k4 + i6))) fun (v6 : Int) =>
  bif (roomB ((List.length h0) + (List.length ([v6] : List (Int)))) 1) then
   (X ((b3, (k4, ((IntKind.wrap .i64 (i6 - 1)), ()))), ((h0 ++ ([v6] : List (Int))), ())))
  else
   none
 else
  some (((), (h0, ())))
noncomputable def ref05_Tail_L5_R (c : (((List Int) × (Int × (Int × Unit))) × ((List Int) × Unit))) : Option ((Unit × ((List Int) × Unit))) := gl (fun X c => ref05_Tail_L5 N X c.1.1 c.1.2.1 c.1.2.2.1 c.2.1) N c
theorem ref05_Tail_L5_S (X : (((List Int) × (Int × (Int × Unit))) × ((List Int) × Unit)) → Option ((Unit × ((List Int) × Unit)))) (b3 : List (Int)) (k4 : Int) (i6 : Int) (h0 : List (Int)) : (roundK Tryd.prog (Ev54 N) 400 [67] ref05_Tail_L5_I (loopAt Tryd.prog [67] 5) X ((b3, k4, i6, ()), (h0, ()))).run = ref05_Tail_L5 N X b3 k4 i6 h0 := by kernel_rfl
noncomputable def Ev55 : (R : Type) → Env R := Env.addLp (Ev54 N) [67] 0 5 (fun R => lpK Tryd.prog ref05_Tail_L5_I (fun X c => ref05_Tail_L5 N X c.1.1 c.1.2.1 c.1.2.2.1 c.2.1) N)
theorem Ev55_ok (R : Type) : EnvOK Tryd.prog (Ev55 N R) := EnvOK.addLp (Ev54_ok N R) (by kernel_rfl) (lpK_ok (li := ref05_Tail_L5_I) (G := fun X c => ref05_Tail_L5 N X c.1.1 c.1.2.1 c.1.2.2.1 c.2.1) hmx (Ev54_ok N _) (by kernel_rfl) loopAt_sub (fun (X : CT ref05_Tail_L5_I.sh → Option (OT ref05_Tail_L5_I.outs)) (c : CT ref05_Tail_L5_I.sh) => ref05_Tail_L5_S N X c.1.1 c.1.2.1 c.1.2.2.1 c.2.1) N)
noncomputable def ref05_Tail (n0 : Int) : Option (List Int) :=
 Option.bind (ref04_Tail N n0) fun v2 =>
 Option.bind (takeI v2 (IntKind.wrap .i64 ((((List.length v2) : Nat) : Int) - 8))) fun (v3 : (List Int)) =>
 bif (roomB (List.length v3) 1) then
  Option.bind (ref05_Tail_L5_R N ((v2, ((IntKind.wrap .i64 ((((List.length v2) : Nat) : Int) - 8)), ((7 : Int), ()))), (v3, ()))) fun v4 =>
  some (v4.2.1)
 else
  none
theorem ref05_Tail_S (n0 : Int) : (runK Tryd.prog (Ev55 N) 400 67 [(.int .u64)] [(.sl (.int .u8))] (n0, ())).run = ref05_Tail N n0 := by kernel_rfl
noncomputable def Ev56 : (R : Type) → Env R := Env.addFn (Ev55 N) 67 (fun R => fnK [(.int .u64)] [(.sl (.int .u8))] (fun c => ref05_Tail N c.1))
theorem Ev56_ok (R : Type) : EnvOK Tryd.prog (Ev56 N R) := EnvOK.addFn hmx (Ev55_ok N R) (Ev55_ok N _) (by kernel_rfl) (fun c => ref05_Tail_S N c.1)
noncomputable def ref06_Tail (n0 : Int) : Option (List Int) :=
 Option.bind (ref05_Tail N n0) fun v2 =>
 some (v2)
theorem ref06_Tail_S (n0 : Int) : (runK Tryd.prog (Ev56 N) 400 58 [(.int .u64)] [(.sl (.int .u8))] (n0, ())).run = ref06_Tail N n0 := by kernel_rfl
noncomputable def Ev57 : (R : Type) → Env R := Env.addFn (Ev56 N) 58 (fun R => fnK [(.int .u64)] [(.sl (.int .u8))] (fun c => ref06_Tail N c.1))
theorem Ev57_ok (R : Type) : EnvOK Tryd.prog (Ev57 N R) := EnvOK.addFn hmx (Ev56_ok N R) (Ev56_ok N _) (by kernel_rfl) (fun c => ref06_Tail_S N c.1)
noncomputable def ref06_First (N : Nat) : Option (Arr Int 8) :=
 some ((@Arr.cons Int 7 1779033703 (@Arr.cons Int 6 3144134277 (@Arr.cons Int 5 1013904242 (@Arr.cons Int 4 2773480762 (@Arr.cons Int 3 1359893119 (@Arr.cons Int 2 2600822924 (@Arr.cons Int 1 528734635 (@Arr.cons Int 0 1541459225 (@Arr.nil Int))))))))))
theorem ref06_First_S : (runK Tryd.prog (Ev57 N) 400 59 [] [(.arr 8 (.int .u32))] ()).run = ref06_First N  := by kernel_rfl
noncomputable def Ev58 : (R : Type) → Env R := Env.addFn (Ev57 N) 59 (fun R => fnK [] [(.arr 8 (.int .u32))] (fun c => ref06_First N ))
theorem Ev58_ok (R : Type) : EnvOK Tryd.prog (Ev58 N R) := EnvOK.addFn hmx (Ev57_ok N R) (Ev57_ok N _) (by kernel_rfl) (fun c => ref06_First_S N )
noncomputable def ref06_Of_L8_I : LI := ⟨56, 0, [], ⟨[(2, .lit (.box 0 0)), (3, .lit (.own 1)), (4, .lit (.box 2 0)), (5, .ty (.int .i64)), (6, .lit (.box 3 0)), (7, .ty (.int .i64))], [.box 23 (.arr 32 (.int .u8)), .own (.int .u8) 5, .box 107 (.arr 8 (.int .u32)), .box 113 (.arr 64 (.int .u8))]⟩, [(.exit 2, ⟨[(2, .lit (.box 0 0)), (3, .lit (.own 1)), (4, .lit (.box 2 0)), (5, .ty (.int .i64)), (6, .lit (.box 3 0))], [.box 23 (.arr 32 (.int .u8)), .own (.int .u8) 5, .box 107 (.arr 8 (.int .u32)), .box 113 (.arr 64 (.int .u8))]⟩)]⟩
noncomputable def ref06_Of_L8 (N : Nat) (X : ((Int × (Int × Unit)) × ((Arr Int 32) × ((List Int) × ((Arr Int 8) × ((Arr Int 64) × Unit))))) → Option (((Int × Unit) × ((Arr Int 32) × ((List Int) × ((Arr Int 8) × ((Arr Int 64) × Unit))))))) (x5 : Int) (i7 : Int) (h0 : Arr Int 32) (h1 : List (Int)) (h2 : Arr Int 8) (h3 : Arr Int 64) : Option (((Int × Unit) × ((Arr Int 32) × ((List Int) × ((Arr Int 8) × ((Arr Int 64) × Unit)))))) :=
 bif (decide (i7 < (64 : Int))) then
  bif (decide ((0 : Int) ≤ (IntKind.wrap .i64 (x5 + i7)) ∧ (IntKind.wrap .i64 (x5 + i7)) < (((List.length h1) : Nat) : Int))) then
   Option.bind (h1[Int.toNat (IntKind.wrap .i64 (x5 + i7))]?) fun (v8 : Int) =>
   bif (decide ((0 : Int) ≤ i7 ∧ i7 < ((64 : Nat) : Int))) then
    Option.bind (h3.l[Int.toNat i7]?) fun (v9 : Int) =>
    (X ((x5, ((IntKind.wrap .i64 (i7 + 1)), ())), (h0, (h1, (h2, ((h3.set (Int.toNat i7) v8), ()))))))
   else
    none
  else
   none
 else
  some (((x5, ()), (h0, (h1, (h2, (h3, ()))))))
noncomputable def ref06_Of_L8_R (c : ((Int × (Int × Unit)) × ((Arr Int 32) × ((List Int) × ((Arr Int 8) × ((Arr Int 64) × Unit)))))) : Option (((Int × Unit) × ((Arr Int 32) × ((List Int) × ((Arr Int 8) × ((Arr Int 64) × Unit)))))) := gl (fun X c => ref06_Of_L8 N X c.1.1 c.1.2.1 c.2.1 c.2.2.1 c.2.2.2.1 c.2.2.2.2.1) N c
theorem ref06_Of_L8_S (X : ((Int × (Int × Unit)) × ((Arr Int 32) × ((List Int) × ((Arr Int 8) × ((Arr Int 64) × Unit))))) → Option (((Int × Unit) × ((Arr Int 32) × ((List Int) × ((Arr Int 8) × ((Arr Int 64) × Unit))))))) (x5 : Int) (i7 : Int) (h0 : Arr Int 32) (h1 : List (Int)) (h2 : Arr Int 8) (h3 : Arr Int 64) : (roundK Tryd.prog (Ev58 N) 400 [46] ref06_Of_L8_I (loopAt Tryd.prog [46] 8) X ((x5, i7, ()), (h0, h1, h2, h3, ()))).run = ref06_Of_L8 N X x5 i7 h0 h1 h2 h3 := by kernel_rfl
noncomputable def Ev59 : (R : Type) → Env R := Env.addLp (Ev58 N) [46] 0 8 (fun R => lpK Tryd.prog ref06_Of_L8_I (fun X c => ref06_Of_L8 N X c.1.1 c.1.2.1 c.2.1 c.2.2.1 c.2.2.2.1 c.2.2.2.2.1) N)
theorem Ev59_ok (R : Type) : EnvOK Tryd.prog (Ev59 N R) := EnvOK.addLp (Ev58_ok N R) (by kernel_rfl) (lpK_ok (li := ref06_Of_L8_I) (G := fun X c => ref06_Of_L8 N X c.1.1 c.1.2.1 c.2.1 c.2.2.1 c.2.2.2.1 c.2.2.2.2.1) hmx (Ev58_ok N _) (by kernel_rfl) loopAt_sub (fun (X : CT ref06_Of_L8_I.sh → Option (OT ref06_Of_L8_I.outs)) (c : CT ref06_Of_L8_I.sh) => ref06_Of_L8_S N X c.1.1 c.1.2.1 c.2.1 c.2.2.1 c.2.2.2.1 c.2.2.2.2.1) N)
noncomputable def Ev60 : (R : Type) → Env R := Env.addBx (Ev59 N) [(60, 0)]
theorem Ev60_ok (R : Type) : EnvOK Tryd.prog (Ev60 N R) := EnvOK.addBx (Ev59_ok N R) [(60, 0)]
noncomputable def ref06_turn (N : Nat) (x0 : Int) (n1 : Int) : Option Int :=
 bif (decide ((0 : Int) ≤ n1)) then
  bif (decide ((0 : Int) ≤ (IntKind.wrap .i64 ((32 : Int) - n1)))) then
   some ((bits .or .u32 (@Int.fdiv x0 ((2 : Int) ^ (min (Int.toNat n1) (IntKind.bits .u32)))) (IntKind.wrap .u32 (x0 * ((2 : Int) ^ (min (Int.toNat (IntKind.wrap .i64 ((32 : Int) - n1))) (IntKind.bits .u32)))))))
  else
   none
 else
  none
theorem ref06_turn_S (x0 : Int) (n1 : Int) : (runK Tryd.prog (Ev60 N) 400 77 [(.int .u32), (.int .i64)] [(.int .u32)] (x0, n1, ())).run = ref06_turn N x0 n1 := by kernel_rfl
noncomputable def Ev61 : (R : Type) → Env R := Env.addFn (Ev60 N) 77 (fun R => fnK [(.int .u32), (.int .i64)] [(.int .u32)] (fun c => ref06_turn N c.1 c.2.1))
theorem Ev61_ok (R : Type) : EnvOK Tryd.prog (Ev61 N R) := EnvOK.addFn hmx (Ev60_ok N R) (Ev60_ok N _) (by kernel_rfl) (fun c => ref06_turn_S N c.1 c.2.1)
noncomputable def ref06_small (x0 : Int) (p1 : Int) (q2 : Int) (r3 : Int) : Option Int :=
 Option.bind (ref06_turn N x0 p1) fun v5 =>
 Option.bind (ref06_turn N x0 q2) fun v6 =>
 bif (decide ((0 : Int) ≤ r3)) then
  some ((bits .xor .u32 (bits .xor .u32 v5 v6) (@Int.fdiv x0 ((2 : Int) ^ (min (Int.toNat r3) (IntKind.bits .u32))))))
 else
  none
theorem ref06_small_S (x0 : Int) (p1 : Int) (q2 : Int) (r3 : Int) : (runK Tryd.prog (Ev61 N) 400 68 [(.int .u32), (.int .i64), (.int .i64), (.int .i64)] [(.int .u32)] (x0, p1, q2, r3, ())).run = ref06_small N x0 p1 q2 r3 := by kernel_rfl
noncomputable def Ev62 : (R : Type) → Env R := Env.addFn (Ev61 N) 68 (fun R => fnK [(.int .u32), (.int .i64), (.int .i64), (.int .i64)] [(.int .u32)] (fun c => ref06_small N c.1 c.2.1 c.2.2.1 c.2.2.2.1))
theorem Ev62_ok (R : Type) : EnvOK Tryd.prog (Ev62 N R) := EnvOK.addFn hmx (Ev61_ok N R) (Ev61_ok N _) (by kernel_rfl) (fun c => ref06_small_S N c.1 c.2.1 c.2.2.1 c.2.2.2.1)
noncomputable def ref06_Block_L3_I : LI := ⟨161, 0, [], ⟨[(2, .adr (.arr 8 (.int .u32))), (3, .adr (.arr 64 (.int .u8))), (4, .lit (.box 0 0)), (5, .lit (.box 1 0)), (6, .ty (.int .i64))], [.box 107 (.arr 8 (.int .u32)), .box 110 (.arr 64 (.int .u32))]⟩, [(.exit 0, ⟨[(2, .adr (.arr 8 (.int .u32))), (4, .lit (.box 0 0)), (5, .lit (.box 1 0))], [.box 107 (.arr 8 (.int .u32)), .box 110 (.arr 64 (.int .u32))]⟩)]⟩
noncomputable def ref06_Block_L3 (N : Nat) (X : (((Arr Int 8) × ((Arr Int 64) × (Int × Unit))) × ((Arr Int 8) × ((Arr Int 64) × Unit))) → Option ((((Arr Int 8) × Unit) × ((Arr Int 8) × ((Arr Int 64) × Unit))))) (s2 : Arr Int 8) (block3 : Arr Int 64) (i6 : Int) (h0 : Arr Int 8) (h1 : Arr Int 64) : Option ((((Arr Int 8) × Unit) × ((Arr Int 8) × ((Arr Int 64) × Unit)))) :=
 bif (decide (i6 < (64 : Int))) then
  bif (decide (i6 < (16 : Int))) then
   Option.bind (getI block3.l (IntKind.wrap .i64 ((4 : Int) * i6))) fun (v7 : Int) =>
   Option.bind (getI block3.l (IntKind.wrap .i64 ((IntKind.wrap .i64 ((4 : Int) * i6)) + 1))) fun (v8 : Int) =>
   Option.bind (getI block3.l (IntKind.wrap .i64 ((IntKind.wrap .i64 ((4 : Int) * i6)) + 2))) fun (v9 : Int) =>
   Option.bind (getI block3.l (IntKind.wrap .i64 ((IntKind.wrap .i64 ((4 : Int) * i6)) + 3))) fun (v10 : Int) =>
   bif (decide ((0 : Int) ≤ i6 ∧ i6 < ((64 : Nat) : Int))) then
    Option.bind (h1.l[Int.toNat i6]?) fun (v11 : Int) =>
    (X ((s2, (block3, ((IntKind.wrap .i64 (i6 + 1)), ()))), (h0, ((h1.set (Int.toNat i6) (IntKind.wrap .u32 ((IntKind.wrap .u32 ((IntKind.wrap .u32 ((IntKind.wrap .u32 ((IntKind.wrap .u32 v7) * (16777216 : Int))) + (IntKind.wrap .u32 ((IntKind.wrap .u32 v8) * (65536 : Int))))) + (IntKind.wrap .u32 ((IntKind.wrap .u32 v9) * (256 : Int))))) + (IntKind.wrap .u32 v10)))), ()))))
   else
    none
  else
   bif (decide ((0 : Int) ≤ (IntKind.wrap .i64 (i6 - 16)) ∧ (IntKind.wrap .i64 (i6 - 16)) < ((64 : Nat) : Int))) then
    Option.bind (h1.l[Int.toNat (IntKind.wrap .i64 (i6 - 16))]?) fun (v7 : Int) =>
    bif (decide ((0 : Int) ≤ (IntKind.wrap .i64 (i6 - 7)) ∧ (IntKind.wrap .i64 (i6 - 7)) < ((64 : Nat) : Int))) then
     Option.bind (h1.l[Int.toNat (IntKind.wrap .i64 (i6 - 7))]?) fun (v8 : Int) =>
     bif (decide ((0 : Int) ≤ (IntKind.wrap .i64 (i6 - 15)) ∧ (IntKind.wrap .i64 (i6 - 15)) < ((64 : Nat) : Int))) then
      Option.bind (h1.l[Int.toNat (IntKind.wrap .i64 (i6 - 15))]?) fun (v9 : Int) =>
      bif (decide ((0 : Int) ≤ (IntKind.wrap .i64 (i6 - 2)) ∧ (IntKind.wrap .i64 (i6 - 2)) < ((64 : Nat) : Int))) then
       Option.bind (h1.l[Int.toNat (IntKind.wrap .i64 (i6 - 2))]?) fun (v10 : Int) =>
       bif (decide ((0 : Int) ≤ i6 ∧ i6 < ((64 : Nat) : Int))) then
        Option.bind (h1.l[Int.toNat i6]?) fun (v11 : Int) =>
        (X ((s2, (block3, ((IntKind.wrap .i64 (i6 + 1)), ()))), (h0, ((h1.set (Int.toNat i6) (IntKind.wrap .u32 ((IntKind.wrap .u32 ((IntKind.wrap .u32 (v7 + v8)) + (bits .xor .u32 (bits .xor .u32 (bits .or .u32 (@Int.fdiv v9 ((2 : Int) ^ (min (Int.toNat (7 : Int)) (IntKind.bits .u32)))) (IntKind.wrap .u32 (v9 * ((2 : Int) ^ (min (Int.toNat (IntKind.wrap .i64 ((32 : Int) - 7))) (IntKind.bits .u32)))))) (bits .or .u32 (@Int.fdiv v9 ((2 : Int) ^ (min (Int.toNat (18 : Int)) (IntKind.bits .u32)))) (IntKind.wrap .u32 (v9 * ((2 : Int) ^ (min (Int.toNat (IntKind.wrap .i64 ((32 : Int) - 18))) (IntKind.bits .u32))))))) (@Int.fdiv v9 ((2 : Int) ^ (min (Int.toNat (3 : Int)) (IntKind.bits .u32))))))) + (bits .xor .u32 (bits .xor .u32 (bits .or .u32 (@Int.fdiv v10 ((2 : Int) ^ (min (Int.toNat (17 : Int)) (IntKind.bits .u32)))) (IntKind.wrap .u32 (v10 * ((2 : Int) ^ (min (Int.toNat (IntKind.wrap .i64 ((32 : Int) - 17))) (IntKind.bits .u32)))))) (bits .or .u32 (@Int.fdiv v10 ((2 : Int) ^ (min (Int.toNat (19 : Int)) (IntKind.bits .u32)))) (IntKind.wrap .u32 (v10 * ((2 : Int) ^ (min (Int.toNat (IntKind.wrap .i64 ((32 : Int) - 19))) (IntKind.bits .u32))))))) (@Int.fdiv v10 ((2 : Int) ^ (min (Int.toNat (10 : Int)) (IntKind.bits .u32)))))))), ()))))
       else
        none
      else
       none
     else
      none
    else
     none
   else
    none
 else
  some (((s2, ()), (h0, (h1, ()))))
noncomputable def ref06_Block_L3_R (c : (((Arr Int 8) × ((Arr Int 64) × (Int × Unit))) × ((Arr Int 8) × ((Arr Int 64) × Unit)))) : Option ((((Arr Int 8) × Unit) × ((Arr Int 8) × ((Arr Int 64) × Unit)))) := gl (fun X c => ref06_Block_L3 N X c.1.1 c.1.2.1 c.1.2.2.1 c.2.1 c.2.2.1) N c
theorem ref06_Block_L3_S (X : (((Arr Int 8) × ((Arr Int 64) × (Int × Unit))) × ((Arr Int 8) × ((Arr Int 64) × Unit))) → Option ((((Arr Int 8) × Unit) × ((Arr Int 8) × ((Arr Int 64) × Unit))))) (s2 : Arr Int 8) (block3 : Arr Int 64) (i6 : Int) (h0 : Arr Int 8) (h1 : Arr Int 64) : (roundK Tryd.prog (Ev62 N) 400 [60] ref06_Block_L3_I (loopAt Tryd.prog [60] 3) X ((s2, block3, i6, ()), (h0, h1, ()))).run = ref06_Block_L3 N X s2 block3 i6 h0 h1 := by kernel_rfl
noncomputable def Ev63 : (R : Type) → Env R := Env.addLp (Ev62 N) [60] 0 3 (fun R => lpK Tryd.prog ref06_Block_L3_I (fun X c => ref06_Block_L3 N X c.1.1 c.1.2.1 c.1.2.2.1 c.2.1 c.2.2.1) N)
theorem Ev63_ok (R : Type) : EnvOK Tryd.prog (Ev63 N R) := EnvOK.addLp (Ev62_ok N R) (by kernel_rfl) (lpK_ok (li := ref06_Block_L3_I) (G := fun X c => ref06_Block_L3 N X c.1.1 c.1.2.1 c.1.2.2.1 c.2.1 c.2.2.1) hmx (Ev62_ok N _) (by kernel_rfl) loopAt_sub (fun (X : CT ref06_Block_L3_I.sh → Option (OT ref06_Block_L3_I.outs)) (c : CT ref06_Block_L3_I.sh) => ref06_Block_L3_S N X c.1.1 c.1.2.1 c.1.2.2.1 c.2.1 c.2.2.1) N)
noncomputable def ref06_constants (N : Nat) : Option (List Int) :=
 some (([1116352408, 1899447441, 3049323471, 3921009573, 961987163, 1508970993, 2453635748, 2870763221, 3624381080, 310598401, 607225278, 1426881987, 1925078388, 2162078206, 2614888103, 3248222580, 3835390401, 4022224774, 264347078, 604807628, 770255983, 1249150122, 1555081692, 1996064986, 2554220882, 2821834349, 2952996808, 3210313671, 3336571891, 3584528711, 113926993, 338241895, 666307205, 773529912, 1294757372, 1396182291, 1695183700, 1986661051, 2177026350, 2456956037, 2730485921, 2820302411, 3259730800, 3345764771, 3516065817, 3600352804, 4094571909, 275423344, 430227734, 506948616, 659060556, 883997877, 958139571, 1322822218, 1537002063, 1747873779, 1955562222, 2024104815, 2227730452, 2361852424, 2428436474, 2756734187, 3204031479, 3329325298] : List Int))
theorem ref06_constants_S : (runK Tryd.prog (Ev63 N) 400 69 [] [(.sl (.int .u32))] ()).run = ref06_constants N  := by kernel_rfl
noncomputable def Ev64 : (R : Type) → Env R := Env.addFn (Ev63 N) 69 (fun R => fnK [] [(.sl (.int .u32))] (fun c => ref06_constants N ))
theorem Ev64_ok (R : Type) : EnvOK Tryd.prog (Ev64 N R) := EnvOK.addFn hmx (Ev63_ok N R) (Ev63_ok N _) (by kernel_rfl) (fun c => ref06_constants_S N )
noncomputable def ref06_great (x0 : Int) (p1 : Int) (q2 : Int) (r3 : Int) : Option Int :=
 Option.bind (ref06_turn N x0 p1) fun v5 =>
 Option.bind (ref06_turn N x0 q2) fun v6 =>
 Option.bind (ref06_turn N x0 r3) fun v7 =>
 some ((bits .xor .u32 (bits .xor .u32 v5 v6) v7))
theorem ref06_great_S (x0 : Int) (p1 : Int) (q2 : Int) (r3 : Int) : (runK Tryd.prog (Ev64 N) 400 70 [(.int .u32), (.int .i64), (.int .i64), (.int .i64)] [(.int .u32)] (x0, p1, q2, r3, ())).run = ref06_great N x0 p1 q2 r3 := by kernel_rfl
noncomputable def Ev65 : (R : Type) → Env R := Env.addFn (Ev64 N) 70 (fun R => fnK [(.int .u32), (.int .i64), (.int .i64), (.int .i64)] [(.int .u32)] (fun c => ref06_great N c.1 c.2.1 c.2.2.1 c.2.2.2.1))
theorem Ev65_ok (R : Type) : EnvOK Tryd.prog (Ev65 N R) := EnvOK.addFn hmx (Ev64_ok N R) (Ev64_ok N _) (by kernel_rfl) (fun c => ref06_great_S N c.1 c.2.1 c.2.2.1 c.2.2.2.1)
noncomputable def ref06_Block_L11_I : LI := ⟨161, 0, [], ⟨[(2, .adr (.arr 8 (.int .u32))), (4, .lit (.box 0 0)), (5, .lit (.box 1 0)), (7, .ty (.sl (.int .u32))), (8, .lit (.box 2 0)), (9, .ty (.int .i64))], [.box 107 (.arr 8 (.int .u32)), .box 110 (.arr 64 (.int .u32)), .box 107 (.arr 8 (.int .u32))]⟩, [(.exit 2, ⟨[(2, .adr (.arr 8 (.int .u32))), (4, .lit (.box 0 0)), (8, .lit (.box 1 0))], [.box 107 (.arr 8 (.int .u32)), .box 107 (.arr 8 (.int .u32))]⟩)]⟩
noncomputable def ref06_Block_L11 (N : Nat) (X : (((Arr Int 8) × ((List Int) × (Int × Unit))) × ((Arr Int 8) × ((Arr Int 64) × ((Arr Int 8) × Unit)))) → Option ((((Arr Int 8) × Unit) × ((Arr Int 8) × ((Arr Int 8) × Unit))))) (s2 : Arr Int 8) (k7 : List (Int)) (i9 : Int) (h0 : Arr Int 8) (h1 : Arr Int 64) (h2 : Arr Int 8) : Option ((((Arr Int 8) × Unit) × ((Arr Int 8) × ((Arr Int 8) × Unit)))) :=
 bif (decide (i9 < (64 : Int))) then
  Option.bind (h2.l[Int.toNat (7 : Int)]?) fun (v8 : Int) =>
  Option.bind (h2.l[Int.toNat (4 : Int)]?) fun (v9 : Int) =>
  Option.bind (h2.l[Int.toNat (4 : Int)]?) fun (v10 : Int) =>
  Option.bind (h2.l[Int.toNat (5 : Int)]?) fun (v11 : Int) =>
  Option.bind (h2.l[Int.toNat (4 : Int)]?) fun (v12 : Int) =>
  Option.bind (h2.l[Int.toNat (6 : Int)]?) fun (v13 : Int) =>
  Option.bind (getI k7 i9) fun (v14 : Int) =>
  bif (decide ((0 : Int) ≤ i9 ∧ i9 < ((64 : Nat) : Int))) then
   Option.bind (h1.l[Int.toNat i9]?) fun (v15 : Int) =>
   Option.bind (h2.l[Int.toNat (0 : Int)]?) fun (v16 : Int) =>
   Option.bind (h2.l[Int.toNat (0 : Int)]?) fun (v17 : Int) =>
   Option.bind (h2.l[Int.toNat (1 : Int)]?) fun (v18 : Int) =>
   Option.bind (h2.l[Int.toNat (0 : Int)]?) fun (v19 : Int) =>
   Option.bind (h2.l[Int.toNat (2 : Int)]?) fun (v20 : Int) =>
   Option.bind (h2.l[Int.toNat (1 : Int)]?) fun (v21 : Int) =>
   Option.bind (h2.l[Int.toNat (2 : Int)]?) fun (v22 : Int) =>
   Option.bind (h2.l[Int.toNat (0 : Int)]?) fun (v23 : Int) =>
   Option.bind (h2.l[Int.toNat (1 : Int)]?) fun (v24 : Int) =>
   Option.bind (h2.l[Int.toNat (2 : Int)]?) fun (v25 : Int) =>
   Option.bind (h2.l[Int.toNat (3 : Int)]?) fun (v26 : Int) =>
   Option.bind (h2.l[Int.toNat (4 : Int)]?) fun (v27 : Int) =>
   Option.bind (h2.l[Int.toNat (5 : Int)]?) fun (v28 : Int) =>
   Option.bind (h2.l[Int.toNat (6 : Int)]?) fun (v29 : Int) =>
   (X ((s2, (k7, ((IntKind.wrap .i64 (i9 + 1)), ()))), (h0, (h1, ((@Arr.cons Int (7 : Nat) (IntKind.wrap .u32 ((IntKind.wrap .u32 ((IntKind.wrap .u32 ((IntKind.wrap .u32 ((IntKind.wrap .u32 (v8 + (bits .xor .u32 (bits .xor .u32 (bits .or .u32 (@Int.fdiv v9 ((2 : Int) ^ (min (Int.toNat (6 : Int)) (IntKind.bits .u32)))) (IntKind.wrap .u32 (v9 * ((2 : Int) ^ (min (Int.toNat (IntKind.wrap .i64 ((32 : Int) - 6))) (IntKind.bits .u32)))))) (bits .or .u32 (@Int.fdiv v9 ((2 : Int) ^ (min (Int.toNat (11 : Int)) (IntKind.bits .u32)))) (IntKind.wrap .u32 (v9 * ((2 : Int) ^ (min (Int.toNat (IntKind.wrap .i64 ((32 : Int) - 11))) (IntKind.bits .u32))))))) (bits .or .u32 (@Int.fdiv v9 ((2 : Int) ^ (min (Int.toNat (25 : Int)) (IntKind.bits .u32)))) (IntKind.wrap .u32 (v9 * ((2 : Int) ^ (min (Int.toNat (IntKind.wrap .i64 ((32 : Int) - 25))) (IntKind.bits .u32))))))))) + (bits .or .u32 (bits .and .u32 v10 v11) (bits .and .u32 (IntKind.wrap .u32 ((4294967295 : Int) - v12)) v13)))) + v14)) + v15)) + (IntKind.wrap .u32 ((bits .xor .u32 (bits .xor .u32 (bits .or .u32 (@Int.fdiv v16 ((2 : Int) ^ (min (Int.toNat (2 : Int)) (IntKind.bits .u32)))) (IntKind.wrap .u32 (v16 * ((2 : Int) ^ (min (Int.toNat (IntKind.wrap .i64 ((32 : Int) - 2))) (IntKind.bits .u32)))))) (bits .or .u32 (@Int.fdiv v16 ((2 : Int) ^ (min (Int.toNat (13 : Int)) (IntKind.bits .u32)))) (IntKind.wrap .u32 (v16 * ((2 : Int) ^ (min (Int.toNat (IntKind.wrap .i64 ((32 : Int) - 13))) (IntKind.bits .u32))))))) (bits .or .u32 (@Int.fdiv v16 ((2 : Int) ^ (min (Int.toNat (22 : Int)) (IntKind.bits .u32)))) (IntKind.wrap .u32 (v16 * ((2 : Int) ^ (min (Int.toNat (IntKind.wrap .i64 ((32 : Int) - 22))) (IntKind.bits .u32))))))) + (bits .or .u32 (bits .or .u32 (bits .and .u32 v17 v18) (bits .and .u32 v19 v20)) (bits .and .u32 v21 v22)))))) (@Arr.cons Int (6 : Nat) v23 (@Arr.cons Int (5 : Nat) v24 (@Arr.cons Int (4 : Nat) v25 (@Arr.cons Int (3 : Nat) (IntKind.wrap .u32 (v26 + (IntKind.wrap .u32 ((IntKind.wrap .u32 ((IntKind.wrap .u32 ((IntKind.wrap .u32 (v8 + (bits .xor .u32 (bits .xor .u32 (bits .or .u32 (@Int.fdiv v9 ((2 : Int) ^ (min (Int.toNat (6 : Int)) (IntKind.bits .u32)))) (IntKind.wrap .u32 (v9 * ((2 : Int) ^ (min (Int.toNat (IntKind.wrap .i64 ((32 : Int) - 6))) (IntKind.bits .u32)))))) (bits .or .u32 (@Int.fdiv v9 ((2 : Int) ^ (min (Int.toNat (11 : Int)) (IntKind.bits .u32)))) (IntKind.wrap .u32 (v9 * ((2 : Int) ^ (min (Int.toNat (IntKind.wrap .i64 ((32 : Int) - 11))) (IntKind.bits .u32))))))) (bits .or .u32 (@Int.fdiv v9 ((2 : Int) ^ (min (Int.toNat (25 : Int)) (IntKind.bits .u32)))) (IntKind.wrap .u32 (v9 * ((2 : Int) ^ (min (Int.toNat (IntKind.wrap .i64 ((32 : Int) - 25))) (IntKind.bits .u32))))))))) + (bits .or .u32 (bits .and .u32 v10 v11) (bits .and .u32 (IntKind.wrap .u32 ((4294967295 : Int) - v12)) v13)))) + v14)) + v15)))) (@Arr.cons Int (2 : Nat) v27 (@Arr.cons Int (1 : Nat) v28 (@Arr.cons Int (0 : Nat) v29 (@Arr.nil Int))))))))), ())))))
  else
   none
 else
  some (((s2, ()), (h0, (h2, ()))))
noncomputable def ref06_Block_L11_R (c : (((Arr Int 8) × ((List Int) × (Int × Unit))) × ((Arr Int 8) × ((Arr Int 64) × ((Arr Int 8) × Unit))))) : Option ((((Arr Int 8) × Unit) × ((Arr Int 8) × ((Arr Int 8) × Unit)))) := gl (fun X c => ref06_Block_L11 N X c.1.1 c.1.2.1 c.1.2.2.1 c.2.1 c.2.2.1 c.2.2.2.1) N c
theorem ref06_Block_L11_S (X : (((Arr Int 8) × ((List Int) × (Int × Unit))) × ((Arr Int 8) × ((Arr Int 64) × ((Arr Int 8) × Unit)))) → Option ((((Arr Int 8) × Unit) × ((Arr Int 8) × ((Arr Int 8) × Unit))))) (s2 : Arr Int 8) (k7 : List (Int)) (i9 : Int) (h0 : Arr Int 8) (h1 : Arr Int 64) (h2 : Arr Int 8) : (roundK Tryd.prog (Ev65 N) 400 [60] ref06_Block_L11_I (loopAt Tryd.prog [60] 11) X ((s2, k7, i9, ()), (h0, h1, h2, ()))).run = ref06_Block_L11 N X s2 k7 i9 h0 h1 h2 := by kernel_rfl
noncomputable def Ev66 : (R : Type) → Env R := Env.addLp (Ev65 N) [60] 0 11 (fun R => lpK Tryd.prog ref06_Block_L11_I (fun X c => ref06_Block_L11 N X c.1.1 c.1.2.1 c.1.2.2.1 c.2.1 c.2.2.1 c.2.2.2.1) N)
theorem Ev66_ok (R : Type) : EnvOK Tryd.prog (Ev66 N R) := EnvOK.addLp (Ev65_ok N R) (by kernel_rfl) (lpK_ok (li := ref06_Block_L11_I) (G := fun X c => ref06_Block_L11 N X c.1.1 c.1.2.1 c.1.2.2.1 c.2.1 c.2.2.1 c.2.2.2.1) hmx (Ev65_ok N _) (by kernel_rfl) loopAt_sub (fun (X : CT ref06_Block_L11_I.sh → Option (OT ref06_Block_L11_I.outs)) (c : CT ref06_Block_L11_I.sh) => ref06_Block_L11_S N X c.1.1 c.1.2.1 c.1.2.2.1 c.2.1 c.2.2.1 c.2.2.2.1) N)
noncomputable def ref06_Block_L17_I : LI := ⟨161, 0, [], ⟨[(2, .adr (.arr 8 (.int .u32))), (4, .lit (.box 0 0)), (8, .lit (.box 1 0)), (12, .ty (.int .i64))], [.box 107 (.arr 8 (.int .u32)), .box 107 (.arr 8 (.int .u32))]⟩, [(.exit 4, ⟨[(4, .lit (.box 0 0)), (8, .lit (.box 1 0))], [.box 107 (.arr 8 (.int .u32)), .box 107 (.arr 8 (.int .u32))]⟩)]⟩
noncomputable def ref06_Block_L17 (N : Nat) (X : (((Arr Int 8) × (Int × Unit)) × ((Arr Int 8) × ((Arr Int 8) × Unit))) → Option ((Unit × ((Arr Int 8) × ((Arr Int 8) × Unit))))) (s2 : Arr Int 8) (i12 : Int) (h0 : Arr Int 8) (h1 : Arr Int 8) : Option ((Unit × ((Arr Int 8) × ((Arr Int 8) × Unit)))) :=
 bif (decide (i12 < (8 : Int))) then
  bif (decide ((0 : Int) ≤ i12 ∧ i12 < ((8 : Nat) : Int))) then
   Option.bind (h1.l[Int.toNat i12]?) fun (v6 : Int) =>
   Option.bind (getI s2.l i12) fun (v7 : Int) =>
   bif (decide ((0 : Int) ≤ i12 ∧ i12 < ((8 : Nat) : Int))) then
    Option.bind (h1.l[Int.toNat i12]?) fun (v8 : Int) =>
    (X ((s2, ((IntKind.wrap .i64 (i12 + 1)), ())), (h0, ((h1.set (Int.toNat i12) (IntKind.wrap .u32 (v6 + v7))), ()))))
   else
    none
  else
   none
 else
  some (((), (h0, (h1, ()))))
noncomputable def ref06_Block_L17_R (c : (((Arr Int 8) × (Int × Unit)) × ((Arr Int 8) × ((Arr Int 8) × Unit)))) : Option ((Unit × ((Arr Int 8) × ((Arr Int 8) × Unit)))) := gl (fun X c => ref06_Block_L17 N X c.1.1 c.1.2.1 c.2.1 c.2.2.1) N c
theorem ref06_Block_L17_S (X : (((Arr Int 8) × (Int × Unit)) × ((Arr Int 8) × ((Arr Int 8) × Unit))) → Option ((Unit × ((Arr Int 8) × ((Arr Int 8) × Unit))))) (s2 : Arr Int 8) (i12 : Int) (h0 : Arr Int 8) (h1 : Arr Int 8) : (roundK Tryd.prog (Ev66 N) 400 [60] ref06_Block_L17_I (loopAt Tryd.prog [60] 17) X ((s2, i12, ()), (h0, h1, ()))).run = ref06_Block_L17 N X s2 i12 h0 h1 := by kernel_rfl
noncomputable def Ev67 : (R : Type) → Env R := Env.addLp (Ev66 N) [60] 0 17 (fun R => lpK Tryd.prog ref06_Block_L17_I (fun X c => ref06_Block_L17 N X c.1.1 c.1.2.1 c.2.1 c.2.2.1) N)
theorem Ev67_ok (R : Type) : EnvOK Tryd.prog (Ev67 N R) := EnvOK.addLp (Ev66_ok N R) (by kernel_rfl) (lpK_ok (li := ref06_Block_L17_I) (G := fun X c => ref06_Block_L17 N X c.1.1 c.1.2.1 c.2.1 c.2.2.1) hmx (Ev66_ok N _) (by kernel_rfl) loopAt_sub (fun (X : CT ref06_Block_L17_I.sh → Option (OT ref06_Block_L17_I.outs)) (c : CT ref06_Block_L17_I.sh) => ref06_Block_L17_S N X c.1.1 c.1.2.1 c.2.1 c.2.2.1) N)
noncomputable def ref06_Block (s0 : Arr Int 8) (block1 : Arr Int 64) : Option (Arr Int 8) :=
 Option.bind (ref06_Block_L3_R N ((s0, (block1, ((0 : Int), ()))), ((@Arr.cons Int 7 0 (@Arr.cons Int 6 0 (@Arr.cons Int 5 0 (@Arr.cons Int 4 0 (@Arr.cons Int 3 0 (@Arr.cons Int 2 0 (@Arr.cons Int 1 0 (@Arr.cons Int 0 0 (@Arr.nil Int))))))))), ((@Arr.cons Int 63 0 (@Arr.cons Int 62 0 (@Arr.cons Int 61 0 (@Arr.cons Int 60 0 (@Arr.cons Int 59 0 (@Arr.cons Int 58 0 (@Arr.cons Int 57 0 (@Arr.cons Int 56 0 (@Arr.cons Int 55 0 (@Arr.cons Int 54 0 (@Arr.cons Int 53 0 (@Arr.cons Int 52 0 (@Arr.cons Int 51 0 (@Arr.cons Int 50 0 (@Arr.cons Int 49 0 (@Arr.cons Int 48 0 (@Arr.cons Int 47 0 (@Arr.cons Int 46 0 (@Arr.cons Int 45 0 (@Arr.cons Int 44 0 (@Arr.cons Int 43 0 (@Arr.cons Int 42 0 (@Arr.cons Int 41 0 (@Arr.cons Int 40 0 (@Arr.cons Int 39 0 (@Arr.cons Int 38 0 (@Arr.cons Int 37 0 (@Arr.cons Int 36 0 (@Arr.cons Int 35 0 (@Arr.cons Int 34 0 (@Arr.cons Int 33 0 (@Arr.cons Int 32 0 (@Arr.cons Int 31 0 (@Arr.cons Int 30 0 (@Arr.cons Int 29 0 (@Arr.cons Int 28 0 (@Arr.cons Int 27 0 (@Arr.cons Int 26 0 (@Arr.cons Int 25 0 (@Arr.cons Int 24 0 (@Arr.cons Int 23 0 (@Arr.cons Int 22 0 (@Arr.cons Int 21 0 (@Arr.cons Int 20 0 (@Arr.cons Int 19 0 (@Arr.cons Int 18 0 (@Arr.cons Int 17 0 (@Arr.cons Int 16 0 (@Arr.cons Int 15 0 (@Arr.cons Int 14 0 (@Arr.cons Int 13 0 (@Arr.cons Int 12 0 (@Arr.cons Int 11 0 (@Arr.cons Int 10 0 (@Arr.cons Int 9 0 (@Arr.cons Int 8 0 (@Arr.cons Int 7 0 (@Arr.cons Int 6 0 (@Arr.cons Int 5 0 (@Arr.cons Int 4 0 (@Arr.cons Int 3 0 (@Arr.cons Int 2 0 (@Arr.cons Int 1 0 (@Arr.cons Int 0 0 (@Arr.nil Int))))))))))))))))))))))))))))))))))))))))))))))))))))))))))))))))), ())))) fun v3 =>
 Option.bind (ref06_Block_L11_R N ((v3.1.1, ((@List.cons Int (1116352408 : Int) (@List.cons Int (1899447441 : Int) (@List.cons Int (3049323471 : Int) (@List.cons Int (3921009573 : Int) (@List.cons Int (961987163 : Int) (@List.cons Int (1508970993 : Int) (@List.cons Int (2453635748 : Int) (@List.cons Int (2870763221 : Int) (@List.cons Int (3624381080 : Int) (@List.cons Int (310598401 : Int) (@List.cons Int (607225278 : Int) (@List.cons Int (1426881987 : Int) (@List.cons Int (1925078388 : Int) (@List.cons Int (2162078206 : Int) (@List.cons Int (2614888103 : Int) (@List.cons Int (3248222580 : Int) (@List.cons Int (3835390401 : Int) (@List.cons Int (4022224774 : Int) (@List.cons Int (264347078 : Int) (@List.cons Int (604807628 : Int) (@List.cons Int (770255983 : Int) (@List.cons Int (1249150122 : Int) (@List.cons Int (1555081692 : Int) (@List.cons Int (1996064986 : Int) (@List.cons Int (2554220882 : Int) (@List.cons Int (2821834349 : Int) (@List.cons Int (2952996808 : Int) (@List.cons Int (3210313671 : Int) (@List.cons Int (3336571891 : Int) (@List.cons Int (3584528711 : Int) (@List.cons Int (113926993 : Int) (@List.cons Int (338241895 : Int) (@List.cons Int (666307205 : Int) (@List.cons Int (773529912 : Int) (@List.cons Int (1294757372 : Int) (@List.cons Int (1396182291 : Int) (@List.cons Int (1695183700 : Int) (@List.cons Int (1986661051 : Int) (@List.cons Int (2177026350 : Int) (@List.cons Int (2456956037 : Int) (@List.cons Int (2730485921 : Int) (@List.cons Int (2820302411 : Int) (@List.cons Int (3259730800 : Int) (@List.cons Int (3345764771 : Int) (@List.cons Int (3516065817 : Int) (@List.cons Int (3600352804 : Int) (@List.cons Int (4094571909 : Int) (@List.cons Int (275423344 : Int) (@List.cons Int (430227734 : Int) (@List.cons Int (506948616 : Int) (@List.cons Int (659060556 : Int) (@List.cons Int (883997877 : Int) (@List.cons Int (958139571 : Int) (@List.cons Int (1322822218 : Int) (@List.cons Int (1537002063 : Int) (@List.cons Int (1747873779 : Int) ([1955562222, 2024104815, 2227730452, 2361852424, 2428436474, 2756734187, 3204031479, 3329325298] : List Int))))))))))))))))))))))))))))))))))))))))))))))))))))))))), ((0 : Int), ()))), (v3.2.1, (v3.2.2.1, (v3.1.1, ()))))) fun v4 =>
 Option.bind (ref06_Block_L17_R N ((v4.1.1, ((0 : Int), ())), (v4.2.1, (v4.2.2.1, ())))) fun v5 =>
 some (v5.2.2.1)
theorem ref06_Block_S (s0 : Arr Int 8) (block1 : Arr Int 64) : (runK Tryd.prog (Ev67 N) 400 60 [(.arr 8 (.int .u32)), (.arr 64 (.int .u8))] [(.arr 8 (.int .u32))] (s0, block1, ())).run = ref06_Block N s0 block1 := by kernel_rfl
noncomputable def Ev68 : (R : Type) → Env R := Env.addFn (Ev67 N) 60 (fun R => fnK [(.arr 8 (.int .u32)), (.arr 64 (.int .u8))] [(.arr 8 (.int .u32))] (fun c => ref06_Block N c.1 c.2.1))
theorem Ev68_ok (R : Type) : EnvOK Tryd.prog (Ev68 N R) := EnvOK.addFn hmx (Ev67_ok N R) (Ev67_ok N _) (by kernel_rfl) (fun c => ref06_Block_S N c.1 c.2.1)
noncomputable def ref06_Of_L4_I : LI := ⟨56, 0, [], ⟨[(2, .lit (.box 0 0)), (3, .lit (.own 1)), (4, .lit (.box 2 0)), (5, .ty (.int .i64))], [.box 23 (.arr 32 (.int .u8)), .own (.int .u8) 5, .box 107 (.arr 8 (.int .u32))]⟩, [(.exit 0, ⟨[(2, .lit (.box 0 0)), (4, .lit (.box 1 0))], [.box 23 (.arr 32 (.int .u8)), .box 107 (.arr 8 (.int .u32))]⟩)]⟩
noncomputable def ref06_Of_L4 (X : ((Int × Unit) × ((Arr Int 32) × ((List Int) × ((Arr Int 8) × Unit)))) → Option ((Unit × ((Arr Int 32) × ((Arr Int 8) × Unit))))) (x5 : Int) (h0 : Arr Int 32) (h1 : List (Int)) (h2 : Arr Int 8) : Option ((Unit × ((Arr Int 32) × ((Arr Int 8) × Unit)))) :=
 bif (decide (x5 < (((List.length h1) : Nat) : Int))) then
  Option.bind (ref06_Of_L8_R N ((x5, ((0 : Int), ())), (h0, (h1, (h2, ((@Arr.cons Int 63 0 (@Arr.cons Int 62 0 (@Arr.cons Int 61 0 (@Arr.cons Int 60 0 (@Arr.cons Int 59 0 (@Arr.cons Int 58 0 (@Arr.cons Int 57 0 (@Arr.cons Int 56 0 (@Arr.cons Int 55 0 (@Arr.cons Int 54 0 (@Arr.cons Int 53 0 (@Arr.cons Int 52 0 (@Arr.cons Int 51 0 (@Arr.cons Int 50 0 (@Arr.cons Int 49 0 (@Arr.cons Int 48 0 (@Arr.cons Int 47 0 (@Arr.cons Int 46 0 (@Arr.cons Int 45 0 (@Arr.cons Int 44 0 (@Arr.cons Int 43 0 (@Arr.cons Int 42 0 (@Arr.cons Int 41 0 (@Arr.cons Int 40 0 (@Arr.cons Int 39 0 (@Arr.cons Int 38 0 (@Arr.cons Int 37 0 (@Arr.cons Int 36 0 (@Arr.cons Int 35 0 (@Arr.cons Int 34 0 (@Arr.cons Int 33 0 (@Arr.cons Int 32 0 (@Arr.cons Int 31 0 (@Arr.cons Int 30 0 (@Arr.cons Int 29 0 (@Arr.cons Int 28 0 (@Arr.cons Int 27 0 (@Arr.cons Int 26 0 (@Arr.cons Int 25 0 (@Arr.cons Int 24 0 (@Arr.cons Int 23 0 (@Arr.cons Int 22 0 (@Arr.cons Int 21 0 (@Arr.cons Int 20 0 (@Arr.cons Int 19 0 (@Arr.cons Int 18 0 (@Arr.cons Int 17 0 (@Arr.cons Int 16 0 (@Arr.cons Int 15 0 (@Arr.cons Int 14 0 (@Arr.cons Int 13 0 (@Arr.cons Int 12 0 (@Arr.cons Int 11 0 (@Arr.cons Int 10 0 (@Arr.cons Int 9 0 (@Arr.cons Int 8 0 (@Arr.cons Int 7 0 (@Arr.cons Int 6 0 (@Arr.cons Int 5 0 (@Arr.cons Int 4 0 (@Arr.cons Int 3 0 (@Arr.cons Int 2 0 (@Arr.cons Int 1 0 (@Arr.cons Int 0 0 (@Arr.nil Int))))))))))))))))))))))))))))))))))))))))))))))))))))))))))))))))), ())))))) fun v6 =>
  Option.bind (ref06_Block N v6.2.2.2.1 v6.2.2.2.2.1) fun v7 =>
  (X (((IntKind.wrap .i64 (v6.1.1 + 64)), ()), (v6.2.1, (v6.2.2.1, (v7, ())))))
 else
  some (((), (h0, (h2, ()))))
noncomputable def ref06_Of_L4_R (c : ((Int × Unit) × ((Arr Int 32) × ((List Int) × ((Arr Int 8) × Unit))))) : Option ((Unit × ((Arr Int 32) × ((Arr Int 8) × Unit)))) := gl (fun X c => ref06_Of_L4 N X c.1.1 c.2.1 c.2.2.1 c.2.2.2.1) N c
theorem ref06_Of_L4_S (X : ((Int × Unit) × ((Arr Int 32) × ((List Int) × ((Arr Int 8) × Unit)))) → Option ((Unit × ((Arr Int 32) × ((Arr Int 8) × Unit))))) (x5 : Int) (h0 : Arr Int 32) (h1 : List (Int)) (h2 : Arr Int 8) : (roundK Tryd.prog (Ev68 N) 400 [46] ref06_Of_L4_I (loopAt Tryd.prog [46] 4) X ((x5, ()), (h0, h1, h2, ()))).run = ref06_Of_L4 N X x5 h0 h1 h2 := by kernel_rfl
noncomputable def Ev69 : (R : Type) → Env R := Env.addLp (Ev68 N) [46] 0 4 (fun R => lpK Tryd.prog ref06_Of_L4_I (fun X c => ref06_Of_L4 N X c.1.1 c.2.1 c.2.2.1 c.2.2.2.1) N)
theorem Ev69_ok (R : Type) : EnvOK Tryd.prog (Ev69 N R) := EnvOK.addLp (Ev68_ok N R) (by kernel_rfl) (lpK_ok (li := ref06_Of_L4_I) (G := fun X c => ref06_Of_L4 N X c.1.1 c.2.1 c.2.2.1 c.2.2.2.1) hmx (Ev68_ok N _) (by kernel_rfl) loopAt_sub (fun (X : CT ref06_Of_L4_I.sh → Option (OT ref06_Of_L4_I.outs)) (c : CT ref06_Of_L4_I.sh) => ref06_Of_L4_S N X c.1.1 c.2.1 c.2.2.1 c.2.2.2.1) N)
noncomputable def ref06_Of_L14_I : LI := ⟨56, 0, [], ⟨[(2, .lit (.box 0 0)), (4, .lit (.box 1 0)), (8, .lit (.box 2 0)), (9, .ty (.int .i64))], [.box 23 (.arr 32 (.int .u8)), .box 107 (.arr 8 (.int .u32)), .box 23 (.arr 32 (.int .u8))]⟩, [(.exit 4, ⟨[(2, .lit (.box 0 0)), (8, .lit (.box 1 0))], [.box 23 (.arr 32 (.int .u8)), .box 23 (.arr 32 (.int .u8))]⟩)]⟩
noncomputable def ref06_Of_L14 (N : Nat) (X : ((Int × Unit) × ((Arr Int 32) × ((Arr Int 8) × ((Arr Int 32) × Unit)))) → Option ((Unit × ((Arr Int 32) × ((Arr Int 32) × Unit))))) (i9 : Int) (h0 : Arr Int 32) (h1 : Arr Int 8) (h2 : Arr Int 32) : Option ((Unit × ((Arr Int 32) × ((Arr Int 32) × Unit)))) :=
 bif (decide (i9 < (32 : Int))) then
  bif (decide ((0 : Int) ≤ (IntKind.wrap .i64 (@Int.tdiv i9 (4 : Int))) ∧ (IntKind.wrap .i64 (@Int.tdiv i9 (4 : Int))) < ((8 : Nat) : Int))) then
   Option.bind (h1.l[Int.toNat (IntKind.wrap .i64 (@Int.tdiv i9 (4 : Int)))]?) fun (v6 : Int) =>
   bif (decide ((0 : Int) ≤ (IntKind.wrap .i64 ((24 : Int) - (IntKind.wrap .i64 ((8 : Int) * (@Int.tmod i9 (4 : Int)))))))) then
    bif (decide ((0 : Int) ≤ i9 ∧ i9 < ((32 : Nat) : Int))) then
     Option.bind (h2.l[Int.toNat i9]?) fun (v7 : Int) =>
     (X (((IntKind.wrap .i64 (i9 + 1)), ()), (h0, (h1, ((h2.set (Int.toNat i9) (IntKind.wrap .u8 (@Int.fdiv v6 ((2 : Int) ^ (min (Int.toNat (IntKind.wrap .i64 ((24 : Int) - (IntKind.wrap .i64 ((8 : Int) * (@Int.tmod i9 (4 : Int))))))) (IntKind.bits .u32)))))), ())))))
    else
     none
   else
    none
  else
   none
 else
  some (((), (h0, (h2, ()))))
noncomputable def ref06_Of_L14_R (c : ((Int × Unit) × ((Arr Int 32) × ((Arr Int 8) × ((Arr Int 32) × Unit))))) : Option ((Unit × ((Arr Int 32) × ((Arr Int 32) × Unit)))) := gl (fun X c => ref06_Of_L14 N X c.1.1 c.2.1 c.2.2.1 c.2.2.2.1) N c
theorem ref06_Of_L14_S (X : ((Int × Unit) × ((Arr Int 32) × ((Arr Int 8) × ((Arr Int 32) × Unit)))) → Option ((Unit × ((Arr Int 32) × ((Arr Int 32) × Unit))))) (i9 : Int) (h0 : Arr Int 32) (h1 : Arr Int 8) (h2 : Arr Int 32) : (roundK Tryd.prog (Ev69 N) 400 [46] ref06_Of_L14_I (loopAt Tryd.prog [46] 14) X ((i9, ()), (h0, h1, h2, ()))).run = ref06_Of_L14 N X i9 h0 h1 h2 := by kernel_rfl
noncomputable def Ev70 : (R : Type) → Env R := Env.addLp (Ev69 N) [46] 0 14 (fun R => lpK Tryd.prog ref06_Of_L14_I (fun X c => ref06_Of_L14 N X c.1.1 c.2.1 c.2.2.1 c.2.2.2.1) N)
theorem Ev70_ok (R : Type) : EnvOK Tryd.prog (Ev70 N R) := EnvOK.addLp (Ev69_ok N R) (by kernel_rfl) (lpK_ok (li := ref06_Of_L14_I) (G := fun X c => ref06_Of_L14 N X c.1.1 c.2.1 c.2.2.1 c.2.2.2.1) hmx (Ev69_ok N _) (by kernel_rfl) loopAt_sub (fun (X : CT ref06_Of_L14_I.sh → Option (OT ref06_Of_L14_I.outs)) (c : CT ref06_Of_L14_I.sh) => ref06_Of_L14_S N X c.1.1 c.2.1 c.2.2.1 c.2.2.2.1) N)
noncomputable def ref06_Of (b0 : List (Int)) : Option (Arr Int 32) :=
 bif (roomB (List.length b0) 1) then
  Option.bind (ref06_Tail N (IntKind.wrap .u64 (((List.length b0) : Nat) : Int))) fun v2 =>
  bif (roomB ((List.length b0) + (List.length v2)) 1) then
   Option.bind (ref06_Of_L4_R N (((0 : Int), ()), ((@Arr.cons Int 31 0 (@Arr.cons Int 30 0 (@Arr.cons Int 29 0 (@Arr.cons Int 28 0 (@Arr.cons Int 27 0 (@Arr.cons Int 26 0 (@Arr.cons Int 25 0 (@Arr.cons Int 24 0 (@Arr.cons Int 23 0 (@Arr.cons Int 22 0 (@Arr.cons Int 21 0 (@Arr.cons Int 20 0 (@Arr.cons Int 19 0 (@Arr.cons Int 18 0 (@Arr.cons Int 17 0 (@Arr.cons Int 16 0 (@Arr.cons Int 15 0 (@Arr.cons Int 14 0 (@Arr.cons Int 13 0 (@Arr.cons Int 12 0 (@Arr.cons Int 11 0 (@Arr.cons Int 10 0 (@Arr.cons Int 9 0 (@Arr.cons Int 8 0 (@Arr.cons Int 7 0 (@Arr.cons Int 6 0 (@Arr.cons Int 5 0 (@Arr.cons Int 4 0 (@Arr.cons Int 3 0 (@Arr.cons Int 2 0 (@Arr.cons Int 1 0 (@Arr.cons Int 0 0 (@Arr.nil Int))))))))))))))))))))))))))))))))), ((b0 ++ v2), ((@Arr.cons Int 7 1779033703 (@Arr.cons Int 6 3144134277 (@Arr.cons Int 5 1013904242 (@Arr.cons Int 4 2773480762 (@Arr.cons Int 3 1359893119 (@Arr.cons Int 2 2600822924 (@Arr.cons Int 1 528734635 (@Arr.cons Int 0 1541459225 (@Arr.nil Int))))))))), ()))))) fun v3 =>
   Option.bind (ref06_Of_L14_R N (((0 : Int), ()), (v3.2.1, (v3.2.2.1, ((@Arr.cons Int 31 0 (@Arr.cons Int 30 0 (@Arr.cons Int 29 0 (@Arr.cons Int 28 0 (@Arr.cons Int 27 0 (@Arr.cons Int 26 0 (@Arr.cons Int 25 0 (@Arr.cons Int 24 0 (@Arr.cons Int 23 0 (@Arr.cons Int 22 0 (@Arr.cons Int 21 0 (@Arr.cons Int 20 0 (@Arr.cons Int 19 0 (@Arr.cons Int 18 0 (@Arr.cons Int 17 0 (@Arr.cons Int 16 0 (@Arr.cons Int 15 0 (@Arr.cons Int 14 0 (@Arr.cons Int 13 0 (@Arr.cons Int 12 0 (@Arr.cons Int 11 0 (@Arr.cons Int 10 0 (@Arr.cons Int 9 0 (@Arr.cons Int 8 0 (@Arr.cons Int 7 0 (@Arr.cons Int 6 0 (@Arr.cons Int 5 0 (@Arr.cons Int 4 0 (@Arr.cons Int 3 0 (@Arr.cons Int 2 0 (@Arr.cons Int 1 0 (@Arr.cons Int 0 0 (@Arr.nil Int))))))))))))))))))))))))))))))))), ()))))) fun v4 =>
   some (v4.2.2.1)
  else
   none
 else
  none
theorem ref06_Of_S (b0 : List (Int)) : (runK Tryd.prog (Ev70 N) 400 46 [(.sl (.int .u8))] [(.arr 32 (.int .u8))] (b0, ())).run = ref06_Of N b0 := by kernel_rfl
noncomputable def Ev71 : (R : Type) → Env R := Env.addFn (Ev70 N) 46 (fun R => fnK [(.sl (.int .u8))] [(.arr 32 (.int .u8))] (fun c => ref06_Of N c.1))
theorem Ev71_ok (R : Type) : EnvOK Tryd.prog (Ev71 N R) := EnvOK.addFn hmx (Ev70_ok N R) (Ev70_ok N _) (by kernel_rfl) (fun c => ref06_Of_S N c.1)
noncomputable def ref01_Same_L4_I : LI := ⟨26, 0, [], ⟨[(0, .ty (.sl (.int .u8))), (1, .ty (.sl (.int .u8))), (5, .ty (.int .i64))], []⟩, [(.ret, ⟨[(4, .ty .bool)], []⟩), (.exit 0, ⟨[], []⟩)]⟩
noncomputable def ref01_Same_L4 (N : Nat) (X : (((List Int) × ((List Int) × (Int × Unit))) × Unit) → Option ((((Bool × Unit) × Unit) ⊕ (Unit × Unit)))) (a0 : List (Int)) (b1 : List (Int)) (i5 : Int) : Option ((((Bool × Unit) × Unit) ⊕ (Unit × Unit))) :=
 bif (decide (i5 < (((List.length a0) : Nat) : Int))) then
  Option.bind (getI a0 i5) fun (v5 : Int) =>
  Option.bind (getI b1 i5) fun (v6 : Int) =>
  bif (!(decide (v5 = v6))) then
   some ((.inl ((false, ()), ())))
  else
   (X ((a0, (b1, ((IntKind.wrap .i64 (i5 + 1)), ()))), ()))
 else
  some ((.inr ((), ())))
noncomputable def ref01_Same_L4_R (c : (((List Int) × ((List Int) × (Int × Unit))) × Unit)) : Option ((((Bool × Unit) × Unit) ⊕ (Unit × Unit))) := gl (fun X c => ref01_Same_L4 N X c.1.1 c.1.2.1 c.1.2.2.1) N c
theorem ref01_Same_L4_S (X : (((List Int) × ((List Int) × (Int × Unit))) × Unit) → Option ((((Bool × Unit) × Unit) ⊕ (Unit × Unit)))) (a0 : List (Int)) (b1 : List (Int)) (i5 : Int) : (roundK Tryd.prog (Ev71 N) 400 [12] ref01_Same_L4_I (loopAt Tryd.prog [12] 4) X ((a0, b1, i5, ()), ())).run = ref01_Same_L4 N X a0 b1 i5 := by kernel_rfl
noncomputable def Ev72 : (R : Type) → Env R := Env.addLp (Ev71 N) [12] 0 4 (fun R => lpK Tryd.prog ref01_Same_L4_I (fun X c => ref01_Same_L4 N X c.1.1 c.1.2.1 c.1.2.2.1) N)
theorem Ev72_ok (R : Type) : EnvOK Tryd.prog (Ev72 N R) := EnvOK.addLp (Ev71_ok N R) (by kernel_rfl) (lpK_ok (li := ref01_Same_L4_I) (G := fun X c => ref01_Same_L4 N X c.1.1 c.1.2.1 c.1.2.2.1) hmx (Ev71_ok N _) (by kernel_rfl) loopAt_sub (fun (X : CT ref01_Same_L4_I.sh → Option (OT ref01_Same_L4_I.outs)) (c : CT ref01_Same_L4_I.sh) => ref01_Same_L4_S N X c.1.1 c.1.2.1 c.1.2.2.1) N)
end
end Go.Proofs.YtongdeioonikoaaDoor
