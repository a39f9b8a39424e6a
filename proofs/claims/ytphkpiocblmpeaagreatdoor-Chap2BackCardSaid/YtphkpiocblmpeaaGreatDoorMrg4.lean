/-
  Parts of my own, one behind the other: KRead, KLaid, Shp, QBase2, QOctsD, QOcts, KD, Dec, Shf, It, Pc, QCT0, Plain01, Nums, Hex, Unhex, Uhx, Pd, GCtA.
-/
import Derived.Test.YtphkpiocblmpeaaGreatDoorMrg3
import Derived.LaidMore
import Derived.MakeChecks
import Derived.SevenTiedAt
import Derived.Stop.LaidErr
import Derived.HandedShaped
import Derived.Lib.DecodeN
import Derived.Shelf.Small.Bits
import Derived.Shelf.Small.Strs
import Derived.Shelf.Utf8.RuneCount
import Derived.Shelf.Strconv.Atoi
import Derived.Shelf.Strconv.Itoa0
import Derived.Shelf.Strconv.Itoa1
import Derived.Shelf.LaysM
import Derived.Shelf.Strconv.Itoa2
import Derived.Shelf.Strconv.Itoa3
import Derived.Shelf.Strconv.AtoiErrFast
import Derived.Shelf.Strconv.ParseIntEmpty
import Derived.Shelf.Strconv.AtoiFail
import Derived.Shelf.Strconv.Clone
import Derived.Shelf.Strconv.SyntaxError
import Derived.Shelf.LaysC
import Derived.Shelf.Strconv.ToError
import Derived.Shelf.Strconv.AtoiErr
import Derived.Shelf.Strconv.ErrVar
import Derived.Shelf.Strconv.Lower
import Derived.Shelf.Strconv.ParseUint10
import Derived.Shelf.Strconv.ParseUint10Empty
import Derived.Shelf.Strconv.ParseUint10Any
import Derived.Shelf.Strconv.ParseInt10
import Derived.Shelf.Strconv.AtoiLong
import Derived.Shelf.Strconv.AtoiInnerAll
import Derived.Shelf.Strconv.RangeError
import Derived.Shelf.Strconv.ToErrorRange
import Derived.Shelf.Strconv.AtoiAll
import Derived.Shelf.Strconv.ErrVarAll
import Derived.Shelf.Strconv.ParseUintEmpty
import Derived.Shelf.Strconv.ParseUint10b64
import Derived.Shelf.Strconv.ParseUint10b32
import Derived.Shelf.Strconv.ParseUint10b16
import Derived.Shelf.Strconv.ParseUint10b8
import Derived.Shelf.Strconv.ParseUint10At
import Derived.Shelf.Strconv.ParseInt10At64
import Derived.Shelf.Strconv.ParseInt10At32
import Derived.Shelf.Strconv.ParseInt10At16
import Derived.Shelf.Strconv.ParseInt10At8
import Derived.Shelf.Strconv.ParseInt10All
import Derived.Shelf.Strings.Search1
import Derived.Shelf.Strings.Search2
import Derived.Shelf.Strings.Cut
import Derived.Shelf.Strings.Shaped
import Derived.Shelf.Strings.LastIndex
import Derived.Shelf.Strings.Prefix
import Derived.Shelf.Strings.RuneCount
import Derived.Shelf.Bits.Mul64
import Derived.Ground.PaProg
import Derived.Shelf.Path.Small
import Derived.Test.YtphkpiocblmpeaaGreatDoorProg
import Derived.Lib.ItoaNum
import Derived.Lib.AppendIntMem
import Derived.ProofKit
import Derived.WalkKit
import Derived.Lib.AtoiAll
import Derived.BigCall
import Derived.BigGuard
import Derived.Test.YtphkpiocblmpeaaGreatDoorMrg1
namespace Go.Proofs.YtphkpiocblmpeaaGreatDoor
set_option maxRecDepth 100000
open Go.ChangeShapes Go.WideShapes Go.ChangeAt Go.RowKit
set_option linter.unusedVariables false
set_option linter.unusedSimpArgs false
def wfT : (d : Td) → T d → Prop
 | .int k, n => (Lit.int k n).wf = true
 | .bool, _ => True
 | .str, s => s.length ≤ maxLen
 | .sl d, l => l.length ≤ maxLen ∧ ∀ x ∈ l, wfT d x
 | .arr n d, a => ∀ x ∈ a.l, wfT d x
 | .pair d e, x => wfT d x.1 ∧ wfT e x.2
section
variable {P : Program} {H : Type} {enc : TypeId × Value → H} {W : World}
theorem pick_list {α : Type} (Q : Nat → α → Prop) : ∀ n, (∀ i, i < n → ∃ y, Q i y) → ∃ l : List α, l.length = n ∧ ∀ i y, l[i]? = some y → Q i y
 | 0, _ => ⟨[], rfl, fun i y h => by simp at h⟩
 | n + 1, h => by
  obtain ⟨l, h1, h2⟩ := pick_list Q n fun i hi => h i (by omega)
  obtain ⟨y, hy⟩ := h n (by omega)
  refine ⟨l ++ [y], by simp [h1], fun i z hz => ?_⟩
  rcases Nat.lt_or_ge i n with hi | hi
  ·rw [List.getElem?_append_left (by omega)] at hz; exact h2 i z hz
  ·rw [List.getElem?_append_right (by omega)] at hz
   have : i - l.length = 0 := by have := (List.getElem?_eq_some_iff.1 hz).1; simp at this; omega
   rw [this] at hz
   simp at hz
   subst hz
   rw [show i = n by omega]; exact hy
theorem cell_spot {a : Addr} {v : Value} (h : W.cell? a = some v) : a.spot = none := by
 unfold World.cell? at h
 split at h
 ·split at h
  ·cases h
  ·rename_i hs; cases hx : a.spot with
   | none => rfl
   | some _ => rw [hx] at hs; simp at hs
 ·cases h
theorem add_add (a : Addr) (i j : Nat) (h : a.spot = none) : (a.add i).add j = a.add (i + j) := by
 unfold Addr.add
 obtain ⟨b, o, s⟩ := a
 simp only at h
 subst h
 by_cases hi : i = 0 <;> by_cases hj : j = 0 <;> simp [hi, hj, Nat.add_assoc]
theorem cells_get {a : Addr} {n : Nat} {cs : List Value} (h : W.cells? 0 a n = some cs) : cs.length = n ∧ ∀ i u, cs[i]? = some u → W.cell? (a.add i) = some u := by
 unfold World.cells? at h
 rw [if_pos (Nat.zero_le _)] at h
 have hl := mapM_some_length h
 rw [List.length_range] at hl
 refine ⟨hl, fun i u hu => ?_⟩
 have hi : i < n := by have := (List.getElem?_eq_some_iff.1 hu).1; omega
 rw [mapM_some_get h i i (by simp [hi])]
 exact hu
theorem flat_rel {d : Td} (xs : List (T d)) (us : Nat → Value) (B : List Nat) (h : ∀ i x, xs[i]? = some x → ∀ j y, (cells d x)[j]? = some y → Rel W B [] y (us (i * wd d + j))) : ∀ i y, (flat d xs)[i]? = some y → Rel W B [] y (us i) := by
 intro i y hy
 have hi : i < xs.length * wd d := by have := (List.getElem?_eq_some_iff.1 hy).1; rwa [flat_length] at this
 have hw : 0 < wd d := by rcases Nat.eq_zero_or_pos (wd d) with h | h; rw [h] at hi; omega; exact h
 have hq : i / wd d < xs.length := Nat.div_lt_of_lt_mul (by rw [Nat.mul_comm]; exact hi)
 have hx : xs[i / wd d]? = some xs[i / wd d] := List.getElem?_eq_getElem hq
 have hf := flat_at d xs (i / wd d) _ hx
 have hr : i % wd d < wd d := Nat.mod_lt _ hw
 have hdm := Nat.div_add_mod i (wd d)
 have h1 : (cells d xs[i / wd d])[i % wd d]? = some y := by
  rw [← hf, List.getElem?_take, if_pos hr, List.getElem?_drop]
  rw [show i / wd d * wd d + i % wd d = i by rw [Nat.mul_comm]; exact hdm]
  exact hy
 have := h _ _ hx _ _ h1
 rwa [show i / wd d * wd d + i % wd d = i by rw [Nat.mul_comm]; exact hdm] at this
mutual
theorem read_td : ∀ (n : Nat) (t : TypeId) (d : Td), layT' P n t d = true → ∀ (fuel : Nat) (cs : List Value) (x : DataW H × List MemPlace), DataW.trod enc P W 0 (fun _ => true) true fuel t cs = some x → ∃ y : T d, RelL W [] [] (cells d y) cs ∧ wfT d y
 | 0, t, d, h => by simp [layT'] at h
 | n + 1, t, d, h => by
  intro fuel cs x hx
  simp only [layT', Bool.and_eq_true, beq_iff_eq] at h
  obtain ⟨hc, h⟩ := h
  split at h
  ·rename_i k k' hu
   have := of_decide_eq_true h
   subst this
   obtain ⟨z, rfl, _, hw⟩ := DataW.trod_int hu hx
   exact ⟨z, RelL.cons (.c _ _) (RelL.nil _ _ _), hw⟩
  ·rename_i hu
   obtain ⟨z, rfl, _⟩ := DataW.trod_bool hu hx
   exact ⟨z, RelL.cons (.c _ _) (RelL.nil _ _ _), trivial⟩
  ·rename_i hu
   obtain ⟨s, rfl, _, hs⟩ := DataW.trod_string hu hx
   refine ⟨s.data.toList, RelL.cons ?_ (RelL.nil _ _ _), by show s.data.toList.length ≤ maxLen; simpa using hs⟩
   have : (⟨s.data.toList.toArray⟩ : ByteArray) = s := by cases s; simp
   rw [this]; exact .c _ _
  ·rename_i e d hu
   simp only [Bool.and_eq_true, decide_eq_true_eq] at h
   obtain ⟨hw, h⟩ := h
   have hce := layT_cells h
   rcases DataW.trod_slice hu hx with ⟨rfl, _⟩ | ⟨a, len, cap, elems, rest, m, rfl, rfl, _, _, hlc, hm, hel, hels, _⟩
   ·exact ⟨[], RelL.cons (rel_nil_sl hw (.c _ _)) (RelL.nil _ _ _), by simp [maxLen], fun x hx => by cases hx⟩
   ·obtain ⟨ys, hy1, hy2⟩ := pick_list (fun i y => ∃ us, W.cells? 0 (a.add (i * wd d)) (wd d) = some us ∧ RelL W [] [] (cells d y) us ∧ wfT d y) len fun i hi => by
     have h0 := hels i hi
     rw [List.getElem?_eq_getElem (by omega), hce] at h0
     obtain ⟨us, q1, q2⟩ := Option.bind_eq_some_iff.1 h0
     obtain ⟨y, q3, q4⟩ := read_td n e d h _ _ _ q2
     exact ⟨y, us, q1, q3, q4⟩
    refine ⟨ys, RelL.cons ?_ (RelL.nil _ _ _), by rw [hy1]; omega, fun x hx => ?_⟩
    ·have hspot : 0 < len → a.spot = none := fun h0 => by
      obtain ⟨us, q1, q3, _⟩ := hy2 0 ys[0] (List.getElem?_eq_getElem (by omega))
      have hl := (cells_get q1).1
      have := (cells_get q1).2 0 us[0] (List.getElem?_eq_getElem (by omega))
      have := cell_spot this
      unfold Addr.add at this
      simpa using this
     have hcell : ∀ i x, ys[i]? = some x → ∀ j y, (cells d x)[j]? = some y → Rel W [] [] y ((W.cell? (a.add (i * wd d + j))).getD undef) ∧ (W.cell? (a.add (i * wd d + j))).isSome = true := fun i x hx j y hy => by
      obtain ⟨us, q1, q3, _⟩ := hy2 i x hx
      obtain ⟨u, q4, q5⟩ := q3.2 j y hy
      have := (cells_get q1).2 j u q4
      have h0 : 0 < len := by have := (List.getElem?_eq_some_iff.1 hx).1; omega
      rw [add_add a _ _ (hspot h0)] at this
      rw [this]
      exact ⟨q5, rfl⟩
     have hr := flat_rel (W := W) ys (fun i => (W.cell? (a.add i)).getD undef) [] fun i x hx j y hy => (hcell i x hx j y hy).1
     refine .sl _ _ _ _ _ _ (fun i => (W.cell? (a.add i)).getD undef) hw (by show len * wd d = (flat d ys).length; rw [flat_length, hy1]) hlc hm (fun h0 => ⟨a, rfl, hspot h0, ?_, by simp, fun i hi => ?_⟩) hr
     ·obtain ⟨us, q1, q3, _⟩ := hy2 0 ys[0] (List.getElem?_eq_getElem (by omega))
      have hl := (cells_get q1).1
      have := (cells_get q1).2 0 us[0] (List.getElem?_eq_getElem (by omega))
      have := World.block_lt_of_cell? W _ this
      rwa [block_of_add, block_of_add] at this
     ·have hi' : i < len * wd d := by change i < (flat d ys).length at hi; rw [flat_length, hy1] at hi; exact hi
      have hq : i / wd d < ys.length := by rw [hy1]; exact Nat.div_lt_of_lt_mul (by rw [Nat.mul_comm]; exact hi')
      have hrm : i % wd d < (cells d ys[i / wd d]).length := by rw [cells_length]; exact Nat.mod_lt _ (by omega)
      have := (hcell _ _ (List.getElem?_eq_getElem hq) _ _ (List.getElem?_eq_getElem hrm)).2
      rw [show i / wd d * wd d + i % wd d = i by rw [Nat.mul_comm]; exact Nat.div_add_mod i (wd d)] at this
      obtain ⟨u, hu⟩ := Option.isSome_iff_exists.1 this
      rw [hu]; rfl
    ·obtain ⟨i, hi⟩ := List.getElem?_of_mem hx
     obtain ⟨_, _, _, q⟩ := hy2 i x hi
     exact q
  ·rename_i m e m' d hu
   simp only [Bool.and_eq_true, beq_iff_eq] at h
   obtain ⟨rfl, h⟩ := h
   have hce := layT_cells h
   obtain ⟨xs, m2, rfl, _, hl, hxl, hi⟩ := DataW.trod_array hu hx
   obtain ⟨ys, hy1, hy2⟩ := pick_list (fun i y => RelL W [] [] (cells d y) ((cs.drop (i * wd d)).take (wd d)) ∧ wfT d y) m fun i h1 => by
    have h0 := hi i h1
    rw [List.getElem?_eq_getElem (by omega), hce] at h0
    exact read_td n e d h _ _ _ h0
   refine ⟨⟨ys, hy1⟩, ⟨?_, ?_⟩, fun x hx => ?_⟩
   ·rw [cells_length, ← hc]; exact hl.symm ▸ rfl
   ·intro i y hy
    have hr := flat_rel (W := W) ys (fun i => cs.getD i undef) [] fun i x hx j y hy => by
     obtain ⟨u, q1, q2⟩ := (hy2 i x hx).1.2 j y hy
     rw [List.getElem?_take] at q1
     split at q1
     ·rw [List.getElem?_drop] at q1
      rw [List.getD_eq_getElem?_getD, q1]; exact q2
     ·cases q1
    have hlt : i < cs.length := by
     have := (List.getElem?_eq_some_iff.1 hy).1
     rw [cells_length, ← hc, ← hl] at this
     exact this
    refine ⟨cs[i], List.getElem?_eq_getElem hlt, ?_⟩
    have := hr i y hy
    rwa [List.getD_eq_getElem?_getD, List.getElem?_eq_getElem hlt] at this
   ·obtain ⟨i, hi⟩ := List.getElem?_of_mem hx
    exact (hy2 i x hi).2
  ·rename_i fs hu
   obtain ⟨xs, m2, rfl, _, hl, hxl, hi⟩ := DataW.trod_struct hu hx
   have := read_fs n fs.toList 0 _ h m2 cs (fun i f hf => by
    have h0 := hi i f (by simpa using hf)
    have hlt : i < xs.length := by have := (List.getElem?_eq_some_iff.1 hf).1; rw [hxl]; simpa using this
    exact ⟨_, h0.trans (List.getElem?_eq_getElem hlt)⟩) (by rw [hl, hc]; omega)
   simpa using this
  ·cases h
theorem read_fs : ∀ (n : Nat) (fs : List Field) (o : Nat) (d : Td), layFs P n fs o d = true → ∀ (m : Nat) (cs : List Value), (∀ (i : Nat) (f : Field), fs[i]? = some f → ∃ x, DataW.trod enc P W 0 (fun _ => true) true m f.type ((cs.drop f.offset).take (P.cellsOf f.type)) = some x) → cs.length = o + wd d → ∃ y : T d, RelL W [] [] (cells d y) (cs.drop o) ∧ wfT d y
 | 0, fs, o, d, h => by simp [layFs] at h
 | n + 1, [], o, d, h => by simp [layFs] at h
 | n + 1, [f], o, d, h => by
  intro m cs hx hl
  simp only [layFs, Bool.and_eq_true, beq_iff_eq] at h
  obtain ⟨rfl, h⟩ := h
  obtain ⟨x, hx⟩ := hx 0 f rfl
  rw [layT_cells h] at hx
  obtain ⟨y, h1, h2⟩ := read_td n _ d h _ _ _ hx
  rw [List.take_of_length_le (by rw [List.length_drop]; omega)] at h1
  exact ⟨y, h1, h2⟩
 | n + 1, f :: g :: fs, o, d, h => by
  intro m cs hx hl
  simp only [layFs] at h
  split at h
  ·rename_i d e
   simp only [Bool.and_eq_true, beq_iff_eq] at h
   obtain ⟨⟨rfl, h⟩, h'⟩ := h
   simp only [wd] at hl
   obtain ⟨x, hx0⟩ := hx 0 f rfl
   rw [layT_cells h] at hx0
   obtain ⟨y, h1, h2⟩ := read_td n _ d h _ _ _ hx0
   obtain ⟨z, h3, h4⟩ := read_fs n (g :: fs) _ e h' m cs (fun i f' hf => hx (i + 1) f' (by simpa using hf)) (by omega)
   refine ⟨(y, z), ?_, h2, h4⟩
   have := h1.append h3
   rw [← List.drop_drop, List.take_append_drop] at this
   exact this
  ·cases h
end
end
def rowB (P : Program) (t : TypeId) : Bool := match P.underlying t with
 | some (.struct _) | some (.array _ _) => true
 | _ => false
theorem okWide_row {P : Program} {W : World} {base : Nat} {t : TypeId} {v : Value} (h : rowB P t = true) (hv : Value.okWide P W .any base t v) : ∃ cs, v = .agg cs := by
 unfold rowB at h
 unfold Value.okWide at hv
 split at h
 ·rename_i hu; rw [hu] at hv; obtain ⟨cs, h1, _⟩ := hv; exact ⟨cs, h1⟩
 ·rename_i hu; rw [hu] at hv; obtain ⟨cs, h1, _⟩ := hv; exact ⟨cs, h1⟩
 ·cases h
theorem okWide_one {P : Program} {W : World} {base n : Nat} {t : TypeId} {d : Td} {v : Value} (hl : layT' P n t d = true) (h : rowB P t = false) (hv : Value.okWide P W .any base t v) : v.cells.toList = [v] := by
 cases n with
 | zero => simp [layT'] at hl
 | succ n =>
  simp only [layT', Bool.and_eq_true] at hl
  replace hl := hl.2
  split at hl
  ·rename_i hu; obtain ⟨_, rfl⟩ := okWide_int hu hv; rfl
  ·rename_i hu
   simp only [Value.okWide, hu, Cell.okWide] at hv
   cases v <;> first | rfl | simp_all [Cell.ok]
  ·rename_i hu; obtain ⟨_, rfl⟩ := okWide_string hu hv; rfl
  ·rename_i hu; obtain ⟨_, _, _, rfl⟩ := okWide_slice hu hv; rfl
  ·rename_i hu; simp [rowB, hu] at h
  ·rename_i hu; simp [rowB, hu] at h
  ·cases hl
theorem open_td {H : Type} {enc : TypeId × Value → H} {W : World} {t : TypeId} {d : Td} (hl : layT' Tryz.prog 24 t d = true) (hr : rowB Tryz.prog t = rowD d) {base : Nat} {v : Value} {x : DataW H} {p : List MemPlace} (hv : Value.okWide Tryz.prog W .any base t v) (h : DataW.Trod enc Tryz.prog W 0 (fun _ => true) true t v x p) : ∃ y : T d, Rel W [] [] (ex (valV d y)) v ∧ wfT d y := by
 obtain ⟨fuel, hf⟩ := h
 obtain ⟨y, h1, h2⟩ := read_td _ _ _ hl _ _ _ hf
 refine ⟨y, ?_, h2⟩
 cases hd : rowD d with
 | true =>
  obtain ⟨cs, rfl⟩ := okWide_row (hr.trans hd) hv
  rw [valV_row d y hd]
  refine .agg _ _ cs (fun i => cs.getD i undef) (by rw [← h1.1]; simp [Value.cells]) (fun i x hx => ?_) (fun i x hx => ?_)
  ·obtain ⟨u, q1, _⟩ := h1.2 i x hx
   simp only [Value.cells, Array.getElem?_toList] at q1
   rw [Array.getD_eq_getD_getElem?, q1]; rfl
  ·obtain ⟨u, q1, q2⟩ := h1.2 i x hx
   simp only [Value.cells, Array.getElem?_toList] at q1
   rw [Array.getD_eq_getD_getElem?, q1]; exact q2
 | false =>
  rw [okWide_one hl (hr.trans hd) hv, valV_one d y hd] at h1
  obtain ⟨u, q1, q2⟩ := h1.2 0 _ rfl
  simp at q1
  rw [q1]; exact q2
end Go.Proofs.YtphkpiocblmpeaaGreatDoor
namespace Go.Proofs.YtphkpiocblmpeaaGreatDoor
set_option maxRecDepth 100000
open Go.RowKit Go.ChangeShapes
set_option linter.unusedVariables false
set_option linter.unusedSimpArgs false
def datL {H : Type} : Nat → DataW H → List Value
 | 0, _ => []
 | n + 1, .lit l => [l.value]
 | n + 1, .agg ps => ps.flatMap (datL n)
 | _, _ => []
section
variable {P : Program} {H : Type} {enc : TypeId × Value → H} {W : World} {sp : Nat → Bool} {base : Nat} {held : Bool}
mutual
theorem lit_td : ∀ (n : Nat) (t : TypeId) (d : Td), layT' P n t d = true → eqD d = true → ∀ (fuel : Nat) (cs : List Value) (x : DataW H × List MemPlace), DataW.trod enc P W base sp held fuel t cs = some x → ∀ m, n ≤ m → datL m x.1 = cs
 | 0, t, d, h => by simp [layT'] at h
 | n + 1, t, d, h => by
  intro hd fuel cs x hx m hm
  obtain ⟨m, rfl⟩ : ∃ m', m = m' + 1 := ⟨m - 1, by omega⟩
  simp only [layT', Bool.and_eq_true, beq_iff_eq] at h
  obtain ⟨hc, h⟩ := h
  split at h
  ·rename_i k k' hu
   obtain ⟨z, rfl, rfl, hw⟩ := DataW.trod_int hu hx
   rfl
  ·rename_i hu
   obtain ⟨z, rfl, rfl⟩ := DataW.trod_bool hu hx
   rfl
  ·rename_i hu
   obtain ⟨s, rfl, rfl, hs⟩ := DataW.trod_string hu hx
   simp [datL, Lit.value]
  ·cases hd
  ·rename_i k e k' d hu
   simp only [Bool.and_eq_true, beq_iff_eq] at h
   obtain ⟨rfl, h⟩ := h
   have hce := layT_cells h
   obtain ⟨xs, m2, rfl, rfl, hl, hxl, hi⟩ := DataW.trod_array hu hx
   have key : ∀ (j i : Nat), j + i = k → ((xs.drop i).map (·.1)).flatMap (datL m) = cs.drop (i * wd d) := by
    intro j
    induction j with
    | zero =>
     intro i hi0
     rw [List.drop_of_length_le (by omega), List.drop_of_length_le (by rw [hl, hc]; simp only [wd]; rw [show i = k by omega]; exact Nat.le_refl _)]
     rfl
    | succ j ih =>
     intro i hi0
     have hlt : i < xs.length := by omega
     have h0 := hi i (by omega)
     rw [List.getElem?_eq_getElem hlt, hce] at h0
     have h1 := lit_td n e d h hd _ _ _ h0 m (by omega)
     have h2 := ih (i + 1) (by omega)
     rw [List.drop_eq_getElem_cons hlt, List.map_cons, List.flatMap_cons, h1, h2, Nat.add_mul, Nat.one_mul, ← List.drop_drop, List.take_append_drop]
   have := key k 0 (by omega)
   simpa [datL] using this
  ·rename_i fs hu
   obtain ⟨xs, m2, rfl, rfl, hl, hxl, hi⟩ := DataW.trod_struct hu hx
   have := lit_fs n fs.toList 0 _ h hd m2 cs xs (by simpa using hxl) (fun i f hf => hi i f (by simpa using hf)) (by rw [hl, hc]; omega) m (by omega)
   simpa [datL] using this
  ·cases h
theorem lit_fs : ∀ (n : Nat) (fs : List Field) (o : Nat) (d : Td), layFs P n fs o d = true → eqD d = true → ∀ (m0 : Nat) (cs : List Value) (xs : List (DataW H × List MemPlace)), xs.length = fs.length → (∀ (i : Nat) (f : Field), fs[i]? = some f → DataW.trod enc P W base sp held m0 f.type ((cs.drop f.offset).take (P.cellsOf f.type)) = xs[i]?) → cs.length = o + wd d → ∀ m, n ≤ m → (xs.map (·.1)).flatMap (datL m) = cs.drop o
 | 0, fs, o, d, h => by simp [layFs] at h
 | n + 1, [], o, d, h => by simp [layFs] at h
 | n + 1, [f], o, d, h => by
  intro hd m0 cs xs hxl hx hl m hm
  simp only [layFs, Bool.and_eq_true, beq_iff_eq] at h
  obtain ⟨rfl, h⟩ := h
  match xs, hxl with
  | [x], _ =>
   have h0 := hx 0 f rfl
   rw [layT_cells h] at h0
   have h1 := lit_td n _ d h hd _ _ _ h0 m (by omega)
   rw [List.take_of_length_le (by rw [List.length_drop]; omega)] at h1
   simp [h1]
 | n + 1, f :: g :: fs, o, d, h => by
  intro hd m0 cs xs hxl hx hl m hm
  simp only [layFs] at h
  split at h
  ·rename_i d e
   simp only [Bool.and_eq_true, beq_iff_eq] at h
   simp only [eqD, Bool.and_eq_true] at hd
   obtain ⟨⟨rfl, h⟩, h'⟩ := h
   simp only [wd] at hl
   match xs, hxl with
   | x :: xs, hxl =>
    have h0 := hx 0 f rfl
    rw [layT_cells h] at h0
    have h1 := lit_td n _ d h hd.1 _ _ _ h0 m (by omega)
    have h2 := lit_fs n (g :: fs) _ e h' hd.2 m0 cs xs (by simpa using hxl) (fun i f' hf => by have := hx (i + 1) f' (by simpa using hf); simpa using this) (by omega) m (by omega)
    rw [List.map_cons, List.flatMap_cons, h1, h2, ← List.drop_drop, List.take_append_drop]
  ·cases h
end
theorem laid_cells {n : String} {D : DataW Unit} {g : Nat} {t : TypeId} {d : Td} (hg : P.globalNamed n = some g) (ht : (P.globals[g]?).map (·.type) = some t) (hl : layT' P 24 t d = true) (hd : eqD d = true) {cs : Array Value} {fuel : Nat} {p : List MemPlace}
  (hv : W.var? P n = some cs) (hx : DataW.trod (fun _ => ()) P W 0 (fun _ => true) false fuel t cs.toList = some (D, p)) (hne : datL 24 D ≠ []) : Rel W [] [] (.adr ((datL 24 D).map .c)) (.pointer (some ⟨g, 0, none⟩)) := by
 have h1 := lit_td 24 t d hl hd _ _ _ hx 24 (Nat.le_refl _)
 simp only at h1
 rw [h1] at hne ⊢
 have hb : ∃ T fr, W.heap[g]? = some (.cells cs T fr) := by
  unfold World.var? at hv
  rw [hg] at hv
  simp only [Option.bind_some] at hv
  split at hv
  ·rename_i c T fr hc
   injection hv with hv
   subst hv
   exact ⟨T, fr, hc⟩
  ·cases hv
 obtain ⟨T, fr, hb⟩ := hb
 refine .adr _ _ _ (fun i => cs.toList.getD i undef) ⟨rfl, (Array.getElem?_eq_some_iff.1 hb).1, by simp, fun i hi => ?_⟩ (fun i x hx => ?_)
 ·rw [List.length_map] at hi
  have hc := cell_of_row W g i cs T fr hb
  have e : (⟨g, 0, none⟩ : Addr).add i = ⟨g, i, none⟩ := by simp [Addr.add]; omega
  rw [e, hc, List.getD_eq_getElem?_getD, List.getElem?_eq_getElem hi, Option.getD_some]
  simp at hi
  simp [hi]
 ·rw [List.getElem?_map, Option.map_eq_some_iff] at hx
  obtain ⟨v, hv', rfl⟩ := hx
  rw [List.getD_eq_getElem?_getD, hv', Option.getD_some]
  exact .c _ _
theorem laid_row {n : String} {D : DataW Unit} {g : Nat} {t : TypeId} {d : Td} (hg : P.globalNamed n = some g) (hl : layT' P 24 t d = true) (hd : eqD d = true) {cs : Array Value} {fuel : Nat} {p : List MemPlace}
  (hv : W.var? P n = some cs) (hx : DataW.trod (fun _ => ()) P W 0 (fun _ => true) false fuel t cs.toList = some (D, p)) : ∃ T fr, W.heap[g]? = some (.cells (datL 24 D).toArray T fr) := by
 have h1 := lit_td 24 t d hl hd _ _ _ hx 24 (Nat.le_refl _)
 simp only at h1
 unfold World.var? at hv
 rw [hg] at hv
 simp only [Option.bind_some] at hv
 split at hv
 ·rename_i c T fr hc
  injection hv with hv
  subst hv
  exact ⟨T, fr, by rw [hc, h1]⟩
 ·cases hv
theorem laid_nn {n : String} {g : Nat} {tp : TypeId} {v : Value} (hg : P.globalNamed n = some g) (hv : W.var? P n = some #[.iface tp v]) : Rel W [] [] (.adr [.nn]) (.pointer (some ⟨g, 0, none⟩)) := by
 have hc := World.var?_cell hg hv 0
 have hb : g < W.heap.size := by
  unfold World.var? at hv
  rw [hg] at hv
  simp only [Option.bind_some] at hv
  split at hv
  ·rename_i c T fr hc
   exact (Array.getElem?_eq_some_iff.1 hc).1
  ·cases hv
 refine .adr _ _ _ (fun _ => .iface tp v) ⟨rfl, hb, by simp, fun i hi => ?_⟩ (fun i x hx => ?_)
 ·have : i = 0 := by simp at hi; omega
  subst this
  simpa [Addr.add] using hc
 ·match i, hx with
  | 0, hx => simp at hx; subst hx; exact .nn _ _ _
end
end Go.Proofs.YtphkpiocblmpeaaGreatDoor
namespace Go.Proofs.YtphkpiocblmpeaaGreatDoor
set_option maxRecDepth 100000
open Go.RowKit
theorem handed_and_shaped {H : Type} {enc : TypeId × Value → H} {a : Assume} {C : Checked} {os : Os} {f : FuncId} {fn : Func} {s : ChangeSpec} {conds : List PathCond} {apart fresh handsOn again : Bool} {X : World → Array Value → Prop}
  (hX : ∀ (w w' : World) (args : Array Value), w.heap = w'.heap → X w args → X w' args)
  (own : ownKnob C.prog.godebug = none) (started : os.Started) (noInit : C.prog.inits.idxOf? f = none) (hfn : C.prog.funcs[f]? = some fn)
  (witness : ∃ (w : World) (tape : Tape) (i : Input), w.os = os ∧ (w.forCall tape i).Shaped C.prog ∧ i.vars = [] ∧ Input.okWide C.prog (w.forCall tape i) .any w.heap.size f i ∧
   ((s.pre enc C.prog fn conds apart (w.forCall tape i).memory i.args ∧ X (w.forCall tape i).memory i.args) ∧ sizedMet enc C.prog fn (OpenSpec.ofChange s) apart (w.forCall tape i).memory i.args) ∧ a.holds C.prog (lone (Frame.enter C.prog f i.args .normal) [] (w.forCall tape i)))
  (contract : ∀ (W : World) (base : Nat) (args : Array Value) (ds gs : List (DataW H)) (before : List MemPlace),
   (∀ (j : Nat) t v, fn.params[j]? = some t → args[j]? = some v → Value.okWide C.prog W .any base t v) →
   DataW.Whole enc C.prog fn.params.toList s.vars apart W args.toList ds gs before →
   conds.all (PathCond.test C.prog ⟨fn.params.toList, ds, s.plain.varTypes C.prog, gs⟩) = true →
   W.ShapedOpen C.prog → X W args →
   a.holds C.prog (lone (Frame.enter C.prog f args .normal) [] W) →
   Calls C.prog f args W fun e W' => ∃ v, e = .returned v ∧ s.post enc C.prog fn apart fresh handsOn again W args v W') :
  ReturnsInHanded a C os f .any (fun w args => (s.pre enc C.prog fn conds apart w args ∧ X w args) ∧ sizedMet enc C.prog fn (OpenSpec.ofChange s) apart w args) (s.post enc C.prog fn apart fresh handsOn again) := by
 refine returnsInHanded_of_calls own started noInit witness ?_
 intro w tape i _ hsh _ hok hpre hholds
 obtain ⟨_, _, _, fn2, hfn2, _, _, _, _, hval⟩ := hok
 obtain rfl : fn2 = fn := Option.some.inj (hfn2.symm.trans hfn)
 obtain ⟨⟨⟨ds, gs, before, hw, hc⟩, hx⟩, _⟩ := hpre
 have hcall := contract (w.forCall tape i) w.heap.size i.args ds gs before hval (DataW.Whole.of_heap (w' := w.forCall tape i) (by rfl) hw) hc hsh (hX _ _ _ (by rfl) hx) hholds
 refine hcall.mono fun e W' ⟨v, he, hp⟩ => ?_
 subst he
 exact ChangeSpec.post_blind hp
theorem num_of {W : World} {g : Nat} (h : ∃ m, W.cell? ⟨g, 0, none⟩ = some (.int .i64 m)) : ∃ m, Rel W [] [] (.adr [.c (.int .i64 m)]) (.pointer (some ⟨g, 0, none⟩)) := by
 obtain ⟨m, hm⟩ := h
 have hb : g < W.heap.size := by
  rcases Nat.lt_or_ge g W.heap.size with h | h
  ·exact h
  ·unfold World.cell? at hm
   rw [Array.getElem?_eq_none h] at hm
   simp at hm
 refine ⟨m, .adr _ _ _ (fun _ => .int .i64 m) ⟨rfl, hb, by simp, fun i hi => ?_⟩ (fun i x hx => ?_)⟩
 ·have : i = 0 := by simp at hi; omega
  subst this
  simpa [Addr.add] using hm
 ·match i, hx with
  | 0, hx => simp at hx; subst hx; exact .c _ _
end Go.Proofs.YtphkpiocblmpeaaGreatDoor
namespace Go.Proofs.YtphkpiocblmpeaaGreatDoor
set_option maxRecDepth 100000
open Go.RowKit
set_option linter.unusedVariables false
set_option linter.unusedSimpArgs false
def AllB (l : List Int) : Prop := ∀ x ∈ l, 0 ≤ x ∧ x < 256
theorem AllB.nil : AllB [] := fun _ h => by cases h
theorem AllB.cons {x : Int} {l : List Int} (h1 : 0 ≤ x ∧ x < 256) (h2 : AllB l) : AllB (x :: l) := fun y hy => by
  rcases List.mem_cons.1 hy with rfl | hy
  · exact h1
  · exact h2 y hy
theorem AllB.append {l m : List Int} (h1 : AllB l) (h2 : AllB m) : AllB (l ++ m) := fun y hy => by
  rcases List.mem_append.1 hy with hy | hy
  · exact h1 y hy
  · exact h2 y hy
theorem AllB.drop {l : List Int} (h : AllB l) (n : Nat) : AllB (l.drop n) := fun y hy => h y (List.mem_of_mem_drop hy)
theorem AllB.take {l : List Int} (h : AllB l) (n : Nat) : AllB (l.take n) := fun y hy => h y (List.mem_of_mem_take hy)
theorem AllB.get {l : List Int} (h : AllB l) (i : Nat) (hi : i < l.length) : 0 ≤ l[i] ∧ l[i] < 256 := h _ (List.getElem_mem hi)
theorem wf_u8 {n : Int} (h : (Lit.int .u8 n).wf = true) : 0 ≤ n ∧ n < 256 := by
  simp only [Lit.wf, Bool.and_eq_true, decide_eq_true_eq, IntKind.min, IntKind.max, IntKind.signed, IntKind.bits] at h
  simp at h
  omega
theorem subI_nat {α : Type} (l : List α) {a b : Int} {i j : Nat} (ha : a = i) (hb : b = j) (h1 : i ≤ j) (h2 : j ≤ l.length) : subI l a b = some ((l.drop i).take (j - i)) := by
  subst ha hb
  unfold subI
  rw [if_pos ⟨by omega, by omega, by omega⟩, Int.toNat_natCast, Int.toNat_natCast]
theorem dropI_nat {α : Type} (l : List α) {a : Int} {i : Nat} (ha : a = i) (h1 : i ≤ l.length) : dropI l a = some (l.drop i) := by
  subst ha
  unfold dropI
  rw [if_pos ⟨by omega, by omega⟩, Int.toNat_natCast]
theorem takeI_nat {α : Type} (l : List α) {a : Int} {i : Nat} (ha : a = i) (h1 : i ≤ l.length) : takeI l a = some (l.take i) := by
  subst ha
  unfold takeI
  rw [if_pos ⟨by omega, by omega⟩, Int.toNat_natCast]
def qOplace (N : Nat) (i0 : Int) (width1 : Int) (little2 : Bool) : Option (Int) :=
 bif little2 then
  some (i0)
 else
  some ((IntKind.wrap .i64 ((IntKind.wrap .i64 (width1 - (1 : Int))) - i0)))
def qOPutL5 (N : Nat) (X : (((Int) × ((Int) × ((Bool) × ((Int) × ((Int) × Unit))))) × ((List (Int)) × Unit)) → Option ((Unit × ((List (Int)) × Unit)))) (n0 : Int) (width1 : Int) (little2 : Bool) (x19 : Int) (x20 : Int) (h0 : List (Int)) : Option ((Unit × ((List (Int)) × Unit))) :=
 bif (decide (x20 < x19)) then
  Option.bind (qOplace N x20 width1 little2) fun (v8 : Int) =>
  bif (decide ((0 : Int) ≤ v8 ∧ v8 < (((List.length h0) : Nat) : Int))) then
   Option.bind (@GetElem?.getElem? (List Int) Nat Int (fun (as9 : (List Int)) => (fun (i10 : Nat) => (@LT.lt Nat @instLTNat i10 (List.length as9)))) (@List.instGetElem?NatLtLength Int) h0 (Int.toNat v8)) fun (v9 : Int) =>
   (X (((@Int.fdiv n0 (@HPow.hPow Int Nat Int (@instHPow Int Nat (@instPowNat Int @Int.instNatPow)) (2 : Int) (@Min.min Nat @instMinNat (Int.toNat (8 : Int)) (@IntKind.bits @IntKind.u64)))), (width1, (little2, (x19, ((IntKind.wrap .i64 (x20 + (1 : Int))), @Unit.unit))))), ((@List.set Int h0 (Int.toNat v8) (IntKind.wrap .u8 n0)), @Unit.unit)))
  else
   none
 else
  some ((@Unit.unit, (h0, @Unit.unit)))
def qOPutL5R (N : Nat) (c : (((Int) × ((Int) × ((Bool) × ((Int) × ((Int) × Unit))))) × ((List (Int)) × Unit))) : Option ((Unit × ((List (Int)) × Unit))) := gl (fun X c => qOPutL5 N X c.1.1 c.1.2.1 c.1.2.2.1 c.1.2.2.2.1 c.1.2.2.2.2.1 c.2.1) N c
def qOPut (N : Nat) (n0 : Int) (width1 : Int) (little2 : Bool) : Option ((List (Int)) × Int) :=
 bif (decide (width1 < (1 : Int))) then
  some ((([] : List (Int)), (1 : Int)))
 else
  bif (@cond Bool @Bool.false @Bool.true (decide ((8 : Int) < width1))) then
   some ((([] : List (Int)), (1 : Int)))
  else
   bif ((decide ((0 : Int) ≤ width1 ∧ width1 ≤ width1)) && (roomB (Int.toNat width1) 1)) then
    Option.bind (qOPutL5R N ((n0, (width1, (little2, ((((List.length (@List.replicate Int (Int.toNat width1) (0 : Int))) : Nat) : Int), ((0 : Int), @Unit.unit))))), ((@List.replicate Int (Int.toNat width1) (0 : Int)), @Unit.unit))) fun (v4 : (Unit × ((List Int) × Unit))) =>
    some ((v4.2.1, (0 : Int)))
   else
    none
def qOJoinL3 (N : Nat) (X : (((List (List (Int))) × ((Int) × ((List (List (Int))) × ((Int) × ((Int) × Unit))))) × Unit) → Option ((((List (List (Int))) × ((Int) × Unit)) × Unit))) (parts0 : List (List (Int))) (size3 : Int) (x9 : List (List (Int))) (x10 : Int) (x11 : Int) : Option ((((List (List (Int))) × ((Int) × Unit)) × Unit)) :=
 bif (decide (x11 < x10)) then
  Option.bind (getI x9 x11) fun (v7 : (List Int)) =>
  (X ((parts0, ((IntKind.wrap .i64 (size3 + (((List.length v7) : Nat) : Int))), (x9, (x10, ((IntKind.wrap .i64 (x11 + (1 : Int))), @Unit.unit))))), @Unit.unit))
 else
  some (((parts0, (size3, @Unit.unit)), @Unit.unit))
def qOJoinL3R (N : Nat) (c : (((List (List (Int))) × ((Int) × ((List (List (Int))) × ((Int) × ((Int) × Unit))))) × Unit)) : Option ((((List (List (Int))) × ((Int) × Unit)) × Unit)) := gl (fun X c => qOJoinL3 N X c.1.1 c.1.2.1 c.1.2.2.1 c.1.2.2.2.1 c.1.2.2.2.2.1) N c
def qOJoinL9 (N : Nat) (X : (((List (List (Int))) × ((Int) × ((Int) × Unit))) × ((List (Int)) × Unit)) → Option ((Unit × ((List (Int)) × Unit)))) (x22 : List (List (Int))) (x23 : Int) (x24 : Int) (h0 : List (Int)) : Option ((Unit × ((List (Int)) × Unit))) :=
 bif (decide (x24 < x23)) then
  Option.bind (getI x22 x24) fun (v6 : (List Int)) =>
  bif (roomB ((List.length h0) + (List.length v6)) 1) then
   (X ((x22, (x23, ((IntKind.wrap .i64 (x24 + (1 : Int))), @Unit.unit))), ((h0 ++ v6), @Unit.unit)))
  else
   none
 else
  some ((@Unit.unit, (h0, @Unit.unit)))
def qOJoinL9R (N : Nat) (c : (((List (List (Int))) × ((Int) × ((Int) × Unit))) × ((List (Int)) × Unit))) : Option ((Unit × ((List (Int)) × Unit))) := gl (fun X c => qOJoinL9 N X c.1.1 c.1.2.1 c.1.2.2.1 c.2.1) N c
def qOJoin (N : Nat) (parts0 : List (List (Int))) : Option (List (Int)) :=
 Option.bind (qOJoinL3R N ((parts0, ((0 : Int), (parts0, ((((List.length parts0) : Nat) : Int), ((0 : Int), @Unit.unit))))), @Unit.unit)) fun (v2 : (((List (List Int)) × (Int × Unit)) × Unit)) =>
 bif ((decide ((0 : Int) ≤ (0 : Int) ∧ (0 : Int) ≤ v2.1.2.1)) && (roomB (Int.toNat v2.1.2.1) 1)) then
  Option.bind (qOJoinL9R N ((v2.1.1, ((((List.length v2.1.1) : Nat) : Int), ((0 : Int), @Unit.unit))), ((@List.replicate Int (Int.toNat (0 : Int)) (0 : Int)), @Unit.unit))) fun (v3 : (Unit × ((List Int) × Unit))) =>
  some (v3.2.1)
 else
  none
def qOGetL5 (N : Nat) (X : (((List (Int)) × ((Bool) × ((Int) × ((Int) × ((Int) × Unit))))) × Unit) → Option ((((Int) × Unit) × Unit))) (b0 : List (Int)) (little1 : Bool) (n6 : Int) (x17 : Int) (x18 : Int) : Option ((((Int) × Unit) × Unit)) :=
 bif (decide (x18 < x17)) then
  Option.bind (qOplace N x18 (((List.length b0) : Nat) : Int) little1) fun (v7 : Int) =>
  Option.bind (getI b0 v7) fun (v8 : Int) =>
  bif (decide ((0 : Int) ≤ (IntKind.wrap .i64 ((8 : Int) * x18)))) then
   (X ((b0, (little1, ((@Go.bits @Go.BinOp.or @IntKind.u64 n6 (IntKind.wrap .u64 ((IntKind.wrap .u64 v8) * (@HPow.hPow Int Nat Int (@instHPow Int Nat (@instPowNat Int @Int.instNatPow)) (2 : Int) (@Min.min Nat @instMinNat (Int.toNat (IntKind.wrap .i64 ((8 : Int) * x18))) (@IntKind.bits @IntKind.u64)))))), (x17, ((IntKind.wrap .i64 (x18 + (1 : Int))), @Unit.unit))))), @Unit.unit))
  else
   none
 else
  some (((n6, @Unit.unit), @Unit.unit))
def qOGetL5R (N : Nat) (c : (((List (Int)) × ((Bool) × ((Int) × ((Int) × ((Int) × Unit))))) × Unit)) : Option ((((Int) × Unit) × Unit)) := gl (fun X c => qOGetL5 N X c.1.1 c.1.2.1 c.1.2.2.1 c.1.2.2.2.1 c.1.2.2.2.2.1) N c
def qOGet (N : Nat) (b0 : List (Int)) (little1 : Bool) : Option ((Int) × Int) :=
 bif (decide ((((List.length b0) : Nat) : Int) < (1 : Int))) then
  some (((0 : Int), (1 : Int)))
 else
  bif (@cond Bool @Bool.false @Bool.true (decide ((8 : Int) < (((List.length b0) : Nat) : Int)))) then
   some (((0 : Int), (1 : Int)))
  else
   Option.bind (qOGetL5R N ((b0, (little1, ((0 : Int), ((((List.length b0) : Nat) : Int), ((0 : Int), @Unit.unit))))), @Unit.unit)) fun (v3 : ((Int × Unit) × Unit)) =>
   some ((v3.1.1, (0 : Int)))
theorem q64_of (a : Nat) (ha : a < 18446744073709551616) : (BitVec.ofInt 64 (a : Int)).toNat = a := by
 rw [BitVec.ofInt_natCast, BitVec.toNat_ofNat]; exact Nat.mod_eq_of_lt (by omega)
theorem q64_or (a b : Nat) (ha : a < 18446744073709551616) (hb : b < 18446744073709551616) : bits .or .u64 (a : Int) (b : Int) = ((a ||| b : Nat) : Int) := by
 have hx : a ||| b < 2 ^ 64 := Nat.or_lt_two_pow (n := 64) (by omega) (by omega)
 show IntKind.u64.wrap ((BitVec.ofInt 64 (a : Int) ||| BitVec.ofInt 64 (b : Int)).toNat : Int) = _
 rw [BitVec.toNat_or, q64_of a ha, q64_of b hb, IntKind.wrap_u64]
 omega
theorem or_nat (x y k : Nat) (hx : x < 2 ^ k) (hx' : x < 18446744073709551616) (hy : y * 2 ^ k < 18446744073709551616) : bits .or .u64 (x : Int) ((y * 2 ^ k : Nat) : Int) = ((y * 2 ^ k + x : Nat) : Int) := by
 rw [q64_or x (y * 2 ^ k) hx' hy, Nat.or_comm, ← Nat.shiftLeft_eq, ← Nat.shiftLeft_add_eq_or_of_lt hx]
theorem or_at (a b : Int) (k : Nat) (h0 : 0 ≤ a) (ha : a.toNat < 2 ^ k) (ha' : a < 18446744073709551616) (hb : 0 ≤ b) (hk : b.toNat * 2 ^ k < 18446744073709551616) : bits .or .u64 a (b * ((2 ^ k : Nat) : Int)) = b * ((2 ^ k : Nat) : Int) + a := by
 obtain ⟨x, rfl⟩ := Int.eq_ofNat_of_zero_le h0
 obtain ⟨y, rfl⟩ := Int.eq_ofNat_of_zero_le hb
 have := or_nat x y k (by simpa using ha) (by omega) (by simpa using hk)
 rw [Int.natCast_add, Int.natCast_mul] at this
 exact this
theorem wrapU64 {x : Int} (h1 : 0 ≤ x) (h2 : x < 18446744073709551616) : IntKind.wrap .u64 x = x := by
 rw [IntKind.wrap_u64]; omega
section
variable {N : Nat}
theorem put4 (n : Int) (h : 0 ≤ n ∧ n < 18446744073709551616) (hN : 100 ≤ N) : qOPut N n 4 false = some ([n / 16777216 % 256, n / 65536 % 256, n / 256 % 256, n % 256], 0) := by
 obtain ⟨M, rfl⟩ : ∃ M, N = M + 5 := ⟨N - 5, by omega⟩
 have r1 : roomB (Int.toNat 4) 1 = true := by decide
 have r2 : List.replicate (Int.toNat 4) (0 : Int) = [0, 0, 0, 0] := rfl
 have w1 : IntKind.wrap .i64 ((4 : Int) - 1) = 3 := by decide
 have v0 : IntKind.wrap .i64 ((3 : Int) - 0) = 3 := by decide
 have v1 : IntKind.wrap .i64 ((3 : Int) - 1) = 2 := by decide
 have v2 : IntKind.wrap .i64 ((3 : Int) - 2) = 1 := by decide
 have v3 : IntKind.wrap .i64 ((3 : Int) - 3) = 0 := by decide
 have w3 : IntKind.wrap .i64 ((0 : Int) + 1) = 1 := by decide
 have w4 : IntKind.wrap .i64 ((1 : Int) + 1) = 2 := by decide
 have w5 : IntKind.wrap .i64 ((2 : Int) + 1) = 3 := by decide
 have w6 : IntKind.wrap .i64 ((3 : Int) + 1) = 4 := by decide
 have e1 : (2 : Int) ^ min (Int.toNat 8) (IntKind.bits IntKind.u64) = 256 := by decide
 have d1 : Int.fdiv n 256 = n / 256 := Int.fdiv_eq_ediv_of_nonneg n (by decide)
 have d2 : Int.fdiv (n / 256) 256 = n / 65536 := by rw [Int.fdiv_eq_ediv_of_nonneg _ (by decide)]; omega
 have d3 : Int.fdiv (n / 65536) 256 = n / 16777216 := by rw [Int.fdiv_eq_ediv_of_nonneg _ (by decide)]; omega
 have w7 : IntKind.wrap .u8 n = n % 256 := by rw [IntKind.wrap_u8]
 have w8 : IntKind.wrap .u8 (n / 256) = n / 256 % 256 := by rw [IntKind.wrap_u8]
 have w9 : IntKind.wrap .u8 (n / 65536) = n / 65536 % 256 := by rw [IntKind.wrap_u8]
 have w10 : IntKind.wrap .u8 (n / 16777216) = n / 16777216 % 256 := by rw [IntKind.wrap_u8]
 simp only [qOPut, qOPutL5R, gl, qOPutL5, qOplace, r1, r2, e1, cond_false, Option.bind_some, w1, v0, v1, v2, v3, w3, w4, w5, w6]
 simp [w1, v0, v1, v2, v3, w3, w4, w5, w6, d1, d2, d3, w7, w8, w9, w10]
theorem get4 (x y z u : Int) (hx : 0 ≤ x ∧ x < 256) (hy : 0 ≤ y ∧ y < 256) (hz : 0 ≤ z ∧ z < 256) (hu : 0 ≤ u ∧ u < 256) (hN : 100 ≤ N) : qOGet N [x, y, z, u] false = some (((x * 256 + y) * 256 + z) * 256 + u, 0) := by
 obtain ⟨M, rfl⟩ : ∃ M, N = M + 5 := ⟨N - 5, by omega⟩
 have w1 : IntKind.wrap .i64 ((4 : Int) - 1) = 3 := by decide
 have v0 : IntKind.wrap .i64 ((3 : Int) - 0) = 3 := by decide
 have v1 : IntKind.wrap .i64 ((3 : Int) - 1) = 2 := by decide
 have v2 : IntKind.wrap .i64 ((3 : Int) - 2) = 1 := by decide
 have v3 : IntKind.wrap .i64 ((3 : Int) - 3) = 0 := by decide
 have w3 : IntKind.wrap .i64 ((0 : Int) + 1) = 1 := by decide
 have w4 : IntKind.wrap .i64 ((1 : Int) + 1) = 2 := by decide
 have w5 : IntKind.wrap .i64 ((2 : Int) + 1) = 3 := by decide
 have w6 : IntKind.wrap .i64 ((3 : Int) + 1) = 4 := by decide
 have m0 : IntKind.wrap .i64 ((8 : Int) * 0) = 0 := by decide
 have m1 : IntKind.wrap .i64 ((8 : Int) * 1) = 8 := by decide
 have m2 : IntKind.wrap .i64 ((8 : Int) * 2) = 16 := by decide
 have m3 : IntKind.wrap .i64 ((8 : Int) * 3) = 24 := by decide
 have x1 : IntKind.wrap .u64 x = x := wrapU64 (by omega) (by omega)
 have y1 : IntKind.wrap .u64 y = y := wrapU64 (by omega) (by omega)
 have z1 : IntKind.wrap .u64 z = z := wrapU64 (by omega) (by omega)
 have u1 : IntKind.wrap .u64 u = u := wrapU64 (by omega) (by omega)
 have e0 : (2 : Int) ^ min (Int.toNat 0) (IntKind.bits IntKind.u64) = 1 := by decide
 have e1 : (2 : Int) ^ min (Int.toNat 8) (IntKind.bits IntKind.u64) = 256 := by decide
 have e2 : (2 : Int) ^ min (Int.toNat 16) (IntKind.bits IntKind.u64) = 65536 := by decide
 have e3 : (2 : Int) ^ min (Int.toNat 24) (IntKind.bits IntKind.u64) = 16777216 := by decide
 have u2 : IntKind.wrap .u64 (u * 1) = u := by rw [Int.mul_one]; exact u1
 have z2 : IntKind.wrap .u64 (z * 256) = z * 256 := wrapU64 (by omega) (by omega)
 have y2 : IntKind.wrap .u64 (y * 65536) = y * 65536 := wrapU64 (by omega) (by omega)
 have x2 : IntKind.wrap .u64 (x * 16777216) = x * 16777216 := wrapU64 (by omega) (by omega)
 have o1 : bits .or .u64 0 u = u := by
  have := or_at 0 u 0 (by decide) (by decide) (by decide) (by omega) (by simp; omega)
  simpa using this
 have o2 : bits .or .u64 u (z * 256) = z * 256 + u := or_at u z 8 (by omega) (by show u.toNat < 256; omega) (by omega) (by omega) (by show z.toNat * 256 < _; omega)
 have o3 : bits .or .u64 (z * 256 + u) (y * 65536) = y * 65536 + (z * 256 + u) := or_at (z * 256 + u) y 16 (by omega) (by show (z * 256 + u).toNat < 65536; omega) (by omega) (by omega) (by show y.toNat * 65536 < _; omega)
 have o4 : bits .or .u64 (y * 65536 + (z * 256 + u)) (x * 16777216) = x * 16777216 + (y * 65536 + (z * 256 + u)) := or_at (y * 65536 + (z * 256 + u)) x 24 (by omega) (by show (y * 65536 + (z * 256 + u)).toNat < 16777216; omega) (by omega) (by omega) (by show x.toNat * 16777216 < _; omega)
 have fin : x * 16777216 + (y * 65536 + (z * 256 + u)) = ((x * 256 + y) * 256 + z) * 256 + u := by omega
 have g0 : getI [x, y, z, u] (0 : Int) = some x := rfl
 have g1 : getI [x, y, z, u] (1 : Int) = some y := rfl
 have g2 : getI [x, y, z, u] (2 : Int) = some z := rfl
 have g3 : getI [x, y, z, u] (3 : Int) = some u := rfl
 have l4 : (([x, y, z, u] : List Int).length : Int) = 4 := rfl
 rw [← fin]
 simp only [qOGet, qOGetL5R, gl, qOGetL5, qOplace, l4, cond_false, Option.bind_some, w1, v0, v1, v2, v3, w3, w4, w5, w6, m0, m1, m2, m3, x1, y1, z1, u1, e0, e1, e2, e3, u2, z2, y2, x2, o1, o2, o3, o4, g0, g1, g2, g3]
 simp [w1, v0, v1, v2, v3, w3, w4, w5, w6, m1, m2, m3, x1, y1, z1, u1, e1, e2, e3, z2, y2, x2, o2, o3, o4, g0, g1, g2, g3]
theorem join_ok (l : List (List Int)) (hl : l.length ≤ 1000) (hs : ∀ p ∈ l, p.length ≤ 100000) (hN : 2000 ≤ N) : qOJoin N l = some l.flatten := by
 have tot : ∀ (m : List (List Int)), (∀ p ∈ m, p.length ≤ 100000) → m.flatten.length ≤ 100000 * m.length := by
  intro m
  induction m with
  | nil => intro _; simp
  | cons p m ih =>
   intro h
   have h1 := h p List.mem_cons_self
   have h2 := ih fun q hq => h q (List.mem_cons_of_mem _ hq)
   rw [List.flatten_cons, List.length_append, List.length_cons]
   omega
 have tk : ∀ i, (l.take i).flatten.length ≤ 100000000 := fun i => by
  have := tot (l.take i) fun p hp => hs p (List.mem_of_mem_take hp)
  rw [List.length_take] at this
  omega
 have hsn : ∀ i (hi : i < l.length), (l.take (i + 1)).flatten = (l.take i).flatten ++ l[i] := fun i hi => by
  have : l.take (i + 1) = l.take i ++ [l[i]] := by rw [List.take_add_one, List.getElem?_eq_getElem hi]; rfl
  rw [this, List.flatten_append]
  simp
 have h1 := gl_run (G := fun (X : ((List (List Int) × Int × List (List Int) × Int × Int × Unit) × Unit) → Option ((List (List Int) × Int × Unit) × Unit)) c => qOJoinL3 N X c.1.1 c.1.2.1 c.1.2.2.1 c.1.2.2.2.1 c.1.2.2.2.2.1)
  (fun i => ((l, (((l.take i).flatten.length : Int), (l, ((l.length : Int), ((i : Int), ()))))), ())) l.length ((l, ((l.flatten.length : Int), ())), ()) (fun X i hi => by
  have c1 : ((i : Int) < (l.length : Int)) := by omega
  have c2 : IntKind.wrap .i64 ((i : Int) + 1) = ((i + 1 : Nat) : Int) := by rw [wrap64 (by omega) (by omega)]; omega
  have hp := hs _ (List.getElem_mem hi)
  have ht := tk i
  have c3 : IntKind.wrap .i64 (((l.take i).flatten.length : Int) + (l[i].length : Int)) = (((l.take (i + 1)).flatten.length : Nat) : Int) := by rw [wrap64 (by omega) (by omega), hsn i hi, List.length_append]; omega
  simp only [qOJoinL3, c1, decide_true, cond_true, getI_lt l i hi, Option.bind_some, c3, c2]) (fun X => by
  simp [qOJoinL3]) N 0 (by omega) (by omega)
 have h2 := gl_run (G := fun (X : ((List (List Int) × Int × Int × Unit) × List Int × Unit) → Option (Unit × List Int × Unit)) c => qOJoinL9 N X c.1.1 c.1.2.1 c.1.2.2.1 c.2.1)
  (fun i => ((l, ((l.length : Int), ((i : Int), ()))), ((l.take i).flatten, ()))) l.length ((), (l.flatten, ())) (fun X i hi => by
  have c1 : ((i : Int) < (l.length : Int)) := by omega
  have c2 : IntKind.wrap .i64 ((i : Int) + 1) = ((i + 1 : Nat) : Int) := by rw [wrap64 (by omega) (by omega)]; omega
  have hp := hs _ (List.getElem_mem hi)
  have ht := tk i
  have c3 : roomB ((l.take i).flatten.length + l[i].length) 1 = true := roomB_of (by have := big_len; omega) (by omega)
  simp only [qOJoinL9, c1, decide_true, cond_true, getI_lt l i hi, Option.bind_some, c3, c2, hsn i hi]) (fun X => by
  simp [qOJoinL9]) N 0 (by omega) (by omega)
 have htot := tk l.length
 rw [List.take_length] at htot
 have c4 : (decide ((0 : Int) ≤ (0 : Int) ∧ (0 : Int) ≤ (l.flatten.length : Int)) && roomB (Int.toNat (l.flatten.length : Int)) 1) = true := by
  rw [Bool.and_eq_true]
  exact ⟨decide_eq_true ⟨by omega, by omega⟩, roomB_of (by have := big_len; omega) (by omega)⟩
 unfold qOJoin qOJoinL3R qOJoinL9R
 simp only [Int.natCast_zero, List.take_zero, List.flatten_nil, List.length_nil] at h1 h2
 rw [h1]
 simp only [Option.bind_some, c4, cond_true]
 have e0 : List.replicate (Int.toNat 0) (0 : Int) = [] := rfl
 rw [e0, h2]
 rfl
end
def idxB (s : List UInt8) (z : Int) : Int := match s.findIdx? (fun b => b == z.toNat.toUInt8) with
 | some i => (i : Int)
 | none => -1
section
variable {P : Program} {R : Type}
def ixK {R : Type} (args : List V) (k : V → Tree R) : Tree R := match args with
 | [.str s, .c (.int .u8 z)] => k (.c (.int .i64 (idxB s z)))
 | _ => .fail
theorem find_range (s : List UInt8) (p : UInt8 → Bool) : ∀ (n i : Nat), i + n = s.length → ((List.range' i n).find? fun j => p (s.getD j 0)) = ((s.drop i).findIdx? p).map (i + ·)
 | 0, i, h => by rw [List.drop_of_length_le (by omega)]; rfl
 | n + 1, i, h => by
  have hi : i < s.length := by omega
  rw [List.range'_succ, List.find?_cons, List.drop_eq_getElem_cons hi, List.findIdx?_cons, find_range s p n (i + 1) (by omega)]
  have e : s.getD i 0 = s[i] := by simp [List.getD_eq_getElem?_getD, hi]
  rw [e]
  cases p s[i] with
  | true => simp
  | false =>
   simp only [Bool.false_eq_true, if_false, Option.map_map]
   cases (s.drop (i + 1)).findIdx? p with
   | none => rfl
   | some j => simp; omega
theorem run_index {s : List UInt8} {z : Int} {w : World} : (Extern.BytealgIndexByte.indexByte #[.string ⟨s.toArray⟩, .int .u8 z]).run P w = .ok (.int .i64 (idxB s z)) w := by
 have hsz : (ByteArray.mk s.toArray).size = s.length := by show s.toArray.size = _; simp
 have hget : ∀ i, (ByteArray.mk s.toArray)[i]! = s.getD i 0 := fun i => by
  rcases Nat.lt_or_ge i s.length with hi | hi
  ·rw [getElem!_pos (ByteArray.mk s.toArray) i (by rw [hsz]; exact hi), List.getD_eq_getElem?_getD, List.getElem?_eq_getElem hi]
   rfl
  ·rw [getElem!_neg (ByteArray.mk s.toArray) i (by rw [hsz]; omega), List.getD_eq_getElem?_getD, List.getElem?_eq_none hi]
   rfl
 have e := find_range s (fun b => b == z.toNat.toUInt8) s.length 0 (by omega)
 rw [List.drop_zero] at e
 unfold idxB
 show Sem.run P (do
  let b ← Extern.Bytes.bytesOf (.string ⟨s.toArray⟩)
  let c ← Extern.Bytes.asByte (.int .u8 z)
  match (List.range b.size).find? fun i => b[i]! == c with
  | some i => pure (goInt i)
  | none => pure (goInt (-1))) w = _
 simp only [Extern.Bytes.bytesOf, Extern.Bytes.asByte, Sem.run_bind, Sem.run_pure, Result.andThen_ok, hsz, List.range_eq_range', hget]
 rw [e]
 cases s.findIdx? (fun b => b == z.toNat.toUInt8) with
 | none => rfl
 | some i => simp [goInt]
theorem ix_ok {f : FuncId} {fn : Func} (hf : P.funcs[f]? = some fn) (hb : fn.body.isNone = true) (hn : fn.name ≠ "runtime.NumGoroutine") (h1 : (Extern.findNext fn).isNone = true) (h2 : Extern.find fn = some Extern.BytealgIndexByte.indexByte) :
  ∀ args (k : V → Tree R) res, (ixK args k).run = some res → ∃ r, (k r).run = some res ∧ r.plain = true ∧ (∀ l k, ex r ≠ .fresh l k) ∧ CallsV P f args r := by
 intro args k res h
 unfold ixK at h
 split at h
 ·rename_i s z
  refine ⟨_, h, rfl, (fun l k h => by cases h), fun w B cargs hB hgl hlen hrel N hN => ?_⟩
  obtain ⟨v0, e0, r0⟩ := hrel 0 _ rfl
  obtain ⟨v1, e1, r1⟩ := hrel 1 _ rfl
  have hc : cargs = [v0, v1] := by
   match cargs, hlen, e0, e1 with
   | [a, b], _, e0, e1 => simp at e0 e1; rw [e0, e1]
  have q0 := Rel.ofC r0
  have q1 := Rel.ofC r1
  subst q0 q1 hc
  unfold EntersV
  have h1' : Extern.findNext fn = none := Option.isNone_iff_eq_none.1 h1
  have hb' : fn.body = none := Option.isNone_iff_eq_none.1 hb
  have hm : Sem.run P (mark (.extern f)) w = .ok () w := rfl
  have hrun : (callFunc f [Value.string ⟨s.toArray⟩, Value.int .u8 z].toArray).run P w = .ok (.value (.int .i64 (idxB s z))) w := by
   simp [callFunc, Sem.run_bind, hf, hn, hb', hm, h1', h2, run_index]
  rw [hrun]
  exact hN _ _ (Gr.refl _) (.c _ _)
 ·cases h
theorem EnvOK.addExt {Γ : (R : Type) → Env R} (hΓ : EnvOK P (Γ R)) {f : FuncId} {F : (R : Type) → List V → (V → Tree R) → Tree R} (h : ∀ args (k : V → Tree R) res, (F R args k).run = some res → ∃ r, (k r).run = some res ∧ r.plain = true ∧ (∀ l k, ex r ≠ .fresh l k) ∧ CallsV P f args r) : EnvOK P (Env.addFn Γ f F R) := by
 refine ⟨⟨fun f' args k res hc => ?_⟩, hΓ.inl, hΓ.lp, hΓ.cln⟩
 simp only [Env.addFn] at hc
 split at hc
 ·rename_i hff
  subst hff
  exact h args k res hc
 ·exact hΓ.fns.ok f' args k res hc
end
end Go.Proofs.YtphkpiocblmpeaaGreatDoor
namespace Go.Proofs.YtphkpiocblmpeaaGreatDoor
set_option maxRecDepth 100000
open Go.RowKit
set_option linter.unusedVariables false
theorem hasBody {f : Nat} {fn : Func} (hf : Tryz.prog.funcs[f]? = some fn) (hn : fn.name ≠ "runtime.NumGoroutine") (hb : fn.body.isSome = true) : ∃ fn, Tryz.prog.funcs[f]? = some fn ∧ fn.name ≠ "runtime.NumGoroutine" ∧ fn.body ≠ none :=
 ⟨fn, hf, hn, fun h => by rw [h] at hb; cases hb⟩
theorem rel_two {w : World} {B : List Nat} {x y : V} {cargs : List Value} (hlen : cargs.length = [x, y].length) (h : ∀ (i : Nat) z, [x, y][i]? = some z → ∃ v, cargs[i]? = some v ∧ Rel w B [] (ex z) v) : ∃ a b, cargs = [a, b] ∧ Rel w B [] (ex x) a ∧ Rel w B [] (ex y) b := by
 obtain ⟨a, h1, h2⟩ := h 0 x rfl
 obtain ⟨b, h3, h4⟩ := h 1 y rfl
 match cargs, hlen, h1, h3 with
 | [p, q], _, h1, h3 => simp at h1 h3; subst h1 h3; exact ⟨_, _, rfl, h2, h4⟩
theorem rel_one {w : World} {B : List Nat} {x : V} {cargs : List Value} (hlen : cargs.length = [x].length) (h : ∀ (i : Nat) z, [x][i]? = some z → ∃ v, cargs[i]? = some v ∧ Rel w B [] (ex z) v) : ∃ a, cargs = [a] ∧ Rel w B [] (ex x) a := by
 obtain ⟨a, h1, h2⟩ := h 0 x rfl
 match cargs, hlen, h1 with
 | [p], _, h1 => simp at h1; subst h1; exact ⟨_, rfl, h2⟩
end Go.Proofs.YtphkpiocblmpeaaGreatDoor
namespace Go.Proofs
open Go.Shelf
def Tryz.laysM171_ren : Go.Shelf.Ren := ⟨fun | 171 => 22 | 243 => 39 | 246 => 56 | 283 => 81 | 284 => 82 | 285 => 83 | 286 => 84 | 129 => 106 | 317 => 105 | 318 => 107 | 319 => 108 | 320 => 109 | 337 => 131 | 338 => 132 | n => n, fun | 3 => 3 | 9 => 9 | 2 => 2 | 4 => 4 | 171 => 44 | 0 => 0 | 53 => 82 | 37 => 25 | 5 => 5 | 173 => 131 | 212 => 151 | 51 => 83 | 20 => 20 | 213 => 152 | 46 => 76 | 232 => 188 | 233 => 90 | n => n, fun | 17 => 4 | 18 => 9 | 19 => 10 | n => n⟩
theorem Tryz.laysM171 : Go.Proofs.LaysM.n171 Tryz.prog Tryz.laysM171_ren := {
 mixed := by kernel_rfl
 f129 := Tryz.func106.trans (congrArg some (by kernel_rfl))
 f171 := Tryz.func22.trans (congrArg some (by kernel_rfl))
 f243 := Tryz.func39.trans (congrArg some (by kernel_rfl))
 f246 := Tryz.func56.trans (congrArg some (by kernel_rfl))
 f283 := Tryz.func81.trans (congrArg some (by kernel_rfl))
 f284 := Tryz.func82.trans (congrArg some (by kernel_rfl))
 f285 := Tryz.func83.trans (congrArg some (by kernel_rfl))
 f286 := Tryz.func84.trans (congrArg some (by kernel_rfl))
 f317 := Tryz.func105.trans (congrArg some (by kernel_rfl))
 f318 := Tryz.func107.trans (congrArg some (by kernel_rfl))
 f319 := Tryz.func108.trans (congrArg some (by kernel_rfl))
 f320 := Tryz.func109.trans (congrArg some (by kernel_rfl))
 f337 := Tryz.func131.trans (congrArg some (by kernel_rfl))
 f338 := Tryz.func132.trans (congrArg some (by kernel_rfl))
 t0 := Tryz.underlying0
 a0 := Tryz.isAgg0
 z0 := Tryz.sizeOf0
 v0 := Tryz.zeroValue0
 t2 := Tryz.underlying2
 a2 := Tryz.isAgg2
 z2 := Tryz.sizeOf2
 v2 := Tryz.zeroValue2
 t3 := Tryz.underlying3
 a3 := Tryz.isAgg3
 z3 := Tryz.sizeOf3
 v3 := Tryz.zeroValue3
 t4 := Tryz.underlying4
 a4 := Tryz.isAgg4
 z4 := Tryz.sizeOf4
 v4 := Tryz.zeroValue4
 t5 := Tryz.underlying5
 a5 := Tryz.isAgg5
 z5 := Tryz.sizeOf5
 v5 := Tryz.zeroValue5
 t9 := Tryz.underlying9
 a9 := Tryz.isAgg9
 z9 := Tryz.sizeOf9
 v9 := Tryz.zeroValue9
 t20 := Tryz.underlying20
 a20 := Tryz.isAgg20
 z20 := Tryz.sizeOf20
 v20 := Tryz.zeroValue20
 t37 := Tryz.underlying25
 a37 := Tryz.isAgg25
 z37 := Tryz.sizeOf25
 v37 := Tryz.zeroValue25
 t46 := Tryz.underlying76
 a46 := Tryz.isAgg76
 z46 := Tryz.sizeOf76
 v46 := Tryz.zeroValue76
 t51 := Tryz.underlying83
 a51 := Tryz.isAgg83
 z51 := Tryz.sizeOf83
 v51 := Tryz.zeroValue83
 t53 := Tryz.underlying82
 a53 := Tryz.isAgg82
 z53 := Tryz.sizeOf82
 v53 := Tryz.zeroValue82
 t171 := Tryz.underlying44
 a171 := Tryz.isAgg44
 z171 := Tryz.sizeOf44
 v171 := Tryz.zeroValue44
 t173 := Tryz.underlying131
 a173 := Tryz.isAgg131
 z173 := Tryz.sizeOf131
 v173 := Tryz.zeroValue131
 t212 := Tryz.underlying151
 a212 := Tryz.isAgg151
 z212 := Tryz.sizeOf151
 v212 := Tryz.zeroValue151
 t213 := Tryz.underlying152
 a213 := Tryz.isAgg152
 z213 := Tryz.sizeOf152
 t232 := Tryz.underlying188
 a232 := Tryz.isAgg188
 z232 := Tryz.sizeOf188
 v232 := Tryz.zeroValue188
 t233 := Tryz.underlying90
 a233 := Tryz.isAgg90
 z233 := Tryz.sizeOf90
 v233 := Tryz.zeroValue90
 g17 := by kernel_rfl
 g18 := by kernel_rfl
 g19 := by kernel_rfl
 i0 := by kernel_rfl
 i2 := by kernel_rfl
 i3 := by kernel_rfl
 i4 := by kernel_rfl
 i5 := by kernel_rfl
 i9 := by kernel_rfl
 i20 := by kernel_rfl
 i37 := by kernel_rfl
 i46 := by kernel_rfl
 i51 := by kernel_rfl
 i53 := by kernel_rfl
 i171 := by kernel_rfl
 i173 := by kernel_rfl
 i212 := by kernel_rfl
 i232 := by kernel_rfl
 i233 := by kernel_rfl
 m17 := by kernel_rfl
 m18 := by kernel_rfl
 m19 := by kernel_rfl }
open Go.RowKit Go.Sort Go.Lib in
theorem Tryz.strconv_Itoa (n : Int) (h0 : -9223372036854775808 ≤ n) (h1 : n ≤ 9223372036854775807) (w : World) (htab : Lib.TabIs Tryz.prog w "internal/strconv.uint64pow10" .u64 Lib.pow10Tab) :
  Calls Tryz.prog 22 #[.int .i64 n] w fun e w' => e = .returned (.string ⟨(Lib.itoa n).toArray⟩) ∧ ∃ k os, w' = grow (w.drewN k) os := Any.strconv_Itoa Tryz.laysM171 n h0 h1 w htab
def Tryz.laysC172_ren : Go.Shelf.Ren := ⟨fun | 172 => 30 | 244 => 43 | 245 => 44 | 247 => 59 | 279 => 60 | 280 => 61 | 281 => 62 | 282 => 63 | 287 => 89 | 316 => 90 | 171 => 22 | 205 => 91 | 321 => 112 | 322 => 113 | 243 => 39 | 246 => 56 | 283 => 81 | 284 => 82 | 285 => 83 | 286 => 84 | 129 => 106 | 317 => 105 | 318 => 107 | 319 => 108 | 320 => 109 | 337 => 131 | 338 => 132 | n => n, fun | 9 => 9 | 3 => 3 | 75 => 64 | 76 => 65 | 4 => 4 | 5 => 5 | 167 => 100 | 37 => 25 | 0 => 0 | 85 => 101 | 2 => 2 | 168 => 103 | 53 => 82 | 175 => 134 | 46 => 76 | 210 => 137 | 127 => 157 | 145 => 160 | 143 => 158 | 21 => 21 | 171 => 44 | 173 => 131 | 212 => 151 | 51 => 83 | 20 => 20 | 213 => 152 | 232 => 188 | 233 => 90 | 80 => 193 | n => n, fun | 15 => 1 | 16 => 2 | 17 => 4 | 18 => 9 | 19 => 10 | n => n⟩
theorem Tryz.laysC172 : Go.Proofs.LaysC.n172 Tryz.prog Tryz.laysC172_ren := {
 mixed := by kernel_rfl
 f129 := Tryz.func106.trans (congrArg some (by kernel_rfl))
 f171 := Tryz.func22.trans (congrArg some (by kernel_rfl))
 f172 := Tryz.func30.trans (congrArg some (by kernel_rfl))
 f205 := Tryz.func91.trans (congrArg some (by kernel_rfl))
 f243 := Tryz.func39.trans (congrArg some (by kernel_rfl))
 f244 := Tryz.func43.trans (congrArg some (by kernel_rfl))
 f245 := Tryz.func44.trans (congrArg some (by kernel_rfl))
 f246 := Tryz.func56.trans (congrArg some (by kernel_rfl))
 f247 := Tryz.func59.trans (congrArg some (by kernel_rfl))
 f279 := Tryz.func60.trans (congrArg some (by kernel_rfl))
 f280 := Tryz.func61.trans (congrArg some (by kernel_rfl))
 f281 := Tryz.func62.trans (congrArg some (by kernel_rfl))
 f282 := Tryz.func63.trans (congrArg some (by kernel_rfl))
 f283 := Tryz.func81.trans (congrArg some (by kernel_rfl))
 f284 := Tryz.func82.trans (congrArg some (by kernel_rfl))
 f285 := Tryz.func83.trans (congrArg some (by kernel_rfl))
 f286 := Tryz.func84.trans (congrArg some (by kernel_rfl))
 f287 := Tryz.func89.trans (congrArg some (by kernel_rfl))
 f316 := Tryz.func90.trans (congrArg some (by kernel_rfl))
 f317 := Tryz.func105.trans (congrArg some (by kernel_rfl))
 f318 := Tryz.func107.trans (congrArg some (by kernel_rfl))
 f319 := Tryz.func108.trans (congrArg some (by kernel_rfl))
 f320 := Tryz.func109.trans (congrArg some (by kernel_rfl))
 f321 := Tryz.func112.trans (congrArg some (by kernel_rfl))
 f322 := Tryz.func113.trans (congrArg some (by kernel_rfl))
 f337 := Tryz.func131.trans (congrArg some (by kernel_rfl))
 f338 := Tryz.func132.trans (congrArg some (by kernel_rfl))
 t0 := Tryz.underlying0
 a0 := Tryz.isAgg0
 z0 := Tryz.sizeOf0
 v0 := Tryz.zeroValue0
 t2 := Tryz.underlying2
 a2 := Tryz.isAgg2
 z2 := Tryz.sizeOf2
 v2 := Tryz.zeroValue2
 t3 := Tryz.underlying3
 a3 := Tryz.isAgg3
 z3 := Tryz.sizeOf3
 v3 := Tryz.zeroValue3
 t4 := Tryz.underlying4
 a4 := Tryz.isAgg4
 z4 := Tryz.sizeOf4
 v4 := Tryz.zeroValue4
 t5 := Tryz.underlying5
 a5 := Tryz.isAgg5
 z5 := Tryz.sizeOf5
 v5 := Tryz.zeroValue5
 t9 := Tryz.underlying9
 a9 := Tryz.isAgg9
 z9 := Tryz.sizeOf9
 v9 := Tryz.zeroValue9
 t20 := Tryz.underlying20
 a20 := Tryz.isAgg20
 z20 := Tryz.sizeOf20
 v20 := Tryz.zeroValue20
 t21 := Tryz.underlying21
 a21 := Tryz.isAgg21
 z21 := Tryz.sizeOf21
 v21 := Tryz.zeroValue21
 t37 := Tryz.underlying25
 a37 := Tryz.isAgg25
 z37 := Tryz.sizeOf25
 v37 := Tryz.zeroValue25
 t46 := Tryz.underlying76
 a46 := Tryz.isAgg76
 z46 := Tryz.sizeOf76
 v46 := Tryz.zeroValue76
 t51 := Tryz.underlying83
 a51 := Tryz.isAgg83
 z51 := Tryz.sizeOf83
 v51 := Tryz.zeroValue83
 t53 := Tryz.underlying82
 a53 := Tryz.isAgg82
 z53 := Tryz.sizeOf82
 v53 := Tryz.zeroValue82
 t75 := Tryz.underlying64
 a75 := Tryz.isAgg64
 z75 := Tryz.sizeOf64
 v75 := Tryz.zeroValue64
 t76 := Tryz.underlying65
 a76 := Tryz.isAgg65
 z76 := Tryz.sizeOf65
 v76 := Tryz.zeroValue65
 t85 := Tryz.underlying101
 a85 := Tryz.isAgg101
 z85 := Tryz.sizeOf101
 v85 := Tryz.zeroValue101
 t127 := Tryz.underlying157
 a127 := Tryz.isAgg157
 z127 := Tryz.sizeOf157
 v127 := Tryz.zeroValue157
 t143 := Tryz.underlying158
 a143 := Tryz.isAgg158
 z143 := Tryz.sizeOf158
 v143 := Tryz.zeroValue158
 t145 := Tryz.underlying160
 a145 := Tryz.isAgg160
 z145 := Tryz.sizeOf160
 v145 := Tryz.zeroValue160
 t167 := Tryz.underlying100
 a167 := Tryz.isAgg100
 z167 := Tryz.sizeOf100
 v167 := Tryz.zeroValue100
 t168 := Tryz.underlying103
 a168 := Tryz.isAgg103
 z168 := Tryz.sizeOf103
 v168 := Tryz.zeroValue103
 t171 := Tryz.underlying44
 a171 := Tryz.isAgg44
 z171 := Tryz.sizeOf44
 v171 := Tryz.zeroValue44
 t173 := Tryz.underlying131
 a173 := Tryz.isAgg131
 z173 := Tryz.sizeOf131
 v173 := Tryz.zeroValue131
 t175 := Tryz.underlying134
 a175 := Tryz.isAgg134
 z175 := Tryz.sizeOf134
 v175 := Tryz.zeroValue134
 t210 := Tryz.underlying137
 a210 := Tryz.isAgg137
 z210 := Tryz.sizeOf137
 v210 := Tryz.zeroValue137
 t212 := Tryz.underlying151
 a212 := Tryz.isAgg151
 z212 := Tryz.sizeOf151
 v212 := Tryz.zeroValue151
 t213 := Tryz.underlying152
 a213 := Tryz.isAgg152
 z213 := Tryz.sizeOf152
 t232 := Tryz.underlying188
 a232 := Tryz.isAgg188
 z232 := Tryz.sizeOf188
 v232 := Tryz.zeroValue188
 t233 := Tryz.underlying90
 a233 := Tryz.isAgg90
 z233 := Tryz.sizeOf90
 v233 := Tryz.zeroValue90
 g15 := by kernel_rfl
 g16 := by kernel_rfl
 g17 := by kernel_rfl
 g18 := by kernel_rfl
 g19 := by kernel_rfl
 t80 := Tryz.underlying193
 a80 := Tryz.isAgg193
 z80 := Tryz.sizeOf193
 v80 := Tryz.zeroValue193
 i0 := by kernel_rfl
 i2 := by kernel_rfl
 i3 := by kernel_rfl
 i4 := by kernel_rfl
 i5 := by kernel_rfl
 i9 := by kernel_rfl
 i20 := by kernel_rfl
 i21 := by kernel_rfl
 i37 := by kernel_rfl
 i46 := by kernel_rfl
 i51 := by kernel_rfl
 i53 := by kernel_rfl
 i75 := by kernel_rfl
 i76 := by kernel_rfl
 i80 := by kernel_rfl
 i85 := by kernel_rfl
 i127 := by kernel_rfl
 i143 := by kernel_rfl
 i145 := by kernel_rfl
 i167 := by kernel_rfl
 i168 := by kernel_rfl
 i171 := by kernel_rfl
 i173 := by kernel_rfl
 i175 := by kernel_rfl
 i210 := by kernel_rfl
 i212 := by kernel_rfl
 i232 := by kernel_rfl
 i233 := by kernel_rfl
 m15 := by kernel_rfl
 m16 := by kernel_rfl
 m17 := by kernel_rfl
 m18 := by kernel_rfl
 m19 := by kernel_rfl
 c0 := by kernel_rfl
 c2 := by kernel_rfl
 c3 := by kernel_rfl
 c4 := by kernel_rfl
 c5 := by kernel_rfl
 c9 := by kernel_rfl
 c20 := by kernel_rfl
 c21 := by kernel_rfl
 c37 := by kernel_rfl
 c46 := by kernel_rfl
 c51 := by kernel_rfl
 c53 := by kernel_rfl
 c75 := by kernel_rfl
 c76 := by kernel_rfl
 c80 := by kernel_rfl
 c85 := by kernel_rfl
 c127 := by kernel_rfl
 c143 := by kernel_rfl
 c145 := by kernel_rfl
 c167 := by kernel_rfl
 c168 := by kernel_rfl
 c171 := by kernel_rfl
 c173 := by kernel_rfl
 c175 := by kernel_rfl
 c210 := by kernel_rfl
 c212 := by kernel_rfl
 c213 := by kernel_rfl
 c232 := by kernel_rfl
 c233 := by kernel_rfl }
def Tryz.lays145_ren : Go.Shelf.Ren := ⟨fun | 145 => 27 | 220 => 40 | 219 => 57 | 217 => 85 | 225 => 86 | 224 => 87 | 267 => 88 | 266 => 110 | 314 => 111 | n => n, fun | 9 => 9 | 4 => 4 | 59 => 59 | 3 => 3 | 5 => 5 | 46 => 76 | 146 => 155 | 51 => 83 | n => n, fun | 1 => 0 | n => n⟩
theorem Tryz.lays145 : Go.Proofs.Lays.n145 Tryz.prog Tryz.lays145_ren := {
 mixed := by kernel_rfl
 f145 := Tryz.func27.trans (congrArg some (by kernel_rfl))
 f217 := Tryz.func85.trans (congrArg some (by kernel_rfl))
 f219 := Tryz.func57.trans (congrArg some (by kernel_rfl))
 f220 := Tryz.func40.trans (congrArg some (by kernel_rfl))
 f224 := Tryz.func87.trans (congrArg some (by kernel_rfl))
 f225 := Tryz.func86.trans (congrArg some (by kernel_rfl))
 f266 := Tryz.func110.trans (congrArg some (by kernel_rfl))
 f267 := Tryz.func88.trans (congrArg some (by kernel_rfl))
 f314 := Tryz.func111.trans (congrArg some (by kernel_rfl))
 t3 := Tryz.underlying3
 a3 := Tryz.isAgg3
 z3 := Tryz.sizeOf3
 v3 := Tryz.zeroValue3
 t4 := Tryz.underlying4
 a4 := Tryz.isAgg4
 z4 := Tryz.sizeOf4
 v4 := Tryz.zeroValue4
 t5 := Tryz.underlying5
 a5 := Tryz.isAgg5
 z5 := Tryz.sizeOf5
 v5 := Tryz.zeroValue5
 t9 := Tryz.underlying9
 a9 := Tryz.isAgg9
 z9 := Tryz.sizeOf9
 v9 := Tryz.zeroValue9
 t46 := Tryz.underlying76
 a46 := Tryz.isAgg76
 z46 := Tryz.sizeOf76
 v46 := Tryz.zeroValue76
 t51 := Tryz.underlying83
 a51 := Tryz.isAgg83
 z51 := Tryz.sizeOf83
 v51 := Tryz.zeroValue83
 t59 := Tryz.underlying59
 a59 := Tryz.isAgg59
 z59 := Tryz.sizeOf59
 v59 := Tryz.zeroValue59
 t146 := Tryz.underlying155
 a146 := Tryz.isAgg155
 z146 := Tryz.sizeOf155
 v146 := Tryz.zeroValue155
 g1 := by kernel_rfl }
def Tryz.lays101_ren : Go.Shelf.Ren := ⟨fun | 101 => 28 | 208 => 41 | 206 => 58 | n => n, fun | 9 => 9 | 4 => 4 | 3 => 3 | n => n, fun | n => n⟩
theorem Tryz.lays101 : Go.Proofs.Lays.n101 Tryz.prog Tryz.lays101_ren := {
 mixed := by kernel_rfl
 f101 := Tryz.func28.trans (congrArg some (by kernel_rfl))
 f206 := Tryz.func58.trans (congrArg some (by kernel_rfl))
 f208 := Tryz.func41.trans (congrArg some (by kernel_rfl))
 t3 := Tryz.underlying3
 a3 := Tryz.isAgg3
 z3 := Tryz.sizeOf3
 v3 := Tryz.zeroValue3
 t4 := Tryz.underlying4
 a4 := Tryz.isAgg4
 z4 := Tryz.sizeOf4
 v4 := Tryz.zeroValue4
 t9 := Tryz.underlying9
 a9 := Tryz.isAgg9
 z9 := Tryz.sizeOf9
 v9 := Tryz.zeroValue9 }
end Go.Proofs
namespace Go.Proofs.YtphkpiocblmpeaaGreatDoor
set_option maxRecDepth 100000
open Go.RowKit Go.Sort Go.Lib Go.Shelf
set_option linter.unusedVariables false
set_option linter.unusedSimpArgs false
theorem globi_tab {w : World} {B : List Nat} (h : GlobOK w B) : Lib.TabIs Tryz.prog w "internal/strconv.uint64pow10" .u64 Lib.pow10Tab := by
 obtain ⟨_, T, fr, h2⟩ := h.row 4 _ (by simp only [globRows, List.mem_cons]; exact .inl rfl)
 have h1 : Tryz.prog.globalNamed "internal/strconv.uint64pow10" = some 4 := by kernel_rfl
 unfold Lib.TabIs World.var?
 rw [h1, Option.bind_some, h2]
 rfl
def itK {R : Type} (args : List V) (k : V → Tree R) : Tree R := match args with
 | [.c (.int .i64 n)] => .ite (decide (-9223372036854775808 ≤ n ∧ n ≤ 9223372036854775807)) (k (.str (Lib.itoa n))) .fail
 | _ => .fail
theorem it_ok {R : Type} : ∀ args (k : V → Tree R) res, (itK args k).run = some res → ∃ r, (k r).run = some res ∧ r.plain = true ∧ (∀ l k, ex r ≠ .fresh l k) ∧ CallsV Tryz.prog 22 args r := by
 intro args k res h
 have hb : ∃ fn, Tryz.prog.funcs[22]? = some fn ∧ fn.name ≠ "runtime.NumGoroutine" ∧ fn.body ≠ none := hasBody Tryz.func22 (by decide +kernel) (by kernel_rfl)
 unfold itK at h
 split at h
 ·rename_i n
  rcases Tree.run_ite h with ⟨hs, h⟩ | ⟨_, h⟩
  ·obtain ⟨h1, h2⟩ := of_decide_eq_true hs
   refine ⟨_, h, rfl, (fun l k h => by cases h), CallsK.toV (fun w B cargs _ hgl hlen hrel => ?_) hb⟩
   obtain ⟨a, rfl, r1⟩ := rel_one hlen hrel
   have r1 := Rel.ofC r1
   subst r1
   have := Tryz.strconv_Itoa n h1 h2 w (globi_tab hgl)
   exact this.mono fun e w' ⟨he, k, os, hw⟩ => ⟨_, he, (by rw [hw]; exact Lib.below_grow _ w (Nat.le_refl _) k os), .c _ _⟩
  ·cases h
 ·cases h
theorem rel_nn {w : World} {B : List Nat} {g : Nat} (h : Rel w B [] (.adr [.nn]) (.pointer (some ⟨g, 0, none⟩))) : ∃ ev, w.cell? ⟨g, 0, none⟩ = some ev ∧ (ev = .nilIface ∨ ∃ te pe, ev = .iface te pe) := by
 cases h with
 | adr _ l ad us ha hr =>
  have h1 := ha.cell 0 (by simp)
  have h2 := hr 0 _ rfl
  cases hu : us 0 <;> rw [hu] at h2 <;> cases h2
  exact ⟨_, by rw [← hu]; simpa [Addr.add] using h1, .inr ⟨_, _, rfl⟩⟩
theorem rel_num {w : World} {B : List Nat} {g : Nat} {x : Value} (h : Rel w B [] (.adr [.c x]) (.pointer (some ⟨g, 0, none⟩))) : w.cell? ⟨g, 0, none⟩ = some x := by
 cases h with
 | adr _ l ad us ha hr =>
  have h1 := ha.cell 0 (by simp)
  have h2 := Rel.ofC (hr 0 _ rfl)
  rw [← h2]
  simpa [Addr.add] using h1
theorem rel_tupV {w : World} {B : List Nat} {x y : Value} {a b : AV} (h1 : Rel w B [] a x) (h2 : Rel w B [] b y) : Rel w B [] (.tup [a, b]) (.tuple #[x, y]) :=
 .tup _ _ _ (fun i => [x, y].getD i undef) rfl (fun i z hz => by
  match i, hz with
  | 0, _ => rfl
  | 1, _ => rfl) (fun i z hz => by
  match i, hz with
  | 0, hz => simp at hz; subst hz; exact h1
  | 1, hz => simp at hz; subst hz; exact h2)
theorem rel_tup3V {w : World} {B : List Nat} {x y z : Value} {a b c : AV} (h1 : Rel w B [] a x) (h2 : Rel w B [] b y) (h3 : Rel w B [] c z) : Rel w B [] (.tup [a, b, c]) (.tuple #[x, y, z]) :=
 .tup _ _ _ (fun i => [x, y, z].getD i undef) rfl (fun i t ht => by
  match i, ht with
  | 0, _ => rfl
  | 1, _ => rfl
  | 2, _ => rfl) (fun i t ht => by
  match i, ht with
  | 0, ht => simp at ht; subst ht; exact h1
  | 1, ht => simp at ht; subst ht; exact h2
  | 2, ht => simp at ht; subst ht; exact h3)
def atS (s : List UInt8) : Sum Int Int := match Lib.atoiAll s with
 | .ok v => .inl v
 | .range => .inr (Lib.atoiSat s)
 | _ => .inr 0
def atK {R : Type} (args : List V) (k : V → Tree R) : Tree R := match args with
 | [.str s] => .ite (decide (s.length ≤ 281474976710656)) (.cases (atS s) (fun u => k (.tup [.c (.int .i64 u), .c .nilIface])) (fun z => k (.tup [.c (.int .i64 z), .nn]))) .fail
 | _ => .fail
theorem at_ok {R : Type} : ∀ args (k : V → Tree R) res, (atK args k).run = some res → ∃ r, (k r).run = some res ∧ r.plain = true ∧ (∀ l k, ex r ≠ .fresh l k) ∧ CallsV Tryz.prog 30 args r := by
 intro args k res h
 unfold atK at h
 split at h
 ·rename_i s
  rcases Tree.run_ite h with ⟨hs, h⟩ | ⟨_, h⟩
  ·have hs := of_decide_eq_true hs
   have hsz : (ByteArray.mk s.toArray).size = s.length := by show s.toArray.size = _; simp
   have hl : (ByteArray.mk s.toArray).data.toList = s := by simp
   have hb : ∃ fn, Tryz.prog.funcs[30]? = some fn ∧ fn.name ≠ "runtime.NumGoroutine" ∧ fn.body ≠ none := hasBody Tryz.func30 (by decide +kernel) (by kernel_rfl)
   have key : ∀ (r : V), (∀ (w : World) (B : List Nat), GlobOK w B → Calls Tryz.prog 30 #[.string ⟨s.toArray⟩] w fun e w' => ∃ v, e = .returned v ∧ Gr w w' ∧ Rel w' B [] (ex r) v) → CallsV Tryz.prog 30 [.str s] r := fun r hr => CallsK.toV (fun w B cargs _ hgl hlen hrel => by
    obtain ⟨a, rfl, h1⟩ := rel_one hlen hrel
    have h1 := Rel.ofC h1
    subst h1
    exact hr w B hgl) hb
   rcases hp : Lib.atoiAll s with u | _ | _
   ·rw [show atS s = (Sum.inl u : Sum Int Int) by unfold atS; rw [hp]] at h
    refine ⟨_, h, rfl, (fun l k h => by cases h), key _ fun w B hgl => ?_⟩
    have hc : Calls Tryz.prog 30 #[.string ⟨s.toArray⟩] w _ := Any.strconv_Atoi_ok Tryz.laysC172 ⟨s.toArray⟩ (by rw [hsz]; omega) u (by rw [hl]; exact hp) w
    refine hc.mono fun e w' ⟨he, hw⟩ => ⟨_, he, ?_, rel_tupV (.c _ _) (.c _ _)⟩
    rcases hw with rfl | ⟨t, rfl⟩
    ·exact Gr.refl _
    ·exact Lib.bytesWorld_below _ _ _
   ·rw [show atS s = (Sum.inr 0 : Sum Int Int) by unfold atS; rw [hp]] at h
    refine ⟨_, h, rfl, (fun l k h => by cases h), key _ fun w B hgl => ?_⟩
    obtain ⟨ev, e1, e2⟩ := rel_nn (hgl.nn 1 (by simp [globNN]))
    have hc : Calls Tryz.prog 30 #[.string ⟨s.toArray⟩] w _ := Any.strconv_Atoi_syntax Tryz.laysC172 ⟨s.toArray⟩ (by rw [hsz]; omega) (by rw [hl]; exact hp) ev w e1 e2
    exact hc.mono fun e w' ⟨N, he, _, _, hw⟩ => ⟨_, he, hw, rel_tupV (.c _ _) (.nn _ _ _)⟩
   ·rw [show atS s = (Sum.inr (Lib.atoiSat s) : Sum Int Int) by unfold atS; rw [hp]] at h
    refine ⟨_, h, rfl, (fun l k h => by cases h), key _ fun w B hgl => ?_⟩
    obtain ⟨ev, e1, e2⟩ := rel_nn (hgl.nn 2 (by simp [globNN]))
    have hc : Calls Tryz.prog 30 #[.string ⟨s.toArray⟩] w _ := Any.strconv_Atoi_range Tryz.laysC172 ⟨s.toArray⟩ (by rw [hsz]; omega) (by rw [hl]; exact hp) ev w e1 e2
    rw [hl] at hc
    exact hc.mono fun e w' ⟨N, he, _, _, hw⟩ => ⟨_, he, hw, rel_tupV (.c _ _) (.nn _ _ _)⟩
  ·cases h
 ·cases h
def ctK {R : Type} (args : List V) (k : V → Tree R) : Tree R := match args with
 | [.str s, .str c] => .ite (decide (s.length ≤ 1000000)) (k (.tup [.str (Lib.cut s c).1, .str (Lib.cut s c).2.1, .c (.bool (Lib.cut s c).2.2)])) .fail
 | _ => .fail
theorem ct_ok {R : Type} : ∀ args (k : V → Tree R) res, (ctK args k).run = some res → ∃ r, (k r).run = some res ∧ r.plain = true ∧ (∀ l k, ex r ≠ .fresh l k) ∧ CallsV Tryz.prog 27 args r := by
 intro args k res h
 have hb : ∃ fn, Tryz.prog.funcs[27]? = some fn ∧ fn.name ≠ "runtime.NumGoroutine" ∧ fn.body ≠ none := hasBody Tryz.func27 (by decide +kernel) (by kernel_rfl)
 unfold ctK at h
 split at h
 ·rename_i s c
  rcases Tree.run_ite h with ⟨hs, h⟩ | ⟨_, h⟩
  ·have hs := of_decide_eq_true hs
   refine ⟨_, h, rfl, (fun l k h => by cases h), CallsK.toV (fun w B cargs _ hgl hlen hrel => ?_) hb⟩
   obtain ⟨a, b, rfl, h1, h2⟩ := rel_two hlen hrel
   have h1 := Rel.ofC h1
   have h2 := Rel.ofC h2
   subst h1 h2
   obtain ⟨m, hm⟩ := hgl.num 0 (by simp [globNum])
   have hsz : (ByteArray.mk s.toArray).size = s.length := by show s.toArray.size = _; simp
   have hl : (ByteArray.mk s.toArray).data.toList = s := by simp
   have hl2 : (ByteArray.mk c.toArray).data.toList = c := by simp
   have hc : Calls Tryz.prog 27 #[.string ⟨s.toArray⟩, .string ⟨c.toArray⟩] w _ := Any.strings_Cut Tryz.lays145 ⟨s.toArray⟩ ⟨c.toArray⟩ m w (by rw [hsz]; omega) (rel_num hm)
   rw [hl, hl2] at hc
   exact hc.mono fun e w' ⟨he, n, hw⟩ => ⟨_, he, by rw [hw]; exact below_drewN (Gr.refl w) n, rel_tup3V (.c _ _) (.c _ _) (.c _ _)⟩
  ·cases h
 ·cases h
def tpK {R : Type} (args : List V) (k : V → Tree R) : Tree R := match args with
 | [.str s, .str c] => k (.str (Lib.trimPrefix s c))
 | _ => .fail
theorem tp_ok {R : Type} : ∀ args (k : V → Tree R) res, (tpK args k).run = some res → ∃ r, (k r).run = some res ∧ r.plain = true ∧ (∀ l k, ex r ≠ .fresh l k) ∧ CallsV Tryz.prog 28 args r := by
 intro args k res h
 have hb : ∃ fn, Tryz.prog.funcs[28]? = some fn ∧ fn.name ≠ "runtime.NumGoroutine" ∧ fn.body ≠ none := hasBody Tryz.func28 (by decide +kernel) (by kernel_rfl)
 unfold tpK at h
 split at h
 ·rename_i s c
  refine ⟨_, h, rfl, (fun l k h => by cases h), CallsK.toV (fun w B cargs _ hgl hlen hrel => ?_) hb⟩
  obtain ⟨a, b, rfl, h1, h2⟩ := rel_two hlen hrel
  have h1 := Rel.ofC h1
  have h2 := Rel.ofC h2
  subst h1 h2
  have hl : (ByteArray.mk s.toArray).data.toList = s := by simp
  have hl2 : (ByteArray.mk c.toArray).data.toList = c := by simp
  have hc : Calls Tryz.prog 28 #[.string ⟨s.toArray⟩, .string ⟨c.toArray⟩] w _ := Any.strings_TrimPrefix Tryz.lays101 ⟨s.toArray⟩ ⟨c.toArray⟩ w
  rw [hl, hl2] at hc
  exact hc.mono fun e w' ⟨he, hw⟩ => ⟨_, he, hw ▸ Gr.refl _, .c _ _⟩
 ·cases h
end Go.Proofs.YtphkpiocblmpeaaGreatDoor
namespace Go.Proofs.YtphkpiocblmpeaaGreatDoor
set_option maxRecDepth 100000
open Go.RowKit
set_option linter.unusedVariables false
set_option linter.unusedSimpArgs false
theorem dec_small {n : Nat} (h : n < 10) : Lib.decDigits n = [UInt8.ofNat (48 + n)] := by rw [Lib.decDigits, dif_pos h]
theorem dec_big {n : Nat} (h : ¬ n < 10) : Lib.decDigits n = Lib.decDigits (n / 10) ++ [UInt8.ofNat (48 + n % 10)] := by rw [Lib.decDigits, dif_neg h]
theorem dig_nat {d : Nat} (h : d < 10) : (UInt8.ofNat (48 + d)).toNat = 48 + d := by
 have : (UInt8.ofNat (48 + d)).toNat = (48 + d) % 256 := by simp
 omega
def numD (a : Nat) : List UInt8 → Nat
 | [] => a
 | c :: r => numD (10 * a + (c.toNat - 48)) r
theorem numD_snoc : ∀ (l : List UInt8) (a : Nat) (c : UInt8), numD a (l ++ [c]) = 10 * numD a l + (c.toNat - 48)
 | [], a, c => rfl
 | d :: l, a, c => numD_snoc l _ c
theorem dec_all : ∀ n : Nat, (∀ c ∈ Lib.decDigits n, 48 ≤ c.toNat ∧ c.toNat ≤ 57) ∧ numD 0 (Lib.decDigits n) = n ∧ Lib.decDigits n ≠ [] := by
 intro n
 induction n using Nat.strongRecOn with
 | _ n ih =>
  by_cases h : n < 10
  ·rw [dec_small h]
   refine ⟨fun c hc => ?_, ?_, by simp⟩
   ·rw [List.mem_singleton] at hc; subst hc; rw [dig_nat h]; omega
   ·have e : numD 0 [UInt8.ofNat (48 + n)] = 10 * 0 + ((UInt8.ofNat (48 + n)).toNat - 48) := rfl
    rw [e, dig_nat h]; omega
  ·have hm : n % 10 < 10 := Nat.mod_lt _ (by omega)
   obtain ⟨i1, i2, i3⟩ := ih (n / 10) (by omega)
   rw [dec_big h]
   refine ⟨fun c hc => ?_, ?_, by simp⟩
   ·rcases List.mem_append.1 hc with hc | hc
    ·exact i1 c hc
    ·rw [List.mem_singleton] at hc; subst hc; rw [dig_nat hm]; omega
   ·rw [numD_snoc, i2, dig_nat hm]; omega
theorem dec_len {n : Nat} (h : n ≤ 9999) : (Lib.decDigits n).length ≤ 4 := by
 by_cases h1 : n < 10
 ·rw [dec_small h1]; simp
 ·rw [dec_big h1]
  by_cases h2 : n / 10 < 10
  ·rw [dec_small h2]; simp
  ·rw [dec_big h2]
   by_cases h3 : n / 10 / 10 < 10
   ·rw [dec_small h3]; simp
   ·rw [dec_big h3, dec_small (by omega : n / 10 / 10 / 10 < 10)]; simp
theorem numD_ge : ∀ (l : List UInt8) (a : Nat), a ≤ numD a l
 | [], a => Nat.le_refl _
 | c :: l, a => by
  have := numD_ge l (10 * a + (c.toNat - 48))
  show a ≤ numD (10 * a + (c.toNat - 48)) l
  omega
theorem parse_num : ∀ (l : List UInt8) (a : Nat), (∀ c ∈ l, 48 ≤ c.toNat ∧ c.toNat ≤ 57) → numD a l ≤ 9999 → Lib.parseUint10 a l = .ok (numD a l)
 | [], a, _, _ => rfl
 | c :: l, a, h, hn => by
  have hc := h c (by simp)
  have hge : 10 * a + (c.toNat - 48) ≤ 9999 := by
   have := numD_ge l (10 * a + (c.toNat - 48))
   have : numD a (c :: l) = numD (10 * a + (c.toNat - 48)) l := rfl
   omega
  unfold Lib.parseUint10
  rw [if_pos hc, if_neg (by omega), if_neg (by omega), show a * 10 + (c.toNat - 48) = 10 * a + (c.toNat - 48) by omega]
  exact parse_num l _ (fun d hd => h d (by simp [hd])) hn
theorem atoi_dec {n : Nat} (h : n ≤ 9999) : Lib.atoiAll (Lib.decDigits n) = .ok (n : Int) := by
 obtain ⟨h1, h2, h3⟩ := dec_all n
 generalize Lib.decDigits n = l at h1 h2 h3
 match l, h1, h2, h3 with
 | c :: r, h1, h2, _ =>
  have hc := h1 c (by simp)
  have hp : Lib.parseMag (c :: r) = .ok n := by
   unfold Lib.parseMag
   rw [if_neg (by simp), parse_num (c :: r) 0 h1 (by omega), h2]
  unfold Lib.atoiAll
  have e1 : ¬ (c.toNat = 43 ∨ c.toNat = 45) := by omega
  have e2 : ¬ (c.toNat = 45) := by omega
  have e3 : ¬ (9223372036854775808 ≤ n) := by omega
  show (match Lib.parseMag (if c.toNat = 43 ∨ c.toNat = 45 then r else c :: r) with
   | .syntax => Lib.NumEnd.syntax
   | .range => Lib.NumEnd.range
   | .ok u => if ¬ c.toNat = 45 ∧ 9223372036854775808 ≤ u then Lib.NumEnd.range else if c.toNat = 45 ∧ 9223372036854775808 < u then Lib.NumEnd.range else Lib.NumEnd.ok (if c.toNat = 45 then -(u : Int) else u)) = _
  rw [if_neg e1, hp]
  simp only
  rw [if_neg (by omega), if_neg (by omega), if_neg e2]
theorem itoa_dec (n : Nat) : Lib.itoa (n : Int) = Lib.decDigits n := by
 unfold Lib.itoa
 rw [if_neg (by omega)]
 rfl
theorem cut_at (p t r : List UInt8) (a : UInt8) (h : ∀ c ∈ p, c ≠ a) : Lib.cut (p ++ (a :: t) ++ r) (a :: t) = (p, r, true) := by
 have hi : Lib.index (p ++ (a :: t) ++ r) (a :: t) = (p.length : Int) := by
  refine Lib.index_first (by simp only [List.length_append]; omega) ?_ (fun j hj => ?_)
  ·unfold Lib.occAt
   rw [List.append_assoc, List.drop_left, List.isPrefixOf_iff_prefix]
   exact List.prefix_append _ _
  ·unfold Lib.occAt
   rw [List.append_assoc, List.drop_append_of_le_length (by omega), List.drop_eq_getElem_cons hj]
   have h1 := h _ (List.getElem_mem hj)
   show ((a == p[j]) && _) = false
   rw [show (a == p[j]) = false from beq_eq_false_iff_ne.2 (fun e => h1 e.symm)]
   rfl
 unfold Lib.cut
 rw [hi, if_pos (by omega), Int.toNat_natCast]
 refine congr (congrArg _ ?_) (congr (congrArg _ ?_) rfl)
 ·rw [List.append_assoc, List.take_left]
 ·rw [show p.length + (a :: t).length = (p ++ (a :: t)).length by simp, List.drop_left]
theorem trim_at (p r : List UInt8) : Lib.trimPrefix (p ++ r) p = r := by
 unfold Lib.trimPrefix Lib.hasPrefix
 rw [if_pos (List.isPrefixOf_iff_prefix.2 (List.prefix_append _ _)), List.drop_left]
theorem ofB_inj : ∀ {a b : List UInt8}, ofB a = ofB b → a = b
 | [], [], _ => rfl
 | [], y :: b, h => by simp [ofB] at h
 | x :: a, [], h => by simp [ofB] at h
 | x :: a, y :: b, h => by
  simp only [ofB, List.map_cons, List.cons.injEq] at h
  have h1 : x = y := UInt8.toNat_inj.1 (by omega)
  have h2 : a = b := ofB_inj (by unfold ofB; exact h.2)
  rw [h1, h2]
end Go.Proofs.YtphkpiocblmpeaaGreatDoor
namespace Go.Proofs.YtphkpiocblmpeaaGreatDoor
set_option maxRecDepth 100000
def leb : Nat → Nat → List UInt8
 | 0, _ => []
 | w + 1, n => UInt8.ofNat n :: leb w (n / 256)
def laid (w n : Nat) (little : Bool) : List UInt8 := if little then leb w n else (leb w n).reverse
def nle : List UInt8 → Nat
 | [] => 0
 | b :: r => b.toNat + 256 * nle r
def num (bs : List UInt8) (little : Bool) : Nat := if little then nle bs else nle bs.reverse
end Go.Proofs.YtphkpiocblmpeaaGreatDoor
namespace Go.Proofs.YtphkpiocblmpeaaGreatDoor
set_option maxRecDepth 100000
open Go.RowKit
set_option linter.unusedVariables false
def InW (n : Int) : Prop := 1 ≤ n ∧ n ≤ 8
instance (n : Int) : Decidable (InW n) := by unfold InW; infer_instance
def RetBE (w : World) (bs : List UInt8) (err : Int) (e : Ending) (w' : World) : Prop :=
 ∃ A n c, e = .returned (.tuple #[.slice A n c, .int .i64 err]) ∧ n ≤ c ∧ c ≤ maxLen ∧ RB w' A n bs ∧ Below w.heap.size w w'
theorem RetBE.of {w w' : World} {v : Value} {n : Nat} {bs : List UInt8} {base : Nat} {err : Int} (ho : OB w' base v n bs) (hb : Below w.heap.size w w') : RetBE w bs err (.returned (.tuple #[v, .int .i64 err])) w' := by
 obtain ⟨A, c, rfl, h1, h2, h3⟩ := ho.shape
 exact ⟨A, n, c, rfl, h1, h2, h3, hb⟩
theorem RetBE.nil (w : World) (err : Int) : RetBE w [] err (.returned (.tuple #[.slice none 0 0, .int .i64 err])) w :=
 ⟨none, 0, 0, rfl, Nat.le_refl _, by simp [maxLen], RB.nil _ _, Below.refl _ _⟩
def hv (c : UInt8) : Nat := if 48 ≤ c.toNat ∧ c.toNat ≤ 57 then c.toNat - 48 else if 65 ≤ c.toNat ∧ c.toNat ≤ 70 then c.toNat - 55 else if 97 ≤ c.toNat ∧ c.toNat ≤ 102 then c.toNat - 87 else 16
theorem hv_le (c : UInt8) : hv c ≤ 16 := by unfold hv; split <;> (try split) <;> (try split) <;> omega
theorem hv_cases (c : UInt8) : (c.toNat < 48 ∧ hv c = 16) ∨ (48 ≤ c.toNat ∧ c.toNat ≤ 57 ∧ hv c = c.toNat - 48) ∨ (57 < c.toNat ∧ c.toNat < 65 ∧ hv c = 16) ∨ (65 ≤ c.toNat ∧ c.toNat ≤ 70 ∧ hv c = c.toNat - 55) ∨
  (70 < c.toNat ∧ c.toNat < 97 ∧ hv c = 16) ∨ (97 ≤ c.toNat ∧ c.toNat ≤ 102 ∧ hv c = c.toNat - 87) ∨ (102 < c.toNat ∧ hv c = 16) := by
 unfold hv; split <;> (try split) <;> (try split) <;> omega
def unhexL : List UInt8 → Option (List UInt8)
 | [] => some []
 | [_] => none
 | a :: b :: r => if hv a < 16 ∧ hv b < 16 then (unhexL r).map (UInt8.ofNat (16 * hv a + hv b) :: ·) else none
set_option maxHeartbeats 1000000 in
theorem octs_worth (c : UInt8) (w : World) : Calls Tryz.prog 42 #[.int .u8 (c.toNat : Int)] w fun e w' => e = .returned (.int .u8 (hv c : Nat)) ∧ w = w' := by
 have hc := c.toNat_lt
 have HV := hv_cases c
 obtain ⟨v, hv'⟩ : ∃ v, v = hv c := ⟨_, rfl⟩
 obtain ⟨x, hx'⟩ : ∃ x, x = c.toNat := ⟨_, rfl⟩
 rw [← hv', ← hx'] at HV
 rw [← hx'] at hc
 rw [← hv', ← hx']
 clear hv' hx'
 rcases HV with ⟨h1, h2⟩ | ⟨h0, h1, h2⟩ | ⟨h0, h1, h2⟩ | ⟨h0, h1, h2⟩ | ⟨h0, h1, h2⟩ | ⟨h0, h1, h2⟩ | ⟨h1, h2⟩
 all_goals
  have H2 := Lib.hid h2; clear h2
  go_enter Tryz.func42, Tryz.ntmps42
  go_wp2
  go_ret
  exact ⟨ret_int (by rw [H2.out]; omega), rfl⟩
set_option maxHeartbeats 1000000 in
theorem ref_digit (c : UInt8) (w : World) : Calls Tryz.prog 45 #[.int .u8 (c.toNat : Int)] w fun e w' => e = .returned (.int .u8 (hv c : Nat)) ∧ w = w' := by
 have hc := c.toNat_lt
 have HV := hv_cases c
 obtain ⟨v, hv'⟩ : ∃ v, v = hv c := ⟨_, rfl⟩
 obtain ⟨x, hx'⟩ : ∃ x, x = c.toNat := ⟨_, rfl⟩
 rw [← hv', ← hx'] at HV
 rw [← hx'] at hc
 rw [← hv', ← hx']
 clear hv' hx'
 rcases HV with ⟨h1, h2⟩ | ⟨h0, h1, h2⟩ | ⟨h0, h1, h2⟩ | ⟨h0, h1, h2⟩ | ⟨h0, h1, h2⟩ | ⟨h0, h1, h2⟩ | ⟨h1, h2⟩
 all_goals
  have H2 := Lib.hid h2; clear h2
  go_enter Tryz.func45, Tryz.ntmps45
  go_wp2
  go_ret
  exact ⟨ret_int (by rw [H2.out]; omega), rfl⟩
theorem unhexL_odd : ∀ l : List UInt8, l.length % 2 = 1 → unhexL l = none
 | [], h => by simp at h
 | [_], _ => rfl
 | a :: b :: r, h => by
  have := unhexL_odd r (by simp at h; omega)
  simp [unhexL, this]
theorem drop_two {l : List UInt8} {i : Nat} {a b : UInt8} (ha : l[i]? = some a) (hb : l[i + 1]? = some b) : l.drop i = a :: b :: l.drop (i + 2) := by
 have h1 := (List.getElem?_eq_some_iff.1 ha).1
 have h2 := (List.getElem?_eq_some_iff.1 hb).1
 rw [List.drop_eq_getElem_cons h1, List.drop_eq_getElem_cons h2, (List.getElem?_eq_some_iff.1 ha).2, (List.getElem?_eq_some_iff.1 hb).2]
def UnhexAt (l : List UInt8) (i : Nat) (acc : List UInt8) : Prop := unhexL l = (unhexL (l.drop i)).map (acc ++ ·)
theorem UnhexAt.start (l : List UInt8) : UnhexAt l 0 [] := by simp [UnhexAt]
theorem UnhexAt.step {l acc : List UInt8} {i : Nat} {a b : UInt8} (h : UnhexAt l i acc) (ha : l[i]? = some a) (hb : l[i + 1]? = some b) (h1 : hv a < 16) (h2 : hv b < 16) :
  UnhexAt l (i + 2) (acc ++ [UInt8.ofNat (16 * hv a + hv b)]) := by
 unfold UnhexAt at h ⊢
 rw [h, drop_two ha hb, unhexL, if_pos ⟨h1, h2⟩, Option.map_map]
 congr 1
 funext r
 simp
theorem UnhexAt.bad {l acc : List UInt8} {i : Nat} {a b : UInt8} (h : UnhexAt l i acc) (ha : l[i]? = some a) (hb : l[i + 1]? = some b) (h1 : ¬ (hv a < 16 ∧ hv b < 16)) : unhexL l = none := by
 rw [h, drop_two ha hb, unhexL, if_neg h1]; rfl
theorem UnhexAt.last {l acc : List UInt8} {i : Nat} (h : UnhexAt l i acc) (hi : l.length ≤ i) : unhexL l = some acc := by
 rw [h, List.drop_of_length_le hi]; simp [unhexL]
def UnhexPost (l : List UInt8) (w : World) (e : Ending) (w' : World) : Prop :=
 Below w.heap.size w w' ∧ ((unhexL l = none ∧ e = .returned (.tuple #[.slice none 0 0, .int .i64 3])) ∨
  ∃ bs v, unhexL l = some bs ∧ e = .returned (.tuple #[v, .int .i64 0]) ∧ OB w' w.heap.size v bs.length bs)
theorem UnhexPost.no {l : List UInt8} {w w' : World} (h : unhexL l = none) (hb : Below w.heap.size w w') : UnhexPost l w (.returned (.tuple #[.slice none 0 0, .int .i64 3])) w' := ⟨hb, .inl ⟨h, rfl⟩⟩
theorem UnhexPost.yes {l bs : List UInt8} {v : Value} {n : Nat} {w w' : World} (h : unhexL l = some bs) (ho : OB w' w.heap.size v n bs) (hb : Below w.heap.size w w') :
  UnhexPost l w (.returned (.tuple #[v, .int .i64 0])) w' := ⟨hb, .inr ⟨bs, v, h, rfl, by rw [ho.len]; exact ho⟩⟩
theorem str_at {s : ByteArray} {k : Nat} {b : UInt8} (h : s.data.toList[k]? = some b) (w : World) :
  (Instr.index 9 (.string s) (.int .i64 (k : Int))).run Tryz.prog w = .ok (.int .u8 (b.toNat : Int)) w := by
 have hk : k < s.size := by
  have := (List.getElem?_eq_some_iff.1 h).1
  simpa using this
 rw [run_index_string (P := Tryz.prog) (w := w) _ _ _ _ Tryz.underlying9, dif_pos ⟨by omega, by omega⟩]
 have : s[k] = b := by
  have h2 := (List.getElem?_eq_some_iff.1 h).2
  rw [← h2]; rfl
 simp [this]
theorem str_at1 {s : ByteArray} {k : Nat} {b : UInt8} (h : s.data.toList[k + 1]? = some b) (w : World) :
  (Instr.index 9 (.string s) (.int .i64 ((k : Int) + 1))).run Tryz.prog w = .ok (.int .u8 (b.toNat : Int)) w := by
 have := str_at h w
 rwa [show (((k + 1 : Nat)) : Int) = (k : Int) + 1 by omega] at this
theorem str_some {s : ByteArray} {k : Nat} (h : k < s.size) : ∃ b : UInt8, s.data.toList[k]? = some b :=
 ⟨s.data.toList[k]'(by simpa using h), List.getElem?_eq_getElem _⟩
theorem u8_16 (a b : Nat) (ha : a < 16) (hb : b < 16) : (16 * (a : Int) + (b : Int)) = ((UInt8.ofNat (16 * a + b)).toNat : Int) := by
 rw [UInt8.toNat_ofNat']; omega
set_option maxHeartbeats 1000000 in
theorem ref_unhex (s : ByteArray) (w : World) (hs : s.size ≤ 1000000) :
  Calls Tryz.prog 32 #[.string s] w (UnhexPost s.data.toList w) := by
 have hl : s.data.toList.length = s.size := by rw [Array.length_toList]; rfl
 have Hl := Lib.hid hl; clear hl
 by_cases hodd : s.size % 2 = 1
 ·have Hno := Lib.hid (unhexL_odd s.data.toList (by rw [Hl.out]; exact hodd))
  have h1 : ((s.size : Int) % 2 != 0) = true := by simp; omega
  clear hodd
  go_enter Tryz.func32, Tryz.ntmps32
  go_wp2
  go_ret2
  exact UnhexPost.no Hno.out (Below.refl _ _)
 ·have h1 : ((s.size : Int) % 2 != 0) = false := by simp; omega
  have Hev := Lib.hid hodd; clear hodd
  go_enter Tryz.func32, Tryz.ntmps32
  go_wp2
  go_loopw [4, 5] (fun v i wr => ∃ (k : Nat) (acc : List UInt8), k ≤ s.size ∧ 2 * acc.length = k ∧ i = .int .i64 k ∧ OB wr w.heap.size v acc.length acc ∧ UnhexAt s.data.toList k acc ∧ Below w.heap.size w wr) (fun _ i _ => s.size - (intOf i).toNat)
  case atStart => exact ⟨0, [], Nat.zero_le _, rfl, rfl, OB.nil _ _, UnhexAt.start _, Below.refl _ _⟩
  case round =>
   obtain ⟨k, acc, hk, hka, rfl, hown, hat, hbel⟩ := hrel
   have Hown := Lib.hid hown; clear hown
   have Hka := Lib.hid hka; clear hka
   have Hat := Lib.hid hat; clear hat
   by_cases hlt : k < s.size
   ·have hlt1 : k + 1 < s.size := by have := Hev.out; have := Hka.out; omega
    obtain ⟨a, ha⟩ := str_some hlt
    obtain ⟨b, hb⟩ := str_some hlt1
    have hia := str_at ha
    have hib := str_at1 hb
    have Ha := Lib.hid ha; clear ha
    have Hb := Lib.hid hb; clear hb
    have ga := hv_le a
    have gb := hv_le b
    by_cases hgood : hv a < 16 ∧ hv b < 16
    ·obtain ⟨hga, hgb⟩ := hgood
     have Hst := Lib.hid (Hat.out.step Ha.out Hb.out hga hgb)
     have hsz := hbel.size
     go_wp2
     go_quiet ((go_at_call 45; exact quiet_left (ref_digit _ _)))
     have hz1 := u8_16 (hv a) (hv b) hga hgb
     obtain ⟨z, hz⟩ : ∃ z, z = UInt8.ofNat (16 * hv a + hv b) := ⟨_, rfl⟩
     rw [← hz] at hz1 Hst
     clear hz
     have h3 : acc.length + 1 ≤ 140737488355328 := by have := Hka.out; omega
     clear hia hib ga gb
     go_wp2_with (at_builtin; refine wpList_appb _ rfl (.tmp 33) (.tmp 38) rfl w.heap.size _ _ _ rfl ((Hown.out.drewN _).alloc _) _ _ _ _ rfl (RB.new1 _ z _ (by simp)) h3 (by simp; omega) ?_; intro v' w1 hown1 hg1 hat1; have Hown1 := Lib.hid hown1; clear hown1)
     go_roundw
     case rel =>
      refine ⟨k + 2, acc ++ [z], by omega, by rw [List.length_append, List.length_singleton]; have := Hka.out; omega, by go_num, by rw [List.length_append, List.length_singleton]; exact Hown1.out, Hst.out, ?_⟩
      exact ((below_drewN hbel _).alloc (by simp; omega) _).grown hg1 (by simp; omega) fun j hj => (Hown.out.lt j hj).1
     case measure => simp [intOf]; omega
    ·have Hbad := Lib.hid (Hat.out.bad Ha.out Hb.out hgood)
     by_cases hga : hv a < 16
     ·have hgb : 15 < hv b := by omega
      clear hgood
      go_wp2
      go_quiet ((go_at_call 45; exact quiet_left (ref_digit _ _)))
      go_wp2
      go_ret2
      exact UnhexPost.no Hbad.out (below_drewN hbel _)
     ·have hga' : 15 < hv a := by omega
      clear hgood
      go_wp2
      go_quiet ((go_at_call 45; exact quiet_left (ref_digit _ _)))
      go_wp2
      go_ret2
      exact UnhexPost.no Hbad.out (below_drewN hbel _)
   ·have Hlast := Lib.hid (Hat.out.last (by rw [Hl.out]; omega))
    go_wp2
    go_ret2
    exact UnhexPost.yes Hlast.out Hown.out hbel
theorem u8_shl' (a b : Nat) (ha : a < 16) (hb : b < 16) : bits .or .u8 ((a : Int) * 16) (b : Int) = ((UInt8.ofNat (16 * a + b)).toNat : Int) := by
 rw [show (a : Int) * 16 = ((a * 16 : Nat) : Int) by omega, u8_or_nat _ _ (by omega) (by omega), nat_join 4 _ _ (by omega) hb, UInt8.toNat_ofNat']
 omega
theorem u8_shl (a b : Nat) (ha : a < 16) (hb : b < 16) : bits .or .u8 (IntKind.u8.wrap ((a : Int) * 16)) (b : Int) = ((UInt8.ofNat (16 * a + b)).toNat : Int) := by
 rw [IntKind.wrap_u8, Int.emod_eq_of_lt (by omega) (by omega), show (a : Int) * 16 = ((a * 16 : Nat) : Int) by omega, u8_or_nat _ _ (by omega) (by omega),
  nat_join 4 _ _ (by omega) hb, UInt8.toNat_ofNat']
 omega
set_option maxHeartbeats 2000000 in
set_option maxRecDepth 100000 in
theorem octs_unhex (s : ByteArray) (w : World) (hs : s.size ≤ 1000000) :
  Calls Tryz.prog 29 #[.string s] w (UnhexPost s.data.toList w) := by
 have hl : s.data.toList.length = s.size := by rw [Array.length_toList]; rfl
 have Hl := Lib.hid hl; clear hl
 by_cases hodd : s.size % 2 = 1
 ·have Hno := Lib.hid (unhexL_odd s.data.toList (by rw [Hl.out]; exact hodd))
  have h1 : ((s.size : Int) % 2 != 0) = true := by simp; omega
  clear hodd
  go_enter Tryz.func29, Tryz.ntmps29
  go_wp2
  go_step3
  go_wp2
  rw [Exit.noGoto_ret]
  go_ret2
  exact UnhexPost.no Hno.out (Below.refl _ _)
 ·have h1 : ((s.size : Int) % 2 != 0) = false := by simp; omega
  have Hev := Lib.hid hodd; clear hodd
  have hmk := mk_bytes 0 ((s.size : Int) / 2) (by omega) (by omega) (by omega)
  have hown0 := OB.made w w.heap.size 0 (s.size / 2) (by omega) (by simp only [maxLen]; omega) (Nat.le_refl _)
  have hbel0 := (Below.refl w.heap.size w).alloc (Nat.le_refl _) (.cells (madeCells #[.int .u8 0] (s.size / 2)) 5)
  go_enter Tryz.func29, Tryz.ntmps29
  go_wp2
  refine wp_scope_jumps 0 (fun a' wr => ∃ (k : Nat) (acc : List UInt8) (v u6 u7 u8 u9 u10 u11 u12 u13 u14 u15 u16 u17 u18 u19 u20 u21 u22 u23 u24 u25 u26 u27 u28 u29 u30 u31 u32 u33 u34 u35 u36 u37 u38 u39 u40 u41 u42 u43 u44 : Value), a' = { tmps := #[.string s, undef, .slice none 0 0, .int .i64 0, v, .int .i64 (k : Int), u6, u7, u8, u9, u10, u11, u12, u13, u14, u15, u16, u17, u18, u19, u20, u21, u22, u23, u24, u25, u26, u27, u28, u29, u30, u31, u32, u33, u34, u35, u36, u37, u38, u39, u40, u41, u42, u43, u44], defers := [] } ∧
   k ≤ s.size ∧ 2 * acc.length = k ∧ OB wr w.heap.size v acc.length acc ∧ UnhexAt s.data.toList k acc ∧ Below w.heap.size w wr) (fun a' _ => s.size - (intOf (a'.tmps.getD 5 undef)).toNat) rfl ?_ ?_
  ·have Hown0 := Lib.hid hown0
   have Hbel0 := Lib.hid hbel0
   clear hown0 hbel0
   by_cases hlt : 0 < s.size
   ·have hlt1 : 0 + 1 < s.size := by have := Hev.out;  omega
    have hne : ((0 : Int) == (s.size : Int)) = false := by simp; omega
    obtain ⟨a, ha⟩ := str_some hlt
    obtain ⟨b, hb⟩ := str_some hlt1
    have hia : ∀ w, (Instr.index 9 (.string s) (.int .i64 0)).run Tryz.prog w = .ok (.int .u8 (a.toNat : Int)) w := str_at ha
    have hib : ∀ w, (Instr.index 9 (.string s) (.int .i64 1)).run Tryz.prog w = .ok (.int .u8 (b.toNat : Int)) w := str_at1 hb
    have Ha := Lib.hid ha; clear ha
    have Hb := Lib.hid hb; clear hb
    have ga := hv_le a
    have gb := hv_le b
    by_cases hgood : hv a < 16 ∧ hv b < 16
    ·obtain ⟨hga, hgb⟩ := hgood
     have Hst := Lib.hid ((UnhexAt.start s.data.toList).step Ha.out Hb.out hga hgb)
     skip
     have hz1 := u8_shl (hv a) (hv b) hga hgb
     have hz2 := u8_shl' (hv a) (hv b) hga hgb
     have e1 : ((hv a : Int) == 16) = false := by simp; omega
     have e2 : ((hv b : Int) == 16) = false := by simp; omega
     obtain ⟨z, hz⟩ : ∃ z, z = UInt8.ofNat (16 * hv a + hv b) := ⟨_, rfl⟩
     rw [← hz] at hz1 hz2 Hst
     clear hz
     go_wp2
     go_step3
     go_wp2
     go_quiet ((go_at_call 42; exact quiet_left (octs_worth _ _)))
     clear hia hib ga gb
     go_wp2_with (at_builtin; refine wpList_appb _ rfl (.tmp 36) (.tmp 41) rfl w.heap.size _ _ _ rfl ((Hown0.out.drewN _).alloc _) _ _ _ _ rfl (RB.new1 _ z _ (by simp)) (by omega) (by simp; omega) ?_; intro v' w1 hown1 hg1 hat1; have Hown1 := Lib.hid hown1; clear hown1)
     go_step3
     refine ⟨rfl, 2, [z], v', _, _, _, _, _, _, _, _, _, _, _, _, _, _, _, _, _, _, _, _, _, _, _, _, _, _, _, _, _, _, _, _, _, _, _, _, _, _, _, rfl, by omega, rfl, Hown1.out, Hst.out, ?_⟩
     exact ((below_drewN Hbel0.out _).alloc (by simp) _).grown hg1 (by simp; omega) fun j hj => (Hown0.out.lt j hj).1
    ·have Hbad := Lib.hid ((UnhexAt.start s.data.toList).bad Ha.out Hb.out hgood)
     by_cases hga : hv a < 16
     ·have hgb : hv b = 16 := by omega
      have e1 : ((hv a : Int) == 16) = false := by simp; omega
      have e2 : ((hv b : Int) == 16) = true := by simp; omega
      clear hgood hgb
      go_wp2
      go_step3
      go_wp2
      go_quiet ((go_at_call 42; exact quiet_left (octs_worth _ _)))
      go_wp2
      simp only [Exit.jump]
      go_ret2
      exact UnhexPost.no Hbad.out (below_drewN Hbel0.out _)
     ·have e1 : ((hv a : Int) == 16) = true := by simp; omega
      clear hgood
      go_wp2
      go_step3
      go_wp2
      go_quiet ((go_at_call 42; exact quiet_left (octs_worth _ _)))
      go_wp2
      simp only [Exit.jump]
      go_ret2
      exact UnhexPost.no Hbad.out (below_drewN Hbel0.out _)
   ·have hne : ((0 : Int) == (s.size : Int)) = true := by simp; omega
    have Hlast := Lib.hid ((UnhexAt.start s.data.toList).last (by rw [Hl.out]; omega))
    go_wp2
    go_step3
    go_wp2
    simp only [Exit.jump]
    go_ret2
    exact UnhexPost.yes Hlast.out Hown0.out Hbel0.out
  ·rintro a' wr ⟨k, acc, v, u6, u7, u8, u9, u10, u11, u12, u13, u14, u15, u16, u17, u18, u19, u20, u21, u22, u23, u24, u25, u26, u27, u28, u29, u30, u31, u32, u33, u34, u35, u36, u37, u38, u39, u40, u41, u42, u43, u44, rfl, hk, hka, hown, hat, hbel⟩
   have Hown := Lib.hid hown; clear hown
   have Hka := Lib.hid hka; clear hka
   have Hat := Lib.hid hat; clear hat
   clear hmk hown0 hbel0
   by_cases hlt : k < s.size
   ·have hlt1 : k + 1 < s.size := by have := Hev.out; have := Hka.out; omega
    have hne : ((k : Int) == (s.size : Int)) = false := by simp; omega
    obtain ⟨a, ha⟩ := str_some hlt
    obtain ⟨b, hb⟩ := str_some hlt1
    have hia  := str_at ha
    have hib  := str_at1 hb
    have Ha := Lib.hid ha; clear ha
    have Hb := Lib.hid hb; clear hb
    have ga := hv_le a
    have gb := hv_le b
    by_cases hgood : hv a < 16 ∧ hv b < 16
    ·obtain ⟨hga, hgb⟩ := hgood
     have Hst := Lib.hid (Hat.out.step Ha.out Hb.out hga hgb)
     have hsz := hbel.size
     have h3 : acc.length + 1 ≤ 140737488355328 := by have := Hka.out; omega
     have hz1 := u8_shl (hv a) (hv b) hga hgb
     have hz2 := u8_shl' (hv a) (hv b) hga hgb
     have e1 : ((hv a : Int) == 16) = false := by simp; omega
     have e2 : ((hv b : Int) == 16) = false := by simp; omega
     obtain ⟨z, hz⟩ : ∃ z, z = UInt8.ofNat (16 * hv a + hv b) := ⟨_, rfl⟩
     rw [← hz] at hz1 hz2 Hst
     clear hz
     go_wp2
     go_quiet ((go_at_call 42; exact quiet_left (octs_worth _ _)))
     clear hia hib ga gb
     go_wp2_with (at_builtin; refine wpList_appb _ rfl (.tmp 36) (.tmp 41) rfl w.heap.size _ _ _ rfl ((Hown.out.drewN _).alloc _) _ _ _ _ rfl (RB.new1 _ z _ (by simp)) h3 (by simp; omega) ?_; intro v' w1 hown1 hg1 hat1; have Hown1 := Lib.hid hown1; clear hown1)
     go_step3
     refine ⟨rfl, ⟨k + 2, acc ++ [z], v', _, _, _, _, _, _, _, _, _, _, _, _, _, _, _, _, _, _, _, _, _, _, _, _, _, _, _, _, _, _, _, _, _, _, _, _, _, _, _, rfl, by omega, by rw [List.length_append, List.length_singleton]; have := Hka.out; omega, by rw [List.length_append, List.length_singleton]; exact Hown1.out, Hst.out, ?_⟩, by simp [intOf]; omega⟩
     exact ((below_drewN hbel _).alloc (by simp; omega) _).grown hg1 (by simp; omega) fun j hj => (Hown.out.lt j hj).1
    ·have Hbad := Lib.hid (Hat.out.bad Ha.out Hb.out hgood)
     by_cases hga : hv a < 16
     ·have hgb : hv b = 16 := by omega
      have e1 : ((hv a : Int) == 16) = false := by simp; omega
      have e2 : ((hv b : Int) == 16) = true := by simp; omega
      clear hgood hgb
      go_wp2
      go_quiet ((go_at_call 42; exact quiet_left (octs_worth _ _)))
      go_wp2
      simp only [Exit.jump]
      go_ret2
      exact UnhexPost.no Hbad.out (below_drewN hbel _)
     ·have e1 : ((hv a : Int) == 16) = true := by simp; omega
      clear hgood
      go_wp2
      go_quiet ((go_at_call 42; exact quiet_left (octs_worth _ _)))
      go_wp2
      simp only [Exit.jump]
      go_ret2
      exact UnhexPost.no Hbad.out (below_drewN hbel _)
   ·have hne : ((k : Int) == (s.size : Int)) = true := by simp; omega
    have Hlast := Lib.hid (Hat.out.last (by rw [Hl.out]; omega))
    go_wp2
    simp only [Exit.jump]
    go_ret2
    exact UnhexPost.yes Hlast.out Hown.out hbel
def unhexErr (l : List UInt8) : Int := if (unhexL l).isSome then 0 else 3
theorem UnhexPost.ret {l : List UInt8} {w w' : World} {e : Ending} (h : UnhexPost l w e w') : RetBE w ((unhexL l).getD []) (unhexErr l) e w' := by
 obtain ⟨hb, ⟨h1, rfl⟩ | ⟨bs, v, h1, rfl, ho⟩⟩ := h
 ·rw [unhexErr, h1]
  exact ⟨none, 0, 0, rfl, Nat.le_refl _, by simp [maxLen], RB.nil _ _, hb⟩
 ·rw [unhexErr, h1]
  exact RetBE.of ho hb
end Go.Proofs.YtphkpiocblmpeaaGreatDoor
namespace Go.Proofs.YtphkpiocblmpeaaGreatDoor
set_option maxRecDepth 100000
open Go.RowKit
set_option linter.unusedVariables false
set_option linter.unusedSimpArgs false
def unhexR (s : List UInt8) : List Int := ofB ((unhexL s).getD [])
def unhexE (s : List UInt8) : Int := if (unhexL s).isSome then 0 else 3
def uhK {R : Type} (args : List V) (k : V → Tree R) : Tree R := match args with
 | [.str s] => .ite (decide (s.length ≤ 1000000)) (k (.tup [.lst (.int .u8) (unhexR s), .c (.int .i64 (unhexE s))])) .fail
 | _ => .fail
theorem rel_own {w : World} {B : List Nat} {base n : Nat} {v : Value} {bs : List UInt8} (hB : ∀ b ∈ B, b < base) (h : OB w base v n bs) : Rel w B [] (.sl (flat (.int .u8) (ofB bs)) 1) v := by
 have hlen : (flat (.int .u8) (ofB bs)).length = bs.length := by rw [flat_length, ofB_length, show wd (.int .u8) = 1 by kernel_rfl, Nat.mul_one]
 have hl := h.len
 rcases h.2 with ⟨rfl, h0⟩ | ⟨g, cap, cur, rfl, hb, hg, h1, h2, h3, h4⟩
 ·have : bs = [] := List.eq_nil_of_length_eq_zero (by omega)
  subst this
  exact rel_nil_sl (Nat.le_refl 1) (.c _ _)
 ·refine .sl _ _ _ _ _ _ (fun j => .int .u8 ((bs.getD j 0).toNat : Int)) (Nat.le_refl 1) (by rw [hlen]; omega) h1 h2 (fun _ => ⟨_, rfl, rfl, (Array.getElem?_eq_some_iff.1 hg).1, fun hc => by have := hB _ hc; simp only at this; omega, fun j hj => ?_⟩) (fun j x hx => ?_)
  ·rw [hlen] at hj
   have e : (⟨g, 0, none⟩ : Addr).add j = ⟨g, j, none⟩ := by simp [Addr.add]; omega
   rw [e, cell_of_row w g j cur 5 (0, 0) hg]
   have : (cur.toList.take (n * 1))[j]? = some (.int .u8 ((bs.getD j 0).toNat : Int)) := by
    rw [h4, List.getElem?_map, List.getElem?_eq_getElem hj, List.getD_eq_getElem?_getD, List.getElem?_eq_getElem hj]
    rfl
   rw [List.getElem?_take, if_pos (by omega)] at this
   simpa using this
  ·rw [flat_u8, ofB, List.map_map, List.getElem?_map, Option.map_eq_some_iff] at hx
   obtain ⟨b, hb1, rfl⟩ := hx
   rw [List.getD_eq_getElem?_getD, hb1]
   exact .c _ _
theorem rel_tup2v {w : World} {B : List Nat} {x y : Value} {a b : AV} (h1 : Rel w B [] a x) (h2 : Rel w B [] b y) : Rel w B [] (.tup [a, b]) (.tuple #[x, y]) :=
 .tup _ _ _ (fun i => [x, y].getD i undef) rfl (fun i z hz => by
  match i, hz with
  | 0, _ => rfl
  | 1, _ => rfl) (fun i z hz => by
  match i, hz with
  | 0, hz => simp at hz; subst hz; exact h1
  | 1, hz => simp at hz; subst hz; exact h2)
theorem uh_post {w : World} {B : List Nat} {s : List UInt8} {e : Ending} {w' : World} (hB : ∀ b ∈ B, b < w.heap.size) (h : UnhexPost s w e w') : ∃ v, e = .returned v ∧ Gr w w' ∧ Rel w' B [] (ex (.tup [.lst (.int .u8) (unhexR s), .c (.int .i64 (unhexE s))])) v := by
 obtain ⟨hb, ⟨h1, rfl⟩ | ⟨bs, v, h1, rfl, ho⟩⟩ := h
 ·refine ⟨_, rfl, hb, rel_tup2v ?_ ?_⟩
  ·unfold unhexR; rw [h1]; exact rel_nil_sl (Nat.le_refl 1) (.c _ _)
  ·unfold unhexE; rw [h1]; exact .c _ _
 ·refine ⟨_, rfl, hb, rel_tup2v ?_ ?_⟩
  ·unfold unhexR; rw [h1]; exact rel_own hB ho
  ·unfold unhexE; rw [h1]; exact .c _ _
theorem uh_any {R : Type} {f : FuncId} (hf : ∃ fn, Tryz.prog.funcs[f]? = some fn ∧ fn.name ≠ "runtime.NumGoroutine" ∧ fn.body ≠ none) (hc : ∀ (s : ByteArray) (w : World), s.size ≤ 1000000 → Calls Tryz.prog f #[.string s] w (UnhexPost s.data.toList w)) :
  ∀ args (k : V → Tree R) res, (uhK args k).run = some res → ∃ r, (k r).run = some res ∧ r.plain = true ∧ (∀ l k, ex r ≠ .fresh l k) ∧ CallsV Tryz.prog f args r := by
 intro args k res h
 unfold uhK at h
 split at h
 ·rename_i s
  rcases Tree.run_ite h with ⟨hs, h⟩ | ⟨_, h⟩
  ·refine ⟨_, h, rfl, (fun l k h => by cases h), CallsK.toV (fun w B cargs hB hgl hlen hrel => ?_) hf⟩
   obtain ⟨a, rfl, h2⟩ := rel_one hlen hrel
   have h2 := Rel.ofC h2
   subst h2
   have hl : (ByteArray.mk s.toArray).data.toList = s := by simp
   have hsz : (ByteArray.mk s.toArray).size = s.length := by show s.toArray.size = _; simp
   have := hc ⟨s.toArray⟩ w (by rw [hsz]; exact of_decide_eq_true hs)
   rw [hl] at this
   exact this.mono fun e w' hp => uh_post hB hp
  ·cases h
 ·cases h
theorem uh_ok {R : Type} : ∀ args (k : V → Tree R) res, (uhK args k).run = some res → ∃ r, (k r).run = some res ∧ r.plain = true ∧ (∀ l k, ex r ≠ .fresh l k) ∧ CallsV Tryz.prog 29 args r :=
 uh_any (hasBody Tryz.func29 (by decide +kernel) (by kernel_rfl)) octs_unhex
theorem ruh_ok {R : Type} : ∀ args (k : V → Tree R) res, (uhK args k).run = some res → ∃ r, (k r).run = some res ∧ r.plain = true ∧ (∀ l k, ex r ≠ .fresh l k) ∧ CallsV Tryz.prog 32 args r :=
 uh_any (hasBody Tryz.func32 (by decide +kernel) (by kernel_rfl)) ref_unhex
end Go.Proofs.YtphkpiocblmpeaaGreatDoor
namespace Go.Proofs.YtphkpiocblmpeaaGreatDoor
open Go.RowKit
set_option linter.unusedVariables false
set_option maxRecDepth 100000
section
variable (N : Nat)
theorem hmx : Tryz.prog.follows .mixedOrders = true := by kernel_rfl
noncomputable def Ev0 (N : Nat) : (R : Type) → Env R := Env.addInl env0 [33, 143, 142, 118, 119, 100, 136]
theorem Ev0_ok (R : Type) : EnvOK Tryz.prog (Ev0 N R) := EnvOK.addInl (env0_ok R) (by kernel_rfl)
noncomputable def Ev1 : (R : Type) → Env R := Env.addMv (Ev0 N) [(118, 3)]
theorem Ev1_ok (R : Type) : EnvOK Tryz.prog (Ev1 N R) := EnvOK.addMv (Ev0_ok N R) [(118, 3)]
noncomputable def Ev2 : (R : Type) → Env R := Env.addMv (Ev1 N) [(136, 4)]
theorem Ev2_ok (R : Type) : EnvOK Tryz.prog (Ev2 N R) := EnvOK.addMv (Ev1_ok N R) [(136, 4)]
noncomputable def roots_may (N : Nat) (n0 : Int) (degree1 : Int) (bits2 : Int) : Option Bool :=
 Option.bind (bif (decide ((0 : Int) ≤ n0)) then
   some ((cond true (decide (n0 ≤ (1000 : Int))) false))
  else
   some (false)) fun (v4 : Bool) =>
 Option.bind (bif v4 then
   bif (decide (degree1 = (2 : Int))) then
    some ((cond true true false))
   else
    some ((cond true (cond false true (decide (degree1 = (3 : Int)))) false))
  else
   some (false)) fun (v5 : Bool) =>
 Option.bind (bif v5 then
   some ((cond true (decide ((0 : Int) ≤ bits2)) false))
  else
   some (false)) fun (v6 : Bool) =>
 Option.bind (bif v6 then
   some ((cond true (decide (bits2 ≤ (32 : Int))) false))
  else
   some (false)) fun (v7 : Bool) =>
 some (v7)
theorem roots_may_S (n0 : Int) (degree1 : Int) (bits2 : Int) : (runK Tryz.prog (Ev2 N) 400 114 [(.int .i64), (.int .i64), (.int .i64)] [.bool] (n0, degree1, bits2, ())).run = roots_may N n0 degree1 bits2 := by kernel_rfl
noncomputable def Ev3 : (R : Type) → Env R := Env.addFn (Ev2 N) 114 (fun R => fnK [(.int .i64), (.int .i64), (.int .i64)] [.bool] (fun c => roots_may N c.1 c.2.1 c.2.2.1))
theorem Ev3_ok (R : Type) : EnvOK Tryz.prog (Ev3 N R) := EnvOK.addFn hmx (Ev2_ok N R) (Ev2_ok N _) (by kernel_rfl) (fun c => roots_may_S N c.1 c.2.1 c.2.2.1)
noncomputable def math_bits_Mul64 (N : Nat) (x0 : Int) (y1 : Int) : Option (Int × Int) :=
 some (((IntKind.wrap .u64 ((IntKind.wrap .u64 ((IntKind.wrap .u64 ((@Int.fdiv x0 ((2 : Int) ^ (min (Int.toNat (32 : Int)) (IntKind.bits .u64)))) * (@Int.fdiv y1 ((2 : Int) ^ (min (Int.toNat (32 : Int)) (IntKind.bits .u64)))))) + (@Int.fdiv (IntKind.wrap .u64 ((IntKind.wrap .u64 ((@Int.fdiv x0 ((2 : Int) ^ (min (Int.toNat (32 : Int)) (IntKind.bits .u64)))) * (bits .and .u64 y1 (4294967295 : Int)))) + (@Int.fdiv (IntKind.wrap .u64 ((bits .and .u64 x0 (4294967295 : Int)) * (bits .and .u64 y1 (4294967295 : Int)))) ((2 : Int) ^ (min (Int.toNat (32 : Int)) (IntKind.bits .u64)))))) ((2 : Int) ^ (min (Int.toNat (32 : Int)) (IntKind.bits .u64)))))) + (@Int.fdiv (IntKind.wrap .u64 ((bits .and .u64 (IntKind.wrap .u64 ((IntKind.wrap .u64 ((@Int.fdiv x0 ((2 : Int) ^ (min (Int.toNat (32 : Int)) (IntKind.bits .u64)))) * (bits .and .u64 y1 (4294967295 : Int)))) + (@Int.fdiv (IntKind.wrap .u64 ((bits .and .u64 x0 (4294967295 : Int)) * (bits .and .u64 y1 (4294967295 : Int)))) ((2 : Int) ^ (min (Int.toNat (32 : Int)) (IntKind.bits .u64)))))) (4294967295 : Int)) + (IntKind.wrap .u64 ((bits .and .u64 x0 (4294967295 : Int)) * (@Int.fdiv y1 ((2 : Int) ^ (min (Int.toNat (32 : Int)) (IntKind.bits .u64)))))))) ((2 : Int) ^ (min (Int.toNat (32 : Int)) (IntKind.bits .u64)))))), (IntKind.wrap .u64 (x0 * y1))))
theorem math_bits_Mul64_S (x0 : Int) (y1 : Int) : (runK Tryz.prog (Ev3 N) 400 141 [(.int .u64), (.int .u64)] [(.int .u64), (.int .u64)] (x0, y1, ())).run = math_bits_Mul64 N x0 y1 := by kernel_rfl
noncomputable def Ev4 : (R : Type) → Env R := Env.addFn (Ev3 N) 141 (fun R => fnK [(.int .u64), (.int .u64)] [(.int .u64), (.int .u64)] (fun c => math_bits_Mul64 N c.1 c.2.1))
theorem Ev4_ok (R : Type) : EnvOK Tryz.prog (Ev4 N R) := EnvOK.addFn hmx (Ev3_ok N R) (Ev3_ok N _) (by kernel_rfl) (fun c => math_bits_Mul64_S N c.1 c.2.1)
noncomputable def roots_power (N : Nat) (x0 : Int) (degree1 : Int) : Option (Int × Int) :=
 bif (decide (degree1 = (2 : Int))) then
  some (((IntKind.wrap .u64 ((IntKind.wrap .u64 ((IntKind.wrap .u64 ((@Int.fdiv x0 ((2 : Int) ^ (min (Int.toNat (32 : Int)) (IntKind.bits .u64)))) * (@Int.fdiv x0 ((2 : Int) ^ (min (Int.toNat (32 : Int)) (IntKind.bits .u64)))))) + (@Int.fdiv (IntKind.wrap .u64 ((IntKind.wrap .u64 ((@Int.fdiv x0 ((2 : Int) ^ (min (Int.toNat (32 : Int)) (IntKind.bits .u64)))) * (bits .and .u64 x0 (4294967295 : Int)))) + (@Int.fdiv (IntKind.wrap .u64 ((bits .and .u64 x0 (4294967295 : Int)) * (bits .and .u64 x0 (4294967295 : Int)))) ((2 : Int) ^ (min (Int.toNat (32 : Int)) (IntKind.bits .u64)))))) ((2 : Int) ^ (min (Int.toNat (32 : Int)) (IntKind.bits .u64)))))) + (@Int.fdiv (IntKind.wrap .u64 ((bits .and .u64 (IntKind.wrap .u64 ((IntKind.wrap .u64 ((@Int.fdiv x0 ((2 : Int) ^ (min (Int.toNat (32 : Int)) (IntKind.bits .u64)))) * (bits .and .u64 x0 (4294967295 : Int)))) + (@Int.fdiv (IntKind.wrap .u64 ((bits .and .u64 x0 (4294967295 : Int)) * (bits .and .u64 x0 (4294967295 : Int)))) ((2 : Int) ^ (min (Int.toNat (32 : Int)) (IntKind.bits .u64)))))) (4294967295 : Int)) + (IntKind.wrap .u64 ((bits .and .u64 x0 (4294967295 : Int)) * (@Int.fdiv x0 ((2 : Int) ^ (min (Int.toNat (32 : Int)) (IntKind.bits .u64)))))))) ((2 : Int) ^ (min (Int.toNat (32 : Int)) (IntKind.bits .u64)))))), (IntKind.wrap .u64 (x0 * x0))))
 else
  some (((IntKind.wrap .u64 ((IntKind.wrap .u64 ((IntKind.wrap .u64 ((IntKind.wrap .u64 ((IntKind.wrap .u64 ((@Int.fdiv x0 ((2 : Int) ^ (min (Int.toNat (32 : Int)) (IntKind.bits .u64)))) * (@Int.fdiv x0 ((2 : Int) ^ (min (Int.toNat (32 : Int)) (IntKind.bits .u64)))))) + (@Int.fdiv (IntKind.wrap .u64 ((IntKind.wrap .u64 ((@Int.fdiv x0 ((2 : Int) ^ (min (Int.toNat (32 : Int)) (IntKind.bits .u64)))) * (bits .and .u64 x0 (4294967295 : Int)))) + (@Int.fdiv (IntKind.wrap .u64 ((bits .and .u64 x0 (4294967295 : Int)) * (bits .and .u64 x0 (4294967295 : Int)))) ((2 : Int) ^ (min (Int.toNat (32 : Int)) (IntKind.bits .u64)))))) ((2 : Int) ^ (min (Int.toNat (32 : Int)) (IntKind.bits .u64)))))) + (@Int.fdiv (IntKind.wrap .u64 ((bits .and .u64 (IntKind.wrap .u64 ((IntKind.wrap .u64 ((@Int.fdiv x0 ((2 : Int) ^ (min (Int.toNat (32 : Int)) (IntKind.bits .u64)))) * (bits .and .u64 x0 (4294967295 : Int)))) + (@Int.fdiv (IntKind.wrap .u64 ((bits .and .u64 x0 (4294967295 : Int)) * (bits .and .u64 x0 (4294967295 : Int)))) ((2 : Int) ^ (min (Int.toNat (32 : Int)) (IntKind.bits .u64)))))) (4294967295 : Int)) + (IntKind.wrap .u64 ((bits .and .u64 x0 (4294967295 : Int)) * (@Int.fdiv x0 ((2 : Int) ^ (min (Int.toNat (32 : Int)) (IntKind.bits .u64)))))))) ((2 : Int) ^ (min (Int.toNat (32 : Int)) (IntKind.bits .u64)))))) * x0)) + (IntKind.wrap .u64 ((IntKind.wrap .u64 ((IntKind.wrap .u64 ((@Int.fdiv (IntKind.wrap .u64 (x0 * x0)) ((2 : Int) ^ (min (Int.toNat (32 : Int)) (IntKind.bits .u64)))) * (@Int.fdiv x0 ((2 : Int) ^ (min (Int.toNat (32 : Int)) (IntKind.bits .u64)))))) + (@Int.fdiv (IntKind.wrap .u64 ((IntKind.wrap .u64 ((@Int.fdiv (IntKind.wrap .u64 (x0 * x0)) ((2 : Int) ^ (min (Int.toNat (32 : Int)) (IntKind.bits .u64)))) * (bits .and .u64 x0 (4294967295 : Int)))) + (@Int.fdiv (IntKind.wrap .u64 ((bits .and .u64 (IntKind.wrap .u64 (x0 * x0)) (4294967295 : Int)) * (bits .and .u64 x0 (4294967295 : Int)))) ((2 : Int) ^ (min (Int.toNat (32 : Int)) (IntKind.bits .u64)))))) ((2 : Int) ^ (min (Int.toNat (32 : Int)) (IntKind.bits .u64)))))) + (@Int.fdiv (IntKind.wrap .u64 ((bits .and .u64 (IntKind.wrap .u64 ((IntKind.wrap .u64 ((@Int.fdiv (IntKind.wrap .u64 (x0 * x0)) ((2 : Int) ^ (min (Int.toNat (32 : Int)) (IntKind.bits .u64)))) * (bits .and .u64 x0 (4294967295 : Int)))) + (@Int.fdiv (IntKind.wrap .u64 ((bits .and .u64 (IntKind.wrap .u64 (x0 * x0)) (4294967295 : Int)) * (bits .and .u64 x0 (4294967295 : Int)))) ((2 : Int) ^ (min (Int.toNat (32 : Int)) (IntKind.bits .u64)))))) (4294967295 : Int)) + (IntKind.wrap .u64 ((bits .and .u64 (IntKind.wrap .u64 (x0 * x0)) (4294967295 : Int)) * (@Int.fdiv x0 ((2 : Int) ^ (min (Int.toNat (32 : Int)) (IntKind.bits .u64)))))))) ((2 : Int) ^ (min (Int.toNat (32 : Int)) (IntKind.bits .u64)))))))), (IntKind.wrap .u64 ((IntKind.wrap .u64 (x0 * x0)) * x0))))
theorem roots_power_S (x0 : Int) (degree1 : Int) : (runK Tryz.prog (Ev4 N) 400 133 [(.int .u64), (.int .i64)] [(.int .u64), (.int .u64)] (x0, degree1, ())).run = roots_power N x0 degree1 := by kernel_rfl
noncomputable def Ev5 : (R : Type) → Env R := Env.addFn (Ev4 N) 133 (fun R => fnK [(.int .u64), (.int .i64)] [(.int .u64), (.int .u64)] (fun c => roots_power N c.1 c.2.1))
theorem Ev5_ok (R : Type) : EnvOK Tryz.prog (Ev5 N R) := EnvOK.addFn hmx (Ev4_ok N R) (Ev4_ok N _) (by kernel_rfl) (fun c => roots_power_S N c.1 c.2.1)
noncomputable def roots_shifted (N : Nat) (n0 : Int) (shift1 : Int) : Option (Int × Int) :=
 bif (decide ((64 : Int) ≤ shift1)) then
  bif (decide ((0 : Int) ≤ (IntKind.wrap .i64 (shift1 - 64)))) then
   some (((IntKind.wrap .u64 (n0 * ((2 : Int) ^ (min (Int.toNat (IntKind.wrap .i64 (shift1 - 64))) (IntKind.bits .u64))))), (0 : Int)))
  else
   none
 else
  bif (decide ((0 : Int) ≤ (IntKind.wrap .i64 ((64 : Int) - shift1)))) then
   bif (decide ((0 : Int) ≤ shift1)) then
    some (((@Int.fdiv n0 ((2 : Int) ^ (min (Int.toNat (IntKind.wrap .i64 ((64 : Int) - shift1))) (IntKind.bits .u64)))), (IntKind.wrap .u64 (n0 * ((2 : Int) ^ (min (Int.toNat shift1) (IntKind.bits .u64)))))))
   else
    none
  else
   none
theorem roots_shifted_S (n0 : Int) (shift1 : Int) : (runK Tryz.prog (Ev5 N) 400 134 [(.int .u64), (.int .i64)] [(.int .u64), (.int .u64)] (n0, shift1, ())).run = roots_shifted N n0 shift1 := by kernel_rfl
noncomputable def Ev6 : (R : Type) → Env R := Env.addFn (Ev5 N) 134 (fun R => fnK [(.int .u64), (.int .i64)] [(.int .u64), (.int .u64)] (fun c => roots_shifted N c.1 c.2.1))
theorem Ev6_ok (R : Type) : EnvOK Tryz.prog (Ev6 N R) := EnvOK.addFn hmx (Ev5_ok N R) (Ev5_ok N _) (by kernel_rfl) (fun c => roots_shifted_S N c.1 c.2.1)
noncomputable def roots_above (x0 : Int) (n1 : Int) (degree2 : Int) (shift3 : Int) : Option Bool :=
 Option.bind (roots_power N x0 degree2) fun v5 =>
 Option.bind (roots_shifted N (IntKind.wrap .u64 n1) shift3) fun v6 =>
 bif (!(decide (v5.1 = v6.1))) then
  some ((decide (v6.1 < v5.1)))
 else
  some ((decide (v6.2 < v5.2)))
theorem roots_above_S (x0 : Int) (n1 : Int) (degree2 : Int) (shift3 : Int) : (runK Tryz.prog (Ev6 N) 400 115 [(.int .u64), (.int .i64), (.int .i64), (.int .i64)] [.bool] (x0, n1, degree2, shift3, ())).run = roots_above N x0 n1 degree2 shift3 := by kernel_rfl
noncomputable def Ev7 : (R : Type) → Env R := Env.addFn (Ev6 N) 115 (fun R => fnK [(.int .u64), (.int .i64), (.int .i64), (.int .i64)] [.bool] (fun c => roots_above N c.1 c.2.1 c.2.2.1 c.2.2.2.1))
theorem Ev7_ok (R : Type) : EnvOK Tryz.prog (Ev7 N R) := EnvOK.addFn hmx (Ev6_ok N R) (Ev6_ok N _) (by kernel_rfl) (fun c => roots_above_S N c.1 c.2.1 c.2.2.1 c.2.2.2.1)
noncomputable def roots_Root_L5_I : LI := ⟨34, 0, [], ⟨[(0, .ty (.int .i64)), (1, .ty (.int .i64)), (2, .ty (.int .i64)), (8, .ty (.int .u64)), (9, .ty (.int .i64))], []⟩, [(.exit 0, ⟨[(8, .ty (.int .u64))], []⟩)]⟩
noncomputable def roots_Root_L5 (X : ((Int × (Int × (Int × (Int × (Int × Unit))))) × Unit) → Option (((Int × Unit) × Unit))) (n0 : Int) (degree1 : Int) (bits2 : Int) (root8 : Int) (i9 : Int) : Option (((Int × Unit) × Unit)) :=
 bif (decide ((0 : Int) ≤ i9)) then
  bif (decide ((0 : Int) ≤ i9)) then
   Option.bind (roots_above N (bits .or .u64 root8 (IntKind.wrap .u64 ((1 : Int) * ((2 : Int) ^ (min (Int.toNat i9) (IntKind.bits .u64)))))) n0 degree1 (IntKind.wrap .i64 (degree1 * bits2))) fun v7 =>
   bif (!v7) then
    (X ((n0, (degree1, (bits2, ((bits .or .u64 root8 (IntKind.wrap .u64 ((1 : Int) * ((2 : Int) ^ (min (Int.toNat i9) (IntKind.bits .u64)))))), ((IntKind.wrap .i64 (i9 - 1)), ()))))), ()))
   else
    (X ((n0, (degree1, (bits2, (root8, ((IntKind.wrap .i64 (i9 - 1)), ()))))), ()))
  else
   none
 else
  some (((root8, ()), ()))
noncomputable def roots_Root_L5_R (c : ((Int × (Int × (Int × (Int × (Int × Unit))))) × Unit)) : Option (((Int × Unit) × Unit)) := gl (fun X c => roots_Root_L5 N X c.1.1 c.1.2.1 c.1.2.2.1 c.1.2.2.2.1 c.1.2.2.2.2.1) N c
theorem roots_Root_L5_S (X : ((Int × (Int × (Int × (Int × (Int × Unit))))) × Unit) → Option (((Int × Unit) × Unit))) (n0 : Int) (degree1 : Int) (bits2 : Int) (root8 : Int) (i9 : Int) : (roundK Tryz.prog (Ev7 N) 400 [97] roots_Root_L5_I (loopAt Tryz.prog [97] 5) X ((n0, degree1, bits2, root8, i9, ()), ())).run = roots_Root_L5 N X n0 degree1 bits2 root8 i9 := by kernel_rfl
noncomputable def Ev8 : (R : Type) → Env R := Env.addLp (Ev7 N) [97] 0 5 (fun R => lpK Tryz.prog roots_Root_L5_I (fun X c => roots_Root_L5 N X c.1.1 c.1.2.1 c.1.2.2.1 c.1.2.2.2.1 c.1.2.2.2.2.1) N)
theorem Ev8_ok (R : Type) : EnvOK Tryz.prog (Ev8 N R) := EnvOK.addLp (Ev7_ok N R) (by kernel_rfl) (lpK_ok (li := roots_Root_L5_I) (G := fun X c => roots_Root_L5 N X c.1.1 c.1.2.1 c.1.2.2.1 c.1.2.2.2.1 c.1.2.2.2.2.1) hmx (Ev7_ok N _) (by kernel_rfl) loopAt_sub (fun (X : CT roots_Root_L5_I.sh → Option (OT roots_Root_L5_I.outs)) (c : CT roots_Root_L5_I.sh) => roots_Root_L5_S N X c.1.1 c.1.2.1 c.1.2.2.1 c.1.2.2.2.1 c.1.2.2.2.2.1) N)
noncomputable def roots_Root (n0 : Int) (degree1 : Int) (bits2 : Int) : Option (Int × Int) :=
 Option.bind (roots_may N n0 degree1 bits2) fun v4 =>
 bif (!v4) then
  some (((0 : Int), (1 : Int)))
 else
  Option.bind (roots_Root_L5_R N ((n0, (degree1, (bits2, ((0 : Int), ((36 : Int), ()))))), ())) fun v5 =>
  some ((v5.1.1, (0 : Int)))
theorem roots_Root_S (n0 : Int) (degree1 : Int) (bits2 : Int) : (runK Tryz.prog (Ev8 N) 400 97 [(.int .i64), (.int .i64), (.int .i64)] [(.int .u64), (.int .i64)] (n0, degree1, bits2, ())).run = roots_Root N n0 degree1 bits2 := by kernel_rfl
noncomputable def Ev9 : (R : Type) → Env R := Env.addFn (Ev8 N) 97 (fun R => fnK [(.int .i64), (.int .i64), (.int .i64)] [(.int .u64), (.int .i64)] (fun c => roots_Root N c.1 c.2.1 c.2.2.1))
theorem Ev9_ok (R : Type) : EnvOK Tryz.prog (Ev9 N R) := EnvOK.addFn hmx (Ev8_ok N R) (Ev8_ok N _) (by kernel_rfl) (fun c => roots_Root_S N c.1 c.2.1 c.2.2.1)
noncomputable def octs_place (N : Nat) (i0 : Int) (width1 : Int) (little2 : Bool) : Option Int :=
 bif little2 then
  some (i0)
 else
  some ((IntKind.wrap .i64 ((IntKind.wrap .i64 (width1 - 1)) - i0)))
theorem octs_place_S (i0 : Int) (width1 : Int) (little2 : Bool) : (runK Tryz.prog (Ev9 N) 400 96 [(.int .i64), (.int .i64), .bool] [(.int .i64)] (i0, width1, little2, ())).run = octs_place N i0 width1 little2 := by kernel_rfl
noncomputable def Ev10 : (R : Type) → Env R := Env.addFn (Ev9 N) 96 (fun R => fnK [(.int .i64), (.int .i64), .bool] [(.int .i64)] (fun c => octs_place N c.1 c.2.1 c.2.2.1))
theorem Ev10_ok (R : Type) : EnvOK Tryz.prog (Ev10 N R) := EnvOK.addFn hmx (Ev9_ok N R) (Ev9_ok N _) (by kernel_rfl) (fun c => octs_place_S N c.1 c.2.1 c.2.2.1)
noncomputable def octs_Put_L5_I : LI := ⟨35, 0, [], ⟨[(0, .ty (.int .u64)), (1, .ty (.int .i64)), (2, .ty .bool), (8, .lit (.own 0)), (19, .ty (.int .i64)), (20, .ty (.int .i64))], [.own (.int .u8) 5]⟩, [(.exit 0, ⟨[(8, .lit (.own 0))], [.own (.int .u8) 5]⟩)]⟩
noncomputable def octs_Put_L5 (X : ((Int × (Int × (Bool × (Int × (Int × Unit))))) × ((List Int) × Unit)) → Option ((Unit × ((List Int) × Unit)))) (n0 : Int) (width1 : Int) (little2 : Bool) (x19 : Int) (x20 : Int) (h0 : List (Int)) : Option ((Unit × ((List Int) × Unit))) :=
 bif (decide (x20 < x19)) then
  Option.bind (octs_place N x20 width1 little2) fun v8 =>
  bif (decide ((0 : Int) ≤ v8 ∧ v8 < (((List.length h0) : Nat) : Int))) then
   Option.bind (h0[Int.toNat v8]?) fun (v9 : Int) =>
   (X (((@Int.fdiv n0 ((2 : Int) ^ (min (Int.toNat (8 : Int)) (IntKind.bits .u64)))), (width1, (little2, (x19, ((IntKind.wrap .i64 (x20 + 1)), ()))))), ((@List.set Int h0 (Int.toNat v8) (IntKind.wrap .u8 n0)), ())))
  else
   none
 else
  some (((), (h0, ())))
noncomputable def octs_Put_L5_R (c : ((Int × (Int × (Bool × (Int × (Int × Unit))))) × ((List Int) × Unit))) : Option ((Unit × ((List Int) × Unit))) := gl (fun X c => octs_Put_L5 N X c.1.1 c.1.2.1 c.1.2.2.1 c.1.2.2.2.1 c.1.2.2.2.2.1 c.2.1) N c
theorem octs_Put_L5_S (X : ((Int × (Int × (Bool × (Int × (Int × Unit))))) × ((List Int) × Unit)) → Option ((Unit × ((List Int) × Unit)))) (n0 : Int) (width1 : Int) (little2 : Bool) (x19 : Int) (x20 : Int) (h0 : List (Int)) : (roundK Tryz.prog (Ev10 N) 400 [69] octs_Put_L5_I (loopAt Tryz.prog [69] 5) X ((n0, width1, little2, x19, x20, ()), (h0, ()))).run = octs_Put_L5 N X n0 width1 little2 x19 x20 h0 := by kernel_rfl
noncomputable def Ev11 : (R : Type) → Env R := Env.addLp (Ev10 N) [69] 0 5 (fun R => lpK Tryz.prog octs_Put_L5_I (fun X c => octs_Put_L5 N X c.1.1 c.1.2.1 c.1.2.2.1 c.1.2.2.2.1 c.1.2.2.2.2.1 c.2.1) N)
theorem Ev11_ok (R : Type) : EnvOK Tryz.prog (Ev11 N R) := EnvOK.addLp (Ev10_ok N R) (by kernel_rfl) (lpK_ok (li := octs_Put_L5_I) (G := fun X c => octs_Put_L5 N X c.1.1 c.1.2.1 c.1.2.2.1 c.1.2.2.2.1 c.1.2.2.2.2.1 c.2.1) hmx (Ev10_ok N _) (by kernel_rfl) loopAt_sub (fun (X : CT octs_Put_L5_I.sh → Option (OT octs_Put_L5_I.outs)) (c : CT octs_Put_L5_I.sh) => octs_Put_L5_S N X c.1.1 c.1.2.1 c.1.2.2.1 c.1.2.2.2.1 c.1.2.2.2.2.1 c.2.1) N)
noncomputable def octs_Put (n0 : Int) (width1 : Int) (little2 : Bool) : Option ((List Int) × Int) :=
 Option.bind (bif (decide (width1 < (1 : Int))) then
   some (true)
  else
   some ((cond false true (decide ((8 : Int) < width1))))) fun (v4 : Bool) =>
 bif v4 then
  some ((([] : List Int), (1 : Int)))
 else
  bif ((decide ((0 : Int) ≤ width1 ∧ width1 ≤ width1)) && (roomB (Int.toNat width1) 1)) then
   Option.bind (octs_Put_L5_R N ((n0, (width1, (little2, ((((List.length (@List.replicate Int (Int.toNat width1) (0 : Int))) : Nat) : Int), ((0 : Int), ()))))), ((@List.replicate Int (Int.toNat width1) (0 : Int)), ()))) fun v5 =>
   some ((v5.2.1, (0 : Int)))
  else
   none
theorem octs_Put_S (n0 : Int) (width1 : Int) (little2 : Bool) : (runK Tryz.prog (Ev11 N) 400 69 [(.int .u64), (.int .i64), .bool] [(.sl (.int .u8)), (.int .i64)] (n0, width1, little2, ())).run = octs_Put N n0 width1 little2 := by kernel_rfl
noncomputable def Ev12 : (R : Type) → Env R := Env.addFn (Ev11 N) 69 (fun R => fnK [(.int .u64), (.int .i64), .bool] [(.sl (.int .u8)), (.int .i64)] (fun c => octs_Put N c.1 c.2.1 c.2.2.1))
theorem Ev12_ok (R : Type) : EnvOK Tryz.prog (Ev12 N R) := EnvOK.addFn hmx (Ev11_ok N R) (Ev11_ok N _) (by kernel_rfl) (fun c => octs_Put_S N c.1 c.2.1 c.2.2.1)
noncomputable def md4_Tail_3_octs_Join_L3_I : LI := ⟨33, 1, [], ⟨[(0, .ty (.sl (.sl (.int .u8)))), (3, .ty (.int .i64)), (9, .ty (.sl (.sl (.int .u8)))), (10, .ty (.int .i64)), (11, .ty (.int .i64))], [.dead]⟩, [(.exit 0, ⟨[(0, .ty (.sl (.sl (.int .u8)))), (3, .ty (.int .i64))], [.dead]⟩)]⟩
noncomputable def md4_Tail_3_octs_Join_L3 (N : Nat) (X : (((List (List Int)) × (Int × ((List (List Int)) × (Int × (Int × Unit))))) × Unit) → Option ((((List (List Int)) × (Int × Unit)) × Unit))) (parts0 : List (List Int)) (size3 : Int) (x9 : List (List Int)) (x10 : Int) (x11 : Int) : Option ((((List (List Int)) × (Int × Unit)) × Unit)) :=
 bif (decide (x11 < x10)) then
  Option.bind (getI x9 x11) fun (v7 : (List Int)) =>
  (X ((parts0, ((IntKind.wrap .i64 (size3 + (((List.length v7) : Nat) : Int))), (x9, (x10, ((IntKind.wrap .i64 (x11 + 1)), ()))))), ()))
 else
  some (((parts0, (size3, ())), ()))
noncomputable def md4_Tail_3_octs_Join_L3_R (c : (((List (List Int)) × (Int × ((List (List Int)) × (Int × (Int × Unit))))) × Unit)) : Option ((((List (List Int)) × (Int × Unit)) × Unit)) := gl (fun X c => md4_Tail_3_octs_Join_L3 N X c.1.1 c.1.2.1 c.1.2.2.1 c.1.2.2.2.1 c.1.2.2.2.2.1) N c
theorem md4_Tail_3_octs_Join_L3_S (X : (((List (List Int)) × (Int × ((List (List Int)) × (Int × (Int × Unit))))) × Unit) → Option ((((List (List Int)) × (Int × Unit)) × Unit))) (parts0 : List (List Int)) (size3 : Int) (x9 : List (List Int)) (x10 : Int) (x11 : Int) : (roundK Tryz.prog (Ev12 N) 400 [33, 3, 64] md4_Tail_3_octs_Join_L3_I (loopAt Tryz.prog [33, 3, 64] 3) X ((parts0, size3, x9, x10, x11, ()), ())).run = md4_Tail_3_octs_Join_L3 N X parts0 size3 x9 x10 x11 := by kernel_rfl
noncomputable def Ev13 : (R : Type) → Env R := Env.addLp (Ev12 N) [33, 3, 64] 1 3 (fun R => lpK Tryz.prog md4_Tail_3_octs_Join_L3_I (fun X c => md4_Tail_3_octs_Join_L3 N X c.1.1 c.1.2.1 c.1.2.2.1 c.1.2.2.2.1 c.1.2.2.2.2.1) N)
theorem Ev13_ok (R : Type) : EnvOK Tryz.prog (Ev13 N R) := EnvOK.addLp (Ev12_ok N R) (by kernel_rfl) (lpK_ok (li := md4_Tail_3_octs_Join_L3_I) (G := fun X c => md4_Tail_3_octs_Join_L3 N X c.1.1 c.1.2.1 c.1.2.2.1 c.1.2.2.2.1 c.1.2.2.2.2.1) hmx (Ev12_ok N _) (by kernel_rfl) loopAt_sub (fun (X : CT md4_Tail_3_octs_Join_L3_I.sh → Option (OT md4_Tail_3_octs_Join_L3_I.outs)) (c : CT md4_Tail_3_octs_Join_L3_I.sh) => md4_Tail_3_octs_Join_L3_S N X c.1.1 c.1.2.1 c.1.2.2.1 c.1.2.2.2.1 c.1.2.2.2.2.1) N)
noncomputable def md4_Tail_3_octs_Join_L9_I : LI := ⟨33, 1, [], ⟨[(6, .lit (.own 1)), (22, .ty (.sl (.sl (.int .u8)))), (23, .ty (.int .i64)), (24, .ty (.int .i64))], [.dead, .own (.int .u8) 5]⟩, [(.exit 2, ⟨[(6, .lit (.own 1))], [.dead, .own (.int .u8) 5]⟩)]⟩
noncomputable def md4_Tail_3_octs_Join_L9 (N : Nat) (X : (((List (List Int)) × (Int × (Int × Unit))) × ((List Int) × Unit)) → Option ((Unit × ((List Int) × Unit)))) (x22 : List (List Int)) (x23 : Int) (x24 : Int) (h0 : List (Int)) : Option ((Unit × ((List Int) × Unit))) :=
 bif (decide (x24 < x23)) then
  Option.bind (getI x22 x24) fun (v6 : (List Int)) =>
  bif (roomB ((List.length h0) + (List.length v6)) 1) then
   (X ((x22, (x23, ((IntKind.wrap .i64 (x24 + 1)), ()))), ((h0 ++ v6), ())))
  else
   none
 else
  some (((), (h0, ())))
noncomputable def md4_Tail_3_octs_Join_L9_R (c : (((List (List Int)) × (Int × (Int × Unit))) × ((List Int) × Unit))) : Option ((Unit × ((List Int) × Unit))) := gl (fun X c => md4_Tail_3_octs_Join_L9 N X c.1.1 c.1.2.1 c.1.2.2.1 c.2.1) N c
theorem md4_Tail_3_octs_Join_L9_S (X : (((List (List Int)) × (Int × (Int × Unit))) × ((List Int) × Unit)) → Option ((Unit × ((List Int) × Unit)))) (x22 : List (List Int)) (x23 : Int) (x24 : Int) (h0 : List (Int)) : (roundK Tryz.prog (Ev13 N) 400 [33, 3, 64] md4_Tail_3_octs_Join_L9_I (loopAt Tryz.prog [33, 3, 64] 9) X ((x22, x23, x24, ()), (h0, ()))).run = md4_Tail_3_octs_Join_L9 N X x22 x23 x24 h0 := by kernel_rfl
noncomputable def Ev14 : (R : Type) → Env R := Env.addLp (Ev13 N) [33, 3, 64] 1 9 (fun R => lpK Tryz.prog md4_Tail_3_octs_Join_L9_I (fun X c => md4_Tail_3_octs_Join_L9 N X c.1.1 c.1.2.1 c.1.2.2.1 c.2.1) N)
theorem Ev14_ok (R : Type) : EnvOK Tryz.prog (Ev14 N R) := EnvOK.addLp (Ev13_ok N R) (by kernel_rfl) (lpK_ok (li := md4_Tail_3_octs_Join_L9_I) (G := fun X c => md4_Tail_3_octs_Join_L9 N X c.1.1 c.1.2.1 c.1.2.2.1 c.2.1) hmx (Ev13_ok N _) (by kernel_rfl) loopAt_sub (fun (X : CT md4_Tail_3_octs_Join_L9_I.sh → Option (OT md4_Tail_3_octs_Join_L9_I.outs)) (c : CT md4_Tail_3_octs_Join_L9_I.sh) => md4_Tail_3_octs_Join_L9_S N X c.1.1 c.1.2.1 c.1.2.2.1 c.2.1) N)
noncomputable def md4_Tail (n0 : Int) : Option (List Int) :=
 Option.bind (octs_Put N (IntKind.wrap .u64 ((8 : Int) * n0)) (8 : Int) true) fun v2 =>
 bif ((decide ((0 : Int) ≤ (@Int.tmod (IntKind.wrap .u64 ((119 : Int) - (@Int.tmod n0 (64 : Int)))) (64 : Int)) ∧ (@Int.tmod (IntKind.wrap .u64 ((119 : Int) - (@Int.tmod n0 (64 : Int)))) (64 : Int)) ≤ (@Int.tmod (IntKind.wrap .u64 ((119 : Int) - (@Int.tmod n0 (64 : Int)))) (64 : Int)))) && (roomB (Int.toNat (@Int.tmod (IntKind.wrap .u64 ((119 : Int) - (@Int.tmod n0 (64 : Int)))) (64 : Int))) 1)) then
  Option.bind (md4_Tail_3_octs_Join_L3_R N ((([([128] : List Int), (@List.replicate Int (Int.toNat (@Int.tmod (IntKind.wrap .u64 ((119 : Int) - (@Int.tmod n0 (64 : Int)))) (64 : Int))) (0 : Int)), v2.1] : List ((List Int))), ((0 : Int), (([([128] : List Int), (@List.replicate Int (Int.toNat (@Int.tmod (IntKind.wrap .u64 ((119 : Int) - (@Int.tmod n0 (64 : Int)))) (64 : Int))) (0 : Int)), v2.1] : List ((List Int))), ((((List.length ([([128] : List Int), (@List.replicate Int (Int.toNat (@Int.tmod (IntKind.wrap .u64 ((119 : Int) - (@Int.tmod n0 (64 : Int)))) (64 : Int))) (0 : Int)), v2.1] : List ((List Int)))) : Nat) : Int), ((0 : Int), ()))))), ())) fun v3 =>
  bif ((decide ((0 : Int) ≤ (0 : Int) ∧ (0 : Int) ≤ v3.1.2.1)) && (roomB (Int.toNat v3.1.2.1) 1)) then
   Option.bind (md4_Tail_3_octs_Join_L9_R N ((v3.1.1, ((((List.length v3.1.1) : Nat) : Int), ((0 : Int), ()))), ((@List.replicate Int (Int.toNat (0 : Int)) (0 : Int)), ()))) fun v4 =>
   some (v4.2.1)
  else
   none
 else
  none
theorem md4_Tail_S (n0 : Int) : (runK Tryz.prog (Ev14 N) 400 64 [(.int .u64)] [(.sl (.int .u8))] (n0, ())).run = md4_Tail N n0 := by kernel_rfl
noncomputable def Ev15 : (R : Type) → Env R := Env.addFn (Ev14 N) 64 (fun R => fnK [(.int .u64)] [(.sl (.int .u8))] (fun c => md4_Tail N c.1))
theorem Ev15_ok (R : Type) : EnvOK Tryz.prog (Ev15 N R) := EnvOK.addFn hmx (Ev14_ok N R) (Ev14_ok N _) (by kernel_rfl) (fun c => md4_Tail_S N c.1)
noncomputable def md4_First (N : Nat) : Option (Arr Int 4) :=
 some ((@Arr.cons Int 3 1732584193 (@Arr.cons Int 2 4023233417 (@Arr.cons Int 1 2562383102 (@Arr.cons Int 0 271733878 (@Arr.nil Int))))))
theorem md4_First_S : (runK Tryz.prog (Ev15 N) 400 65 [] [(.arr 4 (.int .u32))] ()).run = md4_First N  := by kernel_rfl
noncomputable def Ev16 : (R : Type) → Env R := Env.addFn (Ev15 N) 65 (fun R => fnK [] [(.arr 4 (.int .u32))] (fun c => md4_First N ))
theorem Ev16_ok (R : Type) : EnvOK Tryz.prog (Ev16 N R) := EnvOK.addFn hmx (Ev15_ok N R) (Ev15_ok N _) (by kernel_rfl) (fun c => md4_First_S N )
noncomputable def md4_Of_1_octs_Join_L3_I : LI := ⟨33, 1, [], ⟨[(0, .ty (.sl (.sl (.int .u8)))), (3, .ty (.int .i64)), (9, .ty (.sl (.sl (.int .u8)))), (10, .ty (.int .i64)), (11, .ty (.int .i64))], [.box 22 (.arr 16 (.int .u8))]⟩, [(.exit 0, ⟨[(0, .ty (.sl (.sl (.int .u8)))), (3, .ty (.int .i64))], [.box 22 (.arr 16 (.int .u8))]⟩)]⟩
noncomputable def md4_Of_1_octs_Join_L3 (N : Nat) (X : (((List (List Int)) × (Int × ((List (List Int)) × (Int × (Int × Unit))))) × ((Arr Int 16) × Unit)) → Option ((((List (List Int)) × (Int × Unit)) × ((Arr Int 16) × Unit)))) (parts0 : List (List Int)) (size3 : Int) (x9 : List (List Int)) (x10 : Int) (x11 : Int) (h0 : Arr Int 16) : Option ((((List (List Int)) × (Int × Unit)) × ((Arr Int 16) × Unit))) :=
 bif (decide (x11 < x10)) then
  Option.bind (getI x9 x11) fun (v8 : (List Int)) =>
  (X ((parts0, ((IntKind.wrap .i64 (size3 + (((List.length v8) : Nat) : Int))), (x9, (x10, ((IntKind.wrap .i64 (x11 + 1)), ()))))), (h0, ())))
 else
  some (((parts0, (size3, ())), (h0, ())))
noncomputable def md4_Of_1_octs_Join_L3_R (c : (((List (List Int)) × (Int × ((List (List Int)) × (Int × (Int × Unit))))) × ((Arr Int 16) × Unit))) : Option ((((List (List Int)) × (Int × Unit)) × ((Arr Int 16) × Unit))) := gl (fun X c => md4_Of_1_octs_Join_L3 N X c.1.1 c.1.2.1 c.1.2.2.1 c.1.2.2.2.1 c.1.2.2.2.2.1 c.2.1) N c
theorem md4_Of_1_octs_Join_L3_S (X : (((List (List Int)) × (Int × ((List (List Int)) × (Int × (Int × Unit))))) × ((Arr Int 16) × Unit)) → Option ((((List (List Int)) × (Int × Unit)) × ((Arr Int 16) × Unit)))) (parts0 : List (List Int)) (size3 : Int) (x9 : List (List Int)) (x10 : Int) (x11 : Int) (h0 : Arr Int 16) : (roundK Tryz.prog (Ev16 N) 400 [33, 1, 46] md4_Of_1_octs_Join_L3_I (loopAt Tryz.prog [33, 1, 46] 3) X ((parts0, size3, x9, x10, x11, ()), (h0, ()))).run = md4_Of_1_octs_Join_L3 N X parts0 size3 x9 x10 x11 h0 := by kernel_rfl
noncomputable def Ev17 : (R : Type) → Env R := Env.addLp (Ev16 N) [33, 1, 46] 1 3 (fun R => lpK Tryz.prog md4_Of_1_octs_Join_L3_I (fun X c => md4_Of_1_octs_Join_L3 N X c.1.1 c.1.2.1 c.1.2.2.1 c.1.2.2.2.1 c.1.2.2.2.2.1 c.2.1) N)
theorem Ev17_ok (R : Type) : EnvOK Tryz.prog (Ev17 N R) := EnvOK.addLp (Ev16_ok N R) (by kernel_rfl) (lpK_ok (li := md4_Of_1_octs_Join_L3_I) (G := fun X c => md4_Of_1_octs_Join_L3 N X c.1.1 c.1.2.1 c.1.2.2.1 c.1.2.2.2.1 c.1.2.2.2.2.1 c.2.1) hmx (Ev16_ok N _) (by kernel_rfl) loopAt_sub (fun (X : CT md4_Of_1_octs_Join_L3_I.sh → Option (OT md4_Of_1_octs_Join_L3_I.outs)) (c : CT md4_Of_1_octs_Join_L3_I.sh) => md4_Of_1_octs_Join_L3_S N X c.1.1 c.1.2.1 c.1.2.2.1 c.1.2.2.2.1 c.1.2.2.2.2.1 c.2.1) N)
noncomputable def md4_Of_1_octs_Join_L9_I : LI := ⟨33, 1, [], ⟨[(6, .lit (.own 1)), (22, .ty (.sl (.sl (.int .u8)))), (23, .ty (.int .i64)), (24, .ty (.int .i64))], [.box 22 (.arr 16 (.int .u8)), .own (.int .u8) 5]⟩, [(.exit 2, ⟨[(6, .lit (.own 1))], [.box 22 (.arr 16 (.int .u8)), .own (.int .u8) 5]⟩)]⟩
noncomputable def md4_Of_1_octs_Join_L9 (N : Nat) (X : (((List (List Int)) × (Int × (Int × Unit))) × ((Arr Int 16) × ((List Int) × Unit))) → Option ((Unit × ((Arr Int 16) × ((List Int) × Unit))))) (x22 : List (List Int)) (x23 : Int) (x24 : Int) (h0 : Arr Int 16) (h1 : List (Int)) : Option ((Unit × ((Arr Int 16) × ((List Int) × Unit)))) :=
 bif (decide (x24 < x23)) then
  Option.bind (getI x22 x24) fun (v7 : (List Int)) =>
  bif (roomB ((List.length h1) + (List.length v7)) 1) then
   (X ((x22, (x23, ((IntKind.wrap .i64 (x24 + 1)), ()))), (h0, ((h1 ++ v7), ()))))
  else
   none
 else
  some (((), (h0, (h1, ()))))
noncomputable def md4_Of_1_octs_Join_L9_R (c : (((List (List Int)) × (Int × (Int × Unit))) × ((Arr Int 16) × ((List Int) × Unit)))) : Option ((Unit × ((Arr Int 16) × ((List Int) × Unit)))) := gl (fun X c => md4_Of_1_octs_Join_L9 N X c.1.1 c.1.2.1 c.1.2.2.1 c.2.1 c.2.2.1) N c
theorem md4_Of_1_octs_Join_L9_S (X : (((List (List Int)) × (Int × (Int × Unit))) × ((Arr Int 16) × ((List Int) × Unit))) → Option ((Unit × ((Arr Int 16) × ((List Int) × Unit))))) (x22 : List (List Int)) (x23 : Int) (x24 : Int) (h0 : Arr Int 16) (h1 : List (Int)) : (roundK Tryz.prog (Ev17 N) 400 [33, 1, 46] md4_Of_1_octs_Join_L9_I (loopAt Tryz.prog [33, 1, 46] 9) X ((x22, x23, x24, ()), (h0, h1, ()))).run = md4_Of_1_octs_Join_L9 N X x22 x23 x24 h0 h1 := by kernel_rfl
noncomputable def Ev18 : (R : Type) → Env R := Env.addLp (Ev17 N) [33, 1, 46] 1 9 (fun R => lpK Tryz.prog md4_Of_1_octs_Join_L9_I (fun X c => md4_Of_1_octs_Join_L9 N X c.1.1 c.1.2.1 c.1.2.2.1 c.2.1 c.2.2.1) N)
theorem Ev18_ok (R : Type) : EnvOK Tryz.prog (Ev18 N R) := EnvOK.addLp (Ev17_ok N R) (by kernel_rfl) (lpK_ok (li := md4_Of_1_octs_Join_L9_I) (G := fun X c => md4_Of_1_octs_Join_L9 N X c.1.1 c.1.2.1 c.1.2.2.1 c.2.1 c.2.2.1) hmx (Ev17_ok N _) (by kernel_rfl) loopAt_sub (fun (X : CT md4_Of_1_octs_Join_L9_I.sh → Option (OT md4_Of_1_octs_Join_L9_I.outs)) (c : CT md4_Of_1_octs_Join_L9_I.sh) => md4_Of_1_octs_Join_L9_S N X c.1.1 c.1.2.1 c.1.2.2.1 c.2.1 c.2.2.1) N)
noncomputable def md4_root (n0 : Int) : Option Int :=
 Option.bind (roots_Root N n0 (2 : Int) (30 : Int)) fun v2 =>
 some ((IntKind.wrap .u32 v2.1))
theorem md4_root_S (n0 : Int) : (runK Tryz.prog (Ev18 N) 400 92 [(.int .i64)] [(.int .u32)] (n0, ())).run = md4_root N n0 := by kernel_rfl
noncomputable def Ev19 : (R : Type) → Env R := Env.addFn (Ev18 N) 92 (fun R => fnK [(.int .i64)] [(.int .u32)] (fun c => md4_root N c.1))
theorem Ev19_ok (R : Type) : EnvOK Tryz.prog (Ev19 N R) := EnvOK.addFn hmx (Ev18_ok N R) (Ev18_ok N _) (by kernel_rfl) (fun c => md4_root_S N c.1)
noncomputable def md4_constants : Option (Arr Int 3) :=
 Option.bind (md4_root N (2 : Int)) fun v1 =>
 Option.bind (md4_root N (3 : Int)) fun v2 =>
 some ((@Arr.cons Int 2 0 (@Arr.cons Int (1 : Nat) v1 (@Arr.cons Int (0 : Nat) v2 (@Arr.nil Int)))))
theorem md4_constants_S : (runK Tryz.prog (Ev19 N) 400 66 [] [(.arr 3 (.int .u32))] ()).run = md4_constants N  := by kernel_rfl
noncomputable def Ev20 : (R : Type) → Env R := Env.addFn (Ev19 N) 66 (fun R => fnK [] [(.arr 3 (.int .u32))] (fun c => md4_constants N ))
theorem Ev20_ok (R : Type) : EnvOK Tryz.prog (Ev20 N R) := EnvOK.addFn hmx (Ev19_ok N R) (Ev19_ok N _) (by kernel_rfl) (fun c => md4_constants_S N )
noncomputable def Ev21 : (R : Type) → Env R := Env.addBx (Ev20 N) [(67, 0)]
theorem Ev21_ok (R : Type) : EnvOK Tryz.prog (Ev21 N R) := EnvOK.addBx (Ev20_ok N R) [(67, 0)]
noncomputable def Ev22 : (R : Type) → Env R := Env.addBx (Ev21 N) [(93, 0)]
theorem Ev22_ok (R : Type) : EnvOK Tryz.prog (Ev22 N R) := EnvOK.addBx (Ev21_ok N R) [(93, 0)]
noncomputable def octs_Get_L5_I : LI := ⟨37, 0, [], ⟨[(0, .ty (.sl (.int .u8))), (1, .ty .bool), (6, .ty (.int .u64)), (17, .ty (.int .i64)), (18, .ty (.int .i64))], []⟩, [(.exit 0, ⟨[(6, .ty (.int .u64))], []⟩)]⟩
noncomputable def octs_Get_L5 (X : (((List Int) × (Bool × (Int × (Int × (Int × Unit))))) × Unit) → Option (((Int × Unit) × Unit))) (b0 : List (Int)) (little1 : Bool) (n6 : Int) (x17 : Int) (x18 : Int) : Option (((Int × Unit) × Unit)) :=
 bif (decide (x18 < x17)) then
  Option.bind (octs_place N x18 (((List.length b0) : Nat) : Int) little1) fun v7 =>
  Option.bind (getI b0 v7) fun (v8 : Int) =>
  bif (decide ((0 : Int) ≤ (IntKind.wrap .i64 ((8 : Int) * x18)))) then
   (X ((b0, (little1, ((bits .or .u64 n6 (IntKind.wrap .u64 ((IntKind.wrap .u64 v8) * ((2 : Int) ^ (min (Int.toNat (IntKind.wrap .i64 ((8 : Int) * x18))) (IntKind.bits .u64)))))), (x17, ((IntKind.wrap .i64 (x18 + 1)), ()))))), ()))
  else
   none
 else
  some (((n6, ()), ()))
noncomputable def octs_Get_L5_R (c : (((List Int) × (Bool × (Int × (Int × (Int × Unit))))) × Unit)) : Option (((Int × Unit) × Unit)) := gl (fun X c => octs_Get_L5 N X c.1.1 c.1.2.1 c.1.2.2.1 c.1.2.2.2.1 c.1.2.2.2.2.1) N c
theorem octs_Get_L5_S (X : (((List Int) × (Bool × (Int × (Int × (Int × Unit))))) × Unit) → Option (((Int × Unit) × Unit))) (b0 : List (Int)) (little1 : Bool) (n6 : Int) (x17 : Int) (x18 : Int) : (roundK Tryz.prog (Ev22 N) 400 [78] octs_Get_L5_I (loopAt Tryz.prog [78] 5) X ((b0, little1, n6, x17, x18, ()), ())).run = octs_Get_L5 N X b0 little1 n6 x17 x18 := by kernel_rfl
noncomputable def Ev23 : (R : Type) → Env R := Env.addLp (Ev22 N) [78] 0 5 (fun R => lpK Tryz.prog octs_Get_L5_I (fun X c => octs_Get_L5 N X c.1.1 c.1.2.1 c.1.2.2.1 c.1.2.2.2.1 c.1.2.2.2.2.1) N)
theorem Ev23_ok (R : Type) : EnvOK Tryz.prog (Ev23 N R) := EnvOK.addLp (Ev22_ok N R) (by kernel_rfl) (lpK_ok (li := octs_Get_L5_I) (G := fun X c => octs_Get_L5 N X c.1.1 c.1.2.1 c.1.2.2.1 c.1.2.2.2.1 c.1.2.2.2.2.1) hmx (Ev22_ok N _) (by kernel_rfl) loopAt_sub (fun (X : CT octs_Get_L5_I.sh → Option (OT octs_Get_L5_I.outs)) (c : CT octs_Get_L5_I.sh) => octs_Get_L5_S N X c.1.1 c.1.2.1 c.1.2.2.1 c.1.2.2.2.1 c.1.2.2.2.2.1) N)
noncomputable def octs_Get (b0 : List (Int)) (little1 : Bool) : Option (Int × Int) :=
 bif (decide ((((List.length b0) : Nat) : Int) < (1 : Int))) then
  some (((0 : Int), (1 : Int)))
 else
  Option.bind (some ((cond false true (decide ((8 : Int) < (((List.length b0) : Nat) : Int)))))) fun (v3 : Bool) =>
  bif v3 then
   some (((0 : Int), (1 : Int)))
  else
   Option.bind (octs_Get_L5_R N ((b0, (little1, ((0 : Int), ((((List.length b0) : Nat) : Int), ((0 : Int), ()))))), ())) fun v4 =>
   some ((v4.1.1, (0 : Int)))
theorem octs_Get_S (b0 : List (Int)) (little1 : Bool) : (runK Tryz.prog (Ev23 N) 400 78 [(.sl (.int .u8)), .bool] [(.int .u64), (.int .i64)] (b0, little1, ())).run = octs_Get N b0 little1 := by kernel_rfl
noncomputable def Ev24 : (R : Type) → Env R := Env.addFn (Ev23 N) 78 (fun R => fnK [(.sl (.int .u8)), .bool] [(.int .u64), (.int .i64)] (fun c => octs_Get N c.1 c.2.1))
theorem Ev24_ok (R : Type) : EnvOK Tryz.prog (Ev24 N R) := EnvOK.addFn hmx (Ev23_ok N R) (Ev23_ok N _) (by kernel_rfl) (fun c => octs_Get_S N c.1 c.2.1)
noncomputable def md4_words_L3_I : LI := ⟨26, 0, [], ⟨[(1, .adr (.arr 64 (.int .u8))), (2, .lit (.box 0 0)), (3, .lit (.box 1 0)), (7, .ty (.int .i64))], [.box 139 (.arr 16 (.int .u32)), .box 139 (.arr 16 (.int .u32))]⟩, [(.exit 0, ⟨[(2, .lit (.box 0 0)), (3, .lit (.box 1 0))], [.box 139 (.arr 16 (.int .u32)), .box 139 (.arr 16 (.int .u32))]⟩)]⟩
noncomputable def md4_words_L3 (X : (((Arr Int 64) × (Int × Unit)) × ((Arr Int 16) × ((Arr Int 16) × Unit))) → Option ((Unit × ((Arr Int 16) × ((Arr Int 16) × Unit))))) (b1 : Arr Int 64) (x7 : Int) (h0 : Arr Int 16) (h1 : Arr Int 16) : Option ((Unit × ((Arr Int 16) × ((Arr Int 16) × Unit)))) :=
 bif (decide (x7 < (16 : Int))) then
  Option.bind (subI b1.l (IntKind.wrap .i64 ((4 : Int) * x7)) (IntKind.wrap .i64 ((IntKind.wrap .i64 ((4 : Int) * x7)) + 4))) fun (v6 : (List Int)) =>
  Option.bind (octs_Get N v6 true) fun v7 =>
  bif (decide ((0 : Int) ≤ x7 ∧ x7 < ((16 : Nat) : Int))) then
   Option.bind (h1.l[Int.toNat x7]?) fun (v8 : Int) =>
   (X ((b1, ((IntKind.wrap .i64 (x7 + 1)), ())), (h0, ((h1.set (Int.toNat x7) (IntKind.wrap .u32 v7.1)), ()))))
  else
   none
 else
  some (((), (h0, (h1, ()))))
noncomputable def md4_words_L3_R (c : (((Arr Int 64) × (Int × Unit)) × ((Arr Int 16) × ((Arr Int 16) × Unit)))) : Option ((Unit × ((Arr Int 16) × ((Arr Int 16) × Unit)))) := gl (fun X c => md4_words_L3 N X c.1.1 c.1.2.1 c.2.1 c.2.2.1) N c
theorem md4_words_L3_S (X : (((Arr Int 64) × (Int × Unit)) × ((Arr Int 16) × ((Arr Int 16) × Unit))) → Option ((Unit × ((Arr Int 16) × ((Arr Int 16) × Unit))))) (b1 : Arr Int 64) (x7 : Int) (h0 : Arr Int 16) (h1 : Arr Int 16) : (roundK Tryz.prog (Ev24 N) 400 [93] md4_words_L3_I (loopAt Tryz.prog [93] 3) X ((b1, x7, ()), (h0, h1, ()))).run = md4_words_L3 N X b1 x7 h0 h1 := by kernel_rfl
noncomputable def Ev25 : (R : Type) → Env R := Env.addLp (Ev24 N) [93] 0 3 (fun R => lpK Tryz.prog md4_words_L3_I (fun X c => md4_words_L3 N X c.1.1 c.1.2.1 c.2.1 c.2.2.1) N)
theorem Ev25_ok (R : Type) : EnvOK Tryz.prog (Ev25 N R) := EnvOK.addLp (Ev24_ok N R) (by kernel_rfl) (lpK_ok (li := md4_words_L3_I) (G := fun X c => md4_words_L3 N X c.1.1 c.1.2.1 c.2.1 c.2.2.1) hmx (Ev24_ok N _) (by kernel_rfl) loopAt_sub (fun (X : CT md4_words_L3_I.sh → Option (OT md4_words_L3_I.outs)) (c : CT md4_words_L3_I.sh) => md4_words_L3_S N X c.1.1 c.1.2.1 c.2.1 c.2.2.1) N)
noncomputable def md4_words (b0 : Arr Int 64) : Option (Arr Int 16) :=
 Option.bind (md4_words_L3_R N ((b0, ((0 : Int), ())), ((@Arr.cons Int 15 0 (@Arr.cons Int 14 0 (@Arr.cons Int 13 0 (@Arr.cons Int 12 0 (@Arr.cons Int 11 0 (@Arr.cons Int 10 0 (@Arr.cons Int 9 0 (@Arr.cons Int 8 0 (@Arr.cons Int 7 0 (@Arr.cons Int 6 0 (@Arr.cons Int 5 0 (@Arr.cons Int 4 0 (@Arr.cons Int 3 0 (@Arr.cons Int 2 0 (@Arr.cons Int 1 0 (@Arr.cons Int 0 0 (@Arr.nil Int))))))))))))))))), ((@Arr.cons Int 15 0 (@Arr.cons Int 14 0 (@Arr.cons Int 13 0 (@Arr.cons Int 12 0 (@Arr.cons Int 11 0 (@Arr.cons Int 10 0 (@Arr.cons Int 9 0 (@Arr.cons Int 8 0 (@Arr.cons Int 7 0 (@Arr.cons Int 6 0 (@Arr.cons Int 5 0 (@Arr.cons Int 4 0 (@Arr.cons Int 3 0 (@Arr.cons Int 2 0 (@Arr.cons Int 1 0 (@Arr.cons Int 0 0 (@Arr.nil Int))))))))))))))))), ())))) fun v2 =>
 some (v2.2.2.1)
theorem md4_words_S (b0 : Arr Int 64) : (runK Tryz.prog (Ev25 N) 400 93 [(.arr 64 (.int .u8))] [(.arr 16 (.int .u32))] (b0, ())).run = md4_words N b0 := by kernel_rfl
noncomputable def Ev26 : (R : Type) → Env R := Env.addFn (Ev25 N) 93 (fun R => fnK [(.arr 64 (.int .u8))] [(.arr 16 (.int .u32))] (fun c => md4_words N c.1))
theorem Ev26_ok (R : Type) : EnvOK Tryz.prog (Ev26 N R) := EnvOK.addFn hmx (Ev25_ok N R) (Ev25_ok N _) (by kernel_rfl) (fun c => md4_words_S N c.1)
noncomputable def md4_mixed (N : Nat) (r0 : Int) (b1 : Int) (c2 : Int) (d3 : Int) : Option Int :=
 bif (decide (r0 = (0 : Int))) then
  some ((bits .or .u32 (bits .and .u32 b1 c2) (bits .and .u32 (bits .xor .u32 (@ite Int (@Eq Bool (@IntKind.signed @IntKind.u32) true) (@instDecidableEqBool (@IntKind.signed @IntKind.u32) true) (-1 : Int) (@IntKind.max @IntKind.u32)) b1) d3)))
 else
  bif (decide (r0 = (1 : Int))) then
   some ((bits .or .u32 (bits .or .u32 (bits .and .u32 b1 c2) (bits .and .u32 b1 d3)) (bits .and .u32 c2 d3)))
  else
   some ((bits .xor .u32 (bits .xor .u32 b1 c2) d3))
theorem md4_mixed_S (r0 : Int) (b1 : Int) (c2 : Int) (d3 : Int) : (runK Tryz.prog (Ev26 N) 400 94 [(.int .i64), (.int .u32), (.int .u32), (.int .u32)] [(.int .u32)] (r0, b1, c2, d3, ())).run = md4_mixed N r0 b1 c2 d3 := by kernel_rfl
noncomputable def Ev27 : (R : Type) → Env R := Env.addFn (Ev26 N) 94 (fun R => fnK [(.int .i64), (.int .u32), (.int .u32), (.int .u32)] [(.int .u32)] (fun c => md4_mixed N c.1 c.2.1 c.2.2.1 c.2.2.2.1))
theorem Ev27_ok (R : Type) : EnvOK Tryz.prog (Ev27 N R) := EnvOK.addFn hmx (Ev26_ok N R) (Ev26_ok N _) (by kernel_rfl) (fun c => md4_mixed_S N c.1 c.2.1 c.2.2.1 c.2.2.2.1)
noncomputable def md4_place (N : Nat) (i0 : Int) : Option Int :=
 bif (decide ((IntKind.wrap .i64 (@Int.tdiv i0 (16 : Int))) = (0 : Int))) then
  some ((@Int.tmod i0 (16 : Int)))
 else
  bif (decide ((IntKind.wrap .i64 (@Int.tdiv i0 (16 : Int))) = (1 : Int))) then
   some ((IntKind.wrap .i64 ((IntKind.wrap .i64 ((4 : Int) * (@Int.tmod (@Int.tmod i0 (16 : Int)) (4 : Int)))) + (IntKind.wrap .i64 (@Int.tdiv (@Int.tmod i0 (16 : Int)) (4 : Int))))))
  else
   Option.bind (getI ([0, 8, 4, 12, 2, 10, 6, 14, 1, 9, 5, 13, 3, 11, 7, 15] : List Int) (@Int.tmod i0 (16 : Int))) fun (v2 : Int) =>
   some (v2)
theorem md4_place_S (i0 : Int) : (runK Tryz.prog (Ev27 N) 400 95 [(.int .i64)] [(.int .i64)] (i0, ())).run = md4_place N i0 := by kernel_rfl
noncomputable def Ev28 : (R : Type) → Env R := Env.addFn (Ev27 N) 95 (fun R => fnK [(.int .i64)] [(.int .i64)] (fun c => md4_place N c.1))
theorem Ev28_ok (R : Type) : EnvOK Tryz.prog (Ev28 N R) := EnvOK.addFn hmx (Ev27_ok N R) (Ev27_ok N _) (by kernel_rfl) (fun c => md4_place_S N c.1)
noncomputable def math_bits_RotateLeft32 (N : Nat) (x0 : Int) (k1 : Int) : Option Int :=
 bif (decide ((0 : Int) ≤ (IntKind.wrap .u64 ((32 : Int) - (bits .and .u64 (IntKind.wrap .u64 k1) (31 : Int)))))) then
  some ((bits .or .u32 (IntKind.wrap .u32 (x0 * ((2 : Int) ^ (min (Int.toNat (bits .and .u64 (IntKind.wrap .u64 k1) (31 : Int))) (IntKind.bits .u32))))) (@Int.fdiv x0 ((2 : Int) ^ (min (Int.toNat (IntKind.wrap .u64 ((32 : Int) - (bits .and .u64 (IntKind.wrap .u64 k1) (31 : Int))))) (IntKind.bits .u32))))))
 else
  none
theorem math_bits_RotateLeft32_S (x0 : Int) (k1 : Int) : (runK Tryz.prog (Ev28 N) 400 72 [(.int .u32), (.int .i64)] [(.int .u32)] (x0, k1, ())).run = math_bits_RotateLeft32 N x0 k1 := by kernel_rfl
noncomputable def Ev29 : (R : Type) → Env R := Env.addFn (Ev28 N) 72 (fun R => fnK [(.int .u32), (.int .i64)] [(.int .u32)] (fun c => math_bits_RotateLeft32 N c.1 c.2.1))
theorem Ev29_ok (R : Type) : EnvOK Tryz.prog (Ev29 N R) := EnvOK.addFn hmx (Ev28_ok N R) (Ev28_ok N _) (by kernel_rfl) (fun c => math_bits_RotateLeft32_S N c.1 c.2.1)
noncomputable def md4_behind_L4_I : LI := ⟨70, 0, [], ⟨[(3, .adr (.arr 4 (.int .u32))), (5, .adr (.arr 3 (.int .u32))), (6, .lit (.box 0 0)), (7, .lit (.box 1 0)), (8, .lit (.box 2 0)), (16, .ty (.int .i64))], [.box 106 (.arr 4 (.int .u32)), .box 139 (.arr 16 (.int .u32)), .box 106 (.arr 4 (.int .u32))]⟩, [(.exit 0, ⟨[(3, .adr (.arr 4 (.int .u32))), (6, .lit (.box 0 0)), (8, .lit (.box 1 0))], [.box 106 (.arr 4 (.int .u32)), .box 106 (.arr 4 (.int .u32))]⟩)]⟩
noncomputable def md4_behind_L4 (X : (((Arr Int 4) × ((Arr Int 3) × (Int × Unit))) × ((Arr Int 4) × ((Arr Int 16) × ((Arr Int 4) × Unit)))) → Option ((((Arr Int 4) × Unit) × ((Arr Int 4) × ((Arr Int 4) × Unit))))) (s3 : Arr Int 4) (k5 : Arr Int 3) (x16 : Int) (h0 : Arr Int 4) (h1 : Arr Int 16) (h2 : Arr Int 4) : Option ((((Arr Int 4) × Unit) × ((Arr Int 4) × ((Arr Int 4) × Unit)))) :=
 bif (decide (x16 < (48 : Int))) then
  Option.bind (h2.l[Int.toNat (0 : Int)]?) fun (v8 : Int) =>
  Option.bind (h2.l[Int.toNat (1 : Int)]?) fun (v9 : Int) =>
  Option.bind (h2.l[Int.toNat (2 : Int)]?) fun (v10 : Int) =>
  Option.bind (h2.l[Int.toNat (3 : Int)]?) fun (v11 : Int) =>
  Option.bind (md4_mixed N (IntKind.wrap .i64 (@Int.tdiv x16 (16 : Int))) v9 v10 v11) fun v12 =>
  Option.bind (md4_place N x16) fun v13 =>
  bif (decide ((0 : Int) ≤ v13 ∧ v13 < ((16 : Nat) : Int))) then
   Option.bind (h1.l[Int.toNat v13]?) fun (v14 : Int) =>
   Option.bind (getI k5.l (IntKind.wrap .i64 (@Int.tdiv x16 (16 : Int)))) fun (v15 : Int) =>
   Option.bind (h2.l[Int.toNat (3 : Int)]?) fun (v16 : Int) =>
   Option.bind (getI ([(@Arr.mk Int (4 : Nat) ([3, 7, 11, 19] : List Int) @globVs._proof_3), (@Arr.mk Int (4 : Nat) ([3, 5, 9, 13] : List Int) @globVs._proof_4), (@Arr.mk Int (4 : Nat) ([3, 9, 11, 15] : List Int) @globVs._proof_5)] : List ((Arr Int 4))) (IntKind.wrap .i64 (@Int.tdiv x16 (16 : Int)))) fun (v17 : (Arr Int 4)) =>
   Option.bind (getI v17.l (@Int.tmod x16 (4 : Int))) fun (v18 : Int) =>
   Option.bind (math_bits_RotateLeft32 N (IntKind.wrap .u32 ((IntKind.wrap .u32 ((IntKind.wrap .u32 (v8 + v12)) + v14)) + v15)) v18) fun v19 =>
   Option.bind (h2.l[Int.toNat (1 : Int)]?) fun (v20 : Int) =>
   Option.bind (h2.l[Int.toNat (2 : Int)]?) fun (v21 : Int) =>
   (X ((s3, (k5, ((IntKind.wrap .i64 (x16 + 1)), ()))), (h0, (h1, ((@Arr.cons Int (3 : Nat) v16 (@Arr.cons Int (2 : Nat) v19 (@Arr.cons Int (1 : Nat) v20 (@Arr.cons Int (0 : Nat) v21 (@Arr.nil Int))))), ())))))
  else
   none
 else
  some (((s3, ()), (h0, (h2, ()))))
noncomputable def md4_behind_L4_R (c : (((Arr Int 4) × ((Arr Int 3) × (Int × Unit))) × ((Arr Int 4) × ((Arr Int 16) × ((Arr Int 4) × Unit))))) : Option ((((Arr Int 4) × Unit) × ((Arr Int 4) × ((Arr Int 4) × Unit)))) := gl (fun X c => md4_behind_L4 N X c.1.1 c.1.2.1 c.1.2.2.1 c.2.1 c.2.2.1 c.2.2.2.1) N c
theorem md4_behind_L4_S (X : (((Arr Int 4) × ((Arr Int 3) × (Int × Unit))) × ((Arr Int 4) × ((Arr Int 16) × ((Arr Int 4) × Unit)))) → Option ((((Arr Int 4) × Unit) × ((Arr Int 4) × ((Arr Int 4) × Unit))))) (s3 : Arr Int 4) (k5 : Arr Int 3) (x16 : Int) (h0 : Arr Int 4) (h1 : Arr Int 16) (h2 : Arr Int 4) : (roundK Tryz.prog (Ev29 N) 400 [67] md4_behind_L4_I (loopAt Tryz.prog [67] 4) X ((s3, k5, x16, ()), (h0, h1, h2, ()))).run = md4_behind_L4 N X s3 k5 x16 h0 h1 h2 := by kernel_rfl
noncomputable def Ev30 : (R : Type) → Env R := Env.addLp (Ev29 N) [67] 0 4 (fun R => lpK Tryz.prog md4_behind_L4_I (fun X c => md4_behind_L4 N X c.1.1 c.1.2.1 c.1.2.2.1 c.2.1 c.2.2.1 c.2.2.2.1) N)
theorem Ev30_ok (R : Type) : EnvOK Tryz.prog (Ev30 N R) := EnvOK.addLp (Ev29_ok N R) (by kernel_rfl) (lpK_ok (li := md4_behind_L4_I) (G := fun X c => md4_behind_L4 N X c.1.1 c.1.2.1 c.1.2.2.1 c.2.1 c.2.2.1 c.2.2.2.1) hmx (Ev29_ok N _) (by kernel_rfl) loopAt_sub (fun (X : CT md4_behind_L4_I.sh → Option (OT md4_behind_L4_I.outs)) (c : CT md4_behind_L4_I.sh) => md4_behind_L4_S N X c.1.1 c.1.2.1 c.1.2.2.1 c.2.1 c.2.2.1 c.2.2.2.1) N)
noncomputable def md4_behind_L11_I : LI := ⟨70, 0, [], ⟨[(3, .adr (.arr 4 (.int .u32))), (6, .lit (.box 0 0)), (8, .lit (.box 1 0)), (57, .ty (.int .i64))], [.box 106 (.arr 4 (.int .u32)), .box 106 (.arr 4 (.int .u32))]⟩, [(.exit 2, ⟨[(6, .lit (.box 0 0)), (8, .lit (.box 1 0))], [.box 106 (.arr 4 (.int .u32)), .box 106 (.arr 4 (.int .u32))]⟩)]⟩
noncomputable def md4_behind_L11 (N : Nat) (X : (((Arr Int 4) × (Int × Unit)) × ((Arr Int 4) × ((Arr Int 4) × Unit))) → Option ((Unit × ((Arr Int 4) × ((Arr Int 4) × Unit))))) (s3 : Arr Int 4) (x57 : Int) (h0 : Arr Int 4) (h1 : Arr Int 4) : Option ((Unit × ((Arr Int 4) × ((Arr Int 4) × Unit)))) :=
 bif (decide (x57 < (4 : Int))) then
  bif (decide ((0 : Int) ≤ x57 ∧ x57 < ((4 : Nat) : Int))) then
   Option.bind (h1.l[Int.toNat x57]?) fun (v6 : Int) =>
   Option.bind (getI s3.l x57) fun (v7 : Int) =>
   bif (decide ((0 : Int) ≤ x57 ∧ x57 < ((4 : Nat) : Int))) then
    Option.bind (h1.l[Int.toNat x57]?) fun (v8 : Int) =>
    (X ((s3, ((IntKind.wrap .i64 (x57 + 1)), ())), (h0, ((h1.set (Int.toNat x57) (IntKind.wrap .u32 (v6 + v7))), ()))))
   else
    none
  else
   none
 else
  some (((), (h0, (h1, ()))))
noncomputable def md4_behind_L11_R (c : (((Arr Int 4) × (Int × Unit)) × ((Arr Int 4) × ((Arr Int 4) × Unit)))) : Option ((Unit × ((Arr Int 4) × ((Arr Int 4) × Unit)))) := gl (fun X c => md4_behind_L11 N X c.1.1 c.1.2.1 c.2.1 c.2.2.1) N c
theorem md4_behind_L11_S (X : (((Arr Int 4) × (Int × Unit)) × ((Arr Int 4) × ((Arr Int 4) × Unit))) → Option ((Unit × ((Arr Int 4) × ((Arr Int 4) × Unit))))) (s3 : Arr Int 4) (x57 : Int) (h0 : Arr Int 4) (h1 : Arr Int 4) : (roundK Tryz.prog (Ev30 N) 400 [67] md4_behind_L11_I (loopAt Tryz.prog [67] 11) X ((s3, x57, ()), (h0, h1, ()))).run = md4_behind_L11 N X s3 x57 h0 h1 := by kernel_rfl
noncomputable def Ev31 : (R : Type) → Env R := Env.addLp (Ev30 N) [67] 0 11 (fun R => lpK Tryz.prog md4_behind_L11_I (fun X c => md4_behind_L11 N X c.1.1 c.1.2.1 c.2.1 c.2.2.1) N)
theorem Ev31_ok (R : Type) : EnvOK Tryz.prog (Ev31 N R) := EnvOK.addLp (Ev30_ok N R) (by kernel_rfl) (lpK_ok (li := md4_behind_L11_I) (G := fun X c => md4_behind_L11 N X c.1.1 c.1.2.1 c.2.1 c.2.2.1) hmx (Ev30_ok N _) (by kernel_rfl) loopAt_sub (fun (X : CT md4_behind_L11_I.sh → Option (OT md4_behind_L11_I.outs)) (c : CT md4_behind_L11_I.sh) => md4_behind_L11_S N X c.1.1 c.1.2.1 c.2.1 c.2.2.1) N)
noncomputable def md4_behind (s0 : Arr Int 4) (b1 : Arr Int 64) (k2 : Arr Int 3) : Option (Arr Int 4) :=
 Option.bind (md4_words N b1) fun v4 =>
 Option.bind (md4_behind_L4_R N ((s0, (k2, ((0 : Int), ()))), ((@Arr.cons Int 3 0 (@Arr.cons Int 2 0 (@Arr.cons Int 1 0 (@Arr.cons Int 0 0 (@Arr.nil Int))))), (v4, (s0, ()))))) fun v5 =>
 Option.bind (md4_behind_L11_R N ((v5.1.1, ((0 : Int), ())), (v5.2.1, (v5.2.2.1, ())))) fun v6 =>
 some (v6.2.2.1)
theorem md4_behind_S (s0 : Arr Int 4) (b1 : Arr Int 64) (k2 : Arr Int 3) : (runK Tryz.prog (Ev31 N) 400 67 [(.arr 4 (.int .u32)), (.arr 64 (.int .u8)), (.arr 3 (.int .u32))] [(.arr 4 (.int .u32))] (s0, b1, k2, ())).run = md4_behind N s0 b1 k2 := by kernel_rfl
noncomputable def Ev32 : (R : Type) → Env R := Env.addFn (Ev31 N) 67 (fun R => fnK [(.arr 4 (.int .u32)), (.arr 64 (.int .u8)), (.arr 3 (.int .u32))] [(.arr 4 (.int .u32))] (fun c => md4_behind N c.1 c.2.1 c.2.2.1))
theorem Ev32_ok (R : Type) : EnvOK Tryz.prog (Ev32 N R) := EnvOK.addFn hmx (Ev31_ok N R) (Ev31_ok N _) (by kernel_rfl) (fun c => md4_behind_S N c.1 c.2.1 c.2.2.1)
noncomputable def md4_Of_L5_I : LI := ⟨35, 0, [], ⟨[(2, .lit (.box 0 0)), (3, .ty (.sl (.int .u8))), (4, .lit (.box 1 0)), (5, .lit (.box 2 0)), (6, .ty (.int .i64))], [.box 22 (.arr 16 (.int .u8)), .box 106 (.arr 4 (.int .u32)), .box 108 (.arr 3 (.int .u32))]⟩, [(.exit 0, ⟨[(2, .lit (.box 0 0)), (4, .lit (.box 1 0))], [.box 22 (.arr 16 (.int .u8)), .box 106 (.arr 4 (.int .u32))]⟩)]⟩
noncomputable def md4_Of_L5 (X : (((List Int) × (Int × Unit)) × ((Arr Int 16) × ((Arr Int 4) × ((Arr Int 3) × Unit)))) → Option ((Unit × ((Arr Int 16) × ((Arr Int 4) × Unit))))) (all3 : List (Int)) (i6 : Int) (h0 : Arr Int 16) (h1 : Arr Int 4) (h2 : Arr Int 3) : Option ((Unit × ((Arr Int 16) × ((Arr Int 4) × Unit)))) :=
 bif (decide (i6 < (((List.length all3) : Nat) : Int))) then
  Option.bind (subI all3 i6 (IntKind.wrap .i64 (i6 + 64))) fun (v7 : (List Int)) =>
  Option.bind (@toArr Int (64 : Nat) v7) fun (v8 : (Arr Int 64)) =>
  Option.bind (md4_behind N h1 v8 h2) fun v9 =>
  (X ((all3, ((IntKind.wrap .i64 (i6 + 64)), ())), (h0, (v9, (h2, ())))))
 else
  some (((), (h0, (h1, ()))))
noncomputable def md4_Of_L5_R (c : (((List Int) × (Int × Unit)) × ((Arr Int 16) × ((Arr Int 4) × ((Arr Int 3) × Unit))))) : Option ((Unit × ((Arr Int 16) × ((Arr Int 4) × Unit)))) := gl (fun X c => md4_Of_L5 N X c.1.1 c.1.2.1 c.2.1 c.2.2.1 c.2.2.2.1) N c
theorem md4_Of_L5_S (X : (((List Int) × (Int × Unit)) × ((Arr Int 16) × ((Arr Int 4) × ((Arr Int 3) × Unit)))) → Option ((Unit × ((Arr Int 16) × ((Arr Int 4) × Unit))))) (all3 : List (Int)) (i6 : Int) (h0 : Arr Int 16) (h1 : Arr Int 4) (h2 : Arr Int 3) : (roundK Tryz.prog (Ev32 N) 400 [46] md4_Of_L5_I (loopAt Tryz.prog [46] 5) X ((all3, i6, ()), (h0, h1, h2, ()))).run = md4_Of_L5 N X all3 i6 h0 h1 h2 := by kernel_rfl
noncomputable def Ev33 : (R : Type) → Env R := Env.addLp (Ev32 N) [46] 0 5 (fun R => lpK Tryz.prog md4_Of_L5_I (fun X c => md4_Of_L5 N X c.1.1 c.1.2.1 c.2.1 c.2.2.1 c.2.2.2.1) N)
theorem Ev33_ok (R : Type) : EnvOK Tryz.prog (Ev33 N R) := EnvOK.addLp (Ev32_ok N R) (by kernel_rfl) (lpK_ok (li := md4_Of_L5_I) (G := fun X c => md4_Of_L5 N X c.1.1 c.1.2.1 c.2.1 c.2.2.1 c.2.2.2.1) hmx (Ev32_ok N _) (by kernel_rfl) loopAt_sub (fun (X : CT md4_Of_L5_I.sh → Option (OT md4_Of_L5_I.outs)) (c : CT md4_Of_L5_I.sh) => md4_Of_L5_S N X c.1.1 c.1.2.1 c.2.1 c.2.2.1 c.2.2.2.1) N)
noncomputable def Ev34 : (R : Type) → Env R := Env.addBx (Ev33 N) [(68, 0)]
theorem Ev34_ok (R : Type) : EnvOK Tryz.prog (Ev34 N R) := EnvOK.addBx (Ev33_ok N R) [(68, 0)]
noncomputable def md4_digest_L3_I : LI := ⟨25, 0, [(3, 5)], ⟨[(2, .lit (.box 0 0)), (3, .lit (.own 1)), (8, .ty (.arr 4 (.int .u32))), (9, .ty (.int .i64))], [.box 22 (.arr 16 (.int .u8)), .own (.int .u8) 5]⟩, [(.exit 0, ⟨[(2, .lit (.box 0 0)), (3, .lit (.own 1))], [.box 22 (.arr 16 (.int .u8)), .own (.int .u8) 5]⟩)]⟩
noncomputable def md4_digest_L3 (X : (((Arr Int 4) × (Int × Unit)) × ((Arr Int 16) × ((List Int) × Unit))) → Option ((Unit × ((Arr Int 16) × ((List Int) × Unit))))) (x8 : Arr Int 4) (x9 : Int) (h0 : Arr Int 16) (h1 : List (Int)) : Option ((Unit × ((Arr Int 16) × ((List Int) × Unit)))) :=
 bif (decide (x9 < (4 : Int))) then
  Option.bind (getI x8.l x9) fun (v6 : Int) =>
  Option.bind (octs_Put N (IntKind.wrap .u64 v6) (4 : Int) true) fun v7 =>
  bif (roomB ((List.length h1) + (List.length v7.1)) 1) then
   (X ((x8, ((IntKind.wrap .i64 (x9 + 1)), ())), (h0, ((h1 ++ v7.1), ()))))
  else
   none
 else
  some (((), (h0, (h1, ()))))
noncomputable def md4_digest_L3_R (c : (((Arr Int 4) × (Int × Unit)) × ((Arr Int 16) × ((List Int) × Unit)))) : Option ((Unit × ((Arr Int 16) × ((List Int) × Unit)))) := gl (fun X c => md4_digest_L3 N X c.1.1 c.1.2.1 c.2.1 c.2.2.1) N c
theorem md4_digest_L3_S (X : (((Arr Int 4) × (Int × Unit)) × ((Arr Int 16) × ((List Int) × Unit))) → Option ((Unit × ((Arr Int 16) × ((List Int) × Unit))))) (x8 : Arr Int 4) (x9 : Int) (h0 : Arr Int 16) (h1 : List (Int)) : (roundK Tryz.prog (Ev34 N) 400 [68] md4_digest_L3_I (loopAt Tryz.prog [68] 3) X ((x8, x9, ()), (h0, h1, ()))).run = md4_digest_L3 N X x8 x9 h0 h1 := by kernel_rfl
noncomputable def Ev35 : (R : Type) → Env R := Env.addLp (Ev34 N) [68] 0 3 (fun R => lpK Tryz.prog md4_digest_L3_I (fun X c => md4_digest_L3 N X c.1.1 c.1.2.1 c.2.1 c.2.2.1) N)
theorem Ev35_ok (R : Type) : EnvOK Tryz.prog (Ev35 N R) := EnvOK.addLp (Ev34_ok N R) (by kernel_rfl) (lpK_ok (li := md4_digest_L3_I) (G := fun X c => md4_digest_L3 N X c.1.1 c.1.2.1 c.2.1 c.2.2.1) hmx (Ev34_ok N _) (by kernel_rfl) loopAt_sub (fun (X : CT md4_digest_L3_I.sh → Option (OT md4_digest_L3_I.outs)) (c : CT md4_digest_L3_I.sh) => md4_digest_L3_S N X c.1.1 c.1.2.1 c.2.1 c.2.2.1) N)
noncomputable def md4_digest (s0 : Arr Int 4) : Option (Arr Int 16) :=
 Option.bind (md4_digest_L3_R N ((s0, ((0 : Int), ())), ((@Arr.cons Int 15 0 (@Arr.cons Int 14 0 (@Arr.cons Int 13 0 (@Arr.cons Int 12 0 (@Arr.cons Int 11 0 (@Arr.cons Int 10 0 (@Arr.cons Int 9 0 (@Arr.cons Int 8 0 (@Arr.cons Int 7 0 (@Arr.cons Int 6 0 (@Arr.cons Int 5 0 (@Arr.cons Int 4 0 (@Arr.cons Int 3 0 (@Arr.cons Int 2 0 (@Arr.cons Int 1 0 (@Arr.cons Int 0 0 (@Arr.nil Int))))))))))))))))), (([] : List Int), ())))) fun v2 =>
 Option.bind (@toArr Int (16 : Nat) v2.2.2.1) fun (v3 : (Arr Int 16)) =>
 some (v3)
theorem md4_digest_S (s0 : Arr Int 4) : (runK Tryz.prog (Ev35 N) 400 68 [(.arr 4 (.int .u32))] [(.arr 16 (.int .u8))] (s0, ())).run = md4_digest N s0 := by kernel_rfl
noncomputable def Ev36 : (R : Type) → Env R := Env.addFn (Ev35 N) 68 (fun R => fnK [(.arr 4 (.int .u32))] [(.arr 16 (.int .u8))] (fun c => md4_digest N c.1))
theorem Ev36_ok (R : Type) : EnvOK Tryz.prog (Ev36 N R) := EnvOK.addFn hmx (Ev35_ok N R) (Ev35_ok N _) (by kernel_rfl) (fun c => md4_digest_S N c.1)
noncomputable def md4_Of (parts0 : List (List Int)) : Option (Arr Int 16) :=
 Option.bind (md4_Of_1_octs_Join_L3_R N ((parts0, ((0 : Int), (parts0, ((((List.length parts0) : Nat) : Int), ((0 : Int), ()))))), ((@Arr.cons Int 15 0 (@Arr.cons Int 14 0 (@Arr.cons Int 13 0 (@Arr.cons Int 12 0 (@Arr.cons Int 11 0 (@Arr.cons Int 10 0 (@Arr.cons Int 9 0 (@Arr.cons Int 8 0 (@Arr.cons Int 7 0 (@Arr.cons Int 6 0 (@Arr.cons Int 5 0 (@Arr.cons Int 4 0 (@Arr.cons Int 3 0 (@Arr.cons Int 2 0 (@Arr.cons Int 1 0 (@Arr.cons Int 0 0 (@Arr.nil Int))))))))))))))))), ()))) fun v2 =>
 bif ((decide ((0 : Int) ≤ (0 : Int) ∧ (0 : Int) ≤ v2.1.2.1)) && (roomB (Int.toNat v2.1.2.1) 1)) then
  Option.bind (md4_Of_1_octs_Join_L9_R N ((v2.1.1, ((((List.length v2.1.1) : Nat) : Int), ((0 : Int), ()))), (v2.2.1, ((@List.replicate Int (Int.toNat (0 : Int)) (0 : Int)), ())))) fun v3 =>
  Option.bind (md4_Tail N (IntKind.wrap .u64 (((List.length v3.2.2.1) : Nat) : Int))) fun v4 =>
  bif (roomB ((List.length v3.2.2.1) + (List.length v4)) 1) then
   Option.bind (@md4_constants N) fun (v5 : (Arr Int 3)) =>
   Option.bind (md4_Of_L5_R N (((v3.2.2.1 ++ v4), ((0 : Int), ())), (v3.2.1, ((@Arr.cons Int 3 1732584193 (@Arr.cons Int 2 4023233417 (@Arr.cons Int 1 2562383102 (@Arr.cons Int 0 271733878 (@Arr.nil Int))))), (v5, ()))))) fun v6 =>
   Option.bind (md4_digest N v6.2.2.1) fun v7 =>
   some (v7)
  else
   none
 else
  none
theorem md4_Of_S (parts0 : List (List Int)) : (runK Tryz.prog (Ev36 N) 400 46 [(.sl (.sl (.int .u8)))] [(.arr 16 (.int .u8))] (parts0, ())).run = md4_Of N parts0 := by kernel_rfl
noncomputable def Ev37 : (R : Type) → Env R := Env.addFn (Ev36 N) 46 (fun R => fnK [(.sl (.sl (.int .u8)))] [(.arr 16 (.int .u8))] (fun c => md4_Of N c.1))
theorem Ev37_ok (R : Type) : EnvOK Tryz.prog (Ev37 N R) := EnvOK.addFn hmx (Ev36_ok N R) (Ev36_ok N _) (by kernel_rfl) (fun c => md4_Of_S N c.1)
noncomputable def sha1_Tail_3_octs_Join_L3_I : LI := ⟨33, 1, [], ⟨[(0, .ty (.sl (.sl (.int .u8)))), (3, .ty (.int .i64)), (9, .ty (.sl (.sl (.int .u8)))), (10, .ty (.int .i64)), (11, .ty (.int .i64))], [.dead]⟩, [(.exit 0, ⟨[(0, .ty (.sl (.sl (.int .u8)))), (3, .ty (.int .i64))], [.dead]⟩)]⟩
noncomputable def sha1_Tail_3_octs_Join_L3 (N : Nat) (X : (((List (List Int)) × (Int × ((List (List Int)) × (Int × (Int × Unit))))) × Unit) → Option ((((List (List Int)) × (Int × Unit)) × Unit))) (parts0 : List (List Int)) (size3 : Int) (x9 : List (List Int)) (x10 : Int) (x11 : Int) : Option ((((List (List Int)) × (Int × Unit)) × Unit)) :=
 bif (decide (x11 < x10)) then
  Option.bind (getI x9 x11) fun (v7 : (List Int)) =>
  (X ((parts0, ((IntKind.wrap .i64 (size3 + (((List.length v7) : Nat) : Int))), (x9, (x10, ((IntKind.wrap .i64 (x11 + 1)), ()))))), ()))
 else
  some (((parts0, (size3, ())), ()))
noncomputable def sha1_Tail_3_octs_Join_L3_R (c : (((List (List Int)) × (Int × ((List (List Int)) × (Int × (Int × Unit))))) × Unit)) : Option ((((List (List Int)) × (Int × Unit)) × Unit)) := gl (fun X c => sha1_Tail_3_octs_Join_L3 N X c.1.1 c.1.2.1 c.1.2.2.1 c.1.2.2.2.1 c.1.2.2.2.2.1) N c
theorem sha1_Tail_3_octs_Join_L3_S (X : (((List (List Int)) × (Int × ((List (List Int)) × (Int × (Int × Unit))))) × Unit) → Option ((((List (List Int)) × (Int × Unit)) × Unit))) (parts0 : List (List Int)) (size3 : Int) (x9 : List (List Int)) (x10 : Int) (x11 : Int) : (roundK Tryz.prog (Ev37 N) 400 [33, 3, 47] sha1_Tail_3_octs_Join_L3_I (loopAt Tryz.prog [33, 3, 47] 3) X ((parts0, size3, x9, x10, x11, ()), ())).run = sha1_Tail_3_octs_Join_L3 N X parts0 size3 x9 x10 x11 := by kernel_rfl
noncomputable def Ev38 : (R : Type) → Env R := Env.addLp (Ev37 N) [33, 3, 47] 1 3 (fun R => lpK Tryz.prog sha1_Tail_3_octs_Join_L3_I (fun X c => sha1_Tail_3_octs_Join_L3 N X c.1.1 c.1.2.1 c.1.2.2.1 c.1.2.2.2.1 c.1.2.2.2.2.1) N)
theorem Ev38_ok (R : Type) : EnvOK Tryz.prog (Ev38 N R) := EnvOK.addLp (Ev37_ok N R) (by kernel_rfl) (lpK_ok (li := sha1_Tail_3_octs_Join_L3_I) (G := fun X c => sha1_Tail_3_octs_Join_L3 N X c.1.1 c.1.2.1 c.1.2.2.1 c.1.2.2.2.1 c.1.2.2.2.2.1) hmx (Ev37_ok N _) (by kernel_rfl) loopAt_sub (fun (X : CT sha1_Tail_3_octs_Join_L3_I.sh → Option (OT sha1_Tail_3_octs_Join_L3_I.outs)) (c : CT sha1_Tail_3_octs_Join_L3_I.sh) => sha1_Tail_3_octs_Join_L3_S N X c.1.1 c.1.2.1 c.1.2.2.1 c.1.2.2.2.1 c.1.2.2.2.2.1) N)
noncomputable def sha1_Tail_3_octs_Join_L9_I : LI := ⟨33, 1, [], ⟨[(6, .lit (.own 1)), (22, .ty (.sl (.sl (.int .u8)))), (23, .ty (.int .i64)), (24, .ty (.int .i64))], [.dead, .own (.int .u8) 5]⟩, [(.exit 2, ⟨[(6, .lit (.own 1))], [.dead, .own (.int .u8) 5]⟩)]⟩
noncomputable def sha1_Tail_3_octs_Join_L9 (N : Nat) (X : (((List (List Int)) × (Int × (Int × Unit))) × ((List Int) × Unit)) → Option ((Unit × ((List Int) × Unit)))) (x22 : List (List Int)) (x23 : Int) (x24 : Int) (h0 : List (Int)) : Option ((Unit × ((List Int) × Unit))) :=
 bif (decide (x24 < x23)) then
  Option.bind (getI x22 x24) fun (v6 : (List Int)) =>
  bif (roomB ((List.length h0) + (List.length v6)) 1) then
   (X ((x22, (x23, ((IntKind.wrap .i64 (x24 + 1)), ()))), ((h0 ++ v6), ())))
  else
   none
 else
  some (((), (h0, ())))
noncomputable def sha1_Tail_3_octs_Join_L9_R (c : (((List (List Int)) × (Int × (Int × Unit))) × ((List Int) × Unit))) : Option ((Unit × ((List Int) × Unit))) := gl (fun X c => sha1_Tail_3_octs_Join_L9 N X c.1.1 c.1.2.1 c.1.2.2.1 c.2.1) N c
theorem sha1_Tail_3_octs_Join_L9_S (X : (((List (List Int)) × (Int × (Int × Unit))) × ((List Int) × Unit)) → Option ((Unit × ((List Int) × Unit)))) (x22 : List (List Int)) (x23 : Int) (x24 : Int) (h0 : List (Int)) : (roundK Tryz.prog (Ev38 N) 400 [33, 3, 47] sha1_Tail_3_octs_Join_L9_I (loopAt Tryz.prog [33, 3, 47] 9) X ((x22, x23, x24, ()), (h0, ()))).run = sha1_Tail_3_octs_Join_L9 N X x22 x23 x24 h0 := by kernel_rfl
noncomputable def Ev39 : (R : Type) → Env R := Env.addLp (Ev38 N) [33, 3, 47] 1 9 (fun R => lpK Tryz.prog sha1_Tail_3_octs_Join_L9_I (fun X c => sha1_Tail_3_octs_Join_L9 N X c.1.1 c.1.2.1 c.1.2.2.1 c.2.1) N)
theorem Ev39_ok (R : Type) : EnvOK Tryz.prog (Ev39 N R) := EnvOK.addLp (Ev38_ok N R) (by kernel_rfl) (lpK_ok (li := sha1_Tail_3_octs_Join_L9_I) (G := fun X c => sha1_Tail_3_octs_Join_L9 N X c.1.1 c.1.2.1 c.1.2.2.1 c.2.1) hmx (Ev38_ok N _) (by kernel_rfl) loopAt_sub (fun (X : CT sha1_Tail_3_octs_Join_L9_I.sh → Option (OT sha1_Tail_3_octs_Join_L9_I.outs)) (c : CT sha1_Tail_3_octs_Join_L9_I.sh) => sha1_Tail_3_octs_Join_L9_S N X c.1.1 c.1.2.1 c.1.2.2.1 c.2.1) N)
noncomputable def sha1_Tail (n0 : Int) : Option (List Int) :=
 Option.bind (octs_Put N (IntKind.wrap .u64 ((8 : Int) * n0)) (8 : Int) false) fun v2 =>
 bif ((decide ((0 : Int) ≤ (@Int.tmod (IntKind.wrap .u64 ((119 : Int) - (@Int.tmod n0 (64 : Int)))) (64 : Int)) ∧ (@Int.tmod (IntKind.wrap .u64 ((119 : Int) - (@Int.tmod n0 (64 : Int)))) (64 : Int)) ≤ (@Int.tmod (IntKind.wrap .u64 ((119 : Int) - (@Int.tmod n0 (64 : Int)))) (64 : Int)))) && (roomB (Int.toNat (@Int.tmod (IntKind.wrap .u64 ((119 : Int) - (@Int.tmod n0 (64 : Int)))) (64 : Int))) 1)) then
  Option.bind (sha1_Tail_3_octs_Join_L3_R N ((([([128] : List Int), (@List.replicate Int (Int.toNat (@Int.tmod (IntKind.wrap .u64 ((119 : Int) - (@Int.tmod n0 (64 : Int)))) (64 : Int))) (0 : Int)), v2.1] : List ((List Int))), ((0 : Int), (([([128] : List Int), (@List.replicate Int (Int.toNat (@Int.tmod (IntKind.wrap .u64 ((119 : Int) - (@Int.tmod n0 (64 : Int)))) (64 : Int))) (0 : Int)), v2.1] : List ((List Int))), ((((List.length ([([128] : List Int), (@List.replicate Int (Int.toNat (@Int.tmod (IntKind.wrap .u64 ((119 : Int) - (@Int.tmod n0 (64 : Int)))) (64 : Int))) (0 : Int)), v2.1] : List ((List Int)))) : Nat) : Int), ((0 : Int), ()))))), ())) fun v3 =>
  bif ((decide ((0 : Int) ≤ (0 : Int) ∧ (0 : Int) ≤ v3.1.2.1)) && (roomB (Int.toNat v3.1.2.1) 1)) then
   Option.bind (sha1_Tail_3_octs_Join_L9_R N ((v3.1.1, ((((List.length v3.1.1) : Nat) : Int), ((0 : Int), ()))), ((@List.replicate Int (Int.toNat (0 : Int)) (0 : Int)), ()))) fun v4 =>
   some (v4.2.1)
  else
   none
 else
  none
theorem sha1_Tail_S (n0 : Int) : (runK Tryz.prog (Ev39 N) 400 47 [(.int .u64)] [(.sl (.int .u8))] (n0, ())).run = sha1_Tail N n0 := by kernel_rfl
noncomputable def Ev40 : (R : Type) → Env R := Env.addFn (Ev39 N) 47 (fun R => fnK [(.int .u64)] [(.sl (.int .u8))] (fun c => sha1_Tail N c.1))
theorem Ev40_ok (R : Type) : EnvOK Tryz.prog (Ev40 N R) := EnvOK.addFn hmx (Ev39_ok N R) (Ev39_ok N _) (by kernel_rfl) (fun c => sha1_Tail_S N c.1)
noncomputable def sha1_First (N : Nat) : Option (Arr Int 5) :=
 some ((@Arr.cons Int 4 1732584193 (@Arr.cons Int 3 4023233417 (@Arr.cons Int 2 2562383102 (@Arr.cons Int 1 271733878 (@Arr.cons Int 0 3285377520 (@Arr.nil Int)))))))
theorem sha1_First_S : (runK Tryz.prog (Ev40 N) 400 48 [] [(.arr 5 (.int .u32))] ()).run = sha1_First N  := by kernel_rfl
noncomputable def Ev41 : (R : Type) → Env R := Env.addFn (Ev40 N) 48 (fun R => fnK [] [(.arr 5 (.int .u32))] (fun c => sha1_First N ))
theorem Ev41_ok (R : Type) : EnvOK Tryz.prog (Ev41 N R) := EnvOK.addFn hmx (Ev40_ok N R) (Ev40_ok N _) (by kernel_rfl) (fun c => sha1_First_S N )
noncomputable def sha1_Of_1_octs_Join_L3_I : LI := ⟨33, 1, [], ⟨[(0, .ty (.sl (.sl (.int .u8)))), (3, .ty (.int .i64)), (9, .ty (.sl (.sl (.int .u8)))), (10, .ty (.int .i64)), (11, .ty (.int .i64))], [.box 70 (.arr 20 (.int .u8))]⟩, [(.exit 0, ⟨[(0, .ty (.sl (.sl (.int .u8)))), (3, .ty (.int .i64))], [.box 70 (.arr 20 (.int .u8))]⟩)]⟩
noncomputable def sha1_Of_1_octs_Join_L3 (N : Nat) (X : (((List (List Int)) × (Int × ((List (List Int)) × (Int × (Int × Unit))))) × ((Arr Int 20) × Unit)) → Option ((((List (List Int)) × (Int × Unit)) × ((Arr Int 20) × Unit)))) (parts0 : List (List Int)) (size3 : Int) (x9 : List (List Int)) (x10 : Int) (x11 : Int) (h0 : Arr Int 20) : Option ((((List (List Int)) × (Int × Unit)) × ((Arr Int 20) × Unit))) :=
 bif (decide (x11 < x10)) then
  Option.bind (getI x9 x11) fun (v8 : (List Int)) =>
  (X ((parts0, ((IntKind.wrap .i64 (size3 + (((List.length v8) : Nat) : Int))), (x9, (x10, ((IntKind.wrap .i64 (x11 + 1)), ()))))), (h0, ())))
 else
  some (((parts0, (size3, ())), (h0, ())))
noncomputable def sha1_Of_1_octs_Join_L3_R (c : (((List (List Int)) × (Int × ((List (List Int)) × (Int × (Int × Unit))))) × ((Arr Int 20) × Unit))) : Option ((((List (List Int)) × (Int × Unit)) × ((Arr Int 20) × Unit))) := gl (fun X c => sha1_Of_1_octs_Join_L3 N X c.1.1 c.1.2.1 c.1.2.2.1 c.1.2.2.2.1 c.1.2.2.2.2.1 c.2.1) N c
theorem sha1_Of_1_octs_Join_L3_S (X : (((List (List Int)) × (Int × ((List (List Int)) × (Int × (Int × Unit))))) × ((Arr Int 20) × Unit)) → Option ((((List (List Int)) × (Int × Unit)) × ((Arr Int 20) × Unit)))) (parts0 : List (List Int)) (size3 : Int) (x9 : List (List Int)) (x10 : Int) (x11 : Int) (h0 : Arr Int 20) : (roundK Tryz.prog (Ev41 N) 400 [33, 1, 35] sha1_Of_1_octs_Join_L3_I (loopAt Tryz.prog [33, 1, 35] 3) X ((parts0, size3, x9, x10, x11, ()), (h0, ()))).run = sha1_Of_1_octs_Join_L3 N X parts0 size3 x9 x10 x11 h0 := by kernel_rfl
noncomputable def Ev42 : (R : Type) → Env R := Env.addLp (Ev41 N) [33, 1, 35] 1 3 (fun R => lpK Tryz.prog sha1_Of_1_octs_Join_L3_I (fun X c => sha1_Of_1_octs_Join_L3 N X c.1.1 c.1.2.1 c.1.2.2.1 c.1.2.2.2.1 c.1.2.2.2.2.1 c.2.1) N)
theorem Ev42_ok (R : Type) : EnvOK Tryz.prog (Ev42 N R) := EnvOK.addLp (Ev41_ok N R) (by kernel_rfl) (lpK_ok (li := sha1_Of_1_octs_Join_L3_I) (G := fun X c => sha1_Of_1_octs_Join_L3 N X c.1.1 c.1.2.1 c.1.2.2.1 c.1.2.2.2.1 c.1.2.2.2.2.1 c.2.1) hmx (Ev41_ok N _) (by kernel_rfl) loopAt_sub (fun (X : CT sha1_Of_1_octs_Join_L3_I.sh → Option (OT sha1_Of_1_octs_Join_L3_I.outs)) (c : CT sha1_Of_1_octs_Join_L3_I.sh) => sha1_Of_1_octs_Join_L3_S N X c.1.1 c.1.2.1 c.1.2.2.1 c.1.2.2.2.1 c.1.2.2.2.2.1 c.2.1) N)
noncomputable def sha1_Of_1_octs_Join_L9_I : LI := ⟨33, 1, [], ⟨[(6, .lit (.own 1)), (22, .ty (.sl (.sl (.int .u8)))), (23, .ty (.int .i64)), (24, .ty (.int .i64))], [.box 70 (.arr 20 (.int .u8)), .own (.int .u8) 5]⟩, [(.exit 2, ⟨[(6, .lit (.own 1))], [.box 70 (.arr 20 (.int .u8)), .own (.int .u8) 5]⟩)]⟩
noncomputable def sha1_Of_1_octs_Join_L9 (N : Nat) (X : (((List (List Int)) × (Int × (Int × Unit))) × ((Arr Int 20) × ((List Int) × Unit))) → Option ((Unit × ((Arr Int 20) × ((List Int) × Unit))))) (x22 : List (List Int)) (x23 : Int) (x24 : Int) (h0 : Arr Int 20) (h1 : List (Int)) : Option ((Unit × ((Arr Int 20) × ((List Int) × Unit)))) :=
 bif (decide (x24 < x23)) then
  Option.bind (getI x22 x24) fun (v7 : (List Int)) =>
  bif (roomB ((List.length h1) + (List.length v7)) 1) then
   (X ((x22, (x23, ((IntKind.wrap .i64 (x24 + 1)), ()))), (h0, ((h1 ++ v7), ()))))
  else
   none
 else
  some (((), (h0, (h1, ()))))
noncomputable def sha1_Of_1_octs_Join_L9_R (c : (((List (List Int)) × (Int × (Int × Unit))) × ((Arr Int 20) × ((List Int) × Unit)))) : Option ((Unit × ((Arr Int 20) × ((List Int) × Unit)))) := gl (fun X c => sha1_Of_1_octs_Join_L9 N X c.1.1 c.1.2.1 c.1.2.2.1 c.2.1 c.2.2.1) N c
theorem sha1_Of_1_octs_Join_L9_S (X : (((List (List Int)) × (Int × (Int × Unit))) × ((Arr Int 20) × ((List Int) × Unit))) → Option ((Unit × ((Arr Int 20) × ((List Int) × Unit))))) (x22 : List (List Int)) (x23 : Int) (x24 : Int) (h0 : Arr Int 20) (h1 : List (Int)) : (roundK Tryz.prog (Ev42 N) 400 [33, 1, 35] sha1_Of_1_octs_Join_L9_I (loopAt Tryz.prog [33, 1, 35] 9) X ((x22, x23, x24, ()), (h0, h1, ()))).run = sha1_Of_1_octs_Join_L9 N X x22 x23 x24 h0 h1 := by kernel_rfl
noncomputable def Ev43 : (R : Type) → Env R := Env.addLp (Ev42 N) [33, 1, 35] 1 9 (fun R => lpK Tryz.prog sha1_Of_1_octs_Join_L9_I (fun X c => sha1_Of_1_octs_Join_L9 N X c.1.1 c.1.2.1 c.1.2.2.1 c.2.1 c.2.2.1) N)
theorem Ev43_ok (R : Type) : EnvOK Tryz.prog (Ev43 N R) := EnvOK.addLp (Ev42_ok N R) (by kernel_rfl) (lpK_ok (li := sha1_Of_1_octs_Join_L9_I) (G := fun X c => sha1_Of_1_octs_Join_L9 N X c.1.1 c.1.2.1 c.1.2.2.1 c.2.1 c.2.2.1) hmx (Ev42_ok N _) (by kernel_rfl) loopAt_sub (fun (X : CT sha1_Of_1_octs_Join_L9_I.sh → Option (OT sha1_Of_1_octs_Join_L9_I.outs)) (c : CT sha1_Of_1_octs_Join_L9_I.sh) => sha1_Of_1_octs_Join_L9_S N X c.1.1 c.1.2.1 c.1.2.2.1 c.2.1 c.2.2.1) N)
noncomputable def sha1_root (n0 : Int) : Option Int :=
 Option.bind (roots_Root N n0 (2 : Int) (30 : Int)) fun v2 =>
 some ((IntKind.wrap .u32 v2.1))
theorem sha1_root_S (n0 : Int) : (runK Tryz.prog (Ev43 N) 400 70 [(.int .i64)] [(.int .u32)] (n0, ())).run = sha1_root N n0 := by kernel_rfl
noncomputable def Ev44 : (R : Type) → Env R := Env.addFn (Ev43 N) 70 (fun R => fnK [(.int .i64)] [(.int .u32)] (fun c => sha1_root N c.1))
theorem Ev44_ok (R : Type) : EnvOK Tryz.prog (Ev44 N R) := EnvOK.addFn hmx (Ev43_ok N R) (Ev43_ok N _) (by kernel_rfl) (fun c => sha1_root_S N c.1)
noncomputable def sha1_constants : Option (Arr Int 4) :=
 Option.bind (sha1_root N (2 : Int)) fun v1 =>
 Option.bind (sha1_root N (3 : Int)) fun v2 =>
 Option.bind (sha1_root N (5 : Int)) fun v3 =>
 Option.bind (sha1_root N (10 : Int)) fun v4 =>
 some ((@Arr.cons Int (3 : Nat) v1 (@Arr.cons Int (2 : Nat) v2 (@Arr.cons Int (1 : Nat) v3 (@Arr.cons Int (0 : Nat) v4 (@Arr.nil Int))))))
theorem sha1_constants_S : (runK Tryz.prog (Ev44 N) 400 49 [] [(.arr 4 (.int .u32))] ()).run = sha1_constants N  := by kernel_rfl
noncomputable def Ev45 : (R : Type) → Env R := Env.addFn (Ev44 N) 49 (fun R => fnK [] [(.arr 4 (.int .u32))] (fun c => sha1_constants N ))
theorem Ev45_ok (R : Type) : EnvOK Tryz.prog (Ev45 N R) := EnvOK.addFn hmx (Ev44_ok N R) (Ev44_ok N _) (by kernel_rfl) (fun c => sha1_constants_S N )
noncomputable def Ev46 : (R : Type) → Env R := Env.addBx (Ev45 N) [(50, 0)]
theorem Ev46_ok (R : Type) : EnvOK Tryz.prog (Ev46 N R) := EnvOK.addBx (Ev45_ok N R) [(50, 0)]
noncomputable def Ev47 : (R : Type) → Env R := Env.addBx (Ev46 N) [(71, 0)]
theorem Ev47_ok (R : Type) : EnvOK Tryz.prog (Ev47 N R) := EnvOK.addBx (Ev46_ok N R) [(71, 0)]
noncomputable def sha1_words_L3_I : LI := ⟨50, 0, [], ⟨[(1, .adr (.arr 64 (.int .u8))), (2, .lit (.box 0 0)), (3, .lit (.box 1 0)), (7, .ty (.int .i64))], [.box 114 (.arr 80 (.int .u32)), .box 114 (.arr 80 (.int .u32))]⟩, [(.exit 0, ⟨[(2, .lit (.box 0 0)), (3, .lit (.box 1 0))], [.box 114 (.arr 80 (.int .u32)), .box 114 (.arr 80 (.int .u32))]⟩)]⟩
noncomputable def sha1_words_L3 (X : (((Arr Int 64) × (Int × Unit)) × ((Arr Int 80) × ((Arr Int 80) × Unit))) → Option ((Unit × ((Arr Int 80) × ((Arr Int 80) × Unit))))) (b1 : Arr Int 64) (x7 : Int) (h0 : Arr Int 80) (h1 : Arr Int 80) : Option ((Unit × ((Arr Int 80) × ((Arr Int 80) × Unit)))) :=
 bif (decide (x7 < (80 : Int))) then
  bif (decide (x7 < (16 : Int))) then
   Option.bind (subI b1.l (IntKind.wrap .i64 ((4 : Int) * x7)) (IntKind.wrap .i64 ((IntKind.wrap .i64 ((4 : Int) * x7)) + 4))) fun (v6 : (List Int)) =>
   Option.bind (octs_Get N v6 false) fun v7 =>
   bif (decide ((0 : Int) ≤ x7 ∧ x7 < ((80 : Nat) : Int))) then
    Option.bind (h1.l[Int.toNat x7]?) fun (v8 : Int) =>
    (X ((b1, ((IntKind.wrap .i64 (x7 + 1)), ())), (h0, ((h1.set (Int.toNat x7) (IntKind.wrap .u32 v7.1)), ()))))
   else
    none
  else
   bif (decide ((0 : Int) ≤ (IntKind.wrap .i64 (x7 - 3)) ∧ (IntKind.wrap .i64 (x7 - 3)) < ((80 : Nat) : Int))) then
    Option.bind (h1.l[Int.toNat (IntKind.wrap .i64 (x7 - 3))]?) fun (v6 : Int) =>
    bif (decide ((0 : Int) ≤ (IntKind.wrap .i64 (x7 - 8)) ∧ (IntKind.wrap .i64 (x7 - 8)) < ((80 : Nat) : Int))) then
     Option.bind (h1.l[Int.toNat (IntKind.wrap .i64 (x7 - 8))]?) fun (v7 : Int) =>
     bif (decide ((0 : Int) ≤ (IntKind.wrap .i64 (x7 - 14)) ∧ (IntKind.wrap .i64 (x7 - 14)) < ((80 : Nat) : Int))) then
      Option.bind (h1.l[Int.toNat (IntKind.wrap .i64 (x7 - 14))]?) fun (v8 : Int) =>
      bif (decide ((0 : Int) ≤ (IntKind.wrap .i64 (x7 - 16)) ∧ (IntKind.wrap .i64 (x7 - 16)) < ((80 : Nat) : Int))) then
       Option.bind (h1.l[Int.toNat (IntKind.wrap .i64 (x7 - 16))]?) fun (v9 : Int) =>
       bif (decide ((0 : Int) ≤ x7 ∧ x7 < ((80 : Nat) : Int))) then
        Option.bind (h1.l[Int.toNat x7]?) fun (v10 : Int) =>
        (X ((b1, ((IntKind.wrap .i64 (x7 + 1)), ())), (h0, ((h1.set (Int.toNat x7) (bits .or .u32 (IntKind.wrap .u32 ((bits .xor .u32 (bits .xor .u32 (bits .xor .u32 v6 v7) v8) v9) * ((2 : Int) ^ (min (Int.toNat (bits .and .u64 (IntKind.wrap .u64 (1 : Int)) (31 : Int))) (IntKind.bits .u32))))) (@Int.fdiv (bits .xor .u32 (bits .xor .u32 (bits .xor .u32 v6 v7) v8) v9) ((2 : Int) ^ (min (Int.toNat (IntKind.wrap .u64 ((32 : Int) - (bits .and .u64 (IntKind.wrap .u64 (1 : Int)) (31 : Int))))) (IntKind.bits .u32)))))), ()))))
       else
        none
      else
       none
     else
      none
    else
     none
   else
    none
 else
  some (((), (h0, (h1, ()))))
noncomputable def sha1_words_L3_R (c : (((Arr Int 64) × (Int × Unit)) × ((Arr Int 80) × ((Arr Int 80) × Unit)))) : Option ((Unit × ((Arr Int 80) × ((Arr Int 80) × Unit)))) := gl (fun X c => sha1_words_L3 N X c.1.1 c.1.2.1 c.2.1 c.2.2.1) N c
theorem sha1_words_L3_S (X : (((Arr Int 64) × (Int × Unit)) × ((Arr Int 80) × ((Arr Int 80) × Unit))) → Option ((Unit × ((Arr Int 80) × ((Arr Int 80) × Unit))))) (b1 : Arr Int 64) (x7 : Int) (h0 : Arr Int 80) (h1 : Arr Int 80) : (roundK Tryz.prog (Ev47 N) 400 [71] sha1_words_L3_I (loopAt Tryz.prog [71] 3) X ((b1, x7, ()), (h0, h1, ()))).run = sha1_words_L3 N X b1 x7 h0 h1 := by kernel_rfl
noncomputable def Ev48 : (R : Type) → Env R := Env.addLp (Ev47 N) [71] 0 3 (fun R => lpK Tryz.prog sha1_words_L3_I (fun X c => sha1_words_L3 N X c.1.1 c.1.2.1 c.2.1 c.2.2.1) N)
theorem Ev48_ok (R : Type) : EnvOK Tryz.prog (Ev48 N R) := EnvOK.addLp (Ev47_ok N R) (by kernel_rfl) (lpK_ok (li := sha1_words_L3_I) (G := fun X c => sha1_words_L3 N X c.1.1 c.1.2.1 c.2.1 c.2.2.1) hmx (Ev47_ok N _) (by kernel_rfl) loopAt_sub (fun (X : CT sha1_words_L3_I.sh → Option (OT sha1_words_L3_I.outs)) (c : CT sha1_words_L3_I.sh) => sha1_words_L3_S N X c.1.1 c.1.2.1 c.2.1 c.2.2.1) N)
noncomputable def sha1_words (b0 : Arr Int 64) : Option (Arr Int 80) :=
 Option.bind (sha1_words_L3_R N ((b0, ((0 : Int), ())), ((@Arr.cons Int 79 0 (@Arr.cons Int 78 0 (@Arr.cons Int 77 0 (@Arr.cons Int 76 0 (@Arr.cons Int 75 0 (@Arr.cons Int 74 0 (@Arr.cons Int 73 0 (@Arr.cons Int 72 0 (@Arr.cons Int 71 0 (@Arr.cons Int 70 0 (@Arr.cons Int 69 0 (@Arr.cons Int 68 0 (@Arr.cons Int 67 0 (@Arr.cons Int 66 0 (@Arr.cons Int 65 0 (@Arr.cons Int 64 0 (@Arr.cons Int 63 0 (@Arr.cons Int 62 0 (@Arr.cons Int 61 0 (@Arr.cons Int 60 0 (@Arr.cons Int 59 0 (@Arr.cons Int 58 0 (@Arr.cons Int 57 0 (@Arr.cons Int 56 0 (@Arr.cons Int 55 0 (@Arr.cons Int 54 0 (@Arr.cons Int 53 0 (@Arr.cons Int 52 0 (@Arr.cons Int 51 0 (@Arr.cons Int 50 0 (@Arr.cons Int 49 0 (@Arr.cons Int 48 0 (@Arr.cons Int 47 0 (@Arr.cons Int 46 0 (@Arr.cons Int 45 0 (@Arr.cons Int 44 0 (@Arr.cons Int 43 0 (@Arr.cons Int 42 0 (@Arr.cons Int 41 0 (@Arr.cons Int 40 0 (@Arr.cons Int 39 0 (@Arr.cons Int 38 0 (@Arr.cons Int 37 0 (@Arr.cons Int 36 0 (@Arr.cons Int 35 0 (@Arr.cons Int 34 0 (@Arr.cons Int 33 0 (@Arr.cons Int 32 0 (@Arr.cons Int 31 0 (@Arr.cons Int 30 0 (@Arr.cons Int 29 0 (@Arr.cons Int 28 0 (@Arr.cons Int 27 0 (@Arr.cons Int 26 0 (@Arr.cons Int 25 0 (@Arr.cons Int 24 0 (@Arr.cons Int 23 0 (@Arr.cons Int 22 0 (@Arr.cons Int 21 0 (@Arr.cons Int 20 0 (@Arr.cons Int 19 0 (@Arr.cons Int 18 0 (@Arr.cons Int 17 0 (@Arr.cons Int 16 0 (@Arr.cons Int 15 0 (@Arr.cons Int 14 0 (@Arr.cons Int 13 0 (@Arr.cons Int 12 0 (@Arr.cons Int 11 0 (@Arr.cons Int 10 0 (@Arr.cons Int 9 0 (@Arr.cons Int 8 0 (@Arr.cons Int 7 0 (@Arr.cons Int 6 0 (@Arr.cons Int 5 0 (@Arr.cons Int 4 0 (@Arr.cons Int 3 0 (@Arr.cons Int 2 0 (@Arr.cons Int 1 0 (@Arr.cons Int 0 0 (@Arr.nil Int))))))))))))))))))))))))))))))))))))))))))))))))))))))))))))))))))))))))))))))))), ((@Arr.cons Int 79 0 (@Arr.cons Int 78 0 (@Arr.cons Int 77 0 (@Arr.cons Int 76 0 (@Arr.cons Int 75 0 (@Arr.cons Int 74 0 (@Arr.cons Int 73 0 (@Arr.cons Int 72 0 (@Arr.cons Int 71 0 (@Arr.cons Int 70 0 (@Arr.cons Int 69 0 (@Arr.cons Int 68 0 (@Arr.cons Int 67 0 (@Arr.cons Int 66 0 (@Arr.cons Int 65 0 (@Arr.cons Int 64 0 (@Arr.cons Int 63 0 (@Arr.cons Int 62 0 (@Arr.cons Int 61 0 (@Arr.cons Int 60 0 (@Arr.cons Int 59 0 (@Arr.cons Int 58 0 (@Arr.cons Int 57 0 (@Arr.cons Int 56 0 (@Arr.cons Int 55 0 (@Arr.cons Int 54 0 (@Arr.cons Int 53 0 (@Arr.cons Int 52 0 (@Arr.cons Int 51 0 (@Arr.cons Int 50 0 (@Arr.cons Int 49 0 (@Arr.cons Int 48 0 (@Arr.cons Int 47 0 (@Arr.cons Int 46 0 (@Arr.cons Int 45 0 (@Arr.cons Int 44 0 (@Arr.cons Int 43 0 (@Arr.cons Int 42 0 (@Arr.cons Int 41 0 (@Arr.cons Int 40 0 (@Arr.cons Int 39 0 (@Arr.cons Int 38 0 (@Arr.cons Int 37 0 (@Arr.cons Int 36 0 (@Arr.cons Int 35 0 (@Arr.cons Int 34 0 (@Arr.cons Int 33 0 (@Arr.cons Int 32 0 (@Arr.cons Int 31 0 (@Arr.cons Int 30 0 (@Arr.cons Int 29 0 (@Arr.cons Int 28 0 (@Arr.cons Int 27 0 (@Arr.cons Int 26 0 (@Arr.cons Int 25 0 (@Arr.cons Int 24 0 (@Arr.cons Int 23 0 (@Arr.cons Int 22 0 (@Arr.cons Int 21 0 (@Arr.cons Int 20 0 (@Arr.cons Int 19 0 (@Arr.cons Int 18 0 (@Arr.cons Int 17 0 (@Arr.cons Int 16 0 (@Arr.cons Int 15 0 (@Arr.cons Int 14 0 (@Arr.cons Int 13 0 (@Arr.cons Int 12 0 (@Arr.cons Int 11 0 (@Arr.cons Int 10 0 (@Arr.cons Int 9 0 (@Arr.cons Int 8 0 (@Arr.cons Int 7 0 (@Arr.cons Int 6 0 (@Arr.cons Int 5 0 (@Arr.cons Int 4 0 (@Arr.cons Int 3 0 (@Arr.cons Int 2 0 (@Arr.cons Int 1 0 (@Arr.cons Int 0 0 (@Arr.nil Int))))))))))))))))))))))))))))))))))))))))))))))))))))))))))))))))))))))))))))))))), ())))) fun v2 =>
 some (v2.2.2.1)
theorem sha1_words_S (b0 : Arr Int 64) : (runK Tryz.prog (Ev48 N) 400 71 [(.arr 64 (.int .u8))] [(.arr 80 (.int .u32))] (b0, ())).run = sha1_words N b0 := by kernel_rfl
noncomputable def Ev49 : (R : Type) → Env R := Env.addFn (Ev48 N) 71 (fun R => fnK [(.arr 64 (.int .u8))] [(.arr 80 (.int .u32))] (fun c => sha1_words N c.1))
theorem Ev49_ok (R : Type) : EnvOK Tryz.prog (Ev49 N R) := EnvOK.addFn hmx (Ev48_ok N R) (Ev48_ok N _) (by kernel_rfl) (fun c => sha1_words_S N c.1)
noncomputable def sha1_mixed (N : Nat) (r0 : Int) (b1 : Int) (c2 : Int) (d3 : Int) : Option Int :=
 bif (decide (r0 = (0 : Int))) then
  some ((bits .or .u32 (bits .and .u32 b1 c2) (bits .and .u32 (bits .xor .u32 (@ite Int (@Eq Bool (@IntKind.signed @IntKind.u32) true) (@instDecidableEqBool (@IntKind.signed @IntKind.u32) true) (-1 : Int) (@IntKind.max @IntKind.u32)) b1) d3)))
 else
  bif (decide (r0 = (2 : Int))) then
   some ((bits .or .u32 (bits .or .u32 (bits .and .u32 b1 c2) (bits .and .u32 b1 d3)) (bits .and .u32 c2 d3)))
  else
   some ((bits .xor .u32 (bits .xor .u32 b1 c2) d3))
theorem sha1_mixed_S (r0 : Int) (b1 : Int) (c2 : Int) (d3 : Int) : (runK Tryz.prog (Ev49 N) 400 73 [(.int .i64), (.int .u32), (.int .u32), (.int .u32)] [(.int .u32)] (r0, b1, c2, d3, ())).run = sha1_mixed N r0 b1 c2 d3 := by kernel_rfl
noncomputable def Ev50 : (R : Type) → Env R := Env.addFn (Ev49 N) 73 (fun R => fnK [(.int .i64), (.int .u32), (.int .u32), (.int .u32)] [(.int .u32)] (fun c => sha1_mixed N c.1 c.2.1 c.2.2.1 c.2.2.2.1))
theorem Ev50_ok (R : Type) : EnvOK Tryz.prog (Ev50 N R) := EnvOK.addFn hmx (Ev49_ok N R) (Ev49_ok N _) (by kernel_rfl) (fun c => sha1_mixed_S N c.1 c.2.1 c.2.2.1 c.2.2.2.1)
noncomputable def sha1_behind_L4_I : LI := ⟨69, 0, [], ⟨[(3, .adr (.arr 5 (.int .u32))), (5, .adr (.arr 4 (.int .u32))), (6, .lit (.box 0 0)), (7, .lit (.box 1 0)), (8, .lit (.box 2 0)), (16, .ty (.int .i64))], [.box 85 (.arr 5 (.int .u32)), .box 114 (.arr 80 (.int .u32)), .box 85 (.arr 5 (.int .u32))]⟩, [(.exit 0, ⟨[(3, .adr (.arr 5 (.int .u32))), (6, .lit (.box 0 0)), (8, .lit (.box 1 0))], [.box 85 (.arr 5 (.int .u32)), .box 85 (.arr 5 (.int .u32))]⟩)]⟩
noncomputable def sha1_behind_L4 (X : (((Arr Int 5) × ((Arr Int 4) × (Int × Unit))) × ((Arr Int 5) × ((Arr Int 80) × ((Arr Int 5) × Unit)))) → Option ((((Arr Int 5) × Unit) × ((Arr Int 5) × ((Arr Int 5) × Unit))))) (s3 : Arr Int 5) (k5 : Arr Int 4) (x16 : Int) (h0 : Arr Int 5) (h1 : Arr Int 80) (h2 : Arr Int 5) : Option ((((Arr Int 5) × Unit) × ((Arr Int 5) × ((Arr Int 5) × Unit)))) :=
 bif (decide (x16 < (80 : Int))) then
  Option.bind (h2.l[Int.toNat (0 : Int)]?) fun (v8 : Int) =>
  Option.bind (h2.l[Int.toNat (1 : Int)]?) fun (v9 : Int) =>
  Option.bind (h2.l[Int.toNat (2 : Int)]?) fun (v10 : Int) =>
  Option.bind (h2.l[Int.toNat (3 : Int)]?) fun (v11 : Int) =>
  Option.bind (sha1_mixed N (IntKind.wrap .i64 (@Int.tdiv x16 (20 : Int))) v9 v10 v11) fun v12 =>
  Option.bind (h2.l[Int.toNat (4 : Int)]?) fun (v13 : Int) =>
  Option.bind (getI k5.l (IntKind.wrap .i64 (@Int.tdiv x16 (20 : Int)))) fun (v14 : Int) =>
  bif (decide ((0 : Int) ≤ x16 ∧ x16 < ((80 : Nat) : Int))) then
   Option.bind (h1.l[Int.toNat x16]?) fun (v15 : Int) =>
   Option.bind (h2.l[Int.toNat (0 : Int)]?) fun (v16 : Int) =>
   Option.bind (h2.l[Int.toNat (1 : Int)]?) fun (v17 : Int) =>
   Option.bind (h2.l[Int.toNat (2 : Int)]?) fun (v18 : Int) =>
   Option.bind (h2.l[Int.toNat (3 : Int)]?) fun (v19 : Int) =>
   (X ((s3, (k5, ((IntKind.wrap .i64 (x16 + 1)), ()))), (h0, (h1, ((@Arr.cons Int (4 : Nat) (IntKind.wrap .u32 ((IntKind.wrap .u32 ((IntKind.wrap .u32 ((IntKind.wrap .u32 ((bits .or .u32 (IntKind.wrap .u32 (v8 * ((2 : Int) ^ (min (Int.toNat (bits .and .u64 (IntKind.wrap .u64 (5 : Int)) (31 : Int))) (IntKind.bits .u32))))) (@Int.fdiv v8 ((2 : Int) ^ (min (Int.toNat (IntKind.wrap .u64 ((32 : Int) - (bits .and .u64 (IntKind.wrap .u64 (5 : Int)) (31 : Int))))) (IntKind.bits .u32))))) + v12)) + v13)) + v14)) + v15)) (@Arr.cons Int (3 : Nat) v16 (@Arr.cons Int (2 : Nat) (bits .or .u32 (IntKind.wrap .u32 (v17 * ((2 : Int) ^ (min (Int.toNat (bits .and .u64 (IntKind.wrap .u64 (30 : Int)) (31 : Int))) (IntKind.bits .u32))))) (@Int.fdiv v17 ((2 : Int) ^ (min (Int.toNat (IntKind.wrap .u64 ((32 : Int) - (bits .and .u64 (IntKind.wrap .u64 (30 : Int)) (31 : Int))))) (IntKind.bits .u32))))) (@Arr.cons Int (1 : Nat) v18 (@Arr.cons Int (0 : Nat) v19 (@Arr.nil Int)))))), ())))))
  else
   none
 else
  some (((s3, ()), (h0, (h2, ()))))
noncomputable def sha1_behind_L4_R (c : (((Arr Int 5) × ((Arr Int 4) × (Int × Unit))) × ((Arr Int 5) × ((Arr Int 80) × ((Arr Int 5) × Unit))))) : Option ((((Arr Int 5) × Unit) × ((Arr Int 5) × ((Arr Int 5) × Unit)))) := gl (fun X c => sha1_behind_L4 N X c.1.1 c.1.2.1 c.1.2.2.1 c.2.1 c.2.2.1 c.2.2.2.1) N c
theorem sha1_behind_L4_S (X : (((Arr Int 5) × ((Arr Int 4) × (Int × Unit))) × ((Arr Int 5) × ((Arr Int 80) × ((Arr Int 5) × Unit)))) → Option ((((Arr Int 5) × Unit) × ((Arr Int 5) × ((Arr Int 5) × Unit))))) (s3 : Arr Int 5) (k5 : Arr Int 4) (x16 : Int) (h0 : Arr Int 5) (h1 : Arr Int 80) (h2 : Arr Int 5) : (roundK Tryz.prog (Ev50 N) 400 [50] sha1_behind_L4_I (loopAt Tryz.prog [50] 4) X ((s3, k5, x16, ()), (h0, h1, h2, ()))).run = sha1_behind_L4 N X s3 k5 x16 h0 h1 h2 := by kernel_rfl
noncomputable def Ev51 : (R : Type) → Env R := Env.addLp (Ev50 N) [50] 0 4 (fun R => lpK Tryz.prog sha1_behind_L4_I (fun X c => sha1_behind_L4 N X c.1.1 c.1.2.1 c.1.2.2.1 c.2.1 c.2.2.1 c.2.2.2.1) N)
theorem Ev51_ok (R : Type) : EnvOK Tryz.prog (Ev51 N R) := EnvOK.addLp (Ev50_ok N R) (by kernel_rfl) (lpK_ok (li := sha1_behind_L4_I) (G := fun X c => sha1_behind_L4 N X c.1.1 c.1.2.1 c.1.2.2.1 c.2.1 c.2.2.1 c.2.2.2.1) hmx (Ev50_ok N _) (by kernel_rfl) loopAt_sub (fun (X : CT sha1_behind_L4_I.sh → Option (OT sha1_behind_L4_I.outs)) (c : CT sha1_behind_L4_I.sh) => sha1_behind_L4_S N X c.1.1 c.1.2.1 c.1.2.2.1 c.2.1 c.2.2.1 c.2.2.2.1) N)
noncomputable def sha1_behind_L11_I : LI := ⟨69, 0, [], ⟨[(3, .adr (.arr 5 (.int .u32))), (6, .lit (.box 0 0)), (8, .lit (.box 1 0)), (56, .ty (.int .i64))], [.box 85 (.arr 5 (.int .u32)), .box 85 (.arr 5 (.int .u32))]⟩, [(.exit 2, ⟨[(6, .lit (.box 0 0)), (8, .lit (.box 1 0))], [.box 85 (.arr 5 (.int .u32)), .box 85 (.arr 5 (.int .u32))]⟩)]⟩
noncomputable def sha1_behind_L11 (N : Nat) (X : (((Arr Int 5) × (Int × Unit)) × ((Arr Int 5) × ((Arr Int 5) × Unit))) → Option ((Unit × ((Arr Int 5) × ((Arr Int 5) × Unit))))) (s3 : Arr Int 5) (x56 : Int) (h0 : Arr Int 5) (h1 : Arr Int 5) : Option ((Unit × ((Arr Int 5) × ((Arr Int 5) × Unit)))) :=
 bif (decide (x56 < (5 : Int))) then
  bif (decide ((0 : Int) ≤ x56 ∧ x56 < ((5 : Nat) : Int))) then
   Option.bind (h1.l[Int.toNat x56]?) fun (v6 : Int) =>
   Option.bind (getI s3.l x56) fun (v7 : Int) =>
   bif (decide ((0 : Int) ≤ x56 ∧ x56 < ((5 : Nat) : Int))) then
    Option.bind (h1.l[Int.toNat x56]?) fun (v8 : Int) =>
    (X ((s3, ((IntKind.wrap .i64 (x56 + 1)), ())), (h0, ((h1.set (Int.toNat x56) (IntKind.wrap .u32 (v6 + v7))), ()))))
   else
    none
  else
   none
 else
  some (((), (h0, (h1, ()))))
noncomputable def sha1_behind_L11_R (c : (((Arr Int 5) × (Int × Unit)) × ((Arr Int 5) × ((Arr Int 5) × Unit)))) : Option ((Unit × ((Arr Int 5) × ((Arr Int 5) × Unit)))) := gl (fun X c => sha1_behind_L11 N X c.1.1 c.1.2.1 c.2.1 c.2.2.1) N c
theorem sha1_behind_L11_S (X : (((Arr Int 5) × (Int × Unit)) × ((Arr Int 5) × ((Arr Int 5) × Unit))) → Option ((Unit × ((Arr Int 5) × ((Arr Int 5) × Unit))))) (s3 : Arr Int 5) (x56 : Int) (h0 : Arr Int 5) (h1 : Arr Int 5) : (roundK Tryz.prog (Ev51 N) 400 [50] sha1_behind_L11_I (loopAt Tryz.prog [50] 11) X ((s3, x56, ()), (h0, h1, ()))).run = sha1_behind_L11 N X s3 x56 h0 h1 := by kernel_rfl
noncomputable def Ev52 : (R : Type) → Env R := Env.addLp (Ev51 N) [50] 0 11 (fun R => lpK Tryz.prog sha1_behind_L11_I (fun X c => sha1_behind_L11 N X c.1.1 c.1.2.1 c.2.1 c.2.2.1) N)
theorem Ev52_ok (R : Type) : EnvOK Tryz.prog (Ev52 N R) := EnvOK.addLp (Ev51_ok N R) (by kernel_rfl) (lpK_ok (li := sha1_behind_L11_I) (G := fun X c => sha1_behind_L11 N X c.1.1 c.1.2.1 c.2.1 c.2.2.1) hmx (Ev51_ok N _) (by kernel_rfl) loopAt_sub (fun (X : CT sha1_behind_L11_I.sh → Option (OT sha1_behind_L11_I.outs)) (c : CT sha1_behind_L11_I.sh) => sha1_behind_L11_S N X c.1.1 c.1.2.1 c.2.1 c.2.2.1) N)
noncomputable def sha1_behind (s0 : Arr Int 5) (b1 : Arr Int 64) (k2 : Arr Int 4) : Option (Arr Int 5) :=
 Option.bind (sha1_words N b1) fun v4 =>
 Option.bind (sha1_behind_L4_R N ((s0, (k2, ((0 : Int), ()))), ((@Arr.cons Int 4 0 (@Arr.cons Int 3 0 (@Arr.cons Int 2 0 (@Arr.cons Int 1 0 (@Arr.cons Int 0 0 (@Arr.nil Int)))))), (v4, (s0, ()))))) fun v5 =>
 Option.bind (sha1_behind_L11_R N ((v5.1.1, ((0 : Int), ())), (v5.2.1, (v5.2.2.1, ())))) fun v6 =>
 some (v6.2.2.1)
theorem sha1_behind_S (s0 : Arr Int 5) (b1 : Arr Int 64) (k2 : Arr Int 4) : (runK Tryz.prog (Ev52 N) 400 50 [(.arr 5 (.int .u32)), (.arr 64 (.int .u8)), (.arr 4 (.int .u32))] [(.arr 5 (.int .u32))] (s0, b1, k2, ())).run = sha1_behind N s0 b1 k2 := by kernel_rfl
noncomputable def Ev53 : (R : Type) → Env R := Env.addFn (Ev52 N) 50 (fun R => fnK [(.arr 5 (.int .u32)), (.arr 64 (.int .u8)), (.arr 4 (.int .u32))] [(.arr 5 (.int .u32))] (fun c => sha1_behind N c.1 c.2.1 c.2.2.1))
theorem Ev53_ok (R : Type) : EnvOK Tryz.prog (Ev53 N R) := EnvOK.addFn hmx (Ev52_ok N R) (Ev52_ok N _) (by kernel_rfl) (fun c => sha1_behind_S N c.1 c.2.1 c.2.2.1)
noncomputable def sha1_Of_L5_I : LI := ⟨35, 0, [], ⟨[(2, .lit (.box 0 0)), (3, .ty (.sl (.int .u8))), (4, .lit (.box 1 0)), (5, .lit (.box 2 0)), (6, .ty (.int .i64))], [.box 70 (.arr 20 (.int .u8)), .box 85 (.arr 5 (.int .u32)), .box 87 (.arr 4 (.int .u32))]⟩, [(.exit 0, ⟨[(2, .lit (.box 0 0)), (4, .lit (.box 1 0))], [.box 70 (.arr 20 (.int .u8)), .box 85 (.arr 5 (.int .u32))]⟩)]⟩
noncomputable def sha1_Of_L5 (X : (((List Int) × (Int × Unit)) × ((Arr Int 20) × ((Arr Int 5) × ((Arr Int 4) × Unit)))) → Option ((Unit × ((Arr Int 20) × ((Arr Int 5) × Unit))))) (all3 : List (Int)) (i6 : Int) (h0 : Arr Int 20) (h1 : Arr Int 5) (h2 : Arr Int 4) : Option ((Unit × ((Arr Int 20) × ((Arr Int 5) × Unit)))) :=
 bif (decide (i6 < (((List.length all3) : Nat) : Int))) then
  Option.bind (subI all3 i6 (IntKind.wrap .i64 (i6 + 64))) fun (v7 : (List Int)) =>
  Option.bind (@toArr Int (64 : Nat) v7) fun (v8 : (Arr Int 64)) =>
  Option.bind (sha1_behind N h1 v8 h2) fun v9 =>
  (X ((all3, ((IntKind.wrap .i64 (i6 + 64)), ())), (h0, (v9, (h2, ())))))
 else
  some (((), (h0, (h1, ()))))
noncomputable def sha1_Of_L5_R (c : (((List Int) × (Int × Unit)) × ((Arr Int 20) × ((Arr Int 5) × ((Arr Int 4) × Unit))))) : Option ((Unit × ((Arr Int 20) × ((Arr Int 5) × Unit)))) := gl (fun X c => sha1_Of_L5 N X c.1.1 c.1.2.1 c.2.1 c.2.2.1 c.2.2.2.1) N c
theorem sha1_Of_L5_S (X : (((List Int) × (Int × Unit)) × ((Arr Int 20) × ((Arr Int 5) × ((Arr Int 4) × Unit)))) → Option ((Unit × ((Arr Int 20) × ((Arr Int 5) × Unit))))) (all3 : List (Int)) (i6 : Int) (h0 : Arr Int 20) (h1 : Arr Int 5) (h2 : Arr Int 4) : (roundK Tryz.prog (Ev53 N) 400 [35] sha1_Of_L5_I (loopAt Tryz.prog [35] 5) X ((all3, i6, ()), (h0, h1, h2, ()))).run = sha1_Of_L5 N X all3 i6 h0 h1 h2 := by kernel_rfl
noncomputable def Ev54 : (R : Type) → Env R := Env.addLp (Ev53 N) [35] 0 5 (fun R => lpK Tryz.prog sha1_Of_L5_I (fun X c => sha1_Of_L5 N X c.1.1 c.1.2.1 c.2.1 c.2.2.1 c.2.2.2.1) N)
theorem Ev54_ok (R : Type) : EnvOK Tryz.prog (Ev54 N R) := EnvOK.addLp (Ev53_ok N R) (by kernel_rfl) (lpK_ok (li := sha1_Of_L5_I) (G := fun X c => sha1_Of_L5 N X c.1.1 c.1.2.1 c.2.1 c.2.2.1 c.2.2.2.1) hmx (Ev53_ok N _) (by kernel_rfl) loopAt_sub (fun (X : CT sha1_Of_L5_I.sh → Option (OT sha1_Of_L5_I.outs)) (c : CT sha1_Of_L5_I.sh) => sha1_Of_L5_S N X c.1.1 c.1.2.1 c.2.1 c.2.2.1 c.2.2.2.1) N)
noncomputable def Ev55 : (R : Type) → Env R := Env.addBx (Ev54 N) [(51, 0)]
theorem Ev55_ok (R : Type) : EnvOK Tryz.prog (Ev55 N R) := EnvOK.addBx (Ev54_ok N R) [(51, 0)]
noncomputable def sha1_digest_L3_I : LI := ⟨25, 0, [(3, 5)], ⟨[(2, .lit (.box 0 0)), (3, .lit (.own 1)), (8, .ty (.arr 5 (.int .u32))), (9, .ty (.int .i64))], [.box 70 (.arr 20 (.int .u8)), .own (.int .u8) 5]⟩, [(.exit 0, ⟨[(2, .lit (.box 0 0)), (3, .lit (.own 1))], [.box 70 (.arr 20 (.int .u8)), .own (.int .u8) 5]⟩)]⟩
noncomputable def sha1_digest_L3 (X : (((Arr Int 5) × (Int × Unit)) × ((Arr Int 20) × ((List Int) × Unit))) → Option ((Unit × ((Arr Int 20) × ((List Int) × Unit))))) (x8 : Arr Int 5) (x9 : Int) (h0 : Arr Int 20) (h1 : List (Int)) : Option ((Unit × ((Arr Int 20) × ((List Int) × Unit)))) :=
 bif (decide (x9 < (5 : Int))) then
  Option.bind (getI x8.l x9) fun (v6 : Int) =>
  Option.bind (octs_Put N (IntKind.wrap .u64 v6) (4 : Int) false) fun v7 =>
  bif (roomB ((List.length h1) + (List.length v7.1)) 1) then
   (X ((x8, ((IntKind.wrap .i64 (x9 + 1)), ())), (h0, ((h1 ++ v7.1), ()))))
  else
   none
 else
  some (((), (h0, (h1, ()))))
noncomputable def sha1_digest_L3_R (c : (((Arr Int 5) × (Int × Unit)) × ((Arr Int 20) × ((List Int) × Unit)))) : Option ((Unit × ((Arr Int 20) × ((List Int) × Unit)))) := gl (fun X c => sha1_digest_L3 N X c.1.1 c.1.2.1 c.2.1 c.2.2.1) N c
theorem sha1_digest_L3_S (X : (((Arr Int 5) × (Int × Unit)) × ((Arr Int 20) × ((List Int) × Unit))) → Option ((Unit × ((Arr Int 20) × ((List Int) × Unit))))) (x8 : Arr Int 5) (x9 : Int) (h0 : Arr Int 20) (h1 : List (Int)) : (roundK Tryz.prog (Ev55 N) 400 [51] sha1_digest_L3_I (loopAt Tryz.prog [51] 3) X ((x8, x9, ()), (h0, h1, ()))).run = sha1_digest_L3 N X x8 x9 h0 h1 := by kernel_rfl
noncomputable def Ev56 : (R : Type) → Env R := Env.addLp (Ev55 N) [51] 0 3 (fun R => lpK Tryz.prog sha1_digest_L3_I (fun X c => sha1_digest_L3 N X c.1.1 c.1.2.1 c.2.1 c.2.2.1) N)
theorem Ev56_ok (R : Type) : EnvOK Tryz.prog (Ev56 N R) := EnvOK.addLp (Ev55_ok N R) (by kernel_rfl) (lpK_ok (li := sha1_digest_L3_I) (G := fun X c => sha1_digest_L3 N X c.1.1 c.1.2.1 c.2.1 c.2.2.1) hmx (Ev55_ok N _) (by kernel_rfl) loopAt_sub (fun (X : CT sha1_digest_L3_I.sh → Option (OT sha1_digest_L3_I.outs)) (c : CT sha1_digest_L3_I.sh) => sha1_digest_L3_S N X c.1.1 c.1.2.1 c.2.1 c.2.2.1) N)
noncomputable def sha1_digest (s0 : Arr Int 5) : Option (Arr Int 20) :=
 Option.bind (sha1_digest_L3_R N ((s0, ((0 : Int), ())), ((@Arr.cons Int 19 0 (@Arr.cons Int 18 0 (@Arr.cons Int 17 0 (@Arr.cons Int 16 0 (@Arr.cons Int 15 0 (@Arr.cons Int 14 0 (@Arr.cons Int 13 0 (@Arr.cons Int 12 0 (@Arr.cons Int 11 0 (@Arr.cons Int 10 0 (@Arr.cons Int 9 0 (@Arr.cons Int 8 0 (@Arr.cons Int 7 0 (@Arr.cons Int 6 0 (@Arr.cons Int 5 0 (@Arr.cons Int 4 0 (@Arr.cons Int 3 0 (@Arr.cons Int 2 0 (@Arr.cons Int 1 0 (@Arr.cons Int 0 0 (@Arr.nil Int))))))))))))))))))))), (([] : List Int), ())))) fun v2 =>
 Option.bind (@toArr Int (20 : Nat) v2.2.2.1) fun (v3 : (Arr Int 20)) =>
 some (v3)
theorem sha1_digest_S (s0 : Arr Int 5) : (runK Tryz.prog (Ev56 N) 400 51 [(.arr 5 (.int .u32))] [(.arr 20 (.int .u8))] (s0, ())).run = sha1_digest N s0 := by kernel_rfl
noncomputable def Ev57 : (R : Type) → Env R := Env.addFn (Ev56 N) 51 (fun R => fnK [(.arr 5 (.int .u32))] [(.arr 20 (.int .u8))] (fun c => sha1_digest N c.1))
theorem Ev57_ok (R : Type) : EnvOK Tryz.prog (Ev57 N R) := EnvOK.addFn hmx (Ev56_ok N R) (Ev56_ok N _) (by kernel_rfl) (fun c => sha1_digest_S N c.1)
noncomputable def sha1_Of (parts0 : List (List Int)) : Option (Arr Int 20) :=
 Option.bind (sha1_Of_1_octs_Join_L3_R N ((parts0, ((0 : Int), (parts0, ((((List.length parts0) : Nat) : Int), ((0 : Int), ()))))), ((@Arr.cons Int 19 0 (@Arr.cons Int 18 0 (@Arr.cons Int 17 0 (@Arr.cons Int 16 0 (@Arr.cons Int 15 0 (@Arr.cons Int 14 0 (@Arr.cons Int 13 0 (@Arr.cons Int 12 0 (@Arr.cons Int 11 0 (@Arr.cons Int 10 0 (@Arr.cons Int 9 0 (@Arr.cons Int 8 0 (@Arr.cons Int 7 0 (@Arr.cons Int 6 0 (@Arr.cons Int 5 0 (@Arr.cons Int 4 0 (@Arr.cons Int 3 0 (@Arr.cons Int 2 0 (@Arr.cons Int 1 0 (@Arr.cons Int 0 0 (@Arr.nil Int))))))))))))))))))))), ()))) fun v2 =>
 bif ((decide ((0 : Int) ≤ (0 : Int) ∧ (0 : Int) ≤ v2.1.2.1)) && (roomB (Int.toNat v2.1.2.1) 1)) then
  Option.bind (sha1_Of_1_octs_Join_L9_R N ((v2.1.1, ((((List.length v2.1.1) : Nat) : Int), ((0 : Int), ()))), (v2.2.1, ((@List.replicate Int (Int.toNat (0 : Int)) (0 : Int)), ())))) fun v3 =>
  Option.bind (sha1_Tail N (IntKind.wrap .u64 (((List.length v3.2.2.1) : Nat) : Int))) fun v4 =>
  bif (roomB ((List.length v3.2.2.1) + (List.length v4)) 1) then
   Option.bind (@sha1_constants N) fun (v5 : (Arr Int 4)) =>
   Option.bind (sha1_Of_L5_R N (((v3.2.2.1 ++ v4), ((0 : Int), ())), (v3.2.1, ((@Arr.cons Int 4 1732584193 (@Arr.cons Int 3 4023233417 (@Arr.cons Int 2 2562383102 (@Arr.cons Int 1 271733878 (@Arr.cons Int 0 3285377520 (@Arr.nil Int)))))), (v5, ()))))) fun v6 =>
   Option.bind (sha1_digest N v6.2.2.1) fun v7 =>
   some (v7)
  else
   none
 else
  none
theorem sha1_Of_S (parts0 : List (List Int)) : (runK Tryz.prog (Ev57 N) 400 35 [(.sl (.sl (.int .u8)))] [(.arr 20 (.int .u8))] (parts0, ())).run = sha1_Of N parts0 := by kernel_rfl
noncomputable def Ev58 : (R : Type) → Env R := Env.addFn (Ev57 N) 35 (fun R => fnK [(.sl (.sl (.int .u8)))] [(.arr 20 (.int .u8))] (fun c => sha1_Of N c.1))
theorem Ev58_ok (R : Type) : EnvOK Tryz.prog (Ev58 N R) := EnvOK.addFn hmx (Ev57_ok N R) (Ev57_ok N _) (by kernel_rfl) (fun c => sha1_Of_S N c.1)
noncomputable def unicode_utf8_word_string (N : Nat) (s0 : List UInt8) : Option Int :=
 Option.bind (getI s0 (0 : Int)) fun (v2 : UInt8) =>
 Option.bind (getI s0 (1 : Int)) fun (v3 : UInt8) =>
 Option.bind (getI s0 (2 : Int)) fun (v4 : UInt8) =>
 Option.bind (getI s0 (3 : Int)) fun (v5 : UInt8) =>
 Option.bind (getI s0 (4 : Int)) fun (v6 : UInt8) =>
 Option.bind (getI s0 (5 : Int)) fun (v7 : UInt8) =>
 Option.bind (getI s0 (6 : Int)) fun (v8 : UInt8) =>
 Option.bind (getI s0 (7 : Int)) fun (v9 : UInt8) =>
 some ((bits .or .u64 (bits .or .u64 (bits .or .u64 (bits .or .u64 (bits .or .u64 (bits .or .u64 (bits .or .u64 (IntKind.wrap .u64 (((@UInt8.toNat v2) : Nat) : Int)) (IntKind.wrap .u64 ((IntKind.wrap .u64 (((@UInt8.toNat v3) : Nat) : Int)) * ((2 : Int) ^ (min (Int.toNat (8 : Int)) (IntKind.bits .u64)))))) (IntKind.wrap .u64 ((IntKind.wrap .u64 (((@UInt8.toNat v4) : Nat) : Int)) * ((2 : Int) ^ (min (Int.toNat (16 : Int)) (IntKind.bits .u64)))))) (IntKind.wrap .u64 ((IntKind.wrap .u64 (((@UInt8.toNat v5) : Nat) : Int)) * ((2 : Int) ^ (min (Int.toNat (24 : Int)) (IntKind.bits .u64)))))) (IntKind.wrap .u64 ((IntKind.wrap .u64 (((@UInt8.toNat v6) : Nat) : Int)) * ((2 : Int) ^ (min (Int.toNat (32 : Int)) (IntKind.bits .u64)))))) (IntKind.wrap .u64 ((IntKind.wrap .u64 (((@UInt8.toNat v7) : Nat) : Int)) * ((2 : Int) ^ (min (Int.toNat (40 : Int)) (IntKind.bits .u64)))))) (IntKind.wrap .u64 ((IntKind.wrap .u64 (((@UInt8.toNat v8) : Nat) : Int)) * ((2 : Int) ^ (min (Int.toNat (48 : Int)) (IntKind.bits .u64)))))) (IntKind.wrap .u64 ((IntKind.wrap .u64 (((@UInt8.toNat v9) : Nat) : Int)) * ((2 : Int) ^ (min (Int.toNat (56 : Int)) (IntKind.bits .u64)))))))
theorem unicode_utf8_word_string_S (s0 : List UInt8) : (runK Tryz.prog (Ev58 N) 400 116 [.str] [(.int .u64)] (s0, ())).run = unicode_utf8_word_string N s0 := by kernel_rfl
noncomputable def Ev59 : (R : Type) → Env R := Env.addFn (Ev58 N) 116 (fun R => fnK [.str] [(.int .u64)] (fun c => unicode_utf8_word_string N c.1))
theorem Ev59_ok (R : Type) : EnvOK Tryz.prog (Ev59 N R) := EnvOK.addFn hmx (Ev58_ok N R) (Ev58_ok N _) (by kernel_rfl) (fun c => unicode_utf8_word_string_S N c.1)
noncomputable def unicode_utf8_ValidString_L9_I : LI := ⟨169, 0, [], ⟨[(0, .ty .str)], []⟩, [(.exit 2, ⟨[(0, .ty .str)], []⟩)]⟩
noncomputable def unicode_utf8_ValidString_L9 (X : ((List UInt8 × Unit) × Unit) → Option (((List UInt8 × Unit) × Unit))) (s0 : List UInt8) : Option (((List UInt8 × Unit) × Unit)) :=
 bif (decide ((32 : Int) < (((List.length s0) : Nat) : Int))) then
  Option.bind (unicode_utf8_word_string N s0) fun v3 =>
  Option.bind (dropI s0 (8 : Int)) fun (v4 : (List UInt8)) =>
  Option.bind (unicode_utf8_word_string N v4) fun v5 =>
  Option.bind (dropI s0 (16 : Int)) fun (v6 : (List UInt8)) =>
  Option.bind (unicode_utf8_word_string N v6) fun v7 =>
  Option.bind (dropI s0 (24 : Int)) fun (v8 : (List UInt8)) =>
  Option.bind (unicode_utf8_word_string N v8) fun v9 =>
  bif (cond true (decide ((bits .and .u64 (bits .or .u64 (bits .or .u64 v3 v5) (bits .or .u64 v7 v9)) (9259542123273814144 : Int)) = (0 : Int))) false) then
   Option.bind (dropI s0 (32 : Int)) fun (v10 : (List UInt8)) =>
   (X ((v10, ()), ()))
  else
   some (((s0, ()), ()))
 else
  some (((s0, ()), ()))
noncomputable def unicode_utf8_ValidString_L9_R (c : ((List UInt8 × Unit) × Unit)) : Option (((List UInt8 × Unit) × Unit)) := gl (fun X c => unicode_utf8_ValidString_L9 N X c.1.1) N c
theorem unicode_utf8_ValidString_L9_S (X : ((List UInt8 × Unit) × Unit) → Option (((List UInt8 × Unit) × Unit))) (s0 : List UInt8) : (roundK Tryz.prog (Ev59 N) 400 [98] unicode_utf8_ValidString_L9_I (loopAt Tryz.prog [98] 9) X ((s0, ()), ())).run = unicode_utf8_ValidString_L9 N X s0 := by kernel_rfl
noncomputable def Ev60 : (R : Type) → Env R := Env.addLp (Ev59 N) [98] 0 9 (fun R => lpK Tryz.prog unicode_utf8_ValidString_L9_I (fun X c => unicode_utf8_ValidString_L9 N X c.1.1) N)
theorem Ev60_ok (R : Type) : EnvOK Tryz.prog (Ev60 N R) := EnvOK.addLp (Ev59_ok N R) (by kernel_rfl) (lpK_ok (li := unicode_utf8_ValidString_L9_I) (G := fun X c => unicode_utf8_ValidString_L9 N X c.1.1) hmx (Ev59_ok N _) (by kernel_rfl) loopAt_sub (fun (X : CT unicode_utf8_ValidString_L9_I.sh → Option (OT unicode_utf8_ValidString_L9_I.outs)) (c : CT unicode_utf8_ValidString_L9_I.sh) => unicode_utf8_ValidString_L9_S N X c.1.1) N)
noncomputable def unicode_utf8_ValidString_L1_I : LI := ⟨169, 0, [], ⟨[(0, .ty .str)], []⟩, [(.ret, ⟨[(2, .ty .bool)], []⟩), (.exit 0, ⟨[], []⟩)]⟩
noncomputable def unicode_utf8_ValidString_L1 (X : ((List UInt8 × Unit) × Unit) → Option ((((Bool × Unit) × Unit) ⊕ (Unit × Unit)))) (s0 : List UInt8) : Option ((((Bool × Unit) × Unit) ⊕ (Unit × Unit))) :=
 bif (decide ((0 : Int) < (((List.length s0) : Nat) : Int))) then
  Option.bind (getI s0 (0 : Int)) fun (v3 : UInt8) =>
  bif (decide ((((@UInt8.toNat v3) : Nat) : Int) < (128 : Int))) then
   Option.bind (dropI s0 (1 : Int)) fun (v4 : (List UInt8)) =>
   bif (decide ((8 : Int) < (((List.length v4) : Nat) : Int))) then
    Option.bind (unicode_utf8_word_string N v4) fun v5 =>
    Option.bind (some ((cond true (decide ((bits .and .u64 v5 (9259542123273814144 : Int)) = (0 : Int))) false))) fun (v6 : Bool) =>
    bif v6 then
     Option.bind (dropI v4 (8 : Int)) fun (v7 : (List UInt8)) =>
     bif (decide ((16 : Int) < (((List.length v7) : Nat) : Int))) then
      Option.bind (unicode_utf8_word_string N v7) fun v8 =>
      Option.bind (dropI v7 (8 : Int)) fun (v9 : (List UInt8)) =>
      Option.bind (unicode_utf8_word_string N v9) fun v10 =>
      bif (cond true (decide ((bits .and .u64 (bits .or .u64 v8 v10) (9259542123273814144 : Int)) = (0 : Int))) false) then
       Option.bind (dropI v7 (16 : Int)) fun (v11 : (List UInt8)) =>
       Option.bind (unicode_utf8_ValidString_L9_R N ((v11, ()), ())) fun v12 =>
       (X ((v12.1.1, ()), ()))
      else
       (X ((v7, ()), ()))
     else
      (X ((v7, ()), ()))
    else
     (X ((v4, ()), ()))
   else
    (X ((v4, ()), ()))
  else
   Option.bind (getI (@List.cons Int (240 : Int) (@List.cons Int (240 : Int) (@List.cons Int (240 : Int) (@List.cons Int (240 : Int) (@List.cons Int (240 : Int) (@List.cons Int (240 : Int) (@List.cons Int (240 : Int) (@List.cons Int (240 : Int) (@List.cons Int (240 : Int) (@List.cons Int (240 : Int) (@List.cons Int (240 : Int) (@List.cons Int (240 : Int) (@List.cons Int (240 : Int) (@List.cons Int (240 : Int) (@List.cons Int (240 : Int) (@List.cons Int (240 : Int) (@List.cons Int (240 : Int) (@List.cons Int (240 : Int) (@List.cons Int (240 : Int) (@List.cons Int (240 : Int) (@List.cons Int (240 : Int) (@List.cons Int (240 : Int) (@List.cons Int (240 : Int) (@List.cons Int (240 : Int) (@List.cons Int (240 : Int) (@List.cons Int (240 : Int) (@List.cons Int (240 : Int) (@List.cons Int (240 : Int) (@List.cons Int (240 : Int) (@List.cons Int (240 : Int) (@List.cons Int (240 : Int) (@List.cons Int (240 : Int) (@List.cons Int (240 : Int) (@List.cons Int (240 : Int) (@List.cons Int (240 : Int) (@List.cons Int (240 : Int) (@List.cons Int (240 : Int) (@List.cons Int (240 : Int) (@List.cons Int (240 : Int) (@List.cons Int (240 : Int) (@List.cons Int (240 : Int) (@List.cons Int (240 : Int) (@List.cons Int (240 : Int) (@List.cons Int (240 : Int) (@List.cons Int (240 : Int) (@List.cons Int (240 : Int) (@List.cons Int (240 : Int) (@List.cons Int (240 : Int) (@List.cons Int (240 : Int) (@List.cons Int (240 : Int) (@List.cons Int (240 : Int) (@List.cons Int (240 : Int) (@List.cons Int (240 : Int) (@List.cons Int (240 : Int) (@List.cons Int (240 : Int) (@List.cons Int (240 : Int) (@List.cons Int (240 : Int) (@List.cons Int (240 : Int) (@List.cons Int (240 : Int) (@List.cons Int (240 : Int) (@List.cons Int (240 : Int) (@List.cons Int (240 : Int) (@List.cons Int (240 : Int) (@List.cons Int (240 : Int) (@List.cons Int (240 : Int) (@List.cons Int (240 : Int) (@List.cons Int (240 : Int) (@List.cons Int (240 : Int) (@List.cons Int (240 : Int) (@List.cons Int (240 : Int) (@List.cons Int (240 : Int) (@List.cons Int (240 : Int) (@List.cons Int (240 : Int) (@List.cons Int (240 : Int) (@List.cons Int (240 : Int) (@List.cons Int (240 : Int) (@List.cons Int (240 : Int) (@List.cons Int (240 : Int) (@List.cons Int (240 : Int) (@List.cons Int (240 : Int) (@List.cons Int (240 : Int) (@List.cons Int (240 : Int) (@List.cons Int (240 : Int) (@List.cons Int (240 : Int) (@List.cons Int (240 : Int) (@List.cons Int (240 : Int) (@List.cons Int (240 : Int) (@List.cons Int (240 : Int) (@List.cons Int (240 : Int) (@List.cons Int (240 : Int) (@List.cons Int (240 : Int) (@List.cons Int (240 : Int) (@List.cons Int (240 : Int) (@List.cons Int (240 : Int) (@List.cons Int (240 : Int) (@List.cons Int (240 : Int) (@List.cons Int (240 : Int) (@List.cons Int (240 : Int) (@List.cons Int (240 : Int) (@List.cons Int (240 : Int) (@List.cons Int (240 : Int) (@List.cons Int (240 : Int) (@List.cons Int (240 : Int) (@List.cons Int (240 : Int) (@List.cons Int (240 : Int) (@List.cons Int (240 : Int) (@List.cons Int (240 : Int) (@List.cons Int (240 : Int) (@List.cons Int (240 : Int) (@List.cons Int (240 : Int) (@List.cons Int (240 : Int) (@List.cons Int (240 : Int) (@List.cons Int (240 : Int) (@List.cons Int (240 : Int) (@List.cons Int (240 : Int) (@List.cons Int (240 : Int) (@List.cons Int (240 : Int) (@List.cons Int (240 : Int) (@List.cons Int (240 : Int) (@List.cons Int (240 : Int) (@List.cons Int (240 : Int) (@List.cons Int (240 : Int) (@List.cons Int (240 : Int) (@List.cons Int (240 : Int) (@List.cons Int (240 : Int) (@List.cons Int (240 : Int) (@List.cons Int (240 : Int) (@List.cons Int (240 : Int) (@List.cons Int (241 : Int) (@List.cons Int (241 : Int) (@List.cons Int (241 : Int) (@List.cons Int (241 : Int) (@List.cons Int (241 : Int) (@List.cons Int (241 : Int) (@List.cons Int (241 : Int) (@List.cons Int (241 : Int) (@List.cons Int (241 : Int) (@List.cons Int (241 : Int) (@List.cons Int (241 : Int) (@List.cons Int (241 : Int) (@List.cons Int (241 : Int) (@List.cons Int (241 : Int) (@List.cons Int (241 : Int) (@List.cons Int (241 : Int) (@List.cons Int (241 : Int) (@List.cons Int (241 : Int) (@List.cons Int (241 : Int) (@List.cons Int (241 : Int) (@List.cons Int (241 : Int) (@List.cons Int (241 : Int) (@List.cons Int (241 : Int) (@List.cons Int (241 : Int) (@List.cons Int (241 : Int) (@List.cons Int (241 : Int) (@List.cons Int (241 : Int) (@List.cons Int (241 : Int) (@List.cons Int (241 : Int) (@List.cons Int (241 : Int) (@List.cons Int (241 : Int) (@List.cons Int (241 : Int) (@List.cons Int (241 : Int) (@List.cons Int (241 : Int) (@List.cons Int (241 : Int) (@List.cons Int (241 : Int) (@List.cons Int (241 : Int) (@List.cons Int (241 : Int) (@List.cons Int (241 : Int) (@List.cons Int (241 : Int) (@List.cons Int (241 : Int) (@List.cons Int (241 : Int) (@List.cons Int (241 : Int) (@List.cons Int (241 : Int) (@List.cons Int (241 : Int) (@List.cons Int (241 : Int) (@List.cons Int (241 : Int) (@List.cons Int (241 : Int) (@List.cons Int (241 : Int) (@List.cons Int (241 : Int) (@List.cons Int (241 : Int) (@List.cons Int (241 : Int) (@List.cons Int (241 : Int) (@List.cons Int (241 : Int) (@List.cons Int (241 : Int) (@List.cons Int (241 : Int) (@List.cons Int (241 : Int) (@List.cons Int (241 : Int) (@List.cons Int (241 : Int) (@List.cons Int (241 : Int) (@List.cons Int (241 : Int) (@List.cons Int (241 : Int) (@List.cons Int (241 : Int) (@List.cons Int (241 : Int) (@List.cons Int (241 : Int) (@List.cons Int (241 : Int) (@List.cons Int (2 : Int) (@List.cons Int (2 : Int) (@List.cons Int (2 : Int) (@List.cons Int (2 : Int) (@List.cons Int (2 : Int) (@List.cons Int (2 : Int) (@List.cons Int (2 : Int) (@List.cons Int (2 : Int) (@List.cons Int (2 : Int) (@List.cons Int (2 : Int) (@List.cons Int (2 : Int) (@List.cons Int (2 : Int) (@List.cons Int (2 : Int) (@List.cons Int (2 : Int) (@List.cons Int (2 : Int) (@List.cons Int (2 : Int) (@List.cons Int (2 : Int) (@List.cons Int (2 : Int) (@List.cons Int (2 : Int) (@List.cons Int (2 : Int) (@List.cons Int (2 : Int) (@List.cons Int (2 : Int) (@List.cons Int (2 : Int) (@List.cons Int (2 : Int) (@List.cons Int (2 : Int) (@List.cons Int (2 : Int) (@List.cons Int (2 : Int) (@List.cons Int (2 : Int) (@List.cons Int (2 : Int) (@List.cons Int (2 : Int) (@List.cons Int (19 : Int) (@List.cons Int (3 : Int) (@List.cons Int (3 : Int) (@List.cons Int (3 : Int) (@List.cons Int (3 : Int) (@List.cons Int (3 : Int) (@List.cons Int (3 : Int) (@List.cons Int (3 : Int) (@List.cons Int (3 : Int) (@List.cons Int (3 : Int) (@List.cons Int (3 : Int) (@List.cons Int (3 : Int) (@List.cons Int (3 : Int) (@List.cons Int (35 : Int) (@List.cons Int (3 : Int) (@List.cons Int (3 : Int) (@List.cons Int (52 : Int) (@List.cons Int (4 : Int) (@List.cons Int (4 : Int) (@List.cons Int (4 : Int) (@List.cons Int (68 : Int) (@List.cons Int (241 : Int) (@List.cons Int (241 : Int) (@List.cons Int (241 : Int) ([241, 241, 241, 241, 241, 241, 241, 241] : List Int))))))))))))))))))))))))))))))))))))))))))))))))))))))))))))))))))))))))))))))))))))))))))))))))))))))))))))))))))))))))))))))))))))))))))))))))))))))))))))))))))))))))))))))))))))))))))))))))))))))))))))))))))))))))))))))))))))))))))))))))))))))))) (((@UInt8.toNat v3) : Nat) : Int)) fun (v4 : Int) =>
   Option.bind (getI ([((128 : Int), (191 : Int)), ((160 : Int), (191 : Int)), ((128 : Int), (159 : Int)), ((144 : Int), (191 : Int)), ((128 : Int), (143 : Int)), ((0 : Int), (0 : Int)), ((0 : Int), (0 : Int)), ((0 : Int), (0 : Int)), ((0 : Int), (0 : Int)), ((0 : Int), (0 : Int)), ((0 : Int), (0 : Int)), ((0 : Int), (0 : Int)), ((0 : Int), (0 : Int)), ((0 : Int), (0 : Int)), ((0 : Int), (0 : Int)), ((0 : Int), (0 : Int))] : List ((Int × Int))) (@Int.fdiv v4 ((2 : Int) ^ (min (Int.toNat (4 : Int)) (IntKind.bits .u8))))) fun (v5 : (Int × Int)) =>
   bif (decide ((IntKind.wrap .i64 (bits .and .u8 v4 (7 : Int))) = (2 : Int))) then
    bif (decide ((((List.length s0) : Nat) : Int) < (2 : Int))) then
     some ((.inl ((false, ()), ())))
    else
     Option.bind (getI s0 (1 : Int)) fun (v6 : UInt8) =>
     bif (cond false true (decide ((((@UInt8.toNat v6) : Nat) : Int) < v5.1))) then
      some ((.inl ((false, ()), ())))
     else
      Option.bind (getI s0 (1 : Int)) fun (v7 : UInt8) =>
      bif (cond false true (decide (v5.2 < (((@UInt8.toNat v7) : Nat) : Int)))) then
       some ((.inl ((false, ()), ())))
      else
       Option.bind (dropI s0 (2 : Int)) fun (v8 : (List UInt8)) =>
       (X ((v8, ()), ()))
   else
    bif (decide ((IntKind.wrap .i64 (bits .and .u8 v4 (7 : Int))) = (3 : Int))) then
     bif (decide ((((List.length s0) : Nat) : Int) < (3 : Int))) then
      some ((.inl ((false, ()), ())))
     else
      Option.bind (getI s0 (1 : Int)) fun (v6 : UInt8) =>
      bif (cond false true (decide ((((@UInt8.toNat v6) : Nat) : Int) < v5.1))) then
       some ((.inl ((false, ()), ())))
      else
       Option.bind (getI s0 (1 : Int)) fun (v7 : UInt8) =>
       bif (cond false true (decide (v5.2 < (((@UInt8.toNat v7) : Nat) : Int)))) then
        some ((.inl ((false, ()), ())))
       else
        Option.bind (getI s0 (2 : Int)) fun (v8 : UInt8) =>
        bif (cond false true (decide ((((@UInt8.toNat v8) : Nat) : Int) < (128 : Int)))) then
         some ((.inl ((false, ()), ())))
        else
         Option.bind (getI s0 (2 : Int)) fun (v9 : UInt8) =>
         bif (cond false true (decide ((191 : Int) < (((@UInt8.toNat v9) : Nat) : Int)))) then
          some ((.inl ((false, ()), ())))
         else
          Option.bind (dropI s0 (3 : Int)) fun (v10 : (List UInt8)) =>
          (X ((v10, ()), ()))
    else
     bif (decide ((IntKind.wrap .i64 (bits .and .u8 v4 (7 : Int))) = (4 : Int))) then
      bif (decide ((((List.length s0) : Nat) : Int) < (4 : Int))) then
       some ((.inl ((false, ()), ())))
      else
       Option.bind (getI s0 (1 : Int)) fun (v6 : UInt8) =>
       bif (cond false true (decide ((((@UInt8.toNat v6) : Nat) : Int) < v5.1))) then
        some ((.inl ((false, ()), ())))
       else
        Option.bind (getI s0 (1 : Int)) fun (v7 : UInt8) =>
        bif (cond false true (decide (v5.2 < (((@UInt8.toNat v7) : Nat) : Int)))) then
         some ((.inl ((false, ()), ())))
        else
         Option.bind (getI s0 (2 : Int)) fun (v8 : UInt8) =>
         bif (cond false true (decide ((((@UInt8.toNat v8) : Nat) : Int) < (128 : Int)))) then
          some ((.inl ((false, ()), ())))
         else
          Option.bind (getI s0 (2 : Int)) fun (v9 : UInt8) =>
          bif (cond false true (decide ((191 : Int) < (((@UInt8.toNat v9) : Nat) : Int)))) then
           some ((.inl ((false, ()), ())))
          else
           Option.bind (getI s0 (3 : Int)) fun (v10 : UInt8) =>
           bif (cond false true (decide ((((@UInt8.toNat v10) : Nat) : Int) < (128 : Int)))) then
            some ((.inl ((false, ()), ())))
           else
            Option.bind (getI s0 (3 : Int)) fun (v11 : UInt8) =>
            bif (cond false true (decide ((191 : Int) < (((@UInt8.toNat v11) : Nat) : Int)))) then
             some ((.inl ((false, ()), ())))
            else
             Option.bind (dropI s0 (4 : Int)) fun (v12 : (List UInt8)) =>
             (X ((v12, ()), ()))
     else
      some ((.inl ((false, ()), ())))
 else
  some ((.inr ((), ())))
noncomputable def unicode_utf8_ValidString_L1_R (c : ((List UInt8 × Unit) × Unit)) : Option ((((Bool × Unit) × Unit) ⊕ (Unit × Unit))) := gl (fun X c => unicode_utf8_ValidString_L1 N X c.1.1) N c
theorem unicode_utf8_ValidString_L1_S (X : ((List UInt8 × Unit) × Unit) → Option ((((Bool × Unit) × Unit) ⊕ (Unit × Unit)))) (s0 : List UInt8) : (roundK Tryz.prog (Ev60 N) 400 [98] unicode_utf8_ValidString_L1_I (loopAt Tryz.prog [98] 1) X ((s0, ()), ())).run = unicode_utf8_ValidString_L1 N X s0 := by kernel_rfl
noncomputable def Ev61 : (R : Type) → Env R := Env.addLp (Ev60 N) [98] 0 1 (fun R => lpK Tryz.prog unicode_utf8_ValidString_L1_I (fun X c => unicode_utf8_ValidString_L1 N X c.1.1) N)
theorem Ev61_ok (R : Type) : EnvOK Tryz.prog (Ev61 N R) := EnvOK.addLp (Ev60_ok N R) (by kernel_rfl) (lpK_ok (li := unicode_utf8_ValidString_L1_I) (G := fun X c => unicode_utf8_ValidString_L1 N X c.1.1) hmx (Ev60_ok N _) (by kernel_rfl) loopAt_sub (fun (X : CT unicode_utf8_ValidString_L1_I.sh → Option (OT unicode_utf8_ValidString_L1_I.outs)) (c : CT unicode_utf8_ValidString_L1_I.sh) => unicode_utf8_ValidString_L1_S N X c.1.1) N)
noncomputable def unicode_utf8_ValidString (s0 : List UInt8) : Option Bool :=
 Option.bind (unicode_utf8_ValidString_L1_R N ((s0, ()), ())) fun v2 =>
 Sum.elim
  (fun (v3 : ((Bool × Unit) × Unit)) =>
  some (v3.1.1))
  (fun (v3 : (Unit × Unit)) =>
  some (true)) v2
theorem unicode_utf8_ValidString_S (s0 : List UInt8) : (runK Tryz.prog (Ev61 N) 400 98 [.str] [.bool] (s0, ())).run = unicode_utf8_ValidString N s0 := by kernel_rfl
noncomputable def Ev62 : (R : Type) → Env R := Env.addFn (Ev61 N) 98 (fun R => fnK [.str] [.bool] (fun c => unicode_utf8_ValidString N c.1))
theorem Ev62_ok (R : Type) : EnvOK Tryz.prog (Ev62 N R) := EnvOK.addFn hmx (Ev61_ok N R) (Ev61_ok N _) (by kernel_rfl) (fun c => unicode_utf8_ValidString_S N c.1)
noncomputable def unicode_utf8_RuneCountInString_L2_I : LI := ⟨10, 0, [], ⟨[(2, .ty (.int .i64)), (4, .lit (.box 0 0))], [.itr]⟩, [(.exit 0, ⟨[(2, .ty (.int .i64))], []⟩)]⟩
noncomputable def unicode_utf8_RuneCountInString_L2 (N : Nat) (X : ((Int × Unit) × (List UInt8 × (Int × Unit))) → Option (((Int × Unit) × Unit))) (n2 : Int) (h0 : List UInt8) (h1 : Int) : Option (((Int × Unit) × Unit)) :=
 bif (decide ((Int.toNat h1) < (List.length h0))) then
  (X (((IntKind.wrap .i64 (n2 + 1)), ()), (h0, (((((Int.toNat h1) : Nat) : Int) + (@rdec h0 h1).2), ()))))
 else
  some (((n2, ()), ()))
noncomputable def unicode_utf8_RuneCountInString_L2_R (c : ((Int × Unit) × (List UInt8 × (Int × Unit)))) : Option (((Int × Unit) × Unit)) := gl (fun X c => unicode_utf8_RuneCountInString_L2 N X c.1.1 c.2.1 c.2.2.1) N c
theorem unicode_utf8_RuneCountInString_L2_S (X : ((Int × Unit) × (List UInt8 × (Int × Unit))) → Option (((Int × Unit) × Unit))) (n2 : Int) (h0 : List UInt8) (h1 : Int) : (roundK Tryz.prog (Ev62 N) 400 [117] unicode_utf8_RuneCountInString_L2_I (loopAt Tryz.prog [117] 2) X ((n2, ()), (h0, h1, ()))).run = unicode_utf8_RuneCountInString_L2 N X n2 h0 h1 := by kernel_rfl
noncomputable def Ev63 : (R : Type) → Env R := Env.addLp (Ev62 N) [117] 0 2 (fun R => lpK Tryz.prog unicode_utf8_RuneCountInString_L2_I (fun X c => unicode_utf8_RuneCountInString_L2 N X c.1.1 c.2.1 c.2.2.1) N)
theorem Ev63_ok (R : Type) : EnvOK Tryz.prog (Ev63 N R) := EnvOK.addLp (Ev62_ok N R) (by kernel_rfl) (lpK_ok (li := unicode_utf8_RuneCountInString_L2_I) (G := fun X c => unicode_utf8_RuneCountInString_L2 N X c.1.1 c.2.1 c.2.2.1) hmx (Ev62_ok N _) (by kernel_rfl) loopAt_sub (fun (X : CT unicode_utf8_RuneCountInString_L2_I.sh → Option (OT unicode_utf8_RuneCountInString_L2_I.outs)) (c : CT unicode_utf8_RuneCountInString_L2_I.sh) => unicode_utf8_RuneCountInString_L2_S N X c.1.1 c.2.1 c.2.2.1) N)
noncomputable def unicode_utf8_RuneCountInString (s0 : List UInt8) : Option Int :=
 Option.bind (unicode_utf8_RuneCountInString_L2_R N (((0 : Int), ()), (s0, ((0 : Int), ())))) fun v2 =>
 some (v2.1.1)
theorem unicode_utf8_RuneCountInString_S (s0 : List UInt8) : (runK Tryz.prog (Ev63 N) 400 117 [.str] [(.int .i64)] (s0, ())).run = unicode_utf8_RuneCountInString N s0 := by kernel_rfl
noncomputable def Ev64 : (R : Type) → Env R := Env.addFn (Ev63 N) 117 (fun R => fnK [.str] [(.int .i64)] (fun c => unicode_utf8_RuneCountInString N c.1))
theorem Ev64_ok (R : Type) : EnvOK Tryz.prog (Ev64 N R) := EnvOK.addFn hmx (Ev63_ok N R) (Ev63_ok N _) (by kernel_rfl) (fun c => unicode_utf8_RuneCountInString_S N c.1)
noncomputable def utf16_Count (s0 : List UInt8) : Option Int :=
 Option.bind (unicode_utf8_ValidString N s0) fun v2 =>
 bif (!v2) then
  some ((0 : Int))
 else
  Option.bind (unicode_utf8_RuneCountInString N s0) fun v3 =>
  some (v3)
theorem utf16_Count_S (s0 : List UInt8) : (runK Tryz.prog (Ev64 N) 400 99 [.str] [(.int .i64)] (s0, ())).run = utf16_Count N s0 := by kernel_rfl
noncomputable def Ev65 : (R : Type) → Env R := Env.addFn (Ev64 N) 99 (fun R => fnK [.str] [(.int .i64)] (fun c => utf16_Count N c.1))
theorem Ev65_ok (R : Type) : EnvOK Tryz.prog (Ev65 N R) := EnvOK.addFn hmx (Ev64_ok N R) (Ev64_ok N _) (by kernel_rfl) (fun c => utf16_Count_S N c.1)
noncomputable def utf16_May (s0 : List UInt8) : Option Int :=
 Option.bind (unicode_utf8_ValidString N s0) fun v2 =>
 bif (!v2) then
  some ((3 : Int))
 else
  Option.bind (utf16_Count N s0) fun v3 =>
  bif (decide ((64 : Int) < v3)) then
   some ((8 : Int))
  else
   some ((0 : Int))
theorem utf16_May_S (s0 : List UInt8) : (runK Tryz.prog (Ev65 N) 400 74 [.str] [(.int .i64)] (s0, ())).run = utf16_May N s0 := by kernel_rfl
noncomputable def Ev66 : (R : Type) → Env R := Env.addFn (Ev65 N) 74 (fun R => fnK [.str] [(.int .i64)] (fun c => utf16_May N c.1))
theorem Ev66_ok (R : Type) : EnvOK Tryz.prog (Ev66 N R) := EnvOK.addFn hmx (Ev65_ok N R) (Ev65_ok N _) (by kernel_rfl) (fun c => utf16_May_S N c.1)
noncomputable def Ev67 : (R : Type) → Env R := Env.addMv (Ev66 N) [(75, 8), (75, 10)]
theorem Ev67_ok (R : Type) : EnvOK Tryz.prog (Ev67 N R) := EnvOK.addMv (Ev66_ok N R) [(75, 8), (75, 10)]
noncomputable def utf16_Units_L5_I : LI := ⟨36, 0, [(3, 121)], ⟨[(3, .lit (.own 0)), (11, .lit (.box 1 0))], [.own (.int .u16) 121, .itr]⟩, [(.exit 0, ⟨[(3, .lit (.own 0))], [.own (.int .u16) 121]⟩)]⟩
noncomputable def utf16_Units_L5 (N : Nat) (X : (Unit × ((List Int) × (List UInt8 × (Int × Unit)))) → Option ((Unit × ((List Int) × Unit)))) (h0 : List (Int)) (h1 : List UInt8) (h2 : Int) : Option ((Unit × ((List Int) × Unit))) :=
 bif (decide ((Int.toNat h2) < (List.length h1))) then
  bif (decide ((@rdec h1 h2).1 < (65536 : Int))) then
   bif (roomB ((List.length h0) + (List.length ([(IntKind.wrap .u16 (@rdec h1 h2).1)] : List (Int)))) 2) then
    (X ((), ((h0 ++ ([(IntKind.wrap .u16 (@rdec h1 h2).1)] : List (Int))), (h1, (((((Int.toNat h2) : Nat) : Int) + (@rdec h1 h2).2), ())))))
   else
    none
  else
   bif (roomB ((List.length h0) + (List.length ([(IntKind.wrap .u16 (IntKind.wrap .i32 ((55296 : Int) + (@Int.fdiv (IntKind.wrap .i32 ((@rdec h1 h2).1 - 65536)) ((2 : Int) ^ (min (Int.toNat (10 : Int)) (IntKind.bits .i32))))))), (IntKind.wrap .u16 (IntKind.wrap .i32 ((56320 : Int) + (bits .and .i32 (IntKind.wrap .i32 ((@rdec h1 h2).1 - 65536)) (1023 : Int)))))] : List (Int)))) 2) then
    (X ((), ((h0 ++ ([(IntKind.wrap .u16 (IntKind.wrap .i32 ((55296 : Int) + (@Int.fdiv (IntKind.wrap .i32 ((@rdec h1 h2).1 - 65536)) ((2 : Int) ^ (min (Int.toNat (10 : Int)) (IntKind.bits .i32))))))), (IntKind.wrap .u16 (IntKind.wrap .i32 ((56320 : Int) + (bits .and .i32 (IntKind.wrap .i32 ((@rdec h1 h2).1 - 65536)) (1023 : Int)))))] : List (Int))), (h1, (((((Int.toNat h2) : Nat) : Int) + (@rdec h1 h2).2), ())))))
   else
    none
 else
  some (((), (h0, ())))
noncomputable def utf16_Units_L5_R (c : (Unit × ((List Int) × (List UInt8 × (Int × Unit))))) : Option ((Unit × ((List Int) × Unit))) := gl (fun X c => utf16_Units_L5 N X c.2.1 c.2.2.1 c.2.2.2.1) N c
theorem utf16_Units_L5_S (X : (Unit × ((List Int) × (List UInt8 × (Int × Unit)))) → Option ((Unit × ((List Int) × Unit)))) (h0 : List (Int)) (h1 : List UInt8) (h2 : Int) : (roundK Tryz.prog (Ev67 N) 400 [75] utf16_Units_L5_I (loopAt Tryz.prog [75] 5) X ((), (h0, h1, h2, ()))).run = utf16_Units_L5 N X h0 h1 h2 := by kernel_rfl
noncomputable def Ev68 : (R : Type) → Env R := Env.addLp (Ev67 N) [75] 0 5 (fun R => lpK Tryz.prog utf16_Units_L5_I (fun X c => utf16_Units_L5 N X c.2.1 c.2.2.1 c.2.2.2.1) N)
theorem Ev68_ok (R : Type) : EnvOK Tryz.prog (Ev68 N R) := EnvOK.addLp (Ev67_ok N R) (by kernel_rfl) (lpK_ok (li := utf16_Units_L5_I) (G := fun X c => utf16_Units_L5 N X c.2.1 c.2.2.1 c.2.2.2.1) hmx (Ev67_ok N _) (by kernel_rfl) loopAt_sub (fun (X : CT utf16_Units_L5_I.sh → Option (OT utf16_Units_L5_I.outs)) (c : CT utf16_Units_L5_I.sh) => utf16_Units_L5_S N X c.2.1 c.2.2.1 c.2.2.2.1) N)
noncomputable def utf16_Units (s0 : List UInt8) : Option (List Int) :=
 Option.bind (utf16_May N s0) fun v2 =>
 bif (!(decide (v2 = (0 : Int)))) then
  some (([] : List Int))
 else
  Option.bind (utf16_Units_L5_R N ((), (([] : List Int), (s0, ((0 : Int), ()))))) fun v3 =>
  some (v3.2.1)
theorem utf16_Units_S (s0 : List UInt8) : (runK Tryz.prog (Ev68 N) 400 75 [.str] [(.sl (.int .u16))] (s0, ())).run = utf16_Units N s0 := by kernel_rfl
noncomputable def Ev69 : (R : Type) → Env R := Env.addFn (Ev68 N) 75 (fun R => fnK [.str] [(.sl (.int .u16))] (fun c => utf16_Units N c.1))
theorem Ev69_ok (R : Type) : EnvOK Tryz.prog (Ev69 N R) := EnvOK.addFn hmx (Ev68_ok N R) (Ev68_ok N _) (by kernel_rfl) (fun c => utf16_Units_S N c.1)
noncomputable def utf16_Lay_L6_I : LI := ⟨33, 0, [(5, 5)], ⟨[(5, .lit (.own 0)), (16, .ty (.sl (.int .u16))), (17, .ty (.int .i64)), (18, .ty (.int .i64))], [.own (.int .u8) 5]⟩, [(.exit 0, ⟨[(5, .lit (.own 0))], [.own (.int .u8) 5]⟩)]⟩
noncomputable def utf16_Lay_L6 (X : (((List Int) × (Int × (Int × Unit))) × ((List Int) × Unit)) → Option ((Unit × ((List Int) × Unit)))) (x16 : List (Int)) (x17 : Int) (x18 : Int) (h0 : List (Int)) : Option ((Unit × ((List Int) × Unit))) :=
 bif (decide (x18 < x17)) then
  Option.bind (getI x16 x18) fun (v6 : Int) =>
  Option.bind (octs_Put N (IntKind.wrap .u64 v6) (2 : Int) true) fun v7 =>
  bif (roomB ((List.length h0) + (List.length v7.1)) 1) then
   (X ((x16, (x17, ((IntKind.wrap .i64 (x18 + 1)), ()))), ((h0 ++ v7.1), ())))
  else
   none
 else
  some (((), (h0, ())))
noncomputable def utf16_Lay_L6_R (c : (((List Int) × (Int × (Int × Unit))) × ((List Int) × Unit))) : Option ((Unit × ((List Int) × Unit))) := gl (fun X c => utf16_Lay_L6 N X c.1.1 c.1.2.1 c.1.2.2.1 c.2.1) N c
theorem utf16_Lay_L6_S (X : (((List Int) × (Int × (Int × Unit))) × ((List Int) × Unit)) → Option ((Unit × ((List Int) × Unit)))) (x16 : List (Int)) (x17 : Int) (x18 : Int) (h0 : List (Int)) : (roundK Tryz.prog (Ev69 N) 400 [52] utf16_Lay_L6_I (loopAt Tryz.prog [52] 6) X ((x16, x17, x18, ()), (h0, ()))).run = utf16_Lay_L6 N X x16 x17 x18 h0 := by kernel_rfl
noncomputable def Ev70 : (R : Type) → Env R := Env.addLp (Ev69 N) [52] 0 6 (fun R => lpK Tryz.prog utf16_Lay_L6_I (fun X c => utf16_Lay_L6 N X c.1.1 c.1.2.1 c.1.2.2.1 c.2.1) N)
theorem Ev70_ok (R : Type) : EnvOK Tryz.prog (Ev70 N R) := EnvOK.addLp (Ev69_ok N R) (by kernel_rfl) (lpK_ok (li := utf16_Lay_L6_I) (G := fun X c => utf16_Lay_L6 N X c.1.1 c.1.2.1 c.1.2.2.1 c.2.1) hmx (Ev69_ok N _) (by kernel_rfl) loopAt_sub (fun (X : CT utf16_Lay_L6_I.sh → Option (OT utf16_Lay_L6_I.outs)) (c : CT utf16_Lay_L6_I.sh) => utf16_Lay_L6_S N X c.1.1 c.1.2.1 c.1.2.2.1 c.2.1) N)
noncomputable def utf16_Lay (s0 : List UInt8) : Option ((List Int) × Int) :=
 Option.bind (utf16_May N s0) fun v2 =>
 bif (!(decide (v2 = (0 : Int)))) then
  some ((([] : List Int), v2))
 else
  Option.bind (utf16_Units N s0) fun v3 =>
  Option.bind (utf16_Lay_L6_R N ((v3, ((((List.length v3) : Nat) : Int), ((0 : Int), ()))), (([] : List Int), ()))) fun v4 =>
  some ((v4.2.1, (0 : Int)))
theorem utf16_Lay_S (s0 : List UInt8) : (runK Tryz.prog (Ev70 N) 400 52 [.str] [(.sl (.int .u8)), (.int .i64)] (s0, ())).run = utf16_Lay N s0 := by kernel_rfl
noncomputable def Ev71 : (R : Type) → Env R := Env.addFn (Ev70 N) 52 (fun R => fnK [.str] [(.sl (.int .u8)), (.int .i64)] (fun c => utf16_Lay N c.1))
theorem Ev71_ok (R : Type) : EnvOK Tryz.prog (Ev71 N R) := EnvOK.addFn hmx (Ev70_ok N R) (Ev70_ok N _) (by kernel_rfl) (fun c => utf16_Lay_S N c.1)
noncomputable def nthash_Of (password0 : List UInt8) : Option ((Arr Int 16) × Int) :=
 Option.bind (utf16_Lay N password0) fun v2 =>
 bif (!(decide (v2.2 = (0 : Int)))) then
  some (((@Arr.cons Int 15 0 (@Arr.cons Int 14 0 (@Arr.cons Int 13 0 (@Arr.cons Int 12 0 (@Arr.cons Int 11 0 (@Arr.cons Int 10 0 (@Arr.cons Int 9 0 (@Arr.cons Int 8 0 (@Arr.cons Int 7 0 (@Arr.cons Int 6 0 (@Arr.cons Int 5 0 (@Arr.cons Int 4 0 (@Arr.cons Int 3 0 (@Arr.cons Int 2 0 (@Arr.cons Int 1 0 (@Arr.cons Int 0 0 (@Arr.nil Int))))))))))))))))), v2.2))
 else
  Option.bind (md4_Of N ([v2.1] : List ((List Int)))) fun v3 =>
  some ((v3, (0 : Int)))
theorem nthash_Of_S (password0 : List UInt8) : (runK Tryz.prog (Ev71 N) 400 36 [.str] [(.arr 16 (.int .u8)), (.int .i64)] (password0, ())).run = nthash_Of N password0 := by kernel_rfl
noncomputable def Ev72 : (R : Type) → Env R := Env.addFn (Ev71 N) 36 (fun R => fnK [.str] [(.arr 16 (.int .u8)), (.int .i64)] (fun c => nthash_Of N c.1))
theorem Ev72_ok (R : Type) : EnvOK Tryz.prog (Ev72 N R) := EnvOK.addFn hmx (Ev71_ok N R) (Ev71_ok N _) (by kernel_rfl) (fun c => nthash_Of_S N c.1)
noncomputable def Ev73 : (R : Type) → Env R := Env.addBx (Ev72 N) [(34, 0)]
theorem Ev73_ok (R : Type) : EnvOK Tryz.prog (Ev73 N R) := EnvOK.addBx (Ev72_ok N R) [(34, 0)]
noncomputable def nthash_Twice (h0 : Arr Int 16) : Option (Arr Int 16) :=
 Option.bind (md4_Of N ([h0.l] : List ((List Int)))) fun v2 =>
 some (v2)
theorem nthash_Twice_S (h0 : Arr Int 16) : (runK Tryz.prog (Ev73 N) 400 34 [(.arr 16 (.int .u8))] [(.arr 16 (.int .u8))] (h0, ())).run = nthash_Twice N h0 := by kernel_rfl
noncomputable def Ev74 : (R : Type) → Env R := Env.addFn (Ev73 N) 34 (fun R => fnK [(.arr 16 (.int .u8))] [(.arr 16 (.int .u8))] (fun c => nthash_Twice N c.1))
theorem Ev74_ok (R : Type) : EnvOK Tryz.prog (Ev74 N R) := EnvOK.addFn hmx (Ev73_ok N R) (Ev73_ok N _) (by kernel_rfl) (fun c => nthash_Twice_S N c.1)
noncomputable def Ev75 : (R : Type) → Env R := Env.addMv (Ev74 N) [(76, 2)]
theorem Ev75_ok (R : Type) : EnvOK Tryz.prog (Ev75 N R) := EnvOK.addMv (Ev74_ok N R) [(76, 2)]
noncomputable def Ev76 : (R : Type) → Env R := Env.addBx (Ev75 N) [(76, 0)]
theorem Ev76_ok (R : Type) : EnvOK Tryz.prog (Ev76 N R) := EnvOK.addBx (Ev75_ok N R) [(76, 0)]
noncomputable def nthash_Long (N : Nat) (h0 : Arr Int 16) : Option (Arr Int 21) :=
 some ((@Arr.over Int (21 : Nat) (@Arr.cons Int 20 0 (@Arr.cons Int 19 0 (@Arr.cons Int 18 0 (@Arr.cons Int 17 0 (@Arr.cons Int 16 0 (@Arr.cons Int 15 0 (@Arr.cons Int 14 0 (@Arr.cons Int 13 0 (@Arr.cons Int 12 0 (@Arr.cons Int 11 0 (@Arr.cons Int 10 0 (@Arr.cons Int 9 0 (@Arr.cons Int 8 0 (@Arr.cons Int 7 0 (@Arr.cons Int 6 0 (@Arr.cons Int 5 0 (@Arr.cons Int 4 0 (@Arr.cons Int 3 0 (@Arr.cons Int 2 0 (@Arr.cons Int 1 0 (@Arr.cons Int 0 0 (@Arr.nil Int)))))))))))))))))))))) h0.l))
theorem nthash_Long_S (h0 : Arr Int 16) : (runK Tryz.prog (Ev76 N) 400 76 [(.arr 16 (.int .u8))] [(.arr 21 (.int .u8))] (h0, ())).run = nthash_Long N h0 := by kernel_rfl
noncomputable def Ev77 : (R : Type) → Env R := Env.addFn (Ev76 N) 76 (fun R => fnK [(.arr 16 (.int .u8))] [(.arr 21 (.int .u8))] (fun c => nthash_Long N c.1))
theorem Ev77_ok (R : Type) : EnvOK Tryz.prog (Ev77 N R) := EnvOK.addFn hmx (Ev76_ok N R) (Ev76_ok N _) (by kernel_rfl) (fun c => nthash_Long_S N c.1)
noncomputable def Ev78 : (R : Type) → Env R := Env.addBx (Ev77 N) [(53, 0)]
theorem Ev78_ok (R : Type) : EnvOK Tryz.prog (Ev78 N R) := EnvOK.addBx (Ev77_ok N R) [(53, 0)]
noncomputable def nthash_Thirds (N : Nat) (h0 : Arr Int 16) : Option (Arr (Arr Int 7) 3) :=
 Option.bind (takeI (@Arr.over Int (21 : Nat) (@Arr.cons Int 20 0 (@Arr.cons Int 19 0 (@Arr.cons Int 18 0 (@Arr.cons Int 17 0 (@Arr.cons Int 16 0 (@Arr.cons Int 15 0 (@Arr.cons Int 14 0 (@Arr.cons Int 13 0 (@Arr.cons Int 12 0 (@Arr.cons Int 11 0 (@Arr.cons Int 10 0 (@Arr.cons Int 9 0 (@Arr.cons Int 8 0 (@Arr.cons Int 7 0 (@Arr.cons Int 6 0 (@Arr.cons Int 5 0 (@Arr.cons Int 4 0 (@Arr.cons Int 3 0 (@Arr.cons Int 2 0 (@Arr.cons Int 1 0 (@Arr.cons Int 0 0 (@Arr.nil Int)))))))))))))))))))))) h0.l).l (7 : Int)) fun (v2 : (List Int)) =>
 Option.bind (@toArr Int (7 : Nat) v2) fun (v3 : (Arr Int 7)) =>
 Option.bind (subI (@Arr.over Int (21 : Nat) (@Arr.cons Int 20 0 (@Arr.cons Int 19 0 (@Arr.cons Int 18 0 (@Arr.cons Int 17 0 (@Arr.cons Int 16 0 (@Arr.cons Int 15 0 (@Arr.cons Int 14 0 (@Arr.cons Int 13 0 (@Arr.cons Int 12 0 (@Arr.cons Int 11 0 (@Arr.cons Int 10 0 (@Arr.cons Int 9 0 (@Arr.cons Int 8 0 (@Arr.cons Int 7 0 (@Arr.cons Int 6 0 (@Arr.cons Int 5 0 (@Arr.cons Int 4 0 (@Arr.cons Int 3 0 (@Arr.cons Int 2 0 (@Arr.cons Int 1 0 (@Arr.cons Int 0 0 (@Arr.nil Int)))))))))))))))))))))) h0.l).l (7 : Int) (14 : Int)) fun (v4 : (List Int)) =>
 Option.bind (@toArr Int (7 : Nat) v4) fun (v5 : (Arr Int 7)) =>
 Option.bind (dropI (@Arr.over Int (21 : Nat) (@Arr.cons Int 20 0 (@Arr.cons Int 19 0 (@Arr.cons Int 18 0 (@Arr.cons Int 17 0 (@Arr.cons Int 16 0 (@Arr.cons Int 15 0 (@Arr.cons Int 14 0 (@Arr.cons Int 13 0 (@Arr.cons Int 12 0 (@Arr.cons Int 11 0 (@Arr.cons Int 10 0 (@Arr.cons Int 9 0 (@Arr.cons Int 8 0 (@Arr.cons Int 7 0 (@Arr.cons Int 6 0 (@Arr.cons Int 5 0 (@Arr.cons Int 4 0 (@Arr.cons Int 3 0 (@Arr.cons Int 2 0 (@Arr.cons Int 1 0 (@Arr.cons Int 0 0 (@Arr.nil Int)))))))))))))))))))))) h0.l).l (14 : Int)) fun (v6 : (List Int)) =>
 Option.bind (@toArr Int (7 : Nat) v6) fun (v7 : (Arr Int 7)) =>
 some ((@Arr.cons (Arr Int 7) (2 : Nat) v3 (@Arr.cons (Arr Int 7) (1 : Nat) v5 (@Arr.cons (Arr Int 7) (0 : Nat) v7 (@Arr.nil (Arr Int 7))))))
theorem nthash_Thirds_S (h0 : Arr Int 16) : (runK Tryz.prog (Ev78 N) 400 53 [(.arr 16 (.int .u8))] [(.arr 3 (.arr 7 (.int .u8)))] (h0, ())).run = nthash_Thirds N h0 := by kernel_rfl
noncomputable def Ev79 : (R : Type) → Env R := Env.addFn (Ev78 N) 53 (fun R => fnK [(.arr 16 (.int .u8))] [(.arr 3 (.arr 7 (.int .u8)))] (fun c => nthash_Thirds N c.1))
theorem Ev79_ok (R : Type) : EnvOK Tryz.prog (Ev79 N R) := EnvOK.addFn hmx (Ev78_ok N R) (Ev78_ok N _) (by kernel_rfl) (fun c => nthash_Thirds_S N c.1)
noncomputable def Ev80 : (R : Type) → Env R := Env.addFn (Ev79 N) 110 (fun R => ixK)
theorem Ev80_ok (R : Type) : EnvOK Tryz.prog (Ev80 N R) := EnvOK.addExt (Ev79_ok N R) (ix_ok (fn := Go.Proofs.Tryz.f110) (by kernel_rfl) (by kernel_rfl) (by decide +kernel) (by kernel_rfl) (by kernel_rfl))
noncomputable def stringslite_IndexByte (N : Nat) (s0 : List UInt8) (c1 : Int) : Option Int :=
 some ((@idxB s0 c1))
theorem stringslite_IndexByte_S (s0 : List UInt8) (c1 : Int) : (runK Tryz.prog (Ev80 N) 400 85 [.str, (.int .u8)] [(.int .i64)] (s0, c1, ())).run = stringslite_IndexByte N s0 c1 := by kernel_rfl
noncomputable def Ev81 : (R : Type) → Env R := Env.addFn (Ev80 N) 85 (fun R => fnK [.str, (.int .u8)] [(.int .i64)] (fun c => stringslite_IndexByte N c.1 c.2.1))
theorem Ev81_ok (R : Type) : EnvOK Tryz.prog (Ev81 N R) := EnvOK.addFn hmx (Ev80_ok N R) (Ev80_ok N _) (by kernel_rfl) (fun c => stringslite_IndexByte_S N c.1 c.2.1)
noncomputable def strings_IndexByte (N : Nat) (s0 : List UInt8) (c1 : Int) : Option Int :=
 some ((@idxB s0 c1))
theorem strings_IndexByte_S (s0 : List UInt8) (c1 : Int) : (runK Tryz.prog (Ev81 N) 400 144 [.str, (.int .u8)] [(.int .i64)] (s0, c1, ())).run = strings_IndexByte N s0 c1 := by kernel_rfl
noncomputable def Ev82 : (R : Type) → Env R := Env.addFn (Ev81 N) 144 (fun R => fnK [.str, (.int .u8)] [(.int .i64)] (fun c => strings_IndexByte N c.1 c.2.1))
theorem Ev82_ok (R : Type) : EnvOK Tryz.prog (Ev82 N R) := EnvOK.addFn hmx (Ev81_ok N R) (Ev81_ok N _) (by kernel_rfl) (fun c => strings_IndexByte_S N c.1 c.2.1)
noncomputable def des_Box (N : Nat) (n0 : Int) (six1 : Int) : Option Int :=
 Option.bind (bif (decide (n0 < (1 : Int))) then
   some (true)
  else
   some ((cond false true (decide ((8 : Int) < n0))))) fun (v3 : Bool) =>
 bif v3 then
  some ((0 : Int))
 else
  Option.bind (getI (Array.toList (List.toArray (@List.append UInt8 (@List.append UInt8 (@List.append UInt8 ([69, 52, 68, 49, 50, 70, 66, 56, 51, 65, 54, 67, 53, 57, 48, 55, 48, 70, 55, 52, 69, 50, 68, 49, 65, 54, 67, 66, 57, 53, 51, 56, 52, 49, 69, 56, 68, 54, 50, 66, 70, 67, 57, 55, 51, 65, 53, 48, 70, 67, 56, 50, 52, 57, 49, 55, 53, 66, 51, 69, 65, 48, 54, 68] : List UInt8) ([70, 49, 56, 69, 54, 66, 51, 52, 57, 55, 50, 68, 67, 48, 53, 65, 51, 68, 52, 55, 70, 50, 56, 69, 67, 48, 49, 65, 54, 57, 66, 53, 48, 69, 55, 66, 65, 52, 68, 49, 53, 56, 67, 54, 57, 51, 50, 70, 68, 56, 65, 49, 51, 70, 52, 50, 66, 54, 55, 67, 48, 53, 69, 57] : List UInt8)) (@List.append UInt8 ([65, 48, 57, 69, 54, 51, 70, 53, 49, 68, 67, 55, 66, 52, 50, 56, 68, 55, 48, 57, 51, 52, 54, 65, 50, 56, 53, 69, 67, 66, 70, 49, 68, 54, 52, 57, 56, 70, 51, 48, 66, 49, 50, 67, 53, 65, 69, 55, 49, 65, 68, 48, 54, 57, 56, 55, 52, 70, 69, 51, 66, 53, 50, 67] : List UInt8) ([55, 68, 69, 51, 48, 54, 57, 65, 49, 50, 56, 53, 66, 67, 52, 70, 68, 56, 66, 53, 54, 70, 48, 51, 52, 55, 50, 67, 49, 65, 69, 57, 65, 54, 57, 48, 67, 66, 55, 68, 70, 49, 51, 69, 53, 50, 56, 52, 51, 70, 48, 54, 65, 49, 68, 56, 57, 52, 53, 66, 67, 55, 50, 69] : List UInt8))) (@List.append UInt8 (@List.append UInt8 ([50, 67, 52, 49, 55, 65, 66, 54, 56, 53, 51, 70, 68, 48, 69, 57, 69, 66, 50, 67, 52, 55, 68, 49, 53, 48, 70, 65, 51, 57, 56, 54, 52, 50, 49, 66, 65, 68, 55, 56, 70, 57, 67, 53, 54, 51, 48, 69, 66, 56, 67, 55, 49, 69, 50, 68, 54, 70, 48, 57, 65, 52, 53, 51] : List UInt8) ([67, 49, 65, 70, 57, 50, 54, 56, 48, 68, 51, 52, 69, 55, 53, 66, 65, 70, 52, 50, 55, 67, 57, 53, 54, 49, 68, 69, 48, 66, 51, 56, 57, 69, 70, 53, 50, 56, 67, 51, 55, 48, 52, 65, 49, 68, 66, 54, 52, 51, 50, 67, 57, 53, 70, 65, 66, 69, 49, 55, 54, 48, 56, 68] : List UInt8)) (@List.append UInt8 ([52, 66, 50, 69, 70, 48, 56, 68, 51, 67, 57, 55, 53, 65, 54, 49, 68, 48, 66, 55, 52, 57, 49, 65, 69, 51, 53, 67, 50, 70, 56, 54, 49, 52, 66, 68, 67, 51, 55, 69, 65, 70, 54, 56, 48, 53, 57, 50, 54, 66, 68, 56, 49, 52, 65, 55, 57, 53, 48, 70, 69, 50, 51, 67] : List UInt8) ([68, 50, 56, 52, 54, 70, 66, 49, 65, 57, 51, 69, 53, 48, 67, 55, 49, 70, 68, 56, 65, 51, 55, 52, 67, 53, 54, 66, 48, 69, 57, 50, 55, 66, 52, 49, 57, 67, 69, 50, 48, 54, 65, 68, 70, 51, 53, 56, 50, 49, 69, 55, 52, 65, 56, 68, 70, 67, 57, 48, 51, 53, 54, 66] : List UInt8)))))) (IntKind.wrap .u64 ((IntKind.wrap .u64 ((IntKind.wrap .u64 ((64 : Int) * (IntKind.wrap .u64 (IntKind.wrap .i64 (n0 - 1))))) + (IntKind.wrap .u64 ((16 : Int) * (bits .or .u64 (bits .and .u64 (@Int.fdiv six1 ((2 : Int) ^ (min (Int.toNat (4 : Int)) (IntKind.bits .u64)))) (2 : Int)) (bits .and .u64 six1 (1 : Int))))))) + (bits .and .u64 (@Int.fdiv six1 ((2 : Int) ^ (min (Int.toNat (1 : Int)) (IntKind.bits .u64)))) (15 : Int))))) fun (v4 : UInt8) =>
  some ((IntKind.wrap .u64 (@idxB (Array.toList (List.toArray ([48, 49, 50, 51, 52, 53, 54, 55, 56, 57, 65, 66, 67, 68, 69, 70] : List UInt8))) (((@UInt8.toNat v4) : Nat) : Int))))
theorem des_Box_S (n0 : Int) (six1 : Int) : (runK Tryz.prog (Ev82 N) 400 137 [(.int .i64), (.int .u64)] [(.int .u64)] (n0, six1, ())).run = des_Box N n0 six1 := by kernel_rfl
noncomputable def Ev83 : (R : Type) → Env R := Env.addFn (Ev82 N) 137 (fun R => fnK [(.int .i64), (.int .u64)] [(.int .u64)] (fun c => des_Box N c.1 c.2.1))
theorem Ev83_ok (R : Type) : EnvOK Tryz.prog (Ev83 N R) := EnvOK.addFn hmx (Ev82_ok N R) (Ev82_ok N _) (by kernel_rfl) (fun c => des_Box_S N c.1 c.2.1)
noncomputable def Ev84 : (R : Type) → Env R := Env.addMv (Ev83 N) [(128, 8), (128, 10)]
theorem Ev84_ok (R : Type) : EnvOK Tryz.prog (Ev84 N R) := EnvOK.addMv (Ev83_ok N R) [(128, 8), (128, 10)]
noncomputable def des_ofKeys_8_des_falling_L2_I : LI := ⟨21, 1, [(0, 3)], ⟨[(0, .lit (.own 1)), (1, .ty (.int .i64)), (8, .ty (.int .i64)), (9, .ty (.int .i64))], [.dead, .own (.int .i64) 3]⟩, [(.exit 0, ⟨[(0, .lit (.own 1))], [.dead, .own (.int .i64) 3]⟩)]⟩
noncomputable def des_ofKeys_8_des_falling_L2 (N : Nat) (X : ((Int × (Int × (Int × Unit))) × ((List Int) × Unit)) → Option ((Unit × ((List Int) × Unit)))) (x1 : Int) (x8 : Int) (x9 : Int) (h0 : List (Int)) : Option ((Unit × ((List Int) × Unit))) :=
 bif (decide (x9 < x8)) then
  bif (roomB ((List.length h0) + (List.length ([(IntKind.wrap .i64 (x1 - (IntKind.wrap .i64 ((8 : Int) * x9))))] : List (Int)))) 8) then
   (X ((x1, (x8, ((IntKind.wrap .i64 (x9 + 1)), ()))), ((h0 ++ ([(IntKind.wrap .i64 (x1 - (IntKind.wrap .i64 ((8 : Int) * x9))))] : List (Int))), ())))
  else
   none
 else
  some (((), (h0, ())))
noncomputable def des_ofKeys_8_des_falling_L2_R (c : ((Int × (Int × (Int × Unit))) × ((List Int) × Unit))) : Option ((Unit × ((List Int) × Unit))) := gl (fun X c => des_ofKeys_8_des_falling_L2 N X c.1.1 c.1.2.1 c.1.2.2.1 c.2.1) N c
theorem des_ofKeys_8_des_falling_L2_S (X : ((Int × (Int × (Int × Unit))) × ((List Int) × Unit)) → Option ((Unit × ((List Int) × Unit)))) (x1 : Int) (x8 : Int) (x9 : Int) (h0 : List (Int)) : (roundK Tryz.prog (Ev84 N) 400 [136, 8, 128] des_ofKeys_8_des_falling_L2_I (loopAt Tryz.prog [136, 8, 128] 2) X ((x1, x8, x9, ()), (h0, ()))).run = des_ofKeys_8_des_falling_L2 N X x1 x8 x9 h0 := by kernel_rfl
noncomputable def Ev85 : (R : Type) → Env R := Env.addLp (Ev84 N) [136, 8, 128] 1 2 (fun R => lpK Tryz.prog des_ofKeys_8_des_falling_L2_I (fun X c => des_ofKeys_8_des_falling_L2 N X c.1.1 c.1.2.1 c.1.2.2.1 c.2.1) N)
theorem Ev85_ok (R : Type) : EnvOK Tryz.prog (Ev85 N R) := EnvOK.addLp (Ev84_ok N R) (by kernel_rfl) (lpK_ok (li := des_ofKeys_8_des_falling_L2_I) (G := fun X c => des_ofKeys_8_des_falling_L2 N X c.1.1 c.1.2.1 c.1.2.2.1 c.2.1) hmx (Ev84_ok N _) (by kernel_rfl) loopAt_sub (fun (X : CT des_ofKeys_8_des_falling_L2_I.sh → Option (OT des_ofKeys_8_des_falling_L2_I.outs)) (c : CT des_ofKeys_8_des_falling_L2_I.sh) => des_ofKeys_8_des_falling_L2_S N X c.1.1 c.1.2.1 c.1.2.2.1 c.2.1) N)
noncomputable def des_ofKeys_L6_I : LI := ⟨28, 0, [], ⟨[(1, .lit (.own 0)), (3, .adr (.arr 4 (.int .i64))), (8, .ty (.arr 2 (.arr 4 (.int .i64)))), (9, .ty (.int .i64)), (12, .ty (.sl (.int .i64))), (13, .ty (.int .i64)), (14, .ty (.int .i64))], [.own (.int .i64) 3]⟩, [(.exit 2, ⟨[(1, .lit (.own 0)), (3, .adr (.arr 4 (.int .i64))), (8, .ty (.arr 2 (.arr 4 (.int .i64)))), (9, .ty (.int .i64))], [.own (.int .i64) 3]⟩)]⟩
noncomputable def des_ofKeys_L6 (X : (((Arr Int 4) × ((Arr (Arr Int 4) 2) × (Int × ((List Int) × (Int × (Int × Unit)))))) × ((List Int) × Unit)) → Option ((((Arr Int 4) × ((Arr (Arr Int 4) 2) × (Int × Unit))) × ((List Int) × Unit)))) (half3 : Arr Int 4) (x8 : Arr (Arr Int 4) 2) (x9 : Int) (x12 : List (Int)) (x13 : Int) (x14 : Int) (h0 : List (Int)) : Option ((((Arr Int 4) × ((Arr (Arr Int 4) 2) × (Int × Unit))) × ((List Int) × Unit))) :=
 bif (decide (x14 < x13)) then
  Option.bind (getI x12 x14) fun (v9 : Int) =>
  Option.bind (des_ofKeys_8_des_falling_L2_R N ((v9, ((8 : Int), ((0 : Int), ()))), (h0, ()))) fun v10 =>
  (X ((half3, (x8, (x9, (x12, (x13, ((IntKind.wrap .i64 (x14 + 1)), ())))))), (v10.2.1, ())))
 else
  some (((half3, (x8, (x9, ()))), (h0, ())))
noncomputable def des_ofKeys_L6_R (c : (((Arr Int 4) × ((Arr (Arr Int 4) 2) × (Int × ((List Int) × (Int × (Int × Unit)))))) × ((List Int) × Unit))) : Option ((((Arr Int 4) × ((Arr (Arr Int 4) 2) × (Int × Unit))) × ((List Int) × Unit))) := gl (fun X c => des_ofKeys_L6 N X c.1.1 c.1.2.1 c.1.2.2.1 c.1.2.2.2.1 c.1.2.2.2.2.1 c.1.2.2.2.2.2.1 c.2.1) N c
theorem des_ofKeys_L6_S (X : (((Arr Int 4) × ((Arr (Arr Int 4) 2) × (Int × ((List Int) × (Int × (Int × Unit)))))) × ((List Int) × Unit)) → Option ((((Arr Int 4) × ((Arr (Arr Int 4) 2) × (Int × Unit))) × ((List Int) × Unit)))) (half3 : Arr Int 4) (x8 : Arr (Arr Int 4) 2) (x9 : Int) (x12 : List (Int)) (x13 : Int) (x14 : Int) (h0 : List (Int)) : (roundK Tryz.prog (Ev85 N) 400 [128] des_ofKeys_L6_I (loopAt Tryz.prog [128] 6) X ((half3, x8, x9, x12, x13, x14, ()), (h0, ()))).run = des_ofKeys_L6 N X half3 x8 x9 x12 x13 x14 h0 := by kernel_rfl
noncomputable def Ev86 : (R : Type) → Env R := Env.addLp (Ev85 N) [128] 0 6 (fun R => lpK Tryz.prog des_ofKeys_L6_I (fun X c => des_ofKeys_L6 N X c.1.1 c.1.2.1 c.1.2.2.1 c.1.2.2.2.1 c.1.2.2.2.2.1 c.1.2.2.2.2.2.1 c.2.1) N)
theorem Ev86_ok (R : Type) : EnvOK Tryz.prog (Ev86 N R) := EnvOK.addLp (Ev85_ok N R) (by kernel_rfl) (lpK_ok (li := des_ofKeys_L6_I) (G := fun X c => des_ofKeys_L6 N X c.1.1 c.1.2.1 c.1.2.2.1 c.1.2.2.2.1 c.1.2.2.2.2.1 c.1.2.2.2.2.2.1 c.2.1) hmx (Ev85_ok N _) (by kernel_rfl) loopAt_sub (fun (X : CT des_ofKeys_L6_I.sh → Option (OT des_ofKeys_L6_I.outs)) (c : CT des_ofKeys_L6_I.sh) => des_ofKeys_L6_S N X c.1.1 c.1.2.1 c.1.2.2.1 c.1.2.2.2.1 c.1.2.2.2.2.1 c.1.2.2.2.2.2.1 c.2.1) N)
noncomputable def des_ofKeys_10_des_falling_L2_I : LI := ⟨21, 1, [(0, 3)], ⟨[(0, .lit (.own 1)), (1, .ty (.int .i64)), (8, .ty (.int .i64)), (9, .ty (.int .i64))], [.dead, .own (.int .i64) 3]⟩, [(.exit 0, ⟨[(0, .lit (.own 1))], [.dead, .own (.int .i64) 3]⟩)]⟩
noncomputable def des_ofKeys_10_des_falling_L2 (N : Nat) (X : ((Int × (Int × (Int × Unit))) × ((List Int) × Unit)) → Option ((Unit × ((List Int) × Unit)))) (x1 : Int) (x8 : Int) (x9 : Int) (h0 : List (Int)) : Option ((Unit × ((List Int) × Unit))) :=
 bif (decide (x9 < x8)) then
  bif (roomB ((List.length h0) + (List.length ([(IntKind.wrap .i64 (x1 - (IntKind.wrap .i64 ((8 : Int) * x9))))] : List (Int)))) 8) then
   (X ((x1, (x8, ((IntKind.wrap .i64 (x9 + 1)), ()))), ((h0 ++ ([(IntKind.wrap .i64 (x1 - (IntKind.wrap .i64 ((8 : Int) * x9))))] : List (Int))), ())))
  else
   none
 else
  some (((), (h0, ())))
noncomputable def des_ofKeys_10_des_falling_L2_R (c : ((Int × (Int × (Int × Unit))) × ((List Int) × Unit))) : Option ((Unit × ((List Int) × Unit))) := gl (fun X c => des_ofKeys_10_des_falling_L2 N X c.1.1 c.1.2.1 c.1.2.2.1 c.2.1) N c
theorem des_ofKeys_10_des_falling_L2_S (X : ((Int × (Int × (Int × Unit))) × ((List Int) × Unit)) → Option ((Unit × ((List Int) × Unit)))) (x1 : Int) (x8 : Int) (x9 : Int) (h0 : List (Int)) : (roundK Tryz.prog (Ev86 N) 400 [136, 10, 128] des_ofKeys_10_des_falling_L2_I (loopAt Tryz.prog [136, 10, 128] 2) X ((x1, x8, x9, ()), (h0, ()))).run = des_ofKeys_10_des_falling_L2 N X x1 x8 x9 h0 := by kernel_rfl
noncomputable def Ev87 : (R : Type) → Env R := Env.addLp (Ev86 N) [136, 10, 128] 1 2 (fun R => lpK Tryz.prog des_ofKeys_10_des_falling_L2_I (fun X c => des_ofKeys_10_des_falling_L2 N X c.1.1 c.1.2.1 c.1.2.2.1 c.2.1) N)
theorem Ev87_ok (R : Type) : EnvOK Tryz.prog (Ev87 N R) := EnvOK.addLp (Ev86_ok N R) (by kernel_rfl) (lpK_ok (li := des_ofKeys_10_des_falling_L2_I) (G := fun X c => des_ofKeys_10_des_falling_L2 N X c.1.1 c.1.2.1 c.1.2.2.1 c.2.1) hmx (Ev86_ok N _) (by kernel_rfl) loopAt_sub (fun (X : CT des_ofKeys_10_des_falling_L2_I.sh → Option (OT des_ofKeys_10_des_falling_L2_I.outs)) (c : CT des_ofKeys_10_des_falling_L2_I.sh) => des_ofKeys_10_des_falling_L2_S N X c.1.1 c.1.2.1 c.1.2.2.1 c.2.1) N)
noncomputable def des_ofKeys_L3_I : LI := ⟨28, 0, [(1, 3)], ⟨[(1, .lit (.own 0)), (8, .ty (.arr 2 (.arr 4 (.int .i64)))), (9, .ty (.int .i64))], [.own (.int .i64) 3]⟩, [(.exit 0, ⟨[(1, .lit (.own 0))], [.own (.int .i64) 3]⟩)]⟩
noncomputable def des_ofKeys_L3 (X : (((Arr (Arr Int 4) 2) × (Int × Unit)) × ((List Int) × Unit)) → Option ((Unit × ((List Int) × Unit)))) (x8 : Arr (Arr Int 4) 2) (x9 : Int) (h0 : List (Int)) : Option ((Unit × ((List Int) × Unit))) :=
 bif (decide (x9 < (2 : Int))) then
  Option.bind (getI x8.l x9) fun (v5 : (Arr Int 4)) =>
  Option.bind (takeI v5.l (3 : Int)) fun (v6 : (List Int)) =>
  Option.bind (des_ofKeys_L6_R N ((v5, (x8, (x9, (v6, ((((List.length v6) : Nat) : Int), ((0 : Int), ())))))), (h0, ()))) fun v7 =>
  Option.bind (getI v7.1.1.l (3 : Int)) fun (v8 : Int) =>
  Option.bind (des_ofKeys_10_des_falling_L2_R N ((v8, ((4 : Int), ((0 : Int), ()))), (v7.2.1, ()))) fun v9 =>
  (X ((v7.1.2.1, ((IntKind.wrap .i64 (v7.1.2.2.1 + 1)), ())), (v9.2.1, ())))
 else
  some (((), (h0, ())))
noncomputable def des_ofKeys_L3_R (c : (((Arr (Arr Int 4) 2) × (Int × Unit)) × ((List Int) × Unit))) : Option ((Unit × ((List Int) × Unit))) := gl (fun X c => des_ofKeys_L3 N X c.1.1 c.1.2.1 c.2.1) N c
theorem des_ofKeys_L3_S (X : (((Arr (Arr Int 4) 2) × (Int × Unit)) × ((List Int) × Unit)) → Option ((Unit × ((List Int) × Unit)))) (x8 : Arr (Arr Int 4) 2) (x9 : Int) (h0 : List (Int)) : (roundK Tryz.prog (Ev87 N) 400 [128] des_ofKeys_L3_I (loopAt Tryz.prog [128] 3) X ((x8, x9, ()), (h0, ()))).run = des_ofKeys_L3 N X x8 x9 h0 := by kernel_rfl
noncomputable def Ev88 : (R : Type) → Env R := Env.addLp (Ev87 N) [128] 0 3 (fun R => lpK Tryz.prog des_ofKeys_L3_I (fun X c => des_ofKeys_L3 N X c.1.1 c.1.2.1 c.2.1) N)
theorem Ev88_ok (R : Type) : EnvOK Tryz.prog (Ev88 N R) := EnvOK.addLp (Ev87_ok N R) (by kernel_rfl) (lpK_ok (li := des_ofKeys_L3_I) (G := fun X c => des_ofKeys_L3 N X c.1.1 c.1.2.1 c.2.1) hmx (Ev87_ok N _) (by kernel_rfl) loopAt_sub (fun (X : CT des_ofKeys_L3_I.sh → Option (OT des_ofKeys_L3_I.outs)) (c : CT des_ofKeys_L3_I.sh) => des_ofKeys_L3_S N X c.1.1 c.1.2.1 c.2.1) N)
noncomputable def des_ofKeys : Option (List Int) :=
 Option.bind (des_ofKeys_L3_R N (((@Arr.cons (Arr Int 4) (1 : Nat) (@Arr.cons Int 3 57 (@Arr.cons Int 2 58 (@Arr.cons Int 1 59 (@Arr.cons Int 0 60 (@Arr.nil Int))))) (@Arr.cons (Arr Int 4) (0 : Nat) (@Arr.cons Int 3 63 (@Arr.cons Int 2 62 (@Arr.cons Int 1 61 (@Arr.cons Int 0 28 (@Arr.nil Int))))) (@Arr.nil (Arr Int 4)))), ((0 : Int), ())), (([] : List Int), ()))) fun v1 =>
 some (v1.2.1)
theorem des_ofKeys_S : (runK Tryz.prog (Ev88 N) 400 128 [] [(.sl (.int .i64))] ()).run = des_ofKeys N  := by kernel_rfl
noncomputable def Ev89 : (R : Type) → Env R := Env.addFn (Ev88 N) 128 (fun R => fnK [] [(.sl (.int .i64))] (fun c => des_ofKeys N ))
theorem Ev89_ok (R : Type) : EnvOK Tryz.prog (Ev89 N R) := EnvOK.addFn hmx (Ev88_ok N R) (Ev88_ok N _) (by kernel_rfl) (fun c => des_ofKeys_S N )
noncomputable def bitp_may (N : Nat) (width0 : Int) : Option Bool :=
 Option.bind (bif (decide ((1 : Int) ≤ width0)) then
   some ((cond true (decide (width0 ≤ (64 : Int))) false))
  else
   some (false)) fun (v2 : Bool) =>
 some (v2)
theorem bitp_may_S (width0 : Int) : (runK Tryz.prog (Ev89 N) 400 138 [(.int .i64)] [.bool] (width0, ())).run = bitp_may N width0 := by kernel_rfl
noncomputable def Ev90 : (R : Type) → Env R := Env.addFn (Ev89 N) 138 (fun R => fnK [(.int .i64)] [.bool] (fun c => bitp_may N c.1))
theorem Ev90_ok (R : Type) : EnvOK Tryz.prog (Ev90 N R) := EnvOK.addFn hmx (Ev89_ok N R) (Ev89_ok N _) (by kernel_rfl) (fun c => bitp_may_S N c.1)
noncomputable def bitp_Permute_L4_I : LI := ⟨39, 0, [], ⟨[(0, .ty (.int .u64)), (1, .ty (.int .i64)), (2, .ty (.sl (.int .i64))), (19, .ty (.sl (.int .i64))), (20, .ty (.int .i64)), (21, .ty (.int .i64))], []⟩, [(.ret, ⟨[(6, .ty (.int .u64)), (7, .ty (.int .i64))], []⟩), (.exit 0, ⟨[(0, .ty (.int .u64)), (1, .ty (.int .i64)), (2, .ty (.sl (.int .i64)))], []⟩)]⟩
noncomputable def bitp_Permute_L4 (N : Nat) (X : ((Int × (Int × ((List Int) × ((List Int) × (Int × (Int × Unit)))))) × Unit) → Option ((((Int × (Int × Unit)) × Unit) ⊕ ((Int × (Int × ((List Int) × Unit))) × Unit)))) (x0 : Int) (width1 : Int) (table2 : List (Int)) (x19 : List (Int)) (x20 : Int) (x21 : Int) : Option ((((Int × (Int × Unit)) × Unit) ⊕ ((Int × (Int × ((List Int) × Unit))) × Unit))) :=
 bif (decide (x21 < x20)) then
  Option.bind (getI x19 x21) fun (v8 : Int) =>
  Option.bind (bif (decide (v8 < (1 : Int))) then
    some (true)
   else
    some ((cond false true (decide (width1 < v8))))) fun (v9 : Bool) =>
  bif v9 then
   some ((.inl (((0 : Int), ((1 : Int), ())), ())))
  else
   (X ((x0, (width1, (table2, (x19, (x20, ((IntKind.wrap .i64 (x21 + 1)), ())))))), ()))
 else
  some ((.inr ((x0, (width1, (table2, ()))), ())))
noncomputable def bitp_Permute_L4_R (c : ((Int × (Int × ((List Int) × ((List Int) × (Int × (Int × Unit)))))) × Unit)) : Option ((((Int × (Int × Unit)) × Unit) ⊕ ((Int × (Int × ((List Int) × Unit))) × Unit))) := gl (fun X c => bitp_Permute_L4 N X c.1.1 c.1.2.1 c.1.2.2.1 c.1.2.2.2.1 c.1.2.2.2.2.1 c.1.2.2.2.2.2.1) N c
theorem bitp_Permute_L4_S (X : ((Int × (Int × ((List Int) × ((List Int) × (Int × (Int × Unit)))))) × Unit) → Option ((((Int × (Int × Unit)) × Unit) ⊕ ((Int × (Int × ((List Int) × Unit))) × Unit)))) (x0 : Int) (width1 : Int) (table2 : List (Int)) (x19 : List (Int)) (x20 : Int) (x21 : Int) : (roundK Tryz.prog (Ev90 N) 400 [135] bitp_Permute_L4_I (loopAt Tryz.prog [135] 4) X ((x0, width1, table2, x19, x20, x21, ()), ())).run = bitp_Permute_L4 N X x0 width1 table2 x19 x20 x21 := by kernel_rfl
noncomputable def Ev91 : (R : Type) → Env R := Env.addLp (Ev90 N) [135] 0 4 (fun R => lpK Tryz.prog bitp_Permute_L4_I (fun X c => bitp_Permute_L4 N X c.1.1 c.1.2.1 c.1.2.2.1 c.1.2.2.2.1 c.1.2.2.2.2.1 c.1.2.2.2.2.2.1) N)
theorem Ev91_ok (R : Type) : EnvOK Tryz.prog (Ev91 N R) := EnvOK.addLp (Ev90_ok N R) (by kernel_rfl) (lpK_ok (li := bitp_Permute_L4_I) (G := fun X c => bitp_Permute_L4 N X c.1.1 c.1.2.1 c.1.2.2.1 c.1.2.2.2.1 c.1.2.2.2.2.1 c.1.2.2.2.2.2.1) hmx (Ev90_ok N _) (by kernel_rfl) loopAt_sub (fun (X : CT bitp_Permute_L4_I.sh → Option (OT bitp_Permute_L4_I.outs)) (c : CT bitp_Permute_L4_I.sh) => bitp_Permute_L4_S N X c.1.1 c.1.2.1 c.1.2.2.1 c.1.2.2.2.1 c.1.2.2.2.2.1 c.1.2.2.2.2.2.1) N)
noncomputable def bitp_Bit (x0 : Int) (width1 : Int) (i2 : Int) : Option Int :=
 Option.bind (bitp_may N width1) fun v4 =>
 Option.bind (bif (!v4) then
   some (true)
  else
   some ((cond false true (decide (i2 < (1 : Int)))))) fun (v5 : Bool) =>
 Option.bind (bif v5 then
   some (true)
  else
   some ((cond false true (decide (width1 < i2))))) fun (v6 : Bool) =>
 bif v6 then
  some ((0 : Int))
 else
  bif (decide ((0 : Int) ≤ (IntKind.wrap .i64 (width1 - i2)))) then
   some ((bits .and .u64 (@Int.fdiv x0 ((2 : Int) ^ (min (Int.toNat (IntKind.wrap .i64 (width1 - i2))) (IntKind.bits .u64)))) (1 : Int)))
  else
   none
theorem bitp_Bit_S (x0 : Int) (width1 : Int) (i2 : Int) : (runK Tryz.prog (Ev91 N) 400 145 [(.int .u64), (.int .i64), (.int .i64)] [(.int .u64)] (x0, width1, i2, ())).run = bitp_Bit N x0 width1 i2 := by kernel_rfl
noncomputable def Ev92 : (R : Type) → Env R := Env.addFn (Ev91 N) 145 (fun R => fnK [(.int .u64), (.int .i64), (.int .i64)] [(.int .u64)] (fun c => bitp_Bit N c.1 c.2.1 c.2.2.1))
theorem Ev92_ok (R : Type) : EnvOK Tryz.prog (Ev92 N R) := EnvOK.addFn hmx (Ev91_ok N R) (Ev91_ok N _) (by kernel_rfl) (fun c => bitp_Bit_S N c.1 c.2.1 c.2.2.1)
noncomputable def bitp_Permute_10_bitp_named_L1_I : LI := ⟨23, 1, [], ⟨[(0, .ty (.int .u64)), (1, .ty (.int .i64)), (3, .lit (.clo 143 [.box 0 0])), (10, .ty (.sl (.int .i64))), (11, .ty (.int .i64)), (12, .ty (.int .i64))], [.box 82 (.int .u64)]⟩, [(.exit 0, ⟨[], [.box 82 (.int .u64)]⟩)]⟩
noncomputable def bitp_Permute_10_bitp_named_L1 (X : ((Int × (Int × ((List Int) × (Int × (Int × Unit))))) × (Int × Unit)) → Option ((Unit × (Int × Unit)))) (x0 : Int) (width1 : Int) (x10 : List (Int)) (x11 : Int) (x12 : Int) (h0 : Int) : Option ((Unit × (Int × Unit))) :=
 bif (decide (x12 < x11)) then
  Option.bind (getI x10 x12) fun (v8 : Int) =>
  Option.bind (bitp_Bit N x0 width1 v8) fun v9 =>
  (X ((x0, (width1, (x10, (x11, ((IntKind.wrap .i64 (x12 + 1)), ()))))), ((bits .or .u64 (IntKind.wrap .u64 (h0 * ((2 : Int) ^ (min (Int.toNat (1 : Int)) (IntKind.bits .u64))))) v9), ())))
 else
  some (((), (h0, ())))
noncomputable def bitp_Permute_10_bitp_named_L1_R (c : ((Int × (Int × ((List Int) × (Int × (Int × Unit))))) × (Int × Unit))) : Option ((Unit × (Int × Unit))) := gl (fun X c => bitp_Permute_10_bitp_named_L1 N X c.1.1 c.1.2.1 c.1.2.2.1 c.1.2.2.2.1 c.1.2.2.2.2.1 c.2.1) N c
theorem bitp_Permute_10_bitp_named_L1_S (X : ((Int × (Int × ((List Int) × (Int × (Int × Unit))))) × (Int × Unit)) → Option ((Unit × (Int × Unit)))) (x0 : Int) (width1 : Int) (x10 : List (Int)) (x11 : Int) (x12 : Int) (h0 : Int) : (roundK Tryz.prog (Ev92 N) 400 [142, 10, 135] bitp_Permute_10_bitp_named_L1_I (loopAt Tryz.prog [142, 10, 135] 1) X ((x0, width1, x10, x11, x12, ()), (h0, ()))).run = bitp_Permute_10_bitp_named_L1 N X x0 width1 x10 x11 x12 h0 := by kernel_rfl
noncomputable def Ev93 : (R : Type) → Env R := Env.addLp (Ev92 N) [142, 10, 135] 1 1 (fun R => lpK Tryz.prog bitp_Permute_10_bitp_named_L1_I (fun X c => bitp_Permute_10_bitp_named_L1 N X c.1.1 c.1.2.1 c.1.2.2.1 c.1.2.2.2.1 c.1.2.2.2.2.1 c.2.1) N)
theorem Ev93_ok (R : Type) : EnvOK Tryz.prog (Ev93 N R) := EnvOK.addLp (Ev92_ok N R) (by kernel_rfl) (lpK_ok (li := bitp_Permute_10_bitp_named_L1_I) (G := fun X c => bitp_Permute_10_bitp_named_L1 N X c.1.1 c.1.2.1 c.1.2.2.1 c.1.2.2.2.1 c.1.2.2.2.2.1 c.2.1) hmx (Ev92_ok N _) (by kernel_rfl) loopAt_sub (fun (X : CT bitp_Permute_10_bitp_named_L1_I.sh → Option (OT bitp_Permute_10_bitp_named_L1_I.outs)) (c : CT bitp_Permute_10_bitp_named_L1_I.sh) => bitp_Permute_10_bitp_named_L1_S N X c.1.1 c.1.2.1 c.1.2.2.1 c.1.2.2.2.1 c.1.2.2.2.2.1 c.2.1) N)
noncomputable def bitp_Permute (x0 : Int) (width1 : Int) (table2 : List (Int)) : Option (Int × Int) :=
 Option.bind (bitp_may N width1) fun v4 =>
 bif (!v4) then
  some (((0 : Int), (1 : Int)))
 else
  Option.bind (some ((cond false true (decide ((64 : Int) < (((List.length table2) : Nat) : Int)))))) fun (v5 : Bool) =>
  bif v5 then
   some (((0 : Int), (1 : Int)))
  else
   Option.bind (bitp_Permute_L4_R N ((x0, (width1, (table2, (table2, ((((List.length table2) : Nat) : Int), ((0 : Int), ())))))), ())) fun v6 =>
   Sum.elim
    (fun (v7 : ((Int × (Int × Unit)) × Unit)) =>
    some ((v7.1.1, v7.1.2.1)))
    (fun (v7 : ((Int × (Int × ((List Int) × Unit))) × Unit)) =>
    Option.bind (bitp_Permute_10_bitp_named_L1_R N ((v7.1.1, (v7.1.2.1, (v7.1.2.2.1, ((((List.length v7.1.2.2.1) : Nat) : Int), ((0 : Int), ()))))), ((0 : Int), ()))) fun v8 =>
    some ((v8.2.1, (0 : Int)))) v6
theorem bitp_Permute_S (x0 : Int) (width1 : Int) (table2 : List (Int)) : (runK Tryz.prog (Ev93 N) 400 135 [(.int .u64), (.int .i64), (.sl (.int .i64))] [(.int .u64), (.int .i64)] (x0, width1, table2, ())).run = bitp_Permute N x0 width1 table2 := by kernel_rfl
noncomputable def Ev94 : (R : Type) → Env R := Env.addFn (Ev93 N) 135 (fun R => fnK [(.int .u64), (.int .i64), (.sl (.int .i64))] [(.int .u64), (.int .i64)] (fun c => bitp_Permute N c.1 c.2.1 c.2.2.1))
theorem Ev94_ok (R : Type) : EnvOK Tryz.prog (Ev94 N R) := EnvOK.addFn hmx (Ev93_ok N R) (Ev93_ok N _) (by kernel_rfl) (fun c => bitp_Permute_S N c.1 c.2.1 c.2.2.1)
noncomputable def des_permuted (x0 : Int) (width1 : Int) (table2 : List (Int)) : Option Int :=
 Option.bind (bitp_Permute N x0 width1 table2) fun v4 =>
 some (v4.1)
theorem des_permuted_S (x0 : Int) (width1 : Int) (table2 : List (Int)) : (runK Tryz.prog (Ev94 N) 400 123 [(.int .u64), (.int .i64), (.sl (.int .i64))] [(.int .u64)] (x0, width1, table2, ())).run = des_permuted N x0 width1 table2 := by kernel_rfl
noncomputable def Ev95 : (R : Type) → Env R := Env.addFn (Ev94 N) 123 (fun R => fnK [(.int .u64), (.int .i64), (.sl (.int .i64))] [(.int .u64)] (fun c => des_permuted N c.1 c.2.1 c.2.2.1))
theorem Ev95_ok (R : Type) : EnvOK Tryz.prog (Ev95 N R) := EnvOK.addFn hmx (Ev94_ok N R) (Ev94_ok N _) (by kernel_rfl) (fun c => des_permuted_S N c.1 c.2.1 c.2.2.1)
end
end Go.Proofs.YtphkpiocblmpeaaGreatDoor
