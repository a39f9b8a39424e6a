/-
  Parts of my own, one behind the other: KRead, KLaid, QBase2, QOctsD, QOcts, In1, In2, In3, In4, In5, Ri, Rg, KD, Rl, Rf, Dec, Shf, It, Pj, GJg, Rj0, Rj, Rs, Rls, Rfs, Ss, Sr, Rk0, Rk.
-/
import Derived.Test.YtkigpcolmioibaaDoorMrg3
import Derived.LaidMore
import Derived.MakeChecks
import Derived.SevenTiedAt
import Derived.Stop.LaidErr
import Derived.TacticsIn
import Derived.RangeFuncCalls
import Derived.OrdersIn
import Derived.LoopNIn
import Derived.RangeFuncWrites
import Derived.Test.YtkigpcolmioibaaDoorMrg1
import Derived.RangeFuncNested
import Derived.RangeFuncLeaves
import Derived.Shelf.Abstract
import Derived.WalkKit
import Derived.OwnWalkIn
import Derived.TacticsInMore
import Derived.LoopIn
import Derived.Laws.Rows
import Derived.Laws.Tables
import Derived.Deep.WholeRow
import Derived.Lib.DecodeN
import Derived.Shelf.Strings.Builder1
import Derived.Shelf.Strings.Builder2
import Derived.Shelf.Strings.OnBuilder
import Derived.Shelf.Strings.BuilderF
import Derived.Shelf.Strings.BuilderK
import Derived.Shelf.Strings.Builder2Cap
import Derived.Shelf.Strconv.Itoa0
import Derived.Shelf.Strconv.Itoa1
import Derived.Shelf.LaysM
import Derived.Shelf.Strconv.Itoa2
import Derived.Shelf.Strconv.Itoa3
import Derived.Shelf.Strconv.Clone
import Derived.Shelf.Strconv.SyntaxError
import Derived.Shelf.LaysC
import Derived.Shelf.Strconv.ToError
import Derived.Shelf.Strconv.Lower
import Derived.Shelf.Strconv.ParseUint10
import Derived.Shelf.Strconv.ParseUint10Empty
import Derived.Shelf.Strconv.ParseUint10Any
import Derived.Shelf.Strconv.RangeError
import Derived.Shelf.Strconv.ToErrorRange
import Derived.Shelf.Strconv.ParseUintEmpty
import Derived.Shelf.Strconv.ParseUint10b64
import Derived.Shelf.Strconv.ParseUint10b32
import Derived.Shelf.Strconv.ParseUint10b16
import Derived.Shelf.Strconv.ParseUint10b8
import Derived.Shelf.Strconv.ParseUint10At
import Derived.Ground.MpProg
import Derived.Shelf.Pu.ParseUintPublic10
import Derived.Shelf.Pu.ErrVarParseUint
import Derived.Shelf.Strings.Search1
import Derived.Shelf.Strings.Search2
import Derived.Shelf.Strings.Search3
import Derived.Shelf.Strings.Shaped
import Derived.Shelf.Unicode.Decode
import Derived.Shelf.Unicode.DecodeSlow
import Derived.Shelf.Unicode.DecodeAny
import Derived.Shelf.Strings.BuilderCap
import Derived.Shelf.Bytes.SlSearch0
import Derived.Shelf.Bytes.SlEqualAll
import Derived.Shelf.Bytes.Small
import Derived.Test.YtkigpcolmioibaaDoorProg
import Derived.Lib.ItoaNum
import Derived.Lib.AppendIntMem
import Derived.ProofKit
import Derived.Lib.ParseIntB
import Derived.BigCall
import Derived.BigGuard
import Derived.Lib.Bytealg
namespace Go.Proofs.YtkigpcolmioibaaDoor
set_option maxRecDepth 100000
open Go.ChangeShapes Go.WideShapes Go.ChangeAt Go.RowKit
set_option linter.unusedVariables false
set_option linter.unusedSimpArgs false
def wfT : (d : Td) → T d → Prop
 | .int k, n => (Lit.int k n).wf = true
 | .bool, _ => True
 | .str, s => s.length ≤ maxLen
 | .sl d, l => l.length ≤ maxLen ∧ ∀ x ∈ l, wfT d x
 | .arr n d, a => ∀ x ∈ a.l, wfT d x
 | .pair d e, x => wfT d x.1 ∧ wfT e x.2
section
variable {P : Program} {H : Type} {enc : TypeId × Value → H} {W : World}
theorem pick_list {α : Type} (Q : Nat → α → Prop) : ∀ n, (∀ i, i < n → ∃ y, Q i y) → ∃ l : List α, l.length = n ∧ ∀ i y, l[i]? = some y → Q i y
 | 0, _ => ⟨[], rfl, fun i y h => by simp at h⟩
 | n + 1, h => by
  obtain ⟨l, h1, h2⟩ := pick_list Q n fun i hi => h i (by omega)
  obtain ⟨y, hy⟩ := h n (by omega)
  refine ⟨l ++ [y], by simp [h1], fun i z hz => ?_⟩
  rcases Nat.lt_or_ge i n with hi | hi
  ·rw [List.getElem?_append_left (by omega)] at hz; exact h2 i z hz
  ·rw [List.getElem?_append_right (by omega)] at hz
   have : i - l.length = 0 := by have := (List.getElem?_eq_some_iff.1 hz).1; simp at this; omega
   rw [this] at hz
   simp at hz
   subst hz
   rw [show i = n by omega]; exact hy
theorem cell_spot {a : Addr} {v : Value} (h : W.cell? a = some v) : a.spot = none := by
 unfold World.cell? at h
 split at h
 ·split at h
  ·cases h
  ·rename_i hs; cases hx : a.spot with
   | none => rfl
   | some _ => rw [hx] at hs; simp at hs
 ·cases h
theorem add_add (a : Addr) (i j : Nat) (h : a.spot = none) : (a.add i).add j = a.add (i + j) := by
 unfold Addr.add
 obtain ⟨b, o, s⟩ := a
 simp only at h
 subst h
 by_cases hi : i = 0 <;> by_cases hj : j = 0 <;> simp [hi, hj, Nat.add_assoc]
theorem cells_get {a : Addr} {n : Nat} {cs : List Value} (h : W.cells? 0 a n = some cs) : cs.length = n ∧ ∀ i u, cs[i]? = some u → W.cell? (a.add i) = some u := by
 unfold World.cells? at h
 rw [if_pos (Nat.zero_le _)] at h
 have hl := mapM_some_length h
 rw [List.length_range] at hl
 refine ⟨hl, fun i u hu => ?_⟩
 have hi : i < n := by have := (List.getElem?_eq_some_iff.1 hu).1; omega
 rw [mapM_some_get h i i (by simp [hi])]
 exact hu
theorem flat_rel {d : Td} (xs : List (T d)) (us : Nat → Value) (B : List Nat) (h : ∀ i x, xs[i]? = some x → ∀ j y, (cells d x)[j]? = some y → Rel W B [] y (us (i * wd d + j))) : ∀ i y, (flat d xs)[i]? = some y → Rel W B [] y (us i) := by
 intro i y hy
 have hi : i < xs.length * wd d := by have := (List.getElem?_eq_some_iff.1 hy).1; rwa [flat_length] at this
 have hw : 0 < wd d := by rcases Nat.eq_zero_or_pos (wd d) with h | h; rw [h] at hi; omega; exact h
 have hq : i / wd d < xs.length := Nat.div_lt_of_lt_mul (by rw [Nat.mul_comm]; exact hi)
 have hx : xs[i / wd d]? = some xs[i / wd d] := List.getElem?_eq_getElem hq
 have hf := flat_at d xs (i / wd d) _ hx
 have hr : i % wd d < wd d := Nat.mod_lt _ hw
 have hdm := Nat.div_add_mod i (wd d)
 have h1 : (cells d xs[i / wd d])[i % wd d]? = some y := by
  rw [← hf, List.getElem?_take, if_pos hr, List.getElem?_drop]
  rw [show i / wd d * wd d + i % wd d = i by rw [Nat.mul_comm]; exact hdm]
  exact hy
 have := h _ _ hx _ _ h1
 rwa [show i / wd d * wd d + i % wd d = i by rw [Nat.mul_comm]; exact hdm] at this
mutual
theorem read_td : ∀ (n : Nat) (t : TypeId) (d : Td), layT' P n t d = true → ∀ (fuel : Nat) (cs : List Value) (x : DataW H × List MemPlace), DataW.trod enc P W 0 (fun _ => true) true fuel t cs = some x → ∃ y : T d, RelL W [] [] (cells d y) cs ∧ wfT d y
 | 0, t, d, h => by simp [layT'] at h
 | n + 1, t, d, h => by
  intro fuel cs x hx
  simp only [layT', Bool.and_eq_true, beq_iff_eq] at h
  obtain ⟨hc, h⟩ := h
  split at h
  ·rename_i k k' hu
   have := of_decide_eq_true h
   subst this
   obtain ⟨z, rfl, _, hw⟩ := DataW.trod_int hu hx
   exact ⟨z, RelL.cons (.c _ _) (RelL.nil _ _ _), hw⟩
  ·rename_i hu
   obtain ⟨z, rfl, _⟩ := DataW.trod_bool hu hx
   exact ⟨z, RelL.cons (.c _ _) (RelL.nil _ _ _), trivial⟩
  ·rename_i hu
   obtain ⟨s, rfl, _, hs⟩ := DataW.trod_string hu hx
   refine ⟨s.data.toList, RelL.cons ?_ (RelL.nil _ _ _), by show s.data.toList.length ≤ maxLen; simpa using hs⟩
   have : (⟨s.data.toList.toArray⟩ : ByteArray) = s := by cases s; simp
   rw [this]; exact .c _ _
  ·rename_i e d hu
   simp only [Bool.and_eq_true, decide_eq_true_eq] at h
   obtain ⟨hw, h⟩ := h
   have hce := layT_cells h
   rcases DataW.trod_slice hu hx with ⟨rfl, _⟩ | ⟨a, len, cap, elems, rest, m, rfl, rfl, _, _, hlc, hm, hel, hels, _⟩
   ·exact ⟨[], RelL.cons (rel_nil_sl hw (.c _ _)) (RelL.nil _ _ _), by simp [maxLen], fun x hx => by cases hx⟩
   ·obtain ⟨ys, hy1, hy2⟩ := pick_list (fun i y => ∃ us, W.cells? 0 (a.add (i * wd d)) (wd d) = some us ∧ RelL W [] [] (cells d y) us ∧ wfT d y) len fun i hi => by
     have h0 := hels i hi
     rw [List.getElem?_eq_getElem (by omega), hce] at h0
     obtain ⟨us, q1, q2⟩ := Option.bind_eq_some_iff.1 h0
     obtain ⟨y, q3, q4⟩ := read_td n e d h _ _ _ q2
     exact ⟨y, us, q1, q3, q4⟩
    refine ⟨ys, RelL.cons ?_ (RelL.nil _ _ _), by rw [hy1]; omega, fun x hx => ?_⟩
    ·have hspot : 0 < len → a.spot = none := fun h0 => by
      obtain ⟨us, q1, q3, _⟩ := hy2 0 ys[0] (List.getElem?_eq_getElem (by omega))
      have hl := (cells_get q1).1
      have := (cells_get q1).2 0 us[0] (List.getElem?_eq_getElem (by omega))
      have := cell_spot this
      unfold Addr.add at this
      simpa using this
     have hcell : ∀ i x, ys[i]? = some x → ∀ j y, (cells d x)[j]? = some y → Rel W [] [] y ((W.cell? (a.add (i * wd d + j))).getD undef) ∧ (W.cell? (a.add (i * wd d + j))).isSome = true := fun i x hx j y hy => by
      obtain ⟨us, q1, q3, _⟩ := hy2 i x hx
      obtain ⟨u, q4, q5⟩ := q3.2 j y hy
      have := (cells_get q1).2 j u q4
      have h0 : 0 < len := by have := (List.getElem?_eq_some_iff.1 hx).1; omega
      rw [add_add a _ _ (hspot h0)] at this
      rw [this]
      exact ⟨q5, rfl⟩
     have hr := flat_rel (W := W) ys (fun i => (W.cell? (a.add i)).getD undef) [] fun i x hx j y hy => (hcell i x hx j y hy).1
     refine .sl _ _ _ _ _ _ (fun i => (W.cell? (a.add i)).getD undef) hw (by show len * wd d = (flat d ys).length; rw [flat_length, hy1]) hlc hm (fun h0 => ⟨a, rfl, hspot h0, ?_, by simp, fun i hi => ?_⟩) hr
     ·obtain ⟨us, q1, q3, _⟩ := hy2 0 ys[0] (List.getElem?_eq_getElem (by omega))
      have hl := (cells_get q1).1
      have := (cells_get q1).2 0 us[0] (List.getElem?_eq_getElem (by omega))
      have := World.block_lt_of_cell? W _ this
      rwa [block_of_add, block_of_add] at this
     ·have hi' : i < len * wd d := by change i < (flat d ys).length at hi; rw [flat_length, hy1] at hi; exact hi
      have hq : i / wd d < ys.length := by rw [hy1]; exact Nat.div_lt_of_lt_mul (by rw [Nat.mul_comm]; exact hi')
      have hrm : i % wd d < (cells d ys[i / wd d]).length := by rw [cells_length]; exact Nat.mod_lt _ (by omega)
      have := (hcell _ _ (List.getElem?_eq_getElem hq) _ _ (List.getElem?_eq_getElem hrm)).2
      rw [show i / wd d * wd d + i % wd d = i by rw [Nat.mul_comm]; exact Nat.div_add_mod i (wd d)] at this
      obtain ⟨u, hu⟩ := Option.isSome_iff_exists.1 this
      rw [hu]; rfl
    ·obtain ⟨i, hi⟩ := List.getElem?_of_mem hx
     obtain ⟨_, _, _, q⟩ := hy2 i x hi
     exact q
  ·rename_i m e m' d hu
   simp only [Bool.and_eq_true, beq_iff_eq] at h
   obtain ⟨rfl, h⟩ := h
   have hce := layT_cells h
   obtain ⟨xs, m2, rfl, _, hl, hxl, hi⟩ := DataW.trod_array hu hx
   obtain ⟨ys, hy1, hy2⟩ := pick_list (fun i y => RelL W [] [] (cells d y) ((cs.drop (i * wd d)).take (wd d)) ∧ wfT d y) m fun i h1 => by
    have h0 := hi i h1
    rw [List.getElem?_eq_getElem (by omega), hce] at h0
    exact read_td n e d h _ _ _ h0
   refine ⟨⟨ys, hy1⟩, ⟨?_, ?_⟩, fun x hx => ?_⟩
   ·rw [cells_length, ← hc]; exact hl.symm ▸ rfl
   ·intro i y hy
    have hr := flat_rel (W := W) ys (fun i => cs.getD i undef) [] fun i x hx j y hy => by
     obtain ⟨u, q1, q2⟩ := (hy2 i x hx).1.2 j y hy
     rw [List.getElem?_take] at q1
     split at q1
     ·rw [List.getElem?_drop] at q1
      rw [List.getD_eq_getElem?_getD, q1]; exact q2
     ·cases q1
    have hlt : i < cs.length := by
     have := (List.getElem?_eq_some_iff.1 hy).1
     rw [cells_length, ← hc, ← hl] at this
     exact this
    refine ⟨cs[i], List.getElem?_eq_getElem hlt, ?_⟩
    have := hr i y hy
    rwa [List.getD_eq_getElem?_getD, List.getElem?_eq_getElem hlt] at this
   ·obtain ⟨i, hi⟩ := List.getElem?_of_mem hx
    exact (hy2 i x hi).2
  ·rename_i fs hu
   obtain ⟨xs, m2, rfl, _, hl, hxl, hi⟩ := DataW.trod_struct hu hx
   have := read_fs n fs.toList 0 _ h m2 cs (fun i f hf => by
    have h0 := hi i f (by simpa using hf)
    have hlt : i < xs.length := by have := (List.getElem?_eq_some_iff.1 hf).1; rw [hxl]; simpa using this
    exact ⟨_, h0.trans (List.getElem?_eq_getElem hlt)⟩) (by rw [hl, hc]; omega)
   simpa using this
  ·cases h
theorem read_fs : ∀ (n : Nat) (fs : List Field) (o : Nat) (d : Td), layFs P n fs o d = true → ∀ (m : Nat) (cs : List Value), (∀ (i : Nat) (f : Field), fs[i]? = some f → ∃ x, DataW.trod enc P W 0 (fun _ => true) true m f.type ((cs.drop f.offset).take (P.cellsOf f.type)) = some x) → cs.length = o + wd d → ∃ y : T d, RelL W [] [] (cells d y) (cs.drop o) ∧ wfT d y
 | 0, fs, o, d, h => by simp [layFs] at h
 | n + 1, [], o, d, h => by simp [layFs] at h
 | n + 1, [f], o, d, h => by
  intro m cs hx hl
  simp only [layFs, Bool.and_eq_true, beq_iff_eq] at h
  obtain ⟨rfl, h⟩ := h
  obtain ⟨x, hx⟩ := hx 0 f rfl
  rw [layT_cells h] at hx
  obtain ⟨y, h1, h2⟩ := read_td n _ d h _ _ _ hx
  rw [List.take_of_length_le (by rw [List.length_drop]; omega)] at h1
  exact ⟨y, h1, h2⟩
 | n + 1, f :: g :: fs, o, d, h => by
  intro m cs hx hl
  simp only [layFs] at h
  split at h
  ·rename_i d e
   simp only [Bool.and_eq_true, beq_iff_eq] at h
   obtain ⟨⟨rfl, h⟩, h'⟩ := h
   simp only [wd] at hl
   obtain ⟨x, hx0⟩ := hx 0 f rfl
   rw [layT_cells h] at hx0
   obtain ⟨y, h1, h2⟩ := read_td n _ d h _ _ _ hx0
   obtain ⟨z, h3, h4⟩ := read_fs n (g :: fs) _ e h' m cs (fun i f' hf => hx (i + 1) f' (by simpa using hf)) (by omega)
   refine ⟨(y, z), ?_, h2, h4⟩
   have := h1.append h3
   rw [← List.drop_drop, List.take_append_drop] at this
   exact this
  ·cases h
end
end
def rowB (P : Program) (t : TypeId) : Bool := match P.underlying t with
 | some (.struct _) | some (.array _ _) => true
 | _ => false
theorem okWide_row {P : Program} {W : World} {base : Nat} {t : TypeId} {v : Value} (h : rowB P t = true) (hv : Value.okWide P W .any base t v) : ∃ cs, v = .agg cs := by
 unfold rowB at h
 unfold Value.okWide at hv
 split at h
 ·rename_i hu; rw [hu] at hv; obtain ⟨cs, h1, _⟩ := hv; exact ⟨cs, h1⟩
 ·rename_i hu; rw [hu] at hv; obtain ⟨cs, h1, _⟩ := hv; exact ⟨cs, h1⟩
 ·cases h
theorem okWide_one {P : Program} {W : World} {base n : Nat} {t : TypeId} {d : Td} {v : Value} (hl : layT' P n t d = true) (h : rowB P t = false) (hv : Value.okWide P W .any base t v) : v.cells.toList = [v] := by
 cases n with
 | zero => simp [layT'] at hl
 | succ n =>
  simp only [layT', Bool.and_eq_true] at hl
  replace hl := hl.2
  split at hl
  ·rename_i hu; obtain ⟨_, rfl⟩ := okWide_int hu hv; rfl
  ·rename_i hu
   simp only [Value.okWide, hu, Cell.okWide] at hv
   cases v <;> first | rfl | simp_all [Cell.ok]
  ·rename_i hu; obtain ⟨_, rfl⟩ := okWide_string hu hv; rfl
  ·rename_i hu; obtain ⟨_, _, _, rfl⟩ := okWide_slice hu hv; rfl
  ·rename_i hu; simp [rowB, hu] at h
  ·rename_i hu; simp [rowB, hu] at h
  ·cases hl
theorem open_td {H : Type} {enc : TypeId × Value → H} {W : World} {t : TypeId} {d : Td} (hl : layT' Tryd.prog 24 t d = true) (hr : rowB Tryd.prog t = rowD d) {base : Nat} {v : Value} {x : DataW H} {p : List MemPlace} (hv : Value.okWide Tryd.prog W .any base t v) (h : DataW.Trod enc Tryd.prog W 0 (fun _ => true) true t v x p) : ∃ y : T d, Rel W [] [] (ex (valV d y)) v ∧ wfT d y := by
 obtain ⟨fuel, hf⟩ := h
 obtain ⟨y, h1, h2⟩ := read_td _ _ _ hl _ _ _ hf
 refine ⟨y, ?_, h2⟩
 cases hd : rowD d with
 | true =>
  obtain ⟨cs, rfl⟩ := okWide_row (hr.trans hd) hv
  rw [valV_row d y hd]
  refine .agg _ _ cs (fun i => cs.getD i undef) (by rw [← h1.1]; simp [Value.cells]) (fun i x hx => ?_) (fun i x hx => ?_)
  ·obtain ⟨u, q1, _⟩ := h1.2 i x hx
   simp only [Value.cells, Array.getElem?_toList] at q1
   rw [Array.getD_eq_getD_getElem?, q1]; rfl
  ·obtain ⟨u, q1, q2⟩ := h1.2 i x hx
   simp only [Value.cells, Array.getElem?_toList] at q1
   rw [Array.getD_eq_getD_getElem?, q1]; exact q2
 | false =>
  rw [okWide_one hl (hr.trans hd) hv, valV_one d y hd] at h1
  obtain ⟨u, q1, q2⟩ := h1.2 0 _ rfl
  simp at q1
  rw [q1]; exact q2
end Go.Proofs.YtkigpcolmioibaaDoor
namespace Go.Proofs.YtkigpcolmioibaaDoor
set_option maxRecDepth 100000
open Go.RowKit Go.ChangeShapes
set_option linter.unusedVariables false
set_option linter.unusedSimpArgs false
def datL {H : Type} : Nat → DataW H → List Value
 | 0, _ => []
 | n + 1, .lit l => [l.value]
 | n + 1, .agg ps => ps.flatMap (datL n)
 | _, _ => []
section
variable {P : Program} {H : Type} {enc : TypeId × Value → H} {W : World} {sp : Nat → Bool} {base : Nat} {held : Bool}
mutual
theorem lit_td : ∀ (n : Nat) (t : TypeId) (d : Td), layT' P n t d = true → eqD d = true → ∀ (fuel : Nat) (cs : List Value) (x : DataW H × List MemPlace), DataW.trod enc P W base sp held fuel t cs = some x → ∀ m, n ≤ m → datL m x.1 = cs
 | 0, t, d, h => by simp [layT'] at h
 | n + 1, t, d, h => by
  intro hd fuel cs x hx m hm
  obtain ⟨m, rfl⟩ : ∃ m', m = m' + 1 := ⟨m - 1, by omega⟩
  simp only [layT', Bool.and_eq_true, beq_iff_eq] at h
  obtain ⟨hc, h⟩ := h
  split at h
  ·rename_i k k' hu
   obtain ⟨z, rfl, rfl, hw⟩ := DataW.trod_int hu hx
   rfl
  ·rename_i hu
   obtain ⟨z, rfl, rfl⟩ := DataW.trod_bool hu hx
   rfl
  ·rename_i hu
   obtain ⟨s, rfl, rfl, hs⟩ := DataW.trod_string hu hx
   simp [datL, Lit.value]
  ·cases hd
  ·rename_i k e k' d hu
   simp only [Bool.and_eq_true, beq_iff_eq] at h
   obtain ⟨rfl, h⟩ := h
   have hce := layT_cells h
   obtain ⟨xs, m2, rfl, rfl, hl, hxl, hi⟩ := DataW.trod_array hu hx
   have key : ∀ (j i : Nat), j + i = k → ((xs.drop i).map (·.1)).flatMap (datL m) = cs.drop (i * wd d) := by
    intro j
    induction j with
    | zero =>
     intro i hi0
     rw [List.drop_of_length_le (by omega), List.drop_of_length_le (by rw [hl, hc]; simp only [wd]; rw [show i = k by omega]; exact Nat.le_refl _)]
     rfl
    | succ j ih =>
     intro i hi0
     have hlt : i < xs.length := by omega
     have h0 := hi i (by omega)
     rw [List.getElem?_eq_getElem hlt, hce] at h0
     have h1 := lit_td n e d h hd _ _ _ h0 m (by omega)
     have h2 := ih (i + 1) (by omega)
     rw [List.drop_eq_getElem_cons hlt, List.map_cons, List.flatMap_cons, h1, h2, Nat.add_mul, Nat.one_mul, ← List.drop_drop, List.take_append_drop]
   have := key k 0 (by omega)
   simpa [datL] using this
  ·rename_i fs hu
   obtain ⟨xs, m2, rfl, rfl, hl, hxl, hi⟩ := DataW.trod_struct hu hx
   have := lit_fs n fs.toList 0 _ h hd m2 cs xs (by simpa using hxl) (fun i f hf => hi i f (by simpa using hf)) (by rw [hl, hc]; omega) m (by omega)
   simpa [datL] using this
  ·cases h
theorem lit_fs : ∀ (n : Nat) (fs : List Field) (o : Nat) (d : Td), layFs P n fs o d = true → eqD d = true → ∀ (m0 : Nat) (cs : List Value) (xs : List (DataW H × List MemPlace)), xs.length = fs.length → (∀ (i : Nat) (f : Field), fs[i]? = some f → DataW.trod enc P W base sp held m0 f.type ((cs.drop f.offset).take (P.cellsOf f.type)) = xs[i]?) → cs.length = o + wd d → ∀ m, n ≤ m → (xs.map (·.1)).flatMap (datL m) = cs.drop o
 | 0, fs, o, d, h => by simp [layFs] at h
 | n + 1, [], o, d, h => by simp [layFs] at h
 | n + 1, [f], o, d, h => by
  intro hd m0 cs xs hxl hx hl m hm
  simp only [layFs, Bool.and_eq_true, beq_iff_eq] at h
  obtain ⟨rfl, h⟩ := h
  match xs, hxl with
  | [x], _ =>
   have h0 := hx 0 f rfl
   rw [layT_cells h] at h0
   have h1 := lit_td n _ d h hd _ _ _ h0 m (by omega)
   rw [List.take_of_length_le (by rw [List.length_drop]; omega)] at h1
   simp [h1]
 | n + 1, f :: g :: fs, o, d, h => by
  intro hd m0 cs xs hxl hx hl m hm
  simp only [layFs] at h
  split at h
  ·rename_i d e
   simp only [Bool.and_eq_true, beq_iff_eq] at h
   simp only [eqD, Bool.and_eq_true] at hd
   obtain ⟨⟨rfl, h⟩, h'⟩ := h
   simp only [wd] at hl
   match xs, hxl with
   | x :: xs, hxl =>
    have h0 := hx 0 f rfl
    rw [layT_cells h] at h0
    have h1 := lit_td n _ d h hd.1 _ _ _ h0 m (by omega)
    have h2 := lit_fs n (g :: fs) _ e h' hd.2 m0 cs xs (by simpa using hxl) (fun i f' hf => by have := hx (i + 1) f' (by simpa using hf); simpa using this) (by omega) m (by omega)
    rw [List.map_cons, List.flatMap_cons, h1, h2, ← List.drop_drop, List.take_append_drop]
  ·cases h
end
theorem laid_row {n : String} {D : DataW Unit} {g : Nat} {t : TypeId} {d : Td} (hg : P.globalNamed n = some g) (hl : layT' P 24 t d = true) (hd : eqD d = true) {cs : Array Value} {fuel : Nat} {p : List MemPlace}
  (hv : W.var? P n = some cs) (hx : DataW.trod (fun _ => ()) P W 0 (fun _ => true) false fuel t cs.toList = some (D, p)) : ∃ T fr, W.heap[g]? = some (.cells (datL 24 D).toArray T fr) := by
 have h1 := lit_td 24 t d hl hd _ _ _ hx 24 (Nat.le_refl _)
 simp only at h1
 unfold World.var? at hv
 rw [hg] at hv
 simp only [Option.bind_some] at hv
 split at hv
 ·rename_i c T fr hc
  injection hv with hv
  subst hv
  exact ⟨T, fr, by rw [hc, h1]⟩
 ·cases hv
theorem laid_nn {n : String} {g : Nat} {tp : TypeId} {v : Value} (hg : P.globalNamed n = some g) (hv : W.var? P n = some #[.iface tp v]) : Rel W [] [] (.adr [.nn]) (.pointer (some ⟨g, 0, none⟩)) := by
 have hc := World.var?_cell hg hv 0
 have hb : g < W.heap.size := by
  unfold World.var? at hv
  rw [hg] at hv
  simp only [Option.bind_some] at hv
  split at hv
  ·rename_i c T fr hc
   exact (Array.getElem?_eq_some_iff.1 hc).1
  ·cases hv
 refine .adr _ _ _ (fun _ => .iface tp v) ⟨rfl, hb, by simp, fun i hi => ?_⟩ (fun i x hx => ?_)
 ·have : i = 0 := by simp at hi; omega
  subst this
  simpa [Addr.add] using hc
 ·match i, hx with
  | 0, hx => simp at hx; subst hx; exact .nn _ _ _
end
end Go.Proofs.YtkigpcolmioibaaDoor
namespace Go.Proofs.YtkigpcolmioibaaDoor
set_option maxRecDepth 100000
open Go.RowKit
set_option linter.unusedVariables false
set_option linter.unusedSimpArgs false
def AllB (l : List Int) : Prop := ∀ x ∈ l, 0 ≤ x ∧ x < 256
theorem AllB.nil : AllB [] := fun _ h => by cases h
theorem AllB.cons {x : Int} {l : List Int} (h1 : 0 ≤ x ∧ x < 256) (h2 : AllB l) : AllB (x :: l) := fun y hy => by
  rcases List.mem_cons.1 hy with rfl | hy
  · exact h1
  · exact h2 y hy
theorem AllB.append {l m : List Int} (h1 : AllB l) (h2 : AllB m) : AllB (l ++ m) := fun y hy => by
  rcases List.mem_append.1 hy with hy | hy
  · exact h1 y hy
  · exact h2 y hy
theorem AllB.drop {l : List Int} (h : AllB l) (n : Nat) : AllB (l.drop n) := fun y hy => h y (List.mem_of_mem_drop hy)
theorem AllB.take {l : List Int} (h : AllB l) (n : Nat) : AllB (l.take n) := fun y hy => h y (List.mem_of_mem_take hy)
theorem AllB.get {l : List Int} (h : AllB l) (i : Nat) (hi : i < l.length) : 0 ≤ l[i] ∧ l[i] < 256 := h _ (List.getElem_mem hi)
def qOplace (N : Nat) (i0 : Int) (width1 : Int) (little2 : Bool) : Option (Int) :=
 bif little2 then
  some (i0)
 else
  some ((IntKind.wrap .i64 ((IntKind.wrap .i64 (width1 - (1 : Int))) - i0)))
def qOPutL5 (N : Nat) (X : (((Int) × ((Int) × ((Bool) × ((Int) × ((Int) × Unit))))) × ((List (Int)) × Unit)) → Option ((Unit × ((List (Int)) × Unit)))) (n0 : Int) (width1 : Int) (little2 : Bool) (x19 : Int) (x20 : Int) (h0 : List (Int)) : Option ((Unit × ((List (Int)) × Unit))) :=
 bif (decide (x20 < x19)) then
  Option.bind (qOplace N x20 width1 little2) fun (v8 : Int) =>
  bif (decide ((0 : Int) ≤ v8 ∧ v8 < (((List.length h0) : Nat) : Int))) then
   Option.bind (@GetElem?.getElem? (List Int) Nat Int (fun (as9 : (List Int)) => (fun (i10 : Nat) => (@LT.lt Nat @instLTNat i10 (List.length as9)))) (@List.instGetElem?NatLtLength Int) h0 (Int.toNat v8)) fun (v9 : Int) =>
   (X (((@Int.fdiv n0 (@HPow.hPow Int Nat Int (@instHPow Int Nat (@instPowNat Int @Int.instNatPow)) (2 : Int) (@Min.min Nat @instMinNat (Int.toNat (8 : Int)) (@IntKind.bits @IntKind.u64)))), (width1, (little2, (x19, ((IntKind.wrap .i64 (x20 + (1 : Int))), @Unit.unit))))), ((@List.set Int h0 (Int.toNat v8) (IntKind.wrap .u8 n0)), @Unit.unit)))
  else
   none
 else
  some ((@Unit.unit, (h0, @Unit.unit)))
def qOPutL5R (N : Nat) (c : (((Int) × ((Int) × ((Bool) × ((Int) × ((Int) × Unit))))) × ((List (Int)) × Unit))) : Option ((Unit × ((List (Int)) × Unit))) := gl (fun X c => qOPutL5 N X c.1.1 c.1.2.1 c.1.2.2.1 c.1.2.2.2.1 c.1.2.2.2.2.1 c.2.1) N c
def qOPut (N : Nat) (n0 : Int) (width1 : Int) (little2 : Bool) : Option ((List (Int)) × Int) :=
 bif (decide (width1 < (1 : Int))) then
  some ((([] : List (Int)), (1 : Int)))
 else
  bif (@cond Bool @Bool.false @Bool.true (decide ((8 : Int) < width1))) then
   some ((([] : List (Int)), (1 : Int)))
  else
   bif ((decide ((0 : Int) ≤ width1 ∧ width1 ≤ width1)) && (roomB (Int.toNat width1) 1)) then
    Option.bind (qOPutL5R N ((n0, (width1, (little2, ((((List.length (@List.replicate Int (Int.toNat width1) (0 : Int))) : Nat) : Int), ((0 : Int), @Unit.unit))))), ((@List.replicate Int (Int.toNat width1) (0 : Int)), @Unit.unit))) fun (v4 : (Unit × ((List Int) × Unit))) =>
    some ((v4.2.1, (0 : Int)))
   else
    none
def qOGetL5 (N : Nat) (X : (((List (Int)) × ((Bool) × ((Int) × ((Int) × ((Int) × Unit))))) × Unit) → Option ((((Int) × Unit) × Unit))) (b0 : List (Int)) (little1 : Bool) (n6 : Int) (x17 : Int) (x18 : Int) : Option ((((Int) × Unit) × Unit)) :=
 bif (decide (x18 < x17)) then
  Option.bind (qOplace N x18 (((List.length b0) : Nat) : Int) little1) fun (v7 : Int) =>
  Option.bind (getI b0 v7) fun (v8 : Int) =>
  bif (decide ((0 : Int) ≤ (IntKind.wrap .i64 ((8 : Int) * x18)))) then
   (X ((b0, (little1, ((@Go.bits @Go.BinOp.or @IntKind.u64 n6 (IntKind.wrap .u64 ((IntKind.wrap .u64 v8) * (@HPow.hPow Int Nat Int (@instHPow Int Nat (@instPowNat Int @Int.instNatPow)) (2 : Int) (@Min.min Nat @instMinNat (Int.toNat (IntKind.wrap .i64 ((8 : Int) * x18))) (@IntKind.bits @IntKind.u64)))))), (x17, ((IntKind.wrap .i64 (x18 + (1 : Int))), @Unit.unit))))), @Unit.unit))
  else
   none
 else
  some (((n6, @Unit.unit), @Unit.unit))
def qOGetL5R (N : Nat) (c : (((List (Int)) × ((Bool) × ((Int) × ((Int) × ((Int) × Unit))))) × Unit)) : Option ((((Int) × Unit) × Unit)) := gl (fun X c => qOGetL5 N X c.1.1 c.1.2.1 c.1.2.2.1 c.1.2.2.2.1 c.1.2.2.2.2.1) N c
def qOGet (N : Nat) (b0 : List (Int)) (little1 : Bool) : Option ((Int) × Int) :=
 bif (decide ((((List.length b0) : Nat) : Int) < (1 : Int))) then
  some (((0 : Int), (1 : Int)))
 else
  bif (@cond Bool @Bool.false @Bool.true (decide ((8 : Int) < (((List.length b0) : Nat) : Int)))) then
   some (((0 : Int), (1 : Int)))
  else
   Option.bind (qOGetL5R N ((b0, (little1, ((0 : Int), ((((List.length b0) : Nat) : Int), ((0 : Int), @Unit.unit))))), @Unit.unit)) fun (v3 : ((Int × Unit) × Unit)) =>
   some ((v3.1.1, (0 : Int)))
theorem q64_of (a : Nat) (ha : a < 18446744073709551616) : (BitVec.ofInt 64 (a : Int)).toNat = a := by
 rw [BitVec.ofInt_natCast, BitVec.toNat_ofNat]; exact Nat.mod_eq_of_lt (by omega)
theorem q64_or (a b : Nat) (ha : a < 18446744073709551616) (hb : b < 18446744073709551616) : bits .or .u64 (a : Int) (b : Int) = ((a ||| b : Nat) : Int) := by
 have hx : a ||| b < 2 ^ 64 := Nat.or_lt_two_pow (n := 64) (by omega) (by omega)
 show IntKind.u64.wrap ((BitVec.ofInt 64 (a : Int) ||| BitVec.ofInt 64 (b : Int)).toNat : Int) = _
 rw [BitVec.toNat_or, q64_of a ha, q64_of b hb, IntKind.wrap_u64]
 omega
theorem or_nat (x y k : Nat) (hx : x < 2 ^ k) (hx' : x < 18446744073709551616) (hy : y * 2 ^ k < 18446744073709551616) : bits .or .u64 (x : Int) ((y * 2 ^ k : Nat) : Int) = ((y * 2 ^ k + x : Nat) : Int) := by
 rw [q64_or x (y * 2 ^ k) hx' hy, Nat.or_comm, ← Nat.shiftLeft_eq, ← Nat.shiftLeft_add_eq_or_of_lt hx]
theorem or_at (a b : Int) (k : Nat) (h0 : 0 ≤ a) (ha : a.toNat < 2 ^ k) (ha' : a < 18446744073709551616) (hb : 0 ≤ b) (hk : b.toNat * 2 ^ k < 18446744073709551616) : bits .or .u64 a (b * ((2 ^ k : Nat) : Int)) = b * ((2 ^ k : Nat) : Int) + a := by
 obtain ⟨x, rfl⟩ := Int.eq_ofNat_of_zero_le h0
 obtain ⟨y, rfl⟩ := Int.eq_ofNat_of_zero_le hb
 have := or_nat x y k (by simpa using ha) (by omega) (by simpa using hk)
 rw [Int.natCast_add, Int.natCast_mul] at this
 exact this
theorem wrapU64 {x : Int} (h1 : 0 ≤ x) (h2 : x < 18446744073709551616) : IntKind.wrap .u64 x = x := by
 rw [IntKind.wrap_u64]; omega
section
variable {N : Nat}
theorem put4 (n : Int) (h : 0 ≤ n ∧ n < 18446744073709551616) (hN : 100 ≤ N) : qOPut N n 4 false = some ([n / 16777216 % 256, n / 65536 % 256, n / 256 % 256, n % 256], 0) := by
 obtain ⟨M, rfl⟩ : ∃ M, N = M + 5 := ⟨N - 5, by omega⟩
 have r1 : roomB (Int.toNat 4) 1 = true := by decide
 have r2 : List.replicate (Int.toNat 4) (0 : Int) = [0, 0, 0, 0] := rfl
 have w1 : IntKind.wrap .i64 ((4 : Int) - 1) = 3 := by decide
 have v0 : IntKind.wrap .i64 ((3 : Int) - 0) = 3 := by decide
 have v1 : IntKind.wrap .i64 ((3 : Int) - 1) = 2 := by decide
 have v2 : IntKind.wrap .i64 ((3 : Int) - 2) = 1 := by decide
 have v3 : IntKind.wrap .i64 ((3 : Int) - 3) = 0 := by decide
 have w3 : IntKind.wrap .i64 ((0 : Int) + 1) = 1 := by decide
 have w4 : IntKind.wrap .i64 ((1 : Int) + 1) = 2 := by decide
 have w5 : IntKind.wrap .i64 ((2 : Int) + 1) = 3 := by decide
 have w6 : IntKind.wrap .i64 ((3 : Int) + 1) = 4 := by decide
 have e1 : (2 : Int) ^ min (Int.toNat 8) (IntKind.bits IntKind.u64) = 256 := by decide
 have d1 : Int.fdiv n 256 = n / 256 := Int.fdiv_eq_ediv_of_nonneg n (by decide)
 have d2 : Int.fdiv (n / 256) 256 = n / 65536 := by rw [Int.fdiv_eq_ediv_of_nonneg _ (by decide)]; omega
 have d3 : Int.fdiv (n / 65536) 256 = n / 16777216 := by rw [Int.fdiv_eq_ediv_of_nonneg _ (by decide)]; omega
 have w7 : IntKind.wrap .u8 n = n % 256 := by rw [IntKind.wrap_u8]
 have w8 : IntKind.wrap .u8 (n / 256) = n / 256 % 256 := by rw [IntKind.wrap_u8]
 have w9 : IntKind.wrap .u8 (n / 65536) = n / 65536 % 256 := by rw [IntKind.wrap_u8]
 have w10 : IntKind.wrap .u8 (n / 16777216) = n / 16777216 % 256 := by rw [IntKind.wrap_u8]
 simp only [qOPut, qOPutL5R, gl, qOPutL5, qOplace, r1, r2, e1, cond_false, Option.bind_some, w1, v0, v1, v2, v3, w3, w4, w5, w6]
 simp [w1, v0, v1, v2, v3, w3, w4, w5, w6, d1, d2, d3, w7, w8, w9, w10]
theorem get4 (x y z u : Int) (hx : 0 ≤ x ∧ x < 256) (hy : 0 ≤ y ∧ y < 256) (hz : 0 ≤ z ∧ z < 256) (hu : 0 ≤ u ∧ u < 256) (hN : 100 ≤ N) : qOGet N [x, y, z, u] false = some (((x * 256 + y) * 256 + z) * 256 + u, 0) := by
 obtain ⟨M, rfl⟩ : ∃ M, N = M + 5 := ⟨N - 5, by omega⟩
 have w1 : IntKind.wrap .i64 ((4 : Int) - 1) = 3 := by decide
 have v0 : IntKind.wrap .i64 ((3 : Int) - 0) = 3 := by decide
 have v1 : IntKind.wrap .i64 ((3 : Int) - 1) = 2 := by decide
 have v2 : IntKind.wrap .i64 ((3 : Int) - 2) = 1 := by decide
 have v3 : IntKind.wrap .i64 ((3 : Int) - 3) = 0 := by decide
 have w3 : IntKind.wrap .i64 ((0 : Int) + 1) = 1 := by decide
 have w4 : IntKind.wrap .i64 ((1 : Int) + 1) = 2 := by decide
 have w5 : IntKind.wrap .i64 ((2 : Int) + 1) = 3 := by decide
 have w6 : IntKind.wrap .i64 ((3 : Int) + 1) = 4 := by decide
 have m0 : IntKind.wrap .i64 ((8 : Int) * 0) = 0 := by decide
 have m1 : IntKind.wrap .i64 ((8 : Int) * 1) = 8 := by decide
 have m2 : IntKind.wrap .i64 ((8 : Int) * 2) = 16 := by decide
 have m3 : IntKind.wrap .i64 ((8 : Int) * 3) = 24 := by decide
 have x1 : IntKind.wrap .u64 x = x := wrapU64 (by omega) (by omega)
 have y1 : IntKind.wrap .u64 y = y := wrapU64 (by omega) (by omega)
 have z1 : IntKind.wrap .u64 z = z := wrapU64 (by omega) (by omega)
 have u1 : IntKind.wrap .u64 u = u := wrapU64 (by omega) (by omega)
 have e0 : (2 : Int) ^ min (Int.toNat 0) (IntKind.bits IntKind.u64) = 1 := by decide
 have e1 : (2 : Int) ^ min (Int.toNat 8) (IntKind.bits IntKind.u64) = 256 := by decide
 have e2 : (2 : Int) ^ min (Int.toNat 16) (IntKind.bits IntKind.u64) = 65536 := by decide
 have e3 : (2 : Int) ^ min (Int.toNat 24) (IntKind.bits IntKind.u64) = 16777216 := by decide
 have u2 : IntKind.wrap .u64 (u * 1) = u := by rw [Int.mul_one]; exact u1
 have z2 : IntKind.wrap .u64 (z * 256) = z * 256 := wrapU64 (by omega) (by omega)
 have y2 : IntKind.wrap .u64 (y * 65536) = y * 65536 := wrapU64 (by omega) (by omega)
 have x2 : IntKind.wrap .u64 (x * 16777216) = x * 16777216 := wrapU64 (by omega) (by omega)
 have o1 : bits .or .u64 0 u = u := by
  have := or_at 0 u 0 (by decide) (by decide) (by decide) (by omega) (by simp; omega)
  simpa using this
 have o2 : bits .or .u64 u (z * 256) = z * 256 + u := or_at u z 8 (by omega) (by show u.toNat < 256; omega) (by omega) (by omega) (by show z.toNat * 256 < _; omega)
 have o3 : bits .or .u64 (z * 256 + u) (y * 65536) = y * 65536 + (z * 256 + u) := or_at (z * 256 + u) y 16 (by omega) (by show (z * 256 + u).toNat < 65536; omega) (by omega) (by omega) (by show y.toNat * 65536 < _; omega)
 have o4 : bits .or .u64 (y * 65536 + (z * 256 + u)) (x * 16777216) = x * 16777216 + (y * 65536 + (z * 256 + u)) := or_at (y * 65536 + (z * 256 + u)) x 24 (by omega) (by show (y * 65536 + (z * 256 + u)).toNat < 16777216; omega) (by omega) (by omega) (by show x.toNat * 16777216 < _; omega)
 have fin : x * 16777216 + (y * 65536 + (z * 256 + u)) = ((x * 256 + y) * 256 + z) * 256 + u := by omega
 have g0 : getI [x, y, z, u] (0 : Int) = some x := rfl
 have g1 : getI [x, y, z, u] (1 : Int) = some y := rfl
 have g2 : getI [x, y, z, u] (2 : Int) = some z := rfl
 have g3 : getI [x, y, z, u] (3 : Int) = some u := rfl
 have l4 : (([x, y, z, u] : List Int).length : Int) = 4 := rfl
 rw [← fin]
 simp only [qOGet, qOGetL5R, gl, qOGetL5, qOplace, l4, cond_false, Option.bind_some, w1, v0, v1, v2, v3, w3, w4, w5, w6, m0, m1, m2, m3, x1, y1, z1, u1, e0, e1, e2, e3, u2, z2, y2, x2, o1, o2, o3, o4, g0, g1, g2, g3]
 simp [w1, v0, v1, v2, v3, w3, w4, w5, w6, m1, m2, m3, x1, y1, z1, u1, e1, e2, e3, z2, y2, x2, o2, o3, o4, g0, g1, g2, g3]
end
abbrev inRd (r : Nat) : Fence := Fence.wide.inRound r
theorem rowsIn_of {n r : Nat} {P : Program} {row : String} {args : Array Value} {w : World} {R : Value → World → Prop} (h : Rows P row args w R) : RowsIn (inRd r) n P row args w R :=
 fun c cs _ => let ⟨v, w', r, s⟩ := h c cs; ⟨v, w', r, stepsIn_wide.2 s⟩
theorem callsIn_of {n r : Nat} {P : Program} {f : FuncId} {args : Array Value} {w : World} {R : Ending → World → Prop} (h : Calls P f args w R) : CallsIn (inRd r) n P f args w R :=
 CallsIn.inRound r (callsIn_wide.2 h)
theorem op_in {n r : Nat} {P : Program} {o : Oper} {a : Act} {w : World} {next next' : Act → World → Prop} {Q : Exit → Act → World → Prop} (hd : ∀ c, o.op ≠ .defer c)
  (hn : ∀ a w, next a w → next' a w) (hno : ¬ LetsOut Q) (h : o.wp P a w next Q) : o.wpIn (inRd r) n P a w next' Q := by
 refine ⟨fun _ _ => trivial, ?_⟩
 rw [show (inRd r).round = some r from rfl, Oper.semAt_some r _ _ hd]
 unfold Oper.wp at h
 generalize (execOp a.eval o).run P w = x at h ⊢
 match x, h with
 | .ok (.value v) w', h => exact hn _ _ h
 | .ok .skip w', h => exact hn _ _ h
 | .ok (.defer d) w', h => exact hn _ _ h
 | .ok (.enter f args) w', h =>
  refine ⟨(fun hs => by cases hs), callsIn_of (Calls.mono h fun e w'' he => ?_)⟩
  cases e with
  | returned v => exact hn _ _ he
  | panicked c => exact he
  | outgrown => exact absurd he hno
 | .ok (.row row args) w', h => exact ⟨(fun hs => by cases hs), rowsIn_of (Rows.mono h fun v w'' he => hn _ _ he)⟩
 | .halt (.panic v) w', h => exact h
theorem list_in {n r : Nat} {P : Program} {ops : Array Oper} {Q : Exit → Act → World → Prop} (hno : ¬ LetsOut Q) : ∀ (l : List Oper), (∀ o ∈ l, ∀ c, o.op ≠ .defer c) → ∀ (a : Act) (w : World), wpList P ops Q l a w → wpListIn (inRd r) n P ops Q l a w
 | [], _, a, w, h => h
 | o :: rest, hd, a, w, h => by
  have ih := list_in (n := n) (r := r) (P := P) (ops := ops) hno rest (fun o ho => hd o (List.mem_cons_of_mem _ ho))
  unfold wpList at h
  unfold wpListIn
  split at h
  ·rename_i hw
   rw [if_pos hw]
   rcases h with h | ⟨_, h⟩
   ·exact op_in (hd o List.mem_cons_self) ih hno h
   ·exact absurd h hno
  ·rename_i hw
   rw [if_neg hw]
   exact ⟨fun _ _ => trivial, ih _ _ h⟩
theorem region_in {n r : Nat} {P : Program} {id : Nat} {ops : Array Oper} {Q : Exit → Act → World → Prop} {a : Act} {w : World} (hno : ¬ LetsOut Q) (hd : ∀ o ∈ ops.toList, ∀ c, o.op ≠ .defer c) (h : wpList P ops Q ops.toList a w) :
  (Code.region id ops false).wpIn (inRd r) n P Q a w := wpIn_region_list (list_in hno _ hd a w h)
theorem wpOp_in {n r : Nat} {P : Program} {ops : Array Oper} {Q : Exit → Act → World → Prop} (hno : ¬ LetsOut Q) (hd : ∀ o ∈ ops.toList, ∀ c, o.op ≠ .defer c) (i : Nat) {next next' : Act → World → Prop} (hn : ∀ a w, next a w → next' a w) {a : Act} {w : World} (h : wpOp P ops Q i next a w) :
  wpOpIn (inRd r) n P ops Q i next' a w := by
 unfold wpOp at h
 unfold wpOpIn
 cases ho : ops[i]? with
 | none => rw [ho] at h; exact hn _ _ h
 | some o =>
  rw [ho] at h
  simp only [] at h ⊢
  split at h
  ·rename_i hw
   rw [if_pos hw]
   rcases h with h | ⟨_, h⟩
   ·exact op_in (hd o (Array.mem_toList_iff.2 (Array.mem_of_getElem? ho))) hn hno h
   ·exact absurd h hno
  ·rename_i hw
   rw [if_neg hw]
   exact ⟨fun _ _ => trivial, hn _ _ h⟩
theorem any_in {n r : Nat} {P : Program} {md : Region.Mode} {ops : Array Oper} {Q : Exit → Act → World → Prop} (hno : ¬ LetsOut Q) (hd : ∀ o ∈ ops.toList, ∀ c, o.op ≠ .defer c) : ∀ (f : Nat) (listed : Array Bool) (a : Act) (w : World), wpAny P md ops Q f listed a w → wpAnyIn (inRd r) n P md ops Q f listed a w
 | 0, listed, a, w, h => h
 | f + 1, listed, a, w, h => ⟨h.1, fun i hi => wpOp_in hno hd i (fun a w h => any_in hno hd f _ a w h) (h.2 i hi)⟩
theorem region_any_in {n r : Nat} {P : Program} {id : Nat} {ops : Array Oper} {Q : Exit → Act → World → Prop} {a : Act} {w : World} (hm : P.follows .mixedOrders = true) (hno : ¬ LetsOut Q) (hd : ∀ o ∈ ops.toList, ∀ c, o.op ≠ .defer c)
  (h : wpAny P .any ops Q ops.size (Array.replicate ops.size false) a { w with drawn := w.drawn + 1 }) : (Code.region id ops true).wpIn (inRd r) n P Q a w := wpIn_region_any hm (any_in hno hd _ _ _ _ h)
section
variable {F : Fence} {n : Nat} {P : Program} {Q : Exit → Act → World → Prop} {a : Act} {w : World} {b : Frame} {k : List Item} {cs : List Frame}
theorem stepR_scope {c : Code} : step P (lone (b.atR a (.code (.scope c) :: k)) cs w) = .next (lone (b.atR a (.code c :: .inScope c :: k)) cs w) :=
 step_lone_go (by simp [stepG, stepG.exec, Frame.atR])
theorem stepR_inScope {c : Code} : step P (lone (b.atR a (.inScope c :: k)) cs w) = .next (lone (b.atR a k) cs w) :=
 step_lone_go (by simp [stepG, stepG.exec, Frame.atR])
theorem wpIn_scope_straight {c : Code} (h : c.wpIn F n P (Exit.noGoto Q) a w) : (Code.scope c).wpIn F n P Q a w := by
 intro b k cs hro hb hr
 have h0 : (lone (b.atR a (.code (.scope c) :: k)) cs w).fenced P F := fenced_calm hb hr rfl
 obtain ⟨e, a₁, w₁, hq, harr⟩ := h b (.inScope c :: k) cs hro hb hr
 cases e with
 | normal => exact ⟨.normal, a₁, w₁, hq, .head h0 stepR_scope (StepsIn.trans harr (.one (fenced_calm hb hr rfl) stepR_inScope))⟩
 | exit id =>
  have hx : exitTo id (.inScope c :: k) = exitTo id k := by simp [exitTo]
  exact ⟨.exit id, a₁, w₁, hq, fun k' hk => .head h0 stepR_scope (harr.1 k' (by rw [hx]; exact hk)),
   fun hr' hk => let ⟨k₁, h1, h2⟩ := harr.2 hr' (by rw [hx]; exact hk); ⟨k₁, h1, .head h0 stepR_scope h2⟩⟩
 | goto l => exact hq.elim
 | ret => exact ⟨_, a₁, w₁, hq, .of_steps (.one h0 stepR_scope) harr⟩
 | panic ch => exact ⟨_, a₁, w₁, hq, .of_steps (.one h0 stepR_scope) harr⟩
 | outgrown => exact ⟨_, a₁, w₁, hq, .of_steps (.one h0 stepR_scope) harr⟩
end
def wpM (md : Option Nat) (P : Program) (c : Code) (Q : Exit → Act → World → Prop) (a : Act) (w : World) : Prop := match md with
 | none => c.wp P Q a w
 | some r => ¬ LetsOut Q → ∀ n, c.wpIn (inRd r) n P Q a w
section
variable {md : Option Nat} {P : Program} {Q : Exit → Act → World → Prop} {a : Act} {w : World}
theorem then_no {K : Act → World → Prop} (h : ¬ LetsOut Q) : ¬ LetsOut (Exit.then K Q) := fun ⟨a, w, hq⟩ => h ⟨a, w, hq⟩
theorem block_no {id : Nat} (h : ¬ LetsOut Q) : ¬ LetsOut (Exit.inBlock id Q) := fun ⟨a, w, hq⟩ => h ⟨a, w, hq⟩
theorem wpM_skip (h : Q .normal a w) : wpM md P .skip Q a w := by
 cases md with
 | none => exact wp_skip h
 | some r => exact fun _ _ => wpIn_skip h
theorem wpM_label {l : Nat} (h : Q .normal a w) : wpM md P (.label l) Q a w := by
 cases md with
 | none => exact wp_label h
 | some r => exact fun _ _ => wpIn_label h
theorem wpM_exit {id : Nat} (h : Q (.exit id) a w) : wpM md P (.exit id) Q a w := by
 cases md with
 | none => exact wp_exit h
 | some r => exact fun _ _ => wpIn_exit h
theorem wpM_ret (h : Q .ret a w) : wpM md P .ret Q a w := by
 cases md with
 | none => exact wp_ret h
 | some r => exact fun _ _ => wpIn_ret h
theorem then_mono {K K' : Act → World → Prop} (hk : ∀ a w, K a w → K' a w) : ∀ (e : Exit) (a : Act) (w : World), Exit.then K Q e a w → Exit.then K' Q e a w := fun e a w h => by
 cases e <;> first | exact hk _ _ h | exact h
theorem wpM_seq {x y : Code} (h : wpM md P x (Exit.then (wpM md P y Q) Q) a w) : wpM md P (.seq x y) Q a w := by
 cases md with
 | none => exact wp_seq h
 | some r => exact fun hno n => wpIn_seq (wpIn_mono (h (then_no hno) n) (then_mono fun a w hy => hy hno n))
theorem wpM_cond {c : Operand} {x y : Code} {t : Bool} (hc : a.eval c = .bool t) (h : wpM md P (if t then x else y) Q a w) : wpM md P (.cond c x y) Q a w := by
 cases md with
 | none => exact wp_cond hc h
 | some r => exact fun hno n => wpIn_cond hc (h hno n)
theorem wpM_block {id : Nat} {c : Code} (h : wpM md P c (Exit.inBlock id Q) a w) : wpM md P (.block id c) Q a w := by
 cases md with
 | none => exact wp_block h
 | some r => exact fun hno n => wpIn_block (h (block_no hno) n)
theorem goto_no (h : ¬ LetsOut Q) : ¬ LetsOut (Exit.noGoto Q) := fun ⟨a, w, hq⟩ => h ⟨a, w, hq⟩
theorem wpM_scope {c : Code} (h : wpM md P c (Exit.noGoto Q) a w) : wpM md P (.scope c) Q a w := by
 cases md with
 | none => exact wp_scope_straight h
 | some r => exact fun hno n => wpIn_scope_straight (h (goto_no hno) n)
theorem wpM_region {id : Nat} {ops : Array Oper} (hd : ∀ o ∈ ops.toList, ∀ c, o.op ≠ .defer c) (h : wpList P ops Q ops.toList a w) : wpM md P (.region id ops false) Q a w := by
 cases md with
 | none => exact wp_seqRegion h
 | some r => exact fun hno n => region_in hno hd h
theorem wpM_region_any {id : Nat} {ops : Array Oper} (hm : P.follows .mixedOrders = true) (hd : ∀ o ∈ ops.toList, ∀ c, o.op ≠ .defer c)
  (h : wpAny P .any ops Q ops.size (Array.replicate ops.size false) a { w with drawn := w.drawn + 1 }) : wpM md P (.region id ops true) Q a w := by
 cases md with
 | none => exact wp_region_any hm h
 | some r => exact fun hno n => region_any_in hm hno hd h
end
def ndO (o : Oper) : Bool := match o.op with
 | .defer _ => false
 | _ => true
def ndB : Code → Bool
 | .region _ ops _ => ops.toList.all ndO
 | .seq a b => ndB a && ndB b
 | .cond _ a b => ndB a && ndB b
 | .block _ c => ndB c
 | .scope c => ndB c
 | .loop _ => false
 | _ => true
theorem nd_ops {ops : Array Oper} (h : ops.toList.all ndO = true) : ∀ o ∈ ops.toList, ∀ c, o.op ≠ .defer c := fun o ho c hc => by
 have := List.all_eq_true.1 h o ho
 unfold ndO at this
 rw [hc] at this
 cases this
def EndsM (md : Option Nat) (P : Program) (m0 : Nat) (c : Code) (st : S2) (ex : Exit) (st' : S2) : Prop :=
 ∀ (n0 : Nat) (Bx : List Nat) (ds : List Deferred) (a : Act) (w : World) (B : List Nat) (η : List Value) (Q : Exit → Act → World → Prop), SimK n0 Bx ds st a w B η →
  (∀ a' w' B' η', SimK n0 Bx ds st' a' w' B' η' → Goes n0 m0 w B η w' B' η' → Q ex a' w') → wpM md P c Q a w
section
variable {R : Type} {P : Program} {Γ : Env R}
theorem evKM_ok (md : Option Nat) (hm : P.follows .mixedOrders = true) (hΓ : EnvOK P Γ) : ∀ (n : Nat) (path : List Nat) (m0 : Nat) (c : Code) (st : S2) (k : Exit → S2 → Tree R) (res : R), okC2 Γ.inl c = true → ndB c = true → (∀ c' ∈ loopsOf c, c' ∈ loopsIn P path) → (evK P Γ n path m0 c st k).run = some res →
  ∃ ex st', (k ex st').run = some res ∧ EndsM md P m0 c st ex st'
 | 0, path, m0, c, st, k, res, _, _, _, h => by cases h
 | n + 1, path, m0, c, st, k, res, hok, hnd, hsub, h => by
  have ih := evKM_ok md hm hΓ n
  have ih0 := evK_ok hm hΓ n
  cases c with
  | skip => exact ⟨_, _, h, fun n0 Bx ds a w B η Q hs hQ => wpM_skip (hQ a w B η hs (Goes.refl _ _ _ _ _))⟩
  | label l => exact ⟨_, _, h, fun n0 Bx ds a w B η Q hs hQ => wpM_label (hQ a w B η hs (Goes.refl _ _ _ _ _))⟩
  | exit id => exact ⟨_, _, h, fun n0 Bx ds a w B η Q hs hQ => wpM_exit (hQ a w B η hs (Goes.refl _ _ _ _ _))⟩
  | ret => exact ⟨_, _, h, fun n0 Bx ds a w B η Q hs hQ => wpM_ret (hQ a w B η hs (Goes.refl _ _ _ _ _))⟩
  | region id ops draw =>
   have hd := nd_ops hnd
   cases draw with
   | false =>
    obtain ⟨st', h1, h2⟩ := evOpsJ_ok hΓ.fns (callAt_ok hΓ ih0 (id :: path)) _ _ _ _ _ h
    exact ⟨_, st', h1, fun n0 Bx ds a w B η Q hs hQ => wpM_region hd (h2 n0 m0 Bx ds a w B η Q hs hQ)⟩
   | true =>
    unfold evK at h
    simp only at h
    simp only [okC2] at hok
    split at h
    ·rename_i hdq
     obtain ⟨sl1, h1, h2⟩ := evFd_ok hΓ.fns _ _ _ _ h
     have hdb : declB Γ.inl ops = true := by
      rcases Bool.or_eq_true _ _ ▸ hok with h3 | h3
      ·exfalso
       rw [Bool.and_eq_true, hdq] at h3
       exact absurd h3.2 (by simp)
      ·exact h3
     obtain ⟨st', h3, h4⟩ := decl_any hdb h2 h1
     refine ⟨_, st', h3, fun n0 Bx ds a w B η Q hs hQ => ?_⟩
     obtain ⟨B1, hs1, hg1⟩ := frzOps_ok (m0 := m0) (Γ.mv path id) ops st B hs
     exact wpM_region_any hm hd (h4 n0 m0 Bx ds a w B1 η Q hs1 (fun a2 w2 B2 η2 hs2 hg2 => hQ a2 w2 B2 η2 hs2 (hg1.trans hg2)))
    ·rename_i hdq
     obtain ⟨sl1, h1, h2⟩ := evFr_ok hΓ.fns _ _ _ _ h
     obtain ⟨st', h3, h4⟩ := evCh_ok hΓ.fns (callAt_ok hΓ ih0 (id :: path)) _ _ _ _ h1
     have hdb : drawB Γ.inl ops = true := by
      rcases Bool.or_eq_true _ _ ▸ hok with h5 | h5
      ·exact ((Bool.and_eq_true _ _).mp h5).1
      ·unfold declB at h5
       rw [Bool.and_eq_true] at h5
       exact absurd h5.1 hdq
     refine ⟨_, st', h3, fun n0 Bx ds a w B η Q hs hQ => ?_⟩
     obtain ⟨B1, hs1, hg1⟩ := frzOps_ok (m0 := m0) (Γ.mv path id) ops st B hs
     exact wpM_region_any hm hd (draw_any hdb h2 h4 hs1 (fun a2 w2 B2 η2 hs2 hg2 => hQ a2 w2 B2 η2 hs2 (hg1.trans hg2)))
  | seq x y =>
   simp only [okC2, Bool.and_eq_true] at hok
   simp only [ndB, Bool.and_eq_true] at hnd
   obtain ⟨ex1, st1, h1, h2⟩ := ih path m0 x st _ res hok.1 hnd.1 (fun c' hc' => hsub c' (by simp [loopsOf, hc'])) h
   split at h1
   ·obtain ⟨ex2, st2, h3, h4⟩ := ih path m0 y st1 _ res hok.2 hnd.2 (fun c' hc' => hsub c' (by simp [loopsOf, hc'])) h1
    exact ⟨ex2, st2, h3, fun n0 Bx ds a w B η Q hs hQ => wpM_seq (h2 n0 Bx ds a w B η _ hs fun a' w' B' η' hs' hg' => h4 n0 Bx ds a' w' B' η' Q hs' fun a2 w2 B2 η2 hs2 hg2 => hQ a2 w2 B2 η2 hs2 (hg'.trans hg2))⟩
   ·rename_i hne
    exact ⟨ex1, st1, h1, fun n0 Bx ds a w B η Q hs hQ => wpM_seq (h2 n0 Bx ds a w B η _ hs fun a' w' B' η' hs' hg' => by rw [then_ne (fun hc => hne hc)]; exact hQ a' w' B' η' hs' hg')⟩
  | cond x t e =>
   simp only [okC2, Bool.and_eq_true] at hok
   simp only [ndB, Bool.and_eq_true] at hnd
   unfold evK at h
   simp only at h
   split at h
   ·rename_i b hb
    have hx : ∀ {n0 : Nat} {Bx : List Nat} {ds : List Deferred} {a : Act} {w : World} {B : List Nat} {η : List Value}, SimK n0 Bx ds st a w B η → a.eval x = .bool b := fun hs => by
     have := (opV_rel hs.slots hs.inv.base.2 x).1
     rw [hb] at this
     exact Rel.ofC this
    rcases Tree.run_ite h with ⟨hbt, h1⟩ | ⟨hbf, h1⟩
    ·obtain ⟨ex, st', h2, h3⟩ := ih path m0 t st k res hok.1 hnd.1 (fun c' hc' => hsub c' (by simp [loopsOf, hc'])) h1
     exact ⟨ex, st', h2, fun n0 Bx ds a w B η Q hs hQ => wpM_cond (t := true) (by rw [hx hs, hbt]) (h3 n0 Bx ds a w B η Q hs hQ)⟩
    ·obtain ⟨ex, st', h2, h3⟩ := ih path m0 e st k res hok.2 hnd.2 (fun c' hc' => hsub c' (by simp [loopsOf, hc'])) h1
     exact ⟨ex, st', h2, fun n0 Bx ds a w B η Q hs hQ => wpM_cond (t := false) (by rw [hx hs, hbf]) (h3 n0 Bx ds a w B η Q hs hQ)⟩
   ·cases h
  | block id c =>
   simp only [okC2] at hok
   simp only [ndB] at hnd
   obtain ⟨ex1, st1, h1, h2⟩ := ih path m0 c st _ res hok hnd (fun c' hc' => hsub c' (by simpa [loopsOf] using hc')) h
   split at h1
   ·rename_i i
    split at h1
    ·rename_i hi
     exact ⟨_, st1, h1, fun n0 Bx ds a w B η Q hs hQ => wpM_block (h2 n0 Bx ds a w B η _ hs fun a' w' B' η' hs' hg' => by simp only [Exit.inBlock, hi, if_true]; exact hQ a' w' B' η' hs' hg')⟩
    ·rename_i hi
     exact ⟨_, st1, h1, fun n0 Bx ds a w B η Q hs hQ => wpM_block (h2 n0 Bx ds a w B η _ hs fun a' w' B' η' hs' hg' => by simp only [Exit.inBlock, hi, if_false]; exact hQ a' w' B' η' hs' hg')⟩
   ·rename_i hne
    exact ⟨ex1, st1, h1, fun n0 Bx ds a w B η Q hs hQ => wpM_block (h2 n0 Bx ds a w B η _ hs fun a' w' B' η' hs' hg' => by
     cases ex1 <;> first | exact absurd rfl (hne _) | exact hQ a' w' B' η' hs' hg')⟩
  | loop c => cases hnd
  | scope c =>
   simp only [okC2] at hok
   simp only [ndB] at hnd
   obtain ⟨ex1, st1, h1, h2⟩ := ih path m0 c st _ res hok hnd (fun c' hc' => hsub c' (by simpa [loopsOf] using hc')) h
   split at h1
   ·cases h1
   ·rename_i hne
    exact ⟨ex1, st1, h1, fun n0 Bx ds a w B η Q hs hQ => wpM_scope (h2 n0 Bx ds a w B η _ hs fun a' w' B' η' hs' hg' => by
     cases ex1 <;> first | exact absurd rfl (hne _) | exact hQ a' w' B' η' hs' hg')⟩
  | _ => cases h
end
def noItr : Ent → Bool
  | .itr _ _ => false
  | _ => true
def Soft0 (w w' : World) (b : Nat) : Prop := ∀ c e fr, w.heap[b]? = some (.cells c e fr) → ∃ fr', w'.heap[b]? = some (.cells c e fr')
theorem Soft0.cell {w w' : World} {b : Nat} (h : Soft0 w w' b) {p : Addr} (hp : p.block = b) {u : Value} (hu : w.cell? p = some u) : w'.cell? p = some u := by
  subst hp
  unfold World.cell? at hu ⊢
  split at hu
  · rename_i c e fr hc
    obtain ⟨fr', hc'⟩ := h c e fr hc
    rw [hc']
    exact hu
  · cases hu
structure On0 (B : List Nat) (w w' : World) : Prop where
  os : w'.os = w.os
  tape : w'.tape = w.tape
  output : w'.output = w.output
  size : w.heap.size ≤ w'.heap.size
  block : ∀ b, b < w.heap.size → b ∉ B → Soft0 w w' b
theorem At.on0 {w w' : World} {B B' : List Nat} {ad : Addr} {len : Nat} {us : Nat → Value} (h : At w B ad len us) (g : On0 B w w') (hB : ∀ b ∈ B', b ∈ B ∨ w.heap.size ≤ b) : At w' B' ad len us :=
  ⟨h.spot, Nat.lt_of_lt_of_le h.lt g.size, fun hb => (hB _ hb).elim h.out (fun hb => by have := h.lt; omega),
   fun i hi => (g.block _ h.lt h.out).cell (block_of_add _ _) (h.cell i hi)⟩
theorem Rel.on0 {w w' : World} {B B' : List Nat} {η η' : List Value} {x : AV} {v : Value} (h : Rel w B η x v) (g : On0 B w w') (hB : ∀ b ∈ B', b ∈ B ∨ w.heap.size ≤ b) (he : ∀ (id : Nat) v, η[id]? = some v → η'[id]? = some v) : Rel w' B' η' x v := by
  induction h generalizing η' with
  | c η v => exact .c _ v
  | agg η l cs us hs hu hr ih => exact .agg _ l cs us hs hu (fun i x hx => ih i x hx he)
  | tup η l cs us hs hu hr ih => exact .tup _ l cs us hs hu (fun i x hx => ih i x hx he)
  | sl η l k A n c us hk hn hc hm hA hr ih => exact .sl _ l k A n c us hk hn hc hm (fun h0 => by obtain ⟨ad, h1, h2⟩ := hA h0; exact ⟨ad, h1, h2.on0 g hB⟩) (fun i x hx => ih i x hx (fun _ _ h => h))
  | fresh η l k A n us hk hn h0 hm hA hr ih => exact .fresh _ l k A n us hk hn h0 hm (fun h0 => by obtain ⟨ad, h1, h2⟩ := hA h0; exact ⟨ad, h1, h2.on0 g hB⟩) (fun i x hx => ih i x hx (fun _ _ h => h))
  | emp η A => exact .emp _ A
  | adr η l ad us ha hr ih => exact .adr _ l ad us (ha.on0 g hB) (fun i x hx => ih i x hx (fun _ _ h => h))
  | box η id off b h => exact .box _ id off b (he _ _ h)
  | own η id a n c h => exact .own _ id a n c (he _ _ h)
  | oadr η id off b o n c h => exact .oadr _ id off b o n c (he _ _ h)
  | nn η t v => exact .nn _ t v
theorem RelL.on0 {w w' : World} {B B' : List Nat} {η η' : List Value} {l : List AV} {us : List Value} (h : RelL w B η l us) (g : On0 B w w') (hB : ∀ b ∈ B', b ∈ B ∨ w.heap.size ≤ b) (he : ∀ (id : Nat) v, η[id]? = some v → η'[id]? = some v) : RelL w' B' η' l us :=
  ⟨h.1, fun i x hx => by obtain ⟨u, h1, h2⟩ := h.2 i x hx; exact ⟨u, h1, h2.on0 g hB he⟩⟩
theorem GlobOK.on0 {w w' : World} {B B' : List Nat} (h : GlobOK w B) (g : On0 B w w') (hB : ∀ b ∈ B', b ∈ B ∨ w.heap.size ≤ b) : GlobOK w' B' := ⟨fun i l hi => (h.tab i l hi).on0 g hB (fun _ _ h => h), fun i hi => (h.nn i hi).on0 g hB (fun _ _ h => h), fun i hi => (h.num i hi).elim fun m hm => ⟨m, hm.on0 g hB (fun _ _ h => h)⟩, fun i l hi => by
    obtain ⟨h1, T, fr, h2⟩ := h.row i l hi
    have hlt := (Array.getElem?_eq_some_iff.1 h2).1
    obtain ⟨fr', h3⟩ := g.block i hlt h1 _ _ _ h2
    exact ⟨fun hb => (hB i hb).elim h1 (fun hc => by omega), T, fr', h3⟩⟩
theorem EntOK.keep0 {n0 : Nat} {Bx : List Nat} {w w' : World} {B B' : List Nat} {η η' : List Value} {v : Value} {e : Ent} (h : EntOK n0 Bx w B η v e) (g : On0 B w w') (hB : ∀ b ∈ B', b ∈ B ∨ w.heap.size ≤ b) (hs : ∀ b ∈ B, b ∈ B') (he : ∀ (id : Nat) v, η[id]? = some v → η'[id]? = some v)
    (hb : e.live = true → ∀ b, blkOf v = some b → w'.heap[b]? = w.heap[b]?) : EntOK n0 Bx w' B' η' v e := by
  cases e with
  | dead => trivial
  | box cells T =>
    obtain ⟨b, us, h1, h2, h3, h4, h5, h6⟩ := h
    refine ⟨b, us, h1, h2, hs _ h3, h4, ?_, h6.on0 g hB he⟩
    rw [hb rfl b (by rw [h1]; rfl)]; exact h5
  | own cells E k =>
    obtain ⟨n, us, h1, h2, h3, h4⟩ := h
    refine ⟨n, us, ⟨h1.1, ?_⟩, h2.on0 g hB he, h3, fun b hb' => ⟨hs _ (h4 b hb').1, (h4 b hb').2⟩⟩
    rcases h1.2 with hn | ⟨gg, oo, cap, cur, hv, hb', hgg, rest⟩
    · exact .inl hn
    · refine .inr ⟨gg, oo, cap, cur, hv, hb', ?_, rest⟩
      rw [hb rfl gg (by rw [hv]; rfl)]; exact hgg
  | itr s pos =>
    obtain ⟨b, h1, h2, h3, h4, h5⟩ := h
    exact ⟨b, h1, h2, hs _ h3, h4, by rw [hb rfl b (by rw [h1]; rfl)]; exact h5⟩
section
variable {w w' : World} {B B' : List Nat} {η η' : List Value}
theorem Rel2.on0 {x : V} {v : Value} (h : Rel2 w B η x v) (g : On0 B w w') (hB : ∀ b ∈ B', b ∈ B ∨ w.heap.size ≤ b) (he : ∀ (id : Nat) v, η[id]? = some v → η'[id]? = some v) : Rel2 w' B' η' x v := by
  cases x with
  | any => trivial
  | clo f caps =>
    obtain ⟨vs, h1, h2, h3⟩ := h
    exact ⟨vs, h1, h2, fun i c hc => by obtain ⟨u, a, b, c⟩ := h3 i c hc; exact ⟨u, a, b, c.on0 g hB he⟩⟩
  | bsl id n => obtain ⟨b, h1, h2⟩ := h; exact ⟨b, he _ _ h1, h2⟩
  | _ => exact Rel.on0 h g hB he
end
theorem SlotsK.on0 {n0 : Nat} {w w' : World} {B B' : List Nat} {η η' : List Value} {sl : List V} {tmps : Array Value} (h : SlotsK n0 w B η sl tmps) (g : On0 B w w') (hB : ∀ b ∈ B', b ∈ B ∨ w.heap.size ≤ b) (he : ∀ (id : Nat) v, η[id]? = some v → η'[id]? = some v) : SlotsK n0 w' B' η' sl tmps :=
  ⟨h.size, fun t => (h.rel t).on0 g hB he, h.fresh⟩
theorem Inv.other0 {n0 : Nat} {Bx : List Nat} {w w' : World} {B B' : List Nat} {η : List Value} {Hs : List Ent} (inv : Inv n0 Bx w B η Hs) (g : On0 B w w') (hB : ∀ b ∈ B', b ∈ B ∨ w.heap.size ≤ b) (hs : ∀ b ∈ B, b ∈ B') (hlt : ∀ b ∈ B', b < w'.heap.size)
    (hb : ∀ id e, Hs[id]? = some e → e.live = true → ∀ b, blkOf (η.getD id undef) = some b → w'.heap[b]? = w.heap[b]?) : Inv n0 Bx w' B' η Hs :=
  ⟨inv.len, ⟨Nat.le_trans inv.base.1 g.size, inv.base.2.on0 g hB⟩, fun b hb' => ⟨hs b (inv.sub b hb').1, (inv.sub b hb').2⟩, hlt, fun id e he => EntOK.keep0 (inv.ent id e he) g hB hs (fun _ _ h => h) (hb id e he), inv.sep⟩
theorem on_turn {w w' : World} {row : Option Nat} (hg : w.grownBy w' row) (hr : ∀ r, row = some r → ∃ o : Obj, w.heap[r]? = some o ∧ o.isCells = false) (B : List Nat) : On0 B w w' :=
  ⟨hg.os, hg.tape, hg.output, hg.size, fun b hb _ => by
    by_cases h : some b = row
    · intro c e fr hc
      obtain ⟨o, h1, h2⟩ := hr b h.symm
      rw [hc] at h1
      injection h1 with h1
      rw [← h1] at h2
      cases h2
    · exact fun c e fr hc => ⟨fr, by rw [hg.block b hb h]; exact hc⟩⟩
theorem EntOK.cellsAt {n0 : Nat} {Bx : List Nat} {w : World} {B : List Nat} {η : List Value} {v : Value} {e : Ent} (h : EntOK n0 Bx w B η v e) (hn : noItr e = true) (hl : e.live = true) : ∀ b, blkOf v = some b → ∃ o : Obj, w.heap[b]? = some o ∧ o.isCells = true := by
  intro b hb
  cases e with
  | dead => cases hl
  | box cells T =>
    obtain ⟨b', us, h1, h2, h3, h4, h5, h6⟩ := h
    rw [h1] at hb; simp [blkOf] at hb; subst hb
    exact ⟨_, h5, rfl⟩
  | own cells E k =>
    obtain ⟨n, us, h1, h2, h3, h4⟩ := h
    rcases h1.2 with ⟨hv, _⟩ | ⟨gg, oo, cap, cur, hv, hb', hgg, rest⟩
    · rw [hv] at hb; cases hb
    · rw [hv] at hb; simp [blkOf] at hb; subst hb
      exact ⟨_, hgg, rfl⟩
  | itr s pos => cases hn
theorem Inv.turn {n0 : Nat} {Bx : List Nat} {w w' : World} {B : List Nat} {η : List Value} {H : List Ent} {row : Option Nat} (inv : Inv n0 Bx w B η H) (hn : ∀ e ∈ H, noItr e = true)
    (hg : w.grownBy w' row) (hr : ∀ r, row = some r → ∃ o : Obj, w.heap[r]? = some o ∧ o.isCells = false) : Inv n0 Bx w' B η H :=
  Inv.other0 inv (on_turn hg hr B) (fun _ h => .inl h) (fun _ h => h) (fun b hb => Nat.lt_of_lt_of_le (inv.lt b hb) hg.size) fun id e he hl b hb => by
    obtain ⟨o, h1, h2⟩ := EntOK.cellsAt (inv.ent id e he) (hn e (List.mem_of_getElem? he)) hl b hb
    have hlt := (Array.getElem?_eq_some_iff.1 h1).1
    refine hg.block b hlt fun h => ?_
    obtain ⟨o', h3, h4⟩ := hr b h.symm
    rw [h1] at h3
    injection h3 with h3
    rw [h3, h4] at h2
    cases h2
theorem SimK.turn {n0 : Nat} {Bx : List Nat} {ds : List Deferred} {st : S2} {a : Act} {w w' : World} {B : List Nat} {η : List Value} {row : Option Nat} (h : SimK n0 Bx ds st a w B η) (hn : ∀ e ∈ st.heap.map exE, noItr e = true)
    (hg : w.grownBy w' row) (hr : ∀ r, row = some r → ∃ o : Obj, w.heap[r]? = some o ∧ o.isCells = false) : SimK n0 Bx ds st a w' B η :=
  ⟨h.defers, h.inv.turn hn hg hr, h.slots.on0 (on_turn hg hr B) (fun _ h => .inl h) (fun _ _ h => h)⟩
def liveB (Bx : List Nat) (η : List Value) (H : List Ent) : List Nat := Bx ++ (List.range H.length).filterMap fun id => if (H.getD id .dead).live then blkOf (η.getD id undef) else none
theorem liveB_in {Bx : List Nat} {η : List Value} {H : List Ent} {id b : Nat} {e : Ent} (he : H[id]? = some e) (hl : e.live = true) (hb : blkOf (η.getD id undef) = some b) : b ∈ liveB Bx η H := by
 refine List.mem_append_right _ (List.mem_filterMap.2 ⟨id, List.mem_range.2 (List.getElem?_eq_some_iff.1 he).1, ?_⟩)
 rw [show H.getD id .dead = e by simp [List.getD_eq_getElem?_getD, he], if_pos hl]
 exact hb
theorem liveB_out {Bx : List Nat} {η : List Value} {H : List Ent} {b : Nat} (h : b ∈ liveB Bx η H) : b ∈ Bx ∨ ∃ id e, H[id]? = some e ∧ e.live = true ∧ blkOf (η.getD id undef) = some b := by
 rcases List.mem_append.1 h with h | h
 ·exact .inl h
 ·obtain ⟨id, h1, h2⟩ := List.mem_filterMap.1 h
  have hlt := List.mem_range.1 h1
  refine .inr ⟨id, H[id], List.getElem?_eq_getElem hlt, ?_⟩
  rw [show H.getD id .dead = H[id] by simp [List.getD_eq_getElem?_getD, hlt]] at h2
  split at h2
  ·rename_i hl
   exact ⟨hl, h2⟩
  ·cases h2
theorem EntOK.sub {n0 : Nat} {Bx : List Nat} {w : World} {B B' : List Nat} {η : List Value} {v : Value} {e : Ent} (h : EntOK n0 Bx w B η v e) (hsub : ∀ b ∈ B', b ∈ B) (hin : e.live = true → ∀ b, blkOf v = some b → b ∈ B') : EntOK n0 Bx w B' η v e := by
 cases e with
 | dead => trivial
 | box cells T =>
  obtain ⟨b, us, h1, h2, h3, h4, h5, h6⟩ := h
  exact ⟨b, us, h1, h2, hin rfl b (by rw [h1]; rfl), h4, h5, h6.on (On.refl B w) (fun b hb => .inl (hsub b hb)) (fun _ _ h => h)⟩
 | own cells E k =>
  obtain ⟨n, us, h1, h2, h3, h4⟩ := h
  refine ⟨n, us, h1, h2.on (On.refl B w) (fun b hb => .inl (hsub b hb)) (fun _ _ h => h), h3, fun b hb => ⟨hin rfl b ?_, (h4 b hb).2⟩⟩
  rcases h1.2 with ⟨hv, _⟩ | ⟨gg, oo, cap, cur, hv, _⟩
  ·rw [hv] at hb; cases hb
  ·rw [hv] at hb ⊢
   exact hb
 | itr s pos =>
  obtain ⟨b, h1, h2, h3, h4, h5⟩ := h
  exact ⟨b, h1, h2, hin rfl b (by rw [h1]; rfl), h4, h5⟩
theorem Inv.shrink {n0 : Nat} {Bx : List Nat} {w : World} {B : List Nat} {η : List Value} {H : List Ent} (inv : Inv n0 Bx w B η H) : Inv n0 Bx w (liveB Bx η H) η H ∧ ∀ b ∈ liveB Bx η H, b ∈ B := by
 have hsub : ∀ b ∈ liveB Bx η H, b ∈ B := fun b hb => by
  rcases liveB_out hb with hb | ⟨id, e, h1, h2, h3⟩
  ·exact (inv.sub b hb).1
  ·exact (EntOK.lt (inv.ent id e h1) h2 b h3).2
 exact ⟨⟨inv.len, ⟨inv.base.1, inv.base.2.on (On.refl B w) (fun b hb => .inl (hsub b hb))⟩, fun b hb => ⟨List.mem_append_left _ hb, (inv.sub b hb).2⟩, fun b hb => inv.lt b (hsub b hb),
  fun id e he => EntOK.sub (inv.ent id e he) hsub fun hl b hb => liveB_in he hl hb, inv.sep⟩, hsub⟩
theorem SimK.shrink {n0 : Nat} {Bx : List Nat} {ds : List Deferred} {st : S2} {a : Act} {w : World} {B : List Nat} {η : List Value} (h : SimK n0 Bx ds st a w B η) (hn : ∀ e ∈ st.heap.map exE, noItr e = true) (hx : ∀ b ∈ Bx, ∃ o : Obj, w.heap[b]? = some o ∧ o.isCells = true) :
  ∃ B', SimK n0 Bx ds st a w B' η ∧ (∀ b ∈ B', b ∈ B) ∧ ∀ b ∈ B', ∃ o : Obj, w.heap[b]? = some o ∧ o.isCells = true := by
 obtain ⟨inv, hsub⟩ := h.inv.shrink
 refine ⟨_, ⟨h.defers, inv, h.slots.on (On.refl B w) (fun b hb => .inl (hsub b hb)) (fun _ _ h => h)⟩, hsub, fun b hb => ?_⟩
 rcases liveB_out hb with hb | ⟨id, e, h1, h2, h3⟩
 ·exact hx b hb
 ·exact EntOK.cellsAt (h.inv.ent id e h1) (hn e (List.mem_of_getElem? h1)) h2 b h3
end Go.Proofs.YtkigpcolmioibaaDoor
namespace Go.Proofs.YtkigpcolmioibaaDoor
set_option maxRecDepth 100000
open Go.RowKit
set_option linter.unusedVariables false
attribute [local go_sem] Oper.semAt_some
def KeepsB (S : Nat → Prop) (W W' : World) : Prop := ∀ b, S b → ∀ o u, W.cell? ⟨b, o, none⟩ = some u → W'.cell? ⟨b, o, none⟩ = some u
theorem KeepsB.refl (S : Nat → Prop) (W : World) : KeepsB S W W := fun _ _ _ _ h => h
theorem KeepsB.trans {S : Nat → Prop} {X Y Z : World} (h : KeepsB S X Y) (k : KeepsB S Y Z) : KeepsB S X Z := fun b hb o u hu => k b hb o u (h b hb o u hu)
theorem KeepsB.of_block {S : Nat → Prop} {W W' : World} (h : ∀ b, S b → b < W.heap.size → W'.heap[b]? = W.heap[b]?) : KeepsB S W W' := fun b hb o u hu => by
 have hlt : b < W.heap.size := by
  unfold World.cell? at hu
  split at hu
  ·rename_i c e fr hc
   exact (Array.getElem?_eq_some_iff.1 hc).1
  ·cases hu
 rw [World.cell?_of_block (h b hb hlt)]
 exact hu
def Hands (P : Program) (gf : Nat) (lb : Array Value) (enc : Nat → Array Value) (N : Nat) (S : Nat → Prop) (w : World) : Prop :=
 ∀ (l : Nat) (J Jx : Nat → World → Prop) (W : World), Below w.heap.size w W → (∀ k W W', J k W → Below W.heap.size W W' → J k W') →
  (∀ k W, J k W → k < N → YieldAt Fence.wide 0 P l (enc k) W fun e W' => (e = .returned (.bool true) ∧ J (k + 1) W' ∧ KeepsB S W W') ∨ (e = .returned (.bool false) ∧ Jx k W')) → J 0 W →
  CallsIn Fence.wide 1 P gf (#[.func (.yield l) #[] #[]] ++ lb) W fun e W' => (∃ v, e = .returned v) ∧ (J N W' ∨ ∃ k, k < N ∧ Jx k W')
theorem listIn_store {P : Program} {n : Nat} {ops : Array Oper} {rest : List Oper} {o : Oper} {a : Act} {w : World} {Q : Exit → Act → World → Prop} (hgd : o.guard = none) (ty : TypeId) (x y : Operand) (ho : o.op = .store ty x y)
  (g : Nat) (cells : Array Value) (hx : a.eval x = .pointer (some ⟨g, 0, none⟩)) (hy : a.eval y = .agg cells)
  (t : TypeId) (old : Array Value) (hg : w.heap[g]? = some (.cells old t (0, 0))) (hi : (P.info? ty).map (·.size) = some cells.size)
  (hold : old.size = cells.size) (h1 : cells.all (·.oneCell') = true)
  (h : wpListIn Fence.wide n P ops Q rest (a.put o.dst undef) (w.setRow g cells)) : wpListIn Fence.wide n P ops Q (o :: rest) a w :=
 wpListIn_plain hgd fun K hK => by
  have h0 := wp_store_row (Q := Q) (K := K) (o := o) (a := a) ty x y ho g cells hx hy t old hg hi hold h1 (hK _ _ h)
  refine ⟨fun _ _ => trivial, ?_⟩
  rw [show o.semAt Fence.wide.round a.eval = execOp a.eval o from rfl]
  unfold Oper.wp at h0
  generalize (execOp a.eval o).run P w = r at h0 ⊢
  match r, h0 with
  | .ok (.value v) w', h0 => exact h0
  | .ok .skip w', h0 => exact h0
  | .ok (.defer d) w', h0 => exact h0
  | .ok (.enter f args) w', h0 => exact ⟨fun hc => (by cases hc), callsIn_wide.2 h0⟩
  | .ok (.row row args) w', h0 => exact ⟨fun hc => (by cases hc), fun c cs _ => by obtain ⟨v, w', r, s⟩ := h0 c cs; exact ⟨v, w', r, stepsIn_wide.2 s⟩⟩
  | .halt (.panic v) w', h0 => exact h0
set_option maxRecDepth 100000 in
set_option maxHeartbeats 2000000 in
theorem all_walk (l Bs b off len cap : Nat) (us : Nat → Value) (hone : ∀ j, j < len * 2 → (us j).oneCell' = true) (hreach : len ≤ 1000000000) (J Jx : Nat → World → Prop)
  (hJ : ∀ k W W', J k W → Below W.heap.size W W' → J k W')
  (hY : ∀ k W, J k W → k < len → YieldAt Fence.wide 0 Tryd.prog l #[.int .i64 k, .agg #[us (k * 2), us (k * 2 + 1)]] W fun e W' => (e = .returned (.bool true) ∧ J (k + 1) W' ∧ KeepsB (· = b) W W') ∨ (e = .returned (.bool false) ∧ Jx k W'))
  (W : World) (hBs : W.cell? ⟨Bs, 0, none⟩ = some (.slice (some ⟨b, off, none⟩) len cap)) (hc : ∀ j, j < len * 2 → W.cell? ⟨b, off + j, none⟩ = some (us j)) (h0 : J 0 W) :
  CallsIn Fence.wide 1 Tryd.prog 44 #[.func (.yield l) #[] #[], .pointer (some ⟨Bs, 0, none⟩)] W fun e W' => (∃ v, e = .returned v) ∧ (J len W' ∨ ∃ k, k < len ∧ Jx k W') := by
 refine callsIn_of_wp Tryd.func44 rfl trivial ?_ rfl
 simp only [Tryd.ntmps44, List.size_toArray, List.length_cons, List.length_nil, Nat.reduceAdd, Nat.reduceSub, Array.replicate_succ, Array.replicate_zero, List.push_toArray, List.append_toArray, List.nil_append, List.cons_append]
 gi_wp2
 gi_loopw [7] (fun i wr => ∃ k : Nat, k ≤ len ∧ i = .int .i64 k ∧ J k wr ∧ KeepsB (· = b) W wr)
  (fun i _ => len - (intOf i).toNat)
 case atStart => exact ⟨0, Nat.zero_le _, rfl, h0, KeepsB.refl _ _⟩
 case round =>
  obtain ⟨k, hk, rfl, hJs, hnx⟩ := hrel
  by_cases hlt : k < len
  ·have c1 : ((k : Int) < (len : Int)) := by omega
   have k0 : wr.cell? ⟨b, off + k * 2, none⟩ = some (us (k * 2)) := hnx _ rfl _ _ (hc _ (by omega))
   have k1 : wr.cell? ⟨b, off + k * 2 + 1, none⟩ = some (us (k * 2 + 1)) := hnx _ rfl _ _ (by rw [Nat.add_assoc]; exact hc _ (by omega))
   have o0 := hone (k * 2) (by omega)
   have o1 := hone (k * 2 + 1) (by omega)
   have hca : (#[us (k * 2), us (k * 2 + 1)] : Array Value).all (·.oneCell') = true := by simp [o0, o1]
   have hnew := heap_alloc_new wr (.cells #[Value.int IntKind.u8 0, Value.slice none 0 0] 60)
   have hrow := heap_alloc_new wr (.cells #[us (k * 2), us (k * 2 + 1)] 60)
   have e0 : (wr.alloc (.cells #[us (k * 2), us (k * 2 + 1)] 60)).cell? ⟨wr.heap.size, 0, none⟩ = some (us (k * 2)) := by rw [cell_of_row _ _ _ _ _ _ hrow]; rfl
   have e1 : (wr.alloc (.cells #[us (k * 2), us (k * 2 + 1)] 60)).cell? ⟨wr.heap.size, 1, none⟩ = some (us (k * 2 + 1)) := by rw [cell_of_row _ _ _ _ _ _ hrow]; rfl
   have hbw : Below wr.heap.size wr (wr.alloc (.cells #[us (k * 2), us (k * 2 + 1)] 60)) := (Below.refl _ wr).alloc (Nat.le_refl _) _
   obtain ⟨fn, tmps, assign, body, hy, hR⟩ := hY k _ (hJ k wr _ hJs hbw) hlt
   gi_wp2_with (first
    | (refine listIn_store rfl 60 (.tmp 4) (.tmp 11) rfl wr.heap.size #[us (k * 2), us (k * 2 + 1)] rfl rfl 60 #[Value.int IntKind.u8 0, Value.slice none 0 0] hnew (by kernel_rfl) rfl hca ?_; rw [World.setRow_alloc_new]))
   refine hR.mono ?_
   rintro e W3 (⟨rfl, hJ3, hk3⟩ | ⟨rfl, hJx3⟩)
   ·gi_wp2
    go_roundw
    case rel => exact ⟨k + 1, by omega, by simp, hJ3, hnx.trans ((KeepsB.of_block fun c hc h => hbw.block c h).trans hk3)⟩
    case measure => simp [intOf]; omega
   ·gi_wp2
    refine bodyPost_ret (results_none rfl _ _ _) rfl ?_
    exact ⟨⟨_, rfl⟩, .inr ⟨k, hlt, hJx3⟩⟩
  ·obtain rfl : k = len := by omega
   gi_wp2
   go_end0
   exact ⟨⟨_, rfl⟩, .inl hJs⟩
set_option maxRecDepth 100000 in
set_option maxHeartbeats 1000000 in
theorem all_nil (l Bs c : Nat) (J : Nat → World → Prop) (A : Option Addr) (W : World) (hBs : W.cell? ⟨Bs, 0, none⟩ = some (.slice A 0 c)) (h0 : J 0 W) :
  CallsIn Fence.wide 1 Tryd.prog 44 #[.func (.yield l) #[] #[], .pointer (some ⟨Bs, 0, none⟩)] W fun e W' => (∃ v, e = .returned v) ∧ J 0 W' := by
 refine callsIn_of_wp Tryd.func44 rfl trivial ?_ rfl
 simp only [Tryd.ntmps44, List.size_toArray, List.length_cons, List.length_nil, Nat.reduceAdd, Nat.reduceSub, Array.replicate_succ, Array.replicate_zero, List.push_toArray, List.append_toArray, List.nil_append, List.cons_append]
 gi_wp2
 gi_loopw [7] (fun i wr => i = .int .i64 0 ∧ J 0 wr) (fun _ _ => 0)
 case atStart => exact ⟨rfl, h0⟩
 case round =>
  obtain ⟨rfl, hJs⟩ := hrel
  gi_wp2
  go_end0
  exact ⟨⟨_, rfl⟩, hJs⟩
set_option maxHeartbeats 1000000 in
theorem all_call (A : Option Addr) (len cap : Nat) (w : World) :
  Calls Tryd.prog 23 #[.slice A len cap] w fun e w' => e = .returned (.func (.func 44) #[] #[.pointer (some ⟨w.heap.size, 0, none⟩)]) ∧ w' = w.alloc (.cells #[.slice A len cap] 28) := by
 go_enter Tryd.func23, Tryd.ntmps23
 go_wp2
 go_ret
 exact ⟨rfl, rfl⟩
theorem all_hands (Bs b n cap : Nat) (A : Option Addr) (us : Nat → Value) (w : World) (hlen : n ≤ 1000000000) (hBl : Bs < w.heap.size) (hBs : w.cell? ⟨Bs, 0, none⟩ = some (.slice A n cap))
  (hA : 0 < n → (∃ o, A = some ⟨b, o, none⟩ ∧ b < w.heap.size ∧ ∀ j, j < n * 2 → w.cell? ⟨b, o + j, none⟩ = some (us j)) ∧ ∀ j, j < n * 2 → (us j).oneCell' = true) :
  Hands Tryd.prog 44 #[.pointer (some ⟨Bs, 0, none⟩)] (fun k => #[.int .i64 k, .agg #[us (k * 2), us (k * 2 + 1)]]) n (· = b) w := by
 intro l J Jx W hW hJ hY h0
 have hB' := (hW.cell (p := ⟨Bs, 0, none⟩) hBl).trans hBs
 rcases Nat.eq_zero_or_pos n with rfl | hp
 ·exact (all_nil l Bs cap J A W hB' h0).mono fun e W' ⟨he, hj⟩ => ⟨he, .inl hj⟩
 ·obtain ⟨⟨o, rfl, hb, hc⟩, hone⟩ := hA hp
  exact all_walk l Bs b o n cap us hone hlen J Jx hJ hY W hB' (fun j hj => (hW.cell (p := ⟨b, o + j, none⟩) hb).trans (hc j hj)) h0
set_option maxRecDepth 100000 in
set_option maxHeartbeats 2000000 in
theorem val_walk (l Bs b off len cap : Nat) (us : Nat → Value) (hone : ∀ j, j < len * 2 → (us j).oneCell' = true) (hreach : len ≤ 1000000000) (J Jx : Nat → World → Prop)
  (hJ : ∀ k W W', J k W → Below W.heap.size W W' → J k W')
  (hY : ∀ k W, J k W → k < len → YieldAt Fence.wide 0 Tryd.prog l #[.agg #[us (k * 2), us (k * 2 + 1)]] W fun e W' => (e = .returned (.bool true) ∧ J (k + 1) W' ∧ KeepsB (· = b) W W') ∨ (e = .returned (.bool false) ∧ Jx k W'))
  (W : World) (hBs : W.cell? ⟨Bs, 0, none⟩ = some (.slice (some ⟨b, off, none⟩) len cap)) (hc : ∀ j, j < len * 2 → W.cell? ⟨b, off + j, none⟩ = some (us j)) (h0 : J 0 W) :
  CallsIn Fence.wide 1 Tryd.prog 61 #[.func (.yield l) #[] #[], .pointer (some ⟨Bs, 0, none⟩)] W fun e W' => (∃ v, e = .returned v) ∧ (J len W' ∨ ∃ k, k < len ∧ Jx k W') := by
 refine callsIn_of_wp Tryd.func61 rfl trivial ?_ rfl
 simp only [Tryd.ntmps61, List.size_toArray, List.length_cons, List.length_nil, Nat.reduceAdd, Nat.reduceSub, Array.replicate_succ, Array.replicate_zero, List.push_toArray, List.append_toArray, List.nil_append, List.cons_append]
 gi_wp2
 gi_loopw [7] (fun i wr => ∃ k : Nat, k ≤ len ∧ i = .int .i64 k ∧ J k wr ∧ KeepsB (· = b) W wr)
  (fun i _ => len - (intOf i).toNat)
 case atStart => exact ⟨0, Nat.zero_le _, rfl, h0, KeepsB.refl _ _⟩
 case round =>
  obtain ⟨k, hk, rfl, hJs, hnx⟩ := hrel
  by_cases hlt : k < len
  ·have c1 : ((k : Int) < (len : Int)) := by omega
   have k0 : wr.cell? ⟨b, off + k * 2, none⟩ = some (us (k * 2)) := hnx _ rfl _ _ (hc _ (by omega))
   have k1 : wr.cell? ⟨b, off + k * 2 + 1, none⟩ = some (us (k * 2 + 1)) := hnx _ rfl _ _ (by rw [Nat.add_assoc]; exact hc _ (by omega))
   have o0 := hone (k * 2) (by omega)
   have o1 := hone (k * 2 + 1) (by omega)
   have hca : (#[us (k * 2), us (k * 2 + 1)] : Array Value).all (·.oneCell') = true := by simp [o0, o1]
   have hnew := heap_alloc_new wr (.cells #[Value.int IntKind.u8 0, Value.slice none 0 0] 60)
   have hrow := heap_alloc_new wr (.cells #[us (k * 2), us (k * 2 + 1)] 60)
   have e0 : (wr.alloc (.cells #[us (k * 2), us (k * 2 + 1)] 60)).cell? ⟨wr.heap.size, 0, none⟩ = some (us (k * 2)) := by rw [cell_of_row _ _ _ _ _ _ hrow]; rfl
   have e1 : (wr.alloc (.cells #[us (k * 2), us (k * 2 + 1)] 60)).cell? ⟨wr.heap.size, 1, none⟩ = some (us (k * 2 + 1)) := by rw [cell_of_row _ _ _ _ _ _ hrow]; rfl
   have hbw : Below wr.heap.size wr (wr.alloc (.cells #[us (k * 2), us (k * 2 + 1)] 60)) := (Below.refl _ wr).alloc (Nat.le_refl _) _
   obtain ⟨fn, tmps, assign, body, hy, hR⟩ := hY k _ (hJ k wr _ hJs hbw) hlt
   gi_wp2_with (first
    | (refine listIn_store rfl 60 (.tmp 4) (.tmp 10) rfl wr.heap.size #[us (k * 2), us (k * 2 + 1)] rfl rfl 60 #[Value.int IntKind.u8 0, Value.slice none 0 0] hnew (by kernel_rfl) rfl hca ?_; rw [World.setRow_alloc_new]))
   refine hR.mono ?_
   rintro e W3 (⟨rfl, hJ3, hk3⟩ | ⟨rfl, hJx3⟩)
   ·gi_wp2
    go_roundw
    case rel => exact ⟨k + 1, by omega, by simp, hJ3, hnx.trans ((KeepsB.of_block fun c hc h => hbw.block c h).trans hk3)⟩
    case measure => simp [intOf]; omega
   ·gi_wp2
    refine bodyPost_ret (results_none rfl _ _ _) rfl ?_
    exact ⟨⟨_, rfl⟩, .inr ⟨k, hlt, hJx3⟩⟩
  ·obtain rfl : k = len := by omega
   gi_wp2
   go_end0
   exact ⟨⟨_, rfl⟩, .inl hJs⟩
set_option maxRecDepth 100000 in
set_option maxHeartbeats 1000000 in
theorem val_nil (l Bs c : Nat) (J : Nat → World → Prop) (A : Option Addr) (W : World) (hBs : W.cell? ⟨Bs, 0, none⟩ = some (.slice A 0 c)) (h0 : J 0 W) :
  CallsIn Fence.wide 1 Tryd.prog 61 #[.func (.yield l) #[] #[], .pointer (some ⟨Bs, 0, none⟩)] W fun e W' => (∃ v, e = .returned v) ∧ J 0 W' := by
 refine callsIn_of_wp Tryd.func61 rfl trivial ?_ rfl
 simp only [Tryd.ntmps61, List.size_toArray, List.length_cons, List.length_nil, Nat.reduceAdd, Nat.reduceSub, Array.replicate_succ, Array.replicate_zero, List.push_toArray, List.append_toArray, List.nil_append, List.cons_append]
 gi_wp2
 gi_loopw [7] (fun i wr => i = .int .i64 0 ∧ J 0 wr) (fun _ _ => 0)
 case atStart => exact ⟨rfl, h0⟩
 case round =>
  obtain ⟨rfl, hJs⟩ := hrel
  gi_wp2
  go_end0
  exact ⟨⟨_, rfl⟩, hJs⟩
set_option maxHeartbeats 1000000 in
theorem val_call (A : Option Addr) (len cap : Nat) (w : World) :
  Calls Tryd.prog 51 #[.slice A len cap] w fun e w' => e = .returned (.func (.func 61) #[] #[.pointer (some ⟨w.heap.size, 0, none⟩)]) ∧ w' = w.alloc (.cells #[.slice A len cap] 28) := by
 go_enter Tryd.func51, Tryd.ntmps51
 go_wp2
 go_ret
 exact ⟨rfl, rfl⟩
theorem val_hands (Bs b n cap : Nat) (A : Option Addr) (us : Nat → Value) (w : World) (hlen : n ≤ 1000000000) (hBl : Bs < w.heap.size) (hBs : w.cell? ⟨Bs, 0, none⟩ = some (.slice A n cap))
  (hA : 0 < n → (∃ o, A = some ⟨b, o, none⟩ ∧ b < w.heap.size ∧ ∀ j, j < n * 2 → w.cell? ⟨b, o + j, none⟩ = some (us j)) ∧ ∀ j, j < n * 2 → (us j).oneCell' = true) :
  Hands Tryd.prog 61 #[.pointer (some ⟨Bs, 0, none⟩)] (fun k => #[.agg #[us (k * 2), us (k * 2 + 1)]]) n (· = b) w := by
 intro l J Jx W hW hJ hY h0
 have hB' := (hW.cell (p := ⟨Bs, 0, none⟩) hBl).trans hBs
 rcases Nat.eq_zero_or_pos n with rfl | hp
 ·exact (val_nil l Bs cap J A W hB' h0).mono fun e W' ⟨he, hj⟩ => ⟨he, .inl hj⟩
 ·obtain ⟨⟨o, rfl, hb, hc⟩, hone⟩ := hA hp
  exact val_walk l Bs b o n cap us hone hlen J Jx hJ hY W hB' (fun j hj => (hW.cell (p := ⟨b, o + j, none⟩) hb).trans (hc j hj)) h0
end Go.Proofs.YtkigpcolmioibaaDoor
namespace Go.Proofs.YtkigpcolmioibaaDoor
set_option maxRecDepth 100000
open Go.RowKit
set_option linter.unusedVariables false
def rndQ (D : Nat) (b : Nat → Prop) (Y N : World → Prop) (W : World) : Exit → Act → World → Prop
 | .normal, _, W' => KeepsFrom D W W' ∧ KeepsB b W W' ∧ Y W'
 | .ret, _, W' => KeepsFrom D W W' ∧ N W'
 | _, _, _ => False
theorem rndQ_no {D : Nat} {b : Nat → Prop} {Y N : World → Prop} {W : World} : ¬ LetsOut (rndQ D b Y N W) := fun ⟨_, _, h⟩ => h
theorem below_put {n0 : Nat} {W : World} {l : Nat} (o : Obj) (h : n0 ≤ l) : Below n0 W (W.putObj l o) := by
 refine ⟨rfl, rfl, rfl, by simp, fun b hb => World.putObj_heap_other (by omega)⟩
theorem rng_law {P : Program} {g : Operand} {ps : Array Tmp} {assign body : Code} {Q : Exit → Act → World → Prop} {a : Act} {w : World} {gf : Nat} {lb : Array Value} (hg : a.eval g = .func (.func gf) #[] lb)
  (eg : ∀ args w, (callFunc gf args).run P w = .ok (.enter gf args) w) {enc : Nat → Array Value} {N : Nat} {b : Nat → Prop} (hseq : Hands P gf lb enc N b w) (hbw : 0 < N → ∀ x, b x → x < w.heap.size) (hps : ∀ k, (enc k).size = ps.size)
  (I Ix : Nat → World → Prop) (hI : OwnFrom w.heap.size I) (hIx : OwnFrom w.heap.size Ix) (hgr : ∀ k W W', I k W → Below W.heap.size W W' → I k W') (h0 : I 0 w)
  (hround : ∀ (l k : Nat) (W : World), I k W → k < N → w.heap.size ≤ l → assign.wpIn (inRd l) 0 P (Exit.then (fun a1 W1 => KeepsFrom w.heap.size W W1 ∧ KeepsB b W W1 ∧
   ∀ (o o' : Obj), W1.heap[l]? = some o → o.isCells = false → body.wpIn (inRd l) 0 P (rndQ w.heap.size b (I (k + 1)) (Ix k) (W1.putObj l o')) a1 (W1.putObj l o')) (fun _ _ _ => False))
   { tmps := (ps.zip (enc k)).foldl (fun t (p, v) => t.setIfInBounds p v) a.tmps, defers := [] } W)
  (hdone : ∀ (D : Nat) (W : World), w.heap.size ≤ D → I N W → W.heap[D]? = some (.deferred (some [])) → Q .normal { a with defers := { target := .collected D, args := #[] } :: a.defers } W)
  (hstop : ∀ (D k : Nat) (W : World), w.heap.size ≤ D → k < N → Ix k W → W.heap[D]? = some (.deferred (some [])) → Q .ret { a with defers := { target := .collected D, args := #[] } :: a.defers } W) :
  (Code.rangeFunc g ps assign body).wp P Q a w := by
 refine (wpIn_wide (n := 2)).1 (wpIn_rangeFunc fun fn hfn => ?_)
 -- the two blocks that the statement lays: D for the rounds' deferred calls, D + 1 for its record
 let rec' : LoopState → Option Code → Loop := fun st pe => { state := st, pending := pe, fn := fn, tmps := a.tmps, params := ps, assign := assign, body := body, defers := w.heap.size }
 have hready : ∀ W, W = (w.alloc (.deferred (some []))).alloc (.loop (rec' .ready none)) → W.heap[w.heap.size]? = some (.deferred (some [])) ∧ W.heap[w.heap.size + 1]? = some (.loop (rec' .ready none)) ∧ Below w.heap.size w W ∧ I 0 W := by
  rintro W rfl
  have b1 := (Below.refl w.heap.size w).alloc (Nat.le_refl _) (.deferred (some []))
  refine ⟨?_, ?_, b1.alloc (by simp) _, hI.alloc _ (hI.alloc _ h0)⟩
  ·exact (Below.heap_alloc _ _ _ (by simp)).trans (World.alloc_heap_new w _)
  ·have := World.alloc_heap_new (w.alloc (.deferred (some []))) (.loop (rec' .ready none))
   rwa [World.size_alloc] at this
 obtain ⟨W1, hW1⟩ : ∃ W1, (w.alloc (.deferred (some []))).alloc (.loop (rec' .ready none)) = W1 := ⟨_, rfl⟩
 refine ⟨w.heap.size + 1, [{ target := .collected w.heap.size, args := #[] }], W1, { target := .fn (.func gf) lb, args := #[.func (.yield (w.heap.size + 1)) #[] #[]] }, W1, gf, #[.func (.yield (w.heap.size + 1)) #[] #[]] ++ lb, W1, (by rw [← hW1]; exact run_enterLoop_outer fn a.tmps ps assign body), ?_, fun f' hf' => trivial, ?_, fun h => (by cases h), ?_⟩
 ·simp only [resolve, hg]
  simp [go_sem]
 ·simp [invoke, go_sem, eg]
 obtain ⟨r1, r2, r3, r4⟩ := hready W1 hW1.symm
 have hcall := hseq (w.heap.size + 1) (fun k W => I k W ∧ W.heap[w.heap.size + 1]? = some (.loop (rec' .ready none)) ∧ W.heap[w.heap.size]? = some (.deferred (some [])))
  (fun k W => Ix k W ∧ W.heap[w.heap.size + 1]? = some (.loop (rec' .done (some .ret))) ∧ W.heap[w.heap.size]? = some (.deferred (some []))) W1 r3
  (fun k W W' hs hb => ⟨hgr k W W' hs.1 hb, (hb.block _ (Array.getElem?_eq_some_iff.1 hs.2.1).1).trans hs.2.1, (hb.block _ (Array.getElem?_eq_some_iff.1 hs.2.2).1).trans hs.2.2⟩)
  (fun k W hs hk => ?round) ⟨r4, r2, r1⟩
 case round =>
  obtain ⟨hi, hl, hd⟩ := hs
  have hbl := hbw (by omega)
  have kp : ∀ (X : World) (o : Obj), KeepsB b X (X.putObj (w.heap.size + 1) o) := fun X o => KeepsB.of_block fun x hx _ => World.putObj_heap_other (by have := hbl x hx; omega)
  refine ⟨fn, _, assign, body, run_yield (P := P) (args := enc k) hl (hps k), roundIn_of_wpIn hfn (wpIn_mono (hround (w.heap.size + 1) k W hi hk (by omega)) ?_)⟩
  intro e a1 Wa h1
  cases e with
  | normal =>
   obtain ⟨hk1, hb1, h2⟩ := h1
   have hl1 := hk1.same _ _ (by omega) hl rfl
   have hd1 := hk1.same _ _ (Nat.le_refl _) hd rfl
   refine ⟨_, run_beginRound hl1 rfl, wpIn_mono (h2 _ (.loop { rec' .ready none with state := .busy }) hl1 rfl) ?_⟩
   have hl2 : (Wa.putObj (w.heap.size + 1) (.loop { rec' .ready none with state := .busy })).heap[w.heap.size + 1]? = some (.loop { rec' .ready none with state := .busy }) := World.putObj_heap_same (Array.getElem?_eq_some_iff.1 hl1).1
   have hd2 : (Wa.putObj (w.heap.size + 1) (.loop { rec' .ready none with state := .busy })).heap[w.heap.size]? = some (.deferred (some [])) := (World.putObj_heap_other (by omega)).trans hd1
   intro e2 a2 Wb h3
   have shut : ∀ (j : Option Code), KeepsFrom w.heap.size (Wa.putObj (w.heap.size + 1) (.loop { rec' .ready none with state := .busy })) Wb →
     (Instr.endRound (w.heap.size + 1) j).run P Wb = .ok (.bool j.isNone) (Wb.putObj (w.heap.size + 1) (.loop (rec' (if j.isNone then .ready else .done) j))) ∧ Wb.heap[w.heap.size + 1]? = some (.loop { rec' .ready none with state := .busy }) ∧
     (Wb.putObj (w.heap.size + 1) (.loop (rec' (if j.isNone then .ready else .done) j))).heap[w.heap.size + 1]? = some (.loop (rec' (if j.isNone then .ready else .done) j)) ∧ (Wb.putObj (w.heap.size + 1) (.loop (rec' (if j.isNone then .ready else .done) j))).heap[w.heap.size]? = some (.deferred (some [])) := by
    intro j hkb
    have hl3 := hkb.same _ _ (by omega) hl2 rfl
    have hd3 := hkb.same _ _ (Nat.le_refl _) hd2 rfl
    exact ⟨run_endRound j hl3, hl3, World.putObj_heap_same (Array.getElem?_eq_some_iff.1 hl3).1, (World.putObj_heap_other (by omega)).trans hd3⟩
   cases e2 with
   | normal =>
    obtain ⟨hk3, hb3, hi3⟩ := h3
    obtain ⟨s1, s2, s3, s4⟩ := shut none hk3
    exact ⟨_, _, s1, .inl ⟨rfl, ⟨hI.putObj _ hi3 (by omega) s2 rfl, s3, s4⟩, ((hb1.trans (kp _ _)).trans hb3).trans (kp _ _)⟩⟩
   | ret =>
    obtain ⟨hk3, hi3⟩ := h3
    obtain ⟨s1, s2, s3, s4⟩ := shut (some .ret) hk3
    exact ⟨_, _, s1, .inr ⟨rfl, hIx.putObj _ hi3 (by omega) s2 rfl, s3, s4⟩⟩
   | _ => exact h3.elim
  | _ => exact h1.elim
 refine hcall.mono ?_
 rintro e W2 ⟨⟨v, rfl⟩, ⟨hi, hl, hd⟩ | ⟨k, hk, hi, hl, hd⟩⟩
 ·exact ⟨none, _, run_endLoop hl (by intro h; cases h), hdone _ _ (Nat.le_refl _) (hI.putObj _ hi (by omega) hl rfl) ((World.putObj_heap_other (by omega)).trans hd)⟩
 ·exact ⟨some .ret, _, run_endLoop hl (by intro h; cases h), wpIn_ret (hstop _ k _ (Nat.le_refl _) hk (hIx.putObj _ hi (by omega) hl rfl) ((World.putObj_heap_other (by omega)).trans hd))⟩
end Go.Proofs.YtkigpcolmioibaaDoor
namespace Go.Proofs.YtkigpcolmioibaaDoor
set_option maxRecDepth 100000
open Go.RowKit
set_option linter.unusedVariables false
set_option linter.unusedSimpArgs false
section
variable {P : Program} {R : Type}
theorem EnvOK.addExt {Γ : (R : Type) → Env R} (hΓ : EnvOK P (Γ R)) {f : FuncId} {F : (R : Type) → List V → (V → Tree R) → Tree R} (h : ∀ args (k : V → Tree R) res, (F R args k).run = some res → ∃ r, (k r).run = some res ∧ r.plain = true ∧ (∀ l k, ex r ≠ .fresh l k) ∧ CallsV P f args r) : EnvOK P (Env.addFn Γ f F R) := by
 refine ⟨⟨fun f' args k res hc => ?_⟩, hΓ.inl, hΓ.lp, hΓ.cln⟩
 simp only [Env.addFn] at hc
 split at hc
 ·rename_i hff
  subst hff
  exact h args k res hc
 ·exact hΓ.fns.ok f' args k res hc
end
theorem On.on0 {B : List Nat} {w w' : World} (h : On B w w') : On0 B w w' := ⟨h.os, h.tape, h.output, h.size, fun b hb hB => (h.block b hb hB).1⟩
theorem On0.refl (B : List Nat) (w : World) : On0 B w w := (On.refl B w).on0
theorem Soft0.trans {a b c : World} {x : Nat} (h : Soft0 a b x) (k : Soft0 b c x) : Soft0 a c x := fun cs e fr hc => by
 obtain ⟨fr1, h1⟩ := h cs e fr hc
 exact k cs e fr1 h1
theorem On0.trans {B B' : List Nat} {a b c : World} (h : On0 B a b) (k : On0 B' b c) (hB : ∀ x ∈ B', x ∈ B ∨ a.heap.size ≤ x) : On0 B a c :=
 ⟨k.os.trans h.os, k.tape.trans h.tape, k.output.trans h.output, Nat.le_trans h.size k.size, fun x hx hn => (h.block x hx hn).trans (k.block x (Nat.lt_of_lt_of_le hx h.size) fun hb => (hB x hb).elim hn (fun hb => by omega))⟩
def nI (H : List E2) : Bool := H.all fun e => noItr (exE e)
theorem nI_ok {H : List E2} (h : nI H = true) : ∀ e ∈ H.map exE, noItr e = true := fun e he => by
 obtain ⟨x, hx, rfl⟩ := List.mem_map.1 he
 exact List.all_eq_true.1 h x hx
def slotOK (m0 : Nat) : V → Bool
 | .any => true
 | .box id _ => decide (id < m0)
 | .c _ | .adr _ | .lst _ _ | .str _ => true
 | _ => false
theorem slot_on0 {w w' : World} {B B' : List Nat} {η η' : List Value} {m0 : Nat} {x : V} {v : Value} (hx : slotOK m0 x = true) (h : Rel2 w B η x v) (g : On0 B w w') (hB : ∀ b ∈ B', b ∈ B ∨ w.heap.size ≤ b)
  (he : ∀ (id : Nat) v, id < m0 → η[id]? = some v → η'[id]? = some v) : Rel2 w' B' η' x v := by
 cases x with
 | any => trivial
 | box id off =>
  have hid : id < m0 := of_decide_eq_true hx
  cases h with
  | box _ _ _ b hb => exact Rel.box _ id off b (he _ _ hid hb)
 | c u =>
  have := (Rel.bare (η' := []) (h.get rfl) rfl).on0 (η' := η') g hB (fun id v h => by simp at h)
  exact Rel2.of rfl this
 | adr l =>
  have := (Rel.bare (η' := []) (h.get rfl) rfl).on0 (η' := η') g hB (fun id v h => by simp at h)
  exact Rel2.of rfl this
 | lst d l =>
  have := (Rel.bare (η' := []) (h.get rfl) rfl).on0 (η' := η') g hB (fun id v h => by simp at h)
  exact Rel2.of rfl this
 | str s =>
  have := (Rel.bare (η' := []) (h.get rfl) rfl).on0 (η' := η') g hB (fun id v h => by simp at h)
  exact Rel2.of rfl this
 | _ => cases hx
theorem slots_on0 {n0 m0 : Nat} {w w' : World} {B B' : List Nat} {η η' : List Value} {sl : List V} {tmps : Array Value} (hsl : sl.all (slotOK m0) = true) (h : SlotsK n0 w B η sl tmps) (g : On0 B w w') (hB : ∀ b ∈ B', b ∈ B ∨ w.heap.size ≤ b)
  (he : ∀ (id : Nat) v, id < m0 → η[id]? = some v → η'[id]? = some v) : SlotsK n0 w' B' η' sl tmps :=
 ⟨h.size, fun t => slot_on0 (by
  rw [List.getD_eq_getElem?_getD]
  cases hx : sl[t]? with
  | none => rfl
  | some x => exact List.all_eq_true.1 hsl x (List.mem_of_getElem? hx)) (h.rel t) g hB he, h.fresh⟩
theorem SimK.shrink2 {n0 : Nat} {Bx : List Nat} {ds : List Deferred} {st : S2} {a : Act} {w : World} {B : List Nat} {η : List Value} (h : SimK n0 Bx ds st a w B η) (hn : nI st.heap = true) :
  ∃ B', SimK n0 Bx ds st a w B' η ∧ (∀ b ∈ B', b ∈ B) ∧ ∀ b ∈ B', b < n0 ∨ ∃ o : Obj, w.heap[b]? = some o ∧ o.isCells = true := by
 obtain ⟨inv, hsub⟩ := h.inv.shrink
 refine ⟨_, ⟨h.defers, inv, h.slots.on (On.refl B w) (fun b hb => .inl (hsub b hb)) (fun _ _ h => h)⟩, hsub, fun b hb => ?_⟩
 rcases liveB_out hb with hb | ⟨id, e, h1, h2, h3⟩
 ·exact .inl (h.inv.sub b hb).2
 ·exact .inr (EntOK.cellsAt (h.inv.ent id e h1) (nI_ok hn e (List.mem_of_getElem? h1)) h2 b h3)
theorem keeps_from2 {n0 m0 D : Nat} {w w' : World} {B B' : List Nat} {η η' : List Value} (h : Goes n0 m0 w B η w' B' η') (hB : ∀ b ∈ B, b < n0 ∨ ∃ o : Obj, w.heap[b]? = some o ∧ o.isCells = true) (hD : n0 ≤ D) : KeepsFrom D w w' :=
 ⟨h.on.size, fun k o hk ho hc => by
  have hlt := (Array.getElem?_eq_some_iff.1 ho).1
  refine (h.on.block k hlt fun hm => ?_).2 o ho fun c e fr he => by rw [he] at hc; cases hc
  rcases hB k hm with h1 | ⟨o', h1, h2⟩
  ·omega
  ·rw [ho] at h1
   injection h1 with h1
   rw [← h1, hc] at h2
   cases h2⟩
section
variable {C D : Type}
def rr (G : Nat → C → Option (C ⊕ D)) : Nat → Nat → C → Option (C ⊕ D)
 | 0, k, c => some (.inl c)
 | m + 1, k, c => match G k c with
  | some (.inl c') => rr G m (k + 1) c'
  | some (.inr d) => some (.inr d)
  | none => none
end
def rndT (P : Program) {A A' : List HSh} (Γ : Env (HL (tdsH A) ⊕ HL (tdsH A'))) (fuel : Nat) (path : List Nat) (m0 n : Nat) (ow : List (Nat × TypeId)) (assign body : Code) (st1 : S2) : Tree (HL (tdsH A) ⊕ HL (tdsH A')) :=
 evK P Γ fuel path m0 assign st1 fun ex st2 => match ex with
  | .normal => if nI st2.heap = true then evK P Γ fuel path m0 body st2 fun ex st3 => (match ex with
   | .normal => toShape P m0 ow ⟨[], A⟩ n st3 fun c => .done (.inl c.2)
   | .ret => toShape P m0 ow ⟨[], A'⟩ n st3 fun c => .done (.inr c.2)
   | _ => .fail) else .fail
  | _ => .fail
def Mid (n0 : Nat) (Bx : List Nat) (sl0 : List V) (a : Act) (w : World) (B0 : List Nat) (H : List E2) (W : World) : Prop :=
 ∃ B η, Inv n0 Bx W B η (H.map exE) ∧ SlotsK n0 W B η sl0 a.tmps ∧ (∀ b ∈ B, b < n0 ∨ ∃ o : Obj, W.heap[b]? = some o ∧ o.isCells = true) ∧ On0 B0 w W ∧ (∀ b ∈ B, b ∈ B0 ∨ w.heap.size ≤ b) ∧ Below n0 w W
theorem mid_turn {n0 D : Nat} {Bx : List Nat} {sl0 : List V} {a : Act} {w W W' : World} {B0 : List Nat} {H : List E2} {row : Option Nat} (hn : nI H = true) (hD : n0 ≤ D) (h : Mid n0 Bx sl0 a w B0 H W) (hg : W.grownBy W' row)
  (hr : ∀ r, row = some r → D ≤ r ∧ ∃ o : Obj, W.heap[r]? = some o ∧ o.isCells = false) : Mid n0 Bx sl0 a w B0 H W' := by
 obtain ⟨B, η, h1, h2, h3, h4, h5, h6⟩ := h
 have hr' : ∀ r, row = some r → ∃ o : Obj, W.heap[r]? = some o ∧ o.isCells = false := fun r e => (hr r e).2
 have ht := on_turn hg hr' B
 refine ⟨B, η, h1.turn (nI_ok hn) hg hr', h2.on0 ht (fun _ h => .inl h) (fun _ _ h => h), fun b hb => ?_, h4.trans ht h5, h5, h6.trans ⟨hg.os, hg.tape, hg.output, hg.size, fun b hlt => hg.block b (Nat.lt_of_lt_of_le hlt h1.base.1) fun e => by have := (hr b e.symm).1; omega⟩⟩
 rcases h3 b hb with h7 | ⟨o, h7, h8⟩
 ·exact .inl h7
 ·refine .inr ⟨o, ?_, h8⟩
  rw [hg.block b (Array.getElem?_eq_some_iff.1 h7).1 fun e => ?_]
  ·exact h7
  ·obtain ⟨o', h9, h10⟩ := hr' b e.symm
   rw [h7] at h9
   injection h9 with h9
   rw [h9, h10] at h8
   cases h8
theorem mid_gr {n0 : Nat} {Bx : List Nat} {sl0 : List V} {a : Act} {w W W' : World} {B0 : List Nat} {H : List E2} (h : Mid n0 Bx sl0 a w B0 H W) (g : Gr W W') : Mid n0 Bx sl0 a w B0 H W' := by
 obtain ⟨B, η, h1, h2, h3, h4, h5, h6⟩ := h
 refine ⟨B, η, h1.gr g, h2.on (.gr g) (fun _ h => .inl h) (fun _ _ h => h), fun b hb => ?_, h4.trans (On.gr (B := B) g).on0 h5, h5, h6.trans (g.mono h1.base.1)⟩
 rcases h3 b hb with h7 | ⟨o, h7, h8⟩
 ·exact .inl h7
 ·exact .inr ⟨o, by rw [g.block b (Array.getElem?_eq_some_iff.1 h7).1]; exact h7, h8⟩
section
variable {P : Program} {A A' : List HSh} {Γ : Env (HL (tdsH A) ⊕ HL (tdsH A'))}
theorem rng_ends (hm : P.follows .mixedOrders = true) (hΓ : EnvOK P Γ) {fuel m0 n : Nat} {path : List Nat} {ow : List (Nat × TypeId)} {g : Operand} {ps : Array Tmp} {assign body : Code}
  (hok1 : okC2 Γ.inl assign = true) (hok2 : okC2 Γ.inl body = true) (hnd1 : ndB assign = true) (hnd2 : ndB body = true) (hl1 : loopsOf assign = []) (hl2 : loopsOf body = []) {sl0 : List V} (sl1 : Nat → List V)
  (G : Nat → HL (tdsH A) → Option (HL (tdsH A) ⊕ HL (tdsH A'))) {N : Nat} (hG : ∀ k d, k < N → (rndT P Γ fuel path m0 n ow assign body ⟨sl1 k, encH A d⟩).run = G k d) (hsl : sl0.all (slotOK m0) = true) (hA : ∀ d, nI (encH A d) = true) (hA' : ∀ d, nI (encH A' d) = true)
  {n0 : Nat} {Bx : List Nat} {ds : List Deferred} {a : Act} {w : World} {B0 : List Nat} {η0 : List Value} {d0 : HL (tdsH A)} (hs : SimK n0 Bx ds ⟨sl0, encH A d0⟩ a w B0 η0)
  {gf : Nat} {lb : Array Value} {enc : Nat → Array Value} (hg : a.eval g = .func (.func gf) #[] lb) (eg : ∀ args w, (callFunc gf args).run P w = .ok (.enter gf args) w) {b : Nat → Prop} (hseq : Hands P gf lb enc N b w) (hbw : 0 < N → ∀ x, b x → x < w.heap.size ∧ x ∉ B0) (hps : ∀ k, (enc k).size = ps.size)
  (hset : ∀ k W B η, k < N → On0 B0 w W → (∀ b ∈ B, b ∈ B0 ∨ w.heap.size ≤ b) → SlotsK n0 W B η sl0 a.tmps → SlotsK n0 W B η (sl1 k) ((ps.zip (enc k)).foldl (fun t (p, v) => t.setIfInBounds p v) a.tmps))
  {o : HL (tdsH A) ⊕ HL (tdsH A')} (ho : rr G N 0 d0 = some o) {Q : Exit → Act → World → Prop}
  (hQ : ∀ (D : Nat) (W : World) (d : HL (tdsH A)), o = .inl d → w.heap.size ≤ D → Mid n0 Bx sl0 a w B0 (encH A d) W → W.heap[D]? = some (.deferred (some [])) → Q .normal { a with defers := { target := .collected D, args := #[] } :: a.defers } W)
  (hQ' : ∀ (D : Nat) (W : World) (d : HL (tdsH A')), o = .inr d → w.heap.size ≤ D → Mid n0 Bx sl0 a w B0 (encH A' d) W → W.heap[D]? = some (.deferred (some [])) → Q .ret { a with defers := { target := .collected D, args := #[] } :: a.defers } W) :
  (Code.rangeFunc g ps assign body).wp P Q a w := by
 have hn0 : n0 ≤ w.heap.size := hs.inv.base.1
 obtain ⟨Bs, hs1, hsub1, hc1⟩ := hs.shrink2 (hA d0)
 refine rng_law hg eg hseq (fun h x hx => (hbw h x hx).1) hps (fun k W => ∃ d, rr G (N - k) k d = some o ∧ Mid n0 Bx sl0 a w B0 (encH A d) W) (fun k W => ∃ d, o = .inr d ∧ Mid n0 Bx sl0 a w B0 (encH A' d) W)
  (fun k W W' row h hg hr => ?_) (fun k W W' row h hg hr => ?_) (fun k W W' h hb => ?_) ⟨d0, ho, Bs, η0, hs1.inv, hs1.slots, hc1, On0.refl _ _, fun b hb => .inl (hsub1 b hb), Below.refl _ _⟩ (fun l k W h hk hl => ?_) (fun D W hD h hW => ?_) (fun D k W hD hk h hW => ?_)
 ·obtain ⟨d, h1, h2⟩ := h
  exact ⟨d, h1, mid_turn (hA d) hn0 h2 hg hr⟩
 ·obtain ⟨d, h1, h2⟩ := h
  exact ⟨d, h1, mid_turn (hA' d) hn0 h2 hg hr⟩
 ·obtain ⟨d, h1, h2⟩ := h
  exact ⟨d, h1, mid_gr h2 hb⟩
 ·obtain ⟨d, h1, B, η, inv, sl, hc, hon, hsub, hbel⟩ := h
  have hbb := hbw (by omega)
  have hbB : ∀ x, b x → x ∉ B := fun x hx hb => (hsub x hb).elim (hbb x hx).2 (fun h => by have := (hbb x hx).1; omega)
  have kp : ∀ {X Y : World} {B' : List Nat}, On0 B' X Y → (∀ x, b x → x ∉ B') → KeepsB b X Y := fun {X Y B'} h hn x hx o u hu => by
   have hlt : x < X.heap.size := by
    unfold World.cell? at hu
    split at hu
    ·rename_i c e fr hc
     exact (Array.getElem?_eq_some_iff.1 hc).1
    ·cases hu
   exact (h.block x hlt (hn x hx)).cell rfl hu
  obtain ⟨m, hm1⟩ : ∃ m, N - k = m + 1 := ⟨N - k - 1, by omega⟩
  have hm2 : N - (k + 1) = m := by omega
  rw [hm1] at h1
  obtain ⟨r, hr, hro⟩ : ∃ r, G k d = some r ∧ ((∃ d', r = .inl d' ∧ rr G m (k + 1) d' = some o) ∨ ∃ d', r = .inr d' ∧ o = .inr d') := by
   unfold rr at h1
   split at h1
   ·rename_i d' hg
    exact ⟨_, hg, .inl ⟨d', rfl, h1⟩⟩
   ·rename_i d' hg
    exact ⟨_, hg, .inr ⟨d', rfl, (Option.some.inj h1).symm⟩⟩
   ·cases h1
  have hrun := (hG k d hk).trans hr
  unfold rndT at hrun
  obtain ⟨ex, st2, h2, E1⟩ := evKM_ok (some l) hm hΓ fuel path m0 assign _ _ _ hok1 hnd1 (by rw [hl1]; intro c hc; cases hc) hrun
  split at h2
  case h_2 => cases h2
  split at h2
  case isFalse => cases h2
  rename_i hnI
  obtain ⟨ex2, st3, h3, E2⟩ := evKM_ok (some l) hm hΓ fuel path m0 body _ _ _ hok2 hnd2 (by rw [hl2]; intro c hc; cases hc) h2
  refine E1 n0 Bx [] { tmps := (ps.zip (enc k)).foldl (fun t (p, v) => t.setIfInBounds p v) a.tmps, defers := [] } W B η _ ⟨rfl, inv, hset k W B η hk hon hsub sl⟩ (fun a1 W1 B1 η1 hs2 hg2 => ?_) (fun ⟨_, _, h⟩ => h) 0
  obtain ⟨B2, hs3, hsub3, hc3⟩ := hs2.shrink2 hnI
  refine ⟨keeps_from2 hg2 hc hn0, kp hg2.on.on0 hbB, fun ob ob' hob hnc => ?_⟩
  have hgb : W1.grownBy (W1.putObj l ob') (some l) := grownBy_putObj' W1 l ob'
  have hrb : ∀ r, some l = some r → ∃ o : Obj, W1.heap[r]? = some o ∧ o.isCells = false := fun r e => by cases e; exact ⟨ob, hob, hnc⟩
  have hs4 := hs3.turn (nI_ok hnI) hgb hrb
  have ht := on_turn hgb hrb B2
  have hc4 : ∀ b ∈ B2, b < n0 ∨ ∃ o : Obj, (W1.putObj l ob').heap[b]? = some o ∧ o.isCells = true := fun b hb => by
   rcases hc3 b hb with h7 | ⟨o, h7, h8⟩
   ·exact .inl h7
   ·refine .inr ⟨o, ?_, h8⟩
    rw [World.putObj_heap_other fun e => ?_]
    ·exact h7
    ·subst e
     rw [hob] at h7
     injection h7 with h7
     rw [← h7, hnc] at h8
     cases h8
  refine E2 n0 Bx [] a1 (W1.putObj l ob') B2 η1 _ hs4 (fun a2 W3 B3 η3 hs5 hg5 => ?_) rndQ_no 0
  have hsB2 : ∀ b ∈ B2, b ∈ B ∨ W.heap.size ≤ b := fun b hb => hg2.hB b (hsub3 b hb)
  have hsz1 : W.heap.size ≤ (W1.putObj l ob').heap.size := by rw [World.putObj_size]; exact hg2.on.size
  have honW : On0 B W W3 := (hg2.on.on0.trans ht hsB2).trans hg5.on.on0 hsB2
  have hbW : Below n0 W W3 := (hg2.below.trans (below_put ob' (by omega))).trans hg5.below
  have key : ∀ {X : List HSh} {c : CT ⟨[], X⟩}, (∀ d, nI (encH X d) = true) → (∀ (n0 : Nat) (Bx : List Nat) (ds : List Deferred) (a : Act) (w : World) (B : List Nat) (η : List Value), SimK n0 Bx ds st3 a w B η → ∃ B' η', SimK n0 Bx ds (stOf ⟨[], X⟩ n c) a w B' η' ∧ Goes n0 m0 w B η w B' η') → Mid n0 Bx sl0 a w B0 (encH X c.2) W3 := by
   intro X c hX hsh
   obtain ⟨B4, η4, hs6, hg6⟩ := hsh n0 Bx [] a2 W3 B3 η3 hs5
   obtain ⟨B5, hs7, hsub7, hc7⟩ := hs6.shrink2 (hX c.2)
   have hB5 : ∀ b ∈ B5, b ∈ B ∨ W.heap.size ≤ b := fun b hb => by
    rcases hg6.hB b (hsub7 b hb) with h8 | h8
    ·rcases hg5.hB b h8 with h9 | h9
     ·exact hsB2 b h9
     ·exact .inr (Nat.le_trans hsz1 h9)
    ·exact .inr (Nat.le_trans honW.size h8)
   refine ⟨B5, η4, hs7.inv, slots_on0 hsl sl honW hB5 (fun id v hid hv => hg6.hη id v hid (hg5.hη id v hid (hg2.hη id v hid hv))), hc7, hon.trans honW hsub, fun b hb => ?_, hbel.trans hbW⟩
   rcases hB5 b hb with h8 | h8
   ·exact hsub b h8
   ·exact .inr (Nat.le_trans hon.size h8)
  split at h3
  ·obtain ⟨c, h4, hsh⟩ := toShape_ok h3
   simp only [Tree.run, Option.some.injEq] at h4
   subst h4
   rcases hro with ⟨d', e1, e2⟩ | ⟨d', e1, _⟩
   ·injection e1 with e1
    subst e1
    exact ⟨keeps_from2 hg5 hc4 hn0, kp hg5.on.on0 (fun x hx hb => (hsB2 x hb).elim (hbB x hx) (fun h => by have := hon.size; have := (hbb x hx).1; omega)), c.2, by rw [hm2]; exact e2, key hA hsh⟩
   ·cases e1
  ·obtain ⟨c, h4, hsh⟩ := toShape_ok h3
   simp only [Tree.run, Option.some.injEq] at h4
   subst h4
   rcases hro with ⟨d', e1, e2⟩ | ⟨d', e1, e2⟩
   ·cases e1
   ·injection e1 with e1
    subst e1
    exact ⟨keeps_from2 hg5 hc4 hn0, c.2, e2, key hA' hsh⟩
  ·cases h3
 ·obtain ⟨d, h1, h2⟩ := h
  rw [Nat.sub_self] at h1
  exact hQ D W d (Option.some.inj h1).symm hD h2 hW
 ·obtain ⟨d, h1, h2⟩ := h
  exact hQ' D W d h1 hD h2 hW
end
abbrev OD : Td := .pair (.int .u8) (.sl (.int .u8))
section
variable {R : Type}
def evL (P : Program) (Γ : Env R) (fuel : Nat) (path : List Nat) : List Code → S2 → (S2 → Tree R) → Tree R
 | [], st, k => k st
 | c :: l, st, k => evK P Γ fuel path 0 c st fun ex st' => match ex with
  | .normal => evL P Γ fuel path l st' k
  | _ => .fail
def seqL : List Code → Code → Code
 | [], x => x
 | c :: l, x => .seq c (seqL l x)
theorem evL_ok {P : Program} {Γ : Env R} (hm : P.follows .mixedOrders = true) (hΓ : EnvOK P Γ) {fuel : Nat} {path : List Nat} : ∀ (l : List Code) (st : S2) (k : S2 → Tree R) (res : R), (∀ c ∈ l, okC2 Γ.inl c = true ∧ loopsOf c = []) → (evL P Γ fuel path l st k).run = some res →
  ∃ st', (k st').run = some res ∧ ∀ (n0 : Nat) (Bx : List Nat) (ds : List Deferred) (a : Act) (w : World) (B : List Nat) (η : List Value) (X : Code) (Q : Exit → Act → World → Prop), SimK n0 Bx ds st a w B η →
   (∀ a' w' B' η', SimK n0 Bx ds st' a' w' B' η' → Goes n0 0 w B η w' B' η' → X.wp P Q a' w') → (seqL l X).wp P Q a w
 | [], st, k, res, hl, h => ⟨st, h, fun n0 Bx ds a w B η X Q hs hQ => hQ a w B η hs (Goes.refl _ _ _ _ _)⟩
 | c :: l, st, k, res, hl, h => by
  unfold evL at h
  obtain ⟨h1, h2⟩ := hl c List.mem_cons_self
  obtain ⟨ex, st1, h3, h4⟩ := evK_ok hm hΓ fuel path 0 c st _ res h1 (by rw [h2]; intro c hc; cases hc) h
  split at h3
  case h_2 => cases h3
  obtain ⟨st2, h5, h6⟩ := evL_ok hm hΓ l st1 k res (fun c hc => hl c (List.mem_cons_of_mem _ hc)) h3
  exact ⟨st2, h5, fun n0 Bx ds a w B η X Q hs hQ => wp_seq (h4 n0 Bx ds a w B η _ hs fun a' w' B' η' hs' hg' => h6 n0 Bx ds a' w' B' η' X Q hs' fun a2 w2 B2 η2 hs2 hg2 => hQ a2 w2 B2 η2 hs2 (hg'.trans hg2))⟩
end
theorem leave_end {P : Program} {fn : Func} {rs : List Td} {y : RT rs} {w : World} {Bx : List Nat} {D : Nat} {st : S2} {a : Act} {W : World} {B : List Nat} {η : List Value} (hs : SimK w.heap.size Bx [{ target := .collected D, args := #[] }] st a W B η) (hn : nI st.heap = true)
  (hK : W.heap[D]? = some (.deferred (some []))) (hD : w.heap.size ≤ D) (hb : Below w.heap.size w W) (hq : (resK P (frzRes st) fn.results.toList fun r => decR rs r fun y => .done y).run = some y) (hres : rs = [] → fn.results = #[]) :
  LeavesInM Fence.wide 2 P fn a.tmps (fun e w' => ∃ v, e = .returned v ∧ Gr w w' ∧ Rel w' Bx [] (ex (tupV (valR rs y))) v) a.defers .returning W := by
 have hgb : W.grownBy (W.putObj D (.deferred none)) (some D) := grownBy_putObj' W D _
 have hrb : ∀ r, some D = some r → ∃ o : Obj, W.heap[r]? = some o ∧ o.isCells = false := fun r e => by cases e; exact ⟨_, hK, rfl⟩
 have hs1 := hs.turn (nI_ok hn) hgb hrb
 rw [hs.defers]
 refine ⟨by simp, .inl ⟨D, _, rfl, run_takeDeferred hK, ?_⟩⟩
 obtain ⟨B2, hs2, hg2⟩ := frzAll_ok (m0 := 0) (List.range st.heap.length) st B hs1
 obtain ⟨r, q1, q2⟩ := resK_ok hq
 obtain ⟨y', q3, q4, q5⟩ := decR_ok _ q1
 simp only [Tree.run, Option.some.injEq] at q3
 subst q3
 obtain ⟨v, g1, g2, _⟩ := q2 _ _ _ a _ B2 η hs2
 have h0 : rs = [] → v = .tuple #[] := fun h => by
  have := hres h
  unfold results at g1
  rw [this] at g1
  simp at g1
  exact g1.symm
 exact ⟨v, g1, v, rfl, hb.trans (below_put _ hD), q5 _ B2 Bx η [] v (fun b hb => (hs2.inv.sub b hb).1) (g2.get q4) h0⟩
theorem set_any {sl : List V} {t : Nat} (h : sl.getD t .any = .any) : sl.set t .any = sl := by
 apply List.ext_getElem (by simp)
 intro i h1 h2
 rw [List.getElem_set]
 split
 ·rename_i e
  subst e
  rw [List.getD_eq_getElem?_getD, List.getElem?_eq_getElem h2] at h
  exact h.symm
 ·rfl
theorem slots_any {n0 : Nat} {w : World} {B : List Nat} {η : List Value} {sl : List V} {a : Act} (h : SlotsK n0 w B η sl a.tmps) {t : Nat} (ht : sl.getD t .any = .any) (v : Value) : SlotsK n0 w B η sl (a.put (some t) v).tmps := by
 have := h.setV (a := a) (r := .any) (v := v) trivial (fun h => by cases h) (some t)
 rwa [show setV sl (some t) .any = sl from set_any ht] at this
theorem opt_get : ∀ (l : List (T OD)) (k : Nat) (x : T OD), l[k]? = some x → (flat OD l)[k * 2]? = some (.c (.int .u8 x.1)) ∧ (flat OD l)[k * 2 + 1]? = some (.sl (flat (.int .u8) x.2) 1)
 | [], k, x, h => by simp at h
 | y :: l, 0, x, h => by
  simp at h
  subst h
  exact ⟨rfl, rfl⟩
 | y :: l, k + 1, x, h => by
  have := opt_get l k x (by simpa using h)
  rw [show (k + 1) * 2 = k * 2 + 2 by omega]
  exact this
theorem opt_rel {w : World} {B : List Nat} {l : List (T OD)} {A : Option Addr} {n c : Nat} (h : Rel w B [] (.sl (flat OD l) 2) (.slice A n c)) : n = l.length ∧ ∃ us : Nat → Value, (0 < n → ∃ b o, A = some ⟨b, o, none⟩ ∧ b < w.heap.size ∧ b ∉ B ∧ ∀ j, j < n * 2 → w.cell? ⟨b, o + j, none⟩ = some (us j)) ∧
  (∀ k x, l[k]? = some x → us (k * 2) = .int .u8 x.1 ∧ Rel w B [] (.sl (flat (.int .u8) x.2) 1) (us (k * 2 + 1))) ∧ ∀ j, j < n * 2 → (us j).oneCell' = true := by
 have hfl : (flat OD l).length = l.length * 2 := flat_length OD l
 cases h with
 | sl _ l' k A' n' c' us hk hn hc hm hA hr =>
  have hel : ∀ k x, l[k]? = some x → us (k * 2) = .int .u8 x.1 ∧ Rel w B [] (.sl (flat (.int .u8) x.2) 1) (us (k * 2 + 1)) := fun k x hx => by
   obtain ⟨h1, h2⟩ := opt_get l k x hx
   exact ⟨Rel.ofC (hr _ _ h1), hr _ _ h2⟩
  refine ⟨by omega, us, fun h0 => ?_, hel, fun j hj => ?_⟩
  ·obtain ⟨⟨b, o, sp⟩, h1, h2⟩ := hA h0
   obtain rfl : sp = none := h2.spot
   refine ⟨b, o, h1, h2.lt, h2.out, fun j hj => ?_⟩
   have := h2.cell j (by omega)
   rwa [show (Addr.mk b o none).add j = ⟨b, o + j, none⟩ by
    unfold Addr.add
    by_cases hj0 : j = 0
    ·subst hj0; rfl
    ·rw [if_neg hj0]] at this
  ·have hlt : j / 2 < l.length := by omega
   obtain ⟨h1, h2⟩ := hel (j / 2) _ (List.getElem?_eq_getElem hlt)
   rcases Nat.mod_two_eq_zero_or_one j with hz | hz
   ·rw [show j = j / 2 * 2 by omega, h1]
    rfl
   ·rw [show j = j / 2 * 2 + 1 by omega]
    generalize us (j / 2 * 2 + 1) = u at h2 ⊢
    cases h2
    rfl
theorem opt_val {w W : World} {B B0 : List Nat} {x : T OD} {u v : Value} {η : List Value} (h1 : u = .int .u8 x.1) (h2 : Rel w B0 [] (.sl (flat (.int .u8) x.2) 1) v) (g : On0 B0 w W) (hB : ∀ b ∈ B, b ∈ B0 ∨ w.heap.size ≤ b) : Rel2 W B η (valV OD x) (.agg #[u, v]) := by
 subst h1
 refine Rel2.of (valV_plain OD x) ?_
 rw [valV_row OD x rfl]
 have h3 := h2.on0 (η' := η) g hB (fun id v h => by simp at h)
 refine Rel.agg η _ _ (fun i => if i = 0 then .int .u8 x.1 else v) rfl (fun i y hy => ?_) (fun i y hy => ?_)
 ·match i, hy with
  | 0, _ => rfl
  | 1, _ => rfl
 ·match i, hy with
  | 0, hy =>
   injection hy with hy
   subst hy
   exact .c _ _
  | 1, hy =>
   injection hy with hy
   subst hy
   exact h3
def noG (R : Type) : Fns R := fun _ _ _ => .fail
theorem noG_ok (P : Program) (R : Type) : FnsOK P (noG R) := ⟨fun f args k res h => by cases h⟩
theorem rc_ok {P : Program} {rid : Nat} {ops : Array Oper} {o1 o2 : Oper} {st : S2} {l : List (T OD)} {x1 x2 : Tmp} {F gf : Nat} {ty : TypeId} {ts : Array TypeId} (hops : ops.toList = [o1, o2]) (hg1 : o1.guard = none) (hg2 : o2.guard = none) (hd1 : o1.dst = some x1) (hd2 : o2.dst = some x2)
  (hop : o2.op = .call ⟨.value (.func F), #[.tmp x1], ts⟩) (h1 : (evNF P (noG (List (T OD))) st.heap (opV st.slots) o1.op fun r => match r with | .lst d l => castK d OD (fun d => List (T d)) l fun l => .done l | _ => .fail).run = some l)
  (hF : ∃ fn, P.funcs[F]? = some fn ∧ fn.name ≠ "runtime.NumGoroutine" ∧ fn.body ≠ none) (hx1 : st.slots.getD x1 .any = .any) (hx2 : st.slots.getD x2 .any = .any) (hl1 : x1 < st.slots.length) (hl2 : x2 < st.slots.length)
  (hc : ∀ (A : Option Addr) (len cap : Nat) (w : World), Calls P F #[.slice A len cap] w fun e w' => e = .returned (.func (.func gf) #[] #[.pointer (some ⟨w.heap.size, 0, none⟩)]) ∧ w' = w.alloc (.cells #[.slice A len cap] ty))
  (n0 : Nat) (Bx : List Nat) (a : Act) (w : World) (B : List Nat) (η : List Value) (Q : Exit → Act → World → Prop) (hs : SimK n0 Bx [] st a w B η)
  (hQ : ∀ a' w' Bs Ad cap, SimK n0 Bx [] st a' w' B η → Goes n0 0 w B η w' B η → Rel w' B [] (.sl (flat OD l) 2) (.slice Ad l.length cap) → a'.eval (.tmp x2) = .func (.func gf) #[] #[.pointer (some ⟨Bs, 0, none⟩)] → Bs < w'.heap.size → w'.cell? ⟨Bs, 0, none⟩ = some (.slice Ad l.length cap) → Q .normal a' w') :
  (Code.region rid ops false).wp P Q a w := by
 obtain ⟨r, h2, h3⟩ := evNF_ok (noG_ok P _) h1
 split at h2
 case h_2 => cases h2
 rename_i d l' 
 obtain ⟨e1, h2⟩ := castK_run h2
 subst e1
 simp only [Tree.run, Option.some.injEq] at h2
 have h2 := h2.symm
 subst h2
 refine wp_seqRegion ?_
 rw [hops]
 unfold wpList
 rw [show Region.wanted o1 (yielded ops a.tmps) = true by simp [Region.wanted, hg1], if_pos rfl]
 refine .inl (val_wp (h3 n0 Bx w B η a.eval (fun f => rfl) hs.inv (fun x _ => opV_rel hs.slots hs.inv.base.2 x) _ fun v w1 g hr hf => ?_))
 have hsz : a.tmps.size = st.slots.length := hs.slots.size.symm
 have hs1 : SlotsK n0 w1 B η st.slots (a.put (some x1) v).tmps := slots_any (hs.slots.on g.on (fun _ h => .inl h) (fun _ _ h => h)) hx1 v
 have hi1 := hs.inv.gk g
 have hr1 : Rel w1 B [] (.sl (flat OD l) 2) v := (hr.get rfl).bare rfl
 obtain ⟨Ad, n, cap, rfl⟩ : ∃ Ad n cap, v = .slice Ad n cap := by
  cases hr1 with
  | sl _ _ _ A n c => exact ⟨A, n, c, rfl⟩
 obtain ⟨rfl, _⟩ := opt_rel hr1
 rw [hd1]
 unfold wpList
 rw [show Region.wanted o2 (yielded ops (a.put (some x1) (.slice Ad l.length cap)).tmps) = true by simp [Region.wanted, hg2], if_pos rfl]
 refine .inl (val_wp (val_of_enters hop (x := .func F) rfl ?_))
 have hev : (a.put (some x1) (.slice Ad l.length cap)).eval (.tmp x1) = .slice Ad l.length cap := by
  show (a.tmps.setIfInBounds x1 _).getD x1 undef = _
  rw [Array.getD_eq_getD_getElem?, Array.getElem?_setIfInBounds_self_of_lt (show x1 < a.tmps.size by rw [hsz]; exact hl1)]
  rfl
 obtain ⟨fn, h5, h6, h7⟩ := hF
 have hrun : (callFunc F #[.slice Ad l.length cap]).run P w1 = .ok (.enter F #[.slice Ad l.length cap]) w1 := by
  simp [callFunc, Sem.run_bind, h5, h6, h7]
 have hmap : (#[Operand.tmp x1].map (a.put (some x1) (.slice Ad l.length cap)).eval) = #[.slice Ad l.length cap] := by
  simp only [List.map_toArray, List.map_cons, List.map_nil, hev]
 rw [hmap]
 unfold EntersV
 rw [hrun]
 refine (hc Ad l.length cap w1).mono fun e w2 he => ?_
 obtain ⟨rfl, rfl⟩ := he
 refine ⟨_, rfl, ?_⟩
 have hgr : Gr w1 (w1.alloc (.cells #[.slice Ad l.length cap] ty)) := (Below.refl _ w1).alloc (Nat.le_refl _) _
 have hrow := heap_alloc_new w1 (.cells #[.slice Ad l.length cap] ty)
 rw [hd2]
 unfold wpList
 refine hQ _ _ w1.heap.size Ad cap ⟨by rw [put_defers, put_defers]; exact hs.defers, hi1.gr hgr, slots_any (hs1.on (.gr hgr) (fun _ h => .inl h) (fun _ _ h => h)) hx2 _⟩ (Goes.trans ⟨g.on, fun _ h => .inl h, fun _ _ _ h => h, g.below hs.inv.base.1⟩ ⟨On.gr hgr, fun _ h => .inl h, fun _ _ _ h => h, hgr.mono hi1.base.1⟩) (hr1.gr hgr) ?_ (by simp) (by rw [cell_of_row _ _ _ _ _ _ hrow]; rfl)
 show (Array.setIfInBounds _ x2 _).getD x2 undef = _
 rw [Array.getD_eq_getD_getElem?, Array.getElem?_setIfInBounds_self_of_lt]
 ·rfl
 ·show x2 < (Array.setIfInBounds a.tmps x1 _).size
  rw [Array.size_setIfInBounds, hsz]; exact hl2
section
variable {P : Program} {A A' : List HSh} {rs : List Td} {Γ2 : Env (HL (tdsH A) ⊕ HL (tdsH A'))} {Γ3 : Env (RT rs)}
def endT (P : Program) (Γ : Env (RT rs)) (fuel : Nat) (f : FuncId) (fn : Func) (suf : Code) (st : S2) : Tree (RT rs) := evK P Γ fuel [f] 0 suf st fun ex st' => match ex with
 | .normal => if nI st'.heap = true then resK P (frzRes st') fn.results.toList fun r => decR rs r fun y => .done y else .fail
 | .ret => if nI st'.heap = true then resK P (frzRes st') fn.results.toList fun r => decR rs r fun y => .done y else .fail
 | _ => .fail
def retT (P : Program) (fn : Func) (rs : List Td) (st : S2) : Tree (RT rs) := resK P (frzRes st) fn.results.toList fun r => decR rs r fun y => .done y
theorem rf_calls {sls : List (Nat × SSh)} {Γ1 : Env (CT ⟨sls, A⟩)} (hm : P.follows .mixedOrders = true) (hΓ1 : EnvOK P Γ1) (hΓ2 : EnvOK P Γ2) (hΓ3 : EnvOK P Γ3) {fuel m0 n : Nat} {f : FuncId} {fn : Func} {xs : List V} {pre : List Code} {rc suf : Code} {bid : Nat} {ow : List (Nat × TypeId)} {g : Operand} {ps : Array Tmp} {assign body : Code}
  (hfn : P.funcs[f]? = some fn) (hb : fn.body = some (seqL pre (.seq (.seq rc (.block bid (.rangeFunc g ps assign body))) suf))) (hres : rs = [] → fn.results = #[]) (hxs : ∀ (i : Nat) x, xs[i]? = some x → x.plain = true ∧ isFresh (ex x) = false)
  (hpre : ∀ c ∈ pre, okC2 Γ1.inl c = true ∧ loopsOf c = []) (hsuf : okC2 Γ3.inl suf = true ∧ loopsOf suf = [])
  (hok1 : okC2 Γ2.inl assign = true) (hok2 : okC2 Γ2.inl body = true) (hnd1 : ndB assign = true) (hnd2 : ndB body = true) (hl1 : loopsOf assign = []) (hl2 : loopsOf body = [])
  (hA : ∀ d, nI (encH A d) = true) (hA' : ∀ d, nI (encH A' d) = true) {c0 : CT ⟨sls, A⟩} (h1 : (evL P Γ1 fuel [f] pre ⟨slots0 fn xs, []⟩ fun st => toShape P 0 ow ⟨sls, A⟩ n st fun c => .done c).run = some c0)
  (hsl : (stOf ⟨sls, A⟩ n c0).slots.all (slotOK m0) = true) {l : List (T OD)} (hll : l.length ≤ 1000000000) {gf : Nat}
  (hrc : ∀ (n0 : Nat) (Bx : List Nat) (a : Act) (w : World) (B : List Nat) (η : List Value) (Q : Exit → Act → World → Prop), SimK n0 Bx [] (stOf ⟨sls, A⟩ n c0) a w B η →
   (∀ a' w' Bs Ad cap, SimK n0 Bx [] (stOf ⟨sls, A⟩ n c0) a' w' B η → Goes n0 0 w B η w' B η → Rel w' B [] (.sl (flat OD l) 2) (.slice Ad l.length cap) → a'.eval g = .func (.func gf) #[] #[.pointer (some ⟨Bs, 0, none⟩)] → Bs < w'.heap.size → w'.cell? ⟨Bs, 0, none⟩ = some (.slice Ad l.length cap) → Q .normal a' w') → rc.wp P Q a w)
  (eg : ∀ args w, (callFunc gf args).run P w = .ok (.enter gf args) w) (enc : (Nat → Value) → Nat → Array Value) (hps : ∀ us k, (enc us k).size = ps.size)
  (hseq : ∀ (Bs b n cap : Nat) (A : Option Addr) (us : Nat → Value) (w : World), n ≤ 1000000000 → Bs < w.heap.size → w.cell? ⟨Bs, 0, none⟩ = some (.slice A n cap) →
   (0 < n → (∃ o, A = some ⟨b, o, none⟩ ∧ b < w.heap.size ∧ ∀ j, j < n * 2 → w.cell? ⟨b, o + j, none⟩ = some (us j)) ∧ ∀ j, j < n * 2 → (us j).oneCell' = true) → Hands P gf #[.pointer (some ⟨Bs, 0, none⟩)] (enc us) n (· = b) w)
  (sl1 : Nat → List V) (hset : ∀ (us : Nat → Value) (k : Nat) (x : T OD) (n0 : Nat) (W : World) (B : List Nat) (η : List Value) (tmps : Array Value), l[k]? = some x → Rel2 W B η (valV OD x) (.agg #[us (k * 2), us (k * 2 + 1)]) → SlotsK n0 W B η (stOf ⟨sls, A⟩ n c0).slots tmps → SlotsK n0 W B η (sl1 k) ((ps.zip (enc us k)).foldl (fun t (p, v) => t.setIfInBounds p v) tmps))
  (G : Nat → HL (tdsH A) → Option (HL (tdsH A) ⊕ HL (tdsH A'))) (hG : ∀ k d, k < l.length → (rndT P Γ2 fuel [f] m0 n ow assign body ⟨sl1 k, encH A d⟩).run = G k d)
  {o : HL (tdsH A) ⊕ HL (tdsH A')} (ho : rr G l.length 0 c0.2 = some o) {y : RT rs} (h2 : ∀ d, o = .inl d → (endT P Γ3 fuel f fn suf ⟨(stOf ⟨sls, A⟩ n c0).slots, encH A d⟩).run = some y) (h3 : ∀ d, o = .inr d → (retT P fn rs ⟨(stOf ⟨sls, A⟩ n c0).slots, encH A' d⟩).run = some y) : CallsK P f xs (tupV (valR rs y)) := by
 obtain ⟨st1, k1, E1⟩ := evL_ok hm hΓ1 pre _ _ _ hpre h1
 obtain ⟨c1, k2, E2⟩ := toShape_ok k1
 simp only [Tree.run, Option.some.injEq] at k2
 subst k2
 intro w Bc cargs hB hgl hlen hrel
 refine callsIn_wide.1 (callsIn_of_wp_marks (F := Fence.wide) (n := 2) hfn hb trivial (wpIn_wide.2 ?_) rfl)
 have hsim : SimK w.heap.size Bc [] ⟨slots0 fn xs, []⟩ { tmps := cargs.toArray ++ Array.replicate (fn.ntmps - cargs.toArray.size) undef, defers := [] } w Bc [] := by
  refine ⟨rfl, ⟨rfl, ⟨Nat.le_refl _, hgl⟩, fun b hb => ⟨hb, hB b hb⟩, hB, fun id e h => by simp at h, fun i j ei ej _ h => by simp at h⟩, slots0_ok ⟨hlen, fun i x hx => ?_⟩⟩
  obtain ⟨v, q1, q2⟩ := hrel i x hx
  obtain ⟨q3, q4⟩ := hxs i x hx
  exact ⟨v, q1, Rel2.of q3 q2, fun h => by rw [q4] at h; cases h⟩
 refine E1 w.heap.size Bc [] _ w Bc [] _ _ hsim fun a1 w1 B1 η1 hs1 hg1 => ?_
 obtain ⟨B2, η2, hs2, hg2⟩ := E2 w.heap.size Bc [] a1 w1 B1 η1 hs1
 have hb2 : Below w.heap.size w w1 := hg1.below
 refine wp_seq (wp_seq (hrc _ _ a1 w1 B2 η2 _ hs2 fun a3 w3 Bs Ad cap hs3 hg3 hr hev hBs hcell => ?_))
 show (Code.block bid _).wp P _ _ _
 obtain ⟨_, us, u1, u2, u3⟩ := opt_rel hr
 obtain ⟨b, hb1, hb2'⟩ : ∃ b, (0 < l.length → b < w3.heap.size ∧ b ∉ B2) ∧ (0 < l.length → (∃ o, Ad = some ⟨b, o, none⟩ ∧ b < w3.heap.size ∧ ∀ j, j < l.length * 2 → w3.cell? ⟨b, o + j, none⟩ = some (us j)) ∧ ∀ j, j < l.length * 2 → (us j).oneCell' = true) := by
  rcases Nat.eq_zero_or_pos l.length with h0 | h0
  ·exact ⟨0, fun h => by omega, fun h => by omega⟩
  ·obtain ⟨b, o, p1, p2, p3, p4⟩ := u1 h0
   exact ⟨b, fun _ => ⟨p2, p3⟩, fun _ => ⟨⟨o, p1, p2, p4⟩, u3⟩⟩
 have hfin : ∀ (D : Nat) (W : World) (st : S2) (a' : Act) (B : List Nat) (η : List Value), w1.heap.size ≤ D → SimK w.heap.size Bc [{ target := .collected D, args := #[] }] st a' W B η → nI st.heap = true → Below w.heap.size w W → W.heap[D]? = some (.deferred (some [])) →
   (resK P (frzRes st) fn.results.toList fun r => decR rs r fun y => .done y).run = some y → LeavesInM Fence.wide 2 P fn a'.tmps (fun e w' => ∃ v, e = .returned v ∧ Gr w w' ∧ Rel w' Bc [] (ex (tupV (valR rs y))) v) a'.defers .returning W :=
  fun D W st a' B η hD hs hn hbW hK hq => leave_end hs hn hK (Nat.le_trans hb2.size hD) hbW hq hres
 have hbw : Below w.heap.size w w3 := hb2.trans hg3.below
 refine wp_block (rng_ends hm hΓ2 hok1 hok2 hnd1 hnd2 hl1 hl2 sl1 G (N := l.length) hG hsl hA hA' hs3 (gf := gf) (lb := #[.pointer (some ⟨Bs, 0, none⟩)]) (enc := enc us) hev eg (hseq Bs b l.length cap Ad us _ hll hBs hcell hb2') (fun h x hx => by cases hx; exact hb1 h) (hps us) (fun k W B η hk hon hBs hsl0 => ?_) ho ?_ ?_)
 ·have hk' : l[k]? = some l[k] := List.getElem?_eq_getElem hk
  obtain ⟨p1, p2⟩ := u2 k _ hk'
  exact hset us k l[k] _ W B η _ hk' (opt_val p1 p2 hon hBs) hsl0
 ·intro D W d ho' hD hmid hK
  obtain ⟨B, η, i1, i2, i3, i4, i5, i6⟩ := hmid
  show Code.wp P suf _ _ _
  have h2' := h2 d ho'
  unfold endT at h2'
  obtain ⟨ex1, st2, k3, E3⟩ := evK_ok hm hΓ3 fuel [f] 0 suf _ _ _ hsuf.1 (by rw [hsuf.2]; intro c hc; cases hc) h2'
  have hDn : w1.heap.size ≤ D := Nat.le_trans hg3.on.size hD
  have hDB : D ∉ B := fun hb => by
   rcases i3 D hb with h | ⟨o, h, h'⟩
   ·have := hb2.size; omega
   ·rw [hK] at h; injection h with h; rw [← h] at h'; cases h'
  refine E3 w.heap.size Bc [{ target := .collected D, args := #[] }] _ W B η _ ⟨?_, i1, i2⟩ fun a' w' B' η' hs' hg' => ?_
  ·show _ :: _ = _
   rw [hs3.defers]
  ·have hK' : w'.heap[D]? = some (.deferred (some [])) := (hg'.on.block D (Array.getElem?_eq_some_iff.1 hK).1 hDB).2 _ hK (fun c e fr h => by cases h)
   have hbW : Below w.heap.size w w' := (hbw.trans i6).trans hg'.below
   split at k3
   ·split at k3
    case isFalse => cases k3
    rename_i hnI
    exact hfin D w' st2 a' B' η' hDn hs' hnI hbW hK' k3
   ·split at k3
    case isFalse => cases k3
    rename_i hnI
    exact hfin D w' st2 a' B' η' hDn hs' hnI hbW hK' k3
   ·cases k3
 ·intro D W d ho' hD hmid hK
  obtain ⟨B, η, i1, i2, i3, i4, i5, i6⟩ := hmid
  have h3' := h3 d ho'
  have hDn : w1.heap.size ≤ D := Nat.le_trans hg3.on.size hD
  refine hfin D W ⟨(stOf ⟨sls, A⟩ n c1).slots, encH A' d⟩ _ B η hDn ⟨?_, i1, i2⟩ (hA' d) (hbw.trans i6) hK h3'
  show _ :: _ = _
  rw [hs3.defers]
end
end Go.Proofs.YtkigpcolmioibaaDoor
namespace Go.Proofs.YtkigpcolmioibaaDoor
set_option maxRecDepth 100000
open Go.RowKit
set_option linter.unusedVariables false
theorem hasBody {f : Nat} {fn : Func} (hf : Tryd.prog.funcs[f]? = some fn) (hn : fn.name ≠ "runtime.NumGoroutine") (hb : fn.body.isSome = true) : ∃ fn, Tryd.prog.funcs[f]? = some fn ∧ fn.name ≠ "runtime.NumGoroutine" ∧ fn.body ≠ none :=
 ⟨fn, hf, hn, fun h => by rw [h] at hb; cases hb⟩
theorem rel_two {w : World} {B : List Nat} {x y : V} {cargs : List Value} (hlen : cargs.length = [x, y].length) (h : ∀ (i : Nat) z, [x, y][i]? = some z → ∃ v, cargs[i]? = some v ∧ Rel w B [] (ex z) v) : ∃ a b, cargs = [a, b] ∧ Rel w B [] (ex x) a ∧ Rel w B [] (ex y) b := by
 obtain ⟨a, h1, h2⟩ := h 0 x rfl
 obtain ⟨b, h3, h4⟩ := h 1 y rfl
 match cargs, hlen, h1, h3 with
 | [p, q], _, h1, h3 => simp at h1 h3; subst h1 h3; exact ⟨_, _, rfl, h2, h4⟩
theorem rel_three {w : World} {B : List Nat} {x y z : V} {cargs : List Value} (hlen : cargs.length = [x, y, z].length) (h : ∀ (i : Nat) t, [x, y, z][i]? = some t → ∃ v, cargs[i]? = some v ∧ Rel w B [] (ex t) v) : ∃ a b c, cargs = [a, b, c] ∧ Rel w B [] (ex x) a ∧ Rel w B [] (ex y) b ∧ Rel w B [] (ex z) c := by
 obtain ⟨a, h1, h2⟩ := h 0 x rfl
 obtain ⟨b, h3, h4⟩ := h 1 y rfl
 obtain ⟨c, h5, h6⟩ := h 2 z rfl
 match cargs, hlen, h1, h3, h5 with
 | [p, q, r], _, h1, h3, h5 => simp at h1 h3 h5; subst h1 h3 h5; exact ⟨_, _, _, rfl, h2, h4, h6⟩
theorem rel_one {w : World} {B : List Nat} {x : V} {cargs : List Value} (hlen : cargs.length = [x].length) (h : ∀ (i : Nat) z, [x][i]? = some z → ∃ v, cargs[i]? = some v ∧ Rel w B [] (ex z) v) : ∃ a, cargs = [a] ∧ Rel w B [] (ex x) a := by
 obtain ⟨a, h1, h2⟩ := h 0 x rfl
 match cargs, hlen, h1 with
 | [p], _, h1 => simp at h1; subst h1; exact ⟨_, rfl, h2⟩
end Go.Proofs.YtkigpcolmioibaaDoor
namespace Go.Proofs
open Go.Shelf
def Tryd.lays156_ren : Go.Shelf.Ren := ⟨fun | 156 => 42 | 165 => 57 | 166 => 58 | 169 => 59 | 240 => 72 | 241 => 73 | 276 => 82 | 277 => 83 | n => n, fun | 31 => 89 | 9 => 9 | 3 => 3 | 4 => 4 | 0 => 0 | 20 => 20 | 72 => 110 | 76 => 112 | 70 => 108 | 37 => 57 | 75 => 85 | 127 => 127 | 164 => 137 | 5 => 5 | 80 => 114 | n => n, fun | n => n⟩
theorem Tryd.lays156 : Go.Proofs.Lays.n156 Tryd.prog Tryd.lays156_ren := {
 mixed := by kernel_rfl
 f156 := Tryd.func42.trans (congrArg some (by kernel_rfl))
 f165 := Tryd.func57.trans (congrArg some (by kernel_rfl))
 f166 := Tryd.func58.trans (congrArg some (by kernel_rfl))
 f169 := Tryd.func59.trans (congrArg some (by kernel_rfl))
 f240 := Tryd.func72.trans (congrArg some (by kernel_rfl))
 f241 := Tryd.func73.trans (congrArg some (by kernel_rfl))
 f276 := Tryd.func82.trans (congrArg some (by kernel_rfl))
 f277 := Tryd.func83.trans (congrArg some (by kernel_rfl))
 t0 := Tryd.underlying0
 a0 := Tryd.isAgg0
 z0 := Tryd.sizeOf0
 v0 := Tryd.zeroValue0
 t3 := Tryd.underlying3
 a3 := Tryd.isAgg3
 z3 := Tryd.sizeOf3
 v3 := Tryd.zeroValue3
 t4 := Tryd.underlying4
 a4 := Tryd.isAgg4
 z4 := Tryd.sizeOf4
 v4 := Tryd.zeroValue4
 t9 := Tryd.underlying9
 a9 := Tryd.isAgg9
 z9 := Tryd.sizeOf9
 v9 := Tryd.zeroValue9
 t20 := Tryd.underlying20
 a20 := Tryd.isAgg20
 z20 := Tryd.sizeOf20
 v20 := Tryd.zeroValue20
 t31 := Tryd.underlying89
 a31 := Tryd.isAgg89
 z31 := Tryd.sizeOf89
 v31 := Tryd.zeroValue89
 t37 := Tryd.underlying57
 a37 := Tryd.isAgg57
 z37 := Tryd.sizeOf57
 v37 := Tryd.zeroValue57
 t70 := Tryd.underlying108
 a70 := Tryd.isAgg108
 z70 := Tryd.sizeOf108
 v70 := Tryd.zeroValue108
 t72 := Tryd.underlying110
 a72 := Tryd.isAgg110
 z72 := Tryd.sizeOf110
 v72 := Tryd.zeroValue110
 t75 := Tryd.underlying85
 a75 := Tryd.isAgg85
 z75 := Tryd.sizeOf85
 v75 := Tryd.zeroValue85
 t76 := Tryd.underlying112
 a76 := Tryd.isAgg112
 z76 := Tryd.sizeOf112
 v76 := Tryd.zeroValue112
 t127 := Tryd.underlying127
 a127 := Tryd.isAgg127
 z127 := Tryd.sizeOf127
 v127 := Tryd.zeroValue127
 t164 := Tryd.underlying137
 a164 := Tryd.isAgg137
 z164 := Tryd.sizeOf137
 v164 := Tryd.zeroValue137 }
theorem Tryd.Builder_Extra_156 : Builder.Extra Tryd.prog Tryd.lays156_ren := {
 sizeBuilder := by kernel_rfl
 liesBuilder := by kernel_rfl
 t5 := Tryd.underlying5
 a5 := Tryd.isAgg5
 z5 := Tryd.sizeOf5
 v5 := Tryd.zeroValue5
 infoByte := by kernel_rfl
 cellsByte := by kernel_rfl
 sizeByte := by kernel_rfl
 neB5 := by decide }
open Go.RowKit in
theorem Tryd.strings_Join_none (a : Option Addr) (c : Nat) (sep : ByteArray) (w : World) :
  Calls Tryd.prog 42 #[.slice a 0 c, .string sep] w fun e w' => e = .returned (.string ⟨#[]⟩) ∧ w' = w := Any.strings_Join_none Tryd.lays156 Tryd.Builder_Extra_156 a c sep w
open Go.RowKit in
theorem Tryd.strings_Join (bk o c : Nat) (xs : List ByteArray) (sep : ByteArray) (w : World) (hcells : ∀ (j : Nat) x, xs[j]? = some x → w.cell? ⟨bk, o + j, none⟩ = some (.string x)) (hbk : bk < w.heap.size) (hN : xs.length ≤ 140737488355328) (hcap : xs.length ≤ c) (hlen : (Lib.join (xs.map (·.data.toList)) sep.data.toList).length ≤ 140737488355328) :
  Calls Tryd.prog 42 #[.slice (some ⟨bk, o, none⟩) xs.length c, .string sep] w fun e w' => e = .returned (.string ⟨(Lib.join (xs.map (·.data.toList)) sep.data.toList).toArray⟩) ∧ Below w.heap.size w w' := Any.strings_Join Tryd.lays156 Tryd.Builder_Extra_156 bk o c xs sep w hcells hbk hN hcap hlen
def Tryd.laysM171_ren : Go.Shelf.Ren := ⟨fun | 171 => 41 | 243 => 56 | 246 => 71 | 283 => 78 | 284 => 79 | 285 => 80 | 286 => 81 | 129 => 89 | 317 => 88 | 318 => 90 | 319 => 91 | 320 => 92 | 337 => 95 | 338 => 96 | n => n, fun | 3 => 3 | 9 => 9 | 2 => 2 | 4 => 4 | 171 => 132 | 0 => 0 | 53 => 74 | 37 => 57 | 5 => 5 | 173 => 135 | 212 => 150 | 51 => 22 | 20 => 20 | 213 => 151 | 46 => 122 | 232 => 157 | 233 => 158 | n => n, fun | 17 => 5 | 18 => 6 | 19 => 7 | n => n⟩
theorem Tryd.laysM171 : Go.Proofs.LaysM.n171 Tryd.prog Tryd.laysM171_ren := {
 mixed := by kernel_rfl
 f129 := Tryd.func89.trans (congrArg some (by kernel_rfl))
 f171 := Tryd.func41.trans (congrArg some (by kernel_rfl))
 f243 := Tryd.func56.trans (congrArg some (by kernel_rfl))
 f246 := Tryd.func71.trans (congrArg some (by kernel_rfl))
 f283 := Tryd.func78.trans (congrArg some (by kernel_rfl))
 f284 := Tryd.func79.trans (congrArg some (by kernel_rfl))
 f285 := Tryd.func80.trans (congrArg some (by kernel_rfl))
 f286 := Tryd.func81.trans (congrArg some (by kernel_rfl))
 f317 := Tryd.func88.trans (congrArg some (by kernel_rfl))
 f318 := Tryd.func90.trans (congrArg some (by kernel_rfl))
 f319 := Tryd.func91.trans (congrArg some (by kernel_rfl))
 f320 := Tryd.func92.trans (congrArg some (by kernel_rfl))
 f337 := Tryd.func95.trans (congrArg some (by kernel_rfl))
 f338 := Tryd.func96.trans (congrArg some (by kernel_rfl))
 t0 := Tryd.underlying0
 a0 := Tryd.isAgg0
 z0 := Tryd.sizeOf0
 v0 := Tryd.zeroValue0
 t2 := Tryd.underlying2
 a2 := Tryd.isAgg2
 z2 := Tryd.sizeOf2
 v2 := Tryd.zeroValue2
 t3 := Tryd.underlying3
 a3 := Tryd.isAgg3
 z3 := Tryd.sizeOf3
 v3 := Tryd.zeroValue3
 t4 := Tryd.underlying4
 a4 := Tryd.isAgg4
 z4 := Tryd.sizeOf4
 v4 := Tryd.zeroValue4
 t5 := Tryd.underlying5
 a5 := Tryd.isAgg5
 z5 := Tryd.sizeOf5
 v5 := Tryd.zeroValue5
 t9 := Tryd.underlying9
 a9 := Tryd.isAgg9
 z9 := Tryd.sizeOf9
 v9 := Tryd.zeroValue9
 t20 := Tryd.underlying20
 a20 := Tryd.isAgg20
 z20 := Tryd.sizeOf20
 v20 := Tryd.zeroValue20
 t37 := Tryd.underlying57
 a37 := Tryd.isAgg57
 z37 := Tryd.sizeOf57
 v37 := Tryd.zeroValue57
 t46 := Tryd.underlying122
 a46 := Tryd.isAgg122
 z46 := Tryd.sizeOf122
 v46 := Tryd.zeroValue122
 t51 := Tryd.underlying22
 a51 := Tryd.isAgg22
 z51 := Tryd.sizeOf22
 v51 := Tryd.zeroValue22
 t53 := Tryd.underlying74
 a53 := Tryd.isAgg74
 z53 := Tryd.sizeOf74
 v53 := Tryd.zeroValue74
 t171 := Tryd.underlying132
 a171 := Tryd.isAgg132
 z171 := Tryd.sizeOf132
 v171 := Tryd.zeroValue132
 t173 := Tryd.underlying135
 a173 := Tryd.isAgg135
 z173 := Tryd.sizeOf135
 v173 := Tryd.zeroValue135
 t212 := Tryd.underlying150
 a212 := Tryd.isAgg150
 z212 := Tryd.sizeOf150
 v212 := Tryd.zeroValue150
 t213 := Tryd.underlying151
 a213 := Tryd.isAgg151
 z213 := Tryd.sizeOf151
 t232 := Tryd.underlying157
 a232 := Tryd.isAgg157
 z232 := Tryd.sizeOf157
 v232 := Tryd.zeroValue157
 t233 := Tryd.underlying158
 a233 := Tryd.isAgg158
 z233 := Tryd.sizeOf158
 v233 := Tryd.zeroValue158
 g17 := by kernel_rfl
 g18 := by kernel_rfl
 g19 := by kernel_rfl
 i0 := by kernel_rfl
 i2 := by kernel_rfl
 i3 := by kernel_rfl
 i4 := by kernel_rfl
 i5 := by kernel_rfl
 i9 := by kernel_rfl
 i20 := by kernel_rfl
 i37 := by kernel_rfl
 i46 := by kernel_rfl
 i51 := by kernel_rfl
 i53 := by kernel_rfl
 i171 := by kernel_rfl
 i173 := by kernel_rfl
 i212 := by kernel_rfl
 i232 := by kernel_rfl
 i233 := by kernel_rfl
 m17 := by kernel_rfl
 m18 := by kernel_rfl
 m19 := by kernel_rfl }
open Go.RowKit Go.Sort Go.Lib in
theorem Tryd.strconv_Itoa (n : Int) (h0 : -9223372036854775808 ≤ n) (h1 : n ≤ 9223372036854775807) (w : World) (htab : Lib.TabIs Tryd.prog w "internal/strconv.uint64pow10" .u64 Lib.pow10Tab) :
  Calls Tryd.prog 41 #[.int .i64 n] w fun e w' => e = .returned (.string ⟨(Lib.itoa n).toArray⟩) ∧ ∃ k os, w' = grow (w.drewN k) os := Any.strconv_Itoa Tryd.laysM171 n h0 h1 w htab
def Tryd.laysPu14_ren : Go.Shelf.Ren := ⟨fun | 14 => 39 | 16 => 53 | 17 => 54 | 19 => 65 | 20 => 66 | 21 => 67 | 22 => 68 | 23 => 69 | 24 => 70 | 25 => 76 | 27 => 41 | 26 => 77 | 28 => 56 | 29 => 71 | 30 => 78 | 31 => 79 | 32 => 80 | 33 => 81 | 35 => 89 | 34 => 88 | 36 => 90 | 37 => 91 | 38 => 92 | 39 => 95 | 40 => 96 | n => n, fun | 9 => 9 | 3 => 3 | 22 => 74 | 24 => 85 | 25 => 86 | 4 => 4 | 34 => 120 | 5 => 5 | 36 => 122 | 37 => 57 | 0 => 0 | 39 => 123 | 21 => 21 | 44 => 130 | 47 => 127 | 50 => 148 | 48 => 146 | 2 => 2 | 52 => 132 | 55 => 135 | 59 => 150 | 60 => 22 | 20 => 20 | 61 => 151 | 65 => 157 | 66 => 158 | 67 => 114 | n => n, fun | 0 => 0 | 1 => 1 | 2 => 5 | 3 => 6 | 4 => 7 | n => n⟩
theorem Tryd.laysPu14 : Go.Proofs.LaysPu.n14 Tryd.prog Tryd.laysPu14_ren := {
 mixed := by kernel_rfl
 f14 := Tryd.func39.trans (congrArg some (by kernel_rfl))
 f16 := Tryd.func53.trans (congrArg some (by kernel_rfl))
 f17 := Tryd.func54.trans (congrArg some (by kernel_rfl))
 f19 := Tryd.func65.trans (congrArg some (by kernel_rfl))
 f20 := Tryd.func66.trans (congrArg some (by kernel_rfl))
 f21 := Tryd.func67.trans (congrArg some (by kernel_rfl))
 f22 := Tryd.func68.trans (congrArg some (by kernel_rfl))
 f23 := Tryd.func69.trans (congrArg some (by kernel_rfl))
 f24 := Tryd.func70.trans (congrArg some (by kernel_rfl))
 f25 := Tryd.func76.trans (congrArg some (by kernel_rfl))
 f26 := Tryd.func77.trans (congrArg some (by kernel_rfl))
 f27 := Tryd.func41.trans (congrArg some (by kernel_rfl))
 f28 := Tryd.func56.trans (congrArg some (by kernel_rfl))
 f29 := Tryd.func71.trans (congrArg some (by kernel_rfl))
 f30 := Tryd.func78.trans (congrArg some (by kernel_rfl))
 f31 := Tryd.func79.trans (congrArg some (by kernel_rfl))
 f32 := Tryd.func80.trans (congrArg some (by kernel_rfl))
 f33 := Tryd.func81.trans (congrArg some (by kernel_rfl))
 f34 := Tryd.func88.trans (congrArg some (by kernel_rfl))
 f35 := Tryd.func89.trans (congrArg some (by kernel_rfl))
 f36 := Tryd.func90.trans (congrArg some (by kernel_rfl))
 f37 := Tryd.func91.trans (congrArg some (by kernel_rfl))
 f38 := Tryd.func92.trans (congrArg some (by kernel_rfl))
 f39 := Tryd.func95.trans (congrArg some (by kernel_rfl))
 f40 := Tryd.func96.trans (congrArg some (by kernel_rfl))
 t0 := Tryd.underlying0
 a0 := Tryd.isAgg0
 z0 := Tryd.sizeOf0
 v0 := Tryd.zeroValue0
 i0 := by kernel_rfl
 t2 := Tryd.underlying2
 a2 := Tryd.isAgg2
 z2 := Tryd.sizeOf2
 v2 := Tryd.zeroValue2
 i2 := by kernel_rfl
 t3 := Tryd.underlying3
 a3 := Tryd.isAgg3
 z3 := Tryd.sizeOf3
 v3 := Tryd.zeroValue3
 i3 := by kernel_rfl
 t4 := Tryd.underlying4
 a4 := Tryd.isAgg4
 z4 := Tryd.sizeOf4
 v4 := Tryd.zeroValue4
 i4 := by kernel_rfl
 t5 := Tryd.underlying5
 a5 := Tryd.isAgg5
 z5 := Tryd.sizeOf5
 v5 := Tryd.zeroValue5
 i5 := by kernel_rfl
 t9 := Tryd.underlying9
 a9 := Tryd.isAgg9
 z9 := Tryd.sizeOf9
 v9 := Tryd.zeroValue9
 i9 := by kernel_rfl
 t20 := Tryd.underlying20
 a20 := Tryd.isAgg20
 z20 := Tryd.sizeOf20
 v20 := Tryd.zeroValue20
 i20 := by kernel_rfl
 t21 := Tryd.underlying21
 a21 := Tryd.isAgg21
 z21 := Tryd.sizeOf21
 v21 := Tryd.zeroValue21
 i21 := by kernel_rfl
 t22 := Tryd.underlying74
 a22 := Tryd.isAgg74
 z22 := Tryd.sizeOf74
 v22 := Tryd.zeroValue74
 i22 := by kernel_rfl
 t24 := Tryd.underlying85
 a24 := Tryd.isAgg85
 z24 := Tryd.sizeOf85
 v24 := Tryd.zeroValue85
 i24 := by kernel_rfl
 t25 := Tryd.underlying86
 a25 := Tryd.isAgg86
 z25 := Tryd.sizeOf86
 v25 := Tryd.zeroValue86
 i25 := by kernel_rfl
 t34 := Tryd.underlying120
 a34 := Tryd.isAgg120
 z34 := Tryd.sizeOf120
 v34 := Tryd.zeroValue120
 i34 := by kernel_rfl
 c34 := by kernel_rfl
 t36 := Tryd.underlying122
 a36 := Tryd.isAgg122
 z36 := Tryd.sizeOf122
 v36 := Tryd.zeroValue122
 i36 := by kernel_rfl
 t37 := Tryd.underlying57
 a37 := Tryd.isAgg57
 z37 := Tryd.sizeOf57
 v37 := Tryd.zeroValue57
 i37 := by kernel_rfl
 t39 := Tryd.underlying123
 a39 := Tryd.isAgg123
 z39 := Tryd.sizeOf123
 v39 := Tryd.zeroValue123
 i39 := by kernel_rfl
 t44 := Tryd.underlying130
 a44 := Tryd.isAgg130
 z44 := Tryd.sizeOf130
 v44 := Tryd.zeroValue130
 i44 := by kernel_rfl
 t47 := Tryd.underlying127
 a47 := Tryd.isAgg127
 z47 := Tryd.sizeOf127
 v47 := Tryd.zeroValue127
 i47 := by kernel_rfl
 t48 := Tryd.underlying146
 a48 := Tryd.isAgg146
 z48 := Tryd.sizeOf146
 v48 := Tryd.zeroValue146
 i48 := by kernel_rfl
 t50 := Tryd.underlying148
 a50 := Tryd.isAgg148
 z50 := Tryd.sizeOf148
 v50 := Tryd.zeroValue148
 i50 := by kernel_rfl
 t52 := Tryd.underlying132
 a52 := Tryd.isAgg132
 z52 := Tryd.sizeOf132
 v52 := Tryd.zeroValue132
 i52 := by kernel_rfl
 t55 := Tryd.underlying135
 a55 := Tryd.isAgg135
 z55 := Tryd.sizeOf135
 v55 := Tryd.zeroValue135
 i55 := by kernel_rfl
 t59 := Tryd.underlying150
 a59 := Tryd.isAgg150
 z59 := Tryd.sizeOf150
 v59 := Tryd.zeroValue150
 i59 := by kernel_rfl
 t60 := Tryd.underlying22
 a60 := Tryd.isAgg22
 z60 := Tryd.sizeOf22
 v60 := Tryd.zeroValue22
 i60 := by kernel_rfl
 t61 := Tryd.underlying151
 a61 := Tryd.isAgg151
 z61 := Tryd.sizeOf151
 t65 := Tryd.underlying157
 a65 := Tryd.isAgg157
 z65 := Tryd.sizeOf157
 v65 := Tryd.zeroValue157
 i65 := by kernel_rfl
 t66 := Tryd.underlying158
 a66 := Tryd.isAgg158
 z66 := Tryd.sizeOf158
 v66 := Tryd.zeroValue158
 i66 := by kernel_rfl
 t67 := Tryd.underlying114
 a67 := Tryd.isAgg114
 z67 := Tryd.sizeOf114
 v67 := Tryd.zeroValue114
 i67 := by kernel_rfl
 g0 := by kernel_rfl
 m0 := by kernel_rfl
 g1 := by kernel_rfl
 m1 := by kernel_rfl
 g2 := by kernel_rfl
 m2 := by kernel_rfl
 g3 := by kernel_rfl
 m3 := by kernel_rfl
 g4 := by kernel_rfl
 m4 := by kernel_rfl }
def Tryd.lays143_ren : Go.Shelf.Ren := ⟨fun | 143 => 64 | 219 => 75 | 217 => 84 | 225 => 85 | 224 => 86 | 267 => 87 | 266 => 93 | 314 => 94 | n => n, fun | 9 => 9 | 3 => 3 | 4 => 4 | 5 => 5 | 46 => 122 | 146 => 154 | 51 => 22 | n => n, fun | 1 => 4 | n => n⟩
theorem Tryd.lays143 : Go.Proofs.Lays.n143 Tryd.prog Tryd.lays143_ren := {
 mixed := by kernel_rfl
 f143 := Tryd.func64.trans (congrArg some (by kernel_rfl))
 f217 := Tryd.func84.trans (congrArg some (by kernel_rfl))
 f219 := Tryd.func75.trans (congrArg some (by kernel_rfl))
 f224 := Tryd.func86.trans (congrArg some (by kernel_rfl))
 f225 := Tryd.func85.trans (congrArg some (by kernel_rfl))
 f266 := Tryd.func93.trans (congrArg some (by kernel_rfl))
 f267 := Tryd.func87.trans (congrArg some (by kernel_rfl))
 f314 := Tryd.func94.trans (congrArg some (by kernel_rfl))
 t3 := Tryd.underlying3
 a3 := Tryd.isAgg3
 z3 := Tryd.sizeOf3
 v3 := Tryd.zeroValue3
 t4 := Tryd.underlying4
 a4 := Tryd.isAgg4
 z4 := Tryd.sizeOf4
 v4 := Tryd.zeroValue4
 t5 := Tryd.underlying5
 a5 := Tryd.isAgg5
 z5 := Tryd.sizeOf5
 v5 := Tryd.zeroValue5
 t9 := Tryd.underlying9
 a9 := Tryd.isAgg9
 z9 := Tryd.sizeOf9
 v9 := Tryd.zeroValue9
 t46 := Tryd.underlying122
 a46 := Tryd.isAgg122
 z46 := Tryd.sizeOf122
 v46 := Tryd.zeroValue122
 t51 := Tryd.underlying22
 a51 := Tryd.isAgg22
 z51 := Tryd.sizeOf22
 v51 := Tryd.zeroValue22
 t146 := Tryd.underlying154
 a146 := Tryd.isAgg154
 z146 := Tryd.sizeOf154
 v146 := Tryd.zeroValue154
 g1 := by kernel_rfl }
open Go.RowKit Go.Lib in
theorem Tryd.strings_Index_one (s : ByteArray) (c : UInt8) (w : World) :
  Calls Tryd.prog 64 #[.string s, .string ⟨#[c]⟩] w fun e w' => e = .returned (.int .i64 (Lib.indexByte s.data.toList c)) ∧ w' = w := Any.strings_Index_one Tryd.lays143 s c w
end Go.Proofs
namespace Go.Proofs.YtkigpcolmioibaaDoor
set_option maxRecDepth 100000
open Go.RowKit Go.Sort Go.Lib Go.Shelf
set_option linter.unusedVariables false
set_option linter.unusedSimpArgs false
theorem globi_tab {w : World} {B : List Nat} (h : GlobOK w B) : Lib.TabIs Tryd.prog w "internal/strconv.uint64pow10" .u64 Lib.pow10Tab := by
 obtain ⟨_, T, fr, h2⟩ := h.row 5 _ (by simp only [globRows, List.mem_cons]; exact .inl rfl)
 have h1 : Tryd.prog.globalNamed "internal/strconv.uint64pow10" = some 5 := by kernel_rfl
 unfold Lib.TabIs World.var?
 rw [h1, Option.bind_some, h2]
 rfl
def itK {R : Type} (args : List V) (k : V → Tree R) : Tree R := match args with
 | [.c (.int .i64 n)] => .ite (decide (-9223372036854775808 ≤ n ∧ n ≤ 9223372036854775807)) (k (.str (Lib.itoa n))) .fail
 | _ => .fail
theorem it_ok {R : Type} : ∀ args (k : V → Tree R) res, (itK args k).run = some res → ∃ r, (k r).run = some res ∧ r.plain = true ∧ (∀ l k, ex r ≠ .fresh l k) ∧ CallsV Tryd.prog 41 args r := by
 intro args k res h
 have hb : ∃ fn, Tryd.prog.funcs[41]? = some fn ∧ fn.name ≠ "runtime.NumGoroutine" ∧ fn.body ≠ none := hasBody Tryd.func41 (by decide +kernel) (by kernel_rfl)
 unfold itK at h
 split at h
 ·rename_i n
  rcases Tree.run_ite h with ⟨hs, h⟩ | ⟨_, h⟩
  ·obtain ⟨h1, h2⟩ := of_decide_eq_true hs
   refine ⟨_, h, rfl, (fun l k h => by cases h), CallsK.toV (fun w B cargs _ hgl hlen hrel => ?_) hb⟩
   obtain ⟨a, rfl, r1⟩ := rel_one hlen hrel
   have r1 := Rel.ofC r1
   subst r1
   have := Tryd.strconv_Itoa n h1 h2 w (globi_tab hgl)
   exact this.mono fun e w' ⟨he, k, os, hw⟩ => ⟨_, he, (by rw [hw]; exact Lib.below_grow _ w (Nat.le_refl _) k os), .c _ _⟩
  ·cases h
 ·cases h
theorem rel_nn {w : World} {B : List Nat} {g : Nat} (h : Rel w B [] (.adr [.nn]) (.pointer (some ⟨g, 0, none⟩))) : ∃ ev, w.cell? ⟨g, 0, none⟩ = some ev ∧ (ev = .nilIface ∨ ∃ te pe, ev = .iface te pe) := by
 cases h with
 | adr _ l ad us ha hr =>
  have h1 := ha.cell 0 (by simp)
  have h2 := hr 0 _ rfl
  cases hu : us 0 <;> rw [hu] at h2 <;> cases h2
  exact ⟨_, by rw [← hu]; simpa [Addr.add] using h1, .inr ⟨_, _, rfl⟩⟩
def puS8 (s : List UInt8) : Sum Int Int := match Lib.parseUintB 8 s with
 | .ok u => .inl u
 | .range => .inr 255
 | _ => .inr 0
def puK8 {R : Type} (args : List V) (k : V → Tree R) : Tree R := match args with
 | [.str s, .c (.int .i64 10), .c (.int .i64 8)] => .ite (decide (s.length ≤ 281474976710656)) (.cases (puS8 s) (fun u => k (.tup [.c (.int .u64 u), .c .nilIface])) (fun z => k (.tup [.c (.int .u64 z), .nn]))) .fail
 | _ => .fail
theorem rel_tupV {w : World} {B : List Nat} {x y : Value} {a b : AV} (h1 : Rel w B [] a x) (h2 : Rel w B [] b y) : Rel w B [] (.tup [a, b]) (.tuple #[x, y]) :=
 .tup _ _ _ (fun i => [x, y].getD i undef) rfl (fun i z hz => by
  match i, hz with
  | 0, _ => rfl
  | 1, _ => rfl) (fun i z hz => by
  match i, hz with
  | 0, hz => simp at hz; subst hz; exact h1
  | 1, hz => simp at hz; subst hz; exact h2)
theorem pu8_ok {R : Type} : ∀ args (k : V → Tree R) res, (puK8 args k).run = some res → ∃ r, (k r).run = some res ∧ r.plain = true ∧ (∀ l k, ex r ≠ .fresh l k) ∧ CallsV Tryd.prog 39 args r := by
 intro args k res h
 unfold puK8 at h
 split at h
 ·rename_i s
  rcases Tree.run_ite h with ⟨hs, h⟩ | ⟨_, h⟩
  ·have hs := of_decide_eq_true hs
   have hsz : (ByteArray.mk s.toArray).size = s.length := by show s.toArray.size = _; simp
   have hl : (ByteArray.mk s.toArray).data.toList = s := by simp
   have hb : ∃ fn, Tryd.prog.funcs[39]? = some fn ∧ fn.name ≠ "runtime.NumGoroutine" ∧ fn.body ≠ none := hasBody Tryd.func39 (by decide +kernel) (by kernel_rfl)
   have key : ∀ (r : V), (∀ (w : World) (B : List Nat), GlobOK w B → Calls Tryd.prog 39 #[.string ⟨s.toArray⟩, .int .i64 10, .int .i64 8] w fun e w' => ∃ v, e = .returned v ∧ Gr w w' ∧ Rel w' B [] (ex r) v) → CallsV Tryd.prog 39 [.str s, .c (.int .i64 10), .c (.int .i64 8)] r := fun r hr => CallsK.toV (fun w B cargs _ hgl hlen hrel => by
    obtain ⟨a, b, c, rfl, h1, h2, h3⟩ := rel_three hlen hrel
    have h1 := Rel.ofC h1
    have h2 := Rel.ofC h2
    have h3 := Rel.ofC h3
    subst h1 h2 h3
    exact hr w B hgl) hb
   rcases hp : Lib.parseUintB 8 s with u | _ | _
   ·rw [show puS8 s = (Sum.inl (u : Int) : Sum Int Int) by unfold puS8; rw [hp]] at h
    refine ⟨_, h, rfl, (fun l k h => by cases h), key _ fun w B hgl => ?_⟩
    have hc : Calls Tryd.prog 39 #[.string ⟨s.toArray⟩, .int .i64 10, .int .i64 8] w _ := Any.strconv_ParseUint_10_at8_ok Tryd.laysPu14 ⟨s.toArray⟩ (by rw [hsz]; omega) u (by rw [hl]; exact hp) w
    refine hc.mono fun e w' ⟨he, hw⟩ => ⟨_, he, ?_, rel_tupV (.c _ _) (.c _ _)⟩
    rcases hw with rfl | rfl
    ·exact Gr.refl _
    ·exact Lib.bytesWorld_below _ _ _
   ·rw [show puS8 s = (Sum.inr 0 : Sum Int Int) by unfold puS8; rw [hp]] at h
    refine ⟨_, h, rfl, (fun l k h => by cases h), key _ fun w B hgl => ?_⟩
    obtain ⟨ev, e1, e2⟩ := rel_nn (hgl.nn 0 (by simp [globNN]))
    have hc : Calls Tryd.prog 39 #[.string ⟨s.toArray⟩, .int .i64 10, .int .i64 8] w _ := Any.strconv_ParseUint_10_at8_syntax Tryd.laysPu14 ⟨s.toArray⟩ (by rw [hsz]; omega) (by rw [hl]; exact hp) ev w e1 e2
    exact hc.mono fun e w' ⟨N, he, _, _, hw⟩ => ⟨_, he, hw, rel_tupV (.c _ _) (.nn _ _ _)⟩
   ·rw [show puS8 s = (Sum.inr 255 : Sum Int Int) by unfold puS8; rw [hp]] at h
    refine ⟨_, h, rfl, (fun l k h => by cases h), key _ fun w B hgl => ?_⟩
    obtain ⟨ev, e1, e2⟩ := rel_nn (hgl.nn 1 (by simp [globNN]))
    have hc : Calls Tryd.prog 39 #[.string ⟨s.toArray⟩, .int .i64 10, .int .i64 8] w _ := Any.strconv_ParseUint_10_at8_range Tryd.laysPu14 ⟨s.toArray⟩ (by rw [hsz]; omega) (by rw [hl]; exact hp) ev w e1 e2
    exact hc.mono fun e w' ⟨N, he, _, _, hw⟩ => ⟨_, he, hw, rel_tupV (.c _ _) (.nn _ _ _)⟩
  ·cases h
 ·cases h
def jnK {R : Type} (args : List V) (k : V → Tree R) : Tree R := match args with
 | [.lst .str l, .c (.string c)] => .ite (decide (l.length ≤ 140737488355328 ∧ (Lib.join l c.data.toList).length ≤ 140737488355328)) (k (.str (Lib.join l c.data.toList))) .fail
 | [.lst .str l, .str c] => .ite (decide (l.length ≤ 140737488355328 ∧ (Lib.join l c).length ≤ 140737488355328)) (k (.str (Lib.join l c))) .fail
 | _ => .fail
theorem flat_strs (l : List (List UInt8)) : flat .str l = l.map fun s => .c (.string ⟨s.toArray⟩) := by
 induction l with
 | nil => rfl
 | cons s l ih => rw [flat_cons, List.map_cons, ih]; rfl
theorem jn_ok {R : Type} : ∀ args (k : V → Tree R) res, (jnK args k).run = some res → ∃ r, (k r).run = some res ∧ r.plain = true ∧ (∀ l k, ex r ≠ .fresh l k) ∧ CallsV Tryd.prog 42 args r := by
 intro args k res h
 have hb : ∃ fn, Tryd.prog.funcs[42]? = some fn ∧ fn.name ≠ "runtime.NumGoroutine" ∧ fn.body ≠ none := hasBody Tryd.func42 (by decide +kernel) (by kernel_rfl)
 have key : ∀ (l : List (List UInt8)) (c : List UInt8) (y : V), ex y = .c (.string ⟨c.toArray⟩) → l.length ≤ 140737488355328 → (Lib.join l c).length ≤ 140737488355328 → CallsV Tryd.prog 42 [.lst .str l, y] (.str (Lib.join l c)) := fun l c y hy h1 h2 => CallsK.toV (fun w B cargs hB hgl hlen hrel => by
  obtain ⟨a, b, rfl, r1, r2⟩ := rel_two hlen hrel
  rw [hy] at r2
  have r2 := Rel.ofC r2
  subst r2
  have r1' : Rel w B [] (.sl (flat .str l) 1) a := r1
  have hfl : (flat .str l).length = l.length := by rw [flat_strs, List.length_map]
  obtain ⟨A, n, cc, us, rfl, hn, hc, hm, hA, hr⟩ : ∃ A n c us, a = .slice A n c ∧ n * 1 = (flat .str l).length ∧ n ≤ c ∧ c ≤ maxLen ∧ (0 < n → ∃ ad, A = some ad ∧ At w B ad (flat .str l).length us) ∧ ∀ i x, (flat .str l)[i]? = some x → Rel w B [] x (us i) := by
   generalize a = v at r1'
   cases r1' with
   | sl _ l' k A n c us hk hn' hc hm hA hr => exact ⟨A, n, c, us, rfl, hn', hc, hm, hA, hr⟩
  have hnl : n = l.length := by omega
  subst hnl
  rcases Nat.eq_zero_or_pos l.length with h0 | h0
  ·have hl0 : l = [] := List.eq_nil_of_length_eq_zero h0
   subst hl0
   have := Tryd.strings_Join_none A cc ⟨c.toArray⟩ w
   exact this.mono fun e w' ⟨he, hw⟩ => ⟨_, he, hw ▸ Gr.refl _, .c _ _⟩
  ·obtain ⟨⟨b, o, sp⟩, rfl, hat⟩ := hA h0
   obtain rfl : sp = none := hat.spot
   have hmap : (l.map fun s => ByteArray.mk s.toArray).map (·.data.toList) = l := by
    rw [List.map_map]
    have : ((fun x : ByteArray => x.data.toList) ∘ fun s : List UInt8 => ByteArray.mk s.toArray) = id := by funext s; simp
    rw [this, List.map_id]
   have hcl : (ByteArray.mk c.toArray).data.toList = c := by simp
   have hcall := Tryd.strings_Join b o cc (l.map fun s => ByteArray.mk s.toArray) ⟨c.toArray⟩ w (fun j x hx => by
    rw [List.getElem?_map, Option.map_eq_some_iff] at hx
    obtain ⟨s, hs, rfl⟩ := hx
    have hj : j < l.length := (List.getElem?_eq_some_iff.1 hs).1
    have h3 := hr j (.c (.string ⟨s.toArray⟩)) (by rw [flat_strs, List.getElem?_map, hs]; rfl)
    have h4 := Rel.ofC h3
    have h5 := hat.cell j (by omega)
    rw [h4] at h5
    rwa [show (Addr.mk b o none).add j = ⟨b, o + j, none⟩ by
     unfold Addr.add
     by_cases hj0 : j = 0
     ·subst hj0; rfl
     ·rw [if_neg hj0]] at h5) hat.lt (by rw [List.length_map]; exact h1) (by rw [List.length_map]; exact hc) (by rw [hmap, hcl]; exact h2)
   rw [hmap, hcl, List.length_map] at hcall
   exact hcall.mono fun e w' ⟨he, hw⟩ => ⟨_, he, hw, .c _ _⟩) hb
 unfold jnK at h
 split at h
 ·rename_i l c
  rcases Tree.run_ite h with ⟨hs, h⟩ | ⟨_, h⟩
  ·obtain ⟨h1, h2⟩ := of_decide_eq_true hs
   exact ⟨_, h, rfl, (fun l k h => by cases h), key l c.data.toList _ (by simp [ex, ex0]) h1 h2⟩
  ·cases h
 ·rename_i l c
  rcases Tree.run_ite h with ⟨hs, h⟩ | ⟨_, h⟩
  ·obtain ⟨h1, h2⟩ := of_decide_eq_true hs
   exact ⟨_, h, rfl, (fun l k h => by cases h), key l c _ rfl h1 h2⟩
  ·cases h
 ·cases h
end Go.Proofs.YtkigpcolmioibaaDoor
namespace Go.Proofs.YtkigpcolmioibaaDoor.Jg
open Go.RowKit Go.Proofs.YtkigpcolmioibaaDoor
set_option linter.unusedVariables false
set_option maxRecDepth 100000
theorem hmx : Go.Proofs.Tryd.prog.follows .mixedOrders = true := by kernel_rfl
noncomputable def Ev0 (N : Nat) : (R : Type) → Env R := Env.addInl env0 [46, 45]
theorem Ev0_ok (N : Nat) (R : Type) : EnvOK Go.Proofs.Tryd.prog (Ev0 N R) := EnvOK.addInl (env0_ok R) (by kernel_rfl)
noncomputable def Ev1 (N : Nat) : (R : Type) → Env R := Env.addBx (Ev0 N) [(46, 0)]
theorem Ev1_ok (N : Nat) (R : Type) : EnvOK Go.Proofs.Tryd.prog (Ev1 N R) := EnvOK.addBx (Ev0_ok N R) [(46, 0)]
noncomputable def octs_place (N : Nat) (i0 : Int) (width1 : Int) (little2 : Bool) : Option (Int) :=
 bif little2 then
  some (i0)
 else
  some ((IntKind.wrap .i64 ((IntKind.wrap .i64 (width1 - (1 : Int))) - i0)))
theorem octs_place_S (N : Nat) (i0 : Int) (width1 : Int) (little2 : Bool) : (runK Go.Proofs.Tryd.prog (Ev1 N) 400 60 [(.int .i64), (.int .i64), .bool] [(.int .i64)] (i0, width1, little2, ())).run = octs_place N i0 width1 little2 := by kernel_rfl
noncomputable def Ev2 (N : Nat) : (R : Type) → Env R := Env.addFn (Ev1 N) 60 (fun R => fnK [(.int .i64), (.int .i64), .bool] [(.int .i64)] (fun c => octs_place N c.1 c.2.1 c.2.2.1))
theorem Ev2_ok (N : Nat) (R : Type) : EnvOK Go.Proofs.Tryd.prog (Ev2 N R) := EnvOK.addFn hmx (Ev1_ok N R) (Ev1_ok N _) (by kernel_rfl) (fun c => octs_place_S N c.1 c.2.1 c.2.2.1)
noncomputable def octs_Put_L5_I : LI := ⟨35, 0, [], ⟨[(0, .ty (.int .u64)), (1, .ty (.int .i64)), (2, .ty .bool), (8, .lit (.own 0)), (19, .ty (.int .i64)), (20, .ty (.int .i64))], [.own (.int .u8) 5]⟩, [(.exit 0, ⟨[(8, .lit (.own 0))], [.own (.int .u8) 5]⟩)]⟩
noncomputable def octs_Put_L5 (N : Nat) (X : (((Int) × ((Int) × ((Bool) × ((Int) × ((Int) × Unit))))) × ((List (Int)) × Unit)) → Option ((Unit × ((List (Int)) × Unit)))) (n0 : Int) (width1 : Int) (little2 : Bool) (x19 : Int) (x20 : Int) (h0 : List (Int)) : Option ((Unit × ((List (Int)) × Unit))) :=
 bif (decide (x20 < x19)) then
  Option.bind (@octs_place N x20 width1 little2) fun (v8 : Int) =>
  bif (decide ((0 : Int) ≤ v8 ∧ v8 < (((List.length h0) : Nat) : Int))) then
   Option.bind (@GetElem?.getElem? (List Int) Nat Int (fun (as9 : (List Int)) => (fun (i10 : Nat) => (@LT.lt Nat @instLTNat i10 (List.length as9)))) (@List.instGetElem?NatLtLength Int) h0 (Int.toNat v8)) fun (v9 : Int) =>
   (X (((@Int.fdiv n0 (@HPow.hPow Int Nat Int (@instHPow Int Nat (@instPowNat Int @Int.instNatPow)) (2 : Int) (@Min.min Nat @instMinNat (Int.toNat (8 : Int)) (@IntKind.bits @IntKind.u64)))), (width1, (little2, (x19, ((IntKind.wrap .i64 (x20 + (1 : Int))), @Unit.unit))))), ((@List.set Int h0 (Int.toNat v8) (IntKind.wrap .u8 n0)), @Unit.unit)))
  else
   none
 else
  some ((@Unit.unit, (h0, @Unit.unit)))
noncomputable def octs_Put_L5_R (N : Nat) (c : (((Int) × ((Int) × ((Bool) × ((Int) × ((Int) × Unit))))) × ((List (Int)) × Unit))) : Option ((Unit × ((List (Int)) × Unit))) := gl (fun X c => octs_Put_L5 N X c.1.1 c.1.2.1 c.1.2.2.1 c.1.2.2.2.1 c.1.2.2.2.2.1 c.2.1) N c
theorem octs_Put_L5_S (N : Nat) (X : (((Int) × ((Int) × ((Bool) × ((Int) × ((Int) × Unit))))) × ((List (Int)) × Unit)) → Option ((Unit × ((List (Int)) × Unit)))) (n0 : Int) (width1 : Int) (little2 : Bool) (x19 : Int) (x20 : Int) (h0 : List (Int)) : (roundK Go.Proofs.Tryd.prog (Ev2 N) 400 [55] octs_Put_L5_I (loopAt Go.Proofs.Tryd.prog [55] 5) X ((n0, width1, little2, x19, x20, ()), (h0, ()))).run = octs_Put_L5 N X n0 width1 little2 x19 x20 h0 := by kernel_rfl
noncomputable def Ev3 (N : Nat) : (R : Type) → Env R := Env.addLp (Ev2 N) [55] 0 5 (fun R => lpK Go.Proofs.Tryd.prog octs_Put_L5_I (fun X c => octs_Put_L5 N X c.1.1 c.1.2.1 c.1.2.2.1 c.1.2.2.2.1 c.1.2.2.2.2.1 c.2.1) N)
theorem Ev3_ok (N : Nat) (R : Type) : EnvOK Go.Proofs.Tryd.prog (Ev3 N R) := EnvOK.addLp (Ev2_ok N R) (by kernel_rfl) (lpK_ok (li := octs_Put_L5_I) (G := fun X c => octs_Put_L5 N X c.1.1 c.1.2.1 c.1.2.2.1 c.1.2.2.2.1 c.1.2.2.2.2.1 c.2.1) hmx (Ev2_ok N _) (by kernel_rfl) loopAt_sub (fun (X : CT octs_Put_L5_I.sh → Option (OT octs_Put_L5_I.outs)) (c : CT octs_Put_L5_I.sh) => octs_Put_L5_S N X c.1.1 c.1.2.1 c.1.2.2.1 c.1.2.2.2.1 c.1.2.2.2.2.1 c.2.1) N)
noncomputable def octs_Put (N : Nat) (n0 : Int) (width1 : Int) (little2 : Bool) : Option ((List (Int)) × Int) :=
 Option.bind (bif (decide (width1 < (1 : Int))) then
   some (@Bool.true)
  else
   some ((@cond Bool @Bool.false @Bool.true (decide ((8 : Int) < width1))))) fun (v4 : Bool) =>
 bif v4 then
  some ((([] : List (Int)), (1 : Int)))
 else
  bif ((decide ((0 : Int) ≤ width1 ∧ width1 ≤ width1)) && (roomB (Int.toNat width1) 1)) then
   Option.bind (octs_Put_L5_R N ((n0, (width1, (little2, ((((List.length (@List.replicate Int (Int.toNat width1) (0 : Int))) : Nat) : Int), ((0 : Int), @Unit.unit))))), ((@List.replicate Int (Int.toNat width1) (0 : Int)), @Unit.unit))) fun (v5 : (Unit × ((List Int) × Unit))) =>
   some ((v5.2.1, (0 : Int)))
  else
   none
theorem octs_Put_S (N : Nat) (n0 : Int) (width1 : Int) (little2 : Bool) : (runK Go.Proofs.Tryd.prog (Ev3 N) 400 55 [(.int .u64), (.int .i64), .bool] [(.sl (.int .u8)), (.int .i64)] (n0, width1, little2, ())).run = octs_Put N n0 width1 little2 := by kernel_rfl
noncomputable def Ev4 (N : Nat) : (R : Type) → Env R := Env.addFn (Ev3 N) 55 (fun R => fnK [(.int .u64), (.int .i64), .bool] [(.sl (.int .u8)), (.int .i64)] (fun c => octs_Put N c.1 c.2.1 c.2.2.1))
theorem Ev4_ok (N : Nat) (R : Type) : EnvOK Go.Proofs.Tryd.prog (Ev4 N R) := EnvOK.addFn hmx (Ev3_ok N R) (Ev3_ok N _) (by kernel_rfl) (fun c => octs_Put_S N c.1 c.2.1 c.2.2.1)
noncomputable def octs_Get_L5_I : LI := ⟨37, 0, [], ⟨[(0, .ty (.sl (.int .u8))), (1, .ty .bool), (6, .ty (.int .u64)), (17, .ty (.int .i64)), (18, .ty (.int .i64))], []⟩, [(.exit 0, ⟨[(6, .ty (.int .u64))], []⟩)]⟩
noncomputable def octs_Get_L5 (N : Nat) (X : (((List (Int)) × ((Bool) × ((Int) × ((Int) × ((Int) × Unit))))) × Unit) → Option ((((Int) × Unit) × Unit))) (b0 : List (Int)) (little1 : Bool) (n6 : Int) (x17 : Int) (x18 : Int) : Option ((((Int) × Unit) × Unit)) :=
 bif (decide (x18 < x17)) then
  Option.bind (@octs_place N x18 (((List.length b0) : Nat) : Int) little1) fun (v7 : Int) =>
  Option.bind (getI b0 v7) fun (v8 : Int) =>
  bif (decide ((0 : Int) ≤ (IntKind.wrap .i64 ((8 : Int) * x18)))) then
   (X ((b0, (little1, ((@Go.bits @Go.BinOp.or @IntKind.u64 n6 (IntKind.wrap .u64 ((IntKind.wrap .u64 v8) * (@HPow.hPow Int Nat Int (@instHPow Int Nat (@instPowNat Int @Int.instNatPow)) (2 : Int) (@Min.min Nat @instMinNat (Int.toNat (IntKind.wrap .i64 ((8 : Int) * x18))) (@IntKind.bits @IntKind.u64)))))), (x17, ((IntKind.wrap .i64 (x18 + (1 : Int))), @Unit.unit))))), @Unit.unit))
  else
   none
 else
  some (((n6, @Unit.unit), @Unit.unit))
noncomputable def octs_Get_L5_R (N : Nat) (c : (((List (Int)) × ((Bool) × ((Int) × ((Int) × ((Int) × Unit))))) × Unit)) : Option ((((Int) × Unit) × Unit)) := gl (fun X c => octs_Get_L5 N X c.1.1 c.1.2.1 c.1.2.2.1 c.1.2.2.2.1 c.1.2.2.2.2.1) N c
theorem octs_Get_L5_S (N : Nat) (X : (((List (Int)) × ((Bool) × ((Int) × ((Int) × ((Int) × Unit))))) × Unit) → Option ((((Int) × Unit) × Unit))) (b0 : List (Int)) (little1 : Bool) (n6 : Int) (x17 : Int) (x18 : Int) : (roundK Go.Proofs.Tryd.prog (Ev4 N) 400 [48] octs_Get_L5_I (loopAt Go.Proofs.Tryd.prog [48] 5) X ((b0, little1, n6, x17, x18, ()), ())).run = octs_Get_L5 N X b0 little1 n6 x17 x18 := by kernel_rfl
noncomputable def Ev5 (N : Nat) : (R : Type) → Env R := Env.addLp (Ev4 N) [48] 0 5 (fun R => lpK Go.Proofs.Tryd.prog octs_Get_L5_I (fun X c => octs_Get_L5 N X c.1.1 c.1.2.1 c.1.2.2.1 c.1.2.2.2.1 c.1.2.2.2.2.1) N)
theorem Ev5_ok (N : Nat) (R : Type) : EnvOK Go.Proofs.Tryd.prog (Ev5 N R) := EnvOK.addLp (Ev4_ok N R) (by kernel_rfl) (lpK_ok (li := octs_Get_L5_I) (G := fun X c => octs_Get_L5 N X c.1.1 c.1.2.1 c.1.2.2.1 c.1.2.2.2.1 c.1.2.2.2.2.1) hmx (Ev4_ok N _) (by kernel_rfl) loopAt_sub (fun (X : CT octs_Get_L5_I.sh → Option (OT octs_Get_L5_I.outs)) (c : CT octs_Get_L5_I.sh) => octs_Get_L5_S N X c.1.1 c.1.2.1 c.1.2.2.1 c.1.2.2.2.1 c.1.2.2.2.2.1) N)
noncomputable def octs_Get (N : Nat) (b0 : List (Int)) (little1 : Bool) : Option ((Int) × Int) :=
 bif (decide ((((List.length b0) : Nat) : Int) < (1 : Int))) then
  some (((0 : Int), (1 : Int)))
 else
  Option.bind (some ((@cond Bool @Bool.false @Bool.true (decide ((8 : Int) < (((List.length b0) : Nat) : Int)))))) fun (v3 : Bool) =>
  bif v3 then
   some (((0 : Int), (1 : Int)))
  else
   Option.bind (octs_Get_L5_R N ((b0, (little1, ((0 : Int), ((((List.length b0) : Nat) : Int), ((0 : Int), @Unit.unit))))), @Unit.unit)) fun (v4 : ((Int × Unit) × Unit)) =>
   some ((v4.1.1, (0 : Int)))
theorem octs_Get_S (N : Nat) (b0 : List (Int)) (little1 : Bool) : (runK Go.Proofs.Tryd.prog (Ev5 N) 400 48 [(.sl (.int .u8)), .bool] [(.int .u64), (.int .i64)] (b0, little1, ())).run = octs_Get N b0 little1 := by kernel_rfl
noncomputable def Ev6 (N : Nat) : (R : Type) → Env R := Env.addFn (Ev5 N) 48 (fun R => fnK [(.sl (.int .u8)), .bool] [(.int .u64), (.int .i64)] (fun c => octs_Get N c.1 c.2.1))
theorem Ev6_ok (N : Nat) (R : Type) : EnvOK Go.Proofs.Tryd.prog (Ev6 N R) := EnvOK.addFn hmx (Ev5_ok N R) (Ev5_ok N _) (by kernel_rfl) (fun c => octs_Get_S N c.1 c.2.1)
noncomputable def opts_Find_1_slices_IndexFunc_api_Option_api_Option_L2_I : LI := ⟨19, 2, [], ⟨[(0, .ty (.sl (.pair (.int .u8) (.sl (.int .u8))))), (1, .lit (.clo 46 [.box 0 0])), (7, .ty (.int .i64)), (8, .ty (.int .i64))], [.box 5 (.int .u8), .box 60 (.pair (.int .u8) (.sl (.int .u8)))]⟩, [(.ret, ⟨[(4, .ty (.int .i64))], [.box 5 (.int .u8), .box 60 (.pair (.int .u8) (.sl (.int .u8)))]⟩), (.exit 0, ⟨[], [.box 5 (.int .u8), .box 60 (.pair (.int .u8) (.sl (.int .u8)))]⟩)]⟩
noncomputable def opts_Find_1_slices_IndexFunc_api_Option_api_Option_L2 (N : Nat) (X : (((List ((Int) × (List (Int)))) × ((Int) × ((Int) × Unit))) × ((Int) × (((Int) × (List (Int))) × Unit))) → Option (((((Int) × Unit) × ((Int) × (((Int) × (List (Int))) × Unit))) ⊕ (Unit × ((Int) × (((Int) × (List (Int))) × Unit)))))) (s0 : List ((Int) × (List (Int)))) (x7 : Int) (x8 : Int) (h0 : Int) (h1 : (Int) × (List (Int))) : Option (((((Int) × Unit) × ((Int) × (((Int) × (List (Int))) × Unit))) ⊕ (Unit × ((Int) × (((Int) × (List (Int))) × Unit))))) :=
 bif (decide (x8 < x7)) then
  Option.bind (getI s0 x8) fun (v7 : (Int × (List Int))) =>
  bif (decide (v7.1 = h0)) then
   some ((.inl ((x8, @Unit.unit), (h0, ((h1.1, h1.2), @Unit.unit)))))
  else
   (X ((s0, (x7, ((IntKind.wrap .i64 (x8 + (1 : Int))), @Unit.unit))), (h0, ((h1.1, h1.2), @Unit.unit))))
 else
  some ((.inr (@Unit.unit, (h0, ((h1.1, h1.2), @Unit.unit)))))
noncomputable def opts_Find_1_slices_IndexFunc_api_Option_api_Option_L2_R (N : Nat) (c : (((List ((Int) × (List (Int)))) × ((Int) × ((Int) × Unit))) × ((Int) × (((Int) × (List (Int))) × Unit)))) : Option (((((Int) × Unit) × ((Int) × (((Int) × (List (Int))) × Unit))) ⊕ (Unit × ((Int) × (((Int) × (List (Int))) × Unit))))) := gl (fun X c => opts_Find_1_slices_IndexFunc_api_Option_api_Option_L2 N X c.1.1 c.1.2.1 c.1.2.2.1 c.2.1 c.2.2.1) N c
theorem opts_Find_1_slices_IndexFunc_api_Option_api_Option_L2_S (N : Nat) (X : (((List ((Int) × (List (Int)))) × ((Int) × ((Int) × Unit))) × ((Int) × (((Int) × (List (Int))) × Unit))) → Option (((((Int) × Unit) × ((Int) × (((Int) × (List (Int))) × Unit))) ⊕ (Unit × ((Int) × (((Int) × (List (Int))) × Unit)))))) (s0 : List ((Int) × (List (Int)))) (x7 : Int) (x8 : Int) (h0 : Int) (h1 : (Int) × (List (Int))) : (roundK Go.Proofs.Tryd.prog (Ev6 N) 400 [45, 1, 25] opts_Find_1_slices_IndexFunc_api_Option_api_Option_L2_I (loopAt Go.Proofs.Tryd.prog [45, 1, 25] 2) X ((s0, x7, x8, ()), (h0, h1, ()))).run = opts_Find_1_slices_IndexFunc_api_Option_api_Option_L2 N X s0 x7 x8 h0 h1 := by kernel_rfl
noncomputable def Ev7 (N : Nat) : (R : Type) → Env R := Env.addLp (Ev6 N) [45, 1, 25] 2 2 (fun R => lpK Go.Proofs.Tryd.prog opts_Find_1_slices_IndexFunc_api_Option_api_Option_L2_I (fun X c => opts_Find_1_slices_IndexFunc_api_Option_api_Option_L2 N X c.1.1 c.1.2.1 c.1.2.2.1 c.2.1 c.2.2.1) N)
theorem Ev7_ok (N : Nat) (R : Type) : EnvOK Go.Proofs.Tryd.prog (Ev7 N R) := EnvOK.addLp (Ev6_ok N R) (by kernel_rfl) (lpK_ok (li := opts_Find_1_slices_IndexFunc_api_Option_api_Option_L2_I) (G := fun X c => opts_Find_1_slices_IndexFunc_api_Option_api_Option_L2 N X c.1.1 c.1.2.1 c.1.2.2.1 c.2.1 c.2.2.1) hmx (Ev6_ok N _) (by kernel_rfl) loopAt_sub (fun (X : CT opts_Find_1_slices_IndexFunc_api_Option_api_Option_L2_I.sh → Option (OT opts_Find_1_slices_IndexFunc_api_Option_api_Option_L2_I.outs)) (c : CT opts_Find_1_slices_IndexFunc_api_Option_api_Option_L2_I.sh) => opts_Find_1_slices_IndexFunc_api_Option_api_Option_L2_S N X c.1.1 c.1.2.1 c.1.2.2.1 c.2.1 c.2.2.1) N)
noncomputable def Ev8 (N : Nat) : (R : Type) → Env R := Env.addBx (Ev7 N) [(47, 0)]
theorem Ev8_ok (N : Nat) (R : Type) : EnvOK Go.Proofs.Tryd.prog (Ev8 N R) := EnvOK.addBx (Ev7_ok N R) [(47, 0)]
noncomputable def slices_Clone_byte_byte_ne (N : Nat) (s0 : List (Int)) : Option (List (Int)) :=
 bif (@List.isEmpty Int s0) then
  none
 else
  bif (roomB (List.length s0) 1) then
   some (s0)
  else
   none
theorem slices_Clone_byte_byte_ne_S (N : Nat) (s0 : List (Int)) : (runK Go.Proofs.Tryd.prog (Ev8 N) 400 24 [(.sl (.int .u8))] [(.sl (.int .u8))] (s0, ())).run = slices_Clone_byte_byte_ne N s0 := by kernel_rfl
theorem slices_Clone_byte_byte_n1 (N : Nat) (c : Nat) : (runV Go.Proofs.Tryd.prog (Ev8 N) 400 24 [.c (.slice none 0 c)] [(.sl (.int .u8))]).run = some [] := by kernel_rfl
theorem slices_Clone_byte_byte_n2 (N : Nat) (A : Addr) (c : Nat) : (runV Go.Proofs.Tryd.prog (Ev8 N) 400 24 [.c (.slice (some A) 0 c)] [(.sl (.int .u8))]).run = some [] := by kernel_rfl
noncomputable def slices_Clone_byte_byte (N : Nat) (s0 : List (Int)) : Option (List (Int)) := bif s0.isEmpty then some [] else slices_Clone_byte_byte_ne N s0
noncomputable def Ev9 (N : Nat) : (R : Type) → Env R := Env.addFn (Ev8 N) 24 (fun R => fnK [(.sl (.int .u8))] [(.sl (.int .u8))] (fun c => slices_Clone_byte_byte N c.1))
theorem Ev9_ok (N : Nat) (R : Type) : EnvOK Go.Proofs.Tryd.prog (Ev9 N R) := EnvOK.addNil hmx (Ev8_ok N R) (Ev8_ok N _) (by kernel_rfl) (fun c => slices_Clone_byte_byte_ne_S N c.1) (slices_Clone_byte_byte_n1 N) (slices_Clone_byte_byte_n2 N)
noncomputable def opts_clone (N : Nat) (o0 : (Int) × (List (Int))) : Option ((Int) × (List (Int))) :=
 Option.bind (@slices_Clone_byte_byte N o0.2) fun (v2 : (List Int)) =>
 some ((o0.1, v2))
theorem opts_clone_S (N : Nat) (o0 : (Int) × (List (Int))) : (runK Go.Proofs.Tryd.prog (Ev9 N) 400 47 [(.pair (.int .u8) (.sl (.int .u8)))] [(.pair (.int .u8) (.sl (.int .u8)))] (o0, ())).run = opts_clone N o0 := by kernel_rfl
noncomputable def Ev10 (N : Nat) : (R : Type) → Env R := Env.addFn (Ev9 N) 47 (fun R => fnK [(.pair (.int .u8) (.sl (.int .u8)))] [(.pair (.int .u8) (.sl (.int .u8)))] (fun c => opts_clone N c.1))
theorem Ev10_ok (N : Nat) (R : Type) : EnvOK Go.Proofs.Tryd.prog (Ev10 N R) := EnvOK.addFn hmx (Ev9_ok N R) (Ev9_ok N _) (by kernel_rfl) (fun c => opts_clone_S N c.1)
noncomputable def opts_Find (N : Nat) (l0 : List ((Int) × (List (Int)))) (kind1 : Int) : Option (((Int) × (List (Int))) × Bool) :=
 Option.bind (opts_Find_1_slices_IndexFunc_api_Option_api_Option_L2_R N ((l0, ((((List.length l0) : Nat) : Int), ((0 : Int), @Unit.unit))), (kind1, (((0 : Int), ([] : List (Int))), @Unit.unit)))) fun (v3 : (((Int × Unit) × (Int × ((Int × (List Int)) × Unit))) ⊕ (Unit × (Int × ((Int × (List Int)) × Unit))))) =>
 Sum.elim
  (fun (v4 : ((Int × Unit) × (Int × ((Int × (List Int)) × Unit)))) =>
  bif (decide (v4.1.1 < (0 : Int))) then
   some ((((0 : Int), ([] : List (Int))), @Bool.false))
  else
   Option.bind (getI l0 v4.1.1) fun (v5 : (Int × (List Int))) =>
   Option.bind (@opts_clone N (v5.1, v5.2)) fun (v6 : (Int × (List Int))) =>
   some (((v6.1, v6.2), @Bool.true)))
  (fun (v4 : (Unit × (Int × ((Int × (List Int)) × Unit)))) =>
  some ((((0 : Int), ([] : List (Int))), @Bool.false))) v3
theorem opts_Find_S (N : Nat) (l0 : List ((Int) × (List (Int)))) (kind1 : Int) : (runK Go.Proofs.Tryd.prog (Ev10 N) 400 25 [(.sl (.pair (.int .u8) (.sl (.int .u8)))), (.int .u8)] [(.pair (.int .u8) (.sl (.int .u8))), .bool] (l0, kind1, ())).run = opts_Find N l0 kind1 := by kernel_rfl
noncomputable def Ev11 (N : Nat) : (R : Type) → Env R := Env.addFn (Ev10 N) 25 (fun R => fnK [(.sl (.pair (.int .u8) (.sl (.int .u8)))), (.int .u8)] [(.pair (.int .u8) (.sl (.int .u8))), .bool] (fun c => opts_Find N c.1 c.2.1))
theorem Ev11_ok (N : Nat) (R : Type) : EnvOK Go.Proofs.Tryd.prog (Ev11 N R) := EnvOK.addFn hmx (Ev10_ok N R) (Ev10_ok N _) (by kernel_rfl) (fun c => opts_Find_S N c.1 c.2.1)
noncomputable def ipcpo_laid (N : Nat) (a0 : Int) : Option (List (Int)) :=
 Option.bind (@octs_Put N (IntKind.wrap .u64 a0) (4 : Int) @Bool.false) fun (v2 : ((List Int) × Int)) =>
 some (v2.1)
theorem ipcpo_laid_S (N : Nat) (a0 : Int) : (runK Go.Proofs.Tryd.prog (Ev11 N) 400 40 [(.int .u32)] [(.sl (.int .u8))] (a0, ())).run = ipcpo_laid N a0 := by kernel_rfl
noncomputable def Ev12 (N : Nat) : (R : Type) → Env R := Env.addFn (Ev11 N) 40 (fun R => fnK [(.int .u32)] [(.sl (.int .u8))] (fun c => ipcpo_laid N c.1))
theorem Ev12_ok (N : Nat) (R : Type) : EnvOK Go.Proofs.Tryd.prog (Ev12 N R) := EnvOK.addFn hmx (Ev11_ok N R) (Ev11_ok N _) (by kernel_rfl) (fun c => ipcpo_laid_S N c.1)
noncomputable def ipcpo_option (N : Nat) (kind0 : Int) (a1 : Int) : Option ((Int) × (List (Int))) :=
 Option.bind (@ipcpo_laid N a1) fun (v3 : (List Int)) =>
 some ((kind0, v3))
theorem ipcpo_option_S (N : Nat) (kind0 : Int) (a1 : Int) : (runK Go.Proofs.Tryd.prog (Ev12 N) 400 29 [(.int .u8), (.int .u32)] [(.pair (.int .u8) (.sl (.int .u8)))] (kind0, a1, ())).run = ipcpo_option N kind0 a1 := by kernel_rfl
noncomputable def Ev13 (N : Nat) : (R : Type) → Env R := Env.addFn (Ev12 N) 29 (fun R => fnK [(.int .u8), (.int .u32)] [(.pair (.int .u8) (.sl (.int .u8)))] (fun c => ipcpo_option N c.1 c.2.1))
theorem Ev13_ok (N : Nat) (R : Type) : EnvOK Go.Proofs.Tryd.prog (Ev13 N R) := EnvOK.addFn hmx (Ev12_ok N R) (Ev12_ok N _) (by kernel_rfl) (fun c => ipcpo_option_S N c.1 c.2.1)
noncomputable def ipcpo_address (N : Nat) (data0 : List (Int)) : Option (Int) :=
 bif (!(decide ((((List.length data0) : Nat) : Int) = (4 : Int)))) then
  some ((0 : Int))
 else
  Option.bind (@octs_Get N data0 @Bool.false) fun (v2 : (Int × Int)) =>
  some ((IntKind.wrap .u32 v2.1))
theorem ipcpo_address_S (N : Nat) (data0 : List (Int)) : (runK Go.Proofs.Tryd.prog (Ev13 N) 400 28 [(.sl (.int .u8))] [(.int .u32)] (data0, ())).run = ipcpo_address N data0 := by kernel_rfl
noncomputable def Ev14 (N : Nat) : (R : Type) → Env R := Env.addFn (Ev13 N) 28 (fun R => fnK [(.sl (.int .u8))] [(.int .u32)] (fun c => ipcpo_address N c.1))
theorem Ev14_ok (N : Nat) (R : Type) : EnvOK Go.Proofs.Tryd.prog (Ev14 N R) := EnvOK.addFn hmx (Ev13_ok N R) (Ev13_ok N _) (by kernel_rfl) (fun c => ipcpo_address_S N c.1)
noncomputable def Ev15 (N : Nat) : (R : Type) → Env R := Env.addBx (Ev14 N) [(26, 0)]
theorem Ev15_ok (N : Nat) (R : Type) : EnvOK Go.Proofs.Tryd.prog (Ev15 N R) := EnvOK.addBx (Ev14_ok N R) [(26, 0)]
noncomputable def ipcpo_may (N : Nat) (s0 : (Bool) × ((Int) × ((Int) × ((Int) × (Bool))))) (o1 : (Int) × (List (Int))) : Option (Bool) :=
 bif (!(decide ((((List.length o1.2) : Nat) : Int) = (4 : Int)))) then
  some (@Bool.false)
 else
  bif (!s0.1) then
   bif (decide (o1.1 = (3 : Int))) then
    Option.bind (@ipcpo_address N o1.2) fun (v3 : Int) =>
    Option.bind (some ((@cond Bool @Bool.true (!(decide (v3 = (0 : Int)))) @Bool.false))) fun (v4 : Bool) =>
    some (v4)
   else
    some (@Bool.false)
  else
   Option.bind (bif (decide (o1.1 = (3 : Int))) then
     some (@Bool.true)
    else
     bif (decide (o1.1 = (129 : Int))) then
      some ((@cond Bool @Bool.false @Bool.true (@cond Bool @Bool.true (!(decide (s0.2.2.2.1 = (0 : Int)))) @Bool.false)))
     else
      some ((@cond Bool @Bool.false @Bool.true @Bool.false))) fun (v3 : Bool) =>
   some (v3)
theorem ipcpo_may_S (N : Nat) (s0 : (Bool) × ((Int) × ((Int) × ((Int) × (Bool))))) (o1 : (Int) × (List (Int))) : (runK Go.Proofs.Tryd.prog (Ev15 N) 400 26 [(.pair .bool (.pair (.int .u32) (.pair (.int .u32) (.pair (.int .u32) .bool)))), (.pair (.int .u8) (.sl (.int .u8)))] [.bool] (s0, o1, ())).run = ipcpo_may N s0 o1 := by kernel_rfl
noncomputable def Ev16 (N : Nat) : (R : Type) → Env R := Env.addFn (Ev15 N) 26 (fun R => fnK [(.pair .bool (.pair (.int .u32) (.pair (.int .u32) (.pair (.int .u32) .bool)))), (.pair (.int .u8) (.sl (.int .u8)))] [.bool] (fun c => ipcpo_may N c.1 c.2.1))
theorem Ev16_ok (N : Nat) (R : Type) : EnvOK Go.Proofs.Tryd.prog (Ev16 N R) := EnvOK.addFn hmx (Ev15_ok N R) (Ev15_ok N _) (by kernel_rfl) (fun c => ipcpo_may_S N c.1 c.2.1)
noncomputable def Ev17 (N : Nat) : (R : Type) → Env R := Env.addBx (Ev16 N) [(27, 0)]
theorem Ev17_ok (N : Nat) (R : Type) : EnvOK Go.Proofs.Tryd.prog (Ev17 N R) := EnvOK.addBx (Ev16_ok N R) [(27, 0)]
noncomputable def ipcpo_gives (N : Nat) (s0 : (Bool) × ((Int) × ((Int) × ((Int) × (Bool))))) (kind1 : Int) : Option (Int) :=
 bif (decide (kind1 = (129 : Int))) then
  some (s0.2.2.2.1)
 else
  some (s0.2.2.1)
theorem ipcpo_gives_S (N : Nat) (s0 : (Bool) × ((Int) × ((Int) × ((Int) × (Bool))))) (kind1 : Int) : (runK Go.Proofs.Tryd.prog (Ev17 N) 400 27 [(.pair .bool (.pair (.int .u32) (.pair (.int .u32) (.pair (.int .u32) .bool)))), (.int .u8)] [(.int .u32)] (s0, kind1, ())).run = ipcpo_gives N s0 kind1 := by kernel_rfl
noncomputable def Ev18 (N : Nat) : (R : Type) → Env R := Env.addFn (Ev17 N) 27 (fun R => fnK [(.pair .bool (.pair (.int .u32) (.pair (.int .u32) (.pair (.int .u32) .bool)))), (.int .u8)] [(.int .u32)] (fun c => ipcpo_gives N c.1 c.2.1))
theorem Ev18_ok (N : Nat) (R : Type) : EnvOK Go.Proofs.Tryd.prog (Ev18 N R) := EnvOK.addFn hmx (Ev17_ok N R) (Ev17_ok N _) (by kernel_rfl) (fun c => ipcpo_gives_S N c.1 c.2.1)
noncomputable def Ev19 (N : Nat) : (R : Type) → Env R := Env.addMv (Ev18 N) [(21, 5)]
theorem Ev19_ok (N : Nat) (R : Type) : EnvOK Go.Proofs.Tryd.prog (Ev19 N R) := EnvOK.addMv (Ev18_ok N R) [(21, 5)]
noncomputable def Ev20 (N : Nat) : (R : Type) → Env R := Env.addFn (Ev19 N) 41 (fun R => itK)
theorem Ev20_ok (N : Nat) (R : Type) : EnvOK Go.Proofs.Tryd.prog (Ev20 N R) := EnvOK.addExt (Ev19_ok N R) it_ok
noncomputable def ipcpo_Text_L3_I : LI := ⟨22, 0, [(3, 9)], ⟨[(3, .lit (.own 0)), (7, .ty (.sl (.int .u8))), (8, .ty (.int .i64)), (9, .ty (.int .i64))], [.own .str 9]⟩, [(.exit 0, ⟨[(3, .lit (.own 0))], [.own .str 9]⟩)]⟩
noncomputable def ipcpo_Text_L3 (N : Nat) (X : (((List (Int)) × ((Int) × ((Int) × Unit))) × ((List (List UInt8)) × Unit)) → Option ((Unit × ((List (List UInt8)) × Unit)))) (x7 : List (Int)) (x8 : Int) (x9 : Int) (h0 : List (List UInt8)) : Option ((Unit × ((List (List UInt8)) × Unit))) :=
 bif (decide (x9 < x8)) then
  Option.bind (getI x7 x9) fun (v6 : Int) =>
  bif (decide ((-9223372036854775808 : Int) ≤ (IntKind.wrap .i64 v6) ∧ (IntKind.wrap .i64 v6) ≤ (9223372036854775807 : Int))) then
   bif (roomB ((List.length h0) + (List.length ([(@Go.Lib.itoa (IntKind.wrap .i64 v6))] : List ((List UInt8))))) 16) then
    (X ((x7, (x8, ((IntKind.wrap .i64 (x9 + (1 : Int))), @Unit.unit))), ((h0 ++ ([(@Go.Lib.itoa (IntKind.wrap .i64 v6))] : List ((List UInt8)))), @Unit.unit)))
   else
    none
  else
   none
 else
  some ((@Unit.unit, (h0, @Unit.unit)))
noncomputable def ipcpo_Text_L3_R (N : Nat) (c : (((List (Int)) × ((Int) × ((Int) × Unit))) × ((List (List UInt8)) × Unit))) : Option ((Unit × ((List (List UInt8)) × Unit))) := gl (fun X c => ipcpo_Text_L3 N X c.1.1 c.1.2.1 c.1.2.2.1 c.2.1) N c
theorem ipcpo_Text_L3_S (N : Nat) (X : (((List (Int)) × ((Int) × ((Int) × Unit))) × ((List (List UInt8)) × Unit)) → Option ((Unit × ((List (List UInt8)) × Unit)))) (x7 : List (Int)) (x8 : Int) (x9 : Int) (h0 : List (List UInt8)) : (roundK Go.Proofs.Tryd.prog (Ev20 N) 400 [21] ipcpo_Text_L3_I (loopAt Go.Proofs.Tryd.prog [21] 3) X ((x7, x8, x9, ()), (h0, ()))).run = ipcpo_Text_L3 N X x7 x8 x9 h0 := by kernel_rfl
noncomputable def Ev21 (N : Nat) : (R : Type) → Env R := Env.addLp (Ev20 N) [21] 0 3 (fun R => lpK Go.Proofs.Tryd.prog ipcpo_Text_L3_I (fun X c => ipcpo_Text_L3 N X c.1.1 c.1.2.1 c.1.2.2.1 c.2.1) N)
theorem Ev21_ok (N : Nat) (R : Type) : EnvOK Go.Proofs.Tryd.prog (Ev21 N R) := EnvOK.addLp (Ev20_ok N R) (by kernel_rfl) (lpK_ok (li := ipcpo_Text_L3_I) (G := fun X c => ipcpo_Text_L3 N X c.1.1 c.1.2.1 c.1.2.2.1 c.2.1) hmx (Ev20_ok N _) (by kernel_rfl) loopAt_sub (fun (X : CT ipcpo_Text_L3_I.sh → Option (OT ipcpo_Text_L3_I.outs)) (c : CT ipcpo_Text_L3_I.sh) => ipcpo_Text_L3_S N X c.1.1 c.1.2.1 c.1.2.2.1 c.2.1) N)
noncomputable def Ev22 (N : Nat) : (R : Type) → Env R := Env.addFn (Ev21 N) 42 (fun R => jnK)
theorem Ev22_ok (N : Nat) (R : Type) : EnvOK Go.Proofs.Tryd.prog (Ev22 N R) := EnvOK.addExt (Ev21_ok N R) jn_ok
noncomputable def ipcpo_Text (N : Nat) (a0 : Int) : Option (List UInt8) :=
 Option.bind (@ipcpo_laid N a0) fun (v2 : (List Int)) =>
 Option.bind (ipcpo_Text_L3_R N ((v2, ((((List.length v2) : Nat) : Int), ((0 : Int), @Unit.unit))), (([] : List ((List UInt8))), @Unit.unit))) fun (v3 : (Unit × ((List (List UInt8)) × Unit))) =>
 bif (decide ((List.length v3.2.1) ≤ (140737488355328 : Nat) ∧ (List.length (@Go.Lib.join v3.2.1 (@Array.toList UInt8 (@List.toArray UInt8 ([(@OfNat.ofNat UInt8 (46 : Nat) (@UInt8.instOfNat (46 : Nat)))] : List (UInt8)))))) ≤ (140737488355328 : Nat))) then
  some ((@Go.Lib.join v3.2.1 (@Array.toList UInt8 (@List.toArray UInt8 ([(@OfNat.ofNat UInt8 (46 : Nat) (@UInt8.instOfNat (46 : Nat)))] : List (UInt8))))))
 else
  none
theorem ipcpo_Text_S (N : Nat) (a0 : Int) : (runK Go.Proofs.Tryd.prog (Ev22 N) 400 21 [(.int .u32)] [.str] (a0, ())).run = ipcpo_Text N a0 := by kernel_rfl
theorem ipcpo_Text_C (N : Nat) (a0 : Int) (y : List UInt8) (h : ipcpo_Text N a0 = some y) : CallsK Go.Proofs.Tryd.prog 21 (valA [(.int .u32)] (a0, ())) (tupV (valR [.str] y)) := runK_ok hmx (Ev22_ok N _) (okFn_ok (by kernel_rfl)) (by rw [ipcpo_Text_S]; exact h)
noncomputable def Ev23 (N : Nat) : (R : Type) → Env R := Env.addFn (Ev22 N) 21 (fun R => fnK [(.int .u32)] [.str] (fun c => ipcpo_Text N c.1))
theorem Ev23_ok (N : Nat) (R : Type) : EnvOK Go.Proofs.Tryd.prog (Ev23 N R) := EnvOK.addFn hmx (Ev22_ok N R) (Ev22_ok N _) (by kernel_rfl) (fun c => ipcpo_Text_S N c.1)
end Go.Proofs.YtkigpcolmioibaaDoor.Jg
namespace Go.Proofs.YtkigpcolmioibaaDoor
set_option maxRecDepth 100000
open Go.RowKit
set_option linter.unusedVariables false
def cL : Code → Code
 | .seq a _ => a
 | c => c
def cR : Code → Code
 | .seq _ b => b
 | c => c
def cB : Code → Code
 | .block _ c => c
 | c => c
def rfA : Code → Code
 | .rangeFunc _ _ a _ => a
 | c => c
def rfB : Code → Code
 | .rangeFunc _ _ _ b => b
 | c => c
def rOps : Code → Array Oper
 | .region _ ops _ => ops
 | _ => #[]
def bodyC (fn : Func) : Code := fn.body.getD .skip
noncomputable def fstC : Code := bodyC Tryd.f36
noncomputable def fstP : List Code := [cL fstC]
noncomputable def fstRc : Code := cL (cL (cR fstC))
noncomputable def fstRf : Code := cB (cR (cL (cR fstC)))
noncomputable def fstS : Code := cR (cR fstC)
noncomputable def fstE (N : Nat) : (R : Type) → Env R := Env.addBx (Jg.Ev18 N) [(36, 0)]
abbrev fstSl : List (Nat × SSh) := [(0, .ty (.sl OD)), (3, .adr (.int .u8)), (4, .lit (.box 0 0))]
abbrev fstA : List HSh := [.box 31 (.int .u32)]
noncomputable def fstSl1 (l : List (T OD)) (kind : Int) (k : Nat) : List V := (stOf ⟨fstSl, fstA⟩ 22 ((l, kind, ()), (0, ()))).slots.set 9 (valV OD (l.getD k (0, [])))
noncomputable def jdgC : Code := bodyC Tryd.f8
noncomputable def jdgP : List Code := [cL jdgC, cL (cR jdgC)]
noncomputable def jdgRc : Code := cL (cL (cR (cR jdgC)))
noncomputable def jdgRf : Code := cB (cR (cL (cR (cR jdgC))))
noncomputable def jdgS : Code := cR (cR (cR jdgC))
abbrev SD : Td := .pair .bool (.pair (.int .u32) (.pair (.int .u32) (.pair (.int .u32) .bool)))
noncomputable def jdgE (N : Nat) : (R : Type) → Env R := Env.addBx (Jg.Ev18 N) [(8, 0)]
abbrev jdgSl : List (Nat × SSh) := [(2, .adr SD), (3, .adr (.sl OD)), (6, .lit (.box 0 0)), (7, .lit (.box 1 0)), (8, .lit (.box 2 0))]
abbrev jdgA : List HSh := [.boxp 28 [.own 3], .boxp 28 [.own 4], .boxp 28 [.own 5], .own OD 60, .own OD 60, .own OD 60]
noncomputable def jdgSl1 (s : T SD) (l : List (T OD)) (k : Nat) : List V := ((stOf ⟨jdgSl, jdgA⟩ 77 ((s, l, ()), ([], [], [], ()))).slots.set 16 (.c (.int .i64 k))).set 17 (valV OD (l.getD k (0, [])))
end Go.Proofs.YtkigpcolmioibaaDoor
namespace Go.Proofs.YtkigpcolmioibaaDoor
set_option maxRecDepth 100000
open Go.RowKit
set_option linter.unusedVariables false
set_option maxRecDepth 100000
theorem fnK_ext {R : Type} {P : Program} {f : FuncId} {ds rs : List Td} {g : HL ds → Option (RT rs)} {inl : FuncId → Bool} (hok : okFn P inl f rs = true) (hX : ∀ c y, g c = some y → CallsK P f (valA ds c) (tupV (valR rs y))) :
    ∀ args (k : V → Tree R) res, (fnK ds rs g args k).run = some res → ∃ r, (k r).run = some res ∧ r.plain = true ∧ (∀ l k, ex r ≠ .fresh l k) ∧ CallsV P f args r := by
  intro args k res hc
  have := (EnvOK.addSelf (Γ := env0) (env0_ok (P := P) R) hok hX).fns.ok f args k res
  simp only [Env.addFn, if_true] at this
  exact this hc
noncomputable def fst_rd (N : Nat) (kind : Int) (o : T OD) (d : HL (tdsH fstA)) : Option (HL (tdsH fstA) ⊕ HL (tdsH fstA)) :=
 Option.bind (Jg.ipcpo_address N o.2) fun (v5 : Int) =>
 Option.bind (bif (decide (o.1 = kind)) then
   some ((@cond Bool Bool.true (!(decide (v5 = (0 : Int)))) Bool.false))
  else
   some (Bool.false)) fun (v6 : Bool) =>
 bif v6 then
  some (Sum.inr (v5, ()))
 else
  some (Sum.inl (d.1, ()))
theorem fst_rd_S (N : Nat) (l : List (T OD)) (kind : Int) (k : Nat) (d : HL (tdsH fstA)) : (rndT (A := fstA) (A' := fstA) Tryd.prog (fstE N _) 400 [36] 1 22 [] (rfA fstRf) (rfB fstRf) ⟨fstSl1 l kind k, encH fstA d⟩).run = fst_rd N kind (l.getD k (0, [])) d := by kernel_rfl
theorem fst_end_S (N : Nat) (l : List (T OD)) (kind : Int) (d : HL (tdsH fstA)) : (endT (rs := [.int .u32]) Tryd.prog (fstE N _) 400 36 Tryd.f36 fstS ⟨(stOf ⟨fstSl, fstA⟩ 22 ((l, kind, ()), (0, ()))).slots, encH fstA d⟩).run = some (0 : Int) := by kernel_rfl
theorem fst_ret_S (l : List (T OD)) (kind : Int) (d : HL (tdsH fstA)) : (retT Tryd.prog Tryd.f36 [.int .u32] ⟨(stOf ⟨fstSl, fstA⟩ 22 ((l, kind, ()), (0, ()))).slots, encH fstA d⟩).run = some d.1 := by kernel_rfl
noncomputable def ipcpo_first (N : Nat) (l : List (T OD)) (kind : Int) : Option Int :=
  bif decide (l.length ≤ 1000000000) then (rr (fun k d => fst_rd N kind (l.getD k (0, [])) d) l.length 0 (0, ())).bind (Sum.elim (fun _ => some 0) (fun d => some d.1)) else none
theorem encs1 (ps0 : Nat) (u : Value) (tmps : Array Value) : ((#[ps0] : Array Tmp).zip #[u]).foldl (fun t (p, v) => t.setIfInBounds p v) tmps = tmps.setIfInBounds ps0 u := by
  simp
theorem encs2 (p q : Nat) (u v : Value) (tmps : Array Value) : ((#[p, q] : Array Tmp).zip #[u, v]).foldl (fun t (p, v) => t.setIfInBounds p v) tmps = (tmps.setIfInBounds p u).setIfInBounds q v := by
  simp
theorem getD_some {l : List (T OD)} {k : Nat} {x : T OD} (h : l[k]? = some x) : l.getD k (0, []) = x := by
  rw [List.getD_eq_getElem?_getD, h]; rfl
set_option maxHeartbeats 1000000 in
theorem first_C (N : Nat) (c : HL [.sl OD, .int .u8]) (y : Int) (h : ipcpo_first N c.1 c.2.1 = some y) : CallsK Tryd.prog 36 (valA [.sl OD, .int .u8] c) (tupV (valR [.int .u32] y)) := by
  obtain ⟨l, kind, u⟩ := c
  unfold ipcpo_first at h
  simp only at h
  cases hll : decide (l.length ≤ 1000000000) with
  | false => rw [hll] at h; cases h
  | true =>
  rw [hll] at h
  simp only [cond_true] at h
  obtain ⟨o, ho, hy⟩ := Option.bind_eq_some_iff.1 h
  have hE : ∀ R, EnvOK Tryd.prog (fstE N R) := fun R => EnvOK.addBx (Jg.Ev18_ok N R) _
  refine rf_calls (A := fstA) (A' := fstA) (rs := [.int .u32]) (sls := fstSl) (fuel := 400) (m0 := 1) (n := 22) (fn := Tryd.f36) (pre := fstP) (rc := fstRc) (suf := fstS) (bid := 0) (ow := []) (g := .tmp 8) (ps := #[9]) (assign := rfA fstRf) (body := rfB fstRf) Jg.hmx (hE _) (hE _) (hE _)
    Tryd.func36 (by kernel_rfl) (fun h => by cases h) (fun i x hx => valA_vals _ _ i x hx) ?_ ⟨by kernel_rfl, by kernel_rfl⟩ (by kernel_rfl) (by kernel_rfl) (by kernel_rfl) (by kernel_rfl) (by kernel_rfl) (by kernel_rfl) (fun d => rfl) (fun d => rfl) (c0 := ((l, kind, ()), (0, ()))) (by kernel_rfl) (by kernel_rfl)
    (l := l) (of_decide_eq_true hll) (gf := 61) ?_ (enters_of Tryd.func61 (by kernel_rfl) rfl) (fun us k => #[.agg #[us (k * 2), us (k * 2 + 1)]]) (fun us k => rfl)
    (fun Bs b n cap A us w hlen hBl hBs hA => val_hands Bs b n cap A us w hlen hBl hBs hA) (fstSl1 l kind) ?_ (fun k d => fst_rd N kind (l.getD k (0, [])) d) (fun k d hk => fst_rd_S N l kind k d) ho ?_ ?_
  · intro c hc
    have : c = cL fstC := by simpa [fstP] using hc
    subst this
    exact ⟨by kernel_rfl, by kernel_rfl⟩
  · intro n0 Bx a w B η Q hs hQ
    exact rc_ok (P := Tryd.prog) (rid := 1) (ops := rOps fstRc) (o1 := (rOps fstRc).getD 0 default) (o2 := (rOps fstRc).getD 1 default) (l := l) (x1 := 7) (x2 := 8) (F := 51) (by kernel_rfl) (by kernel_rfl) (by kernel_rfl) (by kernel_rfl) (by kernel_rfl) (ts := #[28]) (by kernel_rfl) (by kernel_rfl)
      ⟨_, Tryd.func51, by decide +kernel, fun h => by
        have h2 : (Tryd.f51).body.isSome = true := by kernel_rfl
        rw [h] at h2
        cases h2⟩ (by kernel_rfl) (by kernel_rfl) (Nat.le_of_ble_eq_true (n := 8) (by kernel_rfl)) (Nat.le_of_ble_eq_true (n := 9) (by kernel_rfl)) (fun A len cap w => val_call A len cap w) n0 Bx a w B η Q hs hQ
  · intro us k x n0 W B η tmps hx hv hsl
    rw [encs1, fstSl1, getD_some hx]
    exact hsl.put hv (fun h => by cases h) 9
  · intro d hd
    subst hd
    rw [fst_end_S]
    simpa using hy
  · intro d hd
    subst hd
    rw [fst_ret_S]
    simpa using hy
noncomputable def fstK (N : Nat) {R : Type} : List V → (V → Tree R) → Tree R := fnK [.sl OD, .int .u8] [.int .u32] fun c => ipcpo_first N c.1 c.2.1
theorem fst_ok (N : Nat) {R : Type} : ∀ args (k : V → Tree R) res, (fstK N args k).run = some res → ∃ r, (k r).run = some res ∧ r.plain = true ∧ (∀ l k, ex r ≠ .fresh l k) ∧ CallsV Tryd.prog 36 args r :=
  fnK_ext (inl := fun _ => false) (by kernel_rfl) (first_C N)
noncomputable def jdg_rd (N : Nat) (s : T SD) (l : List (T OD)) (k : Nat) (o : T OD) (d : HL (tdsH jdgA)) : Option (HL (tdsH jdgA) ⊕ HL (tdsH [])) :=
 Option.bind (Jg.slices_Clone_byte_byte N o.2) fun (v5 : (List Int)) =>
 bif (roomB ((List.length d.1) + (List.length ([(o.1, v5)] : List ((Int × (List Int)))))) 32) then
  Option.bind (takeI l ((k : Nat) : Int)) fun (v6 : (List (Int × (List Int)))) =>
  Option.bind (Jg.opts_Find N v6 o.1) fun (v7 : ((Int × (List Int)) × Bool)) =>
  bif v7.2 then
   bif (roomB ((List.length d.2.1) + (List.length ([(o.1, v5)] : List ((Int × (List Int)))))) 32) then
    some (Sum.inl (d.1 ++ [(o.1, v5)], d.2.1 ++ [(o.1, v5)], d.2.2.1, ()))
   else
    none
  else
   Option.bind (Jg.ipcpo_may N (s.1, (s.2.1, (s.2.2.1, (s.2.2.2.1, s.2.2.2.2)))) (o.1, v5)) fun (v8 : Bool) =>
   Option.bind (some ((@cond Bool Bool.false Bool.true (!v8)))) fun (v9 : Bool) =>
   bif v9 then
    bif (roomB ((List.length d.2.1) + (List.length ([(o.1, v5)] : List ((Int × (List Int)))))) 32) then
     some (Sum.inl (d.1 ++ [(o.1, v5)], d.2.1 ++ [(o.1, v5)], d.2.2.1, ()))
    else
     none
   else
    Option.bind (Jg.ipcpo_gives N (s.1, (s.2.1, (s.2.2.1, (s.2.2.2.1, s.2.2.2.2)))) o.1) fun (v10 : Int) =>
    bif s.1 then
     Option.bind (Jg.ipcpo_address N v5) fun (v11 : Int) =>
     Option.bind (some ((@cond Bool Bool.true (!(decide (v11 = v10))) Bool.false))) fun (v12 : Bool) =>
     bif v12 then
      Option.bind (Jg.ipcpo_option N o.1 v10) fun (v13 : (Int × (List Int))) =>
      bif (roomB ((List.length d.2.2.1) + (List.length ([(v13.1, v13.2)] : List ((Int × (List Int)))))) 32) then
       some (Sum.inl (d.1 ++ [(o.1, v5)], d.2.1, d.2.2.1 ++ [(v13.1, v13.2)], ()))
      else
       none
     else
      some (Sum.inl (d.1 ++ [(o.1, v5)], d.2.1, d.2.2.1, ()))
    else
     some (Sum.inl (d.1 ++ [(o.1, v5)], d.2.1, d.2.2.1, ()))
 else
  none
theorem jdg_rd_S (N : Nat) (s : T SD) (l : List (T OD)) (k : Nat) (d : HL (tdsH jdgA)) : (rndT (A := jdgA) (A' := []) Tryd.prog (jdgE N _) 400 [8] 3 77 [] (rfA jdgRf) (rfB jdgRf) ⟨jdgSl1 s l k, encH jdgA d⟩).run = jdg_rd N s l k (l.getD k (0, [])) d := by kernel_rfl
def jdg_end (d : HL (tdsH jdgA)) : Option (Int × List (T OD)) :=
 bif (decide ((0 : Int) < (((List.length d.2.1) : Nat) : Int))) then
  some (((4 : Int), d.2.1))
 else
  bif (decide ((0 : Int) < (((List.length d.2.2.1) : Nat) : Int))) then
   some (((3 : Int), d.2.2.1))
  else
   some (((2 : Int), d.1))
theorem jdg_end_S (N : Nat) (s : T SD) (l : List (T OD)) (d : HL (tdsH jdgA)) : (endT (rs := [.int .u8, .sl OD]) Tryd.prog (jdgE N _) 400 8 Tryd.f8 jdgS ⟨(stOf ⟨jdgSl, jdgA⟩ 77 ((s, l, ()), ([], [], [], ()))).slots, encH jdgA d⟩).run = jdg_end d := by kernel_rfl
noncomputable def ipcpo_Judge (N : Nat) (s : T SD) (l : List (T OD)) : Option (Int × List (T OD)) :=
  bif decide (l.length ≤ 1000000000) then (rr (fun k d => jdg_rd N s l k (l.getD k (0, [])) d) l.length 0 ([], [], [], ())).bind (Sum.elim jdg_end (fun _ => none)) else none
set_option maxHeartbeats 1000000 in
theorem Judge_C (N : Nat) (c : HL [SD, .sl OD]) (y : Int × List (T OD)) (h : ipcpo_Judge N c.1 c.2.1 = some y) : CallsK Tryd.prog 8 (valA [SD, .sl OD] c) (tupV (valR [.int .u8, .sl OD] y)) := by
  obtain ⟨s, l, u⟩ := c
  unfold ipcpo_Judge at h
  simp only at h
  cases hll : decide (l.length ≤ 1000000000) with
  | false => rw [hll] at h; cases h
  | true =>
  rw [hll] at h
  simp only [cond_true] at h
  obtain ⟨o, ho, hy⟩ := Option.bind_eq_some_iff.1 h
  have hE : ∀ R, EnvOK Tryd.prog (jdgE N R) := fun R => EnvOK.addBx (Jg.Ev18_ok N R) _
  refine rf_calls (A := jdgA) (A' := []) (rs := [.int .u8, .sl OD]) (sls := jdgSl) (fuel := 400) (m0 := 3) (n := 77) (fn := Tryd.f8) (pre := jdgP) (rc := jdgRc) (suf := jdgS) (bid := 0) (ow := []) (g := .tmp 15) (ps := #[16, 17]) (assign := rfA jdgRf) (body := rfB jdgRf) Jg.hmx (hE _) (hE _) (hE _)
    Tryd.func8 (by kernel_rfl) (fun h => by cases h) (fun i x hx => valA_vals _ _ i x hx) ?_ ⟨by kernel_rfl, by kernel_rfl⟩ (by kernel_rfl) (by kernel_rfl) (by kernel_rfl) (by kernel_rfl) (by kernel_rfl) (by kernel_rfl) (fun d => rfl) (fun d => rfl) (c0 := ((s, l, ()), ([], [], [], ()))) (by kernel_rfl) (by kernel_rfl)
    (l := l) (of_decide_eq_true hll) (gf := 44) ?_ (enters_of Tryd.func44 (by kernel_rfl) rfl) (fun us k => #[.int .i64 k, .agg #[us (k * 2), us (k * 2 + 1)]]) (fun us k => rfl)
    (fun Bs b n cap A us w hlen hBl hBs hA => all_hands Bs b n cap A us w hlen hBl hBs hA) (jdgSl1 s l) ?_ (fun k d => jdg_rd N s l k (l.getD k (0, [])) d) (fun k d hk => jdg_rd_S N s l k d) ho ?_ ?_
  · intro c hc
    have : c = cL jdgC ∨ c = cL (cR jdgC) := by simpa [jdgP] using hc
    rcases this with rfl | rfl
    · exact ⟨by kernel_rfl, by kernel_rfl⟩
    · exact ⟨by kernel_rfl, by kernel_rfl⟩
  · intro n0 Bx a w B η Q hs hQ
    exact rc_ok (P := Tryd.prog) (rid := 2) (ops := rOps jdgRc) (o1 := (rOps jdgRc).getD 0 default) (o2 := (rOps jdgRc).getD 1 default) (l := l) (x1 := 14) (x2 := 15) (F := 23) (by kernel_rfl) (by kernel_rfl) (by kernel_rfl) (by kernel_rfl) (by kernel_rfl) (ts := #[28]) (by kernel_rfl) (by kernel_rfl)
      ⟨_, Tryd.func23, by decide +kernel, fun h => by
        have h2 : (Tryd.f23).body.isSome = true := by kernel_rfl
        rw [h] at h2
        cases h2⟩ (by kernel_rfl) (by kernel_rfl) (Nat.le_of_ble_eq_true (n := 15) (by kernel_rfl)) (Nat.le_of_ble_eq_true (n := 16) (by kernel_rfl)) (fun A len cap w => all_call A len cap w) n0 Bx a w B η Q hs hQ
  · intro us k x n0 W B η tmps hx hv hsl
    rw [encs2, jdgSl1, getD_some hx]
    exact (hsl.put (r := .c (.int .i64 k)) (v := .int .i64 k) (Rel.c _ _) (fun h => by cases h) 16).put hv (fun h => by cases h) 17
  · intro d hd
    subst hd
    rw [show (stOf ⟨jdgSl, jdgA⟩ 77 ((s, l, ()), ([], [], [], ()))).slots = (stOf ⟨jdgSl, jdgA⟩ 77 ((s, l, ()), ([], [], [], ()))).slots from rfl, jdg_end_S]
    simpa using hy
  · intro d hd
    subst hd
    simp at hy
noncomputable def jgK (N : Nat) {R : Type} : List V → (V → Tree R) → Tree R := fnK [SD, .sl OD] [.int .u8, .sl OD] fun c => ipcpo_Judge N c.1 c.2.1
theorem jg_ok (N : Nat) {R : Type} : ∀ args (k : V → Tree R) res, (jgK N args k).run = some res → ∃ r, (k r).run = some res ∧ r.plain = true ∧ (∀ l k, ex r ≠ .fresh l k) ∧ CallsV Tryd.prog 8 args r :=
  fnK_ext (inl := fun _ => false) (by kernel_rfl) (Judge_C N)
end Go.Proofs.YtkigpcolmioibaaDoor
namespace Go.Proofs.YtkigpcolmioibaaDoor
set_option maxRecDepth 100000
open Go.RowKit
set_option linter.unusedVariables false
def HandsS (P : Program) (gf : Nat) (lb : Array Value) (enc : Nat → Array Value) (N c : Nat) (vs : Nat → Value) (S : Nat → Prop) (w : World) : Prop :=
 ∀ (l : Nat) (J M Jx : Nat → World → Prop) (W : World), Below w.heap.size w W → (∀ k W W', J k W → Below W.heap.size W W' → J k W') → (∀ k W W', M k W → Below W.heap.size W W' → M k W') →
  (∀ k W, J k W → ∃ T, W.heap[c]? = some (.cells #[vs k] T (0, 0))) → (∀ k W, M k W → ∃ T, W.heap[c]? = some (.cells #[vs k] T (0, 0))) → (∀ k W, k + 1 < N → M k W → J (k + 1) (W.setRow c #[vs (k + 1)])) →
  (∀ k W, J k W → k < N → YieldAt Fence.wide 0 P l (enc k) W fun e W' => (e = .returned (.bool true) ∧ M k W' ∧ KeepsB S W W') ∨ (e = .returned (.bool false) ∧ Jx k W')) → J 0 W →
  CallsIn Fence.wide 1 P gf (#[.func (.yield l) #[] #[]] ++ lb) W fun e W' => (∃ v, e = .returned v) ∧ (M (N - 1) W' ∨ ∃ k, k < N ∧ Jx k W')
theorem rng_lawS {P : Program} {g : Operand} {ps : Array Tmp} {assign body : Code} {Q : Exit → Act → World → Prop} {a : Act} {w : World} {gf : Nat} {lb : Array Value} (hg : a.eval g = .func (.func gf) #[] lb)
  (eg : ∀ args w, (callFunc gf args).run P w = .ok (.enter gf args) w) {enc : Nat → Array Value} {N c : Nat} {vs : Nat → Value} {b : Nat → Prop} (hseq : HandsS P gf lb enc N c vs b w) (hcw : c < w.heap.size) (hbw : 0 < N → ∀ x, b x → x < w.heap.size) (hps : ∀ k, (enc k).size = ps.size)
  (I M Ix : Nat → World → Prop) (hI : OwnFrom w.heap.size I) (hM : OwnFrom w.heap.size M) (hIx : OwnFrom w.heap.size Ix) (hgr : ∀ k W W', I k W → Below W.heap.size W W' → I k W') (hgM : ∀ k W W', M k W → Below W.heap.size W W' → M k W')
  (hrd : ∀ k W, I k W → ∃ T, W.heap[c]? = some (.cells #[vs k] T (0, 0))) (hrM : ∀ k W, M k W → ∃ T, W.heap[c]? = some (.cells #[vs k] T (0, 0))) (hwr : ∀ k W, k + 1 < N → M k W → I (k + 1) (W.setRow c #[vs (k + 1)])) (h0 : I 0 w)
  (hround : ∀ (l k : Nat) (W : World), I k W → k < N → w.heap.size ≤ l → assign.wpIn (inRd l) 0 P (Exit.then (fun a1 W1 => KeepsFrom w.heap.size W W1 ∧ KeepsB b W W1 ∧
   ∀ (o o' : Obj), W1.heap[l]? = some o → o.isCells = false → body.wpIn (inRd l) 0 P (rndQ w.heap.size b (M k) (Ix k) (W1.putObj l o')) a1 (W1.putObj l o')) (fun _ _ _ => False))
   { tmps := (ps.zip (enc k)).foldl (fun t (p, v) => t.setIfInBounds p v) a.tmps, defers := [] } W)
  (hN : 0 < N) (hdone : ∀ (D : Nat) (W : World), w.heap.size ≤ D → M (N - 1) W → W.heap[D]? = some (.deferred (some [])) → Q .normal { a with defers := { target := .collected D, args := #[] } :: a.defers } W)
  (hstop : ∀ (D k : Nat) (W : World), w.heap.size ≤ D → k < N → Ix k W → W.heap[D]? = some (.deferred (some [])) → Q .ret { a with defers := { target := .collected D, args := #[] } :: a.defers } W) :
  (Code.rangeFunc g ps assign body).wp P Q a w := by
 refine (wpIn_wide (n := 2)).1 (wpIn_rangeFunc fun fn hfn => ?_)
 -- the two blocks that the statement lays: D for the rounds' deferred calls, D + 1 for its record
 let rec' : LoopState → Option Code → Loop := fun st pe => { state := st, pending := pe, fn := fn, tmps := a.tmps, params := ps, assign := assign, body := body, defers := w.heap.size }
 have hready : ∀ W, W = (w.alloc (.deferred (some []))).alloc (.loop (rec' .ready none)) → W.heap[w.heap.size]? = some (.deferred (some [])) ∧ W.heap[w.heap.size + 1]? = some (.loop (rec' .ready none)) ∧ Below w.heap.size w W ∧ I 0 W := by
  rintro W rfl
  have b1 := (Below.refl w.heap.size w).alloc (Nat.le_refl _) (.deferred (some []))
  refine ⟨?_, ?_, b1.alloc (by simp) _, hI.alloc _ (hI.alloc _ h0)⟩
  ·exact (Below.heap_alloc _ _ _ (by simp)).trans (World.alloc_heap_new w _)
  ·have := World.alloc_heap_new (w.alloc (.deferred (some []))) (.loop (rec' .ready none))
   rwa [World.size_alloc] at this
 obtain ⟨W1, hW1⟩ : ∃ W1, (w.alloc (.deferred (some []))).alloc (.loop (rec' .ready none)) = W1 := ⟨_, rfl⟩
 refine ⟨w.heap.size + 1, [{ target := .collected w.heap.size, args := #[] }], W1, { target := .fn (.func gf) lb, args := #[.func (.yield (w.heap.size + 1)) #[] #[]] }, W1, gf, #[.func (.yield (w.heap.size + 1)) #[] #[]] ++ lb, W1, (by rw [← hW1]; exact run_enterLoop_outer fn a.tmps ps assign body), ?_, fun f' hf' => trivial, ?_, fun h => (by cases h), ?_⟩
 ·simp only [resolve, hg]
  simp [go_sem]
 ·simp [invoke, go_sem, eg]
 obtain ⟨r1, r2, r3, r4⟩ := hready W1 hW1.symm
 have hcall := hseq (w.heap.size + 1) (fun k W => I k W ∧ W.heap[w.heap.size + 1]? = some (.loop (rec' .ready none)) ∧ W.heap[w.heap.size]? = some (.deferred (some [])))
  (fun k W => M k W ∧ W.heap[w.heap.size + 1]? = some (.loop (rec' .ready none)) ∧ W.heap[w.heap.size]? = some (.deferred (some [])))
  (fun k W => Ix k W ∧ W.heap[w.heap.size + 1]? = some (.loop (rec' .done (some .ret))) ∧ W.heap[w.heap.size]? = some (.deferred (some []))) W1 r3
  (fun k W W' hs hb => ⟨hgr k W W' hs.1 hb, (hb.block _ (Array.getElem?_eq_some_iff.1 hs.2.1).1).trans hs.2.1, (hb.block _ (Array.getElem?_eq_some_iff.1 hs.2.2).1).trans hs.2.2⟩)
  (fun k W W' hs hb => ⟨hgM k W W' hs.1 hb, (hb.block _ (Array.getElem?_eq_some_iff.1 hs.2.1).1).trans hs.2.1, (hb.block _ (Array.getElem?_eq_some_iff.1 hs.2.2).1).trans hs.2.2⟩)
  (fun k W hs => hrd k W hs.1) (fun k W hs => hrM k W hs.1) (fun k W hk hs => ⟨hwr k W hk hs.1, (setRow_other W c _ _ (by omega)).trans hs.2.1, (setRow_other W c _ _ (by omega)).trans hs.2.2⟩)
  (fun k W hs hk => ?round) ⟨r4, r2, r1⟩
 case round =>
  obtain ⟨hi, hl, hd⟩ := hs
  have hbl := hbw (by omega)
  have kp : ∀ (X : World) (o : Obj), KeepsB b X (X.putObj (w.heap.size + 1) o) := fun X o => KeepsB.of_block fun x hx _ => World.putObj_heap_other (by have := hbl x hx; omega)
  refine ⟨fn, _, assign, body, run_yield (P := P) (args := enc k) hl (hps k), roundIn_of_wpIn hfn (wpIn_mono (hround (w.heap.size + 1) k W hi hk (by omega)) ?_)⟩
  intro e a1 Wa h1
  cases e with
  | normal =>
   obtain ⟨hk1, hb1, h2⟩ := h1
   have hl1 := hk1.same _ _ (by omega) hl rfl
   have hd1 := hk1.same _ _ (Nat.le_refl _) hd rfl
   refine ⟨_, run_beginRound hl1 rfl, wpIn_mono (h2 _ (.loop { rec' .ready none with state := .busy }) hl1 rfl) ?_⟩
   have hl2 : (Wa.putObj (w.heap.size + 1) (.loop { rec' .ready none with state := .busy })).heap[w.heap.size + 1]? = some (.loop { rec' .ready none with state := .busy }) := World.putObj_heap_same (Array.getElem?_eq_some_iff.1 hl1).1
   have hd2 : (Wa.putObj (w.heap.size + 1) (.loop { rec' .ready none with state := .busy })).heap[w.heap.size]? = some (.deferred (some [])) := (World.putObj_heap_other (by omega)).trans hd1
   intro e2 a2 Wb h3
   have shut : ∀ (j : Option Code), KeepsFrom w.heap.size (Wa.putObj (w.heap.size + 1) (.loop { rec' .ready none with state := .busy })) Wb →
     (Instr.endRound (w.heap.size + 1) j).run P Wb = .ok (.bool j.isNone) (Wb.putObj (w.heap.size + 1) (.loop (rec' (if j.isNone then .ready else .done) j))) ∧ Wb.heap[w.heap.size + 1]? = some (.loop { rec' .ready none with state := .busy }) ∧
     (Wb.putObj (w.heap.size + 1) (.loop (rec' (if j.isNone then .ready else .done) j))).heap[w.heap.size + 1]? = some (.loop (rec' (if j.isNone then .ready else .done) j)) ∧ (Wb.putObj (w.heap.size + 1) (.loop (rec' (if j.isNone then .ready else .done) j))).heap[w.heap.size]? = some (.deferred (some [])) := by
    intro j hkb
    have hl3 := hkb.same _ _ (by omega) hl2 rfl
    have hd3 := hkb.same _ _ (Nat.le_refl _) hd2 rfl
    exact ⟨run_endRound j hl3, hl3, World.putObj_heap_same (Array.getElem?_eq_some_iff.1 hl3).1, (World.putObj_heap_other (by omega)).trans hd3⟩
   cases e2 with
   | normal =>
    obtain ⟨hk3, hb3, hi3⟩ := h3
    obtain ⟨s1, s2, s3, s4⟩ := shut none hk3
    exact ⟨_, _, s1, .inl ⟨rfl, ⟨hM.putObj _ hi3 (by omega) s2 rfl, s3, s4⟩, ((hb1.trans (kp _ _)).trans hb3).trans (kp _ _)⟩⟩
   | ret =>
    obtain ⟨hk3, hi3⟩ := h3
    obtain ⟨s1, s2, s3, s4⟩ := shut (some .ret) hk3
    exact ⟨_, _, s1, .inr ⟨rfl, hIx.putObj _ hi3 (by omega) s2 rfl, s3, s4⟩⟩
   | _ => exact h3.elim
  | _ => exact h1.elim
 refine hcall.mono ?_
 rintro e W2 ⟨⟨v, rfl⟩, ⟨hi, hl, hd⟩ | ⟨k, hk, hi, hl, hd⟩⟩
 ·exact ⟨none, _, run_endLoop hl (by intro h; cases h), hdone _ _ (Nat.le_refl _) (hM.putObj _ hi (by omega) hl rfl) ((World.putObj_heap_other (by omega)).trans hd)⟩
 ·exact ⟨some .ret, _, run_endLoop hl (by intro h; cases h), wpIn_ret (hstop _ k _ (Nat.le_refl _) hk (hIx.putObj _ hi (by omega) hl rfl) ((World.putObj_heap_other (by omega)).trans hd))⟩
end Go.Proofs.YtkigpcolmioibaaDoor
namespace Go.Proofs.YtkigpcolmioibaaDoor
set_option maxRecDepth 100000
open Go.RowKit
set_option linter.unusedVariables false
set_option linter.unusedSimpArgs false
def MidS (j c : Nat) (n0 : Nat) (Bx : List Nat) (sl0 : List V) (a : Act) (w : World) (B0 : List Nat) (H : List E2) (W : World) : Prop :=
 ∃ B η, Inv n0 Bx W B η (H.map exE) ∧ SlotsK n0 W B η sl0 a.tmps ∧ (∀ b ∈ B, b < n0 ∨ ∃ o : Obj, W.heap[b]? = some o ∧ o.isCells = true) ∧ On0 B0 w W ∧ (∀ b ∈ B, b ∈ B0 ∨ w.heap.size ≤ b) ∧ Below n0 w W ∧ η[j]? = some (.pointer (some ⟨c, 0, none⟩))
theorem mids_turn {j c n0 D : Nat} {Bx : List Nat} {sl0 : List V} {a : Act} {w W W' : World} {B0 : List Nat} {H : List E2} {row : Option Nat} (hn : nI H = true) (hD : n0 ≤ D) (h : MidS j c n0 Bx sl0 a w B0 H W) (hg : W.grownBy W' row)
  (hr : ∀ r, row = some r → D ≤ r ∧ ∃ o : Obj, W.heap[r]? = some o ∧ o.isCells = false) : MidS j c n0 Bx sl0 a w B0 H W' := by
 obtain ⟨B, η, h1, h2, h3, h4, h5, h6, h9⟩ := h
 have hr' : ∀ r, row = some r → ∃ o : Obj, W.heap[r]? = some o ∧ o.isCells = false := fun r e => (hr r e).2
 have ht := on_turn hg hr' B
 refine ⟨B, η, h1.turn (nI_ok hn) hg hr', h2.on0 ht (fun _ h => .inl h) (fun _ _ h => h), fun b hb => ?_, h4.trans ht h5, h5, h6.trans ⟨hg.os, hg.tape, hg.output, hg.size, fun b hlt => hg.block b (Nat.lt_of_lt_of_le hlt h1.base.1) fun e => by have := (hr b e.symm).1; omega⟩, h9⟩
 rcases h3 b hb with h7 | ⟨o, h7, h8⟩
 ·exact .inl h7
 ·refine .inr ⟨o, ?_, h8⟩
  rw [hg.block b (Array.getElem?_eq_some_iff.1 h7).1 fun e => ?_]
  ·exact h7
  ·obtain ⟨o', h11, h10⟩ := hr' b e.symm
   rw [h7] at h11
   injection h11 with h11
   rw [h11, h10] at h8
   cases h8
theorem mids_gr {j c n0 : Nat} {Bx : List Nat} {sl0 : List V} {a : Act} {w W W' : World} {B0 : List Nat} {H : List E2} (h : MidS j c n0 Bx sl0 a w B0 H W) (g : Gr W W') : MidS j c n0 Bx sl0 a w B0 H W' := by
 obtain ⟨B, η, h1, h2, h3, h4, h5, h6, h9⟩ := h
 refine ⟨B, η, h1.gr g, h2.on (.gr g) (fun _ h => .inl h) (fun _ _ h => h), fun b hb => ?_, h4.trans (On.gr (B := B) g).on0 h5, h5, h6.trans (g.mono h1.base.1), h9⟩
 rcases h3 b hb with h7 | ⟨o, h7, h8⟩
 ·exact .inl h7
 ·exact .inr ⟨o, by rw [g.block b (Array.getElem?_eq_some_iff.1 h7).1]; exact h7, h8⟩
theorem mids_wr {j c n0 : Nat} {Bx : List Nat} {sl0 : List V} {a : Act} {w W : World} {B0 : List Nat} {H : List E2} {s s' : List UInt8} {T : TypeId} (hH : H[j]? = some (.box [.str s] T)) (hc : c < w.heap.size) (hcn : n0 ≤ c) (hcB : c ∈ B0)
  (h : MidS j c n0 Bx sl0 a w B0 H W) : MidS j c n0 Bx sl0 a w B0 (H.set j (.box [.str s'] T)) (W.setRow c #[.string ⟨s'.toArray⟩]) := by
 obtain ⟨B, η, h1, h2, h3, h4, h5, h6, h9⟩ := h
 have hHx : (H.map exE)[j]? = some (.box [.c (.string ⟨s.toArray⟩)] T) := exH hH
 have hg : η.getD j undef = .pointer (some ⟨c, 0, none⟩) := by rw [List.getD_eq_getElem?_getD, h9]; rfl
 obtain ⟨b, us, p1, p2, p3, p4, p5, p6⟩ := h1.ent j _ hHx
 rw [hg] at p1
 injection p1 with p1
 injection p1 with p1
 injection p1 with p1
 subst p1
 have hen : EntOK n0 Bx (W.setRow c #[.string ⟨s'.toArray⟩]) B η (.pointer (some ⟨c, 0, none⟩)) (.box [.c (.string ⟨s'.toArray⟩)] T) :=
  ⟨c, [.string ⟨s'.toArray⟩], rfl, p2, p3, p4, setRow_heap W c _ _ T (0, 0) p5, RelL.of1 (.c _ _)⟩
 obtain ⟨q1, q2, q3⟩ := h1.write hHx h9 rfl rfl rfl hen
 have q2' : On0 B W (W.setRow c #[.string ⟨s'.toArray⟩]) := q2.on0
 refine ⟨B, η, ?_, h2.on q2 (fun _ h => .inl h) (fun _ _ h => h), fun b hb => ?_, h4.trans q2' h5, h5, h6.trans q3, h9⟩
 ·rw [List.map_set]; exact q1
 ·rcases h3 b hb with h7 | ⟨o, h7, h8⟩
  ·exact .inl h7
  ·by_cases hbc : b = c
   ·subst hbc
    exact .inr ⟨_, setRow_heap W b _ _ T (0, 0) p5, rfl⟩
   ·exact .inr ⟨o, by rw [setRow_other W c b _ hbc]; exact h7, h8⟩
theorem mids_rd {j c n0 : Nat} {Bx : List Nat} {sl0 : List V} {a : Act} {w W : World} {B0 : List Nat} {H : List E2} {s : List UInt8} {T : TypeId} (hH : H[j]? = some (.box [.str s] T)) (h : MidS j c n0 Bx sl0 a w B0 H W) : ∃ T, W.heap[c]? = some (.cells #[.string ⟨s.toArray⟩] T (0, 0)) := by
 obtain ⟨B, η, h1, h2, h3, h4, h5, h6, h9⟩ := h
 have hHx : (H.map exE)[j]? = some (.box [.c (.string ⟨s.toArray⟩)] T) := exH hH
 have hg : η.getD j undef = .pointer (some ⟨c, 0, none⟩) := by rw [List.getD_eq_getElem?_getD, h9]; rfl
 obtain ⟨b, us, p1, p2, p3, p4, p5, p6⟩ := h1.ent j _ hHx
 rw [hg] at p1
 injection p1 with p1
 injection p1 with p1
 injection p1 with p1
 subst p1
 obtain ⟨u, rfl, hu⟩ := RelL.one1 (x := .c (.string ⟨s.toArray⟩)) p6
 have hu := Rel.ofC hu
 subst hu
 exact ⟨T, p5⟩
section
variable {P : Program} {A A' : List HSh} {Γ : Env (HL (tdsH A) ⊕ HL (tdsH A'))}
theorem rng_endsS {j c : Nat} {vs : Nat → List UInt8} {Tj : TypeId} {D : Type} (ins : Nat → D → HL (tdsH A)) (hm : P.follows .mixedOrders = true) (hΓ : EnvOK P Γ) {fuel m0 n : Nat} {path : List Nat} {ow : List (Nat × TypeId)} {g : Operand} {ps : Array Tmp} {assign body : Code}
  (hok1 : okC2 Γ.inl assign = true) (hok2 : okC2 Γ.inl body = true) (hnd1 : ndB assign = true) (hnd2 : ndB body = true) (hl1 : loopsOf assign = []) (hl2 : loopsOf body = []) {sl0 : List V} (sl1 : Nat → List V)
  (G : Nat → D → Option (D ⊕ HL (tdsH A'))) {N : Nat} (hN : 0 < N) (hG : ∀ k d, k < N → (rndT P Γ fuel path m0 n ow assign body ⟨sl1 k, encH A (ins k d)⟩).run = (G k d).map (Sum.map (ins k) id)) (hjm : j < m0) (hHj : ∀ k d, (encH A (ins k d))[j]? = some (.box [.str (vs k)] Tj)) (hHs : ∀ k d, (encH A (ins k d)).set j (.box [.str (vs (k + 1))] Tj) = encH A (ins (k + 1) d)) (hsl : sl0.all (slotOK m0) = true) (hA : ∀ d, nI (encH A d) = true) (hA' : ∀ d, nI (encH A' d) = true)
  {n0 : Nat} {Bx : List Nat} {ds : List Deferred} {a : Act} {w : World} {B0 : List Nat} {η0 : List Value} {d0 : D} (hs : SimK n0 Bx ds ⟨sl0, encH A (ins 0 d0)⟩ a w B0 η0) (hηj : η0[j]? = some (.pointer (some ⟨c, 0, none⟩)))
  {gf : Nat} {lb : Array Value} {enc : Nat → Array Value} (hg : a.eval g = .func (.func gf) #[] lb) (eg : ∀ args w, (callFunc gf args).run P w = .ok (.enter gf args) w) {b : Nat → Prop} (hseq : HandsS P gf lb enc N c (fun k => .string ⟨(vs k).toArray⟩) b w) (hbw : 0 < N → ∀ x, b x → x < w.heap.size ∧ x ∉ B0) (hps : ∀ k, (enc k).size = ps.size)
  (hset : ∀ k W B η, k < N → On0 B0 w W → (∀ b ∈ B, b ∈ B0 ∨ w.heap.size ≤ b) → SlotsK n0 W B η sl0 a.tmps → SlotsK n0 W B η (sl1 k) ((ps.zip (enc k)).foldl (fun t (p, v) => t.setIfInBounds p v) a.tmps))
  {o : D ⊕ HL (tdsH A')} (ho : rr G N 0 d0 = some o) {Q : Exit → Act → World → Prop}
  (hQ : ∀ (K : Nat) (W : World) (d : D), o = .inl d → w.heap.size ≤ K → MidS j c n0 Bx sl0 a w B0 (encH A (ins (N - 1) d)) W → W.heap[K]? = some (.deferred (some [])) → Q .normal { a with defers := { target := .collected K, args := #[] } :: a.defers } W)
  (hQ' : ∀ (K : Nat) (W : World) (d : HL (tdsH A')), o = .inr d → w.heap.size ≤ K → MidS j c n0 Bx sl0 a w B0 (encH A' d) W → W.heap[K]? = some (.deferred (some [])) → Q .ret { a with defers := { target := .collected K, args := #[] } :: a.defers } W) :
  (Code.rangeFunc g ps assign body).wp P Q a w := by
 have hn0 : n0 ≤ w.heap.size := hs.inv.base.1
 obtain ⟨Bs, hs1, hsub1, hc1⟩ := hs.shrink2 (hA (ins 0 d0))
 have hcc : c < w.heap.size ∧ n0 ≤ c ∧ c ∈ B0 := by
  have hHx : ((encH A (ins 0 d0)).map exE)[j]? = some (.box [.c (.string ⟨(vs 0).toArray⟩)] Tj) := exH (hHj 0 d0)
  have hg : η0.getD j undef = .pointer (some ⟨c, 0, none⟩) := by rw [List.getD_eq_getElem?_getD, hηj]; rfl
  obtain ⟨b, us, p1, p2, p3, p4, p5, p6⟩ := hs.inv.ent j _ hHx
  rw [hg] at p1
  injection p1 with p1
  injection p1 with p1
  injection p1 with p1
  subst p1
  exact ⟨hs.inv.lt _ p3, p2, p3⟩
 refine rng_lawS hg eg hseq hcc.1 (fun h x hx => (hbw h x hx).1) hps (fun k W => ∃ d, rr G (N - k) k d = some o ∧ MidS j c n0 Bx sl0 a w B0 (encH A (ins k d)) W) (fun k W => ∃ d, rr G (N - (k + 1)) (k + 1) d = some o ∧ MidS j c n0 Bx sl0 a w B0 (encH A (ins k d)) W) (fun k W => ∃ d, o = .inr d ∧ MidS j c n0 Bx sl0 a w B0 (encH A' d) W)
  (fun k W W' row h hg hr => ?_) (fun k W W' row h hg hr => ?_) (fun k W W' row h hg hr => ?_) (fun k W W' h hb => ?_) (fun k W W' h hb => ?_) (fun k W h => ?_) (fun k W h => ?_) (fun k W hk h => ?_) ⟨d0, ho, Bs, η0, hs1.inv, hs1.slots, hc1, On0.refl _ _, fun b hb => .inl (hsub1 b hb), Below.refl _ _, hηj⟩ (fun l k W h hk hl => ?_) hN (fun D W hD h hW => ?_) (fun D k W hD hk h hW => ?_)
 ·obtain ⟨d, h1, h2⟩ := h
  exact ⟨d, h1, mids_turn (hA _) hn0 h2 hg hr⟩
 ·obtain ⟨d, h1, h2⟩ := h
  exact ⟨d, h1, mids_turn (hA _) hn0 h2 hg hr⟩
 ·obtain ⟨d, h1, h2⟩ := h
  exact ⟨d, h1, mids_turn (hA' d) hn0 h2 hg hr⟩
 ·obtain ⟨d, h1, h2⟩ := h
  exact ⟨d, h1, mids_gr h2 hb⟩
 ·obtain ⟨d, h1, h2⟩ := h
  exact ⟨d, h1, mids_gr h2 hb⟩
 ·obtain ⟨d, h1, h2⟩ := h
  exact mids_rd (hHj k d) h2
 ·obtain ⟨d, h1, h2⟩ := h
  exact mids_rd (hHj k d) h2
 ·obtain ⟨d, h1, h2⟩ := h
  refine ⟨d, h1, ?_⟩
  have := mids_wr (s' := vs (k + 1)) (hHj k d) hcc.1 hcc.2.1 hcc.2.2 h2
  rwa [hHs] at this
 ·obtain ⟨d, h1, B, η, inv, sl, hc, hon, hsub, hbel, hηc⟩ := h
  have hbb := hbw (by omega)
  have hbB : ∀ x, b x → x ∉ B := fun x hx hb => (hsub x hb).elim (hbb x hx).2 (fun h => by have := (hbb x hx).1; omega)
  have kp : ∀ {X Y : World} {B' : List Nat}, On0 B' X Y → (∀ x, b x → x ∉ B') → KeepsB b X Y := fun {X Y B'} h hn x hx o u hu => by
   have hlt : x < X.heap.size := by
    unfold World.cell? at hu
    split at hu
    ·rename_i c e fr hc
     exact (Array.getElem?_eq_some_iff.1 hc).1
    ·cases hu
   exact (h.block x hlt (hn x hx)).cell rfl hu
  obtain ⟨m, hm1⟩ : ∃ m, N - k = m + 1 := ⟨N - k - 1, by omega⟩
  have hm2 : N - (k + 1) = m := by omega
  rw [hm1] at h1
  obtain ⟨r, hr, hro⟩ : ∃ r, G k d = some r ∧ ((∃ d', r = .inl d' ∧ rr G m (k + 1) d' = some o) ∨ ∃ d', r = .inr d' ∧ o = .inr d') := by
   unfold rr at h1
   split at h1
   ·rename_i d' hg
    exact ⟨_, hg, .inl ⟨d', rfl, h1⟩⟩
   ·rename_i d' hg
    exact ⟨_, hg, .inr ⟨d', rfl, (Option.some.inj h1).symm⟩⟩
   ·cases h1
  have hrun := (hG k d hk).trans (congrArg _ hr)
  rw [Option.map_some] at hrun
  unfold rndT at hrun
  obtain ⟨ex, st2, h2, E1⟩ := evKM_ok (some l) hm hΓ fuel path m0 assign _ _ _ hok1 hnd1 (by rw [hl1]; intro c hc; cases hc) hrun
  split at h2
  case h_2 => cases h2
  split at h2
  case isFalse => cases h2
  rename_i hnI
  obtain ⟨ex2, st3, h3, E2⟩ := evKM_ok (some l) hm hΓ fuel path m0 body _ _ _ hok2 hnd2 (by rw [hl2]; intro c hc; cases hc) h2
  refine E1 n0 Bx [] { tmps := (ps.zip (enc k)).foldl (fun t (p, v) => t.setIfInBounds p v) a.tmps, defers := [] } W B η _ ⟨rfl, inv, hset k W B η hk hon hsub sl⟩ (fun a1 W1 B1 η1 hs2 hg2 => ?_) (fun ⟨_, _, h⟩ => h) 0
  obtain ⟨B2, hs3, hsub3, hc3⟩ := hs2.shrink2 hnI
  refine ⟨keeps_from2 hg2 hc hn0, kp hg2.on.on0 hbB, fun ob ob' hob hnc => ?_⟩
  have hgb : W1.grownBy (W1.putObj l ob') (some l) := grownBy_putObj' W1 l ob'
  have hrb : ∀ r, some l = some r → ∃ o : Obj, W1.heap[r]? = some o ∧ o.isCells = false := fun r e => by cases e; exact ⟨ob, hob, hnc⟩
  have hs4 := hs3.turn (nI_ok hnI) hgb hrb
  have ht := on_turn hgb hrb B2
  have hc4 : ∀ b ∈ B2, b < n0 ∨ ∃ o : Obj, (W1.putObj l ob').heap[b]? = some o ∧ o.isCells = true := fun b hb => by
   rcases hc3 b hb with h7 | ⟨o, h7, h8⟩
   ·exact .inl h7
   ·refine .inr ⟨o, ?_, h8⟩
    rw [World.putObj_heap_other fun e => ?_]
    ·exact h7
    ·subst e
     rw [hob] at h7
     injection h7 with h7
     rw [← h7, hnc] at h8
     cases h8
  refine E2 n0 Bx [] a1 (W1.putObj l ob') B2 η1 _ hs4 (fun a2 W3 B3 η3 hs5 hg5 => ?_) rndQ_no 0
  have hsB2 : ∀ b ∈ B2, b ∈ B ∨ W.heap.size ≤ b := fun b hb => hg2.hB b (hsub3 b hb)
  have hsz1 : W.heap.size ≤ (W1.putObj l ob').heap.size := by rw [World.putObj_size]; exact hg2.on.size
  have honW : On0 B W W3 := (hg2.on.on0.trans ht hsB2).trans hg5.on.on0 hsB2
  have hbW : Below n0 W W3 := (hg2.below.trans (below_put ob' (by omega))).trans hg5.below
  have key : ∀ {X : List HSh} {cc : CT ⟨[], X⟩}, (∀ d, nI (encH X d) = true) → (∀ (n0 : Nat) (Bx : List Nat) (ds : List Deferred) (a : Act) (w : World) (B : List Nat) (η : List Value), SimK n0 Bx ds st3 a w B η → ∃ B' η', SimK n0 Bx ds (stOf ⟨[], X⟩ n cc) a w B' η' ∧ Goes n0 m0 w B η w B' η') → MidS j c n0 Bx sl0 a w B0 (encH X cc.2) W3 := by
   intro X cc hX hsh
   obtain ⟨B4, η4, hs6, hg6⟩ := hsh n0 Bx [] a2 W3 B3 η3 hs5
   obtain ⟨B5, hs7, hsub7, hc7⟩ := hs6.shrink2 (hX cc.2)
   have hB5 : ∀ b ∈ B5, b ∈ B ∨ W.heap.size ≤ b := fun b hb => by
    rcases hg6.hB b (hsub7 b hb) with h8 | h8
    ·rcases hg5.hB b h8 with h9 | h9
     ·exact hsB2 b h9
     ·exact .inr (Nat.le_trans hsz1 h9)
    ·exact .inr (Nat.le_trans honW.size h8)
   refine ⟨B5, η4, hs7.inv, slots_on0 hsl sl honW hB5 (fun id v hid hv => hg6.hη id v hid (hg5.hη id v hid (hg2.hη id v hid hv))), hc7, hon.trans honW hsub, fun b hb => ?_, hbel.trans hbW, hg6.hη j _ hjm (hg5.hη j _ hjm (hg2.hη j _ hjm hηc))⟩
   rcases hB5 b hb with h8 | h8
   ·exact hsub b h8
   ·exact .inr (Nat.le_trans hon.size h8)
  split at h3
  ·obtain ⟨cc, h4, hsh⟩ := toShape_ok h3
   simp only [Tree.run, Option.some.injEq] at h4
   rcases hro with ⟨d', e1, e2⟩ | ⟨d', e1, _⟩
   ·subst e1
    simp only [Sum.map_inl, Sum.inl.injEq] at h4
    have hk3 := key hA hsh
    rw [h4] at hk3
    exact ⟨keeps_from2 hg5 hc4 hn0, kp hg5.on.on0 (fun x hx hb => (hsB2 x hb).elim (hbB x hx) (fun h => by have := hon.size; have := (hbb x hx).1; omega)), d', by rw [hm2]; exact e2, hk3⟩
   ·subst e1
    simp only [Sum.map_inr] at h4
    cases h4
  ·obtain ⟨cc, h4, hsh⟩ := toShape_ok h3
   simp only [Tree.run, Option.some.injEq] at h4
   rcases hro with ⟨d', e1, e2⟩ | ⟨d', e1, e2⟩
   ·subst e1
    simp only [Sum.map_inl] at h4
    cases h4
   ·subst e1
    simp only [Sum.map_inr, id_eq, Sum.inr.injEq] at h4
    have hk3 := key hA' hsh
    rw [h4] at hk3
    exact ⟨keeps_from2 hg5 hc4 hn0, d', e2, hk3⟩
  ·cases h3
 ·obtain ⟨d, h1, h2⟩ := h
  rw [show N - (N - 1 + 1) = 0 by omega] at h1
  exact hQ D W d (Option.some.inj h1).symm hD h2 hW
 ·obtain ⟨d, h1, h2⟩ := h
  exact hQ' D W d h1 hD h2 hW
end
section
variable {P : Program} {A0 A A' : List HSh} {rs : List Td} {Γ2 : Env (HL (tdsH A) ⊕ HL (tdsH A'))} {Γ3 : Env (RT rs)}
theorem rs_calls {sls : List (Nat × SSh)} {Γ1 : Env (CT ⟨sls, A0⟩)} (hm : P.follows .mixedOrders = true) (hΓ1 : EnvOK P Γ1) (hΓ2 : EnvOK P Γ2) (hΓ3 : EnvOK P Γ3) {fuel m0 n : Nat} {f : FuncId} {fn : Func} {xs : List V} {pre : List Code} {rc suf : Code} {bid : Nat} {ow : List (Nat × TypeId)} {g : Operand} {ps : Array Tmp} {assign body : Code}
  (hfn : P.funcs[f]? = some fn) (hb : fn.body = some (seqL pre (.seq (.seq rc (.block bid (.rangeFunc g ps assign body))) suf))) (hres : rs = [] → fn.results = #[]) (hxs : ∀ (i : Nat) x, xs[i]? = some x → x.plain = true ∧ isFresh (ex x) = false)
  (hpre : ∀ c ∈ pre, okC2 Γ1.inl c = true ∧ loopsOf c = []) (hsuf : okC2 Γ3.inl suf = true ∧ loopsOf suf = [])
  (hok1 : okC2 Γ2.inl assign = true) (hok2 : okC2 Γ2.inl body = true) (hnd1 : ndB assign = true) (hnd2 : ndB body = true) (hl1 : loopsOf assign = []) (hl2 : loopsOf body = [])
  (hA : ∀ d, nI (encH A d) = true) (hA' : ∀ d, nI (encH A' d) = true) {c0 : CT ⟨sls, A0⟩} (h1 : (evL P Γ1 fuel [f] pre ⟨slots0 fn xs, []⟩ fun st => toShape P 0 ow ⟨sls, A0⟩ n st fun c => .done c).run = some c0)
  {sl0 : List V} (hsl : sl0.all (slotOK m0) = true) {gf : Nat} {j N : Nat} {vs : Nat → List UInt8} {Tj : TypeId} {D : Type} (ins : Nat → D → HL (tdsH A)) {d0 : D} (hN : 0 < N) (enc : Nat → Array Value)
  (hrc : ∀ (n0 : Nat) (Bx : List Nat) (a : Act) (w : World) (B : List Nat) (η : List Value) (Q : Exit → Act → World → Prop), SimK n0 Bx [] (stOf ⟨sls, A0⟩ n c0) a w B η →
   (∀ a' w' B' η' c lb S, SimK n0 Bx [] ⟨sl0, encH A (ins 0 d0)⟩ a' w' B' η' → Goes n0 0 w B η w' B' η' → η'[j]? = some (.pointer (some ⟨c, 0, none⟩)) → a'.eval g = .func (.func gf) #[] lb → HandsS P gf lb enc N c (fun k => .string ⟨(vs k).toArray⟩) S w' → (∀ x, S x → x < w'.heap.size ∧ x ∉ B') → Q .normal a' w') → rc.wp P Q a w)
  (eg : ∀ args w, (callFunc gf args).run P w = .ok (.enter gf args) w) (hps : ∀ k, (enc k).size = ps.size)
  (sl1 : Nat → List V) (hset : ∀ (k : Nat) (n0 : Nat) (W : World) (B : List Nat) (η : List Value) (tmps : Array Value), k < N → SlotsK n0 W B η sl0 tmps → SlotsK n0 W B η (sl1 k) ((ps.zip (enc k)).foldl (fun t (p, v) => t.setIfInBounds p v) tmps))
  (G : Nat → D → Option (D ⊕ HL (tdsH A'))) (hG : ∀ k d, k < N → (rndT P Γ2 fuel [f] m0 n ow assign body ⟨sl1 k, encH A (ins k d)⟩).run = (G k d).map (Sum.map (ins k) id)) (hjm : j < m0) (hHj : ∀ k d, (encH A (ins k d))[j]? = some (.box [.str (vs k)] Tj)) (hHs : ∀ k d, (encH A (ins k d)).set j (.box [.str (vs (k + 1))] Tj) = encH A (ins (k + 1) d))
  {o : D ⊕ HL (tdsH A')} (ho : rr G N 0 d0 = some o) {y : RT rs} (h2 : ∀ d, o = .inl d → (endT P Γ3 fuel f fn suf ⟨sl0, encH A (ins (N - 1) d)⟩).run = some y) (h3 : ∀ d, o = .inr d → (retT P fn rs ⟨sl0, encH A' d⟩).run = some y) : CallsK P f xs (tupV (valR rs y)) := by
 obtain ⟨st1, k1, E1⟩ := evL_ok hm hΓ1 pre _ _ _ hpre h1
 obtain ⟨c1, k2, E2⟩ := toShape_ok k1
 simp only [Tree.run, Option.some.injEq] at k2
 subst k2
 intro w Bc cargs hB hgl hlen hrel
 refine callsIn_wide.1 (callsIn_of_wp_marks (F := Fence.wide) (n := 2) hfn hb trivial (wpIn_wide.2 ?_) rfl)
 have hsim : SimK w.heap.size Bc [] ⟨slots0 fn xs, []⟩ { tmps := cargs.toArray ++ Array.replicate (fn.ntmps - cargs.toArray.size) undef, defers := [] } w Bc [] := by
  refine ⟨rfl, ⟨rfl, ⟨Nat.le_refl _, hgl⟩, fun b hb => ⟨hb, hB b hb⟩, hB, fun id e h => by simp at h, fun i j ei ej _ h => by simp at h⟩, slots0_ok ⟨hlen, fun i x hx => ?_⟩⟩
  obtain ⟨v, q1, q2⟩ := hrel i x hx
  obtain ⟨q3, q4⟩ := hxs i x hx
  exact ⟨v, q1, Rel2.of q3 q2, fun h => by rw [q4] at h; cases h⟩
 refine E1 w.heap.size Bc [] _ w Bc [] _ _ hsim fun a1 w1 B1 η1 hs1 hg1 => ?_
 obtain ⟨B2, η2, hs2, hg2⟩ := E2 w.heap.size Bc [] a1 w1 B1 η1 hs1
 have hb2 : Below w.heap.size w w1 := hg1.below
 refine wp_seq (wp_seq (hrc _ _ a1 w1 B2 η2 _ hs2 fun a3 w3 B3 η3 c lb S hs3 hg3 hηj hev hseq hS => ?_))
 show (Code.block bid _).wp P _ _ _
 have hfin : ∀ (K : Nat) (W : World) (st : S2) (a' : Act) (B : List Nat) (η : List Value), w1.heap.size ≤ K → SimK w.heap.size Bc [{ target := .collected K, args := #[] }] st a' W B η → nI st.heap = true → Below w.heap.size w W → W.heap[K]? = some (.deferred (some [])) →
   (resK P (frzRes st) fn.results.toList fun r => decR rs r fun y => .done y).run = some y → LeavesInM Fence.wide 2 P fn a'.tmps (fun e w' => ∃ v, e = .returned v ∧ Gr w w' ∧ Rel w' Bc [] (ex (tupV (valR rs y))) v) a'.defers .returning W :=
  fun K W st a' B η hD hs hn hbW hK hq => leave_end hs hn hK (Nat.le_trans hb2.size hD) hbW hq hres
 have hbw : Below w.heap.size w w3 := hb2.trans hg3.below
 refine wp_block (rng_endsS ins hm hΓ2 hok1 hok2 hnd1 hnd2 hl1 hl2 sl1 G hN hG hjm hHj hHs hsl hA hA' hs3 hηj (gf := gf) (lb := lb) (enc := enc) hev eg hseq (fun _ x hx => hS x hx) hps (fun k W B η hk hon hBs hsl0 => hset k _ W B η _ hk hsl0) ho ?_ ?_)
 ·intro K W d ho' hD hmid hK
  obtain ⟨B, η, i1, i2, i3, i4, i5, i6, _⟩ := hmid
  show Code.wp P suf _ _ _
  have h2' := h2 d ho'
  unfold endT at h2'
  obtain ⟨ex1, st2, k3, E3⟩ := evK_ok hm hΓ3 fuel [f] 0 suf _ _ _ hsuf.1 (by rw [hsuf.2]; intro c hc; cases hc) h2'
  have hDn : w1.heap.size ≤ K := Nat.le_trans hg3.on.size hD
  have hDB : K ∉ B := fun hb => by
   rcases i3 K hb with h | ⟨o, h, h'⟩
   ·have := hb2.size; omega
   ·rw [hK] at h; injection h with h; rw [← h] at h'; cases h'
  refine E3 w.heap.size Bc [{ target := .collected K, args := #[] }] _ W B η _ ⟨?_, i1, i2⟩ fun a' w' B' η' hs' hg' => ?_
  ·show _ :: _ = _
   rw [hs3.defers]
  ·have hK' : w'.heap[K]? = some (.deferred (some [])) := (hg'.on.block K (Array.getElem?_eq_some_iff.1 hK).1 hDB).2 _ hK (fun c e fr h => by cases h)
   have hbW : Below w.heap.size w w' := (hbw.trans i6).trans hg'.below
   split at k3
   ·split at k3
    case isFalse => cases k3
    rename_i hnI
    exact hfin K w' st2 a' B' η' hDn hs' hnI hbW hK' k3
   ·split at k3
    case isFalse => cases k3
    rename_i hnI
    exact hfin K w' st2 a' B' η' hDn hs' hnI hbW hK' k3
   ·cases k3
 ·intro K W d ho' hD hmid hK
  obtain ⟨B, η, i1, i2, i3, i4, i5, i6, _⟩ := hmid
  have h3' := h3 d ho'
  have hDn : w1.heap.size ≤ K := Nat.le_trans hg3.on.size hD
  refine hfin K W ⟨sl0, encH A' d⟩ _ B η hDn ⟨?_, i1, i2⟩ (hA' d) (hbw.trans i6) hK h3'
  show _ :: _ = _
  rw [hs3.defers]
end
end Go.Proofs.YtkigpcolmioibaaDoor
namespace Go.Proofs.YtkigpcolmioibaaDoor
set_option maxRecDepth 100000
open Go.RowKit
set_option linter.unusedVariables false
attribute [local go_sem] Oper.semAt_some
def dotI (s : List UInt8) : Int := Lib.indexByte s 46
theorem dotI_ge (s : List UInt8) : -1 ≤ dotI s := Lib.indexByte_ge s 46
theorem dotI_lt : ∀ s : List UInt8, dotI s < s.length
 | [] => by unfold dotI Lib.indexByte; simp
 | b :: l => by
  have ih := dotI_lt l
  have hg := dotI_ge l
  unfold dotI at ih hg ⊢
  unfold Lib.indexByte
  simp only [List.length_cons]
  split
  ·omega
  ·split <;> omega
def spl : Nat → List UInt8 → List (List UInt8 × List UInt8)
 | 0, s => [(s, s)]
 | n + 1, s => if dotI s < 0 then [(s, s)] else (s, s.take (dotI s).toNat) :: spl n (s.drop ((dotI s).toNat + 1))
def spr (n : Nat) (s : List UInt8) (k : Nat) : List UInt8 := ((spl n s).getD k ([], [])).1
def spp (n : Nat) (s : List UInt8) (k : Nat) : List UInt8 := ((spl n s).getD k ([], [])).2
theorem spl_pos (n : Nat) (s : List UInt8) : 0 < (spl n s).length := by
 cases n with
 | zero => simp [spl]
 | succ n => unfold spl; split <;> simp
theorem spr_zero (n : Nat) (s : List UInt8) : spr n s 0 = s := by
 unfold spr
 cases n with
 | zero => rfl
 | succ n => unfold spl; split <;> rfl
theorem spl_step : ∀ (n : Nat) (s : List UInt8), s.length < n → ∀ k, k < (spl n s).length →
  (k + 1 < (spl n s).length ∧ 0 ≤ dotI (spr n s k) ∧ spp n s k = (spr n s k).take (dotI (spr n s k)).toNat ∧ spr n s (k + 1) = (spr n s k).drop ((dotI (spr n s k)).toNat + 1)) ∨
  (k + 1 = (spl n s).length ∧ dotI (spr n s k) < 0 ∧ spp n s k = spr n s k)
 | 0, s, h, _, _ => by omega
 | n + 1, s, h, k, hk => by
  by_cases hd : dotI s < 0
  ·have e : spl (n + 1) s = [(s, s)] := by unfold spl; rw [if_pos hd]
   rw [e] at hk
   have hk0 : k = 0 := by simpa using hk
   subst hk0
   right
   unfold spr spp
   rw [e]
   exact ⟨rfl, hd, rfl⟩
  ·have e : spl (n + 1) s = (s, s.take (dotI s).toNat) :: spl n (s.drop ((dotI s).toNat + 1)) := by rw [spl, if_neg hd]
   have hl : (s.drop ((dotI s).toNat + 1)).length < n := by
    have := dotI_lt s
    rw [List.length_drop]; omega
   have p := spl_pos n (s.drop ((dotI s).toNat + 1))
   cases k with
   | zero =>
    left
    have h0 : spr (n + 1) s 0 = s := spr_zero _ _
    refine ⟨by rw [e, List.length_cons]; omega, by rw [h0]; omega, ?_, ?_⟩
    ·rw [h0]; unfold spp; rw [e]; rfl
    ·rw [h0]
     have := spr_zero n (s.drop ((dotI s).toNat + 1))
     unfold spr at this ⊢
     rw [e]
     exact this
   | succ k =>
    have hk' : k < (spl n (s.drop ((dotI s).toNat + 1))).length := by rw [e, List.length_cons] at hk; omega
    have ih := spl_step n _ hl k hk'
    have r1 : ∀ j, spr (n + 1) s (j + 1) = spr n (s.drop ((dotI s).toNat + 1)) j := fun j => by unfold spr; rw [e]; rfl
    have r2 : ∀ j, spp (n + 1) s (j + 1) = spp n (s.drop ((dotI s).toNat + 1)) j := fun j => by unfold spp; rw [e]; rfl
    rw [r1, r1, r2, e, List.length_cons]
    rcases ih with ⟨a, b, c, d⟩ | ⟨a, b, c⟩
    ·exact .inl ⟨by omega, b, c, d⟩
    ·exact .inr ⟨by omega, b, c⟩
theorem spr_len : ∀ (n : Nat) (s : List UInt8), s.length < n → ∀ k, k < (spl n s).length → (spr n s k).length + k ≤ s.length
 | n, s, h, 0, hk => by rw [spr_zero]; omega
 | n, s, h, k + 1, hk => by
  have ih := spr_len n s h k (by omega)
  rcases spl_step n s h k (by omega) with ⟨_, b, _, d⟩ | ⟨a, _, _⟩
  ·have := dotI_lt (spr n s k)
   rw [d, List.length_drop]; omega
  ·omega
theorem ext_take (l : List UInt8) (m : Nat) : (ByteArray.mk l.toArray).extract 0 m = ⟨(l.take m).toArray⟩ := by
 apply ByteArray.ext
 rw [ByteArray.data_extract]
 apply Array.ext'
 simp
theorem ext_drop (l : List UInt8) (m : Nat) : (ByteArray.mk l.toArray).extract m (ByteArray.mk l.toArray).size = ⟨(l.drop m).toArray⟩ := by
 apply ByteArray.ext
 rw [ByteArray.data_extract, show (ByteArray.mk l.toArray).size = l.length by show l.toArray.size = _; simp]
 apply Array.ext'
 simp [List.take_of_length_le]
set_option maxRecDepth 100000 in
set_option maxHeartbeats 4000000 in
theorem split_walk (l : Nat) (cs cp cz : Nat) (n : Nat) (s : List UInt8) (hn : s.length < n) (hs : s.length ≤ 1000000000) (J M Jx : Nat → World → Prop)
  (hrd : ∀ k W, J k W → ∃ T, W.heap[cs]? = some (.cells #[.string ⟨(spr n s k).toArray⟩] T (0, 0))) (hrM : ∀ k W, M k W → ∃ T, W.heap[cs]? = some (.cells #[.string ⟨(spr n s k).toArray⟩] T (0, 0)))
  (hwr : ∀ k W, k + 1 < (spl n s).length → M k W → J (k + 1) (W.setRow cs #[.string ⟨(spr n s (k + 1)).toArray⟩]))
  (hne : cs ≠ cp ∧ cs ≠ cz)
  (hY : ∀ k W, J k W → k < (spl n s).length → YieldAt Fence.wide 0 Tryd.prog l #[.string ⟨(spp n s k).toArray⟩] W fun e W' => (e = .returned (.bool true) ∧ M k W' ∧ KeepsB (fun b => b = cp ∨ b = cz) W W') ∨ (e = .returned (.bool false) ∧ Jx k W'))
  (hix : ∀ (s : ByteArray) (w : World), Calls Tryd.prog 64 #[.string s, .string ⟨#[46]⟩] w fun e w' => e = .returned (.int .i64 (Lib.indexByte s.data.toList 46)) ∧ w' = w)
  (W : World) (hp : W.cell? ⟨cp, 0, none⟩ = some (.string ⟨#[46]⟩)) (hz : W.cell? ⟨cz, 0, none⟩ = some (.int .i64 0)) (h0 : J 0 W) :
  CallsIn Fence.wide 1 Tryd.prog 62 #[.func (.yield l) #[] #[], .pointer (some ⟨cp, 0, none⟩), .pointer (some ⟨cs, 0, none⟩), .pointer (some ⟨cz, 0, none⟩)] W fun e W' => (∃ v, e = .returned v) ∧ (M ((spl n s).length - 1) W' ∨ ∃ k, k < (spl n s).length ∧ Jx k W') := by
 refine callsIn_of_wp Tryd.func62 rfl trivial ?_ rfl
 simp only [Tryd.ntmps62, List.size_toArray, List.length_cons, List.length_nil, Nat.reduceAdd, Nat.reduceSub, Array.replicate_succ, Array.replicate_zero, List.push_toArray, List.append_toArray, List.nil_append, List.cons_append]
 gi_wp2
 gi_loopw [7] (fun i wr => ∃ k : Nat, k < (spl n s).length ∧ J k wr ∧ wr.cell? ⟨cp, 0, none⟩ = some (.string ⟨#[46]⟩) ∧ wr.cell? ⟨cz, 0, none⟩ = some (.int .i64 0))
  (fun i wr => match wr.cell? ⟨cs, 0, none⟩ with | some (.string b) => b.size | _ => 0)
 case atStart => exact ⟨0, spl_pos n s, h0, hp, hz⟩
 case round =>
  obtain ⟨k, hk, hJs, hpr, hzr⟩ := hrel
  obtain ⟨T1, hc1⟩ := hrd k wr hJs
  have hcell : wr.cell? ⟨cs, 0, none⟩ = some (.string ⟨(spr n s k).toArray⟩) := by rw [Lib.cell_of_heap hc1]; rfl
  have hdot : Lib.indexByte (ByteArray.mk (spr n s k).toArray).data.toList 46 = dotI (spr n s k) := by simp [dotI]
  have hsz : (ByteArray.mk (spr n s k).toArray).size = (spr n s k).length := by show (spr n s k).toArray.size = _; simp
  have hlen := spr_len n s hn k hk
  have hlt := dotI_lt (spr n s k)
  have hge := dotI_ge (spr n s k)
  obtain ⟨fn, tmps, assign, body, hy, hR⟩ := hY k _ hJs hk
  rcases spl_step n s hn k hk with ⟨e1, e2, e3, e4⟩ | ⟨e1, e2, e3⟩
  ·have hx := ext_take (spr n s k) (dotI (spr n s k)).toNat
   rw [e3, ← hx] at hy
   clear hx
   gi_wp2_with (refine ⟨trivial, ?_⟩; gi_at_call 64; refine (callsIn_wide.2 (hix _ _)).mono ?_; rintro e w' ⟨rfl, rfl⟩; rw [hdot])
   refine hR.mono ?_
   rintro e W3 (⟨rfl, hM3, hk3⟩ | ⟨rfl, hJx3⟩)
   ·obtain ⟨T3, hc3⟩ := hrM k W3 hM3
    have hcell3 : W3.cell? ⟨cs, 0, none⟩ = some (.string ⟨(spr n s k).toArray⟩) := by rw [Lib.cell_of_heap hc3]; rfl
    have hp3 := hk3 cp (.inl rfl) _ _ hpr
    have hz3 := hk3 cz (.inr rfl) _ _ hzr
    have hf3 : W3.frozen? ⟨cs, 0, none⟩ = false := Lib.frozen_of_heap hc3 0
    gi_wp2
    have hx3 : (ByteArray.mk (spr n s k).toArray).extract (dotI (spr n s k) + 1).toNat (spr n s k).length = ⟨(spr n s (k + 1)).toArray⟩ := by
     rw [e4, show (dotI (spr n s k) + 1).toNat = (dotI (spr n s k)).toNat + 1 by omega, ← ext_drop, hsz]
    rw [hx3, setCell_eq_setRow W3 cs 0 _ T3 (0, 0) _ hc3]
    have hl1 : (spr n s (k + 1)).length < (spr n s k).length := by rw [e4, List.length_drop]; omega
    show (∃ k_1, k_1 < (spl n s).length ∧ J k_1 (W3.setRow cs #[.string ⟨(spr n s (k + 1)).toArray⟩]) ∧ (W3.setRow cs #[.string ⟨(spr n s (k + 1)).toArray⟩]).cell? ⟨cp, 0, none⟩ = some (.string ⟨#[46]⟩) ∧ (W3.setRow cs #[.string ⟨(spr n s (k + 1)).toArray⟩]).cell? ⟨cz, 0, none⟩ = some (.int .i64 0)) ∧
     (match (W3.setRow cs #[.string ⟨(spr n s (k + 1)).toArray⟩]).cell? ⟨cs, 0, none⟩ with | some (.string b) => b.size | _ => 0) < (match w'.cell? ⟨cs, 0, none⟩ with | some (.string b) => b.size | _ => 0)
    refine ⟨⟨k + 1, e1, hwr k W3 e1 hM3, (World.cell?_of_block (setRow_other W3 cs cp _ hne.1.symm)).trans hp3, (World.cell?_of_block (setRow_other W3 cs cz _ hne.2.symm)).trans hz3⟩, ?_⟩
    rw [hcell, Lib.cell_of_heap (setRow_heap W3 cs _ _ T3 (0, 0) hc3)]
    show (ByteArray.mk (spr n s (k + 1)).toArray).size < (ByteArray.mk (spr n s k).toArray).size
    rw [hsz]
    show (spr n s (k + 1)).toArray.size < _
    simpa using hl1
   ·gi_wp2
    refine bodyPost_ret (results_none rfl _ _ _) rfl ?_
    exact ⟨⟨_, rfl⟩, .inr ⟨k, hk, hJx3⟩⟩
  ·rw [e3] at hy
   gi_wp2_with (refine ⟨trivial, ?_⟩; gi_at_call 64; refine (callsIn_wide.2 (hix _ _)).mono ?_; rintro e w' ⟨rfl, rfl⟩; rw [hdot])
   refine hR.mono ?_
   rintro e W3 (⟨rfl, hM3, hk3⟩ | ⟨rfl, hJx3⟩)
   ·gi_wp2
    go_end0
    refine ⟨⟨_, rfl⟩, .inl ?_⟩
    rw [← e1]; exact hM3
   ·gi_wp2
    go_end0
    exact ⟨⟨_, rfl⟩, .inr ⟨k, hk, hJx3⟩⟩
set_option maxRecDepth 100000 in
set_option maxHeartbeats 1000000 in
theorem split_call (s : ByteArray) (w : World) :
  Calls Tryd.prog 38 #[.string s, .string ⟨#[46]⟩] w fun e w' => e = .returned (.func (.func 62) #[] #[.pointer (some ⟨w.heap.size + 1, 0, none⟩), .pointer (some ⟨w.heap.size, 0, none⟩), .pointer (some ⟨w.heap.size + 2, 0, none⟩)]) ∧
   w' = ((w.alloc (.cells #[.string s] 9)).alloc (.cells #[.string ⟨#[46]⟩] 9)).alloc (.cells #[.int .i64 0] 3) := by
 go_enter Tryd.func38, Tryd.ntmps38
 go_wp2
 go_ret
 exact ⟨rfl, rfl⟩
theorem split_hands (hix : ∀ (s : ByteArray) (w : World), Calls Tryd.prog 64 #[.string s, .string ⟨#[46]⟩] w fun e w' => e = .returned (.int .i64 (Lib.indexByte s.data.toList 46)) ∧ w' = w)
  (cs cp cz : Nat) (n : Nat) (s : List UInt8) (hn : s.length < n) (hs : s.length ≤ 1000000000) (hne : cs ≠ cp ∧ cs ≠ cz) (w : World) (hpl : cp < w.heap.size) (hzl : cz < w.heap.size) (hp : w.cell? ⟨cp, 0, none⟩ = some (.string ⟨#[46]⟩)) (hz : w.cell? ⟨cz, 0, none⟩ = some (.int .i64 0)) :
  HandsS Tryd.prog 62 #[.pointer (some ⟨cp, 0, none⟩), .pointer (some ⟨cs, 0, none⟩), .pointer (some ⟨cz, 0, none⟩)] (fun k => #[.string ⟨(spp n s k).toArray⟩]) (spl n s).length cs (fun k => .string ⟨(spr n s k).toArray⟩) (fun b => b = cp ∨ b = cz) w := by
 intro l J M Jx W hW hJ hM hrd hrM hwr hY h0
 exact split_walk l cs cp cz n s hn hs J M Jx hrd hrM hwr hne hY hix W ((hW.cell (p := ⟨cp, 0, none⟩) hpl).trans hp) ((hW.cell (p := ⟨cz, 0, none⟩) hzl).trans hz) h0
end Go.Proofs.YtkigpcolmioibaaDoor
namespace Go.Proofs.YtkigpcolmioibaaDoor
set_option maxRecDepth 100000
open Go.RowKit
set_option linter.unusedVariables false
set_option linter.unusedSimpArgs false
theorem src_ok {P : Program} {rid : Nat} {ops : Array Oper} {o1 o2 : Oper} {st st' : S2} {s : List UInt8} {x1 x2 : Tmp} {F gf : Nat} {ts : Array TypeId} {T T3 : TypeId} {sep : Value} {keep : List Nat} {j : Nat} (hops : ops.toList = [o1, o2]) (hg1 : o1.guard = none) (hg2 : o2.guard = none) (hd1 : o1.dst = some x1) (hd2 : o2.dst = some x2)
  (hop : o2.op = .call ⟨.value (.func F), #[.tmp x1, .const sep], ts⟩) (h1 : (evNF P (noG (List UInt8)) st.heap (opV st.slots) o1.op fun r => match r with | .str l => .done l | _ => .fail).run = some s)
  (hF : ∃ fn, P.funcs[F]? = some fn ∧ fn.name ≠ "runtime.NumGoroutine" ∧ fn.body ≠ none) (hx1 : st.slots.getD x1 .any = .any) (hx2 : st.slots.getD x2 .any = .any) (hl1 : x1 < st.slots.length) (hl2 : x2 < st.slots.length)
  (hnd : keep.Nodup) (hj : keep[j]? = some st.heap.length) (hst : renum keep ⟨st.slots, st.heap ++ [.box [.str s] T]⟩ = st')
  {enc : Nat → Array Value} {N : Nat} {vs : Nat → Value}
  (hc : ∀ (w : World), Calls P F #[.string ⟨s.toArray⟩, sep] w fun e w' => e = .returned (.func (.func gf) #[] #[.pointer (some ⟨w.heap.size + 1, 0, none⟩), .pointer (some ⟨w.heap.size, 0, none⟩), .pointer (some ⟨w.heap.size + 2, 0, none⟩)]) ∧
   w' = ((w.alloc (.cells #[.string ⟨s.toArray⟩] T)).alloc (.cells #[sep] T)).alloc (.cells #[.int .i64 0] T3))
  (hh : ∀ (cs cp cz : Nat) (w : World), cs ≠ cp ∧ cs ≠ cz → cp < w.heap.size → cz < w.heap.size → w.cell? ⟨cp, 0, none⟩ = some sep → w.cell? ⟨cz, 0, none⟩ = some (.int .i64 0) →
   HandsS P gf #[.pointer (some ⟨cp, 0, none⟩), .pointer (some ⟨cs, 0, none⟩), .pointer (some ⟨cz, 0, none⟩)] enc N cs vs (fun b => b = cp ∨ b = cz) w)
  (n0 : Nat) (Bx : List Nat) (a : Act) (w : World) (B : List Nat) (η : List Value) (Q : Exit → Act → World → Prop) (hs : SimK n0 Bx [] st a w B η)
  (hQ : ∀ a' w' B' η' c lb S, SimK n0 Bx [] st' a' w' B' η' → Goes n0 0 w B η w' B' η' → η'[j]? = some (.pointer (some ⟨c, 0, none⟩)) → a'.eval (.tmp x2) = .func (.func gf) #[] lb → HandsS P gf lb enc N c vs S w' → (∀ x, S x → x < w'.heap.size ∧ x ∉ B') → Q .normal a' w') :
  (Code.region rid ops false).wp P Q a w := by
 obtain ⟨r, h2, h3⟩ := evNF_ok (noG_ok P _) h1
 split at h2
 case h_2 => cases h2
 rename_i s'
 simp only [Tree.run, Option.some.injEq] at h2
 have h2 := h2.symm
 subst h2
 refine wp_seqRegion ?_
 rw [hops]
 unfold wpList
 rw [show Region.wanted o1 (yielded ops a.tmps) = true by simp [Region.wanted, hg1], if_pos rfl]
 refine .inl (val_wp (h3 n0 Bx w B η a.eval (fun f => rfl) hs.inv (fun x _ => opV_rel hs.slots hs.inv.base.2 x) _ fun v w1 g hr hf => ?_))
 have hsz : a.tmps.size = st.slots.length := hs.slots.size.symm
 have hs1 : SlotsK n0 w1 B η st.slots (a.put (some x1) v).tmps := slots_any (hs.slots.on g.on (fun _ h => .inl h) (fun _ _ h => h)) hx1 v
 have hi1 := hs.inv.gk g
 have hr1 : Rel w1 B η (.c (.string ⟨s.toArray⟩)) v := hr.get rfl
 have hr2 := Rel.ofC hr1
 subst hr2
 rw [hd1]
 unfold wpList
 rw [show Region.wanted o2 (yielded ops (a.put (some x1) (.string ⟨s.toArray⟩)).tmps) = true by simp [Region.wanted, hg2], if_pos rfl]
 refine .inl (val_wp (val_of_enters hop (x := .func F) rfl ?_))
 have hev : (a.put (some x1) (.string ⟨s.toArray⟩)).eval (.tmp x1) = .string ⟨s.toArray⟩ := by
  show (a.tmps.setIfInBounds x1 _).getD x1 undef = _
  rw [Array.getD_eq_getD_getElem?, Array.getElem?_setIfInBounds_self_of_lt (show x1 < a.tmps.size by rw [hsz]; exact hl1)]
  rfl
 obtain ⟨fn, h5, h6, h7⟩ := hF
 have hrun : (callFunc F #[.string ⟨s.toArray⟩, sep]).run P w1 = .ok (.enter F #[.string ⟨s.toArray⟩, sep]) w1 := by
  simp [callFunc, Sem.run_bind, h5, h6, h7]
 have hmap : (#[Operand.tmp x1, Operand.const sep].map (a.put (some x1) (.string ⟨s.toArray⟩)).eval) = #[.string ⟨s.toArray⟩, sep] := by
  simp only [List.map_toArray, List.map_cons, List.map_nil, hev]
  rfl
 rw [hmap]
 unfold EntersV
 rw [hrun]
 refine (hc w1).mono fun e w2 he => ?_
 obtain ⟨rfl, rfl⟩ := he
 refine ⟨_, rfl, ?_⟩
 generalize hw2 : ((w1.alloc (.cells #[.string ⟨s.toArray⟩] T)).alloc (.cells #[sep] T)).alloc (.cells #[.int .i64 0] T3) = w2
 have b1 : Below w1.heap.size w1 (w1.alloc (.cells #[.string ⟨s.toArray⟩] T)) := (Below.refl _ w1).alloc (Nat.le_refl _) _
 have b2 : Below (w1.alloc (.cells #[.string ⟨s.toArray⟩] T)).heap.size (w1.alloc (.cells #[.string ⟨s.toArray⟩] T)) ((w1.alloc (.cells #[.string ⟨s.toArray⟩] T)).alloc (.cells #[sep] T)) := (Below.refl _ _).alloc (Nat.le_refl _) _
 have b3 : Below ((w1.alloc (.cells #[.string ⟨s.toArray⟩] T)).alloc (.cells #[sep] T)).heap.size ((w1.alloc (.cells #[.string ⟨s.toArray⟩] T)).alloc (.cells #[sep] T)) w2 := by rw [← hw2]; exact (Below.refl _ _).alloc (Nat.le_refl _) _
 have z1 : (w1.alloc (.cells #[.string ⟨s.toArray⟩] T)).heap.size = w1.heap.size + 1 := World.size_alloc _ _
 have z2 : ((w1.alloc (.cells #[.string ⟨s.toArray⟩] T)).alloc (.cells #[sep] T)).heap.size = w1.heap.size + 2 := by rw [World.size_alloc, z1]
 have z3 : w2.heap.size = w1.heap.size + 3 := by rw [← hw2, World.size_alloc, z2]
 have hgr : Gr w1 w2 := b1.trans ((b2.mono (by omega)).trans (b3.mono (by omega)))
 have r1 : w2.heap[w1.heap.size]? = some (.cells #[.string ⟨s.toArray⟩] T (0, 0)) := by
  rw [b3.block _ (by omega), b2.block _ (by omega)]
  exact World.alloc_heap_new w1 _
 have r2 : w2.heap[w1.heap.size + 1]? = some (.cells #[sep] T (0, 0)) := by
  rw [b3.block _ (by omega)]
  have := World.alloc_heap_new (w1.alloc (.cells #[.string ⟨s.toArray⟩] T)) (.cells #[sep] T)
  rwa [z1] at this
 have r3 : w2.heap[w1.heap.size + 2]? = some (.cells #[.int .i64 0] T3 (0, 0)) := by
  have := World.alloc_heap_new ((w1.alloc (.cells #[.string ⟨s.toArray⟩] T)).alloc (.cells #[sep] T)) (.cells #[.int .i64 0] T3)
  rwa [z2, hw2] at this
 have hn0 := hi1.base.1
 have hlt := hi1.lt
 have hent : EntOK n0 Bx w2 (w1.heap.size :: B) (η ++ [.pointer (some ⟨w1.heap.size, 0, none⟩)]) (.pointer (some ⟨w1.heap.size, 0, none⟩)) (exE (.box [.str s] T)) :=
  ⟨w1.heap.size, [.string ⟨s.toArray⟩], rfl, hn0, List.mem_cons_self, fun h => by have := (hi1.sub _ h).2; omega, r1, RelL.of1 (.c _ _)⟩
 have hpush := hi1.push hgr (Nat.le_refl _) (by omega) rfl hent
 have hsl2 : SlotsK n0 w2 (w1.heap.size :: B) (η ++ [.pointer (some ⟨w1.heap.size, 0, none⟩)]) st.slots (((a.put (some x1) (.string ⟨s.toArray⟩)).put (some x2) (.func (.func gf) #[] #[.pointer (some ⟨w1.heap.size + 1, 0, none⟩), .pointer (some ⟨w1.heap.size, 0, none⟩), .pointer (some ⟨w1.heap.size + 2, 0, none⟩)])).tmps) :=
  slots_any (hs1.on (.gr hgr) (fun b hb => (List.mem_cons.1 hb).elim (fun h => .inr (by omega)) .inl) (push_old η _)) hx2 _
 have hsim : SimK n0 Bx [] ⟨st.slots, st.heap ++ [.box [.str s] T]⟩ ((a.put (some x1) (.string ⟨s.toArray⟩)).put (some x2) (.func (.func gf) #[] #[.pointer (some ⟨w1.heap.size + 1, 0, none⟩), .pointer (some ⟨w1.heap.size, 0, none⟩), .pointer (some ⟨w1.heap.size + 2, 0, none⟩)])) w2 (w1.heap.size :: B) (η ++ [.pointer (some ⟨w1.heap.size, 0, none⟩)]) :=
  ⟨by rw [put_defers, put_defers]; exact hs.defers, by rw [List.map_append]; exact hpush, hsl2⟩
 have hren := renum_ok hsim hnd
 rw [hst] at hren
 rw [hd2]
 unfold wpList
 have hlen : η.length = st.heap.length := by simpa using hs.inv.len
 refine hQ _ _ _ _ w1.heap.size _ _ hren (Goes.trans ⟨g.on, fun _ h => .inl h, fun _ _ _ h => h, g.below hs.inv.base.1⟩ ⟨On.gr hgr, fun b hb => (List.mem_cons.1 hb).elim (fun h => .inr (by omega)) .inl, fun _ _ h _ => absurd h (Nat.not_lt_zero _), hgr.mono hn0⟩) ?_ ?_ (hh w1.heap.size (w1.heap.size + 1) (w1.heap.size + 2) w2 ⟨by omega, by omega⟩ (by omega) (by omega) (by rw [Lib.cell_of_heap r2]; rfl) (by rw [Lib.cell_of_heap r3]; rfl)) ?_
 ·rw [List.getElem?_map, hj, Option.map_some, List.getD_eq_getElem?_getD, ← hlen, List.getElem?_append_right (Nat.le_refl _)]
  simp
 ·show (Array.setIfInBounds _ x2 _).getD x2 undef = _
  rw [Array.getD_eq_getD_getElem?, Array.getElem?_setIfInBounds_self_of_lt]
  ·rfl
  ·show x2 < (Array.setIfInBounds a.tmps x1 _).size
   rw [Array.size_setIfInBounds, hsz]; exact hl2
 ·intro x hx
  refine ⟨by rcases hx with h | h <;> omega, fun hb => ?_⟩
  rcases List.mem_cons.1 hb with h | h
  ·rcases hx with h' | h' <;> omega
  ·have := hlt x h
   rcases hx with h' | h' <;> omega
end Go.Proofs.YtkigpcolmioibaaDoor
namespace Go.Proofs.YtkigpcolmioibaaDoor
set_option maxRecDepth 100000
open Go.RowKit
set_option linter.unusedVariables false
noncomputable def prsC : Code := bodyC Tryd.f19
noncomputable def prsP : List Code := [cL prsC, cL (cR prsC)]
noncomputable def prsRc : Code := cL (cL (cR (cR prsC)))
noncomputable def prsRf : Code := cB (cR (cL (cR (cR prsC))))
noncomputable def prsS : Code := cR (cR (cR prsC))
noncomputable def prsE0 (N : Nat) : (R : Type) → Env R := Env.addFn (Jg.Ev23 N) 39 (fun R => puK8)
theorem prsE0_ok (N : Nat) (R : Type) : EnvOK Tryd.prog (prsE0 N R) := EnvOK.addExt (Jg.Ev23_ok N R) pu8_ok
noncomputable def prsE (N : Nat) : (R : Type) → Env R := Env.addMv (prsE0 N) [(19, 7)]
theorem prsE_ok (N : Nat) (R : Type) : EnvOK Tryd.prog (prsE N R) := EnvOK.addMv (prsE0_ok N R) _
abbrev prsSl : List (Nat × SSh) := [(0, .ty .str), (2, .lit (.box 0 0)), (3, .lit (.box 1 0)), (4, .lit (.box 2 0))]
abbrev prsA0 : List HSh := [.box 31 (.int .u32), .box 48 (.int .i64), .boxp 57 [.own 3], .own (.int .u8) 5]
abbrev prsA : List HSh := [.box 31 (.int .u32), .box 48 (.int .i64), .boxp 57 [.own 4], .box 9 .str, .own (.int .u8) 5]
abbrev prsA' : List HSh := [.box 31 (.int .u32), .box 48 (.int .i64), .dead, .dead, .dead]
noncomputable def prsSl0 (s : List UInt8) : List V := (stOf ⟨prsSl, prsA0⟩ 36 ((s, ()), (0, 0, [], ()))).slots
noncomputable def prsSl1 (s p : List UInt8) : List V := (prsSl0 s).set 11 (.str p)
end Go.Proofs.YtkigpcolmioibaaDoor
namespace Go.Proofs.YtkigpcolmioibaaDoor
set_option maxRecDepth 100000
open Go.RowKit
set_option linter.unusedVariables false
set_option linter.unusedSimpArgs false
set_option maxRecDepth 100000
def prs_rd (p : List UInt8) (d : Int × Int × List Int) : Option ((Int × Int × List Int) ⊕ HL (tdsH prsA')) :=
 bif decide (p.length ≤ 281474976710656) then
  Sum.elim (fun v7 : Int =>
   Option.bind (some (@cond Bool Bool.false Bool.true (decide (((d.2.2.length : Nat) : Int) = 4)))) fun v8 : Bool =>
   bif v8 then some (.inr (0, (3, ()))) else
   bif roomB (d.2.2.length + ([IntKind.wrap .u8 v7] : List Int).length) 1 then some (.inl (d.1, d.2.1, d.2.2 ++ [IntKind.wrap .u8 v7])) else none)
   (fun v7 : Int => some (.inr (0, (3, ())))) (puS8 p)
 else none
abbrev prsIns (n : Nat) (s : List UInt8) (k : Nat) (d : Int × Int × List Int) : HL (tdsH prsA) := (d.1, d.2.1, spr n s k, d.2.2, ())
theorem prs_rd_S (N n : Nat) (s : List UInt8) (k : Nat) (d : Int × Int × List Int) : (rndT (A := prsA) (A' := prsA') Tryd.prog (prsE N _) 400 [19] 4 36 [] (rfA prsRf) (rfB prsRf) ⟨prsSl1 s (spp n s k), encH prsA (prsIns n s k d)⟩).run =
  (prs_rd (spp n s k) d).map (Sum.map (prsIns n s k) id) := by
 obtain ⟨a, e, b⟩ := d
 have h : (rndT (A := prsA) (A' := prsA') Tryd.prog (prsE N _) 400 [19] 4 36 [] (rfA prsRf) (rfB prsRf) ⟨prsSl1 s (spp n s k), encH prsA (a, e, spr n s k, b, ())⟩).run =
   bif decide ((spp n s k).length ≤ 281474976710656) then
    Sum.elim (fun v7 : Int =>
     Option.bind (some (@cond Bool Bool.false Bool.true (decide (((b.length : Nat) : Int) = 4)))) fun v8 : Bool =>
     bif v8 then some (.inr (0, (3, ()))) else
     bif roomB (b.length + ([IntKind.wrap .u8 v7] : List Int).length) 1 then some (.inl (a, (e, (spr n s k, (b ++ [IntKind.wrap .u8 v7], ()))))) else none)
     (fun v7 : Int => some (.inr (0, (3, ())))) (puS8 (spp n s k))
   else none := by kernel_rfl
 show (rndT (A := prsA) (A' := prsA') Tryd.prog (prsE N _) 400 [19] 4 36 [] (rfA prsRf) (rfB prsRf) ⟨prsSl1 s (spp n s k), encH prsA (a, e, spr n s k, b, ())⟩).run = _
 rw [h]
 unfold prs_rd
 cases decide ((spp n s k).length ≤ 281474976710656) with
 | false => rfl
 | true =>
  simp only [cond_true]
  cases puS8 (spp n s k) with
  | inr z => rfl
  | inl u =>
   simp only [Sum.elim_inl, Option.bind_some]
   cases decide (((b.length : Nat) : Int) = 4) with
   | true => rfl
   | false =>
    simp only [cond_false]
    cases roomB (b.length + ([IntKind.wrap .u8 u] : List Int).length) 1 <;> rfl
noncomputable def prs_end (N : Nat) (s : List UInt8) (b : List Int) : Option (Int × Int) :=
 Option.bind (Jg.ipcpo_address N b) fun v6 : Int => Option.bind (Jg.ipcpo_Text N v6) fun v7 : List UInt8 => bif !(decide (v7 = s)) then some ((0 : Int), (3 : Int)) else some (v6, (0 : Int))
theorem prs_end_S (N : Nat) (s r : List UInt8) (a e : Int) (b : List Int) : (endT (rs := [.int .u32, .int .i64]) Tryd.prog (prsE N _) 400 19 Tryd.f19 prsS ⟨prsSl0 s, encH prsA (a, (e, (r, (b, ()))))⟩).run = prs_end N s b := by kernel_rfl
theorem prs_ret_S (s : List UInt8) (a e : Int) : (retT Tryd.prog Tryd.f19 [.int .u32, .int .i64] ⟨prsSl0 s, encH prsA' (a, (e, ()))⟩).run = some (a, e) := by kernel_rfl
noncomputable def ipcpo_Parse (N : Nat) (s : List UInt8) : Option (Int × Int) :=
 bif decide (s.length ≤ 1000000000) then (rr (fun k d => prs_rd (spp (s.length + 1) s k) d) (spl (s.length + 1) s).length 0 ((0 : Int), (0 : Int), [])).bind (Sum.elim (fun d => prs_end N s d.2.2) (fun d => some (d.1, d.2.1))) else none
theorem idx_one (s : ByteArray) (w : World) : Calls Tryd.prog 64 #[.string s, .string ⟨#[46]⟩] w fun e w' => e = .returned (.int .i64 (Lib.indexByte s.data.toList 46)) ∧ w' = w := Tryd.strings_Index_one s 46 w
set_option maxHeartbeats 2000000 in
theorem Parse_C (N : Nat) (c : HL [.str]) (y : Int × Int) (h : ipcpo_Parse N c.1 = some y) : CallsK Tryd.prog 19 (valA [.str] c) (tupV (valR [.int .u32, .int .i64] y)) := by
 obtain ⟨s, u⟩ := c
 unfold ipcpo_Parse at h
 simp only at h
 cases hll : decide (s.length ≤ 1000000000) with
 | false => rw [hll] at h; cases h
 | true =>
 rw [hll] at h
 simp only [cond_true] at h
 obtain ⟨o, ho, hy⟩ := Option.bind_eq_some_iff.1 h
 refine rs_calls (A0 := prsA0) (A := prsA) (A' := prsA') (rs := [.int .u32, .int .i64]) (sls := prsSl) (fuel := 400) (m0 := 4) (n := 36) (fn := Tryd.f19) (pre := prsP) (rc := prsRc) (suf := prsS) (bid := 0) (ow := []) (g := .tmp 10) (ps := #[11]) (assign := rfA prsRf) (body := rfB prsRf)
  (Γ1 := prsE N _) (Γ2 := prsE N _) (Γ3 := prsE N _) Jg.hmx (prsE_ok N _) (prsE_ok N _) (prsE_ok N _)
  Tryd.func19 (by kernel_rfl) (fun h => by cases h) (fun i x hx => valA_vals _ _ i x hx) ?_ ⟨by kernel_rfl, by kernel_rfl⟩ (by kernel_rfl) (by kernel_rfl) (by kernel_rfl) (by kernel_rfl) (by kernel_rfl) (by kernel_rfl) (fun d => rfl) (fun d => rfl) (c0 := ((s, ()), ((0 : Int), (0 : Int), [], ()))) (by kernel_rfl)
  (sl0 := prsSl0 s) (by kernel_rfl) (gf := 62) (j := 3) (N := (spl (s.length + 1) s).length) (vs := spr (s.length + 1) s) (Tj := 9) (D := Int × Int × List Int) (prsIns (s.length + 1) s) (d0 := ((0 : Int), (0 : Int), [])) (spl_pos _ _) (fun k => #[.string ⟨(spp (s.length + 1) s k).toArray⟩])
  ?_ (enters_of Tryd.func62 (by kernel_rfl) rfl) (fun k => rfl) (fun k => prsSl1 s (spp (s.length + 1) s k)) ?_ (fun k d => prs_rd (spp (s.length + 1) s k) d) (fun k d hk => prs_rd_S N _ s k d) (by decide) (fun k d => rfl) (fun k d => rfl) ho ?_ ?_
 ·intro c hc
  have : c = cL prsC ∨ c = cL (cR prsC) := by simpa [prsP] using hc
  rcases this with rfl | rfl
  ·exact ⟨by kernel_rfl, by kernel_rfl⟩
  ·exact ⟨by kernel_rfl, by kernel_rfl⟩
 ·intro n0 Bx a w B η Q hs hQ
  refine src_ok (P := Tryd.prog) (rid := 2) (ops := rOps prsRc) (o1 := (rOps prsRc).getD 0 default) (o2 := (rOps prsRc).getD 1 default) (s := s) (x1 := 9) (x2 := 10) (F := 38) (T := 9) (T3 := 3) (ts := #[9, 9]) (sep := .string ⟨#[46]⟩) (keep := [0, 1, 2, 4, 3]) (j := 3) (by kernel_rfl) (by kernel_rfl) (by kernel_rfl) (by kernel_rfl) (by kernel_rfl) (by kernel_rfl) (by kernel_rfl)
   ⟨_, Tryd.func38, by decide +kernel, fun h => by
    have h2 : (Tryd.f38).body.isSome = true := by kernel_rfl
    rw [h] at h2
    cases h2⟩ (by kernel_rfl) (by kernel_rfl) (Nat.le_of_ble_eq_true (n := 10) (by kernel_rfl)) (Nat.le_of_ble_eq_true (n := 11) (by kernel_rfl)) (by decide) (by kernel_rfl) (st' := ⟨prsSl0 s, encH prsA (prsIns (s.length + 1) s 0 ((0 : Int), (0 : Int), []))⟩) ?_ (fun w => split_call ⟨s.toArray⟩ w)
   (fun cs cp cz w hne h1 h2 h3 h4 => split_hands idx_one cs cp cz (s.length + 1) s (Nat.lt_succ_self _) (of_decide_eq_true hll) hne w h1 h2 h3 h4) n0 Bx a w B η Q hs hQ
  have h0 := spr_zero (s.length + 1) s
  show _ = (⟨prsSl0 s, encH prsA ((0 : Int), (0 : Int), spr (s.length + 1) s 0, [], ())⟩ : S2)
  rw [h0]
  kernel_rfl
 ·intro k n0 W B η tmps hk hsl
  rw [encs1]
  exact hsl.put (r := .str (spp (s.length + 1) s k)) (v := .string ⟨(spp (s.length + 1) s k).toArray⟩) (Rel.c _ _) (fun h => by cases h) 11
 ·intro d hd
  subst hd
  rw [prs_end_S]
  simpa using hy
 ·intro d hd
  subst hd
  rw [prs_ret_S]
  simpa using hy
noncomputable def prsK (N : Nat) {R : Type} : List V → (V → Tree R) → Tree R := fnK [.str] [.int .u32, .int .i64] fun c => ipcpo_Parse N c.1
theorem prs_ok (N : Nat) {R : Type} : ∀ args (k : V → Tree R) res, (prsK N args k).run = some res → ∃ r, (k r).run = some res ∧ r.plain = true ∧ (∀ l k, ex r ≠ .fresh l k) ∧ CallsV Tryd.prog 19 args r :=
 fnK_ext (inl := fun _ => false) (by kernel_rfl) (Parse_C N)
noncomputable def ipcpoTextK (N : Nat) {R : Type} : List V → (V → Tree R) → Tree R := fnK [.int .u32] [.str] fun c => Jg.ipcpo_Text N c.1
theorem ipcpoText_ok (N : Nat) {R : Type} : ∀ args (k : V → Tree R) res, (ipcpoTextK N args k).run = some res → ∃ r, (k r).run = some res ∧ r.plain = true ∧ (∀ l k, ex r ≠ .fresh l k) ∧ CallsV Tryd.prog 21 args r :=
 fnK_ext (inl := fun _ => false) (by kernel_rfl) (fun c y h => Jg.ipcpo_Text_C N c.1 y h)
end Go.Proofs.YtkigpcolmioibaaDoor
