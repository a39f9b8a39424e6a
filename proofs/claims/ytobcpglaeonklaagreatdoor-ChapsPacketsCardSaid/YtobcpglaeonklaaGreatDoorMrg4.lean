/-
  Parts of my own, one behind the other: KRead, KLaid, QBase2, QOctsD, QOcts, KD, Dec.
-/
import Derived.Test.YtobcpglaeonklaaGreatDoorMrg3
import Derived.LaidMore
import Derived.MakeChecks
import Derived.SevenTiedAt
import Derived.Stop.LaidErr
import Derived.Lib.DecodeN
namespace Go.Proofs.YtobcpglaeonklaaGreatDoor
set_option maxRecDepth 100000
open Go.ChangeShapes Go.WideShapes Go.ChangeAt Go.RowKit
set_option linter.unusedVariables false
set_option linter.unusedSimpArgs false
def wfT : (d : Td) → T d → Prop
 | .int k, n => (Lit.int k n).wf = true
 | .bool, _ => True
 | .str, s => s.length ≤ maxLen
 | .sl d, l => l.length ≤ maxLen ∧ ∀ x ∈ l, wfT d x
 | .arr n d, a => ∀ x ∈ a.l, wfT d x
 | .pair d e, x => wfT d x.1 ∧ wfT e x.2
section
variable {P : Program} {H : Type} {enc : TypeId × Value → H} {W : World}
theorem pick_list {α : Type} (Q : Nat → α → Prop) : ∀ n, (∀ i, i < n → ∃ y, Q i y) → ∃ l : List α, l.length = n ∧ ∀ i y, l[i]? = some y → Q i y
 | 0, _ => ⟨[], rfl, fun i y h => by simp at h⟩
 | n + 1, h => by
  obtain ⟨l, h1, h2⟩ := pick_list Q n fun i hi => h i (by omega)
  obtain ⟨y, hy⟩ := h n (by omega)
  refine ⟨l ++ [y], by simp [h1], fun i z hz => ?_⟩
  rcases Nat.lt_or_ge i n with hi | hi
  ·rw [List.getElem?_append_left (by omega)] at hz; exact h2 i z hz
  ·rw [List.getElem?_append_right (by omega)] at hz
   have : i - l.length = 0 := by have := (List.getElem?_eq_some_iff.1 hz).1; simp at this; omega
   rw [this] at hz
   simp at hz
   subst hz
   rw [show i = n by omega]; exact hy
theorem cell_spot {a : Addr} {v : Value} (h : W.cell? a = some v) : a.spot = none := by
 unfold World.cell? at h
 split at h
 ·split at h
  ·cases h
  ·rename_i hs; cases hx : a.spot with
   | none => rfl
   | some _ => rw [hx] at hs; simp at hs
 ·cases h
theorem add_add (a : Addr) (i j : Nat) (h : a.spot = none) : (a.add i).add j = a.add (i + j) := by
 unfold Addr.add
 obtain ⟨b, o, s⟩ := a
 simp only at h
 subst h
 by_cases hi : i = 0 <;> by_cases hj : j = 0 <;> simp [hi, hj, Nat.add_assoc]
theorem cells_get {a : Addr} {n : Nat} {cs : List Value} (h : W.cells? 0 a n = some cs) : cs.length = n ∧ ∀ i u, cs[i]? = some u → W.cell? (a.add i) = some u := by
 unfold World.cells? at h
 rw [if_pos (Nat.zero_le _)] at h
 have hl := mapM_some_length h
 rw [List.length_range] at hl
 refine ⟨hl, fun i u hu => ?_⟩
 have hi : i < n := by have := (List.getElem?_eq_some_iff.1 hu).1; omega
 rw [mapM_some_get h i i (by simp [hi])]
 exact hu
theorem flat_rel {d : Td} (xs : List (T d)) (us : Nat → Value) (B : List Nat) (h : ∀ i x, xs[i]? = some x → ∀ j y, (cells d x)[j]? = some y → Rel W B [] y (us (i * wd d + j))) : ∀ i y, (flat d xs)[i]? = some y → Rel W B [] y (us i) := by
 intro i y hy
 have hi : i < xs.length * wd d := by have := (List.getElem?_eq_some_iff.1 hy).1; rwa [flat_length] at this
 have hw : 0 < wd d := by rcases Nat.eq_zero_or_pos (wd d) with h | h; rw [h] at hi; omega; exact h
 have hq : i / wd d < xs.length := Nat.div_lt_of_lt_mul (by rw [Nat.mul_comm]; exact hi)
 have hx : xs[i / wd d]? = some xs[i / wd d] := List.getElem?_eq_getElem hq
 have hf := flat_at d xs (i / wd d) _ hx
 have hr : i % wd d < wd d := Nat.mod_lt _ hw
 have hdm := Nat.div_add_mod i (wd d)
 have h1 : (cells d xs[i / wd d])[i % wd d]? = some y := by
  rw [← hf, List.getElem?_take, if_pos hr, List.getElem?_drop]
  rw [show i / wd d * wd d + i % wd d = i by rw [Nat.mul_comm]; exact hdm]
  exact hy
 have := h _ _ hx _ _ h1
 rwa [show i / wd d * wd d + i % wd d = i by rw [Nat.mul_comm]; exact hdm] at this
mutual
theorem read_td : ∀ (n : Nat) (t : TypeId) (d : Td), layT' P n t d = true → ∀ (fuel : Nat) (cs : List Value) (x : DataW H × List MemPlace), DataW.trod enc P W 0 (fun _ => true) true fuel t cs = some x → ∃ y : T d, RelL W [] [] (cells d y) cs ∧ wfT d y
 | 0, t, d, h => by simp [layT'] at h
 | n + 1, t, d, h => by
  intro fuel cs x hx
  simp only [layT', Bool.and_eq_true, beq_iff_eq] at h
  obtain ⟨hc, h⟩ := h
  split at h
  ·rename_i k k' hu
   have := of_decide_eq_true h
   subst this
   obtain ⟨z, rfl, _, hw⟩ := DataW.trod_int hu hx
   exact ⟨z, RelL.cons (.c _ _) (RelL.nil _ _ _), hw⟩
  ·rename_i hu
   obtain ⟨z, rfl, _⟩ := DataW.trod_bool hu hx
   exact ⟨z, RelL.cons (.c _ _) (RelL.nil _ _ _), trivial⟩
  ·rename_i hu
   obtain ⟨s, rfl, _, hs⟩ := DataW.trod_string hu hx
   refine ⟨s.data.toList, RelL.cons ?_ (RelL.nil _ _ _), by show s.data.toList.length ≤ maxLen; simpa using hs⟩
   have : (⟨s.data.toList.toArray⟩ : ByteArray) = s := by cases s; simp
   rw [this]; exact .c _ _
  ·rename_i e d hu
   simp only [Bool.and_eq_true, decide_eq_true_eq] at h
   obtain ⟨hw, h⟩ := h
   have hce := layT_cells h
   rcases DataW.trod_slice hu hx with ⟨rfl, _⟩ | ⟨a, len, cap, elems, rest, m, rfl, rfl, _, _, hlc, hm, hel, hels, _⟩
   ·exact ⟨[], RelL.cons (rel_nil_sl hw (.c _ _)) (RelL.nil _ _ _), by simp [maxLen], fun x hx => by cases hx⟩
   ·obtain ⟨ys, hy1, hy2⟩ := pick_list (fun i y => ∃ us, W.cells? 0 (a.add (i * wd d)) (wd d) = some us ∧ RelL W [] [] (cells d y) us ∧ wfT d y) len fun i hi => by
     have h0 := hels i hi
     rw [List.getElem?_eq_getElem (by omega), hce] at h0
     obtain ⟨us, q1, q2⟩ := Option.bind_eq_some_iff.1 h0
     obtain ⟨y, q3, q4⟩ := read_td n e d h _ _ _ q2
     exact ⟨y, us, q1, q3, q4⟩
    refine ⟨ys, RelL.cons ?_ (RelL.nil _ _ _), by rw [hy1]; omega, fun x hx => ?_⟩
    ·have hspot : 0 < len → a.spot = none := fun h0 => by
      obtain ⟨us, q1, q3, _⟩ := hy2 0 ys[0] (List.getElem?_eq_getElem (by omega))
      have hl := (cells_get q1).1
      have := (cells_get q1).2 0 us[0] (List.getElem?_eq_getElem (by omega))
      have := cell_spot this
      unfold Addr.add at this
      simpa using this
     have hcell : ∀ i x, ys[i]? = some x → ∀ j y, (cells d x)[j]? = some y → Rel W [] [] y ((W.cell? (a.add (i * wd d + j))).getD undef) ∧ (W.cell? (a.add (i * wd d + j))).isSome = true := fun i x hx j y hy => by
      obtain ⟨us, q1, q3, _⟩ := hy2 i x hx
      obtain ⟨u, q4, q5⟩ := q3.2 j y hy
      have := (cells_get q1).2 j u q4
      have h0 : 0 < len := by have := (List.getElem?_eq_some_iff.1 hx).1; omega
      rw [add_add a _ _ (hspot h0)] at this
      rw [this]
      exact ⟨q5, rfl⟩
     have hr := flat_rel (W := W) ys (fun i => (W.cell? (a.add i)).getD undef) [] fun i x hx j y hy => (hcell i x hx j y hy).1
     refine .sl _ _ _ _ _ _ (fun i => (W.cell? (a.add i)).getD undef) hw (by show len * wd d = (flat d ys).length; rw [flat_length, hy1]) hlc hm (fun h0 => ⟨a, rfl, hspot h0, ?_, by simp, fun i hi => ?_⟩) hr
     ·obtain ⟨us, q1, q3, _⟩ := hy2 0 ys[0] (List.getElem?_eq_getElem (by omega))
      have hl := (cells_get q1).1
      have := (cells_get q1).2 0 us[0] (List.getElem?_eq_getElem (by omega))
      have := World.block_lt_of_cell? W _ this
      rwa [block_of_add, block_of_add] at this
     ·have hi' : i < len * wd d := by change i < (flat d ys).length at hi; rw [flat_length, hy1] at hi; exact hi
      have hq : i / wd d < ys.length := by rw [hy1]; exact Nat.div_lt_of_lt_mul (by rw [Nat.mul_comm]; exact hi')
      have hrm : i % wd d < (cells d ys[i / wd d]).length := by rw [cells_length]; exact Nat.mod_lt _ (by omega)
      have := (hcell _ _ (List.getElem?_eq_getElem hq) _ _ (List.getElem?_eq_getElem hrm)).2
      rw [show i / wd d * wd d + i % wd d = i by rw [Nat.mul_comm]; exact Nat.div_add_mod i (wd d)] at this
      obtain ⟨u, hu⟩ := Option.isSome_iff_exists.1 this
      rw [hu]; rfl
    ·obtain ⟨i, hi⟩ := List.getElem?_of_mem hx
     obtain ⟨_, _, _, q⟩ := hy2 i x hi
     exact q
  ·rename_i m e m' d hu
   simp only [Bool.and_eq_true, beq_iff_eq] at h
   obtain ⟨rfl, h⟩ := h
   have hce := layT_cells h
   obtain ⟨xs, m2, rfl, _, hl, hxl, hi⟩ := DataW.trod_array hu hx
   obtain ⟨ys, hy1, hy2⟩ := pick_list (fun i y => RelL W [] [] (cells d y) ((cs.drop (i * wd d)).take (wd d)) ∧ wfT d y) m fun i h1 => by
    have h0 := hi i h1
    rw [List.getElem?_eq_getElem (by omega), hce] at h0
    exact read_td n e d h _ _ _ h0
   refine ⟨⟨ys, hy1⟩, ⟨?_, ?_⟩, fun x hx => ?_⟩
   ·rw [cells_length, ← hc]; exact hl.symm ▸ rfl
   ·intro i y hy
    have hr := flat_rel (W := W) ys (fun i => cs.getD i undef) [] fun i x hx j y hy => by
     obtain ⟨u, q1, q2⟩ := (hy2 i x hx).1.2 j y hy
     rw [List.getElem?_take] at q1
     split at q1
     ·rw [List.getElem?_drop] at q1
      rw [List.getD_eq_getElem?_getD, q1]; exact q2
     ·cases q1
    have hlt : i < cs.length := by
     have := (List.getElem?_eq_some_iff.1 hy).1
     rw [cells_length, ← hc, ← hl] at this
     exact this
    refine ⟨cs[i], List.getElem?_eq_getElem hlt, ?_⟩
    have := hr i y hy
    rwa [List.getD_eq_getElem?_getD, List.getElem?_eq_getElem hlt] at this
   ·obtain ⟨i, hi⟩ := List.getElem?_of_mem hx
    exact (hy2 i x hi).2
  ·rename_i fs hu
   obtain ⟨xs, m2, rfl, _, hl, hxl, hi⟩ := DataW.trod_struct hu hx
   have := read_fs n fs.toList 0 _ h m2 cs (fun i f hf => by
    have h0 := hi i f (by simpa using hf)
    have hlt : i < xs.length := by have := (List.getElem?_eq_some_iff.1 hf).1; rw [hxl]; simpa using this
    exact ⟨_, h0.trans (List.getElem?_eq_getElem hlt)⟩) (by rw [hl, hc]; omega)
   simpa using this
  ·cases h
theorem read_fs : ∀ (n : Nat) (fs : List Field) (o : Nat) (d : Td), layFs P n fs o d = true → ∀ (m : Nat) (cs : List Value), (∀ (i : Nat) (f : Field), fs[i]? = some f → ∃ x, DataW.trod enc P W 0 (fun _ => true) true m f.type ((cs.drop f.offset).take (P.cellsOf f.type)) = some x) → cs.length = o + wd d → ∃ y : T d, RelL W [] [] (cells d y) (cs.drop o) ∧ wfT d y
 | 0, fs, o, d, h => by simp [layFs] at h
 | n + 1, [], o, d, h => by simp [layFs] at h
 | n + 1, [f], o, d, h => by
  intro m cs hx hl
  simp only [layFs, Bool.and_eq_true, beq_iff_eq] at h
  obtain ⟨rfl, h⟩ := h
  obtain ⟨x, hx⟩ := hx 0 f rfl
  rw [layT_cells h] at hx
  obtain ⟨y, h1, h2⟩ := read_td n _ d h _ _ _ hx
  rw [List.take_of_length_le (by rw [List.length_drop]; omega)] at h1
  exact ⟨y, h1, h2⟩
 | n + 1, f :: g :: fs, o, d, h => by
  intro m cs hx hl
  simp only [layFs] at h
  split at h
  ·rename_i d e
   simp only [Bool.and_eq_true, beq_iff_eq] at h
   obtain ⟨⟨rfl, h⟩, h'⟩ := h
   simp only [wd] at hl
   obtain ⟨x, hx0⟩ := hx 0 f rfl
   rw [layT_cells h] at hx0
   obtain ⟨y, h1, h2⟩ := read_td n _ d h _ _ _ hx0
   obtain ⟨z, h3, h4⟩ := read_fs n (g :: fs) _ e h' m cs (fun i f' hf => hx (i + 1) f' (by simpa using hf)) (by omega)
   refine ⟨(y, z), ?_, h2, h4⟩
   have := h1.append h3
   rw [← List.drop_drop, List.take_append_drop] at this
   exact this
  ·cases h
end
end
def rowB (P : Program) (t : TypeId) : Bool := match P.underlying t with
 | some (.struct _) | some (.array _ _) => true
 | _ => false
theorem okWide_row {P : Program} {W : World} {base : Nat} {t : TypeId} {v : Value} (h : rowB P t = true) (hv : Value.okWide P W .any base t v) : ∃ cs, v = .agg cs := by
 unfold rowB at h
 unfold Value.okWide at hv
 split at h
 ·rename_i hu; rw [hu] at hv; obtain ⟨cs, h1, _⟩ := hv; exact ⟨cs, h1⟩
 ·rename_i hu; rw [hu] at hv; obtain ⟨cs, h1, _⟩ := hv; exact ⟨cs, h1⟩
 ·cases h
theorem okWide_one {P : Program} {W : World} {base n : Nat} {t : TypeId} {d : Td} {v : Value} (hl : layT' P n t d = true) (h : rowB P t = false) (hv : Value.okWide P W .any base t v) : v.cells.toList = [v] := by
 cases n with
 | zero => simp [layT'] at hl
 | succ n =>
  simp only [layT', Bool.and_eq_true] at hl
  replace hl := hl.2
  split at hl
  ·rename_i hu; obtain ⟨_, rfl⟩ := okWide_int hu hv; rfl
  ·rename_i hu
   simp only [Value.okWide, hu, Cell.okWide] at hv
   cases v <;> first | rfl | simp_all [Cell.ok]
  ·rename_i hu; obtain ⟨_, rfl⟩ := okWide_string hu hv; rfl
  ·rename_i hu; obtain ⟨_, _, _, rfl⟩ := okWide_slice hu hv; rfl
  ·rename_i hu; simp [rowB, hu] at h
  ·rename_i hu; simp [rowB, hu] at h
  ·cases hl
theorem open_td {H : Type} {enc : TypeId × Value → H} {W : World} {t : TypeId} {d : Td} (hl : layT' Tryz.prog 24 t d = true) (hr : rowB Tryz.prog t = rowD d) {base : Nat} {v : Value} {x : DataW H} {p : List MemPlace} (hv : Value.okWide Tryz.prog W .any base t v) (h : DataW.Trod enc Tryz.prog W 0 (fun _ => true) true t v x p) : ∃ y : T d, Rel W [] [] (ex (valV d y)) v ∧ wfT d y := by
 obtain ⟨fuel, hf⟩ := h
 obtain ⟨y, h1, h2⟩ := read_td _ _ _ hl _ _ _ hf
 refine ⟨y, ?_, h2⟩
 cases hd : rowD d with
 | true =>
  obtain ⟨cs, rfl⟩ := okWide_row (hr.trans hd) hv
  rw [valV_row d y hd]
  refine .agg _ _ cs (fun i => cs.getD i undef) (by rw [← h1.1]; simp [Value.cells]) (fun i x hx => ?_) (fun i x hx => ?_)
  ·obtain ⟨u, q1, _⟩ := h1.2 i x hx
   simp only [Value.cells, Array.getElem?_toList] at q1
   rw [Array.getD_eq_getD_getElem?, q1]; rfl
  ·obtain ⟨u, q1, q2⟩ := h1.2 i x hx
   simp only [Value.cells, Array.getElem?_toList] at q1
   rw [Array.getD_eq_getD_getElem?, q1]; exact q2
 | false =>
  rw [okWide_one hl (hr.trans hd) hv, valV_one d y hd] at h1
  obtain ⟨u, q1, q2⟩ := h1.2 0 _ rfl
  simp at q1
  rw [q1]; exact q2
end Go.Proofs.YtobcpglaeonklaaGreatDoor
namespace Go.Proofs.YtobcpglaeonklaaGreatDoor
set_option maxRecDepth 100000
open Go.RowKit Go.ChangeShapes
set_option linter.unusedVariables false
set_option linter.unusedSimpArgs false
def datL {H : Type} : Nat → DataW H → List Value
 | 0, _ => []
 | n + 1, .lit l => [l.value]
 | n + 1, .agg ps => ps.flatMap (datL n)
 | _, _ => []
section
variable {P : Program} {H : Type} {enc : TypeId × Value → H} {W : World} {sp : Nat → Bool} {base : Nat} {held : Bool}
mutual
theorem lit_td : ∀ (n : Nat) (t : TypeId) (d : Td), layT' P n t d = true → eqD d = true → ∀ (fuel : Nat) (cs : List Value) (x : DataW H × List MemPlace), DataW.trod enc P W base sp held fuel t cs = some x → ∀ m, n ≤ m → datL m x.1 = cs
 | 0, t, d, h => by simp [layT'] at h
 | n + 1, t, d, h => by
  intro hd fuel cs x hx m hm
  obtain ⟨m, rfl⟩ : ∃ m', m = m' + 1 := ⟨m - 1, by omega⟩
  simp only [layT', Bool.and_eq_true, beq_iff_eq] at h
  obtain ⟨hc, h⟩ := h
  split at h
  ·rename_i k k' hu
   obtain ⟨z, rfl, rfl, hw⟩ := DataW.trod_int hu hx
   rfl
  ·rename_i hu
   obtain ⟨z, rfl, rfl⟩ := DataW.trod_bool hu hx
   rfl
  ·rename_i hu
   obtain ⟨s, rfl, rfl, hs⟩ := DataW.trod_string hu hx
   simp [datL, Lit.value]
  ·cases hd
  ·rename_i k e k' d hu
   simp only [Bool.and_eq_true, beq_iff_eq] at h
   obtain ⟨rfl, h⟩ := h
   have hce := layT_cells h
   obtain ⟨xs, m2, rfl, rfl, hl, hxl, hi⟩ := DataW.trod_array hu hx
   have key : ∀ (j i : Nat), j + i = k → ((xs.drop i).map (·.1)).flatMap (datL m) = cs.drop (i * wd d) := by
    intro j
    induction j with
    | zero =>
     intro i hi0
     rw [List.drop_of_length_le (by omega), List.drop_of_length_le (by rw [hl, hc]; simp only [wd]; rw [show i = k by omega]; exact Nat.le_refl _)]
     rfl
    | succ j ih =>
     intro i hi0
     have hlt : i < xs.length := by omega
     have h0 := hi i (by omega)
     rw [List.getElem?_eq_getElem hlt, hce] at h0
     have h1 := lit_td n e d h hd _ _ _ h0 m (by omega)
     have h2 := ih (i + 1) (by omega)
     rw [List.drop_eq_getElem_cons hlt, List.map_cons, List.flatMap_cons, h1, h2, Nat.add_mul, Nat.one_mul, ← List.drop_drop, List.take_append_drop]
   have := key k 0 (by omega)
   simpa [datL] using this
  ·rename_i fs hu
   obtain ⟨xs, m2, rfl, rfl, hl, hxl, hi⟩ := DataW.trod_struct hu hx
   have := lit_fs n fs.toList 0 _ h hd m2 cs xs (by simpa using hxl) (fun i f hf => hi i f (by simpa using hf)) (by rw [hl, hc]; omega) m (by omega)
   simpa [datL] using this
  ·cases h
theorem lit_fs : ∀ (n : Nat) (fs : List Field) (o : Nat) (d : Td), layFs P n fs o d = true → eqD d = true → ∀ (m0 : Nat) (cs : List Value) (xs : List (DataW H × List MemPlace)), xs.length = fs.length → (∀ (i : Nat) (f : Field), fs[i]? = some f → DataW.trod enc P W base sp held m0 f.type ((cs.drop f.offset).take (P.cellsOf f.type)) = xs[i]?) → cs.length = o + wd d → ∀ m, n ≤ m → (xs.map (·.1)).flatMap (datL m) = cs.drop o
 | 0, fs, o, d, h => by simp [layFs] at h
 | n + 1, [], o, d, h => by simp [layFs] at h
 | n + 1, [f], o, d, h => by
  intro hd m0 cs xs hxl hx hl m hm
  simp only [layFs, Bool.and_eq_true, beq_iff_eq] at h
  obtain ⟨rfl, h⟩ := h
  match xs, hxl with
  | [x], _ =>
   have h0 := hx 0 f rfl
   rw [layT_cells h] at h0
   have h1 := lit_td n _ d h hd _ _ _ h0 m (by omega)
   rw [List.take_of_length_le (by rw [List.length_drop]; omega)] at h1
   simp [h1]
 | n + 1, f :: g :: fs, o, d, h => by
  intro hd m0 cs xs hxl hx hl m hm
  simp only [layFs] at h
  split at h
  ·rename_i d e
   simp only [Bool.and_eq_true, beq_iff_eq] at h
   simp only [eqD, Bool.and_eq_true] at hd
   obtain ⟨⟨rfl, h⟩, h'⟩ := h
   simp only [wd] at hl
   match xs, hxl with
   | x :: xs, hxl =>
    have h0 := hx 0 f rfl
    rw [layT_cells h] at h0
    have h1 := lit_td n _ d h hd.1 _ _ _ h0 m (by omega)
    have h2 := lit_fs n (g :: fs) _ e h' hd.2 m0 cs xs (by simpa using hxl) (fun i f' hf => by have := hx (i + 1) f' (by simpa using hf); simpa using this) (by omega) m (by omega)
    rw [List.map_cons, List.flatMap_cons, h1, h2, ← List.drop_drop, List.take_append_drop]
  ·cases h
end
theorem laid_cells {n : String} {D : DataW Unit} {g : Nat} {t : TypeId} {d : Td} (hg : P.globalNamed n = some g) (ht : (P.globals[g]?).map (·.type) = some t) (hl : layT' P 24 t d = true) (hd : eqD d = true) {cs : Array Value} {fuel : Nat} {p : List MemPlace}
  (hv : W.var? P n = some cs) (hx : DataW.trod (fun _ => ()) P W 0 (fun _ => true) false fuel t cs.toList = some (D, p)) (hne : datL 24 D ≠ []) : Rel W [] [] (.adr ((datL 24 D).map .c)) (.pointer (some ⟨g, 0, none⟩)) := by
 have h1 := lit_td 24 t d hl hd _ _ _ hx 24 (Nat.le_refl _)
 simp only at h1
 rw [h1] at hne ⊢
 have hb : ∃ T fr, W.heap[g]? = some (.cells cs T fr) := by
  unfold World.var? at hv
  rw [hg] at hv
  simp only [Option.bind_some] at hv
  split at hv
  ·rename_i c T fr hc
   injection hv with hv
   subst hv
   exact ⟨T, fr, hc⟩
  ·cases hv
 obtain ⟨T, fr, hb⟩ := hb
 refine .adr _ _ _ (fun i => cs.toList.getD i undef) ⟨rfl, (Array.getElem?_eq_some_iff.1 hb).1, by simp, fun i hi => ?_⟩ (fun i x hx => ?_)
 ·rw [List.length_map] at hi
  have hc := cell_of_row W g i cs T fr hb
  have e : (⟨g, 0, none⟩ : Addr).add i = ⟨g, i, none⟩ := by simp [Addr.add]; omega
  rw [e, hc, List.getD_eq_getElem?_getD, List.getElem?_eq_getElem hi, Option.getD_some]
  simp at hi
  simp [hi]
 ·rw [List.getElem?_map, Option.map_eq_some_iff] at hx
  obtain ⟨v, hv', rfl⟩ := hx
  rw [List.getD_eq_getElem?_getD, hv', Option.getD_some]
  exact .c _ _
theorem laid_row {n : String} {D : DataW Unit} {g : Nat} {t : TypeId} {d : Td} (hg : P.globalNamed n = some g) (hl : layT' P 24 t d = true) (hd : eqD d = true) {cs : Array Value} {fuel : Nat} {p : List MemPlace}
  (hv : W.var? P n = some cs) (hx : DataW.trod (fun _ => ()) P W 0 (fun _ => true) false fuel t cs.toList = some (D, p)) : ∃ T fr, W.heap[g]? = some (.cells (datL 24 D).toArray T fr) := by
 have h1 := lit_td 24 t d hl hd _ _ _ hx 24 (Nat.le_refl _)
 simp only at h1
 unfold World.var? at hv
 rw [hg] at hv
 simp only [Option.bind_some] at hv
 split at hv
 ·rename_i c T fr hc
  injection hv with hv
  subst hv
  exact ⟨T, fr, by rw [hc, h1]⟩
 ·cases hv
end
end Go.Proofs.YtobcpglaeonklaaGreatDoor
namespace Go.Proofs.YtobcpglaeonklaaGreatDoor
set_option maxRecDepth 100000
open Go.RowKit
set_option linter.unusedVariables false
set_option linter.unusedSimpArgs false
def AllB (l : List Int) : Prop := ∀ x ∈ l, 0 ≤ x ∧ x < 256
theorem AllB.nil : AllB [] := fun _ h => by cases h
theorem AllB.cons {x : Int} {l : List Int} (h1 : 0 ≤ x ∧ x < 256) (h2 : AllB l) : AllB (x :: l) := fun y hy => by
  rcases List.mem_cons.1 hy with rfl | hy
  · exact h1
  · exact h2 y hy
theorem AllB.append {l m : List Int} (h1 : AllB l) (h2 : AllB m) : AllB (l ++ m) := fun y hy => by
  rcases List.mem_append.1 hy with hy | hy
  · exact h1 y hy
  · exact h2 y hy
theorem AllB.drop {l : List Int} (h : AllB l) (n : Nat) : AllB (l.drop n) := fun y hy => h y (List.mem_of_mem_drop hy)
theorem AllB.take {l : List Int} (h : AllB l) (n : Nat) : AllB (l.take n) := fun y hy => h y (List.mem_of_mem_take hy)
theorem AllB.get {l : List Int} (h : AllB l) (i : Nat) (hi : i < l.length) : 0 ≤ l[i] ∧ l[i] < 256 := h _ (List.getElem_mem hi)
theorem wf_u8 {n : Int} (h : (Lit.int .u8 n).wf = true) : 0 ≤ n ∧ n < 256 := by
  simp only [Lit.wf, Bool.and_eq_true, decide_eq_true_eq, IntKind.min, IntKind.max, IntKind.signed, IntKind.bits] at h
  simp at h
  omega
theorem wf_bytes {l : List Int} (h : wfT (.sl (.int .u8)) l) : AllB l := fun x hx => wf_u8 (h.2 x hx)
def byteOf (x : Int) : UInt8 := UInt8.ofNat x.toNat
theorem toBy_map : ∀ {l : List Int}, AllB l → toBy l = some (l.map byteOf)
  | [], _ => rfl
  | x :: l, h => by
    have h1 := h x List.mem_cons_self
    unfold toBy
    rw [if_pos h1, toBy_map (fun y hy => h y (List.mem_cons_of_mem _ hy))]
    rfl
theorem subI_nat {α : Type} (l : List α) {a b : Int} {i j : Nat} (ha : a = i) (hb : b = j) (h1 : i ≤ j) (h2 : j ≤ l.length) : subI l a b = some ((l.drop i).take (j - i)) := by
  subst ha hb
  unfold subI
  rw [if_pos ⟨by omega, by omega, by omega⟩, Int.toNat_natCast, Int.toNat_natCast]
theorem dropI_nat {α : Type} (l : List α) {a : Int} {i : Nat} (ha : a = i) (h1 : i ≤ l.length) : dropI l a = some (l.drop i) := by
  subst ha
  unfold dropI
  rw [if_pos ⟨by omega, by omega⟩, Int.toNat_natCast]
theorem takeI_nat {α : Type} (l : List α) {a : Int} {i : Nat} (ha : a = i) (h1 : i ≤ l.length) : takeI l a = some (l.take i) := by
  subst ha
  unfold takeI
  rw [if_pos ⟨by omega, by omega⟩, Int.toNat_natCast]
def sameB (X : (((List (Int)) × ((List (Int)) × ((Int) × Unit))) × Unit) → Option (((((Bool) × Unit) × Unit) ⊕ (Unit × Unit)))) (a0 : List (Int)) (b1 : List (Int)) (i5 : Int) : Option (((((Bool) × Unit) × Unit) ⊕ (Unit × Unit))) :=
 bif (decide (i5 < (((List.length a0) : Nat) : Int))) then
  Option.bind (getI a0 i5) fun (v5 : Int) =>
  Option.bind (getI b1 i5) fun (v6 : Int) =>
  bif (!(decide (v5 = v6))) then
   some ((.inl ((Bool.false, Unit.unit), Unit.unit)))
  else
   (X ((a0, (b1, ((IntKind.wrap .i64 (i5 + (1 : Int))), Unit.unit))), Unit.unit))
 else
  some ((.inr (Unit.unit, Unit.unit)))
def sameF (N : Nat) (a0 : List (Int)) (b1 : List (Int)) : Option (Bool) :=
 bif (!(decide ((((List.length a0) : Nat) : Int) = (((List.length b1) : Nat) : Int)))) then
  some (Bool.false)
 else
  Option.bind (gl (fun X c => sameB X c.1.1 c.1.2.1 c.1.2.2.1) N ((a0, (b1, ((0 : Int), Unit.unit))), Unit.unit)) fun (v3 : (((Bool × Unit) × Unit) ⊕ (Unit × Unit))) =>
  Sum.elim
   (fun (v4 : ((Bool × Unit) × Unit)) =>
   some (v4.1.1))
   (fun (v4 : (Unit × Unit)) =>
   some (Bool.true)) v3
theorem sameF_ok {N : Nat} {a b : List Int} (h : a.length < N) (hb : a.length < 1000000000) : sameF N a b = some (decide (a = b)) := by
  unfold sameF
  by_cases hl : a.length = b.length
  · have c0 : ((a.length : Int) = (b.length : Int)) := by omega
    simp only [c0, decide_true, Bool.not_true, cond_false]
    obtain ⟨o, h1, h2⟩ := gl_inv (G := fun (X : (((List (Int)) × ((List (Int)) × ((Int) × Unit))) × Unit) → Option (((((Bool) × Unit) × Unit) ⊕ (Unit × Unit)))) c => sameB X c.1.1 c.1.2.1 c.1.2.2.1)
      (fun n c => ∃ i : Nat, c = ((a, (b, ((i : Int), ()))), ()) ∧ i ≤ a.length ∧ n = a.length - i ∧ a.take i = b.take i) (fun o => o = if a = b then .inr ((), ()) else .inl ((false, ()), ())) (fun X n c ⟨i, hc, hi, hn, ht⟩ => by
      subst hc
      rcases Nat.lt_or_ge i a.length with hlt | hge
      · have c1 : ((i : Int) < (a.length : Int)) := by omega
        have c2 : IntKind.wrap .i64 ((i : Int) + 1) = ((i + 1 : Nat) : Int) := by rw [wrap64 (by omega) (by omega)]; omega
        by_cases he : a[i] = b[i]'(by omega)
        · right
          refine ⟨a.length - (i + 1), ((a, (b, (((i + 1 : Nat) : Int), ()))), ()), by omega, ⟨i + 1, rfl, hlt, rfl, ?_⟩, ?_⟩
          · rw [List.take_add_one, List.take_add_one, ht, List.getElem?_eq_getElem hlt, List.getElem?_eq_getElem (by omega), he]
          · simp only [sameB, c1, decide_true, cond_true, getI_lt a i hlt, getI_lt b i (by omega), Option.bind_some, he, Bool.not_true, cond_false, c2]
        · left
          refine ⟨.inl ((false, ()), ()), ?_, ?_⟩
          · simp only [sameB, c1, decide_true, cond_true, getI_lt a i hlt, getI_lt b i (by omega), Option.bind_some, he, decide_false, Bool.not_false]
          · rw [if_neg (fun h => he (by simp [h]))]
      · left
        have c1 : ¬ ((i : Int) < (a.length : Int)) := by omega
        refine ⟨.inr ((), ()), by simp only [sameB, c1, decide_false, cond_false], ?_⟩
        rw [List.take_of_length_le (by omega), List.take_of_length_le (by omega)] at ht
        rw [if_pos ht]) N a.length ((a, (b, ((0 : Int), ()))), ()) h ⟨0, rfl, by omega, by omega, by simp⟩
    rw [h1, h2]
    by_cases he : a = b <;> simp [he]
  · have c0 : ¬ ((a.length : Int) = (b.length : Int)) := by omega
    have c1 : ¬ (a = b) := fun h' => hl (by rw [h'])
    simp only [c0, c1, decide_false, Bool.not_false, cond_true]
def qOJoinL3 (N : Nat) (X : (((List (List (Int))) × ((Int) × ((List (List (Int))) × ((Int) × ((Int) × Unit))))) × Unit) → Option ((((List (List (Int))) × ((Int) × Unit)) × Unit))) (parts0 : List (List (Int))) (size3 : Int) (x9 : List (List (Int))) (x10 : Int) (x11 : Int) : Option ((((List (List (Int))) × ((Int) × Unit)) × Unit)) :=
 bif (decide (x11 < x10)) then
  Option.bind (getI x9 x11) fun (v7 : (List Int)) =>
  (X ((parts0, ((IntKind.wrap .i64 (size3 + (((List.length v7) : Nat) : Int))), (x9, (x10, ((IntKind.wrap .i64 (x11 + (1 : Int))), @Unit.unit))))), @Unit.unit))
 else
  some (((parts0, (size3, @Unit.unit)), @Unit.unit))
def qOJoinL3R (N : Nat) (c : (((List (List (Int))) × ((Int) × ((List (List (Int))) × ((Int) × ((Int) × Unit))))) × Unit)) : Option ((((List (List (Int))) × ((Int) × Unit)) × Unit)) := gl (fun X c => qOJoinL3 N X c.1.1 c.1.2.1 c.1.2.2.1 c.1.2.2.2.1 c.1.2.2.2.2.1) N c
def qOJoinL9 (N : Nat) (X : (((List (List (Int))) × ((Int) × ((Int) × Unit))) × ((List (Int)) × Unit)) → Option ((Unit × ((List (Int)) × Unit)))) (x22 : List (List (Int))) (x23 : Int) (x24 : Int) (h0 : List (Int)) : Option ((Unit × ((List (Int)) × Unit))) :=
 bif (decide (x24 < x23)) then
  Option.bind (getI x22 x24) fun (v6 : (List Int)) =>
  bif (roomB ((List.length h0) + (List.length v6)) 1) then
   (X ((x22, (x23, ((IntKind.wrap .i64 (x24 + (1 : Int))), @Unit.unit))), ((h0 ++ v6), @Unit.unit)))
  else
   none
 else
  some ((@Unit.unit, (h0, @Unit.unit)))
def qOJoinL9R (N : Nat) (c : (((List (List (Int))) × ((Int) × ((Int) × Unit))) × ((List (Int)) × Unit))) : Option ((Unit × ((List (Int)) × Unit))) := gl (fun X c => qOJoinL9 N X c.1.1 c.1.2.1 c.1.2.2.1 c.2.1) N c
def qOJoin (N : Nat) (parts0 : List (List (Int))) : Option (List (Int)) :=
 Option.bind (qOJoinL3R N ((parts0, ((0 : Int), (parts0, ((((List.length parts0) : Nat) : Int), ((0 : Int), @Unit.unit))))), @Unit.unit)) fun (v2 : (((List (List Int)) × (Int × Unit)) × Unit)) =>
 bif ((decide ((0 : Int) ≤ (0 : Int) ∧ (0 : Int) ≤ v2.1.2.1)) && (roomB (Int.toNat v2.1.2.1) 1)) then
  Option.bind (qOJoinL9R N ((v2.1.1, ((((List.length v2.1.1) : Nat) : Int), ((0 : Int), @Unit.unit))), ((@List.replicate Int (Int.toNat (0 : Int)) (0 : Int)), @Unit.unit))) fun (v3 : (Unit × ((List Int) × Unit))) =>
  some (v3.2.1)
 else
  none
theorem q64_of (a : Nat) (ha : a < 18446744073709551616) : (BitVec.ofInt 64 (a : Int)).toNat = a := by
 rw [BitVec.ofInt_natCast, BitVec.toNat_ofNat]; exact Nat.mod_eq_of_lt (by omega)
section
variable {N : Nat}
theorem join_ok (l : List (List Int)) (hl : l.length ≤ 1000) (hs : ∀ p ∈ l, p.length ≤ 100000) (hN : 2000 ≤ N) : qOJoin N l = some l.flatten := by
 have tot : ∀ (m : List (List Int)), (∀ p ∈ m, p.length ≤ 100000) → m.flatten.length ≤ 100000 * m.length := by
  intro m
  induction m with
  | nil => intro _; simp
  | cons p m ih =>
   intro h
   have h1 := h p List.mem_cons_self
   have h2 := ih fun q hq => h q (List.mem_cons_of_mem _ hq)
   rw [List.flatten_cons, List.length_append, List.length_cons]
   omega
 have tk : ∀ i, (l.take i).flatten.length ≤ 100000000 := fun i => by
  have := tot (l.take i) fun p hp => hs p (List.mem_of_mem_take hp)
  rw [List.length_take] at this
  omega
 have hsn : ∀ i (hi : i < l.length), (l.take (i + 1)).flatten = (l.take i).flatten ++ l[i] := fun i hi => by
  have : l.take (i + 1) = l.take i ++ [l[i]] := by rw [List.take_add_one, List.getElem?_eq_getElem hi]; rfl
  rw [this, List.flatten_append]
  simp
 have h1 := gl_run (G := fun (X : ((List (List Int) × Int × List (List Int) × Int × Int × Unit) × Unit) → Option ((List (List Int) × Int × Unit) × Unit)) c => qOJoinL3 N X c.1.1 c.1.2.1 c.1.2.2.1 c.1.2.2.2.1 c.1.2.2.2.2.1)
  (fun i => ((l, (((l.take i).flatten.length : Int), (l, ((l.length : Int), ((i : Int), ()))))), ())) l.length ((l, ((l.flatten.length : Int), ())), ()) (fun X i hi => by
  have c1 : ((i : Int) < (l.length : Int)) := by omega
  have c2 : IntKind.wrap .i64 ((i : Int) + 1) = ((i + 1 : Nat) : Int) := by rw [wrap64 (by omega) (by omega)]; omega
  have hp := hs _ (List.getElem_mem hi)
  have ht := tk i
  have c3 : IntKind.wrap .i64 (((l.take i).flatten.length : Int) + (l[i].length : Int)) = (((l.take (i + 1)).flatten.length : Nat) : Int) := by rw [wrap64 (by omega) (by omega), hsn i hi, List.length_append]; omega
  simp only [qOJoinL3, c1, decide_true, cond_true, getI_lt l i hi, Option.bind_some, c3, c2]) (fun X => by
  simp [qOJoinL3]) N 0 (by omega) (by omega)
 have h2 := gl_run (G := fun (X : ((List (List Int) × Int × Int × Unit) × List Int × Unit) → Option (Unit × List Int × Unit)) c => qOJoinL9 N X c.1.1 c.1.2.1 c.1.2.2.1 c.2.1)
  (fun i => ((l, ((l.length : Int), ((i : Int), ()))), ((l.take i).flatten, ()))) l.length ((), (l.flatten, ())) (fun X i hi => by
  have c1 : ((i : Int) < (l.length : Int)) := by omega
  have c2 : IntKind.wrap .i64 ((i : Int) + 1) = ((i + 1 : Nat) : Int) := by rw [wrap64 (by omega) (by omega)]; omega
  have hp := hs _ (List.getElem_mem hi)
  have ht := tk i
  have c3 : roomB ((l.take i).flatten.length + l[i].length) 1 = true := roomB_of (by have := big_len; omega) (by omega)
  simp only [qOJoinL9, c1, decide_true, cond_true, getI_lt l i hi, Option.bind_some, c3, c2, hsn i hi]) (fun X => by
  simp [qOJoinL9]) N 0 (by omega) (by omega)
 have htot := tk l.length
 rw [List.take_length] at htot
 have c4 : (decide ((0 : Int) ≤ (0 : Int) ∧ (0 : Int) ≤ (l.flatten.length : Int)) && roomB (Int.toNat (l.flatten.length : Int)) 1) = true := by
  rw [Bool.and_eq_true]
  exact ⟨decide_eq_true ⟨by omega, by omega⟩, roomB_of (by have := big_len; omega) (by omega)⟩
 unfold qOJoin qOJoinL3R qOJoinL9R
 simp only [Int.natCast_zero, List.take_zero, List.flatten_nil, List.length_nil] at h1 h2
 rw [h1]
 simp only [Option.bind_some, c4, cond_true]
 have e0 : List.replicate (Int.toNat 0) (0 : Int) = [] := rfl
 rw [e0, h2]
 rfl
end
def idxB (s : List UInt8) (z : Int) : Int := match s.findIdx? (fun b => b == z.toNat.toUInt8) with
 | some i => (i : Int)
 | none => -1
section
variable {P : Program} {R : Type}
def ixK {R : Type} (args : List V) (k : V → Tree R) : Tree R := match args with
 | [.str s, .c (.int .u8 z)] => k (.c (.int .i64 (idxB s z)))
 | _ => .fail
theorem find_range (s : List UInt8) (p : UInt8 → Bool) : ∀ (n i : Nat), i + n = s.length → ((List.range' i n).find? fun j => p (s.getD j 0)) = ((s.drop i).findIdx? p).map (i + ·)
 | 0, i, h => by rw [List.drop_of_length_le (by omega)]; rfl
 | n + 1, i, h => by
  have hi : i < s.length := by omega
  rw [List.range'_succ, List.find?_cons, List.drop_eq_getElem_cons hi, List.findIdx?_cons, find_range s p n (i + 1) (by omega)]
  have e : s.getD i 0 = s[i] := by simp [List.getD_eq_getElem?_getD, hi]
  rw [e]
  cases p s[i] with
  | true => simp
  | false =>
   simp only [Bool.false_eq_true, if_false, Option.map_map]
   cases (s.drop (i + 1)).findIdx? p with
   | none => rfl
   | some j => simp; omega
theorem run_index {s : List UInt8} {z : Int} {w : World} : (Extern.BytealgIndexByte.indexByte #[.string ⟨s.toArray⟩, .int .u8 z]).run P w = .ok (.int .i64 (idxB s z)) w := by
 have hsz : (ByteArray.mk s.toArray).size = s.length := by show s.toArray.size = _; simp
 have hget : ∀ i, (ByteArray.mk s.toArray)[i]! = s.getD i 0 := fun i => by
  rcases Nat.lt_or_ge i s.length with hi | hi
  ·rw [getElem!_pos (ByteArray.mk s.toArray) i (by rw [hsz]; exact hi), List.getD_eq_getElem?_getD, List.getElem?_eq_getElem hi]
   rfl
  ·rw [getElem!_neg (ByteArray.mk s.toArray) i (by rw [hsz]; omega), List.getD_eq_getElem?_getD, List.getElem?_eq_none hi]
   rfl
 have e := find_range s (fun b => b == z.toNat.toUInt8) s.length 0 (by omega)
 rw [List.drop_zero] at e
 unfold idxB
 show Sem.run P (do
  let b ← Extern.Bytes.bytesOf (.string ⟨s.toArray⟩)
  let c ← Extern.Bytes.asByte (.int .u8 z)
  match (List.range b.size).find? fun i => b[i]! == c with
  | some i => pure (goInt i)
  | none => pure (goInt (-1))) w = _
 simp only [Extern.Bytes.bytesOf, Extern.Bytes.asByte, Sem.run_bind, Sem.run_pure, Result.andThen_ok, hsz, List.range_eq_range', hget]
 rw [e]
 cases s.findIdx? (fun b => b == z.toNat.toUInt8) with
 | none => rfl
 | some i => simp [goInt]
theorem ix_ok {f : FuncId} {fn : Func} (hf : P.funcs[f]? = some fn) (hb : fn.body.isNone = true) (hn : fn.name ≠ "runtime.NumGoroutine") (h1 : (Extern.findNext fn).isNone = true) (h2 : Extern.find fn = some Extern.BytealgIndexByte.indexByte) :
  ∀ args (k : V → Tree R) res, (ixK args k).run = some res → ∃ r, (k r).run = some res ∧ r.plain = true ∧ (∀ l k, ex r ≠ .fresh l k) ∧ CallsV P f args r := by
 intro args k res h
 unfold ixK at h
 split at h
 ·rename_i s z
  refine ⟨_, h, rfl, (fun l k h => by cases h), fun w B cargs hB hgl hlen hrel N hN => ?_⟩
  obtain ⟨v0, e0, r0⟩ := hrel 0 _ rfl
  obtain ⟨v1, e1, r1⟩ := hrel 1 _ rfl
  have hc : cargs = [v0, v1] := by
   match cargs, hlen, e0, e1 with
   | [a, b], _, e0, e1 => simp at e0 e1; rw [e0, e1]
  have q0 := Rel.ofC r0
  have q1 := Rel.ofC r1
  subst q0 q1 hc
  unfold EntersV
  have h1' : Extern.findNext fn = none := Option.isNone_iff_eq_none.1 h1
  have hb' : fn.body = none := Option.isNone_iff_eq_none.1 hb
  have hm : Sem.run P (mark (.extern f)) w = .ok () w := rfl
  have hrun : (callFunc f [Value.string ⟨s.toArray⟩, Value.int .u8 z].toArray).run P w = .ok (.value (.int .i64 (idxB s z))) w := by
   simp [callFunc, Sem.run_bind, hf, hn, hb', hm, h1', h2, run_index]
  rw [hrun]
  exact hN _ _ (Gr.refl _) (.c _ _)
 ·cases h
theorem EnvOK.addExt {Γ : (R : Type) → Env R} (hΓ : EnvOK P (Γ R)) {f : FuncId} {F : (R : Type) → List V → (V → Tree R) → Tree R} (h : ∀ args (k : V → Tree R) res, (F R args k).run = some res → ∃ r, (k r).run = some res ∧ r.plain = true ∧ (∀ l k, ex r ≠ .fresh l k) ∧ CallsV P f args r) : EnvOK P (Env.addFn Γ f F R) := by
 refine ⟨⟨fun f' args k res hc => ?_⟩, hΓ.inl, hΓ.lp, hΓ.cln⟩
 simp only [Env.addFn] at hc
 split at hc
 ·rename_i hff
  subst hff
  exact h args k res hc
 ·exact hΓ.fns.ok f' args k res hc
end
end Go.Proofs.YtobcpglaeonklaaGreatDoor
namespace Go.Proofs.YtobcpglaeonklaaGreatDoor
set_option maxRecDepth 100000
open Go.RowKit
set_option linter.unusedVariables false
theorem hasBody {f : Nat} {fn : Func} (hf : Tryz.prog.funcs[f]? = some fn) (hn : fn.name ≠ "runtime.NumGoroutine") (hb : fn.body.isSome = true) : ∃ fn, Tryz.prog.funcs[f]? = some fn ∧ fn.name ≠ "runtime.NumGoroutine" ∧ fn.body ≠ none :=
 ⟨fn, hf, hn, fun h => by rw [h] at hb; cases hb⟩
theorem rel_one {w : World} {B : List Nat} {x : V} {cargs : List Value} (hlen : cargs.length = [x].length) (h : ∀ (i : Nat) z, [x][i]? = some z → ∃ v, cargs[i]? = some v ∧ Rel w B [] (ex z) v) : ∃ a, cargs = [a] ∧ Rel w B [] (ex x) a := by
 obtain ⟨a, h1, h2⟩ := h 0 x rfl
 match cargs, hlen, h1 with
 | [p], _, h1 => simp at h1; subst h1; exact ⟨_, rfl, h2⟩
end Go.Proofs.YtobcpglaeonklaaGreatDoor
