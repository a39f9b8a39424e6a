/-
  An argument's reading, as plain data of its type: one theorem for every type of plain data.
-/
import Derived.Test.YtpijcgohhjgdbaaKOpen
namespace Go.Proofs.Ytpijcgohhjgdbaa
set_option maxRecDepth 100000
open Go.ChangeShapes Go.WideShapes Go.ChangeAt Go.RowKit
set_option linter.unusedVariables false
set_option linter.unusedSimpArgs false

/-- Numbers are in their kinds' ranges, lengths are a machine's. -/
def wfT : (d : Td) → T d → Prop
  | .int k, n => (Lit.int k n).wf = true
  | .bool, _ => True
  | .str, s => s.length ≤ maxLen
  | .sl d, l => l.length ≤ maxLen ∧ ∀ x ∈ l, wfT d x
  | .arr n d, a => ∀ x ∈ a.l, wfT d x
  | .pair d e, x => wfT d x.1 ∧ wfT e x.2
section
variable {P : Program} {H : Type} {enc : TypeId × Value → H} {W : World}
theorem pick_list {α : Type} (Q : Nat → α → Prop) : ∀ n, (∀ i, i < n → ∃ y, Q i y) → ∃ l : List α, l.length = n ∧ ∀ i y, l[i]? = some y → Q i y
  | 0, _ => ⟨[], rfl, fun i y h => by simp at h⟩
  | n + 1, h => by
    obtain ⟨l, h1, h2⟩ := pick_list Q n fun i hi => h i (by omega)
    obtain ⟨y, hy⟩ := h n (by omega)
    refine ⟨l ++ [y], by simp [h1], fun i z hz => ?_⟩
    rcases Nat.lt_or_ge i n with hi | hi
    · rw [List.getElem?_append_left (by omega)] at hz; exact h2 i z hz
    · rw [List.getElem?_append_right (by omega)] at hz
      have : i - l.length = 0 := by have := (List.getElem?_eq_some_iff.1 hz).1; simp at this; omega
      rw [this] at hz
      simp at hz
      subst hz
      rw [show i = n by omega]; exact hy
theorem cell_spot {a : Addr} {v : Value} (h : W.cell? a = some v) : a.spot = none := by
  unfold World.cell? at h
  split at h
  · split at h
    · cases h
    · rename_i hs; cases hx : a.spot with
      | none => rfl
      | some _ => rw [hx] at hs; simp at hs
  · cases h
theorem add_add (a : Addr) (i j : Nat) (h : a.spot = none) : (a.add i).add j = a.add (i + j) := by
  unfold Addr.add
  obtain ⟨b, o, s⟩ := a
  simp only at h
  subst h
  by_cases hi : i = 0 <;> by_cases hj : j = 0 <;> simp [hi, hj, Nat.add_assoc]
theorem cells_get {a : Addr} {n : Nat} {cs : List Value} (h : W.cells? 0 a n = some cs) : cs.length = n ∧ ∀ i u, cs[i]? = some u → W.cell? (a.add i) = some u := by
  unfold World.cells? at h
  rw [if_pos (Nat.zero_le _)] at h
  have hl := mapM_some_length h
  rw [List.length_range] at hl
  refine ⟨hl, fun i u hu => ?_⟩
  have hi : i < n := by have := (List.getElem?_eq_some_iff.1 hu).1; omega
  rw [mapM_some_get h i i (by simp [hi])]
  exact hu
/-- A row of parts, each of one size. -/
theorem flat_rel {d : Td} (xs : List (T d)) (us : Nat → Value) (B : List Nat) (h : ∀ i x, xs[i]? = some x → ∀ j y, (cells d x)[j]? = some y → Rel W B [] y (us (i * wd d + j))) : ∀ i y, (flat d xs)[i]? = some y → Rel W B [] y (us i) := by
  intro i y hy
  have hi : i < xs.length * wd d := by have := (List.getElem?_eq_some_iff.1 hy).1; rwa [flat_length] at this
  have hw : 0 < wd d := by rcases Nat.eq_zero_or_pos (wd d) with h | h; rw [h] at hi; omega; exact h
  have hq : i / wd d < xs.length := Nat.div_lt_of_lt_mul (by rw [Nat.mul_comm]; exact hi)
  have hx : xs[i / wd d]? = some xs[i / wd d] := List.getElem?_eq_getElem hq
  have hf := flat_at d xs (i / wd d) _ hx
  have hr : i % wd d < wd d := Nat.mod_lt _ hw
  have hdm := Nat.div_add_mod i (wd d)
  have h1 : (cells d xs[i / wd d])[i % wd d]? = some y := by
    rw [← hf, List.getElem?_take, if_pos hr, List.getElem?_drop]
    rw [show i / wd d * wd d + i % wd d = i by rw [Nat.mul_comm]; exact hdm]
    exact hy
  have := h _ _ hx _ _ h1
  rwa [show i / wd d * wd d + i % wd d = i by rw [Nat.mul_comm]; exact hdm] at this
mutual
theorem read_td : ∀ (n : Nat) (t : TypeId) (d : Td), layT' P n t d = true → ∀ (fuel : Nat) (cs : List Value) (x : DataW H × List MemPlace), DataW.trod enc P W 0 (fun _ => true) true fuel t cs = some x → ∃ y : T d, RelL W [] [] (cells d y) cs ∧ wfT d y
  | 0, t, d, h => by simp [layT'] at h
  | n + 1, t, d, h => by
    intro fuel cs x hx
    simp only [layT', Bool.and_eq_true, beq_iff_eq] at h
    obtain ⟨hc, h⟩ := h
    split at h
    · rename_i k k' hu
      have := of_decide_eq_true h
      subst this
      obtain ⟨z, rfl, _, hw⟩ := DataW.trod_int hu hx
      exact ⟨z, RelL.cons (.c _ _) (RelL.nil _ _ _), hw⟩
    · rename_i hu
      obtain ⟨z, rfl, _⟩ := DataW.trod_bool hu hx
      exact ⟨z, RelL.cons (.c _ _) (RelL.nil _ _ _), trivial⟩
    · rename_i hu
      obtain ⟨s, rfl, _, hs⟩ := DataW.trod_string hu hx
      refine ⟨s.data.toList, RelL.cons ?_ (RelL.nil _ _ _), by show s.data.toList.length ≤ maxLen; simpa using hs⟩
      have : (⟨s.data.toList.toArray⟩ : ByteArray) = s := by cases s; simp
      rw [this]; exact .c _ _
    · rename_i e d hu
      simp only [Bool.and_eq_true, decide_eq_true_eq] at h
      obtain ⟨hw, h⟩ := h
      have hce := layT_cells h
      rcases DataW.trod_slice hu hx with ⟨rfl, _⟩ | ⟨a, len, cap, elems, rest, m, rfl, rfl, _, _, hlc, hm, hel, hels, _⟩
      · exact ⟨[], RelL.cons (rel_nil_sl hw (.c _ _)) (RelL.nil _ _ _), by simp [maxLen], fun x hx => by cases hx⟩
      · obtain ⟨ys, hy1, hy2⟩ := pick_list (fun i y => ∃ us, W.cells? 0 (a.add (i * wd d)) (wd d) = some us ∧ RelL W [] [] (cells d y) us ∧ wfT d y) len fun i hi => by
          have h0 := hels i hi
          rw [List.getElem?_eq_getElem (by omega), hce] at h0
          obtain ⟨us, q1, q2⟩ := Option.bind_eq_some_iff.1 h0
          obtain ⟨y, q3, q4⟩ := read_td n e d h _ _ _ q2
          exact ⟨y, us, q1, q3, q4⟩
        refine ⟨ys, RelL.cons ?_ (RelL.nil _ _ _), by rw [hy1]; omega, fun x hx => ?_⟩
        · have hspot : 0 < len → a.spot = none := fun h0 => by
            obtain ⟨us, q1, q3, _⟩ := hy2 0 ys[0] (List.getElem?_eq_getElem (by omega))
            have hl := (cells_get q1).1
            have := (cells_get q1).2 0 us[0] (List.getElem?_eq_getElem (by omega))
            have := cell_spot this
            unfold Addr.add at this
            simpa using this
          have hcell : ∀ i x, ys[i]? = some x → ∀ j y, (cells d x)[j]? = some y → Rel W [] [] y ((W.cell? (a.add (i * wd d + j))).getD undef) ∧ (W.cell? (a.add (i * wd d + j))).isSome = true := fun i x hx j y hy => by
            obtain ⟨us, q1, q3, _⟩ := hy2 i x hx
            obtain ⟨u, q4, q5⟩ := q3.2 j y hy
            have := (cells_get q1).2 j u q4
            have h0 : 0 < len := by have := (List.getElem?_eq_some_iff.1 hx).1; omega
            rw [add_add a _ _ (hspot h0)] at this
            rw [this]
            exact ⟨q5, rfl⟩
          have hr := flat_rel (W := W) ys (fun i => (W.cell? (a.add i)).getD undef) [] fun i x hx j y hy => (hcell i x hx j y hy).1
          refine .sl _ _ _ _ _ _ (fun i => (W.cell? (a.add i)).getD undef) hw (by show len * wd d = (flat d ys).length; rw [flat_length, hy1]) hlc hm (fun h0 => ⟨a, rfl, hspot h0, ?_, by simp, fun i hi => ?_⟩) hr
          · obtain ⟨us, q1, q3, _⟩ := hy2 0 ys[0] (List.getElem?_eq_getElem (by omega))
            have hl := (cells_get q1).1
            have := (cells_get q1).2 0 us[0] (List.getElem?_eq_getElem (by omega))
            have := World.block_lt_of_cell? W _ this
            rwa [block_of_add, block_of_add] at this
          · have hi' : i < len * wd d := by change i < (flat d ys).length at hi; rw [flat_length, hy1] at hi; exact hi
            have hq : i / wd d < ys.length := by rw [hy1]; exact Nat.div_lt_of_lt_mul (by rw [Nat.mul_comm]; exact hi')
            have hrm : i % wd d < (cells d ys[i / wd d]).length := by rw [cells_length]; exact Nat.mod_lt _ (by omega)
            have := (hcell _ _ (List.getElem?_eq_getElem hq) _ _ (List.getElem?_eq_getElem hrm)).2
            rw [show i / wd d * wd d + i % wd d = i by rw [Nat.mul_comm]; exact Nat.div_add_mod i (wd d)] at this
            obtain ⟨u, hu⟩ := Option.isSome_iff_exists.1 this
            rw [hu]; rfl
        · obtain ⟨i, hi⟩ := List.getElem?_of_mem hx
          obtain ⟨_, _, _, q⟩ := hy2 i x hi
          exact q
    · rename_i m e m' d hu
      simp only [Bool.and_eq_true, beq_iff_eq] at h
      obtain ⟨rfl, h⟩ := h
      have hce := layT_cells h
      obtain ⟨xs, m2, rfl, _, hl, hxl, hi⟩ := DataW.trod_array hu hx
      obtain ⟨ys, hy1, hy2⟩ := pick_list (fun i y => RelL W [] [] (cells d y) ((cs.drop (i * wd d)).take (wd d)) ∧ wfT d y) m fun i h1 => by
        have h0 := hi i h1
        rw [List.getElem?_eq_getElem (by omega), hce] at h0
        exact read_td n e d h _ _ _ h0
      refine ⟨⟨ys, hy1⟩, ⟨?_, ?_⟩, fun x hx => ?_⟩
      · rw [cells_length, ← hc]; exact hl.symm ▸ rfl
      · intro i y hy
        have hr := flat_rel (W := W) ys (fun i => cs.getD i undef) [] fun i x hx j y hy => by
          obtain ⟨u, q1, q2⟩ := (hy2 i x hx).1.2 j y hy
          rw [List.getElem?_take] at q1
          split at q1
          · rw [List.getElem?_drop] at q1
            rw [List.getD_eq_getElem?_getD, q1]; exact q2
          · cases q1
        have hlt : i < cs.length := by
          have := (List.getElem?_eq_some_iff.1 hy).1
          rw [cells_length, ← hc, ← hl] at this
          exact this
        refine ⟨cs[i], List.getElem?_eq_getElem hlt, ?_⟩
        have := hr i y hy
        rwa [List.getD_eq_getElem?_getD, List.getElem?_eq_getElem hlt] at this
      · obtain ⟨i, hi⟩ := List.getElem?_of_mem hx
        exact (hy2 i x hi).2
    · rename_i fs hu
      obtain ⟨xs, m2, rfl, _, hl, hxl, hi⟩ := DataW.trod_struct hu hx
      have := read_fs n fs.toList 0 _ h m2 cs (fun i f hf => by
        have h0 := hi i f (by simpa using hf)
        have hlt : i < xs.length := by have := (List.getElem?_eq_some_iff.1 hf).1; rw [hxl]; simpa using this
        exact ⟨_, h0.trans (List.getElem?_eq_getElem hlt)⟩) (by rw [hl, hc]; omega)
      simpa using this
    · cases h
theorem read_fs : ∀ (n : Nat) (fs : List Field) (o : Nat) (d : Td), layFs P n fs o d = true → ∀ (m : Nat) (cs : List Value), (∀ (i : Nat) (f : Field), fs[i]? = some f → ∃ x, DataW.trod enc P W 0 (fun _ => true) true m f.type ((cs.drop f.offset).take (P.cellsOf f.type)) = some x) → cs.length = o + wd d → ∃ y : T d, RelL W [] [] (cells d y) (cs.drop o) ∧ wfT d y
  | 0, fs, o, d, h => by simp [layFs] at h
  | n + 1, [], o, d, h => by simp [layFs] at h
  | n + 1, [f], o, d, h => by
    intro m cs hx hl
    simp only [layFs, Bool.and_eq_true, beq_iff_eq] at h
    obtain ⟨rfl, h⟩ := h
    obtain ⟨x, hx⟩ := hx 0 f rfl
    rw [layT_cells h] at hx
    obtain ⟨y, h1, h2⟩ := read_td n _ d h _ _ _ hx
    rw [List.take_of_length_le (by rw [List.length_drop]; omega)] at h1
    exact ⟨y, h1, h2⟩
  | n + 1, f :: g :: fs, o, d, h => by
    intro m cs hx hl
    simp only [layFs] at h
    split at h
    · rename_i d e
      simp only [Bool.and_eq_true, beq_iff_eq] at h
      obtain ⟨⟨rfl, h⟩, h'⟩ := h
      simp only [wd] at hl
      obtain ⟨x, hx0⟩ := hx 0 f rfl
      rw [layT_cells h] at hx0
      obtain ⟨y, h1, h2⟩ := read_td n _ d h _ _ _ hx0
      obtain ⟨z, h3, h4⟩ := read_fs n (g :: fs) _ e h' m cs (fun i f' hf => hx (i + 1) f' (by simpa using hf)) (by omega)
      refine ⟨(y, z), ?_, h2, h4⟩
      have := h1.append h3
      rw [← List.drop_drop, List.take_append_drop] at this
      exact this
    · cases h
end
end
/-- Its value is a row of cells. -/
def rowB (P : Program) (t : TypeId) : Bool := match P.underlying t with
  | some (.struct _) | some (.array _ _) => true
  | _ => false
theorem okWide_row {P : Program} {W : World} {base : Nat} {t : TypeId} {v : Value} (h : rowB P t = true) (hv : Value.okWide P W .any base t v) : ∃ cs, v = .agg cs := by
  unfold rowB at h
  unfold Value.okWide at hv
  split at h
  · rename_i hu; rw [hu] at hv; obtain ⟨cs, h1, _⟩ := hv; exact ⟨cs, h1⟩
  · rename_i hu; rw [hu] at hv; obtain ⟨cs, h1, _⟩ := hv; exact ⟨cs, h1⟩
  · cases h
theorem okWide_one {P : Program} {W : World} {base n : Nat} {t : TypeId} {d : Td} {v : Value} (hl : layT' P n t d = true) (h : rowB P t = false) (hv : Value.okWide P W .any base t v) : v.cells.toList = [v] := by
  cases n with
  | zero => simp [layT'] at hl
  | succ n =>
    simp only [layT', Bool.and_eq_true] at hl
    replace hl := hl.2
    split at hl
    · rename_i hu; obtain ⟨_, rfl⟩ := okWide_int hu hv; rfl
    · rename_i hu
      simp only [Value.okWide, hu, Cell.okWide] at hv
      cases v <;> first | rfl | simp_all [Cell.ok]
    · rename_i hu; obtain ⟨_, rfl⟩ := okWide_string hu hv; rfl
    · rename_i hu; obtain ⟨_, _, _, rfl⟩ := okWide_slice hu hv; rfl
    · rename_i hu; simp [rowB, hu] at h
    · rename_i hu; simp [rowB, hu] at h
    · cases hl
/-- An argument, opened: what it says, as plain data. -/
theorem open_td {H : Type} {enc : TypeId × Value → H} {W : World} {t : TypeId} {d : Td} (hl : layT' Try.prog 24 t d = true) (hr : rowB Try.prog t = rowD d) {base : Nat} {v : Value} {x : DataW H} {p : List MemPlace} (hv : Value.okWide Try.prog W .any base t v) (h : DataW.Trod enc Try.prog W 0 (fun _ => true) true t v x p) : ∃ y : T d, Rel W [] [] (ex (valV d y)) v ∧ wfT d y := by
  obtain ⟨fuel, hf⟩ := h
  obtain ⟨y, h1, h2⟩ := read_td _ _ _ hl _ _ _ hf
  refine ⟨y, ?_, h2⟩
  cases hd : rowD d with
  | true =>
    obtain ⟨cs, rfl⟩ := okWide_row (hr.trans hd) hv
    rw [valV_row d y hd]
    refine .agg _ _ cs (fun i => cs.getD i undef) (by rw [← h1.1]; simp [Value.cells]) (fun i x hx => ?_) (fun i x hx => ?_)
    · obtain ⟨u, q1, _⟩ := h1.2 i x hx
      simp only [Value.cells, Array.getElem?_toList] at q1
      rw [Array.getD_eq_getD_getElem?, q1]; rfl
    · obtain ⟨u, q1, q2⟩ := h1.2 i x hx
      simp only [Value.cells, Array.getElem?_toList] at q1
      rw [Array.getD_eq_getD_getElem?, q1]; exact q2
  | false =>
    rw [okWide_one hl (hr.trans hd) hv, valV_one d y hd] at h1
    obtain ⟨u, q1, q2⟩ := h1.2 0 _ rfl
    simp at q1
    rw [q1]; exact q2
end Go.Proofs.Ytpijcgohhjgdbaa
