/-
  What a law's row lists of the program's tables: that they hold what the evaluator takes them to hold.
-/
import Derived.Test.YtopfadmfbgnbhaaDoorKRead
import Derived.LaidMore
import Derived.MakeChecks
import Derived.SevenTiedAt
namespace Go.Proofs.YtopfadmfbgnbhaaDoor
set_option maxRecDepth 100000
open Go.RowKit Go.ChangeShapes
set_option linter.unusedVariables false
set_option linter.unusedSimpArgs false

/-- The cells that plain data are laid in. -/
def datL {H : Type} : Nat → DataW H → List Value
  | 0, _ => []
  | n + 1, .lit l => [l.value]
  | n + 1, .agg ps => ps.flatMap (datL n)
  | _, _ => []
section
variable {P : Program} {H : Type} {enc : TypeId × Value → H} {W : World} {sp : Nat → Bool} {base : Nat} {held : Bool}
mutual
theorem lit_td : ∀ (n : Nat) (t : TypeId) (d : Td), layT' P n t d = true → eqD d = true → ∀ (fuel : Nat) (cs : List Value) (x : DataW H × List MemPlace), DataW.trod enc P W base sp held fuel t cs = some x → ∀ m, n ≤ m → datL m x.1 = cs
  | 0, t, d, h => by simp [layT'] at h
  | n + 1, t, d, h => by
    intro hd fuel cs x hx m hm
    obtain ⟨m, rfl⟩ : ∃ m', m = m' + 1 := ⟨m - 1, by omega⟩
    simp only [layT', Bool.and_eq_true, beq_iff_eq] at h
    obtain ⟨hc, h⟩ := h
    split at h
    · rename_i k k' hu
      obtain ⟨z, rfl, rfl, hw⟩ := DataW.trod_int hu hx
      rfl
    · rename_i hu
      obtain ⟨z, rfl, rfl⟩ := DataW.trod_bool hu hx
      rfl
    · rename_i hu
      obtain ⟨s, rfl, rfl, hs⟩ := DataW.trod_string hu hx
      simp [datL, Lit.value]
    · cases hd
    · rename_i k e k' d hu
      simp only [Bool.and_eq_true, beq_iff_eq] at h
      obtain ⟨rfl, h⟩ := h
      have hce := layT_cells h
      obtain ⟨xs, m2, rfl, rfl, hl, hxl, hi⟩ := DataW.trod_array hu hx
      have key : ∀ (j i : Nat), j + i = k → ((xs.drop i).map (·.1)).flatMap (datL m) = cs.drop (i * wd d) := by
        intro j
        induction j with
        | zero =>
          intro i hi0
          rw [List.drop_of_length_le (by omega), List.drop_of_length_le (by rw [hl, hc]; simp only [wd]; rw [show i = k by omega]; exact Nat.le_refl _)]
          rfl
        | succ j ih =>
          intro i hi0
          have hlt : i < xs.length := by omega
          have h0 := hi i (by omega)
          rw [List.getElem?_eq_getElem hlt, hce] at h0
          have h1 := lit_td n e d h hd _ _ _ h0 m (by omega)
          have h2 := ih (i + 1) (by omega)
          rw [List.drop_eq_getElem_cons hlt, List.map_cons, List.flatMap_cons, h1, h2, Nat.add_mul, Nat.one_mul, ← List.drop_drop, List.take_append_drop]
      have := key k 0 (by omega)
      simpa [datL] using this
    · rename_i fs hu
      obtain ⟨xs, m2, rfl, rfl, hl, hxl, hi⟩ := DataW.trod_struct hu hx
      have := lit_fs n fs.toList 0 _ h hd m2 cs xs (by simpa using hxl) (fun i f hf => hi i f (by simpa using hf)) (by rw [hl, hc]; omega) m (by omega)
      simpa [datL] using this
    · cases h
theorem lit_fs : ∀ (n : Nat) (fs : List Field) (o : Nat) (d : Td), layFs P n fs o d = true → eqD d = true → ∀ (m0 : Nat) (cs : List Value) (xs : List (DataW H × List MemPlace)), xs.length = fs.length → (∀ (i : Nat) (f : Field), fs[i]? = some f → DataW.trod enc P W base sp held m0 f.type ((cs.drop f.offset).take (P.cellsOf f.type)) = xs[i]?) → cs.length = o + wd d → ∀ m, n ≤ m → (xs.map (·.1)).flatMap (datL m) = cs.drop o
  | 0, fs, o, d, h => by simp [layFs] at h
  | n + 1, [], o, d, h => by simp [layFs] at h
  | n + 1, [f], o, d, h => by
    intro hd m0 cs xs hxl hx hl m hm
    simp only [layFs, Bool.and_eq_true, beq_iff_eq] at h
    obtain ⟨rfl, h⟩ := h
    match xs, hxl with
    | [x], _ =>
      have h0 := hx 0 f rfl
      rw [layT_cells h] at h0
      have h1 := lit_td n _ d h hd _ _ _ h0 m (by omega)
      rw [List.take_of_length_le (by rw [List.length_drop]; omega)] at h1
      simp [h1]
  | n + 1, f :: g :: fs, o, d, h => by
    intro hd m0 cs xs hxl hx hl m hm
    simp only [layFs] at h
    split at h
    · rename_i d e
      simp only [Bool.and_eq_true, beq_iff_eq] at h
      simp only [eqD, Bool.and_eq_true] at hd
      obtain ⟨⟨rfl, h⟩, h'⟩ := h
      simp only [wd] at hl
      match xs, hxl with
      | x :: xs, hxl =>
        have h0 := hx 0 f rfl
        rw [layT_cells h] at h0
        have h1 := lit_td n _ d h hd.1 _ _ _ h0 m (by omega)
        have h2 := lit_fs n (g :: fs) _ e h' hd.2 m0 cs xs (by simpa using hxl) (fun i f' hf => by have := hx (i + 1) f' (by simpa using hf); simpa using this) (by omega) m (by omega)
        rw [List.map_cons, List.flatMap_cons, h1, h2, ← List.drop_drop, List.take_append_drop]
    · cases h
end
/-- A listed variable's cells. -/
theorem laid_cells {n : String} {D : DataW Unit} {g : Nat} {t : TypeId} {d : Td} (hg : P.globalNamed n = some g) (ht : (P.globals[g]?).map (·.type) = some t) (hl : layT' P 24 t d = true) (hd : eqD d = true) {cs : Array Value} {fuel : Nat} {p : List MemPlace}
    (hv : W.var? P n = some cs) (hx : DataW.trod (fun _ => ()) P W 0 (fun _ => true) false fuel t cs.toList = some (D, p)) (hne : datL 24 D ≠ []) : Rel W [] [] (.adr ((datL 24 D).map .c)) (.pointer (some ⟨g, 0, none⟩)) := by
  have h1 := lit_td 24 t d hl hd _ _ _ hx 24 (Nat.le_refl _)
  simp only at h1
  rw [h1] at hne ⊢
  have hb : ∃ T fr, W.heap[g]? = some (.cells cs T fr) := by
    unfold World.var? at hv
    rw [hg] at hv
    simp only [Option.bind_some] at hv
    split at hv
    · rename_i c T fr hc
      injection hv with hv
      subst hv
      exact ⟨T, fr, hc⟩
    · cases hv
  obtain ⟨T, fr, hb⟩ := hb
  refine .adr _ _ _ (fun i => cs.toList.getD i undef) ⟨rfl, (Array.getElem?_eq_some_iff.1 hb).1, by simp, fun i hi => ?_⟩ (fun i x hx => ?_)
  · rw [List.length_map] at hi
    have hc := cell_of_row W g i cs T fr hb
    have e : (⟨g, 0, none⟩ : Addr).add i = ⟨g, i, none⟩ := by simp [Addr.add]; omega
    rw [e, hc, List.getD_eq_getElem?_getD, List.getElem?_eq_getElem hi, Option.getD_some]
    simp at hi
    simp [hi]
  · rw [List.getElem?_map, Option.map_eq_some_iff] at hx
    obtain ⟨v, hv', rfl⟩ := hx
    rw [List.getD_eq_getElem?_getD, hv', Option.getD_some]
    exact .c _ _
end
end Go.Proofs.YtopfadmfbgnbhaaDoor
