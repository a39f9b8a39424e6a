/-
  Parts of my own, one behind the other: KRead, QBase2, QOctsD, QOcts, KD, GRfn, QRN0, QRN1, QRN2, QRN3, QRN4, QRN5, QRN6, QRn0, QRn1, QRn2.
-/
import Derived.Test.YtpijcgohhjgdbaaMrg3
namespace Go.Proofs.Ytpijcgohhjgdbaa
set_option maxRecDepth 100000
open Go.ChangeShapes Go.WideShapes Go.ChangeAt Go.RowKit
set_option linter.unusedVariables false
set_option linter.unusedSimpArgs false
def wfT : (d : Td) → T d → Prop
 | .int k, n => (Lit.int k n).wf = true
 | .bool, _ => True
 | .str, s => s.length ≤ maxLen
 | .sl d, l => l.length ≤ maxLen ∧ ∀ x ∈ l, wfT d x
 | .arr n d, a => ∀ x ∈ a.l, wfT d x
 | .pair d e, x => wfT d x.1 ∧ wfT e x.2
section
variable {P : Program} {H : Type} {enc : TypeId × Value → H} {W : World}
theorem pick_list {α : Type} (Q : Nat → α → Prop) : ∀ n, (∀ i, i < n → ∃ y, Q i y) → ∃ l : List α, l.length = n ∧ ∀ i y, l[i]? = some y → Q i y
 | 0, _ => ⟨[], rfl, fun i y h => by simp at h⟩
 | n + 1, h => by
  obtain ⟨l, h1, h2⟩ := pick_list Q n fun i hi => h i (by omega)
  obtain ⟨y, hy⟩ := h n (by omega)
  refine ⟨l ++ [y], by simp [h1], fun i z hz => ?_⟩
  rcases Nat.lt_or_ge i n with hi | hi
  ·rw [List.getElem?_append_left (by omega)] at hz; exact h2 i z hz
  ·rw [List.getElem?_append_right (by omega)] at hz
   have : i - l.length = 0 := by have := (List.getElem?_eq_some_iff.1 hz).1; simp at this; omega
   rw [this] at hz
   simp at hz
   subst hz
   rw [show i = n by omega]; exact hy
theorem cell_spot {a : Addr} {v : Value} (h : W.cell? a = some v) : a.spot = none := by
 unfold World.cell? at h
 split at h
 ·split at h
  ·cases h
  ·rename_i hs; cases hx : a.spot with
   | none => rfl
   | some _ => rw [hx] at hs; simp at hs
 ·cases h
theorem add_add (a : Addr) (i j : Nat) (h : a.spot = none) : (a.add i).add j = a.add (i + j) := by
 unfold Addr.add
 obtain ⟨b, o, s⟩ := a
 simp only at h
 subst h
 by_cases hi : i = 0 <;> by_cases hj : j = 0 <;> simp [hi, hj, Nat.add_assoc]
theorem cells_get {a : Addr} {n : Nat} {cs : List Value} (h : W.cells? 0 a n = some cs) : cs.length = n ∧ ∀ i u, cs[i]? = some u → W.cell? (a.add i) = some u := by
 unfold World.cells? at h
 rw [if_pos (Nat.zero_le _)] at h
 have hl := mapM_some_length h
 rw [List.length_range] at hl
 refine ⟨hl, fun i u hu => ?_⟩
 have hi : i < n := by have := (List.getElem?_eq_some_iff.1 hu).1; omega
 rw [mapM_some_get h i i (by simp [hi])]
 exact hu
theorem flat_rel {d : Td} (xs : List (T d)) (us : Nat → Value) (B : List Nat) (h : ∀ i x, xs[i]? = some x → ∀ j y, (cells d x)[j]? = some y → Rel W B [] y (us (i * wd d + j))) : ∀ i y, (flat d xs)[i]? = some y → Rel W B [] y (us i) := by
 intro i y hy
 have hi : i < xs.length * wd d := by have := (List.getElem?_eq_some_iff.1 hy).1; rwa [flat_length] at this
 have hw : 0 < wd d := by rcases Nat.eq_zero_or_pos (wd d) with h | h; rw [h] at hi; omega; exact h
 have hq : i / wd d < xs.length := Nat.div_lt_of_lt_mul (by rw [Nat.mul_comm]; exact hi)
 have hx : xs[i / wd d]? = some xs[i / wd d] := List.getElem?_eq_getElem hq
 have hf := flat_at d xs (i / wd d) _ hx
 have hr : i % wd d < wd d := Nat.mod_lt _ hw
 have hdm := Nat.div_add_mod i (wd d)
 have h1 : (cells d xs[i / wd d])[i % wd d]? = some y := by
  rw [← hf, List.getElem?_take, if_pos hr, List.getElem?_drop]
  rw [show i / wd d * wd d + i % wd d = i by rw [Nat.mul_comm]; exact hdm]
  exact hy
 have := h _ _ hx _ _ h1
 rwa [show i / wd d * wd d + i % wd d = i by rw [Nat.mul_comm]; exact hdm] at this
mutual
theorem read_td : ∀ (n : Nat) (t : TypeId) (d : Td), layT' P n t d = true → ∀ (fuel : Nat) (cs : List Value) (x : DataW H × List MemPlace), DataW.trod enc P W 0 (fun _ => true) true fuel t cs = some x → ∃ y : T d, RelL W [] [] (cells d y) cs ∧ wfT d y
 | 0, t, d, h => by simp [layT'] at h
 | n + 1, t, d, h => by
  intro fuel cs x hx
  simp only [layT', Bool.and_eq_true, beq_iff_eq] at h
  obtain ⟨hc, h⟩ := h
  split at h
  ·rename_i k k' hu
   have := of_decide_eq_true h
   subst this
   obtain ⟨z, rfl, _, hw⟩ := DataW.trod_int hu hx
   exact ⟨z, RelL.cons (.c _ _) (RelL.nil _ _ _), hw⟩
  ·rename_i hu
   obtain ⟨z, rfl, _⟩ := DataW.trod_bool hu hx
   exact ⟨z, RelL.cons (.c _ _) (RelL.nil _ _ _), trivial⟩
  ·rename_i hu
   obtain ⟨s, rfl, _, hs⟩ := DataW.trod_string hu hx
   refine ⟨s.data.toList, RelL.cons ?_ (RelL.nil _ _ _), by show s.data.toList.length ≤ maxLen; simpa using hs⟩
   have : (⟨s.data.toList.toArray⟩ : ByteArray) = s := by cases s; simp
   rw [this]; exact .c _ _
  ·rename_i e d hu
   simp only [Bool.and_eq_true, decide_eq_true_eq] at h
   obtain ⟨hw, h⟩ := h
   have hce := layT_cells h
   rcases DataW.trod_slice hu hx with ⟨rfl, _⟩ | ⟨a, len, cap, elems, rest, m, rfl, rfl, _, _, hlc, hm, hel, hels, _⟩
   ·exact ⟨[], RelL.cons (rel_nil_sl hw (.c _ _)) (RelL.nil _ _ _), by simp [maxLen], fun x hx => by cases hx⟩
   ·obtain ⟨ys, hy1, hy2⟩ := pick_list (fun i y => ∃ us, W.cells? 0 (a.add (i * wd d)) (wd d) = some us ∧ RelL W [] [] (cells d y) us ∧ wfT d y) len fun i hi => by
     have h0 := hels i hi
     rw [List.getElem?_eq_getElem (by omega), hce] at h0
     obtain ⟨us, q1, q2⟩ := Option.bind_eq_some_iff.1 h0
     obtain ⟨y, q3, q4⟩ := read_td n e d h _ _ _ q2
     exact ⟨y, us, q1, q3, q4⟩
    refine ⟨ys, RelL.cons ?_ (RelL.nil _ _ _), by rw [hy1]; omega, fun x hx => ?_⟩
    ·have hspot : 0 < len → a.spot = none := fun h0 => by
      obtain ⟨us, q1, q3, _⟩ := hy2 0 ys[0] (List.getElem?_eq_getElem (by omega))
      have hl := (cells_get q1).1
      have := (cells_get q1).2 0 us[0] (List.getElem?_eq_getElem (by omega))
      have := cell_spot this
      unfold Addr.add at this
      simpa using this
     have hcell : ∀ i x, ys[i]? = some x → ∀ j y, (cells d x)[j]? = some y → Rel W [] [] y ((W.cell? (a.add (i * wd d + j))).getD undef) ∧ (W.cell? (a.add (i * wd d + j))).isSome = true := fun i x hx j y hy => by
      obtain ⟨us, q1, q3, _⟩ := hy2 i x hx
      obtain ⟨u, q4, q5⟩ := q3.2 j y hy
      have := (cells_get q1).2 j u q4
      have h0 : 0 < len := by have := (List.getElem?_eq_some_iff.1 hx).1; omega
      rw [add_add a _ _ (hspot h0)] at this
      rw [this]
      exact ⟨q5, rfl⟩
     have hr := flat_rel (W := W) ys (fun i => (W.cell? (a.add i)).getD undef) [] fun i x hx j y hy => (hcell i x hx j y hy).1
     refine .sl _ _ _ _ _ _ (fun i => (W.cell? (a.add i)).getD undef) hw (by show len * wd d = (flat d ys).length; rw [flat_length, hy1]) hlc hm (fun h0 => ⟨a, rfl, hspot h0, ?_, by simp, fun i hi => ?_⟩) hr
     ·obtain ⟨us, q1, q3, _⟩ := hy2 0 ys[0] (List.getElem?_eq_getElem (by omega))
      have hl := (cells_get q1).1
      have := (cells_get q1).2 0 us[0] (List.getElem?_eq_getElem (by omega))
      have := World.block_lt_of_cell? W _ this
      rwa [block_of_add, block_of_add] at this
     ·have hi' : i < len * wd d := by change i < (flat d ys).length at hi; rw [flat_length, hy1] at hi; exact hi
      have hq : i / wd d < ys.length := by rw [hy1]; exact Nat.div_lt_of_lt_mul (by rw [Nat.mul_comm]; exact hi')
      have hrm : i % wd d < (cells d ys[i / wd d]).length := by rw [cells_length]; exact Nat.mod_lt _ (by omega)
      have := (hcell _ _ (List.getElem?_eq_getElem hq) _ _ (List.getElem?_eq_getElem hrm)).2
      rw [show i / wd d * wd d + i % wd d = i by rw [Nat.mul_comm]; exact Nat.div_add_mod i (wd d)] at this
      obtain ⟨u, hu⟩ := Option.isSome_iff_exists.1 this
      rw [hu]; rfl
    ·obtain ⟨i, hi⟩ := List.getElem?_of_mem hx
     obtain ⟨_, _, _, q⟩ := hy2 i x hi
     exact q
  ·rename_i m e m' d hu
   simp only [Bool.and_eq_true, beq_iff_eq] at h
   obtain ⟨rfl, h⟩ := h
   have hce := layT_cells h
   obtain ⟨xs, m2, rfl, _, hl, hxl, hi⟩ := DataW.trod_array hu hx
   obtain ⟨ys, hy1, hy2⟩ := pick_list (fun i y => RelL W [] [] (cells d y) ((cs.drop (i * wd d)).take (wd d)) ∧ wfT d y) m fun i h1 => by
    have h0 := hi i h1
    rw [List.getElem?_eq_getElem (by omega), hce] at h0
    exact read_td n e d h _ _ _ h0
   refine ⟨⟨ys, hy1⟩, ⟨?_, ?_⟩, fun x hx => ?_⟩
   ·rw [cells_length, ← hc]; exact hl.symm ▸ rfl
   ·intro i y hy
    have hr := flat_rel (W := W) ys (fun i => cs.getD i undef) [] fun i x hx j y hy => by
     obtain ⟨u, q1, q2⟩ := (hy2 i x hx).1.2 j y hy
     rw [List.getElem?_take] at q1
     split at q1
     ·rw [List.getElem?_drop] at q1
      rw [List.getD_eq_getElem?_getD, q1]; exact q2
     ·cases q1
    have hlt : i < cs.length := by
     have := (List.getElem?_eq_some_iff.1 hy).1
     rw [cells_length, ← hc, ← hl] at this
     exact this
    refine ⟨cs[i], List.getElem?_eq_getElem hlt, ?_⟩
    have := hr i y hy
    rwa [List.getD_eq_getElem?_getD, List.getElem?_eq_getElem hlt] at this
   ·obtain ⟨i, hi⟩ := List.getElem?_of_mem hx
    exact (hy2 i x hi).2
  ·rename_i fs hu
   obtain ⟨xs, m2, rfl, _, hl, hxl, hi⟩ := DataW.trod_struct hu hx
   have := read_fs n fs.toList 0 _ h m2 cs (fun i f hf => by
    have h0 := hi i f (by simpa using hf)
    have hlt : i < xs.length := by have := (List.getElem?_eq_some_iff.1 hf).1; rw [hxl]; simpa using this
    exact ⟨_, h0.trans (List.getElem?_eq_getElem hlt)⟩) (by rw [hl, hc]; omega)
   simpa using this
  ·cases h
theorem read_fs : ∀ (n : Nat) (fs : List Field) (o : Nat) (d : Td), layFs P n fs o d = true → ∀ (m : Nat) (cs : List Value), (∀ (i : Nat) (f : Field), fs[i]? = some f → ∃ x, DataW.trod enc P W 0 (fun _ => true) true m f.type ((cs.drop f.offset).take (P.cellsOf f.type)) = some x) → cs.length = o + wd d → ∃ y : T d, RelL W [] [] (cells d y) (cs.drop o) ∧ wfT d y
 | 0, fs, o, d, h => by simp [layFs] at h
 | n + 1, [], o, d, h => by simp [layFs] at h
 | n + 1, [f], o, d, h => by
  intro m cs hx hl
  simp only [layFs, Bool.and_eq_true, beq_iff_eq] at h
  obtain ⟨rfl, h⟩ := h
  obtain ⟨x, hx⟩ := hx 0 f rfl
  rw [layT_cells h] at hx
  obtain ⟨y, h1, h2⟩ := read_td n _ d h _ _ _ hx
  rw [List.take_of_length_le (by rw [List.length_drop]; omega)] at h1
  exact ⟨y, h1, h2⟩
 | n + 1, f :: g :: fs, o, d, h => by
  intro m cs hx hl
  simp only [layFs] at h
  split at h
  ·rename_i d e
   simp only [Bool.and_eq_true, beq_iff_eq] at h
   obtain ⟨⟨rfl, h⟩, h'⟩ := h
   simp only [wd] at hl
   obtain ⟨x, hx0⟩ := hx 0 f rfl
   rw [layT_cells h] at hx0
   obtain ⟨y, h1, h2⟩ := read_td n _ d h _ _ _ hx0
   obtain ⟨z, h3, h4⟩ := read_fs n (g :: fs) _ e h' m cs (fun i f' hf => hx (i + 1) f' (by simpa using hf)) (by omega)
   refine ⟨(y, z), ?_, h2, h4⟩
   have := h1.append h3
   rw [← List.drop_drop, List.take_append_drop] at this
   exact this
  ·cases h
end
end
def rowB (P : Program) (t : TypeId) : Bool := match P.underlying t with
 | some (.struct _) | some (.array _ _) => true
 | _ => false
theorem okWide_row {P : Program} {W : World} {base : Nat} {t : TypeId} {v : Value} (h : rowB P t = true) (hv : Value.okWide P W .any base t v) : ∃ cs, v = .agg cs := by
 unfold rowB at h
 unfold Value.okWide at hv
 split at h
 ·rename_i hu; rw [hu] at hv; obtain ⟨cs, h1, _⟩ := hv; exact ⟨cs, h1⟩
 ·rename_i hu; rw [hu] at hv; obtain ⟨cs, h1, _⟩ := hv; exact ⟨cs, h1⟩
 ·cases h
theorem okWide_one {P : Program} {W : World} {base n : Nat} {t : TypeId} {d : Td} {v : Value} (hl : layT' P n t d = true) (h : rowB P t = false) (hv : Value.okWide P W .any base t v) : v.cells.toList = [v] := by
 cases n with
 | zero => simp [layT'] at hl
 | succ n =>
  simp only [layT', Bool.and_eq_true] at hl
  replace hl := hl.2
  split at hl
  ·rename_i hu; obtain ⟨_, rfl⟩ := okWide_int hu hv; rfl
  ·rename_i hu
   simp only [Value.okWide, hu, Cell.okWide] at hv
   cases v <;> first | rfl | simp_all [Cell.ok]
  ·rename_i hu; obtain ⟨_, rfl⟩ := okWide_string hu hv; rfl
  ·rename_i hu; obtain ⟨_, _, _, rfl⟩ := okWide_slice hu hv; rfl
  ·rename_i hu; simp [rowB, hu] at h
  ·rename_i hu; simp [rowB, hu] at h
  ·cases hl
theorem open_td {H : Type} {enc : TypeId × Value → H} {W : World} {t : TypeId} {d : Td} (hl : layT' Try.prog 24 t d = true) (hr : rowB Try.prog t = rowD d) {base : Nat} {v : Value} {x : DataW H} {p : List MemPlace} (hv : Value.okWide Try.prog W .any base t v) (h : DataW.Trod enc Try.prog W 0 (fun _ => true) true t v x p) : ∃ y : T d, Rel W [] [] (ex (valV d y)) v ∧ wfT d y := by
 obtain ⟨fuel, hf⟩ := h
 obtain ⟨y, h1, h2⟩ := read_td _ _ _ hl _ _ _ hf
 refine ⟨y, ?_, h2⟩
 cases hd : rowD d with
 | true =>
  obtain ⟨cs, rfl⟩ := okWide_row (hr.trans hd) hv
  rw [valV_row d y hd]
  refine .agg _ _ cs (fun i => cs.getD i undef) (by rw [← h1.1]; simp [Value.cells]) (fun i x hx => ?_) (fun i x hx => ?_)
  ·obtain ⟨u, q1, _⟩ := h1.2 i x hx
   simp only [Value.cells, Array.getElem?_toList] at q1
   rw [Array.getD_eq_getD_getElem?, q1]; rfl
  ·obtain ⟨u, q1, q2⟩ := h1.2 i x hx
   simp only [Value.cells, Array.getElem?_toList] at q1
   rw [Array.getD_eq_getD_getElem?, q1]; exact q2
 | false =>
  rw [okWide_one hl (hr.trans hd) hv, valV_one d y hd] at h1
  obtain ⟨u, q1, q2⟩ := h1.2 0 _ rfl
  simp at q1
  rw [q1]; exact q2
end Go.Proofs.Ytpijcgohhjgdbaa
namespace Go.Proofs.Ytpijcgohhjgdbaa
set_option maxRecDepth 100000
open Go.RowKit
set_option linter.unusedVariables false
set_option linter.unusedSimpArgs false
def AllB (l : List Int) : Prop := ∀ x ∈ l, 0 ≤ x ∧ x < 256
theorem AllB.nil : AllB [] := fun _ h => by cases h
theorem AllB.cons {x : Int} {l : List Int} (h1 : 0 ≤ x ∧ x < 256) (h2 : AllB l) : AllB (x :: l) := fun y hy => by
  rcases List.mem_cons.1 hy with rfl | hy
  · exact h1
  · exact h2 y hy
theorem AllB.append {l m : List Int} (h1 : AllB l) (h2 : AllB m) : AllB (l ++ m) := fun y hy => by
  rcases List.mem_append.1 hy with hy | hy
  · exact h1 y hy
  · exact h2 y hy
theorem AllB.drop {l : List Int} (h : AllB l) (n : Nat) : AllB (l.drop n) := fun y hy => h y (List.mem_of_mem_drop hy)
theorem AllB.take {l : List Int} (h : AllB l) (n : Nat) : AllB (l.take n) := fun y hy => h y (List.mem_of_mem_take hy)
theorem AllB.get {l : List Int} (h : AllB l) (i : Nat) (hi : i < l.length) : 0 ≤ l[i] ∧ l[i] < 256 := h _ (List.getElem_mem hi)
theorem wf_u8 {n : Int} (h : (Lit.int .u8 n).wf = true) : 0 ≤ n ∧ n < 256 := by
  simp only [Lit.wf, Bool.and_eq_true, decide_eq_true_eq, IntKind.min, IntKind.max, IntKind.signed, IntKind.bits] at h
  simp at h
  omega
theorem wf_bytes {l : List Int} (h : wfT (.sl (.int .u8)) l) : AllB l := fun x hx => wf_u8 (h.2 x hx)
theorem subI_nat {α : Type} (l : List α) {a b : Int} {i j : Nat} (ha : a = i) (hb : b = j) (h1 : i ≤ j) (h2 : j ≤ l.length) : subI l a b = some ((l.drop i).take (j - i)) := by
  subst ha hb
  unfold subI
  rw [if_pos ⟨by omega, by omega, by omega⟩, Int.toNat_natCast, Int.toNat_natCast]
theorem dropI_nat {α : Type} (l : List α) {a : Int} {i : Nat} (ha : a = i) (h1 : i ≤ l.length) : dropI l a = some (l.drop i) := by
  subst ha
  unfold dropI
  rw [if_pos ⟨by omega, by omega⟩, Int.toNat_natCast]
theorem takeI_nat {α : Type} (l : List α) {a : Int} {i : Nat} (ha : a = i) (h1 : i ≤ l.length) : takeI l a = some (l.take i) := by
  subst ha
  unfold takeI
  rw [if_pos ⟨by omega, by omega⟩, Int.toNat_natCast]
def qOplace (N : Nat) (i0 : Int) (width1 : Int) (little2 : Bool) : Option (Int) :=
 bif little2 then
  some (i0)
 else
  some ((IntKind.wrap .i64 ((IntKind.wrap .i64 (width1 - (1 : Int))) - i0)))
def qOGetL5 (N : Nat) (X : (((List (Int)) × ((Bool) × ((Int) × ((Int) × ((Int) × Unit))))) × Unit) → Option ((((Int) × Unit) × Unit))) (b0 : List (Int)) (little1 : Bool) (n6 : Int) (x17 : Int) (x18 : Int) : Option ((((Int) × Unit) × Unit)) :=
 bif (decide (x18 < x17)) then
  Option.bind (qOplace N x18 (((List.length b0) : Nat) : Int) little1) fun (v7 : Int) =>
  Option.bind (getI b0 v7) fun (v8 : Int) =>
  bif (decide ((0 : Int) ≤ (IntKind.wrap .i64 ((8 : Int) * x18)))) then
   (X ((b0, (little1, ((@Go.bits @Go.BinOp.or @IntKind.u64 n6 (IntKind.wrap .u64 ((IntKind.wrap .u64 v8) * (@HPow.hPow Int Nat Int (@instHPow Int Nat (@instPowNat Int @Int.instNatPow)) (2 : Int) (@Min.min Nat @instMinNat (Int.toNat (IntKind.wrap .i64 ((8 : Int) * x18))) (@IntKind.bits @IntKind.u64)))))), (x17, ((IntKind.wrap .i64 (x18 + (1 : Int))), @Unit.unit))))), @Unit.unit))
  else
   none
 else
  some (((n6, @Unit.unit), @Unit.unit))
def qOGetL5R (N : Nat) (c : (((List (Int)) × ((Bool) × ((Int) × ((Int) × ((Int) × Unit))))) × Unit)) : Option ((((Int) × Unit) × Unit)) := gl (fun X c => qOGetL5 N X c.1.1 c.1.2.1 c.1.2.2.1 c.1.2.2.2.1 c.1.2.2.2.2.1) N c
def qOGet (N : Nat) (b0 : List (Int)) (little1 : Bool) : Option ((Int) × Int) :=
 bif (decide ((((List.length b0) : Nat) : Int) < (1 : Int))) then
  some (((0 : Int), (1 : Int)))
 else
  bif (@cond Bool @Bool.false @Bool.true (decide ((8 : Int) < (((List.length b0) : Nat) : Int)))) then
   some (((0 : Int), (1 : Int)))
  else
   Option.bind (qOGetL5R N ((b0, (little1, ((0 : Int), ((((List.length b0) : Nat) : Int), ((0 : Int), @Unit.unit))))), @Unit.unit)) fun (v3 : ((Int × Unit) × Unit)) =>
   some ((v3.1.1, (0 : Int)))
theorem q64_of (a : Nat) (ha : a < 18446744073709551616) : (BitVec.ofInt 64 (a : Int)).toNat = a := by
 rw [BitVec.ofInt_natCast, BitVec.toNat_ofNat]; exact Nat.mod_eq_of_lt (by omega)
theorem q64_or (a b : Nat) (ha : a < 18446744073709551616) (hb : b < 18446744073709551616) : bits .or .u64 (a : Int) (b : Int) = ((a ||| b : Nat) : Int) := by
 have hx : a ||| b < 2 ^ 64 := Nat.or_lt_two_pow (n := 64) (by omega) (by omega)
 show IntKind.u64.wrap ((BitVec.ofInt 64 (a : Int) ||| BitVec.ofInt 64 (b : Int)).toNat : Int) = _
 rw [BitVec.toNat_or, q64_of a ha, q64_of b hb, IntKind.wrap_u64]
 omega
theorem or_nat (x y k : Nat) (hx : x < 2 ^ k) (hx' : x < 18446744073709551616) (hy : y * 2 ^ k < 18446744073709551616) : bits .or .u64 (x : Int) ((y * 2 ^ k : Nat) : Int) = ((y * 2 ^ k + x : Nat) : Int) := by
 rw [q64_or x (y * 2 ^ k) hx' hy, Nat.or_comm, ← Nat.shiftLeft_eq, ← Nat.shiftLeft_add_eq_or_of_lt hx]
theorem or_at (a b : Int) (k : Nat) (h0 : 0 ≤ a) (ha : a.toNat < 2 ^ k) (ha' : a < 18446744073709551616) (hb : 0 ≤ b) (hk : b.toNat * 2 ^ k < 18446744073709551616) : bits .or .u64 a (b * ((2 ^ k : Nat) : Int)) = b * ((2 ^ k : Nat) : Int) + a := by
 obtain ⟨x, rfl⟩ := Int.eq_ofNat_of_zero_le h0
 obtain ⟨y, rfl⟩ := Int.eq_ofNat_of_zero_le hb
 have := or_nat x y k (by simpa using ha) (by omega) (by simpa using hk)
 rw [Int.natCast_add, Int.natCast_mul] at this
 exact this
theorem wrapU64 {x : Int} (h1 : 0 ≤ x) (h2 : x < 18446744073709551616) : IntKind.wrap .u64 x = x := by
 rw [IntKind.wrap_u64]; omega
section
variable {N : Nat}
theorem get2 (x y : Int) (hx : 0 ≤ x ∧ x < 256) (hy : 0 ≤ y ∧ y < 256) (hN : 100 ≤ N) : qOGet N [x, y] false = some (x * 256 + y, 0) := by
 obtain ⟨M, rfl⟩ : ∃ M, N = M + 3 := ⟨N - 3, by omega⟩
 have w1 : IntKind.wrap .i64 ((2 : Int) - 1) = 1 := by decide
 have w2 : IntKind.wrap .i64 ((1 : Int) - 1) = 0 := by decide
 have w3 : IntKind.wrap .i64 ((0 : Int) + 1) = 1 := by decide
 have w4 : IntKind.wrap .i64 ((1 : Int) + 1) = 2 := by decide
 have w0 : IntKind.wrap .i64 ((1 : Int) - 0) = 1 := by decide
 have w5 : IntKind.wrap .i64 ((8 : Int) * 0) = 0 := by decide
 have w6 : IntKind.wrap .i64 ((8 : Int) * 1) = 8 := by decide
 have w7 : IntKind.wrap .u64 x = x := wrapU64 (by omega) (by omega)
 have w8 : IntKind.wrap .u64 y = y := wrapU64 (by omega) (by omega)
 have e0 : (2 : Int) ^ min (Int.toNat 0) (IntKind.bits IntKind.u64) = 1 := by decide
 have e1 : (2 : Int) ^ min (Int.toNat 8) (IntKind.bits IntKind.u64) = 256 := by decide
 have w9 : IntKind.wrap .u64 (x * 256) = x * 256 := wrapU64 (by omega) (by omega)
 have w10 : IntKind.wrap .u64 (y * 1) = y := by rw [Int.mul_one]; exact w8
 have o1 : bits .or .u64 0 y = y := by
  have := or_at 0 y 0 (by decide) (by decide) (by decide) (by omega) (by simp; omega)
  simpa using this
 have o2 : bits .or .u64 y (x * 256) = x * 256 + y := or_at y x 8 (by omega) (by show y.toNat < 256; omega) (by omega) (by omega) (by show x.toNat * 256 < _; omega)
 have g0 : getI [x, y] (0 : Int) = some x := rfl
 have g1 : getI [x, y] (1 : Int) = some y := rfl
 have l2 : (([x, y] : List Int).length : Int) = 2 := rfl
 simp only [qOGet, qOGetL5R, gl, qOGetL5, qOplace, l2, cond_false, Option.bind_some, w0, w1, w2, w3, w4, w5, w6, w7, w8, w9, w10, e0, e1, o1, o2, g0, g1]
 simp [w4, w6, w7, w9, e1, o2, w2, g0]
end
section
variable {P : Program} {R : Type}
end
end Go.Proofs.Ytpijcgohhjgdbaa
namespace Go.Proofs.Ytpijcgohhjgdbaa
open Go.RowKit
set_option linter.unusedVariables false
set_option maxRecDepth 100000
theorem hmx : Go.Proofs.Try.prog.follows .mixedOrders = true := by kernel_rfl
noncomputable def Ev0 (N : Nat) : (R : Type) → Env R := Env.addInl env0 []
theorem Ev0_ok (N : Nat) (R : Type) : EnvOK Go.Proofs.Try.prog (Ev0 N R) := EnvOK.addInl (env0_ok R) (by kernel_rfl)
noncomputable def Ev1 (N : Nat) : (R : Type) → Env R := Env.addScl (Ev0 N) [23]
theorem Ev1_ok (N : Nat) (R : Type) : EnvOK Go.Proofs.Try.prog (Ev1 N R) := EnvOK.addScl (Ev0_ok N R) [23]
noncomputable def Ev2 (N : Nat) : (R : Type) → Env R := Env.addUn (Ev1 N) [(5, 4)]
theorem Ev2_ok (N : Nat) (R : Type) : EnvOK Go.Proofs.Try.prog (Ev2 N R) := EnvOK.addUn (Ev1_ok N R) [(5, 4)]
noncomputable def Ev3 (N : Nat) : (R : Type) → Env R := Env.addMv (Ev2 N) [(33, 3)]
theorem Ev3_ok (N : Nat) (R : Type) : EnvOK Go.Proofs.Try.prog (Ev3 N R) := EnvOK.addMv (Ev2_ok N R) [(33, 3)]
noncomputable def Ev4 (N : Nat) : (R : Type) → Env R := Env.addMv (Ev3 N) [(11, 14), (11, 7)]
theorem Ev4_ok (N : Nat) (R : Type) : EnvOK Go.Proofs.Try.prog (Ev4 N R) := EnvOK.addMv (Ev3_ok N R) [(11, 14), (11, 7)]
noncomputable def Ev5 (N : Nat) : (R : Type) → Env R := Env.addMv (Ev4 N) [(16, 3)]
theorem Ev5_ok (N : Nat) (R : Type) : EnvOK Go.Proofs.Try.prog (Ev5 N R) := EnvOK.addMv (Ev4_ok N R) [(16, 3)]
noncomputable def Ev6 (N : Nat) : (R : Type) → Env R := Env.addBx (Ev5 N) [(39, 0)]
theorem Ev6_ok (N : Nat) (R : Type) : EnvOK Go.Proofs.Try.prog (Ev6 N R) := EnvOK.addBx (Ev5_ok N R) [(39, 0)]
noncomputable def attr_isKind (N : Nat) (kind0 : Int) : Option (Bool) :=
 Option.bind (bif (decide ((1 : Int) ≤ kind0)) then
   some ((@cond Bool @Bool.true (decide (kind0 ≤ (4 : Int))) @Bool.false))
  else
   some (@Bool.false)) fun (v2 : Bool) =>
 some (v2)
theorem attr_isKind_S (N : Nat) (kind0 : Int) : (runK Go.Proofs.Try.prog (Ev6 N) 400 43 [(.int .u8)] [.bool] (kind0, ())).run = attr_isKind N kind0 := by kernel_rfl
noncomputable def Ev7 (N : Nat) : (R : Type) → Env R := Env.addFn (Ev6 N) 43 (fun R => fnK [(.int .u8)] [.bool] (fun c => attr_isKind N c.1))
theorem Ev7_ok (N : Nat) (R : Type) : EnvOK Go.Proofs.Try.prog (Ev7 N R) := EnvOK.addFn hmx (Ev6_ok N R) (Ev6_ok N _) (by kernel_rfl) (fun c => attr_isKind_S N c.1)
noncomputable def octs_place (N : Nat) (i0 : Int) (width1 : Int) (little2 : Bool) : Option (Int) :=
 bif little2 then
  some (i0)
 else
  some ((IntKind.wrap .i64 ((IntKind.wrap .i64 (width1 - (1 : Int))) - i0)))
theorem octs_place_S (N : Nat) (i0 : Int) (width1 : Int) (little2 : Bool) : (runK Go.Proofs.Try.prog (Ev7 N) 400 40 [(.int .i64), (.int .i64), .bool] [(.int .i64)] (i0, width1, little2, ())).run = octs_place N i0 width1 little2 := by kernel_rfl
noncomputable def Ev8 (N : Nat) : (R : Type) → Env R := Env.addFn (Ev7 N) 40 (fun R => fnK [(.int .i64), (.int .i64), .bool] [(.int .i64)] (fun c => octs_place N c.1 c.2.1 c.2.2.1))
theorem Ev8_ok (N : Nat) (R : Type) : EnvOK Go.Proofs.Try.prog (Ev8 N R) := EnvOK.addFn hmx (Ev7_ok N R) (Ev7_ok N _) (by kernel_rfl) (fun c => octs_place_S N c.1 c.2.1 c.2.2.1)
noncomputable def octs_Put_L5_I : LI := ⟨35, 0, [], ⟨[(0, .ty (.int .u64)), (1, .ty (.int .i64)), (2, .ty .bool), (8, .lit (.own 0)), (19, .ty (.int .i64)), (20, .ty (.int .i64))], [.own (.int .u8) 5]⟩, [(.exit 0, ⟨[(8, .lit (.own 0))], [.own (.int .u8) 5]⟩)]⟩
noncomputable def octs_Put_L5 (N : Nat) (X : (((Int) × ((Int) × ((Bool) × ((Int) × ((Int) × Unit))))) × ((List (Int)) × Unit)) → Option ((Unit × ((List (Int)) × Unit)))) (n0 : Int) (width1 : Int) (little2 : Bool) (x19 : Int) (x20 : Int) (h0 : List (Int)) : Option ((Unit × ((List (Int)) × Unit))) :=
 bif (decide (x20 < x19)) then
  Option.bind (@octs_place N x20 width1 little2) fun (v8 : Int) =>
  bif (decide ((0 : Int) ≤ v8 ∧ v8 < (((List.length h0) : Nat) : Int))) then
   Option.bind (@GetElem?.getElem? (List Int) Nat Int (fun (as9 : (List Int)) => (fun (i10 : Nat) => (@LT.lt Nat @instLTNat i10 (List.length as9)))) (@List.instGetElem?NatLtLength Int) h0 (Int.toNat v8)) fun (v9 : Int) =>
   (X (((@Int.fdiv n0 (@HPow.hPow Int Nat Int (@instHPow Int Nat (@instPowNat Int @Int.instNatPow)) (2 : Int) (@Min.min Nat @instMinNat (Int.toNat (8 : Int)) (@IntKind.bits @IntKind.u64)))), (width1, (little2, (x19, ((IntKind.wrap .i64 (x20 + (1 : Int))), @Unit.unit))))), ((@List.set Int h0 (Int.toNat v8) (IntKind.wrap .u8 n0)), @Unit.unit)))
  else
   none
 else
  some ((@Unit.unit, (h0, @Unit.unit)))
noncomputable def octs_Put_L5_R (N : Nat) (c : (((Int) × ((Int) × ((Bool) × ((Int) × ((Int) × Unit))))) × ((List (Int)) × Unit))) : Option ((Unit × ((List (Int)) × Unit))) := gl (fun X c => octs_Put_L5 N X c.1.1 c.1.2.1 c.1.2.2.1 c.1.2.2.2.1 c.1.2.2.2.2.1 c.2.1) N c
theorem octs_Put_L5_S (N : Nat) (X : (((Int) × ((Int) × ((Bool) × ((Int) × ((Int) × Unit))))) × ((List (Int)) × Unit)) → Option ((Unit × ((List (Int)) × Unit)))) (n0 : Int) (width1 : Int) (little2 : Bool) (x19 : Int) (x20 : Int) (h0 : List (Int)) : (roundK Go.Proofs.Try.prog (Ev8 N) 400 [31] octs_Put_L5_I (loopAt Go.Proofs.Try.prog [31] 5) X ((n0, width1, little2, x19, x20, ()), (h0, ()))).run = octs_Put_L5 N X n0 width1 little2 x19 x20 h0 := by kernel_rfl
noncomputable def Ev9 (N : Nat) : (R : Type) → Env R := Env.addLp (Ev8 N) [31] 0 5 (fun R => lpK Go.Proofs.Try.prog octs_Put_L5_I (fun X c => octs_Put_L5 N X c.1.1 c.1.2.1 c.1.2.2.1 c.1.2.2.2.1 c.1.2.2.2.2.1 c.2.1) N)
theorem Ev9_ok (N : Nat) (R : Type) : EnvOK Go.Proofs.Try.prog (Ev9 N R) := EnvOK.addLp (Ev8_ok N R) (by kernel_rfl) (lpK_ok (li := octs_Put_L5_I) (G := fun X c => octs_Put_L5 N X c.1.1 c.1.2.1 c.1.2.2.1 c.1.2.2.2.1 c.1.2.2.2.2.1 c.2.1) hmx (Ev8_ok N _) (by kernel_rfl) loopAt_sub (fun (X : CT octs_Put_L5_I.sh → Option (OT octs_Put_L5_I.outs)) (c : CT octs_Put_L5_I.sh) => octs_Put_L5_S N X c.1.1 c.1.2.1 c.1.2.2.1 c.1.2.2.2.1 c.1.2.2.2.2.1 c.2.1) N)
noncomputable def octs_Put (N : Nat) (n0 : Int) (width1 : Int) (little2 : Bool) : Option ((List (Int)) × Int) :=
 Option.bind (bif (decide (width1 < (1 : Int))) then
   some (@Bool.true)
  else
   some ((@cond Bool @Bool.false @Bool.true (decide ((8 : Int) < width1))))) fun (v4 : Bool) =>
 bif v4 then
  some ((([] : List (Int)), (1 : Int)))
 else
  bif ((decide ((0 : Int) ≤ width1 ∧ width1 ≤ width1)) && (roomB (Int.toNat width1) 1)) then
   Option.bind (octs_Put_L5_R N ((n0, (width1, (little2, ((((List.length (@List.replicate Int (Int.toNat width1) (0 : Int))) : Nat) : Int), ((0 : Int), @Unit.unit))))), ((@List.replicate Int (Int.toNat width1) (0 : Int)), @Unit.unit))) fun (v5 : (Unit × ((List Int) × Unit))) =>
   some ((v5.2.1, (0 : Int)))
  else
   none
theorem octs_Put_S (N : Nat) (n0 : Int) (width1 : Int) (little2 : Bool) : (runK Go.Proofs.Try.prog (Ev9 N) 400 31 [(.int .u64), (.int .i64), .bool] [(.sl (.int .u8)), (.int .i64)] (n0, width1, little2, ())).run = octs_Put N n0 width1 little2 := by kernel_rfl
noncomputable def Ev10 (N : Nat) : (R : Type) → Env R := Env.addFn (Ev9 N) 31 (fun R => fnK [(.int .u64), (.int .i64), .bool] [(.sl (.int .u8)), (.int .i64)] (fun c => octs_Put N c.1 c.2.1 c.2.2.1))
theorem Ev10_ok (N : Nat) (R : Type) : EnvOK Go.Proofs.Try.prog (Ev10 N R) := EnvOK.addFn hmx (Ev9_ok N R) (Ev9_ok N _) (by kernel_rfl) (fun c => octs_Put_S N c.1 c.2.1 c.2.2.1)
noncomputable def octs_Join_L3_I : LI := ⟨33, 0, [], ⟨[(0, .ty (.sl (.sl (.int .u8)))), (3, .ty (.int .i64)), (9, .ty (.sl (.sl (.int .u8)))), (10, .ty (.int .i64)), (11, .ty (.int .i64))], []⟩, [(.exit 0, ⟨[(0, .ty (.sl (.sl (.int .u8)))), (3, .ty (.int .i64))], []⟩)]⟩
noncomputable def octs_Join_L3 (N : Nat) (X : (((List (List (Int))) × ((Int) × ((List (List (Int))) × ((Int) × ((Int) × Unit))))) × Unit) → Option ((((List (List (Int))) × ((Int) × Unit)) × Unit))) (parts0 : List (List (Int))) (size3 : Int) (x9 : List (List (Int))) (x10 : Int) (x11 : Int) : Option ((((List (List (Int))) × ((Int) × Unit)) × Unit)) :=
 bif (decide (x11 < x10)) then
  Option.bind (getI x9 x11) fun (v7 : (List Int)) =>
  (X ((parts0, ((IntKind.wrap .i64 (size3 + (((List.length v7) : Nat) : Int))), (x9, (x10, ((IntKind.wrap .i64 (x11 + (1 : Int))), @Unit.unit))))), @Unit.unit))
 else
  some (((parts0, (size3, @Unit.unit)), @Unit.unit))
noncomputable def octs_Join_L3_R (N : Nat) (c : (((List (List (Int))) × ((Int) × ((List (List (Int))) × ((Int) × ((Int) × Unit))))) × Unit)) : Option ((((List (List (Int))) × ((Int) × Unit)) × Unit)) := gl (fun X c => octs_Join_L3 N X c.1.1 c.1.2.1 c.1.2.2.1 c.1.2.2.2.1 c.1.2.2.2.2.1) N c
theorem octs_Join_L3_S (N : Nat) (X : (((List (List (Int))) × ((Int) × ((List (List (Int))) × ((Int) × ((Int) × Unit))))) × Unit) → Option ((((List (List (Int))) × ((Int) × Unit)) × Unit))) (parts0 : List (List (Int))) (size3 : Int) (x9 : List (List (Int))) (x10 : Int) (x11 : Int) : (roundK Go.Proofs.Try.prog (Ev10 N) 400 [32] octs_Join_L3_I (loopAt Go.Proofs.Try.prog [32] 3) X ((parts0, size3, x9, x10, x11, ()), ())).run = octs_Join_L3 N X parts0 size3 x9 x10 x11 := by kernel_rfl
noncomputable def Ev11 (N : Nat) : (R : Type) → Env R := Env.addLp (Ev10 N) [32] 0 3 (fun R => lpK Go.Proofs.Try.prog octs_Join_L3_I (fun X c => octs_Join_L3 N X c.1.1 c.1.2.1 c.1.2.2.1 c.1.2.2.2.1 c.1.2.2.2.2.1) N)
theorem Ev11_ok (N : Nat) (R : Type) : EnvOK Go.Proofs.Try.prog (Ev11 N R) := EnvOK.addLp (Ev10_ok N R) (by kernel_rfl) (lpK_ok (li := octs_Join_L3_I) (G := fun X c => octs_Join_L3 N X c.1.1 c.1.2.1 c.1.2.2.1 c.1.2.2.2.1 c.1.2.2.2.2.1) hmx (Ev10_ok N _) (by kernel_rfl) loopAt_sub (fun (X : CT octs_Join_L3_I.sh → Option (OT octs_Join_L3_I.outs)) (c : CT octs_Join_L3_I.sh) => octs_Join_L3_S N X c.1.1 c.1.2.1 c.1.2.2.1 c.1.2.2.2.1 c.1.2.2.2.2.1) N)
noncomputable def octs_Join_L9_I : LI := ⟨33, 0, [], ⟨[(6, .lit (.own 0)), (22, .ty (.sl (.sl (.int .u8)))), (23, .ty (.int .i64)), (24, .ty (.int .i64))], [.own (.int .u8) 5]⟩, [(.exit 2, ⟨[(6, .lit (.own 0))], [.own (.int .u8) 5]⟩)]⟩
noncomputable def octs_Join_L9 (N : Nat) (X : (((List (List (Int))) × ((Int) × ((Int) × Unit))) × ((List (Int)) × Unit)) → Option ((Unit × ((List (Int)) × Unit)))) (x22 : List (List (Int))) (x23 : Int) (x24 : Int) (h0 : List (Int)) : Option ((Unit × ((List (Int)) × Unit))) :=
 bif (decide (x24 < x23)) then
  Option.bind (getI x22 x24) fun (v6 : (List Int)) =>
  bif (roomB ((List.length h0) + (List.length v6)) 1) then
   (X ((x22, (x23, ((IntKind.wrap .i64 (x24 + (1 : Int))), @Unit.unit))), ((h0 ++ v6), @Unit.unit)))
  else
   none
 else
  some ((@Unit.unit, (h0, @Unit.unit)))
noncomputable def octs_Join_L9_R (N : Nat) (c : (((List (List (Int))) × ((Int) × ((Int) × Unit))) × ((List (Int)) × Unit))) : Option ((Unit × ((List (Int)) × Unit))) := gl (fun X c => octs_Join_L9 N X c.1.1 c.1.2.1 c.1.2.2.1 c.2.1) N c
theorem octs_Join_L9_S (N : Nat) (X : (((List (List (Int))) × ((Int) × ((Int) × Unit))) × ((List (Int)) × Unit)) → Option ((Unit × ((List (Int)) × Unit)))) (x22 : List (List (Int))) (x23 : Int) (x24 : Int) (h0 : List (Int)) : (roundK Go.Proofs.Try.prog (Ev11 N) 400 [32] octs_Join_L9_I (loopAt Go.Proofs.Try.prog [32] 9) X ((x22, x23, x24, ()), (h0, ()))).run = octs_Join_L9 N X x22 x23 x24 h0 := by kernel_rfl
noncomputable def Ev12 (N : Nat) : (R : Type) → Env R := Env.addLp (Ev11 N) [32] 0 9 (fun R => lpK Go.Proofs.Try.prog octs_Join_L9_I (fun X c => octs_Join_L9 N X c.1.1 c.1.2.1 c.1.2.2.1 c.2.1) N)
theorem Ev12_ok (N : Nat) (R : Type) : EnvOK Go.Proofs.Try.prog (Ev12 N R) := EnvOK.addLp (Ev11_ok N R) (by kernel_rfl) (lpK_ok (li := octs_Join_L9_I) (G := fun X c => octs_Join_L9 N X c.1.1 c.1.2.1 c.1.2.2.1 c.2.1) hmx (Ev11_ok N _) (by kernel_rfl) loopAt_sub (fun (X : CT octs_Join_L9_I.sh → Option (OT octs_Join_L9_I.outs)) (c : CT octs_Join_L9_I.sh) => octs_Join_L9_S N X c.1.1 c.1.2.1 c.1.2.2.1 c.2.1) N)
noncomputable def octs_Join (N : Nat) (parts0 : List (List (Int))) : Option (List (Int)) :=
 Option.bind (octs_Join_L3_R N ((parts0, ((0 : Int), (parts0, ((((List.length parts0) : Nat) : Int), ((0 : Int), @Unit.unit))))), @Unit.unit)) fun (v2 : (((List (List Int)) × (Int × Unit)) × Unit)) =>
 bif ((decide ((0 : Int) ≤ (0 : Int) ∧ (0 : Int) ≤ v2.1.2.1)) && (roomB (Int.toNat v2.1.2.1) 1)) then
  Option.bind (octs_Join_L9_R N ((v2.1.1, ((((List.length v2.1.1) : Nat) : Int), ((0 : Int), @Unit.unit))), ((@List.replicate Int (Int.toNat (0 : Int)) (0 : Int)), @Unit.unit))) fun (v3 : (Unit × ((List Int) × Unit))) =>
  some (v3.2.1)
 else
  none
theorem octs_Join_S (N : Nat) (parts0 : List (List (Int))) : (runK Go.Proofs.Try.prog (Ev12 N) 400 32 [(.sl (.sl (.int .u8)))] [(.sl (.int .u8))] (parts0, ())).run = octs_Join N parts0 := by kernel_rfl
noncomputable def Ev13 (N : Nat) : (R : Type) → Env R := Env.addFn (Ev12 N) 32 (fun R => fnK [(.sl (.sl (.int .u8)))] [(.sl (.int .u8))] (fun c => octs_Join N c.1))
theorem Ev13_ok (N : Nat) (R : Type) : EnvOK Go.Proofs.Try.prog (Ev13 N R) := EnvOK.addFn hmx (Ev12_ok N R) (Ev12_ok N _) (by kernel_rfl) (fun c => octs_Join_S N c.1)
noncomputable def attr_Lay (N : Nat) (a0 : (Int) × (List (Int))) : Option ((List (Int)) × Int) :=
 Option.bind (@attr_isKind N a0.1) fun (v2 : Bool) =>
 bif (!v2) then
  some ((([] : List (Int)), (9 : Int)))
 else
  bif (decide ((4095 : Int) < (IntKind.wrap .i64 ((4 : Int) + (((List.length a0.2) : Nat) : Int))))) then
   some ((([] : List (Int)), (8 : Int)))
  else
   Option.bind (@octs_Put N (IntKind.wrap .u64 (IntKind.wrap .i64 ((4 : Int) + (((List.length a0.2) : Nat) : Int)))) (2 : Int) @Bool.false) fun (v3 : ((List Int) × Int)) =>
   Option.bind (@octs_Join N ([([(0 : Int), a0.1] : List (Int)), v3.1, a0.2] : List ((List Int)))) fun (v4 : (List Int)) =>
   some ((v4, (0 : Int)))
theorem attr_Lay_S (N : Nat) (a0 : (Int) × (List (Int))) : (runK Go.Proofs.Try.prog (Ev13 N) 400 39 [(.pair (.int .u8) (.sl (.int .u8)))] [(.sl (.int .u8)), (.int .i64)] (a0, ())).run = attr_Lay N a0 := by kernel_rfl
noncomputable def Ev14 (N : Nat) : (R : Type) → Env R := Env.addFn (Ev13 N) 39 (fun R => fnK [(.pair (.int .u8) (.sl (.int .u8)))] [(.sl (.int .u8)), (.int .i64)] (fun c => attr_Lay N c.1))
theorem Ev14_ok (N : Nat) (R : Type) : EnvOK Go.Proofs.Try.prog (Ev14 N R) := EnvOK.addFn hmx (Ev13_ok N R) (Ev13_ok N _) (by kernel_rfl) (fun c => attr_Lay_S N c.1)
noncomputable def octs_Get_L5_I : LI := ⟨37, 0, [], ⟨[(0, .ty (.sl (.int .u8))), (1, .ty .bool), (6, .ty (.int .u64)), (17, .ty (.int .i64)), (18, .ty (.int .i64))], []⟩, [(.exit 0, ⟨[(6, .ty (.int .u64))], []⟩)]⟩
noncomputable def octs_Get_L5 (N : Nat) (X : (((List (Int)) × ((Bool) × ((Int) × ((Int) × ((Int) × Unit))))) × Unit) → Option ((((Int) × Unit) × Unit))) (b0 : List (Int)) (little1 : Bool) (n6 : Int) (x17 : Int) (x18 : Int) : Option ((((Int) × Unit) × Unit)) :=
 bif (decide (x18 < x17)) then
  Option.bind (@octs_place N x18 (((List.length b0) : Nat) : Int) little1) fun (v7 : Int) =>
  Option.bind (getI b0 v7) fun (v8 : Int) =>
  bif (decide ((0 : Int) ≤ (IntKind.wrap .i64 ((8 : Int) * x18)))) then
   (X ((b0, (little1, ((@Go.bits @Go.BinOp.or @IntKind.u64 n6 (IntKind.wrap .u64 ((IntKind.wrap .u64 v8) * (@HPow.hPow Int Nat Int (@instHPow Int Nat (@instPowNat Int @Int.instNatPow)) (2 : Int) (@Min.min Nat @instMinNat (Int.toNat (IntKind.wrap .i64 ((8 : Int) * x18))) (@IntKind.bits @IntKind.u64)))))), (x17, ((IntKind.wrap .i64 (x18 + (1 : Int))), @Unit.unit))))), @Unit.unit))
  else
   none
 else
  some (((n6, @Unit.unit), @Unit.unit))
noncomputable def octs_Get_L5_R (N : Nat) (c : (((List (Int)) × ((Bool) × ((Int) × ((Int) × ((Int) × Unit))))) × Unit)) : Option ((((Int) × Unit) × Unit)) := gl (fun X c => octs_Get_L5 N X c.1.1 c.1.2.1 c.1.2.2.1 c.1.2.2.2.1 c.1.2.2.2.2.1) N c
theorem octs_Get_L5_S (N : Nat) (X : (((List (Int)) × ((Bool) × ((Int) × ((Int) × ((Int) × Unit))))) × Unit) → Option ((((Int) × Unit) × Unit))) (b0 : List (Int)) (little1 : Bool) (n6 : Int) (x17 : Int) (x18 : Int) : (roundK Go.Proofs.Try.prog (Ev14 N) 400 [36] octs_Get_L5_I (loopAt Go.Proofs.Try.prog [36] 5) X ((b0, little1, n6, x17, x18, ()), ())).run = octs_Get_L5 N X b0 little1 n6 x17 x18 := by kernel_rfl
noncomputable def Ev15 (N : Nat) : (R : Type) → Env R := Env.addLp (Ev14 N) [36] 0 5 (fun R => lpK Go.Proofs.Try.prog octs_Get_L5_I (fun X c => octs_Get_L5 N X c.1.1 c.1.2.1 c.1.2.2.1 c.1.2.2.2.1 c.1.2.2.2.2.1) N)
theorem Ev15_ok (N : Nat) (R : Type) : EnvOK Go.Proofs.Try.prog (Ev15 N R) := EnvOK.addLp (Ev14_ok N R) (by kernel_rfl) (lpK_ok (li := octs_Get_L5_I) (G := fun X c => octs_Get_L5 N X c.1.1 c.1.2.1 c.1.2.2.1 c.1.2.2.2.1 c.1.2.2.2.2.1) hmx (Ev14_ok N _) (by kernel_rfl) loopAt_sub (fun (X : CT octs_Get_L5_I.sh → Option (OT octs_Get_L5_I.outs)) (c : CT octs_Get_L5_I.sh) => octs_Get_L5_S N X c.1.1 c.1.2.1 c.1.2.2.1 c.1.2.2.2.1 c.1.2.2.2.2.1) N)
noncomputable def octs_Get (N : Nat) (b0 : List (Int)) (little1 : Bool) : Option ((Int) × Int) :=
 bif (decide ((((List.length b0) : Nat) : Int) < (1 : Int))) then
  some (((0 : Int), (1 : Int)))
 else
  Option.bind (some ((@cond Bool @Bool.false @Bool.true (decide ((8 : Int) < (((List.length b0) : Nat) : Int)))))) fun (v3 : Bool) =>
  bif v3 then
   some (((0 : Int), (1 : Int)))
  else
   Option.bind (octs_Get_L5_R N ((b0, (little1, ((0 : Int), ((((List.length b0) : Nat) : Int), ((0 : Int), @Unit.unit))))), @Unit.unit)) fun (v4 : ((Int × Unit) × Unit)) =>
   some ((v4.1.1, (0 : Int)))
theorem octs_Get_S (N : Nat) (b0 : List (Int)) (little1 : Bool) : (runK Go.Proofs.Try.prog (Ev15 N) 400 36 [(.sl (.int .u8)), .bool] [(.int .u64), (.int .i64)] (b0, little1, ())).run = octs_Get N b0 little1 := by kernel_rfl
noncomputable def Ev16 (N : Nat) : (R : Type) → Env R := Env.addFn (Ev15 N) 36 (fun R => fnK [(.sl (.int .u8)), .bool] [(.int .u64), (.int .i64)] (fun c => octs_Get N c.1 c.2.1))
theorem Ev16_ok (N : Nat) (R : Type) : EnvOK Go.Proofs.Try.prog (Ev16 N R) := EnvOK.addFn hmx (Ev15_ok N R) (Ev15_ok N _) (by kernel_rfl) (fun c => octs_Get_S N c.1 c.2.1)
noncomputable def slices_Clone_byte_byte_ne (N : Nat) (s0 : List (Int)) : Option (List (Int)) :=
 bif (@List.isEmpty Int s0) then
  none
 else
  bif (roomB ((List.length ([] : List (Int))) + (List.length s0)) 1) then
   some ((([] : List (Int)) ++ s0))
  else
   none
theorem slices_Clone_byte_byte_ne_S (N : Nat) (s0 : List (Int)) : (runK Go.Proofs.Try.prog (Ev16 N) 400 33 [(.sl (.int .u8))] [(.sl (.int .u8))] (s0, ())).run = slices_Clone_byte_byte_ne N s0 := by kernel_rfl
theorem slices_Clone_byte_byte_n1 (N : Nat) (c : Nat) : (runV Go.Proofs.Try.prog (Ev16 N) 400 33 [.c (.slice none 0 c)] [(.sl (.int .u8))]).run = some [] := by kernel_rfl
theorem slices_Clone_byte_byte_n2 (N : Nat) (A : Addr) (c : Nat) : (runV Go.Proofs.Try.prog (Ev16 N) 400 33 [.c (.slice (some A) 0 c)] [(.sl (.int .u8))]).run = some [] := by kernel_rfl
noncomputable def slices_Clone_byte_byte (N : Nat) (s0 : List (Int)) : Option (List (Int)) := bif s0.isEmpty then some [] else slices_Clone_byte_byte_ne N s0
noncomputable def Ev17 (N : Nat) : (R : Type) → Env R := Env.addFn (Ev16 N) 33 (fun R => fnK [(.sl (.int .u8))] [(.sl (.int .u8))] (fun c => slices_Clone_byte_byte N c.1))
theorem Ev17_ok (N : Nat) (R : Type) : EnvOK Go.Proofs.Try.prog (Ev17 N R) := EnvOK.addNil hmx (Ev16_ok N R) (Ev16_ok N _) (by kernel_rfl) (fun c => slices_Clone_byte_byte_ne_S N c.1) (slices_Clone_byte_byte_n1 N) (slices_Clone_byte_byte_n2 N)
noncomputable def attr_Parse (N : Nat) (b0 : List (Int)) : Option (((Int) × (List (Int))) × (Int) × Int) :=
 bif (decide ((((List.length b0) : Nat) : Int) < (4 : Int))) then
  some ((((0 : Int), ([] : List (Int))), ((0 : Int), (4 : Int))))
 else
  Option.bind (subI b0 (2 : Int) (4 : Int)) fun (v2 : (List Int)) =>
  Option.bind (@octs_Get N v2 @Bool.false) fun (v3 : (Int × Int)) =>
  Option.bind (getI b0 (0 : Int)) fun (v4 : Int) =>
  Option.bind (bif (!(decide (v4 = (0 : Int)))) then
    some (@Bool.true)
   else
    some ((@cond Bool @Bool.false @Bool.true (decide ((IntKind.wrap .i64 v3.1) < (4 : Int)))))) fun (v5 : Bool) =>
  Option.bind (bif v5 then
    some (@Bool.true)
   else
    some ((@cond Bool @Bool.false @Bool.true (decide ((4095 : Int) < (IntKind.wrap .i64 v3.1)))))) fun (v6 : Bool) =>
  bif v6 then
   some ((((0 : Int), ([] : List (Int))), ((0 : Int), (3 : Int))))
  else
   Option.bind (getI b0 (1 : Int)) fun (v7 : Int) =>
   Option.bind (@attr_isKind N v7) fun (v8 : Bool) =>
   bif (!v8) then
    some ((((0 : Int), ([] : List (Int))), ((0 : Int), (9 : Int))))
   else
    bif (decide ((((List.length b0) : Nat) : Int) < (IntKind.wrap .i64 v3.1))) then
     some ((((0 : Int), ([] : List (Int))), ((0 : Int), (4 : Int))))
    else
     Option.bind (getI b0 (1 : Int)) fun (v9 : Int) =>
     Option.bind (subI b0 (4 : Int) (IntKind.wrap .i64 v3.1)) fun (v10 : (List Int)) =>
     Option.bind (@slices_Clone_byte_byte N v10) fun (v11 : (List Int)) =>
     some (((v9, v11), ((IntKind.wrap .i64 v3.1), (0 : Int))))
theorem attr_Parse_S (N : Nat) (b0 : List (Int)) : (runK Go.Proofs.Try.prog (Ev17 N) 400 42 [(.sl (.int .u8))] [(.pair (.int .u8) (.sl (.int .u8))), (.int .i64), (.int .i64)] (b0, ())).run = attr_Parse N b0 := by kernel_rfl
noncomputable def Ev18 (N : Nat) : (R : Type) → Env R := Env.addFn (Ev17 N) 42 (fun R => fnK [(.sl (.int .u8))] [(.pair (.int .u8) (.sl (.int .u8))), (.int .i64), (.int .i64)] (fun c => attr_Parse N c.1))
theorem Ev18_ok (N : Nat) (R : Type) : EnvOK Go.Proofs.Try.prog (Ev18 N R) := EnvOK.addFn hmx (Ev17_ok N R) (Ev17_ok N _) (by kernel_rfl) (fun c => attr_Parse_S N c.1)
noncomputable def Ev19 (N : Nat) : (R : Type) → Env R := Env.addBx (Ev18 N) [(28, 0)]
theorem Ev19_ok (N : Nat) (R : Type) : EnvOK Go.Proofs.Try.prog (Ev19 N R) := EnvOK.addBx (Ev18_ok N R) [(28, 0)]
noncomputable def attr_Same (N : Nat) (a0 : (Int) × (List (Int))) (b1 : (Int) × (List (Int))) : Option (Bool) :=
 Option.bind (@toBy a0.2) fun (v3 : (List UInt8)) =>
 Option.bind (@toBy b1.2) fun (v4 : (List UInt8)) =>
 bif ((@wfB (@Td.pair (@Td.int @IntKind.u8) @Td.str) (a0.1, v3)) && (@wfB (@Td.pair (@Td.int @IntKind.u8) @Td.str) (b1.1, v4))) then
  some ((@Decidable.decide (@Eq (Int × (List UInt8)) (a0.1, v3) (b1.1, v4)) (@decT (@Td.pair (@Td.int @IntKind.u8) @Td.str) (a0.1, v3) (b1.1, v4))))
 else
  none
theorem attr_Same_S (N : Nat) (a0 : (Int) × (List (Int))) (b1 : (Int) × (List (Int))) : (runK Go.Proofs.Try.prog (Ev19 N) 400 28 [(.pair (.int .u8) (.sl (.int .u8))), (.pair (.int .u8) (.sl (.int .u8)))] [.bool] (a0, b1, ())).run = attr_Same N a0 b1 := by kernel_rfl
noncomputable def Ev20 (N : Nat) : (R : Type) → Env R := Env.addFn (Ev19 N) 28 (fun R => fnK [(.pair (.int .u8) (.sl (.int .u8))), (.pair (.int .u8) (.sl (.int .u8)))] [.bool] (fun c => attr_Same N c.1 c.2.1))
theorem Ev20_ok (N : Nat) (R : Type) : EnvOK Go.Proofs.Try.prog (Ev20 N R) := EnvOK.addFn hmx (Ev19_ok N R) (Ev19_ok N _) (by kernel_rfl) (fun c => attr_Same_S N c.1 c.2.1)
noncomputable def ref01_Num_L3_I : LI := ⟨20, 0, [], ⟨[(0, .ty (.sl (.int .u8))), (3, .ty (.int .u64)), (4, .ty (.int .i64))], []⟩, [(.exit 0, ⟨[(3, .ty (.int .u64))], []⟩)]⟩
noncomputable def ref01_Num_L3 (N : Nat) (X : (((List (Int)) × ((Int) × ((Int) × Unit))) × Unit) → Option ((((Int) × Unit) × Unit))) (b0 : List (Int)) (n3 : Int) (i4 : Int) : Option ((((Int) × Unit) × Unit)) :=
 bif (decide (i4 < (((List.length b0) : Nat) : Int))) then
  Option.bind (getI b0 i4) fun (v5 : Int) =>
  (X ((b0, ((IntKind.wrap .u64 ((IntKind.wrap .u64 (n3 * (256 : Int))) + (IntKind.wrap .u64 v5))), ((IntKind.wrap .i64 (i4 + (1 : Int))), @Unit.unit))), @Unit.unit))
 else
  some (((n3, @Unit.unit), @Unit.unit))
noncomputable def ref01_Num_L3_R (N : Nat) (c : (((List (Int)) × ((Int) × ((Int) × Unit))) × Unit)) : Option ((((Int) × Unit) × Unit)) := gl (fun X c => ref01_Num_L3 N X c.1.1 c.1.2.1 c.1.2.2.1) N c
theorem ref01_Num_L3_S (N : Nat) (X : (((List (Int)) × ((Int) × ((Int) × Unit))) × Unit) → Option ((((Int) × Unit) × Unit))) (b0 : List (Int)) (n3 : Int) (i4 : Int) : (roundK Go.Proofs.Try.prog (Ev20 N) 400 [34] ref01_Num_L3_I (loopAt Go.Proofs.Try.prog [34] 3) X ((b0, n3, i4, ()), ())).run = ref01_Num_L3 N X b0 n3 i4 := by kernel_rfl
noncomputable def Ev21 (N : Nat) : (R : Type) → Env R := Env.addLp (Ev20 N) [34] 0 3 (fun R => lpK Go.Proofs.Try.prog ref01_Num_L3_I (fun X c => ref01_Num_L3 N X c.1.1 c.1.2.1 c.1.2.2.1) N)
theorem Ev21_ok (N : Nat) (R : Type) : EnvOK Go.Proofs.Try.prog (Ev21 N R) := EnvOK.addLp (Ev20_ok N R) (by kernel_rfl) (lpK_ok (li := ref01_Num_L3_I) (G := fun X c => ref01_Num_L3 N X c.1.1 c.1.2.1 c.1.2.2.1) hmx (Ev20_ok N _) (by kernel_rfl) loopAt_sub (fun (X : CT ref01_Num_L3_I.sh → Option (OT ref01_Num_L3_I.outs)) (c : CT ref01_Num_L3_I.sh) => ref01_Num_L3_S N X c.1.1 c.1.2.1 c.1.2.2.1) N)
noncomputable def ref01_Num (N : Nat) (b0 : List (Int)) : Option (Int) :=
 Option.bind (ref01_Num_L3_R N ((b0, ((0 : Int), ((0 : Int), @Unit.unit))), @Unit.unit)) fun (v2 : ((Int × Unit) × Unit)) =>
 some (v2.1.1)
theorem ref01_Num_S (N : Nat) (b0 : List (Int)) : (runK Go.Proofs.Try.prog (Ev21 N) 400 34 [(.sl (.int .u8))] [(.int .u64)] (b0, ())).run = ref01_Num N b0 := by kernel_rfl
noncomputable def Ev22 (N : Nat) : (R : Type) → Env R := Env.addFn (Ev21 N) 34 (fun R => fnK [(.sl (.int .u8))] [(.int .u64)] (fun c => ref01_Num N c.1))
theorem Ev22_ok (N : Nat) (R : Type) : EnvOK Go.Proofs.Try.prog (Ev22 N R) := EnvOK.addFn hmx (Ev21_ok N R) (Ev21_ok N _) (by kernel_rfl) (fun c => ref01_Num_S N c.1)
noncomputable def ref17_kind (N : Nat) (id0 : Int) : Option (Bool) :=
 Option.bind (bif (decide ((1 : Int) ≤ id0)) then
   some ((@cond Bool @Bool.true (decide (id0 ≤ (4 : Int))) @Bool.false))
  else
   some (@Bool.false)) fun (v2 : Bool) =>
 some (v2)
theorem ref17_kind_S (N : Nat) (id0 : Int) : (runK Go.Proofs.Try.prog (Ev22 N) 400 41 [(.int .u8)] [.bool] (id0, ())).run = ref17_kind N id0 := by kernel_rfl
noncomputable def Ev23 (N : Nat) : (R : Type) → Env R := Env.addFn (Ev22 N) 41 (fun R => fnK [(.int .u8)] [.bool] (fun c => ref17_kind N c.1))
theorem Ev23_ok (N : Nat) (R : Type) : EnvOK Go.Proofs.Try.prog (Ev23 N R) := EnvOK.addFn hmx (Ev22_ok N R) (Ev22_ok N _) (by kernel_rfl) (fun c => ref17_kind_S N c.1)
noncomputable def ref17_Parse (N : Nat) (b0 : List (Int)) : Option (((Int) × (List (Int))) × (Int) × Int) :=
 bif (decide ((((List.length b0) : Nat) : Int) < (4 : Int))) then
  some ((((0 : Int), ([] : List (Int))), ((0 : Int), (4 : Int))))
 else
  Option.bind (subI b0 (2 : Int) (4 : Int)) fun (v2 : (List Int)) =>
  Option.bind (@ref01_Num N v2) fun (v3 : Int) =>
  Option.bind (getI b0 (0 : Int)) fun (v4 : Int) =>
  Option.bind (bif (!(decide (v4 = (0 : Int)))) then
    some (@Bool.true)
   else
    some ((@cond Bool @Bool.false @Bool.true (decide ((IntKind.wrap .i64 v3) < (4 : Int)))))) fun (v5 : Bool) =>
  Option.bind (bif v5 then
    some (@Bool.true)
   else
    some ((@cond Bool @Bool.false @Bool.true (decide ((4095 : Int) < (IntKind.wrap .i64 v3)))))) fun (v6 : Bool) =>
  bif v6 then
   some ((((0 : Int), ([] : List (Int))), ((0 : Int), (3 : Int))))
  else
   Option.bind (getI b0 (1 : Int)) fun (v7 : Int) =>
   Option.bind (@ref17_kind N v7) fun (v8 : Bool) =>
   bif (!v8) then
    some ((((0 : Int), ([] : List (Int))), ((0 : Int), (9 : Int))))
   else
    bif (decide ((((List.length b0) : Nat) : Int) < (IntKind.wrap .i64 v3))) then
     some ((((0 : Int), ([] : List (Int))), ((0 : Int), (4 : Int))))
    else
     Option.bind (getI b0 (1 : Int)) fun (v9 : Int) =>
     Option.bind (subI b0 (4 : Int) (IntKind.wrap .i64 v3)) fun (v10 : (List Int)) =>
     some (((v9, v10), ((IntKind.wrap .i64 v3), (0 : Int))))
theorem ref17_Parse_S (N : Nat) (b0 : List (Int)) : (runK Go.Proofs.Try.prog (Ev23 N) 400 35 [(.sl (.int .u8))] [(.pair (.int .u8) (.sl (.int .u8))), (.int .i64), (.int .i64)] (b0, ())).run = ref17_Parse N b0 := by kernel_rfl
noncomputable def Ev24 (N : Nat) : (R : Type) → Env R := Env.addFn (Ev23 N) 35 (fun R => fnK [(.sl (.int .u8))] [(.pair (.int .u8) (.sl (.int .u8))), (.int .i64), (.int .i64)] (fun c => ref17_Parse N c.1))
theorem Ev24_ok (N : Nat) (R : Type) : EnvOK Go.Proofs.Try.prog (Ev24 N R) := EnvOK.addFn hmx (Ev23_ok N R) (Ev23_ok N _) (by kernel_rfl) (fun c => ref17_Parse_S N c.1)
noncomputable def Ev25 (N : Nat) : (R : Type) → Env R := Env.addInl (Ev24 N) [32]
theorem Ev25_ok (N : Nat) (R : Type) : EnvOK Go.Proofs.Try.prog (Ev25 N R) := EnvOK.addInl (Ev24_ok N R) (by kernel_rfl)
noncomputable def Ev26 (N : Nat) : (R : Type) → Env R := Env.addBx (Ev25 N) [(30, 0)]
theorem Ev26_ok (N : Nat) (R : Type) : EnvOK Go.Proofs.Try.prog (Ev26 N R) := EnvOK.addBx (Ev25_ok N R) [(30, 0)]
noncomputable def packet_body_9_octs_Join_L3_I : LI := ⟨33, 0, [], ⟨[(0, .ty (.sl (.sl (.int .u8)))), (3, .ty (.int .i64)), (9, .ty (.sl (.sl (.int .u8)))), (10, .ty (.int .i64)), (11, .ty (.int .i64))], []⟩, [(.exit 0, ⟨[(0, .ty (.sl (.sl (.int .u8)))), (3, .ty (.int .i64))], []⟩)]⟩
noncomputable def packet_body_9_octs_Join_L3 (N : Nat) (X : (((List (List (Int))) × ((Int) × ((List (List (Int))) × ((Int) × ((Int) × Unit))))) × Unit) → Option ((((List (List (Int))) × ((Int) × Unit)) × Unit))) (parts0 : List (List (Int))) (size3 : Int) (x9 : List (List (Int))) (x10 : Int) (x11 : Int) : Option ((((List (List (Int))) × ((Int) × Unit)) × Unit)) :=
 bif (decide (x11 < x10)) then
  Option.bind (getI x9 x11) fun (v7 : (List Int)) =>
  (X ((parts0, ((IntKind.wrap .i64 (size3 + (((List.length v7) : Nat) : Int))), (x9, (x10, ((IntKind.wrap .i64 (x11 + (1 : Int))), @Unit.unit))))), @Unit.unit))
 else
  some (((parts0, (size3, @Unit.unit)), @Unit.unit))
noncomputable def packet_body_9_octs_Join_L3_R (N : Nat) (c : (((List (List (Int))) × ((Int) × ((List (List (Int))) × ((Int) × ((Int) × Unit))))) × Unit)) : Option ((((List (List (Int))) × ((Int) × Unit)) × Unit)) := gl (fun X c => packet_body_9_octs_Join_L3 N X c.1.1 c.1.2.1 c.1.2.2.1 c.1.2.2.2.1 c.1.2.2.2.2.1) N c
theorem packet_body_9_octs_Join_L3_S (N : Nat) (X : (((List (List (Int))) × ((Int) × ((List (List (Int))) × ((Int) × ((Int) × Unit))))) × Unit) → Option ((((List (List (Int))) × ((Int) × Unit)) × Unit))) (parts0 : List (List (Int))) (size3 : Int) (x9 : List (List (Int))) (x10 : Int) (x11 : Int) : (roundK Go.Proofs.Try.prog (Ev26 N) 400 [32, 9, 30] packet_body_9_octs_Join_L3_I (loopAt Go.Proofs.Try.prog [32, 9, 30] 3) X ((parts0, size3, x9, x10, x11, ()), ())).run = packet_body_9_octs_Join_L3 N X parts0 size3 x9 x10 x11 := by kernel_rfl
noncomputable def Ev27 (N : Nat) : (R : Type) → Env R := Env.addLp (Ev26 N) [32, 9, 30] 0 3 (fun R => lpK Go.Proofs.Try.prog packet_body_9_octs_Join_L3_I (fun X c => packet_body_9_octs_Join_L3 N X c.1.1 c.1.2.1 c.1.2.2.1 c.1.2.2.2.1 c.1.2.2.2.2.1) N)
theorem Ev27_ok (N : Nat) (R : Type) : EnvOK Go.Proofs.Try.prog (Ev27 N R) := EnvOK.addLp (Ev26_ok N R) (by kernel_rfl) (lpK_ok (li := packet_body_9_octs_Join_L3_I) (G := fun X c => packet_body_9_octs_Join_L3 N X c.1.1 c.1.2.1 c.1.2.2.1 c.1.2.2.2.1 c.1.2.2.2.2.1) hmx (Ev26_ok N _) (by kernel_rfl) loopAt_sub (fun (X : CT packet_body_9_octs_Join_L3_I.sh → Option (OT packet_body_9_octs_Join_L3_I.outs)) (c : CT packet_body_9_octs_Join_L3_I.sh) => packet_body_9_octs_Join_L3_S N X c.1.1 c.1.2.1 c.1.2.2.1 c.1.2.2.2.1 c.1.2.2.2.2.1) N)
noncomputable def packet_body_9_octs_Join_L9_I : LI := ⟨33, 0, [], ⟨[(6, .lit (.own 0)), (22, .ty (.sl (.sl (.int .u8)))), (23, .ty (.int .i64)), (24, .ty (.int .i64))], [.own (.int .u8) 5]⟩, [(.exit 2, ⟨[(6, .lit (.own 0))], [.own (.int .u8) 5]⟩)]⟩
noncomputable def packet_body_9_octs_Join_L9 (N : Nat) (X : (((List (List (Int))) × ((Int) × ((Int) × Unit))) × ((List (Int)) × Unit)) → Option ((Unit × ((List (Int)) × Unit)))) (x22 : List (List (Int))) (x23 : Int) (x24 : Int) (h0 : List (Int)) : Option ((Unit × ((List (Int)) × Unit))) :=
 bif (decide (x24 < x23)) then
  Option.bind (getI x22 x24) fun (v6 : (List Int)) =>
  bif (roomB ((List.length h0) + (List.length v6)) 1) then
   (X ((x22, (x23, ((IntKind.wrap .i64 (x24 + (1 : Int))), @Unit.unit))), ((h0 ++ v6), @Unit.unit)))
  else
   none
 else
  some ((@Unit.unit, (h0, @Unit.unit)))
noncomputable def packet_body_9_octs_Join_L9_R (N : Nat) (c : (((List (List (Int))) × ((Int) × ((Int) × Unit))) × ((List (Int)) × Unit))) : Option ((Unit × ((List (Int)) × Unit))) := gl (fun X c => packet_body_9_octs_Join_L9 N X c.1.1 c.1.2.1 c.1.2.2.1 c.2.1) N c
theorem packet_body_9_octs_Join_L9_S (N : Nat) (X : (((List (List (Int))) × ((Int) × ((Int) × Unit))) × ((List (Int)) × Unit)) → Option ((Unit × ((List (Int)) × Unit)))) (x22 : List (List (Int))) (x23 : Int) (x24 : Int) (h0 : List (Int)) : (roundK Go.Proofs.Try.prog (Ev27 N) 400 [32, 9, 30] packet_body_9_octs_Join_L9_I (loopAt Go.Proofs.Try.prog [32, 9, 30] 9) X ((x22, x23, x24, ()), (h0, ()))).run = packet_body_9_octs_Join_L9 N X x22 x23 x24 h0 := by kernel_rfl
noncomputable def Ev28 (N : Nat) : (R : Type) → Env R := Env.addLp (Ev27 N) [32, 9, 30] 0 9 (fun R => lpK Go.Proofs.Try.prog packet_body_9_octs_Join_L9_I (fun X c => packet_body_9_octs_Join_L9 N X c.1.1 c.1.2.1 c.1.2.2.1 c.2.1) N)
theorem Ev28_ok (N : Nat) (R : Type) : EnvOK Go.Proofs.Try.prog (Ev28 N R) := EnvOK.addLp (Ev27_ok N R) (by kernel_rfl) (lpK_ok (li := packet_body_9_octs_Join_L9_I) (G := fun X c => packet_body_9_octs_Join_L9 N X c.1.1 c.1.2.1 c.1.2.2.1 c.2.1) hmx (Ev27_ok N _) (by kernel_rfl) loopAt_sub (fun (X : CT packet_body_9_octs_Join_L9_I.sh → Option (OT packet_body_9_octs_Join_L9_I.outs)) (c : CT packet_body_9_octs_Join_L9_I.sh) => packet_body_9_octs_Join_L9_S N X c.1.1 c.1.2.1 c.1.2.2.1 c.2.1) N)
noncomputable def packet_body_L11_I : LI := ⟨65, 0, [], ⟨[(8, .lit (.own 0)), (46, .ty (.sl (.pair (.int .u8) (.sl (.int .u8))))), (47, .ty (.int .i64)), (48, .ty (.int .i64))], [.own (.int .u8) 5]⟩, [(.ret, ⟨[(2, .ty (.sl (.int .u8))), (3, .ty (.int .i64))], []⟩), (.exit 0, ⟨[(8, .lit (.own 0))], [.own (.int .u8) 5]⟩)]⟩
noncomputable def packet_body_L11 (N : Nat) (X : (((List ((Int) × (List (Int)))) × ((Int) × ((Int) × Unit))) × ((List (Int)) × Unit)) → Option (((((List (Int)) × ((Int) × Unit)) × Unit) ⊕ (Unit × ((List (Int)) × Unit))))) (x46 : List ((Int) × (List (Int)))) (x47 : Int) (x48 : Int) (h0 : List (Int)) : Option (((((List (Int)) × ((Int) × Unit)) × Unit) ⊕ (Unit × ((List (Int)) × Unit)))) :=
 bif (decide (x48 < x47)) then
  Option.bind (getI x46 x48) fun (v6 : (Int × (List Int))) =>
  Option.bind (@attr_Lay N (v6.1, v6.2)) fun (v7 : ((List Int) × Int)) =>
  bif (!(decide (v7.2 = (0 : Int)))) then
   some ((.inl ((([] : List (Int)), (v7.2, @Unit.unit)), @Unit.unit)))
  else
   bif (roomB ((List.length h0) + (List.length v7.1)) 1) then
    (X ((x46, (x47, ((IntKind.wrap .i64 (x48 + (1 : Int))), @Unit.unit))), ((h0 ++ v7.1), @Unit.unit)))
   else
    none
 else
  some ((.inr (@Unit.unit, (h0, @Unit.unit))))
noncomputable def packet_body_L11_R (N : Nat) (c : (((List ((Int) × (List (Int)))) × ((Int) × ((Int) × Unit))) × ((List (Int)) × Unit))) : Option (((((List (Int)) × ((Int) × Unit)) × Unit) ⊕ (Unit × ((List (Int)) × Unit)))) := gl (fun X c => packet_body_L11 N X c.1.1 c.1.2.1 c.1.2.2.1 c.2.1) N c
theorem packet_body_L11_S (N : Nat) (X : (((List ((Int) × (List (Int)))) × ((Int) × ((Int) × Unit))) × ((List (Int)) × Unit)) → Option (((((List (Int)) × ((Int) × Unit)) × Unit) ⊕ (Unit × ((List (Int)) × Unit))))) (x46 : List ((Int) × (List (Int)))) (x47 : Int) (x48 : Int) (h0 : List (Int)) : (roundK Go.Proofs.Try.prog (Ev28 N) 400 [30] packet_body_L11_I (loopAt Go.Proofs.Try.prog [30] 11) X ((x46, x47, x48, ()), (h0, ()))).run = packet_body_L11 N X x46 x47 x48 h0 := by kernel_rfl
noncomputable def Ev29 (N : Nat) : (R : Type) → Env R := Env.addLp (Ev28 N) [30] 0 11 (fun R => lpK Go.Proofs.Try.prog packet_body_L11_I (fun X c => packet_body_L11 N X c.1.1 c.1.2.1 c.1.2.2.1 c.2.1) N)
theorem Ev29_ok (N : Nat) (R : Type) : EnvOK Go.Proofs.Try.prog (Ev29 N R) := EnvOK.addLp (Ev28_ok N R) (by kernel_rfl) (lpK_ok (li := packet_body_L11_I) (G := fun X c => packet_body_L11 N X c.1.1 c.1.2.1 c.1.2.2.1 c.2.1) hmx (Ev28_ok N _) (by kernel_rfl) loopAt_sub (fun (X : CT packet_body_L11_I.sh → Option (OT packet_body_L11_I.outs)) (c : CT packet_body_L11_I.sh) => packet_body_L11_S N X c.1.1 c.1.2.1 c.1.2.2.1 c.2.1) N)
noncomputable def packet_body (N : Nat) (p0 : (Bool) × ((Int) × ((List ((Int) × (List (Int)))) × (List (Int))))) : Option ((List (Int)) × Int) :=
 bif (!p0.1) then
  bif (decide ((((List.length p0.2.2.2) : Nat) : Int) = (0 : Int))) then
   some ((([] : List (Int)), (4 : Int)))
  else
   some ((p0.2.2.2, (0 : Int)))
 else
  bif (decide ((8 : Int) < (((List.length p0.2.2.1) : Nat) : Int))) then
   some ((([] : List (Int)), (5 : Int)))
  else
   Option.bind (@octs_Put N (IntKind.wrap .u64 p0.2.1) (2 : Int) @Bool.false) fun (v2 : ((List Int) × Int)) =>
   Option.bind (@octs_Put N (IntKind.wrap .u64 (((List.length p0.2.2.1) : Nat) : Int)) (2 : Int) @Bool.false) fun (v3 : ((List Int) × Int)) =>
   Option.bind (packet_body_9_octs_Join_L3_R N ((([v2.1, v3.1] : List ((List Int))), ((0 : Int), (([v2.1, v3.1] : List ((List Int))), ((((List.length ([v2.1, v3.1] : List ((List Int)))) : Nat) : Int), ((0 : Int), @Unit.unit))))), @Unit.unit)) fun (v4 : (((List (List Int)) × (Int × Unit)) × Unit)) =>
   bif ((decide ((0 : Int) ≤ (0 : Int) ∧ (0 : Int) ≤ v4.1.2.1)) && (roomB (Int.toNat v4.1.2.1) 1)) then
    Option.bind (packet_body_9_octs_Join_L9_R N ((v4.1.1, ((((List.length v4.1.1) : Nat) : Int), ((0 : Int), @Unit.unit))), ((@List.replicate Int (Int.toNat (0 : Int)) (0 : Int)), @Unit.unit))) fun (v5 : (Unit × ((List Int) × Unit))) =>
    Option.bind (packet_body_L11_R N ((p0.2.2.1, ((((List.length p0.2.2.1) : Nat) : Int), ((0 : Int), @Unit.unit))), (v5.2.1, @Unit.unit))) fun (v6 : ((((List Int) × (Int × Unit)) × Unit) ⊕ (Unit × ((List Int) × Unit)))) =>
    Sum.elim
     (fun (v7 : (((List Int) × (Int × Unit)) × Unit)) =>
     some ((v7.1.1, v7.1.2.1)))
     (fun (v7 : (Unit × ((List Int) × Unit))) =>
     some ((v7.2.1, (0 : Int)))) v6
   else
    none
theorem packet_body_S (N : Nat) (p0 : (Bool) × ((Int) × ((List ((Int) × (List (Int)))) × (List (Int))))) : (runK Go.Proofs.Try.prog (Ev29 N) 400 30 [(.pair .bool (.pair (.int .u16) (.pair (.sl (.pair (.int .u8) (.sl (.int .u8)))) (.sl (.int .u8)))))] [(.sl (.int .u8)), (.int .i64)] (p0, ())).run = packet_body N p0 := by kernel_rfl
noncomputable def Ev30 (N : Nat) : (R : Type) → Env R := Env.addFn (Ev29 N) 30 (fun R => fnK [(.pair .bool (.pair (.int .u16) (.pair (.sl (.pair (.int .u8) (.sl (.int .u8)))) (.sl (.int .u8)))))] [(.sl (.int .u8)), (.int .i64)] (fun c => packet_body N c.1))
theorem Ev30_ok (N : Nat) (R : Type) : EnvOK Go.Proofs.Try.prog (Ev30 N R) := EnvOK.addFn hmx (Ev29_ok N R) (Ev29_ok N _) (by kernel_rfl) (fun c => packet_body_S N c.1)
noncomputable def Ev31 (N : Nat) : (R : Type) → Env R := Env.addInl (Ev30 N) [27]
theorem Ev31_ok (N : Nat) (R : Type) : EnvOK Go.Proofs.Try.prog (Ev31 N R) := EnvOK.addInl (Ev30_ok N R) (by kernel_rfl)
noncomputable def Ev32 (N : Nat) : (R : Type) → Env R := Env.addMv (Ev31 N) [(19, 7)]
theorem Ev32_ok (N : Nat) (R : Type) : EnvOK Go.Proofs.Try.prog (Ev32 N R) := EnvOK.addMv (Ev31_ok N R) [(19, 7)]
noncomputable def Ev33 (N : Nat) : (R : Type) → Env R := Env.addBx (Ev32 N) [(19, 0)]
theorem Ev33_ok (N : Nat) (R : Type) : EnvOK Go.Proofs.Try.prog (Ev33 N R) := EnvOK.addBx (Ev32_ok N R) [(19, 0)]
noncomputable def packet_Lay (N : Nat) (p0 : (Bool) × ((Int) × ((List ((Int) × (List (Int)))) × (List (Int))))) : Option ((List (Int)) × Int) :=
 Option.bind (@packet_body N (p0.1, (p0.2.1, (p0.2.2.1, p0.2.2.2)))) fun (v2 : ((List Int) × Int)) =>
 bif (!(decide (v2.2 = (0 : Int)))) then
  some ((([] : List (Int)), v2.2))
 else
  bif (decide ((4095 : Int) < (IntKind.wrap .i64 ((4 : Int) + (((List.length v2.1) : Nat) : Int))))) then
   some ((([] : List (Int)), (8 : Int)))
  else
   bif p0.1 then
    Option.bind (@octs_Put N (IntKind.wrap .u64 (IntKind.wrap .i64 ((4 : Int) + (((List.length v2.1) : Nat) : Int)))) (2 : Int) @Bool.false) fun (v3 : ((List Int) × Int)) =>
    Option.bind (@octs_Join N ([(@List.set Int ([(16 : Int), (0 : Int)] : List (Int)) (Int.toNat (1 : Int)) (1 : Int)), v3.1, v2.1] : List ((List Int)))) fun (v4 : (List Int)) =>
    some ((v4, (0 : Int)))
   else
    Option.bind (@octs_Put N (IntKind.wrap .u64 (IntKind.wrap .i64 ((4 : Int) + (((List.length v2.1) : Nat) : Int)))) (2 : Int) @Bool.false) fun (v3 : ((List Int) × Int)) =>
    Option.bind (@octs_Join N ([([(16 : Int), (0 : Int)] : List (Int)), v3.1, v2.1] : List ((List Int)))) fun (v4 : (List Int)) =>
    some ((v4, (0 : Int)))
theorem packet_Lay_S (N : Nat) (p0 : (Bool) × ((Int) × ((List ((Int) × (List (Int)))) × (List (Int))))) : (runK Go.Proofs.Try.prog (Ev33 N) 400 19 [(.pair .bool (.pair (.int .u16) (.pair (.sl (.pair (.int .u8) (.sl (.int .u8)))) (.sl (.int .u8)))))] [(.sl (.int .u8)), (.int .i64)] (p0, ())).run = packet_Lay N p0 := by kernel_rfl
noncomputable def Ev34 (N : Nat) : (R : Type) → Env R := Env.addFn (Ev33 N) 19 (fun R => fnK [(.pair .bool (.pair (.int .u16) (.pair (.sl (.pair (.int .u8) (.sl (.int .u8)))) (.sl (.int .u8)))))] [(.sl (.int .u8)), (.int .i64)] (fun c => packet_Lay N c.1))
theorem Ev34_ok (N : Nat) (R : Type) : EnvOK Go.Proofs.Try.prog (Ev34 N R) := EnvOK.addFn hmx (Ev33_ok N R) (Ev33_ok N _) (by kernel_rfl) (fun c => packet_Lay_S N c.1)
noncomputable def Ev35 (N : Nat) : (R : Type) → Env R := Env.addMv (Ev34 N) [(25, 1)]
theorem Ev35_ok (N : Nat) (R : Type) : EnvOK Go.Proofs.Try.prog (Ev35 N R) := EnvOK.addMv (Ev34_ok N R) [(25, 1)]
noncomputable def packet_Length (N : Nat) (b0 : List (Int)) : Option ((Int) × Int) :=
 bif (decide ((((List.length b0) : Nat) : Int) < (4 : Int))) then
  some (((0 : Int), (4 : Int)))
 else
  Option.bind (getI b0 (0 : Int)) fun (v2 : Int) =>
  bif (!(decide (v2 = (16 : Int)))) then
   some (((0 : Int), (15 : Int)))
  else
   Option.bind (subI b0 (2 : Int) (4 : Int)) fun (v3 : (List Int)) =>
   Option.bind (@octs_Get N v3 @Bool.false) fun (v4 : (Int × Int)) =>
   Option.bind (getI b0 (1 : Int)) fun (v5 : Int) =>
   bif (decide (v5 = (1 : Int))) then
    Option.bind (getI b0 (1 : Int)) fun (v6 : Int) =>
    Option.bind (bif (decide ((1 : Int) < v6)) then
      some (@Bool.true)
     else
      some ((@cond Bool @Bool.false @Bool.true (decide ((IntKind.wrap .i64 v4.1) < (8 : Int)))))) fun (v7 : Bool) =>
    Option.bind (bif v7 then
      some (@Bool.true)
     else
      some ((@cond Bool @Bool.false @Bool.true (decide ((4095 : Int) < (IntKind.wrap .i64 v4.1)))))) fun (v8 : Bool) =>
    bif v8 then
     some (((0 : Int), (3 : Int)))
    else
     some (((IntKind.wrap .i64 v4.1), (0 : Int)))
   else
    Option.bind (getI b0 (1 : Int)) fun (v6 : Int) =>
    Option.bind (bif (decide ((1 : Int) < v6)) then
      some (@Bool.true)
     else
      some ((@cond Bool @Bool.false @Bool.true (decide ((IntKind.wrap .i64 v4.1) < (5 : Int)))))) fun (v7 : Bool) =>
    Option.bind (bif v7 then
      some (@Bool.true)
     else
      some ((@cond Bool @Bool.false @Bool.true (decide ((4095 : Int) < (IntKind.wrap .i64 v4.1)))))) fun (v8 : Bool) =>
    bif v8 then
     some (((0 : Int), (3 : Int)))
    else
     some (((IntKind.wrap .i64 v4.1), (0 : Int)))
theorem packet_Length_S (N : Nat) (b0 : List (Int)) : (runK Go.Proofs.Try.prog (Ev35 N) 400 23 [(.sl (.int .u8))] [(.int .i64), (.int .i64)] (b0, ())).run = packet_Length N b0 := by kernel_rfl
noncomputable def Ev36 (N : Nat) : (R : Type) → Env R := Env.addFn (Ev35 N) 23 (fun R => fnK [(.sl (.int .u8))] [(.int .i64), (.int .i64)] (fun c => packet_Length N c.1))
theorem Ev36_ok (N : Nat) (R : Type) : EnvOK Go.Proofs.Try.prog (Ev36 N R) := EnvOK.addFn hmx (Ev35_ok N R) (Ev35_ok N _) (by kernel_rfl) (fun c => packet_Length_S N c.1)
noncomputable def packet_OfData (N : Nat) (b0 : List (Int)) : Option ((Bool) × ((Int) × ((List ((Int) × (List (Int)))) × (List (Int))))) :=
 Option.bind (@slices_Clone_byte_byte N b0) fun (v2 : (List Int)) =>
 some ((@Bool.false, ((0 : Int), (([] : List ((Int × (List Int)))), v2))))
theorem packet_OfData_S (N : Nat) (b0 : List (Int)) : (runK Go.Proofs.Try.prog (Ev36 N) 400 37 [(.sl (.int .u8))] [(.pair .bool (.pair (.int .u16) (.pair (.sl (.pair (.int .u8) (.sl (.int .u8)))) (.sl (.int .u8)))))] (b0, ())).run = packet_OfData N b0 := by kernel_rfl
noncomputable def Ev37 (N : Nat) : (R : Type) → Env R := Env.addFn (Ev36 N) 37 (fun R => fnK [(.sl (.int .u8))] [(.pair .bool (.pair (.int .u16) (.pair (.sl (.pair (.int .u8) (.sl (.int .u8)))) (.sl (.int .u8)))))] (fun c => packet_OfData N c.1))
theorem Ev37_ok (N : Nat) (R : Type) : EnvOK Go.Proofs.Try.prog (Ev37 N R) := EnvOK.addFn hmx (Ev36_ok N R) (Ev36_ok N _) (by kernel_rfl) (fun c => packet_OfData_S N c.1)
noncomputable def Ev38 (N : Nat) : (R : Type) → Env R := Env.addMv (Ev37 N) [(38, 9)]
theorem Ev38_ok (N : Nat) (R : Type) : EnvOK Go.Proofs.Try.prog (Ev38 N R) := EnvOK.addMv (Ev37_ok N R) [(38, 9)]
noncomputable def packet_attrs_L5_I : LI := ⟨36, 0, [(6, 67)], ⟨[(0, .ty (.sl (.int .u8))), (6, .lit (.own 0)), (12, .ty (.int .i64)), (13, .ty (.int .i64))], [.own (.pair (.int .u8) (.sl (.int .u8))) 67]⟩, [(.ret, ⟨[(4, .ty (.sl (.pair (.int .u8) (.sl (.int .u8))))), (5, .ty (.int .i64))], []⟩), (.exit 0, ⟨[(0, .ty (.sl (.int .u8))), (6, .lit (.own 0))], [.own (.pair (.int .u8) (.sl (.int .u8))) 67]⟩)]⟩
noncomputable def packet_attrs_L5 (N : Nat) (X : (((List (Int)) × ((Int) × ((Int) × Unit))) × ((List ((Int) × (List (Int)))) × Unit)) → Option (((((List ((Int) × (List (Int)))) × ((Int) × Unit)) × Unit) ⊕ (((List (Int)) × Unit) × ((List ((Int) × (List (Int)))) × Unit))))) (b0 : List (Int)) (x12 : Int) (x13 : Int) (h0 : List ((Int) × (List (Int)))) : Option (((((List ((Int) × (List (Int)))) × ((Int) × Unit)) × Unit) ⊕ (((List (Int)) × Unit) × ((List ((Int) × (List (Int)))) × Unit)))) :=
 bif (decide (x13 < x12)) then
  Option.bind (@attr_Parse N b0) fun (v6 : ((Int × (List Int)) × (Int × Int))) =>
  bif (!(decide (v6.2.2 = (0 : Int)))) then
   some ((.inl ((([] : List ((Int × (List Int)))), (v6.2.2, @Unit.unit)), @Unit.unit)))
  else
   bif (roomB ((List.length h0) + (List.length ([(v6.1.1, v6.1.2)] : List ((Int × (List Int)))))) 32) then
    Option.bind (dropI b0 v6.2.1) fun (v7 : (List Int)) =>
    (X ((v7, (x12, ((IntKind.wrap .i64 (x13 + (1 : Int))), @Unit.unit))), ((h0 ++ ([(v6.1.1, v6.1.2)] : List ((Int × (List Int))))), @Unit.unit)))
   else
    none
 else
  some ((.inr ((b0, @Unit.unit), (h0, @Unit.unit))))
noncomputable def packet_attrs_L5_R (N : Nat) (c : (((List (Int)) × ((Int) × ((Int) × Unit))) × ((List ((Int) × (List (Int)))) × Unit))) : Option (((((List ((Int) × (List (Int)))) × ((Int) × Unit)) × Unit) ⊕ (((List (Int)) × Unit) × ((List ((Int) × (List (Int)))) × Unit)))) := gl (fun X c => packet_attrs_L5 N X c.1.1 c.1.2.1 c.1.2.2.1 c.2.1) N c
theorem packet_attrs_L5_S (N : Nat) (X : (((List (Int)) × ((Int) × ((Int) × Unit))) × ((List ((Int) × (List (Int)))) × Unit)) → Option (((((List ((Int) × (List (Int)))) × ((Int) × Unit)) × Unit) ⊕ (((List (Int)) × Unit) × ((List ((Int) × (List (Int)))) × Unit))))) (b0 : List (Int)) (x12 : Int) (x13 : Int) (h0 : List ((Int) × (List (Int)))) : (roundK Go.Proofs.Try.prog (Ev38 N) 400 [38] packet_attrs_L5_I (loopAt Go.Proofs.Try.prog [38] 5) X ((b0, x12, x13, ()), (h0, ()))).run = packet_attrs_L5 N X b0 x12 x13 h0 := by kernel_rfl
noncomputable def Ev39 (N : Nat) : (R : Type) → Env R := Env.addLp (Ev38 N) [38] 0 5 (fun R => lpK Go.Proofs.Try.prog packet_attrs_L5_I (fun X c => packet_attrs_L5 N X c.1.1 c.1.2.1 c.1.2.2.1 c.2.1) N)
theorem Ev39_ok (N : Nat) (R : Type) : EnvOK Go.Proofs.Try.prog (Ev39 N R) := EnvOK.addLp (Ev38_ok N R) (by kernel_rfl) (lpK_ok (li := packet_attrs_L5_I) (G := fun X c => packet_attrs_L5 N X c.1.1 c.1.2.1 c.1.2.2.1 c.2.1) hmx (Ev38_ok N _) (by kernel_rfl) loopAt_sub (fun (X : CT packet_attrs_L5_I.sh → Option (OT packet_attrs_L5_I.outs)) (c : CT packet_attrs_L5_I.sh) => packet_attrs_L5_S N X c.1.1 c.1.2.1 c.1.2.2.1 c.2.1) N)
noncomputable def packet_attrs (N : Nat) (b0 : List (Int)) (many1 : Int) : Option ((List ((Int) × (List (Int)))) × Int) :=
 bif (decide ((8 : Int) < many1)) then
  some ((([] : List ((Int × (List Int)))), (5 : Int)))
 else
  Option.bind (packet_attrs_L5_R N ((b0, (many1, ((0 : Int), @Unit.unit))), (([] : List ((Int × (List Int)))), @Unit.unit))) fun (v3 : ((((List (Int × (List Int))) × (Int × Unit)) × Unit) ⊕ (((List Int) × Unit) × ((List (Int × (List Int))) × Unit)))) =>
  Sum.elim
   (fun (v4 : (((List (Int × (List Int))) × (Int × Unit)) × Unit)) =>
   some ((v4.1.1, v4.1.2.1)))
   (fun (v4 : (((List Int) × Unit) × ((List (Int × (List Int))) × Unit))) =>
   bif (decide ((0 : Int) < (((List.length v4.1.1) : Nat) : Int))) then
    some ((([] : List ((Int × (List Int)))), (3 : Int)))
   else
    some ((v4.2.1, (0 : Int)))) v3
theorem packet_attrs_S (N : Nat) (b0 : List (Int)) (many1 : Int) : (runK Go.Proofs.Try.prog (Ev39 N) 400 38 [(.sl (.int .u8)), (.int .i64)] [(.sl (.pair (.int .u8) (.sl (.int .u8)))), (.int .i64)] (b0, many1, ())).run = packet_attrs N b0 many1 := by kernel_rfl
noncomputable def Ev40 (N : Nat) : (R : Type) → Env R := Env.addFn (Ev39 N) 38 (fun R => fnK [(.sl (.int .u8)), (.int .i64)] [(.sl (.pair (.int .u8) (.sl (.int .u8)))), (.int .i64)] (fun c => packet_attrs N c.1 c.2.1))
theorem Ev40_ok (N : Nat) (R : Type) : EnvOK Go.Proofs.Try.prog (Ev40 N R) := EnvOK.addFn hmx (Ev39_ok N R) (Ev39_ok N _) (by kernel_rfl) (fun c => packet_attrs_S N c.1 c.2.1)
noncomputable def packet_Parse (N : Nat) (b0 : List (Int)) : Option (((Bool) × ((Int) × ((List ((Int) × (List (Int)))) × (List (Int))))) × Int) :=
 Option.bind (@packet_Length N b0) fun (v2 : (Int × Int)) =>
 bif (!(decide (v2.2 = (0 : Int)))) then
  some (((@Bool.false, ((0 : Int), (([] : List ((Int × (List Int)))), ([] : List (Int))))), v2.2))
 else
  bif (decide ((((List.length b0) : Nat) : Int) < v2.1)) then
   some (((@Bool.false, ((0 : Int), (([] : List ((Int × (List Int)))), ([] : List (Int))))), (4 : Int)))
  else
   bif (decide (v2.1 < (((List.length b0) : Nat) : Int))) then
    some (((@Bool.false, ((0 : Int), (([] : List ((Int × (List Int)))), ([] : List (Int))))), (3 : Int)))
   else
    Option.bind (getI b0 (1 : Int)) fun (v3 : Int) =>
    bif (decide (v3 = (0 : Int))) then
     Option.bind (dropI b0 (4 : Int)) fun (v4 : (List Int)) =>
     Option.bind (@packet_OfData N v4) fun (v5 : (Bool × (Int × ((List (Int × (List Int))) × (List Int))))) =>
     some (((v5.1, (v5.2.1, (v5.2.2.1, v5.2.2.2))), (0 : Int)))
    else
     Option.bind (subI b0 (4 : Int) (6 : Int)) fun (v4 : (List Int)) =>
     Option.bind (@octs_Get N v4 @Bool.false) fun (v5 : (Int × Int)) =>
     Option.bind (subI b0 (6 : Int) (8 : Int)) fun (v6 : (List Int)) =>
     Option.bind (@octs_Get N v6 @Bool.false) fun (v7 : (Int × Int)) =>
     Option.bind (dropI b0 (8 : Int)) fun (v8 : (List Int)) =>
     Option.bind (@packet_attrs N v8 (IntKind.wrap .i64 v7.1)) fun (v9 : ((List (Int × (List Int))) × Int)) =>
     bif (!(decide (v9.2 = (0 : Int)))) then
      some (((@Bool.false, ((0 : Int), (([] : List ((Int × (List Int)))), ([] : List (Int))))), v9.2))
     else
      some (((@Bool.true, ((IntKind.wrap .u16 v5.1), (v9.1, ([] : List (Int))))), (0 : Int)))
theorem packet_Parse_S (N : Nat) (b0 : List (Int)) : (runK Go.Proofs.Try.prog (Ev40 N) 400 25 [(.sl (.int .u8))] [(.pair .bool (.pair (.int .u16) (.pair (.sl (.pair (.int .u8) (.sl (.int .u8)))) (.sl (.int .u8))))), (.int .i64)] (b0, ())).run = packet_Parse N b0 := by kernel_rfl
noncomputable def Ev41 (N : Nat) : (R : Type) → Env R := Env.addFn (Ev40 N) 25 (fun R => fnK [(.sl (.int .u8))] [(.pair .bool (.pair (.int .u16) (.pair (.sl (.pair (.int .u8) (.sl (.int .u8)))) (.sl (.int .u8))))), (.int .i64)] (fun c => packet_Parse N c.1))
theorem Ev41_ok (N : Nat) (R : Type) : EnvOK Go.Proofs.Try.prog (Ev41 N R) := EnvOK.addFn hmx (Ev40_ok N R) (Ev40_ok N _) (by kernel_rfl) (fun c => packet_Parse_S N c.1)
noncomputable def Ev42 (N : Nat) : (R : Type) → Env R := Env.addBx (Ev41 N) [(17, 0)]
theorem Ev42_ok (N : Nat) (R : Type) : EnvOK Go.Proofs.Try.prog (Ev42 N R) := EnvOK.addBx (Ev41_ok N R) [(17, 0)]
noncomputable def packet_Same_1_slices_EqualFunc_api_Attr_api_Attr_api_Attr_api_Attr_L4_I : LI := ⟨32, 0, [], ⟨[(1, .ty (.sl (.pair (.int .u8) (.sl (.int .u8))))), (2, .lit (.clo 28 [])), (15, .ty (.sl (.pair (.int .u8) (.sl (.int .u8))))), (16, .ty (.int .i64)), (17, .ty (.int .i64))], []⟩, [(.ret, ⟨[(6, .ty .bool)], []⟩), (.exit 0, ⟨[], []⟩)]⟩
noncomputable def packet_Same_1_slices_EqualFunc_api_Attr_api_Attr_api_Attr_api_Attr_L4 (N : Nat) (X : (((List ((Int) × (List (Int)))) × ((List ((Int) × (List (Int)))) × ((Int) × ((Int) × Unit)))) × Unit) → Option (((((Bool) × Unit) × Unit) ⊕ (Unit × Unit)))) (s21 : List ((Int) × (List (Int)))) (x15 : List ((Int) × (List (Int)))) (x16 : Int) (x17 : Int) : Option (((((Bool) × Unit) × Unit) ⊕ (Unit × Unit))) :=
 bif (decide (x17 < x16)) then
  Option.bind (getI x15 x17) fun (v6 : (Int × (List Int))) =>
  Option.bind (getI s21 x17) fun (v7 : (Int × (List Int))) =>
  Option.bind (@attr_Same N (v6.1, v6.2) (v7.1, v7.2)) fun (v8 : Bool) =>
  bif (!v8) then
   some ((.inl ((@Bool.false, @Unit.unit), @Unit.unit)))
  else
   (X ((s21, (x15, (x16, ((IntKind.wrap .i64 (x17 + (1 : Int))), @Unit.unit)))), @Unit.unit))
 else
  some ((.inr (@Unit.unit, @Unit.unit)))
noncomputable def packet_Same_1_slices_EqualFunc_api_Attr_api_Attr_api_Attr_api_Attr_L4_R (N : Nat) (c : (((List ((Int) × (List (Int)))) × ((List ((Int) × (List (Int)))) × ((Int) × ((Int) × Unit)))) × Unit)) : Option (((((Bool) × Unit) × Unit) ⊕ (Unit × Unit))) := gl (fun X c => packet_Same_1_slices_EqualFunc_api_Attr_api_Attr_api_Attr_api_Attr_L4 N X c.1.1 c.1.2.1 c.1.2.2.1 c.1.2.2.2.1) N c
theorem packet_Same_1_slices_EqualFunc_api_Attr_api_Attr_api_Attr_api_Attr_L4_S (N : Nat) (X : (((List ((Int) × (List (Int)))) × ((List ((Int) × (List (Int)))) × ((Int) × ((Int) × Unit)))) × Unit) → Option (((((Bool) × Unit) × Unit) ⊕ (Unit × Unit)))) (s21 : List ((Int) × (List (Int)))) (x15 : List ((Int) × (List (Int)))) (x16 : Int) (x17 : Int) : (roundK Go.Proofs.Try.prog (Ev42 N) 400 [27, 1, 17] packet_Same_1_slices_EqualFunc_api_Attr_api_Attr_api_Attr_api_Attr_L4_I (loopAt Go.Proofs.Try.prog [27, 1, 17] 4) X ((s21, x15, x16, x17, ()), ())).run = packet_Same_1_slices_EqualFunc_api_Attr_api_Attr_api_Attr_api_Attr_L4 N X s21 x15 x16 x17 := by kernel_rfl
noncomputable def Ev43 (N : Nat) : (R : Type) → Env R := Env.addLp (Ev42 N) [27, 1, 17] 0 4 (fun R => lpK Go.Proofs.Try.prog packet_Same_1_slices_EqualFunc_api_Attr_api_Attr_api_Attr_api_Attr_L4_I (fun X c => packet_Same_1_slices_EqualFunc_api_Attr_api_Attr_api_Attr_api_Attr_L4 N X c.1.1 c.1.2.1 c.1.2.2.1 c.1.2.2.2.1) N)
theorem Ev43_ok (N : Nat) (R : Type) : EnvOK Go.Proofs.Try.prog (Ev43 N R) := EnvOK.addLp (Ev42_ok N R) (by kernel_rfl) (lpK_ok (li := packet_Same_1_slices_EqualFunc_api_Attr_api_Attr_api_Attr_api_Attr_L4_I) (G := fun X c => packet_Same_1_slices_EqualFunc_api_Attr_api_Attr_api_Attr_api_Attr_L4 N X c.1.1 c.1.2.1 c.1.2.2.1 c.1.2.2.2.1) hmx (Ev42_ok N _) (by kernel_rfl) loopAt_sub (fun (X : CT packet_Same_1_slices_EqualFunc_api_Attr_api_Attr_api_Attr_api_Attr_L4_I.sh → Option (OT packet_Same_1_slices_EqualFunc_api_Attr_api_Attr_api_Attr_api_Attr_L4_I.outs)) (c : CT packet_Same_1_slices_EqualFunc_api_Attr_api_Attr_api_Attr_api_Attr_L4_I.sh) => packet_Same_1_slices_EqualFunc_api_Attr_api_Attr_api_Attr_api_Attr_L4_S N X c.1.1 c.1.2.1 c.1.2.2.1 c.1.2.2.2.1) N)
noncomputable def slices_Equal_byte_byte_L4_I : LI := ⟨26, 0, [], ⟨[(0, .ty (.sl (.int .u8))), (1, .ty (.sl (.int .u8))), (12, .ty (.int .i64)), (13, .ty (.int .i64))], []⟩, [(.ret, ⟨[(4, .ty .bool)], []⟩), (.exit 0, ⟨[], []⟩)]⟩
noncomputable def slices_Equal_byte_byte_L4 (N : Nat) (X : (((List (Int)) × ((List (Int)) × ((Int) × ((Int) × Unit)))) × Unit) → Option (((((Bool) × Unit) × Unit) ⊕ (Unit × Unit)))) (s10 : List (Int)) (s21 : List (Int)) (x12 : Int) (x13 : Int) : Option (((((Bool) × Unit) × Unit) ⊕ (Unit × Unit))) :=
 bif (decide (x13 < x12)) then
  Option.bind (getI s10 x13) fun (v6 : Int) =>
  Option.bind (getI s21 x13) fun (v7 : Int) =>
  bif (!(decide (v6 = v7))) then
   some ((.inl ((@Bool.false, @Unit.unit), @Unit.unit)))
  else
   (X ((s10, (s21, (x12, ((IntKind.wrap .i64 (x13 + (1 : Int))), @Unit.unit)))), @Unit.unit))
 else
  some ((.inr (@Unit.unit, @Unit.unit)))
noncomputable def slices_Equal_byte_byte_L4_R (N : Nat) (c : (((List (Int)) × ((List (Int)) × ((Int) × ((Int) × Unit)))) × Unit)) : Option (((((Bool) × Unit) × Unit) ⊕ (Unit × Unit))) := gl (fun X c => slices_Equal_byte_byte_L4 N X c.1.1 c.1.2.1 c.1.2.2.1 c.1.2.2.2.1) N c
theorem slices_Equal_byte_byte_L4_S (N : Nat) (X : (((List (Int)) × ((List (Int)) × ((Int) × ((Int) × Unit)))) × Unit) → Option (((((Bool) × Unit) × Unit) ⊕ (Unit × Unit)))) (s10 : List (Int)) (s21 : List (Int)) (x12 : Int) (x13 : Int) : (roundK Go.Proofs.Try.prog (Ev43 N) 400 [29] slices_Equal_byte_byte_L4_I (loopAt Go.Proofs.Try.prog [29] 4) X ((s10, s21, x12, x13, ()), ())).run = slices_Equal_byte_byte_L4 N X s10 s21 x12 x13 := by kernel_rfl
noncomputable def Ev44 (N : Nat) : (R : Type) → Env R := Env.addLp (Ev43 N) [29] 0 4 (fun R => lpK Go.Proofs.Try.prog slices_Equal_byte_byte_L4_I (fun X c => slices_Equal_byte_byte_L4 N X c.1.1 c.1.2.1 c.1.2.2.1 c.1.2.2.2.1) N)
theorem Ev44_ok (N : Nat) (R : Type) : EnvOK Go.Proofs.Try.prog (Ev44 N R) := EnvOK.addLp (Ev43_ok N R) (by kernel_rfl) (lpK_ok (li := slices_Equal_byte_byte_L4_I) (G := fun X c => slices_Equal_byte_byte_L4 N X c.1.1 c.1.2.1 c.1.2.2.1 c.1.2.2.2.1) hmx (Ev43_ok N _) (by kernel_rfl) loopAt_sub (fun (X : CT slices_Equal_byte_byte_L4_I.sh → Option (OT slices_Equal_byte_byte_L4_I.outs)) (c : CT slices_Equal_byte_byte_L4_I.sh) => slices_Equal_byte_byte_L4_S N X c.1.1 c.1.2.1 c.1.2.2.1 c.1.2.2.2.1) N)
noncomputable def slices_Equal_byte_byte (N : Nat) (s10 : List (Int)) (s21 : List (Int)) : Option (Bool) :=
 bif (!(decide ((((List.length s10) : Nat) : Int) = (((List.length s21) : Nat) : Int)))) then
  some (@Bool.false)
 else
  Option.bind (slices_Equal_byte_byte_L4_R N ((s10, (s21, ((((List.length s10) : Nat) : Int), ((0 : Int), @Unit.unit)))), @Unit.unit)) fun (v3 : (((Bool × Unit) × Unit) ⊕ (Unit × Unit))) =>
  Sum.elim
   (fun (v4 : ((Bool × Unit) × Unit)) =>
   some (v4.1.1))
   (fun (v4 : (Unit × Unit)) =>
   some (@Bool.true)) v3
theorem slices_Equal_byte_byte_S (N : Nat) (s10 : List (Int)) (s21 : List (Int)) : (runK Go.Proofs.Try.prog (Ev44 N) 400 29 [(.sl (.int .u8)), (.sl (.int .u8))] [.bool] (s10, s21, ())).run = slices_Equal_byte_byte N s10 s21 := by kernel_rfl
noncomputable def Ev45 (N : Nat) : (R : Type) → Env R := Env.addFn (Ev44 N) 29 (fun R => fnK [(.sl (.int .u8)), (.sl (.int .u8))] [.bool] (fun c => slices_Equal_byte_byte N c.1 c.2.1))
theorem Ev45_ok (N : Nat) (R : Type) : EnvOK Go.Proofs.Try.prog (Ev45 N R) := EnvOK.addFn hmx (Ev44_ok N R) (Ev44_ok N _) (by kernel_rfl) (fun c => slices_Equal_byte_byte_S N c.1 c.2.1)
noncomputable def packet_Same (N : Nat) (a0 : (Bool) × ((Int) × ((List ((Int) × (List (Int)))) × (List (Int))))) (b1 : (Bool) × ((Int) × ((List ((Int) × (List (Int)))) × (List (Int))))) : Option (Bool) :=
 Option.bind (bif (@BEq.beq Bool (@instBEqOfDecidableEq Bool @instDecidableEqBool) a0.1 b1.1) then
   some ((@cond Bool @Bool.true (decide (a0.2.1 = b1.2.1)) @Bool.false))
  else
   some (@Bool.false)) fun (v3 : Bool) =>
 bif v3 then
  bif (!(decide ((((List.length a0.2.2.1) : Nat) : Int) = (((List.length b1.2.2.1) : Nat) : Int)))) then
   some (@Bool.false)
  else
   Option.bind (packet_Same_1_slices_EqualFunc_api_Attr_api_Attr_api_Attr_api_Attr_L4_R N ((b1.2.2.1, (a0.2.2.1, ((((List.length a0.2.2.1) : Nat) : Int), ((0 : Int), @Unit.unit)))), @Unit.unit)) fun (v4 : (((Bool × Unit) × Unit) ⊕ (Unit × Unit))) =>
   Sum.elim
    (fun (v5 : ((Bool × Unit) × Unit)) =>
    bif (@cond Bool @Bool.true v5.1.1 @Bool.false) then
     Option.bind (@slices_Equal_byte_byte N a0.2.2.2 b1.2.2.2) fun (v6 : Bool) =>
     some ((@cond Bool @Bool.true v6 @Bool.false))
    else
     some (@Bool.false))
    (fun (v5 : (Unit × Unit)) =>
    Option.bind (@slices_Equal_byte_byte N a0.2.2.2 b1.2.2.2) fun (v6 : Bool) =>
    some ((@cond Bool @Bool.true v6 @Bool.false))) v4
 else
  some (@Bool.false)
theorem packet_Same_S (N : Nat) (a0 : (Bool) × ((Int) × ((List ((Int) × (List (Int)))) × (List (Int))))) (b1 : (Bool) × ((Int) × ((List ((Int) × (List (Int)))) × (List (Int))))) : (runK Go.Proofs.Try.prog (Ev45 N) 400 17 [(.pair .bool (.pair (.int .u16) (.pair (.sl (.pair (.int .u8) (.sl (.int .u8)))) (.sl (.int .u8))))), (.pair .bool (.pair (.int .u16) (.pair (.sl (.pair (.int .u8) (.sl (.int .u8)))) (.sl (.int .u8)))))] [.bool] (a0, b1, ())).run = packet_Same N a0 b1 := by kernel_rfl
noncomputable def Ev46 (N : Nat) : (R : Type) → Env R := Env.addFn (Ev45 N) 17 (fun R => fnK [(.pair .bool (.pair (.int .u16) (.pair (.sl (.pair (.int .u8) (.sl (.int .u8)))) (.sl (.int .u8))))), (.pair .bool (.pair (.int .u16) (.pair (.sl (.pair (.int .u8) (.sl (.int .u8)))) (.sl (.int .u8)))))] [.bool] (fun c => packet_Same N c.1 c.2.1))
theorem Ev46_ok (N : Nat) (R : Type) : EnvOK Go.Proofs.Try.prog (Ev46 N R) := EnvOK.addFn hmx (Ev45_ok N R) (Ev45_ok N _) (by kernel_rfl) (fun c => packet_Same_S N c.1 c.2.1)
noncomputable def Ev47 (N : Nat) : (R : Type) → Env R := Env.addMv (Ev46 N) [(20, 5)]
theorem Ev47_ok (N : Nat) (R : Type) : EnvOK Go.Proofs.Try.prog (Ev47 N R) := EnvOK.addMv (Ev46_ok N R) [(20, 5)]
noncomputable def packet_Of_L3_I : LI := ⟨29, 0, [], ⟨[(4, .lit (.box 0 0)), (5, .lit (.box 1 0)), (10, .ty (.sl (.pair (.int .u8) (.sl (.int .u8))))), (11, .ty (.int .i64)), (12, .ty (.int .i64))], [.boxp 42 [.ty .bool, .ty (.int .u16), .own 2, .ty (.sl (.int .u8))], .boxp 42 [.ty .bool, .ty (.int .u16), .own 3, .ty (.sl (.int .u8))], .own (.pair (.int .u8) (.sl (.int .u8))) 67, .own (.pair (.int .u8) (.sl (.int .u8))) 67]⟩, [(.exit 0, ⟨[(4, .lit (.box 0 0)), (5, .lit (.box 1 0))], [.boxp 42 [.ty .bool, .ty (.int .u16), .own 2, .ty (.sl (.int .u8))], .boxp 42 [.ty .bool, .ty (.int .u16), .own 3, .ty (.sl (.int .u8))], .own (.pair (.int .u8) (.sl (.int .u8))) 67, .own (.pair (.int .u8) (.sl (.int .u8))) 67]⟩)]⟩
noncomputable def packet_Of_L3 (N : Nat) (X : (((List ((Int) × (List (Int)))) × ((Int) × ((Int) × Unit))) × ((Bool) × ((Int) × ((List (Int)) × ((Bool) × ((Int) × ((List (Int)) × ((List ((Int) × (List (Int)))) × ((List ((Int) × (List (Int)))) × Unit))))))))) → Option ((Unit × ((Bool) × ((Int) × ((List (Int)) × ((Bool) × ((Int) × ((List (Int)) × ((List ((Int) × (List (Int)))) × ((List ((Int) × (List (Int)))) × Unit))))))))))) (x10 : List ((Int) × (List (Int)))) (x11 : Int) (x12 : Int) (h0 : Bool) (h1 : Int) (h2 : List (Int)) (h3 : Bool) (h4 : Int) (h5 : List (Int)) (h6 : List ((Int) × (List (Int)))) (h7 : List ((Int) × (List (Int)))) : Option ((Unit × ((Bool) × ((Int) × ((List (Int)) × ((Bool) × ((Int) × ((List (Int)) × ((List ((Int) × (List (Int)))) × ((List ((Int) × (List (Int)))) × Unit)))))))))) :=
 bif (decide (x12 < x11)) then
  Option.bind (getI x10 x12) fun (v13 : (Int × (List Int))) =>
  Option.bind (@slices_Clone_byte_byte N v13.2) fun (v14 : (List Int)) =>
  bif (roomB ((List.length h7) + (List.length ([(v13.1, v14)] : List ((Int × (List Int)))))) 32) then
   (X ((x10, (x11, ((IntKind.wrap .i64 (x12 + (1 : Int))), @Unit.unit))), (h0, (h1, (h2, (h3, (h4, (h5, (h6, ((h7 ++ ([(v13.1, v14)] : List ((Int × (List Int))))), @Unit.unit))))))))))
  else
   none
 else
  some ((@Unit.unit, (h0, (h1, (h2, (h3, (h4, (h5, (h6, (h7, @Unit.unit))))))))))
noncomputable def packet_Of_L3_R (N : Nat) (c : (((List ((Int) × (List (Int)))) × ((Int) × ((Int) × Unit))) × ((Bool) × ((Int) × ((List (Int)) × ((Bool) × ((Int) × ((List (Int)) × ((List ((Int) × (List (Int)))) × ((List ((Int) × (List (Int)))) × Unit)))))))))) : Option ((Unit × ((Bool) × ((Int) × ((List (Int)) × ((Bool) × ((Int) × ((List (Int)) × ((List ((Int) × (List (Int)))) × ((List ((Int) × (List (Int)))) × Unit)))))))))) := gl (fun X c => packet_Of_L3 N X c.1.1 c.1.2.1 c.1.2.2.1 c.2.1 c.2.2.1 c.2.2.2.1 c.2.2.2.2.1 c.2.2.2.2.2.1 c.2.2.2.2.2.2.1 c.2.2.2.2.2.2.2.1 c.2.2.2.2.2.2.2.2.1) N c
theorem packet_Of_L3_S (N : Nat) (X : (((List ((Int) × (List (Int)))) × ((Int) × ((Int) × Unit))) × ((Bool) × ((Int) × ((List (Int)) × ((Bool) × ((Int) × ((List (Int)) × ((List ((Int) × (List (Int)))) × ((List ((Int) × (List (Int)))) × Unit))))))))) → Option ((Unit × ((Bool) × ((Int) × ((List (Int)) × ((Bool) × ((Int) × ((List (Int)) × ((List ((Int) × (List (Int)))) × ((List ((Int) × (List (Int)))) × Unit))))))))))) (x10 : List ((Int) × (List (Int)))) (x11 : Int) (x12 : Int) (h0 : Bool) (h1 : Int) (h2 : List (Int)) (h3 : Bool) (h4 : Int) (h5 : List (Int)) (h6 : List ((Int) × (List (Int)))) (h7 : List ((Int) × (List (Int)))) : (roundK Go.Proofs.Try.prog (Ev47 N) 400 [20] packet_Of_L3_I (loopAt Go.Proofs.Try.prog [20] 3) X ((x10, x11, x12, ()), (h0, h1, h2, h3, h4, h5, h6, h7, ()))).run = packet_Of_L3 N X x10 x11 x12 h0 h1 h2 h3 h4 h5 h6 h7 := by kernel_rfl
noncomputable def Ev48 (N : Nat) : (R : Type) → Env R := Env.addLp (Ev47 N) [20] 0 3 (fun R => lpK Go.Proofs.Try.prog packet_Of_L3_I (fun X c => packet_Of_L3 N X c.1.1 c.1.2.1 c.1.2.2.1 c.2.1 c.2.2.1 c.2.2.2.1 c.2.2.2.2.1 c.2.2.2.2.2.1 c.2.2.2.2.2.2.1 c.2.2.2.2.2.2.2.1 c.2.2.2.2.2.2.2.2.1) N)
theorem Ev48_ok (N : Nat) (R : Type) : EnvOK Go.Proofs.Try.prog (Ev48 N R) := EnvOK.addLp (Ev47_ok N R) (by kernel_rfl) (lpK_ok (li := packet_Of_L3_I) (G := fun X c => packet_Of_L3 N X c.1.1 c.1.2.1 c.1.2.2.1 c.2.1 c.2.2.1 c.2.2.2.1 c.2.2.2.2.1 c.2.2.2.2.2.1 c.2.2.2.2.2.2.1 c.2.2.2.2.2.2.2.1 c.2.2.2.2.2.2.2.2.1) hmx (Ev47_ok N _) (by kernel_rfl) loopAt_sub (fun (X : CT packet_Of_L3_I.sh → Option (OT packet_Of_L3_I.outs)) (c : CT packet_Of_L3_I.sh) => packet_Of_L3_S N X c.1.1 c.1.2.1 c.1.2.2.1 c.2.1 c.2.2.1 c.2.2.2.1 c.2.2.2.2.1 c.2.2.2.2.2.1 c.2.2.2.2.2.2.1 c.2.2.2.2.2.2.2.1 c.2.2.2.2.2.2.2.2.1) N)
noncomputable def packet_Of (N : Nat) (kind0 : Int) (l1 : List ((Int) × (List (Int)))) : Option ((Bool) × ((Int) × ((List ((Int) × (List (Int)))) × (List (Int))))) :=
 Option.bind (packet_Of_L3_R N ((l1, ((((List.length l1) : Nat) : Int), ((0 : Int), @Unit.unit))), (@Bool.false, ((0 : Int), (([] : List (Int)), (@Bool.true, (kind0, (([] : List (Int)), (([] : List ((Int × (List Int)))), (([] : List ((Int × (List Int)))), @Unit.unit)))))))))) fun (v3 : (Unit × (Bool × (Int × ((List Int) × (Bool × (Int × ((List Int) × ((List (Int × (List Int))) × ((List (Int × (List Int))) × Unit)))))))))) =>
 some (((v3.2.2.2).snd.1, ((v3.2.2.2).snd.2.1, (((v3.2.2.2).snd.2.2).snd.2.1, (v3.2.2.2).snd.2.2.1))))
theorem packet_Of_S (N : Nat) (kind0 : Int) (l1 : List ((Int) × (List (Int)))) : (runK Go.Proofs.Try.prog (Ev48 N) 400 20 [(.int .u16), (.sl (.pair (.int .u8) (.sl (.int .u8))))] [(.pair .bool (.pair (.int .u16) (.pair (.sl (.pair (.int .u8) (.sl (.int .u8)))) (.sl (.int .u8)))))] (kind0, l1, ())).run = packet_Of N kind0 l1 := by kernel_rfl
noncomputable def Ev49 (N : Nat) : (R : Type) → Env R := Env.addFn (Ev48 N) 20 (fun R => fnK [(.int .u16), (.sl (.pair (.int .u8) (.sl (.int .u8))))] [(.pair .bool (.pair (.int .u16) (.pair (.sl (.pair (.int .u8) (.sl (.int .u8)))) (.sl (.int .u8)))))] (fun c => packet_Of N c.1 c.2.1))
theorem Ev49_ok (N : Nat) (R : Type) : EnvOK Go.Proofs.Try.prog (Ev49 N R) := EnvOK.addFn hmx (Ev48_ok N R) (Ev48_ok N _) (by kernel_rfl) (fun c => packet_Of_S N c.1 c.2.1)
noncomputable def Ev50 (N : Nat) : (R : Type) → Env R := Env.addMv (Ev49 N) [(22, 21)]
theorem Ev50_ok (N : Nat) (R : Type) : EnvOK Go.Proofs.Try.prog (Ev50 N R) := EnvOK.addMv (Ev49_ok N R) [(22, 21)]
noncomputable def ref18_Length (N : Nat) (b0 : List (Int)) : Option ((Int) × Int) :=
 bif (decide ((((List.length b0) : Nat) : Int) < (4 : Int))) then
  some (((0 : Int), (4 : Int)))
 else
  Option.bind (getI b0 (0 : Int)) fun (v2 : Int) =>
  bif (!(decide (v2 = (16 : Int)))) then
   some (((0 : Int), (15 : Int)))
  else
   Option.bind (subI b0 (2 : Int) (4 : Int)) fun (v3 : (List Int)) =>
   Option.bind (@ref01_Num N v3) fun (v4 : Int) =>
   Option.bind (getI b0 (1 : Int)) fun (v5 : Int) =>
   Option.bind (bif (decide ((1 : Int) < v5)) then
     some (@Bool.true)
    else
     some ((@cond Bool @Bool.false @Bool.true (decide ((IntKind.wrap .i64 v4) < (5 : Int)))))) fun (v6 : Bool) =>
   Option.bind (bif v6 then
     some (@Bool.true)
    else
     Option.bind (getI b0 (1 : Int)) fun (v7 : Int) =>
     bif (decide (v7 = (1 : Int))) then
      some ((@cond Bool @Bool.false @Bool.true (@cond Bool @Bool.true (decide ((IntKind.wrap .i64 v4) < (8 : Int))) @Bool.false)))
     else
      some ((@cond Bool @Bool.false @Bool.true @Bool.false))) fun (v7 : Bool) =>
   Option.bind (bif v7 then
     some (@Bool.true)
    else
     some ((@cond Bool @Bool.false @Bool.true (decide ((4095 : Int) < (IntKind.wrap .i64 v4)))))) fun (v8 : Bool) =>
   bif v8 then
    some (((0 : Int), (3 : Int)))
   else
    some (((IntKind.wrap .i64 v4), (0 : Int)))
theorem ref18_Length_S (N : Nat) (b0 : List (Int)) : (runK Go.Proofs.Try.prog (Ev50 N) 400 21 [(.sl (.int .u8))] [(.int .i64), (.int .i64)] (b0, ())).run = ref18_Length N b0 := by kernel_rfl
noncomputable def Ev51 (N : Nat) : (R : Type) → Env R := Env.addFn (Ev50 N) 21 (fun R => fnK [(.sl (.int .u8))] [(.int .i64), (.int .i64)] (fun c => ref18_Length N c.1))
theorem Ev51_ok (N : Nat) (R : Type) : EnvOK Go.Proofs.Try.prog (Ev51 N R) := EnvOK.addFn hmx (Ev50_ok N R) (Ev50_ok N _) (by kernel_rfl) (fun c => ref18_Length_S N c.1)
noncomputable def ref18_Parse_L16_I : LI := ⟨82, 0, [], ⟨[(2, .lit (.box 0 0)), (6, .ty (.int .i64)), (7, .lit (.box 1 0)), (8, .ty (.sl (.int .u8))), (9, .ty (.int .i64))], [.boxp 46 [.ty .bool, .ty (.int .u16), .own 2, .ty (.sl (.int .u8))], .boxp 46 [.ty .bool, .ty (.int .u16), .own 3, .ty (.sl (.int .u8))], .own (.pair (.int .u8) (.sl (.int .u8))) 69, .own (.pair (.int .u8) (.sl (.int .u8))) 69]⟩, [(.ret, ⟨[(2, .lit (.box 0 0)), (3, .ty (.int .i64))], [.boxp 46 [.ty .bool, .ty (.int .u16), .nil, .nil]]⟩), (.exit 0, ⟨[(2, .lit (.box 0 0)), (7, .lit (.box 1 0)), (8, .ty (.sl (.int .u8)))], [.boxp 46 [.ty .bool, .ty (.int .u16), .own 2, .ty (.sl (.int .u8))], .boxp 46 [.ty .bool, .ty (.int .u16), .own 3, .ty (.sl (.int .u8))], .own (.pair (.int .u8) (.sl (.int .u8))) 69, .own (.pair (.int .u8) (.sl (.int .u8))) 69]⟩)]⟩
noncomputable def ref18_Parse_L16 (N : Nat) (X : (((Int) × ((List (Int)) × ((Int) × Unit))) × ((Bool) × ((Int) × ((List (Int)) × ((Bool) × ((Int) × ((List (Int)) × ((List ((Int) × (List (Int)))) × ((List ((Int) × (List (Int)))) × Unit))))))))) → Option (((((Int) × Unit) × ((Bool) × ((Int) × Unit))) ⊕ (((List (Int)) × Unit) × ((Bool) × ((Int) × ((List (Int)) × ((Bool) × ((Int) × ((List (Int)) × ((List ((Int) × (List (Int)))) × ((List ((Int) × (List (Int)))) × Unit)))))))))))) (many6 : Int) (rest8 : List (Int)) (i9 : Int) (h0 : Bool) (h1 : Int) (h2 : List (Int)) (h3 : Bool) (h4 : Int) (h5 : List (Int)) (h6 : List ((Int) × (List (Int)))) (h7 : List ((Int) × (List (Int)))) : Option (((((Int) × Unit) × ((Bool) × ((Int) × Unit))) ⊕ (((List (Int)) × Unit) × ((Bool) × ((Int) × ((List (Int)) × ((Bool) × ((Int) × ((List (Int)) × ((List ((Int) × (List (Int)))) × ((List ((Int) × (List (Int)))) × Unit))))))))))) :=
 bif (decide (i9 < many6)) then
  Option.bind (@ref17_Parse N rest8) fun (v13 : ((Int × (List Int)) × (Int × Int))) =>
  bif (!(decide (v13.2.2 = (0 : Int)))) then
   some ((.inl ((v13.2.2, @Unit.unit), (@Bool.false, ((0 : Int), @Unit.unit)))))
  else
   bif (roomB ((List.length h7) + (List.length ([(v13.1.1, v13.1.2)] : List ((Int × (List Int)))))) 32) then
    Option.bind (dropI rest8 v13.2.1) fun (v14 : (List Int)) =>
    (X ((many6, (v14, ((IntKind.wrap .i64 (i9 + (1 : Int))), @Unit.unit))), (h0, (h1, (h2, (h3, (h4, (h5, (h6, ((h7 ++ ([(v13.1.1, v13.1.2)] : List ((Int × (List Int))))), @Unit.unit))))))))))
   else
    none
 else
  some ((.inr ((rest8, @Unit.unit), (h0, (h1, (h2, (h3, (h4, (h5, (h6, (h7, @Unit.unit)))))))))))
noncomputable def ref18_Parse_L16_R (N : Nat) (c : (((Int) × ((List (Int)) × ((Int) × Unit))) × ((Bool) × ((Int) × ((List (Int)) × ((Bool) × ((Int) × ((List (Int)) × ((List ((Int) × (List (Int)))) × ((List ((Int) × (List (Int)))) × Unit)))))))))) : Option (((((Int) × Unit) × ((Bool) × ((Int) × Unit))) ⊕ (((List (Int)) × Unit) × ((Bool) × ((Int) × ((List (Int)) × ((Bool) × ((Int) × ((List (Int)) × ((List ((Int) × (List (Int)))) × ((List ((Int) × (List (Int)))) × Unit))))))))))) := gl (fun X c => ref18_Parse_L16 N X c.1.1 c.1.2.1 c.1.2.2.1 c.2.1 c.2.2.1 c.2.2.2.1 c.2.2.2.2.1 c.2.2.2.2.2.1 c.2.2.2.2.2.2.1 c.2.2.2.2.2.2.2.1 c.2.2.2.2.2.2.2.2.1) N c
theorem ref18_Parse_L16_S (N : Nat) (X : (((Int) × ((List (Int)) × ((Int) × Unit))) × ((Bool) × ((Int) × ((List (Int)) × ((Bool) × ((Int) × ((List (Int)) × ((List ((Int) × (List (Int)))) × ((List ((Int) × (List (Int)))) × Unit))))))))) → Option (((((Int) × Unit) × ((Bool) × ((Int) × Unit))) ⊕ (((List (Int)) × Unit) × ((Bool) × ((Int) × ((List (Int)) × ((Bool) × ((Int) × ((List (Int)) × ((List ((Int) × (List (Int)))) × ((List ((Int) × (List (Int)))) × Unit)))))))))))) (many6 : Int) (rest8 : List (Int)) (i9 : Int) (h0 : Bool) (h1 : Int) (h2 : List (Int)) (h3 : Bool) (h4 : Int) (h5 : List (Int)) (h6 : List ((Int) × (List (Int)))) (h7 : List ((Int) × (List (Int)))) : (roundK Go.Proofs.Try.prog (Ev51 N) 400 [22] ref18_Parse_L16_I (loopAt Go.Proofs.Try.prog [22] 16) X ((many6, rest8, i9, ()), (h0, h1, h2, h3, h4, h5, h6, h7, ()))).run = ref18_Parse_L16 N X many6 rest8 i9 h0 h1 h2 h3 h4 h5 h6 h7 := by kernel_rfl
noncomputable def Ev52 (N : Nat) : (R : Type) → Env R := Env.addLp (Ev51 N) [22] 0 16 (fun R => lpK Go.Proofs.Try.prog ref18_Parse_L16_I (fun X c => ref18_Parse_L16 N X c.1.1 c.1.2.1 c.1.2.2.1 c.2.1 c.2.2.1 c.2.2.2.1 c.2.2.2.2.1 c.2.2.2.2.2.1 c.2.2.2.2.2.2.1 c.2.2.2.2.2.2.2.1 c.2.2.2.2.2.2.2.2.1) N)
theorem Ev52_ok (N : Nat) (R : Type) : EnvOK Go.Proofs.Try.prog (Ev52 N R) := EnvOK.addLp (Ev51_ok N R) (by kernel_rfl) (lpK_ok (li := ref18_Parse_L16_I) (G := fun X c => ref18_Parse_L16 N X c.1.1 c.1.2.1 c.1.2.2.1 c.2.1 c.2.2.1 c.2.2.2.1 c.2.2.2.2.1 c.2.2.2.2.2.1 c.2.2.2.2.2.2.1 c.2.2.2.2.2.2.2.1 c.2.2.2.2.2.2.2.2.1) hmx (Ev51_ok N _) (by kernel_rfl) loopAt_sub (fun (X : CT ref18_Parse_L16_I.sh → Option (OT ref18_Parse_L16_I.outs)) (c : CT ref18_Parse_L16_I.sh) => ref18_Parse_L16_S N X c.1.1 c.1.2.1 c.1.2.2.1 c.2.1 c.2.2.1 c.2.2.2.1 c.2.2.2.2.1 c.2.2.2.2.2.1 c.2.2.2.2.2.2.1 c.2.2.2.2.2.2.2.1 c.2.2.2.2.2.2.2.2.1) N)
noncomputable def ref18_Parse (N : Nat) (b0 : List (Int)) : Option (((Bool) × ((Int) × ((List ((Int) × (List (Int)))) × (List (Int))))) × Int) :=
 Option.bind (@ref18_Length N b0) fun (v2 : (Int × Int)) =>
 bif (!(decide (v2.2 = (0 : Int)))) then
  some (((@Bool.false, ((0 : Int), (([] : List ((Int × (List Int)))), ([] : List (Int))))), v2.2))
 else
  bif (decide ((((List.length b0) : Nat) : Int) < v2.1)) then
   some (((@Bool.false, ((0 : Int), (([] : List ((Int × (List Int)))), ([] : List (Int))))), (4 : Int)))
  else
   bif (decide (v2.1 < (((List.length b0) : Nat) : Int))) then
    some (((@Bool.false, ((0 : Int), (([] : List ((Int × (List Int)))), ([] : List (Int))))), (3 : Int)))
   else
    Option.bind (getI b0 (1 : Int)) fun (v3 : Int) =>
    bif (decide (v3 = (0 : Int))) then
     Option.bind (dropI b0 (4 : Int)) fun (v4 : (List Int)) =>
     some (((@Bool.false, ((0 : Int), (([] : List ((Int × (List Int)))), v4))), (0 : Int)))
    else
     Option.bind (subI b0 (6 : Int) (8 : Int)) fun (v4 : (List Int)) =>
     Option.bind (@ref01_Num N v4) fun (v5 : Int) =>
     bif (decide ((8 : Int) < (IntKind.wrap .i64 v5))) then
      some (((@Bool.false, ((0 : Int), (([] : List ((Int × (List Int)))), ([] : List (Int))))), (5 : Int)))
     else
      Option.bind (subI b0 (4 : Int) (6 : Int)) fun (v6 : (List Int)) =>
      Option.bind (@ref01_Num N v6) fun (v7 : Int) =>
      Option.bind (dropI b0 (8 : Int)) fun (v8 : (List Int)) =>
      Option.bind (ref18_Parse_L16_R N (((IntKind.wrap .i64 v5), (v8, ((0 : Int), @Unit.unit))), (@Bool.false, ((0 : Int), (([] : List (Int)), (@Bool.true, ((IntKind.wrap .u16 v7), (([] : List (Int)), (([] : List ((Int × (List Int)))), (([] : List ((Int × (List Int)))), @Unit.unit)))))))))) fun (v9 : (((Int × Unit) × (Bool × (Int × Unit))) ⊕ (((List Int) × Unit) × (Bool × (Int × ((List Int) × (Bool × (Int × ((List Int) × ((List (Int × (List Int))) × ((List (Int × (List Int))) × Unit))))))))))) =>
      Sum.elim
       (fun (v10 : ((Int × Unit) × (Bool × (Int × Unit)))) =>
       some (((v10.2.1, (v10.2.2.1, (([] : List ((Int × (List Int)))), ([] : List (Int))))), v10.1.1)))
       (fun (v10 : (((List Int) × Unit) × (Bool × (Int × ((List Int) × (Bool × (Int × ((List Int) × ((List (Int × (List Int))) × ((List (Int × (List Int))) × Unit)))))))))) =>
       bif (decide ((0 : Int) < (((List.length v10.1.1) : Nat) : Int))) then
        some (((@Bool.false, ((0 : Int), (([] : List ((Int × (List Int)))), ([] : List (Int))))), (3 : Int)))
       else
        some ((((v10.2.2.2).snd.1, ((v10.2.2.2).snd.2.1, (((v10.2.2.2).snd.2.2).snd.2.1, (v10.2.2.2).snd.2.2.1))), (0 : Int)))) v9
theorem ref18_Parse_S (N : Nat) (b0 : List (Int)) : (runK Go.Proofs.Try.prog (Ev52 N) 400 22 [(.sl (.int .u8))] [(.pair .bool (.pair (.int .u16) (.pair (.sl (.pair (.int .u8) (.sl (.int .u8)))) (.sl (.int .u8))))), (.int .i64)] (b0, ())).run = ref18_Parse N b0 := by kernel_rfl
noncomputable def Ev53 (N : Nat) : (R : Type) → Env R := Env.addFn (Ev52 N) 22 (fun R => fnK [(.sl (.int .u8))] [(.pair .bool (.pair (.int .u16) (.pair (.sl (.pair (.int .u8) (.sl (.int .u8)))) (.sl (.int .u8))))), (.int .i64)] (fun c => ref18_Parse N c.1))
theorem Ev53_ok (N : Nat) (R : Type) : EnvOK Go.Proofs.Try.prog (Ev53 N R) := EnvOK.addFn hmx (Ev52_ok N R) (Ev52_ok N _) (by kernel_rfl) (fun c => ref18_Parse_S N c.1)
noncomputable def Ev54 (N : Nat) : (R : Type) → Env R := Env.addInl (Ev53 N) [33, 8, 11, 24, 26, 13, 14, 15, 16]
theorem Ev54_ok (N : Nat) (R : Type) : EnvOK Go.Proofs.Try.prog (Ev54 N R) := EnvOK.addInl (Ev53_ok N R) (by kernel_rfl)
noncomputable def slices_Clone_byte_byte_o (N : Nat) (l : List (Int)) : Option (List (Int)) :=
 bif (@List.isEmpty Int l) then
  none
 else
  bif (roomB ((List.length ([] : List (Int))) + (List.length l)) 1) then
   some ((([] : List (Int)) ++ l))
  else
   none
theorem slices_Clone_byte_byte_o_S (N : Nat) (l : List (Int)) : (runOwn Go.Proofs.Try.prog (Ev54 N) 400 33 [.lst (.int .u8) l] 5).run = slices_Clone_byte_byte_o N l := by kernel_rfl
theorem slices_Clone_byte_byte_o_n1 (N : Nat) (c : Nat) : (runOwn Go.Proofs.Try.prog (Ev54 N) 400 33 [.c (.slice none 0 c)] 5).run = some [] := by kernel_rfl
theorem slices_Clone_byte_byte_o_n2 (N : Nat) (A : Addr) (c : Nat) : (runOwn Go.Proofs.Try.prog (Ev54 N) 400 33 [.c (.slice (some A) 0 c)] 5).run = some [] := by kernel_rfl
theorem slices_Clone_byte_byte_o_F (N : Nat) (l : List (Int)) (h1 : l.isEmpty = false) (h2 : roomB l.length 1 = true) : slices_Clone_byte_byte_o N l = some l := by simp [slices_Clone_byte_byte_o, h1, h2]
noncomputable def Ev55 (N : Nat) : (R : Type) → Env R := Env.addCln (Ev54 N) 33 5
theorem Ev55_ok (N : Nat) (R : Type) : EnvOK Go.Proofs.Try.prog (Ev55 N R) := EnvOK.addCln (Ev54_ok N R) (cloneOK_of hmx (Ev54_ok N _) (by kernel_rfl) (slices_Clone_byte_byte_o_S N) (slices_Clone_byte_byte_o_F N) (slices_Clone_byte_byte_o_n1 N) (slices_Clone_byte_byte_o_n2 N))
noncomputable def Ev56 (N : Nat) : (R : Type) → Env R := Env.addMv (Ev55 N) [(10, 12)]
theorem Ev56_ok (N : Nat) (R : Type) : EnvOK Go.Proofs.Try.prog (Ev56 N R) := EnvOK.addMv (Ev55_ok N R) [(10, 12)]
noncomputable def ref19_All_L3_I : LI := ⟨60, 0, [(5, 46)], ⟨[(0, .ty (.sl (.int .u8))), (5, .lit (.own 0)), (6, .ty (.int .i64))], [.own (.pair .bool (.pair (.int .u16) (.pair (.sl (.pair (.int .u8) (.sl (.int .u8)))) (.sl (.int .u8))))) 46]⟩, [(.ret, ⟨[(2, .ty (.sl (.pair .bool (.pair (.int .u16) (.pair (.sl (.pair (.int .u8) (.sl (.int .u8)))) (.sl (.int .u8))))))), (3, .ty (.int .i64)), (4, .ty (.int .i64))], []⟩), (.exit 0, ⟨[(5, .lit (.own 0)), (6, .ty (.int .i64))], [.own (.pair .bool (.pair (.int .u16) (.pair (.sl (.pair (.int .u8) (.sl (.int .u8)))) (.sl (.int .u8))))) 46]⟩)]⟩
noncomputable def ref19_All_L3 (N : Nat) (X : (((List (Int)) × ((Int) × Unit)) × ((List ((Bool) × ((Int) × ((List ((Int) × (List (Int)))) × (List (Int)))))) × Unit)) → Option (((((List ((Bool) × ((Int) × ((List ((Int) × (List (Int)))) × (List (Int)))))) × ((Int) × ((Int) × Unit))) × Unit) ⊕ (((Int) × Unit) × ((List ((Bool) × ((Int) × ((List ((Int) × (List (Int)))) × (List (Int)))))) × Unit))))) (b0 : List (Int)) (x6 : Int) (h0 : List ((Bool) × ((Int) × ((List ((Int) × (List (Int)))) × (List (Int)))))) : Option (((((List ((Bool) × ((Int) × ((List ((Int) × (List (Int)))) × (List (Int)))))) × ((Int) × ((Int) × Unit))) × Unit) ⊕ (((Int) × Unit) × ((List ((Bool) × ((Int) × ((List ((Int) × (List (Int)))) × (List (Int)))))) × Unit)))) :=
 bif (decide ((4 : Int) ≤ (IntKind.wrap .i64 ((((List.length b0) : Nat) : Int) - x6)))) then
  Option.bind (dropI b0 x6) fun (v5 : (List Int)) =>
  Option.bind (@ref18_Length N v5) fun (v6 : (Int × Int)) =>
  bif (!(decide (v6.2 = (0 : Int)))) then
   some ((.inl ((h0, (x6, (v6.2, @Unit.unit))), @Unit.unit)))
  else
   bif (decide ((IntKind.wrap .i64 ((((List.length b0) : Nat) : Int) - x6)) < v6.1)) then
    some ((.inl ((h0, (x6, ((0 : Int), @Unit.unit))), @Unit.unit)))
   else
    Option.bind (subI b0 x6 (IntKind.wrap .i64 (x6 + v6.1))) fun (v7 : (List Int)) =>
    Option.bind (@ref18_Parse N v7) fun (v8 : ((Bool × (Int × ((List (Int × (List Int))) × (List Int)))) × Int)) =>
    bif (!(decide (v8.2 = (0 : Int)))) then
     some ((.inl ((h0, (x6, (v8.2, @Unit.unit))), @Unit.unit)))
    else
     bif (roomB ((List.length h0) + (List.length ([(v8.1.1, (v8.1.2.1, (v8.1.2.2.1, v8.1.2.2.2)))] : List ((Bool × (Int × ((List (Int × (List Int))) × (List Int)))))))) 56) then
      (X ((b0, ((IntKind.wrap .i64 (x6 + (@maxI v6.1 (1 : Int)))), @Unit.unit)), ((h0 ++ ([(v8.1.1, (v8.1.2.1, (v8.1.2.2.1, v8.1.2.2.2)))] : List ((Bool × (Int × ((List (Int × (List Int))) × (List Int))))))), @Unit.unit)))
     else
      none
 else
  some ((.inr ((x6, @Unit.unit), (h0, @Unit.unit))))
noncomputable def ref19_All_L3_R (N : Nat) (c : (((List (Int)) × ((Int) × Unit)) × ((List ((Bool) × ((Int) × ((List ((Int) × (List (Int)))) × (List (Int)))))) × Unit))) : Option (((((List ((Bool) × ((Int) × ((List ((Int) × (List (Int)))) × (List (Int)))))) × ((Int) × ((Int) × Unit))) × Unit) ⊕ (((Int) × Unit) × ((List ((Bool) × ((Int) × ((List ((Int) × (List (Int)))) × (List (Int)))))) × Unit)))) := gl (fun X c => ref19_All_L3 N X c.1.1 c.1.2.1 c.2.1) N c
theorem ref19_All_L3_S (N : Nat) (X : (((List (Int)) × ((Int) × Unit)) × ((List ((Bool) × ((Int) × ((List ((Int) × (List (Int)))) × (List (Int)))))) × Unit)) → Option (((((List ((Bool) × ((Int) × ((List ((Int) × (List (Int)))) × (List (Int)))))) × ((Int) × ((Int) × Unit))) × Unit) ⊕ (((Int) × Unit) × ((List ((Bool) × ((Int) × ((List ((Int) × (List (Int)))) × (List (Int)))))) × Unit))))) (b0 : List (Int)) (x6 : Int) (h0 : List ((Bool) × ((Int) × ((List ((Int) × (List (Int)))) × (List (Int)))))) : (roundK Go.Proofs.Try.prog (Ev56 N) 400 [10] ref19_All_L3_I (loopAt Go.Proofs.Try.prog [10] 3) X ((b0, x6, ()), (h0, ()))).run = ref19_All_L3 N X b0 x6 h0 := by kernel_rfl
noncomputable def Ev57 (N : Nat) : (R : Type) → Env R := Env.addLp (Ev56 N) [10] 0 3 (fun R => lpK Go.Proofs.Try.prog ref19_All_L3_I (fun X c => ref19_All_L3 N X c.1.1 c.1.2.1 c.2.1) N)
theorem Ev57_ok (N : Nat) (R : Type) : EnvOK Go.Proofs.Try.prog (Ev57 N R) := EnvOK.addLp (Ev56_ok N R) (by kernel_rfl) (lpK_ok (li := ref19_All_L3_I) (G := fun X c => ref19_All_L3 N X c.1.1 c.1.2.1 c.2.1) hmx (Ev56_ok N _) (by kernel_rfl) loopAt_sub (fun (X : CT ref19_All_L3_I.sh → Option (OT ref19_All_L3_I.outs)) (c : CT ref19_All_L3_I.sh) => ref19_All_L3_S N X c.1.1 c.1.2.1 c.2.1) N)
noncomputable def ref19_All (N : Nat) (b0 : List (Int)) : Option ((List ((Bool) × ((Int) × ((List ((Int) × (List (Int)))) × (List (Int)))))) × (Int) × Int) :=
 Option.bind (ref19_All_L3_R N ((b0, ((0 : Int), @Unit.unit)), (([] : List ((Bool × (Int × ((List (Int × (List Int))) × (List Int)))))), @Unit.unit))) fun (v2 : ((((List (Bool × (Int × ((List (Int × (List Int))) × (List Int))))) × (Int × (Int × Unit))) × Unit) ⊕ ((Int × Unit) × ((List (Bool × (Int × ((List (Int × (List Int))) × (List Int))))) × Unit)))) =>
 Sum.elim
  (fun (v3 : (((List (Bool × (Int × ((List (Int × (List Int))) × (List Int))))) × (Int × (Int × Unit))) × Unit)) =>
  some ((v3.1.1, (v3.1.2.1, v3.1.2.2.1))))
  (fun (v3 : ((Int × Unit) × ((List (Bool × (Int × ((List (Int × (List Int))) × (List Int))))) × Unit))) =>
  some ((v3.2.1, (v3.1.1, (0 : Int))))) v2
theorem ref19_All_S (N : Nat) (b0 : List (Int)) : (runK Go.Proofs.Try.prog (Ev57 N) 400 10 [(.sl (.int .u8))] [(.sl (.pair .bool (.pair (.int .u16) (.pair (.sl (.pair (.int .u8) (.sl (.int .u8)))) (.sl (.int .u8)))))), (.int .i64), (.int .i64)] (b0, ())).run = ref19_All N b0 := by kernel_rfl
noncomputable def Ev58 (N : Nat) : (R : Type) → Env R := Env.addFn (Ev57 N) 10 (fun R => fnK [(.sl (.int .u8))] [(.sl (.pair .bool (.pair (.int .u16) (.pair (.sl (.pair (.int .u8) (.sl (.int .u8)))) (.sl (.int .u8)))))), (.int .i64), (.int .i64)] (fun c => ref19_All N c.1))
theorem Ev58_ok (N : Nat) (R : Type) : EnvOK Go.Proofs.Try.prog (Ev58 N R) := EnvOK.addFn hmx (Ev57_ok N R) (Ev57_ok N _) (by kernel_rfl) (fun c => ref19_All_S N c.1)
noncomputable def ref19_Wants (N : Nat) (rest0 : List (Int)) : Option (Int) :=
 bif (decide ((((List.length rest0) : Nat) : Int) < (4 : Int))) then
  some ((IntKind.wrap .i64 ((4 : Int) - (((List.length rest0) : Nat) : Int))))
 else
  Option.bind (@ref18_Length N rest0) fun (v2 : (Int × Int)) =>
  some ((IntKind.wrap .i64 (v2.1 - (((List.length rest0) : Nat) : Int))))
theorem ref19_Wants_S (N : Nat) (rest0 : List (Int)) : (runK Go.Proofs.Try.prog (Ev58 N) 400 12 [(.sl (.int .u8))] [(.int .i64)] (rest0, ())).run = ref19_Wants N rest0 := by kernel_rfl
noncomputable def Ev59 (N : Nat) : (R : Type) → Env R := Env.addFn (Ev58 N) 12 (fun R => fnK [(.sl (.int .u8))] [(.int .i64)] (fun c => ref19_Wants N c.1))
theorem Ev59_ok (N : Nat) (R : Type) : EnvOK Go.Proofs.Try.prog (Ev59 N R) := EnvOK.addFn hmx (Ev58_ok N R) (Ev58_ok N _) (by kernel_rfl) (fun c => ref19_Wants_S N c.1)
noncomputable def Ev60 (N : Nat) : (R : Type) → Env R := Env.addMv (Ev59 N) [(18, 5)]
theorem Ev60_ok (N : Nat) (R : Type) : EnvOK Go.Proofs.Try.prog (Ev60 N R) := EnvOK.addMv (Ev59_ok N R) [(18, 5)]
noncomputable def Ev61 (N : Nat) : (R : Type) → Env R := Env.addBx (Ev60 N) [(18, 0)]
theorem Ev61_ok (N : Nat) (R : Type) : EnvOK Go.Proofs.Try.prog (Ev61 N R) := EnvOK.addBx (Ev60_ok N R) [(18, 0)]
noncomputable def law19_theirs_L3_I : LI := ⟨32, 0, [], ⟨[(2, .lit (.box 0 0)), (3, .lit (.box 1 0)), (14, .ty (.sl (.pair (.int .u8) (.sl (.int .u8))))), (15, .ty (.int .i64)), (16, .ty (.int .i64))], [.boxp 42 [.ty .bool, .ty (.int .u16), .own 2, .ty (.sl (.int .u8))], .boxp 42 [.ty .bool, .ty (.int .u16), .own 3, .ty (.sl (.int .u8))], .own (.pair (.int .u8) (.sl (.int .u8))) 67, .own (.pair (.int .u8) (.sl (.int .u8))) 67]⟩, [(.exit 0, ⟨[(2, .lit (.box 0 0)), (3, .lit (.box 1 0))], [.boxp 42 [.ty .bool, .ty (.int .u16), .own 2, .ty (.sl (.int .u8))], .boxp 42 [.ty .bool, .ty (.int .u16), .own 3, .ty (.sl (.int .u8))], .own (.pair (.int .u8) (.sl (.int .u8))) 67, .own (.pair (.int .u8) (.sl (.int .u8))) 67]⟩)]⟩
noncomputable def law19_theirs_L3 (N : Nat) (X : (((List ((Int) × (List (Int)))) × ((Int) × ((Int) × Unit))) × ((Bool) × ((Int) × ((List (Int)) × ((Bool) × ((Int) × ((List (Int)) × ((List ((Int) × (List (Int)))) × ((List ((Int) × (List (Int)))) × Unit))))))))) → Option ((Unit × ((Bool) × ((Int) × ((List (Int)) × ((Bool) × ((Int) × ((List (Int)) × ((List ((Int) × (List (Int)))) × ((List ((Int) × (List (Int)))) × Unit))))))))))) (x14 : List ((Int) × (List (Int)))) (x15 : Int) (x16 : Int) (h0 : Bool) (h1 : Int) (h2 : List (Int)) (h3 : Bool) (h4 : Int) (h5 : List (Int)) (h6 : List ((Int) × (List (Int)))) (h7 : List ((Int) × (List (Int)))) : Option ((Unit × ((Bool) × ((Int) × ((List (Int)) × ((Bool) × ((Int) × ((List (Int)) × ((List ((Int) × (List (Int)))) × ((List ((Int) × (List (Int)))) × Unit)))))))))) :=
 bif (decide (x16 < x15)) then
  Option.bind (getI x14 x16) fun (v13 : (Int × (List Int))) =>
  bif (roomB ((List.length h7) + (List.length ([(v13.1, v13.2)] : List ((Int × (List Int)))))) 32) then
   (X ((x14, (x15, ((IntKind.wrap .i64 (x16 + (1 : Int))), @Unit.unit))), (h0, (h1, (h2, (h3, (h4, (h5, (h6, ((h7 ++ ([(v13.1, v13.2)] : List ((Int × (List Int))))), @Unit.unit))))))))))
  else
   none
 else
  some ((@Unit.unit, (h0, (h1, (h2, (h3, (h4, (h5, (h6, (h7, @Unit.unit))))))))))
noncomputable def law19_theirs_L3_R (N : Nat) (c : (((List ((Int) × (List (Int)))) × ((Int) × ((Int) × Unit))) × ((Bool) × ((Int) × ((List (Int)) × ((Bool) × ((Int) × ((List (Int)) × ((List ((Int) × (List (Int)))) × ((List ((Int) × (List (Int)))) × Unit)))))))))) : Option ((Unit × ((Bool) × ((Int) × ((List (Int)) × ((Bool) × ((Int) × ((List (Int)) × ((List ((Int) × (List (Int)))) × ((List ((Int) × (List (Int)))) × Unit)))))))))) := gl (fun X c => law19_theirs_L3 N X c.1.1 c.1.2.1 c.1.2.2.1 c.2.1 c.2.2.1 c.2.2.2.1 c.2.2.2.2.1 c.2.2.2.2.2.1 c.2.2.2.2.2.2.1 c.2.2.2.2.2.2.2.1 c.2.2.2.2.2.2.2.2.1) N c
theorem law19_theirs_L3_S (N : Nat) (X : (((List ((Int) × (List (Int)))) × ((Int) × ((Int) × Unit))) × ((Bool) × ((Int) × ((List (Int)) × ((Bool) × ((Int) × ((List (Int)) × ((List ((Int) × (List (Int)))) × ((List ((Int) × (List (Int)))) × Unit))))))))) → Option ((Unit × ((Bool) × ((Int) × ((List (Int)) × ((Bool) × ((Int) × ((List (Int)) × ((List ((Int) × (List (Int)))) × ((List ((Int) × (List (Int)))) × Unit))))))))))) (x14 : List ((Int) × (List (Int)))) (x15 : Int) (x16 : Int) (h0 : Bool) (h1 : Int) (h2 : List (Int)) (h3 : Bool) (h4 : Int) (h5 : List (Int)) (h6 : List ((Int) × (List (Int)))) (h7 : List ((Int) × (List (Int)))) : (roundK Go.Proofs.Try.prog (Ev61 N) 400 [18] law19_theirs_L3_I (loopAt Go.Proofs.Try.prog [18] 3) X ((x14, x15, x16, ()), (h0, h1, h2, h3, h4, h5, h6, h7, ()))).run = law19_theirs_L3 N X x14 x15 x16 h0 h1 h2 h3 h4 h5 h6 h7 := by kernel_rfl
noncomputable def Ev62 (N : Nat) : (R : Type) → Env R := Env.addLp (Ev61 N) [18] 0 3 (fun R => lpK Go.Proofs.Try.prog law19_theirs_L3_I (fun X c => law19_theirs_L3 N X c.1.1 c.1.2.1 c.1.2.2.1 c.2.1 c.2.2.1 c.2.2.2.1 c.2.2.2.2.1 c.2.2.2.2.2.1 c.2.2.2.2.2.2.1 c.2.2.2.2.2.2.2.1 c.2.2.2.2.2.2.2.2.1) N)
theorem Ev62_ok (N : Nat) (R : Type) : EnvOK Go.Proofs.Try.prog (Ev62 N R) := EnvOK.addLp (Ev61_ok N R) (by kernel_rfl) (lpK_ok (li := law19_theirs_L3_I) (G := fun X c => law19_theirs_L3 N X c.1.1 c.1.2.1 c.1.2.2.1 c.2.1 c.2.2.1 c.2.2.2.1 c.2.2.2.2.1 c.2.2.2.2.2.1 c.2.2.2.2.2.2.1 c.2.2.2.2.2.2.2.1 c.2.2.2.2.2.2.2.2.1) hmx (Ev61_ok N _) (by kernel_rfl) loopAt_sub (fun (X : CT law19_theirs_L3_I.sh → Option (OT law19_theirs_L3_I.outs)) (c : CT law19_theirs_L3_I.sh) => law19_theirs_L3_S N X c.1.1 c.1.2.1 c.1.2.2.1 c.2.1 c.2.2.1 c.2.2.2.1 c.2.2.2.2.1 c.2.2.2.2.2.1 c.2.2.2.2.2.2.1 c.2.2.2.2.2.2.2.1 c.2.2.2.2.2.2.2.2.1) N)
noncomputable def law19_theirs (N : Nat) (p0 : (Bool) × ((Int) × ((List ((Int) × (List (Int)))) × (List (Int))))) : Option ((Bool) × ((Int) × ((List ((Int) × (List (Int)))) × (List (Int))))) :=
 Option.bind (law19_theirs_L3_R N ((p0.2.2.1, ((((List.length p0.2.2.1) : Nat) : Int), ((0 : Int), @Unit.unit))), (@Bool.false, ((0 : Int), (([] : List (Int)), (p0.1, (p0.2.1, (p0.2.2.2, (([] : List ((Int × (List Int)))), (([] : List ((Int × (List Int)))), @Unit.unit)))))))))) fun (v2 : (Unit × (Bool × (Int × ((List Int) × (Bool × (Int × ((List Int) × ((List (Int × (List Int))) × ((List (Int × (List Int))) × Unit)))))))))) =>
 some (((v2.2.2.2).snd.1, ((v2.2.2.2).snd.2.1, (((v2.2.2.2).snd.2.2).snd.2.1, (v2.2.2.2).snd.2.2.1))))
theorem law19_theirs_S (N : Nat) (p0 : (Bool) × ((Int) × ((List ((Int) × (List (Int)))) × (List (Int))))) : (runK Go.Proofs.Try.prog (Ev62 N) 400 18 [(.pair .bool (.pair (.int .u16) (.pair (.sl (.pair (.int .u8) (.sl (.int .u8)))) (.sl (.int .u8)))))] [(.pair .bool (.pair (.int .u16) (.pair (.sl (.pair (.int .u8) (.sl (.int .u8)))) (.sl (.int .u8)))))] (p0, ())).run = law19_theirs N p0 := by kernel_rfl
noncomputable def Ev63 (N : Nat) : (R : Type) → Env R := Env.addFn (Ev62 N) 18 (fun R => fnK [(.pair .bool (.pair (.int .u16) (.pair (.sl (.pair (.int .u8) (.sl (.int .u8)))) (.sl (.int .u8)))))] [(.pair .bool (.pair (.int .u16) (.pair (.sl (.pair (.int .u8) (.sl (.int .u8)))) (.sl (.int .u8)))))] (fun c => law19_theirs N c.1))
theorem Ev63_ok (N : Nat) (R : Type) : EnvOK Go.Proofs.Try.prog (Ev63 N R) := EnvOK.addFn hmx (Ev62_ok N R) (Ev62_ok N _) (by kernel_rfl) (fun c => law19_theirs_S N c.1)
noncomputable def Ev64 (N : Nat) : (R : Type) → Env R := Env.addMv (Ev63 N) [(9, 9)]
theorem Ev64_ok (N : Nat) (R : Type) : EnvOK Go.Proofs.Try.prog (Ev64 N R) := EnvOK.addMv (Ev63_ok N R) [(9, 9)]
noncomputable def law19_cuts_L3_I : LI := ⟨39, 0, [(5, 22)], ⟨[(0, .ty (.sl (.int .u8))), (5, .lit (.own 0)), (13, .ty (.sl (.int .u16))), (14, .ty (.int .i64)), (15, .ty (.int .i64))], [.own (.sl (.int .u8)) 22]⟩, [(.exit 0, ⟨[(0, .ty (.sl (.int .u8))), (5, .lit (.own 0))], [.own (.sl (.int .u8)) 22]⟩)]⟩
noncomputable def law19_cuts_L3 (N : Nat) (X : (((List (Int)) × ((List (Int)) × ((Int) × ((Int) × Unit)))) × ((List (List (Int))) × Unit)) → Option ((((List (Int)) × Unit) × ((List (List (Int))) × Unit)))) (b0 : List (Int)) (x13 : List (Int)) (x14 : Int) (x15 : Int) (h0 : List (List (Int))) : Option ((((List (Int)) × Unit) × ((List (List (Int))) × Unit))) :=
 bif (decide (x15 < x14)) then
  Option.bind (getI x13 x15) fun (v7 : Int) =>
  bif (decide ((IntKind.wrap .i64 ((((List.length b0) : Nat) : Int) + (1 : Int))) = (0 : Int))) then
   none
  else
   Option.bind (takeI b0 (@Int.tmod (IntKind.wrap .i64 v7) (IntKind.wrap .i64 ((((List.length b0) : Nat) : Int) + (1 : Int))))) fun (v8 : (List Int)) =>
   bif (roomB ((List.length h0) + (List.length ([v8] : List ((List Int))))) 24) then
    Option.bind (dropI b0 (@Int.tmod (IntKind.wrap .i64 v7) (IntKind.wrap .i64 ((((List.length b0) : Nat) : Int) + (1 : Int))))) fun (v9 : (List Int)) =>
    (X ((v9, (x13, (x14, ((IntKind.wrap .i64 (x15 + (1 : Int))), @Unit.unit)))), ((h0 ++ ([v8] : List ((List Int)))), @Unit.unit)))
   else
    none
 else
  some (((b0, @Unit.unit), (h0, @Unit.unit)))
noncomputable def law19_cuts_L3_R (N : Nat) (c : (((List (Int)) × ((List (Int)) × ((Int) × ((Int) × Unit)))) × ((List (List (Int))) × Unit))) : Option ((((List (Int)) × Unit) × ((List (List (Int))) × Unit))) := gl (fun X c => law19_cuts_L3 N X c.1.1 c.1.2.1 c.1.2.2.1 c.1.2.2.2.1 c.2.1) N c
theorem law19_cuts_L3_S (N : Nat) (X : (((List (Int)) × ((List (Int)) × ((Int) × ((Int) × Unit)))) × ((List (List (Int))) × Unit)) → Option ((((List (Int)) × Unit) × ((List (List (Int))) × Unit)))) (b0 : List (Int)) (x13 : List (Int)) (x14 : Int) (x15 : Int) (h0 : List (List (Int))) : (roundK Go.Proofs.Try.prog (Ev64 N) 400 [9] law19_cuts_L3_I (loopAt Go.Proofs.Try.prog [9] 3) X ((b0, x13, x14, x15, ()), (h0, ()))).run = law19_cuts_L3 N X b0 x13 x14 x15 h0 := by kernel_rfl
noncomputable def Ev65 (N : Nat) : (R : Type) → Env R := Env.addLp (Ev64 N) [9] 0 3 (fun R => lpK Go.Proofs.Try.prog law19_cuts_L3_I (fun X c => law19_cuts_L3 N X c.1.1 c.1.2.1 c.1.2.2.1 c.1.2.2.2.1 c.2.1) N)
theorem Ev65_ok (N : Nat) (R : Type) : EnvOK Go.Proofs.Try.prog (Ev65 N R) := EnvOK.addLp (Ev64_ok N R) (by kernel_rfl) (lpK_ok (li := law19_cuts_L3_I) (G := fun X c => law19_cuts_L3 N X c.1.1 c.1.2.1 c.1.2.2.1 c.1.2.2.2.1 c.2.1) hmx (Ev64_ok N _) (by kernel_rfl) loopAt_sub (fun (X : CT law19_cuts_L3_I.sh → Option (OT law19_cuts_L3_I.outs)) (c : CT law19_cuts_L3_I.sh) => law19_cuts_L3_S N X c.1.1 c.1.2.1 c.1.2.2.1 c.1.2.2.2.1 c.2.1) N)
noncomputable def law19_cuts (N : Nat) (b0 : List (Int)) (x1 : List (Int)) : Option (List (List (Int))) :=
 Option.bind (takeI x1 (@minI (((List.length x1) : Nat) : Int) (20 : Int))) fun (v3 : (List Int)) =>
 Option.bind (law19_cuts_L3_R N ((b0, (v3, ((((List.length v3) : Nat) : Int), ((0 : Int), @Unit.unit)))), (([] : List ((List Int))), @Unit.unit))) fun (v4 : (((List Int) × Unit) × ((List (List Int)) × Unit))) =>
 bif (roomB ((List.length v4.2.1) + (List.length ([v4.1.1] : List ((List Int))))) 24) then
  some ((v4.2.1 ++ ([v4.1.1] : List ((List Int)))))
 else
  none
theorem law19_cuts_S (N : Nat) (b0 : List (Int)) (x1 : List (Int)) : (runK Go.Proofs.Try.prog (Ev65 N) 400 9 [(.sl (.int .u8)), (.sl (.int .u16))] [(.sl (.sl (.int .u8)))] (b0, x1, ())).run = law19_cuts N b0 x1 := by kernel_rfl
noncomputable def Ev66 (N : Nat) : (R : Type) → Env R := Env.addFn (Ev65 N) 9 (fun R => fnK [(.sl (.int .u8)), (.sl (.int .u16))] [(.sl (.sl (.int .u8)))] (fun c => law19_cuts N c.1 c.2.1))
theorem Ev66_ok (N : Nat) (R : Type) : EnvOK Go.Proofs.Try.prog (Ev66 N R) := EnvOK.addFn hmx (Ev65_ok N R) (Ev65_ok N _) (by kernel_rfl) (fun c => law19_cuts_S N c.1 c.2.1)
noncomputable def law19_alive_5_reframe_Stream_Write_L7_I : LI := ⟨97, 1, [(7, 42)], ⟨[(0, .lit (.box 0 0)), (6, .ty (.sl (.int .u8))), (7, .lit (.own 1))], [.boxp 49 [.ty .bool, .own 2, .ty (.int .i64), .ty (.int .i64), .ty (.int .i64)], .own (.pair .bool (.pair (.int .u16) (.pair (.sl (.pair (.int .u8) (.sl (.int .u8)))) (.sl (.int .u8))))) 42, .own (.int .u8) 5]⟩, [(.exit 0, ⟨[(0, .lit (.box 0 0)), (6, .ty (.sl (.int .u8))), (7, .lit (.own 1))], [.boxp 49 [.ty .bool, .own 2, .ty (.int .i64), .ty (.int .i64), .ty (.int .i64)], .own (.pair .bool (.pair (.int .u16) (.pair (.sl (.pair (.int .u8) (.sl (.int .u8)))) (.sl (.int .u8))))) 42, .own (.int .u8) 5]⟩), (.ret, ⟨[(4, .ty (.sl (.pair .bool (.pair (.int .u16) (.pair (.sl (.pair (.int .u8) (.sl (.int .u8)))) (.sl (.int .u8))))))), (5, .ty (.int .i64))], [.boxp 49 [.ty .bool, .nil, .ty (.int .i64), .ty (.int .i64), .ty (.int .i64)]]⟩)]⟩
noncomputable def law19_alive_5_reframe_Stream_Write_L7 (N : Nat) (X : (((List (Int)) × Unit) × ((Bool) × ((Int) × ((Int) × ((Int) × ((List ((Bool) × ((Int) × ((List ((Int) × (List (Int)))) × (List (Int)))))) × ((List (Int)) × Unit))))))) → Option (((((List (Int)) × Unit) × ((Bool) × ((Int) × ((Int) × ((Int) × ((List ((Bool) × ((Int) × ((List ((Int) × (List (Int)))) × (List (Int)))))) × ((List (Int)) × Unit))))))) ⊕ (((List ((Bool) × ((Int) × ((List ((Int) × (List (Int)))) × (List (Int)))))) × ((Int) × Unit)) × ((Bool) × ((Int) × ((Int) × ((Int) × Unit)))))))) (waits6 : List (Int)) (h0 : Bool) (h1 : Int) (h2 : Int) (h3 : Int) (h4 : List ((Bool) × ((Int) × ((List ((Int) × (List (Int)))) × (List (Int)))))) (h5 : List (Int)) : Option (((((List (Int)) × Unit) × ((Bool) × ((Int) × ((Int) × ((Int) × ((List ((Bool) × ((Int) × ((List ((Int) × (List (Int)))) × (List (Int)))))) × ((List (Int)) × Unit))))))) ⊕ (((List ((Bool) × ((Int) × ((List ((Int) × (List (Int)))) × (List (Int)))))) × ((Int) × Unit)) × ((Bool) × ((Int) × ((Int) × ((Int) × Unit))))))) :=
 Option.bind (@packet_Length N waits6) fun (v9 : (Int × Int)) =>
 bif (decide (v9.2 = (4 : Int))) then
  some ((.inl ((waits6, @Unit.unit), (h0, (h1, (h2, (h3, (h4, (h5, @Unit.unit)))))))))
 else
  bif (decide (v9.2 = (0 : Int))) then
   Option.bind (some ((@cond Bool @Bool.false @Bool.true (@cond Bool @Bool.true (decide ((((List.length waits6) : Nat) : Int) < v9.1)) @Bool.false)))) fun (v10 : Bool) =>
   bif v10 then
    some ((.inl ((waits6, @Unit.unit), (h0, (h1, (h2, (h3, (h4, (h5, @Unit.unit)))))))))
   else
    bif (!(decide (v9.2 = (0 : Int)))) then
     some ((.inr ((h4, (v9.2, @Unit.unit)), (h0, (h1, (h2, (v9.2, @Unit.unit)))))))
    else
     Option.bind (takeI waits6 v9.1) fun (v11 : (List Int)) =>
     Option.bind (@packet_Parse N v11) fun (v12 : ((Bool × (Int × ((List (Int × (List Int))) × (List Int)))) × Int)) =>
     bif (!(decide (v12.2 = (0 : Int)))) then
      some ((.inr ((h4, (v12.2, @Unit.unit)), (h0, (h1, (h2, (v12.2, @Unit.unit)))))))
     else
      bif (roomB ((List.length h4) + (List.length ([(v12.1.1, (v12.1.2.1, (v12.1.2.2.1, v12.1.2.2.2)))] : List ((Bool × (Int × ((List (Int × (List Int))) × (List Int)))))))) 56) then
       Option.bind (dropI waits6 v9.1) fun (v13 : (List Int)) =>
       (X ((v13, @Unit.unit), (h0, ((IntKind.wrap .i64 (h1 + (1 : Int))), ((IntKind.wrap .i64 (h2 + v9.1)), (h3, ((h4 ++ ([(v12.1.1, (v12.1.2.1, (v12.1.2.2.1, v12.1.2.2.2)))] : List ((Bool × (Int × ((List (Int × (List Int))) × (List Int))))))), (h5, @Unit.unit))))))))
      else
       none
  else
   bif (!(decide (v9.2 = (0 : Int)))) then
    some ((.inr ((h4, (v9.2, @Unit.unit)), (h0, (h1, (h2, (v9.2, @Unit.unit)))))))
   else
    Option.bind (takeI waits6 v9.1) fun (v10 : (List Int)) =>
    Option.bind (@packet_Parse N v10) fun (v11 : ((Bool × (Int × ((List (Int × (List Int))) × (List Int)))) × Int)) =>
    bif (!(decide (v11.2 = (0 : Int)))) then
     some ((.inr ((h4, (v11.2, @Unit.unit)), (h0, (h1, (h2, (v11.2, @Unit.unit)))))))
    else
     bif (roomB ((List.length h4) + (List.length ([(v11.1.1, (v11.1.2.1, (v11.1.2.2.1, v11.1.2.2.2)))] : List ((Bool × (Int × ((List (Int × (List Int))) × (List Int)))))))) 56) then
      Option.bind (dropI waits6 v9.1) fun (v12 : (List Int)) =>
      (X ((v12, @Unit.unit), (h0, ((IntKind.wrap .i64 (h1 + (1 : Int))), ((IntKind.wrap .i64 (h2 + v9.1)), (h3, ((h4 ++ ([(v11.1.1, (v11.1.2.1, (v11.1.2.2.1, v11.1.2.2.2)))] : List ((Bool × (Int × ((List (Int × (List Int))) × (List Int))))))), (h5, @Unit.unit))))))))
     else
      none
theorem law19_alive_5_reframe_Stream_Write_L7_S (N : Nat) (X : (((List (Int)) × Unit) × ((Bool) × ((Int) × ((Int) × ((Int) × ((List ((Bool) × ((Int) × ((List ((Int) × (List (Int)))) × (List (Int)))))) × ((List (Int)) × Unit))))))) → Option (((((List (Int)) × Unit) × ((Bool) × ((Int) × ((Int) × ((Int) × ((List ((Bool) × ((Int) × ((List ((Int) × (List (Int)))) × (List (Int)))))) × ((List (Int)) × Unit))))))) ⊕ (((List ((Bool) × ((Int) × ((List ((Int) × (List (Int)))) × (List (Int)))))) × ((Int) × Unit)) × ((Bool) × ((Int) × ((Int) × ((Int) × Unit)))))))) (waits6 : List (Int)) (h0 : Bool) (h1 : Int) (h2 : Int) (h3 : Int) (h4 : List ((Bool) × ((Int) × ((List ((Int) × (List (Int)))) × (List (Int)))))) (h5 : List (Int)) : (roundK Go.Proofs.Try.prog (Ev66 N) 400 [11, 5, 7] law19_alive_5_reframe_Stream_Write_L7_I (loopAt Go.Proofs.Try.prog [11, 5, 7] 7) X ((waits6, ()), (h0, h1, h2, h3, h4, h5, ()))).run = law19_alive_5_reframe_Stream_Write_L7 N X waits6 h0 h1 h2 h3 h4 h5 := by kernel_rfl
noncomputable def Ev67 (N : Nat) : (R : Type) → Env R := Env.addLp (Ev66 N) [11, 5, 7] 1 7 (fun R => lpK Go.Proofs.Try.prog law19_alive_5_reframe_Stream_Write_L7_I (fun X c => law19_alive_5_reframe_Stream_Write_L7 N X c.1.1 c.2.1 c.2.2.1 c.2.2.2.1 c.2.2.2.2.1 c.2.2.2.2.2.1 c.2.2.2.2.2.2.1) N)
theorem Ev67_ok (N : Nat) (R : Type) : EnvOK Go.Proofs.Try.prog (Ev67 N R) := EnvOK.addLp (Ev66_ok N R) (by kernel_rfl) (lpK_ok (li := law19_alive_5_reframe_Stream_Write_L7_I) (G := fun X c => law19_alive_5_reframe_Stream_Write_L7 N X c.1.1 c.2.1 c.2.2.1 c.2.2.2.1 c.2.2.2.2.1 c.2.2.2.2.2.1 c.2.2.2.2.2.2.1) hmx (Ev66_ok N _) (by kernel_rfl) loopAt_sub (fun (X : CT law19_alive_5_reframe_Stream_Write_L7_I.sh → Option (OT law19_alive_5_reframe_Stream_Write_L7_I.outs)) (c : CT law19_alive_5_reframe_Stream_Write_L7_I.sh) => law19_alive_5_reframe_Stream_Write_L7_S N X c.1.1 c.2.1 c.2.2.1 c.2.2.2.1 c.2.2.2.2.1 c.2.2.2.2.2.1 c.2.2.2.2.2.2.1) N)
noncomputable def law19_alive_7_reframe_Stream_Write_L7_I : LI := ⟨97, 4, [(7, 42)], ⟨[(0, .lit (.box 0 0)), (6, .ty (.sl (.int .u8))), (7, .lit (.own 4))], [.boxp 49 [.ty .bool, .own 3, .ty (.int .i64), .ty (.int .i64), .ty (.int .i64)], .own (.pair .bool (.pair (.int .u16) (.pair (.sl (.pair (.int .u8) (.sl (.int .u8)))) (.sl (.int .u8))))) 42, .own (.int .u8) 5, .dead, .own (.pair .bool (.pair (.int .u16) (.pair (.sl (.pair (.int .u8) (.sl (.int .u8)))) (.sl (.int .u8))))) 42]⟩, [(.exit 0, ⟨[(0, .lit (.box 0 0)), (6, .ty (.sl (.int .u8))), (7, .lit (.own 4))], [.boxp 49 [.ty .bool, .own 3, .ty (.int .i64), .ty (.int .i64), .ty (.int .i64)], .own (.pair .bool (.pair (.int .u16) (.pair (.sl (.pair (.int .u8) (.sl (.int .u8)))) (.sl (.int .u8))))) 42, .own (.int .u8) 5, .dead, .own (.pair .bool (.pair (.int .u16) (.pair (.sl (.pair (.int .u8) (.sl (.int .u8)))) (.sl (.int .u8))))) 42]⟩), (.ret, ⟨[(4, .ty (.sl (.pair .bool (.pair (.int .u16) (.pair (.sl (.pair (.int .u8) (.sl (.int .u8)))) (.sl (.int .u8))))))), (5, .ty (.int .i64))], [.boxp 49 [.ty .bool, .nil, .ty (.int .i64), .ty (.int .i64), .ty (.int .i64)], .own (.pair .bool (.pair (.int .u16) (.pair (.sl (.pair (.int .u8) (.sl (.int .u8)))) (.sl (.int .u8))))) 42, .own (.int .u8) 5, .dead]⟩)]⟩
noncomputable def law19_alive_7_reframe_Stream_Write_L7 (N : Nat) (X : (((List (Int)) × Unit) × ((Bool) × ((Int) × ((Int) × ((Int) × ((List ((Bool) × ((Int) × ((List ((Int) × (List (Int)))) × (List (Int)))))) × ((List (Int)) × ((List ((Bool) × ((Int) × ((List ((Int) × (List (Int)))) × (List (Int)))))) × Unit)))))))) → Option (((((List (Int)) × Unit) × ((Bool) × ((Int) × ((Int) × ((Int) × ((List ((Bool) × ((Int) × ((List ((Int) × (List (Int)))) × (List (Int)))))) × ((List (Int)) × ((List ((Bool) × ((Int) × ((List ((Int) × (List (Int)))) × (List (Int)))))) × Unit)))))))) ⊕ (((List ((Bool) × ((Int) × ((List ((Int) × (List (Int)))) × (List (Int)))))) × ((Int) × Unit)) × ((Bool) × ((Int) × ((Int) × ((Int) × ((List ((Bool) × ((Int) × ((List ((Int) × (List (Int)))) × (List (Int)))))) × ((List (Int)) × Unit)))))))))) (waits6 : List (Int)) (h0 : Bool) (h1 : Int) (h2 : Int) (h3 : Int) (h4 : List ((Bool) × ((Int) × ((List ((Int) × (List (Int)))) × (List (Int)))))) (h5 : List (Int)) (h6 : List ((Bool) × ((Int) × ((List ((Int) × (List (Int)))) × (List (Int)))))) : Option (((((List (Int)) × Unit) × ((Bool) × ((Int) × ((Int) × ((Int) × ((List ((Bool) × ((Int) × ((List ((Int) × (List (Int)))) × (List (Int)))))) × ((List (Int)) × ((List ((Bool) × ((Int) × ((List ((Int) × (List (Int)))) × (List (Int)))))) × Unit)))))))) ⊕ (((List ((Bool) × ((Int) × ((List ((Int) × (List (Int)))) × (List (Int)))))) × ((Int) × Unit)) × ((Bool) × ((Int) × ((Int) × ((Int) × ((List ((Bool) × ((Int) × ((List ((Int) × (List (Int)))) × (List (Int)))))) × ((List (Int)) × Unit))))))))) :=
 Option.bind (@packet_Length N waits6) fun (v10 : (Int × Int)) =>
 bif (decide (v10.2 = (4 : Int))) then
  some ((.inl ((waits6, @Unit.unit), (h0, (h1, (h2, (h3, (h4, (h5, (h6, @Unit.unit))))))))))
 else
  bif (decide (v10.2 = (0 : Int))) then
   Option.bind (some ((@cond Bool @Bool.false @Bool.true (@cond Bool @Bool.true (decide ((((List.length waits6) : Nat) : Int) < v10.1)) @Bool.false)))) fun (v11 : Bool) =>
   bif v11 then
    some ((.inl ((waits6, @Unit.unit), (h0, (h1, (h2, (h3, (h4, (h5, (h6, @Unit.unit))))))))))
   else
    bif (!(decide (v10.2 = (0 : Int)))) then
     some ((.inr ((h6, (v10.2, @Unit.unit)), (h0, (h1, (h2, (v10.2, (h4, (h5, @Unit.unit)))))))))
    else
     Option.bind (takeI waits6 v10.1) fun (v12 : (List Int)) =>
     Option.bind (@packet_Parse N v12) fun (v13 : ((Bool × (Int × ((List (Int × (List Int))) × (List Int)))) × Int)) =>
     bif (!(decide (v13.2 = (0 : Int)))) then
      some ((.inr ((h6, (v13.2, @Unit.unit)), (h0, (h1, (h2, (v13.2, (h4, (h5, @Unit.unit)))))))))
     else
      bif (roomB ((List.length h6) + (List.length ([(v13.1.1, (v13.1.2.1, (v13.1.2.2.1, v13.1.2.2.2)))] : List ((Bool × (Int × ((List (Int × (List Int))) × (List Int)))))))) 56) then
       Option.bind (dropI waits6 v10.1) fun (v14 : (List Int)) =>
       (X ((v14, @Unit.unit), (h0, ((IntKind.wrap .i64 (h1 + (1 : Int))), ((IntKind.wrap .i64 (h2 + v10.1)), (h3, (h4, (h5, ((h6 ++ ([(v13.1.1, (v13.1.2.1, (v13.1.2.2.1, v13.1.2.2.2)))] : List ((Bool × (Int × ((List (Int × (List Int))) × (List Int))))))), @Unit.unit)))))))))
      else
       none
  else
   bif (!(decide (v10.2 = (0 : Int)))) then
    some ((.inr ((h6, (v10.2, @Unit.unit)), (h0, (h1, (h2, (v10.2, (h4, (h5, @Unit.unit)))))))))
   else
    Option.bind (takeI waits6 v10.1) fun (v11 : (List Int)) =>
    Option.bind (@packet_Parse N v11) fun (v12 : ((Bool × (Int × ((List (Int × (List Int))) × (List Int)))) × Int)) =>
    bif (!(decide (v12.2 = (0 : Int)))) then
     some ((.inr ((h6, (v12.2, @Unit.unit)), (h0, (h1, (h2, (v12.2, (h4, (h5, @Unit.unit)))))))))
    else
     bif (roomB ((List.length h6) + (List.length ([(v12.1.1, (v12.1.2.1, (v12.1.2.2.1, v12.1.2.2.2)))] : List ((Bool × (Int × ((List (Int × (List Int))) × (List Int)))))))) 56) then
      Option.bind (dropI waits6 v10.1) fun (v13 : (List Int)) =>
      (X ((v13, @Unit.unit), (h0, ((IntKind.wrap .i64 (h1 + (1 : Int))), ((IntKind.wrap .i64 (h2 + v10.1)), (h3, (h4, (h5, ((h6 ++ ([(v12.1.1, (v12.1.2.1, (v12.1.2.2.1, v12.1.2.2.2)))] : List ((Bool × (Int × ((List (Int × (List Int))) × (List Int))))))), @Unit.unit)))))))))
     else
      none
theorem law19_alive_7_reframe_Stream_Write_L7_S (N : Nat) (X : (((List (Int)) × Unit) × ((Bool) × ((Int) × ((Int) × ((Int) × ((List ((Bool) × ((Int) × ((List ((Int) × (List (Int)))) × (List (Int)))))) × ((List (Int)) × ((List ((Bool) × ((Int) × ((List ((Int) × (List (Int)))) × (List (Int)))))) × Unit)))))))) → Option (((((List (Int)) × Unit) × ((Bool) × ((Int) × ((Int) × ((Int) × ((List ((Bool) × ((Int) × ((List ((Int) × (List (Int)))) × (List (Int)))))) × ((List (Int)) × ((List ((Bool) × ((Int) × ((List ((Int) × (List (Int)))) × (List (Int)))))) × Unit)))))))) ⊕ (((List ((Bool) × ((Int) × ((List ((Int) × (List (Int)))) × (List (Int)))))) × ((Int) × Unit)) × ((Bool) × ((Int) × ((Int) × ((Int) × ((List ((Bool) × ((Int) × ((List ((Int) × (List (Int)))) × (List (Int)))))) × ((List (Int)) × Unit)))))))))) (waits6 : List (Int)) (h0 : Bool) (h1 : Int) (h2 : Int) (h3 : Int) (h4 : List ((Bool) × ((Int) × ((List ((Int) × (List (Int)))) × (List (Int)))))) (h5 : List (Int)) (h6 : List ((Bool) × ((Int) × ((List ((Int) × (List (Int)))) × (List (Int)))))) : (roundK Go.Proofs.Try.prog (Ev67 N) 400 [11, 7, 7] law19_alive_7_reframe_Stream_Write_L7_I (loopAt Go.Proofs.Try.prog [11, 7, 7] 7) X ((waits6, ()), (h0, h1, h2, h3, h4, h5, h6, ()))).run = law19_alive_7_reframe_Stream_Write_L7 N X waits6 h0 h1 h2 h3 h4 h5 h6 := by kernel_rfl
noncomputable def Ev68 (N : Nat) : (R : Type) → Env R := Env.addLp (Ev67 N) [11, 7, 7] 4 7 (fun R => lpK Go.Proofs.Try.prog law19_alive_7_reframe_Stream_Write_L7_I (fun X c => law19_alive_7_reframe_Stream_Write_L7 N X c.1.1 c.2.1 c.2.2.1 c.2.2.2.1 c.2.2.2.2.1 c.2.2.2.2.2.1 c.2.2.2.2.2.2.1 c.2.2.2.2.2.2.2.1) N)
theorem Ev68_ok (N : Nat) (R : Type) : EnvOK Go.Proofs.Try.prog (Ev68 N R) := EnvOK.addLp (Ev67_ok N R) (by kernel_rfl) (lpK_ok (li := law19_alive_7_reframe_Stream_Write_L7_I) (G := fun X c => law19_alive_7_reframe_Stream_Write_L7 N X c.1.1 c.2.1 c.2.2.1 c.2.2.2.1 c.2.2.2.2.1 c.2.2.2.2.2.1 c.2.2.2.2.2.2.1 c.2.2.2.2.2.2.2.1) hmx (Ev67_ok N _) (by kernel_rfl) loopAt_sub (fun (X : CT law19_alive_7_reframe_Stream_Write_L7_I.sh → Option (OT law19_alive_7_reframe_Stream_Write_L7_I.outs)) (c : CT law19_alive_7_reframe_Stream_Write_L7_I.sh) => law19_alive_7_reframe_Stream_Write_L7_S N X c.1.1 c.2.1 c.2.2.1 c.2.2.2.1 c.2.2.2.2.1 c.2.2.2.2.2.1 c.2.2.2.2.2.2.1 c.2.2.2.2.2.2.2.1) N)
noncomputable def law19_alive_7_reframe_Stream_Write_L7_2_I : LI := ⟨97, 1, [(7, 42)], ⟨[(0, .lit (.box 0 0)), (6, .ty (.sl (.int .u8))), (7, .lit (.own 1))], [.boxp 49 [.ty .bool, .own 2, .ty (.int .i64), .ty (.int .i64), .ty (.int .i64)], .own (.pair .bool (.pair (.int .u16) (.pair (.sl (.pair (.int .u8) (.sl (.int .u8)))) (.sl (.int .u8))))) 42, .own (.int .u8) 5]⟩, [(.exit 0, ⟨[(0, .lit (.box 0 0)), (6, .ty (.sl (.int .u8))), (7, .lit (.own 1))], [.boxp 49 [.ty .bool, .own 2, .ty (.int .i64), .ty (.int .i64), .ty (.int .i64)], .own (.pair .bool (.pair (.int .u16) (.pair (.sl (.pair (.int .u8) (.sl (.int .u8)))) (.sl (.int .u8))))) 42, .own (.int .u8) 5]⟩), (.ret, ⟨[(4, .ty (.sl (.pair .bool (.pair (.int .u16) (.pair (.sl (.pair (.int .u8) (.sl (.int .u8)))) (.sl (.int .u8))))))), (5, .ty (.int .i64))], [.boxp 49 [.ty .bool, .nil, .ty (.int .i64), .ty (.int .i64), .ty (.int .i64)]]⟩)]⟩
noncomputable def law19_alive_7_reframe_Stream_Write_L7_2 (N : Nat) (X : (((List (Int)) × Unit) × ((Bool) × ((Int) × ((Int) × ((Int) × ((List ((Bool) × ((Int) × ((List ((Int) × (List (Int)))) × (List (Int)))))) × ((List (Int)) × Unit))))))) → Option (((((List (Int)) × Unit) × ((Bool) × ((Int) × ((Int) × ((Int) × ((List ((Bool) × ((Int) × ((List ((Int) × (List (Int)))) × (List (Int)))))) × ((List (Int)) × Unit))))))) ⊕ (((List ((Bool) × ((Int) × ((List ((Int) × (List (Int)))) × (List (Int)))))) × ((Int) × Unit)) × ((Bool) × ((Int) × ((Int) × ((Int) × Unit)))))))) (waits6 : List (Int)) (h0 : Bool) (h1 : Int) (h2 : Int) (h3 : Int) (h4 : List ((Bool) × ((Int) × ((List ((Int) × (List (Int)))) × (List (Int)))))) (h5 : List (Int)) : Option (((((List (Int)) × Unit) × ((Bool) × ((Int) × ((Int) × ((Int) × ((List ((Bool) × ((Int) × ((List ((Int) × (List (Int)))) × (List (Int)))))) × ((List (Int)) × Unit))))))) ⊕ (((List ((Bool) × ((Int) × ((List ((Int) × (List (Int)))) × (List (Int)))))) × ((Int) × Unit)) × ((Bool) × ((Int) × ((Int) × ((Int) × Unit))))))) :=
 Option.bind (@packet_Length N waits6) fun (v9 : (Int × Int)) =>
 bif (decide (v9.2 = (4 : Int))) then
  some ((.inl ((waits6, @Unit.unit), (h0, (h1, (h2, (h3, (h4, (h5, @Unit.unit)))))))))
 else
  bif (decide (v9.2 = (0 : Int))) then
   Option.bind (some ((@cond Bool @Bool.false @Bool.true (@cond Bool @Bool.true (decide ((((List.length waits6) : Nat) : Int) < v9.1)) @Bool.false)))) fun (v10 : Bool) =>
   bif v10 then
    some ((.inl ((waits6, @Unit.unit), (h0, (h1, (h2, (h3, (h4, (h5, @Unit.unit)))))))))
   else
    bif (!(decide (v9.2 = (0 : Int)))) then
     some ((.inr ((h4, (v9.2, @Unit.unit)), (h0, (h1, (h2, (v9.2, @Unit.unit)))))))
    else
     Option.bind (takeI waits6 v9.1) fun (v11 : (List Int)) =>
     Option.bind (@packet_Parse N v11) fun (v12 : ((Bool × (Int × ((List (Int × (List Int))) × (List Int)))) × Int)) =>
     bif (!(decide (v12.2 = (0 : Int)))) then
      some ((.inr ((h4, (v12.2, @Unit.unit)), (h0, (h1, (h2, (v12.2, @Unit.unit)))))))
     else
      bif (roomB ((List.length h4) + (List.length ([(v12.1.1, (v12.1.2.1, (v12.1.2.2.1, v12.1.2.2.2)))] : List ((Bool × (Int × ((List (Int × (List Int))) × (List Int)))))))) 56) then
       Option.bind (dropI waits6 v9.1) fun (v13 : (List Int)) =>
       (X ((v13, @Unit.unit), (h0, ((IntKind.wrap .i64 (h1 + (1 : Int))), ((IntKind.wrap .i64 (h2 + v9.1)), (h3, ((h4 ++ ([(v12.1.1, (v12.1.2.1, (v12.1.2.2.1, v12.1.2.2.2)))] : List ((Bool × (Int × ((List (Int × (List Int))) × (List Int))))))), (h5, @Unit.unit))))))))
      else
       none
  else
   bif (!(decide (v9.2 = (0 : Int)))) then
    some ((.inr ((h4, (v9.2, @Unit.unit)), (h0, (h1, (h2, (v9.2, @Unit.unit)))))))
   else
    Option.bind (takeI waits6 v9.1) fun (v10 : (List Int)) =>
    Option.bind (@packet_Parse N v10) fun (v11 : ((Bool × (Int × ((List (Int × (List Int))) × (List Int)))) × Int)) =>
    bif (!(decide (v11.2 = (0 : Int)))) then
     some ((.inr ((h4, (v11.2, @Unit.unit)), (h0, (h1, (h2, (v11.2, @Unit.unit)))))))
    else
     bif (roomB ((List.length h4) + (List.length ([(v11.1.1, (v11.1.2.1, (v11.1.2.2.1, v11.1.2.2.2)))] : List ((Bool × (Int × ((List (Int × (List Int))) × (List Int)))))))) 56) then
      Option.bind (dropI waits6 v9.1) fun (v12 : (List Int)) =>
      (X ((v12, @Unit.unit), (h0, ((IntKind.wrap .i64 (h1 + (1 : Int))), ((IntKind.wrap .i64 (h2 + v9.1)), (h3, ((h4 ++ ([(v11.1.1, (v11.1.2.1, (v11.1.2.2.1, v11.1.2.2.2)))] : List ((Bool × (Int × ((List (Int × (List Int))) × (List Int))))))), (h5, @Unit.unit))))))))
     else
      none
theorem law19_alive_7_reframe_Stream_Write_L7_2_S (N : Nat) (X : (((List (Int)) × Unit) × ((Bool) × ((Int) × ((Int) × ((Int) × ((List ((Bool) × ((Int) × ((List ((Int) × (List (Int)))) × (List (Int)))))) × ((List (Int)) × Unit))))))) → Option (((((List (Int)) × Unit) × ((Bool) × ((Int) × ((Int) × ((Int) × ((List ((Bool) × ((Int) × ((List ((Int) × (List (Int)))) × (List (Int)))))) × ((List (Int)) × Unit))))))) ⊕ (((List ((Bool) × ((Int) × ((List ((Int) × (List (Int)))) × (List (Int)))))) × ((Int) × Unit)) × ((Bool) × ((Int) × ((Int) × ((Int) × Unit)))))))) (waits6 : List (Int)) (h0 : Bool) (h1 : Int) (h2 : Int) (h3 : Int) (h4 : List ((Bool) × ((Int) × ((List ((Int) × (List (Int)))) × (List (Int)))))) (h5 : List (Int)) : (roundK Go.Proofs.Try.prog (Ev68 N) 400 [11, 7, 7] law19_alive_7_reframe_Stream_Write_L7_2_I (loopAt Go.Proofs.Try.prog [11, 7, 7] 7) X ((waits6, ()), (h0, h1, h2, h3, h4, h5, ()))).run = law19_alive_7_reframe_Stream_Write_L7_2 N X waits6 h0 h1 h2 h3 h4 h5 := by kernel_rfl
noncomputable def Ev69 (N : Nat) : (R : Type) → Env R := Env.addLp (Ev68 N) [11, 7, 7] 1 7 (fun R => lpK Go.Proofs.Try.prog law19_alive_7_reframe_Stream_Write_L7_2_I (fun X c => law19_alive_7_reframe_Stream_Write_L7_2 N X c.1.1 c.2.1 c.2.2.1 c.2.2.2.1 c.2.2.2.2.1 c.2.2.2.2.2.1 c.2.2.2.2.2.2.1) N)
theorem Ev69_ok (N : Nat) (R : Type) : EnvOK Go.Proofs.Try.prog (Ev69 N R) := EnvOK.addLp (Ev68_ok N R) (by kernel_rfl) (lpK_ok (li := law19_alive_7_reframe_Stream_Write_L7_2_I) (G := fun X c => law19_alive_7_reframe_Stream_Write_L7_2 N X c.1.1 c.2.1 c.2.2.1 c.2.2.2.1 c.2.2.2.2.1 c.2.2.2.2.2.1 c.2.2.2.2.2.2.1) hmx (Ev68_ok N _) (by kernel_rfl) loopAt_sub (fun (X : CT law19_alive_7_reframe_Stream_Write_L7_2_I.sh → Option (OT law19_alive_7_reframe_Stream_Write_L7_2_I.outs)) (c : CT law19_alive_7_reframe_Stream_Write_L7_2_I.sh) => law19_alive_7_reframe_Stream_Write_L7_2_S N X c.1.1 c.2.1 c.2.2.1 c.2.2.2.1 c.2.2.2.2.1 c.2.2.2.2.2.1 c.2.2.2.2.2.2.1) N)
noncomputable def law19_alive (N : Nat) : Option (Bool) :=
 (runK Go.Proofs.Try.prog (Ev69 N) 400 7 [] [.bool] ()).run
theorem law19_alive_S (N : Nat) : (runK Go.Proofs.Try.prog (Ev69 N) 400 7 [] [.bool] ()).run = law19_alive N  := by kernel_rfl
noncomputable def Ev70 (N : Nat) : (R : Type) → Env R := Env.addFn (Ev69 N) 7 (fun R => fnK [] [.bool] (fun c => law19_alive N ))
theorem Ev70_ok (N : Nat) (R : Type) : EnvOK Go.Proofs.Try.prog (Ev70 N R) := EnvOK.addFn hmx (Ev69_ok N R) (Ev69_ok N _) (by kernel_rfl) (fun c => law19_alive_S N )
noncomputable def law19_ReframeNobody_11_reframe_Stream_Write_L7_I : LI := ⟨97, 3, [(7, 42)], ⟨[(0, .lit (.box 2 0)), (6, .ty (.sl (.int .u8))), (7, .lit (.own 3))], [.boxp 49 [.ty .bool, .own 4, .ty (.int .i64), .ty (.int .i64), .ty (.int .i64)], .dead, .boxp 49 [.ty .bool, .own 5, .ty (.int .i64), .ty (.int .i64), .ty (.int .i64)], .own (.pair .bool (.pair (.int .u16) (.pair (.sl (.pair (.int .u8) (.sl (.int .u8)))) (.sl (.int .u8))))) 42, .own (.int .u8) 5, .own (.int .u8) 5]⟩, [(.exit 0, ⟨[(0, .lit (.box 2 0)), (6, .ty (.sl (.int .u8))), (7, .lit (.own 3))], [.boxp 49 [.ty .bool, .own 4, .ty (.int .i64), .ty (.int .i64), .ty (.int .i64)], .dead, .boxp 49 [.ty .bool, .own 5, .ty (.int .i64), .ty (.int .i64), .ty (.int .i64)], .own (.pair .bool (.pair (.int .u16) (.pair (.sl (.pair (.int .u8) (.sl (.int .u8)))) (.sl (.int .u8))))) 42, .own (.int .u8) 5, .own (.int .u8) 5]⟩), (.ret, ⟨[(4, .ty (.sl (.pair .bool (.pair (.int .u16) (.pair (.sl (.pair (.int .u8) (.sl (.int .u8)))) (.sl (.int .u8))))))), (5, .ty (.int .i64))], [.boxp 49 [.ty .bool, .own 3, .ty (.int .i64), .ty (.int .i64), .ty (.int .i64)], .dead, .boxp 49 [.ty .bool, .nil, .ty (.int .i64), .ty (.int .i64), .ty (.int .i64)], .own (.int .u8) 5]⟩)]⟩
noncomputable def law19_ReframeNobody_11_reframe_Stream_Write_L7 (N : Nat) (X : (((List (Int)) × Unit) × ((Bool) × ((Int) × ((Int) × ((Int) × ((Bool) × ((Int) × ((Int) × ((Int) × ((List ((Bool) × ((Int) × ((List ((Int) × (List (Int)))) × (List (Int)))))) × ((List (Int)) × ((List (Int)) × Unit)))))))))))) → Option (((((List (Int)) × Unit) × ((Bool) × ((Int) × ((Int) × ((Int) × ((Bool) × ((Int) × ((Int) × ((Int) × ((List ((Bool) × ((Int) × ((List ((Int) × (List (Int)))) × (List (Int)))))) × ((List (Int)) × ((List (Int)) × Unit)))))))))))) ⊕ (((List ((Bool) × ((Int) × ((List ((Int) × (List (Int)))) × (List (Int)))))) × ((Int) × Unit)) × ((Bool) × ((Int) × ((Int) × ((Int) × ((Bool) × ((Int) × ((Int) × ((Int) × ((List (Int)) × Unit))))))))))))) (waits6 : List (Int)) (h0 : Bool) (h1 : Int) (h2 : Int) (h3 : Int) (h4 : Bool) (h5 : Int) (h6 : Int) (h7 : Int) (h8 : List ((Bool) × ((Int) × ((List ((Int) × (List (Int)))) × (List (Int)))))) (h9 : List (Int)) (h10 : List (Int)) : Option (((((List (Int)) × Unit) × ((Bool) × ((Int) × ((Int) × ((Int) × ((Bool) × ((Int) × ((Int) × ((Int) × ((List ((Bool) × ((Int) × ((List ((Int) × (List (Int)))) × (List (Int)))))) × ((List (Int)) × ((List (Int)) × Unit)))))))))))) ⊕ (((List ((Bool) × ((Int) × ((List ((Int) × (List (Int)))) × (List (Int)))))) × ((Int) × Unit)) × ((Bool) × ((Int) × ((Int) × ((Int) × ((Bool) × ((Int) × ((Int) × ((Int) × ((List (Int)) × Unit)))))))))))) :=
 Option.bind (@packet_Length N waits6) fun (v14 : (Int × Int)) =>
 bif (decide (v14.2 = (4 : Int))) then
  some ((.inl ((waits6, @Unit.unit), (h0, (h1, (h2, (h3, (h4, (h5, (h6, (h7, (h8, (h9, (h10, @Unit.unit))))))))))))))
 else
  bif (decide (v14.2 = (0 : Int))) then
   Option.bind (some ((@cond Bool @Bool.false @Bool.true (@cond Bool @Bool.true (decide ((((List.length waits6) : Nat) : Int) < v14.1)) @Bool.false)))) fun (v15 : Bool) =>
   bif v15 then
    some ((.inl ((waits6, @Unit.unit), (h0, (h1, (h2, (h3, (h4, (h5, (h6, (h7, (h8, (h9, (h10, @Unit.unit))))))))))))))
   else
    bif (!(decide (v14.2 = (0 : Int)))) then
     some ((.inr ((h8, (v14.2, @Unit.unit)), (h0, (h1, (h2, (h3, (h4, (h5, (h6, (v14.2, (h9, @Unit.unit))))))))))))
    else
     Option.bind (takeI waits6 v14.1) fun (v16 : (List Int)) =>
     Option.bind (@packet_Parse N v16) fun (v17 : ((Bool × (Int × ((List (Int × (List Int))) × (List Int)))) × Int)) =>
     bif (!(decide (v17.2 = (0 : Int)))) then
      some ((.inr ((h8, (v17.2, @Unit.unit)), (h0, (h1, (h2, (h3, (h4, (h5, (h6, (v17.2, (h9, @Unit.unit))))))))))))
     else
      bif (roomB ((List.length h8) + (List.length ([(v17.1.1, (v17.1.2.1, (v17.1.2.2.1, v17.1.2.2.2)))] : List ((Bool × (Int × ((List (Int × (List Int))) × (List Int)))))))) 56) then
       Option.bind (dropI waits6 v14.1) fun (v18 : (List Int)) =>
       (X ((v18, @Unit.unit), (h0, (h1, (h2, (h3, (h4, ((IntKind.wrap .i64 (h5 + (1 : Int))), ((IntKind.wrap .i64 (h6 + v14.1)), (h7, ((h8 ++ ([(v17.1.1, (v17.1.2.1, (v17.1.2.2.1, v17.1.2.2.2)))] : List ((Bool × (Int × ((List (Int × (List Int))) × (List Int))))))), (h9, (h10, @Unit.unit)))))))))))))
      else
       none
  else
   bif (!(decide (v14.2 = (0 : Int)))) then
    some ((.inr ((h8, (v14.2, @Unit.unit)), (h0, (h1, (h2, (h3, (h4, (h5, (h6, (v14.2, (h9, @Unit.unit))))))))))))
   else
    Option.bind (takeI waits6 v14.1) fun (v15 : (List Int)) =>
    Option.bind (@packet_Parse N v15) fun (v16 : ((Bool × (Int × ((List (Int × (List Int))) × (List Int)))) × Int)) =>
    bif (!(decide (v16.2 = (0 : Int)))) then
     some ((.inr ((h8, (v16.2, @Unit.unit)), (h0, (h1, (h2, (h3, (h4, (h5, (h6, (v16.2, (h9, @Unit.unit))))))))))))
    else
     bif (roomB ((List.length h8) + (List.length ([(v16.1.1, (v16.1.2.1, (v16.1.2.2.1, v16.1.2.2.2)))] : List ((Bool × (Int × ((List (Int × (List Int))) × (List Int)))))))) 56) then
      Option.bind (dropI waits6 v14.1) fun (v17 : (List Int)) =>
      (X ((v17, @Unit.unit), (h0, (h1, (h2, (h3, (h4, ((IntKind.wrap .i64 (h5 + (1 : Int))), ((IntKind.wrap .i64 (h6 + v14.1)), (h7, ((h8 ++ ([(v16.1.1, (v16.1.2.1, (v16.1.2.2.1, v16.1.2.2.2)))] : List ((Bool × (Int × ((List (Int × (List Int))) × (List Int))))))), (h9, (h10, @Unit.unit)))))))))))))
     else
      none
noncomputable def law19_ReframeNobody_11_reframe_Stream_Write_L7_R (N : Nat) (c : (((List (Int)) × Unit) × ((Bool) × ((Int) × ((Int) × ((Int) × ((Bool) × ((Int) × ((Int) × ((Int) × ((List ((Bool) × ((Int) × ((List ((Int) × (List (Int)))) × (List (Int)))))) × ((List (Int)) × ((List (Int)) × Unit))))))))))))) : Option (((((List (Int)) × Unit) × ((Bool) × ((Int) × ((Int) × ((Int) × ((Bool) × ((Int) × ((Int) × ((Int) × ((List ((Bool) × ((Int) × ((List ((Int) × (List (Int)))) × (List (Int)))))) × ((List (Int)) × ((List (Int)) × Unit)))))))))))) ⊕ (((List ((Bool) × ((Int) × ((List ((Int) × (List (Int)))) × (List (Int)))))) × ((Int) × Unit)) × ((Bool) × ((Int) × ((Int) × ((Int) × ((Bool) × ((Int) × ((Int) × ((Int) × ((List (Int)) × Unit)))))))))))) := gl (fun X c => law19_ReframeNobody_11_reframe_Stream_Write_L7 N X c.1.1 c.2.1 c.2.2.1 c.2.2.2.1 c.2.2.2.2.1 c.2.2.2.2.2.1 c.2.2.2.2.2.2.1 c.2.2.2.2.2.2.2.1 c.2.2.2.2.2.2.2.2.1 c.2.2.2.2.2.2.2.2.2.1 c.2.2.2.2.2.2.2.2.2.2.1 c.2.2.2.2.2.2.2.2.2.2.2.1) N c
theorem law19_ReframeNobody_11_reframe_Stream_Write_L7_S (N : Nat) (X : (((List (Int)) × Unit) × ((Bool) × ((Int) × ((Int) × ((Int) × ((Bool) × ((Int) × ((Int) × ((Int) × ((List ((Bool) × ((Int) × ((List ((Int) × (List (Int)))) × (List (Int)))))) × ((List (Int)) × ((List (Int)) × Unit)))))))))))) → Option (((((List (Int)) × Unit) × ((Bool) × ((Int) × ((Int) × ((Int) × ((Bool) × ((Int) × ((Int) × ((Int) × ((List ((Bool) × ((Int) × ((List ((Int) × (List (Int)))) × (List (Int)))))) × ((List (Int)) × ((List (Int)) × Unit)))))))))))) ⊕ (((List ((Bool) × ((Int) × ((List ((Int) × (List (Int)))) × (List (Int)))))) × ((Int) × Unit)) × ((Bool) × ((Int) × ((Int) × ((Int) × ((Bool) × ((Int) × ((Int) × ((Int) × ((List (Int)) × Unit))))))))))))) (waits6 : List (Int)) (h0 : Bool) (h1 : Int) (h2 : Int) (h3 : Int) (h4 : Bool) (h5 : Int) (h6 : Int) (h7 : Int) (h8 : List ((Bool) × ((Int) × ((List ((Int) × (List (Int)))) × (List (Int)))))) (h9 : List (Int)) (h10 : List (Int)) : (roundK Go.Proofs.Try.prog (Ev70 N) 400 [11, 11, 5] law19_ReframeNobody_11_reframe_Stream_Write_L7_I (loopAt Go.Proofs.Try.prog [11, 11, 5] 7) X ((waits6, ()), (h0, h1, h2, h3, h4, h5, h6, h7, h8, h9, h10, ()))).run = law19_ReframeNobody_11_reframe_Stream_Write_L7 N X waits6 h0 h1 h2 h3 h4 h5 h6 h7 h8 h9 h10 := by kernel_rfl
noncomputable def Ev71 (N : Nat) : (R : Type) → Env R := Env.addLp (Ev70 N) [11, 11, 5] 3 7 (fun R => lpK Go.Proofs.Try.prog law19_ReframeNobody_11_reframe_Stream_Write_L7_I (fun X c => law19_ReframeNobody_11_reframe_Stream_Write_L7 N X c.1.1 c.2.1 c.2.2.1 c.2.2.2.1 c.2.2.2.2.1 c.2.2.2.2.2.1 c.2.2.2.2.2.2.1 c.2.2.2.2.2.2.2.1 c.2.2.2.2.2.2.2.2.1 c.2.2.2.2.2.2.2.2.2.1 c.2.2.2.2.2.2.2.2.2.2.1 c.2.2.2.2.2.2.2.2.2.2.2.1) N)
theorem Ev71_ok (N : Nat) (R : Type) : EnvOK Go.Proofs.Try.prog (Ev71 N R) := EnvOK.addLp (Ev70_ok N R) (by kernel_rfl) (lpK_ok (li := law19_ReframeNobody_11_reframe_Stream_Write_L7_I) (G := fun X c => law19_ReframeNobody_11_reframe_Stream_Write_L7 N X c.1.1 c.2.1 c.2.2.1 c.2.2.2.1 c.2.2.2.2.1 c.2.2.2.2.2.1 c.2.2.2.2.2.2.1 c.2.2.2.2.2.2.2.1 c.2.2.2.2.2.2.2.2.1 c.2.2.2.2.2.2.2.2.2.1 c.2.2.2.2.2.2.2.2.2.2.1 c.2.2.2.2.2.2.2.2.2.2.2.1) hmx (Ev70_ok N _) (by kernel_rfl) loopAt_sub (fun (X : CT law19_ReframeNobody_11_reframe_Stream_Write_L7_I.sh → Option (OT law19_ReframeNobody_11_reframe_Stream_Write_L7_I.outs)) (c : CT law19_ReframeNobody_11_reframe_Stream_Write_L7_I.sh) => law19_ReframeNobody_11_reframe_Stream_Write_L7_S N X c.1.1 c.2.1 c.2.2.1 c.2.2.2.1 c.2.2.2.2.1 c.2.2.2.2.2.1 c.2.2.2.2.2.2.1 c.2.2.2.2.2.2.2.1 c.2.2.2.2.2.2.2.2.1 c.2.2.2.2.2.2.2.2.2.1 c.2.2.2.2.2.2.2.2.2.2.1 c.2.2.2.2.2.2.2.2.2.2.2.1) N)
noncomputable def law19_ReframeNobody_13_reframe_Stream_Write_L7_I : LI := ⟨97, 7, [(7, 42)], ⟨[(0, .lit (.box 2 0)), (6, .ty (.sl (.int .u8))), (7, .lit (.own 7))], [.boxp 49 [.ty .bool, .own 4, .ty (.int .i64), .ty (.int .i64), .ty (.int .i64)], .dead, .boxp 49 [.ty .bool, .own 6, .ty (.int .i64), .ty (.int .i64), .ty (.int .i64)], .own (.pair .bool (.pair (.int .u16) (.pair (.sl (.pair (.int .u8) (.sl (.int .u8)))) (.sl (.int .u8))))) 42, .own (.int .u8) 5, .own (.int .u8) 5, .dead, .own (.pair .bool (.pair (.int .u16) (.pair (.sl (.pair (.int .u8) (.sl (.int .u8)))) (.sl (.int .u8))))) 42]⟩, [(.exit 0, ⟨[(0, .lit (.box 2 0)), (6, .ty (.sl (.int .u8))), (7, .lit (.own 7))], [.boxp 49 [.ty .bool, .own 4, .ty (.int .i64), .ty (.int .i64), .ty (.int .i64)], .dead, .boxp 49 [.ty .bool, .own 6, .ty (.int .i64), .ty (.int .i64), .ty (.int .i64)], .own (.pair .bool (.pair (.int .u16) (.pair (.sl (.pair (.int .u8) (.sl (.int .u8)))) (.sl (.int .u8))))) 42, .own (.int .u8) 5, .own (.int .u8) 5, .dead, .own (.pair .bool (.pair (.int .u16) (.pair (.sl (.pair (.int .u8) (.sl (.int .u8)))) (.sl (.int .u8))))) 42]⟩), (.ret, ⟨[(4, .ty (.sl (.pair .bool (.pair (.int .u16) (.pair (.sl (.pair (.int .u8) (.sl (.int .u8)))) (.sl (.int .u8))))))), (5, .ty (.int .i64))], [.boxp 49 [.ty .bool, .own 4, .ty (.int .i64), .ty (.int .i64), .ty (.int .i64)], .dead, .boxp 49 [.ty .bool, .nil, .ty (.int .i64), .ty (.int .i64), .ty (.int .i64)], .own (.pair .bool (.pair (.int .u16) (.pair (.sl (.pair (.int .u8) (.sl (.int .u8)))) (.sl (.int .u8))))) 42, .own (.int .u8) 5, .own (.int .u8) 5, .dead]⟩)]⟩
noncomputable def law19_ReframeNobody_13_reframe_Stream_Write_L7 (N : Nat) (X : (((List (Int)) × Unit) × ((Bool) × ((Int) × ((Int) × ((Int) × ((Bool) × ((Int) × ((Int) × ((Int) × ((List ((Bool) × ((Int) × ((List ((Int) × (List (Int)))) × (List (Int)))))) × ((List (Int)) × ((List (Int)) × ((List ((Bool) × ((Int) × ((List ((Int) × (List (Int)))) × (List (Int)))))) × Unit))))))))))))) → Option (((((List (Int)) × Unit) × ((Bool) × ((Int) × ((Int) × ((Int) × ((Bool) × ((Int) × ((Int) × ((Int) × ((List ((Bool) × ((Int) × ((List ((Int) × (List (Int)))) × (List (Int)))))) × ((List (Int)) × ((List (Int)) × ((List ((Bool) × ((Int) × ((List ((Int) × (List (Int)))) × (List (Int)))))) × Unit))))))))))))) ⊕ (((List ((Bool) × ((Int) × ((List ((Int) × (List (Int)))) × (List (Int)))))) × ((Int) × Unit)) × ((Bool) × ((Int) × ((Int) × ((Int) × ((Bool) × ((Int) × ((Int) × ((Int) × ((List ((Bool) × ((Int) × ((List ((Int) × (List (Int)))) × (List (Int)))))) × ((List (Int)) × ((List (Int)) × Unit))))))))))))))) (waits6 : List (Int)) (h0 : Bool) (h1 : Int) (h2 : Int) (h3 : Int) (h4 : Bool) (h5 : Int) (h6 : Int) (h7 : Int) (h8 : List ((Bool) × ((Int) × ((List ((Int) × (List (Int)))) × (List (Int)))))) (h9 : List (Int)) (h10 : List (Int)) (h11 : List ((Bool) × ((Int) × ((List ((Int) × (List (Int)))) × (List (Int)))))) : Option (((((List (Int)) × Unit) × ((Bool) × ((Int) × ((Int) × ((Int) × ((Bool) × ((Int) × ((Int) × ((Int) × ((List ((Bool) × ((Int) × ((List ((Int) × (List (Int)))) × (List (Int)))))) × ((List (Int)) × ((List (Int)) × ((List ((Bool) × ((Int) × ((List ((Int) × (List (Int)))) × (List (Int)))))) × Unit))))))))))))) ⊕ (((List ((Bool) × ((Int) × ((List ((Int) × (List (Int)))) × (List (Int)))))) × ((Int) × Unit)) × ((Bool) × ((Int) × ((Int) × ((Int) × ((Bool) × ((Int) × ((Int) × ((Int) × ((List ((Bool) × ((Int) × ((List ((Int) × (List (Int)))) × (List (Int)))))) × ((List (Int)) × ((List (Int)) × Unit)))))))))))))) :=
 Option.bind (@packet_Length N waits6) fun (v15 : (Int × Int)) =>
 bif (decide (v15.2 = (4 : Int))) then
  some ((.inl ((waits6, @Unit.unit), (h0, (h1, (h2, (h3, (h4, (h5, (h6, (h7, (h8, (h9, (h10, (h11, @Unit.unit)))))))))))))))
 else
  bif (decide (v15.2 = (0 : Int))) then
   Option.bind (some ((@cond Bool @Bool.false @Bool.true (@cond Bool @Bool.true (decide ((((List.length waits6) : Nat) : Int) < v15.1)) @Bool.false)))) fun (v16 : Bool) =>
   bif v16 then
    some ((.inl ((waits6, @Unit.unit), (h0, (h1, (h2, (h3, (h4, (h5, (h6, (h7, (h8, (h9, (h10, (h11, @Unit.unit)))))))))))))))
   else
    bif (!(decide (v15.2 = (0 : Int)))) then
     some ((.inr ((h11, (v15.2, @Unit.unit)), (h0, (h1, (h2, (h3, (h4, (h5, (h6, (v15.2, (h8, (h9, (h10, @Unit.unit))))))))))))))
    else
     Option.bind (takeI waits6 v15.1) fun (v17 : (List Int)) =>
     Option.bind (@packet_Parse N v17) fun (v18 : ((Bool × (Int × ((List (Int × (List Int))) × (List Int)))) × Int)) =>
     bif (!(decide (v18.2 = (0 : Int)))) then
      some ((.inr ((h11, (v18.2, @Unit.unit)), (h0, (h1, (h2, (h3, (h4, (h5, (h6, (v18.2, (h8, (h9, (h10, @Unit.unit))))))))))))))
     else
      bif (roomB ((List.length h11) + (List.length ([(v18.1.1, (v18.1.2.1, (v18.1.2.2.1, v18.1.2.2.2)))] : List ((Bool × (Int × ((List (Int × (List Int))) × (List Int)))))))) 56) then
       Option.bind (dropI waits6 v15.1) fun (v19 : (List Int)) =>
       (X ((v19, @Unit.unit), (h0, (h1, (h2, (h3, (h4, ((IntKind.wrap .i64 (h5 + (1 : Int))), ((IntKind.wrap .i64 (h6 + v15.1)), (h7, (h8, (h9, (h10, ((h11 ++ ([(v18.1.1, (v18.1.2.1, (v18.1.2.2.1, v18.1.2.2.2)))] : List ((Bool × (Int × ((List (Int × (List Int))) × (List Int))))))), @Unit.unit))))))))))))))
      else
       none
  else
   bif (!(decide (v15.2 = (0 : Int)))) then
    some ((.inr ((h11, (v15.2, @Unit.unit)), (h0, (h1, (h2, (h3, (h4, (h5, (h6, (v15.2, (h8, (h9, (h10, @Unit.unit))))))))))))))
   else
    Option.bind (takeI waits6 v15.1) fun (v16 : (List Int)) =>
    Option.bind (@packet_Parse N v16) fun (v17 : ((Bool × (Int × ((List (Int × (List Int))) × (List Int)))) × Int)) =>
    bif (!(decide (v17.2 = (0 : Int)))) then
     some ((.inr ((h11, (v17.2, @Unit.unit)), (h0, (h1, (h2, (h3, (h4, (h5, (h6, (v17.2, (h8, (h9, (h10, @Unit.unit))))))))))))))
    else
     bif (roomB ((List.length h11) + (List.length ([(v17.1.1, (v17.1.2.1, (v17.1.2.2.1, v17.1.2.2.2)))] : List ((Bool × (Int × ((List (Int × (List Int))) × (List Int)))))))) 56) then
      Option.bind (dropI waits6 v15.1) fun (v18 : (List Int)) =>
      (X ((v18, @Unit.unit), (h0, (h1, (h2, (h3, (h4, ((IntKind.wrap .i64 (h5 + (1 : Int))), ((IntKind.wrap .i64 (h6 + v15.1)), (h7, (h8, (h9, (h10, ((h11 ++ ([(v17.1.1, (v17.1.2.1, (v17.1.2.2.1, v17.1.2.2.2)))] : List ((Bool × (Int × ((List (Int × (List Int))) × (List Int))))))), @Unit.unit))))))))))))))
     else
      none
noncomputable def law19_ReframeNobody_13_reframe_Stream_Write_L7_R (N : Nat) (c : (((List (Int)) × Unit) × ((Bool) × ((Int) × ((Int) × ((Int) × ((Bool) × ((Int) × ((Int) × ((Int) × ((List ((Bool) × ((Int) × ((List ((Int) × (List (Int)))) × (List (Int)))))) × ((List (Int)) × ((List (Int)) × ((List ((Bool) × ((Int) × ((List ((Int) × (List (Int)))) × (List (Int)))))) × Unit)))))))))))))) : Option (((((List (Int)) × Unit) × ((Bool) × ((Int) × ((Int) × ((Int) × ((Bool) × ((Int) × ((Int) × ((Int) × ((List ((Bool) × ((Int) × ((List ((Int) × (List (Int)))) × (List (Int)))))) × ((List (Int)) × ((List (Int)) × ((List ((Bool) × ((Int) × ((List ((Int) × (List (Int)))) × (List (Int)))))) × Unit))))))))))))) ⊕ (((List ((Bool) × ((Int) × ((List ((Int) × (List (Int)))) × (List (Int)))))) × ((Int) × Unit)) × ((Bool) × ((Int) × ((Int) × ((Int) × ((Bool) × ((Int) × ((Int) × ((Int) × ((List ((Bool) × ((Int) × ((List ((Int) × (List (Int)))) × (List (Int)))))) × ((List (Int)) × ((List (Int)) × Unit)))))))))))))) := gl (fun X c => law19_ReframeNobody_13_reframe_Stream_Write_L7 N X c.1.1 c.2.1 c.2.2.1 c.2.2.2.1 c.2.2.2.2.1 c.2.2.2.2.2.1 c.2.2.2.2.2.2.1 c.2.2.2.2.2.2.2.1 c.2.2.2.2.2.2.2.2.1 c.2.2.2.2.2.2.2.2.2.1 c.2.2.2.2.2.2.2.2.2.2.1 c.2.2.2.2.2.2.2.2.2.2.2.1 c.2.2.2.2.2.2.2.2.2.2.2.2.1) N c
theorem law19_ReframeNobody_13_reframe_Stream_Write_L7_S (N : Nat) (X : (((List (Int)) × Unit) × ((Bool) × ((Int) × ((Int) × ((Int) × ((Bool) × ((Int) × ((Int) × ((Int) × ((List ((Bool) × ((Int) × ((List ((Int) × (List (Int)))) × (List (Int)))))) × ((List (Int)) × ((List (Int)) × ((List ((Bool) × ((Int) × ((List ((Int) × (List (Int)))) × (List (Int)))))) × Unit))))))))))))) → Option (((((List (Int)) × Unit) × ((Bool) × ((Int) × ((Int) × ((Int) × ((Bool) × ((Int) × ((Int) × ((Int) × ((List ((Bool) × ((Int) × ((List ((Int) × (List (Int)))) × (List (Int)))))) × ((List (Int)) × ((List (Int)) × ((List ((Bool) × ((Int) × ((List ((Int) × (List (Int)))) × (List (Int)))))) × Unit))))))))))))) ⊕ (((List ((Bool) × ((Int) × ((List ((Int) × (List (Int)))) × (List (Int)))))) × ((Int) × Unit)) × ((Bool) × ((Int) × ((Int) × ((Int) × ((Bool) × ((Int) × ((Int) × ((Int) × ((List ((Bool) × ((Int) × ((List ((Int) × (List (Int)))) × (List (Int)))))) × ((List (Int)) × ((List (Int)) × Unit))))))))))))))) (waits6 : List (Int)) (h0 : Bool) (h1 : Int) (h2 : Int) (h3 : Int) (h4 : Bool) (h5 : Int) (h6 : Int) (h7 : Int) (h8 : List ((Bool) × ((Int) × ((List ((Int) × (List (Int)))) × (List (Int)))))) (h9 : List (Int)) (h10 : List (Int)) (h11 : List ((Bool) × ((Int) × ((List ((Int) × (List (Int)))) × (List (Int)))))) : (roundK Go.Proofs.Try.prog (Ev71 N) 400 [11, 13, 5] law19_ReframeNobody_13_reframe_Stream_Write_L7_I (loopAt Go.Proofs.Try.prog [11, 13, 5] 7) X ((waits6, ()), (h0, h1, h2, h3, h4, h5, h6, h7, h8, h9, h10, h11, ()))).run = law19_ReframeNobody_13_reframe_Stream_Write_L7 N X waits6 h0 h1 h2 h3 h4 h5 h6 h7 h8 h9 h10 h11 := by kernel_rfl
noncomputable def Ev72 (N : Nat) : (R : Type) → Env R := Env.addLp (Ev71 N) [11, 13, 5] 7 7 (fun R => lpK Go.Proofs.Try.prog law19_ReframeNobody_13_reframe_Stream_Write_L7_I (fun X c => law19_ReframeNobody_13_reframe_Stream_Write_L7 N X c.1.1 c.2.1 c.2.2.1 c.2.2.2.1 c.2.2.2.2.1 c.2.2.2.2.2.1 c.2.2.2.2.2.2.1 c.2.2.2.2.2.2.2.1 c.2.2.2.2.2.2.2.2.1 c.2.2.2.2.2.2.2.2.2.1 c.2.2.2.2.2.2.2.2.2.2.1 c.2.2.2.2.2.2.2.2.2.2.2.1 c.2.2.2.2.2.2.2.2.2.2.2.2.1) N)
theorem Ev72_ok (N : Nat) (R : Type) : EnvOK Go.Proofs.Try.prog (Ev72 N R) := EnvOK.addLp (Ev71_ok N R) (by kernel_rfl) (lpK_ok (li := law19_ReframeNobody_13_reframe_Stream_Write_L7_I) (G := fun X c => law19_ReframeNobody_13_reframe_Stream_Write_L7 N X c.1.1 c.2.1 c.2.2.1 c.2.2.2.1 c.2.2.2.2.1 c.2.2.2.2.2.1 c.2.2.2.2.2.2.1 c.2.2.2.2.2.2.2.1 c.2.2.2.2.2.2.2.2.1 c.2.2.2.2.2.2.2.2.2.1 c.2.2.2.2.2.2.2.2.2.2.1 c.2.2.2.2.2.2.2.2.2.2.2.1 c.2.2.2.2.2.2.2.2.2.2.2.2.1) hmx (Ev71_ok N _) (by kernel_rfl) loopAt_sub (fun (X : CT law19_ReframeNobody_13_reframe_Stream_Write_L7_I.sh → Option (OT law19_ReframeNobody_13_reframe_Stream_Write_L7_I.outs)) (c : CT law19_ReframeNobody_13_reframe_Stream_Write_L7_I.sh) => law19_ReframeNobody_13_reframe_Stream_Write_L7_S N X c.1.1 c.2.1 c.2.2.1 c.2.2.2.1 c.2.2.2.2.1 c.2.2.2.2.2.1 c.2.2.2.2.2.2.1 c.2.2.2.2.2.2.2.1 c.2.2.2.2.2.2.2.2.1 c.2.2.2.2.2.2.2.2.2.1 c.2.2.2.2.2.2.2.2.2.2.1 c.2.2.2.2.2.2.2.2.2.2.2.1 c.2.2.2.2.2.2.2.2.2.2.2.2.1) N)
noncomputable def law19_ReframeNobody_13_reframe_Stream_Write_L7_2_I : LI := ⟨97, 4, [(7, 42)], ⟨[(0, .lit (.box 2 0)), (6, .ty (.sl (.int .u8))), (7, .lit (.own 4))], [.boxp 49 [.ty .bool, .own 3, .ty (.int .i64), .ty (.int .i64), .ty (.int .i64)], .dead, .boxp 49 [.ty .bool, .own 5, .ty (.int .i64), .ty (.int .i64), .ty (.int .i64)], .own (.int .u8) 5, .own (.pair .bool (.pair (.int .u16) (.pair (.sl (.pair (.int .u8) (.sl (.int .u8)))) (.sl (.int .u8))))) 42, .own (.int .u8) 5]⟩, [(.exit 0, ⟨[(0, .lit (.box 2 0)), (6, .ty (.sl (.int .u8))), (7, .lit (.own 4))], [.boxp 49 [.ty .bool, .own 3, .ty (.int .i64), .ty (.int .i64), .ty (.int .i64)], .dead, .boxp 49 [.ty .bool, .own 5, .ty (.int .i64), .ty (.int .i64), .ty (.int .i64)], .own (.int .u8) 5, .own (.pair .bool (.pair (.int .u16) (.pair (.sl (.pair (.int .u8) (.sl (.int .u8)))) (.sl (.int .u8))))) 42, .own (.int .u8) 5]⟩), (.ret, ⟨[(4, .ty (.sl (.pair .bool (.pair (.int .u16) (.pair (.sl (.pair (.int .u8) (.sl (.int .u8)))) (.sl (.int .u8))))))), (5, .ty (.int .i64))], [.boxp 49 [.ty .bool, .own 3, .ty (.int .i64), .ty (.int .i64), .ty (.int .i64)], .dead, .boxp 49 [.ty .bool, .nil, .ty (.int .i64), .ty (.int .i64), .ty (.int .i64)], .own (.int .u8) 5]⟩)]⟩
noncomputable def law19_ReframeNobody_13_reframe_Stream_Write_L7_2 (N : Nat) (X : (((List (Int)) × Unit) × ((Bool) × ((Int) × ((Int) × ((Int) × ((Bool) × ((Int) × ((Int) × ((Int) × ((List (Int)) × ((List ((Bool) × ((Int) × ((List ((Int) × (List (Int)))) × (List (Int)))))) × ((List (Int)) × Unit)))))))))))) → Option (((((List (Int)) × Unit) × ((Bool) × ((Int) × ((Int) × ((Int) × ((Bool) × ((Int) × ((Int) × ((Int) × ((List (Int)) × ((List ((Bool) × ((Int) × ((List ((Int) × (List (Int)))) × (List (Int)))))) × ((List (Int)) × Unit)))))))))))) ⊕ (((List ((Bool) × ((Int) × ((List ((Int) × (List (Int)))) × (List (Int)))))) × ((Int) × Unit)) × ((Bool) × ((Int) × ((Int) × ((Int) × ((Bool) × ((Int) × ((Int) × ((Int) × ((List (Int)) × Unit))))))))))))) (waits6 : List (Int)) (h0 : Bool) (h1 : Int) (h2 : Int) (h3 : Int) (h4 : Bool) (h5 : Int) (h6 : Int) (h7 : Int) (h8 : List (Int)) (h9 : List ((Bool) × ((Int) × ((List ((Int) × (List (Int)))) × (List (Int)))))) (h10 : List (Int)) : Option (((((List (Int)) × Unit) × ((Bool) × ((Int) × ((Int) × ((Int) × ((Bool) × ((Int) × ((Int) × ((Int) × ((List (Int)) × ((List ((Bool) × ((Int) × ((List ((Int) × (List (Int)))) × (List (Int)))))) × ((List (Int)) × Unit)))))))))))) ⊕ (((List ((Bool) × ((Int) × ((List ((Int) × (List (Int)))) × (List (Int)))))) × ((Int) × Unit)) × ((Bool) × ((Int) × ((Int) × ((Int) × ((Bool) × ((Int) × ((Int) × ((Int) × ((List (Int)) × Unit)))))))))))) :=
 Option.bind (@packet_Length N waits6) fun (v14 : (Int × Int)) =>
 bif (decide (v14.2 = (4 : Int))) then
  some ((.inl ((waits6, @Unit.unit), (h0, (h1, (h2, (h3, (h4, (h5, (h6, (h7, (h8, (h9, (h10, @Unit.unit))))))))))))))
 else
  bif (decide (v14.2 = (0 : Int))) then
   Option.bind (some ((@cond Bool @Bool.false @Bool.true (@cond Bool @Bool.true (decide ((((List.length waits6) : Nat) : Int) < v14.1)) @Bool.false)))) fun (v15 : Bool) =>
   bif v15 then
    some ((.inl ((waits6, @Unit.unit), (h0, (h1, (h2, (h3, (h4, (h5, (h6, (h7, (h8, (h9, (h10, @Unit.unit))))))))))))))
   else
    bif (!(decide (v14.2 = (0 : Int)))) then
     some ((.inr ((h9, (v14.2, @Unit.unit)), (h0, (h1, (h2, (h3, (h4, (h5, (h6, (v14.2, (h8, @Unit.unit))))))))))))
    else
     Option.bind (takeI waits6 v14.1) fun (v16 : (List Int)) =>
     Option.bind (@packet_Parse N v16) fun (v17 : ((Bool × (Int × ((List (Int × (List Int))) × (List Int)))) × Int)) =>
     bif (!(decide (v17.2 = (0 : Int)))) then
      some ((.inr ((h9, (v17.2, @Unit.unit)), (h0, (h1, (h2, (h3, (h4, (h5, (h6, (v17.2, (h8, @Unit.unit))))))))))))
     else
      bif (roomB ((List.length h9) + (List.length ([(v17.1.1, (v17.1.2.1, (v17.1.2.2.1, v17.1.2.2.2)))] : List ((Bool × (Int × ((List (Int × (List Int))) × (List Int)))))))) 56) then
       Option.bind (dropI waits6 v14.1) fun (v18 : (List Int)) =>
       (X ((v18, @Unit.unit), (h0, (h1, (h2, (h3, (h4, ((IntKind.wrap .i64 (h5 + (1 : Int))), ((IntKind.wrap .i64 (h6 + v14.1)), (h7, (h8, ((h9 ++ ([(v17.1.1, (v17.1.2.1, (v17.1.2.2.1, v17.1.2.2.2)))] : List ((Bool × (Int × ((List (Int × (List Int))) × (List Int))))))), (h10, @Unit.unit)))))))))))))
      else
       none
  else
   bif (!(decide (v14.2 = (0 : Int)))) then
    some ((.inr ((h9, (v14.2, @Unit.unit)), (h0, (h1, (h2, (h3, (h4, (h5, (h6, (v14.2, (h8, @Unit.unit))))))))))))
   else
    Option.bind (takeI waits6 v14.1) fun (v15 : (List Int)) =>
    Option.bind (@packet_Parse N v15) fun (v16 : ((Bool × (Int × ((List (Int × (List Int))) × (List Int)))) × Int)) =>
    bif (!(decide (v16.2 = (0 : Int)))) then
     some ((.inr ((h9, (v16.2, @Unit.unit)), (h0, (h1, (h2, (h3, (h4, (h5, (h6, (v16.2, (h8, @Unit.unit))))))))))))
    else
     bif (roomB ((List.length h9) + (List.length ([(v16.1.1, (v16.1.2.1, (v16.1.2.2.1, v16.1.2.2.2)))] : List ((Bool × (Int × ((List (Int × (List Int))) × (List Int)))))))) 56) then
      Option.bind (dropI waits6 v14.1) fun (v17 : (List Int)) =>
      (X ((v17, @Unit.unit), (h0, (h1, (h2, (h3, (h4, ((IntKind.wrap .i64 (h5 + (1 : Int))), ((IntKind.wrap .i64 (h6 + v14.1)), (h7, (h8, ((h9 ++ ([(v16.1.1, (v16.1.2.1, (v16.1.2.2.1, v16.1.2.2.2)))] : List ((Bool × (Int × ((List (Int × (List Int))) × (List Int))))))), (h10, @Unit.unit)))))))))))))
     else
      none
noncomputable def law19_ReframeNobody_13_reframe_Stream_Write_L7_2_R (N : Nat) (c : (((List (Int)) × Unit) × ((Bool) × ((Int) × ((Int) × ((Int) × ((Bool) × ((Int) × ((Int) × ((Int) × ((List (Int)) × ((List ((Bool) × ((Int) × ((List ((Int) × (List (Int)))) × (List (Int)))))) × ((List (Int)) × Unit))))))))))))) : Option (((((List (Int)) × Unit) × ((Bool) × ((Int) × ((Int) × ((Int) × ((Bool) × ((Int) × ((Int) × ((Int) × ((List (Int)) × ((List ((Bool) × ((Int) × ((List ((Int) × (List (Int)))) × (List (Int)))))) × ((List (Int)) × Unit)))))))))))) ⊕ (((List ((Bool) × ((Int) × ((List ((Int) × (List (Int)))) × (List (Int)))))) × ((Int) × Unit)) × ((Bool) × ((Int) × ((Int) × ((Int) × ((Bool) × ((Int) × ((Int) × ((Int) × ((List (Int)) × Unit)))))))))))) := gl (fun X c => law19_ReframeNobody_13_reframe_Stream_Write_L7_2 N X c.1.1 c.2.1 c.2.2.1 c.2.2.2.1 c.2.2.2.2.1 c.2.2.2.2.2.1 c.2.2.2.2.2.2.1 c.2.2.2.2.2.2.2.1 c.2.2.2.2.2.2.2.2.1 c.2.2.2.2.2.2.2.2.2.1 c.2.2.2.2.2.2.2.2.2.2.1 c.2.2.2.2.2.2.2.2.2.2.2.1) N c
theorem law19_ReframeNobody_13_reframe_Stream_Write_L7_2_S (N : Nat) (X : (((List (Int)) × Unit) × ((Bool) × ((Int) × ((Int) × ((Int) × ((Bool) × ((Int) × ((Int) × ((Int) × ((List (Int)) × ((List ((Bool) × ((Int) × ((List ((Int) × (List (Int)))) × (List (Int)))))) × ((List (Int)) × Unit)))))))))))) → Option (((((List (Int)) × Unit) × ((Bool) × ((Int) × ((Int) × ((Int) × ((Bool) × ((Int) × ((Int) × ((Int) × ((List (Int)) × ((List ((Bool) × ((Int) × ((List ((Int) × (List (Int)))) × (List (Int)))))) × ((List (Int)) × Unit)))))))))))) ⊕ (((List ((Bool) × ((Int) × ((List ((Int) × (List (Int)))) × (List (Int)))))) × ((Int) × Unit)) × ((Bool) × ((Int) × ((Int) × ((Int) × ((Bool) × ((Int) × ((Int) × ((Int) × ((List (Int)) × Unit))))))))))))) (waits6 : List (Int)) (h0 : Bool) (h1 : Int) (h2 : Int) (h3 : Int) (h4 : Bool) (h5 : Int) (h6 : Int) (h7 : Int) (h8 : List (Int)) (h9 : List ((Bool) × ((Int) × ((List ((Int) × (List (Int)))) × (List (Int)))))) (h10 : List (Int)) : (roundK Go.Proofs.Try.prog (Ev72 N) 400 [11, 13, 5] law19_ReframeNobody_13_reframe_Stream_Write_L7_2_I (loopAt Go.Proofs.Try.prog [11, 13, 5] 7) X ((waits6, ()), (h0, h1, h2, h3, h4, h5, h6, h7, h8, h9, h10, ()))).run = law19_ReframeNobody_13_reframe_Stream_Write_L7_2 N X waits6 h0 h1 h2 h3 h4 h5 h6 h7 h8 h9 h10 := by kernel_rfl
noncomputable def Ev73 (N : Nat) : (R : Type) → Env R := Env.addLp (Ev72 N) [11, 13, 5] 4 7 (fun R => lpK Go.Proofs.Try.prog law19_ReframeNobody_13_reframe_Stream_Write_L7_2_I (fun X c => law19_ReframeNobody_13_reframe_Stream_Write_L7_2 N X c.1.1 c.2.1 c.2.2.1 c.2.2.2.1 c.2.2.2.2.1 c.2.2.2.2.2.1 c.2.2.2.2.2.2.1 c.2.2.2.2.2.2.2.1 c.2.2.2.2.2.2.2.2.1 c.2.2.2.2.2.2.2.2.2.1 c.2.2.2.2.2.2.2.2.2.2.1 c.2.2.2.2.2.2.2.2.2.2.2.1) N)
theorem Ev73_ok (N : Nat) (R : Type) : EnvOK Go.Proofs.Try.prog (Ev73 N R) := EnvOK.addLp (Ev72_ok N R) (by kernel_rfl) (lpK_ok (li := law19_ReframeNobody_13_reframe_Stream_Write_L7_2_I) (G := fun X c => law19_ReframeNobody_13_reframe_Stream_Write_L7_2 N X c.1.1 c.2.1 c.2.2.1 c.2.2.2.1 c.2.2.2.2.1 c.2.2.2.2.2.1 c.2.2.2.2.2.2.1 c.2.2.2.2.2.2.2.1 c.2.2.2.2.2.2.2.2.1 c.2.2.2.2.2.2.2.2.2.1 c.2.2.2.2.2.2.2.2.2.2.1 c.2.2.2.2.2.2.2.2.2.2.2.1) hmx (Ev72_ok N _) (by kernel_rfl) loopAt_sub (fun (X : CT law19_ReframeNobody_13_reframe_Stream_Write_L7_2_I.sh → Option (OT law19_ReframeNobody_13_reframe_Stream_Write_L7_2_I.outs)) (c : CT law19_ReframeNobody_13_reframe_Stream_Write_L7_2_I.sh) => law19_ReframeNobody_13_reframe_Stream_Write_L7_2_S N X c.1.1 c.2.1 c.2.2.1 c.2.2.2.1 c.2.2.2.2.1 c.2.2.2.2.2.1 c.2.2.2.2.2.2.1 c.2.2.2.2.2.2.2.1 c.2.2.2.2.2.2.2.2.1 c.2.2.2.2.2.2.2.2.2.1 c.2.2.2.2.2.2.2.2.2.2.1 c.2.2.2.2.2.2.2.2.2.2.2.1) N)
noncomputable def law19_ReframeNobody (N : Nat) (b0 : List (Int)) (more1 : List (Int)) : Option (Bool) :=
 bif (decide ((3000 : Int) < (((List.length b0) : Nat) : Int))) then
  Option.bind (@law19_alive N) fun (v3 : Bool) =>
  some (v3)
 else
  Option.bind (some ((@cond Bool @Bool.false @Bool.true (decide ((3000 : Int) < (((List.length more1) : Nat) : Int)))))) fun (v3 : Bool) =>
  bif v3 then
   Option.bind (@law19_alive N) fun (v4 : Bool) =>
   some (v4)
  else
   bif (roomB (List.length b0) 1) then
    Option.bind (law19_ReframeNobody_11_reframe_Stream_Write_L7_R N ((b0, @Unit.unit), (@Bool.false, ((0 : Int), ((0 : Int), ((0 : Int), (@Bool.true, ((0 : Int), ((0 : Int), ((0 : Int), (([] : List ((Bool × (Int × ((List (Int × (List Int))) × (List Int)))))), (([] : List (Int)), (([] : List (Int)), @Unit.unit))))))))))))) fun (v4 : ((((List Int) × Unit) × (Bool × (Int × (Int × (Int × (Bool × (Int × (Int × (Int × ((List (Bool × (Int × ((List (Int × (List Int))) × (List Int))))) × ((List Int) × ((List Int) × Unit)))))))))))) ⊕ (((List (Bool × (Int × ((List (Int × (List Int))) × (List Int))))) × (Int × Unit)) × (Bool × (Int × (Int × (Int × (Bool × (Int × (Int × (Int × ((List Int) × Unit)))))))))))) =>
    Sum.elim
     (fun (v5 : (((List Int) × Unit) × (Bool × (Int × (Int × (Int × (Bool × (Int × (Int × (Int × ((List (Bool × (Int × ((List (Int × (List Int))) × (List Int))))) × ((List Int) × ((List Int) × Unit))))))))))))) =>
     bif (roomB (List.length v5.1.1) 1) then
      Option.bind (some ((@cond Bool @Bool.false @Bool.true (!(v5.2.2.2.2).snd.1)))) fun (v6 : Bool) =>
      bif v6 then
       Option.bind (@law19_alive N) fun (v7 : Bool) =>
       some ((@cond Bool @Bool.true v7 @Bool.false))
      else
       bif (!(decide ((v5.2.2.2.2).snd.2.2.2.1 = (0 : Int)))) then
        Option.bind (@law19_alive N) fun (v7 : Bool) =>
        some ((@cond Bool @Bool.true v7 @Bool.false))
       else
        bif (roomB ((List.length v5.1.1) + (List.length more1)) 1) then
         Option.bind (law19_ReframeNobody_13_reframe_Stream_Write_L7_R N (((v5.1.1 ++ more1), @Unit.unit), (v5.2.1, (v5.2.2.1, (v5.2.2.2.1, (v5.2.2.2.2.1, ((v5.2.2.2.2).snd.1, ((v5.2.2.2.2).snd.2.1, ((v5.2.2.2.2).snd.2.2.1, ((v5.2.2.2.2).snd.2.2.2.1, (((v5.2.2.2.2).snd.2.2.2).snd.1, (((v5.2.2.2.2).snd.2.2.2).snd.2.1, (((v5.2.2.2.2).snd.2.2.2).snd.2.2.1, (([] : List ((Bool × (Int × ((List (Int × (List Int))) × (List Int)))))), @Unit.unit)))))))))))))) fun (v7 : ((((List Int) × Unit) × (Bool × (Int × (Int × (Int × (Bool × (Int × (Int × (Int × ((List (Bool × (Int × ((List (Int × (List Int))) × (List Int))))) × ((List Int) × ((List Int) × ((List (Bool × (Int × ((List (Int × (List Int))) × (List Int))))) × Unit))))))))))))) ⊕ (((List (Bool × (Int × ((List (Int × (List Int))) × (List Int))))) × (Int × Unit)) × (Bool × (Int × (Int × (Int × (Bool × (Int × (Int × (Int × ((List (Bool × (Int × ((List (Int × (List Int))) × (List Int))))) × ((List Int) × ((List Int) × Unit)))))))))))))) =>
         Sum.elim
          (fun (v8 : (((List Int) × Unit) × (Bool × (Int × (Int × (Int × (Bool × (Int × (Int × (Int × ((List (Bool × (Int × ((List (Int × (List Int))) × (List Int))))) × ((List Int) × ((List Int) × ((List (Bool × (Int × ((List (Int × (List Int))) × (List Int))))) × Unit)))))))))))))) =>
          bif (roomB (List.length v8.1.1) 1) then
           Option.bind (@law19_alive N) fun (v9 : Bool) =>
           some ((@cond Bool @Bool.true v9 @Bool.false))
          else
           none)
          (fun (v8 : (((List (Bool × (Int × ((List (Int × (List Int))) × (List Int))))) × (Int × Unit)) × (Bool × (Int × (Int × (Int × (Bool × (Int × (Int × (Int × ((List (Bool × (Int × ((List (Int × (List Int))) × (List Int))))) × ((List Int) × ((List Int) × Unit))))))))))))) =>
          Option.bind (@law19_alive N) fun (v9 : Bool) =>
          some ((@cond Bool @Bool.true v9 @Bool.false))) v7
        else
         none
     else
      none)
     (fun (v5 : (((List (Bool × (Int × ((List (Int × (List Int))) × (List Int))))) × (Int × Unit)) × (Bool × (Int × (Int × (Int × (Bool × (Int × (Int × (Int × ((List Int) × Unit))))))))))) =>
     Option.bind (some ((@cond Bool @Bool.false @Bool.true (!(v5.2.2.2.2).snd.1)))) fun (v6 : Bool) =>
     bif v6 then
      bif (decide (v5.1.2.1 = (0 : Int))) then
       Option.bind (@law19_alive N) fun (v7 : Bool) =>
       some ((@cond Bool @Bool.true v7 @Bool.false))
      else
       bif (decide ((2 : Int) = v5.1.2.1)) then
        bif (@cond Bool @Bool.true (decide ((v5.2.2.2.2).snd.2.1 = (v5.2.2.2.2).snd.2.1)) @Bool.false) then
         Option.bind (some ((@cond Bool @Bool.false @Bool.true (!(v5.2.2.2.2).snd.1)))) fun (v7 : Bool) =>
         Option.bind (bif v7 then
           some (@Bool.true)
          else
           some ((@cond Bool @Bool.false @Bool.true (!(decide ((v5.2.2.2.2).snd.2.2.2.1 = (0 : Int))))))) fun (v8 : Bool) =>
         bif v8 then
          Option.bind (@law19_alive N) fun (v9 : Bool) =>
          some ((@cond Bool @Bool.true v9 @Bool.false))
         else
          some (@Bool.false)
        else
         some (@Bool.false)
       else
        some (@Bool.false)
     else
      bif (!(decide ((v5.2.2.2.2).snd.2.2.2.1 = (0 : Int)))) then
       bif (decide (v5.1.2.1 = (0 : Int))) then
        Option.bind (@law19_alive N) fun (v7 : Bool) =>
        some ((@cond Bool @Bool.true v7 @Bool.false))
       else
        bif (decide ((v5.2.2.2.2).snd.2.2.2.1 = v5.1.2.1)) then
         bif (@cond Bool @Bool.true (decide ((v5.2.2.2.2).snd.2.1 = (v5.2.2.2.2).snd.2.1)) @Bool.false) then
          Option.bind (some ((@cond Bool @Bool.false @Bool.true (!(v5.2.2.2.2).snd.1)))) fun (v7 : Bool) =>
          Option.bind (bif v7 then
            some (@Bool.true)
           else
            some ((@cond Bool @Bool.false @Bool.true (!(decide ((v5.2.2.2.2).snd.2.2.2.1 = (0 : Int))))))) fun (v8 : Bool) =>
          bif v8 then
           Option.bind (@law19_alive N) fun (v9 : Bool) =>
           some ((@cond Bool @Bool.true v9 @Bool.false))
          else
           some (@Bool.false)
         else
          some (@Bool.false)
        else
         some (@Bool.false)
      else
       bif (roomB (List.length more1) 1) then
        Option.bind (law19_ReframeNobody_13_reframe_Stream_Write_L7_2_R N ((more1, @Unit.unit), (v5.2.1, (v5.2.2.1, (v5.2.2.2.1, (v5.2.2.2.2.1, ((v5.2.2.2.2).snd.1, ((v5.2.2.2.2).snd.2.1, ((v5.2.2.2.2).snd.2.2.1, ((v5.2.2.2.2).snd.2.2.2.1, (((v5.2.2.2.2).snd.2.2.2).snd.1, (([] : List ((Bool × (Int × ((List (Int × (List Int))) × (List Int)))))), (([] : List (Int)), @Unit.unit))))))))))))) fun (v7 : ((((List Int) × Unit) × (Bool × (Int × (Int × (Int × (Bool × (Int × (Int × (Int × ((List Int) × ((List (Bool × (Int × ((List (Int × (List Int))) × (List Int))))) × ((List Int) × Unit)))))))))))) ⊕ (((List (Bool × (Int × ((List (Int × (List Int))) × (List Int))))) × (Int × Unit)) × (Bool × (Int × (Int × (Int × (Bool × (Int × (Int × (Int × ((List Int) × Unit)))))))))))) =>
        Sum.elim
         (fun (v8 : (((List Int) × Unit) × (Bool × (Int × (Int × (Int × (Bool × (Int × (Int × (Int × ((List Int) × ((List (Bool × (Int × ((List (Int × (List Int))) × (List Int))))) × ((List Int) × Unit))))))))))))) =>
         bif (roomB (List.length v8.1.1) 1) then
          bif (decide (v5.1.2.1 = (0 : Int))) then
           Option.bind (@law19_alive N) fun (v9 : Bool) =>
           some ((@cond Bool @Bool.true v9 @Bool.false))
          else
           bif (decide ((0 : Int) = v5.1.2.1)) then
            bif (@cond Bool @Bool.true (decide ((((List.length ((v8.2.2.2.2).snd.2.2.2).snd.2.1) : Nat) : Int) = (0 : Int))) @Bool.false) then
             bif (@cond Bool @Bool.true (decide ((v8.2.2.2.2).snd.2.1 = (v5.2.2.2.2).snd.2.1)) @Bool.false) then
              bif (@cond Bool @Bool.true (decide ((((List.length v8.1.1) : Nat) : Int) = (0 : Int))) @Bool.false) then
               Option.bind (some ((@cond Bool @Bool.false @Bool.true (!(v8.2.2.2.2).snd.1)))) fun (v9 : Bool) =>
               Option.bind (bif v9 then
                 some (@Bool.true)
                else
                 some ((@cond Bool @Bool.false @Bool.true (!(decide ((v8.2.2.2.2).snd.2.2.2.1 = (0 : Int))))))) fun (v10 : Bool) =>
               bif v10 then
                Option.bind (@law19_alive N) fun (v11 : Bool) =>
                some ((@cond Bool @Bool.true v11 @Bool.false))
               else
                Option.bind (@packet_Length N v8.1.1) fun (v11 : (Int × Int)) =>
                bif (!(decide (v11.2 = (0 : Int)))) then
                 Option.bind (some ((@cond Bool @Bool.false @Bool.true (@cond Bool @Bool.true (decide ((IntKind.wrap .i64 ((4 : Int) - (((List.length v8.1.1) : Nat) : Int))) = (0 : Int))) @Bool.false)))) fun (v12 : Bool) =>
                 bif v12 then
                  Option.bind (@law19_alive N) fun (v13 : Bool) =>
                  some ((@cond Bool @Bool.true v13 @Bool.false))
                 else
                  some (@Bool.false)
                else
                 Option.bind (some ((@cond Bool @Bool.false @Bool.true (@cond Bool @Bool.true (decide ((IntKind.wrap .i64 (v11.1 - (((List.length v8.1.1) : Nat) : Int))) = (0 : Int))) @Bool.false)))) fun (v12 : Bool) =>
                 bif v12 then
                  Option.bind (@law19_alive N) fun (v13 : Bool) =>
                  some ((@cond Bool @Bool.true v13 @Bool.false))
                 else
                  some (@Bool.false)
              else
               some (@Bool.false)
             else
              some (@Bool.false)
            else
             some (@Bool.false)
           else
            some (@Bool.false)
         else
          none)
         (fun (v8 : (((List (Bool × (Int × ((List (Int × (List Int))) × (List Int))))) × (Int × Unit)) × (Bool × (Int × (Int × (Int × (Bool × (Int × (Int × (Int × ((List Int) × Unit))))))))))) =>
         bif (decide (v5.1.2.1 = (0 : Int))) then
          Option.bind (@law19_alive N) fun (v9 : Bool) =>
          some ((@cond Bool @Bool.true v9 @Bool.false))
         else
          bif (decide (v8.1.2.1 = v5.1.2.1)) then
           bif (@cond Bool @Bool.true (decide ((((List.length v8.1.1) : Nat) : Int) = (0 : Int))) @Bool.false) then
            bif (@cond Bool @Bool.true (decide ((v8.2.2.2.2).snd.2.1 = (v5.2.2.2.2).snd.2.1)) @Bool.false) then
             Option.bind (some ((@cond Bool @Bool.false @Bool.true (!(v8.2.2.2.2).snd.1)))) fun (v9 : Bool) =>
             Option.bind (bif v9 then
               some (@Bool.true)
              else
               some ((@cond Bool @Bool.false @Bool.true (!(decide ((v8.2.2.2.2).snd.2.2.2.1 = (0 : Int))))))) fun (v10 : Bool) =>
             bif v10 then
              Option.bind (@law19_alive N) fun (v11 : Bool) =>
              some ((@cond Bool @Bool.true v11 @Bool.false))
             else
              some (@Bool.false)
            else
             some (@Bool.false)
           else
            some (@Bool.false)
          else
           some (@Bool.false)) v7
       else
        none) v4
   else
    none
theorem law19_ReframeNobody_S (N : Nat) (b0 : List (Int)) (more1 : List (Int)) : (runK Go.Proofs.Try.prog (Ev73 N) 400 5 [(.sl (.int .u8)), (.sl (.int .u8))] [.bool] (b0, more1, ())).run = law19_ReframeNobody N b0 more1 := by kernel_rfl
theorem law19_ReframeNobody_C (N : Nat) (b0 : List (Int)) (more1 : List (Int)) (y : Bool) (h : law19_ReframeNobody N b0 more1 = some y) : CallsK Go.Proofs.Try.prog 5 (valA [(.sl (.int .u8)), (.sl (.int .u8))] (b0, more1, ())) (tupV (valR [.bool] y)) := runK_ok hmx (Ev73_ok N _) (okFn_ok (by kernel_rfl)) (by rw [law19_ReframeNobody_S]; exact h)
end Go.Proofs.Ytpijcgohhjgdbaa
namespace Go.Proofs.Ytpijcgohhjgdbaa
set_option maxRecDepth 100000
open Go.RowKit
set_option linter.unusedVariables false
set_option linter.unusedSimpArgs false
set_option maxRecDepth 100000
theorem list4 {l : List Int} (h : 4 ≤ l.length) : ∃ x y z w r, l = x :: y :: z :: w :: r := by
 match l, h with
 | x :: y :: z :: w :: r, _ => exact ⟨x, y, z, w, r, rfl⟩
section
variable {N : Nat}
theorem oget2 (x y : Int) (hx : 0 ≤ x ∧ x < 256) (hy : 0 ≤ y ∧ y < 256) (hN : 10000 ≤ N) : octs_Get N [x, y] false = some (x * 256 + y, 0) := get2 (N := N) x y hx hy (by omega)
theorem oclone (s : List Int) (h : s.length ≤ 1000000) : slices_Clone_byte_byte N s = some s := by
 have : roomB s.length 1 = true := roomB_of (by have := big_len; omega) (by omega)
 cases s <;> simp_all [slices_Clone_byte_byte, slices_Clone_byte_byte_ne]
abbrev At2 := Int × List Int
def kindB (k : Int) : Bool := decide (1 ≤ k ∧ k ≤ 4)
theorem kind_ok (k : Int) : attr_isKind N k = some (kindB k) := by
 unfold attr_isKind kindB
 by_cases h1 : 1 ≤ k <;> by_cases h2 : k ≤ 4 <;> simp [h1, h2]
def layA (a : At2) : List Int × Int := if kindB a.1 = false then ([], 9) else if 4091 < a.2.length then ([], 8) else (0 :: a.1 :: ((4 + (a.2.length : Int)) / 256) :: ((4 + (a.2.length : Int)) % 256) :: a.2, 0)
def parA (b : List Int) : At2 × Int × Int :=
 if b.length < 4 then ((0, []), (0, 4)) else if b.getD 0 0 ≠ 0 ∨ b.getD 2 0 * 256 + b.getD 3 0 < 4 ∨ 4095 < b.getD 2 0 * 256 + b.getD 3 0 then ((0, []), (0, 3)) else if kindB (b.getD 1 0) = false then ((0, []), (0, 9)) else
  if (b.length : Int) < b.getD 2 0 * 256 + b.getD 3 0 then ((0, []), (0, 4)) else ((b.getD 1 0, (b.drop 4).take ((b.getD 2 0 * 256 + b.getD 3 0).toNat - 4)), (b.getD 2 0 * 256 + b.getD 3 0, 0))
theorem apar_ok (b : List Int) (hl : b.length ≤ 100000) (hw : AllB b) (hN : 10000 ≤ N) : attr_Parse N b = some (parA b) := by
 unfold attr_Parse parA
 by_cases h4 : b.length < 4
 ·have c1 : (b.length : Int) < 4 := by omega
  rw [decide_eq_true c1, if_pos h4]; rfl
 ·have c1 : ¬ (b.length : Int) < 4 := by omega
  obtain ⟨x, y, z, u, r, rfl⟩ := list4 (by omega : 4 ≤ b.length)
  have bx := hw x (by simp)
  have by' := hw y (by simp)
  have bz := hw z (by simp)
  have bu := hw u (by simp)
  rw [decide_eq_false c1, if_neg h4]
  have s1 : subI (x :: y :: z :: u :: r) (2 : Int) 4 = some [z, u] := subI_nat _ (i := 2) (j := 4) rfl rfl (by omega) (by simp)
  have g0 : getI (x :: y :: z :: u :: r) (0 : Int) = some x := rfl
  have g1 : getI (x :: y :: z :: u :: r) (1 : Int) = some y := rfl
  have w1 : IntKind.wrap .i64 (z * 256 + u) = z * 256 + u := wrap64 (by omega) (by omega)
  simp only [cond_false, s1, Option.bind_some, oget2 z u bz bu hN, g0, g1, w1, kind_ok, List.getD_cons_zero, List.getD_cons_succ]
  by_cases hx : x = 0
  ·by_cases h1 : z * 256 + u < 4
   ·simp [hx, h1]
   ·by_cases h2 : 4095 < z * 256 + u
    ·simp [hx, h1, h2]
    ·cases hk : kindB y with
     | false => simp [hx, h1, h2]
     | true =>
      generalize hL : (x :: y :: z :: u :: r : List Int) = L at *
      by_cases h3 : (L.length : Int) < z * 256 + u
      ·simp [hx, h1, h2, h3]
      ·have s2 := subI_nat L (a := (4 : Int)) (b := z * 256 + u) (i := 4) (j := (z * 256 + u).toNat) rfl (by omega) (by omega) (by omega)
       have hc : slices_Clone_byte_byte N ((L.drop 4).take ((z * 256 + u).toNat - 4)) = some ((L.drop 4).take ((z * 256 + u).toNat - 4)) := oclone _ (by rw [List.length_take, List.length_drop]; omega)
       simp [hx, h1, h2, h3, s2, hc]
  ·simp [hx]
theorem parA_back (b : List Int) (hw : AllB b) (h : (parA b).2.2 = 0) : 4 ≤ (parA b).2.1 ∧ (parA b).2.1 ≤ (b.length : Int) ∧ layA (parA b).1 = (b.take (parA b).2.1.toNat, 0) := by
 unfold parA at h ⊢
 by_cases h4 : b.length < 4
 ·rw [if_pos h4] at h; cases h
 ·rw [if_neg h4] at h ⊢
  by_cases h5 : b.getD 0 0 ≠ 0 ∨ b.getD 2 0 * 256 + b.getD 3 0 < 4 ∨ 4095 < b.getD 2 0 * 256 + b.getD 3 0
  ·rw [if_pos h5] at h; cases h
  ·rw [if_neg h5] at h ⊢
   by_cases h6 : kindB (b.getD 1 0) = false
   ·rw [if_pos h6] at h; cases h
   ·rw [if_neg h6] at h ⊢
    by_cases h7 : (b.length : Int) < b.getD 2 0 * 256 + b.getD 3 0
    ·rw [if_pos h7] at h; cases h
    ·rw [if_neg h7]
     obtain ⟨x, y, z, u, r, rfl⟩ := list4 (by omega : 4 ≤ b.length)
     have bz := hw z (by simp)
     have bu := hw u (by simp)
     simp only [List.getD_cons_zero, List.getD_cons_succ] at h5 h6 h7 ⊢
     have hn : 4 ≤ z * 256 + u ∧ z * 256 + u ≤ 4095 := by omega
     have hx : x = 0 := by omega
     refine ⟨hn.1, by omega, ?_⟩
     obtain ⟨m, hm⟩ : ∃ m : Nat, (z * 256 + u).toNat = m + 4 := ⟨(z * 256 + u).toNat - 4, by omega⟩
     have hl : (((x :: y :: z :: u :: r).drop 4).take ((z * 256 + u).toNat - 4)).length = m := by
      simp only [List.length_take, List.drop_succ_cons, List.drop_zero]
      simp only [List.length_cons] at h7
      omega
     unfold layA
     simp only [hl]
     rw [if_neg h6, if_neg (by omega), hm]
     have e1 : ((4 : Int) + (m : Int)) / 256 = z := by omega
     have e2 : ((4 : Int) + (m : Int)) % 256 = u := by omega
     rw [e1, e2, hx]
     simp
end
def z3 (x y z : Int) : Bool := decide (x = 0) && decide (y = 0) && decide (z = 0)
section
variable {N : Nat}
end
abbrev Pk := Bool × Int × List At2 × List Int
theorem up64 {i n : Nat} (h : i < n) (hn : n ≤ 1000000000) : IntKind.wrap .i64 ((i : Int) + 1) = ((i + 1 : Nat) : Int) := by rw [wrap64 (by omega) (by omega)]; omega
theorem peta {α β : Type} (p : α × β) : (p.1, p.2) = p := rfl
section
variable {N : Nat}
end
section
variable {N : Nat}
end
def lenS (b : List Int) : Int × Int :=
 if b.length < 4 then (0, 4) else if b.getD 0 0 ≠ 16 then (0, 15) else
  if 1 < b.getD 1 0 ∨ b.getD 2 0 * 256 + b.getD 3 0 < (if b.getD 1 0 = 1 then 8 else 5) ∨ 4095 < b.getD 2 0 * 256 + b.getD 3 0 then (0, 3) else (b.getD 2 0 * 256 + b.getD 3 0, 0)
def decL : Nat → List Int → (List At2 × List Int) × Int
 | 0, b => (([], b), 0)
 | n + 1, b => if (parA b).2.2 = 0 then (if (decL n (b.drop (parA b).2.1.toNat)).2 = 0 then (((parA b).1 :: (decL n (b.drop (parA b).2.1.toNat)).1.1, (decL n (b.drop (parA b).2.1.toNat)).1.2), 0) else (([], []), (decL n (b.drop (parA b).2.1.toNat)).2)) else (([], []), (parA b).2.2)
def decW (acc : List At2) (r : (List At2 × List Int) × Int) : (List At2 × List Int) × Int := if r.2 = 0 then ((acc ++ r.1.1, r.1.2), 0) else (([], []), r.2)
theorem dec_succ (n : Nat) (b : List Int) : decL (n + 1) b = if (parA b).2.2 = 0 then (if (decL n (b.drop (parA b).2.1.toNat)).2 = 0 then (((parA b).1 :: (decL n (b.drop (parA b).2.1.toNat)).1.1, (decL n (b.drop (parA b).2.1.toNat)).1.2), 0) else (([], []), (decL n (b.drop (parA b).2.1.toNat)).2)) else (([], []), (parA b).2.2) := rfl
theorem decW_go (acc : List At2) (n : Nat) (b : List Int) (h : (parA b).2.2 = 0) : decW acc (decL (n + 1) b) = decW (acc ++ [(parA b).1]) (decL n (b.drop (parA b).2.1.toNat)) := by
 rw [dec_succ, if_pos h]
 unfold decW
 by_cases hr : (decL n (b.drop (parA b).2.1.toNat)).2 = 0
 ·simp [hr]
 ·simp [hr]
theorem decW_bad (acc : List At2) (n : Nat) (b : List Int) (h : ¬ (parA b).2.2 = 0) : decW acc (decL (n + 1) b) = (([], []), (parA b).2.2) := by
 rw [dec_succ, if_neg h]
 unfold decW
 simp [h]
theorem decW_nil (r : (List At2 × List Int) × Int) (h : r.2 = 0) : decW [] r = r := by
 unfold decW
 rw [if_pos h]
 obtain ⟨⟨x, y⟩, z⟩ := r
 simp only at h
 subst h
 rfl
section
variable {N : Nat}
theorem plen_ok (b : List Int) (hw : AllB b) (hN : 10000 ≤ N) : packet_Length N b = some (lenS b) := by
 unfold packet_Length lenS
 by_cases h4 : b.length < 4
 ·have c1 : (b.length : Int) < 4 := by omega
  rw [decide_eq_true c1, if_pos h4]; rfl
 ·have c1 : ¬ (b.length : Int) < 4 := by omega
  obtain ⟨x, y, z, u, r, rfl⟩ := list4 (by omega : 4 ≤ b.length)
  have by' := hw y (by simp)
  have bz := hw z (by simp)
  have bu := hw u (by simp)
  rw [decide_eq_false c1, if_neg h4]
  have s1 : subI (x :: y :: z :: u :: r) (2 : Int) 4 = some [z, u] := subI_nat _ (i := 2) (j := 4) rfl rfl (by omega) (by simp)
  have g0 : getI (x :: y :: z :: u :: r) (0 : Int) = some x := rfl
  have g1 : getI (x :: y :: z :: u :: r) (1 : Int) = some y := rfl
  have w1 : IntKind.wrap .i64 (z * 256 + u) = z * 256 + u := wrap64 (by omega) (by omega)
  simp only [cond_false, s1, Option.bind_some, oget2 z u bz bu hN, g0, g1, w1, List.getD_cons_zero, List.getD_cons_succ]
  by_cases hx : x = 16
  ·by_cases hy : y = 1
   ·by_cases h1 : z * 256 + u < 8 <;> by_cases h2 : 4095 < z * 256 + u <;> simp [hx, hy, h1, h2]
   ·by_cases hy2 : 1 < y
    ·simp [hx, hy, hy2]
    ·by_cases h1 : z * 256 + u < 5 <;> by_cases h2 : 4095 < z * 256 + u <;> simp [hx, hy, hy2, h1, h2]
  ·simp [hx]
theorem attrsL (many : Nat) (hm : many ≤ 8) (hN : 10000 ≤ N) : ∀ (k i : Nat) (b : List Int) (acc : List At2), AllB b → b.length ≤ 5000 → i ≤ many → many - i < k → acc.length = i → gl (fun (X : (((List (Int)) × ((Int) × ((Int) × Unit))) × ((List ((Int) × (List (Int)))) × Unit)) → Option (((((List ((Int) × (List (Int)))) × ((Int) × Unit)) × Unit) ⊕ (((List (Int)) × Unit) × ((List ((Int) × (List (Int)))) × Unit))))) c => packet_attrs_L5 N X c.1.1 c.1.2.1 c.1.2.2.1 c.2.1) k ((b, ((many : Int), ((i : Int), ()))), (acc, ())) = some (bif decide ((decW acc (decL (many - i) b)).2 = 0) then .inr (((decW acc (decL (many - i) b)).1.2, ()), ((decW acc (decL (many - i) b)).1.1, ())) else .inl (([], ((decW acc (decL (many - i) b)).2, ())), ())) := by
 intro k
 induction k with
 | zero => intro i b acc _ _ _ h; omega
 | succ k ih =>
  intro i b acc hw hb hi hk ha
  rw [gl_succ]
  by_cases c : i < many
  ·have c1 : ((i : Int) < (many : Int)) := by omega
   obtain ⟨m, hm'⟩ : ∃ m, many - i = m + 1 := ⟨many - i - 1, by omega⟩
   have hpar := apar_ok (N := N) b (by omega) hw hN
   have r : roomB (acc.length + ([((parA b).1.1, (parA b).1.2)] : List At2).length) 32 = true := by
    have h2 : ([((parA b).1.1, (parA b).1.2)] : List At2).length = 1 := rfl
    exact roomB_of (by have := big_len; omega) (by omega)
   rw [hm']
   simp only [packet_attrs_L5, c1, decide_true, cond_true, Option.bind_some, hpar, r]
   by_cases hz : (parA b).2.2 = 0
   ·obtain ⟨b1, b2, b3⟩ := parA_back b hw hz
    have hd := dropI_nat b (a := (parA b).2.1) (i := (parA b).2.1.toNat) (by omega) (by omega)
    rw [decW_go _ _ _ hz, decide_eq_true hz]
    simp only [Bool.not_true, cond_false, hd, Option.bind_some, up64 c (by omega), peta]
    have := ih (i + 1) (b.drop (parA b).2.1.toNat) (acc ++ [(parA b).1]) (hw.drop _) (by rw [List.length_drop]; omega) (by omega) (by omega) (by simp [ha])
    rw [show many - (i + 1) = m by omega] at this
    exact this
   ·rw [decW_bad _ _ _ hz, decide_eq_false hz]
    simp [hz]
  ·have c1 : ¬ ((i : Int) < (many : Int)) := by omega
   have e : many - i = 0 := by omega
   rw [e]
   simp [packet_attrs_L5, c1, decL, decW]
theorem list8 {l : List Int} (h : 8 ≤ l.length) : ∃ x y z u p q r s t, l = x :: y :: z :: u :: p :: q :: r :: s :: t := by
 match l, h with
 | x :: y :: z :: u :: p :: q :: r :: s :: t, _ => exact ⟨x, y, z, u, p, q, r, s, t, rfl⟩
def noP : Pk := (false, 0, [], [])
def allA (many : Int) (b : List Int) : List At2 × Int := if 8 < many then ([], 5) else if (decL many.toNat b).2 = 0 then (if (decL many.toNat b).1.2 = [] then ((decL many.toNat b).1.1, 0) else ([], 3)) else ([], (decL many.toNat b).2)
def parP (b : List Int) : Pk × Int :=
 if (lenS b).2 ≠ 0 then (noP, (lenS b).2) else if (b.length : Int) < (lenS b).1 then (noP, 4) else if (lenS b).1 < (b.length : Int) then (noP, 3) else
  if b.getD 1 0 = 0 then ((false, 0, [], b.drop 4), 0) else
   if (allA (b.getD 6 0 * 256 + b.getD 7 0) (b.drop 8)).2 = 0 then ((true, b.getD 4 0 * 256 + b.getD 5 0, (allA (b.getD 6 0 * 256 + b.getD 7 0) (b.drop 8)).1, []), 0) else (noP, (allA (b.getD 6 0 * 256 + b.getD 7 0) (b.drop 8)).2)
theorem attrs_ok (many : Int) (b : List Int) (h0 : 0 ≤ many) (hw : AllB b) (hb : b.length ≤ 5000) (hN : 10000 ≤ N) : packet_attrs N b many = some (allA many b) := by
 unfold packet_attrs allA packet_attrs_L5_R
 by_cases h8 : 8 < many
 ·rw [decide_eq_true h8, if_pos h8]; rfl
 ·rw [decide_eq_false h8, if_neg h8]
  simp only [cond_false]
  have h := attrsL (N := N) many.toNat (by omega) hN N 0 b [] hw hb (by omega) (by omega) rfl
  rw [show (many.toNat : Int) = many by omega] at h
  simp only [Int.natCast_zero, Nat.sub_zero] at h
  rw [h, Option.bind_some]
  by_cases hz : (decL many.toNat b).2 = 0
  ·simp only [decW_nil _ hz]
   rw [decide_eq_true hz, if_pos hz]
   simp only [cond_true, Sum.elim_inr]
   cases hr : (decL many.toNat b).1.2 with
   | nil => simp
   | cons x r =>
    have : (0 : Int) < (((x :: r).length : Nat) : Int) := by simp only [List.length_cons]; omega
    rw [decide_eq_true this]
    simp
  ·have hz' : ¬ (decW [] (decL many.toNat b)).2 = 0 := by unfold decW; rw [if_neg hz]; exact hz
   have e : (decW [] (decL many.toNat b)).2 = (decL many.toNat b).2 := by unfold decW; rw [if_neg hz]
   simp only [e, hz, decide_false, cond_false, Sum.elim_inl, if_false]
theorem lenS_fine {b : List Int} (h : (lenS b).2 = 0) (hw : AllB b) : 4 ≤ b.length ∧ b.getD 0 0 = 16 ∧ (lenS b).1 = b.getD 2 0 * 256 + b.getD 3 0 ∧ 5 ≤ (lenS b).1 ∧ (lenS b).1 ≤ 4095 ∧ (b.getD 1 0 = 0 ∨ b.getD 1 0 = 1 ∧ 8 ≤ (lenS b).1) := by
 unfold lenS at h ⊢
 by_cases h4 : b.length < 4
 ·rw [if_pos h4] at h; cases h
 ·rw [if_neg h4] at h ⊢
  by_cases h5 : b.getD 0 0 ≠ 16
  ·rw [if_pos h5] at h; cases h
  ·rw [if_neg h5] at h ⊢
   by_cases h6 : 1 < b.getD 1 0 ∨ b.getD 2 0 * 256 + b.getD 3 0 < (if b.getD 1 0 = 1 then 8 else 5) ∨ 4095 < b.getD 2 0 * 256 + b.getD 3 0
   ·rw [if_pos h6] at h; cases h
   ·rw [if_neg h6]
    obtain ⟨x, y, z, u, r, rfl⟩ := list4 (by omega : 4 ≤ b.length)
    have by' := hw y (by simp)
    simp only [List.getD_cons_zero, List.getD_cons_succ] at h5 h6 ⊢
    by_cases hy : y = 1
    ·rw [if_pos hy] at h6
     exact ⟨by simp, by omega, by trivial, by omega, by omega, Or.inr ⟨hy, by omega⟩⟩
    ·rw [if_neg hy] at h6
     exact ⟨by simp, by omega, by trivial, by omega, by omega, Or.inl (by omega)⟩
theorem ppar_ok (b : List Int) (hw : AllB b) (hb : b.length ≤ 100000) (hN : 10000 ≤ N) : packet_Parse N b = some (parP b) := by
 unfold packet_Parse parP
 rw [plen_ok b hw hN, Option.bind_some]
 by_cases hz : (lenS b).2 = 0
 ·have hz' : ¬ (lenS b).2 ≠ 0 := fun h => h hz
  obtain ⟨l1, l2, l3, l4, l5, l6⟩ := lenS_fine hz hw
  rw [decide_eq_true hz, if_neg hz']
  simp only [Bool.not_true, cond_false]
  by_cases h1 : (b.length : Int) < (lenS b).1
  ·rw [decide_eq_true h1, if_pos h1]; rfl
  ·rw [decide_eq_false h1, if_neg h1]
   simp only [cond_false]
   by_cases h2 : (lenS b).1 < (b.length : Int)
   ·rw [decide_eq_true h2, if_pos h2]; rfl
   ·rw [decide_eq_false h2, if_neg h2]
    simp only [cond_false]
    have hlen : (b.length : Int) = (lenS b).1 := by omega
    rcases l6 with h3 | ⟨h3, h8⟩
    ·rw [if_pos h3]
     obtain ⟨x, y, z, u, r, rfl⟩ := list4 l1
     simp only [List.getD_cons_zero, List.getD_cons_succ] at h3
     subst h3
     have g1 : getI (x :: 0 :: z :: u :: r) (1 : Int) = some 0 := rfl
     have hd : dropI (x :: 0 :: z :: u :: r) (4 : Int) = some r := dropI_nat _ (i := 4) rfl (by simp)
     have hc : slices_Clone_byte_byte N r = some r := oclone _ (by simp only [List.length_cons] at hb; omega)
     simp only [g1, Option.bind_some, decide_true, cond_true, hd, packet_OfData, hc]
     rfl
    ·rw [if_neg (by omega : ¬ b.getD 1 0 = 0)]
     obtain ⟨x, y, z, u, p, q, r, s, t, rfl⟩ := list8 (by omega : 8 ≤ b.length)
     have bp := hw p (by simp)
     have bq := hw q (by simp)
     have br := hw r (by simp)
     have bs := hw s (by simp)
     have g1 : getI (x :: y :: z :: u :: p :: q :: r :: s :: t) (1 : Int) = some y := rfl
     have s1 : subI (x :: y :: z :: u :: p :: q :: r :: s :: t) (4 : Int) 6 = some [p, q] := subI_nat _ (i := 4) (j := 6) rfl rfl (by omega) (by simp)
     have s2 : subI (x :: y :: z :: u :: p :: q :: r :: s :: t) (6 : Int) 8 = some [r, s] := subI_nat _ (i := 6) (j := 8) rfl rfl (by omega) (by simp)
     have hd : dropI (x :: y :: z :: u :: p :: q :: r :: s :: t) (8 : Int) = some t := dropI_nat _ (i := 8) rfl (by simp)
     have w1 : IntKind.wrap .i64 (r * 256 + s) = r * 256 + s := wrap64 (by omega) (by omega)
     have w2 : IntKind.wrap .u16 (p * 256 + q) = p * 256 + q := by rw [IntKind.wrap_u16]; omega
     have ha := attrs_ok (N := N) (r * 256 + s) t (by omega) (fun x hx => hw x (by simp [hx])) (by simp only [List.length_cons] at hlen l5; omega) hN
     simp only [List.getD_cons_zero, List.getD_cons_succ] at h3 ⊢
     have y0 : ¬ y = 0 := by omega
     simp only [g1, Option.bind_some, y0, decide_false, cond_false, s1, s2, hd, oget2 p q bp bq hN, oget2 r s br bs hN, w1, w2, ha, List.drop_succ_cons, List.drop_zero]
     by_cases he : (allA (r * 256 + s) t).2 = 0
     ·rw [decide_eq_true he, if_pos he]; rfl
     ·rw [decide_eq_false he, if_neg he]; rfl
 ·have hz' : (lenS b).2 ≠ 0 := hz
  rw [decide_eq_false hz, if_pos hz']; rfl
end
section
variable {N : Nat}
end
def bare (p : Pk) : Pk := bif p.1 then (true, p.2.1, p.2.2.1, []) else (false, 0, [], p.2.2.2)
theorem AllB.getD {l : List Int} (h : AllB l) (i : Nat) : 0 ≤ l.getD i 0 ∧ l.getD i 0 < 256 := by
 rw [List.getD_eq_getElem?_getD]
 by_cases hi : i < l.length
 ·rw [List.getElem?_eq_getElem hi]; exact h.get i hi
 ·rw [List.getElem?_eq_none (by omega)]; decide
abbrev Dr := List Pk × Nat × Int × List Int
def drn : Nat → List Int → Dr
 | 0, b => ([], 0, 0, b)
 | n + 1, b =>
  if b.length < 4 then ([], 0, 0, b) else
  if (lenS b).2 ≠ 0 then ([], 0, (lenS b).2, b) else
  if (b.length : Int) < (lenS b).1 then ([], 0, 0, b) else
  if (parP (b.take (lenS b).1.toNat)).2 ≠ 0 then ([], 0, (parP (b.take (lenS b).1.toNat)).2, b) else
  ((parP (b.take (lenS b).1.toNat)).1 :: (drn n (b.drop (lenS b).1.toNat)).1, (lenS b).1.toNat + (drn n (b.drop (lenS b).1.toNat)).2.1, (drn n (b.drop (lenS b).1.toNat)).2.2.1, (drn n (b.drop (lenS b).1.toNat)).2.2.2)
def D (b : List Int) : Dr := drn (b.length + 1) b
theorem lenS_vals {b : List Int} (h : 4 ≤ b.length) : (lenS b).2 = 15 ∨ (lenS b).2 = 3 ∨ (lenS b).2 = 0 := by
 unfold lenS
 rw [if_neg (by omega)]
 by_cases h1 : b.getD 0 0 ≠ 16
 ·rw [if_pos h1]; exact .inl rfl
 ·rw [if_neg h1]
  by_cases h2 : 1 < b.getD 1 0 ∨ b.getD 2 0 * 256 + b.getD 3 0 < (if b.getD 1 0 = 1 then 8 else 5) ∨ 4095 < b.getD 2 0 * 256 + b.getD 3 0
  ·rw [if_pos h2]; exact .inr (.inl rfl)
  ·rw [if_neg h2]; exact .inr (.inr rfl)
theorem lenS_err {b : List Int} (h : 4 ≤ b.length) : (lenS b).2 ≠ 4 := by
 rcases lenS_vals h with e | e | e <;> rw [e] <;> decide
theorem lenS_lt {b : List Int} (h : b.length < 4) : lenS b = (0, 4) := by unfold lenS; rw [if_pos h]
theorem loopA (h0 : Bool) (h1 : Int) (h2 : Int) (h3 : Int) (h4 : Bool) (h7 : Int) (h9 : List Int) (h10 : List Int) : ∀ (k : Nat) (b : List Int) (c a : Int) (t : List Pk), AllB b → b.length < k → b.length ≤ 100000 → t.length + b.length ≤ 1000000 →
  ∃ r, gl (fun X c => law19_ReframeNobody_11_reframe_Stream_Write_L7 200000 X c.1.1 c.2.1 c.2.2.1 c.2.2.2.1 c.2.2.2.2.1 c.2.2.2.2.2.1 c.2.2.2.2.2.2.1 c.2.2.2.2.2.2.2.1 c.2.2.2.2.2.2.2.2.1 c.2.2.2.2.2.2.2.2.2.1 c.2.2.2.2.2.2.2.2.2.2.1 c.2.2.2.2.2.2.2.2.2.2.2.1) k ((b, ()), (h0, (h1, (h2, (h3, (h4, (c, (a, (h7, (t, (h9, (h10, ())))))))))))) = some r ∧ ((∃ w c a t, r = .inl ((w, ()), (h0, (h1, (h2, (h3, (h4, (c, (a, (h7, (t, (h9, (h10, ())))))))))))) ∧ AllB w ∧ w.length ≤ b.length) ∨ (∃ t e c a, e ≠ 0 ∧ r = .inr ((t, (e, ())), (h0, (h1, (h2, (h3, (h4, (c, (a, (e, (h9, ()))))))))))))
 | 0, b, _, _, _, _, h, _, _ => by omega
 | k + 1, b, c, a, t, hw, hk, hb, h5 => by
  rw [gl_succ]
  show ∃ r, law19_ReframeNobody_11_reframe_Stream_Write_L7 200000 (gl _ k) b h0 h1 h2 h3 h4 c a h7 t h9 h10 = some r ∧ _
  have ih := loopA h0 h1 h2 h3 h4 h7 h9 h10 k
  generalize gl (fun X c => law19_ReframeNobody_11_reframe_Stream_Write_L7 200000 X c.1.1 c.2.1 c.2.2.1 c.2.2.2.1 c.2.2.2.2.1 c.2.2.2.2.2.1 c.2.2.2.2.2.2.1 c.2.2.2.2.2.2.2.1 c.2.2.2.2.2.2.2.2.1 c.2.2.2.2.2.2.2.2.2.1 c.2.2.2.2.2.2.2.2.2.2.1 c.2.2.2.2.2.2.2.2.2.2.2.1) k = Y at ih ⊢
  unfold law19_ReframeNobody_11_reframe_Stream_Write_L7
  rw [plen_ok b hw (by omega), Option.bind_some]
  by_cases a1 : b.length < 4
  ·rw [lenS_lt a1]
   exact ⟨_, rfl, .inl ⟨b, c, a, t, rfl, hw, Nat.le_refl _⟩⟩
  ·have e4 := lenS_err (b := b) (by omega)
   rw [decide_eq_false e4]
   by_cases a2 : (lenS b).2 ≠ 0
   ·rw [decide_eq_false a2]
    exact ⟨_, rfl, .inr ⟨t, _, c, a, a2, rfl⟩⟩
   ·have a2 : (lenS b).2 = 0 := Decidable.not_not.1 a2
    have hf := lenS_fine a2 hw
    rw [decide_eq_true a2]
    by_cases a3 : (b.length : Int) < (lenS b).1
    ·rw [decide_eq_true a3]
     exact ⟨_, rfl, .inl ⟨b, c, a, t, rfl, hw, Nat.le_refl _⟩⟩
    ·rw [decide_eq_false a3]
     have ht : takeI b (lenS b).1 = some (b.take (lenS b).1.toNat) := takeI_nat b (by omega) (by omega)
     have hd : dropI b (lenS b).1 = some (b.drop (lenS b).1.toNat) := dropI_nat b (by omega) (by omega)
     have hp := ppar_ok (N := 200000) (b.take (lenS b).1.toNat) (hw.take _) (by rw [List.length_take]; omega) (by omega)
     simp only [cond_false, cond_true, Bool.not_true, ht, Option.bind_some, hp, hd]
     by_cases a4 : (parP (b.take (lenS b).1.toNat)).2 ≠ 0
     ·rw [decide_eq_false a4]
      exact ⟨_, rfl, .inr ⟨t, _, c, a, a4, rfl⟩⟩
     ·have a4 : (parP (b.take (lenS b).1.toNat)).2 = 0 := Decidable.not_not.1 a4
      rw [decide_eq_true a4]
      have hr : roomB (t.length + ([((parP (b.take (lenS b).1.toNat)).1.1, ((parP (b.take (lenS b).1.toNat)).1.2.1, ((parP (b.take (lenS b).1.toNat)).1.2.2.1, (parP (b.take (lenS b).1.toNat)).1.2.2.2)))] : List Pk).length) 56 = true := by
       simp only [List.length_cons, List.length_nil]
       exact roomB_of (by have := big_len; omega) (by omega)
      simp only [Bool.not_true, cond_false, hr, cond_true]
      have hdl : (b.drop (lenS b).1.toNat).length = b.length - (lenS b).1.toNat := List.length_drop
      obtain ⟨r, q1, q2⟩ := ih (b.drop (lenS b).1.toNat) (IntKind.wrap .i64 (c + 1)) (IntKind.wrap .i64 (a + (lenS b).1)) (t ++ [(parP (b.take (lenS b).1.toNat)).1]) (hw.drop _) (by omega) (by omega) (by rw [List.length_append]; simp only [List.length_cons, List.length_nil]; omega)
      refine ⟨r, q1, ?_⟩
      rcases q2 with q2 | q2
      ·left
       obtain ⟨w, c2, a2, t2, e, e2, e3⟩ := q2
       exact ⟨w, c2, a2, t2, e, e2, by omega⟩
      ·exact .inr q2
theorem loopB (h0 : Bool) (h1 : Int) (h2 : Int) (h3 : Int) (h4 : Bool) (h7 : Int) (h8 : List Pk) (h9 : List Int) (h10 : List Int) : ∀ (k : Nat) (b : List Int) (c a : Int) (t : List Pk), AllB b → b.length < k → b.length ≤ 100000 → t.length + b.length ≤ 1000000 →
  ∃ r, gl (fun X c => law19_ReframeNobody_13_reframe_Stream_Write_L7 200000 X c.1.1 c.2.1 c.2.2.1 c.2.2.2.1 c.2.2.2.2.1 c.2.2.2.2.2.1 c.2.2.2.2.2.2.1 c.2.2.2.2.2.2.2.1 c.2.2.2.2.2.2.2.2.1 c.2.2.2.2.2.2.2.2.2.1 c.2.2.2.2.2.2.2.2.2.2.1 c.2.2.2.2.2.2.2.2.2.2.2.1 c.2.2.2.2.2.2.2.2.2.2.2.2.1) k ((b, ()), (h0, (h1, (h2, (h3, (h4, (c, (a, (h7, (h8, (h9, (h10, (t, ()))))))))))))) = some r ∧ ((∃ v, r = .inl v ∧ v.1.1.length ≤ b.length) ∨ ∃ v, r = .inr v)
 | 0, b, _, _, _, _, h, _, _ => by omega
 | k + 1, b, c, a, t, hw, hk, hb, h5 => by
  rw [gl_succ]
  show ∃ r, law19_ReframeNobody_13_reframe_Stream_Write_L7 200000 (gl _ k) b h0 h1 h2 h3 h4 c a h7 h8 h9 h10 t = some r ∧ _
  have ih := loopB h0 h1 h2 h3 h4 h7 h8 h9 h10 k
  generalize gl (fun X c => law19_ReframeNobody_13_reframe_Stream_Write_L7 200000 X c.1.1 c.2.1 c.2.2.1 c.2.2.2.1 c.2.2.2.2.1 c.2.2.2.2.2.1 c.2.2.2.2.2.2.1 c.2.2.2.2.2.2.2.1 c.2.2.2.2.2.2.2.2.1 c.2.2.2.2.2.2.2.2.2.1 c.2.2.2.2.2.2.2.2.2.2.1 c.2.2.2.2.2.2.2.2.2.2.2.1 c.2.2.2.2.2.2.2.2.2.2.2.2.1) k = Y at ih ⊢
  unfold law19_ReframeNobody_13_reframe_Stream_Write_L7
  rw [plen_ok b hw (by omega), Option.bind_some]
  by_cases a1 : b.length < 4
  ·rw [lenS_lt a1]
   exact ⟨_, rfl, .inl ⟨_, rfl, Nat.le_refl _⟩⟩
  ·have e4 := lenS_err (b := b) (by omega)
   rw [decide_eq_false e4]
   by_cases a2 : (lenS b).2 ≠ 0
   ·rw [decide_eq_false a2]
    exact ⟨_, rfl, .inr ⟨_, rfl⟩⟩
   ·have a2 : (lenS b).2 = 0 := Decidable.not_not.1 a2
    have hf := lenS_fine a2 hw
    rw [decide_eq_true a2]
    by_cases a3 : (b.length : Int) < (lenS b).1
    ·rw [decide_eq_true a3]
     exact ⟨_, rfl, .inl ⟨_, rfl, Nat.le_refl _⟩⟩
    ·rw [decide_eq_false a3]
     have ht : takeI b (lenS b).1 = some (b.take (lenS b).1.toNat) := takeI_nat b (by omega) (by omega)
     have hd : dropI b (lenS b).1 = some (b.drop (lenS b).1.toNat) := dropI_nat b (by omega) (by omega)
     have hp := ppar_ok (N := 200000) (b.take (lenS b).1.toNat) (hw.take _) (by rw [List.length_take]; omega) (by omega)
     simp only [cond_false, cond_true, Bool.not_true, ht, Option.bind_some, hp, hd]
     by_cases a4 : (parP (b.take (lenS b).1.toNat)).2 ≠ 0
     ·rw [decide_eq_false a4]
      exact ⟨_, rfl, .inr ⟨_, rfl⟩⟩
     ·have a4 : (parP (b.take (lenS b).1.toNat)).2 = 0 := Decidable.not_not.1 a4
      rw [decide_eq_true a4]
      have hr : roomB (t.length + ([((parP (b.take (lenS b).1.toNat)).1.1, ((parP (b.take (lenS b).1.toNat)).1.2.1, ((parP (b.take (lenS b).1.toNat)).1.2.2.1, (parP (b.take (lenS b).1.toNat)).1.2.2.2)))] : List Pk).length) 56 = true := by
       simp only [List.length_cons, List.length_nil]
       exact roomB_of (by have := big_len; omega) (by omega)
      simp only [Bool.not_true, cond_false, hr, cond_true]
      have hdl : (b.drop (lenS b).1.toNat).length = b.length - (lenS b).1.toNat := List.length_drop
      obtain ⟨r, q1, q2⟩ := ih (b.drop (lenS b).1.toNat) (IntKind.wrap .i64 (c + 1)) (IntKind.wrap .i64 (a + (lenS b).1)) (t ++ [(parP (b.take (lenS b).1.toNat)).1]) (hw.drop _) (by omega) (by omega) (by rw [List.length_append]; simp only [List.length_cons, List.length_nil]; omega)
      refine ⟨r, q1, ?_⟩
      rcases q2 with q2 | q2
      ·left
       obtain ⟨v, e, e2⟩ := q2
       exact ⟨v, e, by omega⟩
      ·exact .inr q2
theorem alive19 : law19_alive 200000 = some true := by kernel_rfl
theorem law_ReframeNobody (b more : List Int) (hb0 : wfT (.sl (.int .u8)) b) (hm0 : wfT (.sl (.int .u8)) more) : law19_ReframeNobody 200000 b more = some true := by
 have hb := wf_bytes hb0
 have hm := wf_bytes hm0
 have rm : ∀ n : Nat, n ≤ 100000 → roomB n 1 = true := fun n hn => roomB_of (by have := big_len; omega) (by omega)
 unfold law19_ReframeNobody
 by_cases h1 : (3000 : Int) < ((b.length : Nat) : Int)
 ·rw [decide_eq_true h1]
  simp only [cond_true, alive19, Option.bind_some]
 rw [decide_eq_false h1]
 by_cases h2 : (3000 : Int) < ((more.length : Nat) : Int)
 ·rw [decide_eq_true h2]
  simp only [cond_true, cond_false, alive19, Option.bind_some]
 rw [decide_eq_false h2]
 have r0 := rm b.length (by omega)
 obtain ⟨r, q1, q2⟩ := loopA false 0 0 0 true 0 [] [] 200000 b 0 0 [] hb (by omega) (by omega) (by simp; omega)
 have q1' : law19_ReframeNobody_11_reframe_Stream_Write_L7_R 200000 ((b, ()), (false, ((0 : Int), ((0 : Int), ((0 : Int), (true, ((0 : Int), ((0 : Int), ((0 : Int), (([] : List Pk), (([] : List Int), (([] : List Int), ())))))))))))) = some r := q1
 simp only [cond_false, cond_true, Option.bind_some, r0, q1']
 rcases q2 with ⟨w, c, a, t, rfl, w1, w2⟩ | ⟨t, e, c, a, ne, rfl⟩
 ·have r1 := rm w.length (by omega)
  have r2 := rm (w.length + more.length) (by omega)
  obtain ⟨s, p1, p2⟩ := loopB false 0 0 0 true 0 t [] [] 200000 (w ++ more) c a [] (w1.append hm) (by rw [List.length_append]; omega) (by rw [List.length_append]; omega) (by rw [List.length_append]; simp; omega)
  have p1' : law19_ReframeNobody_13_reframe_Stream_Write_L7_R 200000 ((w ++ more, ()), (false, ((0 : Int), ((0 : Int), ((0 : Int), (true, (c, (a, ((0 : Int), (t, (([] : List Int), (([] : List Int), (([] : List Pk), ()))))))))))))) = some s := p1
  simp only [Sum.elim_inl, r1, r2, cond_true, cond_false, Bool.not_true, decide_true, Option.bind_some, p1']
  rcases p2 with ⟨v, rfl, hv⟩ | ⟨v, rfl⟩
  ·have r3 := rm v.1.1.length (by rw [List.length_append] at hv; omega)
   simp only [Sum.elim_inl, r3, cond_true, alive19, Option.bind_some]
  ·simp only [Sum.elim_inr, cond_true, alive19, Option.bind_some]
 ·have d0 : decide (e = 0) = false := decide_eq_false ne
  simp only [Sum.elim_inr, cond_true, cond_false, Bool.not_true, Bool.not_false, Option.bind_some, d0, decide_true, alive19]
end Go.Proofs.Ytpijcgohhjgdbaa
