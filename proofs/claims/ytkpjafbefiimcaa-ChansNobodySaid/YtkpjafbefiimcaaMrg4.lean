/-
  Parts of my own, one behind the other: KRead, KD, GChn, QCn.
-/
import Derived.Test.YtkpjafbefiimcaaMrg3
namespace Go.Proofs.Ytkpjafbefiimcaa
set_option maxRecDepth 100000
open Go.ChangeShapes Go.WideShapes Go.ChangeAt Go.RowKit
set_option linter.unusedVariables false
set_option linter.unusedSimpArgs false
def wfT : (d : Td) → T d → Prop
 | .int k, n => (Lit.int k n).wf = true
 | .bool, _ => True
 | .str, s => s.length ≤ maxLen
 | .sl d, l => l.length ≤ maxLen ∧ ∀ x ∈ l, wfT d x
 | .arr n d, a => ∀ x ∈ a.l, wfT d x
 | .pair d e, x => wfT d x.1 ∧ wfT e x.2
section
variable {P : Program} {H : Type} {enc : TypeId × Value → H} {W : World}
theorem pick_list {α : Type} (Q : Nat → α → Prop) : ∀ n, (∀ i, i < n → ∃ y, Q i y) → ∃ l : List α, l.length = n ∧ ∀ i y, l[i]? = some y → Q i y
 | 0, _ => ⟨[], rfl, fun i y h => by simp at h⟩
 | n + 1, h => by
  obtain ⟨l, h1, h2⟩ := pick_list Q n fun i hi => h i (by omega)
  obtain ⟨y, hy⟩ := h n (by omega)
  refine ⟨l ++ [y], by simp [h1], fun i z hz => ?_⟩
  rcases Nat.lt_or_ge i n with hi | hi
  ·rw [List.getElem?_append_left (by omega)] at hz; exact h2 i z hz
  ·rw [List.getElem?_append_right (by omega)] at hz
   have : i - l.length = 0 := by have := (List.getElem?_eq_some_iff.1 hz).1; simp at this; omega
   rw [this] at hz
   simp at hz
   subst hz
   rw [show i = n by omega]; exact hy
theorem cell_spot {a : Addr} {v : Value} (h : W.cell? a = some v) : a.spot = none := by
 unfold World.cell? at h
 split at h
 ·split at h
  ·cases h
  ·rename_i hs; cases hx : a.spot with
   | none => rfl
   | some _ => rw [hx] at hs; simp at hs
 ·cases h
theorem add_add (a : Addr) (i j : Nat) (h : a.spot = none) : (a.add i).add j = a.add (i + j) := by
 unfold Addr.add
 obtain ⟨b, o, s⟩ := a
 simp only at h
 subst h
 by_cases hi : i = 0 <;> by_cases hj : j = 0 <;> simp [hi, hj, Nat.add_assoc]
theorem cells_get {a : Addr} {n : Nat} {cs : List Value} (h : W.cells? 0 a n = some cs) : cs.length = n ∧ ∀ i u, cs[i]? = some u → W.cell? (a.add i) = some u := by
 unfold World.cells? at h
 rw [if_pos (Nat.zero_le _)] at h
 have hl := mapM_some_length h
 rw [List.length_range] at hl
 refine ⟨hl, fun i u hu => ?_⟩
 have hi : i < n := by have := (List.getElem?_eq_some_iff.1 hu).1; omega
 rw [mapM_some_get h i i (by simp [hi])]
 exact hu
theorem flat_rel {d : Td} (xs : List (T d)) (us : Nat → Value) (B : List Nat) (h : ∀ i x, xs[i]? = some x → ∀ j y, (cells d x)[j]? = some y → Rel W B [] y (us (i * wd d + j))) : ∀ i y, (flat d xs)[i]? = some y → Rel W B [] y (us i) := by
 intro i y hy
 have hi : i < xs.length * wd d := by have := (List.getElem?_eq_some_iff.1 hy).1; rwa [flat_length] at this
 have hw : 0 < wd d := by rcases Nat.eq_zero_or_pos (wd d) with h | h; rw [h] at hi; omega; exact h
 have hq : i / wd d < xs.length := Nat.div_lt_of_lt_mul (by rw [Nat.mul_comm]; exact hi)
 have hx : xs[i / wd d]? = some xs[i / wd d] := List.getElem?_eq_getElem hq
 have hf := flat_at d xs (i / wd d) _ hx
 have hr : i % wd d < wd d := Nat.mod_lt _ hw
 have hdm := Nat.div_add_mod i (wd d)
 have h1 : (cells d xs[i / wd d])[i % wd d]? = some y := by
  rw [← hf, List.getElem?_take, if_pos hr, List.getElem?_drop]
  rw [show i / wd d * wd d + i % wd d = i by rw [Nat.mul_comm]; exact hdm]
  exact hy
 have := h _ _ hx _ _ h1
 rwa [show i / wd d * wd d + i % wd d = i by rw [Nat.mul_comm]; exact hdm] at this
mutual
theorem read_td : ∀ (n : Nat) (t : TypeId) (d : Td), layT' P n t d = true → ∀ (fuel : Nat) (cs : List Value) (x : DataW H × List MemPlace), DataW.trod enc P W 0 (fun _ => true) true fuel t cs = some x → ∃ y : T d, RelL W [] [] (cells d y) cs ∧ wfT d y
 | 0, t, d, h => by simp [layT'] at h
 | n + 1, t, d, h => by
  intro fuel cs x hx
  simp only [layT', Bool.and_eq_true, beq_iff_eq] at h
  obtain ⟨hc, h⟩ := h
  split at h
  ·rename_i k k' hu
   have := of_decide_eq_true h
   subst this
   obtain ⟨z, rfl, _, hw⟩ := DataW.trod_int hu hx
   exact ⟨z, RelL.cons (.c _ _) (RelL.nil _ _ _), hw⟩
  ·rename_i hu
   obtain ⟨z, rfl, _⟩ := DataW.trod_bool hu hx
   exact ⟨z, RelL.cons (.c _ _) (RelL.nil _ _ _), trivial⟩
  ·rename_i hu
   obtain ⟨s, rfl, _, hs⟩ := DataW.trod_string hu hx
   refine ⟨s.data.toList, RelL.cons ?_ (RelL.nil _ _ _), by show s.data.toList.length ≤ maxLen; simpa using hs⟩
   have : (⟨s.data.toList.toArray⟩ : ByteArray) = s := by cases s; simp
   rw [this]; exact .c _ _
  ·rename_i e d hu
   simp only [Bool.and_eq_true, decide_eq_true_eq] at h
   obtain ⟨hw, h⟩ := h
   have hce := layT_cells h
   rcases DataW.trod_slice hu hx with ⟨rfl, _⟩ | ⟨a, len, cap, elems, rest, m, rfl, rfl, _, _, hlc, hm, hel, hels, _⟩
   ·exact ⟨[], RelL.cons (rel_nil_sl hw (.c _ _)) (RelL.nil _ _ _), by simp [maxLen], fun x hx => by cases hx⟩
   ·obtain ⟨ys, hy1, hy2⟩ := pick_list (fun i y => ∃ us, W.cells? 0 (a.add (i * wd d)) (wd d) = some us ∧ RelL W [] [] (cells d y) us ∧ wfT d y) len fun i hi => by
     have h0 := hels i hi
     rw [List.getElem?_eq_getElem (by omega), hce] at h0
     obtain ⟨us, q1, q2⟩ := Option.bind_eq_some_iff.1 h0
     obtain ⟨y, q3, q4⟩ := read_td n e d h _ _ _ q2
     exact ⟨y, us, q1, q3, q4⟩
    refine ⟨ys, RelL.cons ?_ (RelL.nil _ _ _), by rw [hy1]; omega, fun x hx => ?_⟩
    ·have hspot : 0 < len → a.spot = none := fun h0 => by
      obtain ⟨us, q1, q3, _⟩ := hy2 0 ys[0] (List.getElem?_eq_getElem (by omega))
      have hl := (cells_get q1).1
      have := (cells_get q1).2 0 us[0] (List.getElem?_eq_getElem (by omega))
      have := cell_spot this
      unfold Addr.add at this
      simpa using this
     have hcell : ∀ i x, ys[i]? = some x → ∀ j y, (cells d x)[j]? = some y → Rel W [] [] y ((W.cell? (a.add (i * wd d + j))).getD undef) ∧ (W.cell? (a.add (i * wd d + j))).isSome = true := fun i x hx j y hy => by
      obtain ⟨us, q1, q3, _⟩ := hy2 i x hx
      obtain ⟨u, q4, q5⟩ := q3.2 j y hy
      have := (cells_get q1).2 j u q4
      have h0 : 0 < len := by have := (List.getElem?_eq_some_iff.1 hx).1; omega
      rw [add_add a _ _ (hspot h0)] at this
      rw [this]
      exact ⟨q5, rfl⟩
     have hr := flat_rel (W := W) ys (fun i => (W.cell? (a.add i)).getD undef) [] fun i x hx j y hy => (hcell i x hx j y hy).1
     refine .sl _ _ _ _ _ _ (fun i => (W.cell? (a.add i)).getD undef) hw (by show len * wd d = (flat d ys).length; rw [flat_length, hy1]) hlc hm (fun h0 => ⟨a, rfl, hspot h0, ?_, by simp, fun i hi => ?_⟩) hr
     ·obtain ⟨us, q1, q3, _⟩ := hy2 0 ys[0] (List.getElem?_eq_getElem (by omega))
      have hl := (cells_get q1).1
      have := (cells_get q1).2 0 us[0] (List.getElem?_eq_getElem (by omega))
      have := World.block_lt_of_cell? W _ this
      rwa [block_of_add, block_of_add] at this
     ·have hi' : i < len * wd d := by change i < (flat d ys).length at hi; rw [flat_length, hy1] at hi; exact hi
      have hq : i / wd d < ys.length := by rw [hy1]; exact Nat.div_lt_of_lt_mul (by rw [Nat.mul_comm]; exact hi')
      have hrm : i % wd d < (cells d ys[i / wd d]).length := by rw [cells_length]; exact Nat.mod_lt _ (by omega)
      have := (hcell _ _ (List.getElem?_eq_getElem hq) _ _ (List.getElem?_eq_getElem hrm)).2
      rw [show i / wd d * wd d + i % wd d = i by rw [Nat.mul_comm]; exact Nat.div_add_mod i (wd d)] at this
      obtain ⟨u, hu⟩ := Option.isSome_iff_exists.1 this
      rw [hu]; rfl
    ·obtain ⟨i, hi⟩ := List.getElem?_of_mem hx
     obtain ⟨_, _, _, q⟩ := hy2 i x hi
     exact q
  ·rename_i m e m' d hu
   simp only [Bool.and_eq_true, beq_iff_eq] at h
   obtain ⟨rfl, h⟩ := h
   have hce := layT_cells h
   obtain ⟨xs, m2, rfl, _, hl, hxl, hi⟩ := DataW.trod_array hu hx
   obtain ⟨ys, hy1, hy2⟩ := pick_list (fun i y => RelL W [] [] (cells d y) ((cs.drop (i * wd d)).take (wd d)) ∧ wfT d y) m fun i h1 => by
    have h0 := hi i h1
    rw [List.getElem?_eq_getElem (by omega), hce] at h0
    exact read_td n e d h _ _ _ h0
   refine ⟨⟨ys, hy1⟩, ⟨?_, ?_⟩, fun x hx => ?_⟩
   ·rw [cells_length, ← hc]; exact hl.symm ▸ rfl
   ·intro i y hy
    have hr := flat_rel (W := W) ys (fun i => cs.getD i undef) [] fun i x hx j y hy => by
     obtain ⟨u, q1, q2⟩ := (hy2 i x hx).1.2 j y hy
     rw [List.getElem?_take] at q1
     split at q1
     ·rw [List.getElem?_drop] at q1
      rw [List.getD_eq_getElem?_getD, q1]; exact q2
     ·cases q1
    have hlt : i < cs.length := by
     have := (List.getElem?_eq_some_iff.1 hy).1
     rw [cells_length, ← hc, ← hl] at this
     exact this
    refine ⟨cs[i], List.getElem?_eq_getElem hlt, ?_⟩
    have := hr i y hy
    rwa [List.getD_eq_getElem?_getD, List.getElem?_eq_getElem hlt] at this
   ·obtain ⟨i, hi⟩ := List.getElem?_of_mem hx
    exact (hy2 i x hi).2
  ·rename_i fs hu
   obtain ⟨xs, m2, rfl, _, hl, hxl, hi⟩ := DataW.trod_struct hu hx
   have := read_fs n fs.toList 0 _ h m2 cs (fun i f hf => by
    have h0 := hi i f (by simpa using hf)
    have hlt : i < xs.length := by have := (List.getElem?_eq_some_iff.1 hf).1; rw [hxl]; simpa using this
    exact ⟨_, h0.trans (List.getElem?_eq_getElem hlt)⟩) (by rw [hl, hc]; omega)
   simpa using this
  ·cases h
theorem read_fs : ∀ (n : Nat) (fs : List Field) (o : Nat) (d : Td), layFs P n fs o d = true → ∀ (m : Nat) (cs : List Value), (∀ (i : Nat) (f : Field), fs[i]? = some f → ∃ x, DataW.trod enc P W 0 (fun _ => true) true m f.type ((cs.drop f.offset).take (P.cellsOf f.type)) = some x) → cs.length = o + wd d → ∃ y : T d, RelL W [] [] (cells d y) (cs.drop o) ∧ wfT d y
 | 0, fs, o, d, h => by simp [layFs] at h
 | n + 1, [], o, d, h => by simp [layFs] at h
 | n + 1, [f], o, d, h => by
  intro m cs hx hl
  simp only [layFs, Bool.and_eq_true, beq_iff_eq] at h
  obtain ⟨rfl, h⟩ := h
  obtain ⟨x, hx⟩ := hx 0 f rfl
  rw [layT_cells h] at hx
  obtain ⟨y, h1, h2⟩ := read_td n _ d h _ _ _ hx
  rw [List.take_of_length_le (by rw [List.length_drop]; omega)] at h1
  exact ⟨y, h1, h2⟩
 | n + 1, f :: g :: fs, o, d, h => by
  intro m cs hx hl
  simp only [layFs] at h
  split at h
  ·rename_i d e
   simp only [Bool.and_eq_true, beq_iff_eq] at h
   obtain ⟨⟨rfl, h⟩, h'⟩ := h
   simp only [wd] at hl
   obtain ⟨x, hx0⟩ := hx 0 f rfl
   rw [layT_cells h] at hx0
   obtain ⟨y, h1, h2⟩ := read_td n _ d h _ _ _ hx0
   obtain ⟨z, h3, h4⟩ := read_fs n (g :: fs) _ e h' m cs (fun i f' hf => hx (i + 1) f' (by simpa using hf)) (by omega)
   refine ⟨(y, z), ?_, h2, h4⟩
   have := h1.append h3
   rw [← List.drop_drop, List.take_append_drop] at this
   exact this
  ·cases h
end
end
def rowB (P : Program) (t : TypeId) : Bool := match P.underlying t with
 | some (.struct _) | some (.array _ _) => true
 | _ => false
theorem okWide_row {P : Program} {W : World} {base : Nat} {t : TypeId} {v : Value} (h : rowB P t = true) (hv : Value.okWide P W .any base t v) : ∃ cs, v = .agg cs := by
 unfold rowB at h
 unfold Value.okWide at hv
 split at h
 ·rename_i hu; rw [hu] at hv; obtain ⟨cs, h1, _⟩ := hv; exact ⟨cs, h1⟩
 ·rename_i hu; rw [hu] at hv; obtain ⟨cs, h1, _⟩ := hv; exact ⟨cs, h1⟩
 ·cases h
theorem okWide_one {P : Program} {W : World} {base n : Nat} {t : TypeId} {d : Td} {v : Value} (hl : layT' P n t d = true) (h : rowB P t = false) (hv : Value.okWide P W .any base t v) : v.cells.toList = [v] := by
 cases n with
 | zero => simp [layT'] at hl
 | succ n =>
  simp only [layT', Bool.and_eq_true] at hl
  replace hl := hl.2
  split at hl
  ·rename_i hu; obtain ⟨_, rfl⟩ := okWide_int hu hv; rfl
  ·rename_i hu
   simp only [Value.okWide, hu, Cell.okWide] at hv
   cases v <;> first | rfl | simp_all [Cell.ok]
  ·rename_i hu; obtain ⟨_, rfl⟩ := okWide_string hu hv; rfl
  ·rename_i hu; obtain ⟨_, _, _, rfl⟩ := okWide_slice hu hv; rfl
  ·rename_i hu; simp [rowB, hu] at h
  ·rename_i hu; simp [rowB, hu] at h
  ·cases hl
theorem open_td {H : Type} {enc : TypeId × Value → H} {W : World} {t : TypeId} {d : Td} (hl : layT' Try.prog 24 t d = true) (hr : rowB Try.prog t = rowD d) {base : Nat} {v : Value} {x : DataW H} {p : List MemPlace} (hv : Value.okWide Try.prog W .any base t v) (h : DataW.Trod enc Try.prog W 0 (fun _ => true) true t v x p) : ∃ y : T d, Rel W [] [] (ex (valV d y)) v ∧ wfT d y := by
 obtain ⟨fuel, hf⟩ := h
 obtain ⟨y, h1, h2⟩ := read_td _ _ _ hl _ _ _ hf
 refine ⟨y, ?_, h2⟩
 cases hd : rowD d with
 | true =>
  obtain ⟨cs, rfl⟩ := okWide_row (hr.trans hd) hv
  rw [valV_row d y hd]
  refine .agg _ _ cs (fun i => cs.getD i undef) (by rw [← h1.1]; simp [Value.cells]) (fun i x hx => ?_) (fun i x hx => ?_)
  ·obtain ⟨u, q1, _⟩ := h1.2 i x hx
   simp only [Value.cells, Array.getElem?_toList] at q1
   rw [Array.getD_eq_getD_getElem?, q1]; rfl
  ·obtain ⟨u, q1, q2⟩ := h1.2 i x hx
   simp only [Value.cells, Array.getElem?_toList] at q1
   rw [Array.getD_eq_getD_getElem?, q1]; exact q2
 | false =>
  rw [okWide_one hl (hr.trans hd) hv, valV_one d y hd] at h1
  obtain ⟨u, q1, q2⟩ := h1.2 0 _ rfl
  simp at q1
  rw [q1]; exact q2
end Go.Proofs.Ytkpjafbefiimcaa
namespace Go.Proofs.Ytkpjafbefiimcaa
set_option maxRecDepth 100000
open Go.RowKit
set_option linter.unusedVariables false
set_option linter.unusedSimpArgs false
section
variable {P : Program} {R : Type}
end
end Go.Proofs.Ytkpjafbefiimcaa
namespace Go.Proofs.Ytkpjafbefiimcaa
open Go.RowKit
set_option linter.unusedVariables false
set_option maxRecDepth 100000
theorem hmx : Go.Proofs.Try.prog.follows .mixedOrders = true := by kernel_rfl
noncomputable def Ev0 (N : Nat) : (R : Type) → Env R := Env.addInl env0 [7, 24, 25, 30, 27, 23, 9, 26, 29, 11, 14, 20, 21, 19, 18, 22, 16]
theorem Ev0_ok (N : Nat) (R : Type) : EnvOK Go.Proofs.Try.prog (Ev0 N R) := EnvOK.addInl (env0_ok R) (by kernel_rfl)
noncomputable def Ev1 (N : Nat) : (R : Type) → Env R := Env.addUn (Ev0 N) [(5, 5)]
theorem Ev1_ok (N : Nat) (R : Type) : EnvOK Go.Proofs.Try.prog (Ev1 N R) := EnvOK.addUn (Ev0_ok N R) [(5, 5)]
noncomputable def Ev2 (N : Nat) : (R : Type) → Env R := Env.addBx (Ev1 N) [(7, 0)]
theorem Ev2_ok (N : Nat) (R : Type) : EnvOK Go.Proofs.Try.prog (Ev2 N R) := EnvOK.addBx (Ev1_ok N R) [(7, 0)]
noncomputable def ref01_Same_L4_I : LI := ⟨26, 0, [], ⟨[(0, .ty (.sl (.int .u8))), (1, .ty (.sl (.int .u8))), (5, .ty (.int .i64))], []⟩, [(.ret, ⟨[(4, .ty .bool)], []⟩), (.exit 0, ⟨[], []⟩)]⟩
noncomputable def ref01_Same_L4 (N : Nat) (X : (((List (Int)) × ((List (Int)) × ((Int) × Unit))) × Unit) → Option (((((Bool) × Unit) × Unit) ⊕ (Unit × Unit)))) (a0 : List (Int)) (b1 : List (Int)) (i5 : Int) : Option (((((Bool) × Unit) × Unit) ⊕ (Unit × Unit))) :=
 bif (decide (i5 < (((List.length a0) : Nat) : Int))) then
  Option.bind (getI a0 i5) fun (v5 : Int) =>
  Option.bind (getI b1 i5) fun (v6 : Int) =>
  bif (!(decide (v5 = v6))) then
   some ((.inl ((@Bool.false, @Unit.unit), @Unit.unit)))
  else
   (X ((a0, (b1, ((IntKind.wrap .i64 (i5 + (1 : Int))), @Unit.unit))), @Unit.unit))
 else
  some ((.inr (@Unit.unit, @Unit.unit)))
noncomputable def ref01_Same_L4_R (N : Nat) (c : (((List (Int)) × ((List (Int)) × ((Int) × Unit))) × Unit)) : Option (((((Bool) × Unit) × Unit) ⊕ (Unit × Unit))) := gl (fun X c => ref01_Same_L4 N X c.1.1 c.1.2.1 c.1.2.2.1) N c
theorem ref01_Same_L4_S (N : Nat) (X : (((List (Int)) × ((List (Int)) × ((Int) × Unit))) × Unit) → Option (((((Bool) × Unit) × Unit) ⊕ (Unit × Unit)))) (a0 : List (Int)) (b1 : List (Int)) (i5 : Int) : (roundK Go.Proofs.Try.prog (Ev2 N) 400 [13] ref01_Same_L4_I (loopAt Go.Proofs.Try.prog [13] 4) X ((a0, b1, i5, ()), ())).run = ref01_Same_L4 N X a0 b1 i5 := by kernel_rfl
noncomputable def Ev3 (N : Nat) : (R : Type) → Env R := Env.addLp (Ev2 N) [13] 0 4 (fun R => lpK Go.Proofs.Try.prog ref01_Same_L4_I (fun X c => ref01_Same_L4 N X c.1.1 c.1.2.1 c.1.2.2.1) N)
theorem Ev3_ok (N : Nat) (R : Type) : EnvOK Go.Proofs.Try.prog (Ev3 N R) := EnvOK.addLp (Ev2_ok N R) (by kernel_rfl) (lpK_ok (li := ref01_Same_L4_I) (G := fun X c => ref01_Same_L4 N X c.1.1 c.1.2.1 c.1.2.2.1) hmx (Ev2_ok N _) (by kernel_rfl) loopAt_sub (fun (X : CT ref01_Same_L4_I.sh → Option (OT ref01_Same_L4_I.outs)) (c : CT ref01_Same_L4_I.sh) => ref01_Same_L4_S N X c.1.1 c.1.2.1 c.1.2.2.1) N)
noncomputable def ref01_Same (N : Nat) (a0 : List (Int)) (b1 : List (Int)) : Option (Bool) :=
 bif (!(decide ((((List.length a0) : Nat) : Int) = (((List.length b1) : Nat) : Int)))) then
  some (@Bool.false)
 else
  Option.bind (ref01_Same_L4_R N ((a0, (b1, ((0 : Int), @Unit.unit))), @Unit.unit)) fun (v3 : (((Bool × Unit) × Unit) ⊕ (Unit × Unit))) =>
  Sum.elim
   (fun (v4 : ((Bool × Unit) × Unit)) =>
   some (v4.1.1))
   (fun (v4 : (Unit × Unit)) =>
   some (@Bool.true)) v3
theorem ref01_Same_S (N : Nat) (a0 : List (Int)) (b1 : List (Int)) : (runK Go.Proofs.Try.prog (Ev3 N) 400 13 [(.sl (.int .u8)), (.sl (.int .u8))] [.bool] (a0, b1, ())).run = ref01_Same N a0 b1 := by kernel_rfl
noncomputable def Ev4 (N : Nat) : (R : Type) → Env R := Env.addFn (Ev3 N) 13 (fun R => fnK [(.sl (.int .u8)), (.sl (.int .u8))] [.bool] (fun c => ref01_Same N c.1 c.2.1))
theorem Ev4_ok (N : Nat) (R : Type) : EnvOK Go.Proofs.Try.prog (Ev4 N R) := EnvOK.addFn hmx (Ev3_ok N R) (Ev3_ok N _) (by kernel_rfl) (fun c => ref01_Same_S N c.1 c.2.1)
noncomputable def slices_Clone_byte_byte_ne (N : Nat) (s0 : List (Int)) : Option (List (Int)) :=
 bif (@List.isEmpty Int s0) then
  none
 else
  bif (roomB (List.length s0) 1) then
   some (s0)
  else
   none
theorem slices_Clone_byte_byte_ne_S (N : Nat) (s0 : List (Int)) : (runK Go.Proofs.Try.prog (Ev4 N) 400 32 [(.sl (.int .u8))] [(.sl (.int .u8))] (s0, ())).run = slices_Clone_byte_byte_ne N s0 := by kernel_rfl
theorem slices_Clone_byte_byte_n1 (N : Nat) (c : Nat) : (runV Go.Proofs.Try.prog (Ev4 N) 400 32 [.c (.slice none 0 c)] [(.sl (.int .u8))]).run = some [] := by kernel_rfl
theorem slices_Clone_byte_byte_n2 (N : Nat) (A : Addr) (c : Nat) : (runV Go.Proofs.Try.prog (Ev4 N) 400 32 [.c (.slice (some A) 0 c)] [(.sl (.int .u8))]).run = some [] := by kernel_rfl
noncomputable def slices_Clone_byte_byte (N : Nat) (s0 : List (Int)) : Option (List (Int)) := bif s0.isEmpty then some [] else slices_Clone_byte_byte_ne N s0
noncomputable def Ev5 (N : Nat) : (R : Type) → Env R := Env.addFn (Ev4 N) 32 (fun R => fnK [(.sl (.int .u8))] [(.sl (.int .u8))] (fun c => slices_Clone_byte_byte N c.1))
theorem Ev5_ok (N : Nat) (R : Type) : EnvOK Go.Proofs.Try.prog (Ev5 N R) := EnvOK.addNil hmx (Ev4_ok N R) (Ev4_ok N _) (by kernel_rfl) (fun c => slices_Clone_byte_byte_ne_S N c.1) (slices_Clone_byte_byte_n1 N) (slices_Clone_byte_byte_n2 N)
noncomputable def law38_alive (N : Nat) : Option (Bool) :=
 some ((@cond Bool (@cond Bool (@cond Bool @Bool.true @Bool.true @Bool.false) @Bool.true @Bool.false) @Bool.true @Bool.false))
theorem law38_alive_S (N : Nat) : (runK Go.Proofs.Try.prog (Ev5 N) 400 8 [] [.bool] ()).run = law38_alive N  := by kernel_rfl
noncomputable def Ev6 (N : Nat) : (R : Type) → Env R := Env.addFn (Ev5 N) 8 (fun R => fnK [] [.bool] (fun c => law38_alive N ))
theorem Ev6_ok (N : Nat) (R : Type) : EnvOK Go.Proofs.Try.prog (Ev6 N R) := EnvOK.addFn hmx (Ev5_ok N R) (Ev5_ok N _) (by kernel_rfl) (fun c => law38_alive_S N )
noncomputable def law38_ChansNobody (N : Nat) (w0 : Int) (n1 : Int) (b2 : List (Int)) : Option (Bool) :=
 bif (decide ((1000 : Int) < (((List.length b2) : Nat) : Int))) then
  some ((@cond Bool (@cond Bool (@cond Bool @Bool.true @Bool.true @Bool.false) @Bool.true @Bool.false) @Bool.true @Bool.false))
 else
  some ((@cond Bool @Bool.true (@cond Bool (@cond Bool (@cond Bool @Bool.true @Bool.true @Bool.false) @Bool.true @Bool.false) @Bool.true @Bool.false) @Bool.false))
theorem law38_ChansNobody_S (N : Nat) (w0 : Int) (n1 : Int) (b2 : List (Int)) : (runK Go.Proofs.Try.prog (Ev6 N) 400 5 [(.int .i64), (.int .i64), (.sl (.int .u8))] [.bool] (w0, n1, b2, ())).run = law38_ChansNobody N w0 n1 b2 := by kernel_rfl
theorem law38_ChansNobody_C (N : Nat) (w0 : Int) (n1 : Int) (b2 : List (Int)) (y : Bool) (h : law38_ChansNobody N w0 n1 b2 = some y) : CallsK Go.Proofs.Try.prog 5 (valA [(.int .i64), (.int .i64), (.sl (.int .u8))] (w0, n1, b2, ())) (tupV (valR [.bool] y)) := runK_ok hmx (Ev6_ok N _) (okFn_ok (by kernel_rfl)) (by rw [law38_ChansNobody_S]; exact h)
end Go.Proofs.Ytkpjafbefiimcaa
namespace Go.Proofs.Ytkpjafbefiimcaa
set_option maxRecDepth 100000
open Go.RowKit
set_option linter.unusedVariables false
theorem law_ChansNobody (w n : Int) (b : List Int) : law38_ChansNobody 200000 w n b = some true := by
 unfold law38_ChansNobody
 cases decide ((1000 : Int) < ((b.length : Nat) : Int)) <;> rfl
end Go.Proofs.Ytkpjafbefiimcaa
