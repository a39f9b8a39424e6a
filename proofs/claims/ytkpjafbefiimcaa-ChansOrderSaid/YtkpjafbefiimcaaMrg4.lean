/-
  Parts of my own, one behind the other: KRead, KD, GCho, QBase2, QOctsD, QCho.
-/
import Derived.Test.YtkpjafbefiimcaaMrg3
namespace Go.Proofs.Ytkpjafbefiimcaa
set_option maxRecDepth 100000
open Go.ChangeShapes Go.WideShapes Go.ChangeAt Go.RowKit
set_option linter.unusedVariables false
set_option linter.unusedSimpArgs false
def wfT : (d : Td) → T d → Prop
 | .int k, n => (Lit.int k n).wf = true
 | .bool, _ => True
 | .str, s => s.length ≤ maxLen
 | .sl d, l => l.length ≤ maxLen ∧ ∀ x ∈ l, wfT d x
 | .arr n d, a => ∀ x ∈ a.l, wfT d x
 | .pair d e, x => wfT d x.1 ∧ wfT e x.2
section
variable {P : Program} {H : Type} {enc : TypeId × Value → H} {W : World}
theorem pick_list {α : Type} (Q : Nat → α → Prop) : ∀ n, (∀ i, i < n → ∃ y, Q i y) → ∃ l : List α, l.length = n ∧ ∀ i y, l[i]? = some y → Q i y
 | 0, _ => ⟨[], rfl, fun i y h => by simp at h⟩
 | n + 1, h => by
  obtain ⟨l, h1, h2⟩ := pick_list Q n fun i hi => h i (by omega)
  obtain ⟨y, hy⟩ := h n (by omega)
  refine ⟨l ++ [y], by simp [h1], fun i z hz => ?_⟩
  rcases Nat.lt_or_ge i n with hi | hi
  ·rw [List.getElem?_append_left (by omega)] at hz; exact h2 i z hz
  ·rw [List.getElem?_append_right (by omega)] at hz
   have : i - l.length = 0 := by have := (List.getElem?_eq_some_iff.1 hz).1; simp at this; omega
   rw [this] at hz
   simp at hz
   subst hz
   rw [show i = n by omega]; exact hy
theorem cell_spot {a : Addr} {v : Value} (h : W.cell? a = some v) : a.spot = none := by
 unfold World.cell? at h
 split at h
 ·split at h
  ·cases h
  ·rename_i hs; cases hx : a.spot with
   | none => rfl
   | some _ => rw [hx] at hs; simp at hs
 ·cases h
theorem add_add (a : Addr) (i j : Nat) (h : a.spot = none) : (a.add i).add j = a.add (i + j) := by
 unfold Addr.add
 obtain ⟨b, o, s⟩ := a
 simp only at h
 subst h
 by_cases hi : i = 0 <;> by_cases hj : j = 0 <;> simp [hi, hj, Nat.add_assoc]
theorem cells_get {a : Addr} {n : Nat} {cs : List Value} (h : W.cells? 0 a n = some cs) : cs.length = n ∧ ∀ i u, cs[i]? = some u → W.cell? (a.add i) = some u := by
 unfold World.cells? at h
 rw [if_pos (Nat.zero_le _)] at h
 have hl := mapM_some_length h
 rw [List.length_range] at hl
 refine ⟨hl, fun i u hu => ?_⟩
 have hi : i < n := by have := (List.getElem?_eq_some_iff.1 hu).1; omega
 rw [mapM_some_get h i i (by simp [hi])]
 exact hu
theorem flat_rel {d : Td} (xs : List (T d)) (us : Nat → Value) (B : List Nat) (h : ∀ i x, xs[i]? = some x → ∀ j y, (cells d x)[j]? = some y → Rel W B [] y (us (i * wd d + j))) : ∀ i y, (flat d xs)[i]? = some y → Rel W B [] y (us i) := by
 intro i y hy
 have hi : i < xs.length * wd d := by have := (List.getElem?_eq_some_iff.1 hy).1; rwa [flat_length] at this
 have hw : 0 < wd d := by rcases Nat.eq_zero_or_pos (wd d) with h | h; rw [h] at hi; omega; exact h
 have hq : i / wd d < xs.length := Nat.div_lt_of_lt_mul (by rw [Nat.mul_comm]; exact hi)
 have hx : xs[i / wd d]? = some xs[i / wd d] := List.getElem?_eq_getElem hq
 have hf := flat_at d xs (i / wd d) _ hx
 have hr : i % wd d < wd d := Nat.mod_lt _ hw
 have hdm := Nat.div_add_mod i (wd d)
 have h1 : (cells d xs[i / wd d])[i % wd d]? = some y := by
  rw [← hf, List.getElem?_take, if_pos hr, List.getElem?_drop]
  rw [show i / wd d * wd d + i % wd d = i by rw [Nat.mul_comm]; exact hdm]
  exact hy
 have := h _ _ hx _ _ h1
 rwa [show i / wd d * wd d + i % wd d = i by rw [Nat.mul_comm]; exact hdm] at this
mutual
theorem read_td : ∀ (n : Nat) (t : TypeId) (d : Td), layT' P n t d = true → ∀ (fuel : Nat) (cs : List Value) (x : DataW H × List MemPlace), DataW.trod enc P W 0 (fun _ => true) true fuel t cs = some x → ∃ y : T d, RelL W [] [] (cells d y) cs ∧ wfT d y
 | 0, t, d, h => by simp [layT'] at h
 | n + 1, t, d, h => by
  intro fuel cs x hx
  simp only [layT', Bool.and_eq_true, beq_iff_eq] at h
  obtain ⟨hc, h⟩ := h
  split at h
  ·rename_i k k' hu
   have := of_decide_eq_true h
   subst this
   obtain ⟨z, rfl, _, hw⟩ := DataW.trod_int hu hx
   exact ⟨z, RelL.cons (.c _ _) (RelL.nil _ _ _), hw⟩
  ·rename_i hu
   obtain ⟨z, rfl, _⟩ := DataW.trod_bool hu hx
   exact ⟨z, RelL.cons (.c _ _) (RelL.nil _ _ _), trivial⟩
  ·rename_i hu
   obtain ⟨s, rfl, _, hs⟩ := DataW.trod_string hu hx
   refine ⟨s.data.toList, RelL.cons ?_ (RelL.nil _ _ _), by show s.data.toList.length ≤ maxLen; simpa using hs⟩
   have : (⟨s.data.toList.toArray⟩ : ByteArray) = s := by cases s; simp
   rw [this]; exact .c _ _
  ·rename_i e d hu
   simp only [Bool.and_eq_true, decide_eq_true_eq] at h
   obtain ⟨hw, h⟩ := h
   have hce := layT_cells h
   rcases DataW.trod_slice hu hx with ⟨rfl, _⟩ | ⟨a, len, cap, elems, rest, m, rfl, rfl, _, _, hlc, hm, hel, hels, _⟩
   ·exact ⟨[], RelL.cons (rel_nil_sl hw (.c _ _)) (RelL.nil _ _ _), by simp [maxLen], fun x hx => by cases hx⟩
   ·obtain ⟨ys, hy1, hy2⟩ := pick_list (fun i y => ∃ us, W.cells? 0 (a.add (i * wd d)) (wd d) = some us ∧ RelL W [] [] (cells d y) us ∧ wfT d y) len fun i hi => by
     have h0 := hels i hi
     rw [List.getElem?_eq_getElem (by omega), hce] at h0
     obtain ⟨us, q1, q2⟩ := Option.bind_eq_some_iff.1 h0
     obtain ⟨y, q3, q4⟩ := read_td n e d h _ _ _ q2
     exact ⟨y, us, q1, q3, q4⟩
    refine ⟨ys, RelL.cons ?_ (RelL.nil _ _ _), by rw [hy1]; omega, fun x hx => ?_⟩
    ·have hspot : 0 < len → a.spot = none := fun h0 => by
      obtain ⟨us, q1, q3, _⟩ := hy2 0 ys[0] (List.getElem?_eq_getElem (by omega))
      have hl := (cells_get q1).1
      have := (cells_get q1).2 0 us[0] (List.getElem?_eq_getElem (by omega))
      have := cell_spot this
      unfold Addr.add at this
      simpa using this
     have hcell : ∀ i x, ys[i]? = some x → ∀ j y, (cells d x)[j]? = some y → Rel W [] [] y ((W.cell? (a.add (i * wd d + j))).getD undef) ∧ (W.cell? (a.add (i * wd d + j))).isSome = true := fun i x hx j y hy => by
      obtain ⟨us, q1, q3, _⟩ := hy2 i x hx
      obtain ⟨u, q4, q5⟩ := q3.2 j y hy
      have := (cells_get q1).2 j u q4
      have h0 : 0 < len := by have := (List.getElem?_eq_some_iff.1 hx).1; omega
      rw [add_add a _ _ (hspot h0)] at this
      rw [this]
      exact ⟨q5, rfl⟩
     have hr := flat_rel (W := W) ys (fun i => (W.cell? (a.add i)).getD undef) [] fun i x hx j y hy => (hcell i x hx j y hy).1
     refine .sl _ _ _ _ _ _ (fun i => (W.cell? (a.add i)).getD undef) hw (by show len * wd d = (flat d ys).length; rw [flat_length, hy1]) hlc hm (fun h0 => ⟨a, rfl, hspot h0, ?_, by simp, fun i hi => ?_⟩) hr
     ·obtain ⟨us, q1, q3, _⟩ := hy2 0 ys[0] (List.getElem?_eq_getElem (by omega))
      have hl := (cells_get q1).1
      have := (cells_get q1).2 0 us[0] (List.getElem?_eq_getElem (by omega))
      have := World.block_lt_of_cell? W _ this
      rwa [block_of_add, block_of_add] at this
     ·have hi' : i < len * wd d := by change i < (flat d ys).length at hi; rw [flat_length, hy1] at hi; exact hi
      have hq : i / wd d < ys.length := by rw [hy1]; exact Nat.div_lt_of_lt_mul (by rw [Nat.mul_comm]; exact hi')
      have hrm : i % wd d < (cells d ys[i / wd d]).length := by rw [cells_length]; exact Nat.mod_lt _ (by omega)
      have := (hcell _ _ (List.getElem?_eq_getElem hq) _ _ (List.getElem?_eq_getElem hrm)).2
      rw [show i / wd d * wd d + i % wd d = i by rw [Nat.mul_comm]; exact Nat.div_add_mod i (wd d)] at this
      obtain ⟨u, hu⟩ := Option.isSome_iff_exists.1 this
      rw [hu]; rfl
    ·obtain ⟨i, hi⟩ := List.getElem?_of_mem hx
     obtain ⟨_, _, _, q⟩ := hy2 i x hi
     exact q
  ·rename_i m e m' d hu
   simp only [Bool.and_eq_true, beq_iff_eq] at h
   obtain ⟨rfl, h⟩ := h
   have hce := layT_cells h
   obtain ⟨xs, m2, rfl, _, hl, hxl, hi⟩ := DataW.trod_array hu hx
   obtain ⟨ys, hy1, hy2⟩ := pick_list (fun i y => RelL W [] [] (cells d y) ((cs.drop (i * wd d)).take (wd d)) ∧ wfT d y) m fun i h1 => by
    have h0 := hi i h1
    rw [List.getElem?_eq_getElem (by omega), hce] at h0
    exact read_td n e d h _ _ _ h0
   refine ⟨⟨ys, hy1⟩, ⟨?_, ?_⟩, fun x hx => ?_⟩
   ·rw [cells_length, ← hc]; exact hl.symm ▸ rfl
   ·intro i y hy
    have hr := flat_rel (W := W) ys (fun i => cs.getD i undef) [] fun i x hx j y hy => by
     obtain ⟨u, q1, q2⟩ := (hy2 i x hx).1.2 j y hy
     rw [List.getElem?_take] at q1
     split at q1
     ·rw [List.getElem?_drop] at q1
      rw [List.getD_eq_getElem?_getD, q1]; exact q2
     ·cases q1
    have hlt : i < cs.length := by
     have := (List.getElem?_eq_some_iff.1 hy).1
     rw [cells_length, ← hc, ← hl] at this
     exact this
    refine ⟨cs[i], List.getElem?_eq_getElem hlt, ?_⟩
    have := hr i y hy
    rwa [List.getD_eq_getElem?_getD, List.getElem?_eq_getElem hlt] at this
   ·obtain ⟨i, hi⟩ := List.getElem?_of_mem hx
    exact (hy2 i x hi).2
  ·rename_i fs hu
   obtain ⟨xs, m2, rfl, _, hl, hxl, hi⟩ := DataW.trod_struct hu hx
   have := read_fs n fs.toList 0 _ h m2 cs (fun i f hf => by
    have h0 := hi i f (by simpa using hf)
    have hlt : i < xs.length := by have := (List.getElem?_eq_some_iff.1 hf).1; rw [hxl]; simpa using this
    exact ⟨_, h0.trans (List.getElem?_eq_getElem hlt)⟩) (by rw [hl, hc]; omega)
   simpa using this
  ·cases h
theorem read_fs : ∀ (n : Nat) (fs : List Field) (o : Nat) (d : Td), layFs P n fs o d = true → ∀ (m : Nat) (cs : List Value), (∀ (i : Nat) (f : Field), fs[i]? = some f → ∃ x, DataW.trod enc P W 0 (fun _ => true) true m f.type ((cs.drop f.offset).take (P.cellsOf f.type)) = some x) → cs.length = o + wd d → ∃ y : T d, RelL W [] [] (cells d y) (cs.drop o) ∧ wfT d y
 | 0, fs, o, d, h => by simp [layFs] at h
 | n + 1, [], o, d, h => by simp [layFs] at h
 | n + 1, [f], o, d, h => by
  intro m cs hx hl
  simp only [layFs, Bool.and_eq_true, beq_iff_eq] at h
  obtain ⟨rfl, h⟩ := h
  obtain ⟨x, hx⟩ := hx 0 f rfl
  rw [layT_cells h] at hx
  obtain ⟨y, h1, h2⟩ := read_td n _ d h _ _ _ hx
  rw [List.take_of_length_le (by rw [List.length_drop]; omega)] at h1
  exact ⟨y, h1, h2⟩
 | n + 1, f :: g :: fs, o, d, h => by
  intro m cs hx hl
  simp only [layFs] at h
  split at h
  ·rename_i d e
   simp only [Bool.and_eq_true, beq_iff_eq] at h
   obtain ⟨⟨rfl, h⟩, h'⟩ := h
   simp only [wd] at hl
   obtain ⟨x, hx0⟩ := hx 0 f rfl
   rw [layT_cells h] at hx0
   obtain ⟨y, h1, h2⟩ := read_td n _ d h _ _ _ hx0
   obtain ⟨z, h3, h4⟩ := read_fs n (g :: fs) _ e h' m cs (fun i f' hf => hx (i + 1) f' (by simpa using hf)) (by omega)
   refine ⟨(y, z), ?_, h2, h4⟩
   have := h1.append h3
   rw [← List.drop_drop, List.take_append_drop] at this
   exact this
  ·cases h
end
end
def rowB (P : Program) (t : TypeId) : Bool := match P.underlying t with
 | some (.struct _) | some (.array _ _) => true
 | _ => false
theorem okWide_row {P : Program} {W : World} {base : Nat} {t : TypeId} {v : Value} (h : rowB P t = true) (hv : Value.okWide P W .any base t v) : ∃ cs, v = .agg cs := by
 unfold rowB at h
 unfold Value.okWide at hv
 split at h
 ·rename_i hu; rw [hu] at hv; obtain ⟨cs, h1, _⟩ := hv; exact ⟨cs, h1⟩
 ·rename_i hu; rw [hu] at hv; obtain ⟨cs, h1, _⟩ := hv; exact ⟨cs, h1⟩
 ·cases h
theorem okWide_one {P : Program} {W : World} {base n : Nat} {t : TypeId} {d : Td} {v : Value} (hl : layT' P n t d = true) (h : rowB P t = false) (hv : Value.okWide P W .any base t v) : v.cells.toList = [v] := by
 cases n with
 | zero => simp [layT'] at hl
 | succ n =>
  simp only [layT', Bool.and_eq_true] at hl
  replace hl := hl.2
  split at hl
  ·rename_i hu; obtain ⟨_, rfl⟩ := okWide_int hu hv; rfl
  ·rename_i hu
   simp only [Value.okWide, hu, Cell.okWide] at hv
   cases v <;> first | rfl | simp_all [Cell.ok]
  ·rename_i hu; obtain ⟨_, rfl⟩ := okWide_string hu hv; rfl
  ·rename_i hu; obtain ⟨_, _, _, rfl⟩ := okWide_slice hu hv; rfl
  ·rename_i hu; simp [rowB, hu] at h
  ·rename_i hu; simp [rowB, hu] at h
  ·cases hl
theorem open_td {H : Type} {enc : TypeId × Value → H} {W : World} {t : TypeId} {d : Td} (hl : layT' Try.prog 24 t d = true) (hr : rowB Try.prog t = rowD d) {base : Nat} {v : Value} {x : DataW H} {p : List MemPlace} (hv : Value.okWide Try.prog W .any base t v) (h : DataW.Trod enc Try.prog W 0 (fun _ => true) true t v x p) : ∃ y : T d, Rel W [] [] (ex (valV d y)) v ∧ wfT d y := by
 obtain ⟨fuel, hf⟩ := h
 obtain ⟨y, h1, h2⟩ := read_td _ _ _ hl _ _ _ hf
 refine ⟨y, ?_, h2⟩
 cases hd : rowD d with
 | true =>
  obtain ⟨cs, rfl⟩ := okWide_row (hr.trans hd) hv
  rw [valV_row d y hd]
  refine .agg _ _ cs (fun i => cs.getD i undef) (by rw [← h1.1]; simp [Value.cells]) (fun i x hx => ?_) (fun i x hx => ?_)
  ·obtain ⟨u, q1, _⟩ := h1.2 i x hx
   simp only [Value.cells, Array.getElem?_toList] at q1
   rw [Array.getD_eq_getD_getElem?, q1]; rfl
  ·obtain ⟨u, q1, q2⟩ := h1.2 i x hx
   simp only [Value.cells, Array.getElem?_toList] at q1
   rw [Array.getD_eq_getD_getElem?, q1]; exact q2
 | false =>
  rw [okWide_one hl (hr.trans hd) hv, valV_one d y hd] at h1
  obtain ⟨u, q1, q2⟩ := h1.2 0 _ rfl
  simp at q1
  rw [q1]; exact q2
end Go.Proofs.Ytkpjafbefiimcaa
namespace Go.Proofs.Ytkpjafbefiimcaa
set_option maxRecDepth 100000
open Go.RowKit
set_option linter.unusedVariables false
set_option linter.unusedSimpArgs false
section
variable {P : Program} {R : Type}
end
end Go.Proofs.Ytkpjafbefiimcaa
namespace Go.Proofs.Ytkpjafbefiimcaa
open Go.RowKit
set_option linter.unusedVariables false
set_option maxRecDepth 100000
section
variable (N : Nat)
theorem hmx : Try.prog.follows .mixedOrders = true := by kernel_rfl
noncomputable def Ev0 (N : Nat) : (R : Type) → Env R := Env.addInl env0 [7, 24, 25, 30, 27, 23, 9, 26, 29, 11, 14, 20, 21, 19, 18, 22, 16]
theorem Ev0_ok (R : Type) : EnvOK Try.prog (Ev0 N R) := EnvOK.addInl (env0_ok R) (by kernel_rfl)
noncomputable def Ev1 : (R : Type) → Env R := Env.addBx (Ev0 N) [(7, 0)]
theorem Ev1_ok (R : Type) : EnvOK Try.prog (Ev1 N R) := EnvOK.addBx (Ev0_ok N R) [(7, 0)]
noncomputable def ref01_Same_L4_I : LI := ⟨26, 0, [], ⟨[(0, .ty (.sl (.int .u8))), (1, .ty (.sl (.int .u8))), (5, .ty (.int .i64))], []⟩, [(.ret, ⟨[(4, .ty .bool)], []⟩), (.exit 0, ⟨[], []⟩)]⟩
noncomputable def ref01_Same_L4 (N : Nat) (X : (((List Int) × ((List Int) × (Int × Unit))) × Unit) → Option ((((Bool × Unit) × Unit) ⊕ (Unit × Unit)))) (a0 : List (Int)) (b1 : List (Int)) (i5 : Int) : Option ((((Bool × Unit) × Unit) ⊕ (Unit × Unit))) :=
 bif (decide (i5 < (((List.length a0) : Nat) : Int))) then
  Option.bind (getI a0 i5) fun (v5 : Int) =>
  Option.bind (getI b1 i5) fun (v6 : Int) =>
  bif (!(decide (v5 = v6))) then
   some ((.inl ((false, ()), ())))
  else
   (X ((a0, (b1, ((IntKind.wrap .i64 (i5 + 1)), ()))), ()))
 else
  some ((.inr ((), ())))
noncomputable def ref01_Same_L4_R (c : (((List Int) × ((List Int) × (Int × Unit))) × Unit)) : Option ((((Bool × Unit) × Unit) ⊕ (Unit × Unit))) := gl (fun X c => ref01_Same_L4 N X c.1.1 c.1.2.1 c.1.2.2.1) N c
theorem ref01_Same_L4_S (X : (((List Int) × ((List Int) × (Int × Unit))) × Unit) → Option ((((Bool × Unit) × Unit) ⊕ (Unit × Unit)))) (a0 : List (Int)) (b1 : List (Int)) (i5 : Int) : (roundK Try.prog (Ev1 N) 400 [13] ref01_Same_L4_I (loopAt Try.prog [13] 4) X ((a0, b1, i5, ()), ())).run = ref01_Same_L4 N X a0 b1 i5 := by kernel_rfl
noncomputable def Ev2 : (R : Type) → Env R := Env.addLp (Ev1 N) [13] 0 4 (fun R => lpK Try.prog ref01_Same_L4_I (fun X c => ref01_Same_L4 N X c.1.1 c.1.2.1 c.1.2.2.1) N)
theorem Ev2_ok (R : Type) : EnvOK Try.prog (Ev2 N R) := EnvOK.addLp (Ev1_ok N R) (by kernel_rfl) (lpK_ok (li := ref01_Same_L4_I) (G := fun X c => ref01_Same_L4 N X c.1.1 c.1.2.1 c.1.2.2.1) hmx (Ev1_ok N _) (by kernel_rfl) loopAt_sub (fun (X : CT ref01_Same_L4_I.sh → Option (OT ref01_Same_L4_I.outs)) (c : CT ref01_Same_L4_I.sh) => ref01_Same_L4_S N X c.1.1 c.1.2.1 c.1.2.2.1) N)
noncomputable def ref01_Same (a0 : List (Int)) (b1 : List (Int)) : Option Bool :=
 bif (!(decide ((((List.length a0) : Nat) : Int) = (((List.length b1) : Nat) : Int)))) then
  some (false)
 else
  Option.bind (ref01_Same_L4_R N ((a0, (b1, ((0 : Int), ()))), ())) fun v3 =>
  Sum.elim
   (fun (v4 : ((Bool × Unit) × Unit)) =>
   some (v4.1.1))
   (fun (v4 : (Unit × Unit)) =>
   some (true)) v3
theorem ref01_Same_S (a0 : List (Int)) (b1 : List (Int)) : (runK Try.prog (Ev2 N) 400 13 [(.sl (.int .u8)), (.sl (.int .u8))] [.bool] (a0, b1, ())).run = ref01_Same N a0 b1 := by kernel_rfl
noncomputable def Ev3 : (R : Type) → Env R := Env.addFn (Ev2 N) 13 (fun R => fnK [(.sl (.int .u8)), (.sl (.int .u8))] [.bool] (fun c => ref01_Same N c.1 c.2.1))
theorem Ev3_ok (R : Type) : EnvOK Try.prog (Ev3 N R) := EnvOK.addFn hmx (Ev2_ok N R) (Ev2_ok N _) (by kernel_rfl) (fun c => ref01_Same_S N c.1 c.2.1)
noncomputable def slices_Clone_byte_byte_ne (N : Nat) (s0 : List (Int)) : Option (List Int) :=
 bif (@List.isEmpty Int s0) then
  none
 else
  bif (roomB (List.length s0) 1) then
   some (s0)
  else
   none
theorem slices_Clone_byte_byte_ne_S (s0 : List (Int)) : (runK Try.prog (Ev3 N) 400 32 [(.sl (.int .u8))] [(.sl (.int .u8))] (s0, ())).run = slices_Clone_byte_byte_ne N s0 := by kernel_rfl
theorem slices_Clone_byte_byte_n1 (c : Nat) : (runV Try.prog (Ev3 N) 400 32 [.c (.slice none 0 c)] [(.sl (.int .u8))]).run = some [] := by kernel_rfl
theorem slices_Clone_byte_byte_n2 (A : Addr) (c : Nat) : (runV Try.prog (Ev3 N) 400 32 [.c (.slice (some A) 0 c)] [(.sl (.int .u8))]).run = some [] := by kernel_rfl
noncomputable def slices_Clone_byte_byte (s0 : List (Int)) : Option (List Int) := bif s0.isEmpty then some [] else slices_Clone_byte_byte_ne N s0
noncomputable def Ev4 : (R : Type) → Env R := Env.addFn (Ev3 N) 32 (fun R => fnK [(.sl (.int .u8))] [(.sl (.int .u8))] (fun c => slices_Clone_byte_byte N c.1))
theorem Ev4_ok (R : Type) : EnvOK Try.prog (Ev4 N R) := EnvOK.addNil hmx (Ev3_ok N R) (Ev3_ok N _) (by kernel_rfl) (fun c => slices_Clone_byte_byte_ne_S N c.1) (slices_Clone_byte_byte_n1 N) (slices_Clone_byte_byte_n2 N)
noncomputable def law38_alive (N : Nat) : Option Bool :=
 some ((cond (cond (cond true true false) true false) true false))
theorem law38_alive_S : (runK Try.prog (Ev4 N) 400 8 [] [.bool] ()).run = law38_alive N  := by kernel_rfl
noncomputable def Ev5 : (R : Type) → Env R := Env.addFn (Ev4 N) 8 (fun R => fnK [] [.bool] (fun c => law38_alive N ))
theorem Ev5_ok (R : Type) : EnvOK Try.prog (Ev5 N R) := EnvOK.addFn hmx (Ev4_ok N R) (Ev4_ok N _) (by kernel_rfl) (fun c => law38_alive_S N )
noncomputable def law38_ChansOrder_L6_I : LI := ⟨159, 0, [(6, 5)], ⟨[(1, .ty (.sl (.int .u8))), (5, .lit (.box 0 0)), (6, .lit (.own 1)), (7, .lit (.c (.slice none 0 0))), (31, .ty (.sl (.sl (.int .u8)))), (32, .ty (.int .i64)), (33, .ty (.int .i64))], [.boxp 64 [.bl true, .ty (.arr 32 (.int .u8)), .own 2, .ty (.int .i64), .ty (.int .i64), .ty (.int .i64), .own 3, .ty (.int .i64), .ty (.int .i64), .ty (.int .i64), .ty .bool], .own (.int .u8) 5, .own (.int .u8) 5, .own (.int .u8) 5]⟩, [(.ret, ⟨[(4, .ty .bool)], []⟩), (.exit 0, ⟨[(1, .ty (.sl (.int .u8))), (5, .lit (.box 0 0)), (6, .lit (.own 1)), (7, .lit (.c (.slice none 0 0)))], [.boxp 64 [.bl true, .ty (.arr 32 (.int .u8)), .own 2, .ty (.int .i64), .ty (.int .i64), .ty (.int .i64), .own 3, .ty (.int .i64), .ty (.int .i64), .ty (.int .i64), .ty .bool], .own (.int .u8) 5, .own (.int .u8) 5, .own (.int .u8) 5]⟩)]⟩
noncomputable def law38_ChansOrder_L6 (N : Nat) (X : (((List Int) × ((List (List Int)) × (Int × (Int × Unit)))) × ((Arr Int 32) × (Int × (Int × (Int × (Int × (Int × (Int × (Bool × ((List Int) × ((List Int) × ((List Int) × Unit)))))))))))) → Option ((((Bool × Unit) × Unit) ⊕ (((List Int) × Unit) × ((Arr Int 32) × (Int × (Int × (Int × (Int × (Int × (Int × (Bool × ((List Int) × ((List Int) × ((List Int) × Unit))))))))))))))) (x1 : List (Int)) (x31 : List (List Int)) (x32 : Int) (x33 : Int) (h0 : Arr Int 32) (h1 : Int) (h2 : Int) (h3 : Int) (h4 : Int) (h5 : Int) (h6 : Int) (h7 : Bool) (h8 : List (Int)) (h9 : List (Int)) (h10 : List (Int)) : Option ((((Bool × Unit) × Unit) ⊕ (((List Int) × Unit) × ((Arr Int 32) × (Int × (Int × (Int × (Int × (Int × (Int × (Bool × ((List Int) × ((List Int) × ((List Int) × Unit)))))))))))))) :=
 bif (decide (x33 < x32)) then
  Option.bind (getI x31 x33) fun (v17 : (List Int)) =>
  bif (decide ((500 : Int) < (((List.length v17) : Nat) : Int))) then
   some ((.inl (((cond (cond (cond true true false) true false) true false), ()), ())))
  else
   bif h7 then
    some ((.inl ((false, ()), ())))
   else
    bif (decide ((IntKind.wrap .i64 ((65536 : Int) - (((List.length h10) : Nat) : Int))) < (((List.length v17) : Nat) : Int))) then
     some ((.inl ((false, ()), ())))
    else
     bif (roomB ((List.length h10) + (List.length v17)) 1) then
      bif (roomB ((List.length h8) + (List.length v17)) 1) then
       (X ((x1, (x31, (x32, ((IntKind.wrap .i64 (x33 + 1)), ())))), (h0, (h1, (h2, (h3, ((IntKind.wrap .i64 (h4 + (((List.length v17) : Nat) : Int))), (h5, (h6, (h7, ((h8 ++ v17), (h9, ((h10 ++ v17), ())))))))))))))
      else
       none
     else
      none
 else
  some ((.inr ((x1, ()), (h0, (h1, (h2, (h3, (h4, (h5, (h6, (h7, (h8, (h9, (h10, ()))))))))))))))
noncomputable def law38_ChansOrder_L6_R (c : (((List Int) × ((List (List Int)) × (Int × (Int × Unit)))) × ((Arr Int 32) × (Int × (Int × (Int × (Int × (Int × (Int × (Bool × ((List Int) × ((List Int) × ((List Int) × Unit))))))))))))) : Option ((((Bool × Unit) × Unit) ⊕ (((List Int) × Unit) × ((Arr Int 32) × (Int × (Int × (Int × (Int × (Int × (Int × (Bool × ((List Int) × ((List Int) × ((List Int) × Unit)))))))))))))) := gl (fun X c => law38_ChansOrder_L6 N X c.1.1 c.1.2.1 c.1.2.2.1 c.1.2.2.2.1 c.2.1 c.2.2.1 c.2.2.2.1 c.2.2.2.2.1 c.2.2.2.2.2.1 c.2.2.2.2.2.2.1 c.2.2.2.2.2.2.2.1 c.2.2.2.2.2.2.2.2.1 c.2.2.2.2.2.2.2.2.2.1 c.2.2.2.2.2.2.2.2.2.2.1 c.2.2.2.2.2.2.2.2.2.2.2.1) N c
theorem law38_ChansOrder_L6_S (X : (((List Int) × ((List (List Int)) × (Int × (Int × Unit)))) × ((Arr Int 32) × (Int × (Int × (Int × (Int × (Int × (Int × (Bool × ((List Int) × ((List Int) × ((List Int) × Unit)))))))))))) → Option ((((Bool × Unit) × Unit) ⊕ (((List Int) × Unit) × ((Arr Int 32) × (Int × (Int × (Int × (Int × (Int × (Int × (Bool × ((List Int) × ((List Int) × ((List Int) × Unit))))))))))))))) (x1 : List (Int)) (x31 : List (List Int)) (x32 : Int) (x33 : Int) (h0 : Arr Int 32) (h1 : Int) (h2 : Int) (h3 : Int) (h4 : Int) (h5 : Int) (h6 : Int) (h7 : Bool) (h8 : List (Int)) (h9 : List (Int)) (h10 : List (Int)) : (roundK Try.prog (Ev5 N) 400 [4] law38_ChansOrder_L6_I (loopAt Try.prog [4] 6) X ((x1, x31, x32, x33, ()), (h0, h1, h2, h3, h4, h5, h6, h7, h8, h9, h10, ()))).run = law38_ChansOrder_L6 N X x1 x31 x32 x33 h0 h1 h2 h3 h4 h5 h6 h7 h8 h9 h10 := by kernel_rfl
noncomputable def Ev6 : (R : Type) → Env R := Env.addLp (Ev5 N) [4] 0 6 (fun R => lpK Try.prog law38_ChansOrder_L6_I (fun X c => law38_ChansOrder_L6 N X c.1.1 c.1.2.1 c.1.2.2.1 c.1.2.2.2.1 c.2.1 c.2.2.1 c.2.2.2.1 c.2.2.2.2.1 c.2.2.2.2.2.1 c.2.2.2.2.2.2.1 c.2.2.2.2.2.2.2.1 c.2.2.2.2.2.2.2.2.1 c.2.2.2.2.2.2.2.2.2.1 c.2.2.2.2.2.2.2.2.2.2.1 c.2.2.2.2.2.2.2.2.2.2.2.1) N)
theorem Ev6_ok (R : Type) : EnvOK Try.prog (Ev6 N R) := EnvOK.addLp (Ev5_ok N R) (by kernel_rfl) (lpK_ok (li := law38_ChansOrder_L6_I) (G := fun X c => law38_ChansOrder_L6 N X c.1.1 c.1.2.1 c.1.2.2.1 c.1.2.2.2.1 c.2.1 c.2.2.1 c.2.2.2.1 c.2.2.2.2.1 c.2.2.2.2.2.1 c.2.2.2.2.2.2.1 c.2.2.2.2.2.2.2.1 c.2.2.2.2.2.2.2.2.1 c.2.2.2.2.2.2.2.2.2.1 c.2.2.2.2.2.2.2.2.2.2.1 c.2.2.2.2.2.2.2.2.2.2.2.1) hmx (Ev5_ok N _) (by kernel_rfl) loopAt_sub (fun (X : CT law38_ChansOrder_L6_I.sh → Option (OT law38_ChansOrder_L6_I.outs)) (c : CT law38_ChansOrder_L6_I.sh) => law38_ChansOrder_L6_S N X c.1.1 c.1.2.1 c.1.2.2.1 c.1.2.2.2.1 c.2.1 c.2.2.1 c.2.2.2.1 c.2.2.2.2.1 c.2.2.2.2.2.1 c.2.2.2.2.2.2.1 c.2.2.2.2.2.2.2.1 c.2.2.2.2.2.2.2.2.1 c.2.2.2.2.2.2.2.2.2.1 c.2.2.2.2.2.2.2.2.2.2.1 c.2.2.2.2.2.2.2.2.2.2.2.1) N)
noncomputable def law38_ChansOrder_L16_I : LI := ⟨159, 0, [(7, 5)], ⟨[(5, .lit (.box 0 0)), (6, .lit (.own 1)), (7, .lit (.own 2)), (10, .ty (.int .i64)), (49, .ty (.sl (.int .u8))), (50, .ty (.int .i64)), (51, .ty (.int .i64))], [.boxp 64 [.bl true, .ty (.arr 32 (.int .u8)), .ty (.arr 2 (.pair (.sl (.int .u8)) (.pair (.int .i64) (.pair (.int .i64) (.int .i64))))), .ty .bool], .own (.int .u8) 5, .own (.int .u8) 5]⟩, [(.ret, ⟨[(4, .ty .bool)], []⟩), (.exit 2, ⟨[(5, .lit (.box 0 0)), (6, .lit (.own 1)), (7, .lit (.own 2)), (10, .ty (.int .i64))], [.boxp 64 [.bl true, .ty (.arr 32 (.int .u8)), .ty (.arr 2 (.pair (.sl (.int .u8)) (.pair (.int .i64) (.pair (.int .i64) (.int .i64))))), .ty .bool], .own (.int .u8) 5, .own (.int .u8) 5]⟩)]⟩
noncomputable def law38_ChansOrder_L16 (X : ((Int × ((List Int) × (Int × (Int × Unit)))) × ((Arr Int 32) × ((Arr ((List Int) × (Int × (Int × Int))) 2) × (Bool × ((List Int) × ((List Int) × Unit)))))) → Option ((((Bool × Unit) × Unit) ⊕ ((Int × Unit) × ((Arr Int 32) × ((Arr ((List Int) × (Int × (Int × Int))) 2) × (Bool × ((List Int) × ((List Int) × Unit))))))))) (lost10 : Int) (x49 : List (Int)) (x50 : Int) (x51 : Int) (h0 : Arr Int 32) (h1 : Arr ((List Int) × (Int × (Int × Int))) 2) (h2 : Bool) (h3 : List (Int)) (h4 : List (Int)) : Option ((((Bool × Unit) × Unit) ⊕ ((Int × Unit) × ((Arr Int 32) × ((Arr ((List Int) × (Int × (Int × Int))) 2) × (Bool × ((List Int) × ((List Int) × Unit)))))))) :=
 bif (decide (x51 < x50)) then
  Option.bind (getI x49 x51) fun (v11 : Int) =>
  bif (decide ((@Int.tmod x51 (4 : Int)) = (3 : Int))) then
   Option.bind (some ((cond false true (decide ((IntKind.wrap .i64 v11) < (0 : Int)))))) fun (v12 : Bool) =>
   bif v12 then
    some ((.inl ((false, ()), ())))
   else
    Option.bind (@GetElem?.getElem? (List ((List Int) × (Int × (Int × Int)))) Nat ((List Int) × (Int × (Int × Int))) (fun (as13 : (List ((List Int) × (Int × (Int × Int))))) => (fun (i14 : Nat) => (@LT.lt Nat @instLTNat i14 (List.length as13)))) (@List.instGetElem?NatLtLength ((List Int) × (Int × (Int × Int)))) h1.l (Int.toNat (1 : Int))) fun (v13 : ((List Int) × (Int × (Int × Int)))) =>
    Option.bind (@GetElem?.getElem? (List ((List Int) × (Int × (Int × Int)))) Nat ((List Int) × (Int × (Int × Int))) (fun (as14 : (List ((List Int) × (Int × (Int × Int))))) => (fun (i15 : Nat) => (@LT.lt Nat @instLTNat i15 (List.length as14)))) (@List.instGetElem?NatLtLength ((List Int) × (Int × (Int × Int)))) h1.l (Int.toNat (1 : Int))) fun (v14 : ((List Int) × (Int × (Int × Int)))) =>
    Option.bind (takeI v14.1 (@minI (IntKind.wrap .i64 v11) (((List.length v13.1) : Nat) : Int))) fun (v15 : (List Int)) =>
    Option.bind (slices_Clone_byte_byte N v15) fun v16 =>
    Option.bind (@GetElem?.getElem? (List ((List Int) × (Int × (Int × Int)))) Nat ((List Int) × (Int × (Int × Int))) (fun (as17 : (List ((List Int) × (Int × (Int × Int))))) => (fun (i18 : Nat) => (@LT.lt Nat @instLTNat i18 (List.length as17)))) (@List.instGetElem?NatLtLength ((List Int) × (Int × (Int × Int)))) h1.l (Int.toNat (1 : Int))) fun (v17 : ((List Int) × (Int × (Int × Int)))) =>
    Option.bind (dropI v17.1 (@minI (IntKind.wrap .i64 v11) (((List.length v13.1) : Nat) : Int))) fun (v18 : (List Int)) =>
    Option.bind (@GetElem?.getElem? (List ((List Int) × (Int × (Int × Int)))) Nat ((List Int) × (Int × (Int × Int))) (fun (as19 : (List ((List Int) × (Int × (Int × Int))))) => (fun (i20 : Nat) => (@LT.lt Nat @instLTNat i20 (List.length as19)))) (@List.instGetElem?NatLtLength ((List Int) × (Int × (Int × Int)))) h1.l (Int.toNat (1 : Int))) fun (v19 : ((List Int) × (Int × (Int × Int)))) =>
    Option.bind (@GetElem?.getElem? (List ((List Int) × (Int × (Int × Int)))) Nat ((List Int) × (Int × (Int × Int))) (fun (as20 : (List ((List Int) × (Int × (Int × Int))))) => (fun (i21 : Nat) => (@LT.lt Nat @instLTNat i21 (List.length as20)))) (@List.instGetElem?NatLtLength ((List Int) × (Int × (Int × Int)))) (h1.set (Int.toNat (1 : Int)) (v18, (v19.2.1, (v19.2.2.1, v19.2.2.2)))).l (Int.toNat (1 : Int))) fun (v20 : ((List Int) × (Int × (Int × Int)))) =>
    Option.bind (@GetElem?.getElem? (List ((List Int) × (Int × (Int × Int)))) Nat ((List Int) × (Int × (Int × Int))) (fun (as21 : (List ((List Int) × (Int × (Int × Int))))) => (fun (i22 : Nat) => (@LT.lt Nat @instLTNat i22 (List.length as21)))) (@List.instGetElem?NatLtLength ((List Int) × (Int × (Int × Int)))) (h1.set (Int.toNat (1 : Int)) (v18, (v19.2.1, (v19.2.2.1, v19.2.2.2)))).l (Int.toNat (1 : Int))) fun (v21 : ((List Int) × (Int × (Int × Int)))) =>
    Option.bind (some ((cond false true (decide ((IntKind.wrap .i64 v11) < (((List.length v16) : Nat) : Int)))))) fun (v22 : Bool) =>
    bif v22 then
     some ((.inl ((false, ()), ())))
    else
     Option.bind (takeI h3 (((List.length h4) : Nat) : Int)) fun (v23 : (List Int)) =>
     Option.bind (dropI h3 (IntKind.wrap .i64 ((((List.length h4) : Nat) : Int) + (((List.length v16) : Nat) : Int)))) fun (v24 : (List Int)) =>
     bif (roomB (List.length v23) 1) then
      bif (roomB ((List.length v23) + (List.length v24)) 1) then
       (X (((IntKind.wrap .i64 (lost10 + (((List.length v16) : Nat) : Int))), (x49, (x50, ((IntKind.wrap .i64 (x51 + 1)), ())))), (h0, (((h1.set (Int.toNat (1 : Int)) (v18, (v19.2.1, (v19.2.2.1, v19.2.2.2)))).set (Int.toNat (1 : Int)) (v21.1, (v21.2.1, (v21.2.2.1, (IntKind.wrap .i64 (v20.2.2.2 + (((List.length v16) : Nat) : Int))))))), (h2, ((v23 ++ v24), (h4, ())))))))
      else
       none
     else
      none
  else
   Option.bind (some ((cond false true (decide ((IntKind.wrap .i64 v11) < (0 : Int)))))) fun (v12 : Bool) =>
   bif v12 then
    some ((.inl ((false, ()), ())))
   else
    Option.bind (@GetElem?.getElem? (List ((List Int) × (Int × (Int × Int)))) Nat ((List Int) × (Int × (Int × Int))) (fun (as13 : (List ((List Int) × (Int × (Int × Int))))) => (fun (i14 : Nat) => (@LT.lt Nat @instLTNat i14 (List.length as13)))) (@List.instGetElem?NatLtLength ((List Int) × (Int × (Int × Int)))) h1.l (Int.toNat (1 : Int))) fun (v13 : ((List Int) × (Int × (Int × Int)))) =>
    Option.bind (@GetElem?.getElem? (List ((List Int) × (Int × (Int × Int)))) Nat ((List Int) × (Int × (Int × Int))) (fun (as14 : (List ((List Int) × (Int × (Int × Int))))) => (fun (i15 : Nat) => (@LT.lt Nat @instLTNat i15 (List.length as14)))) (@List.instGetElem?NatLtLength ((List Int) × (Int × (Int × Int)))) h1.l (Int.toNat (1 : Int))) fun (v14 : ((List Int) × (Int × (Int × Int)))) =>
    Option.bind (takeI v14.1 (@minI (IntKind.wrap .i64 v11) (((List.length v13.1) : Nat) : Int))) fun (v15 : (List Int)) =>
    Option.bind (slices_Clone_byte_byte N v15) fun v16 =>
    Option.bind (@GetElem?.getElem? (List ((List Int) × (Int × (Int × Int)))) Nat ((List Int) × (Int × (Int × Int))) (fun (as17 : (List ((List Int) × (Int × (Int × Int))))) => (fun (i18 : Nat) => (@LT.lt Nat @instLTNat i18 (List.length as17)))) (@List.instGetElem?NatLtLength ((List Int) × (Int × (Int × Int)))) h1.l (Int.toNat (1 : Int))) fun (v17 : ((List Int) × (Int × (Int × Int)))) =>
    Option.bind (dropI v17.1 (@minI (IntKind.wrap .i64 v11) (((List.length v13.1) : Nat) : Int))) fun (v18 : (List Int)) =>
    Option.bind (@GetElem?.getElem? (List ((List Int) × (Int × (Int × Int)))) Nat ((List Int) × (Int × (Int × Int))) (fun (as19 : (List ((List Int) × (Int × (Int × Int))))) => (fun (i20 : Nat) => (@LT.lt Nat @instLTNat i20 (List.length as19)))) (@List.instGetElem?NatLtLength ((List Int) × (Int × (Int × Int)))) h1.l (Int.toNat (1 : Int))) fun (v19 : ((List Int) × (Int × (Int × Int)))) =>
    Option.bind (@GetElem?.getElem? (List ((List Int) × (Int × (Int × Int)))) Nat ((List Int) × (Int × (Int × Int))) (fun (as20 : (List ((List Int) × (Int × (Int × Int))))) => (fun (i21 : Nat) => (@LT.lt Nat @instLTNat i21 (List.length as20)))) (@List.instGetElem?NatLtLength ((List Int) × (Int × (Int × Int)))) (h1.set (Int.toNat (1 : Int)) (v18, (v19.2.1, (v19.2.2.1, v19.2.2.2)))).l (Int.toNat (1 : Int))) fun (v20 : ((List Int) × (Int × (Int × Int)))) =>
    Option.bind (@GetElem?.getElem? (List ((List Int) × (Int × (Int × Int)))) Nat ((List Int) × (Int × (Int × Int))) (fun (as21 : (List ((List Int) × (Int × (Int × Int))))) => (fun (i22 : Nat) => (@LT.lt Nat @instLTNat i22 (List.length as21)))) (@List.instGetElem?NatLtLength ((List Int) × (Int × (Int × Int)))) (h1.set (Int.toNat (1 : Int)) (v18, (v19.2.1, (v19.2.2.1, v19.2.2.2)))).l (Int.toNat (1 : Int))) fun (v21 : ((List Int) × (Int × (Int × Int)))) =>
    Option.bind (some ((cond false true (decide ((IntKind.wrap .i64 v11) < (((List.length v16) : Nat) : Int)))))) fun (v22 : Bool) =>
    bif v22 then
     some ((.inl ((false, ()), ())))
    else
     bif (roomB ((List.length h4) + (List.length v16)) 1) then
      (X ((lost10, (x49, (x50, ((IntKind.wrap .i64 (x51 + 1)), ())))), (h0, (((h1.set (Int.toNat (1 : Int)) (v18, (v19.2.1, (v19.2.2.1, v19.2.2.2)))).set (Int.toNat (1 : Int)) (v21.1, (v21.2.1, ((IntKind.wrap .i64 (v20.2.2.1 + (((List.length v16) : Nat) : Int))), v21.2.2.2)))), (h2, (h3, ((h4 ++ v16), ())))))))
     else
      none
 else
  some ((.inr ((lost10, ()), (h0, (h1, (h2, (h3, (h4, ()))))))))
noncomputable def law38_ChansOrder_L16_R (c : ((Int × ((List Int) × (Int × (Int × Unit)))) × ((Arr Int 32) × ((Arr ((List Int) × (Int × (Int × Int))) 2) × (Bool × ((List Int) × ((List Int) × Unit))))))) : Option ((((Bool × Unit) × Unit) ⊕ ((Int × Unit) × ((Arr Int 32) × ((Arr ((List Int) × (Int × (Int × Int))) 2) × (Bool × ((List Int) × ((List Int) × Unit)))))))) := gl (fun X c => law38_ChansOrder_L16 N X c.1.1 c.1.2.1 c.1.2.2.1 c.1.2.2.2.1 c.2.1 c.2.2.1 c.2.2.2.1 c.2.2.2.2.1 c.2.2.2.2.2.1) N c
theorem law38_ChansOrder_L16_S (X : ((Int × ((List Int) × (Int × (Int × Unit)))) × ((Arr Int 32) × ((Arr ((List Int) × (Int × (Int × Int))) 2) × (Bool × ((List Int) × ((List Int) × Unit)))))) → Option ((((Bool × Unit) × Unit) ⊕ ((Int × Unit) × ((Arr Int 32) × ((Arr ((List Int) × (Int × (Int × Int))) 2) × (Bool × ((List Int) × ((List Int) × Unit))))))))) (lost10 : Int) (x49 : List (Int)) (x50 : Int) (x51 : Int) (h0 : Arr Int 32) (h1 : Arr ((List Int) × (Int × (Int × Int))) 2) (h2 : Bool) (h3 : List (Int)) (h4 : List (Int)) : (roundK Try.prog (Ev6 N) 400 [4] law38_ChansOrder_L16_I (loopAt Try.prog [4] 16) X ((lost10, x49, x50, x51, ()), (h0, h1, h2, h3, h4, ()))).run = law38_ChansOrder_L16 N X lost10 x49 x50 x51 h0 h1 h2 h3 h4 := by kernel_rfl
noncomputable def Ev7 : (R : Type) → Env R := Env.addLp (Ev6 N) [4] 0 16 (fun R => lpK Try.prog law38_ChansOrder_L16_I (fun X c => law38_ChansOrder_L16 N X c.1.1 c.1.2.1 c.1.2.2.1 c.1.2.2.2.1 c.2.1 c.2.2.1 c.2.2.2.1 c.2.2.2.2.1 c.2.2.2.2.2.1) N)
theorem Ev7_ok (R : Type) : EnvOK Try.prog (Ev7 N R) := EnvOK.addLp (Ev6_ok N R) (by kernel_rfl) (lpK_ok (li := law38_ChansOrder_L16_I) (G := fun X c => law38_ChansOrder_L16 N X c.1.1 c.1.2.1 c.1.2.2.1 c.1.2.2.2.1 c.2.1 c.2.2.1 c.2.2.2.1 c.2.2.2.2.1 c.2.2.2.2.2.1) hmx (Ev6_ok N _) (by kernel_rfl) loopAt_sub (fun (X : CT law38_ChansOrder_L16_I.sh → Option (OT law38_ChansOrder_L16_I.outs)) (c : CT law38_ChansOrder_L16_I.sh) => law38_ChansOrder_L16_S N X c.1.1 c.1.2.1 c.1.2.2.1 c.1.2.2.2.1 c.2.1 c.2.2.1 c.2.2.2.1 c.2.2.2.2.1 c.2.2.2.2.2.1) N)
noncomputable def law38_ChansOrder (l0 : List (List Int)) (x1 : List (Int)) : Option Bool :=
 bif (decide ((30 : Int) < (((List.length l0) : Nat) : Int))) then
  some ((cond (cond (cond true true false) true false) true false))
 else
  Option.bind (some ((cond false true (decide ((60 : Int) < (((List.length x1) : Nat) : Int)))))) fun (v3 : Bool) =>
  bif v3 then
   some ((cond (cond (cond true true false) true false) true false))
  else
   Option.bind (law38_ChansOrder_L6_R N ((x1, (l0, ((((List.length l0) : Nat) : Int), ((0 : Int), ())))), ((@Arr.cons Int 31 0 (@Arr.cons Int 30 0 (@Arr.cons Int 29 0 (@Arr.cons Int 28 0 (@Arr.cons Int 27 0 (@Arr.cons Int 26 0 (@Arr.cons Int 25 0 (@Arr.cons Int 24 0 (@Arr.cons Int 23 0 (@Arr.cons Int 22 0 (@Arr.cons Int 21 0 (@Arr.cons Int 20 0 (@Arr.cons Int 19 0 (@Arr.cons Int 18 0 (@Arr.cons Int 17 0 (@Arr.cons Int 16 0 (@Arr.cons Int 15 0 (@Arr.cons Int 14 0 (@Arr.cons Int 13 0 (@Arr.cons Int 12 0 (@Arr.cons Int 11 0 (@Arr.cons Int 10 0 (@Arr.cons Int 9 0 (@Arr.cons Int 8 0 (@Arr.cons Int 7 0 (@Arr.cons Int 6 0 (@Arr.cons Int 5 0 (@Arr.cons Int 4 0 (@Arr.cons Int 3 0 (@Arr.cons Int 2 0 (@Arr.cons Int 1 0 (@Arr.cons Int 0 0 (@Arr.nil Int))))))))))))))))))))))))))))))))), ((0 : Int), ((0 : Int), ((0 : Int), ((0 : Int), ((0 : Int), ((0 : Int), (false, (([] : List Int), (([] : List Int), (([] : List Int), ()))))))))))))) fun v4 =>
   Sum.elim
    (fun (v5 : ((Bool × Unit) × Unit)) =>
    some (v5.1.1))
    (fun (v5 : (((List Int) × Unit) × ((Arr Int 32) × (Int × (Int × (Int × (Int × (Int × (Int × (Bool × ((List Int) × ((List Int) × ((List Int) × Unit))))))))))))) =>
    Option.bind (law38_ChansOrder_L16_R N (((0 : Int), (v5.1.1, ((((List.length v5.1.1) : Nat) : Int), ((0 : Int), ())))), (v5.2.1, ((@Arr.cons ((List Int) × (Int × (Int × Int))) (1 : Nat) ((v5.2.2.2.2.2.2.2.2).snd.2.1, (v5.2.2.1, (v5.2.2.2.1, v5.2.2.2.2.1))) (@Arr.cons ((List Int) × (Int × (Int × Int))) (0 : Nat) ((v5.2.2.2.2.2.2.2.2).snd.2.2.1, (v5.2.2.2.2.2.1, (v5.2.2.2.2.2.2.1, v5.2.2.2.2.2.2.2.1))) (@Arr.nil ((List Int) × (Int × (Int × Int)))))), (v5.2.2.2.2.2.2.2.2.1, ((v5.2.2.2.2.2.2.2.2).snd.1, (([] : List Int), ()))))))) fun v6 =>
    Sum.elim
     (fun (v7 : ((Bool × Unit) × Unit)) =>
     some (v7.1.1))
     (fun (v7 : ((Int × Unit) × ((Arr Int 32) × ((Arr ((List Int) × (Int × (Int × Int))) 2) × (Bool × ((List Int) × ((List Int) × Unit))))))) =>
     Option.bind (@GetElem?.getElem? (List ((List Int) × (Int × (Int × Int)))) Nat ((List Int) × (Int × (Int × Int))) (fun (as8 : (List ((List Int) × (Int × (Int × Int))))) => (fun (i9 : Nat) => (@LT.lt Nat @instLTNat i9 (List.length as8)))) (@List.instGetElem?NatLtLength ((List Int) × (Int × (Int × Int)))) v7.2.2.1.l (Int.toNat (1 : Int))) fun (v8 : ((List Int) × (Int × (Int × Int)))) =>
     Option.bind (takeI (v7.2.2.2).snd.1 (((List.length (v7.2.2.2).snd.2.1) : Nat) : Int)) fun (v9 : (List Int)) =>
     Option.bind (ref01_Same N (v7.2.2.2).snd.2.1 v9) fun v10 =>
     bif v10 then
      Option.bind (dropI (v7.2.2.2).snd.1 (((List.length (v7.2.2.2).snd.2.1) : Nat) : Int)) fun (v11 : (List Int)) =>
      Option.bind (@GetElem?.getElem? (List ((List Int) × (Int × (Int × Int)))) Nat ((List Int) × (Int × (Int × Int))) (fun (as12 : (List ((List Int) × (Int × (Int × Int))))) => (fun (i13 : Nat) => (@LT.lt Nat @instLTNat i13 (List.length as12)))) (@List.instGetElem?NatLtLength ((List Int) × (Int × (Int × Int)))) v7.2.2.1.l (Int.toNat (1 : Int))) fun (v12 : ((List Int) × (Int × (Int × Int)))) =>
      Option.bind (slices_Clone_byte_byte N v12.1) fun v13 =>
      Option.bind (ref01_Same N v13 v11) fun v14 =>
      bif (cond true v14 false) then
       Option.bind (@GetElem?.getElem? (List ((List Int) × (Int × (Int × Int)))) Nat ((List Int) × (Int × (Int × Int))) (fun (as15 : (List ((List Int) × (Int × (Int × Int))))) => (fun (i16 : Nat) => (@LT.lt Nat @instLTNat i16 (List.length as15)))) (@List.instGetElem?NatLtLength ((List Int) × (Int × (Int × Int)))) v7.2.2.1.l (Int.toNat (1 : Int))) fun (v15 : ((List Int) × (Int × (Int × Int)))) =>
       bif (cond true (decide (v8.2.1 = (IntKind.wrap .i64 ((IntKind.wrap .i64 (v8.2.2.1 + v8.2.2.2)) + (((List.length v15.1) : Nat) : Int))))) false) then
        bif (cond true (decide (v8.2.2.1 = (((List.length (v7.2.2.2).snd.2.1) : Nat) : Int))) false) then
         bif (cond true (decide (v8.2.2.2 = v7.1.1)) false) then
          Option.bind (@GetElem?.getElem? (List ((List Int) × (Int × (Int × Int)))) Nat ((List Int) × (Int × (Int × Int))) (fun (as16 : (List ((List Int) × (Int × (Int × Int))))) => (fun (i17 : Nat) => (@LT.lt Nat @instLTNat i17 (List.length as16)))) (@List.instGetElem?NatLtLength ((List Int) × (Int × (Int × Int)))) v7.2.2.1.l (Int.toNat (0 : Int))) fun (v16 : ((List Int) × (Int × (Int × Int)))) =>
          bif (cond true (decide ((((List.length v16.1) : Nat) : Int) = (0 : Int))) false) then
           some ((cond true (cond (cond (cond true true false) true false) true false) false))
          else
           some (false)
         else
          some (false)
        else
         some (false)
       else
        some (false)
      else
       some (false)
     else
      some (false)) v6) v4
theorem law38_ChansOrder_S (l0 : List (List Int)) (x1 : List (Int)) : (runK Try.prog (Ev7 N) 400 4 [(.sl (.sl (.int .u8))), (.sl (.int .u8))] [.bool] (l0, x1, ())).run = law38_ChansOrder N l0 x1 := by kernel_rfl
theorem law38_ChansOrder_C (l0 : List (List Int)) (x1 : List (Int)) (y : Bool) (h : law38_ChansOrder N l0 x1 = some y) : CallsK Try.prog 4 (valA [(.sl (.sl (.int .u8))), (.sl (.int .u8))] (l0, x1, ())) (tupV (valR [.bool] y)) := runK_ok hmx (Ev7_ok N _) (okFn_ok (by kernel_rfl)) (by rw [law38_ChansOrder_S]; exact h)
end
end Go.Proofs.Ytkpjafbefiimcaa
namespace Go.Proofs.Ytkpjafbefiimcaa
set_option maxRecDepth 100000
open Go.RowKit
set_option linter.unusedVariables false
set_option linter.unusedSimpArgs false
def AllB (l : List Int) : Prop := ∀ x ∈ l, 0 ≤ x ∧ x < 256
theorem AllB.nil : AllB [] := fun _ h => by cases h
theorem AllB.cons {x : Int} {l : List Int} (h1 : 0 ≤ x ∧ x < 256) (h2 : AllB l) : AllB (x :: l) := fun y hy => by
  rcases List.mem_cons.1 hy with rfl | hy
  · exact h1
  · exact h2 y hy
theorem AllB.append {l m : List Int} (h1 : AllB l) (h2 : AllB m) : AllB (l ++ m) := fun y hy => by
  rcases List.mem_append.1 hy with hy | hy
  · exact h1 y hy
  · exact h2 y hy
theorem AllB.drop {l : List Int} (h : AllB l) (n : Nat) : AllB (l.drop n) := fun y hy => h y (List.mem_of_mem_drop hy)
theorem AllB.take {l : List Int} (h : AllB l) (n : Nat) : AllB (l.take n) := fun y hy => h y (List.mem_of_mem_take hy)
theorem AllB.get {l : List Int} (h : AllB l) (i : Nat) (hi : i < l.length) : 0 ≤ l[i] ∧ l[i] < 256 := h _ (List.getElem_mem hi)
theorem wf_u8 {n : Int} (h : (Lit.int .u8 n).wf = true) : 0 ≤ n ∧ n < 256 := by
  simp only [Lit.wf, Bool.and_eq_true, decide_eq_true_eq, IntKind.min, IntKind.max, IntKind.signed, IntKind.bits] at h
  simp at h
  omega
theorem wf_bytes {l : List Int} (h : wfT (.sl (.int .u8)) l) : AllB l := fun x hx => wf_u8 (h.2 x hx)
theorem dropI_nat {α : Type} (l : List α) {a : Int} {i : Nat} (ha : a = i) (h1 : i ≤ l.length) : dropI l a = some (l.drop i) := by
  subst ha
  unfold dropI
  rw [if_pos ⟨by omega, by omega⟩, Int.toNat_natCast]
theorem takeI_nat {α : Type} (l : List α) {a : Int} {i : Nat} (ha : a = i) (h1 : i ≤ l.length) : takeI l a = some (l.take i) := by
  subst ha
  unfold takeI
  rw [if_pos ⟨by omega, by omega⟩, Int.toNat_natCast]
def sameB (X : (((List (Int)) × ((List (Int)) × ((Int) × Unit))) × Unit) → Option (((((Bool) × Unit) × Unit) ⊕ (Unit × Unit)))) (a0 : List (Int)) (b1 : List (Int)) (i5 : Int) : Option (((((Bool) × Unit) × Unit) ⊕ (Unit × Unit))) :=
 bif (decide (i5 < (((List.length a0) : Nat) : Int))) then
  Option.bind (getI a0 i5) fun (v5 : Int) =>
  Option.bind (getI b1 i5) fun (v6 : Int) =>
  bif (!(decide (v5 = v6))) then
   some ((.inl ((Bool.false, Unit.unit), Unit.unit)))
  else
   (X ((a0, (b1, ((IntKind.wrap .i64 (i5 + (1 : Int))), Unit.unit))), Unit.unit))
 else
  some ((.inr (Unit.unit, Unit.unit)))
def sameF (N : Nat) (a0 : List (Int)) (b1 : List (Int)) : Option (Bool) :=
 bif (!(decide ((((List.length a0) : Nat) : Int) = (((List.length b1) : Nat) : Int)))) then
  some (Bool.false)
 else
  Option.bind (gl (fun X c => sameB X c.1.1 c.1.2.1 c.1.2.2.1) N ((a0, (b1, ((0 : Int), Unit.unit))), Unit.unit)) fun (v3 : (((Bool × Unit) × Unit) ⊕ (Unit × Unit))) =>
  Sum.elim
   (fun (v4 : ((Bool × Unit) × Unit)) =>
   some (v4.1.1))
   (fun (v4 : (Unit × Unit)) =>
   some (Bool.true)) v3
theorem sameF_ok {N : Nat} {a b : List Int} (h : a.length < N) (hb : a.length < 1000000000) : sameF N a b = some (decide (a = b)) := by
  unfold sameF
  by_cases hl : a.length = b.length
  · have c0 : ((a.length : Int) = (b.length : Int)) := by omega
    simp only [c0, decide_true, Bool.not_true, cond_false]
    obtain ⟨o, h1, h2⟩ := gl_inv (G := fun (X : (((List (Int)) × ((List (Int)) × ((Int) × Unit))) × Unit) → Option (((((Bool) × Unit) × Unit) ⊕ (Unit × Unit)))) c => sameB X c.1.1 c.1.2.1 c.1.2.2.1)
      (fun n c => ∃ i : Nat, c = ((a, (b, ((i : Int), ()))), ()) ∧ i ≤ a.length ∧ n = a.length - i ∧ a.take i = b.take i) (fun o => o = if a = b then .inr ((), ()) else .inl ((false, ()), ())) (fun X n c ⟨i, hc, hi, hn, ht⟩ => by
      subst hc
      rcases Nat.lt_or_ge i a.length with hlt | hge
      · have c1 : ((i : Int) < (a.length : Int)) := by omega
        have c2 : IntKind.wrap .i64 ((i : Int) + 1) = ((i + 1 : Nat) : Int) := by rw [wrap64 (by omega) (by omega)]; omega
        by_cases he : a[i] = b[i]'(by omega)
        · right
          refine ⟨a.length - (i + 1), ((a, (b, (((i + 1 : Nat) : Int), ()))), ()), by omega, ⟨i + 1, rfl, hlt, rfl, ?_⟩, ?_⟩
          · rw [List.take_add_one, List.take_add_one, ht, List.getElem?_eq_getElem hlt, List.getElem?_eq_getElem (by omega), he]
          · simp only [sameB, c1, decide_true, cond_true, getI_lt a i hlt, getI_lt b i (by omega), Option.bind_some, he, Bool.not_true, cond_false, c2]
        · left
          refine ⟨.inl ((false, ()), ()), ?_, ?_⟩
          · simp only [sameB, c1, decide_true, cond_true, getI_lt a i hlt, getI_lt b i (by omega), Option.bind_some, he, decide_false, Bool.not_false]
          · rw [if_neg (fun h => he (by simp [h]))]
      · left
        have c1 : ¬ ((i : Int) < (a.length : Int)) := by omega
        refine ⟨.inr ((), ()), by simp only [sameB, c1, decide_false, cond_false], ?_⟩
        rw [List.take_of_length_le (by omega), List.take_of_length_le (by omega)] at ht
        rw [if_pos ht]) N a.length ((a, (b, ((0 : Int), ()))), ()) h ⟨0, rfl, by omega, by omega, by simp⟩
    rw [h1, h2]
    by_cases he : a = b <;> simp [he]
  · have c0 : ¬ ((a.length : Int) = (b.length : Int)) := by omega
    have c1 : ¬ (a = b) := fun h' => hl (by rw [h'])
    simp only [c0, c1, decide_false, Bool.not_false, cond_true]
end Go.Proofs.Ytkpjafbefiimcaa
namespace Go.Proofs.Ytkpjafbefiimcaa
set_option maxRecDepth 100000
open Go.RowKit
set_option linter.unusedVariables false
set_option linter.unusedSimpArgs false
set_option maxRecDepth 100000
abbrev Wy := (List Int) × (Int × (Int × Int))
theorem rsame {N : Nat} (a b : List Int) (h : a.length < N) (hb : a.length < 1000000000) : ref01_Same N a b = some (decide (a = b)) := sameF_ok h hb
theorem oclone {N : Nat} (s : List Int) (h : s.length ≤ 1000000) : slices_Clone_byte_byte N s = some s := by
 have : roomB s.length 1 = true := roomB_of (by have := big_len; omega) (by omega)
 cases s <;> simp_all [slices_Clone_byte_byte, slices_Clone_byte_byte_ne]
abbrev S6 := ((List Int) × ((List (List Int)) × (Int × (Int × Unit)))) × ((Arr Int 32) × (Int × (Int × (Int × (Int × (Int × (Int × (Bool × ((List Int) × ((List Int) × ((List Int) × Unit)))))))))))
abbrev O6 := ((Bool × Unit) × Unit) ⊕ (((List Int) × Unit) × ((Arr Int 32) × (Int × (Int × (Int × (Int × (Int × (Int × (Bool × ((List Int) × ((List Int) × ((List Int) × Unit))))))))))))
theorem puts_loop (x : List Int) (l : List (List Int)) (hs : Arr Int 32) (hl : l.length ≤ 30) : ∃ o : O6, law38_ChansOrder_L6_R 200000 ((x, (l, ((l.length : Int), ((0 : Int), ())))), (hs, ((0 : Int), ((0 : Int), ((0 : Int), ((0 : Int), ((0 : Int), ((0 : Int), (false, (([] : List Int), (([] : List Int), (([] : List Int), ())))))))))))) = some o ∧
  (o = .inl ((true, ()), ()) ∨ ∃ A : List Int, A.length ≤ 15000 ∧ o = .inr ((x, ()), (hs, ((0 : Int), ((0 : Int), ((0 : Int), ((A.length : Int), ((0 : Int), ((0 : Int), (false, (A, (([] : List Int), (A, ()))))))))))))) := by
 refine gl_inv (G := fun (X : S6 → Option O6) c => law38_ChansOrder_L6 200000 X c.1.1 c.1.2.1 c.1.2.2.1 c.1.2.2.2.1 c.2.1 c.2.2.1 c.2.2.2.1 c.2.2.2.2.1 c.2.2.2.2.2.1 c.2.2.2.2.2.2.1 c.2.2.2.2.2.2.2.1 c.2.2.2.2.2.2.2.2.1 c.2.2.2.2.2.2.2.2.2.1 c.2.2.2.2.2.2.2.2.2.2.1 c.2.2.2.2.2.2.2.2.2.2.2.1)
  (fun n c => ∃ (i : Nat) (A : List Int), c = ((x, (l, ((l.length : Int), ((i : Int), ())))), (hs, ((0 : Int), ((0 : Int), ((0 : Int), ((A.length : Int), ((0 : Int), ((0 : Int), (false, (A, (([] : List Int), (A, ())))))))))))) ∧ i ≤ l.length ∧ n = l.length - i ∧ A.length ≤ 500 * i)
  (fun o => o = .inl ((true, ()), ()) ∨ ∃ A : List Int, A.length ≤ 15000 ∧ o = .inr ((x, ()), (hs, ((0 : Int), ((0 : Int), ((0 : Int), ((A.length : Int), ((0 : Int), ((0 : Int), (false, (A, (([] : List Int), (A, ()))))))))))))) (fun X n c ⟨i, A, hc, hi, hn, hA⟩ => ?_) 200000 l.length _ (by omega) ⟨0, [], rfl, by omega, by omega, by simp⟩
 subst hc
 show (∃ o, law38_ChansOrder_L6 200000 X x l (l.length : Int) (i : Int) hs 0 0 0 (A.length : Int) 0 0 false A [] A = some o ∧ _) ∨ ∃ m c', m < n ∧ _ ∧ law38_ChansOrder_L6 200000 X x l (l.length : Int) (i : Int) hs 0 0 0 (A.length : Int) 0 0 false A [] A = X c'
 unfold law38_ChansOrder_L6
 by_cases h : i < l.length
 ·have c1 : decide ((i : Int) < (l.length : Int)) = true := decide_eq_true (by omega)
  simp only [c1, cond_true, getI_lt l i h, Option.bind_some]
  by_cases h5 : (500 : Int) < ((l[i].length : Nat) : Int)
  ·rw [decide_eq_true h5]
   exact .inl ⟨_, rfl, .inl rfl⟩
  ·have c2 : decide ((500 : Int) < ((l[i].length : Nat) : Int)) = false := decide_eq_false h5
   have c3 : decide (IntKind.wrap .i64 (65536 - ((A.length : Nat) : Int)) < ((l[i].length : Nat) : Int)) = false := decide_eq_false (by rw [wrap64 (by omega) (by omega)]; omega)
   have c4 : roomB (A.length + l[i].length) 1 = true := roomB_of (by have := big_len; omega) (by omega)
   have c5 : IntKind.wrap .i64 ((i : Int) + 1) = ((i + 1 : Nat) : Int) := by rw [wrap64 (by omega) (by omega)]; omega
   have c6 : IntKind.wrap .i64 (((A.length : Nat) : Int) + ((l[i].length : Nat) : Int)) = (((A ++ l[i]).length : Nat) : Int) := by rw [wrap64 (by omega) (by omega), List.length_append]; omega
   refine .inr ⟨l.length - (i + 1), _, by omega, ⟨i + 1, A ++ l[i], rfl, h, rfl, by rw [List.length_append]; omega⟩, ?_⟩
   simp only [c2, c3, c4, c5, c6, cond_true, cond_false, Bool.not_true]
 ·have c1 : decide ((i : Int) < (l.length : Int)) = false := decide_eq_false (by omega)
  simp only [c1, cond_false]
  exact .inl ⟨_, rfl, .inr ⟨A, by omega, rfl⟩⟩
theorem min_is (n : Int) (k : Nat) (h0 : 0 ≤ n) : minI n ((k : Nat) : Int) = ((min n.toNat k : Nat) : Int) := by
 unfold minI
 split <;> omega
abbrev S16 := ((Int × ((List Int) × (Int × (Int × Unit)))) × ((Arr Int 32) × ((Arr Wy 2) × (Bool × ((List Int) × ((List Int) × Unit))))))
abbrev O16 := ((Bool × Unit) × Unit) ⊕ ((Int × Unit) × ((Arr Int 32) × ((Arr Wy 2) × (Bool × ((List Int) × ((List Int) × Unit))))))
theorem takes_loop (a : List Int) (hs : Arr Int 32) (ha : AllB a) (hl : a.length ≤ 60) (A : List Int) (hA : A.length ≤ 15000) (W0 : Arr Wy 2) (hW0 : W0.l = [([], (0, (0, 0))), (A, ((A.length : Int), (0, 0)))]) :
  ∃ o : O16, law38_ChansOrder_L16_R 200000 (((0 : Int), (a, ((a.length : Int), ((0 : Int), ())))), (hs, (W0, (false, (A, (([] : List Int), ())))))) = some o ∧
  ∃ (W : Arr Wy 2) (got rest : List Int) (lost : Nat), o = .inr (((lost : Int), ()), (hs, (W, (false, (got ++ rest, (got, ())))))) ∧ W.l = [([], (0, (0, 0))), (rest, (((got.length + lost + rest.length : Nat) : Int), ((got.length : Int), (lost : Int))))] ∧ got.length + lost + rest.length ≤ 15000 := by
 refine gl_inv (G := fun (X : S16 → Option O16) c => law38_ChansOrder_L16 200000 X c.1.1 c.1.2.1 c.1.2.2.1 c.1.2.2.2.1 c.2.1 c.2.2.1 c.2.2.2.1 c.2.2.2.2.1 c.2.2.2.2.2.1)
  (fun n c => ∃ (i : Nat) (W : Arr Wy 2) (got rest : List Int) (lost : Nat), c = (((lost : Int), (a, ((a.length : Int), ((i : Int), ())))), (hs, (W, (false, (got ++ rest, (got, ())))))) ∧ W.l = [([], (0, (0, 0))), (rest, (((got.length + lost + rest.length : Nat) : Int), ((got.length : Int), (lost : Int))))] ∧ got.length + lost + rest.length ≤ 15000 ∧ i ≤ a.length ∧ n = a.length - i)
  (fun o => ∃ (W : Arr Wy 2) (got rest : List Int) (lost : Nat), o = .inr (((lost : Int), ()), (hs, (W, (false, (got ++ rest, (got, ())))))) ∧ W.l = [([], (0, (0, 0))), (rest, (((got.length + lost + rest.length : Nat) : Int), ((got.length : Int), (lost : Int))))] ∧ got.length + lost + rest.length ≤ 15000) (fun X n c ⟨i, W, got, rest, lost, hc, hW, hb, hi, hn⟩ => ?_) 200000 a.length _ (by omega) ⟨0, W0, [], A, 0, rfl, by rw [hW0]; simp, by simpa using hA, by omega, by omega⟩
 subst hc
 show (∃ o, law38_ChansOrder_L16 200000 X (lost : Int) a (a.length : Int) (i : Int) hs W false (got ++ rest) got = some o ∧ _) ∨ ∃ m c', m < n ∧ _ ∧ law38_ChansOrder_L16 200000 X (lost : Int) a (a.length : Int) (i : Int) hs W false (got ++ rest) got = X c'
 unfold law38_ChansOrder_L16
 by_cases h : i < a.length
 ·have c1 : decide ((i : Int) < (a.length : Int)) = true := decide_eq_true (by omega)
  have hv := ha a[i] (List.getElem_mem h)
  have w1 : IntKind.wrap .i64 a[i] = a[i] := wrap64 (by omega) (by omega)
  obtain ⟨k, hk, hk1, hk2⟩ : ∃ k : Nat, minI a[i] ((rest.length : Nat) : Int) = (k : Int) ∧ k ≤ rest.length ∧ (k : Int) ≤ a[i] := ⟨_, min_is _ _ hv.1, by omega, by omega⟩
  have ht : takeI rest (k : Int) = some (rest.take k) := takeI_nat rest rfl hk1
  have hd : dropI rest (k : Int) = some (rest.drop k) := dropI_nat rest rfl hk1
  have hcl := oclone (N := 200000) (rest.take k) (by rw [List.length_take]; omega)
  have htl : (rest.take k).length = k := by rw [List.length_take]; omega
  have hdl : (rest.drop k).length = rest.length - k := List.length_drop
  have c2 : decide (a[i] < 0) = false := decide_eq_false (by omega)
  have c3 : decide (a[i] < (k : Int)) = false := decide_eq_false (by omega)
  have c5 : IntKind.wrap .i64 ((i : Int) + 1) = ((i + 1 : Nat) : Int) := by rw [wrap64 (by omega) (by omega)]; omega
  have w2 : ∀ x y : Nat, x ≤ 15000 → y ≤ 15000 → IntKind.wrap .i64 ((x : Int) + (y : Int)) = ((x + y : Nat) : Int) := fun x y hx hy => by rw [wrap64 (by omega) (by omega)]; omega
  have hset : ∀ (V : Arr Wy 2) (w0 w1 v : Wy), V.l = [w0, w1] → (V.set (Int.toNat 1) v).l = [w0, v] := fun V w0 w1 v hV => by
   show V.l.set 1 v = _
   rw [hV]; rfl
  have g1 : ∀ (w0 w1 : Wy), ([w0, w1] : List Wy)[(Int.toNat 1)]? = some w1 := fun w0 w1 => rfl
  have hW1 := hset W _ _ (rest.drop k, (((got.length + lost + rest.length : Nat) : Int), ((got.length : Int), (lost : Int)))) hW
  simp only [c1, cond_true, getI_lt a i h, Option.bind_some, w1, c2, cond_false, Bool.not_true, hW, g1, hk, ht, hcl, hd, hW1, htl, c3]
  by_cases h4 : Int.tmod (i : Int) 4 = 3
  ·have t1 : takeI (got ++ rest) ((got.length : Nat) : Int) = some got := by rw [takeI_nat (i := got.length) _ rfl (by rw [List.length_append]; omega)]; simp
   have t2 : dropI (got ++ rest) (((got.length + k : Nat) : Int)) = some (rest.drop k) := by
    rw [dropI_nat (i := got.length + k) _ rfl (by rw [List.length_append]; omega), List.drop_append]
    simp
   have r1 : roomB got.length 1 = true := roomB_of (by have := big_len; omega) (by omega)
   have r2 : roomB (got.length + (rest.drop k).length) 1 = true := roomB_of (by have := big_len; omega) (by omega)
   refine .inr ⟨a.length - (i + 1), _, by omega, ⟨i + 1, (W.set (Int.toNat 1) (rest.drop k, (((got.length + lost + rest.length : Nat) : Int), ((got.length : Int), (lost : Int))))).set (Int.toNat 1) (rest.drop k, (((got.length + lost + rest.length : Nat) : Int), ((got.length : Int), ((lost + k : Nat) : Int)))), got, rest.drop k, lost + k, rfl, ?_, by omega, h, rfl⟩, ?_⟩
   rotate_left
   ·simp only [decide_eq_true h4, cond_true, t1, Option.bind_some, w2 got.length k (by omega) (by omega), t2, r1, r2, w2 lost k (by omega) (by omega), c5]
   ·rw [hset _ _ _ _ hW1, hdl, show got.length + (lost + k) + (rest.length - k) = got.length + lost + rest.length by omega]
  ·have r1 : roomB (got.length + k) 1 = true := roomB_of (by have := big_len; omega) (by omega)
   have hgl : (got ++ rest.take k).length = got.length + k := by rw [List.length_append, htl]
   refine .inr ⟨a.length - (i + 1), _, by omega, ⟨i + 1, (W.set (Int.toNat 1) (rest.drop k, (((got.length + lost + rest.length : Nat) : Int), ((got.length : Int), (lost : Int))))).set (Int.toNat 1) (rest.drop k, (((got.length + lost + rest.length : Nat) : Int), (((got.length + k : Nat) : Int), (lost : Int)))), got ++ rest.take k, rest.drop k, lost, rfl, ?_, by rw [hgl]; omega, h, rfl⟩, ?_⟩
   rotate_left
   ·have e : got ++ rest.take k ++ rest.drop k = got ++ rest := by rw [List.append_assoc, List.take_append_drop]
    rw [e]
    simp only [decide_eq_false h4, cond_false, r1, cond_true, w2 got.length k (by omega) (by omega), c5]
   ·rw [hset _ _ _ _ hW1, hdl, hgl, show got.length + k + lost + (rest.length - k) = got.length + lost + rest.length by omega]
 ·have c1 : decide ((i : Int) < (a.length : Int)) = false := decide_eq_false (by omega)
  simp only [c1, cond_false]
  exact .inl ⟨_, rfl, W, got, rest, lost, rfl, hW, hb⟩
theorem law_ChansOrder (l : List (List Int)) (a : List Int) (h1 : wfT (.sl (.sl (.int .u8))) l) (h2 : wfT (.sl (.int .u8)) a) : law38_ChansOrder 200000 l a = some true := by
 have ha := wf_bytes h2
 unfold law38_ChansOrder
 by_cases hl : (30 : Int) < ((l.length : Nat) : Int)
 ·rw [decide_eq_true hl]; rfl
 rw [decide_eq_false hl]
 by_cases hl2 : (60 : Int) < ((a.length : Nat) : Int)
 ·rw [decide_eq_true hl2]; rfl
 rw [decide_eq_false hl2]
 simp only [cond_false, cond_true, Option.bind_some]
 obtain ⟨o, p1, p2⟩ := puts_loop a l (Arr.cons (0 : Int) (Arr.cons (0 : Int) (Arr.cons (0 : Int) (Arr.cons (0 : Int) (Arr.cons (0 : Int) (Arr.cons (0 : Int) (Arr.cons (0 : Int) (Arr.cons (0 : Int) (Arr.cons (0 : Int) (Arr.cons (0 : Int) (Arr.cons (0 : Int) (Arr.cons (0 : Int) (Arr.cons (0 : Int) (Arr.cons (0 : Int) (Arr.cons (0 : Int) (Arr.cons (0 : Int) (Arr.cons (0 : Int) (Arr.cons (0 : Int) (Arr.cons (0 : Int) (Arr.cons (0 : Int) (Arr.cons (0 : Int) (Arr.cons (0 : Int) (Arr.cons (0 : Int) (Arr.cons (0 : Int) (Arr.cons (0 : Int) (Arr.cons (0 : Int) (Arr.cons (0 : Int) (Arr.cons (0 : Int) (Arr.cons (0 : Int) (Arr.cons (0 : Int) (Arr.cons (0 : Int) (Arr.cons (0 : Int) (Arr.nil : Arr Int 0))))))))))))))))))))))))))))))))) (by omega)
 rw [p1]
 rcases p2 with rfl | ⟨A, hA, rfl⟩
 ·rfl
 ·simp only [Option.bind_some, Sum.elim_inr]
  generalize (Arr.cons (0 : Int) _ : Arr Int 32) = hs
  obtain ⟨o, q1, W, got, rest, lost, rfl, hW, hb⟩ := takes_loop a hs ha (by omega) A hA (Arr.cons (([] : List Int), ((0 : Int), ((0 : Int), (0 : Int)))) (Arr.cons (A, ((A.length : Int), ((0 : Int), (0 : Int)))) (Arr.nil : Arr Wy 0))) rfl
  rw [q1]
  have t1 : takeI (got ++ rest) ((got.length : Nat) : Int) = some got := by rw [takeI_nat (i := got.length) _ rfl (by rw [List.length_append]; omega)]; simp
  have t2 : dropI (got ++ rest) ((got.length : Nat) : Int) = some rest := by rw [dropI_nat (i := got.length) _ rfl (by rw [List.length_append]; omega)]; simp
  have s1 := rsame (N := 200000) got got (by omega) (by omega)
  have s2 := rsame (N := 200000) rest rest (by omega) (by omega)
  have hcl := oclone (N := 200000) rest (by omega)
  have g1 : ∀ (w0 w1 : Wy), ([w0, w1] : List Wy)[(Int.toNat 1)]? = some w1 := fun w0 w1 => rfl
  have g0 : ∀ (w0 w1 : Wy), ([w0, w1] : List Wy)[(Int.toNat 0)]? = some w0 := fun w0 w1 => rfl
  have w1 : IntKind.wrap .i64 (IntKind.wrap .i64 ((got.length : Int) + (lost : Int)) + ((rest.length : Nat) : Int)) = ((got.length + lost + rest.length : Nat) : Int) := by rw [wrap64 (x := (got.length : Int) + lost) (by omega) (by omega), wrap64 (by omega) (by omega)]; omega
  simp only [Option.bind_some, Sum.elim_inr, cond_true, cond_false, Bool.not_true, t1, s1, decide_true, t2, hW, g1, hcl, s2, w1, g0, List.length_nil, Int.natCast_zero]
end Go.Proofs.Ytkpjafbefiimcaa
