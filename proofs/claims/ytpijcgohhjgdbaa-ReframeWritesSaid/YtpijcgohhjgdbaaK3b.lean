/-
  More operations that write nothing: structs and arrays that are compared, parts of arrays and of texts, arrays out of slices, pointers that are compared.
-/
import Derived.Test.YtpijcgohhjgdbaaK3
import Derived.DeepKeys
import Derived.Laws.StructEq
import Derived.Laws.Pointers
import Derived.LaidEqlPtr
namespace Go.Proofs.Ytpijcgohhjgdbaa
set_option maxRecDepth 100000
open Go.RowKit
set_option linter.unusedVariables false
set_option linter.unusedSimpArgs false

mutual
/-- A type of the program is laid out as a code of types. -/
def layT' (P : Program) : Nat → TypeId → Td → Bool
  | 0, _, _ => false
  | n + 1, t, d => P.cellsOf t == wd d && (match P.underlying t, d with
    | some (.int k), .int k' => decide (k = k')
    | some .bool, .bool => true
    | some .string, .str => true
    | some (.slice e), .sl d => decide (1 ≤ wd d) && layT' P n e d
    | some (.array m e), .arr m' d => m == m' && layT' P n e d
    | some (.struct fs), d => layFs P n fs.toList 0 d
    | _, _ => false)
def layFs (P : Program) : Nat → List Field → Nat → Td → Bool
  | 0, _, _, _ => false
  | n + 1, fs, o, d => match fs with
    | [] => false
    | [f] => f.offset == o && layT' P n f.type d
    | f :: g :: fs => (match d with
      | .pair d e => f.offset == o && layT' P n f.type d && layFs P n (g :: fs) (o + wd d) e
      | _ => false)
end
theorem layT_cells {P : Program} {n : Nat} {t : TypeId} {d : Td} (h : layT' P n t d = true) : P.cellsOf t = wd d := by
  cases n with
  | zero => simp [layT'] at h
  | succ n => simp only [layT', Bool.and_eq_true, beq_iff_eq] at h; exact h.1
def isAgg : V → Bool
  | .agg _ | .arr _ _ _ | .c (.agg _) => true
  | _ => false
theorem isAgg_true {x : V} (h : isAgg x = true) : (∃ l, x = .agg l) ∨ (∃ d n a, x = .arr d n a) ∨ ∃ cs, x = .c (.agg cs) := by
  unfold isAgg at h
  split at h
  · exact .inl ⟨_, rfl⟩
  · exact .inr (.inl ⟨_, _, _, rfl⟩)
  · exact .inr (.inr ⟨_, rfl⟩)
  · cases h

/-! ### Data that can be compared -/
theorem Arr.ext' {α : Type} {n : Nat} {a b : Arr α n} (h : a.l = b.l) : a = b := by cases a; cases b; cases h; rfl
instance decArr {α : Type} {n : Nat} [DecidableEq α] : DecidableEq (Arr α n) := fun a b => decidable_of_iff (a.l = b.l) ⟨Arr.ext', fun h => congrArg _ h⟩
def decT : (d : Td) → DecidableEq (T d)
  | .int _ => Int.instDecidableEq
  | .bool => instDecidableEqBool
  | .str => instDecidableEqList
  | .sl d => @instDecidableEqList _ (decT d)
  | .arr n d => @decArr _ n (decT d)
  | .pair d e => @instDecidableEqProd _ _ (decT d) (decT e)
def eqD : Td → Bool
  | .int _ | .bool | .str => true
  | .sl _ => false
  | .arr _ d => eqD d
  | .pair d e => eqD d && eqD e
/-- Numbers are in their kinds' ranges, texts are a machine's. -/
def wfB : (d : Td) → T d → Bool
  | .int k, n => (Lit.int k n).wf
  | .bool, _ => true
  | .str, s => decide (s.length ≤ maxLen)
  | .sl _, _ => true
  | .arr n d, a => a.l.all (wfB d)
  | .pair d e, x => wfB d x.1 && wfB e x.2
def lits : (d : Td) → T d → List Lit
  | .int k, n => [.int k n]
  | .bool, b => [.bool b]
  | .str, s => [.string s]
  | .sl _, _ => []
  | .arr n d, a => a.l.flatMap (lits d)
  | .pair d e, x => lits d x.1 ++ lits e x.2
def valsD : (d : Td) → T d → List Value
  | .int k, n => [.int k n]
  | .bool, b => [.bool b]
  | .str, s => [.string ⟨s.toArray⟩]
  | .sl _, _ => []
  | .arr n d, a => a.l.flatMap (valsD d)
  | .pair d e, x => valsD d x.1 ++ valsD e x.2
theorem cells_vals : ∀ (d : Td) (x : T d), eqD d = true → cells d x = (valsD d x).map .c
  | .int _, _, _ => rfl
  | .bool, _, _ => rfl
  | .str, _, _ => rfl
  | .sl _, _, h => by cases h
  | .arr n d, a, h => by
    simp only [cells, valsD, List.map_flatMap]
    exact congrArg (fun f => List.flatMap f a.l) (funext fun x => cells_vals d x h)
  | .pair d e, x, h => by
    simp only [eqD, Bool.and_eq_true] at h
    simp only [cells, valsD, List.map_append, cells_vals d x.1 h.1, cells_vals e x.2 h.2]
theorem vals_length (d : Td) (x : T d) (h : eqD d = true) : (valsD d x).length = wd d := by
  have := congrArg List.length (cells_vals d x h)
  rw [cells_length, List.length_map] at this
  exact this.symm
theorem lits_length : ∀ (d : Td) (x y : T d), eqD d = true → (lits d x).length = (lits d y).length
  | .int _, _, _, _ => rfl
  | .bool, _, _, _ => rfl
  | .str, _, _, _ => rfl
  | .sl _, _, _, h => by cases h
  | .arr n d, a, b, h => by
    obtain ⟨la, ha⟩ := a
    obtain ⟨lb, hb⟩ := b
    simp only [lits]
    have hlen : la.length = lb.length := by rw [ha, hb]
    clear ha hb
    induction la generalizing lb with
    | nil => cases lb with | nil => rfl | cons _ _ => simp at hlen
    | cons x la ih => cases lb with
      | nil => simp at hlen
      | cons y lb =>
        simp only [List.flatMap_cons, List.length_append]
        rw [lits_length d x y h, ih lb (by simpa using hlen)]
  | .pair d e, x, y, h => by
    simp only [eqD, Bool.and_eq_true] at h
    simp only [lits, List.length_append, lits_length d x.1 y.1 h.1, lits_length e x.2 y.2 h.2]
theorem lits_inj : ∀ (d : Td) (x y : T d), eqD d = true → lits d x = lits d y → x = y
  | .int _, _, _, _, h => by simp only [lits, List.cons.injEq, Lit.int.injEq, and_true, true_and] at h; exact h
  | .bool, _, _, _, h => by simp only [lits, List.cons.injEq, Lit.bool.injEq, and_true] at h; exact h
  | .str, _, _, _, h => by simp only [lits, List.cons.injEq, Lit.string.injEq, and_true] at h; exact h
  | .sl _, _, _, h, _ => by cases h
  | .arr n d, a, b, h, he => by
    obtain ⟨la, ha⟩ := a
    obtain ⟨lb, hb⟩ := b
    simp only [lits] at he
    have hlen : la.length = lb.length := by rw [ha, hb]
    have : la = lb := by
      clear ha hb
      induction la generalizing lb with
      | nil => cases lb with | nil => rfl | cons _ _ => simp at hlen
      | cons x la ih => cases lb with
        | nil => simp at hlen
        | cons y lb =>
          simp only [List.flatMap_cons] at he
          obtain ⟨h1, h2⟩ := List.append_inj he (lits_length d x y h)
          rw [lits_inj d x y h h1, ih lb h2 (by simpa using hlen)]
    exact Arr.ext' this
  | .pair d e, x, y, h, he => by
    simp only [eqD, Bool.and_eq_true] at h
    simp only [lits] at he
    obtain ⟨h1, h2⟩ := List.append_inj he (lits_length d x.1 y.1 h.1)
    exact Prod.ext (lits_inj d _ _ h.1 h1) (lits_inj e _ _ h.2 h2)
section
variable {P : Program}
theorem flat_vals (d : Td) (hd : eqD d = true) (l : List (T d)) (i : Nat) (x : T d) (h : l[i]? = some x) : ((l.flatMap (valsD d)).drop (i * wd d)).take (wd d) = valsD d x := by
  have hf := flat_at d l i x h
  have hall : flat d l = (l.flatMap (valsD d)).map .c := by
    simp only [flat, List.map_flatMap]
    exact congrArg (fun f => List.flatMap f l) (funext fun x => cells_vals d x hd)
  rw [hall, ← List.map_drop, ← List.map_take, cells_vals d x hd] at hf
  have hinj : ∀ a b : List Value, a.map AV.c = b.map AV.c → a = b := fun a b h => by
    have := congrArg (List.map fun | AV.c v => v | _ => undef) h
    simpa [List.map_map, Function.comp_def] using this
  exact hinj _ _ hf
mutual
theorem lits_ok : ∀ (n : Nat) (t : TypeId) (d : Td), layT' P n t d = true → ∀ (q : Nat), P.keyTypeAt q t = true → eqD d = true → ∀ (x : T d), wfB d x = true → ∀ m, n ≤ m → P.keyLits m t (valsD d x) = some (lits d x)
  | 0, t, d, h => by simp [layT'] at h
  | n + 1, t, d, h => by
    intro q hq he x hw m hm
    obtain ⟨m, rfl⟩ : ∃ m', m = m' + 1 := ⟨m - 1, by omega⟩
    have hc := layT_cells h
    simp only [layT', Bool.and_eq_true, beq_iff_eq] at h
    replace h := h.2
    cases q with
    | zero => simp [Program.keyTypeAt] at hq
    | succ q =>
    split at h
    · rename_i k k' hu
      have := of_decide_eq_true h
      subst this
      have hw : (Lit.int k x).wf = true := hw
      simp only [Program.keyLits, hu, valsD, lits]
      simp [hw]
    · rename_i hu
      simp only [Program.keyLits, hu, valsD, lits]
    · rename_i hu
      have hw := of_decide_eq_true hw
      have hsz : (ByteArray.mk x.toArray).size = x.length := by show x.toArray.size = _; simp
      simp only [Program.keyLits, hu, valsD, lits]
      rw [if_pos (by rw [hsz]; exact hw)]
    · cases he
    · rename_i k e k' d' hu
      simp only [Bool.and_eq_true, beq_iff_eq] at h
      obtain ⟨rfl, h⟩ := h
      have hce := layT_cells h
      simp only [Program.keyTypeAt, hu] at hq
      have hw : x.l.all (wfB d') = true := hw
      simp only [Program.keyLits, hu, lits]
      rw [if_pos (by rw [vals_length _ _ he, hc])]
      have : (List.range k).mapM (fun i => P.keyLits m e (((valsD (.arr k d') x).drop (i * P.cellsOf e)).take (P.cellsOf e))) = some (x.l.map (lits d')) := by
        have key : ∀ (j i : Nat) (l : List (T d')), (∀ y ∈ l, y ∈ x.l) → x.l.drop i = l → j = l.length → (List.range' i j).mapM (fun i => P.keyLits m e (((valsD (.arr k d') x).drop (i * P.cellsOf e)).take (P.cellsOf e))) = some (l.map (lits d')) := by
          intro j
          induction j with
          | zero => intro i l hl hd hj; cases l with | nil => rfl | cons _ _ => simp at hj
          | succ j ih =>
            intro i l hl hd hj
            cases l with
            | nil => simp at hj
            | cons y l =>
              have hi : x.l[i]? = some y := by
                have := congrArg (·[0]?) hd
                simpa using this
              have h1 : P.keyLits m e (((valsD (.arr k d') x).drop (i * P.cellsOf e)).take (P.cellsOf e)) = some (lits d' y) := by
                rw [hce]
                rw [show valsD (.arr k d') x = x.l.flatMap (valsD d') from rfl, flat_vals d' he x.l i y hi]
                exact lits_ok n e d' h q hq he y (List.all_eq_true.1 hw y (hl y List.mem_cons_self)) m (by omega)
              have h2 : x.l.drop (i + 1) = l := by rw [← List.drop_drop, hd]; rfl
              rw [List.range'_succ, List.mapM_cons, h1, ih (i + 1) l (fun z hz => hl z (List.mem_cons_of_mem _ hz)) h2 (by simpa using hj)]
              rfl
        rw [List.range_eq_range']
        exact key k 0 x.l (fun y hy => hy) rfl x.h.symm
      rw [this]
      simp [List.flatMap]
    · rename_i d x1 d1 fs hu
      simp only [Program.keyTypeAt, hu, Bool.and_eq_true, Bool.not_eq_true'] at hq
      have hfq : ∀ f ∈ fs.toList, f.name ≠ "_" ∧ P.keyTypeAt q f.type = true := fun f hf => by
        have := Array.all_eq_true_iff_forall_mem.1 hq.1.1 f (Array.mem_toList_iff.1 hf)
        simp only [Bool.and_eq_true, bne_iff_ne, ne_eq] at this
        exact this
      obtain ⟨ls, h1, h2⟩ := fs_ok n fs.toList 0 d h q hfq he x hw m (by omega) [] rfl
      simp only [List.nil_append] at h1
      have hnm : fs.all (·.name != "_") = true := Array.all_eq_true_iff_forall_mem.2 fun f hf => by
        simp only [bne_iff_ne, ne_eq]
        exact (hfq f (Array.mem_toList_iff.2 hf)).1
      have hl := vals_length d x he
      unfold Program.keyLits
      simp only [hu]
      have hgo : (if (valsD d x).length = P.cellsOf t ∧ fs.all (·.name != "_") = true then (fs.toList.mapM fun f => P.keyLits m f.type (((valsD d x).drop f.offset).take (P.cellsOf f.type))).map List.flatten else none) = some (lits d x) := by
        rw [if_pos ⟨by rw [hl, hc], hnm⟩, h1, ← h2]
        rfl
      generalize valsD d x = vs at hgo ⊢
      exact hgo
    · cases h
theorem fs_ok : ∀ (n : Nat) (fs : List Field) (o : Nat) (d : Td), layFs P n fs o d = true → ∀ (q : Nat), (∀ f ∈ fs, f.name ≠ "_" ∧ P.keyTypeAt q f.type = true) → eqD d = true → ∀ (x : T d), wfB d x = true → ∀ m, n ≤ m → ∀ (pre : List Value), pre.length = o →
    ∃ ls, fs.mapM (fun f => P.keyLits m f.type (((pre ++ valsD d x).drop f.offset).take (P.cellsOf f.type))) = some ls ∧ ls.flatten = lits d x
  | 0, fs, o, d, h => by simp [layFs] at h
  | n + 1, [], o, d, h => by simp [layFs] at h
  | n + 1, [f], o, d, h => by
    intro q hq he x hw m hm pre hpre
    simp only [layFs, Bool.and_eq_true, beq_iff_eq] at h
    obtain ⟨ho, h⟩ := h
    have h1 := lits_ok n f.type d h q (hq f List.mem_cons_self).2 he x hw m (by omega)
    refine ⟨[lits d x], ?_, by simp⟩
    rw [List.mapM_cons, List.mapM_nil, ho, ← hpre, List.drop_left, layT_cells h, List.take_of_length_le (by rw [vals_length d x he]; exact Nat.le_refl _), h1]
    rfl
  | n + 1, f :: g :: fs, o, d, h => by
    intro q hq he x hw m hm pre hpre
    simp only [layFs] at h
    split at h
    · rename_i d e
      simp only [Bool.and_eq_true, beq_iff_eq] at h
      obtain ⟨⟨ho, h⟩, h'⟩ := h
      simp only [eqD, Bool.and_eq_true] at he
      simp only [wfB, Bool.and_eq_true] at hw
      have h1 := lits_ok n f.type d h q (hq f List.mem_cons_self).2 he.1 x.1 hw.1 m (by omega)
      obtain ⟨ls, h2, h3⟩ := fs_ok n (g :: fs) _ e h' q (fun f hf => hq f (List.mem_cons_of_mem _ hf)) he.2 x.2 hw.2 m (by omega) (pre ++ valsD d x.1) (by rw [List.length_append, hpre, vals_length d x.1 he.1])
      refine ⟨lits d x.1 :: ls, ?_, by simp [lits, h3]⟩
      rw [List.append_assoc] at h2
      rw [List.mapM_cons]
      simp only [valsD]
      rw [ho, ← hpre, List.drop_left, layT_cells h, List.take_append_of_le_length (by rw [vals_length d x.1 he.1]; exact Nat.le_refl _), List.take_of_length_le (by rw [vals_length d x.1 he.1]; exact Nat.le_refl _), h1, h2]
      rfl
    · cases h
end
theorem relL_cEq {w : World} {B : List Nat} {η : List Value} {vs us : List Value} (h : RelL w B η (vs.map .c) us) : us = vs := by
  apply List.ext_getElem?
  intro i
  rcases Nat.lt_or_ge i vs.length with hi | hi
  · obtain ⟨u, h1, h2⟩ := h.2 i (.c vs[i]) (by rw [List.getElem?_map, List.getElem?_eq_getElem hi]; rfl)
    rw [h1, List.getElem?_eq_getElem hi, Rel.ofC h2]
  · have := h.1
    rw [List.length_map] at this
    rw [List.getElem?_eq_none hi, List.getElem?_eq_none (by omega)]
end
section
variable {P : Program} {H : List E2} {ρ : Operand → V} {o : Oper} {R : Type}
def eqTypeB (P : Program) (t : TypeId) (d : Td) : Bool := eqD d && layT' P 24 t d && P.keyTypeAt 24 t && !P.eqGuardType P.depth t && (match P.underlying t with | some (.struct _) | some (.array _ _) => true | _ => false)
/-- Are two structs, two arrays the same? -/
def aggEqK (P : Program) (op : BinOp) (t : TypeId) (x y : V) (k : V → Tree R) : Tree R :=
  match tdOf P 12 t with
  | some d => if eqTypeB P t d = true ∧ isAgg x = true ∧ isAgg y = true then (match toSegs x, toSegs y with
    | some sx, some sy => decK d sx fun a r => decK d sy fun b r' => if wL r = 0 ∧ wL r' = 0 then (match op with
      | .eql => .ite (wfB d a && wfB d b) (k (.c (.bool (@decide (a = b) (decT d a b))))) .fail
      | .neq => .ite (wfB d a && wfB d b) (k (.c (.bool (!(@decide (a = b) (decT d a b)))))) .fail
      | _ => .fail) else .fail
    | _, _ => .fail) else .fail
  | none => .fail
theorem dec_relL {d : Td} {x : V} {segs : List V} {w : World} {B : List Nat} {η : List Value} {v : Value} {a : T d} {r : List V} (hs : toSegs x = some segs) (hw : Wk (segsA segs) (cells d a ++ segsA r)) (hr : wL r = 0) (hv : Rel w B η (eu x) v) : RelL w B η (cells d a) v.cells.toList := by
  obtain ⟨s1, s2, s3⟩ := toSegs_ok hs
  have hr0 : segsA r = [] := List.eq_nil_of_length_eq_zero (by rw [wL_eq]; exact hr)
  rw [hr0, List.append_nil] at hw
  have hL := hv.toL (fun l e => by rw [e] at s2; cases s2)
  rw [s1] at hL
  exact hw w B η _ hL
theorem isAgg_val {x : V} {w : World} {B : List Nat} {η : List Value} {v : Value} (h : isAgg x = true) (hv : Rel w B η (ex x) v) : ∃ cs, v = .agg cs := by
  rcases isAgg_true h with ⟨l, rfl⟩ | ⟨d', n', a', rfl⟩ | ⟨cs, rfl⟩
  · obtain ⟨cs, e, _⟩ := Rel.aggL hv; exact ⟨cs, e⟩
  · obtain ⟨cs, e, _⟩ := Rel.aggL hv; exact ⟨cs, e⟩
  · exact ⟨cs, Rel.ofC hv⟩
theorem equalIn_td {t : TypeId} {d : Td} (hb : eqTypeB P t d = true) {a b : T d} (ha : wfB d a = true) (hb' : wfB d b = true) {xs ys : Array Value} (hx : xs.toList = valsD d a) (hy : ys.toList = valsD d b) (w : World) : (Op.equalIn 10000 t (.agg xs) (.agg ys)).run P w = .ok (@decide (a = b) (decT d a b)) w := by
  simp only [eqTypeB, Bool.and_eq_true] at hb
  obtain ⟨⟨⟨⟨he, hl⟩, hk⟩, _⟩, hrow⟩ := hb
  have hform : ∀ (cs : Array Value) (z : T d), cs.toList = valsD d z → (Value.agg cs).formed P t = true := fun cs z hc => by
    have hsz : cs.size = P.cellsOf t := by rw [← Array.length_toList, hc, vals_length d z he, layT_cells hl]
    unfold Value.formed
    split at hrow
    · rename_i hu; simp [hu, hsz]
    · rename_i hu; simp [hu, hsz]
    · cases hrow
  obtain ⟨r, h1, h2⟩ := run_equalIn_deep (P := P) 9976 24 t hk w 24 24 (.agg xs) (.agg ys) (lits d a) (lits d b) (hform xs a hx) (hform ys b hy)
    (by simp only [Value.cells, hx]; exact lits_ok 24 t d hl 24 hk he a ha 24 (Nat.le_refl _)) (by simp only [Value.cells, hy]; exact lits_ok 24 t d hl 24 hk he b hb' 24 (Nat.le_refl _))
  rw [show 9976 + 24 = 10000 from rfl] at h1
  rw [h1]
  congr 1
  cases r with
  | true => exact (@decide_eq_true _ (decT d a b) (lits_inj d a b he (h2.1 rfl))).symm
  | false => exact (@decide_eq_false _ (decT d a b) (fun h => by have := h2.2 (by rw [h]); cases this)).symm
theorem aggEqK_ok {op : BinOp} {t t2 : TypeId} {x y : Operand} {k : V → Tree R} {res : R} (hp : Plain ρ o) (ho : o.op = .binOp op t x y t2) (h : (aggEqK P op t (ρ x) (ρ y) k).run = some res) : ∃ r, (k r).run = some res ∧ Does P H ρ o r := by
  unfold aggEqK at h
  split at h
  · rename_i d htd
    split at h
    · rename_i hc
      obtain ⟨hb, ax, ay⟩ := hc
      split at h
      · rename_i sx sy hsx hsy
        obtain ⟨a, r, h1, wa⟩ := decK_ok _ _ _ _ h
        obtain ⟨b, r', h2, wb⟩ := decK_ok _ _ _ _ h1
        split at h2
        · rename_i hr
          have main : ∀ (n0 : Nat) (Bx : List Nat) (w : World) (B : List Nat) (η : List Value) (ρv : Operand → Value), Inv n0 Bx w B η (H.map exE) → (∀ x ∈ o.op.operands, Rel2 w B η (ρ x) (ρv x) ∧ FreshV n0 (ex (ρ x)) (ρv x)) → wfB d a = true → wfB d b = true → ∃ xs ys, ρv x = .agg xs ∧ ρv y = .agg ys ∧ (Op.equalIn 10000 t (.agg xs) (.agg ys)).run P w = .ok (@decide (a = b) (decT d a b)) w := by
            intro n0 Bx w B η ρv inv he wa1 wb1
            have he1 : eqD d = true := by simp only [eqTypeB, Bool.and_eq_true] at hb; exact hb.1.1.1.1
            have hx := he_of hp he x (by simp [ho, Op.operands])
            have hy := he_of hp he y (by simp [ho, Op.operands])
            obtain ⟨xs, ex1⟩ := isAgg_val ax hx
            obtain ⟨ys, ey1⟩ := isAgg_val ay hy
            have lx := dec_relL hsx wa hr.1 (heu_of hp he x (by simp [ho, Op.operands]))
            have ly := dec_relL hsy wb hr.2 (heu_of hp he y (by simp [ho, Op.operands]))
            rw [cells_vals d a he1, ex1] at lx
            rw [cells_vals d b he1, ey1] at ly
            exact ⟨xs, ys, ex1, ey1, equalIn_td hb wa1 wb1 (relL_cEq lx) (relL_cEq ly) w⟩
          have hg : P.eqGuardType P.depth t = false := by simp only [eqTypeB, Bool.and_eq_true, Bool.not_eq_true'] at hb; exact hb.1.2
          split at h2
          · rcases Tree.run_ite h2 with ⟨hw, h3⟩ | ⟨_, h3⟩
            · simp only [Bool.and_eq_true] at hw
              refine ⟨_, h3, fun n0 Bx w B η ρv inv he => .of rfl (fun _ _ h => by simp [ex, ex0] at h) ?_⟩
              obtain ⟨xs, ys, e1, e2, e3⟩ := main n0 Bx w B η ρv inv he hw.1 hw.2
              refine .of_run (v := .bool (@decide (a = b) (decT d a b))) ?_ (.c _ _)
              simp only [execOp, ho, e1, e2, Sem.run_bind, run_eqGuard_agg w _ t x y xs ys hg, Result.andThen_ok, run_eql_struct, e3]
              rfl
            · cases h3
          · rcases Tree.run_ite h2 with ⟨hw, h3⟩ | ⟨_, h3⟩
            · simp only [Bool.and_eq_true] at hw
              refine ⟨_, h3, fun n0 Bx w B η ρv inv he => .of rfl (fun _ _ h => by simp [ex, ex0] at h) ?_⟩
              obtain ⟨xs, ys, e1, e2, e3⟩ := main n0 Bx w B η ρv inv he hw.1 hw.2
              refine .of_run (v := .bool (!(@decide (a = b) (decT d a b)))) ?_ (.c _ _)
              simp only [execOp, ho, e1, e2, Sem.run_bind, run_eqGuard_agg w _ t x y xs ys hg, Result.andThen_ok, run_neq_struct, e3]
              rfl
            · cases h3
          · cases h2
        · cases h2
      · cases h
    · cases h
  · cases h

/-! ### Pointers -/
def ptrT (P : Program) (t : TypeId) : Option TypeId := match P.underlying t with
  | some (.pointer e) => some e
  | _ => none
theorem ptrT_spec {t e : TypeId} (h : ptrT P t = some e) : P.underlying t = some (.pointer e) := by
  unfold ptrT at h
  split at h
  · rename_i hu; injection h with h; subst h; exact hu
  · cases h
/-- Whether a pointer is none, and texts. -/
def binK2 (P : Program) (op : BinOp) (t : TypeId) (x y : V) (k : V → Tree R) : Tree R :=
  match x, y with
  | .box _ _, .c (.pointer none) => (match ptrT P t, op with
    | some _, .eql => k (.c (.bool false))
    | some _, .neq => k (.c (.bool true))
    | _, _ => .fail)
  | .c (.pointer none), .c (.pointer none) => (match ptrT P t, op with
    | some _, .eql => k (.c (.bool true))
    | some _, .neq => k (.c (.bool false))
    | _, _ => .fail)
  | .str a, .str b => (match op with
    | .add => .ite (decide (a.length + b.length ≤ maxLen)) (k (.str (a ++ b))) .fail
    | _ => .fail)
  | x, y => aggEqK P op t x y k
theorem binK2_ok {op : BinOp} {t t2 : TypeId} {x y : Operand} {k : V → Tree R} {res : R} (hp : Plain ρ o) (ho : o.op = .binOp op t x y t2) (h : (binK2 P op t (ρ x) (ρ y) k).run = some res) : ∃ r, (k r).run = some res ∧ Does P H ρ o r := by
  have hinx : x ∈ o.op.operands := by simp [ho, Op.operands]
  have hiny : y ∈ o.op.operands := by simp [ho, Op.operands]
  unfold binK2 at h
  split at h
  · rename_i id off hx hy
    have key : ∀ (b : Bool) (e : TypeId), P.underlying t = some (.pointer e) → ((op = .eql ∧ b = false) ∨ (op = .neq ∧ b = true)) → Does P H ρ o (.c (.bool b)) := fun b e hu hb n0 Bx w B η ρv inv he => by
      refine .of rfl (fun _ _ h => by simp [ex, ex0] at h) ?_
      have h1 := he_of hp he x hinx
      have h2 := he_of hp he y hiny
      rw [hx] at h1; rw [hy] at h2
      have h2 := Rel.ofC h2
      have h1' : ∃ q, ρv x = .pointer (some q) := by generalize ρv x = v at h1; cases h1; exact ⟨_, rfl⟩
      obtain ⟨q, h1'⟩ := h1'
      have hu' : P.underlying t = some (.pointer (P.pointee t)) := by simp [Program.pointee, hu]
      refine .of_run (v := .bool b) ?_ (.c _ _)
      rcases hb with ⟨rfl, rfl⟩ | ⟨rfl, rfl⟩
      · simp [execOp, ho, h1', h2, Sem.run_bind, eqGuard, run_eql_pointer_nil w t (some q) hu']
      · simp [execOp, ho, h1', h2, Sem.run_bind, eqGuard, run_neq_pointer_nil w t (some q) hu']
    split at h
    · rename_i e he; exact ⟨_, h, key _ _ (ptrT_spec he) (.inl ⟨rfl, rfl⟩)⟩
    · rename_i e he; exact ⟨_, h, key _ _ (ptrT_spec he) (.inr ⟨rfl, rfl⟩)⟩
    · cases h
  · rename_i hx hy
    have key : ∀ (b : Bool) (e : TypeId), P.underlying t = some (.pointer e) → ((op = .eql ∧ b = true) ∨ (op = .neq ∧ b = false)) → Does P H ρ o (.c (.bool b)) := fun b e hu hb n0 Bx w B η ρv inv he => by
      refine .of rfl (fun _ _ h => by simp [ex, ex0] at h) ?_
      have h1 := he_of hp he x hinx
      have h2 := he_of hp he y hiny
      rw [hx] at h1; rw [hy] at h2
      have h1 := Rel.ofC h1
      have h2 := Rel.ofC h2
      have hu' : P.underlying t = some (.pointer (P.pointee t)) := by simp [Program.pointee, hu]
      refine .of_run (v := .bool b) ?_ (.c _ _)
      rcases hb with ⟨rfl, rfl⟩ | ⟨rfl, rfl⟩
      · simp [execOp, ho, h1, h2, Sem.run_bind, eqGuard, run_eql_pointer_nil w t none hu']
      · simp [execOp, ho, h1, h2, Sem.run_bind, eqGuard, run_neq_pointer_nil w t none hu']
    split at h
    · rename_i e he; exact ⟨_, h, key _ _ (ptrT_spec he) (.inl ⟨rfl, rfl⟩)⟩
    · rename_i e he; exact ⟨_, h, key _ _ (ptrT_spec he) (.inr ⟨rfl, rfl⟩)⟩
    · cases h
  · rename_i a b hx hy
    split at h
    · rcases Tree.run_ite h with ⟨hb, h⟩ | ⟨_, h⟩
      · have hb := of_decide_eq_true hb
        refine ⟨_, h, fun n0 Bx w B η ρv inv he => .of rfl (fun _ _ h => by simp [ex, ex0] at h) ?_⟩
        have h1 := he_of hp he x hinx
        have h2 := he_of hp he y hiny
        rw [hx] at h1; rw [hy] at h2
        have h1 := Rel.ofC h1
        have h2 := Rel.ofC h2
        have hs1 : (ByteArray.mk a.toArray).size = a.length := by show a.toArray.size = _; simp
        have hs2 : (ByteArray.mk b.toArray).size = b.length := by show b.toArray.size = _; simp
        have hcat : (ByteArray.mk a.toArray) ++ (ByteArray.mk b.toArray) = ⟨(a ++ b).toArray⟩ := by
          apply ByteArray.ext
          rw [ByteArray.data_append]
          apply Array.ext'
          simp
        have hlim : ¬ (((a.length + b.length : Nat) : Int) > IntKind.i64.max) := by
          have : (maxLen : Int) ≤ IntKind.i64.max := by decide
          omega
        refine .of_run (v := .string ⟨(a ++ b).toArray⟩) ?_ (.c _ _)
        simp only [execOp, ho, h1, h2, Sem.run_bind]
        simp only [eqGuard, binOp, Op.stringOp, hs1, hs2, hcat]
        rw [if_neg hlim]
        rfl
      · cases h
    · cases h
  · exact aggEqK_ok hp ho h

/-! ### Parts of arrays and texts -/
theorem slice_arr_ok {n0 : Nat} {w : World} {B : List Nat} {η : List Value} {ρv : Operand → Value} {ρA : Operand → AV} (he : ∀ x ∈ o.op.operands, Rel w B η (ρA x) (ρv x)) {t e : TypeId} {x : Operand} {lo hi : Option Operand} {l : List AV} {m k a b : Nat} (ho : o.op = .slice t x lo hi none) (hu : P.underlying t = some (.array m e)) (hx : ρA x = .adr l) (hm : m ≤ maxLen)
    (hk : k = P.cellsOf e) (hk1 : 1 ≤ k) (hml : m * k ≤ l.length) (hlo : boundA ρA 0 lo = some a) (hhi : boundA ρA m hi = some b) (hab : a ≤ b) (hb : b ≤ m) : OpOK P n0 w ρv o B η (.sl ((l.drop (a * k)).take ((b - a) * k)) k) := by
  have hel : ∀ y, lo = some y → Rel w B η (ρA y) (ρv y) := fun y h => he y (by simp [ho, Op.operands, h])
  have heh : ∀ y, hi = some y → Rel w B η (ρA y) (ρv y) := fun y h => he y (by simp [ho, Op.operands, h])
  have h1 := he x (by simp [ho, Op.operands])
  rw [hx] at h1
  have h1' : ∃ ad us, ρv x = .pointer (some ad) ∧ At w B ad l.length us ∧ ∀ i y, l[i]? = some y → Rel w B [] y (us i) := by
    generalize ρv x = v at h1
    cases h1 with
    | adr _ _ ad us ha hr => exact ⟨ad, us, rfl, ha, hr⟩
  obtain ⟨ad, us, hv, hat, hr⟩ := h1'
  obtain ⟨ii, hii, hs⟩ := cells_info (t := e) (P := P) (by omega)
  refine .of_run (v := .slice (some (if m = a then ad else ad.add (a * k))) (b - a) (m - a)) ?_ ?_
  · have hbounds : (Instr.sliceBounds false m m (lo.map ρv) (hi.map ρv) none).run P w = .ok (a, b, m) w := by
      have hb' : ∀ z : Int, b = z.toNat → 0 ≤ z → z ≤ (m : Int) := by omega
      have ha' : ∀ z : Int, a = z.toNat → 0 ≤ z → z ≤ (b : Int) := by omega
      rcases boundA_spec hel hlo with ⟨rfl, rfl⟩ | ⟨y, kk, z, rfl, hy, hz, hza⟩
      · rcases boundA_spec heh hhi with ⟨rfl, rfl⟩ | ⟨y2, kk2, z2, rfl, hy2, hz2, hzb⟩
        · simp [Instr.sliceBounds, Sem.run_bind]
        · subst hzb
          simp [Instr.sliceBounds, Sem.run_bind, hy2, run_sliceBound (P := P) ⟨hz2, hb' _ rfl hz2⟩]
      · subst hza
        rcases boundA_spec heh hhi with ⟨rfl, rfl⟩ | ⟨y2, kk2, z2, rfl, hy2, hz2, hzb⟩
        · simp [Instr.sliceBounds, Sem.run_bind, hy, run_sliceBound (P := P) ⟨hz, ha' _ rfl hz⟩]
        · subst hzb
          simp [Instr.sliceBounds, Sem.run_bind, hy, hy2, run_sliceBound (P := P) ⟨hz2, hb' _ rfl hz2⟩, run_sliceBound (P := P) ⟨hz, ha' _ rfl hz⟩]
    simp [execOp, ho, Instr.sliceAt, Instr.sureAddr, Sem.run_bind, run_underlying hu, hv, hbounds, run_sizeOf hii, hs, hk]
  · have hlen : ((l.drop (a * k)).take ((b - a) * k)).length = (b - a) * k := by
      rw [List.length_take, List.length_drop]
      refine Nat.min_eq_left ?_
      have : (b - a) * k + a * k ≤ l.length := by rw [← Nat.add_mul]; exact Nat.le_trans (Nat.mul_le_mul_right k (by omega)) hml
      omega
    refine .sl _ _ _ _ _ _ (fun i => us (a * k + i)) hk1 hlen.symm (by omega) (by omega) (fun h0 => ?_) (fun i y hy => ?_)
    · rw [if_neg (by omega)]
      refine ⟨_, rfl, ?_⟩
      have := hat.shift (a * k)
      exact ⟨this.spot, this.lt, this.out, fun i hi => this.cell i (by
        rw [hlen] at hi
        have : (b - a) * k + a * k ≤ l.length := by rw [← Nat.add_mul]; exact Nat.le_trans (Nat.mul_le_mul_right k (by omega)) hml
        omega)⟩
    · rw [List.getElem?_take] at hy
      split at hy
      · rw [List.getElem?_drop] at hy; exact hr _ y hy
      · cases hy
def sliceArrK (P : Program) (ρ : Operand → V) (m : Nat) (e : TypeId) (x : V) (lo hi : Option Operand) (k : V → Tree R) : Tree R :=
  match x with
  | .adr (.arr d n a :: _) => if n = m ∧ wd d = P.cellsOf e ∧ 1 ≤ wd d ∧ m ≤ maxLen then (match lo, hi with
      | none, none => k (.lst d a.l)
      | some lo, none => intK (ρ lo) fun z => .bind (dropI a.l z) fun s => k (.lst d s)
      | none, some hi => intK (ρ hi) fun z => .bind (takeI a.l z) fun s => k (.lst d s)
      | some lo, some hi => intK (ρ lo) fun z => intK (ρ hi) fun z2 => .bind (subI a.l z z2) fun s => k (.lst d s)) else .fail
  | _ => .fail
theorem sliceArrK_ok {t e : TypeId} {m : Nat} {x : Operand} {lo hi : Option Operand} {k : V → Tree R} {res : R} (hp : Plain ρ o) (ho : o.op = .slice t x lo hi none) (hu : P.underlying t = some (.array m e)) (h : (sliceArrK P ρ m e (ρ x) lo hi k).run = some res) : ∃ r, (k r).run = some res ∧ Does P H ρ o r := by
  unfold sliceArrK at h
  split at h
  · rename_i d n arr rest hx
    split at h
    · rename_i hc
      obtain ⟨rfl, hwd, hw1, hm⟩ := hc
      have hal := arr.h
      have key : ∀ (a b : Nat), boundA (fun y => ex (ρ y)) 0 lo = some a → boundA (fun y => ex (ρ y)) n hi = some b → a ≤ b → b ≤ n → Does P H ρ o (.lst d ((arr.l.drop a).take (b - a))) := fun a b ha hb hab hbl n0 Bx w B η ρv inv he => by
        refine .of rfl (fun _ _ h => by simp [ex, ex0] at h) ?_
        have hfl : (flat d arr.l).length = n * wd d := by rw [flat_length, hal]
        have := slice_arr_ok (P := P) (ρA := fun y => ex (ρ y)) (n0 := n0) (he_of hp he) ho hu (l := flat d arr.l ++ segsA rest) (by rw [hx]; simp [ex, ex0, segsA_cons, segA]) hm hwd hw1 (by rw [List.length_append, hfl]; omega) ha hb hab hbl
        rw [List.drop_append_of_le_length (by rw [hfl]; exact Nat.mul_le_mul_right _ (by omega)), List.take_append_of_le_length (by rw [List.length_drop, hfl, ← Nat.sub_mul]; exact Nat.mul_le_mul_right _ (by omega))] at this
        simp only [ex, ex0, flat_take, flat_drop]
        exact this
      have exi : ∀ (y : Operand) kk z, ρ y = .c (.int kk z) → ex (ρ y) = .c (.int kk z) := fun y kk z h => by rw [h]; rfl
      split at h
      · have := key 0 n rfl rfl (Nat.zero_le _) (Nat.le_refl _)
        rw [List.drop_zero, Nat.sub_zero, List.take_of_length_le (by rw [hal]; exact Nat.le_refl _)] at this
        exact ⟨_, h, this⟩
      · obtain ⟨kk, z, hz, h⟩ := intK_run h
        obtain ⟨s, hs, h⟩ := Tree.run_bind h
        unfold dropI at hs
        split at hs
        · rename_i hc
          injection hs with hs; subst hs
          have := key z.toNat n (by simp [boundA, exi _ _ _ hz, hc.1]) rfl (by omega) (Nat.le_refl _)
          rw [List.take_of_length_le (by rw [List.length_drop, hal]; exact Nat.le_refl _)] at this
          exact ⟨_, h, this⟩
        · cases hs
      · obtain ⟨kk, z, hz, h⟩ := intK_run h
        obtain ⟨s, hs, h⟩ := Tree.run_bind h
        unfold takeI at hs
        split at hs
        · rename_i hc
          injection hs with hs; subst hs
          have := key 0 z.toNat rfl (by simp [boundA, exi _ _ _ hz, hc.1]) (Nat.zero_le _) (by omega)
          rw [List.drop_zero, Nat.sub_zero] at this
          exact ⟨_, h, this⟩
        · cases hs
      · obtain ⟨kk, z, hz, h⟩ := intK_run h
        obtain ⟨kk2, z2, hz2, h⟩ := intK_run h
        obtain ⟨s, hs, h⟩ := Tree.run_bind h
        unfold subI at hs
        split at hs
        · rename_i hc
          injection hs with hs; subst hs
          exact ⟨_, h, key z.toNat z2.toNat (by simp [boundA, exi _ _ _ hz, hc.1]) (by simp [boundA, exi _ _ _ hz2]; omega) (by omega) (by omega)⟩
        · cases hs
    · cases h
  · cases h
def strSliceK (ρ : Operand → V) (s : List UInt8) (lo hi : Option Operand) (k : V → Tree R) : Tree R :=
  match lo, hi with
  | none, none => k (.str s)
  | some lo, none => intK (ρ lo) fun z => .bind (dropI s z) fun s => k (.str s)
  | none, some hi => intK (ρ hi) fun z => .bind (takeI s z) fun s => k (.str s)
  | some lo, some hi => intK (ρ lo) fun z => intK (ρ hi) fun z2 => .bind (subI s z z2) fun s => k (.str s)
theorem strSlice_ok {n0 : Nat} {w : World} {B : List Nat} {η : List Value} {ρv : Operand → Value} {ρA : Operand → AV} (he : ∀ x ∈ o.op.operands, Rel w B η (ρA x) (ρv x)) {t : TypeId} {x : Operand} {lo hi : Option Operand} {s : List UInt8} {a b : Nat} (ho : o.op = .slice t x lo hi none) (hu : P.underlying t = some .string) (hx : ρA x = .c (.string ⟨s.toArray⟩))
    (hlo : boundA ρA 0 lo = some a) (hhi : boundA ρA s.length hi = some b) (hab : a ≤ b) (hb : b ≤ s.length) : OpOK P n0 w ρv o B η (.c (.string ⟨((s.drop a).take (b - a)).toArray⟩)) := by
  have hel : ∀ y, lo = some y → Rel w B η (ρA y) (ρv y) := fun y h => he y (by simp [ho, Op.operands, h])
  have heh : ∀ y, hi = some y → Rel w B η (ρA y) (ρv y) := fun y h => he y (by simp [ho, Op.operands, h])
  have h1 := he x (by simp [ho, Op.operands])
  rw [hx] at h1
  have hv := Rel.ofC h1
  have hsz : (ByteArray.mk s.toArray).size = s.length := by show s.toArray.size = _; simp
  have hext : (ByteArray.mk s.toArray).extract a b = ⟨((s.drop a).take (b - a)).toArray⟩ := by
    apply ByteArray.ext
    rw [ByteArray.data_extract]
    apply Array.ext'
    simp [List.extract]
  refine .of_run (v := .string ⟨((s.drop a).take (b - a)).toArray⟩) ?_ (.c _ _)
  have hbounds : (Instr.sliceBounds false s.length s.length (lo.map ρv) (hi.map ρv) none).run P w = .ok (a, b, s.length) w := by
    have hb' : ∀ z : Int, b = z.toNat → 0 ≤ z → z ≤ (s.length : Int) := by omega
    have ha' : ∀ z : Int, a = z.toNat → 0 ≤ z → z ≤ (b : Int) := by omega
    rcases boundA_spec hel hlo with ⟨rfl, rfl⟩ | ⟨y, kk, z, rfl, hy, hz, hza⟩
    · rcases boundA_spec heh hhi with ⟨rfl, rfl⟩ | ⟨y2, kk2, z2, rfl, hy2, hz2, hzb⟩
      · simp [Instr.sliceBounds, Sem.run_bind]
      · subst hzb
        simp [Instr.sliceBounds, Sem.run_bind, hy2, run_sliceBound (P := P) ⟨hz2, hb' _ rfl hz2⟩]
    · subst hza
      rcases boundA_spec heh hhi with ⟨rfl, rfl⟩ | ⟨y2, kk2, z2, rfl, hy2, hz2, hzb⟩
      · simp [Instr.sliceBounds, Sem.run_bind, hy, run_sliceBound (P := P) ⟨hz, ha' _ rfl hz⟩]
      · subst hzb
        simp [Instr.sliceBounds, Sem.run_bind, hy, hy2, run_sliceBound (P := P) ⟨hz2, hb' _ rfl hz2⟩, run_sliceBound (P := P) ⟨hz, ha' _ rfl hz⟩]
  simp [execOp, ho, Instr.sliceAt, Instr.slice, Sem.run_bind, run_underlying hu, hv, hsz, hbounds, hext]
theorem strSliceK_ok {t : TypeId} {x : Operand} {lo hi : Option Operand} {s : List UInt8} {k : V → Tree R} {res : R} (hp : Plain ρ o) (ho : o.op = .slice t x lo hi none) (hu : P.underlying t = some .string) (hx : ρ x = .str s) (h : (strSliceK ρ s lo hi k).run = some res) : ∃ r, (k r).run = some res ∧ Does P H ρ o r := by
  have key : ∀ (a b : Nat), boundA (fun y => ex (ρ y)) 0 lo = some a → boundA (fun y => ex (ρ y)) s.length hi = some b → a ≤ b → b ≤ s.length → Does P H ρ o (.str ((s.drop a).take (b - a))) := fun a b ha hb hab hbl n0 Bx w B η ρv inv he => by
    refine .of rfl (fun _ _ h => by simp [ex, ex0] at h) ?_
    exact strSlice_ok (P := P) (ρA := fun y => ex (ρ y)) (n0 := n0) (he_of hp he) ho hu (by rw [hx]; rfl) ha hb hab hbl
  have exi : ∀ (y : Operand) kk z, ρ y = .c (.int kk z) → ex (ρ y) = .c (.int kk z) := fun y kk z h => by rw [h]; rfl
  unfold strSliceK at h
  split at h
  · have := key 0 s.length rfl rfl (Nat.zero_le _) (Nat.le_refl _)
    simp only [List.drop_zero, Nat.sub_zero, List.take_length] at this
    exact ⟨_, h, this⟩
  · obtain ⟨kk, z, hz, h⟩ := intK_run h
    obtain ⟨s', hs, h⟩ := Tree.run_bind h
    unfold dropI at hs
    split at hs
    · rename_i hc
      injection hs with hs; subst hs
      have := key z.toNat s.length (by simp [boundA, exi _ _ _ hz, hc.1]) rfl (by omega) (Nat.le_refl _)
      rw [List.take_of_length_le (by rw [List.length_drop]; exact Nat.le_refl _)] at this
      exact ⟨_, h, this⟩
    · cases hs
  · obtain ⟨kk, z, hz, h⟩ := intK_run h
    obtain ⟨s', hs, h⟩ := Tree.run_bind h
    unfold takeI at hs
    split at hs
    · rename_i hc
      injection hs with hs; subst hs
      have := key 0 z.toNat rfl (by simp [boundA, exi _ _ _ hz, hc.1]) (Nat.zero_le _) (by omega)
      rw [List.drop_zero, Nat.sub_zero] at this
      exact ⟨_, h, this⟩
    · cases hs
  · obtain ⟨kk, z, hz, h⟩ := intK_run h
    obtain ⟨kk2, z2, hz2, h⟩ := intK_run h
    obtain ⟨s', hs, h⟩ := Tree.run_bind h
    unfold subI at hs
    split at hs
    · rename_i hc
      injection hs with hs; subst hs
      exact ⟨_, h, key z.toNat z2.toNat (by simp [boundA, exi _ _ _ hz, hc.1]) (by simp [boundA, exi _ _ _ hz2]; omega) (by omega) (by omega)⟩
    · cases hs
/-- An array out of a slice. -/
def toArr {α : Type} (n : Nat) (l : List α) : Option (Arr α n) := if h : n ≤ l.length then some ⟨l.take n, by rw [List.length_take]; omega⟩ else none
def arrPtrK (P : Program) (t : TypeId) (x : V) (k : V → Tree R) : Tree R :=
  match arrT P t with
  | some (m, e) => (match viewL P e x with
    | some ⟨d, l⟩ => if wd d = P.cellsOf e ∧ 1 ≤ wd d ∧ 1 ≤ m then .bind (toArr m l) fun a => k (.adr [.arr d m a]) else .fail
    | none => .fail)
  | none => .fail
theorem arrPtrK_ok {t : TypeId} {x : Operand} {k : V → Tree R} {res : R} (hp : Plain ρ o) (ho : o.op = .sliceToArrayPointer t x) (h : (arrPtrK P t (ρ x) k).run = some res) : ∃ r, (k r).run = some res ∧ Does P H ρ o r := by
  unfold arrPtrK at h
  split at h
  · rename_i m e hat
    split at h
    · rename_i d l hv
      split at h
      · rename_i hc
        obtain ⟨hwd, hw1, hm1⟩ := hc
        obtain ⟨a, ha, h⟩ := Tree.run_bind h
        unfold toArr at ha
        split at ha
        · rename_i hml
          injection ha with ha; subst ha
          refine ⟨_, h, fun n0 Bx w B η ρv inv he => .of rfl (fun _ _ h => by simp [ex, ex0] at h) ?_⟩
          have h1 := viewL_ok hv (he_of hp he x (by simp [ho, Op.operands]))
          obtain ⟨A, n, c, us, hvv, hk1, hn, hc, hm, hA, hr⟩ := h1.slL
          have hn' : n = l.length := by
            rw [flat_length] at hn
            exact Nat.eq_of_mul_eq_mul_right (by omega) hn
          subst hn'
          obtain ⟨ad, rfl, hat'⟩ := hA (by omega)
          refine .of_run (v := .pointer (some ad)) ?_ ?_
          · simp [execOp, ho, Instr.arrayAt, Sem.run_bind, run_underlying (arrT_spec hat), hvv]
            intro hlt; omega
          · have hlen : (flat d (l.take m)).length = m * wd d := by rw [flat_length, List.length_take, Nat.min_eq_left hml]
            have e1 : ex (.adr [.arr d m ⟨l.take m, by rw [List.length_take]; omega⟩]) = .adr (flat d (l.take m)) := by simp [ex, ex0, segsA, segA]
            rw [e1]
            refine .adr _ _ ad us ⟨hat'.spot, hat'.lt, hat'.out, fun i hi => hat'.cell i ?_⟩ (fun i y hy => hr i y ?_)
            · rw [hlen] at hi
              rw [flat_length]
              exact Nat.lt_of_lt_of_le hi (Nat.mul_le_mul_right _ hml)
            · rw [flat_take, List.getElem?_take] at hy
              split at hy
              · exact hy
              · cases hy
        · cases ha
      · cases h
    · cases h
  · cases h
/-- A byte of a text. -/
def strIndexK (s : List UInt8) (i : V) (k : V → Tree R) : Tree R := intK i fun z => .bind (getI s z) fun b => k (.c (.int .u8 b.toNat))
theorem strIndexK_ok {t : TypeId} {x i : Operand} {s : List UInt8} {k : V → Tree R} {res : R} (hp : Plain ρ o) (ho : o.op = .index t x i) (hu : P.underlying t = some .string) (hx : ρ x = .str s) (h : (strIndexK s (ρ i) k).run = some res) : ∃ r, (k r).run = some res ∧ Does P H ρ o r := by
  unfold strIndexK at h
  obtain ⟨kk, z, hz, h⟩ := intK_run h
  obtain ⟨b, hb, h⟩ := Tree.run_bind h
  obtain ⟨g0, g1, g2⟩ := getI_eq hb
  refine ⟨_, h, fun n0 Bx w B η ρv inv he => .of rfl (fun _ _ h => by simp [ex, ex0] at h) ?_⟩
  have h1 := he_of hp he x (by simp [ho, Op.operands])
  have h2 := he_of hp he i (by simp [ho, Op.operands])
  rw [hx] at h1; rw [hz] at h2
  have h1 := Rel.ofC h1
  have h2 := Rel.ofC h2
  refine .of_run (v := .int .u8 b.toNat) ?_ (.c _ _)
  have hget : (ByteArray.mk s.toArray)[z.toNat]? = some b := by
    show (if h : z.toNat < (ByteArray.mk s.toArray).size then some ((ByteArray.mk s.toArray)[z.toNat]) else none) = some b
    have hsz : (ByteArray.mk s.toArray).size = s.length := by show s.toArray.size = _; simp
    rw [dif_pos (by rw [hsz]; exact g2)]
    have : (ByteArray.mk s.toArray)[z.toNat]'(by rw [hsz]; exact g2) = s[z.toNat] := by
      show s.toArray[z.toNat] = _
      simp
    rw [this]
    rw [List.getElem?_eq_getElem g2] at g1
    exact g1
  simp [execOp, ho, Instr.index, asIntOf, Sem.run_bind, run_underlying hu, h1, h2, g0, hget]
end
def rowI (P : Program) (e : TypeId) : Option (Nat × Nat) := match P.info? e with
  | some i => (match i.zero with
    | some z => if z.cells.size = i.size ∧ 1 ≤ i.size then some (i.size, i.bytes) else none
    | none => none)
  | none => none
theorem rowI_spec {P : Program} {e k b : Nat} (h : rowI P e = some (k, b)) : ∃ i z, P.info? e = some i ∧ i.zero = some z ∧ i.size = k ∧ i.bytes = b ∧ z.cells.size = k ∧ 1 ≤ k := by
  unfold rowI at h
  split at h
  · rename_i i hi
    split at h
    · rename_i z hz
      split at h
      · rename_i hc
        injection h with h; injection h with h1 h2; subst h1 h2
        exact ⟨i, z, hi, hz, rfl, rfl, hc.1, hc.2⟩
      · cases h
    · cases h
  · cases h
section
variable {P : Program} {H : List E2} {ρ : Operand → V} {o : Oper} {R : Type}
/-- A slice that is made, and that nobody writes. -/
def makeImmK (P : Program) (t : TypeId) (a b : V) (k : V → Tree R) : Tree R :=
  match sliT P t with
  | some (e, w, z) => (match rowI P e, tdOf P 12 e with
    | some (_, by_), some d => if wd d = w ∧ 1 ≤ w then intK a fun l => intK b fun c => .ite (decide (0 ≤ l ∧ l ≤ c ∧ c.toNat ≤ maxLen ∧ c.toNat * by_ ≤ 140737488355328))
        (decK d (z.map constV) fun zd r => if wL r = 0 then k (.lst d (List.replicate l.toNat zd)) else .fail) .fail else .fail
    | _, _ => .fail)
  | none => .fail
theorem wk_rep {d : Td} {z : List Value} {zd : T d} (h : Wk (z.map .c) (cells d zd)) : ∀ n, Wk ((repL n z).map .c) (flat d (List.replicate n zd))
  | 0 => Wk.refl _
  | n + 1 => by
    have e1 : repL (n + 1) z = z ++ repL n z := by simp [repL, List.replicate_succ]
    rw [e1, List.map_append, List.replicate_succ, flat_cons]
    exact h.app (wk_rep h n)
theorem rel_sl_wk {w : World} {B : List Nat} {η : List Value} {l m : List AV} {k : Nat} {v : Value} (hw : Wk l m) (h : Rel w B η (.sl l k) v) : Rel w B η (.sl m k) v := by
  cases h with
  | sl _ _ _ A n c us hk hn hc hm hA hr =>
    have hl : RelL w B [] l ((List.range l.length).map us) := ⟨by simp, fun i y hy => ⟨us i, by simp [(List.getElem?_eq_some_iff.1 hy).1], hr i y hy⟩⟩
    have hm' := hw w B [] _ hl
    have hlen : m.length = l.length := by have := hm'.1; simpa using this.symm
    refine .sl _ _ _ A n c us hk (by rw [hlen]; exact hn) hc hm (fun h0 => by obtain ⟨ad, q1, q2⟩ := hA h0; exact ⟨ad, q1, by rw [hlen]; exact q2⟩) (fun i x hx => ?_)
    obtain ⟨u, q1, q2⟩ := hm'.2 i x hx
    have hi : i < l.length := by rw [← hlen]; exact (List.getElem?_eq_some_iff.1 hx).1
    simp [hi] at q1
    rw [q1]; exact q2
theorem makeImm_ok {n0 : Nat} {w : World} {B : List Nat} {η : List Value} {ρv : Operand → Value} {ρA : Operand → AV} (hlt : ∀ b ∈ B, b < w.heap.size) (he : ∀ x ∈ o.op.operands, Rel w B η (ρA x) (ρv x)) {t e k by_ : Nat} {z : List Value} {a b : Operand} {kl kc : IntKind} {l c : Int} {i : TypeInfo} (ho : o.op = .makeSlice t a b) (hs : sliT P t = some (e, k, z)) (hi : P.info? e = some i) (hby : i.bytes = by_)
    (ha : ρA a = .c (.int kl l)) (hb : ρA b = .c (.int kc c)) (h0 : 0 ≤ l) (hlc : l ≤ c) (hm : c.toNat ≤ maxLen) (hbytes : c.toNat * by_ ≤ 140737488355328) (hk1 : 1 ≤ k) :
    OpOK P n0 w ρv o B η (.sl ((repL l.toNat z).map .c) k) := by
  intro N hN
  have h1 := he a (by simp [ho, Op.operands])
  have h2 := he b (by simp [ho, Op.operands])
  rw [ha] at h1
  rw [hb] at h2
  have h1 := h1.ofC
  have h2 := h2.ofC
  obtain ⟨i', zv, hu, hi', hz, hsz, hzc, hzl, hk⟩ := sliT_spec hs
  rw [hi] at hi'
  injection hi' with hi'
  subst hi'
  have hb1 : (i.bytes : Int) * c ≤ 281474976710656 := by
    have h : ((c.toNat * by_ : Nat) : Int) ≤ 281474976710656 := by omega
    rw [Int.natCast_mul, Int.toNat_of_nonneg (by omega)] at h
    rw [hby, Int.mul_comm]; exact h
  have h63 : c ≤ 9223372036854775807 := by simp [maxLen] at hm; omega
  have hr := run_make (P := P) w t e i zv hu hi hz kl kc l c h0 hlc hb1 h63
  have hzs : zv.cells.size = k := by rw [← hzl, ← hzc]; simp
  have hcs : (madeCells zv.cells (c.toNat * i.size)).size = c.toNat * k := by rw [size_madeCells, hsz]
  have hlist : (madeCells zv.cells (c.toNat * i.size)).toList = repL c.toNat z := by rw [← hzc, hsz, ← hzs]; exact made_repL _ _ (by omega)
  generalize hcsq : madeCells zv.cells (c.toNat * i.size) = cs at hr hcs hlist
  have g : Gr w (w.alloc (.cells cs e)) := gr_alloc (Gr.refl w) _
  have hlcn : l.toNat ≤ c.toNat := by omega
  have htake : cs.toList.take (l.toNat * k) = repL l.toNat z := by
    rw [hlist]
    obtain ⟨m, hme⟩ : ∃ m, c.toNat = l.toNat + m := ⟨c.toNat - l.toNat, by omega⟩
    have e2 : ∀ x y : Nat, repL (x + y) z = repL x z ++ repL y z := fun x y => by unfold repL; rw [← List.flatten_append, List.replicate_append_replicate]
    rw [hme, e2, ← hzl, ← repL_length]
    exact List.take_left
  unfold Oper.val
  have hrun : (execOp ρv o).run P w = .ok (.value (.slice (some ⟨w.heap.size, 0, none⟩) l.toNat c.toNat)) (w.alloc (.cells cs e)) := by
    simp [execOp, ho, h1, h2, Sem.run_bind, hr]
  rw [hrun]
  have hlen : ((repL l.toNat z).map AV.c).length = l.toNat * k := by rw [List.length_map, repL_length, hzl]
  refine hN _ _ (.gr g) (.sl _ _ _ _ _ _ (fun i => cs.toList.getD i undef) hk1 hlen.symm hlcn hm (fun _ => ⟨_, rfl, rfl, by simp, fun hb => ?_, fun j hj => ?_⟩) (fun j x hx => ?_))
  · have := hlt _ hb; simp at this
  · have hj' : j < cs.toList.length := by
      rw [hlen] at hj
      rw [Array.length_toList, hcs]
      exact Nat.lt_of_lt_of_le hj (Nat.mul_le_mul_right k hlcn)
    rw [Addr.add_mid, Nat.zero_add, cell_of_row (w.alloc (.cells cs e)) w.heap.size j cs e (0, 0) (by show (w.heap.push _)[w.heap.size]? = _; simp)]
    rw [← Array.getElem?_toList, List.getElem?_eq_getElem hj', List.getD_eq_getElem?_getD, List.getElem?_eq_getElem hj', Option.getD_some]
  · rw [List.getElem?_map, Option.map_eq_some_iff] at hx
    obtain ⟨u, hu, rfl⟩ := hx
    have hj : j < l.toNat * k := by have := (List.getElem?_eq_some_iff.1 hu).1; rw [repL_length, hzl] at this; exact this
    have : cs.toList[j]? = some u := by rw [← htake, List.getElem?_take, if_pos hj] at hu; exact hu
    rw [List.getD_eq_getElem?_getD, this, Option.getD_some]
    exact .c _ _
theorem makeImmK_ok {t : TypeId} {a b : Operand} {k : V → Tree R} {res : R} (hp : Plain ρ o) (ho : o.op = .makeSlice t a b) (h : (makeImmK P t (ρ a) (ρ b) k).run = some res) : ∃ r, (k r).run = some res ∧ Does P H ρ o r := by
  unfold makeImmK at h
  split at h
  · rename_i e kw z hsl
    split at h
    · rename_i kw2 by_ d hrow htd
      obtain ⟨ti, zz, q1, q2, q3, q4, q5, q6⟩ := rowI_spec hrow
      split at h
      · rename_i hwd
        obtain ⟨kl, l, ha, h⟩ := intK_run h
        obtain ⟨kc, c, hb, h⟩ := intK_run h
        rcases Tree.run_ite h with ⟨hc, h⟩ | ⟨_, h⟩
        · obtain ⟨c1, c2, c3, c4⟩ := of_decide_eq_true hc
          obtain ⟨zd, rest, h1, h2⟩ := decK_ok d _ _ _ h
          split at h1
          · rename_i hrest
            have hr0 : segsA rest = [] := List.eq_nil_of_length_eq_zero (by rw [wL_eq]; exact hrest)
            rw [hr0, List.append_nil, segsA_const] at h2
            refine ⟨_, h1, fun n0 Bx w B η ρv inv he => .of rfl (fun _ _ h => by simp [ex, ex0] at h) ?_⟩
            have := makeImm_ok (P := P) (n0 := n0) (ρA := fun y => ex (ρ y)) inv.lt (he_of hp he) ho hsl q1 q4 (by simp only [ha]; rfl) (by simp only [hb]; rfl) c1 c2 c3 c4 hwd.2
            refine this.mono fun w' v hv => ?_
            have := rel_sl_wk (wk_rep h2 l.toNat) hv
            simp only [ex, ex0, hwd.1]
            exact this
          · cases h1
        · cases h
      · cases h
    · cases h
  · cases h
end
end Go.Proofs.Ytpijcgohhjgdbaa
