/-
  Operations that write nothing, on typed values: what they yield, and that they do. First: loads, fields, indexes, slices.
-/
import Derived.Test.YtpijcgohhjgdbaaK2
namespace Go.Proofs.Ytpijcgohhjgdbaa
set_option maxRecDepth 100000
open Go.RowKit
set_option linter.unusedVariables false
set_option linter.unusedSimpArgs false

def getI {α : Type} (l : List α) (z : Int) : Option α := if 0 ≤ z then l[z.toNat]? else none
def takeI {α : Type} (l : List α) (z : Int) : Option (List α) := if 0 ≤ z ∧ z ≤ l.length then some (l.take z.toNat) else none
def dropI {α : Type} (l : List α) (z : Int) : Option (List α) := if 0 ≤ z ∧ z ≤ l.length then some (l.drop z.toNat) else none
def subI {α : Type} (l : List α) (a b : Int) : Option (List α) := if 0 ≤ a ∧ a ≤ b ∧ b ≤ l.length then some ((l.drop a.toNat).take (b.toNat - a.toNat)) else none
def setI {α : Type} (l : List α) (z : Int) (x : α) : Option (List α) := if 0 ≤ z ∧ z < l.length then some (l.set z.toNat x) else none
theorem getI_eq {α : Type} {l : List α} {z : Int} {x : α} (h : getI l z = some x) : 0 ≤ z ∧ l[z.toNat]? = some x ∧ z.toNat < l.length := by
  unfold getI at h
  split at h
  · exact ⟨by assumption, h, (List.getElem?_eq_some_iff.1 h).1⟩
  · cases h

/-- The cells from an address on. -/
def readK {R : Type} (H : List E2) (x : V) (k : List V → Tree R) : Tree R :=
  match x with
  | .adr l => k l
  | .box id off => (match H[id]? with
    | some (.box l _) => (match dropV big l off with | some s => k s | none => .fail)
    | _ => .fail)
  | .boxi id off d n i o => (match H[id]? with
    | some (.box l _) => (match dropV big l off with
      | some (.arr d' n' a :: _) => castK d' d (fun d => Arr (T d) n') a fun a => .bind (a.l[i]?) fun e => match dropV big (enc d e) o with | some s => k s | none => .fail
      | _ => .fail)
    | _ => .fail)
  | .oadr id d i o => (match H[id]? with
    | some (.own d' l _) => castK d' d (fun d => List (T d)) l fun l => .bind (l[i]?) fun e => match dropV big (enc d e) o with | some s => k s | none => .fail
    | _ => .fail)
  | _ => .fail
def addOffK {R : Type} (x : V) (n : Nat) (k : V → Tree R) : Tree R :=
  match x with
  | .box id o => k (.box id (o + n))
  | .boxi id off d m i o => k (.boxi id off d m i (o + n))
  | .oadr id d i o => k (.oadr id d i (o + n))
  | .adr l => (match dropV big l n with | some s => k (.adr s) | none => .fail)
  | _ => .fail
def nilCheckK {R : Type} (x : V) (k : V → Tree R) : Tree R :=
  match x with
  | .box id o => k (.box id o)
  | .boxi id off d m i o => k (.boxi id off d m i o)
  | .oadr id d i o => k (.oadr id d i o)
  | .adr l => k (.adr l)
  | _ => .fail
def fieldAddrK {R : Type} (P : Program) (s : TypeId) (f : Nat) (x : V) (k : V → Tree R) : Tree R :=
  match fieldTO P s f with
  | some (ty, off) => if P.cellsOf ty = 0 then .fail else addOffK x off k
  | none => .fail
def loadK {R : Type} (P : Program) (H : List E2) (t : TypeId) (x : V) (k : V → Tree R) : Tree R :=
  readK H x fun segs => match partV P t segs 0 with | some r => k r | none => .fail
def fieldK {R : Type} (P : Program) (s : TypeId) (f : Nat) (x : V) (k : V → Tree R) : Tree R :=
  match x, fieldTO P s f with
  | .agg l, some (ty, off) => (match partV P ty l off with | some r => k r | none => .fail)
  | _, _ => .fail
def indexK {R : Type} (P : Program) (t : TypeId) (x i : V) (k : V → Tree R) : Tree R :=
  match arrT P t, i with
  | some (m, e), .c (.int _ z) => if P.cellsOf e = 0 then .fail else (match x with
    | .agg [.arr d n a] => if n = m ∧ wd d = P.cellsOf e then .bind (getI a.l z) fun el => match partV P e (enc d el) 0 with | some r => k r | none => .fail else .fail
    | .agg l => .ite (decide (0 ≤ z ∧ z < m)) (match partV P e l (z.toNat * P.cellsOf e) with | some r => k r | none => .fail) .fail
    | _ => .fail)
  | _, _ => .fail
def indexAddrK {R : Type} (P : Program) (H : List E2) (t : TypeId) (x i : V) (k : V → Tree R) : Tree R :=
  match elemT P t, arrT P t, i with
  | some e, _, .c (.int _ z) => (match x with
    | .own id => (match H[id]? with
      | some (.own d l _) => if wd d = P.cellsOf e then .ite (decide (0 ≤ z ∧ z < l.length)) (k (.oadr id d z.toNat 0)) .fail else .fail
      | _ => .fail)
    | x => (match viewL P e x with
      | some ⟨d, l⟩ => if wd d = P.cellsOf e ∧ 1 ≤ wd d then .bind (getI l z) fun el => k (.adr (enc d el)) else .fail
      | none => .fail))
  | none, some (m, e), .c (.int _ z) => if P.cellsOf e = 0 then .fail else (match x with
    | .box id off => (match H[id]? with
      | some (.box l _) => (match dropV big l off with
        | some (.arr d n a :: _) => if wd d = P.cellsOf e ∧ n = m then .ite (decide (0 ≤ z ∧ z < m)) (k (.boxi id off d n z.toNat 0)) .fail else .fail
        | _ => .ite (decide (0 ≤ z ∧ z < m)) (k (.box id (off + z.toNat * P.cellsOf e))) .fail)
      | _ => .fail)
    | .adr (.arr d n a :: _) => if wd d = P.cellsOf e ∧ n = m then .bind (getI a.l z) fun el => k (.adr (enc d el)) else .fail
    | .adr l => .ite (decide (0 ≤ z ∧ z < m)) (match dropV big l (z.toNat * P.cellsOf e) with | some s => k (.adr s) | none => .fail) .fail
    | _ => .fail)
  | _, _, _ => .fail
def extractK {R : Type} (x : V) (i : Nat) (k : V → Tree R) : Tree R :=
  match x with
  | .tup l => (match l[i]? with
    | some (.c v) => k (.c v)
    | some (.str s) => k (.str s)
    | some (.agg l) => k (.agg l)
    | some (.lst d l) => k (.lst d l)
    | some (.own i) => k (.own i)
    | some (.box i o) => k (.box i o)
    | some .emp => k .emp
    | _ => .fail)
  | _ => .fail
def intK {R : Type} (x : V) (k : Int → Tree R) : Tree R := match x with | .c (.int _ z) => k z | _ => .fail
def sliceK {R : Type} (P : Program) (ρ : Operand → V) (t : TypeId) (x : V) (lo hi : Option Operand) (k : V → Tree R) : Tree R :=
  match elemT P t with
  | some e => (match viewL P e x with
    | some ⟨d, l⟩ => if wd d = P.cellsOf e ∧ 1 ≤ wd d then (match lo, hi with
      | none, none => k (.lst d l)
      | some lo, none => intK (ρ lo) fun a => .bind (dropI l a) fun m => k (.lst d m)
      | none, some hi => intK (ρ hi) fun b => .bind (takeI l b) fun m => k (.lst d m)
      | some lo, some hi => intK (ρ lo) fun a => intK (ρ hi) fun b => .bind (subI l a b) fun m => k (.lst d m)) else .fail
    | none => .fail)
  | none => .fail
def slice3K {R : Type} (P : Program) (t : TypeId) (x hi mx : V) (k : V → Tree R) : Tree R :=
  match elemT P t, hi, mx with
  | some e, .c (.int _ 0), .c (.int _ 0) => if P.cellsOf e = 0 then .fail else (match x with
    | .c (.slice (some _) 0 _) => k .emp
    | x => (match viewL P e x with | some _ => k .emp | none => .fail))
  | _, _, _ => .fail
section
variable {P : Program} {H : List E2} {ρ : Operand → V} {o : Oper} {R : Type}
/-- All that it looks at is known. -/
def Plain (ρ : Operand → V) (o : Oper) : Prop := ∀ x ∈ o.op.operands, (ρ x).plain = true
theorem he_of {w : World} {B : List Nat} {η : List Value} {n0 : Nat} {ρv : Operand → Value} (hp : Plain ρ o) (h : ∀ x ∈ o.op.operands, Rel2 w B η (ρ x) (ρv x) ∧ FreshV n0 (ex (ρ x)) (ρv x)) : ∀ x ∈ o.op.operands, Rel w B η (ex (ρ x)) (ρv x) := fun x hx => (h x hx).1.get (hp x hx)
theorem heu_of {w : World} {B : List Nat} {η : List Value} {n0 : Nat} {ρv : Operand → Value} (hp : Plain ρ o) (h : ∀ x ∈ o.op.operands, Rel2 w B η (ρ x) (ρv x) ∧ FreshV n0 (ex (ρ x)) (ρv x)) : ∀ x ∈ o.op.operands, Rel w B η (eu (ρ x)) (ρv x) := fun x hx => (he_of hp h x hx).unf
def eL (P : Program) (e : TypeId) (x : V) : AV := match viewL P e x with
  | some s => .sl (flat s.1 s.2) (wd s.1)
  | none => ex x
theorem heL_of {w : World} {B : List Nat} {η : List Value} {n0 : Nat} {ρv : Operand → Value} (e : TypeId) (hp : Plain ρ o) (h : ∀ x ∈ o.op.operands, Rel2 w B η (ρ x) (ρv x) ∧ FreshV n0 (ex (ρ x)) (ρv x)) : ∀ x ∈ o.op.operands, Rel w B η (eL P e (ρ x)) (ρv x) := fun x hx => by
  have h1 := he_of hp h x hx
  unfold eL
  split
  · rename_i s hs; exact viewL_ok hs h1
  · exact h1
theorem eL_int {e : TypeId} {k : IntKind} {z : Int} : eL P e (.c (.int k z)) = .c (.int k z) := rfl
theorem eL_view {e : TypeId} {x : V} {s : Sigma fun d => List (T d)} (h : viewL P e x = some s) : eL P e x = .sl (flat s.1 s.2) (wd s.1) := by unfold eL; rw [h]
theorem Rel.adr_pre {w : World} {B : List Nat} {η : List Value} {a b : List AV} {v : Value} (h : Rel w B η (.adr (a ++ b)) v) : Rel w B η (.adr a) v := by
  cases h with
  | adr _ _ ad us ha hr => exact .adr _ _ ad us ⟨ha.spot, ha.lt, ha.out, fun i hi => ha.cell i (by rw [List.length_append]; omega)⟩ (fun i x hx => hr i x (by
      rw [List.getElem?_append_left (List.getElem?_eq_some_iff.1 hx).1]; exact hx))
theorem OpOK.mono {n0 : Nat} {w : World} {B : List Nat} {η : List Value} {ρv : Operand → Value} {r r' : AV} (h : OpOK P n0 w ρv o B η r) (hr : ∀ w' v, Rel w' B η r v → Rel w' B η r' v) : OpOK P n0 w ρv o B η r' := fun N hN => h N fun v w' g hv => hN v w' g (hr _ _ hv)
theorem partA_pre {t : TypeId} {a b : List AV} {off : Nat} {r : AV} (h : partA P t a off = some r) : partA P t (a ++ b) off = some r := by
  unfold partA at h ⊢
  split at h
  · rename_i hrow
    split at h
    · rename_i hle
      injection h with h; subst h
      rw [if_pos (by rw [List.length_append]; omega), List.drop_append_of_le_length (by omega), List.take_append_of_le_length (by rw [List.length_drop]; omega)]
    · cases h
  · rename_i hrow
    rw [List.getElem?_append_left (List.getElem?_eq_some_iff.1 h).1]; exact h
  · cases h
theorem loadA_part {H : List Ent} {t : TypeId} {x r : AV} {l : List AV} (hc : cellsA H x = some l) (h : partA P t l 0 = some r) : loadA P H t x = some r := by
  unfold loadA
  rw [hc]
  unfold partA at h
  cases hrow : rowT P t with
  | none => rw [hrow] at h; cases h
  | some b =>
    rw [hrow] at h
    cases b with
    | true =>
      simp only [Nat.zero_add, List.drop_zero] at h ⊢
      exact h
    | false =>
      simp only at h ⊢
      rw [List.head?_eq_getElem?]; exact h
theorem exH {id : Nat} {e : E2} (h : H[id]? = some e) : (H.map exE)[id]? = some (exE e) := by rw [List.getElem?_map, h]; rfl
theorem flat_drop_at {d : Td} {l : List (T d)} {i : Nat} {x : T d} (h : l[i]? = some x) : (flat d l).drop (i * wd d) = cells d x ++ flat d (l.drop (i + 1)) := by
  have hi : i < l.length := (List.getElem?_eq_some_iff.1 h).1
  rw [← flat_drop, List.drop_eq_getElem_cons hi, flat_cons]
  rw [List.getElem?_eq_getElem hi] at h
  injection h with h
  rw [h]
theorem readK_ok {x : V} {k : List V → Tree R} {r : R} (h : (readK H x k).run = some r) : ∃ segs rest l, (k segs).run = some r ∧ cellsA (H.map exE) (ex x) = some l ∧ l = segsA segs ++ rest := by
  unfold readK at h
  split at h
  · exact ⟨_, [], _, h, rfl, by simp⟩
  · rename_i id off
    split at h
    · rename_i l T' hH
      split at h
      · rename_i s hs
        obtain ⟨h1, h2⟩ := dropV_ok _ _ _ _ hs
        refine ⟨s, [], (segsA l).drop off, h, ?_, by rw [h1]; simp⟩
        simp only [ex, ex0, cellsA, exH hH, exE]
      · cases h
    · cases h
  · rename_i id off d n i oo
    split at h
    · rename_i l T' hH
      split at h
      · rename_i d' n' a rr hs
        obtain ⟨e, h⟩ := castK_run h
        subst e
        obtain ⟨el, hel, h⟩ := Tree.run_bind h
        split at h
        · rename_i s hss
          obtain ⟨h1, h2⟩ := dropV_ok _ _ _ _ hs
          obtain ⟨h3, h4⟩ := dropV_ok _ _ _ _ hss
          rw [segsA_enc] at h3 h4
          have key : (segsA l).drop (off + i * wd d' + oo) = segsA s ++ (flat d' (a.l.drop (i + 1)) ++ segsA rr) := by
            rw [Nat.add_assoc, ← List.drop_drop, ← h1, segsA_cons]
            simp only [segA]
            have hi : i < a.l.length := (List.getElem?_eq_some_iff.1 hel).1
            have hle : i * wd d' + wd d' ≤ (flat d' a.l).length := by rw [flat_length, ← Nat.succ_mul]; exact Nat.mul_le_mul_right _ hi
            have hol : oo ≤ wd d' := by rw [cells_length] at h4; exact h4
            rw [List.drop_append_of_le_length (by omega), ← List.drop_drop, flat_drop_at hel, List.drop_append_of_le_length h4, ← h3, List.append_assoc]
          refine ⟨s, _, _, h, ?_, key⟩
          simp only [ex, ex0, cellsA, exH hH, exE]
        · cases h
      · cases h
    · cases h
  · rename_i id d i oo
    split at h
    · rename_i d' l E hH
      obtain ⟨e, h⟩ := castK_run h
      subst e
      obtain ⟨el, hel, h⟩ := Tree.run_bind h
      split at h
      · rename_i s hss
        obtain ⟨h3, h4⟩ := dropV_ok _ _ _ _ hss
        rw [segsA_enc] at h3 h4
        have key : (flat d' l).drop (i * wd d' + oo) = segsA s ++ flat d' (l.drop (i + 1)) := by
          rw [← List.drop_drop, flat_drop_at hel, List.drop_append_of_le_length h4, ← h3]
        refine ⟨s, _, _, h, ?_, key⟩
        simp only [ex, ex0, cellsA, exH hH, exE]
      · cases h
    · cases h
  · cases h
theorem loadK_ok {t : TypeId} {x : Operand} {k : V → Tree R} {res : R} (hp : Plain ρ o) (ho : o.op = .load t x) (h : (loadK P H t (ρ x) k).run = some res) : ∃ r, (k r).run = some res ∧ Does P H ρ o r := by
  obtain ⟨segs, rest, l, h1, h2, h3⟩ := readK_ok h
  split at h1
  · rename_i r hr
    obtain ⟨h4, h5, h6⟩ := partV_ok hr
    refine ⟨r, h1, fun n0 Bx w B η ρv inv he => .of h5 h6 (loadA_ok inv (ρA := fun y => ex (ρ y)) (he_of hp he) ho (loadA_part h2 (by rw [h3]; exact partA_pre h4)))⟩
  · cases h1
theorem addOffK_ok {x : V} {n : Nat} {k : V → Tree R} {res : R} (h : (addOffK x n k).run = some res) : ∃ r, (k r).run = some res ∧ addOff (ex x) n = some (ex r) ∧ r.plain = true ∧ ∀ l k, ex r ≠ .fresh l k := by
  unfold addOffK at h
  split at h
  · exact ⟨_, h, rfl, rfl, fun _ _ h => by simp [ex, ex0] at h⟩
  · exact ⟨_, h, by simp [ex, ex0, addOff, Nat.add_assoc], rfl, fun _ _ h => by simp [ex, ex0] at h⟩
  · exact ⟨_, h, by simp [ex, ex0, addOff, Nat.add_assoc], rfl, fun _ _ h => by simp [ex, ex0] at h⟩
  · split at h
    · rename_i s hs
      obtain ⟨h1, h2⟩ := dropV_ok _ _ _ _ hs
      exact ⟨_, h, by simp [ex, ex0, addOff, h1], rfl, fun _ _ h => by simp [ex, ex0] at h⟩
    · cases h
  · cases h
theorem fieldAddrK_okA {s : TypeId} {f : Nat} {x : Operand} {k : V → Tree R} {res : R} (hp : Plain ρ o) (ho : o.op = .fieldAddr s x f) (h : (fieldAddrK P s f (ρ x) k).run = some res) : ∃ r, (k r).run = some res ∧ ∀ H : List E2, Does P H ρ o r := by
  unfold fieldAddrK at h
  split at h
  · rename_i ty off hfd
    obtain ⟨fd, hfd2, rfl, rfl⟩ := fieldTO_spec hfd
    split at h
    · cases h
    · rename_i hc
      obtain ⟨r, h1, h2, h3, h4⟩ := addOffK_ok h
      exact ⟨r, h1, fun H n0 Bx w B η ρv inv he => .of h3 h4 (fieldAddr_ok (ρA := fun y => ex (ρ y)) (he_of hp he) ho hfd2 hc h2)⟩
  · cases h
theorem fieldAddrK_ok {s : TypeId} {f : Nat} {x : Operand} {k : V → Tree R} {res : R} (hp : Plain ρ o) (ho : o.op = .fieldAddr s x f) (h : (fieldAddrK P s f (ρ x) k).run = some res) : ∃ r, (k r).run = some res ∧ Does P H ρ o r := by
  obtain ⟨r, h1, h2⟩ := fieldAddrK_okA hp ho h
  exact ⟨r, h1, h2 H⟩
theorem nilCheckK_ok {x : Operand} {k : V → Tree R} {res : R} (hp : Plain ρ o) (ho : o.op = .nilCheck x) (h : (nilCheckK (ρ x) k).run = some res) : ∃ r, (k r).run = some res ∧ Does P H ρ o r := by
  have key : ∀ r, ρ x = r → r.plain = true → (∀ l k, ex r ≠ .fresh l k) → ((∃ i n, ex r = .box i n) ∨ (∃ l, ex r = .adr l) ∨ (∃ i n, ex r = .oadr i n)) → Does P H ρ o r := fun r hr h1 h2 h3 n0 Bx w B η ρv inv he => by
    subst hr
    exact .of h1 h2 (nilCheck_ok (ρA := fun y => ex (ρ y)) (he_of hp he) ho h3)
  unfold nilCheckK at h
  split at h
  · rename_i hx; exact ⟨_, h, key _ hx rfl (fun _ _ h => by simp [ex, ex0] at h) (.inl ⟨_, _, rfl⟩)⟩
  · rename_i hx; exact ⟨_, h, key _ hx rfl (fun _ _ h => by simp [ex, ex0] at h) (.inl ⟨_, _, rfl⟩)⟩
  · rename_i hx; exact ⟨_, h, key _ hx rfl (fun _ _ h => by simp [ex, ex0] at h) (.inr (.inr ⟨_, _, rfl⟩))⟩
  · rename_i hx; exact ⟨_, h, key _ hx rfl (fun _ _ h => by simp [ex, ex0] at h) (.inr (.inl ⟨_, rfl⟩))⟩
  · cases h
theorem fieldK_ok {s : TypeId} {f : Nat} {x : Operand} {k : V → Tree R} {res : R} (hp : Plain ρ o) (ho : o.op = .field s x f) (h : (fieldK P s f (ρ x) k).run = some res) : ∃ r, (k r).run = some res ∧ Does P H ρ o r := by
  unfold fieldK at h
  split at h
  · rename_i l ty off hx hfd
    obtain ⟨fd, hfd2, rfl, rfl⟩ := fieldTO_spec hfd
    split at h
    · rename_i r hr
      obtain ⟨h4, h5, h6⟩ := partV_ok hr
      exact ⟨r, h, fun n0 Bx w B η ρv inv he => .of h5 h6 (field_ok (ρA := fun y => ex (ρ y)) (he_of hp he) ho hfd2 (by rw [hx]; rfl) h4)⟩
    · cases h
  · cases h
theorem indexK_ok {t : TypeId} {x i : Operand} {k : V → Tree R} {res : R} (hp : Plain ρ o) (ho : o.op = .index t x i) (h : (indexK P t (ρ x) (ρ i) k).run = some res) : ∃ r, (k r).run = some res ∧ Does P H ρ o r := by
  unfold indexK at h
  split at h
  · rename_i m e kk z hat hi
    split at h
    · cases h
    · rename_i hc
      split at h
      · rename_i d n a hx
        split at h
        · rename_i hnm
          obtain ⟨rfl, hwd⟩ := hnm
          obtain ⟨el, hel, h⟩ := Tree.run_bind h
          obtain ⟨g0, g1, g2⟩ := getI_eq hel
          split at h
          · rename_i r hr
            obtain ⟨h4, h5, h6⟩ := partV_ok hr
            rw [a.h] at g2
            refine ⟨r, h, fun n0 Bx w B η ρv inv he => .of h5 h6 (index_ok (ρA := fun y => ex (ρ y)) (he_of hp he) ho (arrT_spec hat) (by rw [hx]; rfl) (by rw [hi]; rfl) ⟨g0, by omega⟩ hc ?_)⟩
            have e1 : segsA [V.arr d n a] = flat d a.l := by simp [segsA, segA]
            rw [e1]
            rw [segsA_enc] at h4
            have hd := flat_drop_at g1
            unfold partA at h4 ⊢
            rw [hwd] at hd
            have hlen : (flat d a.l).length = a.l.length * wd d := flat_length d a.l
            split at h4
            · rename_i hrow
              split at h4
              · rename_i hle
                rw [if_pos (by have := congrArg List.length hd; rw [List.length_drop, List.length_append] at this; omega), hd, List.take_append_of_le_length (by omega)]
                simpa using h4
              · cases h4
            · rename_i hrow
              have := congrArg (·[0]?) hd
              simp only [List.getElem?_drop, Nat.add_zero] at this
              rw [this, List.getElem?_append_left (List.getElem?_eq_some_iff.1 h4).1]
              exact h4
            · cases h4
          · cases h
        · cases h
      · rename_i l hx
        rcases Tree.run_ite h with ⟨hb, h⟩ | ⟨_, h⟩
        · have hz := of_decide_eq_true hb
          split at h
          · rename_i r hr
            obtain ⟨h4, h5, h6⟩ := partV_ok hr
            exact ⟨r, h, fun n0 Bx w B η ρv inv he => .of h5 h6 (index_ok (ρA := fun y => ex (ρ y)) (he_of hp he) ho (arrT_spec hat) (by rw [hx]; rfl) (by rw [hi]; rfl) hz hc h4)⟩
          · cases h
        · cases h
      · cases h
  · cases h
theorem indexAddrK_ok {t : TypeId} {x i : Operand} {k : V → Tree R} {res : R} (hp : Plain ρ o) (ho : o.op = .indexAddr t x i) (h : (indexAddrK P H t (ρ x) (ρ i) k).run = some res) : ∃ r, (k r).run = some res ∧ Does P H ρ o r := by
  unfold indexAddrK at h
  split at h
  · rename_i e kk z het hi
    split at h
    · rename_i id hx
      split at h
      · rename_i d l E hH
        split at h
        · rename_i hwd
          rcases Tree.run_ite h with ⟨hb, h⟩ | ⟨_, h⟩
          · have hz := of_decide_eq_true hb
            refine ⟨_, h, fun n0 Bx w B η ρv inv he => .of rfl (fun _ _ h => by simp [ex, ex0] at h) ?_⟩
            have hid := exH hH
            have hent := inv.ent id _ hid
            obtain ⟨n', us, hown, hrel, hk1, hbl⟩ := hent
            exact indexOwn_ok (ρA := fun y => ex (ρ y)) inv (he_of hp he) ho (elemT_spec het) (by simp only [hx]; rfl) (by simp only [hi]; rfl) hid ⟨hz.1, by
              rw [flat_length]
              exact Nat.mul_lt_mul_of_pos_right (by omega) (by omega)⟩ hwd
          · cases h
        · cases h
      · cases h
    · split at h
      · rename_i d l hv
        split at h
        · rename_i hwd
          obtain ⟨el, hel, h⟩ := Tree.run_bind h
          obtain ⟨g0, g1, g2⟩ := getI_eq hel
          refine ⟨_, h, fun n0 Bx w B η ρv inv he => .of rfl (fun _ _ h => by simp [ex, ex0] at h) (OpOK.mono (indexSl_ok (ρA := fun y => eL P e (ρ y)) (heL_of e hp he) ho (elemT_spec het) (eL_view hv) (show eL P e (ρ i) = .c (.int kk z) by rw [hi]; rfl) ⟨g0, by
            rw [flat_length]; exact Nat.mul_lt_mul_of_pos_right g2 hwd.2⟩ hwd.1) fun w' v hv' => ?_)⟩
          rw [flat_drop_at g1] at hv'
          simp only [ex, ex0, segsA_enc]
          exact hv'.adr_pre
        · cases h
      · cases h
  · rename_i m e kk z hnoel hat hi
    split at h
    · cases h
    · rename_i hc
      split at h
      · rename_i id off hx
        split at h
        · rename_i l T' hH
          split at h
          · rename_i d n a rr hs
            split at h
            · rename_i hwd
              rcases Tree.run_ite h with ⟨hb, h⟩ | ⟨_, h⟩
              · have hz := of_decide_eq_true hb
                exact ⟨_, h, fun n0 Bx w B η ρv inv he => .of rfl (fun _ _ h => by simp [ex, ex0] at h) (indexArr_ok (ρA := fun y => ex (ρ y)) (he_of hp he) ho (arrT_spec hat) (by simp only [hi]; rfl) hz hc (by simp [hx, ex, ex0, addOff, hwd.1]))⟩
              · cases h
            · cases h
          · rcases Tree.run_ite h with ⟨hb, h⟩ | ⟨_, h⟩
            · have hz := of_decide_eq_true hb
              exact ⟨_, h, fun n0 Bx w B η ρv inv he => .of rfl (fun _ _ h => by simp [ex, ex0] at h) (indexArr_ok (ρA := fun y => ex (ρ y)) (he_of hp he) ho (arrT_spec hat) (by simp only [hi]; rfl) hz hc (by simp [hx, ex, ex0, addOff]))⟩
            · cases h
        · cases h
      · rename_i d n a rr hx
        split at h
        · rename_i hwd
          obtain ⟨el, hel, h⟩ := Tree.run_bind h
          obtain ⟨g0, g1, g2⟩ := getI_eq hel
          rw [a.h] at g2
          refine ⟨_, h, fun n0 Bx w B η ρv inv he => .of rfl (fun _ _ h => by simp [ex, ex0] at h) (OpOK.mono (r := .adr ((segsA (V.arr d n a :: rr)).drop (z.toNat * P.cellsOf e))) (indexArr_ok (ρA := fun y => ex (ρ y)) (he_of hp he) ho (arrT_spec hat) (by simp only [hi]; rfl) ⟨g0, by omega⟩ hc (by simp only [hx]; rfl)) fun w' v hv' => ?_)⟩
          have hle : z.toNat * wd d ≤ (flat d a.l).length := by rw [flat_length, a.h]; exact Nat.mul_le_mul_right _ (by omega)
          rw [segsA_cons, ← hwd.1] at hv'
          simp only [segA] at hv'
          rw [List.drop_append_of_le_length hle, flat_drop_at g1, List.append_assoc] at hv'
          simp only [ex, ex0, segsA_enc]
          exact hv'.adr_pre
        · cases h
      · rename_i l hnot hx
        rcases Tree.run_ite h with ⟨hb, h⟩ | ⟨_, h⟩
        · have hz := of_decide_eq_true hb
          split at h
          · rename_i s hs
            obtain ⟨h1, h2⟩ := dropV_ok _ _ _ _ hs
            exact ⟨_, h, fun n0 Bx w B η ρv inv he => .of rfl (fun _ _ h => by simp [ex, ex0] at h) (indexArr_ok (ρA := fun y => ex (ρ y)) (he_of hp he) ho (arrT_spec hat) (by simp only [hi]; rfl) hz hc (by simp [hx, ex, ex0, addOff, h1]))⟩
          · cases h
        · cases h
      · cases h
  · cases h
theorem extractK_ok {x : Operand} {i : Nat} {k : V → Tree R} {res : R} (hp : Plain ρ o) (ho : o.op = .extract x i) (h : (extractK (ρ x) i k).run = some res) : ∃ r, (k r).run = some res ∧ Does P H ρ o r := by
  unfold extractK at h
  split at h
  · rename_i l hx
    have key : ∀ r, l[i]? = some r → ex0 r = ex r → r.plain = true → (∀ l k, ex r ≠ .fresh l k) → Does P H ρ o r := fun r hr h0 h1 h2 n0 Bx w B η ρv inv he =>
      .of h1 h2 (extract_ok (ρA := fun y => ex (ρ y)) (he_of hp he) ho (l := l.map ex0) (by simp only [hx]; rfl) (by rw [List.getElem?_map, hr, Option.map_some, h0]))
    split at h
    all_goals first | cases h | (rename_i hr; exact ⟨_, h, key _ hr rfl rfl (fun _ _ h => by simp [ex, ex0] at h)⟩)
  · cases h
theorem intK_run {x : V} {k : Int → Tree R} {res : R} (h : (intK x k).run = some res) : ∃ kk z, x = .c (.int kk z) ∧ (k z).run = some res := by
  unfold intK at h
  split at h
  · exact ⟨_, _, rfl, h⟩
  · cases h
theorem sliceK_ok {t : TypeId} {x : Operand} {lo hi : Option Operand} {k : V → Tree R} {res : R} (hp : Plain ρ o) (ho : o.op = .slice t x lo hi none) (h : (sliceK P ρ t (ρ x) lo hi k).run = some res) : ∃ r, (k r).run = some res ∧ Does P H ρ o r := by
  unfold sliceK at h
  split at h
  · rename_i e het
    split at h
    · rename_i d l hv
      split at h
      · rename_i hwd
        have hdiv : (flat d l).length / wd d = l.length := by rw [flat_length]; exact Nat.mul_div_cancel _ (by omega)
        have key : ∀ (a b : Nat), boundA (fun y => eL P e (ρ y)) 0 lo = some a → boundA (fun y => eL P e (ρ y)) l.length hi = some b → a ≤ b → b ≤ l.length → Does P H ρ o (.lst d ((l.drop a).take (b - a))) := fun a b ha hb hab hbl n0 Bx w B η ρv inv he => by
          refine .of rfl (fun _ _ h => by simp [ex, ex0] at h) ?_
          have := slice_ok (P := P) (ρA := fun y => eL P e (ρ y)) (n0 := n0) (heL_of e hp he) ho (elemT_spec het) (eL_view hv) hwd.1 ha (by rw [hdiv]; exact hb) hab (by rw [flat_length]; exact Nat.mul_le_mul_right _ hbl)
          simp only [ex, ex0, flat_take, flat_drop]
          exact this
        split at h
        · have := key 0 l.length rfl rfl (Nat.zero_le _) (Nat.le_refl _)
          simp only [List.drop_zero, Nat.sub_zero, List.take_length] at this
          exact ⟨_, h, this⟩
        · obtain ⟨kk, z, hz, h⟩ := intK_run h
          obtain ⟨m, hm, h⟩ := Tree.run_bind h
          unfold dropI at hm
          split at hm
          · rename_i hc
            injection hm with hm; subst hm
            have := key z.toNat l.length (by simp [boundA, hz, eL_int, hc.1]) rfl (by omega) (Nat.le_refl _)
            rw [List.take_of_length_le (by rw [List.length_drop]; exact Nat.le_refl _)] at this
            exact ⟨_, h, this⟩
          · cases hm
        · obtain ⟨kk, z, hz, h⟩ := intK_run h
          obtain ⟨m, hm, h⟩ := Tree.run_bind h
          unfold takeI at hm
          split at hm
          · rename_i hc
            injection hm with hm; subst hm
            have := key 0 z.toNat rfl (by simp [boundA, hz, eL_int, hc.1]) (Nat.zero_le _) (by omega)
            rw [List.drop_zero, Nat.sub_zero] at this
            exact ⟨_, h, this⟩
          · cases hm
        · obtain ⟨kk, z, hz, h⟩ := intK_run h
          obtain ⟨kk2, z2, hz2, h⟩ := intK_run h
          obtain ⟨m, hm, h⟩ := Tree.run_bind h
          unfold subI at hm
          split at hm
          · rename_i hc
            injection hm with hm; subst hm
            exact ⟨_, h, key z.toNat z2.toNat (by simp [boundA, hz, eL_int, hc.1]) (by simp [boundA, hz2, eL_int]; omega) (by omega) (by omega)⟩
          · cases hm
      · cases h
    · cases h
  · cases h
theorem slice3K_ok {t : TypeId} {x hi mx : Operand} {k : V → Tree R} {res : R} (hp : Plain ρ o) (ho : o.op = .slice t x none (some hi) (some mx)) (h : (slice3K P t (ρ x) (ρ hi) (ρ mx) k).run = some res) : ∃ r, (k r).run = some res ∧ Does P H ρ o r := by
  unfold slice3K at h
  split at h
  · rename_i e k1 k2 het hhi hmx
    split at h
    · cases h
    · rename_i hc
      split at h
      · rename_i A0 c0 hx
        exact ⟨_, h, fun n0 Bx w B η ρv inv he => .of rfl (fun _ _ h => by simp [ex, ex0] at h) (slice3c_ok (ρA := fun y => ex (ρ y)) (A := A0) (c := c0) (he_of hp he) ho (elemT_spec het) (by simp only [hx]; rfl) hc (by simp only [hhi]; rfl) (by simp only [hmx]; rfl))⟩
      split at h
      · rename_i s hv
        exact ⟨_, h, fun n0 Bx w B η ρv inv he => .of rfl (fun _ _ h => by simp [ex, ex0] at h) (slice3_ok (ρA := fun y => eL P e (ρ y)) (heL_of e hp he) ho (elemT_spec het) (eL_view hv) hc (show eL P e (ρ hi) = .c (.int k1 0) by rw [hhi]; rfl) (show eL P e (ρ mx) = .c (.int k2 0) by rw [hmx]; rfl))⟩
      · cases h
  · cases h
end
end Go.Proofs.Ytpijcgohhjgdbaa
