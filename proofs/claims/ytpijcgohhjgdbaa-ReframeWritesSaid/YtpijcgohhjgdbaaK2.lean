/-
  Parts of values; what is read as a row.
-/
import Derived.Test.YtpijcgohhjgdbaaK1
namespace Go.Proofs.Ytpijcgohhjgdbaa
set_option maxRecDepth 100000
open Go.RowKit
set_option linter.unusedVariables false
set_option linter.unusedSimpArgs false

/-- How many cells a part has. -/
def wV : V → Nat
  | .arr d n _ => n * wd d
  | .c _ | .str _ | .lst _ _ | .fre _ _ | .emp | .box _ _ | .own _ => 1
  | _ => 0
theorem wV_eq (x : V) : (segA x).length = wV x := by
  cases x <;> first | rfl | skip
  rename_i d n a
  simp only [segA, wV, flat_length, a.h]
def wL : List V → Nat
  | [] => 0
  | x :: l => wV x + wL l
theorem wL_eq : ∀ l : List V, (segsA l).length = wL l
  | [] => rfl
  | x :: l => by rw [segsA_cons, List.length_append, wV_eq, wL_eq l]; rfl
/-- An array, element by element. -/
def expl (d : Td) (l : List (T d)) : Nat → Nat → List V
  | _, 0 => []
  | i, n + 1 => enc d (l.getD i (dflt d)) ++ expl d l (i + 1) n
theorem expl_eq (d : Td) (l : List (T d)) : ∀ n i, i + n = l.length → segsA (expl d l i n) = flat d (l.drop i)
  | 0, i, h => by rw [List.drop_of_length_le (by omega)]; rfl
  | n + 1, i, h => by
    have hi : i < l.length := by omega
    rw [expl, segsA_append, segsA_enc, expl_eq d l n (i + 1) (by omega), List.drop_eq_getElem_cons hi, flat_cons, List.getD_eq_getElem?_getD, List.getElem?_eq_getElem hi, Option.getD_some]
def explA (d : Td) (n : Nat) (a : Arr (T d) n) : List V := expl d a.l 0 n
theorem explA_eq (d : Td) (n : Nat) (a : Arr (T d) n) : segsA (explA d n a) = flat d a.l := by
  have := expl_eq d a.l n 0 (by simp [a.h])
  rw [List.drop_zero] at this
  exact this
/-- Without the first n cells. -/
def dropV : Nat → List V → Nat → Option (List V)
  | 0, _, _ => none
  | f + 1, segs, n => if n = 0 then some segs else match segs with
    | [] => none
    | s :: r => if wV s ≤ n then dropV f r (n - wV s) else match s with
      | .arr d m a => dropV f (explA d m a ++ r) n
      | _ => none
/-- The first n cells. -/
def takeV : Nat → List V → Nat → Option (List V)
  | 0, _, _ => none
  | f + 1, segs, n => if n = 0 then some [] else match segs with
    | [] => none
    | s :: r => if wV s ≤ n then (match takeV f r (n - wV s) with | some t => some (s :: t) | none => none) else match s with
      | .arr d m a => takeV f (explA d m a ++ r) n
      | _ => none
theorem dropV_ok : ∀ (f : Nat) (segs : List V) (n : Nat) (t : List V), dropV f segs n = some t → segsA t = (segsA segs).drop n ∧ n ≤ (segsA segs).length
  | 0, _, _, _, h => by cases h
  | f + 1, segs, n, t, h => by
    unfold dropV at h
    split at h
    · rename_i hn; subst hn; injection h with h; subst h; simp
    · split at h
      · cases h
      · rename_i s r
        split at h
        · rename_i hle
          obtain ⟨h1, h2⟩ := dropV_ok f r _ t h
          rw [segsA_cons, List.drop_append, List.drop_eq_nil_of_le (by rw [wV_eq]; exact hle), List.nil_append, wV_eq, h1, List.length_append, wV_eq]
          exact ⟨rfl, by omega⟩
        · split at h
          · rename_i d m a _
            obtain ⟨h1, h2⟩ := dropV_ok f _ _ t h
            rw [segsA_append, explA_eq] at h1 h2
            exact ⟨h1, h2⟩
          · cases h
theorem takeV_ok : ∀ (f : Nat) (segs : List V) (n : Nat) (t : List V), takeV f segs n = some t → segsA t = (segsA segs).take n ∧ n ≤ (segsA segs).length
  | 0, _, _, _, h => by cases h
  | f + 1, segs, n, t, h => by
    unfold takeV at h
    split at h
    · rename_i hn; subst hn; injection h with h; subst h; simp [segsA_nil]
    · split at h
      · cases h
      · rename_i s r
        split at h
        · rename_i hle
          split at h
          · rename_i t' ht
            injection h with h; subst h
            obtain ⟨h1, h2⟩ := takeV_ok f r _ _ ht
            rw [segsA_cons, segsA_cons, List.take_append, List.take_of_length_le (by rw [wV_eq]; exact hle), wV_eq, h1, List.length_append, wV_eq]
            exact ⟨rfl, by omega⟩
          · cases h
        · split at h
          · rename_i d m a _
            obtain ⟨h1, h2⟩ := takeV_ok f _ _ t h
            rw [segsA_append, explA_eq] at h1 h2
            exact ⟨h1, h2⟩
          · cases h
/-- A part of one cell, as a value. -/
def scal : V → Option V
  | .c v => some (.c v)
  | .str s => some (.str s)
  | .lst d l => some (.lst d l)
  | .emp => some .emp
  | .box i o => some (.box i o)
  | .own i => some (.own i)
  | .arr d n a => match explA d n a with
    | [.c v] => some (.c v)
    | [.str s] => some (.str s)
    | [.lst d l] => some (.lst d l)
    | _ => none
  | _ => none
theorem scal_ok {x y : V} (h : scal x = some y) : segA x = [ex y] ∧ y.plain = true ∧ (∀ l k, ex y ≠ .fresh l k) ∧ (∀ l, ex y ≠ .tup l) := by
  unfold scal at h
  split at h
  all_goals first | (injection h with h; subst h; exact ⟨rfl, rfl, fun _ _ h => by simp [ex, ex0] at h, fun _ h => by simp [ex, ex0] at h⟩) | skip
  · rename_i d n a
    have he := explA_eq d n a
    split at h
    all_goals first | (rename_i hx; rw [hx] at he; injection h with h; subst h; refine ⟨?_, rfl, fun _ _ h => by simp [ex, ex0] at h, fun _ h => by simp [ex, ex0] at h⟩; simp only [segA]; rw [← he]; rfl) | cases h
  · cases h
abbrev big : Nat := 5000
def partV (P : Program) (t : TypeId) (segs : List V) (off : Nat) : Option V :=
  match dropV big segs off with
  | some r => match rowT P t with
    | some true => (match takeV big r (P.cellsOf t) with | some l => some (.agg l) | none => none)
    | some false => (match takeV big r 1 with | some [x] => scal x | _ => none)
    | none => none
  | none => none
theorem partV_ok {P : Program} {t : TypeId} {segs : List V} {off : Nat} {r : V} (h : partV P t segs off = some r) : partA P t (segsA segs) off = some (ex r) ∧ r.plain = true ∧ (∀ l k, ex r ≠ .fresh l k) := by
  unfold partV at h
  split at h
  · rename_i rr hd
    obtain ⟨h1, h2⟩ := dropV_ok _ _ _ _ hd
    split at h
    · rename_i hrow
      split at h
      · rename_i l hl
        injection h with h; subst h
        obtain ⟨h3, h4⟩ := takeV_ok _ _ _ _ hl
        refine ⟨?_, rfl, fun _ _ h => by simp [ex, ex0] at h⟩
        simp only [partA, hrow, ex, ex0]
        rw [h1, List.length_drop] at h4
        rw [if_pos (by omega), h3, h1]
      · cases h
    · rename_i hrow
      split at h
      · rename_i x hl
        obtain ⟨h3, h4⟩ := takeV_ok _ _ _ _ hl
        obtain ⟨h5, h6, h7, _⟩ := scal_ok h
        refine ⟨?_, h6, h7⟩
        simp only [partA, hrow]
        rw [segsA_cons, segsA_nil, List.append_nil, h5, h1] at h3
        have := congrArg (·[0]?) h3
        simp at this
        exact this.symm
      · cases h
    · cases h
  · cases h
/-- Parts from off on are these. -/
def putV (segs : List V) (off : Nat) (new : List V) : Option (List V) :=
  match takeV big segs off, dropV big segs (off + wL new) with
  | some p, some q => some (p ++ new ++ q)
  | _, _ => none
theorem putV_ok {segs new r : List V} {off : Nat} (h : putV segs off new = some r) : segsA r = putL (segsA segs) off (segsA new) ∧ off + (segsA new).length ≤ (segsA segs).length := by
  unfold putV at h
  split at h
  · rename_i p q h1 h2
    injection h with h; subst h
    obtain ⟨a1, a2⟩ := takeV_ok _ _ _ _ h1
    obtain ⟨b1, b2⟩ := dropV_ok _ _ _ _ h2
    rw [← wL_eq] at b1 b2
    rw [segsA_append, segsA_append, a1, b1]
    exact ⟨rfl, b2⟩
  · cases h
def constV : Value → V
  | .string s => .str s.data.toList
  | v => .c v
theorem constV_ex (v : Value) : ex (constV v) = .c v := by
  cases v <;> first | rfl | skip
theorem constV_seg (v : Value) : segA (constV v) = [.c v] := by
  cases v <;> first | rfl | skip
theorem constV_plain (v : Value) : (constV v).plain = true := by cases v <;> rfl
theorem segsA_const (l : List Value) : segsA (l.map constV) = l.map .c := by
  induction l with
  | nil => rfl
  | cons v l ih => rw [List.map_cons, segsA_cons, constV_seg, ih]; rfl
/-- A value, in parts. -/
def toSegs : V → Option (List V)
  | .c (.agg cs) => some (cs.toList.map constV)
  | .c v => some [.c v]
  | .str s => some [.str s]
  | .agg l => some l
  | .arr d n a => some [.arr d n a]
  | .lst d l => some [.lst d l]
  | .fre d l => some [.lst d l]
  | .emp => some [.emp]
  | .box i o => some [.box i o]
  | .own i => some [.own i]
  | _ => none
def eu (x : V) : AV := unf (ex x)
theorem toSegs_ok {x : V} {l : List V} (h : toSegs x = some l) : (eu x).toL = segsA l ∧ notTup (eu x) = true ∧ x.plain = true := by
  unfold toSegs at h
  split at h
  all_goals first
    | (injection h with h; subst h; refine ⟨?_, rfl, rfl⟩; simp [eu, ex, ex0, unf, AV.toL, segsA, segA]; done)
    | (injection h with h; subst h; refine ⟨?_, rfl, rfl⟩; simp only [eu, ex, ex0, unf, AV.toL, segsA_const]; done)
    | (injection h with h; subst h; refine ⟨?_, rfl, rfl⟩; rename_i v hv; cases v <;> first | rfl | exact absurd rfl (hv _))
    | cases h
/-- What is read as a row of e's. -/
def tdOf (P : Program) : Nat → TypeId → Option Td
  | 0, _ => none
  | n + 1, t => match P.underlying t with
    | some (.int k) => some (.int k)
    | some .bool => some .bool
    | some .string => some .str
    | some (.slice e) => (match tdOf P n e with | some d => some (.sl d) | none => none)
    | some (.array m e) => (match tdOf P n e with | some d => some (.arr m d) | none => none)
    | some (.struct fs) => tdFs (tdOf P n) fs.toList
    | _ => none
where tdFs (f : TypeId → Option Td) : List Field → Option Td
  | [] => none
  | [a] => f a.type
  | a :: as' => match f a.type, tdFs f as' with
    | some d, some e => some (.pair d e)
    | _, _ => none
def viewL (P : Program) (e : TypeId) : V → Option (Sigma fun d => List (T d))
  | .lst d l => some ⟨d, l⟩
  | .fre d l => some ⟨d, l⟩
  | .emp => (match tdOf P 12 e with | some d => if 1 ≤ wd d then some ⟨d, []⟩ else none | none => none)
  | .c (.slice none 0 0) => (match tdOf P 12 e with | some d => if 1 ≤ wd d then some ⟨d, []⟩ else none | none => none)
  | _ => none
theorem viewL_ok {P : Program} {e : TypeId} {x : V} {s : Sigma fun d => List (T d)} (h : viewL P e x = some s) {w : World} {B : List Nat} {η : List Value} {v : Value} (hr : Rel w B η (ex x) v) : Rel w B η (.sl (flat s.1 s.2) (wd s.1)) v := by
  unfold viewL at h
  split at h
  · injection h with h; subst h; exact hr
  · injection h with h; subst h; exact hr.unf
  · split at h
    · split at h
      · rename_i hw; injection h with h; subst h; exact rel_emp_sl hw hr
      · cases h
    · cases h
  · split at h
    · split at h
      · rename_i hw; injection h with h; subst h; exact rel_nil_sl hw hr
      · cases h
    · cases h
  · cases h
theorem viewL_plain {P : Program} {e : TypeId} {x : V} {s : Sigma fun d => List (T d)} (h : viewL P e x = some s) : x.plain = true := by
  unfold viewL at h
  split at h <;> first | rfl | cases h

/-! ### Values, as they stand in memory -/
def Rel2 (w : World) (B : List Nat) (η : List Value) (x : V) (v : Value) : Prop :=
  match x with
  | .any => True
  | .clo f caps => ∃ vs : List Value, v = .func (.func f) #[] vs.toArray ∧ vs.length = caps.length ∧ ∀ (i : Nat) c, caps[i]? = some c → ∃ u, vs[i]? = some u ∧ c.cap = true ∧ Rel w B η (ex c) u
  | .bsl id n => ∃ b, η[id]? = some (.pointer (some ⟨b, 0, none⟩)) ∧ v = .slice (some ⟨b, 0, none⟩) n n
  | x => Rel w B η (ex x) v
section
variable {w w' : World} {B B' : List Nat} {η η' : List Value}
theorem Rel2.get {x : V} {v : Value} (h : Rel2 w B η x v) (hp : x.plain = true) : Rel w B η (ex x) v := by
  cases x <;> first | exact h | cases hp
theorem Rel2.of {x : V} {v : Value} (hp : x.plain = true) (h : Rel w B η (ex x) v) : Rel2 w B η x v := by
  cases x <;> first | exact h | cases hp
theorem Rel2.on {x : V} {v : Value} (h : Rel2 w B η x v) (g : On B w w') (hB : ∀ b ∈ B', b ∈ B ∨ w.heap.size ≤ b) (he : ∀ (id : Nat) v, η[id]? = some v → η'[id]? = some v) : Rel2 w' B' η' x v := by
  cases x with
  | any => trivial
  | clo f caps =>
    obtain ⟨vs, h1, h2, h3⟩ := h
    exact ⟨vs, h1, h2, fun i c hc => by obtain ⟨u, a, b, c⟩ := h3 i c hc; exact ⟨u, a, b, c.on g hB he⟩⟩
  | bsl id n => obtain ⟨b, h1, h2⟩ := h; exact ⟨b, he _ _ h1, h2⟩
  | _ => exact Rel.on h g hB he
theorem Rel2.gk {n0 : Nat} {x : V} {v : Value} (h : Rel2 w B η x v) (g : Gk n0 B w w') : Rel2 w' B η x v := h.on g.on (fun _ hb => .inl hb) (fun _ _ h => h)
end
/-- What stands in a block of the call's own. -/
inductive E2 where
  | dead
  | box (l : List V) (T : TypeId)
  | own (d : Td) (l : List (T d)) (E : TypeId)
  | itr (s : List UInt8) (pos : Int)
  deriving Inhabited
def exE : E2 → Ent
  | .dead => .dead
  | .box l T => .box (segsA l) T
  | .own d l E => .own (flat d l) E (wd d)
  | .itr s pos => .itr ⟨s.toArray⟩ pos.toNat
/-- What an operation that writes nothing does, in every memory. -/
def OpK (P : Program) (n0 : Nat) (w : World) (ρ : Operand → Value) (o : Oper) (B : List Nat) (η : List Value) (r : V) : Prop :=
  ∀ N : Value → World → Prop, (∀ v w', Gk n0 B w w' → Rel2 w' B η r v → FreshV n0 (ex r) v → N v w') → Oper.val P ρ o w N
def Does (P : Program) (H : List E2) (ρ : Operand → V) (o : Oper) (r : V) : Prop :=
  ∀ (n0 : Nat) (Bx : List Nat) (w : World) (B : List Nat) (η : List Value) (ρv : Operand → Value), Inv n0 Bx w B η (H.map exE) → (∀ x ∈ o.op.operands, Rel2 w B η (ρ x) (ρv x) ∧ FreshV n0 (ex (ρ x)) (ρv x)) → OpK P n0 w ρv o B η r
theorem OpK.of {P : Program} {n0 : Nat} {w : World} {ρ : Operand → Value} {o : Oper} {B : List Nat} {η : List Value} {r : V} (hp : r.plain = true) (hf : ∀ l k, ex r ≠ .fresh l k) (h : OpOK P n0 w ρ o B η (ex r)) : OpK P n0 w ρ o B η r := fun N hN =>
  h N fun v w' g hr => hN v w' g (Rel2.of hp hr) (fun hfr => by generalize ex r = y at hf hfr; cases y <;> first | exact absurd rfl (hf _ _) | cases hfr)
end Go.Proofs.Ytpijcgohhjgdbaa
