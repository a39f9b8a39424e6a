/-
  Structs and slices that are built; bytes as a text; slices against nil.
-/
import Derived.Test.YtpijcgohhjgdbaaEng4b
import Derived.WalkSpells
namespace Go.Proofs.Ytpijcgohhjgdbaa
set_option maxRecDepth 100000
open Go.RowKit
set_option linter.unusedVariables false
set_option linter.unusedSimpArgs false

def notTup : AV → Bool
  | .tup _ => false
  | _ => true
/-- The cells from off on are these. -/
def putL {α : Type} (cells : List α) (off : Nat) (l : List α) : List α := cells.take off ++ l ++ cells.drop (off + l.length)
theorem RelL.putL {w : World} {B : List Nat} {η : List Value} {l m : List AV} {us vs : List Value} (h : RelL w B η l us) (k : RelL w B η m vs) (off : Nat) : RelL w B η (putL l off m) (putL us off vs) := by
  unfold Go.Proofs.Ytpijcgohhjgdbaa.putL
  rw [k.1]
  exact ((h.take off).append k).append (h.drop _)
def fillA (place : Nat → Option (Nat × Nat)) (cells : List AV) : List (Nat × AV) → Option (List AV)
  | [] => some cells
  | (i, x) :: rest => match place i with
    | none => none
    | some (off, size) => if notTup x = true ∧ x.toL.length = size ∧ off + x.toL.length ≤ cells.length then fillA place (putL cells off x.toL) rest else none
/-- A struct's, or an array's, zero cells, and where its parts lie. -/
def layP (P : Program) (t : TypeId) : Option (List Value × List (Nat × Nat)) :=
  match P.info? t, P.underlying t with
  | some it, some (.struct fields) => (match it.zero, fields.toList.mapM (fun f => (P.info? f.type).map fun i => (f.offset, i.size)) with
    | some z, some places => some (z.cells.toList, places)
    | _, _ => none)
  | _, _ => none
def layE (P : Program) (t : TypeId) : Option (List Value × Nat) :=
  match P.info? t, P.underlying t with
  | some it, some (.array _ e) => (match it.zero, P.info? e with
    | some z, some ie => some (z.cells.toList, ie.size)
    | _, _ => none)
  | _, _ => none
def buildA (P : Program) (t : TypeId) (parts : List (Nat × AV)) : Option AV :=
  match layP P t with
  | some (z, places) => (match fillA (places[·]?) (z.map .c) parts with | some l => some (.agg l) | none => none)
  | none => match layE P t with
    | some (z, size) => (match fillA (fun i => some (i * size, size)) (z.map .c) parts with | some l => some (.agg l) | none => none)
    | none => none
section
variable {P : Program} {n0 : Nat} {w : World} {B : List Nat} {η : List Value} {H : List Ent} {ρ : Operand → Value} {ρA : Operand → AV} {o : Oper}
theorem fold_put : ∀ (l : List Value) (s off : Nat) (cs : Array Value), off + s + l.length ≤ cs.size →
    ((l.zipIdx s).foldl (fun cs (x : Value × Nat) => cs.setIfInBounds (off + x.2) x.1) cs).toList = putL cs.toList (off + s) l
  | [], s, off, cs, h => by simp [putL]
  | x :: l, s, off, cs, h => by
    rw [List.zipIdx_cons, List.foldl_cons, fold_put l (s + 1) off _ (by simp at h ⊢; omega)]
    simp only [putL, Array.toList_setIfInBounds, List.length_cons]
    have hlt : off + s < cs.toList.length := by simp at h ⊢; omega
    rw [show off + (s + 1) = (off + s) + 1 by omega, List.take_add_one, List.getElem?_set_self hlt, List.take_set_of_le (Nat.le_refl _)]
    rw [List.drop_set_of_lt (by omega)]
    simp [Nat.add_assoc, Nat.add_comm 1]
theorem fill_ok {place : Nat → Option (Nat × Nat)} : ∀ (parts : List (Nat × AV)) (cparts : List (Nat × Value)) (cells l : List AV) (cs : Array Value), RelL w B η cells cs.toList → cparts.length = parts.length → (∀ (i : Nat) (p : Nat × AV), parts[i]? = some p → ∃ v, cparts[i]? = some (p.1, v) ∧ Rel w B η p.2 v) → fillA place cells parts = some l →
    ∃ cs', Instr.fill place cs cparts = some cs' ∧ RelL w B η l cs'.toList
  | [], cparts, cells, l, cs, hr, hlen, hp, h => by
    simp only [fillA, Option.some.injEq] at h; subst h
    have : cparts = [] := List.eq_nil_of_length_eq_zero hlen
    subst this
    exact ⟨cs, rfl, hr⟩
  | (i, x) :: rest, [], cells, l, cs, hr, hlen, hp, h => by simp at hlen
  | (i, x) :: rest, (j, v) :: crest, cells, l, cs, hr, hlen, hp, h => by
    obtain ⟨v', h1, h2⟩ := hp 0 (i, x) rfl
    simp only [List.getElem?_cons_zero, Option.some.injEq, Prod.mk.injEq] at h1
    obtain ⟨rfl, rfl⟩ := h1
    simp only [fillA] at h
    unfold Instr.fill
    split at h
    · cases h
    · rename_i off size hpl
      rw [hpl]
      split at h
      · rename_i hc
        have hx := h2.toL (fun l e => by have e' : x = .tup l := e; rw [e'] at hc; exact absurd hc.1 (by simp [notTup]))
        have hsz : v.cells.size = size := by rw [← hc.2.1, ← hx.1]; simp
        have hbd : off + v.cells.size ≤ cs.size := by have := hc.2.2; have e1 := hx.1; have e2 := hr.1; simp at e1 e2; omega
        simp only [hsz, ne_eq, not_true_eq_false, decide_false, Bool.false_or]
        rw [if_neg (by simp; omega)]
        have hfold : (v.cells.zipIdx.foldl (fun cs (x : Value × Nat) => cs.setIfInBounds (off + x.2) x.1) cs).toList = putL cs.toList off v.cells.toList := by
          have := fold_put v.cells.toList 0 off cs (by simpa using hbd)
          rw [← Array.foldl_toList, Array.toList_zipIdx]
          simpa using this
        exact fill_ok rest crest _ l _ (by
          have := hr.putL hx off
          rw [← hfold] at this
          exact this) (by simpa using hlen) (fun i p hip => hp (i + 1) p hip) h
      · cases h
theorem layP_spec {t : TypeId} {z : List Value} {places : List (Nat × Nat)} (h : layP P t = some (z, places)) (parts : List (Nat × Value)) : P.built t parts = Instr.fill (places[·]?) z.toArray parts := by
  unfold layP at h
  split at h
  · rename_i it fields hi hu
    split at h
    · rename_i z' places' hz hp
      injection h with h; injection h with h1 h2; subst h1 h2
      simp only [Program.built, hi, hu, hz, hp]
      simp
    · cases h
  · cases h
theorem layE_spec {t : TypeId} {z : List Value} {size : Nat} (h : layE P t = some (z, size)) (parts : List (Nat × Value)) : P.built t parts = Instr.fill (fun i => some (i * size, size)) z.toArray parts := by
  unfold layE at h
  split at h
  · rename_i it n e hi hu
    split at h
    · rename_i z' ie hz hp
      injection h with h; injection h with h1 h2; subst h1 h2
      simp only [Program.built, hi, hu, hz, hp]
    · cases h
  · cases h
theorem relL_c (l : List Value) : RelL w B η (l.map .c) l := ⟨by simp, fun i x hx => by
  rw [List.getElem?_map, Option.map_eq_some_iff] at hx
  obtain ⟨u, hu, rfl⟩ := hx
  exact ⟨u, hu, .c _ _⟩⟩
theorem RelL.toAgg {l : List AV} {us : List Value} (h : RelL w B η l us) : Rel w B η (.agg l) (.agg us.toArray) :=
  .agg _ _ _ (fun i => us.getD i undef) (by simp [h.1]) (fun i y hy => by obtain ⟨u, h1, h2⟩ := h.2 i y hy; simp [List.getD_eq_getElem?_getD, h1]) (fun i y hy => by obtain ⟨u, h1, h2⟩ := h.2 i y hy; simpa [List.getD_eq_getElem?_getD, h1] using h2)
def partsA (ρA : Operand → AV) (parts : Array (Nat × Operand)) : List (Nat × AV) := parts.toList.map fun p => (p.1, ρA p.2)
theorem parts_rel (he : ∀ x ∈ o.op.operands, Rel w B η (ρA x) (ρ x)) {parts : Array (Nat × Operand)} (hin : ∀ p ∈ parts.toList, p.2 ∈ o.op.operands) : (parts.map fun (i, x) => (i, ρ x)).toList.length = (partsA ρA parts).length ∧ ∀ (i : Nat) (p : Nat × AV), (partsA ρA parts)[i]? = some p → ∃ v, (parts.map fun (i, x) => (i, ρ x)).toList[i]? = some (p.1, v) ∧ Rel w B η p.2 v := by
  refine ⟨by simp [partsA], fun i p hp => ?_⟩
  unfold partsA at hp
  rw [List.getElem?_map, Option.map_eq_some_iff] at hp
  obtain ⟨q, hq, rfl⟩ := hp
  refine ⟨ρ q.2, ?_, he q.2 (hin q (List.mem_of_getElem? hq))⟩
  have : parts[i]? = some q := by simpa using hq
  simp [this]
theorem build_ok (he : ∀ x ∈ o.op.operands, Rel w B η (ρA x) (ρ x)) {t : TypeId} {parts : Array (Nat × Operand)} {r : AV} (ho : o.op = .build t parts) (h : buildA P t (partsA ρA parts) = some r) : OpOK P n0 w ρ o B η r := by
  obtain ⟨hl, hp⟩ := parts_rel he (parts := parts) (fun p hp => by rw [ho]; simp [Op.operands]; exact ⟨p.1, by simpa using hp⟩)
  have key : ∃ l cells, r = .agg l ∧ P.built t (parts.map fun (i, x) => (i, ρ x)).toList = some cells ∧ RelL w B η l cells.toList := by
    unfold buildA at h
    split at h
    · rename_i z places hlay
      split at h
      · rename_i l hfill
        injection h with h; subst h
        obtain ⟨cs, h1, h2⟩ := fill_ok (place := (places[·]?)) _ _ _ _ z.toArray (by simpa using relL_c z) hl hp hfill
        exact ⟨l, cs, rfl, by rw [layP_spec hlay]; exact h1, h2⟩
      · cases h
    · split at h
      · rename_i z size hlay
        split at h
        · rename_i l hfill
          injection h with h; subst h
          obtain ⟨cs, h1, h2⟩ := fill_ok (place := fun i => some (i * size, size)) _ _ _ _ z.toArray (by simpa using relL_c z) hl hp hfill
          exact ⟨l, cs, rfl, by rw [layE_spec hlay]; exact h1, h2⟩
        · cases h
      · cases h
  obtain ⟨l, cells, rfl, hb, hr⟩ := key
  exact .of_run (v := .agg cells) (by simp only [execOp, ho]; rw [Sem.run_bind, run_build w t _ cells hb]; rfl) hr.toAgg
end
end Go.Proofs.Ytpijcgohhjgdbaa
