/-
  Blocks get other numbers; a nil row becomes one of the call's own; states of a shape.
-/
import Derived.Test.YtpijcgohhjgdbaaK6
namespace Go.Proofs.Ytpijcgohhjgdbaa
set_option maxRecDepth 100000
open Go.RowKit
set_option linter.unusedVariables false
set_option linter.unusedSimpArgs false

/-! ### Other numbers -/
def posOf : List Nat → Nat → Option Nat
  | [], _ => none
  | x :: l, i => if x = i then some 0 else (match posOf l i with | some j => some (j + 1) | none => none)
theorem posOf_spec : ∀ (l : List Nat) (i j : Nat), posOf l i = some j → l[j]? = some i
  | [], _, _, h => by cases h
  | x :: l, i, j, h => by
    unfold posOf at h
    split at h
    · rename_i hx; injection h with h; subst h hx; rfl
    · split at h
      · rename_i j' hj; injection h with h; subst h; exact posOf_spec l i j' hj
      · cases h
/-- The part, by the new numbers. -/
def rnS (keep : List Nat) : V → Option V
  | .own i => (match posOf keep i with | some j => some (.own j) | none => none)
  | .box i o => (match posOf keep i with | some j => some (.box j o) | none => none)
  | .boxi i off d n j o => (match posOf keep i with | some i' => some (.boxi i' off d n j o) | none => none)
  | .oadr i d j o => (match posOf keep i with | some i' => some (.oadr i' d j o) | none => none)
  | .agg _ | .tup _ | .any | .clo _ _ | .bsl _ _ => none
  | x => some x
def rnL (keep : List Nat) : List V → Option (List V)
  | [] => some []
  | x :: l => match rnS keep x, rnL keep l with
    | some y, some m => some (y :: m)
    | _, _ => none
def rnV (keep : List Nat) (x : V) : V :=
  match x with
  | .agg l => (match rnL keep l with | some m => .agg m | none => .any)
  | .tup l => .any
  | .clo f l => (match rnL keep l with | some m => .clo f m | none => .any)
  | .any => .any
  | .bsl _ _ => .any
  | x => (match rnS keep x with | some y => y | none => .any)
def rnE (keep : List Nat) : E2 → E2
  | .box l t => (match rnL keep l with | some m => .box m t | none => .dead)
  | e => e
def renum (keep : List Nat) (st : S2) : S2 := ⟨st.slots.map (rnV keep), keep.map fun i => rnE keep (st.heap.getD i .dead)⟩
section
variable {n0 : Nat} {Bx : List Nat} {w : World} {B : List Nat} {η η' : List Value} {keep : List Nat}
theorem rnS_rel (hη : ∀ i j v, posOf keep i = some j → η[i]? = some v → η'[j]? = some v) {x y : V} (h : rnS keep x = some y) {v : Value} (hx : Rel w B η (ex x) v) : Rel w B η' (ex y) v := by
  cases x with
  | own i =>
    simp only [rnS] at h
    split at h
    · rename_i j hj
      injection h with h; subst h
      cases hx with
      | own _ _ a n c hid => exact .own _ _ _ _ _ (hη _ _ _ hj hid)
    · cases h
  | box i o =>
    simp only [rnS] at h
    split at h
    · rename_i j hj
      injection h with h; subst h
      cases hx with
      | box _ _ _ b hid => exact .box _ _ _ _ (hη _ _ _ hj hid)
    · cases h
  | boxi i off d n j o =>
    simp only [rnS] at h
    split at h
    · rename_i i' hj
      injection h with h; subst h
      simp only [ex, ex0] at hx ⊢
      cases hx with
      | box _ _ _ b hid => exact .box _ _ _ _ (hη _ _ _ hj hid)
    · cases h
  | oadr i d j o =>
    simp only [rnS] at h
    split at h
    · rename_i i' hj
      injection h with h; subst h
      simp only [ex, ex0] at hx ⊢
      cases hx with
      | oadr _ _ _ b o n c hid => exact .oadr _ _ _ _ _ _ _ (hη _ _ _ hj hid)
    · cases h
  | agg l => cases h
  | tup l => cases h
  | any => cases h
  | clo f l => cases h
  | bsl i n => cases h
  | c v => simp only [rnS, Option.some.injEq] at h; subst h; cases hx; exact .c _ _
  | str s => simp only [rnS, Option.some.injEq] at h; subst h; cases hx; exact .c _ _
  | arr d n a =>
    simp only [rnS, Option.some.injEq] at h; subst h
    refine hx.bare ?_
    simp only [ex, ex0, AV.imm]
    exact flat_imm d a.l
  | lst d l => simp only [rnS, Option.some.injEq] at h; subst h; exact hx.bare rfl
  | fre d l =>
    simp only [rnS, Option.some.injEq] at h; subst h
    cases hx with
    | fresh _ _ _ A n us hk hn h0 hm hA hr => exact .fresh _ _ _ A n us hk hn h0 hm hA hr
  | emp => simp only [rnS, Option.some.injEq] at h; subst h; exact hx.bare rfl
  | adr l => simp only [rnS, Option.some.injEq] at h; subst h; exact hx.bare rfl
theorem rnS_seg (hη : ∀ i j v, posOf keep i = some j → η[i]? = some v → η'[j]? = some v) {x y : V} (h : rnS keep x = some y) {us : List Value} (hx : RelL w B η (segA x) us) : RelL w B η' (segA y) us := by
  cases x with
  | own i =>
    obtain ⟨u, rfl, hu⟩ := RelL.one1 (x := .own i) hx
    have := rnS_rel (B := B) (w := w) hη h (x := .own i) hu
    simp only [rnS] at h
    split at h
    · injection h with h; subst h; exact RelL.of1 this
    · cases h
  | box i o =>
    obtain ⟨u, rfl, hu⟩ := RelL.one1 (x := .box i o) hx
    have := rnS_rel (B := B) (w := w) hη h (x := .box i o) hu
    simp only [rnS] at h
    split at h
    · injection h with h; subst h; exact RelL.of1 this
    · cases h
  | boxi i off d n j o =>
    simp only [rnS] at h
    split at h
    · injection h with h; subst h
      have : us = [] := List.eq_nil_of_length_eq_zero hx.1
      subst this; exact RelL.nil _ _ _
    · cases h
  | oadr i d j o =>
    simp only [rnS] at h
    split at h
    · injection h with h; subst h
      have : us = [] := List.eq_nil_of_length_eq_zero hx.1
      subst this; exact RelL.nil _ _ _
    · cases h
  | agg l => cases h
  | tup l => cases h
  | any => cases h
  | clo f l => cases h
  | bsl i n => cases h
  | c v => simp only [rnS, Option.some.injEq] at h; subst h; obtain ⟨u, rfl, hu⟩ := RelL.one1 hx; cases hu; exact RelL.of1 (.c _ _)
  | str s => simp only [rnS, Option.some.injEq] at h; subst h; obtain ⟨u, rfl, hu⟩ := RelL.one1 hx; cases hu; exact RelL.of1 (.c _ _)
  | arr d n a =>
    simp only [rnS, Option.some.injEq] at h; subst h
    exact ⟨hx.1, fun i x hi => by
      obtain ⟨u, h1, h2⟩ := hx.2 i x hi
      exact ⟨u, h1, h2.bare0 (List.all_eq_true.1 (flat_imm d a.l) x (List.mem_of_getElem? hi))⟩⟩
  | lst d l => simp only [rnS, Option.some.injEq] at h; subst h; obtain ⟨u, rfl, hu⟩ := RelL.one1 hx; exact RelL.of1 (hu.bare rfl)
  | fre d l => simp only [rnS, Option.some.injEq] at h; subst h; obtain ⟨u, rfl, hu⟩ := RelL.one1 hx; exact RelL.of1 (hu.bare rfl)
  | emp => simp only [rnS, Option.some.injEq] at h; subst h; obtain ⟨u, rfl, hu⟩ := RelL.one1 hx; exact RelL.of1 (hu.bare rfl)
  | adr l =>
    simp only [rnS, Option.some.injEq] at h; subst h
    have : us = [] := List.eq_nil_of_length_eq_zero hx.1
    subst this; exact RelL.nil _ _ _
theorem rnL_rel (hη : ∀ i j v, posOf keep i = some j → η[i]? = some v → η'[j]? = some v) : ∀ (l m : List V) (us : List Value), rnL keep l = some m → RelL w B η (segsA l) us → RelL w B η' (segsA m) us
  | [], m, us, h, hx => by
    simp only [rnL, Option.some.injEq] at h; subst h
    have : us = [] := List.eq_nil_of_length_eq_zero hx.1
    subst this; exact RelL.nil _ _ _
  | x :: l, m, us, h, hx => by
    unfold rnL at h
    split at h
    · rename_i y m' h1 h2
      injection h with h; subst h
      rw [segsA_cons] at hx ⊢
      obtain ⟨g1, g2⟩ := hx.split
      have := (rnS_seg hη h1 g1).append (rnL_rel hη l m' _ h2 g2)
      rwa [List.take_append_drop] at this
    · cases h
theorem rnL_len : ∀ (l m : List V), rnL keep l = some m → m.length = l.length ∧ ∀ (i : Nat) y, m[i]? = some y → ∃ x, l[i]? = some x ∧ rnS keep x = some y
  | [], m, h => by simp only [rnL, Option.some.injEq] at h; subst h; exact ⟨rfl, fun i y h => by simp at h⟩
  | x :: l, m, h => by
    unfold rnL at h
    split at h
    · rename_i y m' h1 h2
      injection h with h; subst h
      obtain ⟨g1, g2⟩ := rnL_len l m' h2
      refine ⟨by simp [g1], fun i z hz => ?_⟩
      cases i with
      | zero => simp at hz; subst hz; exact ⟨x, rfl, h1⟩
      | succ i => simpa using g2 i z (by simpa using hz)
    · cases h
theorem rnS_plain {x y : V} (h : rnS keep x = some y) : y.plain = true := by
  cases x <;> simp only [rnS] at h <;> first
    | (injection h with h; subst h; rfl)
    | (split at h <;> first | (injection h with h; subst h; rfl) | cases h)
    | cases h
theorem rnS_cap {x y : V} (h : rnS keep x = some y) (hc : x.cap = true) : y.cap = true := by
  cases x <;> simp only [rnS] at h <;> first
    | (injection h with h; subst h; exact hc)
    | (split at h <;> first | (injection h with h; subst h; rfl) | cases h)
    | cases h
theorem rnV_rel (hη : ∀ i j v, posOf keep i = some j → η[i]? = some v → η'[j]? = some v) {x : V} {v : Value} (hx : Rel2 w B η x v) : Rel2 w B η' (rnV keep x) v := by
  unfold rnV
  split
  · split
    · rename_i m hm
      obtain ⟨cs, rfl, hl⟩ := Rel.aggL hx
      exact (rnL_rel hη _ _ _ hm hl).toAgg
    · trivial
  · trivial
  · split
    · rename_i m hm
      obtain ⟨vs, h1, h2, h3⟩ := hx
      obtain ⟨g1, g2⟩ := rnL_len _ _ hm
      refine ⟨vs, h1, by rw [h2, g1], fun i c hc => ?_⟩
      obtain ⟨x, q1, q2⟩ := g2 i c hc
      obtain ⟨u, q3, q4, q5⟩ := h3 i x q1
      exact ⟨u, q3, rnS_cap q2 q4, rnS_rel hη q2 q5⟩
    · trivial
  · trivial
  · trivial
  · split
    · rename_i y hy
      refine Rel2.of (rnS_plain hy) (rnS_rel hη hy ?_)
      refine hx.get ?_
      cases x <;> first | rfl | cases hy
    · trivial
theorem exFresh {x : V} (h : isFresh (ex x) = true) : ∃ d l, x = .fre d l := by
  cases x <;> first | exact ⟨_, _, rfl⟩ | cases h
theorem renum_ok {ds : List Deferred} {st : S2} {a : Act} (h : SimK n0 Bx ds st a w B η) (hnd : keep.Nodup) : SimK n0 Bx ds (renum keep st) a w B (keep.map fun i => η.getD i undef) := by
  have hη : ∀ i j v, posOf keep i = some j → η[i]? = some v → (keep.map fun i => η.getD i undef)[j]? = some v := fun i j v hp hv => by
    rw [List.getElem?_map, posOf_spec _ _ _ hp, Option.map_some, List.getD_eq_getElem?_getD, hv, Option.getD_some]
  have key : ∀ (j : Nat) e, (((renum keep st).heap.map exE))[j]? = some e → ∃ i, keep[j]? = some i ∧ e = exE (rnE keep (st.heap.getD i .dead)) := fun j e he => by
    simp only [renum, List.map_map, List.getElem?_map, Option.map_eq_some_iff, Function.comp_apply] at he
    obtain ⟨i, hi, rfl⟩ := he
    exact ⟨i, hi, rfl⟩
  have live : ∀ i, (exE (rnE keep (st.heap.getD i .dead))).live = true → ∃ e, (st.heap.map exE)[i]? = some e ∧ e.live = true := fun i hl => by
    rw [List.getD_eq_getElem?_getD] at hl
    cases he : st.heap[i]? with
    | none => rw [he] at hl; cases hl
    | some e =>
      rw [he, Option.getD_some] at hl
      refine ⟨_, exH he, ?_⟩
      cases e with
      | dead => cases hl
      | box l t => rfl
      | own d l E => rfl
      | itr s p => rfl
  refine ⟨h.defers, ⟨by simp [renum], h.inv.base, h.inv.sub, h.inv.lt, fun j e he => ?_, fun i j ei ej hij hi hj hli hlj => ?_⟩, h.slots.map _ rfl (fun x v hx => rnV_rel hη hx) (fun x v hf => ?_)⟩
  · obtain ⟨i, hi, rfl⟩ := key j e he
    have hj : (keep.map fun i => η.getD i undef).getD j undef = η.getD i undef := by
      rw [List.getD_eq_getElem?_getD, List.getElem?_map, hi]; rfl
    cases hh : st.heap[i]? with
    | none =>
      have hd : st.heap.getD i .dead = .dead := by rw [List.getD_eq_getElem?_getD, hh]; rfl
      rw [hj, hd]
      trivial
    | some e0 =>
      have hold := h.inv.ent i _ (exH hh)
      have hd : st.heap.getD i .dead = e0 := by rw [List.getD_eq_getElem?_getD, hh]; rfl
      rw [hj, hd]
      cases e0 with
      | dead => trivial
      | box l t =>
        simp only [rnE]
        split
        · rename_i m hm
          obtain ⟨b, us, p1, p2, p3, p4, p5, p6⟩ := hold
          exact ⟨b, us, p1, p2, p3, p4, p5, rnL_rel hη _ _ _ hm p6⟩
        · trivial
      | own d l E =>
        obtain ⟨n, us, p1, p2, p3, p4⟩ := hold
        exact ⟨n, us, p1, ⟨p2.1, fun i x hi => by
          obtain ⟨u, q1, q2⟩ := p2.2 i x hi
          exact ⟨u, q1, q2.bare0 (List.all_eq_true.1 (flat_imm d l) x (List.mem_of_getElem? hi))⟩⟩, p3, p4⟩
      | itr s p => exact hold
  · obtain ⟨i', hi', rfl⟩ := key i ei hi
    obtain ⟨j', hj', rfl⟩ := key j ej hj
    obtain ⟨e1, q1, q2⟩ := live i' hli
    obtain ⟨e2, q3, q4⟩ := live j' hlj
    have hne : i' ≠ j' := fun hc => by
      subst hc
      obtain ⟨g1, g2⟩ := List.getElem?_eq_some_iff.1 hi'
      obtain ⟨g3, g4⟩ := List.getElem?_eq_some_iff.1 hj'
      exact hij ((List.getElem_inj hnd).1 (g2.trans g4.symm))
    have e3 : (keep.map fun i => η.getD i undef).getD i undef = η.getD i' undef := by rw [List.getD_eq_getElem?_getD, List.getElem?_map, hi']; rfl
    have e4 : (keep.map fun i => η.getD i undef).getD j undef = η.getD j' undef := by rw [List.getD_eq_getElem?_getD, List.getElem?_map, hj']; rfl
    rw [e3, e4]
    exact h.inv.sep i' j' _ _ hne q1 q3 q2 q4
  · intro hfr
    obtain ⟨d, l, hq⟩ := exFresh hfr
    have hx : x = .fre d l := by
      cases x with
      | agg l => simp only [rnV] at hq; split at hq <;> cases hq
      | clo f l => simp only [rnV] at hq; split at hq <;> cases hq
      | own i => simp only [rnV, rnS] at hq; cases hp : posOf keep i <;> simp only [hp] at hq <;> cases hq
      | box i o => simp only [rnV, rnS] at hq; cases hp : posOf keep i <;> simp only [hp] at hq <;> cases hq
      | boxi i off d n j o => simp only [rnV, rnS] at hq; cases hp : posOf keep i <;> simp only [hp] at hq <;> cases hq
      | oadr i d j o => simp only [rnV, rnS] at hq; cases hp : posOf keep i <;> simp only [hp] at hq <;> cases hq
      | fre d l => exact hq
      | _ => simp only [rnV, rnS] at hq; cases hq
    subst hx
    exact hf rfl
/-! ### A nil row, as one of the call's own -/
def ownize (P : Program) (st : S2) (s : Nat) (e : TypeId) : S2 :=
  match st.slots[s]?, tdOf P 12 e with
  | some (.c (.slice none 0 0)), some d => if 1 ≤ wd d then ⟨st.slots.set s (.own st.heap.length), st.heap ++ [.own d [] e]⟩ else st
  | _, _ => st
theorem ownize_ok {P : Program} {ds : List Deferred} {st : S2} {a : Act} (h : SimK n0 Bx ds st a w B η) (s : Nat) (e : TypeId) : ∃ η', SimK n0 Bx ds (ownize P st s e) a w B η' ∧ ∀ (id : Nat) v, η[id]? = some v → η'[id]? = some v := by
  unfold ownize
  split
  · rename_i d hs htd
    split
    · rename_i hw
      refine ⟨η ++ [.slice none 0 0], ⟨h.defers, ?_, ?_⟩, push_old η _⟩
      · refine ⟨by simp [h.inv.len], h.inv.base, h.inv.sub, h.inv.lt, fun i e' he => ?_, fun i j ei ej hij hi hj hli hlj b hb => ?_⟩
        · rw [List.map_append] at he
          rcases Nat.lt_or_ge i st.heap.length with hi | hi
          · rw [List.getElem?_append_left (by simpa using hi)] at he
            rw [getD_push_old (by rw [h.inv.len]; simpa using hi)]
            exact EntOK.keep (h.inv.ent i e' he) (On.refl B w) (fun _ h => .inl h) (fun _ h => h) (push_old η _) (fun _ _ _ => rfl)
          · rw [List.getElem?_append_right (by simpa using hi)] at he
            have hz : i = st.heap.length := by have := (List.getElem?_eq_some_iff.1 he).1; simp at this; omega
            subst hz
            simp at he; subst he
            have hl : η.length = st.heap.length := by simpa using h.inv.len
            rw [← hl, getD_push_new]
            exact ⟨0, [], OwnAt.nil w n0 e (wd d), RelL.nil _ _ _, hw, fun b hb => by cases hb⟩
        · rw [List.map_append] at hi hj
          have hl : η.length = st.heap.length := by simpa using h.inv.len
          have part : ∀ (i : Nat) (ei : Ent), (List.map exE st.heap ++ List.map exE [E2.own d [] e])[i]? = some ei → i < st.heap.length ∧ (st.heap.map exE)[i]? = some ei ∨ i = st.heap.length := fun i ei hi => by
            rcases Nat.lt_or_ge i st.heap.length with hlt | hge
            · rw [List.getElem?_append_left (by simpa using hlt)] at hi; exact .inl ⟨hlt, hi⟩
            · rw [List.getElem?_append_right (by simpa using hge)] at hi
              exact .inr (by have := (List.getElem?_eq_some_iff.1 hi).1; simp at this; omega)
          rcases part i ei hi with ⟨h1, h2⟩ | h1
          · rw [getD_push_old (by omega)] at hb
            rcases part j ej hj with ⟨h3, h4⟩ | h3
            · rw [getD_push_old (by omega)]
              exact h.inv.sep i j ei ej hij h2 h4 hli hlj b hb
            · subst h3; rw [← hl, getD_push_new]; intro hc; cases hc
          · subst h1; rw [← hl, getD_push_new] at hb; cases hb
      · have hv := h.slots.rel s
        rw [List.getD_eq_getElem?_getD, hs, Option.getD_some] at hv
        have hv : a.tmps.getD s undef = .slice none 0 0 := Rel.ofC hv
        have hl : η.length = st.heap.length := by simpa using h.inv.len
        have h1 := (h.slots.on (On.refl B w) (fun _ h => .inl h) (push_old η (.slice none 0 0))).put (r := .own st.heap.length) (v := .slice none 0 0) (.own _ _ _ _ _ (by rw [← hl, List.getElem?_append_right (Nat.le_refl _)]; simp)) (fun h => by cases h) s
        have h2 : a.tmps.setIfInBounds s (.slice none 0 0) = a.tmps := by
          have hlt : s < a.tmps.size := by rw [← h.slots.size]; exact (List.getElem?_eq_some_iff.1 hs).1
          rw [Array.getD_eq_getD_getElem?, Array.getElem?_eq_getElem hlt, Option.getD_some] at hv
          apply Array.ext (by simp)
          intro i hi1 hi2
          rw [Array.getElem_setIfInBounds]
          split
          · rename_i hsi; subst hsi; exact hv.symm
          · rfl
        rw [h2] at h1
        exact h1
    · exact ⟨η, h, fun _ _ h => h⟩
  · exact ⟨η, h, fun _ _ h => h⟩
/-! ### A row of the call's own that the one who called had already, under a number of its own -/
def moveOwn (m0 : Nat) (st : S2) (s : Nat) : S2 :=
  match st.slots[s]? with
  | some (.own i) => if i < m0 then (match st.heap[i]? with
    | some (.own d l E) => ⟨st.slots.set s (.own st.heap.length), st.heap.set i .dead ++ [.own d l E]⟩
    | _ => st) else st
  | _ => st
theorem moveOwn_ok {m0 : Nat} {ds : List Deferred} {st : S2} {a : Act} (h : SimK n0 Bx ds st a w B η) (s : Nat) : ∃ η', SimK n0 Bx ds (moveOwn m0 st s) a w B η' ∧ ∀ (id : Nat) v, η[id]? = some v → η'[id]? = some v := by
  unfold moveOwn
  split
  · rename_i k hs
    split
    · split
      · rename_i d l E hH
        have hl : η.length = st.heap.length := by simpa using h.inv.len
        have hk : k < st.heap.length := (List.getElem?_eq_some_iff.1 hH).1
        refine ⟨η ++ [η.getD k undef], ⟨h.defers, ?_, ?_⟩, push_old η _⟩
        · have part : ∀ (i : Nat) (ei : Ent), ((st.heap.set k .dead ++ [E2.own d l E]).map exE)[i]? = some ei → (i < st.heap.length ∧ i ≠ k ∧ (st.heap.map exE)[i]? = some ei) ∨ (i = k ∧ ei = .dead) ∨ (i = st.heap.length ∧ ei = exE (.own d l E)) := fun i ei hi => by
            rw [List.map_append] at hi
            rcases Nat.lt_or_ge i st.heap.length with hlt | hge
            · rw [List.getElem?_append_left (by simpa using hlt), List.map_set, List.getElem?_set] at hi
              split at hi
              · rename_i hik
                rw [if_pos (by simpa using hk)] at hi
                injection hi with hi
                exact .inr (.inl ⟨hik.symm, hi.symm⟩)
              · rename_i hik
                exact .inl ⟨hlt, fun hc => hik hc.symm, hi⟩
            · rw [List.getElem?_append_right (by simpa using hge)] at hi
              have hz : i = st.heap.length := by have := (List.getElem?_eq_some_iff.1 hi).1; simp at this; omega
              subst hz
              simp at hi
              exact .inr (.inr ⟨rfl, hi.symm⟩)
          refine ⟨by simp [h.inv.len], h.inv.base, h.inv.sub, h.inv.lt, fun i e' he => ?_, fun i j ei ej hij hi hj hli hlj b hb => ?_⟩
          · rcases part i e' he with ⟨h1, h2, h3⟩ | ⟨h1, rfl⟩ | ⟨rfl, rfl⟩
            · rw [getD_push_old (by omega)]
              exact EntOK.keep (h.inv.ent i e' h3) (On.refl B w) (fun _ h => .inl h) (fun _ h => h) (push_old η _) (fun _ _ _ => rfl)
            · trivial
            · rw [← hl, getD_push_new]
              exact EntOK.keep (h.inv.ent k _ (exH hH)) (On.refl B w) (fun _ h => .inl h) (fun _ h => h) (push_old η _) (fun _ _ _ => rfl)
          · rcases part i ei hi with ⟨h1, h2, h3⟩ | ⟨h1, rfl⟩ | ⟨h1, rfl⟩
            · rw [getD_push_old (by omega)] at hb
              rcases part j ej hj with ⟨g1, g2, g3⟩ | ⟨g1, rfl⟩ | ⟨g1, rfl⟩
              · rw [getD_push_old (by omega)]
                exact h.inv.sep i j ei ej hij h3 g3 hli hlj b hb
              · cases hlj
              · subst g1; rw [← hl, getD_push_new]
                exact h.inv.sep i k ei _ h2 h3 (exH hH) hli rfl b hb
            · cases hli
            · subst h1
              rw [← hl, getD_push_new] at hb
              rcases part j ej hj with ⟨g1, g2, g3⟩ | ⟨g1, rfl⟩ | ⟨g1, rfl⟩
              · rw [getD_push_old (by omega)]
                exact h.inv.sep k j _ ej (fun hc => g2 hc.symm) (exH hH) g3 rfl hlj b hb
              · cases hlj
              · exact absurd g1.symm hij
        · have hv := h.slots.rel s
          rw [List.getD_eq_getElem?_getD, hs, Option.getD_some] at hv
          have hv : Rel w B η (.own k) (a.tmps.getD s undef) := hv
          generalize hav : a.tmps.getD s undef = u0 at hv
          cases hv with
          | own _ _ a0 n c hid =>
            have hg : η.getD k undef = .slice a0 n c := by rw [List.getD_eq_getElem?_getD, hid]; rfl
            have h1 := (h.slots.on (On.refl B w) (fun _ h => .inl h) (push_old η (η.getD k undef))).put (r := .own st.heap.length) (v := .slice a0 n c) (.own _ _ _ _ _ (by rw [← hl, List.getElem?_append_right (Nat.le_refl _), hg]; simp)) (fun h => by cases h) s
            have h2 : a.tmps.setIfInBounds s (.slice a0 n c) = a.tmps := by
              have hlt : s < a.tmps.size := by rw [← h.slots.size]; exact (List.getElem?_eq_some_iff.1 hs).1
              have hav' : a.tmps.getD s undef = .slice a0 n c := hav
              rw [Array.getD_eq_getD_getElem?, Array.getElem?_eq_getElem hlt, Option.getD_some] at hav'
              apply Array.ext (by simp)
              intro i hi1 hi2
              rw [Array.getElem_setIfInBounds]
              split
              · rename_i hsi; subst hsi; exact hav'.symm
              · rfl
            rw [h2] at h1
            exact h1
      · exact ⟨η, h, fun _ _ h => h⟩
    · exact ⟨η, h, fun _ _ h => h⟩
  · exact ⟨η, h, fun _ _ h => h⟩
end
end Go.Proofs.Ytpijcgohhjgdbaa
