/-
  Slots; what is known may be put otherwise: rows of the call's own become plain ones, blocks get other numbers.
-/
import Derived.Test.YtpijcgohhjgdbaaK5
namespace Go.Proofs.Ytpijcgohhjgdbaa
set_option maxRecDepth 100000
open Go.RowKit
set_option linter.unusedVariables false
set_option linter.unusedSimpArgs false

structure S2 where
  slots : List V
  heap : List E2
  deriving Inhabited
structure SlotsK (n0 : Nat) (w : World) (B : List Nat) (η : List Value) (sl : List V) (tmps : Array Value) : Prop where
  size : sl.length = tmps.size
  rel : ∀ t, Rel2 w B η (sl.getD t .any) (tmps.getD t undef)
  fresh : ∀ t, FreshV n0 (ex (sl.getD t .any)) (tmps.getD t undef)
structure SimK (n0 : Nat) (Bx : List Nat) (ds : List Deferred) (st : S2) (a : Act) (w : World) (B : List Nat) (η : List Value) : Prop where
  defers : a.defers = ds
  inv : Inv n0 Bx w B η (st.heap.map exE)
  slots : SlotsK n0 w B η st.slots a.tmps
theorem getD_map {α β : Type} (f : α → β) (l : List α) (t : Nat) (d : α) : (l.map f).getD t (f d) = f (l.getD t d) := by
  simp only [List.getD_eq_getElem?_getD, List.getElem?_map]
  cases l[t]? <;> rfl
theorem SlotsK.map {n0 : Nat} {w : World} {B B' : List Nat} {η η' : List Value} {sl : List V} {tmps : Array Value} (h : SlotsK n0 w B η sl tmps) (f : V → V) (hf : f .any = .any) (hr : ∀ x v, Rel2 w B η x v → Rel2 w B' η' (f x) v) (hfr : ∀ x v, FreshV n0 (ex x) v → FreshV n0 (ex (f x)) v) : SlotsK n0 w B' η' (sl.map f) tmps :=
  ⟨by simp [h.size], fun t => by
    have := getD_map f sl t .any
    rw [hf] at this
    rw [this]; exact hr _ _ (h.rel t), fun t => by
    have := getD_map f sl t .any
    rw [hf] at this
    rw [this]; exact hfr _ _ (h.fresh t)⟩
theorem SlotsK.put {n0 : Nat} {w : World} {B : List Nat} {η : List Value} {sl : List V} {tmps : Array Value} {r : V} {v : Value} (h : SlotsK n0 w B η sl tmps) (hr : Rel2 w B η r v) (hf : FreshV n0 (ex r) v) (t : Nat) : SlotsK n0 w B η (sl.set t r) (tmps.setIfInBounds t v) := by
  have key : ∀ u, ((sl.set t r).getD u .any = r ∧ (tmps.setIfInBounds t v).getD u undef = v) ∨ ((sl.set t r).getD u .any = sl.getD u .any ∧ (tmps.setIfInBounds t v).getD u undef = tmps.getD u undef) := by
    intro u
    simp only [List.getD_eq_getElem?_getD, Array.getD_eq_getD_getElem?]
    rw [List.getElem?_set, Array.getElem?_setIfInBounds]
    by_cases htu : t = u
    · subst htu
      simp only [if_true]
      rw [h.size]
      by_cases hlt : t < tmps.size
      · simp [hlt]
      · right
        simp only [hlt, if_false]
        have e1 : sl[t]? = none := List.getElem?_eq_none (by rw [h.size]; exact Nat.le_of_not_lt hlt)
        have e2 : tmps[t]? = none := Array.getElem?_eq_none (Nat.le_of_not_lt hlt)
        rw [e1, e2]
        exact ⟨rfl, rfl⟩
    · simp [htu]
  refine ⟨by simp [h.size], fun u => ?_, fun u => ?_⟩
  · rcases key u with ⟨h1, h2⟩ | ⟨h1, h2⟩ <;> rw [h1, h2]
    · exact hr
    · exact h.rel u
  · rcases key u with ⟨h1, h2⟩ | ⟨h1, h2⟩ <;> rw [h1, h2]
    · exact hf
    · exact h.fresh u
theorem SlotsK.on {n0 : Nat} {w w' : World} {B B' : List Nat} {η η' : List Value} {sl : List V} {tmps : Array Value} (h : SlotsK n0 w B η sl tmps) (g : On B w w') (hB : ∀ b ∈ B', b ∈ B ∨ w.heap.size ≤ b) (he : ∀ (id : Nat) v, η[id]? = some v → η'[id]? = some v) : SlotsK n0 w' B' η' sl tmps :=
  ⟨h.size, fun t => (h.rel t).on g hB he, h.fresh⟩

/-! ### A row of the call's own, from now on a plain one -/
def fzS (id : Nat) (d : Td) (l : List (T d)) : V → V
  | .own i => if i = id then .lst d l else .own i
  | x => x
def hasOwn (id : Nat) : V → Bool
  | .own i => i == id
  | .oadr i _ _ _ => i == id
  | _ => false
def fzV (id : Nat) (d : Td) (l : List (T d)) (x : V) : V :=
  match x with
  | .own i => if i = id then .lst d l else .own i
  | .oadr i dd j o => if i = id then .any else .oadr i dd j o
  | .agg segs => .agg (segs.map (fzS id d l))
  | .tup segs => if segs.any (hasOwn id) then .any else .tup segs
  | .clo f caps => if caps.any (hasOwn id) then .any else .clo f caps
  | x => x
def fzE (id : Nat) (d : Td) (l : List (T d)) : E2 → E2
  | .box segs t => .box (segs.map (fzS id d l)) t
  | e => e
def freeze (st : S2) (id : Nat) : S2 :=
  match st.heap[id]? with
  | some (.own d l E) => ⟨st.slots.map (fzV id d l), (st.heap.set id .dead).map (fzE id d l)⟩
  | _ => st
section
variable {n0 : Nat} {Bx : List Nat} {w : World} {B : List Nat} {η : List Value}
theorem rel_subB {B' : List Nat} (hB : ∀ b ∈ B', b ∈ B) {x : AV} {v : Value} (h : Rel w B η x v) : Rel w B' η x v := h.on (On.refl B w) (fun b hb => .inl (hB b hb)) (fun _ _ h => h)
theorem relL_subB {B' : List Nat} (hB : ∀ b ∈ B', b ∈ B) {l : List AV} {us : List Value} (h : RelL w B η l us) : RelL w B' η l us := h.on (On.refl B w) (fun b hb => .inl (hB b hb)) (fun _ _ h => h)
theorem frozen_rel {H : List Ent} (inv : Inv n0 Bx w B η H) {id E k : Nat} {cs : List AV} (hH : H[id]? = some (.own cs E k)) (himm : cs.all AV.imm0 = true) {B' : List Nat} (hB : ∀ b ∈ B', b ∈ B) (hb : ∀ b, blkOf (η.getD id undef) = some b → b ∉ B') {v : Value} (hx : Rel w B η (.own id) v) {η' : List Value} : Rel w B' η' (.sl cs k) v := by
  cases hx with
  | own _ _ a n c hid =>
    have hent := inv.ent id _ hH
    have hg : η.getD id undef = .slice a n c := by simp [List.getD_eq_getElem?_getD, hid]
    rw [hg] at hent hb
    obtain ⟨n', us, h1, h2, h3, h4⟩ := hent
    have hlen : n' * k = cs.length := by rw [← h2.1]; exact h1.1.symm
    have hrel : ∀ i x, cs[i]? = some x → Rel w B' [] x (us.getD i undef) := fun i x hx => by
      obtain ⟨u, q1, q2⟩ := h2.2 i x hx
      rw [List.getD_eq_getElem?_getD, q1, Option.getD_some]
      exact rel_subB hB (q2.bare0 (List.all_eq_true.1 himm x (List.mem_of_getElem? hx)))
    obtain rfl := h1.len
    rcases h1.2 with ⟨hv, hn0⟩ | ⟨g, oo, cap, cur, hv, hbb, hgg, hnc, hcm, hsz, htk⟩
    · injection hv with e1 e2 e3
      subst e1 e3
      subst hn0
      exact .sl _ _ _ _ _ _ _ h3 hlen (Nat.le_refl _) (Nat.zero_le _) (fun h0 => absurd h0 (by omega)) hrel
    · injection hv with e1 e2 e3
      subst e1 e3
      refine .sl _ _ _ _ _ _ _ h3 hlen hnc hcm (fun h0 => ⟨_, rfl, rfl, (Array.getElem?_eq_some_iff.1 hgg).1, hb g rfl, fun i hi => ?_⟩) hrel
      have hi' : i < us.length := by rw [h2.1]; exact hi
      rw [Addr.add_mid, h1.cells i _ (List.getElem?_eq_getElem hi'), List.getD_eq_getElem?_getD, List.getElem?_eq_getElem hi', Option.getD_some]
theorem RelL.map2 {w' : World} {B' : List Nat} {η' : List Value} {f : V → V} (hf : ∀ s us, RelL w B η (segA s) us → RelL w' B' η' (segA (f s)) us) : ∀ (l : List V) (us : List Value), RelL w B η (segsA l) us → RelL w' B' η' (segsA (l.map f)) us
  | [], us, h => by
    have : us = [] := List.eq_nil_of_length_eq_zero h.1
    subst this; exact RelL.nil _ _ _
  | s :: l, us, h => by
    rw [segsA_cons] at h
    obtain ⟨h1, h2⟩ := h.split
    rw [List.map_cons, segsA_cons]
    have := (hf s _ h1).append (RelL.map2 hf l _ h2)
    rwa [List.take_append_drop] at this
theorem RelL.one1 {x : AV} {us : List Value} (h : RelL w B η [x] us) : ∃ u, us = [u] ∧ Rel w B η x u := by
  match us, h with
  | [], hu => have := hu.1; simp at this
  | [u], hu =>
    obtain ⟨u', h1, h2⟩ := hu.2 0 x rfl
    simp at h1; subst h1
    exact ⟨u, rfl, h2⟩
  | _ :: _ :: _, hu => have := hu.1; simp at this
theorem RelL.of1 {x : AV} {u : Value} (h : Rel w B η x u) : RelL w B η [x] [u] := RelL.cons h (RelL.nil _ _ _)
theorem freeze_ok2 {ds : List Deferred} {st : S2} {a : Act} (h : SimK n0 Bx ds st a w B η) (id : Nat) : ∃ B', (∀ b ∈ B', b ∈ B) ∧ SimK n0 Bx ds (freeze st id) a w B' η ∧ ∀ d l E, st.heap[id]? = some (.own d l E) → ∀ b, blkOf (η.getD id undef) = some b → b ∉ B' := by
  unfold freeze
  split
  · rename_i d l E hH
    have hid := exH hH
    have hent := h.inv.ent id _ hid
    obtain ⟨n', us, h1, h2, h3, h4⟩ := hent
    obtain ⟨B', hBd⟩ : ∃ B', B' = (match blkOf (η.getD id undef) with | some b => B.filter (· ≠ b) | none => B) := ⟨_, rfl⟩
    have hB : ∀ b ∈ B', b ∈ B := fun b hb => by
      subst hBd
      split at hb
      · exact (List.mem_filter.1 hb).1
      · exact hb
    have hnb : ∀ b, blkOf (η.getD id undef) = some b → b ∉ B' := fun b hb hc => by
      rw [hb] at hBd; subst hBd
      simp at hc
    have hin : ∀ b ∈ B, blkOf (η.getD id undef) ≠ some b → b ∈ B' := fun b hb hne => by
      subst hBd
      split
      · rename_i c hc; exact List.mem_filter.2 ⟨hb, by simp; intro h; subst h; exact hne hc⟩
      · exact hb
    have hown : ∀ b, blkOf (η.getD id undef) = some b → (η.getD id undef).ownBlock = some b := fun b hb => by
      rcases h1.2 with ⟨hv, _⟩ | ⟨g, oo, cap, cur, hv, _⟩
      · rw [hv] at hb; cases hb
      · rw [hv] at hb ⊢; exact hb
    have himm : (flat d l).all AV.imm0 = true := flat_imm d l
    have hseg : ∀ s us, RelL w B η (segA s) us → RelL w B' η (segA (fzS id d l s)) us := fun s us hs => by
      unfold fzS
      split
      · split
        · rename_i i hi
          subst hi
          obtain ⟨u, rfl, hu⟩ := RelL.one1 (x := .own i) hs
          exact RelL.of1 (frozen_rel h.inv hid himm hB hnb hu)
        · exact relL_subB hB hs
      · exact relL_subB hB hs
    refine ⟨B', hB, ⟨h.defers, ?_, ?_⟩, fun _ _ _ _ => hnb⟩
    · refine ⟨by simp [h.inv.len], ⟨h.inv.base.1, h.inv.base.2.on (On.refl B w) (fun b hb => .inl (hB b hb))⟩, fun x hx => ⟨hin x (h.inv.sub x hx).1 (fun hc => (h4 x (hown x hc)).2 hx), (h.inv.sub x hx).2⟩, fun b hb => h.inv.lt b (hB b hb), fun i e he => ?_, fun i j ei ej hij hi hj hli hlj => ?_⟩
      · simp only [List.map_map, List.getElem?_map, Option.map_eq_some_iff, Function.comp_apply] at he
        obtain ⟨e0, he0, rfl⟩ := he
        rw [List.getElem?_set] at he0
        split at he0
        · split at he0
          · injection he0 with he0; subst he0; trivial
          · cases he0
        · rename_i hne
          have hold := h.inv.ent i _ (exH he0)
          cases e0 with
          | dead => trivial
          | box segs t =>
            obtain ⟨b, us', p1, p2, p3, p4, p5, p6⟩ := hold
            refine ⟨b, us', p1, p2, hin b p3 (fun hc => ?_), p4, p5, RelL.map2 hseg _ _ p6⟩
            exact h.inv.sep id i _ _ hne hid (exH he0) rfl rfl b hc (by rw [p1]; rfl)
          | itr s2 q2 =>
            obtain ⟨b, p1, p2, p3, p4, p5⟩ := hold
            refine ⟨b, p1, p2, hin b p3 (fun hc => ?_), p4, p5⟩
            exact h.inv.sep id i _ _ hne hid (exH he0) rfl rfl b hc (by rw [p1]; rfl)
          | own d2 l2 E2' =>
            obtain ⟨n2, us', p1, p2, p3, p4⟩ := hold
            refine ⟨n2, us', p1, relL_subB hB p2, p3, fun b hb => ⟨hin b (p4 b hb).1 (fun hc => ?_), (p4 b hb).2⟩⟩
            refine h.inv.sep id i _ _ hne hid (exH he0) rfl rfl b hc ?_
            rcases p1.2 with ⟨hv, _⟩ | ⟨g, oo, cap, cur, hv, _⟩
            · rw [hv] at hb; cases hb
            · rw [hv] at hb ⊢; exact hb
      · have key : ∀ (i : Nat) (ei : Ent), (((st.heap.set id .dead).map (fzE id d l)).map exE)[i]? = some ei → ei.live = true → ∃ ei', (st.heap.map exE)[i]? = some ei' ∧ ei'.live = true := by
          intro i ei hi hli
          simp only [List.map_map, List.getElem?_map, Option.map_eq_some_iff, Function.comp_apply] at hi
          obtain ⟨e0, he0, rfl⟩ := hi
          rw [List.getElem?_set] at he0
          split at he0
          · split at he0
            · injection he0 with he0; subst he0; cases hli
            · cases he0
          · exact ⟨_, exH he0, by cases e0 <;> first | rfl | cases hli⟩
        obtain ⟨_, k1, k2⟩ := key i ei hi hli
        obtain ⟨_, k3, k4⟩ := key j ej hj hlj
        exact h.inv.sep i j _ _ hij k1 k3 k2 k4
    · refine h.slots.map _ rfl (fun x v hx => ?_) (fun x v hf => ?_)
      · have dflt : Rel2 w B' η x v := hx.on (On.refl B w) (fun b hb => .inl (hB b hb)) (fun _ _ h => h)
        unfold fzV
        split
        · split
          · rename_i i hi
            subst hi
            exact frozen_rel h.inv hid himm hB hnb hx
          · exact dflt
        · split
          · trivial
          · exact dflt
        · rename_i segs
          obtain ⟨cs, rfl, hl⟩ := Rel.aggL hx
          have := RelL.map2 hseg _ _ hl
          exact this.toAgg
        · split
          · trivial
          · exact dflt
        · split
          · trivial
          · exact dflt
        · exact dflt
      · intro hfr
        cases x <;> first
          | exact hf hfr
          | (simp only [fzV, ex, ex0, isFresh] at hfr; cases hfr; done)
          | (simp only [fzV] at hfr; split at hfr <;> (simp only [ex, ex0, isFresh] at hfr; cases hfr))
  · rename_i hne
    exact ⟨B, fun _ h => h, h, fun d l E hH => absurd hH (fun hh => hne d l E hh)⟩
theorem freeze_ok {ds : List Deferred} {st : S2} {a : Act} (h : SimK n0 Bx ds st a w B η) (id : Nat) : ∃ B', (∀ b ∈ B', b ∈ B) ∧ SimK n0 Bx ds (freeze st id) a w B' η := by
  obtain ⟨B', h1, h2, _⟩ := freeze_ok2 h id
  exact ⟨B', h1, h2⟩
/-! ### A box of the call's own, from now on nobody's -/
def fbV (id : Nat) (segs : List V) (x : V) : V :=
  match x with
  | .box i off => if i = id then (match dropV big segs off with | some r => .adr r | none => .any) else .box i off
  | x => x
def freezeB (st : S2) (id : Nat) : S2 :=
  match st.heap[id]? with
  | some (.box segs T) => if segs.all immV = true then ⟨st.slots.map (fbV id segs), st.heap.set id .dead⟩ else st
  | _ => st
theorem frozenB_rel {H : List Ent} (inv : Inv n0 Bx w B η H) {id T : Nat} {segs : List V} (hH : H[id]? = some (.box (segsA segs) T)) (himm : segs.all immV = true) {B' : List Nat} (hB : ∀ b ∈ B', b ∈ B) (hb : ∀ b, blkOf (η.getD id undef) = some b → b ∉ B') {off : Nat} {r : List V} (hr : dropV big segs off = some r) {v : Value} (hx : Rel w B η (.box id off) v) : Rel w B' η (.adr (segsA r)) v := by
  cases hx with
  | box _ _ _ b hid =>
    have hent := inv.ent id _ hH
    have hg : η.getD id undef = .pointer (some ⟨b, 0, none⟩) := by simp [List.getD_eq_getElem?_getD, hid]
    rw [hg] at hent hb
    obtain ⟨b', us, p1, p2, p3, p4, p5, p6⟩ := hent
    injection p1 with p1
    injection p1 with p1
    injection p1 with p1
    subst p1
    obtain ⟨h1, h2⟩ := dropV_ok _ _ _ _ hr
    have hl := p6.1
    have himm' : (segsA segs).all AV.imm0 = true := immV_ok segs himm
    refine .adr _ _ _ (fun i => us.getD (off + i) undef) ⟨rfl, (Array.getElem?_eq_some_iff.1 p5).1, hb b rfl, fun i hi => ?_⟩ (fun i x hi => ?_)
    · rw [h1, List.length_drop] at hi
      rw [Addr.add_mid, cell_of_row w b _ _ _ (0, 0) p5, List.getD_eq_getElem?_getD]
      have hlt : off + i < us.length := by omega
      simp [hlt]
    · rw [h1, List.getElem?_drop] at hi
      obtain ⟨u, q1, q2⟩ := p6.2 _ x hi
      rw [List.getD_eq_getElem?_getD, q1, Option.getD_some]
      exact rel_subB hB (q2.bare0 (List.all_eq_true.1 himm' x (List.mem_of_getElem? hi)))
theorem freezeB_ok {ds : List Deferred} {st : S2} {a : Act} (h : SimK n0 Bx ds st a w B η) (id : Nat) : ∃ B', (∀ b ∈ B', b ∈ B) ∧ SimK n0 Bx ds (freezeB st id) a w B' η := by
  unfold freezeB
  split
  · rename_i segs T hH
    split
    · rename_i himm
      have hid := exH hH
      have hent := h.inv.ent id _ hid
      obtain ⟨b0, us0, h1, h2, h3, h4, h5, h6⟩ := hent
      obtain ⟨B', hBd⟩ : ∃ B', B' = B.filter (· ≠ b0) := ⟨_, rfl⟩
      have hB : ∀ b ∈ B', b ∈ B := fun b hb => by subst hBd; exact (List.mem_filter.1 hb).1
      have hnb : ∀ b, blkOf (η.getD id undef) = some b → b ∉ B' := fun b hb hc => by
        rw [h1] at hb
        injection hb with hb
        have hb : b0 = b := hb
        subst hb hBd
        simp at hc
      have hin : ∀ b ∈ B, blkOf (η.getD id undef) ≠ some b → b ∈ B' := fun b hb hne => by
        subst hBd
        refine List.mem_filter.2 ⟨hb, ?_⟩
        simp
        intro h; subst h
        exact hne (by rw [h1]; rfl)
      refine ⟨B', hB, h.defers, ?_, ?_⟩
      · refine ⟨by simp [h.inv.len], ⟨h.inv.base.1, h.inv.base.2.on (On.refl B w) (fun b hb => .inl (hB b hb))⟩, fun x hx => ⟨hin x (h.inv.sub x hx).1 (fun hc => ?_), (h.inv.sub x hx).2⟩, fun b hb => h.inv.lt b (hB b hb), fun i e he => ?_, fun i j ei ej hij hi hj hli hlj => ?_⟩
        · rw [h1] at hc
          injection hc with hc
          have hc : b0 = x := hc
          exact h4 (hc ▸ hx)
        · rw [List.map_set, List.getElem?_set] at he
          split at he
          · split at he
            · injection he with he; subst he; trivial
            · cases he
          · rename_i hne
            have hold := h.inv.ent i e he
            rw [List.getElem?_map, Option.map_eq_some_iff] at he
            obtain ⟨e0, he0, rfl⟩ := he
            cases e0 with
            | dead => trivial
            | box segs t =>
              obtain ⟨b, us', p1, p2, p3, p4, p5, p6⟩ := hold
              refine ⟨b, us', p1, p2, hin b p3 (fun hc => ?_), p4, p5, relL_subB hB p6⟩
              exact h.inv.sep id i _ _ hne hid (exH he0) rfl rfl b hc (by rw [p1]; rfl)
            | itr s2 q2 =>
              obtain ⟨b, p1, p2, p3, p4, p5⟩ := hold
              refine ⟨b, p1, p2, hin b p3 (fun hc => ?_), p4, p5⟩
              exact h.inv.sep id i _ _ hne hid (exH he0) rfl rfl b hc (by rw [p1]; rfl)
            | own d2 l2 E2' =>
              obtain ⟨n2, us', p1, p2, p3, p4⟩ := hold
              refine ⟨n2, us', p1, relL_subB hB p2, p3, fun b hb => ⟨hin b (p4 b hb).1 (fun hc => ?_), (p4 b hb).2⟩⟩
              refine h.inv.sep id i _ _ hne hid (exH he0) rfl rfl b hc ?_
              rcases p1.2 with ⟨hv, _⟩ | ⟨g, oo, cap, cur, hv, _⟩
              · rw [hv] at hb; cases hb
              · rw [hv] at hb ⊢; exact hb
        · have key : ∀ (i : Nat) (ei : Ent), ((st.heap.set id .dead).map exE)[i]? = some ei → ei.live = true → (st.heap.map exE)[i]? = some ei := by
            intro i ei hi hli
            rw [List.map_set, List.getElem?_set] at hi
            split at hi
            · split at hi
              · injection hi with hi; subst hi; cases hli
              · cases hi
            · exact hi
          exact h.inv.sep i j _ _ hij (key i ei hi hli) (key j ej hj hlj) hli hlj
      · refine h.slots.map _ rfl (fun x v hx => ?_) (fun x v hf => ?_)
        · have dflt : Rel2 w B' η x v := hx.on (On.refl B w) (fun b hb => .inl (hB b hb)) (fun _ _ h => h)
          unfold fbV
          split
          · split
            · rename_i i off hi
              subst hi
              split
              · rename_i r hr
                exact frozenB_rel h.inv hid himm hB hnb hr hx
              · trivial
            · exact dflt
          · exact dflt
        · intro hfr
          unfold fbV at hfr
          split at hfr
          · split at hfr
            · split at hfr <;> (simp only [ex, ex0, isFresh] at hfr; cases hfr)
            · simp only [ex, ex0, isFresh] at hfr; cases hfr
          · exact hf hfr
    · exact ⟨B, fun _ h => h, h⟩
  · exact ⟨B, fun _ h => h, h⟩
end
end Go.Proofs.Ytpijcgohhjgdbaa
