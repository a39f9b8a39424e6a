/-
  Parts of my own, one behind the other: K6, K7, GlobV, K8, K8d, K8e, K9, KA.
-/
import Derived.Test.YtcmekgfglohooaaMrg2
/-
  Slots; what is known may be put otherwise: rows of the call's own become plain ones, blocks get other numbers.
-/
namespace Go.Proofs.Ytcmekgfglohooaa
set_option maxRecDepth 100000
open Go.RowKit
set_option linter.unusedVariables false
set_option linter.unusedSimpArgs false

structure S2 where
  slots : List V
  heap : List E2
  deriving Inhabited
structure SlotsK (n0 : Nat) (w : World) (B : List Nat) (η : List Value) (sl : List V) (tmps : Array Value) : Prop where
  size : sl.length = tmps.size
  rel : ∀ t, Rel2 w B η (sl.getD t .any) (tmps.getD t undef)
  fresh : ∀ t, FreshV n0 (ex (sl.getD t .any)) (tmps.getD t undef)
structure SimK (n0 : Nat) (Bx : List Nat) (ds : List Deferred) (st : S2) (a : Act) (w : World) (B : List Nat) (η : List Value) : Prop where
  defers : a.defers = ds
  inv : Inv n0 Bx w B η (st.heap.map exE)
  slots : SlotsK n0 w B η st.slots a.tmps
theorem getD_map {α β : Type} (f : α → β) (l : List α) (t : Nat) (d : α) : (l.map f).getD t (f d) = f (l.getD t d) := by
  simp only [List.getD_eq_getElem?_getD, List.getElem?_map]
  cases l[t]? <;> rfl
theorem SlotsK.map {n0 : Nat} {w : World} {B B' : List Nat} {η η' : List Value} {sl : List V} {tmps : Array Value} (h : SlotsK n0 w B η sl tmps) (f : V → V) (hf : f .any = .any) (hr : ∀ x v, Rel2 w B η x v → Rel2 w B' η' (f x) v) (hfr : ∀ x v, FreshV n0 (ex x) v → FreshV n0 (ex (f x)) v) : SlotsK n0 w B' η' (sl.map f) tmps :=
  ⟨by simp [h.size], fun t => by
    have := getD_map f sl t .any
    rw [hf] at this
    rw [this]; exact hr _ _ (h.rel t), fun t => by
    have := getD_map f sl t .any
    rw [hf] at this
    rw [this]; exact hfr _ _ (h.fresh t)⟩
theorem SlotsK.put {n0 : Nat} {w : World} {B : List Nat} {η : List Value} {sl : List V} {tmps : Array Value} {r : V} {v : Value} (h : SlotsK n0 w B η sl tmps) (hr : Rel2 w B η r v) (hf : FreshV n0 (ex r) v) (t : Nat) : SlotsK n0 w B η (sl.set t r) (tmps.setIfInBounds t v) := by
  have key : ∀ u, ((sl.set t r).getD u .any = r ∧ (tmps.setIfInBounds t v).getD u undef = v) ∨ ((sl.set t r).getD u .any = sl.getD u .any ∧ (tmps.setIfInBounds t v).getD u undef = tmps.getD u undef) := by
    intro u
    simp only [List.getD_eq_getElem?_getD, Array.getD_eq_getD_getElem?]
    rw [List.getElem?_set, Array.getElem?_setIfInBounds]
    by_cases htu : t = u
    · subst htu
      simp only [if_true]
      rw [h.size]
      by_cases hlt : t < tmps.size
      · simp [hlt]
      · right
        simp only [hlt, if_false]
        have e1 : sl[t]? = none := List.getElem?_eq_none (by rw [h.size]; exact Nat.le_of_not_lt hlt)
        have e2 : tmps[t]? = none := Array.getElem?_eq_none (Nat.le_of_not_lt hlt)
        rw [e1, e2]
        exact ⟨rfl, rfl⟩
    · simp [htu]
  refine ⟨by simp [h.size], fun u => ?_, fun u => ?_⟩
  · rcases key u with ⟨h1, h2⟩ | ⟨h1, h2⟩ <;> rw [h1, h2]
    · exact hr
    · exact h.rel u
  · rcases key u with ⟨h1, h2⟩ | ⟨h1, h2⟩ <;> rw [h1, h2]
    · exact hf
    · exact h.fresh u
theorem SlotsK.on {n0 : Nat} {w w' : World} {B B' : List Nat} {η η' : List Value} {sl : List V} {tmps : Array Value} (h : SlotsK n0 w B η sl tmps) (g : On B w w') (hB : ∀ b ∈ B', b ∈ B ∨ w.heap.size ≤ b) (he : ∀ (id : Nat) v, η[id]? = some v → η'[id]? = some v) : SlotsK n0 w' B' η' sl tmps :=
  ⟨h.size, fun t => (h.rel t).on g hB he, h.fresh⟩

/-! ### A row of the call's own, from now on a plain one -/
def fzS (id : Nat) (d : Td) (l : List (T d)) : V → V
  | .own i => if i = id then .lst d l else .own i
  | x => x
def hasOwn (id : Nat) : V → Bool
  | .own i => i == id
  | .oadr i _ _ _ => i == id
  | _ => false
def fzV (id : Nat) (d : Td) (l : List (T d)) (x : V) : V :=
  match x with
  | .own i => if i = id then .lst d l else .own i
  | .oadr i dd j o => if i = id then .any else .oadr i dd j o
  | .agg segs => .agg (segs.map (fzS id d l))
  | .tup segs => if segs.any (hasOwn id) then .any else .tup segs
  | .clo f caps => if caps.any (hasOwn id) then .any else .clo f caps
  | x => x
def fzE (id : Nat) (d : Td) (l : List (T d)) : E2 → E2
  | .box segs t => .box (segs.map (fzS id d l)) t
  | e => e
def freeze (st : S2) (id : Nat) : S2 :=
  match st.heap[id]? with
  | some (.own d l E) => ⟨st.slots.map (fzV id d l), (st.heap.set id .dead).map (fzE id d l)⟩
  | _ => st
section
variable {n0 : Nat} {Bx : List Nat} {w : World} {B : List Nat} {η : List Value}
theorem rel_subB {B' : List Nat} (hB : ∀ b ∈ B', b ∈ B) {x : AV} {v : Value} (h : Rel w B η x v) : Rel w B' η x v := h.on (On.refl B w) (fun b hb => .inl (hB b hb)) (fun _ _ h => h)
theorem relL_subB {B' : List Nat} (hB : ∀ b ∈ B', b ∈ B) {l : List AV} {us : List Value} (h : RelL w B η l us) : RelL w B' η l us := h.on (On.refl B w) (fun b hb => .inl (hB b hb)) (fun _ _ h => h)
theorem frozen_rel {H : List Ent} (inv : Inv n0 Bx w B η H) {id E k : Nat} {cs : List AV} (hH : H[id]? = some (.own cs E k)) (himm : cs.all AV.imm0 = true) {B' : List Nat} (hB : ∀ b ∈ B', b ∈ B) (hb : ∀ b, blkOf (η.getD id undef) = some b → b ∉ B') {v : Value} (hx : Rel w B η (.own id) v) {η' : List Value} : Rel w B' η' (.sl cs k) v := by
  cases hx with
  | own _ _ a n c hid =>
    have hent := inv.ent id _ hH
    have hg : η.getD id undef = .slice a n c := by simp [List.getD_eq_getElem?_getD, hid]
    rw [hg] at hent hb
    obtain ⟨n', us, h1, h2, h3, h4⟩ := hent
    have hlen : n' * k = cs.length := by rw [← h2.1]; exact h1.1.symm
    have hrel : ∀ i x, cs[i]? = some x → Rel w B' [] x (us.getD i undef) := fun i x hx => by
      obtain ⟨u, q1, q2⟩ := h2.2 i x hx
      rw [List.getD_eq_getElem?_getD, q1, Option.getD_some]
      exact rel_subB hB (q2.bare0 (List.all_eq_true.1 himm x (List.mem_of_getElem? hx)))
    obtain rfl := h1.len
    rcases h1.2 with ⟨hv, hn0⟩ | ⟨g, oo, cap, cur, hv, hbb, hgg, hnc, hcm, hsz, htk⟩
    · injection hv with e1 e2 e3
      subst e1 e3
      subst hn0
      exact .sl _ _ _ _ _ _ _ h3 hlen (Nat.le_refl _) (Nat.zero_le _) (fun h0 => absurd h0 (by omega)) hrel
    · injection hv with e1 e2 e3
      subst e1 e3
      refine .sl _ _ _ _ _ _ _ h3 hlen hnc hcm (fun h0 => ⟨_, rfl, rfl, (Array.getElem?_eq_some_iff.1 hgg).1, hb g rfl, fun i hi => ?_⟩) hrel
      have hi' : i < us.length := by rw [h2.1]; exact hi
      rw [Addr.add_mid, h1.cells i _ (List.getElem?_eq_getElem hi'), List.getD_eq_getElem?_getD, List.getElem?_eq_getElem hi', Option.getD_some]
theorem RelL.map2 {w' : World} {B' : List Nat} {η' : List Value} {f : V → V} (hf : ∀ s us, RelL w B η (segA s) us → RelL w' B' η' (segA (f s)) us) : ∀ (l : List V) (us : List Value), RelL w B η (segsA l) us → RelL w' B' η' (segsA (l.map f)) us
  | [], us, h => by
    have : us = [] := List.eq_nil_of_length_eq_zero h.1
    subst this; exact RelL.nil _ _ _
  | s :: l, us, h => by
    rw [segsA_cons] at h
    obtain ⟨h1, h2⟩ := h.split
    rw [List.map_cons, segsA_cons]
    have := (hf s _ h1).append (RelL.map2 hf l _ h2)
    rwa [List.take_append_drop] at this
theorem RelL.one1 {x : AV} {us : List Value} (h : RelL w B η [x] us) : ∃ u, us = [u] ∧ Rel w B η x u := by
  match us, h with
  | [], hu => have := hu.1; simp at this
  | [u], hu =>
    obtain ⟨u', h1, h2⟩ := hu.2 0 x rfl
    simp at h1; subst h1
    exact ⟨u, rfl, h2⟩
  | _ :: _ :: _, hu => have := hu.1; simp at this
theorem RelL.of1 {x : AV} {u : Value} (h : Rel w B η x u) : RelL w B η [x] [u] := RelL.cons h (RelL.nil _ _ _)
theorem freeze_ok2 {ds : List Deferred} {st : S2} {a : Act} (h : SimK n0 Bx ds st a w B η) (id : Nat) : ∃ B', (∀ b ∈ B', b ∈ B) ∧ SimK n0 Bx ds (freeze st id) a w B' η ∧ ∀ d l E, st.heap[id]? = some (.own d l E) → ∀ b, blkOf (η.getD id undef) = some b → b ∉ B' := by
  unfold freeze
  split
  · rename_i d l E hH
    have hid := exH hH
    have hent := h.inv.ent id _ hid
    obtain ⟨n', us, h1, h2, h3, h4⟩ := hent
    obtain ⟨B', hBd⟩ : ∃ B', B' = (match blkOf (η.getD id undef) with | some b => B.filter (· ≠ b) | none => B) := ⟨_, rfl⟩
    have hB : ∀ b ∈ B', b ∈ B := fun b hb => by
      subst hBd
      split at hb
      · exact (List.mem_filter.1 hb).1
      · exact hb
    have hnb : ∀ b, blkOf (η.getD id undef) = some b → b ∉ B' := fun b hb hc => by
      rw [hb] at hBd; subst hBd
      simp at hc
    have hin : ∀ b ∈ B, blkOf (η.getD id undef) ≠ some b → b ∈ B' := fun b hb hne => by
      subst hBd
      split
      · rename_i c hc; exact List.mem_filter.2 ⟨hb, by simp; intro h; subst h; exact hne hc⟩
      · exact hb
    have hown : ∀ b, blkOf (η.getD id undef) = some b → (η.getD id undef).ownBlock = some b := fun b hb => by
      rcases h1.2 with ⟨hv, _⟩ | ⟨g, oo, cap, cur, hv, _⟩
      · rw [hv] at hb; cases hb
      · rw [hv] at hb ⊢; exact hb
    have himm : (flat d l).all AV.imm0 = true := flat_imm d l
    have hseg : ∀ s us, RelL w B η (segA s) us → RelL w B' η (segA (fzS id d l s)) us := fun s us hs => by
      unfold fzS
      split
      · split
        · rename_i i hi
          subst hi
          obtain ⟨u, rfl, hu⟩ := RelL.one1 (x := .own i) hs
          exact RelL.of1 (frozen_rel h.inv hid himm hB hnb hu)
        · exact relL_subB hB hs
      · exact relL_subB hB hs
    refine ⟨B', hB, ⟨h.defers, ?_, ?_⟩, fun _ _ _ _ => hnb⟩
    · refine ⟨by simp [h.inv.len], ⟨h.inv.base.1, h.inv.base.2.on (On.refl B w) (fun b hb => .inl (hB b hb))⟩, fun x hx => ⟨hin x (h.inv.sub x hx).1 (fun hc => (h4 x (hown x hc)).2 hx), (h.inv.sub x hx).2⟩, fun b hb => h.inv.lt b (hB b hb), fun i e he => ?_, fun i j ei ej hij hi hj hli hlj => ?_⟩
      · simp only [List.map_map, List.getElem?_map, Option.map_eq_some_iff, Function.comp_apply] at he
        obtain ⟨e0, he0, rfl⟩ := he
        rw [List.getElem?_set] at he0
        split at he0
        · split at he0
          · injection he0 with he0; subst he0; trivial
          · cases he0
        · rename_i hne
          have hold := h.inv.ent i _ (exH he0)
          cases e0 with
          | dead => trivial
          | box segs t =>
            obtain ⟨b, us', p1, p2, p3, p4, p5, p6⟩ := hold
            refine ⟨b, us', p1, p2, hin b p3 (fun hc => ?_), p4, p5, RelL.map2 hseg _ _ p6⟩
            exact h.inv.sep id i _ _ hne hid (exH he0) rfl rfl b hc (by rw [p1]; rfl)
          | itr s2 q2 =>
            obtain ⟨b, p1, p2, p3, p4, p5⟩ := hold
            refine ⟨b, p1, p2, hin b p3 (fun hc => ?_), p4, p5⟩
            exact h.inv.sep id i _ _ hne hid (exH he0) rfl rfl b hc (by rw [p1]; rfl)
          | own d2 l2 E2' =>
            obtain ⟨n2, us', p1, p2, p3, p4⟩ := hold
            refine ⟨n2, us', p1, relL_subB hB p2, p3, fun b hb => ⟨hin b (p4 b hb).1 (fun hc => ?_), (p4 b hb).2⟩⟩
            refine h.inv.sep id i _ _ hne hid (exH he0) rfl rfl b hc ?_
            rcases p1.2 with ⟨hv, _⟩ | ⟨g, oo, cap, cur, hv, _⟩
            · rw [hv] at hb; cases hb
            · rw [hv] at hb ⊢; exact hb
      · have key : ∀ (i : Nat) (ei : Ent), (((st.heap.set id .dead).map (fzE id d l)).map exE)[i]? = some ei → ei.live = true → ∃ ei', (st.heap.map exE)[i]? = some ei' ∧ ei'.live = true := by
          intro i ei hi hli
          simp only [List.map_map, List.getElem?_map, Option.map_eq_some_iff, Function.comp_apply] at hi
          obtain ⟨e0, he0, rfl⟩ := hi
          rw [List.getElem?_set] at he0
          split at he0
          · split at he0
            · injection he0 with he0; subst he0; cases hli
            · cases he0
          · exact ⟨_, exH he0, by cases e0 <;> first | rfl | cases hli⟩
        obtain ⟨_, k1, k2⟩ := key i ei hi hli
        obtain ⟨_, k3, k4⟩ := key j ej hj hlj
        exact h.inv.sep i j _ _ hij k1 k3 k2 k4
    · refine h.slots.map _ rfl (fun x v hx => ?_) (fun x v hf => ?_)
      · have dflt : Rel2 w B' η x v := hx.on (On.refl B w) (fun b hb => .inl (hB b hb)) (fun _ _ h => h)
        unfold fzV
        split
        · split
          · rename_i i hi
            subst hi
            exact frozen_rel h.inv hid himm hB hnb hx
          · exact dflt
        · split
          · trivial
          · exact dflt
        · rename_i segs
          obtain ⟨cs, rfl, hl⟩ := Rel.aggL hx
          have := RelL.map2 hseg _ _ hl
          exact this.toAgg
        · split
          · trivial
          · exact dflt
        · split
          · trivial
          · exact dflt
        · exact dflt
      · intro hfr
        cases x <;> first
          | exact hf hfr
          | (simp only [fzV, ex, ex0, isFresh] at hfr; cases hfr; done)
          | (simp only [fzV] at hfr; split at hfr <;> (simp only [ex, ex0, isFresh] at hfr; cases hfr))
  · rename_i hne
    exact ⟨B, fun _ h => h, h, fun d l E hH => absurd hH (fun hh => hne d l E hh)⟩
theorem freeze_ok {ds : List Deferred} {st : S2} {a : Act} (h : SimK n0 Bx ds st a w B η) (id : Nat) : ∃ B', (∀ b ∈ B', b ∈ B) ∧ SimK n0 Bx ds (freeze st id) a w B' η := by
  obtain ⟨B', h1, h2, _⟩ := freeze_ok2 h id
  exact ⟨B', h1, h2⟩
/-! ### A box of the call's own, from now on nobody's -/
def fbV (id : Nat) (segs : List V) (x : V) : V :=
  match x with
  | .box i off => if i = id then (match dropV big segs off with | some r => .adr r | none => .any) else .box i off
  | x => x
def freezeB (st : S2) (id : Nat) : S2 :=
  match st.heap[id]? with
  | some (.box segs T) => if segs.all immV = true then ⟨st.slots.map (fbV id segs), st.heap.set id .dead⟩ else st
  | _ => st
theorem frozenB_rel {H : List Ent} (inv : Inv n0 Bx w B η H) {id T : Nat} {segs : List V} (hH : H[id]? = some (.box (segsA segs) T)) (himm : segs.all immV = true) {B' : List Nat} (hB : ∀ b ∈ B', b ∈ B) (hb : ∀ b, blkOf (η.getD id undef) = some b → b ∉ B') {off : Nat} {r : List V} (hr : dropV big segs off = some r) {v : Value} (hx : Rel w B η (.box id off) v) : Rel w B' η (.adr (segsA r)) v := by
  cases hx with
  | box _ _ _ b hid =>
    have hent := inv.ent id _ hH
    have hg : η.getD id undef = .pointer (some ⟨b, 0, none⟩) := by simp [List.getD_eq_getElem?_getD, hid]
    rw [hg] at hent hb
    obtain ⟨b', us, p1, p2, p3, p4, p5, p6⟩ := hent
    injection p1 with p1
    injection p1 with p1
    injection p1 with p1
    subst p1
    obtain ⟨h1, h2⟩ := dropV_ok _ _ _ _ hr
    have hl := p6.1
    have himm' : (segsA segs).all AV.imm0 = true := immV_ok segs himm
    refine .adr _ _ _ (fun i => us.getD (off + i) undef) ⟨rfl, (Array.getElem?_eq_some_iff.1 p5).1, hb b rfl, fun i hi => ?_⟩ (fun i x hi => ?_)
    · rw [h1, List.length_drop] at hi
      rw [Addr.add_mid, cell_of_row w b _ _ _ (0, 0) p5, List.getD_eq_getElem?_getD]
      have hlt : off + i < us.length := by omega
      simp [hlt]
    · rw [h1, List.getElem?_drop] at hi
      obtain ⟨u, q1, q2⟩ := p6.2 _ x hi
      rw [List.getD_eq_getElem?_getD, q1, Option.getD_some]
      exact rel_subB hB (q2.bare0 (List.all_eq_true.1 himm' x (List.mem_of_getElem? hi)))
theorem freezeB_ok {ds : List Deferred} {st : S2} {a : Act} (h : SimK n0 Bx ds st a w B η) (id : Nat) : ∃ B', (∀ b ∈ B', b ∈ B) ∧ SimK n0 Bx ds (freezeB st id) a w B' η := by
  unfold freezeB
  split
  · rename_i segs T hH
    split
    · rename_i himm
      have hid := exH hH
      have hent := h.inv.ent id _ hid
      obtain ⟨b0, us0, h1, h2, h3, h4, h5, h6⟩ := hent
      obtain ⟨B', hBd⟩ : ∃ B', B' = B.filter (· ≠ b0) := ⟨_, rfl⟩
      have hB : ∀ b ∈ B', b ∈ B := fun b hb => by subst hBd; exact (List.mem_filter.1 hb).1
      have hnb : ∀ b, blkOf (η.getD id undef) = some b → b ∉ B' := fun b hb hc => by
        rw [h1] at hb
        injection hb with hb
        have hb : b0 = b := hb
        subst hb hBd
        simp at hc
      have hin : ∀ b ∈ B, blkOf (η.getD id undef) ≠ some b → b ∈ B' := fun b hb hne => by
        subst hBd
        refine List.mem_filter.2 ⟨hb, ?_⟩
        simp
        intro h; subst h
        exact hne (by rw [h1]; rfl)
      refine ⟨B', hB, h.defers, ?_, ?_⟩
      · refine ⟨by simp [h.inv.len], ⟨h.inv.base.1, h.inv.base.2.on (On.refl B w) (fun b hb => .inl (hB b hb))⟩, fun x hx => ⟨hin x (h.inv.sub x hx).1 (fun hc => ?_), (h.inv.sub x hx).2⟩, fun b hb => h.inv.lt b (hB b hb), fun i e he => ?_, fun i j ei ej hij hi hj hli hlj => ?_⟩
        · rw [h1] at hc
          injection hc with hc
          have hc : b0 = x := hc
          exact h4 (hc ▸ hx)
        · rw [List.map_set, List.getElem?_set] at he
          split at he
          · split at he
            · injection he with he; subst he; trivial
            · cases he
          · rename_i hne
            have hold := h.inv.ent i e he
            rw [List.getElem?_map, Option.map_eq_some_iff] at he
            obtain ⟨e0, he0, rfl⟩ := he
            cases e0 with
            | dead => trivial
            | box segs t =>
              obtain ⟨b, us', p1, p2, p3, p4, p5, p6⟩ := hold
              refine ⟨b, us', p1, p2, hin b p3 (fun hc => ?_), p4, p5, relL_subB hB p6⟩
              exact h.inv.sep id i _ _ hne hid (exH he0) rfl rfl b hc (by rw [p1]; rfl)
            | itr s2 q2 =>
              obtain ⟨b, p1, p2, p3, p4, p5⟩ := hold
              refine ⟨b, p1, p2, hin b p3 (fun hc => ?_), p4, p5⟩
              exact h.inv.sep id i _ _ hne hid (exH he0) rfl rfl b hc (by rw [p1]; rfl)
            | own d2 l2 E2' =>
              obtain ⟨n2, us', p1, p2, p3, p4⟩ := hold
              refine ⟨n2, us', p1, relL_subB hB p2, p3, fun b hb => ⟨hin b (p4 b hb).1 (fun hc => ?_), (p4 b hb).2⟩⟩
              refine h.inv.sep id i _ _ hne hid (exH he0) rfl rfl b hc ?_
              rcases p1.2 with ⟨hv, _⟩ | ⟨g, oo, cap, cur, hv, _⟩
              · rw [hv] at hb; cases hb
              · rw [hv] at hb ⊢; exact hb
        · have key : ∀ (i : Nat) (ei : Ent), ((st.heap.set id .dead).map exE)[i]? = some ei → ei.live = true → (st.heap.map exE)[i]? = some ei := by
            intro i ei hi hli
            rw [List.map_set, List.getElem?_set] at hi
            split at hi
            · split at hi
              · injection hi with hi; subst hi; cases hli
              · cases hi
            · exact hi
          exact h.inv.sep i j _ _ hij (key i ei hi hli) (key j ej hj hlj) hli hlj
      · refine h.slots.map _ rfl (fun x v hx => ?_) (fun x v hf => ?_)
        · have dflt : Rel2 w B' η x v := hx.on (On.refl B w) (fun b hb => .inl (hB b hb)) (fun _ _ h => h)
          unfold fbV
          split
          · split
            · rename_i i off hi
              subst hi
              split
              · rename_i r hr
                exact frozenB_rel h.inv hid himm hB hnb hr hx
              · trivial
            · exact dflt
          · exact dflt
        · intro hfr
          unfold fbV at hfr
          split at hfr
          · split at hfr
            · split at hfr <;> (simp only [ex, ex0, isFresh] at hfr; cases hfr)
            · simp only [ex, ex0, isFresh] at hfr; cases hfr
          · exact hf hfr
    · exact ⟨B, fun _ h => h, h⟩
  · exact ⟨B, fun _ h => h, h⟩
end
end Go.Proofs.Ytcmekgfglohooaa
/-
  Blocks get other numbers; a nil row becomes one of the call's own; states of a shape.
-/
namespace Go.Proofs.Ytcmekgfglohooaa
set_option maxRecDepth 100000
open Go.RowKit
set_option linter.unusedVariables false
set_option linter.unusedSimpArgs false

/-! ### Other numbers -/
def posOf : List Nat → Nat → Option Nat
  | [], _ => none
  | x :: l, i => if x = i then some 0 else (match posOf l i with | some j => some (j + 1) | none => none)
theorem posOf_spec : ∀ (l : List Nat) (i j : Nat), posOf l i = some j → l[j]? = some i
  | [], _, _, h => by cases h
  | x :: l, i, j, h => by
    unfold posOf at h
    split at h
    · rename_i hx; injection h with h; subst h hx; rfl
    · split at h
      · rename_i j' hj; injection h with h; subst h; exact posOf_spec l i j' hj
      · cases h
/-- The part, by the new numbers. -/
def rnS (keep : List Nat) : V → Option V
  | .own i => (match posOf keep i with | some j => some (.own j) | none => none)
  | .box i o => (match posOf keep i with | some j => some (.box j o) | none => none)
  | .boxi i off d n j o => (match posOf keep i with | some i' => some (.boxi i' off d n j o) | none => none)
  | .oadr i d j o => (match posOf keep i with | some i' => some (.oadr i' d j o) | none => none)
  | .agg _ | .tup _ | .any | .clo _ _ | .bsl _ _ => none
  | x => some x
def rnL (keep : List Nat) : List V → Option (List V)
  | [] => some []
  | x :: l => match rnS keep x, rnL keep l with
    | some y, some m => some (y :: m)
    | _, _ => none
def rnV (keep : List Nat) (x : V) : V :=
  match x with
  | .agg l => (match rnL keep l with | some m => .agg m | none => .any)
  | .tup l => .any
  | .clo f l => (match rnL keep l with | some m => .clo f m | none => .any)
  | .any => .any
  | .bsl _ _ => .any
  | x => (match rnS keep x with | some y => y | none => .any)
def rnE (keep : List Nat) : E2 → E2
  | .box l t => (match rnL keep l with | some m => .box m t | none => .dead)
  | e => e
def renum (keep : List Nat) (st : S2) : S2 := ⟨st.slots.map (rnV keep), keep.map fun i => rnE keep (st.heap.getD i .dead)⟩
section
variable {n0 : Nat} {Bx : List Nat} {w : World} {B : List Nat} {η η' : List Value} {keep : List Nat}
theorem rnS_rel (hη : ∀ i j v, posOf keep i = some j → η[i]? = some v → η'[j]? = some v) {x y : V} (h : rnS keep x = some y) {v : Value} (hx : Rel w B η (ex x) v) : Rel w B η' (ex y) v := by
  cases x with
  | own i =>
    simp only [rnS] at h
    split at h
    · rename_i j hj
      injection h with h; subst h
      cases hx with
      | own _ _ a n c hid => exact .own _ _ _ _ _ (hη _ _ _ hj hid)
    · cases h
  | box i o =>
    simp only [rnS] at h
    split at h
    · rename_i j hj
      injection h with h; subst h
      cases hx with
      | box _ _ _ b hid => exact .box _ _ _ _ (hη _ _ _ hj hid)
    · cases h
  | boxi i off d n j o =>
    simp only [rnS] at h
    split at h
    · rename_i i' hj
      injection h with h; subst h
      simp only [ex, ex0] at hx ⊢
      cases hx with
      | box _ _ _ b hid => exact .box _ _ _ _ (hη _ _ _ hj hid)
    · cases h
  | oadr i d j o =>
    simp only [rnS] at h
    split at h
    · rename_i i' hj
      injection h with h; subst h
      simp only [ex, ex0] at hx ⊢
      cases hx with
      | oadr _ _ _ b o n c hid => exact .oadr _ _ _ _ _ _ _ (hη _ _ _ hj hid)
    · cases h
  | agg l => cases h
  | tup l => cases h
  | any => cases h
  | clo f l => cases h
  | bsl i n => cases h
  | c v => simp only [rnS, Option.some.injEq] at h; subst h; cases hx; exact .c _ _
  | str s => simp only [rnS, Option.some.injEq] at h; subst h; cases hx; exact .c _ _
  | arr d n a =>
    simp only [rnS, Option.some.injEq] at h; subst h
    refine hx.bare ?_
    simp only [ex, ex0, AV.imm]
    exact flat_imm d a.l
  | lst d l => simp only [rnS, Option.some.injEq] at h; subst h; exact hx.bare rfl
  | fre d l =>
    simp only [rnS, Option.some.injEq] at h; subst h
    cases hx with
    | fresh _ _ _ A n us hk hn h0 hm hA hr => exact .fresh _ _ _ A n us hk hn h0 hm hA hr
  | emp => simp only [rnS, Option.some.injEq] at h; subst h; exact hx.bare rfl
  | adr l => simp only [rnS, Option.some.injEq] at h; subst h; exact hx.bare rfl
theorem rnS_seg (hη : ∀ i j v, posOf keep i = some j → η[i]? = some v → η'[j]? = some v) {x y : V} (h : rnS keep x = some y) {us : List Value} (hx : RelL w B η (segA x) us) : RelL w B η' (segA y) us := by
  cases x with
  | own i =>
    obtain ⟨u, rfl, hu⟩ := RelL.one1 (x := .own i) hx
    have := rnS_rel (B := B) (w := w) hη h (x := .own i) hu
    simp only [rnS] at h
    split at h
    · injection h with h; subst h; exact RelL.of1 this
    · cases h
  | box i o =>
    obtain ⟨u, rfl, hu⟩ := RelL.one1 (x := .box i o) hx
    have := rnS_rel (B := B) (w := w) hη h (x := .box i o) hu
    simp only [rnS] at h
    split at h
    · injection h with h; subst h; exact RelL.of1 this
    · cases h
  | boxi i off d n j o =>
    simp only [rnS] at h
    split at h
    · injection h with h; subst h
      have : us = [] := List.eq_nil_of_length_eq_zero hx.1
      subst this; exact RelL.nil _ _ _
    · cases h
  | oadr i d j o =>
    simp only [rnS] at h
    split at h
    · injection h with h; subst h
      have : us = [] := List.eq_nil_of_length_eq_zero hx.1
      subst this; exact RelL.nil _ _ _
    · cases h
  | agg l => cases h
  | tup l => cases h
  | any => cases h
  | clo f l => cases h
  | bsl i n => cases h
  | c v => simp only [rnS, Option.some.injEq] at h; subst h; obtain ⟨u, rfl, hu⟩ := RelL.one1 hx; cases hu; exact RelL.of1 (.c _ _)
  | str s => simp only [rnS, Option.some.injEq] at h; subst h; obtain ⟨u, rfl, hu⟩ := RelL.one1 hx; cases hu; exact RelL.of1 (.c _ _)
  | arr d n a =>
    simp only [rnS, Option.some.injEq] at h; subst h
    exact ⟨hx.1, fun i x hi => by
      obtain ⟨u, h1, h2⟩ := hx.2 i x hi
      exact ⟨u, h1, h2.bare0 (List.all_eq_true.1 (flat_imm d a.l) x (List.mem_of_getElem? hi))⟩⟩
  | lst d l => simp only [rnS, Option.some.injEq] at h; subst h; obtain ⟨u, rfl, hu⟩ := RelL.one1 hx; exact RelL.of1 (hu.bare rfl)
  | fre d l => simp only [rnS, Option.some.injEq] at h; subst h; obtain ⟨u, rfl, hu⟩ := RelL.one1 hx; exact RelL.of1 (hu.bare rfl)
  | emp => simp only [rnS, Option.some.injEq] at h; subst h; obtain ⟨u, rfl, hu⟩ := RelL.one1 hx; exact RelL.of1 (hu.bare rfl)
  | adr l =>
    simp only [rnS, Option.some.injEq] at h; subst h
    have : us = [] := List.eq_nil_of_length_eq_zero hx.1
    subst this; exact RelL.nil _ _ _
theorem rnL_rel (hη : ∀ i j v, posOf keep i = some j → η[i]? = some v → η'[j]? = some v) : ∀ (l m : List V) (us : List Value), rnL keep l = some m → RelL w B η (segsA l) us → RelL w B η' (segsA m) us
  | [], m, us, h, hx => by
    simp only [rnL, Option.some.injEq] at h; subst h
    have : us = [] := List.eq_nil_of_length_eq_zero hx.1
    subst this; exact RelL.nil _ _ _
  | x :: l, m, us, h, hx => by
    unfold rnL at h
    split at h
    · rename_i y m' h1 h2
      injection h with h; subst h
      rw [segsA_cons] at hx ⊢
      obtain ⟨g1, g2⟩ := hx.split
      have := (rnS_seg hη h1 g1).append (rnL_rel hη l m' _ h2 g2)
      rwa [List.take_append_drop] at this
    · cases h
theorem rnL_len : ∀ (l m : List V), rnL keep l = some m → m.length = l.length ∧ ∀ (i : Nat) y, m[i]? = some y → ∃ x, l[i]? = some x ∧ rnS keep x = some y
  | [], m, h => by simp only [rnL, Option.some.injEq] at h; subst h; exact ⟨rfl, fun i y h => by simp at h⟩
  | x :: l, m, h => by
    unfold rnL at h
    split at h
    · rename_i y m' h1 h2
      injection h with h; subst h
      obtain ⟨g1, g2⟩ := rnL_len l m' h2
      refine ⟨by simp [g1], fun i z hz => ?_⟩
      cases i with
      | zero => simp at hz; subst hz; exact ⟨x, rfl, h1⟩
      | succ i => simpa using g2 i z (by simpa using hz)
    · cases h
theorem rnS_plain {x y : V} (h : rnS keep x = some y) : y.plain = true := by
  cases x <;> simp only [rnS] at h <;> first
    | (injection h with h; subst h; rfl)
    | (split at h <;> first | (injection h with h; subst h; rfl) | cases h)
    | cases h
theorem rnS_cap {x y : V} (h : rnS keep x = some y) (hc : x.cap = true) : y.cap = true := by
  cases x <;> simp only [rnS] at h <;> first
    | (injection h with h; subst h; exact hc)
    | (split at h <;> first | (injection h with h; subst h; rfl) | cases h)
    | cases h
theorem rnV_rel (hη : ∀ i j v, posOf keep i = some j → η[i]? = some v → η'[j]? = some v) {x : V} {v : Value} (hx : Rel2 w B η x v) : Rel2 w B η' (rnV keep x) v := by
  unfold rnV
  split
  · split
    · rename_i m hm
      obtain ⟨cs, rfl, hl⟩ := Rel.aggL hx
      exact (rnL_rel hη _ _ _ hm hl).toAgg
    · trivial
  · trivial
  · split
    · rename_i m hm
      obtain ⟨vs, h1, h2, h3⟩ := hx
      obtain ⟨g1, g2⟩ := rnL_len _ _ hm
      refine ⟨vs, h1, by rw [h2, g1], fun i c hc => ?_⟩
      obtain ⟨x, q1, q2⟩ := g2 i c hc
      obtain ⟨u, q3, q4, q5⟩ := h3 i x q1
      exact ⟨u, q3, rnS_cap q2 q4, rnS_rel hη q2 q5⟩
    · trivial
  · trivial
  · trivial
  · split
    · rename_i y hy
      refine Rel2.of (rnS_plain hy) (rnS_rel hη hy ?_)
      refine hx.get ?_
      cases x <;> first | rfl | cases hy
    · trivial
theorem exFresh {x : V} (h : isFresh (ex x) = true) : ∃ d l, x = .fre d l := by
  cases x <;> first | exact ⟨_, _, rfl⟩ | cases h
theorem renum_ok {ds : List Deferred} {st : S2} {a : Act} (h : SimK n0 Bx ds st a w B η) (hnd : keep.Nodup) : SimK n0 Bx ds (renum keep st) a w B (keep.map fun i => η.getD i undef) := by
  have hη : ∀ i j v, posOf keep i = some j → η[i]? = some v → (keep.map fun i => η.getD i undef)[j]? = some v := fun i j v hp hv => by
    rw [List.getElem?_map, posOf_spec _ _ _ hp, Option.map_some, List.getD_eq_getElem?_getD, hv, Option.getD_some]
  have key : ∀ (j : Nat) e, (((renum keep st).heap.map exE))[j]? = some e → ∃ i, keep[j]? = some i ∧ e = exE (rnE keep (st.heap.getD i .dead)) := fun j e he => by
    simp only [renum, List.map_map, List.getElem?_map, Option.map_eq_some_iff, Function.comp_apply] at he
    obtain ⟨i, hi, rfl⟩ := he
    exact ⟨i, hi, rfl⟩
  have live : ∀ i, (exE (rnE keep (st.heap.getD i .dead))).live = true → ∃ e, (st.heap.map exE)[i]? = some e ∧ e.live = true := fun i hl => by
    rw [List.getD_eq_getElem?_getD] at hl
    cases he : st.heap[i]? with
    | none => rw [he] at hl; cases hl
    | some e =>
      rw [he, Option.getD_some] at hl
      refine ⟨_, exH he, ?_⟩
      cases e with
      | dead => cases hl
      | box l t => rfl
      | own d l E => rfl
      | itr s p => rfl
  refine ⟨h.defers, ⟨by simp [renum], h.inv.base, h.inv.sub, h.inv.lt, fun j e he => ?_, fun i j ei ej hij hi hj hli hlj => ?_⟩, h.slots.map _ rfl (fun x v hx => rnV_rel hη hx) (fun x v hf => ?_)⟩
  · obtain ⟨i, hi, rfl⟩ := key j e he
    have hj : (keep.map fun i => η.getD i undef).getD j undef = η.getD i undef := by
      rw [List.getD_eq_getElem?_getD, List.getElem?_map, hi]; rfl
    cases hh : st.heap[i]? with
    | none =>
      have hd : st.heap.getD i .dead = .dead := by rw [List.getD_eq_getElem?_getD, hh]; rfl
      rw [hj, hd]
      trivial
    | some e0 =>
      have hold := h.inv.ent i _ (exH hh)
      have hd : st.heap.getD i .dead = e0 := by rw [List.getD_eq_getElem?_getD, hh]; rfl
      rw [hj, hd]
      cases e0 with
      | dead => trivial
      | box l t =>
        simp only [rnE]
        split
        · rename_i m hm
          obtain ⟨b, us, p1, p2, p3, p4, p5, p6⟩ := hold
          exact ⟨b, us, p1, p2, p3, p4, p5, rnL_rel hη _ _ _ hm p6⟩
        · trivial
      | own d l E =>
        obtain ⟨n, us, p1, p2, p3, p4⟩ := hold
        exact ⟨n, us, p1, ⟨p2.1, fun i x hi => by
          obtain ⟨u, q1, q2⟩ := p2.2 i x hi
          exact ⟨u, q1, q2.bare0 (List.all_eq_true.1 (flat_imm d l) x (List.mem_of_getElem? hi))⟩⟩, p3, p4⟩
      | itr s p => exact hold
  · obtain ⟨i', hi', rfl⟩ := key i ei hi
    obtain ⟨j', hj', rfl⟩ := key j ej hj
    obtain ⟨e1, q1, q2⟩ := live i' hli
    obtain ⟨e2, q3, q4⟩ := live j' hlj
    have hne : i' ≠ j' := fun hc => by
      subst hc
      obtain ⟨g1, g2⟩ := List.getElem?_eq_some_iff.1 hi'
      obtain ⟨g3, g4⟩ := List.getElem?_eq_some_iff.1 hj'
      exact hij ((List.getElem_inj hnd).1 (g2.trans g4.symm))
    have e3 : (keep.map fun i => η.getD i undef).getD i undef = η.getD i' undef := by rw [List.getD_eq_getElem?_getD, List.getElem?_map, hi']; rfl
    have e4 : (keep.map fun i => η.getD i undef).getD j undef = η.getD j' undef := by rw [List.getD_eq_getElem?_getD, List.getElem?_map, hj']; rfl
    rw [e3, e4]
    exact h.inv.sep i' j' _ _ hne q1 q3 q2 q4
  · intro hfr
    obtain ⟨d, l, hq⟩ := exFresh hfr
    have hx : x = .fre d l := by
      cases x with
      | agg l => simp only [rnV] at hq; split at hq <;> cases hq
      | clo f l => simp only [rnV] at hq; split at hq <;> cases hq
      | own i => simp only [rnV, rnS] at hq; cases hp : posOf keep i <;> simp only [hp] at hq <;> cases hq
      | box i o => simp only [rnV, rnS] at hq; cases hp : posOf keep i <;> simp only [hp] at hq <;> cases hq
      | boxi i off d n j o => simp only [rnV, rnS] at hq; cases hp : posOf keep i <;> simp only [hp] at hq <;> cases hq
      | oadr i d j o => simp only [rnV, rnS] at hq; cases hp : posOf keep i <;> simp only [hp] at hq <;> cases hq
      | fre d l => exact hq
      | _ => simp only [rnV, rnS] at hq; cases hq
    subst hx
    exact hf rfl
/-! ### A nil row, as one of the call's own -/
def ownize (P : Program) (st : S2) (s : Nat) (e : TypeId) : S2 :=
  match st.slots[s]?, tdOf P 12 e with
  | some (.c (.slice none 0 0)), some d => if 1 ≤ wd d then ⟨st.slots.set s (.own st.heap.length), st.heap ++ [.own d [] e]⟩ else st
  | _, _ => st
theorem ownize_ok {P : Program} {ds : List Deferred} {st : S2} {a : Act} (h : SimK n0 Bx ds st a w B η) (s : Nat) (e : TypeId) : ∃ η', SimK n0 Bx ds (ownize P st s e) a w B η' ∧ ∀ (id : Nat) v, η[id]? = some v → η'[id]? = some v := by
  unfold ownize
  split
  · rename_i d hs htd
    split
    · rename_i hw
      refine ⟨η ++ [.slice none 0 0], ⟨h.defers, ?_, ?_⟩, push_old η _⟩
      · refine ⟨by simp [h.inv.len], h.inv.base, h.inv.sub, h.inv.lt, fun i e' he => ?_, fun i j ei ej hij hi hj hli hlj b hb => ?_⟩
        · rw [List.map_append] at he
          rcases Nat.lt_or_ge i st.heap.length with hi | hi
          · rw [List.getElem?_append_left (by simpa using hi)] at he
            rw [getD_push_old (by rw [h.inv.len]; simpa using hi)]
            exact EntOK.keep (h.inv.ent i e' he) (On.refl B w) (fun _ h => .inl h) (fun _ h => h) (push_old η _) (fun _ _ _ => rfl)
          · rw [List.getElem?_append_right (by simpa using hi)] at he
            have hz : i = st.heap.length := by have := (List.getElem?_eq_some_iff.1 he).1; simp at this; omega
            subst hz
            simp at he; subst he
            have hl : η.length = st.heap.length := by simpa using h.inv.len
            rw [← hl, getD_push_new]
            exact ⟨0, [], OwnAt.nil w n0 e (wd d), RelL.nil _ _ _, hw, fun b hb => by cases hb⟩
        · rw [List.map_append] at hi hj
          have hl : η.length = st.heap.length := by simpa using h.inv.len
          have part : ∀ (i : Nat) (ei : Ent), (List.map exE st.heap ++ List.map exE [E2.own d [] e])[i]? = some ei → i < st.heap.length ∧ (st.heap.map exE)[i]? = some ei ∨ i = st.heap.length := fun i ei hi => by
            rcases Nat.lt_or_ge i st.heap.length with hlt | hge
            · rw [List.getElem?_append_left (by simpa using hlt)] at hi; exact .inl ⟨hlt, hi⟩
            · rw [List.getElem?_append_right (by simpa using hge)] at hi
              exact .inr (by have := (List.getElem?_eq_some_iff.1 hi).1; simp at this; omega)
          rcases part i ei hi with ⟨h1, h2⟩ | h1
          · rw [getD_push_old (by omega)] at hb
            rcases part j ej hj with ⟨h3, h4⟩ | h3
            · rw [getD_push_old (by omega)]
              exact h.inv.sep i j ei ej hij h2 h4 hli hlj b hb
            · subst h3; rw [← hl, getD_push_new]; intro hc; cases hc
          · subst h1; rw [← hl, getD_push_new] at hb; cases hb
      · have hv := h.slots.rel s
        rw [List.getD_eq_getElem?_getD, hs, Option.getD_some] at hv
        have hv : a.tmps.getD s undef = .slice none 0 0 := Rel.ofC hv
        have hl : η.length = st.heap.length := by simpa using h.inv.len
        have h1 := (h.slots.on (On.refl B w) (fun _ h => .inl h) (push_old η (.slice none 0 0))).put (r := .own st.heap.length) (v := .slice none 0 0) (.own _ _ _ _ _ (by rw [← hl, List.getElem?_append_right (Nat.le_refl _)]; simp)) (fun h => by cases h) s
        have h2 : a.tmps.setIfInBounds s (.slice none 0 0) = a.tmps := by
          have hlt : s < a.tmps.size := by rw [← h.slots.size]; exact (List.getElem?_eq_some_iff.1 hs).1
          rw [Array.getD_eq_getD_getElem?, Array.getElem?_eq_getElem hlt, Option.getD_some] at hv
          apply Array.ext (by simp)
          intro i hi1 hi2
          rw [Array.getElem_setIfInBounds]
          split
          · rename_i hsi; subst hsi; exact hv.symm
          · rfl
        rw [h2] at h1
        exact h1
    · exact ⟨η, h, fun _ _ h => h⟩
  · exact ⟨η, h, fun _ _ h => h⟩
/-! ### A row of the call's own that the one who called had already, under a number of its own -/
def moveOwn (m0 : Nat) (st : S2) (s : Nat) : S2 :=
  match st.slots[s]? with
  | some (.own i) => if i < m0 then (match st.heap[i]? with
    | some (.own d l E) => ⟨st.slots.set s (.own st.heap.length), st.heap.set i .dead ++ [.own d l E]⟩
    | _ => st) else st
  | _ => st
theorem moveOwn_ok {m0 : Nat} {ds : List Deferred} {st : S2} {a : Act} (h : SimK n0 Bx ds st a w B η) (s : Nat) : ∃ η', SimK n0 Bx ds (moveOwn m0 st s) a w B η' ∧ ∀ (id : Nat) v, η[id]? = some v → η'[id]? = some v := by
  unfold moveOwn
  split
  · rename_i k hs
    split
    · split
      · rename_i d l E hH
        have hl : η.length = st.heap.length := by simpa using h.inv.len
        have hk : k < st.heap.length := (List.getElem?_eq_some_iff.1 hH).1
        refine ⟨η ++ [η.getD k undef], ⟨h.defers, ?_, ?_⟩, push_old η _⟩
        · have part : ∀ (i : Nat) (ei : Ent), ((st.heap.set k .dead ++ [E2.own d l E]).map exE)[i]? = some ei → (i < st.heap.length ∧ i ≠ k ∧ (st.heap.map exE)[i]? = some ei) ∨ (i = k ∧ ei = .dead) ∨ (i = st.heap.length ∧ ei = exE (.own d l E)) := fun i ei hi => by
            rw [List.map_append] at hi
            rcases Nat.lt_or_ge i st.heap.length with hlt | hge
            · rw [List.getElem?_append_left (by simpa using hlt), List.map_set, List.getElem?_set] at hi
              split at hi
              · rename_i hik
                rw [if_pos (by simpa using hk)] at hi
                injection hi with hi
                exact .inr (.inl ⟨hik.symm, hi.symm⟩)
              · rename_i hik
                exact .inl ⟨hlt, fun hc => hik hc.symm, hi⟩
            · rw [List.getElem?_append_right (by simpa using hge)] at hi
              have hz : i = st.heap.length := by have := (List.getElem?_eq_some_iff.1 hi).1; simp at this; omega
              subst hz
              simp at hi
              exact .inr (.inr ⟨rfl, hi.symm⟩)
          refine ⟨by simp [h.inv.len], h.inv.base, h.inv.sub, h.inv.lt, fun i e' he => ?_, fun i j ei ej hij hi hj hli hlj b hb => ?_⟩
          · rcases part i e' he with ⟨h1, h2, h3⟩ | ⟨h1, rfl⟩ | ⟨rfl, rfl⟩
            · rw [getD_push_old (by omega)]
              exact EntOK.keep (h.inv.ent i e' h3) (On.refl B w) (fun _ h => .inl h) (fun _ h => h) (push_old η _) (fun _ _ _ => rfl)
            · trivial
            · rw [← hl, getD_push_new]
              exact EntOK.keep (h.inv.ent k _ (exH hH)) (On.refl B w) (fun _ h => .inl h) (fun _ h => h) (push_old η _) (fun _ _ _ => rfl)
          · rcases part i ei hi with ⟨h1, h2, h3⟩ | ⟨h1, rfl⟩ | ⟨h1, rfl⟩
            · rw [getD_push_old (by omega)] at hb
              rcases part j ej hj with ⟨g1, g2, g3⟩ | ⟨g1, rfl⟩ | ⟨g1, rfl⟩
              · rw [getD_push_old (by omega)]
                exact h.inv.sep i j ei ej hij h3 g3 hli hlj b hb
              · cases hlj
              · subst g1; rw [← hl, getD_push_new]
                exact h.inv.sep i k ei _ h2 h3 (exH hH) hli rfl b hb
            · cases hli
            · subst h1
              rw [← hl, getD_push_new] at hb
              rcases part j ej hj with ⟨g1, g2, g3⟩ | ⟨g1, rfl⟩ | ⟨g1, rfl⟩
              · rw [getD_push_old (by omega)]
                exact h.inv.sep k j _ ej (fun hc => g2 hc.symm) (exH hH) g3 rfl hlj b hb
              · cases hlj
              · exact absurd g1.symm hij
        · have hv := h.slots.rel s
          rw [List.getD_eq_getElem?_getD, hs, Option.getD_some] at hv
          have hv : Rel w B η (.own k) (a.tmps.getD s undef) := hv
          generalize hav : a.tmps.getD s undef = u0 at hv
          cases hv with
          | own _ _ a0 n c hid =>
            have hg : η.getD k undef = .slice a0 n c := by rw [List.getD_eq_getElem?_getD, hid]; rfl
            have h1 := (h.slots.on (On.refl B w) (fun _ h => .inl h) (push_old η (η.getD k undef))).put (r := .own st.heap.length) (v := .slice a0 n c) (.own _ _ _ _ _ (by rw [← hl, List.getElem?_append_right (Nat.le_refl _), hg]; simp)) (fun h => by cases h) s
            have h2 : a.tmps.setIfInBounds s (.slice a0 n c) = a.tmps := by
              have hlt : s < a.tmps.size := by rw [← h.slots.size]; exact (List.getElem?_eq_some_iff.1 hs).1
              have hav' : a.tmps.getD s undef = .slice a0 n c := hav
              rw [Array.getD_eq_getD_getElem?, Array.getElem?_eq_getElem hlt, Option.getD_some] at hav'
              apply Array.ext (by simp)
              intro i hi1 hi2
              rw [Array.getElem_setIfInBounds]
              split
              · rename_i hsi; subst hsi; exact hav'.symm
              · rfl
            rw [h2] at h1
            exact h1
      · exact ⟨η, h, fun _ _ h => h⟩
    · exact ⟨η, h, fun _ _ h => h⟩
  · exact ⟨η, h, fun _ _ h => h⟩
end
end Go.Proofs.Ytcmekgfglohooaa
/-
  The program's tables, as typed data.
-/
namespace Go.Proofs.Ytcmekgfglohooaa
set_option maxRecDepth 100000
open Go.RowKit
set_option linter.unusedVariables false
def globVs : List (Nat × List V) := [
]
def globV (g : Nat) : Option (List V) := (globVs.find? (·.1 == g)).map (·.2)
theorem globVs_ok : globVs.map (fun p => (p.1, segsA p.2)) = globs.map (fun p => (p.1, p.2.map AV.c)) := by kernel_rfl
theorem globV_rel {w : World} {B : List Nat} {η : List Value} {g : Nat} {l : List V} (h : GlobOK w B) (hl : globV g = some l) : Rel2 w B η (.adr l) (.pointer (some ⟨g, 0, none⟩)) := by
  unfold globV at hl
  rw [Option.map_eq_some_iff] at hl
  obtain ⟨p, hp, rfl⟩ := hl
  have h1 := List.mem_of_find?_eq_some hp
  have h2 := List.find?_some hp
  simp only [beq_iff_eq] at h2
  have h3 : (p.1, segsA p.2) ∈ globs.map (fun p => (p.1, p.2.map AV.c)) := by
    rw [← globVs_ok]
    exact List.mem_map.2 ⟨p, h1, rfl⟩
  obtain ⟨q, q1, q2⟩ := List.mem_map.1 h3
  injection q2 with q3 q4
  have h4 := h q.1 q.2 q1
  rw [q3, h2, q4] at h4
  exact h4.any
end Go.Proofs.Ytcmekgfglohooaa
/-
  Regions, code, calls: run on typed values.
-/
namespace Go.Proofs.Ytcmekgfglohooaa
set_option maxRecDepth 100000
open Go.RowKit
set_option linter.unusedVariables false
set_option linter.unusedSimpArgs false

/-- What stays of what was known, as the call goes on. -/
structure Goes (n0 m0 : Nat) (w : World) (B : List Nat) (η : List Value) (w' : World) (B' : List Nat) (η' : List Value) : Prop where
  on : On B w w'
  hB : ∀ b ∈ B', b ∈ B ∨ w.heap.size ≤ b
  hη : ∀ (id : Nat) v, id < m0 → η[id]? = some v → η'[id]? = some v
  below : Below n0 w w'
theorem Goes.refl (n0 m0 : Nat) (w : World) (B : List Nat) (η : List Value) : Goes n0 m0 w B η w B η := ⟨On.refl B w, fun _ h => .inl h, fun _ _ _ h => h, Below.refl _ _⟩
theorem Goes.trans {n0 m0 : Nat} {a b c : World} {B B' B'' : List Nat} {η η' η'' : List Value} (h : Goes n0 m0 a B η b B' η') (k : Goes n0 m0 b B' η' c B'' η'') : Goes n0 m0 a B η c B'' η'' :=
  ⟨h.on.trans k.on h.hB, fun x hx => (k.hB x hx).elim (fun hx => h.hB x hx) (fun hx => .inr (Nat.le_trans h.on.size hx)), fun id v hi hv => k.hη id v hi (h.hη id v hi hv), h.below.trans k.below⟩
structure Env (R : Type) where
  fns : Fns R
  inl : FuncId → Bool
  lp : List Nat → Nat → Nat → S2 → (Exit → S2 → Tree R) → Tree R
  mv : List Nat → Nat → Bool × Bool
  cln : FuncId → Option TypeId
  scl : FuncId → Bool
def opV (sl : List V) : Operand → V
  | .tmp t => sl.getD t .any
  | .const v => constV v
  | .global g => (match globV g with | some l => .adr l | none => .c (.pointer (some ⟨g, 0, none⟩)))
  | .func f => .clo f []
def setV (sl : List V) (d : Option Tmp) (r : V) : List V := match d with | some t => sl.set t r | none => sl
/-- Rows of the call's own that an operation takes as plain ones. -/
def needs (mv : Bool × Bool) : Op → List Operand
  | .slice _ x _ _ _ => if mv.1 = true then [] else [x]
  | .call ⟨.builtin .append, ⟨[_, x]⟩, _⟩ => [x]
  | .call ⟨.value _, args, _⟩ => if mv.1 = true then [] else args.toList
  | .convert _ _ x => [x]
  | .sliceToArrayPointer _ x => [x]
  | .call ⟨.builtin .copy, ⟨[_, x]⟩, _⟩ => [x]
  | .buildSlice _ _ parts => parts.toList.map (·.2)
  | _ => []
def ownIds : V → List Nat
  | .own i => [i]
  | .agg l => l.filterMap fun | .own i => some i | _ => none
  | _ => []
def frzAll : List Nat → S2 → S2
  | [], st => st
  | i :: l, st => frzAll l (freeze st i)
/-- Boxes of which an operation makes a slice. -/
def needsB (mv : Bool × Bool) : Op → List Operand
  | .slice _ x _ _ none => if mv.1 = true then [] else [x]
  | _ => []
/-- Boxes of whose fields a region makes slices. -/
def needsF (mv : Bool × Bool) (ops : Array Oper) : List Operand := ops.toList.flatMap fun o => match o.op with
  | .slice _ (.tmp t) _ _ none => if mv.1 = true then [] else ops.toList.flatMap fun q => match q.op with
    | .fieldAddr _ y _ => if q.dst == some t then [y] else []
    | _ => []
  | _ => []
def boxIds : V → List Nat
  | .box i _ => [i]
  | _ => []
def frzBs : List Nat → S2 → S2
  | [], st => st
  | i :: l, st => frzBs l (freezeB st i)
def frzOp (mv : Bool × Bool) (o : Op) (st : S2) : S2 := frzBs ((needsB mv o).flatMap fun x => boxIds (opV st.slots x)) (frzAll ((needs mv o).flatMap fun x => ownIds (opV st.slots x)) st)
section
variable {R : Type}
/-- Is the operation wanted? -/
def wantK (ops : Array Oper) (sl : List V) (o : Oper) (yes no : List V → Tree R) : Tree R :=
  match o.guard with
  | none => yes sl
  | some (g, want) => match (ops[g]?).bind (·.dst) with
    | some d => match sl[d]? with
      | some (.c (.bool b)) => .ite b (if want = true then yes (sl.set d (.c (.bool true))) else no (sl.set d (.c (.bool true)))) (if want = true then no (sl.set d (.c (.bool false))) else yes (sl.set d (.c (.bool false))))
      | some (.c (.tuple _)) => no sl
      | _ => .fail
    | none => .fail
theorem set_same' {α : Type} {l : List α} {d : Nat} {x : α} (h : l[d]? = some x) : l.set d x = l := by
  apply List.ext_getElem?
  intro i
  rw [List.getElem?_set]
  split
  · rename_i hi
    subst hi
    rw [if_pos (List.getElem?_eq_some_iff.1 h).1, h]
  · rfl
def guardSlot (ops : Array Oper) (o : Oper) : Option Tmp := match o.guard with
  | some (g, _) => (ops[g]?).bind (·.dst)
  | none => none
theorem wantK_ok {ops : Array Oper} {sl : List V} {o : Oper} {yes no : List V → Tree R} {res : R} (h : (wantK ops sl o yes no).run = some res) :
    ∃ b : Bool, ((if b = true then yes sl else no sl)).run = some res ∧ ∀ (w : World) (B : List Nat) (η : List Value) (tmps : Array Value), sl.length = tmps.size → (∀ d, guardSlot ops o = some d → Rel2 w B η (sl.getD d .any) (tmps.getD d undef)) → Region.wanted o (yielded ops tmps) = b := by
  unfold wantK at h
  split at h
  · rename_i hg
    exact ⟨true, by simpa using h, fun w B η tmps hsz ht => by simp [Region.wanted, hg]⟩
  · rename_i g want hg
    split at h
    · rename_i d hd
      have slot : ∀ (v : Value), sl[d]? = some (.c v) → ∀ (w : World) (B : List Nat) (η : List Value) (tmps : Array Value), sl.length = tmps.size → (∀ d, guardSlot ops o = some d → Rel2 w B η (sl.getD d .any) (tmps.getD d undef)) → tmps[d]? = some v := fun v hv w B η tmps hsz ht => by
        have hr := ht d (by simp [guardSlot, hg, hd])
        rw [List.getD_eq_getElem?_getD, hv, Option.getD_some] at hr
        have hr := Rel.ofC hr
        have hlt : d < tmps.size := by rw [← hsz]; exact (List.getElem?_eq_some_iff.1 hv).1
        rw [Array.getD_eq_getD_getElem?, Array.getElem?_eq_getElem hlt, Option.getD_some] at hr
        rw [Array.getElem?_eq_getElem hlt, hr]
      split at h
      · rename_i b hv
        have key : ∀ (w : World) (B : List Nat) (η : List Value) (tmps : Array Value), sl.length = tmps.size → (∀ d, guardSlot ops o = some d → Rel2 w B η (sl.getD d .any) (tmps.getD d undef)) → Region.wanted o (yielded ops tmps) = (b == want) := fun w B η tmps hsz ht => by
          simp [Region.wanted, hg, yielded, hd, slot _ hv w B η tmps hsz ht]
        rcases Tree.run_ite h with ⟨hb, h1⟩ | ⟨hb, h1⟩
        · clear h
          subst hb
          rw [set_same' hv] at h1
          refine ⟨want, ?_, fun w B η tmps hsz ht => by rw [key w B η tmps hsz ht]; cases want <;> rfl⟩
          cases want <;> simpa using h1
        · clear h
          subst hb
          rw [set_same' hv] at h1
          refine ⟨!want, ?_, fun w B η tmps hsz ht => by rw [key w B η tmps hsz ht]; cases want <;> rfl⟩
          cases want <;> simpa using h1
      · rename_i hv
        refine ⟨false, by simpa using h, fun w B η tmps hsz ht => by simp [Region.wanted, hg, yielded, hd, slot _ hv w B η tmps hsz ht]⟩
      · cases h
    · cases h
theorem frzAll_ok {n0 m0 : Nat} {Bx : List Nat} {ds : List Deferred} {a : Act} {w : World} {η : List Value} : ∀ (l : List Nat) (st : S2) (B : List Nat), SimK n0 Bx ds st a w B η → ∃ B', SimK n0 Bx ds (frzAll l st) a w B' η ∧ Goes n0 m0 w B η w B' η
  | [], st, B, h => ⟨B, h, Goes.refl _ _ _ _ _⟩
  | i :: l, st, B, h => by
    obtain ⟨B1, h1, h2⟩ := freeze_ok h i
    obtain ⟨B2, h3, h4⟩ := frzAll_ok (m0 := m0) l _ B1 h2
    exact ⟨B2, h3, (⟨On.refl B w, fun b hb => .inl (h1 b hb), fun _ _ _ h => h, Below.refl _ _⟩ : Goes n0 m0 w B η w B1 η).trans h4⟩
theorem frzBs_ok {n0 m0 : Nat} {Bx : List Nat} {ds : List Deferred} {a : Act} {w : World} {η : List Value} : ∀ (l : List Nat) (st : S2) (B : List Nat), SimK n0 Bx ds st a w B η → ∃ B', SimK n0 Bx ds (frzBs l st) a w B' η ∧ Goes n0 m0 w B η w B' η
  | [], st, B, h => ⟨B, h, Goes.refl _ _ _ _ _⟩
  | i :: l, st, B, h => by
    obtain ⟨B1, h1, h2⟩ := freezeB_ok h i
    obtain ⟨B2, h3, h4⟩ := frzBs_ok (m0 := m0) l _ B1 h2
    exact ⟨B2, h3, (⟨On.refl B w, fun b hb => .inl (h1 b hb), fun _ _ _ h => h, Below.refl _ _⟩ : Goes n0 m0 w B η w B1 η).trans h4⟩
theorem frzOp_ok {n0 m0 : Nat} {Bx : List Nat} {ds : List Deferred} {a : Act} {w : World} {η : List Value} (mv : Bool × Bool) (o : Op) (st : S2) (B : List Nat) (h : SimK n0 Bx ds st a w B η) : ∃ B', SimK n0 Bx ds (frzOp mv o st) a w B' η ∧ Goes n0 m0 w B η w B' η := by
  obtain ⟨B1, h1, h2⟩ := frzAll_ok (m0 := m0) ((needs mv o).flatMap fun x => ownIds (opV st.slots x)) st B h
  obtain ⟨B2, h3, h4⟩ := frzBs_ok (m0 := m0) ((needsB mv o).flatMap fun x => boxIds (opV st.slots x)) _ B1 h1
  exact ⟨B2, h3, h2.trans h4⟩
/-- An operand, and what the region moves into it. -/
def srcsO (ops : Array Oper) (x : Operand) : List Operand := match x with
  | .tmp t => x :: ops.toList.flatMap fun q => match q.op with
    | .move y => if q.dst == some t then [y] else []
    | _ => []
  | x => [x]
/-- What all operations of a region ask for, ahead of them. -/
def frzOps (mv : Bool × Bool) (ops : Array Oper) (st : S2) : S2 := frzBs ((needsF mv ops ++ ops.toList.flatMap fun o => needsB mv o.op).flatMap fun x => boxIds (opV st.slots x)) (frzAll (((ops.toList.flatMap fun o => needs mv o.op).flatMap (srcsO ops)).flatMap fun x => ownIds (opV st.slots x)) st)
theorem frzOps_ok {n0 m0 : Nat} {Bx : List Nat} {ds : List Deferred} {a : Act} {w : World} {η : List Value} (mv : Bool × Bool) (ops : Array Oper) (st : S2) (B : List Nat) (h : SimK n0 Bx ds st a w B η) : ∃ B', SimK n0 Bx ds (frzOps mv ops st) a w B' η ∧ Goes n0 m0 w B η w B' η := by
  obtain ⟨B1, h1, h2⟩ := frzAll_ok (m0 := m0) (((ops.toList.flatMap fun o => needs mv o.op).flatMap (srcsO ops)).flatMap fun x => ownIds (opV st.slots x)) st B h
  obtain ⟨B2, h3, h4⟩ := frzBs_ok (m0 := m0) ((needsF mv ops ++ ops.toList.flatMap fun o => needsB mv o.op).flatMap fun x => boxIds (opV st.slots x)) _ B1 h1
  exact ⟨B2, h3, h2.trans h4⟩
theorem opG_rel {n0 : Nat} {w : World} {B : List Nat} {η : List Value} {sl : List V} (hgl : GlobOK w B) (g : Nat) : Rel2 w B η (opV sl (.global g)) (.pointer (some ⟨g, 0, none⟩)) ∧ FreshV n0 (ex (opV sl (.global g))) (.pointer (some ⟨g, 0, none⟩)) := by
  simp only [opV]
  split
  · rename_i l hl
    exact ⟨globV_rel hgl hl, fun h => by cases h⟩
  · exact ⟨.c _ _, fun h => by cases h⟩
theorem opV_rel {n0 : Nat} {w : World} {B : List Nat} {η : List Value} {sl : List V} {a : Act} (h : SlotsK n0 w B η sl a.tmps) (hgl : GlobOK w B) (x : Operand) : Rel2 w B η (opV sl x) (a.eval x) ∧ FreshV n0 (ex (opV sl x)) (a.eval x) := by
  cases x with
  | tmp t => exact ⟨h.rel t, h.fresh t⟩
  | const v =>
    refine ⟨Rel2.of (constV_plain v) ?_, fun h => ?_⟩
    · show Rel w B η (ex (constV v)) v
      rw [constV_ex]; exact .c _ _
    · simp only [opV, constV_ex, isFresh] at h; cases h
  | global g => exact opG_rel hgl g
  | func f => exact ⟨⟨[], rfl, rfl, fun i c h => by simp at h⟩, fun h => by cases h⟩
/-- A call that is run in place. -/
abbrev CallI (R : Type) := FuncId → List V → List E2 → (V → List E2 → Tree R) → Tree R
def RelVs (n0 : Nat) (w : World) (B : List Nat) (η : List Value) (args : List V) (cargs : List Value) : Prop := cargs.length = args.length ∧ ∀ (i : Nat) x, args[i]? = some x → ∃ v, cargs[i]? = some v ∧ Rel2 w B η x v ∧ FreshV n0 (ex x) v
structure CallIOK (P : Program) (C : CallI R) : Prop where
  ok : ∀ f args H k res, (C f args H k).run = some res → ∃ r H', (k r H').run = some res ∧ (∃ fn, P.funcs[f]? = some fn ∧ fn.name ≠ "runtime.NumGoroutine" ∧ fn.body ≠ none) ∧
    ∀ (n0 : Nat) (Bx : List Nat) (w : World) (B : List Nat) (η : List Value) (cargs : List Value), Inv n0 Bx w B η (H.map exE) → RelVs n0 w B η args cargs →
      Calls P f cargs.toArray w fun e w' => ∃ v B' η', e = .returned v ∧ Goes n0 H.length w B η w' B' η' ∧ Inv n0 Bx w' B' η' (H'.map exE) ∧ Rel2 w' B' η' r v ∧ FreshV n0 (ex r) v
/-- A call by contract: rows of the call's own that it is given are nobody's from then on. -/
def callF (Γ : Env R) (f : FuncId) (xs : List V) (H : List E2) (k : V → List E2 → Tree R) : Tree R :=
  match frzAll (xs.flatMap ownIds) ⟨xs, H⟩ with
  | ⟨ys, H1⟩ => if ys.all immV2 = true then Γ.fns f (ys.map argV) fun r => k r H1 else .fail
theorem callF_ok {P : Program} {Γ : Env R} (hF : FnsOK P Γ.fns) {f : FuncId} {args : Array Operand} {ts : Array TypeId} {sl : List V} {H : List E2} {o : Oper} {k : V → List E2 → Tree R} {res : R} (ho : o.op = .call ⟨.value (.func f), args, ts⟩) (h : (callF Γ f (args.toList.map (opV sl)) H k).run = some res) :
    ∃ r H', (k r H').run = some res ∧ ∀ (n0 : Nat) (Bx : List Nat) (w : World) (B : List Nat) (η : List Value) (ρv : Operand → Value), (∀ f, ρv (.func f) = .func (.func f) #[] #[]) → Inv n0 Bx w B η (H.map exE) → (∀ x ∈ o.op.operands, Rel2 w B η (opV sl x) (ρv x) ∧ FreshV n0 (ex (opV sl x)) (ρv x)) → OpS2 P n0 Bx w ρv o B η r H' := by
  unfold callF at h
  split at h
  rename_i ys H1 hst
  split at h
  · rename_i himm
    obtain ⟨r, h1, h2, h3, h4⟩ := hF.ok _ _ _ _ h
    refine ⟨r, H1, h1, fun n0 Bx w B η ρv hfv inv he N hN => val_of_enters ho (hfv f) ?_⟩
    have hmem : ∀ y ∈ args.toList, y ∈ o.op.operands := fun y hy => by simp [ho, Op.operands, Call.operands]; exact .inr (by simpa using hy)
    have hs : SimK n0 Bx [] ⟨args.toList.map (opV sl), H⟩ { tmps := args.map ρv, defers := [] } w B η := by
      refine ⟨rfl, inv, ⟨by simp, fun t => ?_, fun t => ?_⟩⟩
      all_goals
        simp only [List.getD_eq_getElem?_getD, Array.getD_eq_getD_getElem?, List.getElem?_map, Array.getElem?_map]
        rcases Nat.lt_or_ge t args.size with ht | ht
        · have e1 : args[t]? = some args[t] := Array.getElem?_eq_getElem ht
          have e2 : args.toList[t]? = some args[t] := by rw [Array.getElem?_toList]; exact e1
          have hm := he args[t] (hmem _ (List.mem_of_getElem? e2))
          simp only [e1, e2, Option.map_some, Option.getD_some]
          first | exact hm.1 | exact hm.2
        · have e1 : args[t]? = none := Array.getElem?_eq_none ht
          have e2 : args.toList[t]? = none := by rw [Array.getElem?_toList]; exact e1
          simp only [e1, e2, Option.map_none, Option.getD_none]
          first | trivial | (intro hc; cases hc)
    obtain ⟨B1, hs1, hg1⟩ := frzAll_ok (m0 := 0) ((args.toList.map (opV sl)).flatMap ownIds) _ B hs
    rw [hst] at hs1
    have hsz : ys.length = args.size := by have := hs1.slots.size; simpa using this
    have hcall := h4 w B1 (args.toList.map ρv) hs1.inv.lt hs1.inv.base.2 (by simp [hsz]) (fun i x hx => by
      rw [List.getElem?_map, Option.map_eq_some_iff] at hx
      obtain ⟨y, hy, rfl⟩ := hx
      have hi := List.all_eq_true.1 himm y (List.mem_of_getElem? hy)
      have hlt : i < args.size := by rw [← hsz]; exact (List.getElem?_eq_some_iff.1 hy).1
      have hr := hs1.slots.rel i
      simp only [List.getD_eq_getElem?_getD, hy, Option.getD_some, Array.getD_eq_getD_getElem?, Array.getElem?_map, Array.getElem?_eq_getElem hlt, Option.map_some] at hr
      exact ⟨ρv args[i], by simp [hlt], immV_arg hi (hr.get (immV2_plain hi))⟩) N (fun v w' g2 g3 => hN v w' B1 η (On.gr g2) (fun b hb => hg1.hB b hb) (fun _ _ h => h) (g2.mono inv.base.1) (hs1.inv.gr g2) (Rel2.of h2 g3.any) (fun hfr => by generalize ex r = y at h3 hfr; cases y <;> first | exact absurd rfl (h3 _ _) | cases hfr))
    have hargs : (args.toList.map ρv).toArray = args.map ρv := by apply Array.ext'; simp
    rw [hargs] at hcall
    exact hcall
  · cases h
/-- Plain values alone. -/
def scaV : V → Bool
  | .c _ => true
  | .tup l => l.all fun x => match x with | .c _ => true | _ => false
  | _ => false
theorem scaV_rel {r : V} (h : scaV r = true) {w : World} {B B' : List Nat} {η η' : List Value} {v : Value} (hr : Rel w B η (ex r) v) : Rel w B' η' (ex r) v := by
  cases r with
  | c u => have := Rel.ofC hr; subst this; exact .c _ _
  | tup l =>
    have hr : Rel w B η (.tup (l.map ex0)) v := hr
    show Rel w B' η' (.tup (l.map ex0)) v
    cases hr with
    | tup _ _ cs us hs hu hq =>
      refine .tup _ _ cs us hs hu (fun i x hx => ?_)
      have h0 := hq i x hx
      rw [List.getElem?_map, Option.map_eq_some_iff] at hx
      obtain ⟨y, hy, rfl⟩ := hx
      have h1 := List.all_eq_true.1 h y (List.mem_of_getElem? hy)
      cases y with
      | c u =>
        have h0 : Rel w B η (.c u) (us i) := h0
        have e := Rel.ofC h0
        rw [e]
        exact .c _ _
      | _ => cases h1
  | _ => cases h
/-- A call by contract that hands back plain values alone: what it is given stays what it is. -/
def callS (Γ : Env R) (f : FuncId) (xs : List V) (H : List E2) (k : V → List E2 → Tree R) : Tree R :=
  match frzAll (xs.flatMap ownIds) ⟨xs, H⟩ with
  | ⟨ys, H1⟩ => if ys.all immV2 = true then Γ.fns f (ys.map argV) fun r => if scaV r = true then k r H else .fail else .fail
theorem callS_ok {P : Program} {Γ : Env R} (hF : FnsOK P Γ.fns) {f : FuncId} {args : Array Operand} {ts : Array TypeId} {sl : List V} {H : List E2} {o : Oper} {k : V → List E2 → Tree R} {res : R} (ho : o.op = .call ⟨.value (.func f), args, ts⟩) (h : (callS Γ f (args.toList.map (opV sl)) H k).run = some res) :
    ∃ r H', (k r H').run = some res ∧ ∀ (n0 : Nat) (Bx : List Nat) (w : World) (B : List Nat) (η : List Value) (ρv : Operand → Value), (∀ f, ρv (.func f) = .func (.func f) #[] #[]) → Inv n0 Bx w B η (H.map exE) → (∀ x ∈ o.op.operands, Rel2 w B η (opV sl x) (ρv x) ∧ FreshV n0 (ex (opV sl x)) (ρv x)) → OpS2 P n0 Bx w ρv o B η r H' := by
  unfold callS at h
  split at h
  rename_i ys H1 hst
  split at h
  · rename_i himm
    obtain ⟨r, h1, h2, h3, h4⟩ := hF.ok _ _ _ _ h
    split at h1
    case isFalse => cases h1
    rename_i hsca
    refine ⟨r, H, h1, fun n0 Bx w B η ρv hfv inv he N hN => val_of_enters ho (hfv f) ?_⟩
    have hmem : ∀ y ∈ args.toList, y ∈ o.op.operands := fun y hy => by simp [ho, Op.operands, Call.operands]; exact .inr (by simpa using hy)
    have hs : SimK n0 Bx [] ⟨args.toList.map (opV sl), H⟩ { tmps := args.map ρv, defers := [] } w B η := by
      refine ⟨rfl, inv, ⟨by simp, fun t => ?_, fun t => ?_⟩⟩
      all_goals
        simp only [List.getD_eq_getElem?_getD, Array.getD_eq_getD_getElem?, List.getElem?_map, Array.getElem?_map]
        rcases Nat.lt_or_ge t args.size with ht | ht
        · have e1 : args[t]? = some args[t] := Array.getElem?_eq_getElem ht
          have e2 : args.toList[t]? = some args[t] := by rw [Array.getElem?_toList]; exact e1
          have hm := he args[t] (hmem _ (List.mem_of_getElem? e2))
          simp only [e1, e2, Option.map_some, Option.getD_some]
          first | exact hm.1 | exact hm.2
        · have e1 : args[t]? = none := Array.getElem?_eq_none ht
          have e2 : args.toList[t]? = none := by rw [Array.getElem?_toList]; exact e1
          simp only [e1, e2, Option.map_none, Option.getD_none]
          first | trivial | (intro hc; cases hc)
    obtain ⟨B1, hs1, hg1⟩ := frzAll_ok (m0 := 0) ((args.toList.map (opV sl)).flatMap ownIds) _ B hs
    rw [hst] at hs1
    have hsz : ys.length = args.size := by have := hs1.slots.size; simpa using this
    have hcall := h4 w B1 (args.toList.map ρv) hs1.inv.lt hs1.inv.base.2 (by simp [hsz]) (fun i x hx => by
      rw [List.getElem?_map, Option.map_eq_some_iff] at hx
      obtain ⟨y, hy, rfl⟩ := hx
      have hi := List.all_eq_true.1 himm y (List.mem_of_getElem? hy)
      have hlt : i < args.size := by rw [← hsz]; exact (List.getElem?_eq_some_iff.1 hy).1
      have hr := hs1.slots.rel i
      simp only [List.getD_eq_getElem?_getD, hy, Option.getD_some, Array.getD_eq_getD_getElem?, Array.getElem?_map, Array.getElem?_eq_getElem hlt, Option.map_some] at hr
      exact ⟨ρv args[i], by simp [hlt], immV_arg hi (hr.get (immV2_plain hi))⟩) N (fun v w' g2 g3 => hN v w' B η (On.gr g2) (fun b hb => .inl hb) (fun _ _ h => h) (g2.mono inv.base.1) (inv.gr g2) (Rel2.of h2 (scaV_rel hsca g3)) (fun hfr => by generalize ex r = y at h3 hfr; cases y <;> first | exact absurd rfl (h3 _ _) | cases hfr))
    have hargs : (args.toList.map ρv).toArray = args.map ρv := by apply Array.ext'; simp
    rw [hargs] at hcall
    exact hcall
  · cases h
def neB : Operand → Operand → Bool
  | .tmp i, .tmp j => i != j
  | .const _, .tmp _ => true
  | _, _ => false
theorem neB_ne {s x : Operand} (h : neB s x = true) : s ≠ x := fun e => by
  subst e
  cases s <;> simp [neB] at h
/-- Append of a row of the call's own, that is nobody's from then on. -/
def appO (P : Program) (sl : List V) (H : List E2) (s x : Operand) (t : TypeId) (k : V → List E2 → Tree R) : Tree R :=
  match frzAll (ownIds (opV sl x)) ⟨[opV sl s, opV sl x], H⟩ with
  | ⟨[s', x'], H1⟩ => if s'.plain = true ∧ x'.plain = true then appendK P H1 t s' x' k else .fail
  | _ => .fail
theorem appO_ok {P : Program} {sl : List V} {H : List E2} {o : Oper} {s x : Operand} {t : TypeId} {k : V → List E2 → Tree R} {res : R} (hne : s ≠ x) (ho : o.op = .call ⟨.builtin .append, #[s, x], #[t, t]⟩) (h : (appO P sl H s x t k).run = some res) :
    ∃ r H', (k r H').run = some res ∧ ∀ (n0 : Nat) (Bx : List Nat) (w : World) (B : List Nat) (η : List Value) (ρv : Operand → Value), (∀ f, ρv (.func f) = .func (.func f) #[] #[]) → Inv n0 Bx w B η (H.map exE) → (∀ x ∈ o.op.operands, Rel2 w B η (opV sl x) (ρv x) ∧ FreshV n0 (ex (opV sl x)) (ρv x)) → OpS2 P n0 Bx w ρv o B η r H' := by
  classical
  unfold appO at h
  split at h
  · rename_i s' x' H1 hst
    split at h
    · rename_i hpl
      obtain ⟨hp1, hp2⟩ := hpl
      obtain ⟨ρ', hρ⟩ : ∃ ρ' : Operand → V, ρ' = fun y => if y = s then s' else if y = x then x' else .any := ⟨_, rfl⟩
      have e1 : ρ' s = s' := by rw [hρ]; simp
      have e2 : ρ' x = x' := by rw [hρ]; simp [Ne.symm hne]
      have hops : ∀ y ∈ o.op.operands, y = s ∨ y = x := fun y hy => by
        rw [ho] at hy
        simpa [Op.operands, Call.operands] using hy
      have hp : Plain ρ' o := fun y hy => by
        rcases hops y hy with rfl | rfl
        · rw [e1]; exact hp1
        · rw [e2]; exact hp2
      obtain ⟨r, H', h1, h2⟩ := appendK_ok (ρ := ρ') hp ho (by rw [e1, e2]; exact h)
      refine ⟨r, H', h1, fun n0 Bx w B η ρv hfv inv he N hN => ?_⟩
      have hs : SimK n0 Bx [] ⟨[opV sl s, opV sl x], H⟩ { tmps := #[ρv s, ρv x], defers := [] } w B η := by
        have q1 := he s (by simp [ho, Op.operands, Call.operands])
        have q2 := he x (by simp [ho, Op.operands, Call.operands])
        refine ⟨rfl, inv, ⟨rfl, fun t => ?_, fun t => ?_⟩⟩
        · match t with
          | 0 => exact q1.1
          | 1 => exact q2.1
          | _ + 2 => trivial
        · match t with
          | 0 => exact q1.2
          | 1 => exact q2.2
          | _ + 2 => exact fun hc => by cases hc
      obtain ⟨B1, hs1, hg1⟩ := frzAll_ok (m0 := 0) (ownIds (opV sl x)) _ B hs
      rw [hst] at hs1
      have he' : ∀ y ∈ o.op.operands, Rel2 w B1 η (ρ' y) (ρv y) ∧ FreshV n0 (ex (ρ' y)) (ρv y) := fun y hy => by
        rcases hops y hy with rfl | rfl
        · rw [e1]; exact ⟨hs1.slots.rel 0, hs1.slots.fresh 0⟩
        · rw [e2]; exact ⟨hs1.slots.rel 1, hs1.slots.fresh 1⟩
      exact h2 n0 Bx w B1 η ρv hs1.inv he' N (fun v w' B' η' g1 g2 g3 g4 g5 g6 g7 => hN v w' B' η' (hg1.on.trans g1 (fun b hb => hg1.hB b hb)) (fun b hb => (g2 b hb).elim (fun h => hg1.hB b h) .inr) g3 g4 g5 g6 g7)
    · cases h
  · cases h
/-- One operation, where calls are run in place. -/
def evI (P : Program) (Γ : Env R) (C : CallI R) (mv : Bool × Bool) (st : S2) (o : Op) (k : V → List E2 → Tree R) : Tree R :=
  match o with
  | .call ⟨.value (.func f), args, ts⟩ => if Γ.inl f = true then C f (args.toList.map (opV st.slots)) st.heap k else if Γ.scl f = true ∧ mv.1 = true then callS Γ f (args.toList.map (opV st.slots)) st.heap k else callF Γ f (args.toList.map (opV st.slots)) st.heap k
  | .call ⟨.value (.tmp t), args, _⟩ => (match st.slots.getD t .any with
    | .clo f caps => if Γ.inl f = true then C f (args.toList.map (opV st.slots) ++ caps) st.heap k
      else if caps.isEmpty = true ∧ args.toList.all (fun x => immV2 (opV st.slots x)) = true then Γ.fns f (args.toList.map fun x => argV (opV st.slots x)) fun r => k r st.heap else .fail
    | _ => .fail)
  | .call ⟨.builtin .append, ⟨[s, x]⟩, ⟨[t, t']⟩⟩ => (match opV st.slots x with
    | .own _ => if neB s x = true ∧ t = t' then appO P st.slots st.heap s x t k else .fail
    | _ => evS2 P Γ.fns mv st.heap (opV st.slots) (.call ⟨.builtin .append, ⟨[s, x]⟩, ⟨[t, t']⟩⟩) k)
  | o => evS2 P Γ.fns mv st.heap (opV st.slots) o k
theorem evI_okC {P : Program} {Γ : Env R} (hF : FnsOK P Γ.fns) {C : CallI R} (hC : CallIOK P C) {mv : Bool × Bool} {st : S2} {o : Oper} {k : V → List E2 → Tree R} {res : R} (h : (evI P Γ C mv st o.op k).run = some res) :
    ∃ r H', (k r H').run = some res ∧ ∀ (n0 : Nat) (Bx : List Nat) (w : World) (B : List Nat) (η : List Value) (ρv : Operand → Value), (∀ f, ρv (.func f) = .func (.func f) #[] #[]) → Inv n0 Bx w B η (st.heap.map exE) → (∀ x ∈ o.op.operands, Rel2 w B η (opV st.slots x) (ρv x) ∧ FreshV n0 (ex (opV st.slots x)) (ρv x)) → OpS2 P n0 Bx w ρv o B η r H' := by
  have call : ∀ (f : FuncId) (args : List V) (fv : Operand) (ops : Array Operand) (ts : Array TypeId) (r : V) (H' : List E2), o.op = .call ⟨.value fv, ops, ts⟩ → (∃ fn, P.funcs[f]? = some fn ∧ fn.name ≠ "runtime.NumGoroutine" ∧ fn.body ≠ none) →
      (∀ (n0 : Nat) (Bx : List Nat) (w : World) (B : List Nat) (η : List Value) (cargs : List Value), Inv n0 Bx w B η (st.heap.map exE) → RelVs n0 w B η args cargs →
      Calls P f cargs.toArray w fun e w' => ∃ v B' η', e = .returned v ∧ Goes n0 st.heap.length w B η w' B' η' ∧ Inv n0 Bx w' B' η' (H'.map exE) ∧ Rel2 w' B' η' r v ∧ FreshV n0 (ex r) v) →
      (∀ (n0 : Nat) (w : World) (B : List Nat) (η : List Value) (ρv : Operand → Value), (∀ f, ρv (.func f) = .func (.func f) #[] #[]) → (∀ x ∈ o.op.operands, Rel2 w B η (opV st.slots x) (ρv x) ∧ FreshV n0 (ex (opV st.slots x)) (ρv x)) → ∃ (cargs : List Value) (a1 cap : Array Value), RelVs n0 w B η args cargs ∧ (resolve ρv ⟨.value fv, ops, ts⟩ o.type).run P w = .ok { target := .fn (.func f) cap, args := a1 } w ∧ a1 ++ cap = cargs.toArray) →
      ∀ (n0 : Nat) (Bx : List Nat) (w : World) (B : List Nat) (η : List Value) (ρv : Operand → Value), (∀ f, ρv (.func f) = .func (.func f) #[] #[]) → Inv n0 Bx w B η (st.heap.map exE) → (∀ x ∈ o.op.operands, Rel2 w B η (opV st.slots x) (ρv x) ∧ FreshV n0 (ex (opV st.slots x)) (ρv x)) → OpS2 P n0 Bx w ρv o B η r H' := by
    intro f args fv ops ts r H' ho hfn hcalls hargs n0 Bx w B η ρv hfv inv he N hN
    obtain ⟨fn, f1, f2, f3⟩ := hfn
    obtain ⟨cargs, a1, cap, hrel, hres, hcat⟩ := hargs n0 w B η ρv hfv he
    have hcall := hcalls n0 Bx w B η cargs inv hrel
    unfold Oper.val
    have hrun : (execOp ρv o).run P w = .ok (.enter f cargs.toArray) w := by
      simp only [execOp, ho, Sem.run_bind, hres, Result.andThen_ok, invoke, callFunc, hcat]
      simp [Sem.run_bind, f1, f2, f3]
    rw [hrun]
    refine hcall.mono fun e w' ⟨v, B', η', g1, g2, g3, g4, g5⟩ => ⟨v, g1, hN v w' B' η' g2.on g2.hB (fun id v hv => g2.hη id v ?_ hv) g2.below g3 g4 g5⟩
    have := (List.getElem?_eq_some_iff.1 hv).1
    rw [inv.len] at this
    simpa using this
  obtain ⟨op, ho⟩ : ∃ op, o.op = op := ⟨_, rfl⟩
  rw [ho] at h
  unfold evI at h
  split at h
  · rename_i f args ts
    split at h
    · obtain ⟨r, H', h1, h2, h3⟩ := hC.ok _ _ _ _ _ h
      refine ⟨r, H', h1, call f _ _ _ _ r H' ho h2 h3 fun n0 w B η ρv hfv he => ⟨args.toList.map ρv, args.map ρv, #[], ⟨by simp, fun i x hx => ?_⟩, ?_, ?_⟩⟩
      · rw [List.getElem?_map, Option.map_eq_some_iff] at hx
        obtain ⟨y, hy, rfl⟩ := hx
        have hm := List.mem_of_getElem? hy
        exact ⟨ρv y, by rw [List.getElem?_map, hy]; rfl, he y (by simp [ho, Op.operands, Call.operands]; exact .inr (by simpa using hm))⟩
      · simp [resolve, Deferred.ofValue, hfv]
      · apply Array.ext'; simp
    · split at h
      · exact callS_ok hF ho h
      · exact callF_ok hF ho h
  · rename_i t args ts
    split at h
    · rename_i f caps hcl
      split at h
      · obtain ⟨r, H', h1, h2, h3⟩ := hC.ok _ _ _ _ _ h
        refine ⟨r, H', h1, call f _ _ _ _ r H' ho h2 h3 fun n0 w B η ρv hfv he => ?_⟩
        have hv := (he (.tmp t) (by simp [ho, Op.operands, Call.operands])).1
        simp only [opV] at hv
        rw [hcl] at hv
        obtain ⟨vs, e1, e2, e3⟩ := hv
        refine ⟨args.toList.map ρv ++ vs, args.map ρv, vs.toArray, ⟨by simp [e2], fun i x hx => ?_⟩, ?_, ?_⟩
        · rw [List.getElem?_append] at hx ⊢
          simp only [List.length_map] at hx ⊢
          split at hx
          · rename_i hi
            rw [if_pos hi]
            rw [List.getElem?_map, Option.map_eq_some_iff] at hx
            obtain ⟨y, hy, rfl⟩ := hx
            have hm := List.mem_of_getElem? hy
            exact ⟨ρv y, by rw [List.getElem?_map, hy]; rfl, he y (by simp [ho, Op.operands, Call.operands]; exact .inr (by simpa using hm))⟩
          · rename_i hi
            rw [if_neg hi]
            obtain ⟨u, g1, g2, g3⟩ := e3 _ _ hx
            refine ⟨u, g1, Rel2.of (V.cap_plain g2) g3, fun hfr => ?_⟩
            obtain ⟨d, l, rfl⟩ := exFresh hfr
            cases g2
        · have hev : ρv (.tmp t) = .func (.func f) #[] vs.toArray := e1
          simp [resolve, Deferred.ofValue, hev]
        · apply Array.ext'; simp
      · split at h
        · rename_i hc
          obtain ⟨hcap, himm⟩ := hc
          have hcap : caps = [] := by simpa using hcap
          subst hcap
          obtain ⟨r, h1, h2, h3, h4⟩ := hF.ok _ _ _ _ h
          refine ⟨r, st.heap, h1, fun n0 Bx w B η ρv hfv inv he N hN => ?_⟩
          have hv := (he (.tmp t) (by simp [ho, Op.operands, Call.operands])).1
          simp only [opV] at hv
          rw [hcl] at hv
          obtain ⟨vs, e1, e2, e3⟩ := hv
          have hvs : vs = [] := List.eq_nil_of_length_eq_zero e2
          subst hvs
          have hev : ρv (.tmp t) = .func (.func f) #[] #[] := e1
          have hcall := h4 w B (args.toList.map ρv) inv.lt inv.base.2 (by simp) (fun i x hx => by
            rw [List.getElem?_map, Option.map_eq_some_iff] at hx
            obtain ⟨y, hy, rfl⟩ := hx
            have hm := List.mem_of_getElem? hy
            have hi := List.all_eq_true.1 himm y hm
            exact ⟨ρv y, by rw [List.getElem?_map, hy]; rfl, immV_arg hi ((he y (by simp [ho, Op.operands, Call.operands]; exact .inr (by simpa using hm))).1.get (immV2_plain hi))⟩) N (fun v w' g2 g3 => hN v w' B η (On.gr g2) (fun _ h => .inl h) (fun _ _ h => h) (g2.mono inv.base.1) (inv.gr g2) (Rel2.of h2 g3.any) (fun hfr => by generalize ex r = y at h3 hfr; cases y <;> first | exact absurd rfl (h3 _ _) | cases hfr))
          have hargs : (args.toList.map ρv).toArray = args.map ρv := by apply Array.ext'; simp
          rw [hargs] at hcall
          exact val_of_enters ho hev hcall
        · cases h
    · cases h
  · split at h
    · split at h
      · rename_i hc
        obtain ⟨hne, rfl⟩ := hc
        exact appO_ok (neB_ne hne) ho h
      · cases h
    · obtain ⟨r, H', h1, h2⟩ := evS2_ok (o := o) hF (by rw [ho]; exact h)
      exact ⟨r, H', h1, h2⟩
  · obtain ⟨r, H', h1, h2⟩ := evS2_ok (o := o) hF (by rw [ho]; exact h)
    exact ⟨r, H', h1, h2⟩
theorem evI_ok {P : Program} {Γ : Env R} (hF : FnsOK P Γ.fns) {C : CallI R} (hC : CallIOK P C) {mv : Bool × Bool} {st : S2} {o : Oper} {k : V → List E2 → Tree R} {res : R} (h : (evI P Γ C mv st o.op k).run = some res) :
    ∃ r H', (k r H').run = some res ∧ ∀ (n0 : Nat) (Bx : List Nat) (ds : List Deferred) (a : Act) (w : World) (B : List Nat) (η : List Value), SimK n0 Bx ds st a w B η → OpS2 P n0 Bx w a.eval o B η r H' := by
  obtain ⟨r, H', h1, h2⟩ := evI_okC hF hC h
  exact ⟨r, H', h1, fun n0 Bx ds a w B η hs => h2 n0 Bx w B η a.eval (fun f => rfl) hs.inv (fun x _ => opV_rel hs.slots hs.inv.base.2 x)⟩
end
end Go.Proofs.Ytcmekgfglohooaa
/-
  Regions that draw: some operations write, one behind the other, and others look at nothing that these write: in every order they come to one end.
-/
namespace Go.Proofs.Ytcmekgfglohooaa
set_option maxRecDepth 100000
open Go.RowKit
set_option linter.unusedVariables false
set_option linter.unusedSimpArgs false

section
variable {P : Program} {ops : Array Oper}
theorem wpAny_inv {Q : Exit → Act → World → Prop} (I : Array Bool → Act → World → Prop) (hback : backB ops = true)
    (hstep : ∀ (listed : Array Bool) (a : Act) (w : World) (j : Nat), HeadInv .any ops ops.size listed → I listed a w → j ∈ Region.ready .any ops listed → ∀ K : Act → World → Prop, (∀ a' w', I (listed.setIfInBounds j true) a' w' → K a' w') → wpOp P ops Q j K a w)
    (hend : ∀ (listed : Array Bool) (a : Act) (w : World), HeadInv .any ops ops.size listed → (∀ i, i < ops.size → listed.getD i false = true) → I listed a w → Q .normal a w) :
    ∀ (f : Nat) (listed : Array Bool) (a : Act) (w : World), ((List.range ops.size).filter fun i => !listed.getD i false).length = f → HeadInv .any ops ops.size listed → I listed a w → wpAny P .any ops Q f listed a w
  | 0, listed, a, w, hf, hi, inv => by
    have hall : ∀ i, i < ops.size → listed.getD i false = true := fun i hin => by
      cases hl : listed.getD i false with
      | true => rfl
      | false =>
        have : i ∈ (List.range ops.size).filter fun i => !listed.getD i false := List.mem_filter.2 ⟨List.mem_range.2 hin, by rw [hl]; rfl⟩
        rw [List.length_eq_zero_iff.1 hf] at this; cases this
    refine ⟨?_, hend listed a w hi hall inv⟩
    cases hr : Region.ready .any ops listed with
    | nil => rfl
    | cons j l =>
      have hj : j ∈ Region.ready .any ops listed := by rw [hr]; exact List.mem_cons_self
      obtain ⟨h1, o, ho, _⟩ := mem_ready.1 hj
      have hjs := (Array.getElem?_eq_some_iff.1 ho).1
      have := hall j hjs
      have hjl : j < listed.size := by rw [hi.size]; exact hjs
      simp [hjl] at this h1
      rw [this] at h1; cases h1
  | f + 1, listed, a, w, hf, hi, inv => by
    have hex : ∃ i, i < ops.size ∧ listed.getD i false = false := by
      cases hfil : (List.range ops.size).filter fun i => !listed.getD i false with
      | nil => rw [hfil] at hf; cases hf
      | cons x xs =>
        have : x ∈ (List.range ops.size).filter fun i => !listed.getD i false := by rw [hfil]; exact List.mem_cons_self
        obtain ⟨h1, h2⟩ := List.mem_filter.1 this
        exact ⟨x, List.mem_range.1 h1, by simpa using h2⟩
    have hready : ∃ i, i ∈ Region.ready .any ops listed := by
      obtain ⟨i0, hin0, hun0⟩ := hex
      revert hin0 hun0
      refine Nat.strongRecOn i0 fun i ih his hun => ?_
      by_cases hall : ∀ e ∈ ops[i].after, Region.binds .any e = true → listed.getD e.on false = true
      · refine ⟨i, mem_ready.2 ⟨?_, ops[i], Array.getElem?_eq_getElem his, hall⟩⟩
        have hil : i < listed.size := by rw [hi.size]; exact his
        simp [hil] at hun ⊢; exact hun
      · have : ∃ e ∈ ops[i].after, Region.binds .any e = true ∧ listed.getD e.on false = false := by
          apply Classical.byContradiction
          intro hc
          apply hall
          intro e he hb
          cases hl : listed.getD e.on false with
          | true => rfl
          | false => exact absurd ⟨e, he, hb, hl⟩ hc
        obtain ⟨e, he, hb, hl⟩ := this
        have h1 := List.all_eq_true.1 hback i (List.mem_range.2 his)
        simp only [Array.getElem?_eq_getElem his] at h1
        have h2 := Array.all_eq_true_iff_forall_mem.1 h1 e he
        simp only [hb, Bool.not_true, Bool.false_or, decide_eq_true_eq] at h2
        exact ih e.on h2 (by omega) hl
    refine ⟨fun h0 => by obtain ⟨i, hi2⟩ := hready; rw [h0] at hi2; exact (List.not_mem_nil hi2).elim, fun j hj => ?_⟩
    have hjs : j < ops.size := by obtain ⟨_, o, ho, _⟩ := mem_ready.1 hj; exact (Array.getElem?_eq_some_iff.1 ho).1
    refine hstep listed a w j hi inv hj _ fun a' w' inv' => wpAny_inv I hback hstep hend f _ a' w' ?_ (hi.set hj hjs) inv'
    have hjl : j < listed.size := by rw [hi.size]; omega
    have hjun : listed.getD j false = false := by
      have := (mem_ready.1 hj).1
      simp [hjl] at this ⊢; exact this
    have : ∀ (l : List Nat), l.Nodup → j ∈ l → (l.filter fun i => !(listed.setIfInBounds j true).getD i false).length + 1 = (l.filter fun i => !listed.getD i false).length := by
      intro l
      induction l with
      | nil => intro _ h; cases h
      | cons x l ih =>
        intro hnd hm
        obtain ⟨hx, hnd'⟩ := List.nodup_cons.1 hnd
        rcases List.mem_cons.1 hm with rfl | hm'
        · have e1 : (listed.setIfInBounds j true).getD j false = true := by simp [hjl]
          have e2 : (l.filter fun i => !(listed.setIfInBounds j true).getD i false) = l.filter fun i => !listed.getD i false :=
            List.filter_congr fun i hi' => by rw [getD_set_ne false (fun e => hx (by rw [e]; exact hi'))]
          rw [List.filter_cons_of_neg (by rw [e1]; simp), List.filter_cons_of_pos (by rw [hjun]; rfl), e2, List.length_cons]
        · have hne : j ≠ x := fun e => hx (by rw [← e]; exact hm')
          have ih' := ih hnd' hm'
          by_cases hlx : listed.getD x false = true
          · rw [List.filter_cons_of_neg (by rw [getD_set_ne false hne, hlx]; simp), List.filter_cons_of_neg (by rw [hlx]; simp)]; exact ih'
          · have hlx' : listed.getD x false = false := by simpa using hlx
            rw [List.filter_cons_of_pos (by rw [getD_set_ne false hne, hlx']; rfl), List.filter_cons_of_pos (by rw [hlx']; rfl), List.length_cons, List.length_cons]; omega
    have h := this (List.range ops.size) List.nodup_range (List.mem_range.2 hjs)
    omega
end
/-- It speaks of no block of the call's own. -/
def bareV : V → Bool
  | .any => true
  | .agg l => l.all immV
  | .tup l => l.all immV2
  | .fre _ _ => true
  | .adr _ => true
  | .clo _ l => l.isEmpty
  | x => immV x
theorem imm2_ex0 {x : V} (h : immV2 x = true) : (unf (ex0 x)).imm = true := by
  cases x with
  | agg l => exact immV_ok l h
  | arr d n a => exact flat_imm d a.l
  | _ => first | rfl | cases h
theorem Rel.bare2 {w : World} {B : List Nat} {η η' : List Value} {x : AV} {v : Value} (h : Rel w B η x v) (hi : (Go.Proofs.Ytcmekgfglohooaa.unf x).imm = true) : Rel w B η' x v := by
  cases h with
  | fresh _ l k A n us hk hn h0 hm hA hr => exact .fresh _ l k A n us hk hn h0 hm hA hr
  | c => exact .c _ _
  | sl _ l k A n c us hk hn hc hm hA hr => exact .sl _ l k A n c us hk hn hc hm hA hr
  | adr _ l ad us ha hr => exact .adr _ l ad us ha hr
  | emp _ A => exact .emp _ A
  | agg _ l cs us hs hu hr => exact Rel.bare (.agg _ l cs us hs hu hr) hi
  | tup _ l cs us hs hu hr => exact Rel.bare (.tup _ l cs us hs hu hr) hi
  | _ => cases hi
theorem bareV_rel {w : World} {B : List Nat} {η η' : List Value} {x : V} {v : Value} (hb : bareV x = true) (h : Rel2 w B η x v) : Rel2 w B η' x v := by
  cases x with
  | any => trivial
  | agg l => exact Rel.bare h (immV_ok l hb)
  | arr d n a => exact Rel.bare h (flat_imm d a.l)
  | tup l =>
    have hr0 : Rel w B η (.tup (l.map ex0)) v := h
    cases hr0 with
    | tup _ _ cs us hs hu hr =>
      refine Rel.tup _ _ cs us hs hu (fun i y hy => (hr i y hy).bare2 ?_)
      rw [List.getElem?_map, Option.map_eq_some_iff] at hy
      obtain ⟨z, hz, rfl⟩ := hy
      exact imm2_ex0 (List.all_eq_true.1 hb z (List.mem_of_getElem? hz))
  | fre d l =>
    have hr0 : Rel w B η (.fresh (flat d l) (wd d)) v := h
    exact hr0.bare2 (η' := η') rfl
  | adr l =>
    have hr0 : Rel w B η (.adr (segsA l)) v := h
    exact hr0.bare2 (η' := η') rfl
  | c v0 => exact Rel.bare h rfl
  | str s => exact Rel.bare h rfl
  | lst d l => exact Rel.bare h rfl
  | emp => exact Rel.bare h rfl
  | clo f l =>
    have hl : l = [] := List.isEmpty_iff.1 hb
    subst hl
    obtain ⟨vs, h1, h2, h3⟩ := h
    exact ⟨vs, h1, h2, fun i c hc => by simp at hc⟩
  | _ => cases hb
/-- It writes. -/
def writesI (inl : FuncId → Bool) : Op → Bool
  | .store _ _ _ => true
  | .box _ _ => true
  | .alloc _ => true
  | .call c => match c.callee with
    | .builtin .append => true
    | .builtin .copy => true
    | .value (.func f) => inl f
    | .value (.tmp _) => true
    | _ => false
  | _ => false
/-- Which operations write nothing, and look at nothing that one which writes has made. -/
def frontsOf (inl : FuncId → Bool) (ops : Array Oper) : List Oper → List (Option Tmp × Bool) → List Bool
  | [], _ => []
  | o :: rest, acc =>
    let f := !writesI inl o.op && (o.looksAt ops).all fun t => acc.all fun p => p.2 || p.1 != some t
    f :: frontsOf inl ops rest (acc ++ [(o.dst, f)])
section
variable {R : Type}
def forceL : List V → (List V → Tree R) → Tree R
  | [], k => k []
  | x :: l, k => forceL l fun m => k (x :: m)
theorem forceL_eq : ∀ (l : List V) (k : List V → Tree R), forceL l k = k l
  | [], k => rfl
  | x :: l, k => by rw [forceL, forceL_eq l]
/-- The operations, numbered: those in front, the others. -/
def flR (k : Nat) : List Oper → List Bool → List (Nat × Oper)
  | o :: l, b :: fs => if b = true then (k, o) :: flR (k + 1) l fs else flR (k + 1) l fs
  | _, _ => []
def clR (k : Nat) : List Oper → List Bool → List (Nat × Oper)
  | o :: l, b :: fs => if b = true then clR (k + 1) l fs else (k, o) :: clR (k + 1) l fs
  | _, _ => []
theorem flR_mem : ∀ (l : List Oper) (fs : List Bool) (k j : Nat) (o : Oper), (j, o) ∈ flR k l fs ↔ k ≤ j ∧ l[j - k]? = some o ∧ fs[j - k]? = some true
  | [], fs, k, j, o => by cases fs <;> simp [flR]
  | _ :: _, [], k, j, o => by simp [flR]
  | p :: l, b :: fs, k, j, o => by
    have ih := flR_mem l fs (k + 1) j o
    have key : k + 1 ≤ j ∧ l[j - (k + 1)]? = some o ∧ fs[j - (k + 1)]? = some true ↔ k < j ∧ (p :: l)[j - k]? = some o ∧ (b :: fs)[j - k]? = some true := by
      constructor
      · rintro ⟨h1, h2, h3⟩
        rw [show j - k = (j - (k + 1)) + 1 by omega]
        exact ⟨by omega, by simpa using h2, by simpa using h3⟩
      · rintro ⟨h1, h2, h3⟩
        rw [show j - k = (j - (k + 1)) + 1 by omega] at h2 h3
        exact ⟨by omega, by simpa using h2, by simpa using h3⟩
    unfold flR
    cases b with
    | true =>
      simp only [if_true, List.mem_cons, ih, key]
      constructor
      · rintro (h | ⟨h1, h2, h3⟩)
        · injection h with h1 h2; subst h1 h2; simp
        · exact ⟨by omega, h2, h3⟩
      · rintro ⟨h1, h2, h3⟩
        rcases Nat.lt_or_ge k j with h | h
        · exact .inr ⟨h, h2, h3⟩
        · have : j = k := by omega
          subst this
          simp at h2
          exact .inl (by rw [h2])
    | false =>
      simp only [Bool.false_eq_true, if_false, ih, key]
      constructor
      · rintro ⟨h1, h2, h3⟩; exact ⟨by omega, h2, h3⟩
      · rintro ⟨h1, h2, h3⟩
        rcases Nat.lt_or_ge k j with h | h
        · exact ⟨h, h2, h3⟩
        · have : j = k := by omega
          subst this
          simp at h3
theorem clR_mem : ∀ (l : List Oper) (fs : List Bool) (k j : Nat) (o : Oper), (j, o) ∈ clR k l fs ↔ k ≤ j ∧ l[j - k]? = some o ∧ fs[j - k]? = some false
  | [], fs, k, j, o => by cases fs <;> simp [clR]
  | _ :: _, [], k, j, o => by simp [clR]
  | p :: l, b :: fs, k, j, o => by
    have ih := clR_mem l fs (k + 1) j o
    have key : k + 1 ≤ j ∧ l[j - (k + 1)]? = some o ∧ fs[j - (k + 1)]? = some false ↔ k < j ∧ (p :: l)[j - k]? = some o ∧ (b :: fs)[j - k]? = some false := by
      constructor
      · rintro ⟨h1, h2, h3⟩
        rw [show j - k = (j - (k + 1)) + 1 by omega]
        exact ⟨by omega, by simpa using h2, by simpa using h3⟩
      · rintro ⟨h1, h2, h3⟩
        rw [show j - k = (j - (k + 1)) + 1 by omega] at h2 h3
        exact ⟨by omega, by simpa using h2, by simpa using h3⟩
    unfold clR
    cases b with
    | false =>
      simp only [Bool.false_eq_true, if_false, List.mem_cons, ih, key]
      constructor
      · rintro (h | ⟨h1, h2, h3⟩)
        · injection h with h1 h2; subst h1 h2; simp
        · exact ⟨by omega, h2, h3⟩
      · rintro ⟨h1, h2, h3⟩
        rcases Nat.lt_or_ge k j with h | h
        · exact .inr ⟨h, h2, h3⟩
        · have : j = k := by omega
          subst this
          simp at h2
          exact .inl (by rw [h2])
    | true =>
      simp only [if_true, ih, key]
      constructor
      · rintro ⟨h1, h2, h3⟩; exact ⟨by omega, h2, h3⟩
      · rintro ⟨h1, h2, h3⟩
        rcases Nat.lt_or_ge k j with h | h
        · exact ⟨h, h2, h3⟩
        · have : j = k := by omega
          subst this
          simp at h3
theorem flR_pair : ∀ (l : List Oper) (fs : List Bool) (k : Nat), (flR k l fs).Pairwise fun p q => p.1 < q.1
  | [], fs, k => by cases fs <;> simp [flR]
  | _ :: _, [], k => by simp [flR]
  | p :: l, b :: fs, k => by
    unfold flR
    split
    · exact List.pairwise_cons.2 ⟨fun q hq => by have := (flR_mem l fs (k + 1) q.1 q.2).1 hq; show k < q.1; omega, flR_pair l fs (k + 1)⟩
    · exact flR_pair l fs (k + 1)
theorem clR_pair : ∀ (l : List Oper) (fs : List Bool) (k : Nat), (clR k l fs).Pairwise fun p q => p.1 < q.1
  | [], fs, k => by cases fs <;> simp [clR]
  | _ :: _, [], k => by simp [clR]
  | p :: l, b :: fs, k => by
    unfold clR
    split
    · exact clR_pair l fs (k + 1)
    · exact List.pairwise_cons.2 ⟨fun q hq => by have := (clR_mem l fs (k + 1) q.1 q.2).1 hq; show k < q.1; omega, clR_pair l fs (k + 1)⟩
/-- All that writes waits for it. -/
def modeA (ops : Array Oper) (cl : List (Nat × Oper)) (j : Nat) : Bool := match cl with
  | [] => true
  | (c, _) :: _ => ancB ops ops.size c j
def bareOps (ρ : Operand → V) (o : Op) : Bool := o.operands.all fun x => bareV (ρ x)
/-- Does what writes make boxes of its own, and fill these alone? -/
def ownSt (cl : List (Nat × Oper)) : Bool := cl.all fun p => match p.2.op with
  | .alloc _ => true
  | .store _ (.tmp t) _ => cl.any fun q => q.2.dst == some t && (match q.2.op with | .alloc _ => true | _ => false)
  | _ => false
def lowN (cl : List (Nat × Oper)) (H : List E2) : Nat := if ownSt cl = true then H.length else 0
/-- The boxes that speak of no block of the call's own. -/
def maskE : E2 → E2
  | .box l T => if l.all immV = true then .box l T else .dead
  | _ => .dead
def lowV (n : Nat) : V → Bool
  | .box id _ => decide (id < n)
  | .boxi id _ _ _ _ _ => decide (id < n)
  | x => bareV x
def lowOps (n : Nat) (ρ : Operand → V) (o : Op) : Bool := o.operands.all fun x => lowV n (ρ x)
/-- Does it leave the first entries as they are? -/
def keepB (n : Nat) (H : List E2) (ρ : Operand → V) (o : Op) : Bool := n == 0 || (decide (n ≤ H.length) && match o with
  | .alloc _ => true
  | .store _ a _ => (match ρ a with | .box id _ => decide (n ≤ id) | .boxi id _ _ _ _ _ => decide (n ≤ id) | _ => false)
  | _ => false)
def lowEq (n : Nat) (H H' : List E2) : Prop := ∀ i, i < n → H'[i]? = H[i]?
open Classical in
theorem evS2_low {P : Program} {F : Fns R} {mv : Bool × Bool} {n : Nat} {H : List E2} {ρ : Operand → V} {o : Op} {k : V → List E2 → Tree R} (h : keepB n H ρ o = true) :
    evS2 P F mv H ρ o k = evS2 P F mv H ρ o fun r H' => if lowEq n H H' then k r H' else .fail := by
  unfold keepB at h
  rcases Nat.eq_zero_or_pos n with rfl | hn
  · have : (fun r H' => if lowEq 0 H H' then k r H' else .fail) = k := by
      funext r H'
      rw [if_pos (show lowEq 0 H H' from fun i hi => absurd hi (Nat.not_lt_zero i))]
    rw [this]
  · have hz : (n == 0) = false := by simp; omega
    rw [hz, Bool.false_or, Bool.and_eq_true, decide_eq_true_eq] at h
    obtain ⟨hl, h⟩ := h
    split at h
    · have hp : ∀ e, lowEq n H (H ++ [e]) := fun e i hi => by rw [List.getElem?_append_left (by omega)]
      simp only [evS2, evW2, allocK]
      cases zeroP P _ with
      | none => rfl
      | some v => simp only [hp, if_true]
    · rename_i t a x
      have hp : ∀ id e, n ≤ id → lowEq n H (H.set id e) := fun id e hid i hi => by rw [List.getElem?_set_ne (by omega)]
      simp only [evS2, evW2, storeK]
      split at h
      · rename_i id off he
        have hid : n ≤ id := by simpa using h
        simp only [he, hp _ _ hid, if_true]
      · rename_i id off d m i oo he
        have hid : n ≤ id := by simpa using h
        simp only [he, hp _ _ hid, if_true]
      · cases h
    · cases h
open Classical in
theorem evI_low {P : Program} {Γ : Env R} {C : CallI R} {mv : Bool × Bool} {n : Nat} {H : List E2} {sl : List V} {o : Op} {k : V → List E2 → Tree R} (h : keepB n H (opV sl) o = true) :
    evI P Γ C mv ⟨sl, H⟩ o k = evI P Γ C mv ⟨sl, H⟩ o fun r H' => if lowEq n H H' then k r H' else .fail := by
  rcases Nat.eq_zero_or_pos n with rfl | hn
  · have : (fun r H' => if lowEq 0 H H' then k r H' else .fail) = k := by
      funext r H'
      rw [if_pos (show lowEq 0 H H' from fun i hi => absurd hi (Nat.not_lt_zero i))]
    rw [this]
  · have h' := h
    unfold keepB at h'
    have hz : (n == 0) = false := by simp; omega
    rw [hz, Bool.false_or, Bool.and_eq_true, decide_eq_true_eq] at h'
    obtain ⟨hl, h'⟩ := h'
    split at h'
    · exact evS2_low (F := Γ.fns) (mv := mv) h
    · exact evS2_low (F := Γ.fns) (mv := mv) h
    · cases h'
/-- Without what stands in these entries. -/
def maskW (W : List Nat) : Nat → List E2 → List E2
  | _, [] => []
  | i, e :: H => (if W.contains i = true then .dead else e) :: maskW W (i + 1) H
theorem maskW_get (W : List Nat) : ∀ (H : List E2) (k i : Nat), (maskW W k H)[i]? = (H[i]?).map fun e => if W.contains (k + i) = true then .dead else e
  | [], k, i => by simp [maskW]
  | e :: H, k, 0 => by simp [maskW]
  | e :: H, k, i + 1 => by
    rw [maskW, List.getElem?_cons_succ, maskW_get W H (k + 1) i, List.getElem?_cons_succ]
    rw [show k + 1 + i = k + (i + 1) by omega]
theorem maskW_length (W : List Nat) : ∀ (H : List E2) (k : Nat), (maskW W k H).length = H.length
  | [], k => rfl
  | e :: H, k => by rw [maskW, List.length_cons, maskW_length W H, List.length_cons]
/-- The entry of which an address is, as far as the region's start tells. -/
def baseO (sl : List V) (ops : List Oper) : Nat → Operand → Option Nat
  | 0, _ => none
  | n + 1, a => (match opV sl a with
    | .box id _ => some id
    | .boxi id _ _ _ _ _ => some id
    | _ => (match a with
      | .tmp t => (match ops.find? (fun o => o.dst == some t) with
        | some o => (match o.op with
          | .fieldAddr _ x _ => baseO sl ops n x
          | .indexAddr _ x _ => baseO sl ops n x
          | .move x => baseO sl ops n x
          | _ => none)
        | none => none)
      | _ => none))
/-- The entries that stores fill, where nothing else writes. -/
def wrIds (ops : List Oper) (sl : List V) : List (Nat × Oper) → Option (List Nat)
  | [] => some []
  | (_, o) :: l => match o.op with
    | .store _ a _ => (match baseO sl ops 6 a, wrIds ops sl l with
      | some id, some W => some (id :: W)
      | _, _ => none)
    | _ => none
/-- Does it write these entries alone? -/
def keepW (W : Option (List Nat)) (ρ : Operand → V) (o : Op) : Bool := match W with
  | none => true
  | some W => (match o with
    | .store _ a _ => (match ρ a with | .box id _ => W.contains id | .boxi id _ _ _ _ _ => W.contains id | _ => false)
    | _ => false)
def offEq (W : List Nat) (H H' : List E2) : Prop := H'.length = H.length ∧ ∀ i, W.contains i = false → H'[i]? = H[i]?
def offW (W : Option (List Nat)) (H H' : List E2) : Prop := ∀ W', W = some W' → offEq W' H H'
open Classical in
theorem evI_off {P : Program} {Γ : Env R} {C : CallI R} {mv : Bool × Bool} {W : Option (List Nat)} {H : List E2} {sl : List V} {o : Op} {k : V → List E2 → Tree R} (h : keepW W (opV sl) o = true) :
    evI P Γ C mv ⟨sl, H⟩ o k = evI P Γ C mv ⟨sl, H⟩ o fun r H' => if offW W H H' then k r H' else .fail := by
  cases W with
  | none =>
    have : (fun r H' => if offW none H H' then k r H' else .fail) = k := by
      funext r H'
      rw [if_pos (show offW none H H' from fun W' h => by cases h)]
    rw [this]
  | some W =>
    unfold keepW at h
    simp only at h
    split at h
    · rename_i t a x
      have hp : ∀ id e, W.contains id = true → offW (some W) H (H.set id e) := fun id e hid W' hW => by
        injection hW with hW
        subst hW
        refine ⟨by simp, fun i hi => ?_⟩
        have hne : id ≠ i := fun e => by subst e; rw [hid] at hi; cases hi
        rw [List.getElem?_set_ne hne]
      show evS2 P Γ.fns mv H (opV sl) (.store t a x) k = evS2 P Γ.fns mv H (opV sl) (.store t a x) _
      simp only [evS2, evW2, storeK]
      split at h
      · rename_i id off he
        simp only [he, hp _ _ h, if_true]
      · rename_i id off d m i oo he
        simp only [he, hp _ _ h, if_true]
      · cases h
    · cases h
/-- It reads nothing: an address is counted on; or a whole array, as a slice. -/
def addrB (ρ : Operand → V) : Op → Bool
  | .fieldAddr _ _ _ => true
  | .nilCheck _ => true
  | .move _ => true
  | .assign _ => true
  | .slice _ x none none none => (match ρ x with | .box _ 0 => true | _ => false)
  | .indexAddr _ x _ => (match ρ x with | .box _ _ => true | _ => false)
  | _ => false
/-- An element's address in a box: nothing is read. -/
theorem indexAddrK_okA {P : Program} {H : List E2} {ρ : Operand → V} {o : Oper} {t : TypeId} {x i : Operand} {k : V → Tree R} {res : R} {id off : Nat} (hp : Plain ρ o) (ho : o.op = .indexAddr t x i) (hx : ρ x = .box id off) (h : (indexAddrK P H t (ρ x) (ρ i) k).run = some res) : ∃ r, (k r).run = some res ∧ ∀ H', Does P H' ρ o r := by
  unfold indexAddrK at h
  split at h
  · rw [hx] at h
    simp only [viewL] at h
    cases h
  · rename_i m e kk z hnoel hat hi
    rw [hx] at h
    split at h
    · cases h
    · rename_i hc
      simp only at h
      split at h
      · rename_i l T' hH
        split at h
        · rename_i d n a rr hs
          split at h
          · rename_i hwd
            rcases Tree.run_ite h with ⟨hb, h⟩ | ⟨_, h⟩
            · have hz := of_decide_eq_true hb
              exact ⟨_, h, fun H' n0 Bx w B η ρv inv he => .of rfl (fun _ _ h => by simp [ex, ex0] at h) (indexArr_ok (ρA := fun y => ex (ρ y)) (he_of hp he) ho (arrT_spec hat) (by simp only [hi]; rfl) hz hc (by simp [hx, ex, ex0, addOff, hwd.1]))⟩
            · cases h
          · cases h
        · rcases Tree.run_ite h with ⟨hb, h⟩ | ⟨_, h⟩
          · have hz := of_decide_eq_true hb
            exact ⟨_, h, fun H' n0 Bx w B η ρv inv he => .of rfl (fun _ _ h => by simp [ex, ex0] at h) (indexArr_ok (ρA := fun y => ex (ρ y)) (he_of hp he) ho (arrT_spec hat) (by simp only [hi]; rfl) hz hc (by simp [hx, ex, ex0, addOff]))⟩
          · cases h
      · cases h
  · cases h
def evFr (P : Program) (F : Fns R) (ops : Array Oper) (cl : List (Nat × Oper)) (W : Option (List Nat)) (H : List E2) : List (Nat × Oper) → List V → (List V → Tree R) → Tree R
  | [], sl, k => k sl
  | (j, o) :: rest, sl, k => wantK ops sl o
    (fun sl => if modeA ops cl j = true then evNF P F H (opV sl) o.op fun r => forceL (setV sl o.dst r) fun sl' => evFr P F ops cl W H rest sl' k
      else if bareOps (opV sl) o.op = true then evNF P F [] (opV sl) o.op fun r => forceL (setV sl o.dst r) fun sl' => evFr P F ops cl W H rest sl' k
      else if addrB (opV sl) o.op = true then evNF P F H (opV sl) o.op fun r => forceL (setV sl o.dst r) fun sl' => evFr P F ops cl W H rest sl' k
      else if lowN cl H = H.length ∧ lowOps H.length (opV sl) o.op = true then evNF P F (H.map maskE) (opV sl) o.op fun r => forceL (setV sl o.dst r) fun sl' => evFr P F ops cl W H rest sl' k
      else match W with
        | some W' => evNF P F (maskW W' 0 H) (opV sl) o.op fun r => forceL (setV sl o.dst r) fun sl' => evFr P F ops cl W H rest sl' k
        | none => .fail)
    (fun sl => forceL (setV sl o.dst (.c undef)) fun sl' => evFr P F ops cl W H rest sl' k)
def evChL (P : Program) (Γ : Env R) (C : CallI R) (mv : Bool × Bool) (ops : Array Oper) (n : Nat) (W : Option (List Nat)) : List (Nat × Oper) → S2 → (S2 → Tree R) → Tree R
  | [], st, k => k st
  | (j, o) :: rest, st, k => wantK ops st.slots o
    (fun sl => if keepB n st.heap (opV sl) o.op = true ∧ keepW W (opV sl) o.op = true then evI P Γ C mv ⟨sl, st.heap⟩ o.op fun r H' => forceL (setV sl o.dst r) fun sl' => evChL P Γ C mv ops n W rest ⟨sl', H'⟩ k else .fail)
    (fun sl => forceL (setV sl o.dst (.c undef)) fun sl' => evChL P Γ C mv ops n W rest ⟨sl', st.heap⟩ k)
def evCh (P : Program) (Γ : Env R) (C : CallI R) (mv : Bool × Bool) (ops : Array Oper) (W : Option (List Nat)) (l : List (Nat × Oper)) (st : S2) (k : S2 → Tree R) : Tree R := evChL P Γ C mv ops (lowN l st.heap) W l st k
def Wt (ops : Array Oper) (o : Oper) (sl : List V) (b : Bool) : Prop := ∀ (w : World) (B : List Nat) (η : List Value) (tmps : Array Value), sl.length = tmps.size → (∀ d, guardSlot ops o = some d → Rel2 w B η (sl.getD d .any) (tmps.getD d undef)) → Region.wanted o (yielded ops tmps) = b
def OpsN (P : Program) (H : List E2) (o : Oper) (sl : List V) (r : V) : Prop := ∀ (n0 : Nat) (Bx : List Nat) (w : World) (B : List Nat) (η : List Value) (ρv : Operand → Value), (∀ f, ρv (.func f) = .func (.func f) #[] #[]) → Inv n0 Bx w B η (H.map exE) → (∀ x ∈ o.op.operands, Rel2 w B η (opV sl x) (ρv x) ∧ FreshV n0 (ex (opV sl x)) (ρv x)) → OpK P n0 w ρv o B η r
def OpsC (P : Program) (H : List E2) (o : Oper) (sl : List V) (r : V) (H' : List E2) : Prop := ∀ (n0 : Nat) (Bx : List Nat) (w : World) (B : List Nat) (η : List Value) (ρv : Operand → Value), (∀ f, ρv (.func f) = .func (.func f) #[] #[]) → Inv n0 Bx w B η (H.map exE) → (∀ x ∈ o.op.operands, Rel2 w B η (opV sl x) (ρv x) ∧ FreshV n0 (ex (opV sl x)) (ρv x)) → OpS2 P n0 Bx w ρv o B η r H'
def T1 (P : Program) (ops : Array Oper) (cl : List (Nat × Oper)) (W : Option (List Nat)) (H : List E2) : List (Nat × Oper) → List V → List V → Prop
  | [], sl, sl' => sl' = sl
  | (j, o) :: rest, sl, sl' => ∃ b r, Wt ops o sl b ∧ (b = true → (modeA ops cl j = true ∧ OpsN P H o sl r) ∨ ((∀ x ∈ o.op.operands, bareV (opV sl x) = true) ∧ OpsN P [] o sl r) ∨ (∀ H', OpsN P H' o sl r) ∨ (lowN cl H = H.length ∧ (∀ x ∈ o.op.operands, lowV H.length (opV sl x) = true) ∧ OpsN P (H.map maskE) o sl r) ∨ (∃ W', W = some W' ∧ OpsN P (maskW W' 0 H) o sl r)) ∧ (b = false → r = .c undef) ∧ T1 P ops cl W H rest (setV sl o.dst r) sl'
def T2 (P : Program) (ops : Array Oper) (n : Nat) (W : Option (List Nat)) : List (Nat × Oper) → S2 → S2 → Prop
  | [], st, st' => st' = st
  | (j, o) :: rest, st, st' => ∃ b r H', Wt ops o st.slots b ∧ (b = true → OpsC P st.heap o st.slots r H') ∧ (b = false → r = .c undef ∧ H' = st.heap) ∧ (lowEq n st.heap H' ∧ offW W st.heap H') ∧ T2 P ops n W rest ⟨setV st.slots o.dst r, H'⟩ st'
theorem addr_ok {P : Program} {F : Fns R} {H : List E2} {sl : List V} {o : Oper} {k : V → Tree R} {res : R} (ha : addrB (opV sl) o.op = true) (h : (evNF P F H (opV sl) o.op k).run = some res) : ∃ r, (k r).run = some res ∧ ∀ H', OpsN P H' o sl r := by
  obtain ⟨op, ho⟩ : ∃ op, o.op = op := ⟨_, rfl⟩
  rw [ho] at ha h
  unfold addrB at ha
  split at ha
  · rename_i s x f
    unfold evNF evN at h
    simp only at h
    split at h
    · rename_i hpl
      unfold evN1 at h
      simp only at h
      obtain ⟨r, h1, h2⟩ := fieldAddrK_okA (o := o) (fun y hy => by rw [ho] at hy; exact Array.all_eq_true'.1 hpl y hy) ho h
      exact ⟨r, h1, fun H' n0 Bx w B η ρv _ inv he => h2 H' n0 Bx w B η ρv inv he⟩
    · cases h
  · rename_i x
    unfold evNF evN at h
    simp only at h
    split at h
    · rename_i hpl
      unfold evN1 at h
      simp only at h
      obtain ⟨r, h1, h2⟩ := nilCheckK_okA (P := P) (o := o) (fun y hy => by rw [ho] at hy; exact Array.all_eq_true'.1 hpl y hy) ho h
      exact ⟨r, h1, fun H' n0 Bx w B η ρv _ inv he => h2 H' n0 Bx w B η ρv inv he⟩
    · cases h
  · rename_i x
    unfold evNF evN at h
    simp only at h
    exact ⟨_, h, fun H' n0 Bx w B η ρv _ inv he => does_move (x := x) (fun w ρv => by simp [execOp, ho]) (by simp [ho, Op.operands]) rfl n0 Bx w B η ρv inv he⟩
  · rename_i x
    unfold evNF evN at h
    simp only at h
    exact ⟨_, h, fun H' n0 Bx w B η ρv _ inv he => does_move (x := x) (fun w ρv => by simp [execOp, ho]) (by simp [ho, Op.operands]) rfl n0 Bx w B η ρv inv he⟩
  · rename_i t x
    split at ha
    · rename_i id hx
      unfold evNF evN at h
      simp only at h
      split at h
      · rename_i hpl
        have hp : Plain (opV sl) o := fun y hy => by rw [ho] at hy; exact Array.all_eq_true'.1 hpl y hy
        unfold evN1 at h
        simp only [hx] at h
        split at h
        · rename_i m e hat
          unfold sliceArrK at h
          simp only at h
          split at h
          · rename_i hc
            exact ⟨_, h, fun H' n0 Bx w B η ρv _ inv he => sliceBox_ok hp ho (arrT_spec hat) hx hc H' n0 Bx w B η ρv inv he⟩
          · cases h
        · rename_i hs
          cases hs
        · unfold sliceK at h
          split at h
          · simp only [viewL] at h
            cases h
          · cases h
      · cases h
    · cases ha
  · rename_i t x i
    split at ha
    · rename_i id off hx
      unfold evNF evN at h
      simp only at h
      split at h
      · rename_i hpl
        have hp : Plain (opV sl) o := fun y hy => by rw [ho] at hy; exact Array.all_eq_true'.1 hpl y hy
        unfold evN1 at h
        simp only at h
        obtain ⟨r, h1, h2⟩ := indexAddrK_okA (o := o) hp ho hx h
        exact ⟨r, h1, fun H' n0 Bx w B η ρv _ inv he => h2 H' n0 Bx w B η ρv inv he⟩
      · cases h
    · cases ha
  · cases ha
theorem evFr_ok {P : Program} {F : Fns R} (hF : FnsOK P F) {ops : Array Oper} {cl : List (Nat × Oper)} {W : Option (List Nat)} {H : List E2} : ∀ (l : List (Nat × Oper)) (sl : List V) (k : List V → Tree R) (res : R), (evFr P F ops cl W H l sl k).run = some res → ∃ sl', (k sl').run = some res ∧ T1 P ops cl W H l sl sl'
  | [], sl, k, res, h => ⟨sl, h, rfl⟩
  | (j, o) :: rest, sl, k, res, h => by
    unfold evFr at h
    obtain ⟨b, h1, hwant⟩ := wantK_ok h
    clear h
    cases b with
    | true =>
      simp only [if_true] at h1
      split at h1
      · rename_i hA
        obtain ⟨r, h2, h3⟩ := evNF_ok hF h1
        rw [forceL_eq] at h2
        obtain ⟨sl', h4, h5⟩ := evFr_ok hF rest _ k res h2
        exact ⟨sl', h4, true, r, hwant, fun _ => .inl ⟨hA, h3⟩, nofun, h5⟩
      · split at h1
        · rename_i hb
          obtain ⟨r, h2, h3⟩ := evNF_ok hF h1
          rw [forceL_eq] at h2
          obtain ⟨sl', h4, h5⟩ := evFr_ok hF rest _ k res h2
          exact ⟨sl', h4, true, r, hwant, fun _ => .inr (.inl ⟨fun x hx => Array.all_eq_true'.1 hb x hx, h3⟩), nofun, h5⟩
        · split at h1
          · rename_i hb
            obtain ⟨r, h2, h3⟩ := addr_ok hb h1
            rw [forceL_eq] at h2
            obtain ⟨sl', h4, h5⟩ := evFr_ok hF rest _ k res h2
            exact ⟨sl', h4, true, r, hwant, fun _ => .inr (.inr (.inl h3)), nofun, h5⟩
          · split at h1
            · rename_i hb
              obtain ⟨r, h2, h3⟩ := evNF_ok hF h1
              rw [forceL_eq] at h2
              obtain ⟨sl', h4, h5⟩ := evFr_ok hF rest _ k res h2
              exact ⟨sl', h4, true, r, hwant, fun _ => .inr (.inr (.inr (.inl ⟨hb.1, fun x hx => Array.all_eq_true'.1 hb.2 x hx, h3⟩))), nofun, h5⟩
            · split at h1
              · rename_i W'
                obtain ⟨r, h2, h3⟩ := evNF_ok hF h1
                rw [forceL_eq] at h2
                obtain ⟨sl', h4, h5⟩ := evFr_ok hF rest _ k res h2
                exact ⟨sl', h4, true, r, hwant, fun _ => .inr (.inr (.inr (.inr ⟨W', rfl, h3⟩))), nofun, h5⟩
              · cases h1
    | false =>
      simp only [Bool.false_eq_true, if_false] at h1
      rw [forceL_eq] at h1
      obtain ⟨sl', h4, h5⟩ := evFr_ok hF rest _ k res h1
      exact ⟨sl', h4, false, _, hwant, nofun, fun _ => rfl, h5⟩
theorem evChL_ok {P : Program} {Γ : Env R} (hF : FnsOK P Γ.fns) {C : CallI R} (hC : CallIOK P C) {mv : Bool × Bool} {ops : Array Oper} {n : Nat} {W : Option (List Nat)} : ∀ (l : List (Nat × Oper)) (st : S2) (k : S2 → Tree R) (res : R), (evChL P Γ C mv ops n W l st k).run = some res → ∃ st', (k st').run = some res ∧ T2 P ops n W l st st'
  | [], st, k, res, h => ⟨st, h, rfl⟩
  | (j, o) :: rest, st, k, res, h => by
    unfold evChL at h
    obtain ⟨b, h1, hwant⟩ := wantK_ok h
    clear h
    cases b with
    | true =>
      simp only [if_true] at h1
      split at h1
      · rename_i hk
        rw [evI_low hk.1, evI_off hk.2] at h1
        obtain ⟨r, H', h2, h3⟩ := evI_okC hF hC h1
        split at h2
        case isFalse => cases h2
        rename_i hoff
        split at h2
        · rename_i hlow
          rw [forceL_eq] at h2
          obtain ⟨st', h4, h5⟩ := evChL_ok hF hC rest _ k res h2
          exact ⟨st', h4, true, r, H', hwant, fun _ => h3, nofun, ⟨hlow, hoff⟩, h5⟩
        · cases h2
      · cases h1
    | false =>
      simp only [Bool.false_eq_true, if_false] at h1
      rw [forceL_eq] at h1
      obtain ⟨st', h4, h5⟩ := evChL_ok hF hC rest _ k res h1
      exact ⟨st', h4, false, _, _, hwant, nofun, fun _ => ⟨rfl, rfl⟩, ⟨fun _ _ => rfl, fun _ _ => ⟨rfl, fun _ _ => rfl⟩⟩, h5⟩
theorem evCh_ok {P : Program} {Γ : Env R} (hF : FnsOK P Γ.fns) {C : CallI R} (hC : CallIOK P C) {mv : Bool × Bool} {ops : Array Oper} {W : Option (List Nat)} (l : List (Nat × Oper)) (st : S2) (k : S2 → Tree R) (res : R) (h : (evCh P Γ C mv ops W l st k).run = some res) : ∃ st', (k st').run = some res ∧ T2 P ops (lowN l st.heap) W l st st' := evChL_ok hF hC l st k res h
/-! ### What the canonical run leaves in each slot -/
theorem getD_setV {sl : List V} {d : Option Tmp} {r : V} {t : Nat} (h : d ≠ some t) : (setV sl d r).getD t .any = sl.getD t .any := by
  cases d with
  | none => rfl
  | some u =>
    have : u ≠ t := fun e => h (by rw [e])
    simp [setV, List.getD_eq_getElem?_getD, List.getElem?_set_ne this]
theorem length_setV (sl : List V) (d : Option Tmp) (r : V) : (setV sl d r).length = sl.length := by cases d <;> simp [setV]
variable {P : Program} {ops : Array Oper} {cl : List (Nat × Oper)} {W : Option (List Nat)} {H : List E2}
theorem T1.keep : ∀ {l : List (Nat × Oper)} {sl sl' : List V}, T1 P ops cl W H l sl sl' → sl'.length = sl.length ∧ ∀ t, (∀ p ∈ l, p.2.dst ≠ some t) → sl'.getD t .any = sl.getD t .any
  | [], sl, sl', h => by
    have h : sl' = sl := h
    subst h; exact ⟨rfl, fun _ _ => rfl⟩
  | (j, o) :: rest, sl, sl', h => by
    obtain ⟨b, r, _, _, _, h5⟩ := h
    obtain ⟨k1, k2⟩ := T1.keep h5
    exact ⟨by rw [k1, length_setV], fun t ht => by rw [k2 t (fun p hp => ht p (List.mem_cons_of_mem _ hp)), getD_setV (ht (j, o) List.mem_cons_self)]⟩
theorem T2.low {n : Nat} : ∀ {l : List (Nat × Oper)} {st st' : S2}, T2 P ops n W l st st' → lowEq n st.heap st'.heap
  | [], st, st', h => by
    have h : st' = st := h
    subst h; exact fun _ _ => rfl
  | (j, o) :: rest, st, st', h => by
    obtain ⟨b, r, H', _, _, _, h4, h5⟩ := h
    exact fun i hi => (T2.low h5 i hi).trans (h4.1 i hi)
theorem T2.off {n : Nat} : ∀ {l : List (Nat × Oper)} {st st' : S2}, T2 P ops n W l st st' → offW W st.heap st'.heap
  | [], st, st', h => by
    have h : st' = st := h
    subst h; exact fun _ _ => ⟨rfl, fun _ _ => rfl⟩
  | (j, o) :: rest, st, st', h => by
    obtain ⟨b, r, H', _, _, _, h4, h5⟩ := h
    exact fun W' hW => ⟨(T2.off h5 W' hW).1.trans (h4.2 W' hW).1, fun i hi => ((T2.off h5 W' hW).2 i hi).trans ((h4.2 W' hW).2 i hi)⟩
theorem T2.keep {n : Nat} : ∀ {l : List (Nat × Oper)} {st st' : S2}, T2 P ops n W l st st' → st'.slots.length = st.slots.length ∧ ∀ t, (∀ p ∈ l, p.2.dst ≠ some t) → st'.slots.getD t .any = st.slots.getD t .any
  | [], st, st', h => by
    have h : st' = st := h
    subst h; exact ⟨rfl, fun _ _ => rfl⟩
  | (j, o) :: rest, st, st', h => by
    obtain ⟨b, r, H', _, _, _, _, h5⟩ := h
    obtain ⟨k1, k2⟩ := T2.keep h5
    exact ⟨by rw [k1, length_setV], fun t ht => by rw [k2 t (fun p hp => ht p (List.mem_cons_of_mem _ hp)), getD_setV (ht (j, o) List.mem_cons_self)]⟩
theorem T1.cut : ∀ {l1 l2 : List (Nat × Oper)} {sl sl' : List V}, T1 P ops cl W H (l1 ++ l2) sl sl' → ∃ m, T1 P ops cl W H l1 sl m ∧ T1 P ops cl W H l2 m sl'
  | [], l2, sl, sl', h => ⟨sl, rfl, h⟩
  | (j, o) :: l1, l2, sl, sl', h => by
    obtain ⟨b, r, h2, h3, h4, h5⟩ := h
    obtain ⟨m, k1, k2⟩ := T1.cut h5
    exact ⟨m, ⟨b, r, h2, h3, h4, k1⟩, k2⟩
theorem T2.cut {n : Nat} : ∀ {l1 l2 : List (Nat × Oper)} {st st' : S2}, T2 P ops n W (l1 ++ l2) st st' → ∃ m, T2 P ops n W l1 st m ∧ T2 P ops n W l2 m st'
  | [], l2, st, st', h => ⟨st, rfl, h⟩
  | (j, o) :: l1, l2, st, st', h => by
    obtain ⟨b, r, H', h2, h3, h4, h4', h5⟩ := h
    obtain ⟨m, k1, k2⟩ := T2.cut h5
    exact ⟨m, ⟨b, r, H', h2, h3, h4, h4', k1⟩, k2⟩
theorem T2.snoc {n : Nat} : ∀ {l1 : List (Nat × Oper)} {j : Nat} {o : Oper} {st m st' : S2}, T2 P ops n W l1 st m → T2 P ops n W [(j, o)] m st' → T2 P ops n W (l1 ++ [(j, o)]) st st'
  | [], j, o, st, m, st', h1, h2 => by
    have h1 : m = st := h1
    subst h1; exact h2
  | (i, p) :: l1, j, o, st, m, st', h1, h2 => by
    obtain ⟨b, r, H', a1, a2, a3, a3', a4⟩ := h1
    exact ⟨b, r, H', a1, a2, a3, a3', T2.snoc a4 h2⟩
/-! ### In whatever order -/
def chainB2 (ops : Array Oper) : List (Nat × Oper) → Bool
  | c :: c' :: r => ancB ops ops.size c'.1 c.1 && chainB2 ops (c' :: r)
  | _ => true
def depB (ops : Array Oper) (fs : List Bool) : Bool :=
  (List.range ops.size).all fun j => (List.range ops.size).all fun i => match ops[i]?, ops[j]? with
    | some oi, some oj => (match oi.dst with
      | some t => !(oj.looksAt ops).contains t || i == j || (if fs.getD j false = true then (fs.getD i false || decide (j < i)) else (!fs.getD i false || decide (i < j)))
      | none => true)
    | _, _ => true
def frontsA (inl : FuncId → Bool) (ops : Array Oper) : List Bool := frontsOf inl ops ops.toList []
def drawB (inl : FuncId → Bool) (ops : Array Oper) : Bool :=
  Region.noSelect ops && backB ops && onceB ops ops.size && dataB ops ops.size && chainB2 ops (clR 0 ops.toList (frontsA inl ops)) && depB ops (frontsA inl ops) && ((frontsA inl ops).length == ops.size)
theorem chainB2_spec : ∀ (l : List (Nat × Oper)), chainB2 ops l = true → ∀ (m : Nat) p q, l[m]? = some p → l[m + 1]? = some q → ancB ops ops.size q.1 p.1 = true
  | [], _, m, p, q, h1, h2 => by simp at h1
  | [c], _, m, p, q, h1, h2 => by simp at h2
  | c :: c' :: r, h, m, p, q, h1, h2 => by
    simp only [chainB2, Bool.and_eq_true] at h
    cases m with
    | zero => simp at h1 h2; subst h1 h2; exact h.1
    | succ m => exact chainB2_spec (c' :: r) h.2 m p q (by simpa using h1) (by simpa using h2)
theorem depB_spec {fs : List Bool} (h : depB ops fs = true) {i j : Nat} {oi oj : Oper} {t : Tmp} (hi : ops[i]? = some oi) (hj : ops[j]? = some oj) (hd : oi.dst = some t) (hl : t ∈ oj.looksAt ops) (hne : i ≠ j) :
    if fs.getD j false = true then (fs.getD i false = true ∨ j < i) else (fs.getD i false = false ∨ i < j) := by
  have := List.all_eq_true.1 (List.all_eq_true.1 h j (List.mem_range.2 (Array.getElem?_eq_some_iff.1 hj).1)) i (List.mem_range.2 (Array.getElem?_eq_some_iff.1 hi).1)
  simp only [hi, hj, hd, Bool.or_eq_true, beq_iff_eq, Bool.not_eq_true', List.contains_eq_mem, decide_eq_false_iff_not] at this
  rcases this with (h | h) | h
  · exact absurd hl h
  · exact absurd h hne
  · cases hf : fs.getD j false with
    | true => rw [hf] at h; simpa using h
    | false => rw [hf] at h; simpa using h
/-- Whoever is ready has all ahead of it listed. -/
theorem ready_anc {listed : Array Bool} (hcl : ∀ j oj, ops[j]? = some oj → listed.getD j false = true → ∀ e ∈ oj.after, Region.binds .any e = true → listed.getD e.on false = true) {j : Nat} {oj : Oper} (ho : ops[j]? = some oj) (hall : ∀ e ∈ oj.after, Region.binds .any e = true → listed.getD e.on false = true) {f i : Nat} (h : ancB ops f j i = true) : listed.getD i false = true := by
  cases f with
  | zero => cases h
  | succ f =>
    unfold ancB at h
    rw [ho] at h
    obtain ⟨e, he, hb⟩ := Array.any_eq_true'.1 h
    simp only [Bool.and_eq_true, Bool.or_eq_true, beq_iff_eq] at hb
    have h1 := hall e he hb.1
    rcases hb.2 with rfl | h2
    · exact h1
    · exact ancB_spec hcl f e.on i h2 h1
theorem mem_split {α : Type} {x : α} : ∀ {l : List α}, x ∈ l → ∃ l1 l2, l = l1 ++ x :: l2
  | y :: l, h => by
    rcases List.mem_cons.1 h with rfl | h
    · exact ⟨[], l, rfl⟩
    · obtain ⟨l1, l2, e⟩ := mem_split h
      exact ⟨y :: l1, l2, by rw [e]; rfl⟩
/-- What holds, whichever have come up. -/
def DInv (P : Program) (ops : Array Oper) (cl : List (Nat × Oper)) (W : Option (List Nat)) (sl0 sl1 : List V) (H0 : List E2) (st2 : S2) (n0 m0 : Nat) (Bx : List Nat) (ds : List Deferred) (w0 : World) (B0 : List Nat) (η0 : List Value) (listed : Array Bool) (a : Act) (w : World) : Prop :=
  ∃ (k : Nat) (st : S2) (B : List Nat) (η : List Value), T2 P ops (lowN cl H0) W (cl.take k) ⟨sl1, H0⟩ st ∧ T2 P ops (lowN cl H0) W (cl.drop k) st st2 ∧ k ≤ cl.length ∧ (∀ (m : Nat) p, cl[m]? = some p → (listed.getD p.1 false = true ↔ m < k)) ∧
    a.defers = ds ∧ a.tmps.size = sl0.length ∧ Inv n0 Bx w B η (st.heap.map exE) ∧ Goes n0 m0 w0 B0 η0 w B η ∧
    ∀ t, ((∃ i, (ops[i]?).bind (·.dst) = some t ∧ listed.getD i false = true) → Rel2 w B η (st2.slots.getD t .any) (a.tmps.getD t undef) ∧ FreshV n0 (ex (st2.slots.getD t .any)) (a.tmps.getD t undef)) ∧
      ((∀ i, (ops[i]?).bind (·.dst) = some t → listed.getD i false = false) → Rel2 w B η (sl0.getD t .any) (a.tmps.getD t undef) ∧ FreshV n0 (ex (sl0.getD t .any)) (a.tmps.getD t undef))
end
section
variable {R : Type} {P : Program} {ops : Array Oper} {W : Option (List Nat)}
theorem once' (honce : onceB ops ops.size = true) {i j : Nat} {t : Tmp} (h1 : (ops[i]?).bind (·.dst) = some t) (h2 : (ops[j]?).bind (·.dst) = some t) : i = j := by
  have s1 : i < ops.size := by obtain ⟨o, ho, _⟩ := Option.bind_eq_some_iff.1 h1; exact (Array.getElem?_eq_some_iff.1 ho).1
  have s2 : j < ops.size := by obtain ⟨o, ho, _⟩ := Option.bind_eq_some_iff.1 h2; exact (Array.getElem?_eq_some_iff.1 ho).1
  exact onceB_spec honce s1 s2 h1 h2
theorem put_getD (a : Act) (d : Option Tmp) (v : Value) (t : Nat) (h : d ≠ some t) : (a.put d v).tmps.getD t undef = a.tmps.getD t undef := by
  cases d with
  | none => rfl
  | some u =>
    have hne : u ≠ t := fun e => h (by rw [e])
    simp [Act.put, Array.getD_eq_getD_getElem?, Array.getElem?_setIfInBounds_ne hne]
theorem put_size (a : Act) (d : Option Tmp) (v : Value) : (a.put d v).tmps.size = a.tmps.size := by cases d <;> simp [Act.put]
theorem put_defers' (a : Act) (d : Option Tmp) (v : Value) : (a.put d v).defers = a.defers := by cases d <;> rfl
/-- The slot that an operation fills: what stands in it. -/
theorem put_own {w : World} {B : List Nat} {η : List Value} {n0 : Nat} {a : Act} {sl : List V} {d : Tmp} {v : Value} {r : V} (hsz : a.tmps.size = sl.length) (hr : Rel2 w B η r v) (hf : FreshV n0 (ex r) v) {x : V} (hx : d < sl.length → x = r) (hx2 : sl.length ≤ d → x = .any) : Rel2 w B η x ((a.put (some d) v).tmps.getD d undef) ∧ FreshV n0 (ex x) ((a.put (some d) v).tmps.getD d undef) := by
  rcases Nat.lt_or_ge d sl.length with h | h
  · rw [hx h]
    have : (a.put (some d) v).tmps.getD d undef = v := by
      simp [Act.put, Array.getD_eq_getD_getElem?, Array.getElem?_setIfInBounds_self_of_lt (show d < a.tmps.size by rw [hsz]; exact h)]
    rw [this]; exact ⟨hr, hf⟩
  · rw [hx2 h]; exact ⟨trivial, fun h => by cases h⟩
theorem getD_over {l : List V} {t : Nat} (h : l.length ≤ t) : l.getD t .any = .any := by
  rw [List.getD_eq_getElem?_getD, List.getElem?_eq_none h]; rfl
theorem setV_own {sl : List V} {d : Tmp} {r : V} (h : d < sl.length) : (setV sl (some d) r).getD d .any = r := by
  simp [setV, List.getD_eq_getElem?_getD, h]
theorem dinv_step {fs : List Bool} {cl fl : List (Nat × Oper)} (hcl : cl = clR 0 ops.toList fs) (hfl : fl = flR 0 ops.toList fs) (hsel : Region.noSelect ops = true) (hback : backB ops = true) (honce : onceB ops ops.size = true) (hdata : dataB ops ops.size = true) (hchain : chainB2 ops cl = true) (hdep : depB ops fs = true) (hfsl : fs.length = ops.size)
    {sl0 sl1 : List V} {H0 : List E2} {st2 : S2} {n0 m0 : Nat} {Bx : List Nat} {ds : List Deferred} {w0 : World} {B0 : List Nat} {η0 : List Value} {Q : Exit → Act → World → Prop}
    (h1 : T1 P ops cl W H0 fl sl0 sl1) (h2 : T2 P ops (lowN cl H0) W cl ⟨sl1, H0⟩ st2) :
    ∀ (listed : Array Bool) (a : Act) (w : World) (j : Nat), HeadInv .any ops ops.size listed → DInv P ops cl W sl0 sl1 H0 st2 n0 m0 Bx ds w0 B0 η0 listed a w → j ∈ Region.ready .any ops listed → ∀ K : Act → World → Prop, (∀ a' w', DInv P ops cl W sl0 sl1 H0 st2 n0 m0 Bx ds w0 B0 η0 (listed.setIfInBounds j true) a' w' → K a' w') → wpOp P ops Q j K a w := by
  intro listed a w j hi inv hj K hK
  obtain ⟨hjun, oj, hoj, hall⟩ := mem_ready.1 hj
  have hjs : j < ops.size := (Array.getElem?_eq_some_iff.1 hoj).1
  have hjl : j < listed.size := by rw [hi.size]; exact hjs
  have hjunF : listed.getD j false = false := by simp [hjl] at hjun ⊢; exact hjun
  obtain ⟨k, st, B, η, ht1, ht2, hk, hprog, hdef, hsz, hinv, hgo, hslot⟩ := inv
  have hfsj : ∀ i, i < ops.size → ∃ b, fs[i]? = some b := fun i hi => ⟨_, List.getElem?_eq_getElem (by rw [hfsl]; exact hi)⟩
  have hfsd : ∀ i b, fs[i]? = some b → fs.getD i false = b := fun i b h => by rw [List.getD_eq_getElem?_getD, h]; rfl
  have inF : ∀ i o, (i, o) ∈ fl ↔ ops[i]? = some o ∧ fs[i]? = some true := fun i o => by rw [hfl, flR_mem]; simp
  have inC : ∀ i o, (i, o) ∈ cl ↔ ops[i]? = some o ∧ fs[i]? = some false := fun i o => by rw [hcl, clR_mem]; simp
  have hlen1 := h1.keep.1
  have hlen2 := h2.keep.1
  simp only at hlen2
  -- who writes t, and is it listed?
  have wr : ∀ t ∈ oj.looksAt ops, ∀ (i : Nat) (oi : Oper), ops[i]? = some oi → oi.dst = some t → i = j ∨ (i < j ∧ listed.getD i false = true) ∨ (j < i ∧ listed.getD i false = false) := fun t ht i oi hoi hd => by
    rcases dataB_spec hdata (Array.getElem?_eq_some_iff.1 hoi).1 hjs (by rw [hoi]; exact hd) hoj ht with h | ⟨h1, h2⟩ | ⟨h1, h2⟩
    · exact .inl h
    · obtain ⟨o', ho', e, he, hb, hon⟩ := Region.waitsFor_spec h2
      have : o' = oj := by rw [hoj] at ho'; exact (Option.some.inj ho').symm
      subst this
      exact .inr (.inl ⟨h1, by rw [← hon]; exact hall e he hb⟩)
    · refine .inr (.inr ⟨h1, ?_⟩)
      cases hli : listed.getD i false with
      | false => rfl
      | true => have := ancB_spec hi.closed _ i j h2 hli; rw [hjunF] at this; cases this
  -- what is in a slot of the end, if it is not written by the others
  have end1 : ∀ (t : Tmp), (∀ (i : Nat) (o : Oper), (i, o) ∈ cl → o.dst ≠ some t) → st2.slots.getD t .any = sl1.getD t .any := fun t h => h2.keep.2 t (fun p hp => h p.1 p.2 hp)
  have ini1 : ∀ (t : Tmp), (∀ (i : Nat) (o : Oper), (i, o) ∈ fl → o.dst ≠ some t) → sl1.getD t .any = sl0.getD t .any := fun t h => h1.keep.2 t (fun p hp => h p.1 p.2 hp)
  have noC : ∀ (t : Tmp) (i : Nat) (oi : Oper), ops[i]? = some oi → oi.dst = some t → fs[i]? = some true → ∀ i' o', (i', o') ∈ cl → o'.dst ≠ some t := fun t i oi hoi hd hf i' o' hm hd' => by
    obtain ⟨q1, q2⟩ := (inC i' o').1 hm
    have := once' honce (show (ops[i]?).bind (·.dst) = some t by rw [hoi]; exact hd) (show (ops[i']?).bind (·.dst) = some t by rw [q1]; exact hd')
    subst this; rw [hf] at q2; cases q2
  have noF : ∀ (t : Tmp) (i : Nat) (oi : Oper), ops[i]? = some oi → oi.dst = some t → fs[i]? = some false → ∀ i' o', (i', o') ∈ fl → o'.dst ≠ some t := fun t i oi hoi hd hf i' o' hm hd' => by
    obtain ⟨q1, q2⟩ := (inF i' o').1 hm
    have := once' honce (show (ops[i]?).bind (·.dst) = some t by rw [hoi]; exact hd) (show (ops[i']?).bind (·.dst) = some t by rw [q1]; exact hd')
    subst this; rw [hf] at q2; cases q2
  have noW : ∀ (t : Tmp), (¬ ∃ (i : Nat) (oi : Oper), ops[i]? = some oi ∧ oi.dst = some t) → (∀ (i : Nat) (o : Oper), (i, o) ∈ fl → o.dst ≠ some t) ∧ (∀ (i : Nat) (o : Oper), (i, o) ∈ cl → o.dst ≠ some t) := fun t h =>
    ⟨fun i o hm hd => h ⟨i, o, ((inF i o).1 hm).1, hd⟩, fun i o hm hd => h ⟨i, o, ((inC i o).1 hm).1, hd⟩⟩
  have hnoT : ∀ (t : Tmp), (¬ ∃ (i : Nat) (oi : Oper), ops[i]? = some oi ∧ oi.dst = some t) → ∀ i, (ops[i]?).bind (·.dst) = some t → listed.getD i false = false := fun t h i hd => by
    obtain ⟨o, ho, hd⟩ := Option.bind_eq_some_iff.1 hd
    exact absurd ⟨i, o, ho, hd⟩ h
  -- if the slots that it looks at read as slc does, and it does as said, the rest is as said
  have fin : ∀ (st' : S2) (slc : List V) (b : Bool) (r : V) (k' : Nat), slc.length = sl0.length → Wt ops oj slc b →
      (∀ t ∈ oj.looksAt ops, Rel2 w B η (slc.getD t .any) (a.tmps.getD t undef) ∧ FreshV n0 (ex (slc.getD t .any)) (a.tmps.getD t undef)) →
      (b = true → (∀ x ∈ oj.op.operands, Rel2 w B η (opV slc x) (a.eval x) ∧ FreshV n0 (ex (opV slc x)) (a.eval x)) → OpS2 P n0 Bx w a.eval oj B η r st'.heap) → (b = false → r = .c undef ∧ st'.heap = st.heap) →
      T2 P ops (lowN cl H0) W (cl.take k') ⟨sl1, H0⟩ st' → T2 P ops (lowN cl H0) W (cl.drop k') st' st2 → k' ≤ cl.length → (∀ (m : Nat) p, cl[m]? = some p → ((listed.setIfInBounds j true).getD p.1 false = true ↔ m < k')) →
      (∀ t, oj.dst = some t → t < sl0.length → st2.slots.getD t .any = r) → wpOp P ops Q j K a w := by
    intro st' slc b r k' hslc hwt hlook hdo hno htk htd hkl hpr hown
    have heval : ∀ x ∈ oj.op.operands, Rel2 w B η (opV slc x) (a.eval x) ∧ FreshV n0 (ex (opV slc x)) (a.eval x) := fun x hx => by
      cases x with
      | tmp t => exact hlook t (List.mem_append_left _ (List.mem_filterMap.2 ⟨.tmp t, by simpa using hx, rfl⟩))
      | const v =>
        refine ⟨Rel2.of (constV_plain v) ?_, fun h => ?_⟩
        · show Rel w B η (ex (constV v)) v
          rw [constV_ex]; exact .c _ _
        · simp only [opV, constV_ex, isFresh] at h; cases h
      | global g => exact opG_rel hinv.base.2 g
      | func f => exact ⟨⟨[], rfl, rfl, fun i c h => by simp at h⟩, fun h => by cases h⟩
    have hw := hwt w B η a.tmps (by rw [hslc, hsz]) (fun d hd => (hlook d (by
      unfold guardSlot at hd
      split at hd
      · rename_i g want hg
        exact List.mem_append_right _ (by simp [hg, hd])
      · cases hd)).1)
    -- the invariant behind it
    have next : ∀ v w' B' η', On B w w' → (∀ b ∈ B', b ∈ B ∨ w.heap.size ≤ b) → (∀ (id : Nat) v, η[id]? = some v → η'[id]? = some v) → Below n0 w w' → Inv n0 Bx w' B' η' (st'.heap.map exE) → Rel2 w' B' η' r v → FreshV n0 (ex r) v → K (a.put oj.dst v) w' := by
      intro v w' B' η' g1 g2 g3 g4 g5 g6 g7
      refine hK _ _ ⟨k', st', B', η', htk, htd, hkl, hpr, by rw [put_defers']; exact hdef, by rw [put_size]; exact hsz, g5, hgo.trans ⟨g1, g2, fun id v _ hv => g3 id v hv, g4⟩, fun t => ?_⟩
      by_cases hdt : oj.dst = some t
      · refine ⟨fun _ => ?_, fun hno => ?_⟩
        · rw [hdt]
          exact put_own (sl := sl0) hsz g6 g7 (fun h => hown t hdt h) (fun h => getD_over (by rw [hlen2, hlen1]; exact h))
        · have := hno j (by rw [hoj]; exact hdt)
          simp [hjl] at this
      · rw [put_getD a oj.dst v t hdt]
        have hne : ∀ i, (ops[i]?).bind (·.dst) = some t → (listed.setIfInBounds j true).getD i false = listed.getD i false := fun i hd => by
          refine getD_set_ne false (fun e => hdt ?_)
          subst e
          rw [hoj] at hd; exact hd
        refine ⟨fun ⟨i, hd, hli⟩ => ?_, fun hno => ?_⟩
        · have := (hslot t).1 ⟨i, hd, by rw [← hne i hd]; exact hli⟩
          exact ⟨this.1.on g1 g2 g3, this.2⟩
        · have := (hslot t).2 (fun i hd => by rw [← hne i hd]; exact hno i hd)
          exact ⟨this.1.on g1 g2 g3, this.2⟩
    unfold wpOp
    simp only [hoj]
    rw [hw]
    cases b with
    | true =>
      rw [if_pos rfl]
      exact .inl (val_wp (hdo rfl heval _ next))
    | false =>
      obtain ⟨rfl, hh⟩ := hno rfl
      rw [if_neg (by simp)]
      exact next undef w B η (On.refl B w) (fun _ h => .inl h) (fun _ _ h => h) (Below.refl _ _) (by rw [hh]; exact hinv) (Rel.c _ _) (fun h => by cases h)
  obtain ⟨bj, hbj⟩ := hfsj j hjs
  cases bj with
  | true =>
    -- one in front
    obtain ⟨l1, l2, hsp⟩ := mem_split ((inF j oj).2 ⟨hoj, hbj⟩)
    have hpw := flR_pair ops.toList fs 0
    rw [← hfl, hsp] at hpw
    obtain ⟨pw1, pw2, pw3⟩ := List.pairwise_append.1 hpw
    have pl1 : ∀ i o, (i, o) ∈ l1 → i < j := fun i o hm => pw3 (i, o) hm (j, oj) List.mem_cons_self
    have pl2 : ∀ i o, (i, o) ∈ l2 → j < i := fun i o hm => (List.pairwise_cons.1 pw2).1 (i, o) hm
    rw [hsp] at h1
    obtain ⟨slc, q1, b, r, q2, q3, q4, q5⟩ := h1.cut
    have hmemF : ∀ i o, (i, o) ∈ fl → (i, o) ∈ l1 ∨ (i, o) = (j, oj) ∨ (i, o) ∈ l2 := fun i o hm => by rw [hsp] at hm; simpa using hm
    have hlook : ∀ t ∈ oj.looksAt ops, Rel2 w B η (slc.getD t .any) (a.tmps.getD t undef) ∧ FreshV n0 (ex (slc.getD t .any)) (a.tmps.getD t undef) := fun t ht => by
      by_cases hw : ∃ (i : Nat) (oi : Oper), ops[i]? = some oi ∧ oi.dst = some t
      · obtain ⟨i, oi, hoi, hd⟩ := hw
        have uniq : ∀ i' o', ops[i']? = some o' → o'.dst = some t → i' = i := fun i' o' h h' => once' honce (show (ops[i']?).bind (·.dst) = some t by rw [h]; exact h') (show (ops[i]?).bind (·.dst) = some t by rw [hoi]; exact hd)
        have initial : listed.getD i false = false → (∀ p ∈ l1, p.2.dst ≠ some t) → Rel2 w B η (slc.getD t .any) (a.tmps.getD t undef) ∧ FreshV n0 (ex (slc.getD t .any)) (a.tmps.getD t undef) := fun hun hno => by
          rw [q1.keep.2 t hno]
          exact (hslot t).2 (fun i' hd' => by
            obtain ⟨o', ho', hd'⟩ := Option.bind_eq_some_iff.1 hd'
            rw [uniq i' o' ho' hd']; exact hun)
        have notin : ¬ i < j → ∀ p ∈ l1, p.2.dst ≠ some t := fun hlt p hp hd' => by
          have hpf : p ∈ fl := by rw [hsp]; simp [hp]
          have := uniq p.1 p.2 ((inF p.1 p.2).1 hpf).1 hd'
          have h3 := pl1 p.1 p.2 hp
          omega
        rcases wr t ht i oi hoi hd with h | ⟨hlt, hli⟩ | ⟨hlt, hun⟩
        · subst h; exact initial hjunF (notin (by omega))
        · have hdp := depB_spec hdep hoi hoj hd ht (by omega)
          rw [hfsd j true hbj, if_pos rfl] at hdp
          obtain ⟨bi, hbi⟩ := hfsj i (Array.getElem?_eq_some_iff.1 hoi).1
          rw [hfsd i bi hbi] at hdp
          have hbi' : fs[i]? = some true := by
            rcases hdp with h | h
            · rw [hbi, h]
            · omega
          have hE : slc.getD t .any = st2.slots.getD t .any := by
            rw [end1 t (noC t i oi hoi hd hbi')]
            refine (T1.keep (l := (j, oj) :: l2) ⟨b, r, q2, q3, q4, q5⟩).2 t (fun p hp hd' => ?_) |>.symm
            have hpf : p ∈ fl := by rw [hsp]; exact List.mem_append_right _ hp
            have h4 := uniq p.1 p.2 ((inF p.1 p.2).1 hpf).1 hd'
            rcases List.mem_cons.1 hp with h | h
            · rw [h] at h4; simp only at h4; omega
            · have := pl2 p.1 p.2 h; omega
          rw [hE]
          exact (hslot t).1 ⟨i, by rw [hoi]; exact hd, hli⟩
        · exact initial hun (notin (by omega))
      · have := noW t hw
        rw [q1.keep.2 t (fun p hp => this.1 p.1 p.2 (by rw [hsp]; simp [hp]))]
        exact (hslot t).2 (hnoT t hw)
    refine fin st slc b r k q1.keep.1 q2 hlook (fun hb he => ?_) (fun hb => ⟨q4 hb, rfl⟩) ht1 ht2 hk (fun m p hp => ?_) (fun t hd htl => ?_)
    · have toS2 : OpK P n0 w a.eval oj B η r → OpS2 P n0 Bx w a.eval oj B η r st.heap := fun h N hN =>
        h N (fun v w' g hr hf => hN v w' B η g.on (fun _ h => .inl h) (fun _ _ h => h) (g.below hinv.base.1) (hinv.gk g) hr hf)
      rcases q3 hb with ⟨hA, hop⟩ | ⟨hbare, hop⟩ | hop | ⟨hlow, hlv, hop⟩ | ⟨W', hW, hop⟩
      rotate_right
      · have hoff := ht1.off W' hW
        refine toS2 (hop n0 Bx w B η a.eval (fun f => rfl) (hinv.le (by simp [maskW_length, hoff.1]) (fun i e' he' => ?_)) he)
        rw [List.getElem?_map, maskW_get, Option.map_map, Option.map_eq_some_iff] at he'
        obtain ⟨e0, h5, rfl⟩ := he'
        by_cases hc : W'.contains (0 + i) = true
        · have hlt : i < st.heap.length := by rw [hoff.1]; exact (List.getElem?_eq_some_iff.1 h5).1
          exact ⟨exE st.heap[i], by rw [List.getElem?_map, List.getElem?_eq_getElem hlt]; rfl, .inl (by simp only [Function.comp, hc, if_true]; rfl)⟩
        · have h6 := hoff.2 i (by simpa using hc)
          rw [show (⟨sl1, H0⟩ : S2).heap = H0 from rfl, h5] at h6
          exact ⟨exE e0, by rw [List.getElem?_map, h6]; rfl, .inr (.inl (by simp only [Function.comp, hc]; rfl))⟩
      · -- all that writes waits for it
        have hk0 : k = 0 := by
          cases hcc : cl with
          | nil => rw [hcc] at hk; simpa using hk
          | cons p rest =>
            obtain ⟨c, co⟩ := p
            rw [hcc] at hA
            rcases Nat.eq_zero_or_pos k with h | h
            · exact h
            · have h5 := (hprog 0 (c, co) (by rw [hcc]; rfl)).2 h
              have h6 := ancB_spec hi.closed _ c j hA h5
              rw [hjunF] at h6; cases h6
        subst hk0
        have hst : st = ⟨sl1, H0⟩ := ht1
        rw [hst] at hinv
        exact toS2 (hop n0 Bx w B η a.eval (fun f => rfl) hinv he)
      rotate_left
      · exact toS2 (hop st.heap n0 Bx w B η a.eval (fun f => rfl) hinv he)
      · have hkeep := ht1.low
        rw [hlow] at hkeep
        have hle : H0.length ≤ η.length := by
          rw [hinv.len, List.length_map]
          rcases Nat.eq_zero_or_pos H0.length with h | h
          · omega
          · have h5 := hkeep (H0.length - 1) (by omega)
            rw [show (⟨sl1, H0⟩ : S2).heap = H0 from rfl, List.getElem?_eq_getElem (show H0.length - 1 < H0.length by omega)] at h5
            have := (List.getElem?_eq_some_iff.1 h5).1
            omega
        have hg : ∀ id, id < H0.length → (η.take H0.length).getD id undef = η.getD id undef := fun id hid => by
          simp [List.getD_eq_getElem?_getD, List.getElem?_take, hid]
        have hent : ∀ id e, ((H0.map maskE).map exE)[id]? = some e → id < H0.length ∧ ((st.heap.map exE)[id]? = some e ∨ e = .dead) ∧ ∀ cells T, e = .box cells T → cells.all AV.imm0 = true := fun id e he => by
          rw [List.getElem?_map, List.getElem?_map, Option.map_map, Option.map_eq_some_iff] at he
          obtain ⟨e0, h5, rfl⟩ := he
          have hid := (List.getElem?_eq_some_iff.1 h5).1
          have h6 := hkeep id hid
          rw [show (⟨sl1, H0⟩ : S2).heap = H0 from rfl, h5] at h6
          refine ⟨hid, ?_⟩
          cases e0 with
          | dead => exact ⟨.inr rfl, fun cells T h => by cases h⟩
          | own d l E => exact ⟨.inr rfl, fun cells T h => by cases h⟩
          | itr s p => exact ⟨.inr rfl, fun cells T h => by cases h⟩
          | box l T =>
            by_cases hl : l.all immV = true
            · have hm : exE (maskE (.box l T)) = exE (.box l T) := by simp only [maskE, hl, if_true]
              refine ⟨.inl ?_, fun cells T' h => ?_⟩
              · show (st.heap.map exE)[id]? = some (exE (maskE (.box l T)))
                rw [hm, List.getElem?_map, h6]; rfl
              · have h : exE (maskE (.box l T)) = _ := h
                rw [hm] at h
                injection h with h7 h8
                rw [← h7]; exact immV_ok l hl
            · have hm : exE (maskE (.box l T)) = .dead := by simp only [maskE, hl]; rfl
              refine ⟨.inr hm, fun cells T' h => ?_⟩
              have h : exE (maskE (.box l T)) = _ := h
              rw [hm] at h; cases h
        have hinv0 : Inv n0 Bx w B (η.take H0.length) ((H0.map maskE).map exE) := by
          refine ⟨by simp; omega, hinv.base, hinv.sub, hinv.lt, fun id e he => ?_, fun i j ei ej hij hi' hj' li lj b hb => ?_⟩
          · obtain ⟨hid, h5, h6⟩ := hent id e he
            rw [hg id hid]
            rcases h5 with h5 | rfl
            · have h7 := hinv.ent id e h5
              cases e with
              | dead => trivial
              | box cells T =>
                obtain ⟨b, us, g1, g2, g3, g4, g5, g6⟩ := h7
                exact ⟨b, us, g1, g2, g3, g4, g5, g6.1, fun i x hx => by
                  obtain ⟨u, e1, e2⟩ := g6.2 i x hx
                  exact ⟨u, e1, e2.bare0 (List.all_eq_true.1 (h6 cells T rfl) x (List.mem_of_getElem? hx))⟩⟩
              | own cells E k =>
                exfalso
                rw [List.getElem?_map, List.getElem?_map, Option.map_map, Option.map_eq_some_iff] at he
                obtain ⟨e0, _, h9⟩ := he
                cases e0 with
                | dead => cases h9
                | own d l E => cases h9
                | itr s p => cases h9
                | box l T =>
                  simp only [Function.comp, maskE] at h9
                  split at h9 <;> cases h9
              | itr s p =>
                exfalso
                rw [List.getElem?_map, List.getElem?_map, Option.map_map, Option.map_eq_some_iff] at he
                obtain ⟨e0, _, h9⟩ := he
                cases e0 with
                | dead => cases h9
                | own d l E => cases h9
                | itr s p => cases h9
                | box l T =>
                  simp only [Function.comp, maskE] at h9
                  split at h9 <;> cases h9
            · trivial
          · obtain ⟨a1, a2, _⟩ := hent i ei hi'
            obtain ⟨b1, b2, _⟩ := hent j ej hj'
            rcases a2 with a2 | rfl
            · rcases b2 with b2 | rfl
              · rw [hg j b1]
                rw [hg i a1] at hb
                exact hinv.sep i j ei ej hij a2 b2 li lj b hb
              · cases lj
            · cases li
        have hsub : ∀ (id : Nat) v, (η.take H0.length)[id]? = some v → η[id]? = some v := fun id v hv => by
          rw [List.getElem?_take] at hv
          split at hv
          · exact hv
          · cases hv
        have hget : ∀ (id : Nat) v, id < H0.length → η[id]? = some v → (η.take H0.length)[id]? = some v := fun id v hid hv => by
          rw [List.getElem?_take, if_pos hid]; exact hv
        have hrel : ∀ (x : V) (v : Value), lowV H0.length x = true → Rel2 w B η x v → Rel2 w B (η.take H0.length) x v := fun x v hx hr => by
          unfold lowV at hx
          split at hx
          · have hr0 : Rel w B η (.box _ _) v := hr
            cases hr0 with
            | box _ _ _ b h => exact Rel.box _ _ _ b (hget _ _ (by simpa using hx) h)
          · have hr0 : Rel w B η (.box _ _) v := hr
            cases hr0 with
            | box _ _ _ b h => exact Rel.box _ _ _ b (hget _ _ (by simpa using hx) h)
          · exact bareV_rel hx hr
        refine toS2 fun N hN => hop n0 Bx w B (η.take H0.length) a.eval (fun f => rfl) hinv0 (fun x hx => ⟨hrel _ _ (hlv x hx) (he x hx).1, (he x hx).2⟩) N (fun v w' g hr hf => hN v w' g (hr.on (On.refl B w') (fun _ h => .inl h) hsub) hf)
      rotate_left
      · have hinv0 : Inv n0 Bx w B [] (([] : List E2).map exE) := ⟨rfl, hinv.base, hinv.sub, hinv.lt, fun id e h => by simp at h, fun i j ei ej _ h => by simp at h⟩
        refine toS2 fun N hN => hop n0 Bx w B [] a.eval (fun f => rfl) hinv0 (fun x hx => ⟨bareV_rel (hbare x hx) (he x hx).1, (he x hx).2⟩) N (fun v w' g hr hf => hN v w' g (hr.on (On.refl B w') (fun _ h => .inl h) (fun id v h => by simp at h)) hf)
    · have hmc := List.mem_of_getElem? hp
      have hne : j ≠ p.1 := fun e => by
        have := ((inC p.1 p.2).1 hmc).2
        rw [← e, hbj] at this; cases this
      rw [getD_set_ne false hne]
      exact hprog m p hp
    · rw [end1 t (noC t j oj hoj hd hbj)]
      have h6 := q5.keep.2 t (fun p hp hd' => by
        have hpf : p ∈ fl := by rw [hsp]; exact List.mem_append_right _ (List.mem_cons_of_mem _ hp)
        have := once' honce (show (ops[p.1]?).bind (·.dst) = some t by rw [((inF p.1 p.2).1 hpf).1]; exact hd') (show (ops[j]?).bind (·.dst) = some t by rw [hoj]; exact hd)
        have h3 := pl2 p.1 p.2 hp
        omega)
      rw [h6, hd, setV_own (by rw [q1.keep.1]; exact htl)]
  | false =>
    -- the next of the others
    obtain ⟨m, hm⟩ : ∃ m : Nat, cl[m]? = some (j, oj) := by
      obtain ⟨m, hm, e⟩ := List.getElem_of_mem ((inC j oj).2 ⟨hoj, hbj⟩)
      exact ⟨m, by rw [List.getElem?_eq_getElem hm, e]⟩
    have hmk : m = k := by
      have h5 : ¬ m < k := fun h => by
        have := (hprog m (j, oj) hm).2 h
        rw [hjunF] at this; cases this
      rcases Nat.lt_or_ge k m with h | h
      · have hm1 : m - 1 < cl.length := by have := (List.getElem?_eq_some_iff.1 hm).1; omega
        have h6 := chainB2_spec cl hchain (m - 1) _ _ (List.getElem?_eq_getElem hm1) (by rw [show m - 1 + 1 = m by omega]; exact hm)
        have h7 := ready_anc hi.closed hoj hall h6
        have h8 := (hprog (m - 1) _ (List.getElem?_eq_getElem hm1)).1 h7
        omega
      · omega
    subst hmk
    have hmlt : m < cl.length := (List.getElem?_eq_some_iff.1 hm).1
    have hdrop : cl.drop m = (j, oj) :: cl.drop (m + 1) := by
      rw [List.drop_eq_getElem_cons hmlt]
      rw [List.getElem?_eq_getElem hmlt] at hm
      injection hm with hm
      rw [hm]
    rw [hdrop] at ht2
    obtain ⟨b, r, H', q2, q3, q4, q4', q5⟩ := ht2
    have hpw := clR_pair ops.toList fs 0
    rw [← hcl] at hpw
    have htd : cl = cl.take m ++ (j, oj) :: cl.drop (m + 1) := by rw [← hdrop, List.take_append_drop]
    rw [htd] at hpw
    obtain ⟨pw1, pw2, pw3⟩ := List.pairwise_append.1 hpw
    have pl1 : ∀ i o, (i, o) ∈ cl.take m → i < j := fun i o hm => pw3 (i, o) hm (j, oj) List.mem_cons_self
    have pl2 : ∀ i o, (i, o) ∈ cl.drop (m + 1) → j < i := fun i o hm => (List.pairwise_cons.1 pw2).1 (i, o) hm
    have inCl : ∀ p, p ∈ cl.take m → p ∈ cl := fun p hp => List.mem_of_mem_take hp
    have inCd : ∀ p, p ∈ cl.drop (m + 1) → p ∈ cl := fun p hp => List.mem_of_mem_drop hp
    have hslen : st.slots.length = sl0.length := by rw [ht1.keep.1]; exact hlen1
    have hlook : ∀ t ∈ oj.looksAt ops, Rel2 w B η (st.slots.getD t .any) (a.tmps.getD t undef) ∧ FreshV n0 (ex (st.slots.getD t .any)) (a.tmps.getD t undef) := fun t ht => by
      by_cases hw : ∃ (i : Nat) (oi : Oper), ops[i]? = some oi ∧ oi.dst = some t
      · obtain ⟨i, oi, hoi, hd⟩ := hw
        have uniq : ∀ i' o', ops[i']? = some o' → o'.dst = some t → i' = i := fun i' o' h h' => once' honce (show (ops[i']?).bind (·.dst) = some t by rw [h]; exact h') (show (ops[i]?).bind (·.dst) = some t by rw [hoi]; exact hd)
        obtain ⟨bi, hbi⟩ := hfsj i (Array.getElem?_eq_some_iff.1 hoi).1
        have notin : ¬ i < j → ∀ p ∈ cl.take m, p.2.dst ≠ some t := fun hlt p hp hd' => by
          have := uniq p.1 p.2 ((inC p.1 p.2).1 (inCl p hp)).1 hd'
          have h3 := pl1 p.1 p.2 hp
          omega
        have initial : listed.getD i false = false → fs[i]? = some false → ¬ i < j → Rel2 w B η (st.slots.getD t .any) (a.tmps.getD t undef) ∧ FreshV n0 (ex (st.slots.getD t .any)) (a.tmps.getD t undef) := fun hun hf hlt => by
          rw [ht1.keep.2 t (notin hlt)]
          show Rel2 w B η (sl1.getD t .any) _ ∧ FreshV n0 (ex (sl1.getD t .any)) _
          rw [ini1 t (noF t i oi hoi hd hf)]
          exact (hslot t).2 (fun i' hd' => by
            obtain ⟨o', ho', hd'⟩ := Option.bind_eq_some_iff.1 hd'
            rw [uniq i' o' ho' hd']; exact hun)
        rcases wr t ht i oi hoi hd with h | ⟨hlt, hli⟩ | ⟨hlt, hun⟩
        · subst h; exact initial hjunF hbj (by omega)
        · have hE : st.slots.getD t .any = st2.slots.getD t .any := by
            refine (T2.keep (l := (j, oj) :: cl.drop (m + 1)) ⟨b, r, H', q2, q3, q4, q4', q5⟩).2 t (fun p hp hd' => ?_) |>.symm
            rcases List.mem_cons.1 hp with h | h
            · rw [h] at hd'
              have := uniq j oj hoj hd'
              omega
            · have h4 := uniq p.1 p.2 ((inC p.1 p.2).1 (inCd p h)).1 hd'
              have := pl2 p.1 p.2 h
              omega
          rw [hE]
          exact (hslot t).1 ⟨i, by rw [hoi]; exact hd, hli⟩
        · have hdp := depB_spec hdep hoi hoj hd ht (by omega)
          rw [hfsd j false hbj, if_neg (by simp), hfsd i bi hbi] at hdp
          refine initial hun ?_ (by omega)
          rcases hdp with h | h
          · rw [hbi, h]
          · omega
      · have := noW t hw
        rw [ht1.keep.2 t (fun p hp => this.2 p.1 p.2 (inCl p hp))]
        show Rel2 w B η (sl1.getD t .any) _ ∧ FreshV n0 (ex (sl1.getD t .any)) _
        rw [ini1 t this.1]
        exact (hslot t).2 (hnoT t hw)
    refine fin ⟨setV st.slots oj.dst r, H'⟩ st.slots b r (m + 1) hslen q2 hlook (fun hb he => q3 hb n0 Bx w B η a.eval (fun f => rfl) hinv he) (fun hb => ⟨(q4 hb).1, (q4 hb).2⟩) ?_ q5 hmlt (fun m' p hp => ?_) (fun t hd htl => ?_)
    · rw [List.take_add_one, hm]
      exact T2.snoc ht1 ⟨b, r, H', q2, q3, q4, q4', rfl⟩
    · by_cases he : p.1 = j
      · have hpm : m' = m := by
          have hmc := List.mem_of_getElem? hp
          have h9 : p = (j, oj) := by
            have := ((inC p.1 p.2).1 hmc).1
            rw [he, hoj] at this
            injection this with this
            exact Prod.ext he this.symm
          rw [h9] at hp
          obtain ⟨g1, g2⟩ := List.getElem?_eq_some_iff.1 hp
          obtain ⟨g3, g4⟩ := List.getElem?_eq_some_iff.1 hm
          have hnd : cl.Nodup := by
            have hpw' := clR_pair ops.toList fs 0
            rw [← hcl] at hpw'
            exact hpw'.imp (fun hlt e => by rw [e] at hlt; exact Nat.lt_irrefl _ hlt)
          exact (List.getElem_inj hnd).1 (g2.trans g4.symm)
        subst hpm
        rw [he]
        simp [hjl]
      · rw [getD_set_ne false (Ne.symm he), hprog m' p hp]
        constructor
        · intro h; omega
        · intro h
          rcases Nat.lt_or_ge m' m with h' | h'
          · exact h'
          · have : m' = m := by omega
            subst this
            rw [hm] at hp
            injection hp with hp
            exact absurd (by rw [← hp]) he
    · have h6 := q5.keep.2 t (fun p hp hd' => by
        have := once' honce (show (ops[p.1]?).bind (·.dst) = some t by rw [((inC p.1 p.2).1 (inCd p hp)).1]; exact hd') (show (ops[j]?).bind (·.dst) = some t by rw [hoj]; exact hd)
        have h3 := pl2 p.1 p.2 hp
        omega)
      simp only at h6
      rw [h6, hd, setV_own (by rw [hslen]; exact htl)]
theorem draw_ok (hm : P.follows .mixedOrders = true) {id : Nat} {inl : FuncId → Bool} (hB : drawB inl ops = true) {st0 st2 : S2} {sl1 : List V}
    (h1 : T1 P ops (clR 0 ops.toList (frontsA inl ops)) W st0.heap (flR 0 ops.toList (frontsA inl ops)) st0.slots sl1) (h2 : T2 P ops (lowN (clR 0 ops.toList (frontsA inl ops)) st0.heap) W (clR 0 ops.toList (frontsA inl ops)) ⟨sl1, st0.heap⟩ st2)
    {n0 m0 : Nat} {Bx : List Nat} {ds : List Deferred} {a : Act} {w : World} {B : List Nat} {η : List Value} {Q : Exit → Act → World → Prop} (hs : SimK n0 Bx ds st0 a w B η)
    (hQ : ∀ a' w' B' η', SimK n0 Bx ds st2 a' w' B' η' → Goes n0 m0 w B η w' B' η' → Q .normal a' w') : (Code.region id ops true).wp P Q a w := by
  refine wp_region_any hm ?_
  have g0 : Gr w { w with drawn := w.drawn + 1 } := ⟨rfl, rfl, rfl, Nat.le_refl _, fun _ _ => rfl⟩
  have hB' := hB
  simp only [drawB, Bool.and_eq_true, beq_iff_eq] at hB'
  obtain ⟨⟨⟨⟨⟨⟨hsel, hback⟩, honce⟩, hdata⟩, hchain⟩, hdep⟩, hfsl⟩ := hB'
  have hcount : ((List.range ops.size).filter fun i => !(Array.replicate ops.size false).getD i false).length = ops.size := by
    rw [List.filter_eq_self.2 (fun i _ => by rw [getD_replicate_false]; rfl), List.length_range]
  have inv0 : HeadInv .any ops ops.size (Array.replicate ops.size false) :=
    ⟨by simp, fun j oj _ hl => (by rw [getD_replicate_false] at hl; cases hl), fun t ht1 ht2 => by omega⟩
  refine wpAny_inv (DInv P ops (clR 0 ops.toList (frontsA inl ops)) W st0.slots sl1 st0.heap st2 n0 m0 Bx ds { w with drawn := w.drawn + 1 } B η) hback (dinv_step rfl rfl hsel hback honce hdata hchain hdep hfsl h1 h2) ?_ ops.size _ a _ hcount inv0 ?_
  · intro listed a' w' hi hall ⟨k, st, B', η', t1, t2, hk, hprog, hdef, hsz, hinv, hgo, hslot⟩
    have hkl : k = (clR 0 ops.toList (frontsA inl ops)).length := by
      rcases Nat.lt_or_ge k (clR 0 ops.toList (frontsA inl ops)).length with h | h
      · have h3 := hprog k _ (List.getElem?_eq_getElem h)
        have h4 := (clR_mem ops.toList (frontsA inl ops) 0 _ _).1 (List.getElem_mem h)
        have h5 : ((clR 0 ops.toList (frontsA inl ops))[k]).1 < ops.size := by
          have := (List.getElem?_eq_some_iff.1 h4.2.1).1
          simpa using this
        have := h3.1 (hall _ h5)
        omega
      · omega
    rw [hkl, List.drop_length] at t2
    have t2 : st2 = st := t2
    subst t2
    refine hQ a' w' B' η' ⟨hdef, hinv, ?_⟩ ⟨(On.gr g0).trans hgo.on (fun _ h => .inl h), fun b hb => hgo.hB b hb, hgo.hη, Below.trans (g0.mono hs.inv.base.1) hgo.below⟩
    have key : ∀ t, Rel2 w' B' η' (st2.slots.getD t .any) (a'.tmps.getD t undef) ∧ FreshV n0 (ex (st2.slots.getD t .any)) (a'.tmps.getD t undef) := fun t => by
      by_cases hw : ∃ (i : Nat) (oi : Oper), ops[i]? = some oi ∧ oi.dst = some t
      · obtain ⟨i, oi, hoi, hd⟩ := hw
        exact (hslot t).1 ⟨i, by rw [hoi]; exact hd, hall i (Array.getElem?_eq_some_iff.1 hoi).1⟩
      · have nf : ∀ p ∈ flR 0 ops.toList (frontsA inl ops), p.2.dst ≠ some t := fun p hp hd => hw ⟨p.1, p.2, by have := ((flR_mem ops.toList (frontsA inl ops) 0 p.1 p.2).1 hp).2.1; simpa using this, hd⟩
        have nc : ∀ p ∈ clR 0 ops.toList (frontsA inl ops), p.2.dst ≠ some t := fun p hp hd => hw ⟨p.1, p.2, by have := ((clR_mem ops.toList (frontsA inl ops) 0 p.1 p.2).1 hp).2.1; simpa using this, hd⟩
        rw [h2.keep.2 t nc]
        show Rel2 w' B' η' (sl1.getD t .any) _ ∧ FreshV n0 (ex (sl1.getD t .any)) _
        rw [h1.keep.2 t nf]
        exact (hslot t).2 (fun i hd => by
          obtain ⟨o, ho, hd⟩ := Option.bind_eq_some_iff.1 hd
          exact absurd ⟨i, o, ho, hd⟩ hw)
    refine ⟨?_, fun t => (key t).1, fun t => (key t).2⟩
    rw [hsz, h2.keep.1]
    exact h1.keep.1
  · refine ⟨0, ⟨sl1, st0.heap⟩, B, η, rfl, h2, Nat.zero_le _, fun m p hp => ⟨fun h => (by rw [getD_replicate_false] at h; cases h), fun h => by omega⟩, hs.defers, hs.slots.size.symm, hs.inv.gr g0, Goes.refl _ _ _ _ _, fun t => ⟨fun ⟨i, _, h⟩ => (by rw [getD_replicate_false] at h; cases h), fun _ => ⟨(hs.slots.rel t).gk (Gk.gr (n0 := n0) g0), hs.slots.fresh t⟩⟩⟩
end
end Go.Proofs.Ytcmekgfglohooaa
/-
  Regions that draw and declare boxes side by side: each box is made, and perhaps filled, for itself; all else looks at the old memory alone.
-/
namespace Go.Proofs.Ytcmekgfglohooaa
set_option maxRecDepth 100000
open Go.RowKit
set_option linter.unusedVariables false
set_option linter.unusedSimpArgs false

/-- A box that is declared. -/
structure Grp where
  j : Nat
  t : Tmp
  T : TypeId
  s : Option (Nat × Operand)
def storeTo (t : Tmp) (p : Nat × Oper) : Option (Nat × Operand) := match p.2.op with
  | .store _ (.tmp t') x => if t' = t then some (p.1, x) else none
  | _ => none
def grpsOf (cl : List (Nat × Oper)) : List (Nat × Oper) → List Grp
  | [] => []
  | (j, o) :: l => match o.op, o.dst with
    | .alloc T, some t => ⟨j, t, T, cl.findSome? (storeTo t)⟩ :: grpsOf cl l
    | _, _ => grpsOf cl l
def makesB (t : Tmp) (T : TypeId) (n : Nat) (q : Nat × Oper) : Bool := q.2.dst == some t && decide (q.1 < n) && (match q.2.op with | .alloc T' => T' == T | _ => false)
def declOp (cl : List (Nat × Oper)) (p : Nat × Oper) : Bool := p.2.guard.isNone && (match p.2.op, p.2.dst with
  | .alloc _, some _ => true
  | .store T (.tmp t) x, none => cl.any (makesB t T p.1) && (match x with | .tmp t' => cl.all (fun q => q.2.dst != some t') | _ => true) && cl.all fun q => (storeTo t q).isNone || q.1 == p.1
  | _, _ => false)
def declC (cl : List (Nat × Oper)) : Bool := cl.all (declOp cl)
/-- Are boxes declared side by side? -/
def declQ (inl : FuncId → Bool) (ops : Array Oper) : Bool := declC (clR 0 ops.toList (frontsA inl ops)) && !chainB2 ops (clR 0 ops.toList (frontsA inl ops))
def declB (inl : FuncId → Bool) (ops : Array Oper) : Bool :=
  declQ inl ops && (Region.noSelect ops && backB ops && onceB ops ops.size && dataB ops ops.size && depB ops (frontsA inl ops) && ((frontsA inl ops).length == ops.size))

section
variable {R : Type}
def zeroE (P : Program) (T : TypeId) (v : Value) : E2 := .box (packT P T (v.cells.toList.map constV)) T
def oneK (P : Program) (sl : List V) (g : Grp) (k : E2 → E2 → Tree R) : Tree R :=
  match zeroP P g.T with
  | none => .fail
  | some v => match g.s with
    | none => k (zeroE P g.T v) (zeroE P g.T v)
    | some (_, x) => match toSegs (opV sl x) with
      | none => .fail
      | some s => if wL s = P.cellsOf g.T ∧ 0 < P.cellsOf g.T ∧ s.all oneV = true then (match putV (packT P g.T (v.cells.toList.map constV)) 0 s with
        | some l' => k (zeroE P g.T v) (.box (packT P g.T l') g.T)
        | none => .fail) else .fail
def OneOK (P : Program) (sl : List V) (g : Grp) (y : E2 × E2) : Prop := ∃ v, zeroP P g.T = some v ∧ y.1 = zeroE P g.T v ∧ (g.s = none → y.2 = y.1) ∧
  ∀ i x, g.s = some (i, x) → ∃ s l', toSegs (opV sl x) = some s ∧ wL s = P.cellsOf g.T ∧ 0 < P.cellsOf g.T ∧ s.all oneV = true ∧ putV (packT P g.T (v.cells.toList.map constV)) 0 s = some l' ∧ y.2 = .box (packT P g.T l') g.T
theorem oneK_ok {P : Program} {sl : List V} {g : Grp} {k : E2 → E2 → Tree R} {res : R} (h : (oneK P sl g k).run = some res) : ∃ y : E2 × E2, (k y.1 y.2).run = some res ∧ OneOK P sl g y := by
  unfold oneK at h
  split at h
  · cases h
  · rename_i v hz
    split at h
    · rename_i hs
      exact ⟨(_, _), h, v, hz, rfl, fun _ => rfl, fun i x hx => by rw [hs] at hx; cases hx⟩
    · rename_i j x hs
      split at h
      · cases h
      · rename_i s hsg
        split at h
        · rename_i hc
          split at h
          · rename_i l' hput
            refine ⟨(_, _), h, v, hz, rfl, fun hn => (by rw [hs] at hn; cases hn), fun i x' hx => ?_⟩
            rw [hs] at hx
            injection hx with hx
            injection hx with hx1 hx2
            subst hx2
            exact ⟨s, l', hsg, hc.1, hc.2.1, hc.2.2, hput, rfl⟩
          · cases h
        · cases h
def grpsK (P : Program) (sl : List V) : List Grp → (List E2 → Tree R) → Tree R
  | [], k => k []
  | g :: gs, k => oneK P sl g fun _ f => grpsK P sl gs fun m => k (f :: m)
def YsOK (P : Program) (sl : List V) (gs : List Grp) (ys : List (E2 × E2)) : Prop := ys.length = gs.length ∧ ∀ (i : Nat) g y, gs[i]? = some g → ys[i]? = some y → OneOK P sl g y
theorem grpsK_ok {P : Program} {sl : List V} : ∀ {gs : List Grp} {k : List E2 → Tree R} {res : R}, (grpsK P sl gs k).run = some res → ∃ ys, (k (ys.map (·.2))).run = some res ∧ YsOK P sl gs ys
  | [], k, res, h => ⟨[], h, rfl, fun i g y hg => by simp at hg⟩
  | g :: gs, k, res, h => by
    unfold grpsK at h
    obtain ⟨y, h1, h2⟩ := oneK_ok h
    obtain ⟨ys, h3, h4, h5⟩ := grpsK_ok h1
    refine ⟨y :: ys, h3, by simp [h4], fun i g' y' hg hy => ?_⟩
    cases i with
    | zero => simp at hg hy; subst hg hy; exact h2
    | succ i => exact h5 i g' y' (by simpa using hg) (by simpa using hy)
def setG : List V → Nat → List Grp → List V
  | sl, _, [] => sl
  | sl, n, g :: gs => setG (sl.set g.t (.box n 0)) (n + 1) gs
theorem setG_length : ∀ (gs : List Grp) (sl : List V) (n : Nat), (setG sl n gs).length = sl.length
  | [], sl, n => rfl
  | g :: gs, sl, n => by rw [setG, setG_length gs]; simp
theorem setG_keep : ∀ (gs : List Grp) (sl : List V) (n : Nat) (t : Nat), (∀ g ∈ gs, g.t ≠ t) → (setG sl n gs).getD t .any = sl.getD t .any
  | [], sl, n, t, h => rfl
  | g :: gs, sl, n, t, h => by
    rw [setG, setG_keep gs _ _ t (fun g' hg => h g' (List.mem_cons_of_mem _ hg))]
    have := h g List.mem_cons_self
    simp [List.getD_eq_getElem?_getD, List.getElem?_set_ne this]
theorem setG_get : ∀ (gs : List Grp) (sl : List V) (n i : Nat) (g : Grp), gs[i]? = some g → (∀ i' g', gs[i']? = some g' → g'.t = g.t → i' = i) → g.t < sl.length → (setG sl n gs).getD g.t .any = .box (n + i) 0
  | [], sl, n, i, g, h, _, _ => by simp at h
  | g0 :: gs, sl, n, i, g, h, hu, hlt => by
    rw [setG]
    cases i with
    | zero =>
      simp at h; subst h
      rw [setG_keep gs _ _ _ (fun g' hg hc => by
        obtain ⟨i', hi', e⟩ := List.getElem_of_mem hg
        have := hu (i' + 1) g' (by rw [List.getElem?_cons_succ, List.getElem?_eq_getElem hi', e]) hc
        omega)]
      simp [List.getD_eq_getElem?_getD, hlt]
    | succ i =>
      rw [setG_get gs _ (n + 1) i g (by simpa using h) (fun i' g' hg hc => by have := hu (i' + 1) g' (by simpa using hg) hc; omega) (by simpa using hlt)]
      congr 1; omega
def declK (P : Program) (cl : List (Nat × Oper)) (sl : List V) (H : List E2) (k : S2 → Tree R) : Tree R :=
  if (grpsOf cl cl).all (fun g => decide (g.t < sl.length)) = true then grpsK P sl (grpsOf cl cl) fun m => forceL (setG sl H.length (grpsOf cl cl)) fun sl' => k ⟨sl', H ++ m⟩ else .fail
/-- Those in front: all look at the old memory. -/
def evFd (P : Program) (F : Fns R) (ops : Array Oper) (H : List E2) : List (Nat × Oper) → List V → (List V → Tree R) → Tree R
  | [], sl, k => k sl
  | (j, o) :: rest, sl, k => wantK ops sl o
    (fun sl => evNF P F H (opV sl) o.op fun r => forceL (setV sl o.dst r) fun sl' => evFd P F ops H rest sl' k)
    (fun sl => forceL (setV sl o.dst (.c undef)) fun sl' => evFd P F ops H rest sl' k)
def T1d (P : Program) (ops : Array Oper) (H : List E2) : List (Nat × Oper) → List V → List V → Prop
  | [], sl, sl' => sl' = sl
  | (j, o) :: rest, sl, sl' => ∃ b r, Wt ops o sl b ∧ (b = true → OpsN P H o sl r) ∧ (b = false → r = .c undef) ∧ T1d P ops H rest (setV sl o.dst r) sl'
theorem evFd_ok {P : Program} {F : Fns R} (hF : FnsOK P F) {ops : Array Oper} {H : List E2} : ∀ (l : List (Nat × Oper)) (sl : List V) (k : List V → Tree R) (res : R), (evFd P F ops H l sl k).run = some res → ∃ sl', (k sl').run = some res ∧ T1d P ops H l sl sl'
  | [], sl, k, res, h => ⟨sl, h, rfl⟩
  | (j, o) :: rest, sl, k, res, h => by
    unfold evFd at h
    obtain ⟨b, h1, hwant⟩ := wantK_ok h
    clear h
    cases b with
    | true =>
      simp only [if_true] at h1
      obtain ⟨r, h2, h3⟩ := evNF_ok hF h1
      rw [forceL_eq] at h2
      obtain ⟨sl', h4, h5⟩ := evFd_ok hF rest _ k res h2
      exact ⟨sl', h4, true, r, hwant, fun _ => h3, nofun, h5⟩
    | false =>
      simp only [Bool.false_eq_true, if_false] at h1
      rw [forceL_eq] at h1
      obtain ⟨sl', h4, h5⟩ := evFd_ok hF rest _ k res h1
      exact ⟨sl', h4, false, _, hwant, nofun, fun _ => rfl, h5⟩
end
section
variable {P : Program} {ops : Array Oper} {H : List E2}
theorem T1d.keep : ∀ {l : List (Nat × Oper)} {sl sl' : List V}, T1d P ops H l sl sl' → sl'.length = sl.length ∧ ∀ t, (∀ p ∈ l, p.2.dst ≠ some t) → sl'.getD t .any = sl.getD t .any
  | [], sl, sl', h => by
    have h : sl' = sl := h
    subst h; exact ⟨rfl, fun _ _ => rfl⟩
  | (j, o) :: rest, sl, sl', h => by
    obtain ⟨b, r, _, _, _, h5⟩ := h
    obtain ⟨k1, k2⟩ := T1d.keep h5
    exact ⟨by rw [k1, length_setV], fun t ht => by rw [k2 t (fun p hp => ht p (List.mem_cons_of_mem _ hp)), getD_setV (ht (j, o) List.mem_cons_self)]⟩
theorem T1d.cut : ∀ {l1 l2 : List (Nat × Oper)} {sl sl' : List V}, T1d P ops H (l1 ++ l2) sl sl' → ∃ m, T1d P ops H l1 sl m ∧ T1d P ops H l2 m sl'
  | [], l2, sl, sl', h => ⟨sl, rfl, h⟩
  | (j, o) :: l1, l2, sl, sl', h => by
    obtain ⟨b, r, h2, h3, h4, h5⟩ := h
    obtain ⟨m, k1, k2⟩ := T1d.cut h5
    exact ⟨m, ⟨b, r, h2, h3, h4, k1⟩, k2⟩
/-! ### What the checks say -/
theorem storeTo_spec {t : Tmp} {p : Nat × Oper} {s : Nat × Operand} (h : storeTo t p = some s) : ∃ T, p.2.op = .store T (.tmp t) s.2 ∧ p.1 = s.1 := by
  unfold storeTo at h
  split at h
  · rename_i T t' x ho
    split at h
    · rename_i e
      subst e
      injection h with h
      subst h
      exact ⟨T, ho, rfl⟩
    · cases h
  · cases h
theorem grpsOf_mem {cl : List (Nat × Oper)} : ∀ {l : List (Nat × Oper)} {g : Grp}, g ∈ grpsOf cl l → ∃ o, (g.j, o) ∈ l ∧ o.op = .alloc g.T ∧ o.dst = some g.t ∧ g.s = cl.findSome? (storeTo g.t)
  | [], g, h => by cases h
  | (j, o) :: l, g, h => by
    unfold grpsOf at h
    split at h
    · rename_i T t ho hd
      rcases List.mem_cons.1 h with rfl | h
      · exact ⟨o, List.mem_cons_self, ho, hd, rfl⟩
      · obtain ⟨o', h1, h2⟩ := grpsOf_mem h
        exact ⟨o', List.mem_cons_of_mem _ h1, h2⟩
    · obtain ⟨o', h1, h2⟩ := grpsOf_mem h
      exact ⟨o', List.mem_cons_of_mem _ h1, h2⟩
theorem grpsOf_cons {cl : List (Nat × Oper)} (i : Nat) (p : Oper) (l : List (Nat × Oper)) {g : Grp} (h : g ∈ grpsOf cl l) : g ∈ grpsOf cl ((i, p) :: l) := by
  unfold grpsOf
  split
  · exact List.mem_cons_of_mem _ h
  · exact h
theorem grpsOf_head {cl : List (Nat × Oper)} {j : Nat} {o : Oper} (l : List (Nat × Oper)) {T : TypeId} {t : Tmp} (ho : o.op = .alloc T) (hd : o.dst = some t) : ∃ g ∈ grpsOf cl ((j, o) :: l), g.j = j ∧ g.t = t ∧ g.T = T ∧ g.s = cl.findSome? (storeTo t) := by
  unfold grpsOf
  simp only [ho, hd]
  exact ⟨_, List.mem_cons_self, rfl, rfl, rfl, rfl⟩
theorem grpsOf_has {cl : List (Nat × Oper)} {j : Nat} {o : Oper} {T : TypeId} {t : Tmp} (ho : o.op = .alloc T) (hd : o.dst = some t) : ∀ (l : List (Nat × Oper)), (j, o) ∈ l → ∃ g ∈ grpsOf cl l, g.j = j ∧ g.t = t ∧ g.T = T ∧ g.s = cl.findSome? (storeTo t) := by
  intro l
  induction l with
  | nil => intro h; cases h
  | cons p l ih =>
    intro h
    rcases List.mem_cons.1 h with h | h
    · subst h
      exact grpsOf_head l ho hd
    · obtain ⟨g, h1, h2⟩ := ih h
      exact ⟨g, grpsOf_cons p.1 p.2 l h1, h2⟩
theorem declOp_alloc {cl : List (Nat × Oper)} {j : Nat} {o : Oper} (h : declOp cl (j, o) = true) : o.guard = none ∧ ((∃ T t, o.op = .alloc T ∧ o.dst = some t) ∨ (∃ T t x, o.op = .store T (.tmp t) x ∧ o.dst = none ∧ (∃ q ∈ cl, q.2.dst = some t ∧ q.1 < j ∧ q.2.op = .alloc T) ∧ (∀ t', x = .tmp t' → ∀ q ∈ cl, q.2.dst ≠ some t') ∧ ∀ q ∈ cl, storeTo t q ≠ none → q.1 = j)) := by
  unfold declOp at h
  rw [Bool.and_eq_true] at h
  obtain ⟨h0, h⟩ := h
  refine ⟨by simpa using h0, ?_⟩
  split at h
  · rename_i T t ho hd; exact .inl ⟨T, t, ho, hd⟩
  · rename_i T t x ho hd
    rw [Bool.and_eq_true, Bool.and_eq_true] at h
    obtain ⟨⟨h1, h2⟩, h3⟩ := h
    refine .inr ⟨T, t, x, ho, hd, ?_, fun t' hx q hq => ?_, fun q hq hne => ?_⟩
    · obtain ⟨q, hq, hm⟩ := List.any_eq_true.1 h1
      unfold makesB at hm
      simp only [Bool.and_eq_true, beq_iff_eq, decide_eq_true_eq] at hm
      obtain ⟨⟨m1, m2⟩, m3⟩ := hm
      refine ⟨q, hq, m1, m2, ?_⟩
      split at m3
      · rename_i T' hT; rw [hT, beq_iff_eq.1 m3]
      · cases m3
    · subst hx
      have := List.all_eq_true.1 h2 q hq
      simpa using this
    · have := List.all_eq_true.1 h3 q hq
      simp only [Bool.or_eq_true, Option.isNone_iff_eq_none, beq_iff_eq] at this
      exact this.elim (fun h => absurd h hne) id
  · cases h
theorem Inv.other {n0 : Nat} {Bx : List Nat} {w w' : World} {B B' : List Nat} {η : List Value} {Hs : List Ent} (inv : Inv n0 Bx w B η Hs) (g : On B w w') (hB : ∀ b ∈ B', b ∈ B ∨ w.heap.size ≤ b) (hs : ∀ b ∈ B, b ∈ B') (hlt : ∀ b ∈ B', b < w'.heap.size)
    (hb : ∀ id e, Hs[id]? = some e → e.live = true → ∀ b, blkOf (η.getD id undef) = some b → w'.heap[b]? = w.heap[b]?) : Inv n0 Bx w' B' η Hs :=
  ⟨inv.len, ⟨Nat.le_trans inv.base.1 g.size, inv.base.2.on g hB⟩, fun b hb' => ⟨hs b (inv.sub b hb').1, (inv.sub b hb').2⟩, hlt, fun id e he => EntOK.keep (inv.ent id e he) g hB hs (fun _ _ h => h) (hb id e he), inv.sep⟩
/-- One more, that is there already. -/
theorem Inv.snoc {n0 : Nat} {Bx : List Nat} {w : World} {B : List Nat} {η : List Value} {Hs : List Ent} {v : Value} {e : Ent} (inv : Inv n0 Bx w B η Hs) (he : EntOK n0 Bx w B (η ++ [v]) v e)
    (hs : ∀ id e', Hs[id]? = some e' → e'.live = true → ∀ b, blkOf (η.getD id undef) = some b → blkOf v ≠ some b) : Inv n0 Bx w B (η ++ [v]) (Hs ++ [e]) := by
  refine ⟨by simp [inv.len], inv.base, inv.sub, inv.lt, fun id e' h => ?_, fun i j ei ej hij hi hj hli hlj c hc => ?_⟩
  · rcases Nat.lt_or_ge id Hs.length with hid | hid
    · rw [List.getElem?_append_left hid] at h
      rw [getD_push_old (by rw [inv.len]; exact hid)]
      exact EntOK.keep (inv.ent id e' h) (On.refl B w) (fun _ h => .inl h) (fun _ h => h) (push_old η v) (fun _ _ _ => rfl)
    · rw [List.getElem?_append_right hid] at h
      have : id = Hs.length := by have := (List.getElem?_eq_some_iff.1 h).1; simp at this; omega
      subst this
      simp at h; subst h
      rw [← inv.len, getD_push_new]; exact he
  · have key : ∀ (i : Nat) (ei : Ent), (Hs ++ [e])[i]? = some ei → (i < Hs.length ∧ Hs[i]? = some ei ∧ (η ++ [v]).getD i undef = η.getD i undef) ∨ (i = Hs.length ∧ (η ++ [v]).getD i undef = v) := by
      intro i ei h
      rcases Nat.lt_or_ge i Hs.length with hid | hid
      · exact .inl ⟨hid, by rwa [List.getElem?_append_left hid] at h, getD_push_old (by rw [inv.len]; exact hid)⟩
      · have : i = Hs.length := by
          rw [List.getElem?_append_right hid] at h
          have := (List.getElem?_eq_some_iff.1 h).1; simp at this; omega
        subst this
        exact .inr ⟨rfl, by rw [← inv.len, getD_push_new]⟩
    rcases key i ei hi with ⟨h1, h2, h3⟩ | ⟨h1, h3⟩ <;> rcases key j ej hj with ⟨k1, k2, k3⟩ | ⟨k1, k3⟩
    · rw [h3] at hc; rw [k3]; exact inv.sep i j ei ej hij h2 k2 hli hlj c hc
    · rw [h3] at hc; rw [k3]; exact hs i ei h2 hli c hc
    · rw [h3] at hc; rw [k3]
      intro hcc
      exact hs j ej k2 hlj c hcc hc
    · omega
theorem EntOK.ext {n0 : Nat} {Bx : List Nat} {w : World} {B : List Nat} {η η' : List Value} {v : Value} {e : Ent} (h : EntOK n0 Bx w B η v e) (he : ∀ (id : Nat) v, η[id]? = some v → η'[id]? = some v) : EntOK n0 Bx w B η' v e :=
  EntOK.keep h (On.refl B w) (fun _ h => .inl h) (fun _ h => h) he (fun _ _ _ => rfl)
/-- Many more. -/
theorem Inv.snocs {n0 : Nat} {Bx : List Nat} {w : World} {B : List Nat} {η0 : List Value} {base : Nat} : ∀ (l : List (Value × E2)) (η : List Value) (Hs : List E2), Inv n0 Bx w B η (Hs.map exE) → (∀ (id : Nat) v, η0[id]? = some v → η[id]? = some v) →
    (∀ p ∈ l, EntOK n0 Bx w B η0 p.1 (exE p.2)) → (∀ p ∈ l, ∀ id e', (Hs.map exE)[id]? = some e' → e'.live = true → ∀ b, blkOf (η.getD id undef) = some b → blkOf p.1 ≠ some b) → (l.Pairwise fun p q => ∀ b, blkOf p.1 = some b → blkOf q.1 ≠ some b) →
    Inv n0 Bx w B (η ++ l.map (·.1)) ((Hs ++ l.map (·.2)).map exE)
  | [], η, Hs, inv, _, _, _, _ => by simpa using inv
  | (v, e) :: l, η, Hs, inv, hη, he, hs, hp => by
    obtain ⟨p1, p2⟩ := List.pairwise_cons.1 hp
    have inv1 := inv.snoc ((he (v, e) List.mem_cons_self).ext fun id v' h => push_old η v id v' (hη id v' h)) (hs (v, e) List.mem_cons_self)
    have hl := inv.len
    simp only [List.length_map] at hl
    have hbase := Inv.snocs (η0 := η0) (base := base) l (η ++ [v]) (Hs ++ [e]) (by simpa using inv1) (fun id v' h => push_old η v id v' (hη id v' h)) (fun p hp' => he p (List.mem_cons_of_mem _ hp')) (fun p hp' id e' hid hli b hb => by
      rcases Nat.lt_or_ge id Hs.length with h | h
      · rw [getD_push_old (by omega)] at hb
        refine hs p (List.mem_cons_of_mem _ hp') id e' ?_ hli b hb
        rw [List.map_append, List.getElem?_append_left (by simpa using h)] at hid
        exact hid
      · have hz : id = Hs.length := by
          have := (List.getElem?_eq_some_iff.1 hid).1
          simp at this; omega
        subst hz
        rw [← hl, getD_push_new] at hb
        exact p1 p hp' b hb) p2
    simpa using hbase
/-! ### In whatever order -/
def stB (listed : Array Bool) (g : Grp) : Bool := match g.s with
  | some (s, _) => listed.getD s false
  | none => false
def curE (listed : Array Bool) (g : Grp) (y : E2 × E2) : E2 := if stB listed g = true then y.2 else y.1
structure DG (ops : Array Oper) (fs : List Bool) (gs : List Grp) (ys : List (E2 × E2)) (sl0 sl1 : List V) (H0 : List E2) (n0 m0 : Nat) (Bx : List Nat) (ds : List Deferred) (w0 : World) (B0 : List Nat) (η0 : List Value) (listed : Array Bool) (a : Act) (w : World) (B : List Nat) : Prop where
  defers : a.defers = ds
  size : a.tmps.size = sl0.length
  inv : Inv n0 Bx w B η0 (H0.map exE)
  goes : Goes n0 m0 w0 B0 η0 w B η0
  done : ∀ t i o, ops[i]? = some o → o.dst = some t → fs[i]? = some true → listed.getD i false = true → Rel2 w B η0 (sl1.getD t .any) (a.tmps.getD t undef) ∧ FreshV n0 (ex (sl1.getD t .any)) (a.tmps.getD t undef)
  todo : ∀ t, (∀ i, (ops[i]?).bind (·.dst) = some t → listed.getD i false = false) → Rel2 w B η0 (sl0.getD t .any) (a.tmps.getD t undef) ∧ FreshV n0 (ex (sl0.getD t .any)) (a.tmps.getD t undef)
  box : ∀ (i : Nat) g y, gs[i]? = some g → ys[i]? = some y → listed.getD g.j false = true → EntOK n0 Bx w B η0 (a.tmps.getD g.t undef) (exE (curE listed g y)) ∧ ∀ b, blkOf (a.tmps.getD g.t undef) = some b → w0.heap.size ≤ b
  sep : ∀ (i i' : Nat) g g', i ≠ i' → gs[i]? = some g → gs[i']? = some g' → listed.getD g.j false = true → listed.getD g'.j false = true → ∀ b, blkOf (a.tmps.getD g.t undef) = some b → blkOf (a.tmps.getD g'.t undef) ≠ some b
theorem grpsOf_pair {cl : List (Nat × Oper)} : ∀ {l : List (Nat × Oper)}, (l.Pairwise fun p q => p.1 < q.1) → (grpsOf cl l).Pairwise fun p q => p.j < q.j
  | [], _ => List.Pairwise.nil
  | (j, o) :: l, h => by
    obtain ⟨h1, h2⟩ := List.pairwise_cons.1 h
    unfold grpsOf
    split
    · refine List.pairwise_cons.2 ⟨fun g hg => ?_, grpsOf_pair h2⟩
      obtain ⟨o', m, _⟩ := grpsOf_mem hg
      exact h1 _ m
    · exact grpsOf_pair h2
theorem pair_index {α : Type} {f : α → Nat} : ∀ {l : List α}, (l.Pairwise fun p q => f p < f q) → ∀ (i i' : Nat) p q, l[i]? = some p → l[i']? = some q → f p = f q → i = i' := fun {l} h i i' p q hi hi' e => by
  obtain ⟨a1, a2⟩ := List.getElem?_eq_some_iff.1 hi
  obtain ⟨b1, b2⟩ := List.getElem?_eq_some_iff.1 hi'
  rcases Nat.lt_trichotomy i i' with h1 | h1 | h1
  · have := List.pairwise_iff_getElem.1 h i i' a1 b1 h1
    rw [a2, b2] at this; omega
  · exact h1
  · have := List.pairwise_iff_getElem.1 h i' i b1 a1 h1
    rw [a2, b2] at this; omega
theorem findSome_mem {α β : Type} {f : α → Option β} : ∀ {l : List α} {y : β}, l.findSome? f = some y → ∃ x ∈ l, f x = some y
  | x :: l, y, h => by
    rw [List.findSome?_cons] at h
    split at h
    · rename_i z hz
      exact ⟨x, List.mem_cons_self, by rw [hz]; exact h⟩
    · obtain ⟨x', h1, h2⟩ := findSome_mem h
      exact ⟨x', List.mem_cons_of_mem _ h1, h2⟩
theorem findSome_some {α β : Type} {f : α → Option β} : ∀ {l : List α} {x : α}, x ∈ l → f x ≠ none → l.findSome? f ≠ none
  | y :: l, x, h, hx => by
    rw [List.findSome?_cons]
    rcases List.mem_cons.1 h with rfl | h
    · split
      · intro hc; cases hc
      · rename_i hn; exact absurd hn hx
    · split
      · intro hc; cases hc
      · exact findSome_some h hx
end
section
variable {R : Type} {P : Program} {ops : Array Oper}
/-- What is told of the boxes that are declared. -/
structure GsOK (ops : Array Oper) (fs : List Bool) (cl : List (Nat × Oper)) (gs : List Grp) : Prop where
  make : ∀ g ∈ gs, ∃ o, ops[g.j]? = some o ∧ fs[g.j]? = some false ∧ o.op = .alloc g.T ∧ o.dst = some g.t ∧ o.guard = none
  fill : ∀ g ∈ gs, ∀ s x, g.s = some (s, x) → ∃ o, ops[s]? = some o ∧ fs[s]? = some false ∧ o.op = .store g.T (.tmp g.t) x ∧ o.dst = none ∧ o.guard = none ∧ g.j < s ∧ ∀ t', x = .tmp t' → ∀ q ∈ cl, q.2.dst ≠ some t'
  part : ∀ j o, (j, o) ∈ cl → (∃ (i : Nat) (g : Grp), gs[i]? = some g ∧ g.j = j) ∨ (∃ (i : Nat) (g : Grp) (x : Operand), gs[i]? = some g ∧ g.s = some (j, x))
  uniq : ∀ (i i' : Nat) g g', gs[i]? = some g → gs[i']? = some g' → g.t = g'.t → i = i'
theorem gsOK_of {fs : List Bool} {cl : List (Nat × Oper)} (hcl : cl = clR 0 ops.toList fs) (hdecl : declC cl = true) (honce : onceB ops ops.size = true) : GsOK ops fs cl (grpsOf cl cl) := by
  have inC : ∀ i o, (i, o) ∈ cl ↔ ops[i]? = some o ∧ fs[i]? = some false := fun i o => by rw [hcl, clR_mem]; simp
  have hop : ∀ p ∈ cl, declOp cl p = true := fun p hp => List.all_eq_true.1 hdecl p hp
  have hmake : ∀ g ∈ grpsOf cl cl, ∃ o, ops[g.j]? = some o ∧ fs[g.j]? = some false ∧ o.op = .alloc g.T ∧ o.dst = some g.t ∧ o.guard = none := fun g hg => by
    obtain ⟨o, m, h1, h2, h3⟩ := grpsOf_mem hg
    exact ⟨o, ((inC _ _).1 m).1, ((inC _ _).1 m).2, h1, h2, (declOp_alloc (hop _ m)).1⟩
  refine ⟨hmake, fun g hg s x hs => ?_, fun j o hjo => ?_, fun i i' g g' hi hi' ht => ?_⟩
  · obtain ⟨o, m, h1, h2, h3⟩ := grpsOf_mem hg
    rw [h3] at hs
    obtain ⟨p, hp, hst⟩ := findSome_mem hs
    obtain ⟨T', k1, k2⟩ := storeTo_spec hst
    obtain ⟨q1, q2⟩ := declOp_alloc (j := p.1) (o := p.2) (hop _ hp)
    have hps := (inC p.1 p.2).1 hp
    simp only at k1 k2
    rcases q2 with ⟨T2, t2, e1, e2⟩ | ⟨T2, t2, x2, e1, e2, ⟨q, hq, e3, e4, e5⟩, e6, e7⟩
    · rw [k1] at e1; cases e1
    · rw [k1] at e1
      injection e1 with a1 a2 a3
      injection a2 with a2
      subst a1 a2 a3
      have hqj : q.1 = g.j := once' honce (show (ops[q.1]?).bind (·.dst) = some g.t by rw [((inC q.1 q.2).1 hq).1]; exact e3) (show (ops[g.j]?).bind (·.dst) = some g.t by rw [((inC _ _).1 m).1]; exact h2)
      have hT : T' = g.T := by
        have := ((inC q.1 q.2).1 hq).1
        rw [hqj, ((inC _ _).1 m).1] at this
        injection this with this
        rw [← this, h1] at e5
        injection e5 with e5
        exact e5.symm
      subst hT
      refine ⟨p.2, by rw [← k2]; exact hps.1, by rw [← k2]; exact hps.2, k1, e2, q1, by rw [← k2, ← hqj]; exact e4, e6⟩
  · obtain ⟨q1, q2⟩ := declOp_alloc (hop _ hjo)
    rcases q2 with ⟨T2, t2, e1, e2⟩ | ⟨T2, t2, x2, e1, e2, ⟨q, hq, e3, e4, e5⟩, e6, e7⟩
    · obtain ⟨g, hg, g1, g2, g3, g4⟩ := grpsOf_has (cl := cl) e1 e2 cl hjo
      obtain ⟨i, hi, e⟩ := List.getElem_of_mem hg
      exact .inl ⟨i, g, by rw [List.getElem?_eq_getElem hi, e], g1⟩
    · obtain ⟨g, hg, g1, g2, g3, g4⟩ := grpsOf_has (cl := cl) (j := q.1) (o := q.2) e5 e3 cl hq
      obtain ⟨i, hi, e⟩ := List.getElem_of_mem hg
      have hself : storeTo t2 (j, o) ≠ none := by
        unfold storeTo
        simp only [e1, if_true]
        exact nofun
      cases hf : cl.findSome? (storeTo t2) with
      | none => exact absurd hf (findSome_some hjo hself)
      | some y =>
        obtain ⟨p, hp, hst⟩ := findSome_mem hf
        have hpj := e7 p hp (by rw [hst]; exact nofun)
        obtain ⟨T', k1, k2⟩ := storeTo_spec hst
        refine .inr ⟨i, g, y.2, by rw [List.getElem?_eq_getElem hi, e], ?_⟩
        rw [g4, hf, ← hpj, k2]
  · have hj : g.j = g'.j := by
      obtain ⟨o, a1, _, _, a4, _⟩ := hmake g (List.mem_of_getElem? hi)
      obtain ⟨o', b1, _, _, b4, _⟩ := hmake g' (List.mem_of_getElem? hi')
      exact once' honce (show (ops[g.j]?).bind (·.dst) = some g.t by rw [a1]; exact a4) (show (ops[g'.j]?).bind (·.dst) = some g.t by rw [b1, ht]; exact b4)
    have hp := clR_pair ops.toList fs 0
    rw [← hcl] at hp
    exact pair_index (f := Grp.j) (grpsOf_pair hp) i i' g g' hi hi' hj
theorem dg_step {fs : List Bool} {cl fl : List (Nat × Oper)} {gs : List Grp} (hcl : cl = clR 0 ops.toList fs) (hfl : fl = flR 0 ops.toList fs) (hgs : GsOK ops fs cl gs) (honce : onceB ops ops.size = true) (hdata : dataB ops ops.size = true) (hdep : depB ops fs = true) (hfsl : fs.length = ops.size)
    {ys : List (E2 × E2)} {sl0 sl1 : List V} {H0 : List E2} {n0 m0 : Nat} {Bx : List Nat} {ds : List Deferred} {w0 : World} {B0 : List Nat} {η0 : List Value} {Q : Exit → Act → World → Prop}
    (h1 : T1d P ops H0 fl sl0 sl1) (hys : YsOK P sl1 gs ys) (hin : ∀ g ∈ gs, g.t < sl0.length) (hlow : ∀ id e, (H0.map exE)[id]? = some e → e.live = true → ∀ b, blkOf (η0.getD id undef) = some b → b < w0.heap.size) :
    ∀ (listed : Array Bool) (a : Act) (w : World) (j : Nat), HeadInv .any ops ops.size listed → (∃ B, DG ops fs gs ys sl0 sl1 H0 n0 m0 Bx ds w0 B0 η0 listed a w B) → j ∈ Region.ready .any ops listed → ∀ K : Act → World → Prop, (∀ a' w', (∃ B, DG ops fs gs ys sl0 sl1 H0 n0 m0 Bx ds w0 B0 η0 (listed.setIfInBounds j true) a' w' B) → K a' w') → wpOp P ops Q j K a w := by
  intro listed a w j hi ⟨B, D⟩ hj K hK
  obtain ⟨hjun, oj, hoj, hall⟩ := mem_ready.1 hj
  have hjs : j < ops.size := (Array.getElem?_eq_some_iff.1 hoj).1
  have hjl : j < listed.size := by rw [hi.size]; exact hjs
  have hjunF : listed.getD j false = false := by simp [hjl] at hjun ⊢; exact hjun
  have hjset : (listed.setIfInBounds j true).getD j false = true := by simp [hjl]
  have hset : ∀ i, i ≠ j → (listed.setIfInBounds j true).getD i false = listed.getD i false := fun i hne => getD_set_ne false hne.symm
  have hfsj : ∀ i, i < ops.size → ∃ b, fs[i]? = some b := fun i hi => ⟨_, List.getElem?_eq_getElem (by rw [hfsl]; exact hi)⟩
  have hfsd : ∀ i b, fs[i]? = some b → fs.getD i false = b := fun i b h => by rw [List.getD_eq_getElem?_getD, h]; rfl
  have inF : ∀ i o, (i, o) ∈ fl ↔ ops[i]? = some o ∧ fs[i]? = some true := fun i o => by rw [hfl, flR_mem]; simp
  have inC : ∀ i o, (i, o) ∈ cl ↔ ops[i]? = some o ∧ fs[i]? = some false := fun i o => by rw [hcl, clR_mem]; simp
  have hlen1 := h1.keep.1
  have wr : ∀ t ∈ oj.looksAt ops, ∀ (i : Nat) (oi : Oper), ops[i]? = some oi → oi.dst = some t → i = j ∨ (i < j ∧ listed.getD i false = true) ∨ (j < i ∧ listed.getD i false = false) := fun t ht i oi hoi hd => by
    rcases dataB_spec hdata (Array.getElem?_eq_some_iff.1 hoi).1 hjs (by rw [hoi]; exact hd) hoj ht with h | ⟨h1, h2⟩ | ⟨h1, h2⟩
    · exact .inl h
    · obtain ⟨o', ho', e, he, hb, hon⟩ := Region.waitsFor_spec h2
      have : o' = oj := by rw [hoj] at ho'; exact (Option.some.inj ho').symm
      subst this
      exact .inr (.inl ⟨h1, by rw [← hon]; exact hall e he hb⟩)
    · refine .inr (.inr ⟨h1, ?_⟩)
      cases hli : listed.getD i false with
      | false => rfl
      | true => have := ancB_spec hi.closed _ i j h2 hli; rw [hjunF] at this; cases this
  have uniqD : ∀ (t : Tmp) (i : Nat) (oi : Oper) (i' : Nat) (oi' : Oper), ops[i]? = some oi → oi.dst = some t → ops[i']? = some oi' → oi'.dst = some t → i = i' := fun t i oi i' oi' h1 h2 h3 h4 => once' honce (show (ops[i]?).bind (·.dst) = some t by rw [h1]; exact h2) (show (ops[i']?).bind (·.dst) = some t by rw [h3]; exact h4)
  have ini1 : ∀ (t : Tmp), (∀ (i : Nat) (o : Oper), ops[i]? = some o → fs[i]? = some true → o.dst ≠ some t) → sl1.getD t .any = sl0.getD t .any := fun t h => h1.keep.2 t (fun p hp => h p.1 p.2 ((inF p.1 p.2).1 hp).1 ((inF p.1 p.2).1 hp).2)
  have hnoT : ∀ (t : Tmp), (¬ ∃ (i : Nat) (oi : Oper), ops[i]? = some oi ∧ oi.dst = some t) → ∀ i, (ops[i]?).bind (·.dst) = some t → listed.getD i false = false := fun t h i hd => by
    obtain ⟨o, ho, hd⟩ := Option.bind_eq_some_iff.1 hd
    exact absurd ⟨i, o, ho, hd⟩ h
  have evalOf : ∀ (slc : List V) x, x ∈ oj.op.operands → (∀ t, x = .tmp t → t ∈ oj.looksAt ops → Rel2 w B η0 (slc.getD t .any) (a.tmps.getD t undef) ∧ FreshV n0 (ex (slc.getD t .any)) (a.tmps.getD t undef)) → Rel2 w B η0 (opV slc x) (a.eval x) ∧ FreshV n0 (ex (opV slc x)) (a.eval x) := fun slc x hx hlook => by
    cases x with
    | tmp t => exact hlook t rfl (List.mem_append_left _ (List.mem_filterMap.2 ⟨.tmp t, by simpa using hx, rfl⟩))
    | const v =>
      refine ⟨Rel2.of (constV_plain v) ?_, fun h => ?_⟩
      · show Rel w B η0 (ex (constV v)) v
        rw [constV_ex]; exact .c _ _
      · simp only [opV, constV_ex, isFresh] at h; cases h
    | global g => exact opG_rel (sl := slc) D.inv.base.2 g
    | func f => exact ⟨⟨[], rfl, rfl, fun i c h => by simp at h⟩, fun h => by cases h⟩
  have makeAt : ∀ (i : Nat) g, gs[i]? = some g → ∃ o, ops[g.j]? = some o ∧ fs[g.j]? = some false ∧ o.op = .alloc g.T ∧ o.dst = some g.t ∧ o.guard = none := fun i g hg => hgs.make g (List.mem_of_getElem? hg)
  have put0 : ∀ (v : Value) (t : Nat), oj.dst ≠ some t → (a.put oj.dst v).tmps.getD t undef = a.tmps.getD t undef := fun v t h => put_getD a oj.dst v t h
  obtain ⟨bj, hbj⟩ := hfsj j hjs
  cases bj with
  | true =>
    obtain ⟨l1, l2, hsp⟩ := mem_split ((inF j oj).2 ⟨hoj, hbj⟩)
    have hpw := flR_pair ops.toList fs 0
    rw [← hfl, hsp] at hpw
    obtain ⟨pw1, pw2, pw3⟩ := List.pairwise_append.1 hpw
    have pl1 : ∀ i o, (i, o) ∈ l1 → i < j := fun i o hm => pw3 (i, o) hm (j, oj) List.mem_cons_self
    have pl2 : ∀ i o, (i, o) ∈ l2 → j < i := fun i o hm => (List.pairwise_cons.1 pw2).1 (i, o) hm
    have h1' := h1
    rw [hsp] at h1'
    obtain ⟨slc, q1, b, r, q2, q3, q4, q5⟩ := h1'.cut
    have hlook : ∀ t ∈ oj.looksAt ops, Rel2 w B η0 (slc.getD t .any) (a.tmps.getD t undef) ∧ FreshV n0 (ex (slc.getD t .any)) (a.tmps.getD t undef) := fun t ht => by
      by_cases hw : ∃ (i : Nat) (oi : Oper), ops[i]? = some oi ∧ oi.dst = some t
      · obtain ⟨i, oi, hoi, hd⟩ := hw
        have initial : listed.getD i false = false → (∀ p ∈ l1, p.2.dst ≠ some t) → Rel2 w B η0 (slc.getD t .any) (a.tmps.getD t undef) ∧ FreshV n0 (ex (slc.getD t .any)) (a.tmps.getD t undef) := fun hun hno => by
          rw [q1.keep.2 t hno]
          exact D.todo t (fun i' hd' => by
            obtain ⟨o', ho', hd'⟩ := Option.bind_eq_some_iff.1 hd'
            rw [uniqD t i' o' i oi ho' hd' hoi hd]; exact hun)
        have notin : ¬ i < j → ∀ p ∈ l1, p.2.dst ≠ some t := fun hlt p hp hd' => by
          have hpf : p ∈ fl := by rw [hsp]; simp [hp]
          have := uniqD t p.1 p.2 i oi ((inF p.1 p.2).1 hpf).1 hd' hoi hd
          have h3 := pl1 p.1 p.2 hp
          omega
        rcases wr t ht i oi hoi hd with h | ⟨hlt, hli⟩ | ⟨hlt, hun⟩
        · subst h; exact initial hjunF (notin (by omega))
        · have hdp := depB_spec hdep hoi hoj hd ht (by omega)
          rw [hfsd j true hbj, if_pos rfl] at hdp
          obtain ⟨bi, hbi⟩ := hfsj i (Array.getElem?_eq_some_iff.1 hoi).1
          rw [hfsd i bi hbi] at hdp
          have hbi' : fs[i]? = some true := by
            rcases hdp with h | h
            · rw [hbi, h]
            · omega
          have hE : slc.getD t .any = sl1.getD t .any := by
            refine (T1d.keep (l := (j, oj) :: l2) ⟨b, r, q2, q3, q4, q5⟩).2 t (fun p hp hd' => ?_) |>.symm
            have hpf : p ∈ fl := by rw [hsp]; exact List.mem_append_right _ hp
            have h4 := uniqD t p.1 p.2 i oi ((inF p.1 p.2).1 hpf).1 hd' hoi hd
            rcases List.mem_cons.1 hp with h | h
            · rw [h] at h4; simp only at h4; omega
            · have := pl2 p.1 p.2 h; omega
          rw [hE]
          exact D.done t i oi hoi hd hbi' hli
        · exact initial hun (notin (by omega))
      · rw [q1.keep.2 t (fun p hp hd => hw ⟨p.1, p.2, ((inF p.1 p.2).1 (by rw [hsp]; simp [hp])).1, hd⟩)]
        exact D.todo t (hnoT t hw)
    have hown : ∀ t, oj.dst = some t → t < sl0.length → sl1.getD t .any = r := fun t hd htl => by
      have h6 := q5.keep.2 t (fun p hp hd' => by
        have hpf : p ∈ fl := by rw [hsp]; exact List.mem_append_right _ (List.mem_cons_of_mem _ hp)
        have := uniqD t p.1 p.2 j oj ((inF p.1 p.2).1 hpf).1 hd' hoj hd
        have h3 := pl2 p.1 p.2 hp
        omega)
      rw [h6, hd, setV_own (by rw [q1.keep.1]; exact htl)]
    have next : ∀ v w', Gk n0 B w w' → Rel2 w' B η0 r v → FreshV n0 (ex r) v → K (a.put oj.dst v) w' := fun v w' g hr hf => by
      have hnej : ∀ (i : Nat) gg, gs[i]? = some gg → gg.j ≠ j ∧ oj.dst ≠ some gg.t ∧ stB (listed.setIfInBounds j true) gg = stB listed gg := fun i gg hg => by
        obtain ⟨o, m1, m2, m3, m4, m5⟩ := makeAt i gg hg
        have hne : gg.j ≠ j := fun e => by rw [e, hbj] at m2; cases m2
        refine ⟨hne, fun hd => hne (uniqD gg.t gg.j o j oj m1 m4 hoj hd), ?_⟩
        unfold stB
        split
        · rename_i s x hs
          obtain ⟨o', f1, f2, _⟩ := hgs.fill gg (List.mem_of_getElem? hg) s x hs
          exact hset s (fun e => by rw [e, hbj] at f2; cases f2)
        · rfl
      refine hK _ _ ⟨B, by rw [put_defers']; exact D.defers, by rw [put_size]; exact D.size, D.inv.gk g, D.goes.trans ⟨g.on, fun _ h => .inl h, fun _ _ _ h => h, g.below D.inv.base.1⟩, fun t i o ho hd hfi hli => ?_, fun t hno => ?_, fun i gg y hg hy hl => ?_, fun i i' gg gg' hne hg hg' hl hl' => ?_⟩
      · by_cases hij : i = j
        · subst hij
          have : o = oj := by rw [hoj] at ho; exact (Option.some.inj ho).symm
          subst this
          rw [hd]
          exact put_own (sl := sl0) D.size hr hf (fun h => hown t hd h) (fun h => getD_over (by rw [hlen1]; exact h))
        · rw [put0 v t (fun hd' => hij (uniqD t i o j oj ho hd hoj hd'))]
          have := D.done t i o ho hd hfi (by rw [← hset i hij]; exact hli)
          exact ⟨this.1.gk g, this.2⟩
      · have hdt : oj.dst ≠ some t := fun hd => by
          have := hno j (by rw [hoj]; exact hd)
          rw [hjset] at this; cases this
        rw [put0 v t hdt]
        have := D.todo t (fun i hd => by
          rw [← hset i (fun e => hdt (by subst e; rw [hoj] at hd; exact hd))]; exact hno i hd)
        exact ⟨this.1.gk g, this.2⟩
      · obtain ⟨n1, n2, n3⟩ := hnej i gg hg
        rw [put0 v gg.t n2]
        obtain ⟨k1, k2⟩ := D.box i gg y hg hy (by rw [← hset _ n1]; exact hl)
        refine ⟨?_, k2⟩
        unfold curE at k1 ⊢
        rw [n3]
        exact EntOK.keep k1 g.on (fun _ h => .inl h) (fun _ h => h) (fun _ _ h => h) (fun hl b hb => have hlt := EntOK.lt k1 hl b hb; g.just b hlt.1 (.inr hlt.2))
      · obtain ⟨n1, n2, n3⟩ := hnej i gg hg
        obtain ⟨n1', n2', n3'⟩ := hnej i' gg' hg'
        rw [put0 v gg.t n2, put0 v gg'.t n2']
        exact D.sep i i' gg gg' hne hg hg' (by rw [← hset _ n1]; exact hl) (by rw [← hset _ n1']; exact hl')
    have hw := q2 w B η0 a.tmps (by rw [q1.keep.1]; exact D.size.symm) (fun d hd => (hlook d (by
      unfold guardSlot at hd
      split at hd
      · rename_i g want hg
        exact List.mem_append_right _ (by simp [hg, hd])
      · cases hd)).1)
    unfold wpOp
    simp only [hoj]
    rw [hw]
    cases b with
    | true =>
      rw [if_pos rfl]
      exact .inl (val_wp (q3 rfl n0 Bx w B η0 a.eval (fun f => rfl) D.inv (fun x hx => evalOf slc x hx (fun t _ ht => hlook t ht)) _ next))
    | false =>
      obtain rfl := q4 rfl
      rw [if_neg (by simp)]
      exact next undef w (Gk.refl _ _ _) (Rel.c _ _) (fun h => by cases h)
  | false =>
    rcases hgs.part j oj ((inC j oj).2 ⟨hoj, hbj⟩) with ⟨i0, g0, hg0, rfl⟩ | ⟨i0, g0, x, hg0, hs0⟩
    · -- a box is made
      obtain ⟨o, m1, m2, m3, m4, m5⟩ := makeAt i0 g0 hg0
      have : o = oj := by rw [hoj] at m1; exact (Option.some.inj m1).symm
      subst this
      have hy0 : i0 < ys.length := by rw [hys.1]; exact (List.getElem?_eq_some_iff.1 hg0).1
      obtain ⟨vz, z1, z2, z3, z4⟩ := hys.2 i0 g0 _ hg0 (List.getElem?_eq_getElem hy0)
      have hz : pureRun P (zeroValue g0.T) = some vz := z1
      have hrun : (execOp a.eval o).run P w = .ok (.value (.pointer (some ⟨w.heap.size, 0, none⟩))) (w.alloc (.cells vz.cells.toList.toArray g0.T)) := by
        simp only [execOp, m3, Instr.alloc, Sem.run_bind, pureRun_run hz, Result.andThen_ok]
        rfl
      have g := gr_alloc (Gr.refl w) (.cells vz.cells.toList.toArray g0.T)
      have hB : ∀ y ∈ w.heap.size :: B, y ∈ B ∨ w.heap.size ≤ y := fun y hy => by rcases List.mem_cons.1 hy with rfl | h; exact .inr (Nat.le_refl _); exact .inl h
      have hget : (a.put o.dst (.pointer (some ⟨w.heap.size, 0, none⟩))).tmps.getD g0.t undef = .pointer (some ⟨w.heap.size, 0, none⟩) := by
        rw [m4]
        have hlt : g0.t < a.tmps.size := by rw [D.size]; exact hin g0 (List.mem_of_getElem? hg0)
        simp [Act.put, Array.getD_eq_getD_getElem?, Array.getElem?_setIfInBounds_self_of_lt hlt]
      have hother : ∀ (i : Nat) gg, gs[i]? = some gg → i ≠ i0 → gg.j ≠ g0.j ∧ o.dst ≠ some gg.t := fun i gg hg hne => by
        obtain ⟨o', n1, n2, n3, n4, n5⟩ := makeAt i gg hg
        refine ⟨fun e => ?_, fun e => hne (hgs.uniq i i0 gg g0 hg hg0 (by rw [m4] at e; exact (Option.some.inj e).symm))⟩
        rw [e, m1] at n1
        injection n1 with n1
        rw [← n1, m4] at n4
        exact hne (hgs.uniq i i0 gg g0 hg hg0 (Option.some.inj n4).symm)
      have hstB : ∀ (i : Nat) gg, gs[i]? = some gg → stB (listed.setIfInBounds g0.j true) gg = stB listed gg := fun i gg hg => by
        unfold stB
        split
        · rename_i s x hs
          obtain ⟨o', f1, f2, f3, f4, _⟩ := hgs.fill gg (List.mem_of_getElem? hg) s x hs
          exact hset s (fun e => by rw [e, m1] at f1; injection f1 with f1; rw [← f1, m4] at f4; cases f4)
        · rfl
      have hst0 : stB listed g0 = false := by
        unfold stB
        split
        · rename_i s x hs
          obtain ⟨o', f1, f2, f3, f4, f5, f6, _⟩ := hgs.fill g0 (List.mem_of_getElem? hg0) s x hs
          cases hls : listed.getD s false with
          | false => rfl
          | true =>
            exfalso
            have hlk : g0.t ∈ o'.looksAt ops := List.mem_append_left _ (List.mem_filterMap.2 ⟨.tmp g0.t, by simp [f3, Op.operands], rfl⟩)
            rcases dataB_spec hdata hjs (Array.getElem?_eq_some_iff.1 f1).1 (by rw [m1]; exact m4) f1 hlk with h | ⟨h1, h2⟩ | ⟨h1, h2⟩
            · omega
            · obtain ⟨o2, ho2, e, he, hb, hon⟩ := Region.waitsFor_spec h2
              have := hi.closed s o2 ho2 hls e he hb
              rw [hon, hjunF] at this; cases this
            · omega
        · rfl
      have hnext : K (a.put o.dst (.pointer (some ⟨w.heap.size, 0, none⟩))) (w.alloc (.cells vz.cells.toList.toArray g0.T)) := by
        refine hK _ _ ⟨w.heap.size :: B, by rw [put_defers']; exact D.defers, by rw [put_size]; exact D.size, D.inv.other (.gr g) hB (fun _ h => List.mem_cons_of_mem _ h) (fun b hb => ?_) (fun id e he hl b hb => g.block b (EntOK.lt (D.inv.ent id e he) hl b hb).1), D.goes.trans ⟨.gr g, hB, fun _ _ _ h => h, g.mono D.inv.base.1⟩, fun t i o' ho hd hfi hli => ?_, fun t hno => ?_, fun i gg y hg hy hl => ?_, fun i i' gg gg' hne hg hg' hl hl' b hb => ?_⟩
        · rcases List.mem_cons.1 hb with rfl | h
          · simp
          · exact Nat.lt_of_lt_of_le (D.inv.lt b h) g.size
        · have hij : i ≠ g0.j := fun e => by rw [e, m2] at hfi; cases hfi
          rw [put0 _ t (fun hd' => hij (uniqD t i o' g0.j o ho hd m1 hd'))]
          have := D.done t i o' ho hd hfi (by rw [← hset i hij]; exact hli)
          exact ⟨this.1.on (.gr g) hB (fun _ _ h => h), this.2⟩
        · have hdt : o.dst ≠ some t := fun hd => by
            have := hno g0.j (by rw [m1]; exact hd)
            rw [hjset] at this; cases this
          rw [put0 _ t hdt]
          have := D.todo t (fun i hd => by
            rw [← hset i (fun e => hdt (by subst e; rw [m1] at hd; exact hd))]; exact hno i hd)
          exact ⟨this.1.on (.gr g) hB (fun _ _ h => h), this.2⟩
        · by_cases hii : i = i0
          · subst hii
            have : gg = g0 := by rw [hg0] at hg; exact (Option.some.inj hg).symm
            subst this
            have : y = ys[i] := by rw [List.getElem?_eq_getElem hy0] at hy; exact (Option.some.inj hy).symm
            subst this
            rw [hget]
            refine ⟨?_, fun b hb => by simp [blkOf] at hb; rw [← hb]; exact D.goes.on.size⟩
            unfold curE
            rw [hstB i gg hg, hst0, if_neg (by simp), z2]
            have hr : RelL w B η0 (vz.cells.toList.map .c) vz.cells.toList := ⟨by simp, fun i y hy => by
              rw [List.getElem?_map, Option.map_eq_some_iff] at hy
              obtain ⟨u, hu, rfl⟩ := hy
              exact ⟨u, hu, .c _ _⟩⟩
            have h0 : EntOK n0 Bx (w.alloc (.cells vz.cells.toList.toArray gg.T)) (w.heap.size :: B) η0 (.pointer (some ⟨w.heap.size, 0, none⟩)) (.box (vz.cells.toList.map .c) gg.T) := ⟨w.heap.size, _, rfl, D.inv.base.1, List.mem_cons_self, fun h => (by have := (D.inv.sub _ h).2; have := D.inv.base.1; omega), alloc_block w _ _, hr.on (.gr g) hB (fun _ _ h => h)⟩
            refine h0.le (.inr (.inr (.inl ⟨_, _, _, rfl, rfl, ?_⟩)))
            rw [← segsA_const]
            exact packT_ok gg.T _
          · obtain ⟨n1, n2⟩ := hother i gg hg hii
            rw [put0 _ gg.t n2]
            obtain ⟨k1, k2⟩ := D.box i gg y hg hy (by rw [← hset _ n1]; exact hl)
            refine ⟨?_, k2⟩
            unfold curE at k1 ⊢
            rw [hstB i gg hg]
            exact EntOK.keep k1 (.gr g) hB (fun _ h => List.mem_cons_of_mem _ h) (fun _ _ h => h) (fun hl b hb => g.block b (EntOK.lt k1 hl b hb).1)
        · have hlt : ∀ (i : Nat) gg, gs[i]? = some gg → i ≠ i0 → (listed.setIfInBounds g0.j true).getD gg.j false = true → ∀ b, blkOf ((a.put o.dst (.pointer (some ⟨w.heap.size, 0, none⟩))).tmps.getD gg.t undef) = some b → b < w.heap.size := fun i gg hg hne hl b hb => by
            obtain ⟨n1, n2⟩ := hother i gg hg hne
            rw [put0 _ gg.t n2] at hb
            have hyi : i < ys.length := by rw [hys.1]; exact (List.getElem?_eq_some_iff.1 hg).1
            obtain ⟨k1, k2⟩ := D.box i gg _ hg (List.getElem?_eq_getElem hyi) (by rw [← hset _ n1]; exact hl)
            obtain ⟨v', q1, q2, q3, q4⟩ := hys.2 i gg _ hg (List.getElem?_eq_getElem hyi)
            have hlive : (exE (curE listed gg ys[i])).live = true := by
              unfold curE
              split
              · cases hgs' : gg.s with
                | none => rw [q3 hgs', q2]; rfl
                | some p =>
                  obtain ⟨s, l', _, _, _, _, _, q5⟩ := q4 p.1 p.2 hgs'
                  rw [q5]; rfl
              · rw [q2]; rfl
            exact (EntOK.lt k1 hlive b hb).1
          by_cases hii : i = i0
          · subst hii
            have : gg = g0 := by rw [hg0] at hg; exact (Option.some.inj hg).symm
            subst this
            rw [hget] at hb
            have hb : w.heap.size = b := by simpa [blkOf] using hb
            intro hb'
            have := hlt i' gg' hg' (Ne.symm hne) hl' b hb'
            omega
          · by_cases hii' : i' = i0
            · subst hii'
              have : gg' = g0 := by rw [hg0] at hg'; exact (Option.some.inj hg').symm
              subst this
              rw [hget]
              intro hb'
              have hb' : w.heap.size = b := by simpa [blkOf] using hb'
              have := hlt i gg hg hii hl b hb
              omega
            · obtain ⟨n1, n2⟩ := hother i gg hg hii
              obtain ⟨n1', n2'⟩ := hother i' gg' hg' hii'
              rw [put0 _ gg.t n2] at hb
              rw [put0 _ gg'.t n2']
              exact D.sep i i' gg gg' hne hg hg' (by rw [← hset _ n1]; exact hl) (by rw [← hset _ n1']; exact hl') b hb
      unfold wpOp
      simp only [hoj]
      rw [if_pos (by simp [Region.wanted, m5])]
      refine .inl (val_wp ?_)
      unfold Oper.val
      rw [hrun]
      exact hnext
    · -- a box is filled
      obtain ⟨o, f1, f2, f3, f4, f5, f6, f7⟩ := hgs.fill g0 (List.mem_of_getElem? hg0) j x hs0
      have : o = oj := by rw [hoj] at f1; exact (Option.some.inj f1).symm
      subst this
      obtain ⟨om, m1, m2, m3, m4, m5⟩ := makeAt i0 g0 hg0
      have hlk : g0.t ∈ o.looksAt ops := List.mem_append_left _ (List.mem_filterMap.2 ⟨.tmp g0.t, by simp [f3, Op.operands], rfl⟩)
      have hmade : listed.getD g0.j false = true := by
        rcases wr g0.t hlk g0.j om m1 m4 with h | ⟨_, h⟩ | ⟨h, _⟩
        · omega
        · exact h
        · omega
      have hy0 : i0 < ys.length := by rw [hys.1]; exact (List.getElem?_eq_some_iff.1 hg0).1
      obtain ⟨vz, z1, z2, z3, z4⟩ := hys.2 i0 g0 _ hg0 (List.getElem?_eq_getElem hy0)
      obtain ⟨s, l', s1, s2, s3, s4, s5, s6⟩ := z4 j x hs0
      obtain ⟨k1, k2⟩ := D.box i0 g0 _ hg0 (List.getElem?_eq_getElem hy0) hmade
      have hst0 : stB listed g0 = false := by
        unfold stB
        rw [hs0]
        exact hjunF
      have hst1 : stB (listed.setIfInBounds j true) g0 = true := by
        unfold stB
        rw [hs0]
        exact hjset
      unfold curE at k1
      rw [hst0, if_neg (by simp), z2] at k1
      obtain ⟨b, us, e1, e2, e3, e4, e5, e6⟩ := k1
      have hblk : w0.heap.size ≤ b := k2 b (by rw [e1]; rfl)
      have hx : Rel2 w B η0 (opV sl1 x) (a.eval x) := by
        refine (evalOf sl1 x (by simp [f3, Op.operands]) (fun t hxt ht => ?_)).1
        by_cases hw : ∃ (i : Nat) (oi : Oper), ops[i]? = some oi ∧ oi.dst = some t
        · obtain ⟨i, oi, hoi, hd⟩ := hw
          have hfi : fs[i]? = some true := by
            obtain ⟨bi, hbi⟩ := hfsj i (Array.getElem?_eq_some_iff.1 hoi).1
            cases bi with
            | true => exact hbi
            | false => exact absurd hd (f7 t hxt (i, oi) ((inC i oi).2 ⟨hoi, hbi⟩))
          have hij : i ≠ j := fun e => by subst e; rw [f2] at hfi; cases hfi
          rcases wr t ht i oi hoi hd with h | ⟨hlt, hli⟩ | ⟨hlt, hun⟩
          · exact absurd h hij
          · exact D.done t i oi hoi hd hfi hli
          · have hdp := depB_spec hdep hoi hoj hd ht hij
            rw [hfsd j false hbj, if_neg (by simp), hfsd i true hfi] at hdp
            rcases hdp with h | h
            · cases h
            · omega
        · rw [ini1 t (fun i o ho _ hd => hw ⟨i, o, ho, hd⟩)]
          exact D.todo t (hnoT t hw)
      obtain ⟨t1, t2, t3⟩ := toSegs_ok s1
      have hr := (hx.get t3).unf.toL (fun l e => by
        have e : eu (opV sl1 x) = .tup l := e
        rw [e] at t2; cases t2)
      have hr : RelL w B η0 (segsA s) (a.eval x).cells.toList := by rw [← t1]; exact hr
      have hl : (segsA s).length = P.cellsOf g0.T := by rw [wL_eq]; exact s2
      obtain ⟨p1, p2⟩ := putV_ok s5
      have hz : exE (zeroE P g0.T vz) = .box (segsA (packT P g0.T (vz.cells.toList.map constV))) g0.T := rfl
      have hrun := run_storeAt_row (P := P) (T := g0.T) (v := a.eval x) (of := 0) e5 (by rw [hr.1]; exact hl) s3 (by rw [hr.1, e6.1]; exact p2) (hr.one (oneV_ok s s4))
      have hon : On B w (w.setRow b (putL us 0 (a.eval x).cells.toList).toArray) := ⟨rfl, rfl, rfl, by simp, fun k _ hk => .of (setRow_other w b k _ (fun h => hk (by rw [h]; exact e3)))⟩
      have hbel : Below n0 w (w.setRow b (putL us 0 (a.eval x).cells.toList).toArray) := ⟨rfl, rfl, rfl, by simp, fun k hk => setRow_other w b k _ (by omega)⟩
      have hval : (execOp a.eval o).run P w = .ok .skip (w.setRow b (putL us 0 (a.eval x).cells.toList).toArray) := by
        have hga : a.eval (.tmp g0.t) = .pointer (some ⟨b, 0, none⟩) := e1
        simp [execOp, f3, hga, Sem.run_bind, hrun]
      have hput : ∀ t, (a.put o.dst undef).tmps.getD t undef = a.tmps.getD t undef := fun t => put0 undef t (by rw [f4]; exact nofun)
      have hnej : ∀ (i : Nat) gg, gs[i]? = some gg → gg.j ≠ j := fun i gg hg e => by
        obtain ⟨o', n1, n2, n3, n4, n5⟩ := makeAt i gg hg
        rw [e, f1] at n1
        injection n1 with n1
        rw [← n1, f4] at n4; cases n4
      have hstB : ∀ (i : Nat) gg, gs[i]? = some gg → i ≠ i0 → stB (listed.setIfInBounds j true) gg = stB listed gg := fun i gg hg hne => by
        unfold stB
        split
        · rename_i s' x' hs
          obtain ⟨o', n1, n2, n3, n4, _⟩ := hgs.fill gg (List.mem_of_getElem? hg) s' x' hs
          refine hset s' (fun e => ?_)
          rw [e, f1] at n1
          injection n1 with n1
          rw [← n1, f3] at n3
          injection n3 with _ n3 _
          injection n3 with n3
          exact hne (hgs.uniq i i0 gg g0 hg hg0 n3.symm)
        · rfl
      have hnext : K (a.put o.dst undef) (w.setRow b (putL us 0 (a.eval x).cells.toList).toArray) := by
        refine hK _ _ ⟨B, by rw [put_defers']; exact D.defers, by rw [put_size]; exact D.size, D.inv.other hon (fun _ h => .inl h) (fun _ h => h) (fun b' hb' => by simpa using D.inv.lt b' hb') (fun id e he hl b' hb' => setRow_other w b b' _ (fun h => ?_)), D.goes.trans ⟨hon, fun _ h => .inl h, fun _ _ _ h => h, hbel⟩, fun t i o' ho hd hfi hli => ?_, fun t hno => ?_, fun i gg y hg hy hl => ?_, fun i i' gg gg' hne hg hg' hl hl' => ?_⟩
        · have := hlow id e he hl b' hb'
          omega
        · have hij : i ≠ j := fun e => by rw [e, f2] at hfi; cases hfi
          rw [hput]
          have := D.done t i o' ho hd hfi (by rw [← hset i hij]; exact hli)
          exact ⟨this.1.on hon (fun _ h => .inl h) (fun _ _ h => h), this.2⟩
        · rw [hput]
          have := D.todo t (fun i hd => by
            rw [← hset i (fun e => (by subst e; rw [f1] at hd; rw [Option.bind_some, f4] at hd; cases hd))]; exact hno i hd)
          exact ⟨this.1.on hon (fun _ h => .inl h) (fun _ _ h => h), this.2⟩
        · rw [hput]
          by_cases hii : i = i0
          · subst hii
            have : gg = g0 := by rw [hg0] at hg; exact (Option.some.inj hg).symm
            subst this
            have : y = ys[i] := by rw [List.getElem?_eq_getElem hy0] at hy; exact (Option.some.inj hy).symm
            subst this
            rw [e1]
            refine ⟨?_, fun b' hb' => by simp [blkOf] at hb'; rw [← hb']; exact hblk⟩
            unfold curE
            rw [hst1, if_pos rfl, s6]
            have h0 : EntOK n0 Bx (w.setRow b (putL us 0 (a.eval x).cells.toList).toArray) B η0 (.pointer (some ⟨b, 0, none⟩)) (.box (segsA l') gg.T) := ⟨b, _, rfl, e2, e3, e4, setRow_heap w b us.toArray _ gg.T (0, 0) e5, by rw [p1]; exact (e6.putL hr 0).on hon (fun _ h => .inl h) (fun _ _ h => h)⟩
            exact h0.le (.inr (.inr (.inl ⟨_, _, _, rfl, rfl, packT_ok gg.T l'⟩)))
          · obtain ⟨q1, q2⟩ := D.box i gg y hg hy (by rw [← hset _ (hnej i gg hg)]; exact hl)
            refine ⟨?_, q2⟩
            unfold curE at q1 ⊢
            rw [hstB i gg hg hii]
            exact EntOK.keep q1 hon (fun _ h => .inl h) (fun _ h => h) (fun _ _ h => h) (fun hl b' hb' => setRow_other w b b' _ (fun h => D.sep i i0 gg g0 hii hg hg0 (by rw [← hset _ (hnej i gg hg)]; assumption) hmade b' hb' (by rw [e1, h]; rfl)))
        · rw [hput, hput]
          exact D.sep i i' gg gg' hne hg hg' (by rw [← hset _ (hnej i gg hg)]; exact hl) (by rw [← hset _ (hnej i' gg' hg')]; exact hl')
      unfold wpOp
      simp only [hoj]
      rw [if_pos (by simp [Region.wanted, f5])]
      exact .inl (val_wp (val_skip hval hnext))
theorem decl_ok (hm : P.follows .mixedOrders = true) {id : Nat} {inl : FuncId → Bool} (hB : declB inl ops = true) {st0 : S2} {sl1 : List V} {k : S2 → Tree R} {res : R}
    (h1 : T1d P ops st0.heap (flR 0 ops.toList (frontsA inl ops)) st0.slots sl1) (h : (declK P (clR 0 ops.toList (frontsA inl ops)) sl1 st0.heap k).run = some res) :
    ∃ st2, (k st2).run = some res ∧ ∀ (n0 m0 : Nat) (Bx : List Nat) (ds : List Deferred) (a : Act) (w : World) (B : List Nat) (η : List Value) (Q : Exit → Act → World → Prop), SimK n0 Bx ds st0 a w B η →
      (∀ a' w' B' η', SimK n0 Bx ds st2 a' w' B' η' → Goes n0 m0 w B η w' B' η' → Q .normal a' w') → (Code.region id ops true).wp P Q a w := by
  have hB' := hB
  simp only [declB, declQ, Bool.and_eq_true, beq_iff_eq] at hB'
  obtain ⟨⟨hdecl, _⟩, ⟨⟨⟨⟨hsel, hback⟩, honce⟩, hdata⟩, hdep⟩, hfsl⟩ := hB'
  generalize hcl : clR 0 ops.toList (frontsA inl ops) = cl at h hdecl
  generalize hfl : flR 0 ops.toList (frontsA inl ops) = fl at h1
  generalize hfs : frontsA inl ops = fs at *
  have hgs := gsOK_of (fs := fs) hcl.symm hdecl honce
  unfold declK at h
  generalize grpsOf cl cl = gs at h hgs
  split at h
  case isFalse => cases h
  rename_i hall0
  obtain ⟨ys, h2, hys⟩ := grpsK_ok h
  rw [forceL_eq] at h2
  refine ⟨_, h2, fun n0 m0 Bx ds a w B η Q hs hQ => ?_⟩
  have hlen1 := h1.keep.1
  have hin : ∀ g ∈ gs, g.t < st0.slots.length := fun g hg => by
    have := List.all_eq_true.1 hall0 g hg
    rw [← hlen1]; simpa using this
  have inF : ∀ i o, (i, o) ∈ fl ↔ ops[i]? = some o ∧ fs[i]? = some true := fun i o => by rw [← hfl, flR_mem]; simp
  have inC : ∀ i o, (i, o) ∈ cl ↔ ops[i]? = some o ∧ fs[i]? = some false := fun i o => by rw [← hcl, clR_mem]; simp
  refine wp_region_any hm ?_
  have g0 : Gr w { w with drawn := w.drawn + 1 } := ⟨rfl, rfl, rfl, Nat.le_refl _, fun _ _ => rfl⟩
  have hcount : ((List.range ops.size).filter fun i => !(Array.replicate ops.size false).getD i false).length = ops.size := by
    rw [List.filter_eq_self.2 (fun i _ => by rw [getD_replicate_false]; rfl), List.length_range]
  have inv0 : HeadInv .any ops ops.size (Array.replicate ops.size false) :=
    ⟨by simp, fun j oj _ hl => (by rw [getD_replicate_false] at hl; cases hl), fun t ht1 ht2 => by omega⟩
  have hinv := hs.inv.gr g0
  have hlow : ∀ id e, (st0.heap.map exE)[id]? = some e → e.live = true → ∀ b, blkOf (η.getD id undef) = some b → b < ({ w with drawn := w.drawn + 1 } : World).heap.size := fun id e he hl b hb => (EntOK.lt (hinv.ent id e he) hl b hb).1
  refine wpAny_inv (fun listed a' w' => ∃ B', DG ops fs gs ys st0.slots sl1 st0.heap n0 m0 Bx ds { w with drawn := w.drawn + 1 } B η listed a' w' B') hback (dg_step (P := P) hcl.symm hfl.symm hgs honce hdata hdep hfsl h1 hys hin hlow) ?_ ops.size _ a _ hcount inv0 ⟨B, ?_⟩
  · intro listed a' w' hi hall ⟨B', D⟩
    have hmake : ∀ (i : Nat) g, gs[i]? = some g → listed.getD g.j false = true := fun i g hg => by
      obtain ⟨o, m1, _⟩ := hgs.make g (List.mem_of_getElem? hg)
      exact hall _ (Array.getElem?_eq_some_iff.1 m1).1
    have hcur : ∀ (i : Nat) g y, gs[i]? = some g → ys[i]? = some y → curE listed g y = y.2 := fun i g y hg hy => by
      unfold curE stB
      cases hgs' : g.s with
      | none =>
        obtain ⟨v, _, _, q3, _⟩ := hys.2 i g y hg hy
        rw [if_neg (by simp)]; exact (q3 hgs').symm
      | some p =>
        obtain ⟨o, m1, _⟩ := hgs.fill g (List.mem_of_getElem? hg) p.1 p.2 (by rw [hgs'])
        simp only
        rw [if_pos (hall _ (Array.getElem?_eq_some_iff.1 m1).1)]
    have hlen : (gs.zip ys).length = gs.length := by rw [List.length_zip, hys.1]; exact Nat.min_self _
    have hat : ∀ (i : Nat) p, (gs.zip ys)[i]? = some p → gs[i]? = some p.1 ∧ ys[i]? = some p.2 := fun i p hp => by
      rw [List.getElem?_zip_eq_some] at hp; exact hp
    have hl2 : ((gs.zip ys).map fun p => (a'.tmps.getD p.1.t undef, p.2.2)).map (·.2) = ys.map (·.2) := by
      rw [List.map_map]
      have : ((fun x => x.2) ∘ fun (p : Grp × E2 × E2) => (a'.tmps.getD p.1.t undef, p.2.2)) = (fun x => x.2) ∘ Prod.snd := rfl
      rw [this, ← List.map_map, List.map_snd_zip (by rw [hys.1]; exact Nat.le_refl _)]
    have hfin := Inv.snocs (base := 0) (η0 := η) ((gs.zip ys).map fun p => (a'.tmps.getD p.1.t undef, p.2.2)) η st0.heap D.inv (fun _ _ h => h) (fun q hq => ?_) (fun q hq id e' he hl b hb hc => ?_) ?_
    rotate_left
    · obtain ⟨p, hp, rfl⟩ := List.mem_map.1 hq
      obtain ⟨i, hi', e⟩ := List.getElem_of_mem hp
      obtain ⟨k1, k2⟩ := hat i p (by rw [List.getElem?_eq_getElem hi', e])
      have := (D.box i p.1 p.2 k1 k2 (hmake i p.1 k1)).1
      rw [hcur i p.1 p.2 k1 k2] at this
      exact this
    · obtain ⟨p, hp, rfl⟩ := List.mem_map.1 hq
      obtain ⟨i, hi', e⟩ := List.getElem_of_mem hp
      obtain ⟨k1, k2⟩ := hat i p (by rw [List.getElem?_eq_getElem hi', e])
      have h3 := (D.box i p.1 p.2 k1 k2 (hmake i p.1 k1)).2 b hc
      have h4 := hlow id e' he hl b hb
      omega
    · refine List.pairwise_iff_getElem.2 fun i i' hi1 hi2 hlt b hb => ?_
      simp only [List.length_map] at hi1 hi2
      simp only [List.getElem_map] at hb ⊢
      obtain ⟨k1, k2⟩ := hat i _ (List.getElem?_eq_getElem hi1)
      obtain ⟨k1', k2'⟩ := hat i' _ (List.getElem?_eq_getElem hi2)
      exact D.sep i i' _ _ (by omega) k1 k1' (hmake i _ k1) (hmake i' _ k1') b hb
    rw [hl2] at hfin
    have hη : ∀ (id : Nat) v, η[id]? = some v → (η ++ ((gs.zip ys).map fun p => (a'.tmps.getD p.1.t undef, p.2.2)).map (·.1))[id]? = some v := fun id v hv => by
      rw [List.getElem?_append_left (List.getElem?_eq_some_iff.1 hv).1]; exact hv
    refine hQ a' w' B' _ ⟨D.defers, hfin, ?_⟩ ⟨(On.gr g0).trans D.goes.on (fun _ h => .inl h), fun b hb => D.goes.hB b hb, fun id v hid hv => hη id v hv, Below.trans (g0.mono hs.inv.base.1) D.goes.below⟩
    have key : ∀ t, Rel2 w' B' (η ++ ((gs.zip ys).map fun p => (a'.tmps.getD p.1.t undef, p.2.2)).map (·.1)) ((setG sl1 st0.heap.length gs).getD t .any) (a'.tmps.getD t undef) ∧ FreshV n0 (ex ((setG sl1 st0.heap.length gs).getD t .any)) (a'.tmps.getD t undef) := fun t => by
      by_cases hgt : ∃ (i : Nat) (g : Grp), gs[i]? = some g ∧ g.t = t
      · obtain ⟨i, g, hg, rfl⟩ := hgt
        rw [setG_get gs sl1 st0.heap.length i g hg (fun i' g' hg' ht => hgs.uniq i' i g' g hg' hg ht) (by rw [hlen1]; exact hin g (List.mem_of_getElem? hg))]
        refine ⟨?_, fun h => by cases h⟩
        have hyi : i < ys.length := by rw [hys.1]; exact (List.getElem?_eq_some_iff.1 hg).1
        have hzi : (gs.zip ys)[i]? = some (g, ys[i]) := by rw [List.getElem?_zip_eq_some]; exact ⟨hg, List.getElem?_eq_getElem hyi⟩
        have hbx := (D.box i g _ hg (List.getElem?_eq_getElem hyi) (hmake i g hg)).1
        rw [hcur i g _ hg (List.getElem?_eq_getElem hyi)] at hbx
        have : ∃ b, a'.tmps.getD g.t undef = .pointer (some ⟨b, 0, none⟩) := by
          obtain ⟨v', q1, q2, q3, q4⟩ := hys.2 i g _ hg (List.getElem?_eq_getElem hyi)
          cases hgs' : g.s with
          | none =>
            rw [q3 hgs', q2] at hbx
            obtain ⟨b, us, e1, _⟩ := hbx
            exact ⟨b, e1⟩
          | some p =>
            obtain ⟨s, l', _, _, _, _, _, q5⟩ := q4 p.1 p.2 hgs'
            rw [q5] at hbx
            obtain ⟨b, us, e1, _⟩ := hbx
            exact ⟨b, e1⟩
        obtain ⟨b, hb⟩ := this
        have hηl : η.length = st0.heap.length := by have := hinv.len; simpa using this
        rw [hb]
        refine Rel.box _ _ _ b ?_
        rw [List.getElem?_append_right (by omega), hηl, Nat.add_sub_cancel_left, List.map_map, List.getElem?_map, hzi]
        show some (a'.tmps.getD g.t undef) = _
        rw [hb]
      · rw [setG_keep gs sl1 _ t (fun g hg ht => by
          obtain ⟨i, hi', e⟩ := List.getElem_of_mem hg
          exact hgt ⟨i, g, by rw [List.getElem?_eq_getElem hi', e], ht⟩)]
        have hon := On.refl B' w'
        by_cases hw : ∃ (i : Nat) (oi : Oper), ops[i]? = some oi ∧ oi.dst = some t
        · obtain ⟨i, oi, hoi, hd⟩ := hw
          have his := (Array.getElem?_eq_some_iff.1 hoi).1
          have hfi : fs[i]? = some true := by
            have hlt : i < fs.length := by rw [hfsl]; exact his
            cases hb : fs[i] with
            | true => rw [List.getElem?_eq_getElem hlt, hb]
            | false =>
              exfalso
              rcases hgs.part i oi ((inC i oi).2 ⟨hoi, by rw [List.getElem?_eq_getElem hlt, hb]⟩) with ⟨i1, g, hg, e⟩ | ⟨i1, g, x, hg, e⟩
              · obtain ⟨o, m1, m2, m3, m4, _⟩ := hgs.make g (List.mem_of_getElem? hg)
                rw [e, hoi] at m1
                injection m1 with m1
                rw [← m1, hd] at m4
                exact hgt ⟨i1, g, hg, (Option.some.inj m4).symm⟩
              · obtain ⟨o, m1, m2, m3, m4, _⟩ := hgs.fill g (List.mem_of_getElem? hg) i x e
                rw [hoi] at m1
                injection m1 with m1
                rw [← m1, hd] at m4; cases m4
          have := D.done t i oi hoi hd hfi (hall i his)
          exact ⟨this.1.on hon (fun _ h => .inl h) hη, this.2⟩
        · rw [h1.keep.2 t (fun p hp hd => hw ⟨p.1, p.2, ((inF p.1 p.2).1 hp).1, hd⟩)]
          have := D.todo t (fun i hd => by
            obtain ⟨o, ho, hd⟩ := Option.bind_eq_some_iff.1 hd
            exact absurd ⟨i, o, ho, hd⟩ hw)
          exact ⟨this.1.on hon (fun _ h => .inl h) hη, this.2⟩
    refine ⟨?_, fun t => (key t).1, fun t => (key t).2⟩
    show (setG sl1 st0.heap.length gs).length = _
    rw [setG_length, hlen1, D.size]
  · exact ⟨hs.defers, hs.slots.size.symm, hinv, Goes.refl _ _ _ _ _, fun t i o _ _ _ h => (by rw [getD_replicate_false] at h; cases h), fun t _ => ⟨(hs.slots.rel t).gk (Gk.gr (n0 := n0) g0), hs.slots.fresh t⟩, fun i g y _ _ h => (by rw [getD_replicate_false] at h; cases h), fun i i' g g' _ _ _ h => (by rw [getD_replicate_false] at h; cases h)⟩
end
end Go.Proofs.Ytcmekgfglohooaa
/-
  Regions, code, calls: run on typed values; what they come to.
-/
namespace Go.Proofs.Ytcmekgfglohooaa
set_option maxRecDepth 100000
open Go.RowKit
set_option linter.unusedVariables false
set_option linter.unusedSimpArgs false

section
variable {R : Type}
/-- What is appended to is nobody's from now on, and so is what comes of it. -/
def appQ (mv : Bool × Bool) (sl : List V) (o : Op) : Option (Nat × Operand × TypeId) :=
  if mv.2 = true then (match o with
    | .call ⟨.builtin .append, ⟨[s, x]⟩, ⟨[t, t']⟩⟩ => if t = t' ∧ plainB (opV sl) o = true then (match opV sl s with
      | .own id => some (id, x, t)
      | _ => none) else none
    | _ => none) else none
def appFzK (P : Program) (st : S2) (id : Nat) (x : V) (t : TypeId) (k : S2 → V → Tree R) : Tree R :=
  match elemT P t, st.heap[id]? with
  | some e, some (.own d l E) => (match rowI P e with
    | some (kw, by_) => if E = e ∧ wd d = kw then (match viewA P e x with
      | some ⟨d', m⟩ => castK d' d (fun d => List (T d)) m fun m => .ite (roomB (l.length + m.length) by_) (k (freeze st id) (.lst d (l ++ m))) .fail
      | none => .fail) else .fail
    | none => .fail)
  | _, _ => .fail
theorem appQ_spec {mv : Bool × Bool} {sl : List V} {o : Op} {id : Nat} {x : Operand} {t : TypeId} (h : appQ mv sl o = some (id, x, t)) : ∃ s, o = .call ⟨.builtin .append, #[s, x], #[t, t]⟩ ∧ opV sl s = .own id ∧ plainB (opV sl) o = true := by
  unfold appQ at h
  split at h
  · split at h
    · rename_i s x' t1 t2
      split at h
      · rename_i hc
        obtain ⟨rfl, hp⟩ := hc
        split at h
        · rename_i id' hs
          simp only [Option.some.injEq, Prod.mk.injEq] at h
          obtain ⟨rfl, rfl, rfl⟩ := h
          exact ⟨s, rfl, hs, hp⟩
        · cases h
      · cases h
    · cases h
  · cases h
theorem appFz_ok {P : Program} {st : S2} {o : Oper} {id : Nat} {s x : Operand} {t : TypeId} {k : S2 → V → Tree R} {res : R} (ho : o.op = .call ⟨.builtin .append, #[s, x], #[t, t]⟩) (hs : opV st.slots s = .own id) (hp : Plain (opV st.slots) o) (h : (appFzK P st id (opV st.slots x) t k).run = some res) :
    ∃ st2 r, (k st2 r).run = some res ∧ ∀ (n0 m0 : Nat) (Bx : List Nat) (ds : List Deferred) (a : Act) (w : World) (B : List Nat) (η : List Value), SimK n0 Bx ds st a w B η → ∀ N : Value → World → Prop,
      (∀ v w' B', SimK n0 Bx ds st2 a w' B' η → Goes n0 m0 w B η w' B' η → Rel2 w' B' η r v → FreshV n0 (ex r) v → N v w') → Oper.val P a.eval o w N := by
  unfold appFzK at h
  split at h
  · rename_i e d l E het hH
    split at h
    · rename_i kw by_ hrow
      obtain ⟨ti, z, q1, q2, q3, q4, q5, q6⟩ := rowI_spec hrow
      split at h
      · rename_i hc
        obtain ⟨rfl, hwd⟩ := hc
        split at h
        · rename_i d' m hv
          obtain ⟨e1, h1⟩ := castK_run h
          clear h
          subst e1
          simp only at h1
          rcases Tree.run_ite h1 with ⟨hb, h⟩ | ⟨_, h⟩
          · obtain ⟨r1, r2⟩ : l.length + m.length ≤ maxLen ∧ (l.length + m.length) * by_ ≤ 140737488355328 := of_decide_eq_true hb
            refine ⟨_, _, h, fun n0 m0 Bx ds a w B η hsim N hN => ?_⟩
            have hdiv2 : ((flat _ l).length + (flat _ m).length) / kw = l.length + m.length := by rw [← List.length_append, ← flat_append, flat_length, hwd, List.length_append]; exact Nat.mul_div_cancel _ (by omega)
            have hop : ∀ y ∈ o.op.operands, Rel2 w B η (opV st.slots y) (a.eval y) ∧ FreshV n0 (ex (opV st.slots y)) (a.eval y) := fun y _ => opV_rel hsim.slots hsim.inv.base.2 y
            have hse := (hop s (by simp [ho, Op.operands, Call.operands])).1
            rw [hs] at hse
            have hse : Rel w B η (.own id) (a.eval s) := hse
            have hxe := heu_of hp hop x (by simp [ho, Op.operands, Call.operands])
            have hsrc : ∀ (Hh : List Ent), srcA Hh kw (eu (opV st.slots x)) = some (flat _ m) := fun Hh => by rw [← hwd]; exact srcA_viewA hv Hh
            obtain ⟨v', w', g1, g2, g3, g4, g5⟩ := append_keep (P := P) (o := o) (ρA := fun y => eu (opV st.slots y)) hsim.inv ho hse hxe (elemT_spec het) q1 q2 q3 q4 q5 q6 (cells := flat _ l) (by rw [exH hH]; simp [exE, hwd]) (hsrc _) (flat_one _ m) (by rw [← flat_append]; exact flat_imm _ _) (by rw [hdiv2]; exact r1) (by rw [hdiv2]; exact r2)
            have hs1 : SimK n0 Bx ds st a w' B η := ⟨hsim.defers, g4, hsim.slots.on g2 (fun _ h => .inl h) (fun _ _ h => h)⟩
            obtain ⟨B', k1, k2, k3⟩ := freeze_ok2 hs1 id
            unfold Oper.val
            rw [g1]
            refine hN v' w' B' k2 ⟨g2, fun b hb => .inl (k1 b hb), fun _ _ _ h => h, g3⟩ ?_ (fun h => by cases h)
            have := g5 B' η k1 (k3 _ _ _ hH)
            rw [← flat_append, ← hwd] at this
            exact this
          · cases h
        · cases h
      · cases h
    · cases h
  · cases h
def evOpsI (P : Program) (Γ : Env R) (C : CallI R) (mv : Bool × Bool) (ops : Array Oper) : List Oper → S2 → (S2 → Tree R) → Tree R
  | [], st, k => k st
  | o :: rest, st, k => wantK ops st.slots o
    (fun sl => match frzOp mv o.op ⟨sl, st.heap⟩ with
      | ⟨sl1, H1⟩ => match appQ mv sl1 o.op with
        | some (id, x, t) => appFzK P ⟨sl1, H1⟩ id (opV sl1 x) t fun st2 r => forceL (setV st2.slots o.dst r) fun sl' => evOpsI P Γ C mv ops rest ⟨sl', st2.heap⟩ k
        | none => evI P Γ C mv ⟨sl1, H1⟩ o.op fun r H' => forceL (setV sl1 o.dst r) fun sl' => evOpsI P Γ C mv ops rest ⟨sl', H'⟩ k)
    (fun sl => forceL (setV sl o.dst (.c undef)) fun sl' => evOpsI P Γ C mv ops rest ⟨sl', st.heap⟩ k)
theorem SlotsK.setV {n0 : Nat} {w : World} {B : List Nat} {η : List Value} {sl : List V} {a : Act} {r : V} {v : Value} (h : SlotsK n0 w B η sl a.tmps) (hr : Rel2 w B η r v) (hf : FreshV n0 (ex r) v) (d : Option Tmp) : SlotsK n0 w B η (setV sl d r) (a.put d v).tmps := by
  cases d with
  | none => exact h
  | some t => exact h.put hr hf t
theorem put_defers (a : Act) (d : Option Tmp) (v : Value) : (a.put d v).defers = a.defers := by cases d <;> rfl
theorem evOpsI_ok {P : Program} {Γ : Env R} (hF : FnsOK P Γ.fns) {C : CallI R} (hC : CallIOK P C) {mv : Bool × Bool} {ops : Array Oper} : ∀ (l : List Oper) (st : S2) (k : S2 → Tree R) (res : R), (evOpsI P Γ C mv ops l st k).run = some res →
    ∃ st', (k st').run = some res ∧ ∀ (n0 m0 : Nat) (Bx : List Nat) (ds : List Deferred) (a : Act) (w : World) (B : List Nat) (η : List Value) (Q : Exit → Act → World → Prop), SimK n0 Bx ds st a w B η →
      (∀ a' w' B' η', SimK n0 Bx ds st' a' w' B' η' → Goes n0 m0 w B η w' B' η' → Q .normal a' w') → wpList P ops Q l a w
  | [], st, k, res, h => ⟨st, h, fun n0 m0 Bx ds a w B η Q hs hQ => hQ a w B η hs (Goes.refl _ _ _ _ _)⟩
  | o :: rest, st, k, res, h => by
    unfold evOpsI at h
    obtain ⟨b, h1, hwant⟩ := wantK_ok h
    clear h
    cases b with
    | true =>
      simp only [if_true] at h1
      split at h1
      · rename_i id x t hq
        obtain ⟨s, ho, hs, hpl⟩ := appQ_spec hq
        obtain ⟨st2, r, h2, h3⟩ := appFz_ok (st := frzOp mv o.op ⟨st.slots, st.heap⟩) (s := s) ho hs (fun y hy => Array.all_eq_true'.1 hpl y hy) h1
        rw [forceL_eq] at h2
        obtain ⟨st', h4, h5⟩ := evOpsI_ok hF hC rest _ k res h2
        refine ⟨st', h4, fun n0 m0 Bx ds a w B η Q hs hQ => ?_⟩
        unfold wpList
        rw [hwant w B η a.tmps hs.slots.size (fun d _ => hs.slots.rel d), if_pos rfl]
        obtain ⟨B1, hs1, hg1⟩ := frzOp_ok (m0 := m0) mv o.op st B hs
        refine .inl (val_wp (h3 n0 m0 Bx ds a w B1 η hs1 _ fun v w' B' hs2 hg2 hrel hfv => ?_))
        exact h5 n0 m0 Bx ds _ w' B' η Q ⟨by rw [put_defers]; exact hs2.defers, hs2.inv, hs2.slots.setV hrel hfv _⟩ (fun a2 w2 B2 η2 hs3 hg3 => hQ a2 w2 B2 η2 hs3 ((hg1.trans hg2).trans hg3))
      · obtain ⟨r, H', h2, h3⟩ := evI_ok hF hC h1
        rw [forceL_eq] at h2
        obtain ⟨st', h4, h5⟩ := evOpsI_ok hF hC rest _ k res h2
        refine ⟨st', h4, fun n0 m0 Bx ds a w B η Q hs hQ => ?_⟩
        unfold wpList
        rw [hwant w B η a.tmps hs.slots.size (fun d _ => hs.slots.rel d), if_pos rfl]
        obtain ⟨B1, hs1, hg1⟩ := frzOp_ok (m0 := m0) mv o.op st B hs
        refine .inl (val_wp (h3 n0 Bx ds a w B1 η hs1 _ fun v w' B' η' hon hB hη hbel inv' hrel hfv => ?_))
        have hg2 : Goes n0 m0 w B1 η w' B' η' := ⟨hon, hB, fun id v _ hv => hη id v hv, hbel⟩
        exact h5 n0 m0 Bx ds _ w' B' η' Q ⟨by rw [put_defers]; exact hs1.defers, inv', (hs1.slots.on hon hB hη).setV hrel hfv _⟩ (fun a2 w2 B2 η2 hs2 hg3 => hQ a2 w2 B2 η2 hs2 ((hg1.trans hg2).trans hg3))
    | false =>
      simp only [Bool.false_eq_true, if_false] at h1
      rw [forceL_eq] at h1
      obtain ⟨st', h4, h5⟩ := evOpsI_ok hF hC rest _ k res h1
      refine ⟨st', h4, fun n0 m0 Bx ds a w B η Q hs hQ => ?_⟩
      unfold wpList
      rw [hwant w B η a.tmps hs.slots.size (fun d _ => hs.slots.rel d), if_neg (by simp)]
      exact h5 n0 m0 Bx ds _ w B η Q ⟨by rw [put_defers]; exact hs.defers, hs.inv, hs.slots.setV (r := .c undef) (v := undef) (Rel.c _ _) (fun h => by cases h) _⟩ hQ

end
section
variable {R : Type}
/-! ### Ways that meet again: what is behind '&&' or '||' is gathered into one answer -/
def pureOp : Op → Bool
  | .move _ => true
  | .binOp _ _ _ _ _ => true
  | .unOp _ _ _ => true
  | .load _ _ => true
  | .fieldAddr _ _ _ => true
  | .field _ _ _ => true
  | .pick _ _ _ => true
  | .nilCheck _ => true
  | .indexAddr _ _ _ => true
  | .index _ _ _ => true
  | _ => false
def spanO : List Oper → List Oper × List Oper
  | [] => ([], [])
  | o :: l => match o.guard with
    | none => ([], o :: l)
    | some _ => (match spanO l with | (a, b) => (o :: a, b))
theorem spanO_ok : ∀ (l : List Oper), (spanO l).1 ++ (spanO l).2 = l
  | [] => rfl
  | o :: l => by
    unfold spanO
    split
    · rfl
    · have := spanO_ok l
      split
      rename_i a b h
      rw [h] at this
      simp only at this ⊢
      rw [List.cons_append, this]
def segO (l : List Oper) : Option (List Oper × Tmp × List Oper) := match l with
  | [] => none
  | o :: r => (match o.guard with
    | none => none
    | some _ => (match spanO (o :: r) with
      | (seg, p :: rest) => (match p.op, p.dst with
        | .pick _ _ _, some d => if seg.all (fun q => pureOp q.op) = true then some (seg ++ [p], d, rest) else none
        | _, _ => none)
      | _ => none))
theorem segO_ok {l seg rest : List Oper} {d : Tmp} (h : segO l = some (seg, d, rest)) : l = seg ++ rest := by
  unfold segO at h
  split at h
  · cases h
  · rename_i o r
    split at h
    · cases h
    · split at h
      · rename_i a p b hs
        split at h
        · split at h
          · injection h with h
            injection h with h1 h2
            injection h2 with h2 h3
            subst h1 h3
            have := spanO_ok (o :: r)
            rw [hs] at this
            rw [List.append_assoc]
            exact this.symm
          · cases h
        · cases h
      · cases h
def noF : Fns Bool := fun _ _ _ => .fail
theorem noF_ok (P : Program) : FnsOK P noF := ⟨fun f args k res h => by cases h⟩
def evSg (P : Program) (ops : Array Oper) (H : List E2) : List Oper → List V → (List V → Tree Bool) → Tree Bool
  | [], sl, k => k sl
  | o :: rest, sl, k => wantK ops sl o (fun sl => evNF P noF H (opV sl) o.op fun r => forceL (setV sl o.dst r) fun sl' => evSg P ops H rest sl' k) (fun sl => forceL (setV sl o.dst (.c undef)) fun sl' => evSg P ops H rest sl' k)
def wipeS : List Oper → List V → List V
  | [], sl => sl
  | o :: l, sl => wipeS l (setV sl o.dst .any)
theorem wipeS_length : ∀ (l : List Oper) (sl : List V), (wipeS l sl).length = sl.length
  | [], sl => rfl
  | o :: l, sl => by rw [wipeS, wipeS_length l, length_setV]
theorem wipeS_any : ∀ (l : List Oper) (sl : List V) (t : Nat), sl.getD t .any = .any → (wipeS l sl).getD t .any = .any
  | [], sl, t, h => h
  | o :: l, sl, t, h => by
    rw [wipeS]
    refine wipeS_any l _ t ?_
    by_cases hd : o.dst = some t
    · rw [hd]
      rcases Nat.lt_or_ge t sl.length with hl | hl
      · exact setV_own hl
      · exact getD_over (by rw [length_setV]; exact hl)
    · rw [getD_setV hd]; exact h
theorem wipeS_get : ∀ (l : List Oper) (sl : List V) (t : Nat), (wipeS l sl).getD t .any = .any ∨ ((wipeS l sl).getD t .any = sl.getD t .any ∧ ∀ o ∈ l, o.dst ≠ some t)
  | [], sl, t => .inr ⟨rfl, fun o h => by cases h⟩
  | o :: l, sl, t => by
    rw [wipeS]
    by_cases hd : o.dst = some t
    · refine .inl (wipeS_any l _ t ?_)
      rw [hd]
      rcases Nat.lt_or_ge t sl.length with hl | hl
      · exact setV_own hl
      · exact getD_over (by rw [length_setV]; exact hl)
    · rcases wipeS_get l (setV sl o.dst .any) t with h | ⟨h1, h2⟩
      · exact .inl h
      · refine .inr ⟨by rw [h1, getD_setV hd], fun o' ho' => ?_⟩
        rcases List.mem_cons.1 ho' with rfl | h
        · exact hd
        · exact h2 o' h
def joinT (t : Tree Bool) (k : Bool → Tree R) : Tree R := match t with
  | .done b => k b
  | .fail => .fail
  | t => .bind t.run k
theorem joinT_ok {t : Tree Bool} {k : Bool → Tree R} {res : R} (h : (joinT t k).run = some res) : ∃ b, t.run = some b ∧ (k b).run = some res := by
  cases t with
  | done b => exact ⟨b, rfl, h⟩
  | fail => cases h
  | _ => exact Tree.run_bind h
theorem SimK.weaken {n0 : Nat} {Bx : List Nat} {ds : List Deferred} {sl sl' : List V} {H : List E2} {a : Act} {w : World} {B : List Nat} {η : List Value} (h : SimK n0 Bx ds ⟨sl, H⟩ a w B η) (hl : sl'.length = sl.length) (hw : ∀ t, sl'.getD t .any = sl.getD t .any ∨ sl'.getD t .any = .any) : SimK n0 Bx ds ⟨sl', H⟩ a w B η :=
  ⟨h.defers, h.inv, hl.trans h.slots.size, fun t => by
    show Rel2 w B η (sl'.getD t .any) _
    rcases hw t with h1 | h1
    · rw [h1]; exact h.slots.rel t
    · rw [h1]; trivial, fun t => by
    show FreshV n0 (ex (sl'.getD t .any)) _
    rcases hw t with h1 | h1
    · rw [h1]; exact h.slots.fresh t
    · rw [h1]; exact fun h => by cases h⟩
theorem evSg_ok {P : Program} {ops : Array Oper} {H : List E2} : ∀ (l : List Oper) (sl : List V) (k : List V → Tree Bool) (b : Bool), (evSg P ops H l sl k).run = some b →
    ∃ sl', (k sl').run = some b ∧ (sl'.length = sl.length ∧ ∀ t, (∀ o ∈ l, o.dst ≠ some t) → sl'.getD t .any = sl.getD t .any) ∧
      ∀ (n0 m0 : Nat) (Bx : List Nat) (ds : List Deferred) (a : Act) (w : World) (B : List Nat) (η : List Value) (Q : Exit → Act → World → Prop) (rest : List Oper), SimK n0 Bx ds ⟨sl, H⟩ a w B η →
        (∀ a' w', SimK n0 Bx ds ⟨sl', H⟩ a' w' B η → Goes n0 m0 w B η w' B η → wpList P ops Q rest a' w') → wpList P ops Q (l ++ rest) a w
  | [], sl, k, b, h => ⟨sl, h, ⟨rfl, fun _ _ => rfl⟩, fun n0 m0 Bx ds a w B η Q rest hs hQ => hQ a w hs (Goes.refl _ _ _ _ _)⟩
  | o :: l, sl, k, b, h => by
    unfold evSg at h
    obtain ⟨b1, h1, hwant⟩ := wantK_ok h
    clear h
    cases b1 with
    | true =>
      simp only [if_true] at h1
      obtain ⟨r, h2, h3⟩ := evNF_ok (noF_ok P) h1
      rw [forceL_eq] at h2
      obtain ⟨sl', h4, ⟨k1, k2⟩, h5⟩ := evSg_ok l _ k b h2
      refine ⟨sl', h4, ⟨by rw [k1, length_setV], fun t ht => by rw [k2 t (fun o' ho' => ht o' (List.mem_cons_of_mem _ ho')), getD_setV (ht o List.mem_cons_self)]⟩, fun n0 m0 Bx ds a w B η Q rest hs hQ => ?_⟩
      rw [List.cons_append]
      unfold wpList
      rw [hwant w B η a.tmps hs.slots.size (fun d _ => hs.slots.rel d), if_pos rfl]
      refine .inl (val_wp (h3 n0 Bx w B η a.eval (fun f => rfl) hs.inv (fun x _ => opV_rel hs.slots hs.inv.base.2 x) _ fun v w' g hr hf => ?_))
      have hg : Goes n0 m0 w B η w' B η := ⟨g.on, fun _ h => .inl h, fun _ _ _ h => h, g.below hs.inv.base.1⟩
      exact h5 n0 m0 Bx ds _ w' B η Q rest ⟨by rw [put_defers]; exact hs.defers, hs.inv.gk g, (hs.slots.on g.on (fun _ h => .inl h) (fun _ _ h => h)).setV hr hf _⟩ (fun a2 w2 hs2 hg2 => hQ a2 w2 hs2 (hg.trans hg2))
    | false =>
      simp only [Bool.false_eq_true, if_false] at h1
      rw [forceL_eq] at h1
      obtain ⟨sl', h4, ⟨k1, k2⟩, h5⟩ := evSg_ok l _ k b h1
      refine ⟨sl', h4, ⟨by rw [k1, length_setV], fun t ht => by rw [k2 t (fun o' ho' => ht o' (List.mem_cons_of_mem _ ho')), getD_setV (ht o List.mem_cons_self)]⟩, fun n0 m0 Bx ds a w B η Q rest hs hQ => ?_⟩
      rw [List.cons_append]
      unfold wpList
      rw [hwant w B η a.tmps hs.slots.size (fun d _ => hs.slots.rel d), if_neg (by simp)]
      exact h5 n0 m0 Bx ds _ w B η Q rest ⟨by rw [put_defers]; exact hs.defers, hs.inv, hs.slots.setV (r := .c undef) (v := undef) (Rel.c _ _) (fun h => by cases h) _⟩ hQ
def boolAt (d : Tmp) (sl : List V) : Tree Bool := match sl.getD d .any with
  | .c (.bool b) => .done b
  | _ => .fail
theorem boolAt_ok {d : Tmp} {sl : List V} {b : Bool} (h : (boolAt d sl).run = some b) : sl.getD d .any = .c (.bool b) := by
  unfold boolAt at h
  split at h
  · rename_i b' he
    injection h with h
    rw [he, h]
  · cases h
def evOpsJ (P : Program) (Γ : Env R) (C : CallI R) (mv : Bool × Bool) (ops : Array Oper) : Nat → List Oper → S2 → (S2 → Tree R) → Tree R
  | 0, _, _, _ => .fail
  | _ + 1, [], st, k => k st
  | n + 1, o :: rest, st, k => match segO (o :: rest) with
    | some (seg, d, rest') => joinT (evSg P ops st.heap seg st.slots (boolAt d)) fun b => forceL (setV (wipeS seg st.slots) (some d) (.c (.bool b))) fun sl' => evOpsJ P Γ C mv ops n rest' ⟨sl', st.heap⟩ k
    | none => wantK ops st.slots o
      (fun sl => match frzOp mv o.op ⟨sl, st.heap⟩ with
        | ⟨sl1, H1⟩ => match appQ mv sl1 o.op with
          | some (id, x, t) => appFzK P ⟨sl1, H1⟩ id (opV sl1 x) t fun st2 r => forceL (setV st2.slots o.dst r) fun sl' => evOpsJ P Γ C mv ops n rest ⟨sl', st2.heap⟩ k
          | none => evI P Γ C mv ⟨sl1, H1⟩ o.op fun r H' => forceL (setV sl1 o.dst r) fun sl' => evOpsJ P Γ C mv ops n rest ⟨sl', H'⟩ k)
      (fun sl => forceL (setV sl o.dst (.c undef)) fun sl' => evOpsJ P Γ C mv ops n rest ⟨sl', st.heap⟩ k)
theorem evOpsJ_ok {P : Program} {Γ : Env R} (hF : FnsOK P Γ.fns) {C : CallI R} (hC : CallIOK P C) {mv : Bool × Bool} {ops : Array Oper} : ∀ (n : Nat) (l : List Oper) (st : S2) (k : S2 → Tree R) (res : R), (evOpsJ P Γ C mv ops n l st k).run = some res →
    ∃ st', (k st').run = some res ∧ ∀ (n0 m0 : Nat) (Bx : List Nat) (ds : List Deferred) (a : Act) (w : World) (B : List Nat) (η : List Value) (Q : Exit → Act → World → Prop), SimK n0 Bx ds st a w B η →
      (∀ a' w' B' η', SimK n0 Bx ds st' a' w' B' η' → Goes n0 m0 w B η w' B' η' → Q .normal a' w') → wpList P ops Q l a w
  | 0, l, st, k, res, h => by cases l <;> cases h
  | n + 1, [], st, k, res, h => ⟨st, h, fun n0 m0 Bx ds a w B η Q hs hQ => hQ a w B η hs (Goes.refl _ _ _ _ _)⟩
  | n + 1, o :: rest, st, k, res, h => by
    unfold evOpsJ at h
    split at h
    · rename_i seg d rest' hseg
      obtain ⟨b, h1, h2⟩ := joinT_ok h
      obtain ⟨sl1, h3, ⟨k1, k2⟩, h4⟩ := evSg_ok _ _ _ _ h1
      have hb := boolAt_ok h3
      rw [forceL_eq] at h2
      obtain ⟨st', h5, h6⟩ := evOpsJ_ok hF hC n rest' _ k res h2
      refine ⟨st', h5, fun n0 m0 Bx ds a w B η Q hs hQ => ?_⟩
      rw [segO_ok hseg]
      refine h4 n0 m0 Bx ds a w B η Q rest' hs fun a1 w1 hs1 hg1 => ?_
      have hs2 : SimK n0 Bx ds ⟨setV (wipeS seg st.slots) (some d) (.c (.bool b)), st.heap⟩ a1 w1 B η := hs1.weaken (by rw [length_setV, wipeS_length, k1]) (fun t => by
        by_cases hd : d = t
        · subst hd
          rcases Nat.lt_or_ge d st.slots.length with hl | hl
          · left
            rw [setV_own (by rw [wipeS_length]; exact hl), hb]
          · right
            exact getD_over (by rw [length_setV, wipeS_length]; exact hl)
        · rw [getD_setV (fun e => hd (Option.some.inj e))]
          rcases wipeS_get seg st.slots t with h7 | ⟨h7, h8⟩
          · exact .inr h7
          · exact .inl (by rw [h7, k2 t h8]))
      exact h6 n0 m0 Bx ds a1 w1 B η Q hs2 (fun a2 w2 B2 η2 hs3 hg3 => hQ a2 w2 B2 η2 hs3 (hg1.trans hg3))
    · obtain ⟨b, h1, hwant⟩ := wantK_ok h
      clear h
      cases b with
      | true =>
        simp only [if_true] at h1
        split at h1
        · rename_i id x t hq
          obtain ⟨s, ho, hs, hpl⟩ := appQ_spec hq
          obtain ⟨st2, r, h2, h3⟩ := appFz_ok (st := frzOp mv o.op ⟨st.slots, st.heap⟩) (s := s) ho hs (fun y hy => Array.all_eq_true'.1 hpl y hy) h1
          rw [forceL_eq] at h2
          obtain ⟨st', h4, h5⟩ := evOpsJ_ok hF hC n rest _ k res h2
          refine ⟨st', h4, fun n0 m0 Bx ds a w B η Q hs hQ => ?_⟩
          unfold wpList
          rw [hwant w B η a.tmps hs.slots.size (fun d _ => hs.slots.rel d), if_pos rfl]
          obtain ⟨B1, hs1, hg1⟩ := frzOp_ok (m0 := m0) mv o.op st B hs
          refine .inl (val_wp (h3 n0 m0 Bx ds a w B1 η hs1 _ fun v w' B' hs2 hg2 hrel hfv => ?_))
          exact h5 n0 m0 Bx ds _ w' B' η Q ⟨by rw [put_defers]; exact hs2.defers, hs2.inv, hs2.slots.setV hrel hfv _⟩ (fun a2 w2 B2 η2 hs3 hg3 => hQ a2 w2 B2 η2 hs3 ((hg1.trans hg2).trans hg3))
        · obtain ⟨r, H', h2, h3⟩ := evI_ok hF hC h1
          rw [forceL_eq] at h2
          obtain ⟨st', h4, h5⟩ := evOpsJ_ok hF hC n rest _ k res h2
          refine ⟨st', h4, fun n0 m0 Bx ds a w B η Q hs hQ => ?_⟩
          unfold wpList
          rw [hwant w B η a.tmps hs.slots.size (fun d _ => hs.slots.rel d), if_pos rfl]
          obtain ⟨B1, hs1, hg1⟩ := frzOp_ok (m0 := m0) mv o.op st B hs
          refine .inl (val_wp (h3 n0 Bx ds a w B1 η hs1 _ fun v w' B' η' hon hB hη hbel inv' hrel hfv => ?_))
          have hg2 : Goes n0 m0 w B1 η w' B' η' := ⟨hon, hB, fun id v _ hv => hη id v hv, hbel⟩
          exact h5 n0 m0 Bx ds _ w' B' η' Q ⟨by rw [put_defers]; exact hs1.defers, inv', (hs1.slots.on hon hB hη).setV hrel hfv _⟩ (fun a2 w2 B2 η2 hs2 hg3 => hQ a2 w2 B2 η2 hs2 ((hg1.trans hg2).trans hg3))
      | false =>
        simp only [Bool.false_eq_true, if_false] at h1
        rw [forceL_eq] at h1
        obtain ⟨st', h4, h5⟩ := evOpsJ_ok hF hC n rest _ k res h1
        refine ⟨st', h4, fun n0 m0 Bx ds a w B η Q hs hQ => ?_⟩
        unfold wpList
        rw [hwant w B η a.tmps hs.slots.size (fun d _ => hs.slots.rel d), if_neg (by simp)]
        exact h5 n0 m0 Bx ds _ w B η Q ⟨by rw [put_defers]; exact hs.defers, hs.inv, hs.slots.setV (r := .c undef) (v := undef) (Rel.c _ _) (fun h => by cases h) _⟩ hQ
end
/-! ### Code -/
def okC2 (inl : FuncId → Bool) : Code → Bool
  | .region _ ops true => drawB inl ops || declB inl ops
  | .seq a b => okC2 inl a && okC2 inl b
  | .cond _ a b => okC2 inl a && okC2 inl b
  | .block _ c => okC2 inl c
  | .loop c => okC2 inl c
  | .scope c => okC2 inl c
  | _ => true
/-- A loop's name: the first region in it. -/
def firstR : Code → Option Nat
  | .region id _ _ => some id
  | .seq a b => match firstR a with | some i => some i | none => firstR b
  | .cond _ a b => match firstR a with | some i => some i | none => firstR b
  | .block _ c => firstR c
  | .loop c => firstR c
  | .scope c => firstR c
  | _ => none
def loopsOf : Code → List Code
  | .seq a b => loopsOf a ++ loopsOf b
  | .cond _ a b => loopsOf a ++ loopsOf b
  | .block _ c => loopsOf c
  | .loop c => c :: loopsOf c
  | .scope c => loopsOf c
  | _ => []
def loopsIn (P : Program) : List Nat → List Code
  | f :: _ => (match P.funcs[f]? with
    | some fn => (match fn.body with | some c => loopsOf c | none => [])
    | none => [])
  | [] => []
section
variable {R : Type}
def resOneK (P : Program) (st : S2) (rv : ResultVar) (k : V → Tree R) : Tree R :=
  match rv with
  | .tmp t => k (st.slots.getD t .any)
  | .cell a t => if (st.slots.getD a .any).plain = true then loadK P st.heap t (st.slots.getD a .any) k else .fail
def tupOK : V → Bool
  | .any | .clo _ _ | .bsl _ _ | .tup _ => false
  | _ => true
def resLK (P : Program) (st : S2) : List ResultVar → (List V → Tree R) → Tree R
  | [], k => k []
  | r :: l, k => resOneK P st r fun x => if tupOK x = true then resLK P st l fun m => k (argV x :: m) else .fail
def resK (P : Program) (st : S2) (l : List ResultVar) (k : V → Tree R) : Tree R :=
  match l with
  | [] => k (.c (.tuple #[]))
  | [r] => resOneK P st r k
  | l => resLK P st l fun m => k (.tup m)
/-- A function that copies a row of bytes: what it hands back is the call's own. -/
def CloneOK (P : Program) (f : FuncId) (e : TypeId) : Prop := (∃ fn, P.funcs[f]? = some fn ∧ fn.name ≠ "runtime.NumGoroutine" ∧ fn.body ≠ none) ∧ ∀ (l : List Int), roomB l.length 1 = true → ∀ (w : World) (B : List Nat) (v : Value), (∀ b ∈ B, b < w.heap.size) → GlobOK w B → Rel w B [] (ex (.lst (.int .u8) l)) v → Calls P f #[v] w fun e1 w' => ∃ v', e1 = .returned v' ∧ Gr w w' ∧ OwnAt w' w.heap.size e 1 v' l.length (l.map fun n => Value.int .u8 n)
def cloneK (H : List E2) (e : TypeId) (args : List V) (k : V → List E2 → Tree R) : Tree R :=
  match args with
  | [.lst d l] => castK d (.int .u8) (fun d => List (T d)) l fun l => .ite (roomB (List.length l) 1) (k (.own H.length) (H ++ [.own (.int .u8) l e])) .fail
  | _ => .fail
theorem Inv.pushNil {n0 : Nat} {Bx : List Nat} {w : World} {B : List Nat} {η : List Value} {Hs : List Ent} (inv : Inv n0 Bx w B η Hs) (e : TypeId) {k : Nat} (hk : 1 ≤ k) : Inv n0 Bx w B (η ++ [.slice none 0 0]) (Hs ++ [.own [] e k]) := by
  refine ⟨by simp [inv.len], inv.base, inv.sub, inv.lt, fun i e' he => ?_, fun i j ei ej hij hi hj hli hlj b hb => ?_⟩
  · rcases Nat.lt_or_ge i Hs.length with hi | hi
    · rw [List.getElem?_append_left hi] at he
      rw [getD_push_old (by rw [inv.len]; exact hi)]
      exact EntOK.keep (inv.ent i e' he) (On.refl B w) (fun _ h => .inl h) (fun _ h => h) (push_old η _) (fun _ _ _ => rfl)
    · rw [List.getElem?_append_right hi] at he
      have hz : i = Hs.length := by have := (List.getElem?_eq_some_iff.1 he).1; simp at this; omega
      subst hz
      simp at he; subst he
      rw [← inv.len, getD_push_new]
      exact ⟨0, [], OwnAt.nil w n0 e k, RelL.nil _ _ _, hk, fun b hb => by cases hb⟩
  · have part : ∀ (i : Nat) (ei : Ent), (Hs ++ [Ent.own [] e k])[i]? = some ei → i < Hs.length ∧ Hs[i]? = some ei ∨ i = Hs.length := fun i ei hi => by
      rcases Nat.lt_or_ge i Hs.length with hlt | hge
      · rw [List.getElem?_append_left hlt] at hi; exact .inl ⟨hlt, hi⟩
      · rw [List.getElem?_append_right hge] at hi
        exact .inr (by have := (List.getElem?_eq_some_iff.1 hi).1; simp at this; omega)
    have hl := inv.len
    rcases part i ei hi with ⟨h1, h2⟩ | h1
    · rw [getD_push_old (by omega)] at hb
      rcases part j ej hj with ⟨h3, h4⟩ | h3
      · rw [getD_push_old (by omega)]
        exact inv.sep i j ei ej hij h2 h4 hli hlj b hb
      · subst h3; rw [← hl, getD_push_new]; intro hc; cases hc
    · subst h1; rw [← hl, getD_push_new] at hb; cases hb
theorem flat_u8 (l : List Int) : flat (.int .u8) l = l.map fun n => AV.c (.int .u8 n) := by
  induction l with
  | nil => rfl
  | cons x l ih => rw [flat_cons, ih]; rfl
theorem Inv.pushOwn {n0 : Nat} {Bx : List Nat} {w w' : World} {B : List Nat} {η : List Value} {Hs : List Ent} {e : TypeId} {l : List Int} {v : Value} (inv : Inv n0 Bx w B η Hs) (g : Gr w w') (h : OwnAt w' w.heap.size e 1 v l.length (l.map fun n => Value.int .u8 n)) : ∃ B', Inv n0 Bx w' B' (η ++ [v]) (Hs ++ [.own (flat (.int .u8) l) e 1]) ∧ (∀ b ∈ B', b ∈ B ∨ w.heap.size ≤ b) ∧ ∃ a n c, v = .slice a n c := by
  have hrl : ∀ (B' : List Nat) (η' : List Value), RelL w' B' η' (flat (.int .u8) l) (l.map fun n => Value.int .u8 n) := fun B' η' => ⟨by rw [flat_u8]; simp, fun i x hx => by
    rw [flat_u8, List.getElem?_map, Option.map_eq_some_iff] at hx
    obtain ⟨n, hn, rfl⟩ := hx
    exact ⟨.int .u8 n, by rw [List.getElem?_map, hn]; rfl, .c _ _⟩⟩
  rcases h.2 with ⟨hv, hn⟩ | ⟨gg, o, cap, cur, hv, hb, hcell, rest⟩
  · have hl : l = [] := List.eq_nil_of_length_eq_zero hn
    subst hl hv
    exact ⟨B, (inv.gr g).pushNil e (Nat.le_refl 1), fun b hb => .inl hb, _, _, _, rfl⟩
  · refine ⟨gg :: B, inv.push g hb (Array.getElem?_eq_some_iff.1 hcell).1 (by rw [hv]; rfl) ⟨l.length, _, ⟨h.1, .inr ⟨gg, o, cap, cur, hv, Nat.le_trans inv.base.1 hb, hcell, rest⟩⟩, hrl _ _, Nat.le_refl 1, fun b hb' => ?_⟩, fun b hb' => by rcases List.mem_cons.1 hb' with rfl | h; exact .inr hb; exact .inl h, _, _, _, hv⟩
    rw [hv] at hb'
    have : gg = b := by simpa [Value.ownBlock] using hb'
    subst this
    exact ⟨List.mem_cons_self, fun hx => by have := (inv.sub _ hx).2; have := inv.base.1; omega⟩
def callAt (P : Program) (Γ : Env R) (ev : List Nat → Nat → Code → S2 → (Exit → S2 → Tree R) → Tree R) (path : List Nat) : CallI R := fun f args H k =>
  if Γ.inl f = true then (match Γ.cln f with
  | some e => cloneK H e args k
  | none => match P.funcs[f]? with
    | some fn => (match fn.body with
      | some c => ev (f :: path) H.length c ⟨args ++ List.replicate (fn.ntmps - args.length) .any, H⟩ fun ex st' => match ex with
        | .normal => resK P st' fn.results.toList fun r => k r st'.heap
        | .ret => resK P st' fn.results.toList fun r => k r st'.heap
        | _ => .fail
      | none => .fail)
    | none => .fail) else .fail
def regName (c : Code) : Nat := match firstR c with | some i => i | none => 0
def evK (P : Program) (Γ : Env R) : Nat → List Nat → Nat → Code → S2 → (Exit → S2 → Tree R) → Tree R
  | 0, _, _, _, _, _ => .fail
  | n + 1, path, m0, c, st, k => match c with
    | .skip => k .normal st
    | .label _ => k .normal st
    | .region id ops false => evOpsJ P Γ (callAt P Γ (evK P Γ n) (id :: path)) (Γ.mv path id) ops (ops.toList.length + 1) ops.toList st fun st' => k .normal st'
    | .region id ops true => (match frzOps (Γ.mv path id) ops st with
      | ⟨sl, H⟩ => if declQ Γ.inl ops = true then evFd P Γ.fns ops H (flR 0 ops.toList (frontsA Γ.inl ops)) sl fun sl' => declK P (clR 0 ops.toList (frontsA Γ.inl ops)) sl' H fun st' => k .normal st'
        else evFr P Γ.fns ops (clR 0 ops.toList (frontsA Γ.inl ops)) (wrIds ops.toList sl (clR 0 ops.toList (frontsA Γ.inl ops))) H (flR 0 ops.toList (frontsA Γ.inl ops)) sl fun sl' =>
        evCh P Γ (callAt P Γ (evK P Γ n) (id :: path)) (Γ.mv path id) ops (wrIds ops.toList sl (clR 0 ops.toList (frontsA Γ.inl ops))) (clR 0 ops.toList (frontsA Γ.inl ops)) ⟨sl', H⟩ fun st' => k .normal st')
    | .seq a b => evK P Γ n path m0 a st fun ex st' => match ex with
      | .normal => evK P Γ n path m0 b st' k
      | e => k e st'
    | .cond x t e => (match opV st.slots x with
      | .c (.bool b) => .ite b (evK P Γ n path m0 t st k) (evK P Γ n path m0 e st k)
      | _ => .fail)
    | .block id c => evK P Γ n path m0 c st fun ex st' => match ex with
      | .exit i => if i = id then k .normal st' else k (.exit i) st'
      | e => k e st'
    | .loop c => Γ.lp path m0 (regName c) st k
    | .exit id => k (.exit id) st
    | .ret => k .ret st
    | .scope c => evK P Γ n path m0 c st fun ex st' => match ex with
      | .goto _ => .fail
      | e => k e st'
    | _ => .fail
/-- From any memory that is as st says, c ends with ex in one that is as st' says. -/
def Ends (P : Program) (m0 : Nat) (c : Code) (st : S2) (ex : Exit) (st' : S2) : Prop :=
  ∀ (n0 : Nat) (Bx : List Nat) (ds : List Deferred) (a : Act) (w : World) (B : List Nat) (η : List Value) (Q : Exit → Act → World → Prop), SimK n0 Bx ds st a w B η →
    (∀ a' w' B' η', SimK n0 Bx ds st' a' w' B' η' → Goes n0 m0 w B η w' B' η' → Q ex a' w') → c.wp P Q a w
structure EnvOK (P : Program) (Γ : Env R) : Prop where
  fns : FnsOK P Γ.fns
  inl : ∀ f, Γ.inl f = true → ∃ fn c, P.funcs[f]? = some fn ∧ fn.body = some c ∧ okC2 Γ.inl c = true ∧ fn.name ≠ "runtime.NumGoroutine"
  lp : ∀ path m0 c st k res, c ∈ loopsIn P path → (Γ.lp path m0 (regName c) st k).run = some res → ∃ ex st', (k ex st').run = some res ∧ Ends P m0 (.loop c) st ex st'
  cln : ∀ f e, Γ.cln f = some e → CloneOK P f e
theorem then_ne {ex : Exit} {N : Act → World → Prop} {Q : Exit → Act → World → Prop} {a : Act} {w : World} (h : ex ≠ .normal) : Exit.then N Q ex a w = Q ex a w := by
  cases ex <;> first | exact absurd rfl h | rfl
theorem wp_seqRegion {P : Program} {id : Nat} {ops : Array Oper} {Q : Exit → Act → World → Prop} {a : Act} {w : World} (h : wpList P ops Q ops.toList a w) : (Code.region id ops false).wp P Q a w := by
  refine wp_region ?_
  have e := wpOps_eq_wpList (P := P) (ops := ops) (Q := Q) ops.toList 0 (fun j => by simp)
  rw [List.range_eq_range']
  simp only [Array.length_toList] at e
  rw [e]
  exact h
def resRun (tmps : Array Value) : ResultVar → Sem Value
  | .tmp t => pure (tmps.getD t undef)
  | .cell a t => do loadVar t (← asAddr (tmps.getD a undef))
theorem results_eq (fn : Func) (tmps : Array Value) : results fn tmps = (do let vs ← fn.results.mapM (resRun tmps); pure (if h : vs.size = 1 then vs[0] else .tuple vs)) := by
  unfold results
  congr 1
theorem resOneK_ok {P : Program} {st : S2} {rv : ResultVar} {k : V → Tree R} {res : R} (h : (resOneK P st rv k).run = some res) :
    ∃ r, (k r).run = some res ∧ ∀ (n0 : Nat) (Bx : List Nat) (ds : List Deferred) (a : Act) (w : World) (B : List Nat) (η : List Value), SimK n0 Bx ds st a w B η → ∃ v, (resRun a.tmps rv).run P w = .ok v w ∧ Rel2 w B η r v ∧ FreshV n0 (ex r) v := by
  unfold resOneK at h
  split at h
  · rename_i t
    exact ⟨_, h, fun n0 Bx ds a w B η hs => ⟨_, rfl, hs.slots.rel t, hs.slots.fresh t⟩⟩
  · rename_i ad t
    split at h
    · rename_i hpl
      obtain ⟨segs, rest, l, h1, h2, h3⟩ := readK_ok h
      split at h1
      · rename_i r hr
        obtain ⟨h4, h5, h6⟩ := partV_ok hr
        refine ⟨r, h1, fun n0 Bx ds a w B η hs => ?_⟩
        obtain ⟨adr, u, hv, hrun, hrel⟩ := loadA_run (P := P) hs.inv ((hs.slots.rel ad).get hpl) (loadA_part h2 (by rw [h3]; exact partA_pre h4))
        refine ⟨u, ?_, Rel2.of h5 hrel, fun hfr => by generalize ex r = y at h6 hfr; cases y <;> first | exact absurd rfl (h6 _ _) | cases hfr⟩
        simp [resRun, hv, asAddr, Sem.run_bind, hrun]
      · cases h1
    · cases h
theorem tupOK_rel {x : V} (h : tupOK x = true) {n0 : Nat} {w : World} {B : List Nat} {η : List Value} {v : Value} (hr : Rel2 w B η x v) : Rel w B η (ex0 (argV x)) v := by
  cases x <;> first | exact hr | exact Rel.unf hr | cases h
theorem resLK_ok {P : Program} {st : S2} : ∀ (l : List ResultVar) (k : List V → Tree R) (res : R), (resLK P st l k).run = some res →
    ∃ m, (k m).run = some res ∧ m.length = l.length ∧ ∀ (n0 : Nat) (Bx : List Nat) (ds : List Deferred) (a : Act) (w : World) (B : List Nat) (η : List Value), SimK n0 Bx ds st a w B η → ∃ vs : List Value, (l.mapM (resRun a.tmps)).run P w = .ok vs w ∧ RelL w B η (m.map ex0) vs
  | [], k, res, h => ⟨[], h, rfl, fun n0 Bx ds a w B η hs => ⟨[], rfl, RelL.nil _ _ _⟩⟩
  | rv :: l, k, res, h => by
    unfold resLK at h
    obtain ⟨x, h1, h2⟩ := resOneK_ok h
    split at h1
    · rename_i hx
      obtain ⟨m, h3, h4, h5⟩ := resLK_ok l _ _ h1
      refine ⟨_, h3, by simp [h4], fun n0 Bx ds a w B η hs => ?_⟩
      obtain ⟨v, g1, g2, _⟩ := h2 n0 Bx ds a w B η hs
      obtain ⟨vs, g3, g4⟩ := h5 n0 Bx ds a w B η hs
      refine ⟨v :: vs, ?_, RelL.cons (tupOK_rel (n0 := n0) hx g2) g4⟩
      simp [Sem.run_bind, g1, g3]
    · cases h1
theorem resK_ok {P : Program} {st : S2} {fn : Func} {k : V → Tree R} {res : R} (h : (resK P st fn.results.toList k).run = some res) :
    ∃ r, (k r).run = some res ∧ ∀ (n0 : Nat) (Bx : List Nat) (ds : List Deferred) (a : Act) (w : World) (B : List Nat) (η : List Value), SimK n0 Bx ds st a w B η → ∃ v, (results fn a.tmps).run P w = .ok v w ∧ Rel2 w B η r v ∧ FreshV n0 (ex r) v := by
  obtain ⟨rs, hrs⟩ : ∃ rs, fn.results = rs := ⟨_, rfl⟩
  simp only [results_eq]
  rw [hrs] at h ⊢
  obtain ⟨rs⟩ := rs
  simp only at h
  unfold resK at h
  split at h
  · refine ⟨_, h, fun n0 Bx ds a w B η hs => ⟨.tuple #[], by simp, .c _ _, fun h => by cases h⟩⟩
  · obtain ⟨r, h1, h2⟩ := resOneK_ok h
    refine ⟨r, h1, fun n0 Bx ds a w B η hs => ?_⟩
    obtain ⟨v, g1, g2, g3⟩ := h2 n0 Bx ds a w B η hs
    exact ⟨v, by simp [Sem.run_bind, g1], g2, g3⟩
  · rename_i hn0 hn1
    obtain ⟨m, h1, h2, h3⟩ := resLK_ok _ _ _ h
    refine ⟨_, h1, fun n0 Bx ds a w B η hs => ?_⟩
    obtain ⟨vs, g1, g2⟩ := h3 n0 Bx ds a w B η hs
    have hlen : vs.length = rs.length := by rw [g2.1, List.length_map, h2]
    have hne : ¬ vs.length = 1 := fun hc => by
      rw [hlen] at hc
      match rs, hc with
      | [x], _ => exact hn1 x rfl
    refine ⟨.tuple vs.toArray, ?_, ?_, fun h => by cases h⟩
    · have hm : (Array.mapM (resRun a.tmps) rs.toArray).run P w = .ok vs.toArray w := by
        rw [List.mapM_toArray, ← bind_pure_comp]
        simp [Sem.run_bind, g1]
      rw [Sem.run_bind, hm]
      simp [hne]
    · show Rel w B η (.tup (m.map ex0)) _
      exact .tup _ _ _ (fun i => vs.getD i undef) (by simp [g2.1]) (fun i y hy => by obtain ⟨u, h1, h2⟩ := g2.2 i y hy; simp [List.getD_eq_getElem?_getD, h1]) (fun i y hy => by obtain ⟨u, h1, h2⟩ := g2.2 i y hy; simpa [List.getD_eq_getElem?_getD, h1] using h2)
end
end Go.Proofs.Ytcmekgfglohooaa
/-
  Code and calls: that they come to what the run on typed values says.
-/
namespace Go.Proofs.Ytcmekgfglohooaa
set_option maxRecDepth 100000
open Go.RowKit
set_option linter.unusedVariables false
set_option linter.unusedSimpArgs false

section
variable {R : Type} {P : Program} {Γ : Env R}
/-- The slots as a function begins. -/
def slots0 (fn : Func) (args : List V) : List V := args ++ List.replicate (fn.ntmps - args.length) .any
theorem slots0_ok {n0 : Nat} {w : World} {B : List Nat} {η : List Value} {fn : Func} {args : List V} {cargs : List Value} (h : RelVs n0 w B η args cargs) : SlotsK n0 w B η (slots0 fn args) (cargs.toArray ++ Array.replicate (fn.ntmps - cargs.toArray.size) undef) := by
  have hl := h.1
  have key : ∀ t, Rel2 w B η ((slots0 fn args).getD t .any) ((cargs.toArray ++ Array.replicate (fn.ntmps - cargs.toArray.size) undef).getD t undef) ∧ FreshV n0 (ex ((slots0 fn args).getD t .any)) ((cargs.toArray ++ Array.replicate (fn.ntmps - cargs.toArray.size) undef).getD t undef) := by
    intro t
    simp only [slots0, List.getD_eq_getElem?_getD, Array.getD_eq_getD_getElem?]
    rw [List.getElem?_append, Array.getElem?_append]
    simp only [List.size_toArray, hl]
    by_cases ht : t < args.length
    · simp only [ht, if_true]
      obtain ⟨u, h1, h2⟩ := h.2 t _ (List.getElem?_eq_getElem ht)
      rw [List.getElem?_eq_getElem ht, List.getElem?_toArray, h1]
      exact h2
    · simp only [ht, if_false]
      rw [List.getElem?_replicate, Array.getElem?_replicate]
      split <;> exact ⟨trivial, fun h => by cases h⟩
  exact ⟨by simp [slots0, hl], fun t => (key t).1, fun t => (key t).2⟩
theorem callAt_ok (hΓ : EnvOK P Γ) {n : Nat} (ih : ∀ (path : List Nat) (m0 : Nat) (c : Code) (st : S2) (k : Exit → S2 → Tree R) (res : R), okC2 Γ.inl c = true → (∀ c' ∈ loopsOf c, c' ∈ loopsIn P path) → (evK P Γ n path m0 c st k).run = some res → ∃ ex st', (k ex st').run = some res ∧ Ends P m0 c st ex st') (path : List Nat) :
    CallIOK P (callAt P Γ (evK P Γ n) path) := by
  refine ⟨fun f args H k res h => ?_⟩
  unfold callAt at h
  split at h
  · rename_i hin
    split at h
    · rename_i e hcl
      have hc := hΓ.cln f e hcl
      unfold cloneK at h
      split at h
      · rename_i d l
        obtain ⟨e1, h1⟩ := castK_run h
        clear h
        subst e1
        simp only at h1
        rcases Tree.run_ite h1 with ⟨hr, h2⟩ | ⟨_, h2⟩
        · refine ⟨_, _, h2, hc.1, fun n0 Bx w B η cargs inv hrel => ?_⟩
          obtain ⟨v, q1, q2, _⟩ := hrel.2 0 (.lst (.int .u8) l) rfl
          have hcg : cargs = [v] := by
            have := hrel.1
            match cargs, this, q1 with
            | [x], _, q1 => simp at q1; rw [q1]
          subst hcg
          refine (hc.2 l hr w B v inv.lt inv.base.2 ((q2.get rfl).bare rfl)).mono fun e1 w' ⟨v', g1, g2, g3⟩ => ?_
          obtain ⟨B', i1, i2, a, n, c, rfl⟩ := inv.pushOwn g2 g3
          refine ⟨_, B', _, g1, ⟨.gr g2, i2, fun id v _ hv => push_old η _ id v hv, g2.mono inv.base.1⟩, by rw [List.map_append]; exact i1, ?_, fun hfr => by cases hfr⟩
          have hl : η.length = H.length := by have := inv.len; simpa using this
          exact Rel.own _ _ _ _ _ (by rw [← hl, List.getElem?_append_right (Nat.le_refl _)]; simp)
        · cases h2
      · cases h
    obtain ⟨fn, c, hf, hb, hok, hnm⟩ := hΓ.inl f hin
    rw [hf] at h
    simp only [hb] at h
    obtain ⟨ex, st', h1, h2⟩ := ih _ _ _ _ _ _ hok (fun c' hc' => by simp only [loopsIn, hf, hb]; exact hc') h
    have key : ∀ {r}, (ex = .normal ∨ ex = .ret) → (k r st'.heap).run = some res ∧ (∀ (n0 : Nat) (Bx : List Nat) (ds : List Deferred) (a : Act) (w : World) (B : List Nat) (η : List Value), SimK n0 Bx ds st' a w B η → ∃ v, (results fn a.tmps).run P w = .ok v w ∧ Rel2 w B η r v ∧ FreshV n0 (Go.Proofs.Ytcmekgfglohooaa.ex r) v) →
        ∃ r H', (k r H').run = some res ∧ (∃ fn, P.funcs[f]? = some fn ∧ fn.name ≠ "runtime.NumGoroutine" ∧ fn.body ≠ none) ∧
        ∀ (n0 : Nat) (Bx : List Nat) (w : World) (B : List Nat) (η : List Value) (cargs : List Value), Inv n0 Bx w B η (H.map exE) → RelVs n0 w B η args cargs →
          Calls P f cargs.toArray w fun e w' => ∃ v B' η', e = .returned v ∧ Goes n0 H.length w B η w' B' η' ∧ Inv n0 Bx w' B' η' (H'.map exE) ∧ Rel2 w' B' η' r v ∧ FreshV n0 (Go.Proofs.Ytcmekgfglohooaa.ex r) v := by
      intro r hex hr
      refine ⟨r, st'.heap, hr.1, ⟨fn, hf, hnm, by rw [hb]; exact fun h => by cases h⟩, fun n0 Bx w B η cargs inv hrel => calls_of_wp hf hb ?_⟩
      refine h2 n0 Bx [] _ w B η _ ⟨rfl, inv, slots0_ok hrel⟩ (fun a' w' B' η' hs hg => ?_)
      obtain ⟨v, q1, q2, q3⟩ := hr.2 n0 Bx [] a' w' B' η' hs
      rcases hex with rfl | rfl
      · exact ⟨hs.defers, v, q1, v, B', η', rfl, hg, hs.inv, q2, q3⟩
      · exact ⟨hs.defers, v, q1, v, B', η', rfl, hg, hs.inv, q2, q3⟩
    split at h1
    · obtain ⟨r, q1, q2⟩ := resK_ok h1
      exact key (.inl rfl) ⟨q1, q2⟩
    · obtain ⟨r, q1, q2⟩ := resK_ok h1
      exact key (.inr rfl) ⟨q1, q2⟩
    · cases h1
  · cases h
theorem evK_ok (hm : P.follows .mixedOrders = true) (hΓ : EnvOK P Γ) : ∀ (n : Nat) (path : List Nat) (m0 : Nat) (c : Code) (st : S2) (k : Exit → S2 → Tree R) (res : R), okC2 Γ.inl c = true → (∀ c' ∈ loopsOf c, c' ∈ loopsIn P path) → (evK P Γ n path m0 c st k).run = some res → ∃ ex st', (k ex st').run = some res ∧ Ends P m0 c st ex st'
  | 0, path, m0, c, st, k, res, _, _, h => by cases h
  | n + 1, path, m0, c, st, k, res, hok, hsub, h => by
    have ih := evK_ok hm hΓ n
    cases c with
    | skip => exact ⟨_, _, h, fun n0 Bx ds a w B η Q hs hQ => wp_skip (hQ a w B η hs (Goes.refl _ _ _ _ _))⟩
    | label l => exact ⟨_, _, h, fun n0 Bx ds a w B η Q hs hQ => wp_label (hQ a w B η hs (Goes.refl _ _ _ _ _))⟩
    | exit id => exact ⟨_, _, h, fun n0 Bx ds a w B η Q hs hQ => wp_exit (hQ a w B η hs (Goes.refl _ _ _ _ _))⟩
    | ret => exact ⟨_, _, h, fun n0 Bx ds a w B η Q hs hQ => wp_ret (hQ a w B η hs (Goes.refl _ _ _ _ _))⟩
    | region id ops draw =>
      cases draw with
      | false =>
        obtain ⟨st', h1, h2⟩ := evOpsJ_ok hΓ.fns (callAt_ok hΓ ih (id :: path)) _ _ _ _ _ h
        exact ⟨_, st', h1, fun n0 Bx ds a w B η Q hs hQ => wp_seqRegion (h2 n0 m0 Bx ds a w B η Q hs hQ)⟩
      | true =>
        unfold evK at h
        simp only at h
        simp only [okC2] at hok
        split at h
        · rename_i hdq
          obtain ⟨sl1, h1, h2⟩ := evFd_ok hΓ.fns _ _ _ _ h
          have hdb : declB Γ.inl ops = true := by
            rcases Bool.or_eq_true _ _ ▸ hok with h3 | h3
            · exfalso
              have h4 := hdq
              unfold declQ at h4
              unfold drawB at h3
              simp only [Bool.and_eq_true, Bool.not_eq_true'] at h3 h4
              rw [h3.1.1.2] at h4
              exact absurd h4.2 (by simp)
            · exact h3
          obtain ⟨st', h3, h4⟩ := decl_ok (id := id) hm hdb h2 h1
          refine ⟨_, st', h3, fun n0 Bx ds a w B η Q hs hQ => ?_⟩
          obtain ⟨B1, hs1, hg1⟩ := frzOps_ok (m0 := m0) (Γ.mv path id) ops st B hs
          exact h4 n0 m0 Bx ds a w B1 η Q hs1 (fun a2 w2 B2 η2 hs2 hg2 => hQ a2 w2 B2 η2 hs2 (hg1.trans hg2))
        · rename_i hdq
          obtain ⟨sl1, h1, h2⟩ := evFr_ok hΓ.fns _ _ _ _ h
          obtain ⟨st', h3, h4⟩ := evCh_ok hΓ.fns (callAt_ok hΓ ih (id :: path)) _ _ _ _ h1
          have hdb : drawB Γ.inl ops = true := by
            rcases Bool.or_eq_true _ _ ▸ hok with h5 | h5
            · exact h5
            · unfold declB at h5
              rw [Bool.and_eq_true] at h5
              exact absurd h5.1 hdq
          refine ⟨_, st', h3, fun n0 Bx ds a w B η Q hs hQ => ?_⟩
          obtain ⟨B1, hs1, hg1⟩ := frzOps_ok (m0 := m0) (Γ.mv path id) ops st B hs
          exact draw_ok hm hdb h2 h4 hs1 (fun a2 w2 B2 η2 hs2 hg2 => hQ a2 w2 B2 η2 hs2 (hg1.trans hg2))
    | seq x y =>
      simp only [okC2, Bool.and_eq_true] at hok
      obtain ⟨ex1, st1, h1, h2⟩ := ih path m0 x st _ res hok.1 (fun c' hc' => hsub c' (by simp [loopsOf, hc'])) h
      split at h1
      · obtain ⟨ex2, st2, h3, h4⟩ := ih path m0 y st1 _ res hok.2 (fun c' hc' => hsub c' (by simp [loopsOf, hc'])) h1
        exact ⟨ex2, st2, h3, fun n0 Bx ds a w B η Q hs hQ => wp_seq (h2 n0 Bx ds a w B η _ hs fun a' w' B' η' hs' hg' => h4 n0 Bx ds a' w' B' η' Q hs' fun a2 w2 B2 η2 hs2 hg2 => hQ a2 w2 B2 η2 hs2 (hg'.trans hg2))⟩
      · rename_i hne
        exact ⟨ex1, st1, h1, fun n0 Bx ds a w B η Q hs hQ => wp_seq (h2 n0 Bx ds a w B η _ hs fun a' w' B' η' hs' hg' => by rw [then_ne (fun hc => hne hc)]; exact hQ a' w' B' η' hs' hg')⟩
    | cond x t e =>
      simp only [okC2, Bool.and_eq_true] at hok
      unfold evK at h
      simp only at h
      split at h
      · rename_i b hb
        have hx : ∀ {n0 : Nat} {Bx : List Nat} {ds : List Deferred} {a : Act} {w : World} {B : List Nat} {η : List Value}, SimK n0 Bx ds st a w B η → a.eval x = .bool b := fun hs => by
          have := (opV_rel hs.slots hs.inv.base.2 x).1
          rw [hb] at this
          exact Rel.ofC this
        rcases Tree.run_ite h with ⟨hbt, h1⟩ | ⟨hbf, h1⟩
        · obtain ⟨ex, st', h2, h3⟩ := ih path m0 t st k res hok.1 (fun c' hc' => hsub c' (by simp [loopsOf, hc'])) h1
          exact ⟨ex, st', h2, fun n0 Bx ds a w B η Q hs hQ => wp_cond_true (by rw [hx hs, hbt]) (h3 n0 Bx ds a w B η Q hs hQ)⟩
        · obtain ⟨ex, st', h2, h3⟩ := ih path m0 e st k res hok.2 (fun c' hc' => hsub c' (by simp [loopsOf, hc'])) h1
          exact ⟨ex, st', h2, fun n0 Bx ds a w B η Q hs hQ => wp_cond_false (by rw [hx hs, hbf]) (h3 n0 Bx ds a w B η Q hs hQ)⟩
      · cases h
    | block id c =>
      simp only [okC2] at hok
      obtain ⟨ex1, st1, h1, h2⟩ := ih path m0 c st _ res hok (fun c' hc' => hsub c' (by simpa [loopsOf] using hc')) h
      split at h1
      · rename_i i
        split at h1
        · rename_i hi
          exact ⟨_, st1, h1, fun n0 Bx ds a w B η Q hs hQ => wp_block (h2 n0 Bx ds a w B η _ hs fun a' w' B' η' hs' hg' => by simp only [Exit.inBlock, hi, if_true]; exact hQ a' w' B' η' hs' hg')⟩
        · rename_i hi
          exact ⟨_, st1, h1, fun n0 Bx ds a w B η Q hs hQ => wp_block (h2 n0 Bx ds a w B η _ hs fun a' w' B' η' hs' hg' => by simp only [Exit.inBlock, hi, if_false]; exact hQ a' w' B' η' hs' hg')⟩
      · rename_i hne
        exact ⟨ex1, st1, h1, fun n0 Bx ds a w B η Q hs hQ => wp_block (h2 n0 Bx ds a w B η _ hs fun a' w' B' η' hs' hg' => by
          cases ex1 <;> first | exact absurd rfl (hne _) | exact hQ a' w' B' η' hs' hg')⟩
    | loop c =>
      exact hΓ.lp path m0 c st k res (hsub c (by simp [loopsOf])) h
    | scope c =>
      simp only [okC2] at hok
      obtain ⟨ex1, st1, h1, h2⟩ := ih path m0 c st _ res hok (fun c' hc' => hsub c' (by simpa [loopsOf] using hc')) h
      split at h1
      · cases h1
      · rename_i hne
        exact ⟨ex1, st1, h1, fun n0 Bx ds a w B η Q hs hQ => wp_scope_straight (h2 n0 Bx ds a w B η _ hs fun a' w' B' η' hs' hg' => by
          cases ex1 <;> first | exact absurd rfl (hne _) | exact hQ a' w' B' η' hs' hg')⟩
    | _ => cases h
end
end Go.Proofs.Ytcmekgfglohooaa
