/-
  States of a shape: slots and blocks that hold typed data, nothing else known.
-/
import Derived.Test.YtpijcgohhjgdbaaKA
namespace Go.Proofs.Ytpijcgohhjgdbaa
set_option maxRecDepth 100000
open Go.RowKit
set_option linter.unusedVariables false
set_option linter.unusedSimpArgs false

def rowD : Td → Bool
  | .arr _ _ => true
  | .pair _ _ => true
  | _ => false
/-- Data, as a value. -/
def valV (d : Td) (x : T d) : V := match d, x with
  | .int k, n => .c (.int k n)
  | .bool, b => .c (.bool b)
  | .str, s => .str s
  | .sl d, l => .lst d l
  | .arr n d, a => .agg [.arr d n a]
  | .pair d e, x => .agg (enc d x.1 ++ enc e x.2)
theorem valV_plain (d : Td) (x : T d) : (valV d x).plain = true := by cases d <;> rfl
theorem valV_imm (d : Td) (x : T d) : immV2 (valV d x) = true := by
  have key : ∀ (d : Td) (x : T d), (enc d x).all immV = true := by
    intro d
    induction d with
    | pair d e h1 h2 => intro x; simp [enc, h1, h2]
    | _ => intro x; rfl
  cases d with
  | pair d e => simp [valV, immV2, key]
  | _ => rfl
theorem valV_row (d : Td) (x : T d) (h : rowD d = true) : ex (valV d x) = .agg (cells d x) := by
  cases d with
  | pair d e => simp [valV, ex, ex0, segsA_append, segsA_enc, cells]
  | arr n d => simp [valV, ex, ex0, segsA, segA, cells, flat]
  | _ => cases h
theorem valV_one (d : Td) (x : T d) (h : rowD d = false) : cells d x = [ex (valV d x)] := by
  cases d <;> first | rfl | cases h
theorem valV_fresh (d : Td) (x : T d) : isFresh (ex (valV d x)) = false := by cases d <;> rfl
section
variable {R : Type}
def decV (d : Td) (x : V) (k : T d → Tree R) : Tree R :=
  if isAgg x = rowD d then (match toSegs x with
    | some segs => decK d segs fun y rest => if wL rest = 0 then k y else .fail
    | none => .fail) else .fail
theorem agg_isAgg {x : V} {w : World} {B : List Nat} {η : List Value} {cs : Array Value} (hp : x.plain = true) (hv : Rel w B η (ex x) (.agg cs)) : isAgg x = true := by
  cases x with
  | agg l => rfl
  | arr d n a => rfl
  | c v0 => have := Rel.ofC hv; subst this; rfl
  | any => cases hp
  | clo f l => cases hp
  | bsl i n => cases hp
  | _ => cases hv
theorem decV_ok {d : Td} {x : V} {k : T d → Tree R} {res : R} (h : (decV d x k).run = some res) : ∃ y, (k y).run = some res ∧ x.plain = true ∧ ∀ (w : World) (B : List Nat) (η : List Value) (v : Value), Rel w B η (ex x) v → Rel w B η (ex (valV d y)) v := by
  unfold decV at h
  split at h
  · rename_i hag
    split at h
    · rename_i segs hs
      obtain ⟨s1, s2, s3⟩ := toSegs_ok hs
      obtain ⟨y, rest, h1, h2⟩ := decK_ok _ _ _ _ h
      split at h1
      · rename_i hr
        have hr0 : segsA rest = [] := List.eq_nil_of_length_eq_zero (by rw [wL_eq]; exact hr)
        rw [hr0, List.append_nil] at h2
        refine ⟨y, h1, s3, fun w B η v hv => ?_⟩
        have hu : Rel w B η (eu x) v := hv.unf
        have hL := hu.toL (fun l e => by rw [e] at s2; cases s2)
        rw [s1] at hL
        have hL := h2 w B η _ hL
        cases hd : rowD d with
        | true =>
          rw [hd] at hag
          rw [valV_row d y hd]
          have : ∃ cs, v = .agg cs := by
            rcases isAgg_true hag with ⟨l, rfl⟩ | ⟨d', n', a', rfl⟩ | ⟨cs, rfl⟩
            · obtain ⟨cs, e, _⟩ := Rel.aggL hv; exact ⟨cs, e⟩
            · obtain ⟨cs, e, _⟩ := Rel.aggL hv; exact ⟨cs, e⟩
            · exact ⟨cs, Rel.ofC hv⟩
          obtain ⟨cs, rfl⟩ := this
          exact hL.toAgg
        | false =>
          rw [hd] at hag
          rw [valV_one d y hd] at hL
          have : v.cells.toList = [v] := by
            cases v with
            | agg cs =>
              rw [agg_isAgg s3 hv] at hag
              cases hag
            | _ => rfl
          rw [this] at hL
          obtain ⟨u, e, hu⟩ := RelL.one1 hL
          injection e with e
          subst e
          exact hu
      · cases h1
    · cases h
  · cases h

/-! ### Shapes -/
inductive SSh where
  | ty (d : Td)
  | lit (v : V)
  | adr (d : Td)
inductive BSh where
  | ty (d : Td)
  | own (j : Nat)
  | nil
inductive HSh where
  | dead
  | boxp (t : TypeId) (b : List BSh)
  | box (t : TypeId) (d : Td)
  | own (d : Td) (E : TypeId)
  | itr
structure Shape where
  slots : List (Nat × SSh)
  heap : List HSh
@[reducible] def HL : List Td → Type
  | [] => Unit
  | d :: l => T d × HL l
@[reducible] def tdsS : List (Nat × SSh) → List Td
  | [] => []
  | (_, .ty d) :: l => d :: tdsS l
  | (_, .lit _) :: l => tdsS l
  | (_, .adr d) :: l => d :: tdsS l
@[reducible] def tdsB : List BSh → List Td → List Td
  | [], r => r
  | .ty d :: b, r => d :: tdsB b r
  | .own _ :: b, r => tdsB b r
  | .nil :: b, r => tdsB b r
@[reducible] def tdsH : List HSh → List Td
  | [] => []
  | .boxp _ b :: l => tdsB b (tdsH l)
  | .dead :: l => tdsH l
  | .box _ d :: l => d :: tdsH l
  | .own d _ :: l => .sl d :: tdsH l
  | .itr :: l => .str :: .int .i64 :: tdsH l
@[reducible] def CT (sh : Shape) : Type := HL (tdsS sh.slots) × HL (tdsH sh.heap)
def putS2 : (l : List (Nat × SSh)) → HL (tdsS l) → List V → List V
  | [], _, sl => sl
  | (s, .ty d) :: l, c, sl => putS2 l c.2 (sl.set s (valV d c.1))
  | (s, .lit v) :: l, c, sl => putS2 l c (sl.set s v)
  | (s, .adr d) :: l, c, sl => putS2 l c.2 (sl.set s (.adr (enc d c.1)))
/-- The parts of a box, some of which are rows of the call's own. -/
def encB : (b : List BSh) → (r : List Td) → HL (tdsB b r) → List V
  | [], _, _ => []
  | .ty d :: b, r, c => enc d c.1 ++ encB b r c.2
  | .own j :: b, r, c => .own j :: encB b r c
  | .nil :: b, r, c => .c (.slice none 0 0) :: encB b r c
def restB : (b : List BSh) → (r : List Td) → HL (tdsB b r) → HL r
  | [], _, c => c
  | .ty _ :: b, r, c => restB b r c.2
  | .own _ :: b, r, c => restB b r c
  | .nil :: b, r, c => restB b r c
def encH : (l : List HSh) → HL (tdsH l) → List E2
  | [], _ => []
  | .boxp t b :: l, c => .box (encB b (tdsH l) c) t :: encH l (restB b (tdsH l) c)
  | .dead :: l, c => .dead :: encH l c
  | .box t d :: l, c => .box (enc d c.1) t :: encH l c.2
  | .own d E :: l, c => .own d c.1 E :: encH l c.2
  | .itr :: l, c => .itr c.1 c.2.1 :: encH l c.2.2
def stOf (sh : Shape) (n : Nat) (c : CT sh) : S2 := ⟨putS2 sh.slots c.1 (List.replicate n .any), encH sh.heap c.2⟩
def litEq0 : V → V → Bool
  | .box i o, .box i' o' => i == i' && o == o'
  | .own i, .own i' => i == i'
  | .c (.pointer none), .c (.pointer none) => true
  | .c (.slice none 0 0), .c (.slice none 0 0) => true
  | .emp, .emp => true
  | _, _ => false
def litEqL : List V → List V → Bool
  | [], [] => true
  | x :: l, y :: m => litEq0 x y && litEqL l m
  | _, _ => false
def litEq : V → V → Bool
  | .clo f l, .clo g m => f == g && litEqL l m
  | x, y => litEq0 x y
theorem litEq0_eq {x y : V} (h : litEq0 x y = true) : x = y := by
  unfold litEq0 at h
  split at h
  · simp only [Bool.and_eq_true, beq_iff_eq] at h; rw [h.1, h.2]
  · simp only [beq_iff_eq] at h; rw [h]
  · rfl
  · rfl
  · rfl
  · cases h
theorem litEqL_eq : ∀ {l m : List V}, litEqL l m = true → l = m
  | [], [], _ => rfl
  | [], _ :: _, h => by cases h
  | _ :: _, [], h => by cases h
  | x :: l, y :: m, h => by
    simp only [litEqL, Bool.and_eq_true] at h
    rw [litEq0_eq h.1, litEqL_eq h.2]
theorem litEq_eq {x y : V} (h : litEq x y = true) : x = y ∧ isFresh (ex y) = false := by
  unfold litEq at h
  split at h
  · simp only [Bool.and_eq_true, beq_iff_eq] at h
    rw [h.1, litEqL_eq h.2]; exact ⟨rfl, rfl⟩
  · refine ⟨litEq0_eq h, ?_⟩
    unfold litEq0 at h
    split at h <;> first | rfl | cases h
def decS : (l : List (Nat × SSh)) → List V → (HL (tdsS l) → Tree R) → Tree R
  | [], _, k => k ()
  | (s, .ty d) :: l, sl, k => decV d (sl.getD s .any) fun x => decS l sl fun y => k (x, y)
  | (s, .lit v) :: l, sl, k => if litEq (sl.getD s .any) v = true then decS l sl k else .fail
  | (s, .adr d) :: l, sl, k => (match sl.getD s .any with
    | .adr segs => decK d segs fun x rest => if wL rest = 0 then decS l sl fun y => k (x, y) else .fail
    | _ => .fail)
def decB : (b : List BSh) → (r : List Td) → List V → ((HL r → HL (tdsB b r)) → List V → Tree R) → Tree R
  | [], _, segs, k => k (fun y => y) segs
  | .ty d :: b, r, segs, k => decK d segs fun x segs' => decB b r segs' fun f segs'' => k (fun y => (x, f y)) segs''
  | .own j :: b, r, segs, k => (match segs with
    | .own i :: segs' => if i = j then decB b r segs' k else .fail
    | _ => .fail)
  | .nil :: b, r, segs, k => (match segs with
    | .c (.slice none 0 0) :: segs' => decB b r segs' k
    | _ => .fail)
theorem decB_ok : ∀ (b : List BSh) (r : List Td) (segs : List V) (k : (HL r → HL (tdsB b r)) → List V → Tree R) (res : R), (decB b r segs k).run = some res →
    ∃ f rest, (k f rest).run = some res ∧ ∀ y, restB b r (f y) = y ∧ Wk (segsA segs) (segsA (encB b r (f y)) ++ segsA rest)
  | [], r, segs, k, res, h => ⟨fun y => y, segs, h, fun y => ⟨rfl, Wk.refl _⟩⟩
  | .ty d :: b, r, segs, k, res, h => by
    obtain ⟨x, segs', h1, h2⟩ := decK_ok _ _ _ _ h
    obtain ⟨f, rest, h3, h4⟩ := decB_ok b r _ _ res h1
    refine ⟨_, rest, h3, fun y => ⟨(h4 y).1, ?_⟩⟩
    show Wk _ (segsA (enc d x ++ encB b r (f y)) ++ segsA rest)
    rw [segsA_append, segsA_enc, List.append_assoc]
    exact h2.trans ((Wk.refl _).app (h4 y).2)
  | .own j :: b, r, segs, k, res, h => by
    unfold decB at h
    split at h
    · rename_i i segs'
      split at h
      · rename_i hi
        subst hi
        obtain ⟨f, rest, h3, h4⟩ := decB_ok b r _ _ res h
        refine ⟨f, rest, h3, fun y => ⟨(h4 y).1, ?_⟩⟩
        show Wk _ (segsA (V.own i :: encB b r (f y)) ++ segsA rest)
        rw [segsA_cons, segsA_cons, List.append_assoc]
        exact (Wk.refl _).app (h4 y).2
      · cases h
    · cases h
  | .nil :: b, r, segs, k, res, h => by
    unfold decB at h
    split at h
    · rename_i segs'
      obtain ⟨f, rest, h3, h4⟩ := decB_ok b r _ _ res h
      refine ⟨f, rest, h3, fun y => ⟨(h4 y).1, ?_⟩⟩
      show Wk _ (segsA (V.c (.slice none 0 0) :: encB b r (f y)) ++ segsA rest)
      rw [segsA_cons, segsA_cons, List.append_assoc]
      exact (Wk.refl _).app (h4 y).2
    · cases h
def decH : (l : List HSh) → List E2 → (HL (tdsH l) → Tree R) → Tree R
  | [], H, k => (match H with | [] => k () | _ => .fail)
  | .boxp t b :: l, H, k => (match H with
    | .box segs t' :: H => if t = t' then decB b (tdsH l) segs fun f rest => if wL rest = 0 then decH l H fun y => k (f y) else .fail else .fail
    | _ => .fail)
  | .dead :: l, H, k => (match H with | _ :: H => decH l H k | [] => .fail)
  | .box t d :: l, H, k => (match H with
    | .box segs t' :: H => if t = t' then decK d segs fun x rest => if wL rest = 0 then decH l H fun y => k (x, y) else .fail else .fail
    | _ => .fail)
  | .own d E :: l, H, k => (match H with
    | .own d' m E' :: H => if E = E' then castK d' d (fun d => List (T d)) m fun m => decH l H fun y => k (m, y) else .fail
    | _ => .fail)
  | .itr :: l, H, k => (match H with
    | .itr s p :: H => decH l H fun y => k (s, (p, y))
    | _ => .fail)
/-- The slots, whatever else is known of them. -/
def SlotsW (n0 : Nat) (w : World) (B : List Nat) (η : List Value) (sl : List V) (tmps : Array Value) : Prop := SlotsK n0 w B η sl tmps
theorem decS_ok : ∀ (l : List (Nat × SSh)) (sl : List V) (k : HL (tdsS l) → Tree R) (res : R), (decS l sl k).run = some res →
    ∃ c, (k c).run = some res ∧ ∀ (n0 : Nat) (w : World) (B : List Nat) (η : List Value) (tmps : Array Value) (base : List V), SlotsK n0 w B η sl tmps → SlotsK n0 w B η base tmps → SlotsK n0 w B η (putS2 l c base) tmps
  | [], sl, k, res, h => ⟨(), h, fun n0 w B η tmps base hs hb => hb⟩
  | (s, .ty d) :: l, sl, k, res, h => by
    obtain ⟨x, h1, h2, h3⟩ := decV_ok h
    obtain ⟨c, h4, h5⟩ := decS_ok l sl _ res h1
    refine ⟨(x, c), h4, fun n0 w B η tmps base hs hb => h5 n0 w B η tmps _ hs ?_⟩
    have hr := h3 w B η _ ((hs.rel s).get h2)
    have := hb.put (r := valV d x) (v := tmps.getD s undef) (Rel2.of (valV_plain d x) hr) (fun h => by rw [valV_fresh] at h; cases h) s
    have e : tmps.setIfInBounds s (tmps.getD s undef) = tmps := by
      apply Array.ext (by simp)
      intro i h1 h2
      rw [Array.getElem_setIfInBounds]
      split
      · rename_i hi; subst hi; simp [Array.getD_eq_getD_getElem?, h2]
      · rfl
    rwa [e] at this
  | (s, .lit v) :: l, sl, k, res, h => by
    unfold decS at h
    split at h
    · rename_i hl
      obtain ⟨e1, e2⟩ := litEq_eq hl
      obtain ⟨c, h4, h5⟩ := decS_ok l sl k res h
      refine ⟨c, h4, fun n0 w B η tmps base hs hb => h5 n0 w B η tmps _ hs ?_⟩
      have hr := hs.rel s
      rw [e1] at hr
      have := hb.put (r := v) (v := tmps.getD s undef) hr (fun h => by rw [e2] at h; cases h) s
      have e : tmps.setIfInBounds s (tmps.getD s undef) = tmps := by
        apply Array.ext (by simp)
        intro i h1 h2
        rw [Array.getElem_setIfInBounds]
        split
        · rename_i hi; subst hi; simp [Array.getD_eq_getD_getElem?, h2]
        · rfl
      rwa [e] at this
    · cases h
  | (s, .adr d) :: l, sl, k, res, h => by
    unfold decS at h
    split at h
    · rename_i segs hsg
      obtain ⟨x, rest, h1, h2⟩ := decK_ok _ _ _ _ h
      split at h1
      · rename_i hr
        have hr0 : segsA rest = [] := List.eq_nil_of_length_eq_zero (by rw [wL_eq]; exact hr)
        rw [hr0, List.append_nil] at h2
        obtain ⟨c, h4, h5⟩ := decS_ok l sl _ res h1
        refine ⟨(x, c), h4, fun n0 w B η tmps base hs hb => h5 n0 w B η tmps _ hs ?_⟩
        have hr1 := hs.rel s
        rw [hsg] at hr1
        have hr2 : Rel w B η (.adr (segsA segs)) (tmps.getD s undef) := hr1
        have hr3 : Rel2 w B η (.adr (enc d x)) (tmps.getD s undef) := by
          show Rel w B η (.adr (segsA (enc d x))) _
          rw [segsA_enc]; exact rel_adr_wk h2 hr2
        have := hb.put (r := .adr (enc d x)) (v := tmps.getD s undef) hr3 (fun h => by cases h) s
        have e : tmps.setIfInBounds s (tmps.getD s undef) = tmps := by
          apply Array.ext (by simp)
          intro i h1 h2
          rw [Array.getElem_setIfInBounds]
          split
          · rename_i hi; subst hi; simp [Array.getD_eq_getD_getElem?, h2]
          · rfl
        rwa [e] at this
      · cases h1
    · cases h
theorem decH_ok : ∀ (l : List HSh) (H : List E2) (k : HL (tdsH l) → Tree R) (res : R), (decH l H k).run = some res →
    ∃ c, (k c).run = some res ∧ (encH l c).length = H.length ∧ ∀ (i : Nat) e', (encH l c)[i]? = some e' → ∃ e, H[i]? = some e ∧ EntLe (exE e) (exE e')
  | [], H, k, res, h => by
    unfold decH at h
    split at h
    · exact ⟨(), h, rfl, fun i e' h => by simp [encH] at h⟩
    · cases h
  | .boxp t b :: l, H, k, res, h => by
    unfold decH at h
    split at h
    · rename_i segs t' H
      split at h
      · rename_i ht
        subst ht
        obtain ⟨f, rest, h1, h2⟩ := decB_ok _ _ _ _ _ h
        split at h1
        · rename_i hr
          have hr0 : segsA rest = [] := List.eq_nil_of_length_eq_zero (by rw [wL_eq]; exact hr)
          obtain ⟨c, h3, h4, h5⟩ := decH_ok l H _ res h1
          obtain ⟨g1, g2⟩ := h2 c
          rw [hr0, List.append_nil] at g2
          refine ⟨f c, h3, by simp [encH, g1, h4], fun i e' he => ?_⟩
          cases i with
          | zero => simp [encH] at he; subst he; exact ⟨_, rfl, .inr (.inr (.inl ⟨_, _, _, rfl, rfl, g2⟩))⟩
          | succ i => simpa using h5 i e' (by simpa [encH, g1] using he)
        · cases h1
      · cases h
    · cases h
  | .dead :: l, H, k, res, h => by
    unfold decH at h
    split at h
    · rename_i e0 H
      obtain ⟨c, h1, h2, h3⟩ := decH_ok l H k res h
      refine ⟨c, h1, by simp [encH, h2], fun i e' he => ?_⟩
      cases i with
      | zero => simp [encH] at he; subst he; exact ⟨e0, rfl, .inl rfl⟩
      | succ i => simpa using h3 i e' (by simpa [encH] using he)
    · cases h
  | .box t d :: l, H, k, res, h => by
    unfold decH at h
    split at h
    · rename_i segs t' H
      split at h
      · rename_i ht
        subst ht
        obtain ⟨x, rest, h1, h2⟩ := decK_ok _ _ _ _ h
        split at h1
        · rename_i hr
          have hr0 : segsA rest = [] := List.eq_nil_of_length_eq_zero (by rw [wL_eq]; exact hr)
          rw [hr0, List.append_nil] at h2
          obtain ⟨c, h3, h4, h5⟩ := decH_ok l H _ res h1
          refine ⟨(x, c), h3, by simp [encH, h4], fun i e' he => ?_⟩
          cases i with
          | zero => simp [encH] at he; subst he; exact ⟨_, rfl, .inr (.inr (.inl ⟨_, _, _, rfl, rfl, by rw [segsA_enc]; exact h2⟩))⟩
          | succ i => simpa using h5 i e' (by simpa [encH] using he)
        · cases h1
      · cases h
    · cases h
  | .own d E :: l, H, k, res, h => by
    unfold decH at h
    split at h
    · rename_i d' m E' H
      split at h
      · rename_i ht
        subst ht
        obtain ⟨e1, h1⟩ := castK_run h
        clear h
        subst e1
        simp only at h1
        obtain ⟨c, h3, h4, h5⟩ := decH_ok l H _ res h1
        refine ⟨(m, c), h3, by simp [encH, h4], fun i e' he => ?_⟩
        cases i with
        | zero => simp [encH] at he; subst he; exact ⟨_, rfl, .refl _⟩
        | succ i => simpa using h5 i e' (by simpa [encH] using he)
      · cases h
    · cases h
  | .itr :: l, H, k, res, h => by
    unfold decH at h
    split at h
    · rename_i s p H
      obtain ⟨c, h3, h4, h5⟩ := decH_ok l H _ res h
      refine ⟨(s, (p, c)), h3, by simp [encH, h4], fun i e' he => ?_⟩
      cases i with
      | zero => simp [encH] at he; subst he; exact ⟨_, rfl, .refl _⟩
      | succ i => simpa using h5 i e' (by simpa [encH] using he)
    · cases h
/-! ### Any state, as one of a shape -/
def idsV : V → List Nat
  | .own i | .box i _ | .boxi i _ _ _ _ _ | .oadr i _ _ _ => [i]
  | .agg l | .clo _ l => l.filterMap fun | .own i | .box i _ | .boxi i _ _ _ _ _ | .oadr i _ _ _ => some i | _ => none
  | _ => []
def idsE : E2 → List Nat
  | .box l _ => idsV (.agg l)
  | _ => []
/-- The blocks that are come to, in order. -/
def clos (H : List E2) (m0 : Nat) : Nat → List Nat → List Nat → List Nat
  | 0, _, acc => acc
  | _, [], acc => acc
  | f + 1, i :: todo, acc => if i < m0 || acc.contains i then clos H m0 f todo acc else clos H m0 f (todo ++ idsE (H.getD i .dead)) (acc ++ [i])
def nodupB : List Nat → Bool
  | [] => true
  | x :: l => !l.contains x && nodupB l
theorem nodupB_ok : ∀ {l : List Nat}, nodupB l = true → l.Nodup
  | [], _ => List.nodup_nil
  | x :: l, h => by
    simp only [nodupB, Bool.and_eq_true, Bool.not_eq_true', List.contains_eq_mem, decide_eq_false_iff_not] at h
    exact List.nodup_cons.2 ⟨h.1, nodupB_ok h.2⟩
def ownAll (P : Program) (m0 : Nat) : List (Nat × TypeId) → S2 → S2
  | [], st => st
  | (s, e) :: l, st => ownAll P m0 l (moveOwn m0 (ownize P st s e) s)
def keepOf (m0 : Nat) (sh : Shape) (st : S2) : List Nat := List.range m0 ++ clos st.heap m0 500 ((sh.slots.flatMap fun p => idsV (st.slots.getD p.1 .any)) ++ (List.range m0).flatMap fun i => idsE (st.heap.getD i .dead)) []
/-- Rows of the call's own that the shape has as plain ones. -/
def tyIds : List (Nat × SSh) → List V → List Nat
  | [], _ => []
  | (s, .ty _) :: l, sl => ownIds (sl.getD s .any) ++ tyIds l sl
  | (_, .lit _) :: l, sl => tyIds l sl
  | (_, .adr _) :: l, sl => tyIds l sl
/-- Rows of the call's own in boxes that the shape has as plain ones. -/
def ownIdsE : E2 → List Nat
  | .box l _ => ownIds (.agg l)
  | _ => []
def tyIdsH : List HSh → List Nat → List E2 → List Nat
  | .box _ _ :: l, i :: keep, H => ownIdsE (H.getD i .dead) ++ tyIdsH l keep H
  | _ :: l, _ :: keep, H => tyIdsH l keep H
  | _, _, _ => []
/-- A nil row in a box, as one of the call's own. -/
def ownizeB (P : Program) (st : S2) (id c : Nat) (e : TypeId) : S2 :=
  match st.heap[id]?, tdOf P 12 e with
  | some (.box segs t), some d => (match segs[c]? with
    | some (.c (.slice none 0 0)) => if 1 ≤ wd d then ⟨st.slots, st.heap.set id (.box (segs.set c (.own st.heap.length)) t) ++ [.own d [] e]⟩ else st
    | _ => st)
  | _, _ => st
theorem relL_own {w : World} {B : List Nat} {η : List Value} {n : Nat} (hn : η[n]? = some (.slice none 0 0)) : ∀ (l : List V) (c : Nat) (us : List Value), l[c]? = some (.c (.slice none 0 0)) → RelL w B η (segsA l) us → RelL w B η (segsA (l.set c (.own n))) us
  | [], c, us, h, _ => by simp at h
  | x :: l, 0, us, h, hr => by
    simp at h
    subst h
    rw [segsA_cons] at hr
    obtain ⟨h1, h2⟩ := hr.split
    obtain ⟨u, e, hu⟩ := RelL.one1 (x := .c (.slice none 0 0)) h1
    have hu := Rel.ofC hu
    subst hu
    rw [List.set_cons_zero, segsA_cons]
    have := (RelL.of1 (.own η n none 0 0 hn : Rel w B η (.own n) (.slice none 0 0))).append h2
    rw [← e, List.take_append_drop] at this
    exact this
  | x :: l, c + 1, us, h, hr => by
    rw [segsA_cons] at hr
    obtain ⟨h1, h2⟩ := hr.split
    rw [List.set_cons_succ, segsA_cons]
    have := h1.append (relL_own hn l c _ (by simpa using h) h2)
    rwa [List.take_append_drop] at this
theorem ownizeB_ok {P : Program} {n0 : Nat} {Bx : List Nat} {ds : List Deferred} {st : S2} {a : Act} {w : World} {B : List Nat} {η : List Value} (h : SimK n0 Bx ds st a w B η) (id c : Nat) (e : TypeId) : ∃ η', SimK n0 Bx ds (ownizeB P st id c e) a w B η' ∧ ∀ (id : Nat) v, η[id]? = some v → η'[id]? = some v := by
  unfold ownizeB
  split
  · rename_i segs t d hH htd
    split
    · rename_i hsg
      split
      · rename_i hw
        have hl : η.length = st.heap.length := by simpa using h.inv.len
        have hnew : (η ++ [Value.slice none 0 0])[st.heap.length]? = some (.slice none 0 0) := by rw [← hl, List.getElem?_append_right (Nat.le_refl _)]; simp
        refine ⟨η ++ [.slice none 0 0], ⟨h.defers, ?_, h.slots.on (On.refl B w) (fun _ h => .inl h) (push_old η _)⟩, push_old η _⟩
        have hidlt : id < st.heap.length := (List.getElem?_eq_some_iff.1 hH).1
        have part : ∀ (i : Nat) (ei : Ent), (((st.heap.set id (.box (segs.set c (.own st.heap.length)) t)) ++ [E2.own d [] e]).map exE)[i]? = some ei → (i < st.heap.length ∧ ((i = id ∧ ei = .box (segsA (segs.set c (.own st.heap.length))) t) ∨ (i ≠ id ∧ (st.heap.map exE)[i]? = some ei))) ∨ (i = st.heap.length ∧ ei = .own [] e (wd d)) := fun i ei hi => by
          rw [List.map_append] at hi
          rcases Nat.lt_or_ge i st.heap.length with hlt | hge
          · rw [List.getElem?_append_left (by simpa using hlt), List.map_set, List.getElem?_set] at hi
            refine .inl ⟨hlt, ?_⟩
            split at hi
            · rename_i hii
              subst hii
              rw [if_pos (by simpa using hlt)] at hi
              injection hi with hi
              exact .inl ⟨rfl, hi.symm⟩
            · rename_i hii
              exact .inr ⟨fun h => hii h.symm, hi⟩
          · rw [List.getElem?_append_right (by simpa using hge)] at hi
            have hz : i = st.heap.length := by have := (List.getElem?_eq_some_iff.1 hi).1; simp at this; omega
            subst hz
            simp at hi
            exact .inr ⟨rfl, hi.symm⟩
        refine ⟨by simp [h.inv.len], h.inv.base, h.inv.sub, h.inv.lt, fun i e' he => ?_, fun i j ei ej hij hi hj hli hlj b hb => ?_⟩
        · rcases part i e' he with ⟨hlt, ⟨rfl, rfl⟩ | ⟨hne, hold⟩⟩ | ⟨rfl, rfl⟩
          · rw [getD_push_old (by omega)]
            obtain ⟨b, us, p1, p2, p3, p4, p5, p6⟩ := h.inv.ent i _ (exH hH)
            exact ⟨b, us, p1, p2, p3, p4, p5, relL_own hnew segs c us hsg (p6.on (On.refl B w) (fun _ h => .inl h) (push_old η _))⟩
          · rw [getD_push_old (by omega)]
            exact EntOK.keep (h.inv.ent i e' hold) (On.refl B w) (fun _ h => .inl h) (fun _ h => h) (push_old η _) (fun _ _ _ => rfl)
          · rw [← hl, getD_push_new]
            exact ⟨0, [], OwnAt.nil w n0 e (wd d), RelL.nil _ _ _, hw, fun b hb => by cases hb⟩
        · have live : ∀ (i : Nat) (ei : Ent), i < st.heap.length → ((i = id ∧ ei = .box (segsA (segs.set c (.own st.heap.length))) t) ∨ (i ≠ id ∧ (st.heap.map exE)[i]? = some ei)) → ei.live = true → ∃ ei', (st.heap.map exE)[i]? = some ei' ∧ ei'.live = true := fun i ei _ hc hl => by
            rcases hc with ⟨rfl, rfl⟩ | ⟨_, hc⟩
            · exact ⟨_, exH hH, rfl⟩
            · exact ⟨_, hc, hl⟩
          rcases part i ei hi with ⟨h1, h2⟩ | ⟨h1, _⟩
          · rw [getD_push_old (by omega)] at hb
            rcases part j ej hj with ⟨h3, h4⟩ | ⟨h3, _⟩
            · rw [getD_push_old (by omega)]
              obtain ⟨_, k1, k2⟩ := live i ei h1 h2 hli
              obtain ⟨_, k3, k4⟩ := live j ej h3 h4 hlj
              exact h.inv.sep i j _ _ hij k1 k3 k2 k4 b hb
            · subst h3; rw [← hl, getD_push_new]; intro hc; cases hc
          · subst h1; rw [← hl, getD_push_new] at hb; cases hb
      · exact ⟨η, h, fun _ _ h => h⟩
    · exact ⟨η, h, fun _ _ h => h⟩
  · exact ⟨η, h, fun _ _ h => h⟩
/-- Boxes of the shape with rows of the call's own in them: where a row is nil, it becomes one. -/
def cellsB : List BSh → Nat → List Nat
  | [], _ => []
  | .own _ :: b, i => i :: cellsB b (i + 1)
  | .ty _ :: b, i => cellsB b (i + 1)
  | .nil :: b, i => cellsB b (i + 1)
def elemC (P : Program) (t : TypeId) (c : Nat) : Option TypeId := match P.underlying t with
  | some (.struct fs) => (match fs.toList[c]? with | some f => elemT P f.type | none => none)
  | _ => if c = 0 then elemT P t else none
def ownB (P : Program) (t : TypeId) (id : Nat) : List Nat → S2 → S2
  | [], st => st
  | c :: l, st => ownB P t id l (match elemC P t c with | some e => ownizeB P st id c e | none => st)
def ownHs (P : Program) : List HSh → List Nat → S2 → S2
  | .boxp t b :: l, i :: keep, st => ownHs P l keep (ownB P t i (cellsB b 0) st)
  | _ :: l, _ :: keep, st => ownHs P l keep st
  | _, _, st => st
theorem ownB_ok {P : Program} {n0 m0 : Nat} {Bx : List Nat} {ds : List Deferred} {a : Act} {w : World} {B : List Nat} (t : TypeId) (id : Nat) : ∀ (l : List Nat) (st : S2) (η : List Value), SimK n0 Bx ds st a w B η → ∃ η', SimK n0 Bx ds (ownB P t id l st) a w B η' ∧ Goes n0 m0 w B η w B η'
  | [], st, η, h => ⟨η, h, Goes.refl _ _ _ _ _⟩
  | c :: l, st, η, h => by
    unfold ownB
    split
    · rename_i e _
      obtain ⟨η1, h1, h2⟩ := ownizeB_ok (P := P) h id c e
      obtain ⟨η2, h3, h4⟩ := ownB_ok (m0 := m0) t id l _ η1 h1
      exact ⟨η2, h3, (⟨On.refl B w, fun b hb => .inl hb, fun id v _ hv => h2 id v hv, Below.refl _ _⟩ : Goes n0 m0 w B η w B η1).trans h4⟩
    · exact ownB_ok t id l _ η h
theorem ownHs_ok {P : Program} {n0 m0 : Nat} {Bx : List Nat} {ds : List Deferred} {a : Act} {w : World} {B : List Nat} : ∀ (l : List HSh) (keep : List Nat) (st : S2) (η : List Value), SimK n0 Bx ds st a w B η → ∃ η', SimK n0 Bx ds (ownHs P l keep st) a w B η' ∧ Goes n0 m0 w B η w B η'
  | [], _, st, η, h => ⟨η, h, Goes.refl _ _ _ _ _⟩
  | x :: l, [], st, η, h => by
    have e : ownHs P (x :: l) [] st = st := by cases x <;> rfl
    rw [e]
    exact ⟨η, h, Goes.refl _ _ _ _ _⟩
  | x :: l, i :: keep, st, η, h => by
    cases x with
    | boxp t b =>
      obtain ⟨η1, h1, h2⟩ := ownB_ok (m0 := m0) (P := P) t i (cellsB b 0) st η h
      obtain ⟨η2, h3, h4⟩ := ownHs_ok (m0 := m0) l keep _ η1 h1
      exact ⟨η2, h3, h2.trans h4⟩
    | dead => exact ownHs_ok l keep st η h
    | box t d => exact ownHs_ok l keep st η h
    | own d E => exact ownHs_ok l keep st η h
    | itr => exact ownHs_ok l keep st η h
/-- What the shape asks for ahead of it. -/
def preSh (P : Program) (m0 : Nat) (ow : List (Nat × TypeId)) (sh : Shape) (st : S2) : S2 :=
  match ownAll P m0 ow (frzAll (tyIds sh.slots st.slots) st) with
  | st1 => match frzAll (tyIdsH sh.heap (keepOf m0 sh st1) st1.heap) st1 with
    | st2 => ownHs P sh.heap (keepOf m0 sh st1) st2
def toShape (P : Program) (m0 : Nat) (ow : List (Nat × TypeId)) (sh : Shape) (n : Nat) (st : S2) (k : CT sh → Tree R) : Tree R :=
  match preSh P m0 ow sh st with
  | ⟨sl, H⟩ => if nodupB (keepOf m0 sh ⟨sl, H⟩) = true ∧ sl.length = n ∧ m0 ≤ H.length then (match renum (keepOf m0 sh ⟨sl, H⟩) ⟨sl, H⟩ with
    | ⟨sl2, H2⟩ => forceL sl2 fun sl2 => decS sh.slots sl2 fun c => decH sh.heap H2 fun d => k (c, d)) else .fail
theorem ownAll_ok {P : Program} {n0 m0 : Nat} {Bx : List Nat} {ds : List Deferred} {a : Act} {w : World} {B : List Nat} : ∀ (l : List (Nat × TypeId)) (st : S2) (η : List Value), SimK n0 Bx ds st a w B η → ∃ η', SimK n0 Bx ds (ownAll P m0 l st) a w B η' ∧ Goes n0 m0 w B η w B η'
  | [], st, η, h => ⟨η, h, Goes.refl _ _ _ _ _⟩
  | (s, e) :: l, st, η, h => by
    obtain ⟨η1, h1, h2⟩ := ownize_ok (P := P) h s e
    obtain ⟨η0, h5, h6⟩ := moveOwn_ok (m0 := m0) h1 s
    obtain ⟨η2, h3, h4⟩ := ownAll_ok (m0 := m0) l _ η0 h5
    exact ⟨η2, h3, (⟨On.refl B w, fun b hb => .inl hb, fun id v _ hv => h6 id v (h2 id v hv), Below.refl _ _⟩ : Goes n0 m0 w B η w B η0).trans h4⟩
theorem any_slots {n0 : Nat} {w : World} {B : List Nat} {η : List Value} {tmps : Array Value} {n : Nat} (h : n = tmps.size) : SlotsK n0 w B η (List.replicate n .any) tmps := by
  have : ∀ t, (List.replicate n V.any).getD t .any = .any := fun t => by
    rw [List.getD_eq_getElem?_getD, List.getElem?_replicate]; split <;> rfl
  exact ⟨by simp [h], fun t => by rw [this]; trivial, fun t hf => by rw [this] at hf; cases hf⟩
theorem preSh_ok {P : Program} {n0 m0 : Nat} {Bx : List Nat} {ds : List Deferred} {a : Act} {w : World} {B : List Nat} {η : List Value} {st : S2} (ow : List (Nat × TypeId)) (sh : Shape) (hs : SimK n0 Bx ds st a w B η) : ∃ B' η', SimK n0 Bx ds (preSh P m0 ow sh st) a w B' η' ∧ Goes n0 m0 w B η w B' η' := by
  obtain ⟨B0, f1, f2⟩ := frzAll_ok (m0 := m0) (tyIds sh.slots st.slots) st B hs
  obtain ⟨η1, g1, g2⟩ := ownAll_ok (P := P) (m0 := m0) ow _ η f1
  obtain ⟨B1, k1, k2⟩ := frzAll_ok (m0 := m0) (tyIdsH sh.heap (keepOf m0 sh (ownAll P m0 ow (frzAll (tyIds sh.slots st.slots) st))) (ownAll P m0 ow (frzAll (tyIds sh.slots st.slots) st)).heap) _ B0 g1
  obtain ⟨η2, l1, l2⟩ := ownHs_ok (P := P) (m0 := m0) sh.heap (keepOf m0 sh (ownAll P m0 ow (frzAll (tyIds sh.slots st.slots) st))) _ η1 k1
  exact ⟨B1, η2, l1, ((f2.trans g2).trans k2).trans l2⟩
theorem toShape_ok {P : Program} {m0 : Nat} {ow : List (Nat × TypeId)} {sh : Shape} {n : Nat} {st : S2} {k : CT sh → Tree R} {res : R} (h : (toShape P m0 ow sh n st k).run = some res) :
    ∃ c, (k c).run = some res ∧ ∀ (n0 : Nat) (Bx : List Nat) (ds : List Deferred) (a : Act) (w : World) (B : List Nat) (η : List Value), SimK n0 Bx ds st a w B η → ∃ B' η', SimK n0 Bx ds (stOf sh n c) a w B' η' ∧ Goes n0 m0 w B η w B' η' := by
  unfold toShape at h
  split at h
  rename_i sl H how
  split at h
  · rename_i hc
    obtain ⟨hnd, hlen, hm0⟩ := hc
    split at h
    rename_i sl2 H2 hrn
    rw [forceL_eq] at h
    obtain ⟨c, h1, h2⟩ := decS_ok _ _ _ _ h
    obtain ⟨d, h3, h4, h5⟩ := decH_ok _ _ _ _ h1
    refine ⟨(c, d), h3, fun n0 Bx ds a w B η hs => ?_⟩
    obtain ⟨B0, η1, g1, g2⟩ := preSh_ok (P := P) (m0 := m0) ow sh hs
    rw [how] at g1
    have g3 := renum_ok g1 (nodupB_ok hnd)
    rw [hrn] at g3
    refine ⟨B0, (keepOf m0 sh ⟨sl, H⟩).map fun i => η1.getD i undef, ⟨g3.defers, ?_, ?_⟩, g2.trans ⟨On.refl B0 w, fun b hb => .inl hb, fun id v hid hv => ?_, Below.refl _ _⟩⟩
    · refine g3.inv.le (by simp [stOf, h4]) (fun i e' he => ?_)
      simp only [stOf, List.getElem?_map, Option.map_eq_some_iff] at he
      obtain ⟨e0, he0, rfl⟩ := he
      obtain ⟨e1, he1, hle⟩ := h5 i e0 he0
      exact ⟨_, exH he1, hle⟩
    · exact h2 n0 w B0 _ a.tmps _ g3.slots (any_slots (by rw [← hlen]; exact g1.slots.size))
    · have hk : (keepOf m0 sh ⟨sl, H⟩)[id]? = some id := by
        unfold keepOf
        rw [List.getElem?_append_left (by simpa using hid)]
        simp [hid]
      rw [List.getElem?_map, hk, Option.map_some, List.getD_eq_getElem?_getD, hv, Option.getD_some]
  · cases h
end
end Go.Proofs.Ytpijcgohhjgdbaa
