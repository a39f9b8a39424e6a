/-
  Parts of my own, one behind the other: KB, KC, QBase, KOpen, KRead, QBase2, QOctsD, QOcts, KD, GAttrA.
-/
import Derived.Test.YtcmekgfglohooaaMrg3
import Derived.ProofKit
import Derived.OpenShut
import Derived.ShutString
import Derived.ChangeOld
/-
  States of a shape: slots and blocks that hold typed data, nothing else known.
-/
namespace Go.Proofs.Ytcmekgfglohooaa
set_option maxRecDepth 100000
open Go.RowKit
set_option linter.unusedVariables false
set_option linter.unusedSimpArgs false

def rowD : Td → Bool
  | .arr _ _ => true
  | .pair _ _ => true
  | _ => false
/-- Data, as a value. -/
def valV (d : Td) (x : T d) : V := match d, x with
  | .int k, n => .c (.int k n)
  | .bool, b => .c (.bool b)
  | .str, s => .str s
  | .sl d, l => .lst d l
  | .arr n d, a => .agg [.arr d n a]
  | .pair d e, x => .agg (enc d x.1 ++ enc e x.2)
theorem valV_plain (d : Td) (x : T d) : (valV d x).plain = true := by cases d <;> rfl
theorem valV_imm (d : Td) (x : T d) : immV2 (valV d x) = true := by
  have key : ∀ (d : Td) (x : T d), (enc d x).all immV = true := by
    intro d
    induction d with
    | pair d e h1 h2 => intro x; simp [enc, h1, h2]
    | _ => intro x; rfl
  cases d with
  | pair d e => simp [valV, immV2, key]
  | _ => rfl
theorem valV_row (d : Td) (x : T d) (h : rowD d = true) : ex (valV d x) = .agg (cells d x) := by
  cases d with
  | pair d e => simp [valV, ex, ex0, segsA_append, segsA_enc, cells]
  | arr n d => simp [valV, ex, ex0, segsA, segA, cells, flat]
  | _ => cases h
theorem valV_one (d : Td) (x : T d) (h : rowD d = false) : cells d x = [ex (valV d x)] := by
  cases d <;> first | rfl | cases h
theorem valV_fresh (d : Td) (x : T d) : isFresh (ex (valV d x)) = false := by cases d <;> rfl
section
variable {R : Type}
def decV (d : Td) (x : V) (k : T d → Tree R) : Tree R :=
  if isAgg x = rowD d then (match toSegs x with
    | some segs => decK d segs fun y rest => if wL rest = 0 then k y else .fail
    | none => .fail) else .fail
theorem agg_isAgg {x : V} {w : World} {B : List Nat} {η : List Value} {cs : Array Value} (hp : x.plain = true) (hv : Rel w B η (ex x) (.agg cs)) : isAgg x = true := by
  cases x with
  | agg l => rfl
  | arr d n a => rfl
  | c v0 => have := Rel.ofC hv; subst this; rfl
  | any => cases hp
  | clo f l => cases hp
  | bsl i n => cases hp
  | _ => cases hv
theorem decV_ok {d : Td} {x : V} {k : T d → Tree R} {res : R} (h : (decV d x k).run = some res) : ∃ y, (k y).run = some res ∧ x.plain = true ∧ ∀ (w : World) (B : List Nat) (η : List Value) (v : Value), Rel w B η (ex x) v → Rel w B η (ex (valV d y)) v := by
  unfold decV at h
  split at h
  · rename_i hag
    split at h
    · rename_i segs hs
      obtain ⟨s1, s2, s3⟩ := toSegs_ok hs
      obtain ⟨y, rest, h1, h2⟩ := decK_ok _ _ _ _ h
      split at h1
      · rename_i hr
        have hr0 : segsA rest = [] := List.eq_nil_of_length_eq_zero (by rw [wL_eq]; exact hr)
        rw [hr0, List.append_nil] at h2
        refine ⟨y, h1, s3, fun w B η v hv => ?_⟩
        have hu : Rel w B η (eu x) v := hv.unf
        have hL := hu.toL (fun l e => by rw [e] at s2; cases s2)
        rw [s1] at hL
        have hL := h2 w B η _ hL
        cases hd : rowD d with
        | true =>
          rw [hd] at hag
          rw [valV_row d y hd]
          have : ∃ cs, v = .agg cs := by
            rcases isAgg_true hag with ⟨l, rfl⟩ | ⟨d', n', a', rfl⟩ | ⟨cs, rfl⟩
            · obtain ⟨cs, e, _⟩ := Rel.aggL hv; exact ⟨cs, e⟩
            · obtain ⟨cs, e, _⟩ := Rel.aggL hv; exact ⟨cs, e⟩
            · exact ⟨cs, Rel.ofC hv⟩
          obtain ⟨cs, rfl⟩ := this
          exact hL.toAgg
        | false =>
          rw [hd] at hag
          rw [valV_one d y hd] at hL
          have : v.cells.toList = [v] := by
            cases v with
            | agg cs =>
              rw [agg_isAgg s3 hv] at hag
              cases hag
            | _ => rfl
          rw [this] at hL
          obtain ⟨u, e, hu⟩ := RelL.one1 hL
          injection e with e
          subst e
          exact hu
      · cases h1
    · cases h
  · cases h

/-! ### Shapes -/
inductive SSh where
  | ty (d : Td)
  | lit (v : V)
  | adr (d : Td)
inductive BSh where
  | ty (d : Td)
  | own (j : Nat)
  | nil
  | sel (j : Nat)
inductive HSh where
  | dead
  | boxp (t : TypeId) (b : List BSh)
  | box (t : TypeId) (d : Td)
  | own (d : Td) (E : TypeId)
  | itr
structure Shape where
  slots : List (Nat × SSh)
  heap : List HSh
@[reducible] def HL : List Td → Type
  | [] => Unit
  | d :: l => T d × HL l
@[reducible] def tdsS : List (Nat × SSh) → List Td
  | [] => []
  | (_, .ty d) :: l => d :: tdsS l
  | (_, .lit _) :: l => tdsS l
  | (_, .adr d) :: l => d :: tdsS l
@[reducible] def tdsB : List BSh → List Td → List Td
  | [], r => r
  | .ty d :: b, r => d :: tdsB b r
  | .own _ :: b, r => tdsB b r
  | .nil :: b, r => tdsB b r
  | .sel _ :: b, r => .bool :: tdsB b r
@[reducible] def tdsH : List HSh → List Td
  | [] => []
  | .boxp _ b :: l => tdsB b (tdsH l)
  | .dead :: l => tdsH l
  | .box _ d :: l => d :: tdsH l
  | .own d _ :: l => .sl d :: tdsH l
  | .itr :: l => .str :: .int .i64 :: tdsH l
@[reducible] def CT (sh : Shape) : Type := HL (tdsS sh.slots) × HL (tdsH sh.heap)
def putS2 : (l : List (Nat × SSh)) → HL (tdsS l) → List V → List V
  | [], _, sl => sl
  | (s, .ty d) :: l, c, sl => putS2 l c.2 (sl.set s (valV d c.1))
  | (s, .lit v) :: l, c, sl => putS2 l c (sl.set s v)
  | (s, .adr d) :: l, c, sl => putS2 l c.2 (sl.set s (.adr (enc d c.1)))
/-- The parts of a box, some of which are rows of the call's own. -/
def encB : (b : List BSh) → (r : List Td) → HL (tdsB b r) → List V
  | [], _, _ => []
  | .ty d :: b, r, c => enc d c.1 ++ encB b r c.2
  | .own j :: b, r, c => .own j :: encB b r c
  | .nil :: b, r, c => .c (.slice none 0 0) :: encB b r c
  | .sel j :: b, r, c => (bif c.1 then .box j 0 else .c (.pointer none)) :: encB b r c.2
def restB : (b : List BSh) → (r : List Td) → HL (tdsB b r) → HL r
  | [], _, c => c
  | .ty _ :: b, r, c => restB b r c.2
  | .own _ :: b, r, c => restB b r c
  | .nil :: b, r, c => restB b r c
  | .sel _ :: b, r, c => restB b r c.2
def encH : (l : List HSh) → HL (tdsH l) → List E2
  | [], _ => []
  | .boxp t b :: l, c => .box (encB b (tdsH l) c) t :: encH l (restB b (tdsH l) c)
  | .dead :: l, c => .dead :: encH l c
  | .box t d :: l, c => .box (enc d c.1) t :: encH l c.2
  | .own d E :: l, c => .own d c.1 E :: encH l c.2
  | .itr :: l, c => .itr c.1 c.2.1 :: encH l c.2.2
def stOf (sh : Shape) (n : Nat) (c : CT sh) : S2 := ⟨putS2 sh.slots c.1 (List.replicate n .any), encH sh.heap c.2⟩
def litEq0 : V → V → Bool
  | .box i o, .box i' o' => i == i' && o == o'
  | .own i, .own i' => i == i'
  | .c (.pointer none), .c (.pointer none) => true
  | .c (.slice none 0 0), .c (.slice none 0 0) => true
  | .emp, .emp => true
  | _, _ => false
def litEqL : List V → List V → Bool
  | [], [] => true
  | x :: l, y :: m => litEq0 x y && litEqL l m
  | _, _ => false
def litEq : V → V → Bool
  | .clo f l, .clo g m => f == g && litEqL l m
  | x, y => litEq0 x y
theorem litEq0_eq {x y : V} (h : litEq0 x y = true) : x = y := by
  unfold litEq0 at h
  split at h
  · simp only [Bool.and_eq_true, beq_iff_eq] at h; rw [h.1, h.2]
  · simp only [beq_iff_eq] at h; rw [h]
  · rfl
  · rfl
  · rfl
  · cases h
theorem litEqL_eq : ∀ {l m : List V}, litEqL l m = true → l = m
  | [], [], _ => rfl
  | [], _ :: _, h => by cases h
  | _ :: _, [], h => by cases h
  | x :: l, y :: m, h => by
    simp only [litEqL, Bool.and_eq_true] at h
    rw [litEq0_eq h.1, litEqL_eq h.2]
theorem litEq_eq {x y : V} (h : litEq x y = true) : x = y ∧ isFresh (ex y) = false := by
  unfold litEq at h
  split at h
  · simp only [Bool.and_eq_true, beq_iff_eq] at h
    rw [h.1, litEqL_eq h.2]; exact ⟨rfl, rfl⟩
  · refine ⟨litEq0_eq h, ?_⟩
    unfold litEq0 at h
    split at h <;> first | rfl | cases h
def decS : (l : List (Nat × SSh)) → List V → (HL (tdsS l) → Tree R) → Tree R
  | [], _, k => k ()
  | (s, .ty d) :: l, sl, k => decV d (sl.getD s .any) fun x => decS l sl fun y => k (x, y)
  | (s, .lit v) :: l, sl, k => if litEq (sl.getD s .any) v = true then decS l sl k else .fail
  | (s, .adr d) :: l, sl, k => (match sl.getD s .any with
    | .adr segs => decK d segs fun x rest => if wL rest = 0 then decS l sl fun y => k (x, y) else .fail
    | _ => .fail)
def decB : (b : List BSh) → (r : List Td) → List V → ((HL r → HL (tdsB b r)) → List V → Tree R) → Tree R
  | [], _, segs, k => k (fun y => y) segs
  | .ty d :: b, r, segs, k => decK d segs fun x segs' => decB b r segs' fun f segs'' => k (fun y => (x, f y)) segs''
  | .own j :: b, r, segs, k => (match segs with
    | .own i :: segs' => if i = j then decB b r segs' k else .fail
    | _ => .fail)
  | .nil :: b, r, segs, k => (match segs with
    | .c (.slice none 0 0) :: segs' => decB b r segs' k
    | _ => .fail)
  | .sel j :: b, r, segs, k => (match segs with
    | .box i 0 :: segs' => if i = j then decB b r segs' fun f segs'' => k (fun y => (true, f y)) segs'' else .fail
    | .c (.pointer none) :: segs' => decB b r segs' fun f segs'' => k (fun y => (false, f y)) segs''
    | _ => .fail)
theorem decB_ok : ∀ (b : List BSh) (r : List Td) (segs : List V) (k : (HL r → HL (tdsB b r)) → List V → Tree R) (res : R), (decB b r segs k).run = some res →
    ∃ f rest, (k f rest).run = some res ∧ ∀ y, restB b r (f y) = y ∧ Wk (segsA segs) (segsA (encB b r (f y)) ++ segsA rest)
  | [], r, segs, k, res, h => ⟨fun y => y, segs, h, fun y => ⟨rfl, Wk.refl _⟩⟩
  | .ty d :: b, r, segs, k, res, h => by
    obtain ⟨x, segs', h1, h2⟩ := decK_ok _ _ _ _ h
    obtain ⟨f, rest, h3, h4⟩ := decB_ok b r _ _ res h1
    refine ⟨_, rest, h3, fun y => ⟨(h4 y).1, ?_⟩⟩
    show Wk _ (segsA (enc d x ++ encB b r (f y)) ++ segsA rest)
    rw [segsA_append, segsA_enc, List.append_assoc]
    exact h2.trans ((Wk.refl _).app (h4 y).2)
  | .own j :: b, r, segs, k, res, h => by
    unfold decB at h
    split at h
    · rename_i i segs'
      split at h
      · rename_i hi
        subst hi
        obtain ⟨f, rest, h3, h4⟩ := decB_ok b r _ _ res h
        refine ⟨f, rest, h3, fun y => ⟨(h4 y).1, ?_⟩⟩
        show Wk _ (segsA (V.own i :: encB b r (f y)) ++ segsA rest)
        rw [segsA_cons, segsA_cons, List.append_assoc]
        exact (Wk.refl _).app (h4 y).2
      · cases h
    · cases h
  | .nil :: b, r, segs, k, res, h => by
    unfold decB at h
    split at h
    · rename_i segs'
      obtain ⟨f, rest, h3, h4⟩ := decB_ok b r _ _ res h
      refine ⟨f, rest, h3, fun y => ⟨(h4 y).1, ?_⟩⟩
      show Wk _ (segsA (V.c (.slice none 0 0) :: encB b r (f y)) ++ segsA rest)
      rw [segsA_cons, segsA_cons, List.append_assoc]
      exact (Wk.refl _).app (h4 y).2
    · cases h
  | .sel j :: b, r, segs, k, res, h => by
    unfold decB at h
    split at h
    · rename_i i segs'
      split at h
      · rename_i hi
        subst hi
        obtain ⟨f, rest, h3, h4⟩ := decB_ok b r _ _ res h
        refine ⟨_, rest, h3, fun y => ⟨(h4 y).1, ?_⟩⟩
        show Wk _ (segsA (V.box i 0 :: encB b r (f y)) ++ segsA rest)
        rw [segsA_cons, segsA_cons, List.append_assoc]
        exact (Wk.refl _).app (h4 y).2
      · cases h
    · rename_i segs'
      obtain ⟨f, rest, h3, h4⟩ := decB_ok b r _ _ res h
      refine ⟨_, rest, h3, fun y => ⟨(h4 y).1, ?_⟩⟩
      show Wk _ (segsA (V.c (.pointer none) :: encB b r (f y)) ++ segsA rest)
      rw [segsA_cons, segsA_cons, List.append_assoc]
      exact (Wk.refl _).app (h4 y).2
    · cases h
def decH : (l : List HSh) → List E2 → (HL (tdsH l) → Tree R) → Tree R
  | [], H, k => (match H with | [] => k () | _ => .fail)
  | .boxp t b :: l, H, k => (match H with
    | .box segs t' :: H => if t = t' then decB b (tdsH l) segs fun f rest => if wL rest = 0 then decH l H fun y => k (f y) else .fail else .fail
    | _ => .fail)
  | .dead :: l, H, k => (match H with | _ :: H => decH l H k | [] => .fail)
  | .box t d :: l, H, k => (match H with
    | .box segs t' :: H => if t = t' then decK d segs fun x rest => if wL rest = 0 then decH l H fun y => k (x, y) else .fail else .fail
    | _ => .fail)
  | .own d E :: l, H, k => (match H with
    | .own d' m E' :: H => if E = E' then castK d' d (fun d => List (T d)) m fun m => decH l H fun y => k (m, y) else .fail
    | _ => .fail)
  | .itr :: l, H, k => (match H with
    | .itr s p :: H => decH l H fun y => k (s, (p, y))
    | _ => .fail)
/-- The slots, whatever else is known of them. -/
def SlotsW (n0 : Nat) (w : World) (B : List Nat) (η : List Value) (sl : List V) (tmps : Array Value) : Prop := SlotsK n0 w B η sl tmps
theorem decS_ok : ∀ (l : List (Nat × SSh)) (sl : List V) (k : HL (tdsS l) → Tree R) (res : R), (decS l sl k).run = some res →
    ∃ c, (k c).run = some res ∧ ∀ (n0 : Nat) (w : World) (B : List Nat) (η : List Value) (tmps : Array Value) (base : List V), SlotsK n0 w B η sl tmps → SlotsK n0 w B η base tmps → SlotsK n0 w B η (putS2 l c base) tmps
  | [], sl, k, res, h => ⟨(), h, fun n0 w B η tmps base hs hb => hb⟩
  | (s, .ty d) :: l, sl, k, res, h => by
    obtain ⟨x, h1, h2, h3⟩ := decV_ok h
    obtain ⟨c, h4, h5⟩ := decS_ok l sl _ res h1
    refine ⟨(x, c), h4, fun n0 w B η tmps base hs hb => h5 n0 w B η tmps _ hs ?_⟩
    have hr := h3 w B η _ ((hs.rel s).get h2)
    have := hb.put (r := valV d x) (v := tmps.getD s undef) (Rel2.of (valV_plain d x) hr) (fun h => by rw [valV_fresh] at h; cases h) s
    have e : tmps.setIfInBounds s (tmps.getD s undef) = tmps := by
      apply Array.ext (by simp)
      intro i h1 h2
      rw [Array.getElem_setIfInBounds]
      split
      · rename_i hi; subst hi; simp [Array.getD_eq_getD_getElem?, h2]
      · rfl
    rwa [e] at this
  | (s, .lit v) :: l, sl, k, res, h => by
    unfold decS at h
    split at h
    · rename_i hl
      obtain ⟨e1, e2⟩ := litEq_eq hl
      obtain ⟨c, h4, h5⟩ := decS_ok l sl k res h
      refine ⟨c, h4, fun n0 w B η tmps base hs hb => h5 n0 w B η tmps _ hs ?_⟩
      have hr := hs.rel s
      rw [e1] at hr
      have := hb.put (r := v) (v := tmps.getD s undef) hr (fun h => by rw [e2] at h; cases h) s
      have e : tmps.setIfInBounds s (tmps.getD s undef) = tmps := by
        apply Array.ext (by simp)
        intro i h1 h2
        rw [Array.getElem_setIfInBounds]
        split
        · rename_i hi; subst hi; simp [Array.getD_eq_getD_getElem?, h2]
        · rfl
      rwa [e] at this
    · cases h
  | (s, .adr d) :: l, sl, k, res, h => by
    unfold decS at h
    split at h
    · rename_i segs hsg
      obtain ⟨x, rest, h1, h2⟩ := decK_ok _ _ _ _ h
      split at h1
      · rename_i hr
        have hr0 : segsA rest = [] := List.eq_nil_of_length_eq_zero (by rw [wL_eq]; exact hr)
        rw [hr0, List.append_nil] at h2
        obtain ⟨c, h4, h5⟩ := decS_ok l sl _ res h1
        refine ⟨(x, c), h4, fun n0 w B η tmps base hs hb => h5 n0 w B η tmps _ hs ?_⟩
        have hr1 := hs.rel s
        rw [hsg] at hr1
        have hr2 : Rel w B η (.adr (segsA segs)) (tmps.getD s undef) := hr1
        have hr3 : Rel2 w B η (.adr (enc d x)) (tmps.getD s undef) := by
          show Rel w B η (.adr (segsA (enc d x))) _
          rw [segsA_enc]; exact rel_adr_wk h2 hr2
        have := hb.put (r := .adr (enc d x)) (v := tmps.getD s undef) hr3 (fun h => by cases h) s
        have e : tmps.setIfInBounds s (tmps.getD s undef) = tmps := by
          apply Array.ext (by simp)
          intro i h1 h2
          rw [Array.getElem_setIfInBounds]
          split
          · rename_i hi; subst hi; simp [Array.getD_eq_getD_getElem?, h2]
          · rfl
        rwa [e] at this
      · cases h1
    · cases h
theorem decH_ok : ∀ (l : List HSh) (H : List E2) (k : HL (tdsH l) → Tree R) (res : R), (decH l H k).run = some res →
    ∃ c, (k c).run = some res ∧ (encH l c).length = H.length ∧ ∀ (i : Nat) e', (encH l c)[i]? = some e' → ∃ e, H[i]? = some e ∧ EntLe (exE e) (exE e')
  | [], H, k, res, h => by
    unfold decH at h
    split at h
    · exact ⟨(), h, rfl, fun i e' h => by simp [encH] at h⟩
    · cases h
  | .boxp t b :: l, H, k, res, h => by
    unfold decH at h
    split at h
    · rename_i segs t' H
      split at h
      · rename_i ht
        subst ht
        obtain ⟨f, rest, h1, h2⟩ := decB_ok _ _ _ _ _ h
        split at h1
        · rename_i hr
          have hr0 : segsA rest = [] := List.eq_nil_of_length_eq_zero (by rw [wL_eq]; exact hr)
          obtain ⟨c, h3, h4, h5⟩ := decH_ok l H _ res h1
          obtain ⟨g1, g2⟩ := h2 c
          rw [hr0, List.append_nil] at g2
          refine ⟨f c, h3, by simp [encH, g1, h4], fun i e' he => ?_⟩
          cases i with
          | zero => simp [encH] at he; subst he; exact ⟨_, rfl, .inr (.inr (.inl ⟨_, _, _, rfl, rfl, g2⟩))⟩
          | succ i => simpa using h5 i e' (by simpa [encH, g1] using he)
        · cases h1
      · cases h
    · cases h
  | .dead :: l, H, k, res, h => by
    unfold decH at h
    split at h
    · rename_i e0 H
      obtain ⟨c, h1, h2, h3⟩ := decH_ok l H k res h
      refine ⟨c, h1, by simp [encH, h2], fun i e' he => ?_⟩
      cases i with
      | zero => simp [encH] at he; subst he; exact ⟨e0, rfl, .inl rfl⟩
      | succ i => simpa using h3 i e' (by simpa [encH] using he)
    · cases h
  | .box t d :: l, H, k, res, h => by
    unfold decH at h
    split at h
    · rename_i segs t' H
      split at h
      · rename_i ht
        subst ht
        obtain ⟨x, rest, h1, h2⟩ := decK_ok _ _ _ _ h
        split at h1
        · rename_i hr
          have hr0 : segsA rest = [] := List.eq_nil_of_length_eq_zero (by rw [wL_eq]; exact hr)
          rw [hr0, List.append_nil] at h2
          obtain ⟨c, h3, h4, h5⟩ := decH_ok l H _ res h1
          refine ⟨(x, c), h3, by simp [encH, h4], fun i e' he => ?_⟩
          cases i with
          | zero => simp [encH] at he; subst he; exact ⟨_, rfl, .inr (.inr (.inl ⟨_, _, _, rfl, rfl, by rw [segsA_enc]; exact h2⟩))⟩
          | succ i => simpa using h5 i e' (by simpa [encH] using he)
        · cases h1
      · cases h
    · cases h
  | .own d E :: l, H, k, res, h => by
    unfold decH at h
    split at h
    · rename_i d' m E' H
      split at h
      · rename_i ht
        subst ht
        obtain ⟨e1, h1⟩ := castK_run h
        clear h
        subst e1
        simp only at h1
        obtain ⟨c, h3, h4, h5⟩ := decH_ok l H _ res h1
        refine ⟨(m, c), h3, by simp [encH, h4], fun i e' he => ?_⟩
        cases i with
        | zero => simp [encH] at he; subst he; exact ⟨_, rfl, .refl _⟩
        | succ i => simpa using h5 i e' (by simpa [encH] using he)
      · cases h
    · cases h
  | .itr :: l, H, k, res, h => by
    unfold decH at h
    split at h
    · rename_i s p H
      obtain ⟨c, h3, h4, h5⟩ := decH_ok l H _ res h
      refine ⟨(s, (p, c)), h3, by simp [encH, h4], fun i e' he => ?_⟩
      cases i with
      | zero => simp [encH] at he; subst he; exact ⟨_, rfl, .refl _⟩
      | succ i => simpa using h5 i e' (by simpa [encH] using he)
    · cases h
/-! ### Any state, as one of a shape -/
def idsV : V → List Nat
  | .own i | .box i _ | .boxi i _ _ _ _ _ | .oadr i _ _ _ => [i]
  | .agg l | .clo _ l => l.filterMap fun | .own i | .box i _ | .boxi i _ _ _ _ _ | .oadr i _ _ _ => some i | _ => none
  | _ => []
def idsE : E2 → List Nat
  | .box l _ => idsV (.agg l)
  | _ => []
/-- The blocks that are come to, in order. -/
def clos (H : List E2) (m0 : Nat) : Nat → List Nat → List Nat → List Nat
  | 0, _, acc => acc
  | _, [], acc => acc
  | f + 1, i :: todo, acc => if i < m0 || acc.contains i then clos H m0 f todo acc else clos H m0 f (todo ++ idsE (H.getD i .dead)) (acc ++ [i])
def nodupB : List Nat → Bool
  | [] => true
  | x :: l => !l.contains x && nodupB l
theorem nodupB_ok : ∀ {l : List Nat}, nodupB l = true → l.Nodup
  | [], _ => List.nodup_nil
  | x :: l, h => by
    simp only [nodupB, Bool.and_eq_true, Bool.not_eq_true', List.contains_eq_mem, decide_eq_false_iff_not] at h
    exact List.nodup_cons.2 ⟨h.1, nodupB_ok h.2⟩
def ownAll (P : Program) (m0 : Nat) : List (Nat × TypeId) → S2 → S2
  | [], st => st
  | (s, e) :: l, st => ownAll P m0 l (moveOwn m0 (ownize P st s e) s)
def keepOf (m0 : Nat) (sh : Shape) (st : S2) : List Nat := List.range m0 ++ clos st.heap m0 500 ((sh.slots.flatMap fun p => idsV (st.slots.getD p.1 .any)) ++ (List.range m0).flatMap fun i => idsE (st.heap.getD i .dead)) []
/-- Rows of the call's own that the shape has as plain ones. -/
def tyIds : List (Nat × SSh) → List V → List Nat
  | [], _ => []
  | (s, .ty _) :: l, sl => ownIds (sl.getD s .any) ++ tyIds l sl
  | (_, .lit _) :: l, sl => tyIds l sl
  | (_, .adr _) :: l, sl => tyIds l sl
/-- Rows of the call's own in boxes that the shape has as plain ones. -/
def ownIdsE : E2 → List Nat
  | .box l _ => ownIds (.agg l)
  | _ => []
def tyIdsH : List HSh → List Nat → List E2 → List Nat
  | .box _ _ :: l, i :: keep, H => ownIdsE (H.getD i .dead) ++ tyIdsH l keep H
  | _ :: l, _ :: keep, H => tyIdsH l keep H
  | _, _, _ => []
/-- A nil row in a box, as one of the call's own. -/
def ownizeB (P : Program) (st : S2) (id c : Nat) (e : TypeId) : S2 :=
  match st.heap[id]?, tdOf P 12 e with
  | some (.box segs t), some d => (match segs[c]? with
    | some (.c (.slice none 0 0)) => if 1 ≤ wd d then ⟨st.slots, st.heap.set id (.box (segs.set c (.own st.heap.length)) t) ++ [.own d [] e]⟩ else st
    | _ => st)
  | _, _ => st
theorem relL_own {w : World} {B : List Nat} {η : List Value} {n : Nat} (hn : η[n]? = some (.slice none 0 0)) : ∀ (l : List V) (c : Nat) (us : List Value), l[c]? = some (.c (.slice none 0 0)) → RelL w B η (segsA l) us → RelL w B η (segsA (l.set c (.own n))) us
  | [], c, us, h, _ => by simp at h
  | x :: l, 0, us, h, hr => by
    simp at h
    subst h
    rw [segsA_cons] at hr
    obtain ⟨h1, h2⟩ := hr.split
    obtain ⟨u, e, hu⟩ := RelL.one1 (x := .c (.slice none 0 0)) h1
    have hu := Rel.ofC hu
    subst hu
    rw [List.set_cons_zero, segsA_cons]
    have := (RelL.of1 (.own η n none 0 0 hn : Rel w B η (.own n) (.slice none 0 0))).append h2
    rw [← e, List.take_append_drop] at this
    exact this
  | x :: l, c + 1, us, h, hr => by
    rw [segsA_cons] at hr
    obtain ⟨h1, h2⟩ := hr.split
    rw [List.set_cons_succ, segsA_cons]
    have := h1.append (relL_own hn l c _ (by simpa using h) h2)
    rwa [List.take_append_drop] at this
theorem ownizeB_ok {P : Program} {n0 : Nat} {Bx : List Nat} {ds : List Deferred} {st : S2} {a : Act} {w : World} {B : List Nat} {η : List Value} (h : SimK n0 Bx ds st a w B η) (id c : Nat) (e : TypeId) : ∃ η', SimK n0 Bx ds (ownizeB P st id c e) a w B η' ∧ ∀ (id : Nat) v, η[id]? = some v → η'[id]? = some v := by
  unfold ownizeB
  split
  · rename_i segs t d hH htd
    split
    · rename_i hsg
      split
      · rename_i hw
        have hl : η.length = st.heap.length := by simpa using h.inv.len
        have hnew : (η ++ [Value.slice none 0 0])[st.heap.length]? = some (.slice none 0 0) := by rw [← hl, List.getElem?_append_right (Nat.le_refl _)]; simp
        refine ⟨η ++ [.slice none 0 0], ⟨h.defers, ?_, h.slots.on (On.refl B w) (fun _ h => .inl h) (push_old η _)⟩, push_old η _⟩
        have hidlt : id < st.heap.length := (List.getElem?_eq_some_iff.1 hH).1
        have part : ∀ (i : Nat) (ei : Ent), (((st.heap.set id (.box (segs.set c (.own st.heap.length)) t)) ++ [E2.own d [] e]).map exE)[i]? = some ei → (i < st.heap.length ∧ ((i = id ∧ ei = .box (segsA (segs.set c (.own st.heap.length))) t) ∨ (i ≠ id ∧ (st.heap.map exE)[i]? = some ei))) ∨ (i = st.heap.length ∧ ei = .own [] e (wd d)) := fun i ei hi => by
          rw [List.map_append] at hi
          rcases Nat.lt_or_ge i st.heap.length with hlt | hge
          · rw [List.getElem?_append_left (by simpa using hlt), List.map_set, List.getElem?_set] at hi
            refine .inl ⟨hlt, ?_⟩
            split at hi
            · rename_i hii
              subst hii
              rw [if_pos (by simpa using hlt)] at hi
              injection hi with hi
              exact .inl ⟨rfl, hi.symm⟩
            · rename_i hii
              exact .inr ⟨fun h => hii h.symm, hi⟩
          · rw [List.getElem?_append_right (by simpa using hge)] at hi
            have hz : i = st.heap.length := by have := (List.getElem?_eq_some_iff.1 hi).1; simp at this; omega
            subst hz
            simp at hi
            exact .inr ⟨rfl, hi.symm⟩
        refine ⟨by simp [h.inv.len], h.inv.base, h.inv.sub, h.inv.lt, fun i e' he => ?_, fun i j ei ej hij hi hj hli hlj b hb => ?_⟩
        · rcases part i e' he with ⟨hlt, ⟨rfl, rfl⟩ | ⟨hne, hold⟩⟩ | ⟨rfl, rfl⟩
          · rw [getD_push_old (by omega)]
            obtain ⟨b, us, p1, p2, p3, p4, p5, p6⟩ := h.inv.ent i _ (exH hH)
            exact ⟨b, us, p1, p2, p3, p4, p5, relL_own hnew segs c us hsg (p6.on (On.refl B w) (fun _ h => .inl h) (push_old η _))⟩
          · rw [getD_push_old (by omega)]
            exact EntOK.keep (h.inv.ent i e' hold) (On.refl B w) (fun _ h => .inl h) (fun _ h => h) (push_old η _) (fun _ _ _ => rfl)
          · rw [← hl, getD_push_new]
            exact ⟨0, [], OwnAt.nil w n0 e (wd d), RelL.nil _ _ _, hw, fun b hb => by cases hb⟩
        · have live : ∀ (i : Nat) (ei : Ent), i < st.heap.length → ((i = id ∧ ei = .box (segsA (segs.set c (.own st.heap.length))) t) ∨ (i ≠ id ∧ (st.heap.map exE)[i]? = some ei)) → ei.live = true → ∃ ei', (st.heap.map exE)[i]? = some ei' ∧ ei'.live = true := fun i ei _ hc hl => by
            rcases hc with ⟨rfl, rfl⟩ | ⟨_, hc⟩
            · exact ⟨_, exH hH, rfl⟩
            · exact ⟨_, hc, hl⟩
          rcases part i ei hi with ⟨h1, h2⟩ | ⟨h1, _⟩
          · rw [getD_push_old (by omega)] at hb
            rcases part j ej hj with ⟨h3, h4⟩ | ⟨h3, _⟩
            · rw [getD_push_old (by omega)]
              obtain ⟨_, k1, k2⟩ := live i ei h1 h2 hli
              obtain ⟨_, k3, k4⟩ := live j ej h3 h4 hlj
              exact h.inv.sep i j _ _ hij k1 k3 k2 k4 b hb
            · subst h3; rw [← hl, getD_push_new]; intro hc; cases hc
          · subst h1; rw [← hl, getD_push_new] at hb; cases hb
      · exact ⟨η, h, fun _ _ h => h⟩
    · exact ⟨η, h, fun _ _ h => h⟩
  · exact ⟨η, h, fun _ _ h => h⟩
/-- Boxes of the shape with rows of the call's own in them: where a row is nil, it becomes one. -/
def cellsB : List BSh → Nat → List Nat
  | [], _ => []
  | .own _ :: b, i => i :: cellsB b (i + 1)
  | .ty _ :: b, i => cellsB b (i + 1)
  | .nil :: b, i => cellsB b (i + 1)
  | .sel _ :: b, i => cellsB b (i + 1)
def elemC (P : Program) (t : TypeId) (c : Nat) : Option TypeId := match P.underlying t with
  | some (.struct fs) => (match fs.toList[c]? with | some f => elemT P f.type | none => none)
  | _ => if c = 0 then elemT P t else none
def ownB (P : Program) (t : TypeId) (id : Nat) : List Nat → S2 → S2
  | [], st => st
  | c :: l, st => ownB P t id l (match elemC P t c with | some e => ownizeB P st id c e | none => st)
def ownHs (P : Program) : List HSh → List Nat → S2 → S2
  | .boxp t b :: l, i :: keep, st => ownHs P l keep (ownB P t i (cellsB b 0) st)
  | _ :: l, _ :: keep, st => ownHs P l keep st
  | _, _, st => st
theorem ownB_ok {P : Program} {n0 m0 : Nat} {Bx : List Nat} {ds : List Deferred} {a : Act} {w : World} {B : List Nat} (t : TypeId) (id : Nat) : ∀ (l : List Nat) (st : S2) (η : List Value), SimK n0 Bx ds st a w B η → ∃ η', SimK n0 Bx ds (ownB P t id l st) a w B η' ∧ Goes n0 m0 w B η w B η'
  | [], st, η, h => ⟨η, h, Goes.refl _ _ _ _ _⟩
  | c :: l, st, η, h => by
    unfold ownB
    split
    · rename_i e _
      obtain ⟨η1, h1, h2⟩ := ownizeB_ok (P := P) h id c e
      obtain ⟨η2, h3, h4⟩ := ownB_ok (m0 := m0) t id l _ η1 h1
      exact ⟨η2, h3, (⟨On.refl B w, fun b hb => .inl hb, fun id v _ hv => h2 id v hv, Below.refl _ _⟩ : Goes n0 m0 w B η w B η1).trans h4⟩
    · exact ownB_ok t id l _ η h
theorem ownHs_ok {P : Program} {n0 m0 : Nat} {Bx : List Nat} {ds : List Deferred} {a : Act} {w : World} {B : List Nat} : ∀ (l : List HSh) (keep : List Nat) (st : S2) (η : List Value), SimK n0 Bx ds st a w B η → ∃ η', SimK n0 Bx ds (ownHs P l keep st) a w B η' ∧ Goes n0 m0 w B η w B η'
  | [], _, st, η, h => ⟨η, h, Goes.refl _ _ _ _ _⟩
  | x :: l, [], st, η, h => by
    have e : ownHs P (x :: l) [] st = st := by cases x <;> rfl
    rw [e]
    exact ⟨η, h, Goes.refl _ _ _ _ _⟩
  | x :: l, i :: keep, st, η, h => by
    cases x with
    | boxp t b =>
      obtain ⟨η1, h1, h2⟩ := ownB_ok (m0 := m0) (P := P) t i (cellsB b 0) st η h
      obtain ⟨η2, h3, h4⟩ := ownHs_ok (m0 := m0) l keep _ η1 h1
      exact ⟨η2, h3, h2.trans h4⟩
    | dead => exact ownHs_ok l keep st η h
    | box t d => exact ownHs_ok l keep st η h
    | own d E => exact ownHs_ok l keep st η h
    | itr => exact ownHs_ok l keep st η h
/-- What the shape asks for ahead of it. -/
def preSh (P : Program) (m0 : Nat) (ow : List (Nat × TypeId)) (sh : Shape) (st : S2) : S2 :=
  match ownAll P m0 ow (frzAll (tyIds sh.slots st.slots) st) with
  | st1 => match frzAll (tyIdsH sh.heap (keepOf m0 sh st1) st1.heap) st1 with
    | st2 => ownHs P sh.heap (keepOf m0 sh st1) st2
def toShape (P : Program) (m0 : Nat) (ow : List (Nat × TypeId)) (sh : Shape) (n : Nat) (st : S2) (k : CT sh → Tree R) : Tree R :=
  match preSh P m0 ow sh st with
  | ⟨sl, H⟩ => if nodupB (keepOf m0 sh ⟨sl, H⟩) = true ∧ sl.length = n ∧ m0 ≤ H.length then (match renum (keepOf m0 sh ⟨sl, H⟩) ⟨sl, H⟩ with
    | ⟨sl2, H2⟩ => forceL sl2 fun sl2 => decS sh.slots sl2 fun c => decH sh.heap H2 fun d => k (c, d)) else .fail
theorem ownAll_ok {P : Program} {n0 m0 : Nat} {Bx : List Nat} {ds : List Deferred} {a : Act} {w : World} {B : List Nat} : ∀ (l : List (Nat × TypeId)) (st : S2) (η : List Value), SimK n0 Bx ds st a w B η → ∃ η', SimK n0 Bx ds (ownAll P m0 l st) a w B η' ∧ Goes n0 m0 w B η w B η'
  | [], st, η, h => ⟨η, h, Goes.refl _ _ _ _ _⟩
  | (s, e) :: l, st, η, h => by
    obtain ⟨η1, h1, h2⟩ := ownize_ok (P := P) h s e
    obtain ⟨η0, h5, h6⟩ := moveOwn_ok (m0 := m0) h1 s
    obtain ⟨η2, h3, h4⟩ := ownAll_ok (m0 := m0) l _ η0 h5
    exact ⟨η2, h3, (⟨On.refl B w, fun b hb => .inl hb, fun id v _ hv => h6 id v (h2 id v hv), Below.refl _ _⟩ : Goes n0 m0 w B η w B η0).trans h4⟩
theorem any_slots {n0 : Nat} {w : World} {B : List Nat} {η : List Value} {tmps : Array Value} {n : Nat} (h : n = tmps.size) : SlotsK n0 w B η (List.replicate n .any) tmps := by
  have : ∀ t, (List.replicate n V.any).getD t .any = .any := fun t => by
    rw [List.getD_eq_getElem?_getD, List.getElem?_replicate]; split <;> rfl
  exact ⟨by simp [h], fun t => by rw [this]; trivial, fun t hf => by rw [this] at hf; cases hf⟩
theorem preSh_ok {P : Program} {n0 m0 : Nat} {Bx : List Nat} {ds : List Deferred} {a : Act} {w : World} {B : List Nat} {η : List Value} {st : S2} (ow : List (Nat × TypeId)) (sh : Shape) (hs : SimK n0 Bx ds st a w B η) : ∃ B' η', SimK n0 Bx ds (preSh P m0 ow sh st) a w B' η' ∧ Goes n0 m0 w B η w B' η' := by
  obtain ⟨B0, f1, f2⟩ := frzAll_ok (m0 := m0) (tyIds sh.slots st.slots) st B hs
  obtain ⟨η1, g1, g2⟩ := ownAll_ok (P := P) (m0 := m0) ow _ η f1
  obtain ⟨B1, k1, k2⟩ := frzAll_ok (m0 := m0) (tyIdsH sh.heap (keepOf m0 sh (ownAll P m0 ow (frzAll (tyIds sh.slots st.slots) st))) (ownAll P m0 ow (frzAll (tyIds sh.slots st.slots) st)).heap) _ B0 g1
  obtain ⟨η2, l1, l2⟩ := ownHs_ok (P := P) (m0 := m0) sh.heap (keepOf m0 sh (ownAll P m0 ow (frzAll (tyIds sh.slots st.slots) st))) _ η1 k1
  exact ⟨B1, η2, l1, ((f2.trans g2).trans k2).trans l2⟩
theorem toShape_ok {P : Program} {m0 : Nat} {ow : List (Nat × TypeId)} {sh : Shape} {n : Nat} {st : S2} {k : CT sh → Tree R} {res : R} (h : (toShape P m0 ow sh n st k).run = some res) :
    ∃ c, (k c).run = some res ∧ ∀ (n0 : Nat) (Bx : List Nat) (ds : List Deferred) (a : Act) (w : World) (B : List Nat) (η : List Value), SimK n0 Bx ds st a w B η → ∃ B' η', SimK n0 Bx ds (stOf sh n c) a w B' η' ∧ Goes n0 m0 w B η w B' η' := by
  unfold toShape at h
  split at h
  rename_i sl H how
  split at h
  · rename_i hc
    obtain ⟨hnd, hlen, hm0⟩ := hc
    split at h
    rename_i sl2 H2 hrn
    rw [forceL_eq] at h
    obtain ⟨c, h1, h2⟩ := decS_ok _ _ _ _ h
    obtain ⟨d, h3, h4, h5⟩ := decH_ok _ _ _ _ h1
    refine ⟨(c, d), h3, fun n0 Bx ds a w B η hs => ?_⟩
    obtain ⟨B0, η1, g1, g2⟩ := preSh_ok (P := P) (m0 := m0) ow sh hs
    rw [how] at g1
    have g3 := renum_ok g1 (nodupB_ok hnd)
    rw [hrn] at g3
    refine ⟨B0, (keepOf m0 sh ⟨sl, H⟩).map fun i => η1.getD i undef, ⟨g3.defers, ?_, ?_⟩, g2.trans ⟨On.refl B0 w, fun b hb => .inl hb, fun id v hid hv => ?_, Below.refl _ _⟩⟩
    · refine g3.inv.le (by simp [stOf, h4]) (fun i e' he => ?_)
      simp only [stOf, List.getElem?_map, Option.map_eq_some_iff] at he
      obtain ⟨e0, he0, rfl⟩ := he
      obtain ⟨e1, he1, hle⟩ := h5 i e0 he0
      exact ⟨_, exH he1, hle⟩
    · exact h2 n0 w B0 _ a.tmps _ g3.slots (any_slots (by rw [← hlen]; exact g1.slots.size))
    · have hk : (keepOf m0 sh ⟨sl, H⟩)[id]? = some id := by
        unfold keepOf
        rw [List.getElem?_append_left (by simpa using hid)]
        simp [hid]
      rw [List.getElem?_map, hk, Option.map_some, List.getD_eq_getElem?_getD, hv, Option.getD_some]
  · cases h
end
end Go.Proofs.Ytcmekgfglohooaa
/-
  Loops and functions, by plain functions on typed data.
-/
namespace Go.Proofs.Ytcmekgfglohooaa
set_option maxRecDepth 100000
open Go.RowKit
set_option linter.unusedVariables false
set_option linter.unusedSimpArgs false

/-- A function by rounds, with fuel. -/
def gl {C O : Type} (G : (C → Option O) → C → Option O) : Nat → C → Option O
  | 0, _ => none
  | n + 1, c => G (gl G n) c
@[reducible] def OT : List (Exit × Shape) → Type
  | [] => Empty
  | [e] => CT e.2
  | e :: e2 :: es => CT e.2 ⊕ OT (e2 :: es)
def encO (n : Nat) : (es : List (Exit × Shape)) → OT es → Exit × S2
  | [], o => nomatch o
  | [e], o => (e.1, stOf e.2 n o)
  | e :: e2 :: es, o => match o with
    | .inl c => (e.1, stOf e.2 n c)
    | .inr o => encO n (e2 :: es) o
def exitEq : Exit → Exit → Bool
  | .normal, .normal => true
  | .ret, .ret => true
  | .exit i, .exit j => i == j
  | _, _ => false
theorem exitEq_eq {x y : Exit} (h : exitEq x y = true) : x = y := by
  unfold exitEq at h
  split at h
  · rfl
  · rfl
  · simp only [beq_iff_eq] at h; rw [h]
  · cases h
section
variable {R : Type}
def casesO (n : Nat) : (es : List (Exit × Shape)) → OT es → (Exit → S2 → Tree R) → Tree R
  | [], _, _ => .fail
  | [e], o, k => k e.1 (stOf e.2 n o)
  | e :: e2 :: es, o, k => .cases o (fun c => k e.1 (stOf e.2 n c)) (fun o => casesO n (e2 :: es) o k)
theorem casesO_run (n : Nat) : ∀ (es : List (Exit × Shape)) (o : OT es) (k : Exit → S2 → Tree R), (casesO n es o k).run = (k (encO n es o).1 (encO n es o).2).run
  | [], o, _ => nomatch o
  | [e], o, k => rfl
  | e :: e2 :: es, .inl c, k => rfl
  | e :: e2 :: es, .inr o, k => casesO_run n (e2 :: es) o k
def decO (P : Program) (m0 n : Nat) (ow : List (Nat × TypeId)) : (es : List (Exit × Shape)) → Exit → S2 → (OT es → Tree R) → Tree R
  | [], _, _, _ => .fail
  | [e], x, st, k => if exitEq x e.1 = true then toShape P m0 ow e.2 n st k else .fail
  | e :: e2 :: es, x, st, k => if exitEq x e.1 = true then toShape P m0 ow e.2 n st fun c => k (.inl c) else decO P m0 n ow (e2 :: es) x st fun o => k (.inr o)
theorem decO_ok {P : Program} {m0 n : Nat} {ow : List (Nat × TypeId)} : ∀ (es : List (Exit × Shape)) (x : Exit) (st : S2) (k : OT es → Tree R) (res : R), (decO P m0 n ow es x st k).run = some res →
    ∃ o, (k o).run = some res ∧ x = (encO n es o).1 ∧ ∀ (n0 : Nat) (Bx : List Nat) (ds : List Deferred) (a : Act) (w : World) (B : List Nat) (η : List Value), SimK n0 Bx ds st a w B η → ∃ B' η', SimK n0 Bx ds (encO n es o).2 a w B' η' ∧ Goes n0 m0 w B η w B' η'
  | [], x, st, k, res, h => by cases h
  | [e], x, st, k, res, h => by
    unfold decO at h
    split at h
    · rename_i he
      obtain ⟨c, h1, h2⟩ := toShape_ok h
      exact ⟨c, h1, exitEq_eq he, h2⟩
    · cases h
  | e :: e2 :: es, x, st, k, res, h => by
    unfold decO at h
    split at h
    · rename_i he
      obtain ⟨c, h1, h2⟩ := toShape_ok h
      exact ⟨.inl c, h1, exitEq_eq he, h2⟩
    · obtain ⟨o, h1, h2, h3⟩ := decO_ok (e2 :: es) x st _ res h
      exact ⟨.inr o, h1, h2, h3⟩
/-- What is to be known of a loop ahead. -/
structure LI where
  n : Nat
  m0 : Nat
  ow : List (Nat × TypeId)
  sh : Shape
  outs : List (Exit × Shape)
/-- One round. -/
def roundK (P : Program) (Γ : (R : Type) → Env R) (fuel : Nat) (path : List Nat) (li : LI) (body : Code) (X : CT li.sh → Option (OT li.outs)) (c : CT li.sh) : Tree (OT li.outs) :=
  evK P (Γ (OT li.outs)) fuel path li.m0 body (stOf li.sh li.n c) fun ex st' => match ex with
    | .normal => toShape P li.m0 li.ow li.sh li.n st' fun c' => .tail (X c')
    | ex => decO P li.m0 li.n li.ow li.outs ex st' fun o => .done o
def lpK (P : Program) (li : LI) (G : (CT li.sh → Option (OT li.outs)) → CT li.sh → Option (OT li.outs)) (N : Nat) (st : S2) (k : Exit → S2 → Tree R) : Tree R :=
  toShape P li.m0 li.ow li.sh li.n st fun c => .bind (gl G N c) fun o => casesO li.n li.outs o k
def LoopOK (P : Program) (m0 : Nat) (body : Code) (lp : S2 → (Exit → S2 → Tree R) → Tree R) : Prop :=
  ∀ st k res, (lp st k).run = some res → ∃ ex st', (k ex st').run = some res ∧ Ends P m0 (.loop body) st ex st'
end
section
variable {P : Program} {Γ : (R : Type) → Env R}
theorem gl_ends (hm : P.follows .mixedOrders = true) {li : LI} {G : (CT li.sh → Option (OT li.outs)) → CT li.sh → Option (OT li.outs)} {fuel : Nat} {path : List Nat} {body : Code}
    (hΓ : EnvOK P (Γ (OT li.outs))) (hok : okC2 (Γ (OT li.outs)).inl body = true) (hsub : ∀ c' ∈ loopsOf body, c' ∈ loopsIn P path)
    (hstep : ∀ X c, (roundK P Γ fuel path li body X c).run = G X c) : ∀ (N : Nat) (c : CT li.sh) (o : OT li.outs), gl G N c = some o →
    ∀ (n0 : Nat) (Bx : List Nat) (ds : List Deferred) (a : Act) (w : World) (B : List Nat) (η : List Value) (Q : Exit → Act → World → Prop), SimK n0 Bx ds (stOf li.sh li.n c) a w B η →
      (∀ a' w' B' η', SimK n0 Bx ds (encO li.n li.outs o).2 a' w' B' η' → Goes n0 li.m0 w B η w' B' η' → Q (encO li.n li.outs o).1 a' w') → Code.rounds P body Q N a w
  | 0, c, o, h => by cases h
  | N + 1, c, o, h => by
    intro n0 Bx ds a w B η Q hs hQ
    have h1 : G (gl G N) c = some o := h
    rw [← hstep] at h1
    obtain ⟨ex, st', h2, h3⟩ := evK_ok hm hΓ fuel path li.m0 body _ _ o hok hsub h1
    rw [rounds_succ]
    split at h2
    · obtain ⟨c', h4, h5⟩ := toShape_ok h2
      refine h3 n0 Bx ds a w B η _ hs fun a' w' B' η' hs' hg' => ?_
      obtain ⟨B2, η2, hs2, hg2⟩ := h5 n0 Bx ds a' w' B' η' hs'
      exact gl_ends hm hΓ hok hsub hstep N c' o h4 n0 Bx ds a' w' B2 η2 Q hs2 fun a3 w3 B3 η3 hs3 hg3 => hQ a3 w3 B3 η3 hs3 ((hg'.trans hg2).trans hg3)
    · rename_i hne
      obtain ⟨o', h4, h5, h6⟩ := decO_ok _ _ _ _ _ h2
      simp only [Tree.run, Option.some.injEq] at h4
      subst h4
      refine h3 n0 Bx ds a w B η _ hs fun a' w' B' η' hs' hg' => ?_
      obtain ⟨B2, η2, hs2, hg2⟩ := h6 n0 Bx ds a' w' B' η' hs'
      rw [then_ne (fun hc => hne hc), h5]
      exact hQ a' w' B2 η2 hs2 (hg'.trans hg2)
theorem lpK_ok {R : Type} (hm : P.follows .mixedOrders = true) {li : LI} {G : (CT li.sh → Option (OT li.outs)) → CT li.sh → Option (OT li.outs)} {fuel : Nat} {path : List Nat} {body : Code}
    (hΓ : EnvOK P (Γ (OT li.outs))) (hok : okC2 (Γ (OT li.outs)).inl body = true) (hsub : ∀ c' ∈ loopsOf body, c' ∈ loopsIn P path)
    (hstep : ∀ X c, (roundK P Γ fuel path li body X c).run = G X c) (N : Nat) : LoopOK (R := R) P li.m0 body (lpK P li G N) := by
  intro st k res h
  obtain ⟨c, h1, h2⟩ := toShape_ok h
  obtain ⟨o, h3, h4⟩ := Tree.run_bind h1
  rw [casesO_run] at h4
  refine ⟨_, _, h4, fun n0 Bx ds a w B η Q hs hQ => ?_⟩
  obtain ⟨B1, η1, hs1, hg1⟩ := h2 n0 Bx ds a w B η hs
  exact wp_loop_rounds N (gl_ends hm hΓ hok hsub hstep N c o h3 n0 Bx ds a w B1 η1 Q hs1 fun a' w' B' η' hs' hg' => hQ a' w' B' η' hs' (hg1.trans hg'))

/-! ### The environment, a loop or a function more -/
def Env.addLp (Γ : (R : Type) → Env R) (path : List Nat) (m0 key : Nat) (lp : (R : Type) → S2 → (Exit → S2 → Tree R) → Tree R) : (R : Type) → Env R := fun R =>
  { Γ R with lp := fun p m k st kk => if p = path ∧ m = m0 ∧ k = key then lp R st kk else (Γ R).lp p m k st kk }
/-- The loop of this name. -/
def loopAt (P : Program) (path : List Nat) (key : Nat) : Code := match (loopsIn P path).filter (fun c => regName c == key) with
  | [c] => c
  | _ => .skip
def oneLoop (P : Program) (path : List Nat) (key : Nat) : Bool := match (loopsIn P path).filter (fun c => regName c == key) with
  | [_] => true
  | _ => false
theorem loopAt_eq {path : List Nat} {key : Nat} (h : oneLoop P path key = true) {c : Code} (hc : c ∈ loopsIn P path) (hk : regName c = key) : c = loopAt P path key := by
  unfold oneLoop at h
  unfold loopAt
  have hm : c ∈ (loopsIn P path).filter (fun c => regName c == key) := List.mem_filter.2 ⟨hc, by simp [hk]⟩
  split at h
  · rename_i c0 he
    rw [he] at hm
    simp only [List.mem_singleton] at hm
    rw [hm]
  · cases h
theorem EnvOK.addLp {R : Type} (hΓ : EnvOK P (Γ R)) {path : List Nat} {m0 key : Nat} {lp : (R : Type) → S2 → (Exit → S2 → Tree R) → Tree R} (h1 : oneLoop P path key = true) (h2 : LoopOK P m0 (loopAt P path key) (lp R)) : EnvOK P (Env.addLp Γ path m0 key lp R) := by
  refine ⟨hΓ.fns, hΓ.inl, fun p m c st k res hc h => ?_, hΓ.cln⟩
  simp only [Env.addLp] at h
  split at h
  · rename_i hp
    obtain ⟨rfl, rfl, hk⟩ := hp
    rw [loopAt_eq h1 hc hk]
    exact h2 st k res h
  · exact hΓ.lp p m c st k res hc h
def Env.addFn (Γ : (R : Type) → Env R) (f : FuncId) (S : (R : Type) → List V → (V → Tree R) → Tree R) : (R : Type) → Env R := fun R =>
  { Γ R with fns := fun g args k => if g = f then S R args k else (Γ R).fns g args k }
/-- Of functions that are run in place. -/
def Env.addInl (Γ : (R : Type) → Env R) (l : List FuncId) : (R : Type) → Env R := fun R => { Γ R with inl := fun f => l.contains f }
def Env.addMv (Γ : (R : Type) → Env R) (l : List (Nat × Nat)) : (R : Type) → Env R := fun R => { Γ R with mv := fun p i => (l.contains (p.headD 0, i) || ((Γ R).mv p i).1, ((Γ R).mv p i).2) }
def Env.addBx (Γ : (R : Type) → Env R) (l : List (Nat × Nat)) : (R : Type) → Env R := fun R => { Γ R with mv := fun p i => (((Γ R).mv p i).1, l.contains (p.headD 0, i) || ((Γ R).mv p i).2) }
/-- A loop, a function that nothing is known of. -/
def noLoop (path : List Nat) (m0 key : Nat) (st : S2) : Option Unit := none
def noFn (f : FuncId) (args : List V) : Option Unit := none
def env0 : (R : Type) → Env R := fun R => ⟨fun f args _ => .bind (noFn f args) fun _ => .fail, fun _ => false, fun p m k st _ => .bind (noLoop p m k st) fun _ => .fail, fun _ _ => (false, false), fun _ => none, fun _ => false⟩
theorem loops_sub : ∀ (d c c' : Code), c ∈ loopsOf d → c' ∈ loopsOf c → c' ∈ loopsOf d
  | .seq a b, c, c', h, h' => by
    simp only [loopsOf, List.mem_append] at h ⊢
    exact h.elim (fun h => .inl (loops_sub a c c' h h')) (fun h => .inr (loops_sub b c c' h h'))
  | .cond x a b, c, c', h, h' => by
    simp only [loopsOf, List.mem_append] at h ⊢
    exact h.elim (fun h => .inl (loops_sub a c c' h h')) (fun h => .inr (loops_sub b c c' h h'))
  | .block i a, c, c', h, h' => by
    simp only [loopsOf] at h ⊢
    exact loops_sub a c c' h h'
  | .scope a, c, c', h, h' => by
    simp only [loopsOf] at h ⊢
    exact loops_sub a c c' h h'
  | .loop a, c, c', h, h' => by
    simp only [loopsOf, List.mem_cons] at h ⊢
    rcases h with rfl | h
    · exact .inr h'
    · exact .inr (loops_sub a c c' h h')
  | .skip, c, c', h, h' => by simp [loopsOf] at h
  | .region _ _ _, c, c', h, h' => by simp [loopsOf] at h
  | .rangeFunc _ _ _ _, c, c', h, h' => by simp [loopsOf] at h
  | .exit _, c, c', h, h' => by simp [loopsOf] at h
  | .label _, c, c', h, h' => by simp [loopsOf] at h
  | .goto _, c, c', h, h' => by simp [loopsOf] at h
  | .ret, c, c', h, h' => by simp [loopsOf] at h
  | .refuse _, c, c', h, h' => by simp [loopsOf] at h
theorem loopAt_sub {path : List Nat} {key : Nat} : ∀ c' ∈ loopsOf (loopAt P path key), c' ∈ loopsIn P path := by
  intro c' hc'
  unfold loopAt at hc'
  split at hc'
  · rename_i c hc
    have hm : c ∈ loopsIn P path := (List.mem_filter.1 (by rw [hc]; simp : c ∈ (loopsIn P path).filter fun c => regName c == key)).1
    unfold loopsIn at hm ⊢
    split at hm
    · split at hm
      · split at hm
        · exact loops_sub _ c c' hm hc'
        · simp at hm
      · simp at hm
    · simp at hm
  · simp [loopsOf] at hc'
theorem env0_ok (R : Type) : EnvOK P (env0 R) where
  fns := ⟨fun f args k res h => nomatch h⟩
  inl := fun f h => nomatch h
  lp := fun path m0 c st k res _ h => nomatch h
  cln := fun f e h => nomatch h
theorem EnvOK.addMv {R : Type} (hΓ : EnvOK P (Γ R)) (l : List (Nat × Nat)) : EnvOK P (Env.addMv Γ l R) := ⟨hΓ.fns, hΓ.inl, hΓ.lp, hΓ.cln⟩
theorem EnvOK.addBx {R : Type} (hΓ : EnvOK P (Γ R)) (l : List (Nat × Nat)) : EnvOK P (Env.addBx Γ l R) := ⟨hΓ.fns, hΓ.inl, hΓ.lp, hΓ.cln⟩
def inlOK (P : Program) (l : List FuncId) : Bool := l.all fun f => match P.funcs[f]? with
  | some fn => (match fn.body with | some c => okC2 (fun f => l.contains f) c && fn.name != "runtime.NumGoroutine" | none => false)
  | none => false
theorem EnvOK.addInl {R : Type} (hΓ : EnvOK P (Γ R)) {l : List FuncId} (h : inlOK P l = true) : EnvOK P (Env.addInl Γ l R) := by
  refine ⟨hΓ.fns, fun f hf => ?_, hΓ.lp, hΓ.cln⟩
  have := List.all_eq_true.1 h f (by simpa [Env.addInl] using hf)
  split at this
  · rename_i fn hfn
    split at this
    · rename_i c hc
      simp only [Bool.and_eq_true, bne_iff_ne] at this
      exact ⟨fn, c, hfn, hc, this.1, this.2⟩
    · cases this
  · cases this

/-! ### Functions -/
@[reducible] def RT : List Td → Type
  | [] => Unit
  | [d] => T d
  | d :: e :: l => T d × RT (e :: l)
def valR : (l : List Td) → RT l → List V
  | [], _ => []
  | [d], x => [valV d x]
  | d :: e :: l, x => valV d x.1 :: valR (e :: l) x.2
def tupV (l : List V) : V := match l with
  | [] => .c (.tuple #[])
  | [x] => x
  | l => .tup l
def valA : (l : List Td) → HL l → List V
  | [], _ => []
  | d :: l, c => valV d c.1 :: valA l c.2
section
variable {R : Type}
def decA : (l : List Td) → List V → (HL l → Tree R) → Tree R
  | [], xs, k => (match xs with | [] => k () | _ => .fail)
  | d :: l, xs, k => (match xs with
    | x :: xs => decV d x fun y => decA l xs fun z => k (y, z)
    | [] => .fail)
def decRL : (l : List Td) → List V → (RT l → Tree R) → Tree R
  | [], xs, k => (match xs with | [] => k () | _ => .fail)
  | [d], xs, k => (match xs with | [x] => decV d x k | _ => .fail)
  | d :: e :: l, xs, k => (match xs with
    | x :: xs => decV d x fun y => decRL (e :: l) xs fun z => k (y, z)
    | [] => .fail)
def decR (l : List Td) (r : V) (k : RT l → Tree R) : Tree R :=
  match l with
  | [] => (match r with | .c (.tuple _) => k () | _ => .fail)
  | [d] => decV d r k
  | d :: e :: l => (match r with | .tup xs => decRL (d :: e :: l) xs k | _ => .fail)
/-- Nothing of the call's own is left. -/
def frzRes (st : S2) : S2 := frzAll (List.range st.heap.length) st
def runV (P : Program) (Γ : (R : Type) → Env R) (fuel : Nat) (f : FuncId) (xs : List V) (rs : List Td) : Tree (RT rs) :=
  match P.funcs[f]? with
  | some fn => (match fn.body with
    | some b => evK P (Γ (RT rs)) fuel [f] 0 b ⟨slots0 fn xs, []⟩ fun ex st' => match ex with
      | .normal => resK P (frzRes st') fn.results.toList fun r => decR rs r fun y => .done y
      | .ret => resK P (frzRes st') fn.results.toList fun r => decR rs r fun y => .done y
      | _ => .fail
    | none => .fail)
  | none => .fail
def runK (P : Program) (Γ : (R : Type) → Env R) (fuel : Nat) (f : FuncId) (ds rs : List Td) (c : HL ds) : Tree (RT rs) := runV P Γ fuel f (valA ds c) rs
def fnK (ds rs : List Td) (g : HL ds → Option (RT rs)) (args : List V) (k : V → Tree R) : Tree R := decA ds args fun c => .bind (g c) fun y => k (tupV (valR rs y))
theorem decA_ok : ∀ (l : List Td) (xs : List V) (k : HL l → Tree R) (res : R), (decA l xs k).run = some res → ∃ c, (k c).run = some res ∧ xs.length = (valA l c).length ∧ ∀ (i : Nat) y, (valA l c)[i]? = some y → ∃ x, xs[i]? = some x ∧ y.plain = true ∧ isFresh (ex y) = false ∧ ∀ (w : World) (B : List Nat) (η : List Value) (v : Value), Rel w B η (ex x) v → Rel w B η (ex y) v
  | [], xs, k, res, h => by
    unfold decA at h
    split at h
    · exact ⟨(), h, rfl, fun i y h => by simp [valA] at h⟩
    · cases h
  | d :: l, xs, k, res, h => by
    unfold decA at h
    split at h
    · rename_i x xs
      obtain ⟨y, h1, h2, h3⟩ := decV_ok h
      obtain ⟨c, h4, h5, h6⟩ := decA_ok l xs _ res h1
      refine ⟨(y, c), h4, by simp [valA, h5], fun i z hz => ?_⟩
      cases i with
      | zero => simp [valA] at hz; subst hz; exact ⟨x, rfl, valV_plain d y, valV_fresh d y, h3⟩
      | succ i => simpa using h6 i z (by simpa [valA] using hz)
    · cases h
theorem decV_ex0 {R : Type} {d : Td} {x : V} {k : T d → Tree R} {res : R} (h : (decV d x k).run = some res) : ex0 x = ex x := by
  cases x with
  | tup l =>
    unfold decV at h
    split at h
    · simp only [toSegs] at h; cases h
    · cases h
  | _ => rfl
theorem decRL_ok : ∀ (l : List Td) (xs : List V) (k : RT l → Tree R) (res : R), (decRL l xs k).run = some res → ∃ c, (k c).run = some res ∧ xs.length = l.length ∧ xs.length = (valR l c).length ∧ ∀ (i : Nat) y, (valR l c)[i]? = some y → ∃ x, xs[i]? = some x ∧ ex0 x = ex x ∧ ∀ (w : World) (B : List Nat) (η : List Value) (v : Value), Rel w B η (ex x) v → Rel w B η (ex y) v
  | [], xs, k, res, h => by
    unfold decRL at h
    split at h
    · exact ⟨(), h, rfl, rfl, fun i y h => by simp [valR] at h⟩
    · cases h
  | [d], xs, k, res, h => by
    unfold decRL at h
    split at h
    · rename_i x
      obtain ⟨y, h1, h2, h3⟩ := decV_ok h
      refine ⟨y, h1, rfl, rfl, fun i z hz => ?_⟩
      cases i with
      | zero => simp [valR] at hz; subst hz; exact ⟨x, rfl, decV_ex0 h, h3⟩
      | succ i => simp [valR] at hz
    · cases h
  | d :: e :: l, xs, k, res, h => by
    unfold decRL at h
    split at h
    · rename_i x xs
      obtain ⟨y, h1, h2, h3⟩ := decV_ok h
      obtain ⟨c, h4, h5, h6, h7⟩ := decRL_ok (e :: l) xs _ res h1
      refine ⟨(y, c), h4, by simp [h5], by simp [valR, h6], fun i z hz => ?_⟩
      cases i with
      | zero => simp [valR] at hz; subst hz; exact ⟨x, rfl, decV_ex0 h, h3⟩
      | succ i => simpa using h7 i z (by simpa [valR] using hz)
    · cases h
end
theorem valV_imm0 {w : World} {B B' : List Nat} {η η' : List Value} {d : Td} {x : T d} {v : Value} (hB : ∀ b ∈ B', b ∈ B) (h : Rel w B η (ex (valV d x)) v) : Rel w B' η' (ex (valV d x)) v := by
  refine Rel.bare (rel_subB hB h) ?_
  cases hd : rowD d with
  | true => rw [valV_row d x hd]; exact cells_imm d x
  | false =>
    have := cells_imm d x
    rw [valV_one d x hd] at this
    simp only [List.all_cons, List.all_nil, Bool.and_true] at this
    generalize ex (valV d x) = y at this
    cases y <;> first | exact this | cases this
theorem ex_valV0 (d : Td) (x : T d) : ex0 (valV d x) = ex (valV d x) := by cases d <;> rfl
theorem valR_spec : ∀ (l : List Td) (c : RT l) (i : Nat) y, (valR l c)[i]? = some y → ∃ d x, y = valV d x
  | [], c, i, y, h => by simp [valR] at h
  | [d], c, i, y, h => by
    cases i with
    | zero => simp [valR] at h; exact ⟨d, c, h.symm⟩
    | succ i => simp [valR] at h
  | d :: e :: l, c, i, y, h => by
    cases i with
    | zero => simp [valR] at h; exact ⟨d, c.1, h.symm⟩
    | succ i => exact valR_spec (e :: l) c.2 i y (by simpa [valR] using h)
theorem decR_ok {R : Type} : ∀ (l : List Td) {r : V} {k : RT l → Tree R} {res : R} (h : (decR l r k).run = some res), ∃ y, (k y).run = some res ∧ r.plain = true ∧ ∀ (w : World) (B B' : List Nat) (η η' : List Value) (v : Value), (∀ b ∈ B', b ∈ B) → Rel w B η (ex r) v → (l = [] → v = .tuple #[]) → Rel w B' η' (ex (tupV (valR l y))) v
  | [], r, k, res, h => by
    simp only [decR] at h
    split at h
    · exact ⟨(), h, rfl, fun w B B' η η' v hB hv h0 => by rw [h0 rfl]; exact .c _ _⟩
    · cases h
  | [d], r, k, res, h => by
    obtain ⟨y, h1, h2, h3⟩ := decV_ok h
    exact ⟨y, h1, h2, fun w B B' η η' v hB hv _ => valV_imm0 hB (h3 w B η v hv)⟩
  | d :: e :: l, r, k, res, h => by
    simp only [decR] at h
    split at h
    · rename_i xs
      obtain ⟨y, h1, h2, h3, h4⟩ := decRL_ok _ _ _ _ h
      refine ⟨y, h1, rfl, fun w B B' η η' v hB hv _ => ?_⟩
      have hlen : (valR (d :: e :: l) y).length = (d :: e :: l).length := by rw [← h3, h2]
      have htv : tupV (valR (d :: e :: l) y) = .tup (valR (d :: e :: l) y) := by
        match hq : valR (d :: e :: l) y with
        | [] => rw [hq] at hlen; simp at hlen
        | [_] => rw [hq] at hlen; simp at hlen
        | _ :: _ :: _ => rfl
      rw [htv]
      cases hv with
      | tup _ _ cs us hs hu hr =>
        refine .tup _ _ cs us (by rw [hs, List.length_map, List.length_map, h3]) (fun i x hx => ?_) (fun i x hx => ?_)
        · rw [List.getElem?_map, Option.map_eq_some_iff] at hx
          obtain ⟨z, hz, rfl⟩ := hx
          obtain ⟨x0, q1, q2, q3⟩ := h4 i z hz
          exact hu i (ex0 x0) (by rw [List.getElem?_map, q1]; rfl)
        · rw [List.getElem?_map, Option.map_eq_some_iff] at hx
          obtain ⟨z, hz, rfl⟩ := hx
          obtain ⟨x0, q1, q2, q3⟩ := h4 i z hz
          obtain ⟨d', x', rfl⟩ := valR_spec _ _ _ _ hz
          have h0 := hr i (ex0 x0) (by rw [List.getElem?_map, q1]; rfl)
          rw [q2] at h0
          rw [ex_valV0]
          exact valV_imm0 hB (q3 w B η _ h0)
    · cases h
theorem valA_vals : ∀ (l : List Td) (c : HL l) (i : Nat) x, (valA l c)[i]? = some x → x.plain = true ∧ isFresh (ex x) = false := fun l => by
  induction l with
  | nil => intro c i x hx; simp [valA] at hx
  | cons d l ih =>
    intro c i x hx
    cases i with
    | zero => simp [valA] at hx; subst hx; exact ⟨valV_plain d c.1, valV_fresh d c.1⟩
    | succ i => exact ih c.2 i x (by simpa [valA] using hx)
theorem runV_ok (hm : P.follows .mixedOrders = true) {f : FuncId} {xs : List V} {rs : List Td} (hΓ : EnvOK P (Γ (RT rs))) {fuel : Nat} (hf : ∃ fn c, P.funcs[f]? = some fn ∧ fn.body = some c ∧ okC2 (Γ (RT rs)).inl c = true ∧ fn.name ≠ "runtime.NumGoroutine" ∧ (rs = [] → fn.results = #[])) (hxs : ∀ (i : Nat) x, xs[i]? = some x → x.plain = true ∧ isFresh (ex x) = false) {y : RT rs} (h : (runV P Γ fuel f xs rs).run = some y) : CallsK P f xs (tupV (valR rs y)) := by
  obtain ⟨fn, b, hfn, hb, hok, hnm, hres⟩ := hf
  unfold runV at h
  rw [hfn] at h
  simp only [hb] at h
  obtain ⟨ex1, st', h1, h2⟩ := evK_ok hm hΓ fuel [f] 0 b _ _ y hok (fun c' hc' => by simp only [loopsIn, hfn, hb]; exact hc') h
  intro w B cargs hB hgl hlen hrel
  refine calls_of_wp hfn hb ?_
  have hsim : SimK w.heap.size B [] ⟨slots0 fn xs, []⟩ { tmps := cargs.toArray ++ Array.replicate (fn.ntmps - cargs.toArray.size) undef, defers := [] } w B [] := by
    refine ⟨rfl, ⟨rfl, ⟨Nat.le_refl _, hgl⟩, fun b hb => ⟨hb, hB b hb⟩, hB, fun id e h => by simp at h, fun i j ei ej _ h => by simp at h⟩, slots0_ok ⟨hlen, fun i x hx => ?_⟩⟩
    obtain ⟨v, q1, q2⟩ := hrel i x hx
    obtain ⟨q3, q4⟩ := hxs i x hx
    exact ⟨v, q1, Rel2.of q3 q2, fun h => by rw [q4] at h; cases h⟩
  refine h2 w.heap.size B [] _ w B [] _ hsim fun a' w' B' η' hs hg => ?_
  obtain ⟨B2, hs2, hg2⟩ := frzAll_ok (m0 := 0) (List.range st'.heap.length) st' B' hs
  have key : ∀ {r : V} {k : V → Tree (RT rs)}, (decR rs r fun y => .done y).run = some y → (∀ (n0 : Nat) (Bx : List Nat) (ds : List Deferred) (a : Act) (w : World) (B : List Nat) (η : List Value), SimK n0 Bx ds (frzRes st') a w B η → ∃ v, (results fn a.tmps).run P w = .ok v w ∧ Rel2 w B η r v ∧ FreshV n0 (ex r) v) → ∃ v, (results fn a'.tmps).run P w' = .ok v w' ∧ Rel w' B [] (ex (tupV (valR rs y))) v := by
    intro r k hr hv
    obtain ⟨y', q1, q2, q3⟩ := decR_ok _ hr
    simp only [Tree.run, Option.some.injEq] at q1
    subst q1
    obtain ⟨v, g1, g2, _⟩ := hv _ _ _ a' w' B2 η' hs2
    have h0 : rs = [] → v = .tuple #[] := fun h => by
      have := hres h
      unfold results at g1
      rw [this] at g1
      simp at g1
      exact g1.symm
    have hB0 : ∀ b ∈ B, b ∈ B2 := fun b hb => (hs2.inv.sub b hb).1
    exact ⟨v, g1, q3 w' B2 B η' [] v hB0 (g2.get q2) h0⟩
  split at h1
  · obtain ⟨r, q1, q2⟩ := resK_ok h1
    obtain ⟨v, g1, g2⟩ := key (k := fun _ => .fail) q1 q2
    exact ⟨hs.defers, v, g1, v, rfl, hg.below, g2⟩
  · obtain ⟨r, q1, q2⟩ := resK_ok h1
    obtain ⟨v, g1, g2⟩ := key (k := fun _ => .fail) q1 q2
    exact ⟨hs.defers, v, g1, v, rfl, hg.below, g2⟩
  · cases h1
theorem runK_ok (hm : P.follows .mixedOrders = true) {f : FuncId} {ds rs : List Td} (hΓ : EnvOK P (Γ (RT rs))) {fuel : Nat} (hf : ∃ fn c, P.funcs[f]? = some fn ∧ fn.body = some c ∧ okC2 (Γ (RT rs)).inl c = true ∧ fn.name ≠ "runtime.NumGoroutine" ∧ (rs = [] → fn.results = #[])) {c : HL ds} {y : RT rs} (h : (runK P Γ fuel f ds rs c).run = some y) : CallsK P f (valA ds c) (tupV (valR rs y)) := by
  unfold runK at h
  exact runV_ok hm hΓ hf (valA_vals ds c) h
def okFn (P : Program) (inl : FuncId → Bool) (f : FuncId) (rs : List Td) : Bool := match P.funcs[f]? with
  | some fn => (match fn.body with
    | some c => okC2 inl c && fn.name != "runtime.NumGoroutine" && (!rs.isEmpty || fn.results.size == 0)
    | none => false)
  | none => false
theorem okFn_ok {inl : FuncId → Bool} {f : FuncId} {rs : List Td} (h : okFn P inl f rs = true) : ∃ fn c, P.funcs[f]? = some fn ∧ fn.body = some c ∧ okC2 inl c = true ∧ fn.name ≠ "runtime.NumGoroutine" ∧ (rs = [] → fn.results = #[]) := by
  unfold okFn at h
  split at h
  · rename_i fn hfn
    split at h
    · rename_i c hc
      simp only [Bool.and_eq_true, bne_iff_ne, Bool.or_eq_true, Bool.not_eq_true', beq_iff_eq] at h
      refine ⟨fn, c, hfn, hc, h.1.1, h.1.2, fun hr => ?_⟩
      subst hr
      rcases h.2 with h | h
      · cases h
      · exact Array.eq_empty_of_size_eq_zero h
    · cases h
  · cases h
theorem tupV_plain (l : List Td) (y : RT l) : (tupV (valR l y)).plain = true ∧ ∀ m k, ex (tupV (valR l y)) ≠ .fresh m k := by
  match l, y with
  | [], y => exact ⟨rfl, fun m k h => by simp [valR, tupV, ex, ex0] at h⟩
  | [d], y =>
    refine ⟨valV_plain d y, fun m k h => ?_⟩
    have := valV_fresh d y
    rw [show ex (valV d y) = .fresh m k from h] at this
    cases this
  | d :: e :: l, y =>
    match l, y with
    | [], y => exact ⟨rfl, fun m k h => by simp [valR, tupV, ex] at h⟩
    | _ :: _, y => exact ⟨rfl, fun m k h => by simp [valR, tupV, ex] at h⟩
/-- A function more, by what it does. -/
theorem EnvOK.addFn {R : Type} {Γ0 : (R : Type) → Env R} (hm : P.follows .mixedOrders = true) (hΓ : EnvOK P (Γ R)) {f : FuncId} {ds rs : List Td} {g : HL ds → Option (RT rs)} {fuel : Nat} (hΓ0 : EnvOK P (Γ0 (RT rs))) (hok : okFn P (Γ0 (RT rs)).inl f rs = true) (h : ∀ c, (runK P Γ0 fuel f ds rs c).run = g c) : EnvOK P (Env.addFn Γ f (fun R => fnK ds rs g) R) := by
  refine ⟨⟨fun f' args k res hc => ?_⟩, hΓ.inl, hΓ.lp, hΓ.cln⟩
  simp only [Env.addFn] at hc
  split at hc
  · rename_i hff
    subst hff
    obtain ⟨c, h1, h2, h3⟩ := decA_ok _ _ _ _ hc
    obtain ⟨y, h4, h5⟩ := Tree.run_bind h1
    obtain ⟨p1, p2⟩ := tupV_plain rs y
    obtain ⟨fn, b, hfn, hb, hokc, hnm, hres⟩ := okFn_ok hok
    refine ⟨_, h5, p1, p2, CallsK.toV (fun w B cargs hB hgl hlen hrel => ?_) ⟨fn, hfn, hnm, by rw [hb]; exact fun h => by cases h⟩⟩
    refine runK_ok hm hΓ0 (okFn_ok hok) (by rw [h]; exact h4) w B cargs hB hgl (by rw [hlen, h2]) (fun i x hx => ?_)
    obtain ⟨x0, q1, _, _, q4⟩ := h3 i x hx
    obtain ⟨v, q5, q6⟩ := hrel i x0 q1
    exact ⟨v, q5, q4 w B [] v q6⟩
  · exact hΓ.fns.ok f' args k res hc
/-- A function more, by what is known of it. -/
theorem EnvOK.addSelf {R : Type} (hΓ : EnvOK P (Γ R)) {f : FuncId} {ds rs : List Td} {g : HL ds → Option (RT rs)} {inl : FuncId → Bool} (hok : okFn P inl f rs = true) (hX : ∀ c y, g c = some y → CallsK P f (valA ds c) (tupV (valR rs y))) : EnvOK P (Env.addFn Γ f (fun R => fnK ds rs g) R) := by
  refine ⟨⟨fun f' args k res hc => ?_⟩, hΓ.inl, hΓ.lp, hΓ.cln⟩
  simp only [Env.addFn] at hc
  split at hc
  · rename_i hff
    subst hff
    obtain ⟨c, h1, h2, h3⟩ := decA_ok _ _ _ _ hc
    obtain ⟨y, h4, h5⟩ := Tree.run_bind h1
    obtain ⟨p1, p2⟩ := tupV_plain rs y
    obtain ⟨fn, b, hfn, hb, hokc, hnm, hres⟩ := okFn_ok hok
    refine ⟨_, h5, p1, p2, CallsK.toV (fun w B cargs hB hgl hlen hrel => ?_) ⟨fn, hfn, hnm, by rw [hb]; exact fun h => by cases h⟩⟩
    refine hX c y h4 w B cargs hB hgl (by rw [hlen, h2]) (fun i x hx => ?_)
    obtain ⟨x0, q1, _, _, q4⟩ := h3 i x hx
    obtain ⟨v, q5, q6⟩ := hrel i x0 q1
    exact ⟨v, q5, q4 w B [] v q6⟩
  · exact hΓ.fns.ok f' args k res hc
/-- A function that calls itself: by how often it may. -/
theorem rec_ok (hm : P.follows .mixedOrders = true) {f : FuncId} {ds rs : List Td} {G : (HL ds → Option (RT rs)) → HL ds → Option (RT rs)} {Γs : (HL ds → Option (RT rs)) → (R : Type) → Env R} {fuel : Nat}
    (h1 : ∀ X, (∀ c y, X c = some y → CallsK P f (valA ds c) (tupV (valR rs y))) → EnvOK P (Γs X (RT rs))) (hok : ∀ X, okFn P (Γs X (RT rs)).inl f rs = true) (h2 : ∀ X c, (runK P (Γs X) fuel f ds rs c).run = G X c) :
    ∀ N c y, gl G N c = some y → CallsK P f (valA ds c) (tupV (valR rs y))
  | 0, c, y, h => by cases h
  | N + 1, c, y, h => runK_ok hm (h1 _ (rec_ok hm h1 hok h2 N)) (okFn_ok (hok _)) (by rw [h2]; exact h)
/-- A function of a slice that asks whether it is nil: nil, none but not nil, and some. -/
theorem EnvOK.addNil {R : Type} {Γ0 : (R : Type) → Env R} (hm : P.follows .mixedOrders = true) (hΓ : EnvOK P (Γ R)) {f : FuncId} {d : Td} {rs : List Td} {g : HL [.sl d] → Option (RT rs)} {e : RT rs} {fuel : Nat} (hΓ0 : EnvOK P (Γ0 (RT rs))) (hok : okFn P (Γ0 (RT rs)).inl f rs = true) (h : ∀ c, (runK P Γ0 fuel f [.sl d] rs c).run = g c)
    (h1 : ∀ c, (runV P Γ0 fuel f [.c (.slice none 0 c)] rs).run = some e) (h2 : ∀ A c, (runV P Γ0 fuel f [.c (.slice (some A) 0 c)] rs).run = some e) : EnvOK P (Env.addFn Γ f (fun R => fnK [.sl d] rs (fun c => bif c.1.isEmpty then some e else g c)) R) := by
  refine ⟨⟨fun f' args k res hc => ?_⟩, hΓ.inl, hΓ.lp, hΓ.cln⟩
  simp only [Env.addFn] at hc
  split at hc
  · rename_i hff
    subst hff
    obtain ⟨c, q1, q2, q3⟩ := decA_ok _ _ _ _ hc
    obtain ⟨y, q4, q5⟩ := Tree.run_bind q1
    obtain ⟨p1, p2⟩ := tupV_plain rs y
    obtain ⟨fn, b, hfn, hb, hokc, hnm, hres⟩ := okFn_ok hok
    refine ⟨_, q5, p1, p2, CallsK.toV (fun w B cargs hB hgl hlen hrel => ?_) ⟨fn, hfn, hnm, by rw [hb]; exact fun h => by cases h⟩⟩
    have hrel' : ∀ (i : Nat) x, (valA [.sl d] c)[i]? = some x → ∃ v, cargs[i]? = some v ∧ Rel w B [] (ex x) v := fun i x hx => by
      obtain ⟨x0, r1, _, _, r4⟩ := q3 i x hx
      obtain ⟨v, r5, r6⟩ := hrel i x0 r1
      exact ⟨v, r5, r4 w B [] v r6⟩
    have hlen' : cargs.length = 1 := by rw [hlen, q2]; rfl
    cases he : c.1.isEmpty with
    | false =>
      simp only [he, cond_false] at q4
      exact runK_ok hm hΓ0 (okFn_ok hok) (by rw [h]; exact q4) w B cargs hB hgl (by rw [hlen, q2]) hrel'
    | true =>
      simp only [he, cond_true, Option.some.injEq] at q4
      subst q4
      obtain ⟨v, r1, r2⟩ := hrel' 0 (.lst d c.1) rfl
      obtain ⟨A, n, cc, us, hv, _, hn, _, hm', _, _⟩ := Rel.slL r2
      have hl : c.1 = [] := List.isEmpty_iff.1 he
      rw [hl] at hn
      have hn0 : n = 0 := by
        have hk := Rel.slL r2
        obtain ⟨_, _, _, _, _, hk, _⟩ := hk
        rcases Nat.eq_zero_or_pos n with h | h
        · exact h
        · have := Nat.mul_pos h hk; simp [flat] at hn; omega
      subst hn0 hv
      have hca : cargs = [.slice A 0 cc] := by
        match cargs, hlen', r1 with
        | [x], _, r1 => simp at r1; rw [r1]
      have go : (runV P Γ0 fuel f' [.c (.slice A 0 cc)] rs).run = some e → Calls P f' cargs.toArray w fun e1 w' => ∃ v, e1 = .returned v ∧ Gr w w' ∧ Rel w' B [] (ex (tupV (valR rs e))) v := fun hr => by
        refine runV_ok hm hΓ0 (okFn_ok hok) (fun i x hx => ?_) hr w B cargs hB hgl (by rw [hlen']; rfl) (fun i x hx => ?_)
        · match i, hx with
          | 0, hx => simp at hx; subst hx; exact ⟨rfl, rfl⟩
        · match i, hx with
          | 0, hx => simp at hx; subst hx; exact ⟨.slice A 0 cc, by rw [hca]; rfl, .c _ _⟩
      cases A with
      | some A => exact go (h2 A cc)
      | none => exact go (h1 cc)
  · exact hΓ.fns.ok f' args k res hc
/-! ### Rows that are copied -/
def Env.addCln (Γ : (R : Type) → Env R) (f : FuncId) (e : TypeId) : (R : Type) → Env R := fun R => { Γ R with cln := fun g => if g = f then some e else (Γ R).cln g }
theorem EnvOK.addCln {R : Type} (hΓ : EnvOK P (Γ R)) {f : FuncId} {e : TypeId} (h : CloneOK P f e) : EnvOK P (Env.addCln Γ f e R) := ⟨hΓ.fns, hΓ.inl, hΓ.lp, fun g e' hg => by
  simp only [Env.addCln] at hg
  split at hg
  · rename_i hgf
    subst hgf
    injection hg with hg
    subst hg
    exact h
  · exact hΓ.cln g e' hg⟩
def Env.addScl (Γ : (R : Type) → Env R) (l : List FuncId) : (R : Type) → Env R := fun R => { Γ R with scl := fun f => l.contains f }
theorem EnvOK.addScl {R : Type} (hΓ : EnvOK P (Γ R)) (l : List FuncId) : EnvOK P (Env.addScl Γ l R) := ⟨hΓ.fns, hΓ.inl, hΓ.lp, hΓ.cln⟩
def ownEnd (P : Program) (st' : S2) (fn : Func) (e : TypeId) : Tree (List Int) := resK P st' fn.results.toList fun r => match r with
  | .own id => (match st'.heap[id]? with
    | some (.own d l e') => if e' = e then castK d (.int .u8) (fun d => List (T d)) l fun l => .done l else .fail
    | _ => .fail)
  | .c (.slice none 0 0) => .done []
  | _ => .fail
def runOwn (P : Program) (Γ : (R : Type) → Env R) (fuel : Nat) (f : FuncId) (xs : List V) (e : TypeId) : Tree (List Int) :=
  match P.funcs[f]? with
  | some fn => (match fn.body with
    | some b => evK P (Γ (List Int)) fuel [f] 0 b ⟨slots0 fn xs, []⟩ fun ex st' => (match ex with
      | .normal => ownEnd P st' fn e
      | .ret => ownEnd P st' fn e
      | _ => .fail)
    | none => .fail)
  | none => .fail
theorem relL_u8 {w : World} {B : List Nat} {η : List Value} {l : List Int} {us : List Value} (h : RelL w B η (flat (.int .u8) l) us) : us = l.map fun n => Value.int .u8 n := by
  rw [flat_u8] at h
  apply List.ext_getElem?
  intro i
  rcases Nat.lt_or_ge i l.length with hi | hi
  · obtain ⟨u, h1, h2⟩ := h.2 i (.c (.int .u8 l[i])) (by rw [List.getElem?_map, List.getElem?_eq_getElem hi]; rfl)
    rw [h1, Rel.ofC h2, List.getElem?_map, List.getElem?_eq_getElem hi]
    rfl
  · have hl := h.1
    rw [List.length_map] at hl
    rw [List.getElem?_eq_none (by omega), List.getElem?_eq_none (by rw [List.length_map]; exact hi)]
theorem runOwn_ok (hm : P.follows .mixedOrders = true) {f : FuncId} {xs : List V} {rs : List Td} {e : TypeId} (hΓ : EnvOK P (Γ (List Int))) {fuel : Nat} (hf : ∃ fn c, P.funcs[f]? = some fn ∧ fn.body = some c ∧ okC2 (Γ (List Int)).inl c = true ∧ fn.name ≠ "runtime.NumGoroutine" ∧ (rs = [] → fn.results = #[])) (hxs : ∀ (i : Nat) x, xs[i]? = some x → x.plain = true ∧ isFresh (ex x) = false) {l : List Int} (h : (runOwn P Γ fuel f xs e).run = some l) (w : World) (B : List Nat) (cargs : List Value) (hB : ∀ b ∈ B, b < w.heap.size) (hgl : GlobOK w B) (hlen : cargs.length = xs.length) (hrel : ∀ (i : Nat) x, xs[i]? = some x → ∃ v, cargs[i]? = some v ∧ Rel w B [] (ex x) v) :
    Calls P f cargs.toArray w fun e1 w' => ∃ v', e1 = .returned v' ∧ Gr w w' ∧ OwnAt w' w.heap.size e 1 v' l.length (l.map fun n => Value.int .u8 n) := by
  obtain ⟨fn, b, hfn, hb, hok, hnm, _⟩ := hf
  unfold runOwn at h
  rw [hfn] at h
  simp only [hb] at h
  obtain ⟨ex1, st', h1, h2⟩ := evK_ok hm hΓ fuel [f] 0 b _ _ l hok (fun c' hc' => by simp only [loopsIn, hfn, hb]; exact hc') h
  refine calls_of_wp hfn hb ?_
  have hsim : SimK w.heap.size B [] ⟨slots0 fn xs, []⟩ { tmps := cargs.toArray ++ Array.replicate (fn.ntmps - cargs.toArray.size) undef, defers := [] } w B [] := by
    refine ⟨rfl, ⟨rfl, ⟨Nat.le_refl _, hgl⟩, fun b hb => ⟨hb, hB b hb⟩, hB, fun id e h => by simp at h, fun i j ei ej _ h => by simp at h⟩, slots0_ok ⟨hlen, fun i x hx => ?_⟩⟩
    obtain ⟨v, q1, q2⟩ := hrel i x hx
    obtain ⟨q3, q4⟩ := hxs i x hx
    exact ⟨v, q1, Rel2.of q3 q2, fun h => by rw [q4] at h; cases h⟩
  refine h2 w.heap.size B [] _ w B [] _ hsim fun a' w' B' η' hs hg => ?_
  have fin : (ownEnd P st' fn e).run = some l → ∃ v, (results fn a'.tmps).run P w' = .ok v w' ∧ OwnAt w' w.heap.size e 1 v l.length (l.map fun n => Value.int .u8 n) := by
    intro h1
    obtain ⟨r, q1, q2⟩ := resK_ok h1
    obtain ⟨v, g1, g2, g5⟩ := q2 _ _ _ a' w' B' η' hs
    refine ⟨v, g1, ?_⟩
    clear g5
    split at q1
    · rename_i id
      split at q1
      · rename_i d l0 e' hid
        split at q1
        · rename_i he
          subst he
          obtain ⟨e1, q3⟩ := castK_run q1
          subst e1
          simp only [Tree.run, Option.some.injEq] at q3
          subst q3
          obtain ⟨n, us, p1, p2, p3, p4⟩ := hs.inv.ent id _ (exH hid)
          have hus := relL_u8 p2
          subst hus
          have g3 : Rel w' B' η' (.own id) v := g2
          have hv : η'.getD id undef = v := by
            cases g3 with
            | own _ _ a n c h => rw [List.getD_eq_getElem?_getD, h]; rfl
          rw [hv] at p1
          have hn : n = l0.length := by
            have h5 := p1.1
            rw [List.length_map, show wd (.int .u8) = 1 from rfl, Nat.mul_one] at h5
            exact h5.symm
          rw [hn] at p1
          exact p1
        · cases q1
      · cases q1
    · simp only [Tree.run, Option.some.injEq] at q1
      subst q1
      have g3 : Rel w' B' η' (.c (.slice none 0 0)) v := g2
      rw [Rel.ofC g3]
      exact OwnAt.nil _ _ _ _
    · cases q1
  split at h1
  · obtain ⟨v, g1, g2⟩ := fin h1
    exact ⟨hs.defers, v, g1, v, rfl, hg.below, g2⟩
  · obtain ⟨v, g1, g2⟩ := fin h1
    exact ⟨hs.defers, v, g1, v, rfl, hg.below, g2⟩
  · cases h1
theorem cloneOK_of {Γ0 : (R : Type) → Env R} (hm : P.follows .mixedOrders = true) {f : FuncId} {e : TypeId} {fuel : Nat} (hΓ0 : EnvOK P (Γ0 (List Int))) (hok : okFn P (Γ0 (List Int)).inl f [.sl (.int .u8)] = true) {g : List Int → Option (List Int)} (h : ∀ l : List Int, (runOwn P Γ0 fuel f [.lst (.int .u8) l] e).run = g l) (hg : ∀ l : List Int, l.isEmpty = false → roomB l.length 1 = true → g l = some l)
    (h1 : ∀ c, (runOwn P Γ0 fuel f [.c (.slice none 0 c)] e).run = some []) (h2 : ∀ A c, (runOwn P Γ0 fuel f [.c (.slice (some A) 0 c)] e).run = some []) : CloneOK P f e := by
  obtain ⟨fn, b, hfn, hb, hokc, hnm, hres⟩ := okFn_ok hok
  refine ⟨⟨fn, hfn, hnm, by rw [hb]; exact fun h => by cases h⟩, fun l hr w B v hB hgl hv => ?_⟩
  cases he : l.isEmpty with
  | false =>
    exact runOwn_ok hm hΓ0 (okFn_ok hok) (xs := [.lst (.int .u8) l]) (fun i x hx => by
      match i, hx with
      | 0, hx => simp at hx; subst hx; exact ⟨rfl, rfl⟩) (by rw [h]; exact hg l he hr) w B [v] hB hgl rfl (fun i x hx => by
      match i, hx with
      | 0, hx => simp at hx; subst hx; exact ⟨v, rfl, hv⟩)
  | true =>
    have hl : l = [] := List.isEmpty_iff.1 he
    subst hl
    obtain ⟨A, n, cc, us, rfl, hk, hn, _, hm', _, _⟩ := Rel.slL hv
    have hn0 : n = 0 := by
      rcases Nat.eq_zero_or_pos n with h | h
      · exact h
      · have := Nat.mul_pos h hk; simp [flat] at hn; omega
    subst hn0
    have go : (runOwn P Γ0 fuel f [.c (.slice A 0 cc)] e).run = some [] → Calls P f #[.slice A 0 cc] w fun e1 w' => ∃ v', e1 = .returned v' ∧ Gr w w' ∧ OwnAt w' w.heap.size e 1 v' ([] : List Int).length (([] : List Int).map fun n => Value.int .u8 n) := fun hr => by
      exact runOwn_ok hm hΓ0 (okFn_ok hok) (xs := [.c (.slice A 0 cc)]) (fun i x hx => by
        match i, hx with
        | 0, hx => simp at hx; subst hx; exact ⟨rfl, rfl⟩) hr w B [.slice A 0 cc] hB hgl rfl (fun i x hx => by
        match i, hx with
        | 0, hx => simp at hx; subst hx; exact ⟨.slice A 0 cc, rfl, .c _ _⟩)
    cases A with
    | some A => exact go (h2 A cc)
    | none => exact go (h1 cc)
end
end Go.Proofs.Ytcmekgfglohooaa
/-
  Plain functions: numbers that fit, elements, rounds.
-/
namespace Go.Proofs.Ytcmekgfglohooaa
set_option maxRecDepth 100000
open Go.RowKit
set_option linter.unusedVariables false
set_option linter.unusedSimpArgs false

theorem wrap64 {x : Int} (h1 : -9223372036854775808 ≤ x) (h2 : x < 9223372036854775808) : Go.IntKind.wrap .i64 x = x := by
  have := IntKind.wrap_i64 x
  rw [this]; omega
theorem wrapU8 {x : Int} (h1 : 0 ≤ x) (h2 : x < 256) : Go.IntKind.wrap .u8 x = x := by
  rw [IntKind.wrap_u8]; omega
theorem getI_nat {α : Type} (l : List α) (i : Nat) : getI l (i : Int) = l[i]? := by unfold getI; rw [if_pos (Int.natCast_nonneg i), Int.toNat_natCast]
theorem getI_lt {α : Type} (l : List α) (i : Nat) (h : i < l.length) : getI l (i : Int) = some l[i] := by rw [getI_nat, List.getElem?_eq_getElem h]
theorem roomB_of {n b : Nat} (h1 : n ≤ maxLen) (h2 : n * b ≤ 140737488355328) : roomB n b = true := decide_eq_true ⟨h1, h2⟩
theorem big_len : 1000000000 ≤ maxLen := by simp [maxLen]
theorem gl_succ {C O : Type} (G : (C → Option O) → C → Option O) (n : Nat) (c : C) : gl G (n + 1) c = G (gl G n) c := rfl
/-- Rounds that go on to the end. -/
theorem gl_run {C O : Type} {G : (C → Option O) → C → Option O} (st : Nat → C) (n : Nat) (o : O) (hstep : ∀ X i, i < n → G X (st i) = X (st (i + 1))) (hend : ∀ X, G X (st n) = some o) : ∀ k i, i ≤ n → n - i < k → gl G k (st i) = some o
  | 0, i, _, h => by omega
  | k + 1, i, hi, h => by
    rw [gl_succ]
    rcases Nat.lt_or_ge i n with h' | h'
    · rw [hstep _ i h']; exact gl_run st n o hstep hend k (i + 1) h' (by omega)
    · have : i = n := by omega
      subst this; exact hend _
/-- Rounds with an invariant: they end, and so holds of what they hand out. -/
theorem gl_inv {C O : Type} {G : (C → Option O) → C → Option O} (I : Nat → C → Prop) (Q : O → Prop) (hstep : ∀ X n c, I n c → (∃ o, G X c = some o ∧ Q o) ∨ ∃ m c', m < n ∧ I m c' ∧ G X c = X c') : ∀ k n c, n < k → I n c → ∃ o, gl G k c = some o ∧ Q o
  | 0, n, c, h, _ => by omega
  | k + 1, n, c, h, hi => by
    rw [gl_succ]
    rcases hstep (gl G k) n c hi with h1 | ⟨m, c', h1, h2, h3⟩
    · exact h1
    · rw [h3]; exact gl_inv I Q hstep k m c' (by omega) h2
theorem beq_rfl' (b : Bool) : (b == b) = true := by cases b <;> rfl
end Go.Proofs.Ytcmekgfglohooaa
/-
  What a law's last step needs, and no more: for seats that go over the evaluator.
-/
namespace Go.Proofs.Ytcmekgfglohooaa
set_option maxRecDepth 100000
open Go.ChangeShapes Go.WideShapes Go.ChangeAt Go.RowKit
set_option linter.unusedVariables false

theorem own : ownKnob Try.prog.godebug = none := by kernel_rfl
theorem laidOut : laidOutB Try.prog = true := by kernel_rfl
/-- A law that comes to true, as its last step asks for it. -/
theorem callsK_true {f : FuncId} {args : List V} {cargs : List Value} {w : World} (h : CallsK Try.prog f args (.c (.bool true))) (hr : RelL w [] [] (args.map ex) cargs) (hgl : GlobOK w [] := by intro g l h; simp [globs] at h) :
    Calls Try.prog f cargs.toArray w fun e w' => e = .returned (.bool true) ∧ Below w.heap.size w w' :=
  (h w [] cargs (by simp) hgl (by rw [hr.1, List.length_map]) (fun i x hx => hr.2 i (ex x) (by rw [List.getElem?_map, hx]; rfl))).mono fun e w' ⟨v, he, hg, hrel⟩ => by cases hrel; exact ⟨he, ⟨hg.os, hg.tape, hg.output, hg.size, fun b hb => hg.block b hb⟩⟩
section
variable {H : Type} {enc : TypeId × Value → H} {W : World}
theorem lt_of_trod {T : TypeId} {v : Value} {d : DataW H} {p : List MemPlace} (h : DataW.Trod enc Try.prog W 0 (fun _ => true) true T v d p) : ∀ x ∈ p, x.block < W.heap.size := by
  obtain ⟨m, hm⟩ := h; exact DataW.trod_lt m _ _ _ hm
end
end Go.Proofs.Ytcmekgfglohooaa
/-
  An argument's reading, as plain data of its type: one theorem for every type of plain data.
-/
namespace Go.Proofs.Ytcmekgfglohooaa
set_option maxRecDepth 100000
open Go.ChangeShapes Go.WideShapes Go.ChangeAt Go.RowKit
set_option linter.unusedVariables false
set_option linter.unusedSimpArgs false

/-- Numbers are in their kinds' ranges, lengths are a machine's. -/
def wfT : (d : Td) → T d → Prop
  | .int k, n => (Lit.int k n).wf = true
  | .bool, _ => True
  | .str, s => s.length ≤ maxLen
  | .sl d, l => l.length ≤ maxLen ∧ ∀ x ∈ l, wfT d x
  | .arr n d, a => ∀ x ∈ a.l, wfT d x
  | .pair d e, x => wfT d x.1 ∧ wfT e x.2
section
variable {P : Program} {H : Type} {enc : TypeId × Value → H} {W : World}
theorem pick_list {α : Type} (Q : Nat → α → Prop) : ∀ n, (∀ i, i < n → ∃ y, Q i y) → ∃ l : List α, l.length = n ∧ ∀ i y, l[i]? = some y → Q i y
  | 0, _ => ⟨[], rfl, fun i y h => by simp at h⟩
  | n + 1, h => by
    obtain ⟨l, h1, h2⟩ := pick_list Q n fun i hi => h i (by omega)
    obtain ⟨y, hy⟩ := h n (by omega)
    refine ⟨l ++ [y], by simp [h1], fun i z hz => ?_⟩
    rcases Nat.lt_or_ge i n with hi | hi
    · rw [List.getElem?_append_left (by omega)] at hz; exact h2 i z hz
    · rw [List.getElem?_append_right (by omega)] at hz
      have : i - l.length = 0 := by have := (List.getElem?_eq_some_iff.1 hz).1; simp at this; omega
      rw [this] at hz
      simp at hz
      subst hz
      rw [show i = n by omega]; exact hy
theorem cell_spot {a : Addr} {v : Value} (h : W.cell? a = some v) : a.spot = none := by
  unfold World.cell? at h
  split at h
  · split at h
    · cases h
    · rename_i hs; cases hx : a.spot with
      | none => rfl
      | some _ => rw [hx] at hs; simp at hs
  · cases h
theorem add_add (a : Addr) (i j : Nat) (h : a.spot = none) : (a.add i).add j = a.add (i + j) := by
  unfold Addr.add
  obtain ⟨b, o, s⟩ := a
  simp only at h
  subst h
  by_cases hi : i = 0 <;> by_cases hj : j = 0 <;> simp [hi, hj, Nat.add_assoc]
theorem cells_get {a : Addr} {n : Nat} {cs : List Value} (h : W.cells? 0 a n = some cs) : cs.length = n ∧ ∀ i u, cs[i]? = some u → W.cell? (a.add i) = some u := by
  unfold World.cells? at h
  rw [if_pos (Nat.zero_le _)] at h
  have hl := mapM_some_length h
  rw [List.length_range] at hl
  refine ⟨hl, fun i u hu => ?_⟩
  have hi : i < n := by have := (List.getElem?_eq_some_iff.1 hu).1; omega
  rw [mapM_some_get h i i (by simp [hi])]
  exact hu
/-- A row of parts, each of one size. -/
theorem flat_rel {d : Td} (xs : List (T d)) (us : Nat → Value) (B : List Nat) (h : ∀ i x, xs[i]? = some x → ∀ j y, (cells d x)[j]? = some y → Rel W B [] y (us (i * wd d + j))) : ∀ i y, (flat d xs)[i]? = some y → Rel W B [] y (us i) := by
  intro i y hy
  have hi : i < xs.length * wd d := by have := (List.getElem?_eq_some_iff.1 hy).1; rwa [flat_length] at this
  have hw : 0 < wd d := by rcases Nat.eq_zero_or_pos (wd d) with h | h; rw [h] at hi; omega; exact h
  have hq : i / wd d < xs.length := Nat.div_lt_of_lt_mul (by rw [Nat.mul_comm]; exact hi)
  have hx : xs[i / wd d]? = some xs[i / wd d] := List.getElem?_eq_getElem hq
  have hf := flat_at d xs (i / wd d) _ hx
  have hr : i % wd d < wd d := Nat.mod_lt _ hw
  have hdm := Nat.div_add_mod i (wd d)
  have h1 : (cells d xs[i / wd d])[i % wd d]? = some y := by
    rw [← hf, List.getElem?_take, if_pos hr, List.getElem?_drop]
    rw [show i / wd d * wd d + i % wd d = i by rw [Nat.mul_comm]; exact hdm]
    exact hy
  have := h _ _ hx _ _ h1
  rwa [show i / wd d * wd d + i % wd d = i by rw [Nat.mul_comm]; exact hdm] at this
mutual
theorem read_td : ∀ (n : Nat) (t : TypeId) (d : Td), layT' P n t d = true → ∀ (fuel : Nat) (cs : List Value) (x : DataW H × List MemPlace), DataW.trod enc P W 0 (fun _ => true) true fuel t cs = some x → ∃ y : T d, RelL W [] [] (cells d y) cs ∧ wfT d y
  | 0, t, d, h => by simp [layT'] at h
  | n + 1, t, d, h => by
    intro fuel cs x hx
    simp only [layT', Bool.and_eq_true, beq_iff_eq] at h
    obtain ⟨hc, h⟩ := h
    split at h
    · rename_i k k' hu
      have := of_decide_eq_true h
      subst this
      obtain ⟨z, rfl, _, hw⟩ := DataW.trod_int hu hx
      exact ⟨z, RelL.cons (.c _ _) (RelL.nil _ _ _), hw⟩
    · rename_i hu
      obtain ⟨z, rfl, _⟩ := DataW.trod_bool hu hx
      exact ⟨z, RelL.cons (.c _ _) (RelL.nil _ _ _), trivial⟩
    · rename_i hu
      obtain ⟨s, rfl, _, hs⟩ := DataW.trod_string hu hx
      refine ⟨s.data.toList, RelL.cons ?_ (RelL.nil _ _ _), by show s.data.toList.length ≤ maxLen; simpa using hs⟩
      have : (⟨s.data.toList.toArray⟩ : ByteArray) = s := by cases s; simp
      rw [this]; exact .c _ _
    · rename_i e d hu
      simp only [Bool.and_eq_true, decide_eq_true_eq] at h
      obtain ⟨hw, h⟩ := h
      have hce := layT_cells h
      rcases DataW.trod_slice hu hx with ⟨rfl, _⟩ | ⟨a, len, cap, elems, rest, m, rfl, rfl, _, _, hlc, hm, hel, hels, _⟩
      · exact ⟨[], RelL.cons (rel_nil_sl hw (.c _ _)) (RelL.nil _ _ _), by simp [maxLen], fun x hx => by cases hx⟩
      · obtain ⟨ys, hy1, hy2⟩ := pick_list (fun i y => ∃ us, W.cells? 0 (a.add (i * wd d)) (wd d) = some us ∧ RelL W [] [] (cells d y) us ∧ wfT d y) len fun i hi => by
          have h0 := hels i hi
          rw [List.getElem?_eq_getElem (by omega), hce] at h0
          obtain ⟨us, q1, q2⟩ := Option.bind_eq_some_iff.1 h0
          obtain ⟨y, q3, q4⟩ := read_td n e d h _ _ _ q2
          exact ⟨y, us, q1, q3, q4⟩
        refine ⟨ys, RelL.cons ?_ (RelL.nil _ _ _), by rw [hy1]; omega, fun x hx => ?_⟩
        · have hspot : 0 < len → a.spot = none := fun h0 => by
            obtain ⟨us, q1, q3, _⟩ := hy2 0 ys[0] (List.getElem?_eq_getElem (by omega))
            have hl := (cells_get q1).1
            have := (cells_get q1).2 0 us[0] (List.getElem?_eq_getElem (by omega))
            have := cell_spot this
            unfold Addr.add at this
            simpa using this
          have hcell : ∀ i x, ys[i]? = some x → ∀ j y, (cells d x)[j]? = some y → Rel W [] [] y ((W.cell? (a.add (i * wd d + j))).getD undef) ∧ (W.cell? (a.add (i * wd d + j))).isSome = true := fun i x hx j y hy => by
            obtain ⟨us, q1, q3, _⟩ := hy2 i x hx
            obtain ⟨u, q4, q5⟩ := q3.2 j y hy
            have := (cells_get q1).2 j u q4
            have h0 : 0 < len := by have := (List.getElem?_eq_some_iff.1 hx).1; omega
            rw [add_add a _ _ (hspot h0)] at this
            rw [this]
            exact ⟨q5, rfl⟩
          have hr := flat_rel (W := W) ys (fun i => (W.cell? (a.add i)).getD undef) [] fun i x hx j y hy => (hcell i x hx j y hy).1
          refine .sl _ _ _ _ _ _ (fun i => (W.cell? (a.add i)).getD undef) hw (by show len * wd d = (flat d ys).length; rw [flat_length, hy1]) hlc hm (fun h0 => ⟨a, rfl, hspot h0, ?_, by simp, fun i hi => ?_⟩) hr
          · obtain ⟨us, q1, q3, _⟩ := hy2 0 ys[0] (List.getElem?_eq_getElem (by omega))
            have hl := (cells_get q1).1
            have := (cells_get q1).2 0 us[0] (List.getElem?_eq_getElem (by omega))
            have := World.block_lt_of_cell? W _ this
            rwa [block_of_add, block_of_add] at this
          · have hi' : i < len * wd d := by change i < (flat d ys).length at hi; rw [flat_length, hy1] at hi; exact hi
            have hq : i / wd d < ys.length := by rw [hy1]; exact Nat.div_lt_of_lt_mul (by rw [Nat.mul_comm]; exact hi')
            have hrm : i % wd d < (cells d ys[i / wd d]).length := by rw [cells_length]; exact Nat.mod_lt _ (by omega)
            have := (hcell _ _ (List.getElem?_eq_getElem hq) _ _ (List.getElem?_eq_getElem hrm)).2
            rw [show i / wd d * wd d + i % wd d = i by rw [Nat.mul_comm]; exact Nat.div_add_mod i (wd d)] at this
            obtain ⟨u, hu⟩ := Option.isSome_iff_exists.1 this
            rw [hu]; rfl
        · obtain ⟨i, hi⟩ := List.getElem?_of_mem hx
          obtain ⟨_, _, _, q⟩ := hy2 i x hi
          exact q
    · rename_i m e m' d hu
      simp only [Bool.and_eq_true, beq_iff_eq] at h
      obtain ⟨rfl, h⟩ := h
      have hce := layT_cells h
      obtain ⟨xs, m2, rfl, _, hl, hxl, hi⟩ := DataW.trod_array hu hx
      obtain ⟨ys, hy1, hy2⟩ := pick_list (fun i y => RelL W [] [] (cells d y) ((cs.drop (i * wd d)).take (wd d)) ∧ wfT d y) m fun i h1 => by
        have h0 := hi i h1
        rw [List.getElem?_eq_getElem (by omega), hce] at h0
        exact read_td n e d h _ _ _ h0
      refine ⟨⟨ys, hy1⟩, ⟨?_, ?_⟩, fun x hx => ?_⟩
      · rw [cells_length, ← hc]; exact hl.symm ▸ rfl
      · intro i y hy
        have hr := flat_rel (W := W) ys (fun i => cs.getD i undef) [] fun i x hx j y hy => by
          obtain ⟨u, q1, q2⟩ := (hy2 i x hx).1.2 j y hy
          rw [List.getElem?_take] at q1
          split at q1
          · rw [List.getElem?_drop] at q1
            rw [List.getD_eq_getElem?_getD, q1]; exact q2
          · cases q1
        have hlt : i < cs.length := by
          have := (List.getElem?_eq_some_iff.1 hy).1
          rw [cells_length, ← hc, ← hl] at this
          exact this
        refine ⟨cs[i], List.getElem?_eq_getElem hlt, ?_⟩
        have := hr i y hy
        rwa [List.getD_eq_getElem?_getD, List.getElem?_eq_getElem hlt] at this
      · obtain ⟨i, hi⟩ := List.getElem?_of_mem hx
        exact (hy2 i x hi).2
    · rename_i fs hu
      obtain ⟨xs, m2, rfl, _, hl, hxl, hi⟩ := DataW.trod_struct hu hx
      have := read_fs n fs.toList 0 _ h m2 cs (fun i f hf => by
        have h0 := hi i f (by simpa using hf)
        have hlt : i < xs.length := by have := (List.getElem?_eq_some_iff.1 hf).1; rw [hxl]; simpa using this
        exact ⟨_, h0.trans (List.getElem?_eq_getElem hlt)⟩) (by rw [hl, hc]; omega)
      simpa using this
    · cases h
theorem read_fs : ∀ (n : Nat) (fs : List Field) (o : Nat) (d : Td), layFs P n fs o d = true → ∀ (m : Nat) (cs : List Value), (∀ (i : Nat) (f : Field), fs[i]? = some f → ∃ x, DataW.trod enc P W 0 (fun _ => true) true m f.type ((cs.drop f.offset).take (P.cellsOf f.type)) = some x) → cs.length = o + wd d → ∃ y : T d, RelL W [] [] (cells d y) (cs.drop o) ∧ wfT d y
  | 0, fs, o, d, h => by simp [layFs] at h
  | n + 1, [], o, d, h => by simp [layFs] at h
  | n + 1, [f], o, d, h => by
    intro m cs hx hl
    simp only [layFs, Bool.and_eq_true, beq_iff_eq] at h
    obtain ⟨rfl, h⟩ := h
    obtain ⟨x, hx⟩ := hx 0 f rfl
    rw [layT_cells h] at hx
    obtain ⟨y, h1, h2⟩ := read_td n _ d h _ _ _ hx
    rw [List.take_of_length_le (by rw [List.length_drop]; omega)] at h1
    exact ⟨y, h1, h2⟩
  | n + 1, f :: g :: fs, o, d, h => by
    intro m cs hx hl
    simp only [layFs] at h
    split at h
    · rename_i d e
      simp only [Bool.and_eq_true, beq_iff_eq] at h
      obtain ⟨⟨rfl, h⟩, h'⟩ := h
      simp only [wd] at hl
      obtain ⟨x, hx0⟩ := hx 0 f rfl
      rw [layT_cells h] at hx0
      obtain ⟨y, h1, h2⟩ := read_td n _ d h _ _ _ hx0
      obtain ⟨z, h3, h4⟩ := read_fs n (g :: fs) _ e h' m cs (fun i f' hf => hx (i + 1) f' (by simpa using hf)) (by omega)
      refine ⟨(y, z), ?_, h2, h4⟩
      have := h1.append h3
      rw [← List.drop_drop, List.take_append_drop] at this
      exact this
    · cases h
end
end
/-- Its value is a row of cells. -/
def rowB (P : Program) (t : TypeId) : Bool := match P.underlying t with
  | some (.struct _) | some (.array _ _) => true
  | _ => false
theorem okWide_row {P : Program} {W : World} {base : Nat} {t : TypeId} {v : Value} (h : rowB P t = true) (hv : Value.okWide P W .any base t v) : ∃ cs, v = .agg cs := by
  unfold rowB at h
  unfold Value.okWide at hv
  split at h
  · rename_i hu; rw [hu] at hv; obtain ⟨cs, h1, _⟩ := hv; exact ⟨cs, h1⟩
  · rename_i hu; rw [hu] at hv; obtain ⟨cs, h1, _⟩ := hv; exact ⟨cs, h1⟩
  · cases h
theorem okWide_one {P : Program} {W : World} {base n : Nat} {t : TypeId} {d : Td} {v : Value} (hl : layT' P n t d = true) (h : rowB P t = false) (hv : Value.okWide P W .any base t v) : v.cells.toList = [v] := by
  cases n with
  | zero => simp [layT'] at hl
  | succ n =>
    simp only [layT', Bool.and_eq_true] at hl
    replace hl := hl.2
    split at hl
    · rename_i hu; obtain ⟨_, rfl⟩ := okWide_int hu hv; rfl
    · rename_i hu
      simp only [Value.okWide, hu, Cell.okWide] at hv
      cases v <;> first | rfl | simp_all [Cell.ok]
    · rename_i hu; obtain ⟨_, rfl⟩ := okWide_string hu hv; rfl
    · rename_i hu; obtain ⟨_, _, _, rfl⟩ := okWide_slice hu hv; rfl
    · rename_i hu; simp [rowB, hu] at h
    · rename_i hu; simp [rowB, hu] at h
    · cases hl
/-- An argument, opened: what it says, as plain data. -/
theorem open_td {H : Type} {enc : TypeId × Value → H} {W : World} {t : TypeId} {d : Td} (hl : layT' Try.prog 24 t d = true) (hr : rowB Try.prog t = rowD d) {base : Nat} {v : Value} {x : DataW H} {p : List MemPlace} (hv : Value.okWide Try.prog W .any base t v) (h : DataW.Trod enc Try.prog W 0 (fun _ => true) true t v x p) : ∃ y : T d, Rel W [] [] (ex (valV d y)) v ∧ wfT d y := by
  obtain ⟨fuel, hf⟩ := h
  obtain ⟨y, h1, h2⟩ := read_td _ _ _ hl _ _ _ hf
  refine ⟨y, ?_, h2⟩
  cases hd : rowD d with
  | true =>
    obtain ⟨cs, rfl⟩ := okWide_row (hr.trans hd) hv
    rw [valV_row d y hd]
    refine .agg _ _ cs (fun i => cs.getD i undef) (by rw [← h1.1]; simp [Value.cells]) (fun i x hx => ?_) (fun i x hx => ?_)
    · obtain ⟨u, q1, _⟩ := h1.2 i x hx
      simp only [Value.cells, Array.getElem?_toList] at q1
      rw [Array.getD_eq_getD_getElem?, q1]; rfl
    · obtain ⟨u, q1, q2⟩ := h1.2 i x hx
      simp only [Value.cells, Array.getElem?_toList] at q1
      rw [Array.getD_eq_getD_getElem?, q1]; exact q2
  | false =>
    rw [okWide_one hl (hr.trans hd) hv, valV_one d y hd] at h1
    obtain ⟨u, q1, q2⟩ := h1.2 0 _ rfl
    simp at q1
    rw [q1]; exact q2
end Go.Proofs.Ytcmekgfglohooaa
/-
  Plain functions: bytes, and whether two rows are the same.
-/
namespace Go.Proofs.Ytcmekgfglohooaa
set_option maxRecDepth 100000
open Go.RowKit
set_option linter.unusedVariables false
set_option linter.unusedSimpArgs false

def AllB (l : List Int) : Prop := ∀ x ∈ l, 0 ≤ x ∧ x < 256
theorem AllB.nil : AllB [] := fun _ h => by cases h
theorem AllB.cons {x : Int} {l : List Int} (h1 : 0 ≤ x ∧ x < 256) (h2 : AllB l) : AllB (x :: l) := fun y hy => by
  rcases List.mem_cons.1 hy with rfl | hy
  · exact h1
  · exact h2 y hy
theorem AllB.append {l m : List Int} (h1 : AllB l) (h2 : AllB m) : AllB (l ++ m) := fun y hy => by
  rcases List.mem_append.1 hy with hy | hy
  · exact h1 y hy
  · exact h2 y hy
theorem AllB.drop {l : List Int} (h : AllB l) (n : Nat) : AllB (l.drop n) := fun y hy => h y (List.mem_of_mem_drop hy)
theorem AllB.take {l : List Int} (h : AllB l) (n : Nat) : AllB (l.take n) := fun y hy => h y (List.mem_of_mem_take hy)
theorem AllB.get {l : List Int} (h : AllB l) (i : Nat) (hi : i < l.length) : 0 ≤ l[i] ∧ l[i] < 256 := h _ (List.getElem_mem hi)
theorem wf_u8 {n : Int} (h : (Lit.int .u8 n).wf = true) : 0 ≤ n ∧ n < 256 := by
  simp only [Lit.wf, Bool.and_eq_true, decide_eq_true_eq, IntKind.min, IntKind.max, IntKind.signed, IntKind.bits] at h
  simp at h
  omega
theorem wf_bytes {l : List Int} (h : wfT (.sl (.int .u8)) l) : AllB l := fun x hx => wf_u8 (h.2 x hx)
def byteOf (x : Int) : UInt8 := UInt8.ofNat x.toNat
theorem toBy_map : ∀ {l : List Int}, AllB l → toBy l = some (l.map byteOf)
  | [], _ => rfl
  | x :: l, h => by
    have h1 := h x List.mem_cons_self
    unfold toBy
    rw [if_pos h1, toBy_map (fun y hy => h y (List.mem_cons_of_mem _ hy))]
    rfl
theorem byte_inj {x y : Int} (h1 : 0 ≤ x ∧ x < 256) (h2 : 0 ≤ y ∧ y < 256) (h : byteOf x = byteOf y) : x = y := by
  unfold byteOf at h
  have := congrArg UInt8.toNat h
  simp only [UInt8.toNat_ofNat'] at this
  omega
theorem bytes_inj : ∀ {a b : List Int}, AllB a → AllB b → a.map byteOf = b.map byteOf → a = b
  | [], [], _, _, _ => rfl
  | [], _ :: _, _, _, h => by cases h
  | _ :: _, [], _, _, h => by cases h
  | x :: a, y :: b, h1, h2, h => by
    simp only [List.map_cons, List.cons.injEq] at h
    rw [byte_inj (h1 x List.mem_cons_self) (h2 y List.mem_cons_self) h.1, bytes_inj (fun z hz => h1 z (List.mem_cons_of_mem _ hz)) (fun z hz => h2 z (List.mem_cons_of_mem _ hz)) h.2]
theorem bytes_dec {a b : List Int} (h1 : AllB a) (h2 : AllB b) : decide (a.map byteOf = b.map byteOf) = decide (a = b) := by
  by_cases h : a = b
  · subst h; simp
  · rw [decide_eq_false h, decide_eq_false (fun h' => h (bytes_inj h1 h2 h'))]
theorem subI_nat {α : Type} (l : List α) {a b : Int} {i j : Nat} (ha : a = i) (hb : b = j) (h1 : i ≤ j) (h2 : j ≤ l.length) : subI l a b = some ((l.drop i).take (j - i)) := by
  subst ha hb
  unfold subI
  rw [if_pos ⟨by omega, by omega, by omega⟩, Int.toNat_natCast, Int.toNat_natCast]
theorem dropI_nat {α : Type} (l : List α) {a : Int} {i : Nat} (ha : a = i) (h1 : i ≤ l.length) : dropI l a = some (l.drop i) := by
  subst ha
  unfold dropI
  rw [if_pos ⟨by omega, by omega⟩, Int.toNat_natCast]
theorem takeI_nat {α : Type} (l : List α) {a : Int} {i : Nat} (ha : a = i) (h1 : i ≤ l.length) : takeI l a = some (l.take i) := by
  subst ha
  unfold takeI
  rw [if_pos ⟨by omega, by omega⟩, Int.toNat_natCast]
theorem getI_at {α : Type} (l : List α) {a : Int} {i : Nat} (ha : a = i) (h1 : i < l.length) : getI l a = some l[i] := by subst ha; exact getI_lt l i h1
/-- Are two rows of numbers the same? -/
def sameB (X : (((List (Int)) × ((List (Int)) × ((Int) × Unit))) × Unit) → Option (((((Bool) × Unit) × Unit) ⊕ (Unit × Unit)))) (a0 : List (Int)) (b1 : List (Int)) (i5 : Int) : Option (((((Bool) × Unit) × Unit) ⊕ (Unit × Unit))) :=
 bif (decide (i5 < (((List.length a0) : Nat) : Int))) then
  Option.bind (getI a0 i5) fun (v5 : Int) =>
  Option.bind (getI b1 i5) fun (v6 : Int) =>
  bif (!(decide (v5 = v6))) then
   some ((.inl ((Bool.false, Unit.unit), Unit.unit)))
  else
   (X ((a0, (b1, ((Go.IntKind.wrap .i64 (i5 + (1 : Int))), Unit.unit))), Unit.unit))
 else
  some ((.inr (Unit.unit, Unit.unit)))
def sameF (N : Nat) (a0 : List (Int)) (b1 : List (Int)) : Option (Bool) :=
 bif (!(decide ((((List.length a0) : Nat) : Int) = (((List.length b1) : Nat) : Int)))) then
  some (Bool.false)
 else
  Option.bind (gl (fun X c => sameB X c.1.1 c.1.2.1 c.1.2.2.1) N ((a0, (b1, ((0 : Int), Unit.unit))), Unit.unit)) fun (v3 : (((Bool × Unit) × Unit) ⊕ (Unit × Unit))) =>
  Sum.elim
   (fun (v4 : ((Bool × Unit) × Unit)) =>
   some (v4.1.1))
   (fun (v4 : (Unit × Unit)) =>
   some (Bool.true)) v3
theorem sameF_ok {N : Nat} {a b : List Int} (h : a.length < N) (hb : a.length < 1000000000) : sameF N a b = some (decide (a = b)) := by
  unfold sameF
  by_cases hl : a.length = b.length
  · have c0 : ((a.length : Int) = (b.length : Int)) := by omega
    simp only [c0, decide_true, Bool.not_true, cond_false]
    obtain ⟨o, h1, h2⟩ := gl_inv (G := fun (X : (((List (Int)) × ((List (Int)) × ((Int) × Unit))) × Unit) → Option (((((Bool) × Unit) × Unit) ⊕ (Unit × Unit)))) c => sameB X c.1.1 c.1.2.1 c.1.2.2.1)
      (fun n c => ∃ i : Nat, c = ((a, (b, ((i : Int), ()))), ()) ∧ i ≤ a.length ∧ n = a.length - i ∧ a.take i = b.take i) (fun o => o = if a = b then .inr ((), ()) else .inl ((false, ()), ())) (fun X n c ⟨i, hc, hi, hn, ht⟩ => by
      subst hc
      rcases Nat.lt_or_ge i a.length with hlt | hge
      · have c1 : ((i : Int) < (a.length : Int)) := by omega
        have c2 : Go.IntKind.wrap .i64 ((i : Int) + 1) = ((i + 1 : Nat) : Int) := by rw [wrap64 (by omega) (by omega)]; omega
        by_cases he : a[i] = b[i]'(by omega)
        · right
          refine ⟨a.length - (i + 1), ((a, (b, (((i + 1 : Nat) : Int), ()))), ()), by omega, ⟨i + 1, rfl, hlt, rfl, ?_⟩, ?_⟩
          · rw [List.take_add_one, List.take_add_one, ht, List.getElem?_eq_getElem hlt, List.getElem?_eq_getElem (by omega), he]
          · simp only [sameB, c1, decide_true, cond_true, getI_lt a i hlt, getI_lt b i (by omega), Option.bind_some, he, Bool.not_true, cond_false, c2]
        · left
          refine ⟨.inl ((false, ()), ()), ?_, ?_⟩
          · simp only [sameB, c1, decide_true, cond_true, getI_lt a i hlt, getI_lt b i (by omega), Option.bind_some, he, decide_false, Bool.not_false]
          · rw [if_neg (fun h => he (by simp [h]))]
      · left
        have c1 : ¬ ((i : Int) < (a.length : Int)) := by omega
        refine ⟨.inr ((), ()), by simp only [sameB, c1, decide_false, cond_false], ?_⟩
        rw [List.take_of_length_le (by omega), List.take_of_length_le (by omega)] at ht
        rw [if_pos ht]) N a.length ((a, (b, ((0 : Int), ()))), ()) h ⟨0, rfl, by omega, by omega, by simp⟩
    rw [h1, h2]
    by_cases he : a = b <;> simp [he]
  · have c0 : ¬ ((a.length : Int) = (b.length : Int)) := by omega
    have c1 : ¬ (a = b) := fun h' => hl (by rw [h'])
    simp only [c0, c1, decide_false, Bool.not_false, cond_true]
end Go.Proofs.Ytcmekgfglohooaa
/-
  Numbers as bytes, on plain data: the functions that lay and read them, as they are printed of the program, under names of their own.
-/
namespace Go.Proofs.Ytcmekgfglohooaa
set_option maxRecDepth 100000
open Go.RowKit
set_option linter.unusedVariables false
set_option linter.unusedSimpArgs false

def qOplace (N : Nat) (i0 : Int) (width1 : Int) (little2 : Bool) : Option (Int) :=
 bif little2 then
  some (i0)
 else
  some ((Go.IntKind.wrap .i64 ((Go.IntKind.wrap .i64 (width1 - (1 : Int))) - i0)))
def qOPutL5 (N : Nat) (X : (((Int) × ((Int) × ((Bool) × ((Int) × ((Int) × Unit))))) × ((List (Int)) × Unit)) → Option ((Unit × ((List (Int)) × Unit)))) (n0 : Int) (width1 : Int) (little2 : Bool) (x19 : Int) (x20 : Int) (h0 : List (Int)) : Option ((Unit × ((List (Int)) × Unit))) :=
 bif (decide (x20 < x19)) then
  Option.bind (qOplace N x20 width1 little2) fun (v8 : Int) =>
  bif (decide ((0 : Int) ≤ v8 ∧ v8 < (((List.length h0) : Nat) : Int))) then
   Option.bind (@GetElem?.getElem? (List Int) Nat Int (fun (as9 : (List Int)) => (fun (i10 : Nat) => (@LT.lt Nat @instLTNat i10 (List.length as9)))) (@List.instGetElem?NatLtLength Int) h0 (Int.toNat v8)) fun (v9 : Int) =>
   (X (((@Int.fdiv n0 (@HPow.hPow Int Nat Int (@instHPow Int Nat (@instPowNat Int @Int.instNatPow)) (2 : Int) (@Min.min Nat @instMinNat (Int.toNat (8 : Int)) (@Go.IntKind.bits @Go.IntKind.u64)))), (width1, (little2, (x19, ((Go.IntKind.wrap .i64 (x20 + (1 : Int))), @Unit.unit))))), ((@List.set Int h0 (Int.toNat v8) (Go.IntKind.wrap .u8 n0)), @Unit.unit)))
  else
   none
 else
  some ((@Unit.unit, (h0, @Unit.unit)))
def qOPutL5R (N : Nat) (c : (((Int) × ((Int) × ((Bool) × ((Int) × ((Int) × Unit))))) × ((List (Int)) × Unit))) : Option ((Unit × ((List (Int)) × Unit))) := gl (fun X c => qOPutL5 N X c.1.1 c.1.2.1 c.1.2.2.1 c.1.2.2.2.1 c.1.2.2.2.2.1 c.2.1) N c
def qOPut (N : Nat) (n0 : Int) (width1 : Int) (little2 : Bool) : Option ((List (Int)) × Int) :=
 bif (decide (width1 < (1 : Int))) then
  some ((([] : List (Int)), (1 : Int)))
 else
  bif (@cond Bool @Bool.false @Bool.true (decide ((8 : Int) < width1))) then
   some ((([] : List (Int)), (1 : Int)))
  else
   bif ((decide ((0 : Int) ≤ width1 ∧ width1 ≤ width1)) && (roomB (Int.toNat width1) 1)) then
    Option.bind (qOPutL5R N ((n0, (width1, (little2, ((((List.length (@List.replicate Int (Int.toNat width1) (0 : Int))) : Nat) : Int), ((0 : Int), @Unit.unit))))), ((@List.replicate Int (Int.toNat width1) (0 : Int)), @Unit.unit))) fun (v4 : (Unit × ((List Int) × Unit))) =>
    some ((v4.2.1, (0 : Int)))
   else
    none
def qOJoinL3 (N : Nat) (X : (((List (List (Int))) × ((Int) × ((List (List (Int))) × ((Int) × ((Int) × Unit))))) × Unit) → Option ((((List (List (Int))) × ((Int) × Unit)) × Unit))) (parts0 : List (List (Int))) (size3 : Int) (x9 : List (List (Int))) (x10 : Int) (x11 : Int) : Option ((((List (List (Int))) × ((Int) × Unit)) × Unit)) :=
 bif (decide (x11 < x10)) then
  Option.bind (getI x9 x11) fun (v7 : (List Int)) =>
  (X ((parts0, ((Go.IntKind.wrap .i64 (size3 + (((List.length v7) : Nat) : Int))), (x9, (x10, ((Go.IntKind.wrap .i64 (x11 + (1 : Int))), @Unit.unit))))), @Unit.unit))
 else
  some (((parts0, (size3, @Unit.unit)), @Unit.unit))
def qOJoinL3R (N : Nat) (c : (((List (List (Int))) × ((Int) × ((List (List (Int))) × ((Int) × ((Int) × Unit))))) × Unit)) : Option ((((List (List (Int))) × ((Int) × Unit)) × Unit)) := gl (fun X c => qOJoinL3 N X c.1.1 c.1.2.1 c.1.2.2.1 c.1.2.2.2.1 c.1.2.2.2.2.1) N c
def qOJoinL9 (N : Nat) (X : (((List (List (Int))) × ((Int) × ((Int) × Unit))) × ((List (Int)) × Unit)) → Option ((Unit × ((List (Int)) × Unit)))) (x22 : List (List (Int))) (x23 : Int) (x24 : Int) (h0 : List (Int)) : Option ((Unit × ((List (Int)) × Unit))) :=
 bif (decide (x24 < x23)) then
  Option.bind (getI x22 x24) fun (v6 : (List Int)) =>
  bif (roomB ((List.length h0) + (List.length v6)) 1) then
   (X ((x22, (x23, ((Go.IntKind.wrap .i64 (x24 + (1 : Int))), @Unit.unit))), ((h0 ++ v6), @Unit.unit)))
  else
   none
 else
  some ((@Unit.unit, (h0, @Unit.unit)))
def qOJoinL9R (N : Nat) (c : (((List (List (Int))) × ((Int) × ((Int) × Unit))) × ((List (Int)) × Unit))) : Option ((Unit × ((List (Int)) × Unit))) := gl (fun X c => qOJoinL9 N X c.1.1 c.1.2.1 c.1.2.2.1 c.2.1) N c
def qOJoin (N : Nat) (parts0 : List (List (Int))) : Option (List (Int)) :=
 Option.bind (qOJoinL3R N ((parts0, ((0 : Int), (parts0, ((((List.length parts0) : Nat) : Int), ((0 : Int), @Unit.unit))))), @Unit.unit)) fun (v2 : (((List (List Int)) × (Int × Unit)) × Unit)) =>
 bif ((decide ((0 : Int) ≤ (0 : Int) ∧ (0 : Int) ≤ v2.1.2.1)) && (roomB (Int.toNat v2.1.2.1) 1)) then
  Option.bind (qOJoinL9R N ((v2.1.1, ((((List.length v2.1.1) : Nat) : Int), ((0 : Int), @Unit.unit))), ((@List.replicate Int (Int.toNat (0 : Int)) (0 : Int)), @Unit.unit))) fun (v3 : (Unit × ((List Int) × Unit))) =>
  some (v3.2.1)
 else
  none
def qOGetL5 (N : Nat) (X : (((List (Int)) × ((Bool) × ((Int) × ((Int) × ((Int) × Unit))))) × Unit) → Option ((((Int) × Unit) × Unit))) (b0 : List (Int)) (little1 : Bool) (n6 : Int) (x17 : Int) (x18 : Int) : Option ((((Int) × Unit) × Unit)) :=
 bif (decide (x18 < x17)) then
  Option.bind (qOplace N x18 (((List.length b0) : Nat) : Int) little1) fun (v7 : Int) =>
  Option.bind (getI b0 v7) fun (v8 : Int) =>
  bif (decide ((0 : Int) ≤ (Go.IntKind.wrap .i64 ((8 : Int) * x18)))) then
   (X ((b0, (little1, ((@Go.bits @Go.BinOp.or @Go.IntKind.u64 n6 (Go.IntKind.wrap .u64 ((Go.IntKind.wrap .u64 v8) * (@HPow.hPow Int Nat Int (@instHPow Int Nat (@instPowNat Int @Int.instNatPow)) (2 : Int) (@Min.min Nat @instMinNat (Int.toNat (Go.IntKind.wrap .i64 ((8 : Int) * x18))) (@Go.IntKind.bits @Go.IntKind.u64)))))), (x17, ((Go.IntKind.wrap .i64 (x18 + (1 : Int))), @Unit.unit))))), @Unit.unit))
  else
   none
 else
  some (((n6, @Unit.unit), @Unit.unit))
def qOGetL5R (N : Nat) (c : (((List (Int)) × ((Bool) × ((Int) × ((Int) × ((Int) × Unit))))) × Unit)) : Option ((((Int) × Unit) × Unit)) := gl (fun X c => qOGetL5 N X c.1.1 c.1.2.1 c.1.2.2.1 c.1.2.2.2.1 c.1.2.2.2.2.1) N c
def qOGet (N : Nat) (b0 : List (Int)) (little1 : Bool) : Option ((Int) × Int) :=
 bif (decide ((((List.length b0) : Nat) : Int) < (1 : Int))) then
  some (((0 : Int), (1 : Int)))
 else
  bif (@cond Bool @Bool.false @Bool.true (decide ((8 : Int) < (((List.length b0) : Nat) : Int)))) then
   some (((0 : Int), (1 : Int)))
  else
   Option.bind (qOGetL5R N ((b0, (little1, ((0 : Int), ((((List.length b0) : Nat) : Int), ((0 : Int), @Unit.unit))))), @Unit.unit)) fun (v3 : ((Int × Unit) × Unit)) =>
   some ((v3.1.1, (0 : Int)))
def qRBigL3 (N : Nat) (X : (((Int) × ((Int) × Unit)) × ((List (Int)) × Unit)) → Option ((Unit × ((List (Int)) × Unit)))) (n0 : Int) (i6 : Int) (h0 : List (Int)) : Option ((Unit × ((List (Int)) × Unit))) :=
 bif (decide ((0 : Int) ≤ i6)) then
  bif (decide ((0 : Int) ≤ i6 ∧ i6 < (((List.length h0) : Nat) : Int))) then
   Option.bind (@GetElem?.getElem? (List Int) Nat Int (fun (as5 : (List Int)) => (fun (i6 : Nat) => (@LT.lt Nat @instLTNat i6 (List.length as5)))) (@List.instGetElem?NatLtLength Int) h0 (Int.toNat i6)) fun (v5 : Int) =>
   (X (((Go.IntKind.wrap .u64 (@Int.tdiv n0 (256 : Int))), ((Go.IntKind.wrap .i64 (i6 - (1 : Int))), @Unit.unit)), ((@List.set Int h0 (Int.toNat i6) (Go.IntKind.wrap .u8 (@Int.tmod n0 (256 : Int)))), @Unit.unit)))
  else
   none
 else
  some ((@Unit.unit, (h0, @Unit.unit)))
def qRBigL3R (N : Nat) (c : (((Int) × ((Int) × Unit)) × ((List (Int)) × Unit))) : Option ((Unit × ((List (Int)) × Unit))) := gl (fun X c => qRBigL3 N X c.1.1 c.1.2.1 c.2.1) N c
def qRBig (N : Nat) (n0 : Int) (width1 : Int) : Option (List (Int)) :=
 bif ((decide ((0 : Int) ≤ width1 ∧ width1 ≤ width1)) && (roomB (Int.toNat width1) 1)) then
  Option.bind (qRBigL3R N ((n0, ((Go.IntKind.wrap .i64 (width1 - (1 : Int))), @Unit.unit)), ((@List.replicate Int (Int.toNat width1) (0 : Int)), @Unit.unit))) fun (v3 : (Unit × ((List Int) × Unit))) =>
  some (v3.2.1)
 else
  none
def qRNumL3 (N : Nat) (X : (((List (Int)) × ((Int) × ((Int) × Unit))) × Unit) → Option ((((Int) × Unit) × Unit))) (b0 : List (Int)) (n3 : Int) (i4 : Int) : Option ((((Int) × Unit) × Unit)) :=
 bif (decide (i4 < (((List.length b0) : Nat) : Int))) then
  Option.bind (getI b0 i4) fun (v5 : Int) =>
  (X ((b0, ((Go.IntKind.wrap .u64 ((Go.IntKind.wrap .u64 (n3 * (256 : Int))) + (Go.IntKind.wrap .u64 v5))), ((Go.IntKind.wrap .i64 (i4 + (1 : Int))), @Unit.unit))), @Unit.unit))
 else
  some (((n3, @Unit.unit), @Unit.unit))
def qRNumL3R (N : Nat) (c : (((List (Int)) × ((Int) × ((Int) × Unit))) × Unit)) : Option ((((Int) × Unit) × Unit)) := gl (fun X c => qRNumL3 N X c.1.1 c.1.2.1 c.1.2.2.1) N c
def qRNum (N : Nat) (b0 : List (Int)) : Option (Int) :=
 Option.bind (qRNumL3R N ((b0, ((0 : Int), ((0 : Int), @Unit.unit))), @Unit.unit)) fun (v2 : ((Int × Unit) × Unit)) =>
 some (v2.1.1)
end Go.Proofs.Ytcmekgfglohooaa
/-
  Numbers as bytes, on plain data: two bytes, four bytes, and parts that are joined.
-/
namespace Go.Proofs.Ytcmekgfglohooaa
set_option maxRecDepth 100000
open Go.RowKit
set_option linter.unusedVariables false
set_option linter.unusedSimpArgs false

theorem q64_of (a : Nat) (ha : a < 18446744073709551616) : (BitVec.ofInt 64 (a : Int)).toNat = a := by
  rw [BitVec.ofInt_natCast, BitVec.toNat_ofNat]; exact Nat.mod_eq_of_lt (by omega)
theorem q64_or (a b : Nat) (ha : a < 18446744073709551616) (hb : b < 18446744073709551616) : bits .or .u64 (a : Int) (b : Int) = ((a ||| b : Nat) : Int) := by
  have hx : a ||| b < 2 ^ 64 := Nat.or_lt_two_pow (n := 64) (by omega) (by omega)
  show IntKind.u64.wrap ((BitVec.ofInt 64 (a : Int) ||| BitVec.ofInt 64 (b : Int)).toNat : Int) = _
  rw [BitVec.toNat_or, q64_of a ha, q64_of b hb, IntKind.wrap_u64]
  omega
/-- The lower bits of one, the higher of another one. -/
theorem or_nat (x y k : Nat) (hx : x < 2 ^ k) (hx' : x < 18446744073709551616) (hy : y * 2 ^ k < 18446744073709551616) : bits .or .u64 (x : Int) ((y * 2 ^ k : Nat) : Int) = ((y * 2 ^ k + x : Nat) : Int) := by
  rw [q64_or x (y * 2 ^ k) hx' hy, Nat.or_comm, ← Nat.shiftLeft_eq, ← Nat.shiftLeft_add_eq_or_of_lt hx]
theorem or_at (a b : Int) (k : Nat) (h0 : 0 ≤ a) (ha : a.toNat < 2 ^ k) (ha' : a < 18446744073709551616) (hb : 0 ≤ b) (hk : b.toNat * 2 ^ k < 18446744073709551616) : bits .or .u64 a (b * ((2 ^ k : Nat) : Int)) = b * ((2 ^ k : Nat) : Int) + a := by
  obtain ⟨x, rfl⟩ := Int.eq_ofNat_of_zero_le h0
  obtain ⟨y, rfl⟩ := Int.eq_ofNat_of_zero_le hb
  have := or_nat x y k (by simpa using ha) (by omega) (by simpa using hk)
  rw [Int.natCast_add, Int.natCast_mul] at this
  exact this
theorem wrapU64 {x : Int} (h1 : 0 ≤ x) (h2 : x < 18446744073709551616) : Go.IntKind.wrap .u64 x = x := by
  rw [IntKind.wrap_u64]; omega
section
variable {N : Nat}
theorem big2 (n : Int) (h : 0 ≤ n ∧ n < 18446744073709551616) (hN : 100 ≤ N) : qRBig N n 2 = some [n / 256 % 256, n % 256] := by
  obtain ⟨M, rfl⟩ : ∃ M, N = M + 3 := ⟨N - 3, by omega⟩
  have r1 : roomB (Int.toNat 2) 1 = true := by decide
  have r2 : List.replicate (Int.toNat 2) (0 : Int) = [0, 0] := rfl
  have w1 : Go.IntKind.wrap .i64 ((2 : Int) - 1) = 1 := by decide
  have w2 : Go.IntKind.wrap .i64 ((1 : Int) - 1) = 0 := by decide
  have w3 : Go.IntKind.wrap .i64 ((0 : Int) - 1) = -1 := by decide
  have d1 : Int.tdiv n 256 = n / 256 := Int.tdiv_eq_ediv_of_nonneg h.1
  have d2 : Int.tmod n 256 = n % 256 := Int.tmod_eq_emod_of_nonneg h.1
  have d3 : Int.tmod (n / 256) 256 = n / 256 % 256 := Int.tmod_eq_emod_of_nonneg (by omega)
  have w4 : Go.IntKind.wrap .u64 (n / 256) = n / 256 := wrapU64 (by omega) (by omega)
  have w5 : Go.IntKind.wrap .u8 (n % 256) = n % 256 := wrapU8 (by omega) (by omega)
  have w6 : Go.IntKind.wrap .u8 (n / 256 % 256) = n / 256 % 256 := wrapU8 (by omega) (by omega)
  simp only [qRBig, qRBigL3R, gl, qRBigL3, r1, r2, w1]
  have z0 : Go.IntKind.wrap .i64 (0 : Int) = 0 := by decide
  have z1 : Go.IntKind.wrap .i64 (-1 : Int) = -1 := by decide
  simp [w1, w2, w3, d1, d2, d3, w4, w5, w6, z0, z1]
theorem num2 (x y : Int) (hx : 0 ≤ x ∧ x < 256) (hy : 0 ≤ y ∧ y < 256) (hN : 100 ≤ N) : qRNum N [x, y] = some (x * 256 + y) := by
  obtain ⟨M, rfl⟩ : ∃ M, N = M + 3 := ⟨N - 3, by omega⟩
  have w1 : Go.IntKind.wrap .i64 ((0 : Int) + 1) = 1 := by decide
  have w2 : Go.IntKind.wrap .i64 ((1 : Int) + 1) = 2 := by decide
  have w3 : Go.IntKind.wrap .u64 ((0 : Int) * 256) = 0 := by decide
  have w4 : Go.IntKind.wrap .u64 x = x := wrapU64 (by omega) (by omega)
  have w4' : Go.IntKind.wrap .u64 ((0 : Int) + x) = x := by rw [Int.zero_add]; exact w4
  have w5 : Go.IntKind.wrap .u64 y = y := wrapU64 (by omega) (by omega)
  have w6 : Go.IntKind.wrap .u64 (x * 256) = x * 256 := wrapU64 (by omega) (by omega)
  have w7 : Go.IntKind.wrap .u64 (x * 256 + y) = x * 256 + y := wrapU64 (by omega) (by omega)
  have g0 : getI [x, y] (0 : Int) = some x := rfl
  have g1 : getI [x, y] (1 : Int) = some y := rfl
  simp only [qRNum, qRNumL3R, gl, qRNumL3, g0, Option.bind_some, w1, w3, w4, w4', g1, w2, w5, w6, w7]
  simp [g1, w2, w5, w6, w7]
theorem put2 (n : Int) (h : 0 ≤ n ∧ n < 18446744073709551616) (hN : 100 ≤ N) : qOPut N n 2 false = some ([n / 256 % 256, n % 256], 0) := by
  obtain ⟨M, rfl⟩ : ∃ M, N = M + 3 := ⟨N - 3, by omega⟩
  have r1 : roomB (Int.toNat 2) 1 = true := by decide
  have r2 : List.replicate (Int.toNat 2) (0 : Int) = [0, 0] := rfl
  have w1 : Go.IntKind.wrap .i64 ((2 : Int) - 1) = 1 := by decide
  have w2 : Go.IntKind.wrap .i64 ((1 : Int) - 1) = 0 := by decide
  have w3 : Go.IntKind.wrap .i64 ((0 : Int) + 1) = 1 := by decide
  have w4 : Go.IntKind.wrap .i64 ((1 : Int) + 1) = 2 := by decide
  have w5 : Go.IntKind.wrap .i64 ((1 : Int) - 0) = 1 := by decide
  have e1 : (2 : Int) ^ min (Int.toNat 8) (IntKind.bits IntKind.u64) = 256 := by decide
  have d1 : Int.fdiv n 256 = n / 256 := Int.fdiv_eq_ediv_of_nonneg n (by decide)
  have d2 : Int.fdiv (n / 256) 256 = n / 256 / 256 := Int.fdiv_eq_ediv_of_nonneg _ (by decide)
  have w7 : Go.IntKind.wrap .u8 n = n % 256 := by rw [IntKind.wrap_u8]
  have w8 : Go.IntKind.wrap .u8 (n / 256) = n / 256 % 256 := by rw [IntKind.wrap_u8]
  simp only [qOPut, qOPutL5R, gl, qOPutL5, qOplace, r1, r2, e1, cond_false, Option.bind_some, w1, w2, w3, w4, w5]
  simp [w1, w2, w3, w4, w5, d1, d2, w7, w8]
theorem get2 (x y : Int) (hx : 0 ≤ x ∧ x < 256) (hy : 0 ≤ y ∧ y < 256) (hN : 100 ≤ N) : qOGet N [x, y] false = some (x * 256 + y, 0) := by
  obtain ⟨M, rfl⟩ : ∃ M, N = M + 3 := ⟨N - 3, by omega⟩
  have w1 : Go.IntKind.wrap .i64 ((2 : Int) - 1) = 1 := by decide
  have w2 : Go.IntKind.wrap .i64 ((1 : Int) - 1) = 0 := by decide
  have w3 : Go.IntKind.wrap .i64 ((0 : Int) + 1) = 1 := by decide
  have w4 : Go.IntKind.wrap .i64 ((1 : Int) + 1) = 2 := by decide
  have w0 : Go.IntKind.wrap .i64 ((1 : Int) - 0) = 1 := by decide
  have w5 : Go.IntKind.wrap .i64 ((8 : Int) * 0) = 0 := by decide
  have w6 : Go.IntKind.wrap .i64 ((8 : Int) * 1) = 8 := by decide
  have w7 : Go.IntKind.wrap .u64 x = x := wrapU64 (by omega) (by omega)
  have w8 : Go.IntKind.wrap .u64 y = y := wrapU64 (by omega) (by omega)
  have e0 : (2 : Int) ^ min (Int.toNat 0) (IntKind.bits IntKind.u64) = 1 := by decide
  have e1 : (2 : Int) ^ min (Int.toNat 8) (IntKind.bits IntKind.u64) = 256 := by decide
  have w9 : Go.IntKind.wrap .u64 (x * 256) = x * 256 := wrapU64 (by omega) (by omega)
  have w10 : Go.IntKind.wrap .u64 (y * 1) = y := by rw [Int.mul_one]; exact w8
  have o1 : bits .or .u64 0 y = y := by
    have := or_at 0 y 0 (by decide) (by decide) (by decide) (by omega) (by simp; omega)
    simpa using this
  have o2 : bits .or .u64 y (x * 256) = x * 256 + y := or_at y x 8 (by omega) (by show y.toNat < 256; omega) (by omega) (by omega) (by show x.toNat * 256 < _; omega)
  have g0 : getI [x, y] (0 : Int) = some x := rfl
  have g1 : getI [x, y] (1 : Int) = some y := rfl
  have l2 : (([x, y] : List Int).length : Int) = 2 := rfl
  simp only [qOGet, qOGetL5R, gl, qOGetL5, qOplace, l2, cond_false, Option.bind_some, w0, w1, w2, w3, w4, w5, w6, w7, w8, w9, w10, e0, e1, o1, o2, g0, g1]
  simp [w4, w6, w7, w9, e1, o2, w2, g0]
theorem big4 (n : Int) (h : 0 ≤ n ∧ n < 18446744073709551616) (hN : 100 ≤ N) : qRBig N n 4 = some [n / 16777216 % 256, n / 65536 % 256, n / 256 % 256, n % 256] := by
  obtain ⟨M, rfl⟩ : ∃ M, N = M + 5 := ⟨N - 5, by omega⟩
  have r1 : roomB (Int.toNat 4) 1 = true := by decide
  have r2 : List.replicate (Int.toNat 4) (0 : Int) = [0, 0, 0, 0] := rfl
  have w1 : Go.IntKind.wrap .i64 ((4 : Int) - 1) = 3 := by decide
  have d1 : Int.tdiv n 256 = n / 256 := Int.tdiv_eq_ediv_of_nonneg h.1
  have d2 : Int.tmod n 256 = n % 256 := Int.tmod_eq_emod_of_nonneg h.1
  have d3 : Int.tmod (n / 256) 256 = n / 256 % 256 := Int.tmod_eq_emod_of_nonneg (by omega)
  have d4 : Int.tdiv (n / 256) 256 = n / 65536 := by rw [Int.tdiv_eq_ediv_of_nonneg (by omega)]; omega
  have d5 : Int.tmod (n / 65536) 256 = n / 65536 % 256 := Int.tmod_eq_emod_of_nonneg (by omega)
  have d6 : Int.tdiv (n / 65536) 256 = n / 16777216 := by rw [Int.tdiv_eq_ediv_of_nonneg (by omega)]; omega
  have d7 : Int.tmod (n / 16777216) 256 = n / 16777216 % 256 := Int.tmod_eq_emod_of_nonneg (by omega)
  have w4 : Go.IntKind.wrap .u64 (n / 256) = n / 256 := wrapU64 (by omega) (by omega)
  have w4a : Go.IntKind.wrap .u64 (n / 65536) = n / 65536 := wrapU64 (by omega) (by omega)
  have w4b : Go.IntKind.wrap .u64 (n / 16777216) = n / 16777216 := wrapU64 (by omega) (by omega)
  have w5 : Go.IntKind.wrap .u8 (n % 256) = n % 256 := wrapU8 (by omega) (by omega)
  have w6 : Go.IntKind.wrap .u8 (n / 256 % 256) = n / 256 % 256 := wrapU8 (by omega) (by omega)
  have w7 : Go.IntKind.wrap .u8 (n / 65536 % 256) = n / 65536 % 256 := wrapU8 (by omega) (by omega)
  have w8 : Go.IntKind.wrap .u8 (n / 16777216 % 256) = n / 16777216 % 256 := wrapU8 (by omega) (by omega)
  have z0 : Go.IntKind.wrap .i64 (0 : Int) = 0 := by decide
  have z1 : Go.IntKind.wrap .i64 (-1 : Int) = -1 := by decide
  have z2 : Go.IntKind.wrap .i64 (1 : Int) = 1 := by decide
  have z3 : Go.IntKind.wrap .i64 (2 : Int) = 2 := by decide
  simp only [qRBig, qRBigL3R, gl, qRBigL3, r1, r2, w1]
  simp [w1, d1, d2, d3, d4, d5, d6, d7, w4, w4a, w4b, w5, w6, w7, w8, z0, z1, z2, z3]
theorem num4 (x y z u : Int) (hx : 0 ≤ x ∧ x < 256) (hy : 0 ≤ y ∧ y < 256) (hz : 0 ≤ z ∧ z < 256) (hu : 0 ≤ u ∧ u < 256) (hN : 100 ≤ N) : qRNum N [x, y, z, u] = some (((x * 256 + y) * 256 + z) * 256 + u) := by
  obtain ⟨M, rfl⟩ : ∃ M, N = M + 5 := ⟨N - 5, by omega⟩
  have w1 : Go.IntKind.wrap .i64 ((0 : Int) + 1) = 1 := by decide
  have w2 : Go.IntKind.wrap .i64 ((1 : Int) + 1) = 2 := by decide
  have w2a : Go.IntKind.wrap .i64 ((2 : Int) + 1) = 3 := by decide
  have w2b : Go.IntKind.wrap .i64 ((3 : Int) + 1) = 4 := by decide
  have w3 : Go.IntKind.wrap .u64 ((0 : Int) * 256) = 0 := by decide
  have w4 : Go.IntKind.wrap .u64 x = x := wrapU64 (by omega) (by omega)
  have w4' : Go.IntKind.wrap .u64 ((0 : Int) + x) = x := by rw [Int.zero_add]; exact w4
  have w5 : Go.IntKind.wrap .u64 y = y := wrapU64 (by omega) (by omega)
  have w5a : Go.IntKind.wrap .u64 z = z := wrapU64 (by omega) (by omega)
  have w5b : Go.IntKind.wrap .u64 u = u := wrapU64 (by omega) (by omega)
  have w6 : Go.IntKind.wrap .u64 (x * 256) = x * 256 := wrapU64 (by omega) (by omega)
  have w7 : Go.IntKind.wrap .u64 (x * 256 + y) = x * 256 + y := wrapU64 (by omega) (by omega)
  have w8 : Go.IntKind.wrap .u64 ((x * 256 + y) * 256) = (x * 256 + y) * 256 := wrapU64 (by omega) (by omega)
  have w9 : Go.IntKind.wrap .u64 ((x * 256 + y) * 256 + z) = (x * 256 + y) * 256 + z := wrapU64 (by omega) (by omega)
  have w10 : Go.IntKind.wrap .u64 (((x * 256 + y) * 256 + z) * 256) = ((x * 256 + y) * 256 + z) * 256 := wrapU64 (by omega) (by omega)
  have w11 : Go.IntKind.wrap .u64 (((x * 256 + y) * 256 + z) * 256 + u) = ((x * 256 + y) * 256 + z) * 256 + u := wrapU64 (by omega) (by omega)
  have g0 : getI [x, y, z, u] (0 : Int) = some x := rfl
  have g1 : getI [x, y, z, u] (1 : Int) = some y := rfl
  have g2 : getI [x, y, z, u] (2 : Int) = some z := rfl
  have g3 : getI [x, y, z, u] (3 : Int) = some u := rfl
  simp only [qRNum, qRNumL3R, gl, qRNumL3, g0, Option.bind_some, w1, w3, w4, w4', g1, w2, w5, w6, w7, g2, g3, w2a, w2b, w5a, w5b, w8, w9, w10, w11]
  simp [g1, w2, w5, w6, w7, g2, g3, w2a, w2b, w5a, w5b, w8, w9, w10, w11]
theorem put4 (n : Int) (h : 0 ≤ n ∧ n < 18446744073709551616) (hN : 100 ≤ N) : qOPut N n 4 false = some ([n / 16777216 % 256, n / 65536 % 256, n / 256 % 256, n % 256], 0) := by
  obtain ⟨M, rfl⟩ : ∃ M, N = M + 5 := ⟨N - 5, by omega⟩
  have r1 : roomB (Int.toNat 4) 1 = true := by decide
  have r2 : List.replicate (Int.toNat 4) (0 : Int) = [0, 0, 0, 0] := rfl
  have w1 : Go.IntKind.wrap .i64 ((4 : Int) - 1) = 3 := by decide
  have v0 : Go.IntKind.wrap .i64 ((3 : Int) - 0) = 3 := by decide
  have v1 : Go.IntKind.wrap .i64 ((3 : Int) - 1) = 2 := by decide
  have v2 : Go.IntKind.wrap .i64 ((3 : Int) - 2) = 1 := by decide
  have v3 : Go.IntKind.wrap .i64 ((3 : Int) - 3) = 0 := by decide
  have w3 : Go.IntKind.wrap .i64 ((0 : Int) + 1) = 1 := by decide
  have w4 : Go.IntKind.wrap .i64 ((1 : Int) + 1) = 2 := by decide
  have w5 : Go.IntKind.wrap .i64 ((2 : Int) + 1) = 3 := by decide
  have w6 : Go.IntKind.wrap .i64 ((3 : Int) + 1) = 4 := by decide
  have e1 : (2 : Int) ^ min (Int.toNat 8) (IntKind.bits IntKind.u64) = 256 := by decide
  have d1 : Int.fdiv n 256 = n / 256 := Int.fdiv_eq_ediv_of_nonneg n (by decide)
  have d2 : Int.fdiv (n / 256) 256 = n / 65536 := by rw [Int.fdiv_eq_ediv_of_nonneg _ (by decide)]; omega
  have d3 : Int.fdiv (n / 65536) 256 = n / 16777216 := by rw [Int.fdiv_eq_ediv_of_nonneg _ (by decide)]; omega
  have w7 : Go.IntKind.wrap .u8 n = n % 256 := by rw [IntKind.wrap_u8]
  have w8 : Go.IntKind.wrap .u8 (n / 256) = n / 256 % 256 := by rw [IntKind.wrap_u8]
  have w9 : Go.IntKind.wrap .u8 (n / 65536) = n / 65536 % 256 := by rw [IntKind.wrap_u8]
  have w10 : Go.IntKind.wrap .u8 (n / 16777216) = n / 16777216 % 256 := by rw [IntKind.wrap_u8]
  simp only [qOPut, qOPutL5R, gl, qOPutL5, qOplace, r1, r2, e1, cond_false, Option.bind_some, w1, v0, v1, v2, v3, w3, w4, w5, w6]
  simp [w1, v0, v1, v2, v3, w3, w4, w5, w6, d1, d2, d3, w7, w8, w9, w10]
theorem get4 (x y z u : Int) (hx : 0 ≤ x ∧ x < 256) (hy : 0 ≤ y ∧ y < 256) (hz : 0 ≤ z ∧ z < 256) (hu : 0 ≤ u ∧ u < 256) (hN : 100 ≤ N) : qOGet N [x, y, z, u] false = some (((x * 256 + y) * 256 + z) * 256 + u, 0) := by
  obtain ⟨M, rfl⟩ : ∃ M, N = M + 5 := ⟨N - 5, by omega⟩
  have w1 : Go.IntKind.wrap .i64 ((4 : Int) - 1) = 3 := by decide
  have v0 : Go.IntKind.wrap .i64 ((3 : Int) - 0) = 3 := by decide
  have v1 : Go.IntKind.wrap .i64 ((3 : Int) - 1) = 2 := by decide
  have v2 : Go.IntKind.wrap .i64 ((3 : Int) - 2) = 1 := by decide
  have v3 : Go.IntKind.wrap .i64 ((3 : Int) - 3) = 0 := by decide
  have w3 : Go.IntKind.wrap .i64 ((0 : Int) + 1) = 1 := by decide
  have w4 : Go.IntKind.wrap .i64 ((1 : Int) + 1) = 2 := by decide
  have w5 : Go.IntKind.wrap .i64 ((2 : Int) + 1) = 3 := by decide
  have w6 : Go.IntKind.wrap .i64 ((3 : Int) + 1) = 4 := by decide
  have m0 : Go.IntKind.wrap .i64 ((8 : Int) * 0) = 0 := by decide
  have m1 : Go.IntKind.wrap .i64 ((8 : Int) * 1) = 8 := by decide
  have m2 : Go.IntKind.wrap .i64 ((8 : Int) * 2) = 16 := by decide
  have m3 : Go.IntKind.wrap .i64 ((8 : Int) * 3) = 24 := by decide
  have x1 : Go.IntKind.wrap .u64 x = x := wrapU64 (by omega) (by omega)
  have y1 : Go.IntKind.wrap .u64 y = y := wrapU64 (by omega) (by omega)
  have z1 : Go.IntKind.wrap .u64 z = z := wrapU64 (by omega) (by omega)
  have u1 : Go.IntKind.wrap .u64 u = u := wrapU64 (by omega) (by omega)
  have e0 : (2 : Int) ^ min (Int.toNat 0) (IntKind.bits IntKind.u64) = 1 := by decide
  have e1 : (2 : Int) ^ min (Int.toNat 8) (IntKind.bits IntKind.u64) = 256 := by decide
  have e2 : (2 : Int) ^ min (Int.toNat 16) (IntKind.bits IntKind.u64) = 65536 := by decide
  have e3 : (2 : Int) ^ min (Int.toNat 24) (IntKind.bits IntKind.u64) = 16777216 := by decide
  have u2 : Go.IntKind.wrap .u64 (u * 1) = u := by rw [Int.mul_one]; exact u1
  have z2 : Go.IntKind.wrap .u64 (z * 256) = z * 256 := wrapU64 (by omega) (by omega)
  have y2 : Go.IntKind.wrap .u64 (y * 65536) = y * 65536 := wrapU64 (by omega) (by omega)
  have x2 : Go.IntKind.wrap .u64 (x * 16777216) = x * 16777216 := wrapU64 (by omega) (by omega)
  have o1 : bits .or .u64 0 u = u := by
    have := or_at 0 u 0 (by decide) (by decide) (by decide) (by omega) (by simp; omega)
    simpa using this
  have o2 : bits .or .u64 u (z * 256) = z * 256 + u := or_at u z 8 (by omega) (by show u.toNat < 256; omega) (by omega) (by omega) (by show z.toNat * 256 < _; omega)
  have o3 : bits .or .u64 (z * 256 + u) (y * 65536) = y * 65536 + (z * 256 + u) := or_at (z * 256 + u) y 16 (by omega) (by show (z * 256 + u).toNat < 65536; omega) (by omega) (by omega) (by show y.toNat * 65536 < _; omega)
  have o4 : bits .or .u64 (y * 65536 + (z * 256 + u)) (x * 16777216) = x * 16777216 + (y * 65536 + (z * 256 + u)) := or_at (y * 65536 + (z * 256 + u)) x 24 (by omega) (by show (y * 65536 + (z * 256 + u)).toNat < 16777216; omega) (by omega) (by omega) (by show x.toNat * 16777216 < _; omega)
  have fin : x * 16777216 + (y * 65536 + (z * 256 + u)) = ((x * 256 + y) * 256 + z) * 256 + u := by omega
  have g0 : getI [x, y, z, u] (0 : Int) = some x := rfl
  have g1 : getI [x, y, z, u] (1 : Int) = some y := rfl
  have g2 : getI [x, y, z, u] (2 : Int) = some z := rfl
  have g3 : getI [x, y, z, u] (3 : Int) = some u := rfl
  have l4 : (([x, y, z, u] : List Int).length : Int) = 4 := rfl
  rw [← fin]
  simp only [qOGet, qOGetL5R, gl, qOGetL5, qOplace, l4, cond_false, Option.bind_some, w1, v0, v1, v2, v3, w3, w4, w5, w6, m0, m1, m2, m3, x1, y1, z1, u1, e0, e1, e2, e3, u2, z2, y2, x2, o1, o2, o3, o4, g0, g1, g2, g3]
  simp [w1, v0, v1, v2, v3, w3, w4, w5, w6, m1, m2, m3, x1, y1, z1, u1, e1, e2, e3, z2, y2, x2, o2, o3, o4, g0, g1, g2, g3]
/-- Parts that are joined. -/
theorem join_ok (l : List (List Int)) (hl : l.length ≤ 1000) (hs : ∀ p ∈ l, p.length ≤ 100000) (hN : 2000 ≤ N) : qOJoin N l = some l.flatten := by
  have tot : ∀ (m : List (List Int)), (∀ p ∈ m, p.length ≤ 100000) → m.flatten.length ≤ 100000 * m.length := by
    intro m
    induction m with
    | nil => intro _; simp
    | cons p m ih =>
      intro h
      have h1 := h p List.mem_cons_self
      have h2 := ih fun q hq => h q (List.mem_cons_of_mem _ hq)
      rw [List.flatten_cons, List.length_append, List.length_cons]
      omega
  have tk : ∀ i, (l.take i).flatten.length ≤ 100000000 := fun i => by
    have := tot (l.take i) fun p hp => hs p (List.mem_of_mem_take hp)
    rw [List.length_take] at this
    omega
  have hsn : ∀ i (hi : i < l.length), (l.take (i + 1)).flatten = (l.take i).flatten ++ l[i] := fun i hi => by
    have : l.take (i + 1) = l.take i ++ [l[i]] := by rw [List.take_add_one, List.getElem?_eq_getElem hi]; rfl
    rw [this, List.flatten_append]
    simp
  have h1 := gl_run (G := fun (X : ((List (List Int) × Int × List (List Int) × Int × Int × Unit) × Unit) → Option ((List (List Int) × Int × Unit) × Unit)) c => qOJoinL3 N X c.1.1 c.1.2.1 c.1.2.2.1 c.1.2.2.2.1 c.1.2.2.2.2.1)
    (fun i => ((l, (((l.take i).flatten.length : Int), (l, ((l.length : Int), ((i : Int), ()))))), ())) l.length ((l, ((l.flatten.length : Int), ())), ()) (fun X i hi => by
    have c1 : ((i : Int) < (l.length : Int)) := by omega
    have c2 : Go.IntKind.wrap .i64 ((i : Int) + 1) = ((i + 1 : Nat) : Int) := by rw [wrap64 (by omega) (by omega)]; omega
    have hp := hs _ (List.getElem_mem hi)
    have ht := tk i
    have c3 : Go.IntKind.wrap .i64 (((l.take i).flatten.length : Int) + (l[i].length : Int)) = (((l.take (i + 1)).flatten.length : Nat) : Int) := by rw [wrap64 (by omega) (by omega), hsn i hi, List.length_append]; omega
    simp only [qOJoinL3, c1, decide_true, cond_true, getI_lt l i hi, Option.bind_some, c3, c2]) (fun X => by
    simp [qOJoinL3]) N 0 (by omega) (by omega)
  have h2 := gl_run (G := fun (X : ((List (List Int) × Int × Int × Unit) × List Int × Unit) → Option (Unit × List Int × Unit)) c => qOJoinL9 N X c.1.1 c.1.2.1 c.1.2.2.1 c.2.1)
    (fun i => ((l, ((l.length : Int), ((i : Int), ()))), ((l.take i).flatten, ()))) l.length ((), (l.flatten, ())) (fun X i hi => by
    have c1 : ((i : Int) < (l.length : Int)) := by omega
    have c2 : Go.IntKind.wrap .i64 ((i : Int) + 1) = ((i + 1 : Nat) : Int) := by rw [wrap64 (by omega) (by omega)]; omega
    have hp := hs _ (List.getElem_mem hi)
    have ht := tk i
    have c3 : roomB ((l.take i).flatten.length + l[i].length) 1 = true := roomB_of (by have := big_len; omega) (by omega)
    simp only [qOJoinL9, c1, decide_true, cond_true, getI_lt l i hi, Option.bind_some, c3, c2, hsn i hi]) (fun X => by
    simp [qOJoinL9]) N 0 (by omega) (by omega)
  have htot := tk l.length
  rw [List.take_length] at htot
  have c4 : (decide ((0 : Int) ≤ (0 : Int) ∧ (0 : Int) ≤ (l.flatten.length : Int)) && roomB (Int.toNat (l.flatten.length : Int)) 1) = true := by
    rw [Bool.and_eq_true]
    exact ⟨decide_eq_true ⟨by omega, by omega⟩, roomB_of (by have := big_len; omega) (by omega)⟩
  unfold qOJoin qOJoinL3R qOJoinL9R
  simp only [Int.natCast_zero, List.take_zero, List.flatten_nil, List.length_nil] at h1 h2
  rw [h1]
  simp only [Option.bind_some, c4, cond_true]
  have e0 : List.replicate (Int.toNat 0) (0 : Int) = [] := rfl
  rw [e0, h2]
  rfl
end
end Go.Proofs.Ytcmekgfglohooaa
/-
  Functions of the library that have no body: what the model says of them, on typed data.
-/
namespace Go.Proofs.Ytcmekgfglohooaa
set_option maxRecDepth 100000
open Go.RowKit
set_option linter.unusedVariables false
set_option linter.unusedSimpArgs false

/-- Where a byte stands first. -/
def idxB (s : List UInt8) (z : Int) : Int := match s.findIdx? (fun b => b == z.toNat.toUInt8) with
  | some i => (i : Int)
  | none => -1
section
variable {P : Program} {R : Type}
def ixK {R : Type} (args : List V) (k : V → Tree R) : Tree R := match args with
  | [.str s, .c (.int .u8 z)] => k (.c (.int .i64 (idxB s z)))
  | _ => .fail
theorem find_range (s : List UInt8) (p : UInt8 → Bool) : ∀ (n i : Nat), i + n = s.length → ((List.range' i n).find? fun j => p (s.getD j 0)) = ((s.drop i).findIdx? p).map (i + ·)
  | 0, i, h => by rw [List.drop_of_length_le (by omega)]; rfl
  | n + 1, i, h => by
    have hi : i < s.length := by omega
    rw [List.range'_succ, List.find?_cons, List.drop_eq_getElem_cons hi, List.findIdx?_cons, find_range s p n (i + 1) (by omega)]
    have e : s.getD i 0 = s[i] := by simp [List.getD_eq_getElem?_getD, hi]
    rw [e]
    cases p s[i] with
    | true => simp
    | false =>
      simp only [Bool.false_eq_true, if_false, Option.map_map]
      cases (s.drop (i + 1)).findIdx? p with
      | none => rfl
      | some j => simp; omega
theorem run_index {s : List UInt8} {z : Int} {w : World} : (Extern.BytealgIndexByte.indexByte #[.string ⟨s.toArray⟩, .int .u8 z]).run P w = .ok (.int .i64 (idxB s z)) w := by
  have hsz : (ByteArray.mk s.toArray).size = s.length := by show s.toArray.size = _; simp
  have hget : ∀ i, (ByteArray.mk s.toArray)[i]! = s.getD i 0 := fun i => by
    rcases Nat.lt_or_ge i s.length with hi | hi
    · rw [getElem!_pos (ByteArray.mk s.toArray) i (by rw [hsz]; exact hi), List.getD_eq_getElem?_getD, List.getElem?_eq_getElem hi]
      rfl
    · rw [getElem!_neg (ByteArray.mk s.toArray) i (by rw [hsz]; omega), List.getD_eq_getElem?_getD, List.getElem?_eq_none hi]
      rfl
  have e := find_range s (fun b => b == z.toNat.toUInt8) s.length 0 (by omega)
  rw [List.drop_zero] at e
  unfold idxB
  show Sem.run P (do
    let b ← Extern.Bytes.bytesOf (.string ⟨s.toArray⟩)
    let c ← Extern.Bytes.asByte (.int .u8 z)
    match (List.range b.size).find? fun i => b[i]! == c with
    | some i => pure (goInt i)
    | none => pure (goInt (-1))) w = _
  simp only [Extern.Bytes.bytesOf, Extern.Bytes.asByte, Sem.run_bind, Sem.run_pure, Result.andThen_ok, hsz, List.range_eq_range', hget]
  rw [e]
  cases s.findIdx? (fun b => b == z.toNat.toUInt8) with
  | none => rfl
  | some i => simp [goInt]
theorem ix_ok {f : FuncId} {fn : Func} (hf : P.funcs[f]? = some fn) (hb : fn.body.isNone = true) (hn : fn.name ≠ "runtime.NumGoroutine") (h1 : (Extern.findNext fn).isNone = true) (h2 : Extern.find fn = some Extern.BytealgIndexByte.indexByte) :
    ∀ args (k : V → Tree R) res, (ixK args k).run = some res → ∃ r, (k r).run = some res ∧ r.plain = true ∧ (∀ l k, ex r ≠ .fresh l k) ∧ CallsV P f args r := by
  intro args k res h
  unfold ixK at h
  split at h
  · rename_i s z
    refine ⟨_, h, rfl, (fun l k h => by cases h), fun w B cargs hB hgl hlen hrel N hN => ?_⟩
    obtain ⟨v0, e0, r0⟩ := hrel 0 _ rfl
    obtain ⟨v1, e1, r1⟩ := hrel 1 _ rfl
    have hc : cargs = [v0, v1] := by
      match cargs, hlen, e0, e1 with
      | [a, b], _, e0, e1 => simp at e0 e1; rw [e0, e1]
    have q0 := Rel.ofC r0
    have q1 := Rel.ofC r1
    subst q0 q1 hc
    unfold EntersV
    have h1' : Extern.findNext fn = none := Option.isNone_iff_eq_none.1 h1
    have hb' : fn.body = none := Option.isNone_iff_eq_none.1 hb
    have hm : Sem.run P (mark (.extern f)) w = .ok () w := rfl
    have hrun : (callFunc f [Value.string ⟨s.toArray⟩, Value.int .u8 z].toArray).run P w = .ok (.value (.int .i64 (idxB s z))) w := by
      simp [callFunc, Sem.run_bind, hf, hn, hb', hm, h1', h2, run_index]
    rw [hrun]
    exact hN _ _ (Gr.refl _) (.c _ _)
  · cases h
/-- A function more, that has no body. -/
theorem EnvOK.addExt {Γ : (R : Type) → Env R} (hΓ : EnvOK P (Γ R)) {f : FuncId} {F : (R : Type) → List V → (V → Tree R) → Tree R} (h : ∀ args (k : V → Tree R) res, (F R args k).run = some res → ∃ r, (k r).run = some res ∧ r.plain = true ∧ (∀ l k, ex r ≠ .fresh l k) ∧ CallsV P f args r) : EnvOK P (Env.addFn Γ f F R) := by
  refine ⟨⟨fun f' args k res hc => ?_⟩, hΓ.inl, hΓ.lp, hΓ.cln⟩
  simp only [Env.addFn] at hc
  split at hc
  · rename_i hff
    subst hff
    exact h args k res hc
  · exact hΓ.fns.ok f' args k res hc
end
end Go.Proofs.Ytcmekgfglohooaa
/-
  Functions of the program as plain functions on typed data, and that they are so. Printed by a program of mine.
-/
namespace Go.Proofs.Ytcmekgfglohooaa
open Go.RowKit
set_option linter.unusedVariables false
set_option maxRecDepth 100000
theorem hmx : Go.Proofs.Try.prog.follows .mixedOrders = true := by kernel_rfl
noncomputable def Ev0 (N : Nat) : (R : Type) → Env R := Env.addInl env0 []
theorem Ev0_ok (N : Nat) (R : Type) : EnvOK Go.Proofs.Try.prog (Ev0 N R) := EnvOK.addInl (env0_ok R) (by kernel_rfl)
noncomputable def octs_place (N : Nat) (i0 : Int) (width1 : Int) (little2 : Bool) : Option (Int) :=
 bif little2 then
  some (i0)
 else
  some ((Go.IntKind.wrap .i64 ((Go.IntKind.wrap .i64 (width1 - (1 : Int))) - i0)))
theorem octs_place_S (N : Nat) (i0 : Int) (width1 : Int) (little2 : Bool) : (runK Go.Proofs.Try.prog (Ev0 N) 400 80 [(.int .i64), (.int .i64), .bool] [(.int .i64)] (i0, width1, little2, ())).run = octs_place N i0 width1 little2 := by kernel_rfl
noncomputable def Ev1 (N : Nat) : (R : Type) → Env R := Env.addFn (Ev0 N) 80 (fun R => fnK [(.int .i64), (.int .i64), .bool] [(.int .i64)] (fun c => octs_place N c.1 c.2.1 c.2.2.1))
theorem Ev1_ok (N : Nat) (R : Type) : EnvOK Go.Proofs.Try.prog (Ev1 N R) := EnvOK.addFn hmx (Ev0_ok N R) (Ev0_ok N _) (by kernel_rfl) (fun c => octs_place_S N c.1 c.2.1 c.2.2.1)
noncomputable def octs_Put_L5_I : LI := ⟨35, 0, [], ⟨[(0, .ty (.int .u64)), (1, .ty (.int .i64)), (2, .ty .bool), (8, .lit (.own 0)), (19, .ty (.int .i64)), (20, .ty (.int .i64))], [.own (.int .u8) 5]⟩, [(.exit 0, ⟨[(8, .lit (.own 0))], [.own (.int .u8) 5]⟩)]⟩
noncomputable def octs_Put_L5 (N : Nat) (X : (((Int) × ((Int) × ((Bool) × ((Int) × ((Int) × Unit))))) × ((List (Int)) × Unit)) → Option ((Unit × ((List (Int)) × Unit)))) (n0 : Int) (width1 : Int) (little2 : Bool) (x19 : Int) (x20 : Int) (h0 : List (Int)) : Option ((Unit × ((List (Int)) × Unit))) :=
 bif (decide (x20 < x19)) then
  Option.bind (@octs_place N x20 width1 little2) fun (v8 : Int) =>
  bif (decide ((0 : Int) ≤ v8 ∧ v8 < (((List.length h0) : Nat) : Int))) then
   Option.bind (@GetElem?.getElem? (List Int) Nat Int (fun (as9 : (List Int)) => (fun (i10 : Nat) => (@LT.lt Nat @instLTNat i10 (List.length as9)))) (@List.instGetElem?NatLtLength Int) h0 (Int.toNat v8)) fun (v9 : Int) =>
   (X (((@Int.fdiv n0 (@HPow.hPow Int Nat Int (@instHPow Int Nat (@instPowNat Int @Int.instNatPow)) (2 : Int) (@Min.min Nat @instMinNat (Int.toNat (8 : Int)) (@Go.IntKind.bits @Go.IntKind.u64)))), (width1, (little2, (x19, ((Go.IntKind.wrap .i64 (x20 + (1 : Int))), @Unit.unit))))), ((@List.set Int h0 (Int.toNat v8) (Go.IntKind.wrap .u8 n0)), @Unit.unit)))
  else
   none
 else
  some ((@Unit.unit, (h0, @Unit.unit)))
noncomputable def octs_Put_L5_R (N : Nat) (c : (((Int) × ((Int) × ((Bool) × ((Int) × ((Int) × Unit))))) × ((List (Int)) × Unit))) : Option ((Unit × ((List (Int)) × Unit))) := gl (fun X c => octs_Put_L5 N X c.1.1 c.1.2.1 c.1.2.2.1 c.1.2.2.2.1 c.1.2.2.2.2.1 c.2.1) N c
theorem octs_Put_L5_S (N : Nat) (X : (((Int) × ((Int) × ((Bool) × ((Int) × ((Int) × Unit))))) × ((List (Int)) × Unit)) → Option ((Unit × ((List (Int)) × Unit)))) (n0 : Int) (width1 : Int) (little2 : Bool) (x19 : Int) (x20 : Int) (h0 : List (Int)) : (roundK Go.Proofs.Try.prog (Ev1 N) 400 [49] octs_Put_L5_I (loopAt Go.Proofs.Try.prog [49] 5) X ((n0, width1, little2, x19, x20, ()), (h0, ()))).run = octs_Put_L5 N X n0 width1 little2 x19 x20 h0 := by kernel_rfl
noncomputable def Ev2 (N : Nat) : (R : Type) → Env R := Env.addLp (Ev1 N) [49] 0 5 (fun R => lpK Go.Proofs.Try.prog octs_Put_L5_I (fun X c => octs_Put_L5 N X c.1.1 c.1.2.1 c.1.2.2.1 c.1.2.2.2.1 c.1.2.2.2.2.1 c.2.1) N)
theorem Ev2_ok (N : Nat) (R : Type) : EnvOK Go.Proofs.Try.prog (Ev2 N R) := EnvOK.addLp (Ev1_ok N R) (by kernel_rfl) (lpK_ok (li := octs_Put_L5_I) (G := fun X c => octs_Put_L5 N X c.1.1 c.1.2.1 c.1.2.2.1 c.1.2.2.2.1 c.1.2.2.2.2.1 c.2.1) hmx (Ev1_ok N _) (by kernel_rfl) loopAt_sub (fun (X : CT octs_Put_L5_I.sh → Option (OT octs_Put_L5_I.outs)) (c : CT octs_Put_L5_I.sh) => octs_Put_L5_S N X c.1.1 c.1.2.1 c.1.2.2.1 c.1.2.2.2.1 c.1.2.2.2.2.1 c.2.1) N)
noncomputable def octs_Put (N : Nat) (n0 : Int) (width1 : Int) (little2 : Bool) : Option ((List (Int)) × Int) :=
 Option.bind (bif (decide (width1 < (1 : Int))) then
   some (@Bool.true)
  else
   some ((@cond Bool @Bool.false @Bool.true (decide ((8 : Int) < width1))))) fun (v4 : Bool) =>
 bif v4 then
  some ((([] : List (Int)), (1 : Int)))
 else
  bif ((decide ((0 : Int) ≤ width1 ∧ width1 ≤ width1)) && (roomB (Int.toNat width1) 1)) then
   Option.bind (octs_Put_L5_R N ((n0, (width1, (little2, ((((List.length (@List.replicate Int (Int.toNat width1) (0 : Int))) : Nat) : Int), ((0 : Int), @Unit.unit))))), ((@List.replicate Int (Int.toNat width1) (0 : Int)), @Unit.unit))) fun (v5 : (Unit × ((List Int) × Unit))) =>
   some ((v5.2.1, (0 : Int)))
  else
   none
theorem octs_Put_S (N : Nat) (n0 : Int) (width1 : Int) (little2 : Bool) : (runK Go.Proofs.Try.prog (Ev2 N) 400 49 [(.int .u64), (.int .i64), .bool] [(.sl (.int .u8)), (.int .i64)] (n0, width1, little2, ())).run = octs_Put N n0 width1 little2 := by kernel_rfl
theorem octs_Put_C (N : Nat) (n0 : Int) (width1 : Int) (little2 : Bool) (y : (List (Int)) × Int) (h : octs_Put N n0 width1 little2 = some y) : CallsK Go.Proofs.Try.prog 49 (valA [(.int .u64), (.int .i64), .bool] (n0, width1, little2, ())) (tupV (valR [(.sl (.int .u8)), (.int .i64)] y)) := runK_ok hmx (Ev2_ok N _) (okFn_ok (by kernel_rfl)) (by rw [octs_Put_S]; exact h)
noncomputable def Ev3 (N : Nat) : (R : Type) → Env R := Env.addFn (Ev2 N) 49 (fun R => fnK [(.int .u64), (.int .i64), .bool] [(.sl (.int .u8)), (.int .i64)] (fun c => octs_Put N c.1 c.2.1 c.2.2.1))
theorem Ev3_ok (N : Nat) (R : Type) : EnvOK Go.Proofs.Try.prog (Ev3 N R) := EnvOK.addFn hmx (Ev2_ok N R) (Ev2_ok N _) (by kernel_rfl) (fun c => octs_Put_S N c.1 c.2.1 c.2.2.1)
noncomputable def octs_Join_L3_I : LI := ⟨33, 0, [], ⟨[(0, .ty (.sl (.sl (.int .u8)))), (3, .ty (.int .i64)), (9, .ty (.sl (.sl (.int .u8)))), (10, .ty (.int .i64)), (11, .ty (.int .i64))], []⟩, [(.exit 0, ⟨[(0, .ty (.sl (.sl (.int .u8)))), (3, .ty (.int .i64))], []⟩)]⟩
noncomputable def octs_Join_L3 (N : Nat) (X : (((List (List (Int))) × ((Int) × ((List (List (Int))) × ((Int) × ((Int) × Unit))))) × Unit) → Option ((((List (List (Int))) × ((Int) × Unit)) × Unit))) (parts0 : List (List (Int))) (size3 : Int) (x9 : List (List (Int))) (x10 : Int) (x11 : Int) : Option ((((List (List (Int))) × ((Int) × Unit)) × Unit)) :=
 bif (decide (x11 < x10)) then
  Option.bind (getI x9 x11) fun (v7 : (List Int)) =>
  (X ((parts0, ((Go.IntKind.wrap .i64 (size3 + (((List.length v7) : Nat) : Int))), (x9, (x10, ((Go.IntKind.wrap .i64 (x11 + (1 : Int))), @Unit.unit))))), @Unit.unit))
 else
  some (((parts0, (size3, @Unit.unit)), @Unit.unit))
noncomputable def octs_Join_L3_R (N : Nat) (c : (((List (List (Int))) × ((Int) × ((List (List (Int))) × ((Int) × ((Int) × Unit))))) × Unit)) : Option ((((List (List (Int))) × ((Int) × Unit)) × Unit)) := gl (fun X c => octs_Join_L3 N X c.1.1 c.1.2.1 c.1.2.2.1 c.1.2.2.2.1 c.1.2.2.2.2.1) N c
theorem octs_Join_L3_S (N : Nat) (X : (((List (List (Int))) × ((Int) × ((List (List (Int))) × ((Int) × ((Int) × Unit))))) × Unit) → Option ((((List (List (Int))) × ((Int) × Unit)) × Unit))) (parts0 : List (List (Int))) (size3 : Int) (x9 : List (List (Int))) (x10 : Int) (x11 : Int) : (roundK Go.Proofs.Try.prog (Ev3 N) 400 [50] octs_Join_L3_I (loopAt Go.Proofs.Try.prog [50] 3) X ((parts0, size3, x9, x10, x11, ()), ())).run = octs_Join_L3 N X parts0 size3 x9 x10 x11 := by kernel_rfl
noncomputable def Ev4 (N : Nat) : (R : Type) → Env R := Env.addLp (Ev3 N) [50] 0 3 (fun R => lpK Go.Proofs.Try.prog octs_Join_L3_I (fun X c => octs_Join_L3 N X c.1.1 c.1.2.1 c.1.2.2.1 c.1.2.2.2.1 c.1.2.2.2.2.1) N)
theorem Ev4_ok (N : Nat) (R : Type) : EnvOK Go.Proofs.Try.prog (Ev4 N R) := EnvOK.addLp (Ev3_ok N R) (by kernel_rfl) (lpK_ok (li := octs_Join_L3_I) (G := fun X c => octs_Join_L3 N X c.1.1 c.1.2.1 c.1.2.2.1 c.1.2.2.2.1 c.1.2.2.2.2.1) hmx (Ev3_ok N _) (by kernel_rfl) loopAt_sub (fun (X : CT octs_Join_L3_I.sh → Option (OT octs_Join_L3_I.outs)) (c : CT octs_Join_L3_I.sh) => octs_Join_L3_S N X c.1.1 c.1.2.1 c.1.2.2.1 c.1.2.2.2.1 c.1.2.2.2.2.1) N)
noncomputable def octs_Join_L9_I : LI := ⟨33, 0, [], ⟨[(6, .lit (.own 0)), (22, .ty (.sl (.sl (.int .u8)))), (23, .ty (.int .i64)), (24, .ty (.int .i64))], [.own (.int .u8) 5]⟩, [(.exit 2, ⟨[(6, .lit (.own 0))], [.own (.int .u8) 5]⟩)]⟩
noncomputable def octs_Join_L9 (N : Nat) (X : (((List (List (Int))) × ((Int) × ((Int) × Unit))) × ((List (Int)) × Unit)) → Option ((Unit × ((List (Int)) × Unit)))) (x22 : List (List (Int))) (x23 : Int) (x24 : Int) (h0 : List (Int)) : Option ((Unit × ((List (Int)) × Unit))) :=
 bif (decide (x24 < x23)) then
  Option.bind (getI x22 x24) fun (v6 : (List Int)) =>
  bif (roomB ((List.length h0) + (List.length v6)) 1) then
   (X ((x22, (x23, ((Go.IntKind.wrap .i64 (x24 + (1 : Int))), @Unit.unit))), ((h0 ++ v6), @Unit.unit)))
  else
   none
 else
  some ((@Unit.unit, (h0, @Unit.unit)))
noncomputable def octs_Join_L9_R (N : Nat) (c : (((List (List (Int))) × ((Int) × ((Int) × Unit))) × ((List (Int)) × Unit))) : Option ((Unit × ((List (Int)) × Unit))) := gl (fun X c => octs_Join_L9 N X c.1.1 c.1.2.1 c.1.2.2.1 c.2.1) N c
theorem octs_Join_L9_S (N : Nat) (X : (((List (List (Int))) × ((Int) × ((Int) × Unit))) × ((List (Int)) × Unit)) → Option ((Unit × ((List (Int)) × Unit)))) (x22 : List (List (Int))) (x23 : Int) (x24 : Int) (h0 : List (Int)) : (roundK Go.Proofs.Try.prog (Ev4 N) 400 [50] octs_Join_L9_I (loopAt Go.Proofs.Try.prog [50] 9) X ((x22, x23, x24, ()), (h0, ()))).run = octs_Join_L9 N X x22 x23 x24 h0 := by kernel_rfl
noncomputable def Ev5 (N : Nat) : (R : Type) → Env R := Env.addLp (Ev4 N) [50] 0 9 (fun R => lpK Go.Proofs.Try.prog octs_Join_L9_I (fun X c => octs_Join_L9 N X c.1.1 c.1.2.1 c.1.2.2.1 c.2.1) N)
theorem Ev5_ok (N : Nat) (R : Type) : EnvOK Go.Proofs.Try.prog (Ev5 N R) := EnvOK.addLp (Ev4_ok N R) (by kernel_rfl) (lpK_ok (li := octs_Join_L9_I) (G := fun X c => octs_Join_L9 N X c.1.1 c.1.2.1 c.1.2.2.1 c.2.1) hmx (Ev4_ok N _) (by kernel_rfl) loopAt_sub (fun (X : CT octs_Join_L9_I.sh → Option (OT octs_Join_L9_I.outs)) (c : CT octs_Join_L9_I.sh) => octs_Join_L9_S N X c.1.1 c.1.2.1 c.1.2.2.1 c.2.1) N)
noncomputable def octs_Join (N : Nat) (parts0 : List (List (Int))) : Option (List (Int)) :=
 Option.bind (octs_Join_L3_R N ((parts0, ((0 : Int), (parts0, ((((List.length parts0) : Nat) : Int), ((0 : Int), @Unit.unit))))), @Unit.unit)) fun (v2 : (((List (List Int)) × (Int × Unit)) × Unit)) =>
 bif ((decide ((0 : Int) ≤ (0 : Int) ∧ (0 : Int) ≤ v2.1.2.1)) && (roomB (Int.toNat v2.1.2.1) 1)) then
  Option.bind (octs_Join_L9_R N ((v2.1.1, ((((List.length v2.1.1) : Nat) : Int), ((0 : Int), @Unit.unit))), ((@List.replicate Int (Int.toNat (0 : Int)) (0 : Int)), @Unit.unit))) fun (v3 : (Unit × ((List Int) × Unit))) =>
  some (v3.2.1)
 else
  none
theorem octs_Join_S (N : Nat) (parts0 : List (List (Int))) : (runK Go.Proofs.Try.prog (Ev5 N) 400 50 [(.sl (.sl (.int .u8)))] [(.sl (.int .u8))] (parts0, ())).run = octs_Join N parts0 := by kernel_rfl
theorem octs_Join_C (N : Nat) (parts0 : List (List (Int))) (y : List (Int)) (h : octs_Join N parts0 = some y) : CallsK Go.Proofs.Try.prog 50 (valA [(.sl (.sl (.int .u8)))] (parts0, ())) (tupV (valR [(.sl (.int .u8))] y)) := runK_ok hmx (Ev5_ok N _) (okFn_ok (by kernel_rfl)) (by rw [octs_Join_S]; exact h)
noncomputable def Ev6 (N : Nat) : (R : Type) → Env R := Env.addFn (Ev5 N) 50 (fun R => fnK [(.sl (.sl (.int .u8)))] [(.sl (.int .u8))] (fun c => octs_Join N c.1))
theorem Ev6_ok (N : Nat) (R : Type) : EnvOK Go.Proofs.Try.prog (Ev6 N R) := EnvOK.addFn hmx (Ev5_ok N R) (Ev5_ok N _) (by kernel_rfl) (fun c => octs_Join_S N c.1)
noncomputable def octs_Get_L5_I : LI := ⟨37, 0, [], ⟨[(0, .ty (.sl (.int .u8))), (1, .ty .bool), (6, .ty (.int .u64)), (17, .ty (.int .i64)), (18, .ty (.int .i64))], []⟩, [(.exit 0, ⟨[(6, .ty (.int .u64))], []⟩)]⟩
noncomputable def octs_Get_L5 (N : Nat) (X : (((List (Int)) × ((Bool) × ((Int) × ((Int) × ((Int) × Unit))))) × Unit) → Option ((((Int) × Unit) × Unit))) (b0 : List (Int)) (little1 : Bool) (n6 : Int) (x17 : Int) (x18 : Int) : Option ((((Int) × Unit) × Unit)) :=
 bif (decide (x18 < x17)) then
  Option.bind (@octs_place N x18 (((List.length b0) : Nat) : Int) little1) fun (v7 : Int) =>
  Option.bind (getI b0 v7) fun (v8 : Int) =>
  bif (decide ((0 : Int) ≤ (Go.IntKind.wrap .i64 ((8 : Int) * x18)))) then
   (X ((b0, (little1, ((@Go.bits @Go.BinOp.or @Go.IntKind.u64 n6 (Go.IntKind.wrap .u64 ((Go.IntKind.wrap .u64 v8) * (@HPow.hPow Int Nat Int (@instHPow Int Nat (@instPowNat Int @Int.instNatPow)) (2 : Int) (@Min.min Nat @instMinNat (Int.toNat (Go.IntKind.wrap .i64 ((8 : Int) * x18))) (@Go.IntKind.bits @Go.IntKind.u64)))))), (x17, ((Go.IntKind.wrap .i64 (x18 + (1 : Int))), @Unit.unit))))), @Unit.unit))
  else
   none
 else
  some (((n6, @Unit.unit), @Unit.unit))
noncomputable def octs_Get_L5_R (N : Nat) (c : (((List (Int)) × ((Bool) × ((Int) × ((Int) × ((Int) × Unit))))) × Unit)) : Option ((((Int) × Unit) × Unit)) := gl (fun X c => octs_Get_L5 N X c.1.1 c.1.2.1 c.1.2.2.1 c.1.2.2.2.1 c.1.2.2.2.2.1) N c
theorem octs_Get_L5_S (N : Nat) (X : (((List (Int)) × ((Bool) × ((Int) × ((Int) × ((Int) × Unit))))) × Unit) → Option ((((Int) × Unit) × Unit))) (b0 : List (Int)) (little1 : Bool) (n6 : Int) (x17 : Int) (x18 : Int) : (roundK Go.Proofs.Try.prog (Ev6 N) 400 [53] octs_Get_L5_I (loopAt Go.Proofs.Try.prog [53] 5) X ((b0, little1, n6, x17, x18, ()), ())).run = octs_Get_L5 N X b0 little1 n6 x17 x18 := by kernel_rfl
noncomputable def Ev7 (N : Nat) : (R : Type) → Env R := Env.addLp (Ev6 N) [53] 0 5 (fun R => lpK Go.Proofs.Try.prog octs_Get_L5_I (fun X c => octs_Get_L5 N X c.1.1 c.1.2.1 c.1.2.2.1 c.1.2.2.2.1 c.1.2.2.2.2.1) N)
theorem Ev7_ok (N : Nat) (R : Type) : EnvOK Go.Proofs.Try.prog (Ev7 N R) := EnvOK.addLp (Ev6_ok N R) (by kernel_rfl) (lpK_ok (li := octs_Get_L5_I) (G := fun X c => octs_Get_L5 N X c.1.1 c.1.2.1 c.1.2.2.1 c.1.2.2.2.1 c.1.2.2.2.2.1) hmx (Ev6_ok N _) (by kernel_rfl) loopAt_sub (fun (X : CT octs_Get_L5_I.sh → Option (OT octs_Get_L5_I.outs)) (c : CT octs_Get_L5_I.sh) => octs_Get_L5_S N X c.1.1 c.1.2.1 c.1.2.2.1 c.1.2.2.2.1 c.1.2.2.2.2.1) N)
noncomputable def octs_Get (N : Nat) (b0 : List (Int)) (little1 : Bool) : Option ((Int) × Int) :=
 bif (decide ((((List.length b0) : Nat) : Int) < (1 : Int))) then
  Option.bind (some (@Bool.true)) fun (v3 : Bool) =>
  bif v3 then
   some (((0 : Int), (1 : Int)))
  else
   Option.bind (octs_Get_L5_R N ((b0, (little1, ((0 : Int), ((((List.length b0) : Nat) : Int), ((0 : Int), @Unit.unit))))), @Unit.unit)) fun (v4 : ((Int × Unit) × Unit)) =>
   some ((v4.1.1, (0 : Int)))
 else
  Option.bind (some ((@cond Bool @Bool.false @Bool.true (decide ((8 : Int) < (((List.length b0) : Nat) : Int)))))) fun (v3 : Bool) =>
  bif v3 then
   some (((0 : Int), (1 : Int)))
  else
   Option.bind (octs_Get_L5_R N ((b0, (little1, ((0 : Int), ((((List.length b0) : Nat) : Int), ((0 : Int), @Unit.unit))))), @Unit.unit)) fun (v4 : ((Int × Unit) × Unit)) =>
   some ((v4.1.1, (0 : Int)))
theorem octs_Get_S (N : Nat) (b0 : List (Int)) (little1 : Bool) : (runK Go.Proofs.Try.prog (Ev7 N) 400 53 [(.sl (.int .u8)), .bool] [(.int .u64), (.int .i64)] (b0, little1, ())).run = octs_Get N b0 little1 := by kernel_rfl
theorem octs_Get_C (N : Nat) (b0 : List (Int)) (little1 : Bool) (y : (Int) × Int) (h : octs_Get N b0 little1 = some y) : CallsK Go.Proofs.Try.prog 53 (valA [(.sl (.int .u8)), .bool] (b0, little1, ())) (tupV (valR [(.int .u64), (.int .i64)] y)) := runK_ok hmx (Ev7_ok N _) (okFn_ok (by kernel_rfl)) (by rw [octs_Get_S]; exact h)
noncomputable def Ev8 (N : Nat) : (R : Type) → Env R := Env.addFn (Ev7 N) 53 (fun R => fnK [(.sl (.int .u8)), .bool] [(.int .u64), (.int .i64)] (fun c => octs_Get N c.1 c.2.1))
theorem Ev8_ok (N : Nat) (R : Type) : EnvOK Go.Proofs.Try.prog (Ev8 N R) := EnvOK.addFn hmx (Ev7_ok N R) (Ev7_ok N _) (by kernel_rfl) (fun c => octs_Get_S N c.1 c.2.1)
noncomputable def slices_Clone_byte_byte_ne (N : Nat) (s0 : List (Int)) : Option (List (Int)) :=
 bif (@List.isEmpty Int s0) then
  none
 else
  bif (roomB (List.length s0) 1) then
   some (s0)
  else
   none
theorem slices_Clone_byte_byte_ne_S (N : Nat) (s0 : List (Int)) : (runK Go.Proofs.Try.prog (Ev8 N) 400 54 [(.sl (.int .u8))] [(.sl (.int .u8))] (s0, ())).run = slices_Clone_byte_byte_ne N s0 := by kernel_rfl
theorem slices_Clone_byte_byte_n1 (N : Nat) (c : Nat) : (runV Go.Proofs.Try.prog (Ev8 N) 400 54 [.c (.slice none 0 c)] [(.sl (.int .u8))]).run = some [] := by kernel_rfl
theorem slices_Clone_byte_byte_n2 (N : Nat) (A : Addr) (c : Nat) : (runV Go.Proofs.Try.prog (Ev8 N) 400 54 [.c (.slice (some A) 0 c)] [(.sl (.int .u8))]).run = some [] := by kernel_rfl
noncomputable def slices_Clone_byte_byte (N : Nat) (s0 : List (Int)) : Option (List (Int)) := bif s0.isEmpty then some [] else slices_Clone_byte_byte_ne N s0
noncomputable def Ev9 (N : Nat) : (R : Type) → Env R := Env.addFn (Ev8 N) 54 (fun R => fnK [(.sl (.int .u8))] [(.sl (.int .u8))] (fun c => slices_Clone_byte_byte N c.1))
theorem Ev9_ok (N : Nat) (R : Type) : EnvOK Go.Proofs.Try.prog (Ev9 N R) := EnvOK.addNil hmx (Ev8_ok N R) (Ev8_ok N _) (by kernel_rfl) (fun c => slices_Clone_byte_byte_ne_S N c.1) (slices_Clone_byte_byte_n1 N) (slices_Clone_byte_byte_n2 N)
noncomputable def ref01_Same_L4_I : LI := ⟨26, 0, [], ⟨[(0, .ty (.sl (.int .u8))), (1, .ty (.sl (.int .u8))), (5, .ty (.int .i64))], []⟩, [(.ret, ⟨[(4, .ty .bool)], []⟩), (.exit 0, ⟨[], []⟩)]⟩
noncomputable def ref01_Same_L4 (N : Nat) (X : (((List (Int)) × ((List (Int)) × ((Int) × Unit))) × Unit) → Option (((((Bool) × Unit) × Unit) ⊕ (Unit × Unit)))) (a0 : List (Int)) (b1 : List (Int)) (i5 : Int) : Option (((((Bool) × Unit) × Unit) ⊕ (Unit × Unit))) :=
 bif (decide (i5 < (((List.length a0) : Nat) : Int))) then
  Option.bind (getI a0 i5) fun (v5 : Int) =>
  Option.bind (getI b1 i5) fun (v6 : Int) =>
  bif (!(decide (v5 = v6))) then
   some ((.inl ((@Bool.false, @Unit.unit), @Unit.unit)))
  else
   (X ((a0, (b1, ((Go.IntKind.wrap .i64 (i5 + (1 : Int))), @Unit.unit))), @Unit.unit))
 else
  some ((.inr (@Unit.unit, @Unit.unit)))
noncomputable def ref01_Same_L4_R (N : Nat) (c : (((List (Int)) × ((List (Int)) × ((Int) × Unit))) × Unit)) : Option (((((Bool) × Unit) × Unit) ⊕ (Unit × Unit))) := gl (fun X c => ref01_Same_L4 N X c.1.1 c.1.2.1 c.1.2.2.1) N c
theorem ref01_Same_L4_S (N : Nat) (X : (((List (Int)) × ((List (Int)) × ((Int) × Unit))) × Unit) → Option (((((Bool) × Unit) × Unit) ⊕ (Unit × Unit)))) (a0 : List (Int)) (b1 : List (Int)) (i5 : Int) : (roundK Go.Proofs.Try.prog (Ev9 N) 400 [16] ref01_Same_L4_I (loopAt Go.Proofs.Try.prog [16] 4) X ((a0, b1, i5, ()), ())).run = ref01_Same_L4 N X a0 b1 i5 := by kernel_rfl
noncomputable def Ev10 (N : Nat) : (R : Type) → Env R := Env.addLp (Ev9 N) [16] 0 4 (fun R => lpK Go.Proofs.Try.prog ref01_Same_L4_I (fun X c => ref01_Same_L4 N X c.1.1 c.1.2.1 c.1.2.2.1) N)
theorem Ev10_ok (N : Nat) (R : Type) : EnvOK Go.Proofs.Try.prog (Ev10 N R) := EnvOK.addLp (Ev9_ok N R) (by kernel_rfl) (lpK_ok (li := ref01_Same_L4_I) (G := fun X c => ref01_Same_L4 N X c.1.1 c.1.2.1 c.1.2.2.1) hmx (Ev9_ok N _) (by kernel_rfl) loopAt_sub (fun (X : CT ref01_Same_L4_I.sh → Option (OT ref01_Same_L4_I.outs)) (c : CT ref01_Same_L4_I.sh) => ref01_Same_L4_S N X c.1.1 c.1.2.1 c.1.2.2.1) N)
noncomputable def ref01_Same (N : Nat) (a0 : List (Int)) (b1 : List (Int)) : Option (Bool) :=
 bif (!(decide ((((List.length a0) : Nat) : Int) = (((List.length b1) : Nat) : Int)))) then
  some (@Bool.false)
 else
  Option.bind (ref01_Same_L4_R N ((a0, (b1, ((0 : Int), @Unit.unit))), @Unit.unit)) fun (v3 : (((Bool × Unit) × Unit) ⊕ (Unit × Unit))) =>
  Sum.elim
   (fun (v4 : ((Bool × Unit) × Unit)) =>
   some (v4.1.1))
   (fun (v4 : (Unit × Unit)) =>
   some (@Bool.true)) v3
theorem ref01_Same_S (N : Nat) (a0 : List (Int)) (b1 : List (Int)) : (runK Go.Proofs.Try.prog (Ev10 N) 400 16 [(.sl (.int .u8)), (.sl (.int .u8))] [.bool] (a0, b1, ())).run = ref01_Same N a0 b1 := by kernel_rfl
theorem ref01_Same_C (N : Nat) (a0 : List (Int)) (b1 : List (Int)) (y : Bool) (h : ref01_Same N a0 b1 = some y) : CallsK Go.Proofs.Try.prog 16 (valA [(.sl (.int .u8)), (.sl (.int .u8))] (a0, b1, ())) (tupV (valR [.bool] y)) := runK_ok hmx (Ev10_ok N _) (okFn_ok (by kernel_rfl)) (by rw [ref01_Same_S]; exact h)
noncomputable def Ev11 (N : Nat) : (R : Type) → Env R := Env.addFn (Ev10 N) 16 (fun R => fnK [(.sl (.int .u8)), (.sl (.int .u8))] [.bool] (fun c => ref01_Same N c.1 c.2.1))
theorem Ev11_ok (N : Nat) (R : Type) : EnvOK Go.Proofs.Try.prog (Ev11 N R) := EnvOK.addFn hmx (Ev10_ok N R) (Ev10_ok N _) (by kernel_rfl) (fun c => ref01_Same_S N c.1 c.2.1)
noncomputable def ref01_Big_L3_I : LI := ⟨24, 0, [], ⟨[(0, .ty (.int .u64)), (5, .lit (.own 0)), (6, .ty (.int .i64))], [.own (.int .u8) 5]⟩, [(.exit 0, ⟨[(5, .lit (.own 0))], [.own (.int .u8) 5]⟩)]⟩
noncomputable def ref01_Big_L3 (N : Nat) (X : (((Int) × ((Int) × Unit)) × ((List (Int)) × Unit)) → Option ((Unit × ((List (Int)) × Unit)))) (n0 : Int) (i6 : Int) (h0 : List (Int)) : Option ((Unit × ((List (Int)) × Unit))) :=
 bif (decide ((0 : Int) ≤ i6)) then
  bif (decide ((0 : Int) ≤ i6 ∧ i6 < (((List.length h0) : Nat) : Int))) then
   Option.bind (@GetElem?.getElem? (List Int) Nat Int (fun (as5 : (List Int)) => (fun (i6 : Nat) => (@LT.lt Nat @instLTNat i6 (List.length as5)))) (@List.instGetElem?NatLtLength Int) h0 (Int.toNat i6)) fun (v5 : Int) =>
   (X (((Go.IntKind.wrap .u64 (@Int.tdiv n0 (256 : Int))), ((Go.IntKind.wrap .i64 (i6 - (1 : Int))), @Unit.unit)), ((@List.set Int h0 (Int.toNat i6) (Go.IntKind.wrap .u8 (@Int.tmod n0 (256 : Int)))), @Unit.unit)))
  else
   none
 else
  some ((@Unit.unit, (h0, @Unit.unit)))
noncomputable def ref01_Big_L3_R (N : Nat) (c : (((Int) × ((Int) × Unit)) × ((List (Int)) × Unit))) : Option ((Unit × ((List (Int)) × Unit))) := gl (fun X c => ref01_Big_L3 N X c.1.1 c.1.2.1 c.2.1) N c
theorem ref01_Big_L3_S (N : Nat) (X : (((Int) × ((Int) × Unit)) × ((List (Int)) × Unit)) → Option ((Unit × ((List (Int)) × Unit)))) (n0 : Int) (i6 : Int) (h0 : List (Int)) : (roundK Go.Proofs.Try.prog (Ev11 N) 400 [52] ref01_Big_L3_I (loopAt Go.Proofs.Try.prog [52] 3) X ((n0, i6, ()), (h0, ()))).run = ref01_Big_L3 N X n0 i6 h0 := by kernel_rfl
noncomputable def Ev12 (N : Nat) : (R : Type) → Env R := Env.addLp (Ev11 N) [52] 0 3 (fun R => lpK Go.Proofs.Try.prog ref01_Big_L3_I (fun X c => ref01_Big_L3 N X c.1.1 c.1.2.1 c.2.1) N)
theorem Ev12_ok (N : Nat) (R : Type) : EnvOK Go.Proofs.Try.prog (Ev12 N R) := EnvOK.addLp (Ev11_ok N R) (by kernel_rfl) (lpK_ok (li := ref01_Big_L3_I) (G := fun X c => ref01_Big_L3 N X c.1.1 c.1.2.1 c.2.1) hmx (Ev11_ok N _) (by kernel_rfl) loopAt_sub (fun (X : CT ref01_Big_L3_I.sh → Option (OT ref01_Big_L3_I.outs)) (c : CT ref01_Big_L3_I.sh) => ref01_Big_L3_S N X c.1.1 c.1.2.1 c.2.1) N)
noncomputable def ref01_Big (N : Nat) (n0 : Int) (width1 : Int) : Option (List (Int)) :=
 bif ((decide ((0 : Int) ≤ width1 ∧ width1 ≤ width1)) && (roomB (Int.toNat width1) 1)) then
  Option.bind (ref01_Big_L3_R N ((n0, ((Go.IntKind.wrap .i64 (width1 - (1 : Int))), @Unit.unit)), ((@List.replicate Int (Int.toNat width1) (0 : Int)), @Unit.unit))) fun (v3 : (Unit × ((List Int) × Unit))) =>
  some (v3.2.1)
 else
  none
theorem ref01_Big_S (N : Nat) (n0 : Int) (width1 : Int) : (runK Go.Proofs.Try.prog (Ev12 N) 400 52 [(.int .u64), (.int .i64)] [(.sl (.int .u8))] (n0, width1, ())).run = ref01_Big N n0 width1 := by kernel_rfl
theorem ref01_Big_C (N : Nat) (n0 : Int) (width1 : Int) (y : List (Int)) (h : ref01_Big N n0 width1 = some y) : CallsK Go.Proofs.Try.prog 52 (valA [(.int .u64), (.int .i64)] (n0, width1, ())) (tupV (valR [(.sl (.int .u8))] y)) := runK_ok hmx (Ev12_ok N _) (okFn_ok (by kernel_rfl)) (by rw [ref01_Big_S]; exact h)
noncomputable def Ev13 (N : Nat) : (R : Type) → Env R := Env.addFn (Ev12 N) 52 (fun R => fnK [(.int .u64), (.int .i64)] [(.sl (.int .u8))] (fun c => ref01_Big N c.1 c.2.1))
theorem Ev13_ok (N : Nat) (R : Type) : EnvOK Go.Proofs.Try.prog (Ev13 N R) := EnvOK.addFn hmx (Ev12_ok N R) (Ev12_ok N _) (by kernel_rfl) (fun c => ref01_Big_S N c.1 c.2.1)
noncomputable def ref01_Num_L3_I : LI := ⟨20, 0, [], ⟨[(0, .ty (.sl (.int .u8))), (3, .ty (.int .u64)), (4, .ty (.int .i64))], []⟩, [(.exit 0, ⟨[(3, .ty (.int .u64))], []⟩)]⟩
noncomputable def ref01_Num_L3 (N : Nat) (X : (((List (Int)) × ((Int) × ((Int) × Unit))) × Unit) → Option ((((Int) × Unit) × Unit))) (b0 : List (Int)) (n3 : Int) (i4 : Int) : Option ((((Int) × Unit) × Unit)) :=
 bif (decide (i4 < (((List.length b0) : Nat) : Int))) then
  Option.bind (getI b0 i4) fun (v5 : Int) =>
  (X ((b0, ((Go.IntKind.wrap .u64 ((Go.IntKind.wrap .u64 (n3 * (256 : Int))) + (Go.IntKind.wrap .u64 v5))), ((Go.IntKind.wrap .i64 (i4 + (1 : Int))), @Unit.unit))), @Unit.unit))
 else
  some (((n3, @Unit.unit), @Unit.unit))
noncomputable def ref01_Num_L3_R (N : Nat) (c : (((List (Int)) × ((Int) × ((Int) × Unit))) × Unit)) : Option ((((Int) × Unit) × Unit)) := gl (fun X c => ref01_Num_L3 N X c.1.1 c.1.2.1 c.1.2.2.1) N c
theorem ref01_Num_L3_S (N : Nat) (X : (((List (Int)) × ((Int) × ((Int) × Unit))) × Unit) → Option ((((Int) × Unit) × Unit))) (b0 : List (Int)) (n3 : Int) (i4 : Int) : (roundK Go.Proofs.Try.prog (Ev13 N) 400 [55] ref01_Num_L3_I (loopAt Go.Proofs.Try.prog [55] 3) X ((b0, n3, i4, ()), ())).run = ref01_Num_L3 N X b0 n3 i4 := by kernel_rfl
noncomputable def Ev14 (N : Nat) : (R : Type) → Env R := Env.addLp (Ev13 N) [55] 0 3 (fun R => lpK Go.Proofs.Try.prog ref01_Num_L3_I (fun X c => ref01_Num_L3 N X c.1.1 c.1.2.1 c.1.2.2.1) N)
theorem Ev14_ok (N : Nat) (R : Type) : EnvOK Go.Proofs.Try.prog (Ev14 N R) := EnvOK.addLp (Ev13_ok N R) (by kernel_rfl) (lpK_ok (li := ref01_Num_L3_I) (G := fun X c => ref01_Num_L3 N X c.1.1 c.1.2.1 c.1.2.2.1) hmx (Ev13_ok N _) (by kernel_rfl) loopAt_sub (fun (X : CT ref01_Num_L3_I.sh → Option (OT ref01_Num_L3_I.outs)) (c : CT ref01_Num_L3_I.sh) => ref01_Num_L3_S N X c.1.1 c.1.2.1 c.1.2.2.1) N)
noncomputable def ref01_Num (N : Nat) (b0 : List (Int)) : Option (Int) :=
 Option.bind (ref01_Num_L3_R N ((b0, ((0 : Int), ((0 : Int), @Unit.unit))), @Unit.unit)) fun (v2 : ((Int × Unit) × Unit)) =>
 some (v2.1.1)
theorem ref01_Num_S (N : Nat) (b0 : List (Int)) : (runK Go.Proofs.Try.prog (Ev14 N) 400 55 [(.sl (.int .u8))] [(.int .u64)] (b0, ())).run = ref01_Num N b0 := by kernel_rfl
theorem ref01_Num_C (N : Nat) (b0 : List (Int)) (y : Int) (h : ref01_Num N b0 = some y) : CallsK Go.Proofs.Try.prog 55 (valA [(.sl (.int .u8))] (b0, ())) (tupV (valR [(.int .u64)] y)) := runK_ok hmx (Ev14_ok N _) (okFn_ok (by kernel_rfl)) (by rw [ref01_Num_S]; exact h)
noncomputable def Ev15 (N : Nat) : (R : Type) → Env R := Env.addFn (Ev14 N) 55 (fun R => fnK [(.sl (.int .u8))] [(.int .u64)] (fun c => ref01_Num N c.1))
theorem Ev15_ok (N : Nat) (R : Type) : EnvOK Go.Proofs.Try.prog (Ev15 N R) := EnvOK.addFn hmx (Ev14_ok N R) (Ev14_ok N _) (by kernel_rfl) (fun c => ref01_Num_S N c.1)
noncomputable def attr_isKind (N : Nat) (kind0 : Int) : Option (Bool) :=
 Option.bind (bif (decide ((1 : Int) ≤ kind0)) then
   some ((@cond Bool @Bool.true (decide (kind0 ≤ (4 : Int))) @Bool.false))
  else
   some (@Bool.false)) fun (v2 : Bool) =>
 some (v2)
theorem attr_isKind_S (N : Nat) (kind0 : Int) : (runK Go.Proofs.Try.prog (Ev15 N) 400 48 [(.int .u8)] [.bool] (kind0, ())).run = attr_isKind N kind0 := by kernel_rfl
theorem attr_isKind_C (N : Nat) (kind0 : Int) (y : Bool) (h : attr_isKind N kind0 = some y) : CallsK Go.Proofs.Try.prog 48 (valA [(.int .u8)] (kind0, ())) (tupV (valR [.bool] y)) := runK_ok hmx (Ev15_ok N _) (okFn_ok (by kernel_rfl)) (by rw [attr_isKind_S]; exact h)
noncomputable def Ev16 (N : Nat) : (R : Type) → Env R := Env.addFn (Ev15 N) 48 (fun R => fnK [(.int .u8)] [.bool] (fun c => attr_isKind N c.1))
theorem Ev16_ok (N : Nat) (R : Type) : EnvOK Go.Proofs.Try.prog (Ev16 N R) := EnvOK.addFn hmx (Ev15_ok N R) (Ev15_ok N _) (by kernel_rfl) (fun c => attr_isKind_S N c.1)
noncomputable def Ev17 (N : Nat) : (R : Type) → Env R := Env.addBx (Ev16 N) [(11, 0)]
theorem Ev17_ok (N : Nat) (R : Type) : EnvOK Go.Proofs.Try.prog (Ev17 N R) := EnvOK.addBx (Ev16_ok N R) [(11, 0)]
noncomputable def attr_Lay (N : Nat) (a0 : (Int) × (List (Int))) : Option ((List (Int)) × Int) :=
 Option.bind (@attr_isKind N a0.1) fun (v2 : Bool) =>
 bif (!v2) then
  some ((([] : List (Int)), (9 : Int)))
 else
  bif (decide ((4095 : Int) < (Go.IntKind.wrap .i64 ((4 : Int) + (((List.length a0.2) : Nat) : Int))))) then
   some ((([] : List (Int)), (8 : Int)))
  else
   Option.bind (@octs_Put N (Go.IntKind.wrap .u64 (Go.IntKind.wrap .i64 ((4 : Int) + (((List.length a0.2) : Nat) : Int)))) (2 : Int) @Bool.false) fun (v3 : ((List Int) × Int)) =>
   Option.bind (@octs_Join N ([([(0 : Int), a0.1] : List (Int)), v3.1, a0.2] : List ((List Int)))) fun (v4 : (List Int)) =>
   some ((v4, (0 : Int)))
theorem attr_Lay_S (N : Nat) (a0 : (Int) × (List (Int))) : (runK Go.Proofs.Try.prog (Ev17 N) 400 11 [(.pair (.int .u8) (.sl (.int .u8)))] [(.sl (.int .u8)), (.int .i64)] (a0, ())).run = attr_Lay N a0 := by kernel_rfl
theorem attr_Lay_C (N : Nat) (a0 : (Int) × (List (Int))) (y : (List (Int)) × Int) (h : attr_Lay N a0 = some y) : CallsK Go.Proofs.Try.prog 11 (valA [(.pair (.int .u8) (.sl (.int .u8)))] (a0, ())) (tupV (valR [(.sl (.int .u8)), (.int .i64)] y)) := runK_ok hmx (Ev17_ok N _) (okFn_ok (by kernel_rfl)) (by rw [attr_Lay_S]; exact h)
noncomputable def Ev18 (N : Nat) : (R : Type) → Env R := Env.addFn (Ev17 N) 11 (fun R => fnK [(.pair (.int .u8) (.sl (.int .u8)))] [(.sl (.int .u8)), (.int .i64)] (fun c => attr_Lay N c.1))
theorem Ev18_ok (N : Nat) (R : Type) : EnvOK Go.Proofs.Try.prog (Ev18 N R) := EnvOK.addFn hmx (Ev17_ok N R) (Ev17_ok N _) (by kernel_rfl) (fun c => attr_Lay_S N c.1)
noncomputable def attr_Parse (N : Nat) (b0 : List (Int)) : Option (((Int) × (List (Int))) × (Int) × Int) :=
 bif (decide ((((List.length b0) : Nat) : Int) < (4 : Int))) then
  some ((((0 : Int), ([] : List (Int))), ((0 : Int), (4 : Int))))
 else
  Option.bind (subI b0 (2 : Int) (4 : Int)) fun (v2 : (List Int)) =>
  Option.bind (@octs_Get N v2 @Bool.false) fun (v3 : (Int × Int)) =>
  Option.bind (getI b0 (0 : Int)) fun (v4 : Int) =>
  Option.bind (bif (!(decide (v4 = (0 : Int)))) then
    some (@Bool.true)
   else
    some ((@cond Bool @Bool.false @Bool.true (decide ((Go.IntKind.wrap .i64 v3.1) < (4 : Int)))))) fun (v5 : Bool) =>
  Option.bind (bif v5 then
    some (@Bool.true)
   else
    some ((@cond Bool @Bool.false @Bool.true (decide ((4095 : Int) < (Go.IntKind.wrap .i64 v3.1)))))) fun (v6 : Bool) =>
  bif v6 then
   some ((((0 : Int), ([] : List (Int))), ((0 : Int), (3 : Int))))
  else
   Option.bind (getI b0 (1 : Int)) fun (v7 : Int) =>
   Option.bind (@attr_isKind N v7) fun (v8 : Bool) =>
   bif (!v8) then
    some ((((0 : Int), ([] : List (Int))), ((0 : Int), (9 : Int))))
   else
    bif (decide ((((List.length b0) : Nat) : Int) < (Go.IntKind.wrap .i64 v3.1))) then
     some ((((0 : Int), ([] : List (Int))), ((0 : Int), (4 : Int))))
    else
     Option.bind (getI b0 (1 : Int)) fun (v9 : Int) =>
     Option.bind (subI b0 (4 : Int) (Go.IntKind.wrap .i64 v3.1)) fun (v10 : (List Int)) =>
     Option.bind (@slices_Clone_byte_byte N v10) fun (v11 : (List Int)) =>
     some (((v9, v11), ((Go.IntKind.wrap .i64 v3.1), (0 : Int))))
theorem attr_Parse_S (N : Nat) (b0 : List (Int)) : (runK Go.Proofs.Try.prog (Ev18 N) 400 14 [(.sl (.int .u8))] [(.pair (.int .u8) (.sl (.int .u8))), (.int .i64), (.int .i64)] (b0, ())).run = attr_Parse N b0 := by kernel_rfl
theorem attr_Parse_C (N : Nat) (b0 : List (Int)) (y : ((Int) × (List (Int))) × (Int) × Int) (h : attr_Parse N b0 = some y) : CallsK Go.Proofs.Try.prog 14 (valA [(.sl (.int .u8))] (b0, ())) (tupV (valR [(.pair (.int .u8) (.sl (.int .u8))), (.int .i64), (.int .i64)] y)) := runK_ok hmx (Ev18_ok N _) (okFn_ok (by kernel_rfl)) (by rw [attr_Parse_S]; exact h)
noncomputable def Ev19 (N : Nat) : (R : Type) → Env R := Env.addFn (Ev18 N) 14 (fun R => fnK [(.sl (.int .u8))] [(.pair (.int .u8) (.sl (.int .u8))), (.int .i64), (.int .i64)] (fun c => attr_Parse N c.1))
theorem Ev19_ok (N : Nat) (R : Type) : EnvOK Go.Proofs.Try.prog (Ev19 N R) := EnvOK.addFn hmx (Ev18_ok N R) (Ev18_ok N _) (by kernel_rfl) (fun c => attr_Parse_S N c.1)
noncomputable def Ev20 (N : Nat) : (R : Type) → Env R := Env.addBx (Ev19 N) [(17, 0)]
theorem Ev20_ok (N : Nat) (R : Type) : EnvOK Go.Proofs.Try.prog (Ev20 N R) := EnvOK.addBx (Ev19_ok N R) [(17, 0)]
noncomputable def attr_Same (N : Nat) (a0 : (Int) × (List (Int))) (b1 : (Int) × (List (Int))) : Option (Bool) :=
 Option.bind (@toBy a0.2) fun (v3 : (List UInt8)) =>
 Option.bind (@toBy b1.2) fun (v4 : (List UInt8)) =>
 bif ((@wfB (@Td.pair (@Td.int @Go.IntKind.u8) @Td.str) (a0.1, v3)) && (@wfB (@Td.pair (@Td.int @Go.IntKind.u8) @Td.str) (b1.1, v4))) then
  some ((@Decidable.decide (@Eq (Int × (List UInt8)) (a0.1, v3) (b1.1, v4)) (@decT (@Td.pair (@Td.int @Go.IntKind.u8) @Td.str) (a0.1, v3) (b1.1, v4))))
 else
  none
theorem attr_Same_S (N : Nat) (a0 : (Int) × (List (Int))) (b1 : (Int) × (List (Int))) : (runK Go.Proofs.Try.prog (Ev20 N) 400 17 [(.pair (.int .u8) (.sl (.int .u8))), (.pair (.int .u8) (.sl (.int .u8)))] [.bool] (a0, b1, ())).run = attr_Same N a0 b1 := by kernel_rfl
theorem attr_Same_C (N : Nat) (a0 : (Int) × (List (Int))) (b1 : (Int) × (List (Int))) (y : Bool) (h : attr_Same N a0 b1 = some y) : CallsK Go.Proofs.Try.prog 17 (valA [(.pair (.int .u8) (.sl (.int .u8))), (.pair (.int .u8) (.sl (.int .u8)))] (a0, b1, ())) (tupV (valR [.bool] y)) := runK_ok hmx (Ev20_ok N _) (okFn_ok (by kernel_rfl)) (by rw [attr_Same_S]; exact h)
noncomputable def Ev21 (N : Nat) : (R : Type) → Env R := Env.addFn (Ev20 N) 17 (fun R => fnK [(.pair (.int .u8) (.sl (.int .u8))), (.pair (.int .u8) (.sl (.int .u8)))] [.bool] (fun c => attr_Same N c.1 c.2.1))
theorem Ev21_ok (N : Nat) (R : Type) : EnvOK Go.Proofs.Try.prog (Ev21 N R) := EnvOK.addFn hmx (Ev20_ok N R) (Ev20_ok N _) (by kernel_rfl) (fun c => attr_Same_S N c.1 c.2.1)
noncomputable def attr_sizes (N : Nat) (kind0 : Int) : Option ((Int) × Int) :=
 bif (decide (kind0 = (1 : Int))) then
  some (((2 : Int), (2 : Int)))
 else
  bif (decide (kind0 = (2 : Int))) then
   some (((8 : Int), (72 : Int)))
  else
   bif (decide (kind0 = (3 : Int))) then
    some (((100 : Int), (100 : Int)))
   else
    bif (decide (kind0 = (4 : Int))) then
     some (((36 : Int), (36 : Int)))
    else
     some (((0 : Int), (0 : Int)))
theorem attr_sizes_S (N : Nat) (kind0 : Int) : (runK Go.Proofs.Try.prog (Ev21 N) 400 56 [(.int .u8)] [(.int .i64), (.int .i64)] (kind0, ())).run = attr_sizes N kind0 := by kernel_rfl
theorem attr_sizes_C (N : Nat) (kind0 : Int) (y : (Int) × Int) (h : attr_sizes N kind0 = some y) : CallsK Go.Proofs.Try.prog 56 (valA [(.int .u8)] (kind0, ())) (tupV (valR [(.int .i64), (.int .i64)] y)) := runK_ok hmx (Ev21_ok N _) (okFn_ok (by kernel_rfl)) (by rw [attr_sizes_S]; exact h)
noncomputable def Ev22 (N : Nat) : (R : Type) → Env R := Env.addFn (Ev21 N) 56 (fun R => fnK [(.int .u8)] [(.int .i64), (.int .i64)] (fun c => attr_sizes N c.1))
theorem Ev22_ok (N : Nat) (R : Type) : EnvOK Go.Proofs.Try.prog (Ev22 N R) := EnvOK.addFn hmx (Ev21_ok N R) (Ev21_ok N _) (by kernel_rfl) (fun c => attr_sizes_S N c.1)
noncomputable def Ev23 (N : Nat) : (R : Type) → Env R := Env.addBx (Ev22 N) [(57, 0)]
theorem Ev23_ok (N : Nat) (R : Type) : EnvOK Go.Proofs.Try.prog (Ev23 N R) := EnvOK.addBx (Ev22_ok N R) [(57, 0)]
noncomputable def attr_fine (N : Nat) (a0 : (Int) × (List (Int))) : Option (Bool) :=
 bif (decide (a0.1 = (1 : Int))) then
  some (@Bool.true)
 else
  Option.bind (getI a0.2 (3 : Int)) fun (v2 : Int) =>
  Option.bind (takeI a0.2 (3 : Int)) fun (v3 : (List Int)) =>
  Option.bind (@toArr Int (3 : Nat) v3) fun (v4 : (Arr Int 3)) =>
  bif ((@wfB (@Td.arr (3 : Nat) (@Td.int @Go.IntKind.u8)) v4) && (@wfB (@Td.arr (3 : Nat) (@Td.int @Go.IntKind.u8)) (@Arr.cons Int (2 : Nat) (0 : Int) (@Arr.cons Int (1 : Nat) (0 : Int) (@Arr.cons Int (0 : Nat) (0 : Int) (@Arr.nil Int)))))) then
   bif (!(@Decidable.decide (@Eq (Arr Int 3) v4 (@Arr.cons Int (2 : Nat) (0 : Int) (@Arr.cons Int (1 : Nat) (0 : Int) (@Arr.cons Int (0 : Nat) (0 : Int) (@Arr.nil Int))))) (@decT (@Td.arr (3 : Nat) (@Td.int @Go.IntKind.u8)) v4 (@Arr.cons Int (2 : Nat) (0 : Int) (@Arr.cons Int (1 : Nat) (0 : Int) (@Arr.cons Int (0 : Nat) (0 : Int) (@Arr.nil Int))))))) then
    some (@Bool.false)
   else
    bif (decide (a0.1 = (2 : Int))) then
     some ((decide (v2 ≤ (4 : Int))))
    else
     bif (decide (a0.1 = (3 : Int))) then
      Option.bind (bif (decide (v2 = (1 : Int))) then
        some (@Bool.true)
       else
        some ((@cond Bool @Bool.false @Bool.true (decide (v2 = (2 : Int)))))) fun (v5 : Bool) =>
      some (v5)
     else
      Option.bind (bif (decide ((1 : Int) ≤ v2)) then
        some ((@cond Bool @Bool.true (decide (v2 ≤ (3 : Int))) @Bool.false))
       else
        some (@Bool.false)) fun (v5 : Bool) =>
      some (v5)
  else
   none
theorem attr_fine_S (N : Nat) (a0 : (Int) × (List (Int))) : (runK Go.Proofs.Try.prog (Ev23 N) 400 57 [(.pair (.int .u8) (.sl (.int .u8)))] [.bool] (a0, ())).run = attr_fine N a0 := by kernel_rfl
theorem attr_fine_C (N : Nat) (a0 : (Int) × (List (Int))) (y : Bool) (h : attr_fine N a0 = some y) : CallsK Go.Proofs.Try.prog 57 (valA [(.pair (.int .u8) (.sl (.int .u8)))] (a0, ())) (tupV (valR [.bool] y)) := runK_ok hmx (Ev23_ok N _) (okFn_ok (by kernel_rfl)) (by rw [attr_fine_S]; exact h)
noncomputable def Ev24 (N : Nat) : (R : Type) → Env R := Env.addFn (Ev23 N) 57 (fun R => fnK [(.pair (.int .u8) (.sl (.int .u8)))] [.bool] (fun c => attr_fine N c.1))
theorem Ev24_ok (N : Nat) (R : Type) : EnvOK Go.Proofs.Try.prog (Ev24 N R) := EnvOK.addFn hmx (Ev23_ok N R) (Ev23_ok N _) (by kernel_rfl) (fun c => attr_fine_S N c.1)
noncomputable def Ev25 (N : Nat) : (R : Type) → Env R := Env.addBx (Ev24 N) [(18, 0)]
theorem Ev25_ok (N : Nat) (R : Type) : EnvOK Go.Proofs.Try.prog (Ev25 N R) := EnvOK.addBx (Ev24_ok N R) [(18, 0)]
noncomputable def attr_Check (N : Nat) (a0 : (Int) × (List (Int))) : Option (Int) :=
 Option.bind (@attr_sizes N a0.1) fun (v2 : (Int × Int)) =>
 Option.bind (@attr_isKind N a0.1) fun (v3 : Bool) =>
 bif (!v3) then
  some ((9 : Int))
 else
  bif (decide ((((List.length a0.2) : Nat) : Int) < v2.1)) then
   some ((4 : Int))
  else
   bif (decide (v2.2 < (((List.length a0.2) : Nat) : Int))) then
    Option.bind (some (@Bool.true)) fun (v4 : Bool) =>
    bif v4 then
     some ((3 : Int))
    else
     some ((0 : Int))
   else
    Option.bind (@attr_fine N (a0.1, a0.2)) fun (v4 : Bool) =>
    Option.bind (some ((@cond Bool @Bool.false @Bool.true (!v4)))) fun (v5 : Bool) =>
    bif v5 then
     some ((3 : Int))
    else
     some ((0 : Int))
theorem attr_Check_S (N : Nat) (a0 : (Int) × (List (Int))) : (runK Go.Proofs.Try.prog (Ev25 N) 400 18 [(.pair (.int .u8) (.sl (.int .u8)))] [(.int .i64)] (a0, ())).run = attr_Check N a0 := by kernel_rfl
theorem attr_Check_C (N : Nat) (a0 : (Int) × (List (Int))) (y : Int) (h : attr_Check N a0 = some y) : CallsK Go.Proofs.Try.prog 18 (valA [(.pair (.int .u8) (.sl (.int .u8)))] (a0, ())) (tupV (valR [(.int .i64)] y)) := runK_ok hmx (Ev25_ok N _) (okFn_ok (by kernel_rfl)) (by rw [attr_Check_S]; exact h)
noncomputable def Ev26 (N : Nat) : (R : Type) → Env R := Env.addFn (Ev25 N) 18 (fun R => fnK [(.pair (.int .u8) (.sl (.int .u8)))] [(.int .i64)] (fun c => attr_Check N c.1))
theorem Ev26_ok (N : Nat) (R : Type) : EnvOK Go.Proofs.Try.prog (Ev26 N R) := EnvOK.addFn hmx (Ev25_ok N R) (Ev25_ok N _) (by kernel_rfl) (fun c => attr_Check_S N c.1)
noncomputable def attr_behind (N : Nat) (first0 : Int) (parts1 : List (List (Int))) : Option (List (Int)) :=
 Option.bind (@octs_Join N parts1) fun (v3 : (List Int)) =>
 Option.bind (@octs_Join N ([(@List.replicate Int (Int.toNat (3 : Int)) (0 : Int)), ([first0] : List (Int)), v3] : List ((List Int)))) fun (v4 : (List Int)) =>
 some (v4)
theorem attr_behind_S (N : Nat) (first0 : Int) (parts1 : List (List (Int))) : (runK Go.Proofs.Try.prog (Ev26 N) 400 59 [(.int .u8), (.sl (.sl (.int .u8)))] [(.sl (.int .u8))] (first0, parts1, ())).run = attr_behind N first0 parts1 := by kernel_rfl
theorem attr_behind_C (N : Nat) (first0 : Int) (parts1 : List (List (Int))) (y : List (Int)) (h : attr_behind N first0 parts1 = some y) : CallsK Go.Proofs.Try.prog 59 (valA [(.int .u8), (.sl (.sl (.int .u8)))] (first0, parts1, ())) (tupV (valR [(.sl (.int .u8))] y)) := runK_ok hmx (Ev26_ok N _) (okFn_ok (by kernel_rfl)) (by rw [attr_behind_S]; exact h)
noncomputable def Ev27 (N : Nat) : (R : Type) → Env R := Env.addFn (Ev26 N) 59 (fun R => fnK [(.int .u8), (.sl (.sl (.int .u8)))] [(.sl (.int .u8))] (fun c => attr_behind N c.1 c.2.1))
theorem Ev27_ok (N : Nat) (R : Type) : EnvOK Go.Proofs.Try.prog (Ev27 N R) := EnvOK.addFn hmx (Ev26_ok N R) (Ev26_ok N _) (by kernel_rfl) (fun c => attr_behind_S N c.1 c.2.1)
noncomputable def Ev28 (N : Nat) : (R : Type) → Env R := Env.addBx (Ev27 N) [(20, 0)]
theorem Ev28_ok (N : Nat) (R : Type) : EnvOK Go.Proofs.Try.prog (Ev28 N R) := EnvOK.addBx (Ev27_ok N R) [(20, 0)]
noncomputable def attr_OfStatus (N : Nat) (s0 : (Int) × ((Int) × (List (Int)))) : Option ((Int) × (List (Int))) :=
 Option.bind (@octs_Put N (Go.IntKind.wrap .u64 s0.2.1) (4 : Int) @Bool.false) fun (v2 : ((List Int) × Int)) =>
 Option.bind (takeI s0.2.2 (@minI (((List.length s0.2.2) : Nat) : Int) (64 : Int))) fun (v3 : (List Int)) =>
 Option.bind (@attr_behind N s0.1 ([v2.1, v3] : List ((List Int)))) fun (v4 : (List Int)) =>
 some (((2 : Int), v4))
theorem attr_OfStatus_S (N : Nat) (s0 : (Int) × ((Int) × (List (Int)))) : (runK Go.Proofs.Try.prog (Ev28 N) 400 20 [(.pair (.int .u8) (.pair (.int .u32) (.sl (.int .u8))))] [(.pair (.int .u8) (.sl (.int .u8)))] (s0, ())).run = attr_OfStatus N s0 := by kernel_rfl
theorem attr_OfStatus_C (N : Nat) (s0 : (Int) × ((Int) × (List (Int)))) (y : (Int) × (List (Int))) (h : attr_OfStatus N s0 = some y) : CallsK Go.Proofs.Try.prog 20 (valA [(.pair (.int .u8) (.pair (.int .u32) (.sl (.int .u8))))] (s0, ())) (tupV (valR [(.pair (.int .u8) (.sl (.int .u8)))] y)) := runK_ok hmx (Ev28_ok N _) (okFn_ok (by kernel_rfl)) (by rw [attr_OfStatus_S]; exact h)
noncomputable def Ev29 (N : Nat) : (R : Type) → Env R := Env.addFn (Ev28 N) 20 (fun R => fnK [(.pair (.int .u8) (.pair (.int .u32) (.sl (.int .u8))))] [(.pair (.int .u8) (.sl (.int .u8)))] (fun c => attr_OfStatus N c.1))
theorem Ev29_ok (N : Nat) (R : Type) : EnvOK Go.Proofs.Try.prog (Ev29 N R) := EnvOK.addFn hmx (Ev28_ok N R) (Ev28_ok N _) (by kernel_rfl) (fun c => attr_OfStatus_S N c.1)
noncomputable def Ev30 (N : Nat) : (R : Type) → Env R := Env.addBx (Ev29 N) [(21, 0)]
theorem Ev30_ok (N : Nat) (R : Type) : EnvOK Go.Proofs.Try.prog (Ev30 N R) := EnvOK.addBx (Ev29_ok N R) [(21, 0)]
noncomputable def attr_OfBinding (N : Nat) (x0 : (Int) × ((Arr (Int) 32) × ((Arr (Int) 32) × (Arr (Int) 32)))) : Option ((Int) × (List (Int))) :=
 Option.bind (@attr_behind N x0.1 ([x0.2.1.l, x0.2.2.1.l, x0.2.2.2.l] : List ((List Int)))) fun (v2 : (List Int)) =>
 some (((3 : Int), v2))
theorem attr_OfBinding_S (N : Nat) (x0 : (Int) × ((Arr (Int) 32) × ((Arr (Int) 32) × (Arr (Int) 32)))) : (runK Go.Proofs.Try.prog (Ev30 N) 400 21 [(.pair (.int .u8) (.pair (.arr 32 (.int .u8)) (.pair (.arr 32 (.int .u8)) (.arr 32 (.int .u8)))))] [(.pair (.int .u8) (.sl (.int .u8)))] (x0, ())).run = attr_OfBinding N x0 := by kernel_rfl
theorem attr_OfBinding_C (N : Nat) (x0 : (Int) × ((Arr (Int) 32) × ((Arr (Int) 32) × (Arr (Int) 32)))) (y : (Int) × (List (Int))) (h : attr_OfBinding N x0 = some y) : CallsK Go.Proofs.Try.prog 21 (valA [(.pair (.int .u8) (.pair (.arr 32 (.int .u8)) (.pair (.arr 32 (.int .u8)) (.arr 32 (.int .u8)))))] (x0, ())) (tupV (valR [(.pair (.int .u8) (.sl (.int .u8)))] y)) := runK_ok hmx (Ev30_ok N _) (okFn_ok (by kernel_rfl)) (by rw [attr_OfBinding_S]; exact h)
noncomputable def Ev31 (N : Nat) : (R : Type) → Env R := Env.addFn (Ev30 N) 21 (fun R => fnK [(.pair (.int .u8) (.pair (.arr 32 (.int .u8)) (.pair (.arr 32 (.int .u8)) (.arr 32 (.int .u8)))))] [(.pair (.int .u8) (.sl (.int .u8)))] (fun c => attr_OfBinding N c.1))
theorem Ev31_ok (N : Nat) (R : Type) : EnvOK Go.Proofs.Try.prog (Ev31 N R) := EnvOK.addFn hmx (Ev30_ok N R) (Ev30_ok N _) (by kernel_rfl) (fun c => attr_OfBinding_S N c.1)
noncomputable def Ev32 (N : Nat) : (R : Type) → Env R := Env.addBx (Ev31 N) [(22, 0)]
theorem Ev32_ok (N : Nat) (R : Type) : EnvOK Go.Proofs.Try.prog (Ev32 N R) := EnvOK.addBx (Ev31_ok N R) [(22, 0)]
noncomputable def attr_OfAsk (N : Nat) (x0 : (Int) × (Arr (Int) 32)) : Option ((Int) × (List (Int))) :=
 Option.bind (@attr_behind N x0.1 ([x0.2.l] : List ((List Int)))) fun (v2 : (List Int)) =>
 some (((4 : Int), v2))
theorem attr_OfAsk_S (N : Nat) (x0 : (Int) × (Arr (Int) 32)) : (runK Go.Proofs.Try.prog (Ev32 N) 400 22 [(.pair (.int .u8) (.arr 32 (.int .u8)))] [(.pair (.int .u8) (.sl (.int .u8)))] (x0, ())).run = attr_OfAsk N x0 := by kernel_rfl
theorem attr_OfAsk_C (N : Nat) (x0 : (Int) × (Arr (Int) 32)) (y : (Int) × (List (Int))) (h : attr_OfAsk N x0 = some y) : CallsK Go.Proofs.Try.prog 22 (valA [(.pair (.int .u8) (.arr 32 (.int .u8)))] (x0, ())) (tupV (valR [(.pair (.int .u8) (.sl (.int .u8)))] y)) := runK_ok hmx (Ev32_ok N _) (okFn_ok (by kernel_rfl)) (by rw [attr_OfAsk_S]; exact h)
noncomputable def Ev33 (N : Nat) : (R : Type) → Env R := Env.addFn (Ev32 N) 22 (fun R => fnK [(.pair (.int .u8) (.arr 32 (.int .u8)))] [(.pair (.int .u8) (.sl (.int .u8)))] (fun c => attr_OfAsk N c.1))
theorem Ev33_ok (N : Nat) (R : Type) : EnvOK Go.Proofs.Try.prog (Ev33 N R) := EnvOK.addFn hmx (Ev32_ok N R) (Ev32_ok N _) (by kernel_rfl) (fun c => attr_OfAsk_S N c.1)
noncomputable def Ev34 (N : Nat) : (R : Type) → Env R := Env.addBx (Ev33 N) [(60, 0)]
theorem Ev34_ok (N : Nat) (R : Type) : EnvOK Go.Proofs.Try.prog (Ev34 N R) := EnvOK.addBx (Ev33_ok N R) [(60, 0)]
noncomputable def attr_checked (N : Nat) (a0 : (Int) × (List (Int))) (kind1 : Int) : Option (Int) :=
 bif (!(decide (a0.1 = kind1))) then
  some ((9 : Int))
 else
  Option.bind (@attr_Check N (a0.1, a0.2)) fun (v3 : Int) =>
  some (v3)
theorem attr_checked_S (N : Nat) (a0 : (Int) × (List (Int))) (kind1 : Int) : (runK Go.Proofs.Try.prog (Ev34 N) 400 60 [(.pair (.int .u8) (.sl (.int .u8))), (.int .u8)] [(.int .i64)] (a0, kind1, ())).run = attr_checked N a0 kind1 := by kernel_rfl
theorem attr_checked_C (N : Nat) (a0 : (Int) × (List (Int))) (kind1 : Int) (y : Int) (h : attr_checked N a0 kind1 = some y) : CallsK Go.Proofs.Try.prog 60 (valA [(.pair (.int .u8) (.sl (.int .u8))), (.int .u8)] (a0, kind1, ())) (tupV (valR [(.int .i64)] y)) := runK_ok hmx (Ev34_ok N _) (okFn_ok (by kernel_rfl)) (by rw [attr_checked_S]; exact h)
noncomputable def Ev35 (N : Nat) : (R : Type) → Env R := Env.addFn (Ev34 N) 60 (fun R => fnK [(.pair (.int .u8) (.sl (.int .u8))), (.int .u8)] [(.int .i64)] (fun c => attr_checked N c.1 c.2.1))
theorem Ev35_ok (N : Nat) (R : Type) : EnvOK Go.Proofs.Try.prog (Ev35 N R) := EnvOK.addFn hmx (Ev34_ok N R) (Ev34_ok N _) (by kernel_rfl) (fun c => attr_checked_S N c.1 c.2.1)
noncomputable def Ev36 (N : Nat) : (R : Type) → Env R := Env.addBx (Ev35 N) [(26, 0)]
theorem Ev36_ok (N : Nat) (R : Type) : EnvOK Go.Proofs.Try.prog (Ev36 N R) := EnvOK.addBx (Ev35_ok N R) [(26, 0)]
noncomputable def attr_ToStatus (N : Nat) (a0 : (Int) × (List (Int))) : Option (((Int) × ((Int) × (List (Int)))) × Int) :=
 Option.bind (@attr_checked N (a0.1, a0.2) (2 : Int)) fun (v2 : Int) =>
 bif (!(decide (v2 = (0 : Int)))) then
  some ((((0 : Int), ((0 : Int), ([] : List (Int)))), v2))
 else
  Option.bind (subI a0.2 (4 : Int) (8 : Int)) fun (v3 : (List Int)) =>
  Option.bind (@octs_Get N v3 @Bool.false) fun (v4 : (Int × Int)) =>
  Option.bind (getI a0.2 (3 : Int)) fun (v5 : Int) =>
  Option.bind (dropI a0.2 (8 : Int)) fun (v6 : (List Int)) =>
  Option.bind (@slices_Clone_byte_byte N v6) fun (v7 : (List Int)) =>
  some (((v5, ((Go.IntKind.wrap .u32 v4.1), v7)), (0 : Int)))
theorem attr_ToStatus_S (N : Nat) (a0 : (Int) × (List (Int))) : (runK Go.Proofs.Try.prog (Ev36 N) 400 26 [(.pair (.int .u8) (.sl (.int .u8)))] [(.pair (.int .u8) (.pair (.int .u32) (.sl (.int .u8)))), (.int .i64)] (a0, ())).run = attr_ToStatus N a0 := by kernel_rfl
theorem attr_ToStatus_C (N : Nat) (a0 : (Int) × (List (Int))) (y : ((Int) × ((Int) × (List (Int)))) × Int) (h : attr_ToStatus N a0 = some y) : CallsK Go.Proofs.Try.prog 26 (valA [(.pair (.int .u8) (.sl (.int .u8)))] (a0, ())) (tupV (valR [(.pair (.int .u8) (.pair (.int .u32) (.sl (.int .u8)))), (.int .i64)] y)) := runK_ok hmx (Ev36_ok N _) (okFn_ok (by kernel_rfl)) (by rw [attr_ToStatus_S]; exact h)
noncomputable def Ev37 (N : Nat) : (R : Type) → Env R := Env.addFn (Ev36 N) 26 (fun R => fnK [(.pair (.int .u8) (.sl (.int .u8)))] [(.pair (.int .u8) (.pair (.int .u32) (.sl (.int .u8)))), (.int .i64)] (fun c => attr_ToStatus N c.1))
theorem Ev37_ok (N : Nat) (R : Type) : EnvOK Go.Proofs.Try.prog (Ev37 N R) := EnvOK.addFn hmx (Ev36_ok N R) (Ev36_ok N _) (by kernel_rfl) (fun c => attr_ToStatus_S N c.1)
noncomputable def Ev38 (N : Nat) : (R : Type) → Env R := Env.addBx (Ev37 N) [(27, 0)]
theorem Ev38_ok (N : Nat) (R : Type) : EnvOK Go.Proofs.Try.prog (Ev38 N R) := EnvOK.addBx (Ev37_ok N R) [(27, 0)]
noncomputable def attr_ToBinding (N : Nat) (a0 : (Int) × (List (Int))) : Option (((Int) × ((Arr (Int) 32) × ((Arr (Int) 32) × (Arr (Int) 32)))) × Int) :=
 Option.bind (@attr_checked N (a0.1, a0.2) (3 : Int)) fun (v2 : Int) =>
 bif (!(decide (v2 = (0 : Int)))) then
  some ((((0 : Int), ((@Arr.cons Int (31 : Nat) (0 : Int) (@Arr.cons Int (30 : Nat) (0 : Int) (@Arr.cons Int (29 : Nat) (0 : Int) (@Arr.cons Int (28 : Nat) (0 : Int) (@Arr.cons Int (27 : Nat) (0 : Int) (@Arr.cons Int (26 : Nat) (0 : Int) (@Arr.cons Int (25 : Nat) (0 : Int) (@Arr.cons Int (24 : Nat) (0 : Int) (@Arr.cons Int (23 : Nat) (0 : Int) (@Arr.cons Int (22 : Nat) (0 : Int) (@Arr.cons Int (21 : Nat) (0 : Int) (@Arr.cons Int (20 : Nat) (0 : Int) (@Arr.cons Int (19 : Nat) (0 : Int) (@Arr.cons Int (18 : Nat) (0 : Int) (@Arr.cons Int (17 : Nat) (0 : Int) (@Arr.cons Int (16 : Nat) (0 : Int) (@Arr.cons Int (15 : Nat) (0 : Int) (@Arr.cons Int (14 : Nat) (0 : Int) (@Arr.cons Int (13 : Nat) (0 : Int) (@Arr.cons Int (12 : Nat) (0 : Int) (@Arr.cons Int (11 : Nat) (0 : Int) (@Arr.cons Int (10 : Nat) (0 : Int) (@Arr.cons Int (9 : Nat) (0 : Int) (@Arr.cons Int (8 : Nat) (0 : Int) (@Arr.cons Int (7 : Nat) (0 : Int) (@Arr.cons Int (6 : Nat) (0 : Int) (@Arr.cons Int (5 : Nat) (0 : Int) (@Arr.cons Int (4 : Nat) (0 : Int) (@Arr.cons Int (3 : Nat) (0 : Int) (@Arr.cons Int (2 : Nat) (0 : Int) (@Arr.cons Int (1 : Nat) (0 : Int) (@Arr.cons Int (0 : Nat) (0 : Int) (@Arr.nil Int))))))))))))))))))))))))))))))))), ((@Arr.cons Int (31 : Nat) (0 : Int) (@Arr.cons Int (30 : Nat) (0 : Int) (@Arr.cons Int (29 : Nat) (0 : Int) (@Arr.cons Int (28 : Nat) (0 : Int) (@Arr.cons Int (27 : Nat) (0 : Int) (@Arr.cons Int (26 : Nat) (0 : Int) (@Arr.cons Int (25 : Nat) (0 : Int) (@Arr.cons Int (24 : Nat) (0 : Int) (@Arr.cons Int (23 : Nat) (0 : Int) (@Arr.cons Int (22 : Nat) (0 : Int) (@Arr.cons Int (21 : Nat) (0 : Int) (@Arr.cons Int (20 : Nat) (0 : Int) (@Arr.cons Int (19 : Nat) (0 : Int) (@Arr.cons Int (18 : Nat) (0 : Int) (@Arr.cons Int (17 : Nat) (0 : Int) (@Arr.cons Int (16 : Nat) (0 : Int) (@Arr.cons Int (15 : Nat) (0 : Int) (@Arr.cons Int (14 : Nat) (0 : Int) (@Arr.cons Int (13 : Nat) (0 : Int) (@Arr.cons Int (12 : Nat) (0 : Int) (@Arr.cons Int (11 : Nat) (0 : Int) (@Arr.cons Int (10 : Nat) (0 : Int) (@Arr.cons Int (9 : Nat) (0 : Int) (@Arr.cons Int (8 : Nat) (0 : Int) (@Arr.cons Int (7 : Nat) (0 : Int) (@Arr.cons Int (6 : Nat) (0 : Int) (@Arr.cons Int (5 : Nat) (0 : Int) (@Arr.cons Int (4 : Nat) (0 : Int) (@Arr.cons Int (3 : Nat) (0 : Int) (@Arr.cons Int (2 : Nat) (0 : Int) (@Arr.cons Int (1 : Nat) (0 : Int) (@Arr.cons Int (0 : Nat) (0 : Int) (@Arr.nil Int))))))))))))))))))))))))))))))))), (@Arr.cons Int (31 : Nat) (0 : Int) (@Arr.cons Int (30 : Nat) (0 : Int) (@Arr.cons Int (29 : Nat) (0 : Int) (@Arr.cons Int (28 : Nat) (0 : Int) (@Arr.cons Int (27 : Nat) (0 : Int) (@Arr.cons Int (26 : Nat) (0 : Int) (@Arr.cons Int (25 : Nat) (0 : Int) (@Arr.cons Int (24 : Nat) (0 : Int) (@Arr.cons Int (23 : Nat) (0 : Int) (@Arr.cons Int (22 : Nat) (0 : Int) (@Arr.cons Int (21 : Nat) (0 : Int) (@Arr.cons Int (20 : Nat) (0 : Int) (@Arr.cons Int (19 : Nat) (0 : Int) (@Arr.cons Int (18 : Nat) (0 : Int) (@Arr.cons Int (17 : Nat) (0 : Int) (@Arr.cons Int (16 : Nat) (0 : Int) (@Arr.cons Int (15 : Nat) (0 : Int) (@Arr.cons Int (14 : Nat) (0 : Int) (@Arr.cons Int (13 : Nat) (0 : Int) (@Arr.cons Int (12 : Nat) (0 : Int) (@Arr.cons Int (11 : Nat) (0 : Int) (@Arr.cons Int (10 : Nat) (0 : Int) (@Arr.cons Int (9 : Nat) (0 : Int) (@Arr.cons Int (8 : Nat) (0 : Int) (@Arr.cons Int (7 : Nat) (0 : Int) (@Arr.cons Int (6 : Nat) (0 : Int) (@Arr.cons Int (5 : Nat) (0 : Int) (@Arr.cons Int (4 : Nat) (0 : Int) (@Arr.cons Int (3 : Nat) (0 : Int) (@Arr.cons Int (2 : Nat) (0 : Int) (@Arr.cons Int (1 : Nat) (0 : Int) (@Arr.cons Int (0 : Nat) (0 : Int) (@Arr.nil Int)))))))))))))))))))))))))))))))))))), v2))
 else
  Option.bind (getI a0.2 (3 : Int)) fun (v3 : Int) =>
  Option.bind (subI a0.2 (4 : Int) (36 : Int)) fun (v4 : (List Int)) =>
  Option.bind (@toArr Int (32 : Nat) v4) fun (v5 : (Arr Int 32)) =>
  Option.bind (subI a0.2 (36 : Int) (68 : Int)) fun (v6 : (List Int)) =>
  Option.bind (@toArr Int (32 : Nat) v6) fun (v7 : (Arr Int 32)) =>
  Option.bind (dropI a0.2 (68 : Int)) fun (v8 : (List Int)) =>
  Option.bind (@toArr Int (32 : Nat) v8) fun (v9 : (Arr Int 32)) =>
  some (((v3, (v5, (v7, v9))), (0 : Int)))
theorem attr_ToBinding_S (N : Nat) (a0 : (Int) × (List (Int))) : (runK Go.Proofs.Try.prog (Ev38 N) 400 27 [(.pair (.int .u8) (.sl (.int .u8)))] [(.pair (.int .u8) (.pair (.arr 32 (.int .u8)) (.pair (.arr 32 (.int .u8)) (.arr 32 (.int .u8))))), (.int .i64)] (a0, ())).run = attr_ToBinding N a0 := by kernel_rfl
theorem attr_ToBinding_C (N : Nat) (a0 : (Int) × (List (Int))) (y : ((Int) × ((Arr (Int) 32) × ((Arr (Int) 32) × (Arr (Int) 32)))) × Int) (h : attr_ToBinding N a0 = some y) : CallsK Go.Proofs.Try.prog 27 (valA [(.pair (.int .u8) (.sl (.int .u8)))] (a0, ())) (tupV (valR [(.pair (.int .u8) (.pair (.arr 32 (.int .u8)) (.pair (.arr 32 (.int .u8)) (.arr 32 (.int .u8))))), (.int .i64)] y)) := runK_ok hmx (Ev38_ok N _) (okFn_ok (by kernel_rfl)) (by rw [attr_ToBinding_S]; exact h)
noncomputable def Ev39 (N : Nat) : (R : Type) → Env R := Env.addFn (Ev38 N) 27 (fun R => fnK [(.pair (.int .u8) (.sl (.int .u8)))] [(.pair (.int .u8) (.pair (.arr 32 (.int .u8)) (.pair (.arr 32 (.int .u8)) (.arr 32 (.int .u8))))), (.int .i64)] (fun c => attr_ToBinding N c.1))
theorem Ev39_ok (N : Nat) (R : Type) : EnvOK Go.Proofs.Try.prog (Ev39 N R) := EnvOK.addFn hmx (Ev38_ok N R) (Ev38_ok N _) (by kernel_rfl) (fun c => attr_ToBinding_S N c.1)
noncomputable def Ev40 (N : Nat) : (R : Type) → Env R := Env.addBx (Ev39 N) [(28, 0)]
theorem Ev40_ok (N : Nat) (R : Type) : EnvOK Go.Proofs.Try.prog (Ev40 N R) := EnvOK.addBx (Ev39_ok N R) [(28, 0)]
noncomputable def attr_ToAsk (N : Nat) (a0 : (Int) × (List (Int))) : Option (((Int) × (Arr (Int) 32)) × Int) :=
 Option.bind (@attr_checked N (a0.1, a0.2) (4 : Int)) fun (v2 : Int) =>
 bif (!(decide (v2 = (0 : Int)))) then
  some ((((0 : Int), (@Arr.cons Int (31 : Nat) (0 : Int) (@Arr.cons Int (30 : Nat) (0 : Int) (@Arr.cons Int (29 : Nat) (0 : Int) (@Arr.cons Int (28 : Nat) (0 : Int) (@Arr.cons Int (27 : Nat) (0 : Int) (@Arr.cons Int (26 : Nat) (0 : Int) (@Arr.cons Int (25 : Nat) (0 : Int) (@Arr.cons Int (24 : Nat) (0 : Int) (@Arr.cons Int (23 : Nat) (0 : Int) (@Arr.cons Int (22 : Nat) (0 : Int) (@Arr.cons Int (21 : Nat) (0 : Int) (@Arr.cons Int (20 : Nat) (0 : Int) (@Arr.cons Int (19 : Nat) (0 : Int) (@Arr.cons Int (18 : Nat) (0 : Int) (@Arr.cons Int (17 : Nat) (0 : Int) (@Arr.cons Int (16 : Nat) (0 : Int) (@Arr.cons Int (15 : Nat) (0 : Int) (@Arr.cons Int (14 : Nat) (0 : Int) (@Arr.cons Int (13 : Nat) (0 : Int) (@Arr.cons Int (12 : Nat) (0 : Int) (@Arr.cons Int (11 : Nat) (0 : Int) (@Arr.cons Int (10 : Nat) (0 : Int) (@Arr.cons Int (9 : Nat) (0 : Int) (@Arr.cons Int (8 : Nat) (0 : Int) (@Arr.cons Int (7 : Nat) (0 : Int) (@Arr.cons Int (6 : Nat) (0 : Int) (@Arr.cons Int (5 : Nat) (0 : Int) (@Arr.cons Int (4 : Nat) (0 : Int) (@Arr.cons Int (3 : Nat) (0 : Int) (@Arr.cons Int (2 : Nat) (0 : Int) (@Arr.cons Int (1 : Nat) (0 : Int) (@Arr.cons Int (0 : Nat) (0 : Int) (@Arr.nil Int)))))))))))))))))))))))))))))))))), v2))
 else
  Option.bind (getI a0.2 (3 : Int)) fun (v3 : Int) =>
  Option.bind (dropI a0.2 (4 : Int)) fun (v4 : (List Int)) =>
  Option.bind (@toArr Int (32 : Nat) v4) fun (v5 : (Arr Int 32)) =>
  some (((v3, v5), (0 : Int)))
theorem attr_ToAsk_S (N : Nat) (a0 : (Int) × (List (Int))) : (runK Go.Proofs.Try.prog (Ev40 N) 400 28 [(.pair (.int .u8) (.sl (.int .u8)))] [(.pair (.int .u8) (.arr 32 (.int .u8))), (.int .i64)] (a0, ())).run = attr_ToAsk N a0 := by kernel_rfl
theorem attr_ToAsk_C (N : Nat) (a0 : (Int) × (List (Int))) (y : ((Int) × (Arr (Int) 32)) × Int) (h : attr_ToAsk N a0 = some y) : CallsK Go.Proofs.Try.prog 28 (valA [(.pair (.int .u8) (.sl (.int .u8)))] (a0, ())) (tupV (valR [(.pair (.int .u8) (.arr 32 (.int .u8))), (.int .i64)] y)) := runK_ok hmx (Ev40_ok N _) (okFn_ok (by kernel_rfl)) (by rw [attr_ToAsk_S]; exact h)
noncomputable def Ev41 (N : Nat) : (R : Type) → Env R := Env.addFn (Ev40 N) 28 (fun R => fnK [(.pair (.int .u8) (.sl (.int .u8)))] [(.pair (.int .u8) (.arr 32 (.int .u8))), (.int .i64)] (fun c => attr_ToAsk N c.1))
theorem Ev41_ok (N : Nat) (R : Type) : EnvOK Go.Proofs.Try.prog (Ev41 N R) := EnvOK.addFn hmx (Ev40_ok N R) (Ev40_ok N _) (by kernel_rfl) (fun c => attr_ToAsk_S N c.1)
noncomputable def Ev42 (N : Nat) : (R : Type) → Env R := Env.addBx (Ev41 N) [(29, 0)]
theorem Ev42_ok (N : Nat) (R : Type) : EnvOK Go.Proofs.Try.prog (Ev42 N R) := EnvOK.addBx (Ev41_ok N R) [(29, 0)]
noncomputable def attr_ToProto (N : Nat) (a0 : (Int) × (List (Int))) : Option ((Int) × Int) :=
 Option.bind (@attr_checked N (a0.1, a0.2) (1 : Int)) fun (v2 : Int) =>
 bif (!(decide (v2 = (0 : Int)))) then
  some (((0 : Int), v2))
 else
  Option.bind (@octs_Get N a0.2 @Bool.false) fun (v3 : (Int × Int)) =>
  some (((Go.IntKind.wrap .u16 v3.1), (0 : Int)))
theorem attr_ToProto_S (N : Nat) (a0 : (Int) × (List (Int))) : (runK Go.Proofs.Try.prog (Ev42 N) 400 29 [(.pair (.int .u8) (.sl (.int .u8)))] [(.int .u16), (.int .i64)] (a0, ())).run = attr_ToProto N a0 := by kernel_rfl
theorem attr_ToProto_C (N : Nat) (a0 : (Int) × (List (Int))) (y : (Int) × Int) (h : attr_ToProto N a0 = some y) : CallsK Go.Proofs.Try.prog 29 (valA [(.pair (.int .u8) (.sl (.int .u8)))] (a0, ())) (tupV (valR [(.int .u16), (.int .i64)] y)) := runK_ok hmx (Ev42_ok N _) (okFn_ok (by kernel_rfl)) (by rw [attr_ToProto_S]; exact h)
noncomputable def Ev43 (N : Nat) : (R : Type) → Env R := Env.addFn (Ev42 N) 29 (fun R => fnK [(.pair (.int .u8) (.sl (.int .u8)))] [(.int .u16), (.int .i64)] (fun c => attr_ToProto N c.1))
theorem Ev43_ok (N : Nat) (R : Type) : EnvOK Go.Proofs.Try.prog (Ev43 N R) := EnvOK.addFn hmx (Ev42_ok N R) (Ev42_ok N _) (by kernel_rfl) (fun c => attr_ToProto_S N c.1)
noncomputable def attr_Proto (N : Nat) (n0 : Int) : Option ((Int) × (List (Int))) :=
 Option.bind (@octs_Put N (Go.IntKind.wrap .u64 n0) (2 : Int) @Bool.false) fun (v2 : ((List Int) × Int)) =>
 some (((1 : Int), v2.1))
theorem attr_Proto_S (N : Nat) (n0 : Int) : (runK Go.Proofs.Try.prog (Ev43 N) 400 30 [(.int .u16)] [(.pair (.int .u8) (.sl (.int .u8)))] (n0, ())).run = attr_Proto N n0 := by kernel_rfl
theorem attr_Proto_C (N : Nat) (n0 : Int) (y : (Int) × (List (Int))) (h : attr_Proto N n0 = some y) : CallsK Go.Proofs.Try.prog 30 (valA [(.int .u16)] (n0, ())) (tupV (valR [(.pair (.int .u8) (.sl (.int .u8)))] y)) := runK_ok hmx (Ev43_ok N _) (okFn_ok (by kernel_rfl)) (by rw [attr_Proto_S]; exact h)
noncomputable def Ev44 (N : Nat) : (R : Type) → Env R := Env.addFn (Ev43 N) 30 (fun R => fnK [(.int .u16)] [(.pair (.int .u8) (.sl (.int .u8)))] (fun c => attr_Proto N c.1))
theorem Ev44_ok (N : Nat) (R : Type) : EnvOK Go.Proofs.Try.prog (Ev44 N R) := EnvOK.addFn hmx (Ev43_ok N R) (Ev43_ok N _) (by kernel_rfl) (fun c => attr_Proto_S N c.1)
noncomputable def ref17_kind (N : Nat) (id0 : Int) : Option (Bool) :=
 Option.bind (bif (decide ((1 : Int) ≤ id0)) then
   some ((@cond Bool @Bool.true (decide (id0 ≤ (4 : Int))) @Bool.false))
  else
   some (@Bool.false)) fun (v2 : Bool) =>
 some (v2)
theorem ref17_kind_S (N : Nat) (id0 : Int) : (runK Go.Proofs.Try.prog (Ev44 N) 400 51 [(.int .u8)] [.bool] (id0, ())).run = ref17_kind N id0 := by kernel_rfl
theorem ref17_kind_C (N : Nat) (id0 : Int) (y : Bool) (h : ref17_kind N id0 = some y) : CallsK Go.Proofs.Try.prog 51 (valA [(.int .u8)] (id0, ())) (tupV (valR [.bool] y)) := runK_ok hmx (Ev44_ok N _) (okFn_ok (by kernel_rfl)) (by rw [ref17_kind_S]; exact h)
noncomputable def Ev45 (N : Nat) : (R : Type) → Env R := Env.addFn (Ev44 N) 51 (fun R => fnK [(.int .u8)] [.bool] (fun c => ref17_kind N c.1))
theorem Ev45_ok (N : Nat) (R : Type) : EnvOK Go.Proofs.Try.prog (Ev45 N R) := EnvOK.addFn hmx (Ev44_ok N R) (Ev44_ok N _) (by kernel_rfl) (fun c => ref17_kind_S N c.1)
noncomputable def ref17_zeros_L2_I : LI := ⟨15, 0, [], ⟨[(0, .ty (.sl (.int .u8))), (3, .ty (.int .i64))], []⟩, [(.ret, ⟨[(2, .ty .bool)], []⟩), (.exit 0, ⟨[], []⟩)]⟩
noncomputable def ref17_zeros_L2 (N : Nat) (X : (((List (Int)) × ((Int) × Unit)) × Unit) → Option (((((Bool) × Unit) × Unit) ⊕ (Unit × Unit)))) (b0 : List (Int)) (i3 : Int) : Option (((((Bool) × Unit) × Unit) ⊕ (Unit × Unit))) :=
 bif (decide (i3 < (((List.length b0) : Nat) : Int))) then
  Option.bind (getI b0 i3) fun (v4 : Int) =>
  bif (!(decide (v4 = (0 : Int)))) then
   some ((.inl ((@Bool.false, @Unit.unit), @Unit.unit)))
  else
   (X ((b0, ((Go.IntKind.wrap .i64 (i3 + (1 : Int))), @Unit.unit)), @Unit.unit))
 else
  some ((.inr (@Unit.unit, @Unit.unit)))
noncomputable def ref17_zeros_L2_R (N : Nat) (c : (((List (Int)) × ((Int) × Unit)) × Unit)) : Option (((((Bool) × Unit) × Unit) ⊕ (Unit × Unit))) := gl (fun X c => ref17_zeros_L2 N X c.1.1 c.1.2.1) N c
theorem ref17_zeros_L2_S (N : Nat) (X : (((List (Int)) × ((Int) × Unit)) × Unit) → Option (((((Bool) × Unit) × Unit) ⊕ (Unit × Unit)))) (b0 : List (Int)) (i3 : Int) : (roundK Go.Proofs.Try.prog (Ev45 N) 400 [58] ref17_zeros_L2_I (loopAt Go.Proofs.Try.prog [58] 2) X ((b0, i3, ()), ())).run = ref17_zeros_L2 N X b0 i3 := by kernel_rfl
noncomputable def Ev46 (N : Nat) : (R : Type) → Env R := Env.addLp (Ev45 N) [58] 0 2 (fun R => lpK Go.Proofs.Try.prog ref17_zeros_L2_I (fun X c => ref17_zeros_L2 N X c.1.1 c.1.2.1) N)
theorem Ev46_ok (N : Nat) (R : Type) : EnvOK Go.Proofs.Try.prog (Ev46 N R) := EnvOK.addLp (Ev45_ok N R) (by kernel_rfl) (lpK_ok (li := ref17_zeros_L2_I) (G := fun X c => ref17_zeros_L2 N X c.1.1 c.1.2.1) hmx (Ev45_ok N _) (by kernel_rfl) loopAt_sub (fun (X : CT ref17_zeros_L2_I.sh → Option (OT ref17_zeros_L2_I.outs)) (c : CT ref17_zeros_L2_I.sh) => ref17_zeros_L2_S N X c.1.1 c.1.2.1) N)
noncomputable def ref17_zeros (N : Nat) (b0 : List (Int)) : Option (Bool) :=
 Option.bind (ref17_zeros_L2_R N ((b0, ((0 : Int), @Unit.unit)), @Unit.unit)) fun (v2 : (((Bool × Unit) × Unit) ⊕ (Unit × Unit))) =>
 Sum.elim
  (fun (v3 : ((Bool × Unit) × Unit)) =>
  some (v3.1.1))
  (fun (v3 : (Unit × Unit)) =>
  some (@Bool.true)) v2
theorem ref17_zeros_S (N : Nat) (b0 : List (Int)) : (runK Go.Proofs.Try.prog (Ev46 N) 400 58 [(.sl (.int .u8))] [.bool] (b0, ())).run = ref17_zeros N b0 := by kernel_rfl
theorem ref17_zeros_C (N : Nat) (b0 : List (Int)) (y : Bool) (h : ref17_zeros N b0 = some y) : CallsK Go.Proofs.Try.prog 58 (valA [(.sl (.int .u8))] (b0, ())) (tupV (valR [.bool] y)) := runK_ok hmx (Ev46_ok N _) (okFn_ok (by kernel_rfl)) (by rw [ref17_zeros_S]; exact h)
noncomputable def Ev47 (N : Nat) : (R : Type) → Env R := Env.addFn (Ev46 N) 58 (fun R => fnK [(.sl (.int .u8))] [.bool] (fun c => ref17_zeros N c.1))
theorem Ev47_ok (N : Nat) (R : Type) : EnvOK Go.Proofs.Try.prog (Ev47 N R) := EnvOK.addFn hmx (Ev46_ok N R) (Ev46_ok N _) (by kernel_rfl) (fun c => ref17_zeros_S N c.1)
noncomputable def Ev48 (N : Nat) : (R : Type) → Env R := Env.addBx (Ev47 N) [(13, 0)]
theorem Ev48_ok (N : Nat) (R : Type) : EnvOK Go.Proofs.Try.prog (Ev48 N R) := EnvOK.addBx (Ev47_ok N R) [(13, 0)]
noncomputable def ref17_Lay (N : Nat) (a0 : (Int) × (List (Int))) : Option ((List (Int)) × Int) :=
 Option.bind (@ref17_kind N a0.1) fun (v2 : Bool) =>
 bif (!v2) then
  some ((([] : List (Int)), (9 : Int)))
 else
  bif (decide ((4091 : Int) < (((List.length a0.2) : Nat) : Int))) then
   some ((([] : List (Int)), (8 : Int)))
  else
   Option.bind (@ref01_Big N (Go.IntKind.wrap .u64 (Go.IntKind.wrap .i64 ((4 : Int) + (((List.length a0.2) : Nat) : Int)))) (2 : Int)) fun (v3 : (List Int)) =>
   bif ((roomB ((List.length ([(0 : Int), a0.1] : List (Int))) + (List.length v3)) 1) && (!(@List.isEmpty Int v3))) then
    bif (roomB ((List.length (([(0 : Int), a0.1] : List (Int)) ++ v3)) + (List.length a0.2)) 1) then
     some ((((([(0 : Int), a0.1] : List (Int)) ++ v3) ++ a0.2), (0 : Int)))
    else
     none
   else
    none
theorem ref17_Lay_S (N : Nat) (a0 : (Int) × (List (Int))) : (runK Go.Proofs.Try.prog (Ev48 N) 400 13 [(.pair (.int .u8) (.sl (.int .u8)))] [(.sl (.int .u8)), (.int .i64)] (a0, ())).run = ref17_Lay N a0 := by kernel_rfl
theorem ref17_Lay_C (N : Nat) (a0 : (Int) × (List (Int))) (y : (List (Int)) × Int) (h : ref17_Lay N a0 = some y) : CallsK Go.Proofs.Try.prog 13 (valA [(.pair (.int .u8) (.sl (.int .u8)))] (a0, ())) (tupV (valR [(.sl (.int .u8)), (.int .i64)] y)) := runK_ok hmx (Ev48_ok N _) (okFn_ok (by kernel_rfl)) (by rw [ref17_Lay_S]; exact h)
noncomputable def Ev49 (N : Nat) : (R : Type) → Env R := Env.addFn (Ev48 N) 13 (fun R => fnK [(.pair (.int .u8) (.sl (.int .u8)))] [(.sl (.int .u8)), (.int .i64)] (fun c => ref17_Lay N c.1))
theorem Ev49_ok (N : Nat) (R : Type) : EnvOK Go.Proofs.Try.prog (Ev49 N R) := EnvOK.addFn hmx (Ev48_ok N R) (Ev48_ok N _) (by kernel_rfl) (fun c => ref17_Lay_S N c.1)
noncomputable def ref17_Parse (N : Nat) (b0 : List (Int)) : Option (((Int) × (List (Int))) × (Int) × Int) :=
 bif (decide ((((List.length b0) : Nat) : Int) < (4 : Int))) then
  some ((((0 : Int), ([] : List (Int))), ((0 : Int), (4 : Int))))
 else
  Option.bind (subI b0 (2 : Int) (4 : Int)) fun (v2 : (List Int)) =>
  Option.bind (@ref01_Num N v2) fun (v3 : Int) =>
  Option.bind (getI b0 (0 : Int)) fun (v4 : Int) =>
  Option.bind (bif (!(decide (v4 = (0 : Int)))) then
    some (@Bool.true)
   else
    some ((@cond Bool @Bool.false @Bool.true (decide ((Go.IntKind.wrap .i64 v3) < (4 : Int)))))) fun (v5 : Bool) =>
  Option.bind (bif v5 then
    some (@Bool.true)
   else
    some ((@cond Bool @Bool.false @Bool.true (decide ((4095 : Int) < (Go.IntKind.wrap .i64 v3)))))) fun (v6 : Bool) =>
  bif v6 then
   some ((((0 : Int), ([] : List (Int))), ((0 : Int), (3 : Int))))
  else
   Option.bind (getI b0 (1 : Int)) fun (v7 : Int) =>
   Option.bind (@ref17_kind N v7) fun (v8 : Bool) =>
   bif (!v8) then
    some ((((0 : Int), ([] : List (Int))), ((0 : Int), (9 : Int))))
   else
    bif (decide ((((List.length b0) : Nat) : Int) < (Go.IntKind.wrap .i64 v3))) then
     some ((((0 : Int), ([] : List (Int))), ((0 : Int), (4 : Int))))
    else
     Option.bind (getI b0 (1 : Int)) fun (v9 : Int) =>
     Option.bind (subI b0 (4 : Int) (Go.IntKind.wrap .i64 v3)) fun (v10 : (List Int)) =>
     some (((v9, v10), ((Go.IntKind.wrap .i64 v3), (0 : Int))))
theorem ref17_Parse_S (N : Nat) (b0 : List (Int)) : (runK Go.Proofs.Try.prog (Ev49 N) 400 15 [(.sl (.int .u8))] [(.pair (.int .u8) (.sl (.int .u8))), (.int .i64), (.int .i64)] (b0, ())).run = ref17_Parse N b0 := by kernel_rfl
theorem ref17_Parse_C (N : Nat) (b0 : List (Int)) (y : ((Int) × (List (Int))) × (Int) × Int) (h : ref17_Parse N b0 = some y) : CallsK Go.Proofs.Try.prog 15 (valA [(.sl (.int .u8))] (b0, ())) (tupV (valR [(.pair (.int .u8) (.sl (.int .u8))), (.int .i64), (.int .i64)] y)) := runK_ok hmx (Ev49_ok N _) (okFn_ok (by kernel_rfl)) (by rw [ref17_Parse_S]; exact h)
noncomputable def Ev50 (N : Nat) : (R : Type) → Env R := Env.addFn (Ev49 N) 15 (fun R => fnK [(.sl (.int .u8))] [(.pair (.int .u8) (.sl (.int .u8))), (.int .i64), (.int .i64)] (fun c => ref17_Parse N c.1))
theorem Ev50_ok (N : Nat) (R : Type) : EnvOK Go.Proofs.Try.prog (Ev50 N R) := EnvOK.addFn hmx (Ev49_ok N R) (Ev49_ok N _) (by kernel_rfl) (fun c => ref17_Parse_S N c.1)
noncomputable def Ev51 (N : Nat) : (R : Type) → Env R := Env.addBx (Ev50 N) [(19, 0)]
theorem Ev51_ok (N : Nat) (R : Type) : EnvOK Go.Proofs.Try.prog (Ev51 N R) := EnvOK.addBx (Ev50_ok N R) [(19, 0)]
noncomputable def ref17_Check (N : Nat) (a0 : (Int) × (List (Int))) : Option (Int) :=
 Option.bind (@ref17_kind N a0.1) fun (v2 : Bool) =>
 bif (!v2) then
  some ((9 : Int))
 else
  Option.bind (getI ([(2 : Int), (8 : Int), (100 : Int), (36 : Int)] : List (Int)) (Go.IntKind.wrap .u8 (a0.1 - (1 : Int)))) fun (v3 : Int) =>
  Option.bind (getI ([(2 : Int), (72 : Int), (100 : Int), (36 : Int)] : List (Int)) (Go.IntKind.wrap .u8 (a0.1 - (1 : Int)))) fun (v4 : Int) =>
  bif (decide ((((List.length a0.2) : Nat) : Int) < v3)) then
   some ((4 : Int))
  else
   bif (decide (v4 < (((List.length a0.2) : Nat) : Int))) then
    some ((3 : Int))
   else
    bif (decide (a0.1 = (1 : Int))) then
     some ((0 : Int))
    else
     Option.bind (getI a0.2 (3 : Int)) fun (v5 : Int) =>
     Option.bind (takeI a0.2 (3 : Int)) fun (v6 : (List Int)) =>
     Option.bind (@ref17_zeros N v6) fun (v7 : Bool) =>
     Option.bind (bif (!v7) then
       some (@Bool.true)
      else
       bif (decide (a0.1 = (2 : Int))) then
        some ((@cond Bool @Bool.false @Bool.true (@cond Bool @Bool.true (decide ((4 : Int) < v5)) @Bool.false)))
       else
        some ((@cond Bool @Bool.false @Bool.true @Bool.false))) fun (v8 : Bool) =>
     Option.bind (bif v8 then
       some (@Bool.true)
      else
       bif (decide (a0.1 = (3 : Int))) then
        bif (@cond Bool @Bool.true (!(decide (v5 = (1 : Int)))) @Bool.false) then
         some ((@cond Bool @Bool.false @Bool.true (@cond Bool @Bool.true (!(decide (v5 = (2 : Int)))) @Bool.false)))
        else
         some ((@cond Bool @Bool.false @Bool.true @Bool.false))
       else
        some ((@cond Bool @Bool.false @Bool.true @Bool.false))) fun (v9 : Bool) =>
     Option.bind (bif v9 then
       some (@Bool.true)
      else
       bif (decide (a0.1 = (4 : Int))) then
        bif (decide (v5 < (1 : Int))) then
         some ((@cond Bool @Bool.false @Bool.true (@cond Bool @Bool.true @Bool.true @Bool.false)))
        else
         some ((@cond Bool @Bool.false @Bool.true (@cond Bool @Bool.true (@cond Bool @Bool.false @Bool.true (decide ((3 : Int) < v5))) @Bool.false)))
       else
        some ((@cond Bool @Bool.false @Bool.true @Bool.false))) fun (v10 : Bool) =>
     bif v10 then
      some ((3 : Int))
     else
      some ((0 : Int))
theorem ref17_Check_S (N : Nat) (a0 : (Int) × (List (Int))) : (runK Go.Proofs.Try.prog (Ev51 N) 400 19 [(.pair (.int .u8) (.sl (.int .u8)))] [(.int .i64)] (a0, ())).run = ref17_Check N a0 := by kernel_rfl
theorem ref17_Check_C (N : Nat) (a0 : (Int) × (List (Int))) (y : Int) (h : ref17_Check N a0 = some y) : CallsK Go.Proofs.Try.prog 19 (valA [(.pair (.int .u8) (.sl (.int .u8)))] (a0, ())) (tupV (valR [(.int .i64)] y)) := runK_ok hmx (Ev51_ok N _) (okFn_ok (by kernel_rfl)) (by rw [ref17_Check_S]; exact h)
noncomputable def Ev52 (N : Nat) : (R : Type) → Env R := Env.addFn (Ev51 N) 19 (fun R => fnK [(.pair (.int .u8) (.sl (.int .u8)))] [(.int .i64)] (fun c => ref17_Check N c.1))
theorem Ev52_ok (N : Nat) (R : Type) : EnvOK Go.Proofs.Try.prog (Ev52 N R) := EnvOK.addFn hmx (Ev51_ok N R) (Ev51_ok N _) (by kernel_rfl) (fun c => ref17_Check_S N c.1)
noncomputable def ref17_Status (N : Nat) (about0 : Int) (code1 : Int) (detail2 : List (Int)) : Option ((Int) × (List (Int))) :=
 Option.bind (@ref01_Big N (Go.IntKind.wrap .u64 code1) (4 : Int)) fun (v4 : (List Int)) =>
 bif ((roomB ((List.length ([(0 : Int), (0 : Int), (0 : Int), about0] : List (Int))) + (List.length v4)) 1) && (!(@List.isEmpty Int v4))) then
  Option.bind (takeI detail2 (@minI (((List.length detail2) : Nat) : Int) (64 : Int))) fun (v5 : (List Int)) =>
  bif (roomB ((List.length (([(0 : Int), (0 : Int), (0 : Int), about0] : List (Int)) ++ v4)) + (List.length v5)) 1) then
   some (((2 : Int), ((([(0 : Int), (0 : Int), (0 : Int), about0] : List (Int)) ++ v4) ++ v5)))
  else
   none
 else
  none
theorem ref17_Status_S (N : Nat) (about0 : Int) (code1 : Int) (detail2 : List (Int)) : (runK Go.Proofs.Try.prog (Ev52 N) 400 23 [(.int .u8), (.int .u32), (.sl (.int .u8))] [(.pair (.int .u8) (.sl (.int .u8)))] (about0, code1, detail2, ())).run = ref17_Status N about0 code1 detail2 := by kernel_rfl
theorem ref17_Status_C (N : Nat) (about0 : Int) (code1 : Int) (detail2 : List (Int)) (y : (Int) × (List (Int))) (h : ref17_Status N about0 code1 detail2 = some y) : CallsK Go.Proofs.Try.prog 23 (valA [(.int .u8), (.int .u32), (.sl (.int .u8))] (about0, code1, detail2, ())) (tupV (valR [(.pair (.int .u8) (.sl (.int .u8)))] y)) := runK_ok hmx (Ev52_ok N _) (okFn_ok (by kernel_rfl)) (by rw [ref17_Status_S]; exact h)
noncomputable def Ev53 (N : Nat) : (R : Type) → Env R := Env.addFn (Ev52 N) 23 (fun R => fnK [(.int .u8), (.int .u32), (.sl (.int .u8))] [(.pair (.int .u8) (.sl (.int .u8)))] (fun c => ref17_Status N c.1 c.2.1 c.2.2.1))
theorem Ev53_ok (N : Nat) (R : Type) : EnvOK Go.Proofs.Try.prog (Ev53 N R) := EnvOK.addFn hmx (Ev52_ok N R) (Ev52_ok N _) (by kernel_rfl) (fun c => ref17_Status_S N c.1 c.2.1 c.2.2.1)
noncomputable def Ev54 (N : Nat) : (R : Type) → Env R := Env.addBx (Ev53 N) [(24, 0)]
theorem Ev54_ok (N : Nat) (R : Type) : EnvOK Go.Proofs.Try.prog (Ev54 N R) := EnvOK.addBx (Ev53_ok N R) [(24, 0)]
noncomputable def ref17_Binding (N : Nat) (method0 : Int) (nonce1 : Arr (Int) 32) (hash2 : Arr (Int) 32) (x3 : Arr (Int) 32) : Option ((Int) × (List (Int))) :=
 bif ((roomB ((List.length ([(0 : Int), (0 : Int), (0 : Int), method0] : List (Int))) + (List.length nonce1.l)) 1) && (!(@List.isEmpty Int nonce1.l))) then
  bif (roomB ((List.length (([(0 : Int), (0 : Int), (0 : Int), method0] : List (Int)) ++ nonce1.l)) + (List.length hash2.l)) 1) then
   bif (roomB ((List.length ((([(0 : Int), (0 : Int), (0 : Int), method0] : List (Int)) ++ nonce1.l) ++ hash2.l)) + (List.length x3.l)) 1) then
    some (((3 : Int), (((([(0 : Int), (0 : Int), (0 : Int), method0] : List (Int)) ++ nonce1.l) ++ hash2.l) ++ x3.l)))
   else
    none
  else
   none
 else
  none
theorem ref17_Binding_S (N : Nat) (method0 : Int) (nonce1 : Arr (Int) 32) (hash2 : Arr (Int) 32) (x3 : Arr (Int) 32) : (runK Go.Proofs.Try.prog (Ev54 N) 400 24 [(.int .u8), (.arr 32 (.int .u8)), (.arr 32 (.int .u8)), (.arr 32 (.int .u8))] [(.pair (.int .u8) (.sl (.int .u8)))] (method0, nonce1, hash2, x3, ())).run = ref17_Binding N method0 nonce1 hash2 x3 := by kernel_rfl
theorem ref17_Binding_C (N : Nat) (method0 : Int) (nonce1 : Arr (Int) 32) (hash2 : Arr (Int) 32) (x3 : Arr (Int) 32) (y : (Int) × (List (Int))) (h : ref17_Binding N method0 nonce1 hash2 x3 = some y) : CallsK Go.Proofs.Try.prog 24 (valA [(.int .u8), (.arr 32 (.int .u8)), (.arr 32 (.int .u8)), (.arr 32 (.int .u8))] (method0, nonce1, hash2, x3, ())) (tupV (valR [(.pair (.int .u8) (.sl (.int .u8)))] y)) := runK_ok hmx (Ev54_ok N _) (okFn_ok (by kernel_rfl)) (by rw [ref17_Binding_S]; exact h)
noncomputable def Ev55 (N : Nat) : (R : Type) → Env R := Env.addFn (Ev54 N) 24 (fun R => fnK [(.int .u8), (.arr 32 (.int .u8)), (.arr 32 (.int .u8)), (.arr 32 (.int .u8))] [(.pair (.int .u8) (.sl (.int .u8)))] (fun c => ref17_Binding N c.1 c.2.1 c.2.2.1 c.2.2.2.1))
theorem Ev55_ok (N : Nat) (R : Type) : EnvOK Go.Proofs.Try.prog (Ev55 N R) := EnvOK.addFn hmx (Ev54_ok N R) (Ev54_ok N _) (by kernel_rfl) (fun c => ref17_Binding_S N c.1 c.2.1 c.2.2.1 c.2.2.2.1)
noncomputable def Ev56 (N : Nat) : (R : Type) → Env R := Env.addBx (Ev55 N) [(25, 0)]
theorem Ev56_ok (N : Nat) (R : Type) : EnvOK Go.Proofs.Try.prog (Ev56 N R) := EnvOK.addBx (Ev55_ok N R) [(25, 0)]
noncomputable def ref17_Ask (N : Nat) (methods0 : Int) (nonce1 : Arr (Int) 32) : Option ((Int) × (List (Int))) :=
 bif ((roomB ((List.length ([(0 : Int), (0 : Int), (0 : Int), methods0] : List (Int))) + (List.length nonce1.l)) 1) && (!(@List.isEmpty Int nonce1.l))) then
  some (((4 : Int), (([(0 : Int), (0 : Int), (0 : Int), methods0] : List (Int)) ++ nonce1.l)))
 else
  none
theorem ref17_Ask_S (N : Nat) (methods0 : Int) (nonce1 : Arr (Int) 32) : (runK Go.Proofs.Try.prog (Ev56 N) 400 25 [(.int .u8), (.arr 32 (.int .u8))] [(.pair (.int .u8) (.sl (.int .u8)))] (methods0, nonce1, ())).run = ref17_Ask N methods0 nonce1 := by kernel_rfl
theorem ref17_Ask_C (N : Nat) (methods0 : Int) (nonce1 : Arr (Int) 32) (y : (Int) × (List (Int))) (h : ref17_Ask N methods0 nonce1 = some y) : CallsK Go.Proofs.Try.prog 25 (valA [(.int .u8), (.arr 32 (.int .u8))] (methods0, nonce1, ())) (tupV (valR [(.pair (.int .u8) (.sl (.int .u8)))] y)) := runK_ok hmx (Ev56_ok N _) (okFn_ok (by kernel_rfl)) (by rw [ref17_Ask_S]; exact h)
noncomputable def Ev57 (N : Nat) : (R : Type) → Env R := Env.addFn (Ev56 N) 25 (fun R => fnK [(.int .u8), (.arr 32 (.int .u8))] [(.pair (.int .u8) (.sl (.int .u8)))] (fun c => ref17_Ask N c.1 c.2.1))
theorem Ev57_ok (N : Nat) (R : Type) : EnvOK Go.Proofs.Try.prog (Ev57 N R) := EnvOK.addFn hmx (Ev56_ok N R) (Ev56_ok N _) (by kernel_rfl) (fun c => ref17_Ask_S N c.1 c.2.1)
noncomputable def Ev58 (N : Nat) : (R : Type) → Env R := Env.addBx (Ev57 N) [(31, 0)]
theorem Ev58_ok (N : Nat) (R : Type) : EnvOK Go.Proofs.Try.prog (Ev58 N R) := EnvOK.addBx (Ev57_ok N R) [(31, 0)]
noncomputable def ref17_To (N : Nat) (a0 : (Int) × (List (Int))) (id1 : Int) : Option (Int) :=
 bif (!(decide (a0.1 = id1))) then
  some ((9 : Int))
 else
  Option.bind (@ref17_Check N (a0.1, a0.2)) fun (v3 : Int) =>
  some (v3)
theorem ref17_To_S (N : Nat) (a0 : (Int) × (List (Int))) (id1 : Int) : (runK Go.Proofs.Try.prog (Ev58 N) 400 31 [(.pair (.int .u8) (.sl (.int .u8))), (.int .u8)] [(.int .i64)] (a0, id1, ())).run = ref17_To N a0 id1 := by kernel_rfl
theorem ref17_To_C (N : Nat) (a0 : (Int) × (List (Int))) (id1 : Int) (y : Int) (h : ref17_To N a0 id1 = some y) : CallsK Go.Proofs.Try.prog 31 (valA [(.pair (.int .u8) (.sl (.int .u8))), (.int .u8)] (a0, id1, ())) (tupV (valR [(.int .i64)] y)) := runK_ok hmx (Ev58_ok N _) (okFn_ok (by kernel_rfl)) (by rw [ref17_To_S]; exact h)
noncomputable def Ev59 (N : Nat) : (R : Type) → Env R := Env.addFn (Ev58 N) 31 (fun R => fnK [(.pair (.int .u8) (.sl (.int .u8))), (.int .u8)] [(.int .i64)] (fun c => ref17_To N c.1 c.2.1))
theorem Ev59_ok (N : Nat) (R : Type) : EnvOK Go.Proofs.Try.prog (Ev59 N R) := EnvOK.addFn hmx (Ev58_ok N R) (Ev58_ok N _) (by kernel_rfl) (fun c => ref17_To_S N c.1 c.2.1)
noncomputable def law17_alive (N : Nat) : Option (Bool) :=
 Option.bind (@attr_Proto N (1 : Int)) fun (v1 : (Int × (List Int))) =>
 Option.bind (@attr_Lay N (v1.1, v1.2)) fun (v2 : ((List Int) × Int)) =>
 Option.bind (@attr_Parse N v2.1) fun (v3 : ((Int × (List Int)) × (Int × Int))) =>
 Option.bind (@attr_ToProto N (v3.1.1, v3.1.2)) fun (v4 : (Int × Int)) =>
 Option.bind (@attr_OfAsk N ((2 : Int), (@Arr.cons Int (31 : Nat) (0 : Int) (@Arr.cons Int (30 : Nat) (0 : Int) (@Arr.cons Int (29 : Nat) (0 : Int) (@Arr.cons Int (28 : Nat) (0 : Int) (@Arr.cons Int (27 : Nat) (0 : Int) (@Arr.cons Int (26 : Nat) (0 : Int) (@Arr.cons Int (25 : Nat) (0 : Int) (@Arr.cons Int (24 : Nat) (0 : Int) (@Arr.cons Int (23 : Nat) (0 : Int) (@Arr.cons Int (22 : Nat) (0 : Int) (@Arr.cons Int (21 : Nat) (0 : Int) (@Arr.cons Int (20 : Nat) (0 : Int) (@Arr.cons Int (19 : Nat) (0 : Int) (@Arr.cons Int (18 : Nat) (0 : Int) (@Arr.cons Int (17 : Nat) (0 : Int) (@Arr.cons Int (16 : Nat) (0 : Int) (@Arr.cons Int (15 : Nat) (0 : Int) (@Arr.cons Int (14 : Nat) (0 : Int) (@Arr.cons Int (13 : Nat) (0 : Int) (@Arr.cons Int (12 : Nat) (0 : Int) (@Arr.cons Int (11 : Nat) (0 : Int) (@Arr.cons Int (10 : Nat) (0 : Int) (@Arr.cons Int (9 : Nat) (0 : Int) (@Arr.cons Int (8 : Nat) (0 : Int) (@Arr.cons Int (7 : Nat) (0 : Int) (@Arr.cons Int (6 : Nat) (0 : Int) (@Arr.cons Int (5 : Nat) (0 : Int) (@Arr.cons Int (4 : Nat) (0 : Int) (@Arr.cons Int (3 : Nat) (0 : Int) (@Arr.cons Int (2 : Nat) (0 : Int) (@Arr.cons Int (1 : Nat) (0 : Int) (@Arr.cons Int (0 : Nat) (0 : Int) (@Arr.nil Int))))))))))))))))))))))))))))))))))) fun (v5 : (Int × (List Int))) =>
 Option.bind (@attr_ToAsk N (v5.1, v5.2)) fun (v6 : ((Int × (Arr Int 32)) × Int)) =>
 Option.bind (@toBy v2.1) fun (v7 : (List UInt8)) =>
 bif (decide (v7 = (@Array.toList UInt8 (@List.toArray UInt8 ([(@OfNat.ofNat UInt8 (0 : Nat) (@UInt8.instOfNat (0 : Nat))), (@OfNat.ofNat UInt8 (1 : Nat) (@UInt8.instOfNat (1 : Nat))), (@OfNat.ofNat UInt8 (0 : Nat) (@UInt8.instOfNat (0 : Nat))), (@OfNat.ofNat UInt8 (6 : Nat) (@UInt8.instOfNat (6 : Nat))), (@OfNat.ofNat UInt8 (0 : Nat) (@UInt8.instOfNat (0 : Nat))), (@OfNat.ofNat UInt8 (1 : Nat) (@UInt8.instOfNat (1 : Nat)))] : List (UInt8)))))) then
  bif (@cond Bool @Bool.true (decide (v2.2 = (0 : Int))) @Bool.false) then
   bif (@cond Bool @Bool.true (decide (v3.2.1 = (6 : Int))) @Bool.false) then
    bif (@cond Bool @Bool.true (decide (v3.2.2 = (0 : Int))) @Bool.false) then
     bif (@cond Bool @Bool.true (decide (v4.1 = (1 : Int))) @Bool.false) then
      bif (@cond Bool @Bool.true (decide (v4.2 = (0 : Int))) @Bool.false) then
       bif (@cond Bool @Bool.true (decide (v6.1.1 = (2 : Int))) @Bool.false) then
        bif (@cond Bool @Bool.true (decide (v6.2 = (0 : Int))) @Bool.false) then
         Option.bind (@attr_Proto N (1 : Int)) fun (v8 : (Int × (List Int))) =>
         Option.bind (@attr_Same N (v3.1.1, v3.1.2) (v8.1, v8.2)) fun (v9 : Bool) =>
         some ((@cond Bool @Bool.true v9 @Bool.false))
        else
         some (@Bool.false)
       else
        some (@Bool.false)
      else
       some (@Bool.false)
     else
      some (@Bool.false)
    else
     some (@Bool.false)
   else
    some (@Bool.false)
  else
   some (@Bool.false)
 else
  some (@Bool.false)
theorem law17_alive_S (N : Nat) : (runK Go.Proofs.Try.prog (Ev59 N) 400 10 [] [.bool] ()).run = law17_alive N  := by kernel_rfl
theorem law17_alive_C (N : Nat) (y : Bool) (h : law17_alive N  = some y) : CallsK Go.Proofs.Try.prog 10 (valA [] ()) (tupV (valR [.bool] y)) := runK_ok hmx (Ev59_ok N _) (okFn_ok (by kernel_rfl)) (by rw [law17_alive_S]; exact h)
noncomputable def Ev60 (N : Nat) : (R : Type) → Env R := Env.addFn (Ev59 N) 10 (fun R => fnK [] [.bool] (fun c => law17_alive N ))
theorem Ev60_ok (N : Nat) (R : Type) : EnvOK Go.Proofs.Try.prog (Ev60 N R) := EnvOK.addFn hmx (Ev59_ok N R) (Ev59_ok N _) (by kernel_rfl) (fun c => law17_alive_S N )
noncomputable def Ev61 (N : Nat) : (R : Type) → Env R := Env.addBx (Ev60 N) [(4, 0)]
theorem Ev61_ok (N : Nat) (R : Type) : EnvOK Go.Proofs.Try.prog (Ev61 N R) := EnvOK.addBx (Ev60_ok N R) [(4, 0)]
noncomputable def Ev62 (N : Nat) : (R : Type) → Env R := Env.addBx (Ev61 N) [(12, 0)]
theorem Ev62_ok (N : Nat) (R : Type) : EnvOK Go.Proofs.Try.prog (Ev62 N R) := EnvOK.addBx (Ev61_ok N R) [(12, 0)]
noncomputable def law17_theirs (N : Nat) (a0 : (Int) × (List (Int))) : Option ((Int) × (List (Int))) :=
 some ((a0.1, a0.2))
theorem law17_theirs_S (N : Nat) (a0 : (Int) × (List (Int))) : (runK Go.Proofs.Try.prog (Ev62 N) 400 12 [(.pair (.int .u8) (.sl (.int .u8)))] [(.pair (.int .u8) (.sl (.int .u8)))] (a0, ())).run = law17_theirs N a0 := by kernel_rfl
noncomputable def Ev63 (N : Nat) : (R : Type) → Env R := Env.addFn (Ev62 N) 12 (fun R => fnK [(.pair (.int .u8) (.sl (.int .u8)))] [(.pair (.int .u8) (.sl (.int .u8)))] (fun c => law17_theirs N c.1))
theorem Ev63_ok (N : Nat) (R : Type) : EnvOK Go.Proofs.Try.prog (Ev63 N R) := EnvOK.addFn hmx (Ev62_ok N R) (Ev62_ok N _) (by kernel_rfl) (fun c => law17_theirs_S N c.1)
noncomputable def law17_AttrMakes (N : Nat) (s0 : (Int) × ((Int) × (List (Int)))) (x1 : (Int) × ((Arr (Int) 32) × ((Arr (Int) 32) × (Arr (Int) 32)))) (y2 : (Int) × (Arr (Int) 32)) : Option (Bool) :=
 bif (decide ((300 : Int) < (((List.length s0.2.2) : Nat) : Int))) then
  Option.bind (@law17_alive N) fun (v4 : Bool) =>
  some (v4)
 else
  Option.bind (@attr_OfStatus N (s0.1, (s0.2.1, s0.2.2))) fun (v4 : (Int × (List Int))) =>
  Option.bind (@attr_OfBinding N (x1.1, (x1.2.1, (x1.2.2.1, x1.2.2.2)))) fun (v5 : (Int × (List Int))) =>
  Option.bind (@attr_OfAsk N (y2.1, y2.2)) fun (v6 : (Int × (List Int))) =>
  Option.bind (@ref17_Status N s0.1 s0.2.1 s0.2.2) fun (v7 : (Int × (List Int))) =>
  Option.bind (@attr_Same N (v4.1, v4.2) (v7.1, v7.2)) fun (v8 : Bool) =>
  bif (!v8) then
   some (@Bool.false)
  else
   Option.bind (@ref17_Binding N x1.1 x1.2.1 x1.2.2.1 x1.2.2.2) fun (v9 : (Int × (List Int))) =>
   Option.bind (@attr_Same N (v5.1, v5.2) (v9.1, v9.2)) fun (v10 : Bool) =>
   bif (@cond Bool @Bool.false @Bool.true (!v10)) then
    some (@Bool.false)
   else
    Option.bind (@ref17_Ask N y2.1 y2.2) fun (v11 : (Int × (List Int))) =>
    Option.bind (@attr_Same N (v6.1, v6.2) (v11.1, v11.2)) fun (v12 : Bool) =>
    bif (@cond Bool @Bool.false @Bool.true (!v12)) then
     some (@Bool.false)
    else
     Option.bind (@attr_ToStatus N (v4.1, v4.2)) fun (v13 : ((Int × (Int × (List Int))) × Int)) =>
     Option.bind (@attr_ToBinding N (v5.1, v5.2)) fun (v14 : ((Int × ((Arr Int 32) × ((Arr Int 32) × (Arr Int 32)))) × Int)) =>
     Option.bind (@attr_ToAsk N (v6.1, v6.2)) fun (v15 : ((Int × (Arr Int 32)) × Int)) =>
     Option.bind (bif (!(@BEq.beq Bool (@instBEqOfDecidableEq Bool @instDecidableEqBool) (decide (v13.2 = (0 : Int))) (decide (s0.1 ≤ (4 : Int))))) then
       some (@Bool.true)
      else
       bif (decide (x1.1 = (1 : Int))) then
        some ((@cond Bool @Bool.false @Bool.true (!(@BEq.beq Bool (@instBEqOfDecidableEq Bool @instDecidableEqBool) (decide (v14.2 = (0 : Int))) @Bool.true))))
       else
        some ((@cond Bool @Bool.false @Bool.true (!(@BEq.beq Bool (@instBEqOfDecidableEq Bool @instDecidableEqBool) (decide (v14.2 = (0 : Int))) (@cond Bool @Bool.false @Bool.true (decide (x1.1 = (2 : Int))))))))) fun (v16 : Bool) =>
     Option.bind (bif v16 then
       some (@Bool.true)
      else
       bif (decide ((1 : Int) ≤ y2.1)) then
        some ((@cond Bool @Bool.false @Bool.true (!(@BEq.beq Bool (@instBEqOfDecidableEq Bool @instDecidableEqBool) (decide (v15.2 = (0 : Int))) (@cond Bool @Bool.true (decide (y2.1 ≤ (3 : Int))) @Bool.false)))))
       else
        some ((@cond Bool @Bool.false @Bool.true (!(@BEq.beq Bool (@instBEqOfDecidableEq Bool @instDecidableEqBool) (decide (v15.2 = (0 : Int))) @Bool.false))))) fun (v17 : Bool) =>
     bif v17 then
      some (@Bool.false)
     else
      Option.bind (@attr_Proto N (Go.IntKind.wrap .u16 s0.2.1)) fun (v18 : (Int × (List Int))) =>
      Option.bind (@attr_ToProto N (v18.1, v18.2)) fun (v19 : (Int × Int)) =>
      bif (!(decide (v13.2 = (0 : Int)))) then
       bif (!(decide (v14.2 = (0 : Int)))) then
        bif (!(decide (v15.2 = (0 : Int)))) then
         bif (@cond Bool @Bool.true (decide (v19.1 = (Go.IntKind.wrap .u16 s0.2.1))) @Bool.false) then
          bif (@cond Bool @Bool.true (decide (v19.2 = (0 : Int))) @Bool.false) then
           Option.bind (@law17_alive N) fun (v20 : Bool) =>
           some ((@cond Bool @Bool.true v20 @Bool.false))
          else
           some (@Bool.false)
         else
          some (@Bool.false)
        else
         bif ((@wfB (@Td.pair (@Td.int @Go.IntKind.u8) (@Td.arr (32 : Nat) (@Td.int @Go.IntKind.u8))) (v15.1.1, v15.1.2)) && (@wfB (@Td.pair (@Td.int @Go.IntKind.u8) (@Td.arr (32 : Nat) (@Td.int @Go.IntKind.u8))) (y2.1, y2.2))) then
          bif (@cond Bool @Bool.true (@cond Bool @Bool.false @Bool.true (@Decidable.decide (@Eq (Int × (Arr Int 32)) (v15.1.1, v15.1.2) (y2.1, y2.2)) (@decT (@Td.pair (@Td.int @Go.IntKind.u8) (@Td.arr (32 : Nat) (@Td.int @Go.IntKind.u8))) (v15.1.1, v15.1.2) (y2.1, y2.2)))) @Bool.false) then
           bif (@cond Bool @Bool.true (decide (v19.1 = (Go.IntKind.wrap .u16 s0.2.1))) @Bool.false) then
            bif (@cond Bool @Bool.true (decide (v19.2 = (0 : Int))) @Bool.false) then
             Option.bind (@law17_alive N) fun (v20 : Bool) =>
             some ((@cond Bool @Bool.true v20 @Bool.false))
            else
             some (@Bool.false)
           else
            some (@Bool.false)
          else
           some (@Bool.false)
         else
          none
       else
        bif ((@wfB (@Td.pair (@Td.int @Go.IntKind.u8) (@Td.pair (@Td.arr (32 : Nat) (@Td.int @Go.IntKind.u8)) (@Td.pair (@Td.arr (32 : Nat) (@Td.int @Go.IntKind.u8)) (@Td.arr (32 : Nat) (@Td.int @Go.IntKind.u8))))) (v14.1.1, (v14.1.2.1, (v14.1.2.2.1, v14.1.2.2.2)))) && (@wfB (@Td.pair (@Td.int @Go.IntKind.u8) (@Td.pair (@Td.arr (32 : Nat) (@Td.int @Go.IntKind.u8)) (@Td.pair (@Td.arr (32 : Nat) (@Td.int @Go.IntKind.u8)) (@Td.arr (32 : Nat) (@Td.int @Go.IntKind.u8))))) (x1.1, (x1.2.1, (x1.2.2.1, x1.2.2.2))))) then
         bif (@cond Bool @Bool.true (@cond Bool @Bool.false @Bool.true (@Decidable.decide (@Eq (Int × ((Arr Int 32) × ((Arr Int 32) × (Arr Int 32)))) (v14.1.1, (v14.1.2.1, (v14.1.2.2.1, v14.1.2.2.2))) (x1.1, (x1.2.1, (x1.2.2.1, x1.2.2.2)))) (@decT (@Td.pair (@Td.int @Go.IntKind.u8) (@Td.pair (@Td.arr (32 : Nat) (@Td.int @Go.IntKind.u8)) (@Td.pair (@Td.arr (32 : Nat) (@Td.int @Go.IntKind.u8)) (@Td.arr (32 : Nat) (@Td.int @Go.IntKind.u8))))) (v14.1.1, (v14.1.2.1, (v14.1.2.2.1, v14.1.2.2.2))) (x1.1, (x1.2.1, (x1.2.2.1, x1.2.2.2)))))) @Bool.false) then
          bif (!(decide (v15.2 = (0 : Int)))) then
           bif (@cond Bool @Bool.true (decide (v19.1 = (Go.IntKind.wrap .u16 s0.2.1))) @Bool.false) then
            bif (@cond Bool @Bool.true (decide (v19.2 = (0 : Int))) @Bool.false) then
             Option.bind (@law17_alive N) fun (v20 : Bool) =>
             some ((@cond Bool @Bool.true v20 @Bool.false))
            else
             some (@Bool.false)
           else
            some (@Bool.false)
          else
           bif ((@wfB (@Td.pair (@Td.int @Go.IntKind.u8) (@Td.arr (32 : Nat) (@Td.int @Go.IntKind.u8))) (v15.1.1, v15.1.2)) && (@wfB (@Td.pair (@Td.int @Go.IntKind.u8) (@Td.arr (32 : Nat) (@Td.int @Go.IntKind.u8))) (y2.1, y2.2))) then
            bif (@cond Bool @Bool.true (@cond Bool @Bool.false @Bool.true (@Decidable.decide (@Eq (Int × (Arr Int 32)) (v15.1.1, v15.1.2) (y2.1, y2.2)) (@decT (@Td.pair (@Td.int @Go.IntKind.u8) (@Td.arr (32 : Nat) (@Td.int @Go.IntKind.u8))) (v15.1.1, v15.1.2) (y2.1, y2.2)))) @Bool.false) then
             bif (@cond Bool @Bool.true (decide (v19.1 = (Go.IntKind.wrap .u16 s0.2.1))) @Bool.false) then
              bif (@cond Bool @Bool.true (decide (v19.2 = (0 : Int))) @Bool.false) then
               Option.bind (@law17_alive N) fun (v20 : Bool) =>
               some ((@cond Bool @Bool.true v20 @Bool.false))
              else
               some (@Bool.false)
             else
              some (@Bool.false)
            else
             some (@Bool.false)
           else
            none
         else
          some (@Bool.false)
        else
         none
      else
       bif (decide (v13.1.1 = s0.1)) then
        bif (@cond Bool @Bool.true (decide (v13.1.2.1 = s0.2.1)) @Bool.false) then
         Option.bind (takeI s0.2.2 (@minI (((List.length s0.2.2) : Nat) : Int) (64 : Int))) fun (v20 : (List Int)) =>
         Option.bind (@ref01_Same N v13.1.2.2 v20) fun (v21 : Bool) =>
         bif (@cond Bool @Bool.false @Bool.true (@cond Bool @Bool.true v21 @Bool.false)) then
          bif (!(decide (v14.2 = (0 : Int)))) then
           bif (!(decide (v15.2 = (0 : Int)))) then
            bif (@cond Bool @Bool.true (decide (v19.1 = (Go.IntKind.wrap .u16 s0.2.1))) @Bool.false) then
             bif (@cond Bool @Bool.true (decide (v19.2 = (0 : Int))) @Bool.false) then
              Option.bind (@law17_alive N) fun (v22 : Bool) =>
              some ((@cond Bool @Bool.true v22 @Bool.false))
             else
              some (@Bool.false)
            else
             some (@Bool.false)
           else
            bif ((@wfB (@Td.pair (@Td.int @Go.IntKind.u8) (@Td.arr (32 : Nat) (@Td.int @Go.IntKind.u8))) (v15.1.1, v15.1.2)) && (@wfB (@Td.pair (@Td.int @Go.IntKind.u8) (@Td.arr (32 : Nat) (@Td.int @Go.IntKind.u8))) (y2.1, y2.2))) then
             bif (@cond Bool @Bool.true (@cond Bool @Bool.false @Bool.true (@Decidable.decide (@Eq (Int × (Arr Int 32)) (v15.1.1, v15.1.2) (y2.1, y2.2)) (@decT (@Td.pair (@Td.int @Go.IntKind.u8) (@Td.arr (32 : Nat) (@Td.int @Go.IntKind.u8))) (v15.1.1, v15.1.2) (y2.1, y2.2)))) @Bool.false) then
              bif (@cond Bool @Bool.true (decide (v19.1 = (Go.IntKind.wrap .u16 s0.2.1))) @Bool.false) then
               bif (@cond Bool @Bool.true (decide (v19.2 = (0 : Int))) @Bool.false) then
                Option.bind (@law17_alive N) fun (v22 : Bool) =>
                some ((@cond Bool @Bool.true v22 @Bool.false))
               else
                some (@Bool.false)
              else
               some (@Bool.false)
             else
              some (@Bool.false)
            else
             none
          else
           bif ((@wfB (@Td.pair (@Td.int @Go.IntKind.u8) (@Td.pair (@Td.arr (32 : Nat) (@Td.int @Go.IntKind.u8)) (@Td.pair (@Td.arr (32 : Nat) (@Td.int @Go.IntKind.u8)) (@Td.arr (32 : Nat) (@Td.int @Go.IntKind.u8))))) (v14.1.1, (v14.1.2.1, (v14.1.2.2.1, v14.1.2.2.2)))) && (@wfB (@Td.pair (@Td.int @Go.IntKind.u8) (@Td.pair (@Td.arr (32 : Nat) (@Td.int @Go.IntKind.u8)) (@Td.pair (@Td.arr (32 : Nat) (@Td.int @Go.IntKind.u8)) (@Td.arr (32 : Nat) (@Td.int @Go.IntKind.u8))))) (x1.1, (x1.2.1, (x1.2.2.1, x1.2.2.2))))) then
            bif (@cond Bool @Bool.true (@cond Bool @Bool.false @Bool.true (@Decidable.decide (@Eq (Int × ((Arr Int 32) × ((Arr Int 32) × (Arr Int 32)))) (v14.1.1, (v14.1.2.1, (v14.1.2.2.1, v14.1.2.2.2))) (x1.1, (x1.2.1, (x1.2.2.1, x1.2.2.2)))) (@decT (@Td.pair (@Td.int @Go.IntKind.u8) (@Td.pair (@Td.arr (32 : Nat) (@Td.int @Go.IntKind.u8)) (@Td.pair (@Td.arr (32 : Nat) (@Td.int @Go.IntKind.u8)) (@Td.arr (32 : Nat) (@Td.int @Go.IntKind.u8))))) (v14.1.1, (v14.1.2.1, (v14.1.2.2.1, v14.1.2.2.2))) (x1.1, (x1.2.1, (x1.2.2.1, x1.2.2.2)))))) @Bool.false) then
             bif (!(decide (v15.2 = (0 : Int)))) then
              bif (@cond Bool @Bool.true (decide (v19.1 = (Go.IntKind.wrap .u16 s0.2.1))) @Bool.false) then
               bif (@cond Bool @Bool.true (decide (v19.2 = (0 : Int))) @Bool.false) then
                Option.bind (@law17_alive N) fun (v22 : Bool) =>
                some ((@cond Bool @Bool.true v22 @Bool.false))
               else
                some (@Bool.false)
              else
               some (@Bool.false)
             else
              bif ((@wfB (@Td.pair (@Td.int @Go.IntKind.u8) (@Td.arr (32 : Nat) (@Td.int @Go.IntKind.u8))) (v15.1.1, v15.1.2)) && (@wfB (@Td.pair (@Td.int @Go.IntKind.u8) (@Td.arr (32 : Nat) (@Td.int @Go.IntKind.u8))) (y2.1, y2.2))) then
               bif (@cond Bool @Bool.true (@cond Bool @Bool.false @Bool.true (@Decidable.decide (@Eq (Int × (Arr Int 32)) (v15.1.1, v15.1.2) (y2.1, y2.2)) (@decT (@Td.pair (@Td.int @Go.IntKind.u8) (@Td.arr (32 : Nat) (@Td.int @Go.IntKind.u8))) (v15.1.1, v15.1.2) (y2.1, y2.2)))) @Bool.false) then
                bif (@cond Bool @Bool.true (decide (v19.1 = (Go.IntKind.wrap .u16 s0.2.1))) @Bool.false) then
                 bif (@cond Bool @Bool.true (decide (v19.2 = (0 : Int))) @Bool.false) then
                  Option.bind (@law17_alive N) fun (v22 : Bool) =>
                  some ((@cond Bool @Bool.true v22 @Bool.false))
                 else
                  some (@Bool.false)
                else
                 some (@Bool.false)
               else
                some (@Bool.false)
              else
               none
            else
             some (@Bool.false)
           else
            none
         else
          some (@Bool.false)
        else
         some (@Bool.false)
       else
        some (@Bool.false)
end Go.Proofs.Ytcmekgfglohooaa
