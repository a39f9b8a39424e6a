/-
  Parts of my own, one behind the other: K5, K6, K7, GlobV, K8, K8d.
-/
import Derived.Test.YtfaocnboildjbaaDoorMrg2
/-
  Operations that write, on typed values; calls by contract.
-/
namespace Go.Proofs.YtfaocnboildjbaaDoor
set_option maxRecDepth 100000
open Go.RowKit
set_option linter.unusedVariables false
set_option linter.unusedSimpArgs false

def zeroP (P : Program) (t : TypeId) : Option Value := pureRun P (zeroValue t)
/-- Less is known of the second. -/
def EntLe (e e' : Ent) : Prop := e' = .dead ∨ e = e' ∨ (∃ l m T, e = .box l T ∧ e' = .box m T ∧ Wk l m) ∨ (∃ l m E k, e = .own l E k ∧ e' = .own m E k ∧ Wk l m)
theorem Wk.len {l m : List AV} (h : Wk l m) {w : World} {B : List Nat} {η us : List Value} (hl : RelL w B η l us) : m.length = l.length := by
  rw [← (h w B η us hl).1, hl.1]
theorem EntLe.refl (e : Ent) : EntLe e e := .inr (.inl rfl)
theorem EntLe.live {e e' : Ent} (h : EntLe e e') (hl : e'.live = true) : e.live = true := by
  rcases h with rfl | rfl | ⟨l, m, T, rfl, rfl, _⟩ | ⟨l, m, E, k, rfl, rfl, _⟩
  · cases hl
  · exact hl
  · rfl
  · rfl
theorem EntOK.le {n0 : Nat} {Bx : List Nat} {w : World} {B : List Nat} {η : List Value} {v : Value} {e e' : Ent} (h : EntOK n0 Bx w B η v e) (hle : EntLe e e') : EntOK n0 Bx w B η v e' := by
  rcases hle with rfl | rfl | ⟨l, m, T, rfl, rfl, hw⟩ | ⟨l, m, E, k, rfl, rfl, hw⟩
  · trivial
  · exact h
  · obtain ⟨b, us, h1, h2, h3, h4, h5, h6⟩ := h
    exact ⟨b, us, h1, h2, h3, h4, h5, hw w B η us h6⟩
  · obtain ⟨n, us, h1, h2, h3, h4⟩ := h
    exact ⟨n, us, h1, hw w B η us h2, h3, h4⟩
theorem Inv.le {n0 : Nat} {Bx : List Nat} {w : World} {B : List Nat} {η : List Value} {H H' : List Ent} (inv : Inv n0 Bx w B η H) (hlen : H'.length = H.length) (hle : ∀ (i : Nat) e', H'[i]? = some e' → ∃ e, H[i]? = some e ∧ EntLe e e') : Inv n0 Bx w B η H' := by
  refine ⟨by rw [hlen]; exact inv.len, inv.base, inv.sub, inv.lt, fun i e' he => ?_, fun i j ei ej hij hi hj hli hlj => ?_⟩
  · obtain ⟨e, h1, h2⟩ := hle i e' he
    exact (inv.ent i e h1).le h2
  · obtain ⟨e, h1, h2⟩ := hle i ei hi
    obtain ⟨f, h3, h4⟩ := hle j ej hj
    exact inv.sep i j e f hij h1 h3 (h2.live hli) (h4.live hlj)
/-- What an operation does, also one that writes. -/
def OpS2 (P : Program) (n0 : Nat) (Bx : List Nat) (w : World) (ρ : Operand → Value) (o : Oper) (B : List Nat) (η : List Value) (r : V) (H' : List E2) : Prop :=
  ∀ N : Value → World → Prop, (∀ v w' B' η', On B w w' → (∀ b ∈ B', b ∈ B ∨ w.heap.size ≤ b) → (∀ (id : Nat) v, η[id]? = some v → η'[id]? = some v) → Below n0 w w' → Inv n0 Bx w' B' η' (H'.map exE) → Rel2 w' B' η' r v → FreshV n0 (ex r) v → N v w') → Oper.val P ρ o w N
def DoesS (P : Program) (H : List E2) (ρ : Operand → V) (o : Oper) (r : V) (H' : List E2) : Prop :=
  ∀ (n0 : Nat) (Bx : List Nat) (w : World) (B : List Nat) (η : List Value) (ρv : Operand → Value), Inv n0 Bx w B η (H.map exE) → (∀ x ∈ o.op.operands, Rel2 w B η (ρ x) (ρv x) ∧ FreshV n0 (ex (ρ x)) (ρv x)) → OpS2 P n0 Bx w ρv o B η r H'
section
variable {P : Program} {H : List E2} {ρ : Operand → V} {o : Oper} {R : Type}
theorem Does.s {r : V} (h : Does P H ρ o r) : DoesS P H ρ o r H := fun n0 Bx w B η ρv inv he N hN =>
  h n0 Bx w B η ρv inv he N (fun v w' g hr hf => hN v w' B η g.on (fun _ h => .inl h) (fun _ _ h => h) (g.below inv.base.1) (inv.gk g) hr hf)
theorem OpS.to {n0 : Nat} {Bx : List Nat} {w : World} {ρv : Operand → Value} {B : List Nat} {η : List Value} {r : V} {H1 : List Ent} {H' : List E2} (h : OpS P n0 Bx w ρv o B η (ex r) H1) (hp : r.plain = true) (hlen : H'.length = H1.length) (hle : ∀ (i : Nat) e', H'[i]? = some e' → ∃ e, H1[i]? = some e ∧ EntLe e (exE e')) : OpS2 P n0 Bx w ρv o B η r H' := fun N hN =>
  h N fun v w' B' η' h1 h2 h3 h4 h5 h6 h7 => hN v w' B' η' h1 h2 h3 h4 (h5.le (by simp [hlen]) (fun i e' he => by
    rw [List.getElem?_map, Option.map_eq_some_iff] at he
    obtain ⟨e2, q1, rfl⟩ := he
    exact hle i e2 q1)) (Rel2.of hp h6) h7
theorem le_set {H1 : List E2} {id : Nat} {e e1 : E2} {f : Ent} (h : EntLe f (exE e1)) : ∀ (i : Nat) e', (H1.set id e1)[i]? = some e' → ∃ e, ((H1.map exE).set id f)[i]? = some e ∧ EntLe e (exE e') := by
  intro i e' he
  rw [List.getElem?_set] at he ⊢
  split at he
  · rename_i hi
    subst hi
    split at he
    · rename_i hlt
      injection he with he; subst he
      simp only [if_true, List.length_map]
      rw [if_pos hlt]
      exact ⟨f, rfl, h⟩
    · cases he
  · rename_i hi
    rw [if_neg hi, List.getElem?_map, he]
    exact ⟨_, rfl, .refl _⟩
theorem le_push {H1 : List E2} {H2 : List Ent} {e1 : E2} {f : Ent} (h0 : H2.length = H1.length) (h1 : ∀ (i : Nat) e', H1[i]? = some e' → ∃ e, H2[i]? = some e ∧ EntLe e (exE e')) (h : EntLe f (exE e1)) : ∀ (i : Nat) e', (H1 ++ [e1])[i]? = some e' → ∃ e, (H2 ++ [f])[i]? = some e ∧ EntLe e (exE e') := by
  intro i e' he
  rcases Nat.lt_or_ge i H1.length with hi | hi
  · rw [List.getElem?_append_left hi] at he
    rw [List.getElem?_append_left (by omega)]
    exact h1 i e' he
  · rw [List.getElem?_append_right hi] at he
    have hz : i - H1.length = 0 := by have := (List.getElem?_eq_some_iff.1 he).1; simp at this; omega
    rw [hz] at he
    injection he with he; subst he
    rw [List.getElem?_append_right (by omega), h0, hz]
    exact ⟨f, rfl, h⟩
theorem le_self (H1 : List E2) : ∀ (i : Nat) e', H1[i]? = some e' → ∃ e, (H1.map exE)[i]? = some e ∧ EntLe e (exE e') := fun i e' he => ⟨exE e', by rw [List.getElem?_map, he]; rfl, .refl _⟩
def boxK (P : Program) (H : List E2) (t : TypeId) (x : V) (k : V → List E2 → Tree R) : Tree R :=
  match toSegs x with
  | some s => k (.box H.length 0) (H ++ [.box (packT P t s) t])
  | none => .fail
/-- A box that nobody writes. -/
def boxImmK (P : Program) (t : TypeId) (x : V) (k : V → Tree R) : Tree R :=
  match toSegs x with
  | some s => if s.all immV = true then k (.adr (packT P t s)) else .fail
  | none => .fail
theorem boxImm_ok {P : Program} {n0 : Nat} {w : World} {B : List Nat} {η : List Value} {ρv : Operand → Value} {ρA : Operand → AV} {o : Oper} (hlt : ∀ b ∈ B, b < w.heap.size) (he : ∀ x ∈ o.op.operands, Rel w B η (ρA x) (ρv x)) {T : TypeId} {x : Operand} (ho : o.op = .box T x) (hnt : notTup (ρA x) = true) (himm : (ρA x).toL.all AV.imm0 = true) : OpOK P n0 w ρv o B η (.adr (ρA x).toL) := by
  intro N hN
  have hx := he x (by simp [ho, Op.operands])
  have hr := hx.toL (fun l e => by rw [e] at hnt; cases hnt)
  have g := gr_alloc (Gr.refl w) (.cells (ρv x).cells.toList.toArray T)
  unfold Oper.val
  have hrun : (execOp ρv o).run P w = .ok (.value (.pointer (some ⟨w.heap.size, 0, none⟩))) (w.alloc (.cells (ρv x).cells.toList.toArray T)) := by
    simp only [execOp, ho]
    rfl
  rw [hrun]
  refine hN _ _ (.gr g) (.adr _ _ _ (fun i => (ρv x).cells.toList.getD i undef) ⟨rfl, by simp, fun hb => ?_, fun j hj => ?_⟩ (fun j y hy => ?_))
  · have := hlt _ hb; simp at this
  · have hj' : j < (ρv x).cells.toList.length := by rw [← hr.1] at hj; exact hj
    rw [Addr.add_mid, Nat.zero_add, cell_of_row (w.alloc (.cells (ρv x).cells.toList.toArray T)) w.heap.size j (ρv x).cells.toList.toArray T (0, 0) (by show (w.heap.push _)[w.heap.size]? = _; simp)]
    rw [List.getElem?_toArray, List.getElem?_eq_getElem hj', List.getD_eq_getElem?_getD, List.getElem?_eq_getElem hj', Option.getD_some]
  · obtain ⟨u, q1, q2⟩ := hr.2 j y hy
    rw [List.getD_eq_getElem?_getD, q1, Option.getD_some]
    exact ((q2.bare0 (List.all_eq_true.1 himm y (List.mem_of_getElem? hy))) : Rel w B [] y u).gr g
theorem rel_adr_wk {w : World} {B : List Nat} {η : List Value} {l m : List AV} {v : Value} (hw : Wk l m) (hv : Rel w B η (.adr l) v) : Rel w B η (.adr m) v := by
  cases hv with
  | adr _ _ ad us ha hr =>
    have hl : RelL w B [] l ((List.range l.length).map us) := ⟨by simp, fun i y hy => ⟨us i, by simp [(List.getElem?_eq_some_iff.1 hy).1], hr i y hy⟩⟩
    have hm := hw w B [] _ hl
    have hlen : m.length = l.length := by have := hm.1; simpa using this.symm
    refine .adr _ _ ad us ⟨ha.spot, ha.lt, ha.out, fun i hi => ha.cell i (by omega)⟩ (fun i y hy => ?_)
    obtain ⟨u, q1, q2⟩ := hm.2 i y hy
    have hi : i < l.length := by rw [← hlen]; exact (List.getElem?_eq_some_iff.1 hy).1
    simp [hi] at q1
    rw [q1]; exact q2
theorem boxImmK_ok {t : TypeId} {x : Operand} {k : V → List E2 → Tree R} {res : R} (hp : Plain ρ o) (ho : o.op = .box t x) (h : (boxImmK P t (ρ x) fun r => k r H).run = some res) : ∃ r H', (k r H').run = some res ∧ DoesS P H ρ o r H' := by
  unfold boxImmK at h
  split at h
  · rename_i s hs
    obtain ⟨h1, h2, h3⟩ := toSegs_ok hs
    split at h
    · rename_i himm
      refine ⟨_, _, h, Does.s fun n0 Bx w B η ρv inv he => .of rfl (fun _ _ h => by simp [ex, ex0] at h) ?_⟩
      have := boxImm_ok (P := P) (n0 := n0) (ρA := fun y => eu (ρ y)) inv.lt (heu_of hp he) ho h2 (by rw [h1]; exact immV_ok s himm)
      rw [h1] at this
      refine this.mono fun w' v hv => ?_
      exact rel_adr_wk (packT_ok t s) hv
    · cases h
  · cases h
def allocK (P : Program) (H : List E2) (t : TypeId) (k : V → List E2 → Tree R) : Tree R :=
  match zeroP P t with
  | some v => k (.box H.length 0) (H ++ [.box (packT P t (v.cells.toList.map constV)) t])
  | none => .fail
def oneV : V → Bool
  | .c v => v.oneCell'
  | _ => true
theorem oneV_ok : ∀ (l : List V), l.all oneV = true → (segsA l).all AV.one = true
  | [], _ => rfl
  | x :: l, h => by
    simp only [List.all_cons, Bool.and_eq_true] at h
    rw [segsA_cons, List.all_append, oneV_ok l h.2, Bool.and_true]
    have h1 := h.1
    cases x <;> first | rfl | skip
    · simpa [segA, AV.one, oneV] using h1
    · rename_i d n a; exact flat_one d a.l
theorem boxK_ok {t : TypeId} {x : Operand} {k : V → List E2 → Tree R} {res : R} (hp : Plain ρ o) (ho : o.op = .box t x) (h : (boxK P H t (ρ x) k).run = some res) : ∃ r H', (k r H').run = some res ∧ DoesS P H ρ o r H' := by
  unfold boxK at h
  split at h
  · rename_i s hs
    obtain ⟨h1, h2, h3⟩ := toSegs_ok hs
    refine ⟨_, _, h, fun n0 Bx w B η ρv inv he => ?_⟩
    have := box_ok (P := P) (ρA := fun y => eu (ρ y)) inv (heu_of hp he) ho h2
    rw [h1] at this
    simp only [List.length_map] at this
    exact this.to (r := .box H.length 0) rfl (by simp) (le_push (by simp) (le_self H) (.inr (.inr (.inl ⟨_, _, _, rfl, rfl, packT_ok t s⟩))))
  · cases h
theorem allocK_ok {t : TypeId} {k : V → List E2 → Tree R} {res : R} (ho : o.op = .alloc t) (h : (allocK P H t k).run = some res) : ∃ r H', (k r H').run = some res ∧ DoesS P H ρ o r H' := by
  unfold allocK at h
  split at h
  · rename_i v hz
    refine ⟨_, _, h, fun n0 Bx w B η ρv inv he => ?_⟩
    have := alloc_ok (P := P) (ρ := ρv) inv ho hz
    rw [← segsA_const] at this
    simp only [List.length_map] at this
    exact this.to (r := .box H.length 0) rfl (by simp) (le_push (by simp) (le_self H) (.inr (.inr (.inl ⟨_, _, _, rfl, rfl, packT_ok t _⟩))))
  · cases h
def storeK (P : Program) (H : List E2) (t : TypeId) (a x : V) (k : V → List E2 → Tree R) : Tree R :=
  match toSegs x with
  | none => .fail
  | some s => if wL s = P.cellsOf t ∧ 0 < P.cellsOf t ∧ s.all oneV = true then (match a with
    | .box id off => (match H[id]? with
      | some (.box l T') => (match putV l off s with | some l' => k (.c undef) (H.set id (.box (packT P T' l') T')) | none => .fail)
      | _ => .fail)
    | .boxi id off d n i oo => (match H[id]? with
      | some (.box l T') => (match takeV big l off, dropV big l off with
        | some p, some (.arr d' n' a :: rr) => castK d' d (fun d => Arr (T d) n') a fun a => .bind (a.l[i]?) fun e => (match putV (enc d e) oo s with
          | some s' => decK d s' fun e' rest => if wL rest = 0 then k (.c undef) (H.set id (.box (p ++ .arr d n' (a.set i e') :: rr) T')) else .fail
          | none => .fail)
        | _, _ => .fail)
      | _ => .fail)
    | .oadr id d i oo => (match H[id]? with
      | some (.own d' l E) => castK d' d (fun d => List (T d)) l fun l => .bind (l[i]?) fun e => (match putV (enc d e) oo s with
          | some s' => decK d s' fun e' rest => if wL rest = 0 then k (.c undef) (H.set id (.own d (l.set i e') E)) else .fail
          | none => .fail)
      | _ => .fail)
    | _ => .fail) else .fail
theorem Arr.set_l {α : Type} {n : Nat} (a : Arr α n) (i : Nat) (x : α) : (a.set i x).l = a.l.set i x := rfl
theorem putL_mid {α : Type} (p c q : List α) (off : Nat) (l : List α) (h : off + l.length ≤ c.length) : putL (p ++ c ++ q) (p.length + off) l = p ++ putL c off l ++ q := by
  unfold putL
  rw [List.append_assoc p c q, List.take_append, List.take_of_length_le (by omega : p.length ≤ p.length + off), Nat.add_sub_cancel_left, List.take_append_of_le_length (by omega), List.drop_append, List.drop_eq_nil_of_le (by omega : p.length ≤ p.length + off + l.length), List.nil_append]
  rw [show p.length + off + l.length - p.length = off + l.length by omega, List.drop_append_of_le_length (by omega)]
  simp only [List.append_assoc]
/-- A part of one element is written. -/
theorem flat_put {d : Td} {l : List (T d)} {i oo : Nat} {e e' : T d} {s s' rest : List V} (he : l[i]? = some e) (hput : putV (enc d e) oo s = some s') (hw : Wk (segsA s') (cells d e' ++ segsA rest)) (hr : wL rest = 0) (pre post : List AV) :
    i * wd d + oo + (segsA s).length ≤ (flat d l).length ∧ Wk (putL (pre ++ flat d l ++ post) (pre.length + (i * wd d + oo)) (segsA s)) (pre ++ flat d (l.set i e') ++ post) := by
  obtain ⟨h1, h2⟩ := putV_ok hput
  rw [segsA_enc] at h1 h2
  have hi : i < l.length := (List.getElem?_eq_some_iff.1 he).1
  have hr0 : segsA rest = [] := List.eq_nil_of_length_eq_zero (by rw [wL_eq]; exact hr)
  rw [hr0, List.append_nil] at hw
  rw [cells_length] at h2
  have hle : i * wd d + wd d ≤ (flat d l).length := by rw [flat_length, ← Nat.succ_mul]; exact Nat.mul_le_mul_right _ hi
  have hsp : flat d l = flat d (l.take i) ++ cells d e ++ flat d (l.drop (i + 1)) := by
    rw [List.append_assoc, ← flat_drop_at he, flat_take, List.take_append_drop]
  have hpl : (flat d (l.take i)).length = i * wd d := by rw [flat_length, List.length_take, Nat.min_eq_left (by omega)]
  refine ⟨by omega, ?_⟩
  rw [putL_mid _ _ _ _ _ (by omega)]
  have e1 : putL (flat d l) (i * wd d + oo) (segsA s) = flat d (l.take i) ++ segsA s' ++ flat d (l.drop (i + 1)) := by
    conv => lhs; rw [hsp]
    rw [← hpl, putL_mid _ _ _ _ _ (by rw [cells_length]; exact h2), ← h1]
  have e2 : flat d (l.set i e') = flat d (l.take i) ++ cells d e' ++ flat d (l.drop (i + 1)) := by
    rw [List.set_eq_take_append_cons_drop, if_pos hi, flat_append, flat_cons, List.append_assoc]
  rw [e1, e2]
  exact ((Wk.refl _).app (((Wk.refl _).app hw).app (Wk.refl _))).app (Wk.refl _)
theorem storeK_ok {t : TypeId} {a x : Operand} {k : V → List E2 → Tree R} {res : R} (hp : Plain ρ o) (ho : o.op = .store t a x) (h : (storeK P H t (ρ a) (ρ x) k).run = some res) : ∃ r H', (k r H').run = some res ∧ DoesS P H ρ o r H' := by
  unfold storeK at h
  split at h
  · cases h
  · rename_i s hs
    obtain ⟨s1, s2, s3⟩ := toSegs_ok hs
    split at h
    · rename_i hc
      obtain ⟨c1, c2, c3⟩ := hc
      have hl : (segsA s).length = P.cellsOf t := by rw [wL_eq]; exact c1
      have h1 := oneV_ok s c3
      split at h
      · rename_i id off ha
        split at h
        · rename_i l T' hH
          split at h
          · rename_i l' hput
            obtain ⟨p1, p2⟩ := putV_ok hput
            refine ⟨_, _, h, fun n0 Bx w B η ρv inv he => ?_⟩
            have := storeBox_ok (ρA := fun y => eu (ρ y)) inv (heu_of hp he) ho (by simp only [ha]; rfl) (exH hH) (.inr s1) s2 hl c2 p2 h1
            rw [← p1] at this
            exact this.to (r := .c undef) rfl (by simp) (le_set (e := .dead) (.inr (.inr (.inl ⟨_, _, _, rfl, rfl, packT_ok T' l'⟩))))
          · cases h
        · cases h
      · rename_i id off d n i oo ha
        split at h
        · rename_i l T' hH
          split at h
          · rename_i p d' n' ar rr hpre hpost
            obtain ⟨e1, h⟩ := castK_run h
            subst e1
            obtain ⟨e, hel, h⟩ := Tree.run_bind h
            split at h
            · rename_i s' hput
              obtain ⟨e', rest, h3, h4⟩ := decK_ok _ _ _ _ h
              split at h3
              · rename_i hrest
                obtain ⟨q1, q2⟩ := takeV_ok _ _ _ _ hpre
                obtain ⟨q3, q4⟩ := dropV_ok _ _ _ _ hpost
                have hsp : segsA l = segsA p ++ flat d' ar.l ++ segsA rr := by
                  have : segsA l = (segsA l).take off ++ (segsA l).drop off := (List.take_append_drop _ _).symm
                  rw [this, ← q1, ← q3, List.append_assoc]; rfl
                have hpl : (segsA p).length = off := by rw [q1, List.length_take]; omega
                obtain ⟨f0, f2⟩ := flat_put (e' := e') hel hput h4 hrest (segsA p) (segsA rr)
                have f1 : i * wd d' + oo + (segsA s).length ≤ (flat d' ar.l).length := f0
                refine ⟨_, _, h3, fun n0 Bx w B η ρv inv he => ?_⟩
                have := storeBox_ok (ρA := fun y => eu (ρ y)) inv (heu_of hp he) ho (by simp only [ha]; rfl) (exH hH) (.inr s1) s2 hl c2 (by have hq := congrArg List.length hsp; simp only [List.length_append] at hq; omega) h1
                rw [hsp, ← hpl, Nat.add_assoc] at this
                refine this.to (r := .c undef) rfl (by simp) (le_set (e := .dead) (.inr (.inr (.inl ⟨_, _, _, rfl, rfl, ?_⟩))))
                have e3 : segsA (p ++ .arr d' n' (ar.set i e') :: rr) = segsA p ++ flat d' (ar.l.set i e') ++ segsA rr := by
                  rw [segsA_append, segsA_cons, List.append_assoc]; rfl
                rw [e3]
                exact f2
              · cases h3
            · cases h
          · cases h
        · cases h
      · rename_i id d i oo ha
        split at h
        · rename_i d' l E hH
          obtain ⟨e1, h⟩ := castK_run h
          subst e1
          obtain ⟨e, hel, h⟩ := Tree.run_bind h
          split at h
          · rename_i s' hput
            obtain ⟨e', rest, h3, h4⟩ := decK_ok _ _ _ _ h
            split at h3
            · rename_i hrest
              obtain ⟨f1, f2⟩ := flat_put (e' := e') hel hput h4 hrest [] []
              refine ⟨_, _, h3, fun n0 Bx w B η ρv inv he => ?_⟩
              have := storeOwn_ok (ρA := fun y => eu (ρ y)) inv (heu_of hp he) ho (by simp only [ha]; rfl) (exH hH) s1 s2 hl c2 f1 h1
              refine this.to (r := .c undef) rfl (by simp) (le_set (e := .dead) (.inr (.inr (.inr ⟨_, _, _, _, rfl, rfl, ?_⟩))))
              simpa using f2
            · cases h3
          · cases h
        · cases h
      · cases h
    · cases h
/-- What is appended. -/
def viewA (P : Program) (e : TypeId) (x : V) : Option (Sigma fun d => List (T d)) := match x with
  | .c (.slice (some _) 0 _) => (match tdOf P 12 e with | some d => some ⟨d, []⟩ | none => none)
  | x => viewL P e x
def appendK (P : Program) (H : List E2) (t : TypeId) (s x : V) (k : V → List E2 → Tree R) : Tree R :=
  match elemT P t with
  | some e => (match rowI P e with
    | some (w, by_) => (match viewA P e x with
      | some ⟨d, m⟩ => if wd d = w then (match s with
        | .c (.slice none 0 0) => .ite (roomB m.length by_) (k (.own H.length) (H ++ [.own d m e])) .fail
        | .own id => (match H[id]? with
          | some (.own d' l E) => if E = e then castK d' d (fun d => List (T d)) l fun l => .ite (roomB (l.length + m.length) by_) (k (.own H.length) (H.set id .dead ++ [.own d (l ++ m) e])) .fail else .fail
          | _ => .fail)
        | .emp => .ite (roomB m.length by_) (k (.lst d m) H) .fail
        | .fre d' l => castK d' d (fun d => List (T d)) l fun l => .ite (roomB (l.length + m.length) by_ && !m.isEmpty) (k (.own H.length) (H ++ [.own d (l ++ m) e])) .fail
        | _ => .fail) else .fail
      | none => .fail)
    | none => .fail)
  | none => .fail
theorem srcA_view {e : TypeId} {x : V} {d : Td} {m : List (T d)} (h : viewL P e x = some ⟨d, m⟩) (Hh : List Ent) : srcA Hh (wd d) (eu x) = some (flat d m) := by
  unfold viewL at h
  split at h
  · simp only [Option.some.injEq, Sigma.mk.injEq] at h
    obtain ⟨rfl, h⟩ := h
    have h := eq_of_heq h
    subst h
    simp [eu, ex, ex0, unf, srcA]
  · simp only [Option.some.injEq, Sigma.mk.injEq] at h
    obtain ⟨rfl, h⟩ := h
    have h := eq_of_heq h
    subst h
    simp [eu, ex, ex0, unf, srcA]
  · split at h
    · split at h
      · simp only [Option.some.injEq, Sigma.mk.injEq] at h
        obtain ⟨rfl, h⟩ := h
        have h := eq_of_heq h
        subst h
        rfl
      · cases h
    · cases h
  · split at h
    · split at h
      · simp only [Option.some.injEq, Sigma.mk.injEq] at h
        obtain ⟨rfl, h⟩ := h
        have h := eq_of_heq h
        subst h
        rfl
      · cases h
    · cases h
  · cases h
theorem srcA_viewA {e : TypeId} {x : V} {d : Td} {m : List (T d)} (h : viewA P e x = some ⟨d, m⟩) (Hh : List Ent) : srcA Hh (wd d) (eu x) = some (flat d m) := by
  unfold viewA at h
  split at h
  · split at h
    · simp only [Option.some.injEq, Sigma.mk.injEq] at h
      obtain ⟨rfl, h⟩ := h
      have h := eq_of_heq h
      subst h
      simp [eu, ex, ex0, unf, srcA, flat]
    · cases h
  · exact srcA_view h Hh
theorem appendK_ok {t : TypeId} {s x : Operand} {k : V → List E2 → Tree R} {res : R} (hp : Plain ρ o) (ho : o.op = .call ⟨.builtin .append, #[s, x], #[t, t]⟩) (h : (appendK P H t (ρ s) (ρ x) k).run = some res) : ∃ r H', (k r H').run = some res ∧ DoesS P H ρ o r H' := by
  unfold appendK at h
  split at h
  · rename_i e het
    split at h
    · rename_i kw by_ hrow
      obtain ⟨ti, z, q1, q2, q3, q4, q5, q6⟩ := rowI_spec hrow
      split at h
      · rename_i d m hv
        split at h
        · rename_i hwd
          have hsrc : ∀ (Hh : List Ent), srcA Hh kw (eu (ρ x)) = some (flat d m) := fun Hh => by rw [← hwd]; exact srcA_viewA hv Hh
          have hdiv : ∀ (l : List (T d)), (flat d l).length / kw = l.length := fun l => by rw [flat_length, hwd]; exact Nat.mul_div_cancel _ (by omega)
          have hrm : ∀ {n : Nat}, roomB n by_ = true → n ≤ maxLen ∧ n * by_ ≤ 140737488355328 := fun h => of_decide_eq_true h
          have hdiv2 : ∀ (l : List (T d)), ((flat d l).length + (flat d m).length) / kw = l.length + m.length := fun l => by rw [← List.length_append, ← flat_append, hdiv, List.length_append]
          split at h
          · rename_i hs
            rcases Tree.run_ite h with ⟨hb, h⟩ | ⟨_, h⟩
            · obtain ⟨r1, r2⟩ := hrm hb
              refine ⟨_, _, h, fun n0 Bx w B η ρv inv he => ?_⟩
              have hse : eu (ρ s) = .c (.slice none 0 0) := by rw [hs]; rfl
              have := append_ok (ρA := fun y => eu (ρ y)) inv (heu_of hp he) ho (elemT_spec het) q1 q2 q3 q4 q5 q6 (cells := []) (by simp only [hse]; rfl) (hsrc _) (flat_one d m) (by simpa [hdiv] using r1) (by simpa [hdiv] using r2)
              simp only [hse, killA, List.length_map, List.nil_append] at this
              exact this.to (r := .own H.length) rfl (by simp) (le_push (by simp) (le_self H) (by rw [← hwd]; exact .refl _))
            · cases h
          · rename_i id hs
            split at h
            · rename_i d' l E hH
              split at h
              · rename_i hE
                subst hE
                obtain ⟨e1, h1⟩ := castK_run h
                clear h
                subst e1
                simp only at h1
                rcases Tree.run_ite h1 with ⟨hb, h⟩ | ⟨_, h⟩
                · obtain ⟨r1, r2⟩ := hrm hb
                  refine ⟨_, _, h, fun n0 Bx w B η ρv inv he => ?_⟩
                  have hse : eu (ρ s) = .own id := by rw [hs]; rfl
                  have := append_ok (ρA := fun y => eu (ρ y)) inv (heu_of hp he) ho (elemT_spec het) q1 q2 q3 q4 q5 q6 (cells := flat _ l) (by simp only [hse, dstA, exH hH, exE, hwd, and_self, if_true]) (hsrc _) (flat_one _ m) (by rw [hdiv2]; exact r1) (by rw [hdiv2]; exact r2)
                  simp only [hse, killA, List.length_map, ← flat_append] at this
                  exact this.to (r := .own H.length) rfl (by simp) (le_push (by simp) (le_set (e := .dead) (e1 := .dead) (.refl _)) (by rw [← hwd]; exact .refl _))
                · cases h
              · cases h
            · cases h
          · rename_i hs
            rcases Tree.run_ite h with ⟨hb, h⟩ | ⟨_, h⟩
            · obtain ⟨r1, r2⟩ := hrm hb
              refine ⟨_, _, h, Does.s fun n0 Bx w B η ρv inv he => .of rfl (fun _ _ h => by simp [ex, ex0] at h) ?_⟩
              have hse : eu (ρ s) = .emp := by rw [hs]; rfl
              have := appendE_ok (ρA := fun y => eu (ρ y)) inv (heu_of hp he) ho (elemT_spec het) q1 q2 q3 q4 q5 q6 hse (hsrc _) (flat_one d m) (flat_imm d m) (by rw [hdiv]; exact r1) (by rw [hdiv]; exact r2)
              rw [← hwd] at this
              exact this
            · cases h
          · rename_i d' l hs
            obtain ⟨e1, h1⟩ := castK_run h
            clear h
            subst e1
            simp only at h1
            rcases Tree.run_ite h1 with ⟨hb, h⟩ | ⟨_, h⟩
            · simp only [Bool.and_eq_true, Bool.not_eq_true'] at hb
              obtain ⟨r1, r2⟩ := hrm hb.1
              refine ⟨_, _, h, fun n0 Bx w B η ρv inv he => ?_⟩
              have hse := congrArg ex hs
              simp only [ex, ex0] at hse
              have := appendF_ok (ρA := fun y => eu (ρ y)) (ρR := fun y => ex (ρ y)) inv (heu_of hp he) (fun y hy => ⟨he_of hp he y hy, (he y hy).2⟩) ho (elemT_spec het) q1 q2 q3 q4 q5 q6 (by rw [← hwd]; simp only [ex]; exact hse) (hsrc _) (flat_ne (by omega) hb.2) (flat_one _ m) (by rw [hdiv2]; exact r1) (by rw [hdiv2]; exact r2)
              simp only [List.length_map, ← flat_append] at this
              exact this.to (r := .own H.length) rfl (by simp) (le_push (by simp) (le_self H) (by rw [← hwd]; exact .refl _))
            · cases h
          · cases h
        · cases h
      · cases h
    · cases h
  · cases h
/-- Zeros that are appended. -/
def appendZK (P : Program) (H : List E2) (t tn : TypeId) (s x : V) (k : V → List E2 → Tree R) : Tree R :=
  match elemT P t, kindT P tn, sliT P t with
  | some e, some _, some (E, w, z) => (match rowI P e, tdOf P 12 e with
    | some (kw, by_), some d => if (E = e ∧ w = kw ∧ wd d = kw) ∧ z.all Value.oneCell' = true then (match x with
      | .c (.int _ n) => .ite (decide (0 ≤ n)) (decK d (z.map constV) fun zd r => if wL r = 0 then (match s with
        | .c (.slice none 0 0) => .ite (roomB n.toNat by_) (k (.own H.length) (H ++ [.own d (List.replicate n.toNat zd) e])) .fail
        | .own id => (match H[id]? with
          | some (.own d' l E') => if E' = e then castK d' d (fun d => List (T d)) l fun l => .ite (roomB (l.length + n.toNat) by_) (k (.own H.length) (H.set id .dead ++ [.own d (l ++ List.replicate n.toNat zd) e])) .fail else .fail
          | _ => .fail)
        | _ => .fail) else .fail) .fail
      | _ => .fail) else .fail
    | _, _ => .fail)
  | _, _, _ => .fail
/-- A text that is appended to bytes. -/
def appendSK (P : Program) (H : List E2) (t : TypeId) (s : V) (bs : List UInt8) (k : V → List E2 → Tree R) : Tree R :=
  match elemT P t with
  | some e => (match rowI P e with
    | some (kw, by_) => if kw = 1 then (match s with
      | .c (.slice none 0 0) => .ite (roomB bs.length by_) (k (.own H.length) (H ++ [.own (.int .u8) (ofB bs) e])) .fail
      | .own id => (match H[id]? with
        | some (.own d' l E') => if E' = e then castK d' (.int .u8) (fun d => List (T d)) l fun l => .ite (roomB (l.length + bs.length) by_) (k (.own H.length) (H.set id .dead ++ [.own (.int .u8) (l ++ ofB bs) e])) .fail else .fail
        | _ => .fail)
      | _ => .fail) else .fail
    | none => .fail)
  | none => .fail
theorem appendSK_ok {t tn : TypeId} {s x : Operand} {bs : List UInt8} {k : V → List E2 → Tree R} {res : R} (hp : Plain ρ o) (ho : o.op = .call ⟨.builtin .append, #[s, x], #[t, tn]⟩) (htn : P.underlying tn = some .string) (hx : ρ x = .str bs) (h : (appendSK P H t (ρ s) bs k).run = some res) : ∃ r H', (k r H').run = some res ∧ DoesS P H ρ o r H' := by
  unfold appendSK at h
  have hsz : (ByteArray.mk bs.toArray).size = bs.length := by show bs.toArray.size = _; simp
  split at h
  · rename_i e het
    split at h
    · rename_i kw by_ hrow
      obtain ⟨ti, z, q1, q2, q3, q4, q5, q6⟩ := rowI_spec hrow
      split at h
      · rename_i hkw
        subst hkw
        have hrm : ∀ {n : Nat}, roomB n by_ = true → n ≤ maxLen ∧ n * by_ ≤ 140737488355328 := fun h => of_decide_eq_true h
        split at h
        · rename_i hs
          rcases Tree.run_ite h with ⟨hb, h⟩ | ⟨_, h⟩
          · obtain ⟨r1, r2⟩ := hrm hb
            refine ⟨_, _, h, fun n0 Bx w B η ρv inv he => ?_⟩
            have hse : eu (ρ s) = .c (.slice none 0 0) := by rw [hs]; rfl
            have hxe : eu (ρ x) = .c (.string ⟨bs.toArray⟩) := by rw [hx]; rfl
            have := appendS_ok (ρA := fun y => eu (ρ y)) inv (heu_of hp he) ho (elemT_spec het) q1 q2 q3 q4 q5 htn (cells := []) (by simp only [hse]; rfl) hxe (by simpa [hsz] using r1) (by simpa [hsz] using r2)
            simp only [hse, killA, List.length_map, List.nil_append, ← ofB_cells] at this
            exact this.to (r := .own H.length) rfl (by simp) (le_push (by simp) (le_self H) (.refl _))
          · cases h
        · rename_i id hs
          split at h
          · rename_i d' l E hH
            split at h
            · rename_i hE
              subst hE
              obtain ⟨e1, h1⟩ := castK_run h
              clear h
              subst e1
              simp only at h1
              rcases Tree.run_ite h1 with ⟨hb, h⟩ | ⟨_, h⟩
              · obtain ⟨r1, r2⟩ := hrm hb
                refine ⟨_, _, h, fun n0 Bx w B η ρv inv he => ?_⟩
                have hse : eu (ρ s) = .own id := by rw [hs]; rfl
                have hxe : eu (ρ x) = .c (.string ⟨bs.toArray⟩) := by rw [hx]; rfl
                have hfl : (flat (.int .u8) l).length = l.length := by rw [flat_length]; exact Nat.mul_one _
                have := appendS_ok (ρA := fun y => eu (ρ y)) inv (heu_of hp he) ho (elemT_spec het) q1 q2 q3 q4 q5 htn (cells := flat (.int .u8) l) (by simp only [hse, dstA, exH hH, exE]; rfl) hxe (by rw [hfl, hsz]; exact r1) (by rw [hfl, hsz]; exact r2)
                simp only [hse, killA, List.length_map, ← ofB_cells, ← flat_append] at this
                exact this.to (r := .own H.length) rfl (by simp) (le_push (by simp) (le_set (e := .dead) (e1 := .dead) (.refl _)) (.refl _))
              · cases h
            · cases h
          · cases h
        · cases h
      · cases h
    · cases h
  · cases h
theorem appendZK_ok {t tn : TypeId} {s x : Operand} {k : V → List E2 → Tree R} {res : R} (hp : Plain ρ o) (ho : o.op = .call ⟨.builtin .append, #[s, x], #[t, tn]⟩) (h : (appendZK P H t tn (ρ s) (ρ x) k).run = some res) : ∃ r H', (k r H').run = some res ∧ DoesS P H ρ o r H' := by
  unfold appendZK at h
  split at h
  · rename_i e kn E w z het hkn hsl
    split at h
    · rename_i kw by_ d hrow htd
      obtain ⟨ti, zv0, q1, q2, q3, q4, q5, q6⟩ := rowI_spec hrow
      split at h
      · rename_i hc
        obtain ⟨⟨rfl, rfl, hwd⟩, hone⟩ := hc
        obtain ⟨i', zv, hu, hi', hz, hsz, hzc, hzl, hk⟩ := sliT_spec hsl
        rw [q1] at hi'
        injection hi' with hi'
        subst hi'
        rw [q2] at hz
        injection hz with hz
        subst hz
        split at h
        · rename_i kx n hx
          rcases Tree.run_ite h with ⟨hn, h⟩ | ⟨_, h⟩
          · have hn := of_decide_eq_true hn
            obtain ⟨m, rfl⟩ : ∃ m : Nat, n = (m : Int) := ⟨n.toNat, by omega⟩
            simp only [Int.toNat_natCast] at h
            obtain ⟨zd, rest, h1, h2⟩ := decK_ok d _ _ _ h
            split at h1
            · rename_i hrest
              have hr0 : segsA rest = [] := List.eq_nil_of_length_eq_zero (by rw [wL_eq]; exact hrest)
              rw [hr0, List.append_nil, segsA_const] at h2
              have hze : (Builtin.zeroCells zv0.cells m).toList = repL m z := by rw [← hzc]; exact zeroCells_repL _ _ (by omega)
              have h1c : ∀ u ∈ repL m z, u.oneCell' = true := fun u hu => by
                unfold repL at hu
                obtain ⟨l, hl, hul⟩ := List.mem_flatten.1 hu
                rw [(List.mem_replicate.1 hl).2] at hul
                exact List.all_eq_true.1 hone u hul
              have hxe : eu (ρ x) = .c (.int kx (m : Int)) := by rw [hx]; rfl
              have hrm : ∀ {n : Nat}, roomB n by_ = true → n ≤ maxLen ∧ n * by_ ≤ 140737488355328 := fun h => of_decide_eq_true h
              have hdiv : ∀ (l : List (T d)), (flat d l).length / w = l.length := fun l => by rw [flat_length, hwd]; exact Nat.mul_div_cancel _ (by omega)
              split at h1
              · rename_i hs
                rcases Tree.run_ite h1 with ⟨hb, h⟩ | ⟨_, h⟩
                · obtain ⟨r1, r2⟩ := hrm hb
                  refine ⟨_, _, h, fun n0 Bx w0 B η ρv inv he => ?_⟩
                  have hse : eu (ρ s) = .c (.slice none 0 0) := by rw [hs]; rfl
                  have := appendZ_ok (ρA := fun y => eu (ρ y)) inv (heu_of hp he) ho (elemT_spec het) q1 q2 q3 q4 q5 q6 (kindT_spec hkn) (cells := []) (by simp only [hse]; rfl) hxe hze h1c (by simpa using r1) (by simpa using r2)
                  simp only [hse, killA, List.length_map, List.nil_append] at this
                  exact this.to (r := .own H.length) rfl (by simp) (le_push (by simp) (le_self H) (.inr (.inr (.inr ⟨_, _, E, w, rfl, by simp [exE, hwd], wk_rep h2 _⟩))))
                · cases h
              · rename_i id hs
                split at h1
                · rename_i d' l E' hH
                  split at h1
                  · rename_i hE
                    subst hE
                    obtain ⟨e1, h3⟩ := castK_run h1
                    clear h1
                    subst e1
                    simp only at h3
                    rcases Tree.run_ite h3 with ⟨hb, h⟩ | ⟨_, h⟩
                    · obtain ⟨r1, r2⟩ := hrm hb
                      refine ⟨_, _, h, fun n0 Bx w0 B η ρv inv he => ?_⟩
                      have hse : eu (ρ s) = .own id := by rw [hs]; rfl
                      have := appendZ_ok (ρA := fun y => eu (ρ y)) inv (heu_of hp he) ho (elemT_spec het) q1 q2 q3 q4 q5 q6 (kindT_spec hkn) (cells := flat _ l) (by simp only [hse, dstA, exH hH, exE, hwd, and_self, if_true]) hxe hze h1c (by rw [hdiv]; exact r1) (by rw [hdiv]; exact r2)
                      simp only [hse, killA, List.length_map] at this
                      exact this.to (r := .own H.length) rfl (by simp) (le_push (by simp) (le_set (e := .dead) (e1 := .dead) (.refl _)) (.inr (.inr (.inr ⟨_, flat _ l ++ flat _ (List.replicate m zd), E', w, rfl, by simp [exE, hwd, flat_append], (Wk.refl _).app (wk_rep h2 _)⟩))))
                    · cases h
                  · cases h1
                · cases h1
              · cases h1
            · cases h1
          · cases h
        · cases h
      · cases h
    · cases h
  · cases h
/-- A slice that is built, as one of the call's own. -/
def buildOwnK (P : Program) (H : List E2) (ρ : Operand → V) (t : TypeId) (len : Nat) (parts : Array (Nat × Operand)) (k : V → List E2 → Tree R) : Tree R :=
  match sliT P t with
  | some (e, w, z) => if len * w ≤ 16777216 ∧ len ≤ maxLen then (match fillV (fun i => some (i * w, w)) ((repL len z).map constV) (partsV ρ parts) with
    | some l => match tdOf P 12 e with
      | some d => if wd d = w then decN (decK d) len l fun a r => if wL r = 0 then k (.own H.length) (H ++ [.own d a.l e]) else .fail else .fail
      | none => .fail
    | none => .fail) else .fail
  | none => .fail
theorem buildOwnK_ok {t : TypeId} {len : Nat} {parts : Array (Nat × Operand)} {k : V → List E2 → Tree R} {res : R} (hp : Plain ρ o) (ho : o.op = .buildSlice t len parts) (h : (buildOwnK P H ρ t len parts k).run = some res) : ∃ r H', (k r H').run = some res ∧ DoesS P H ρ o r H' := by
  have hpm : (partsV ρ parts).map (fun p => (p.1, eu p.2)) = partsA (fun y => eu (ρ y)) parts := by simp [partsV, partsA, List.map_map, Function.comp_def]
  unfold buildOwnK at h
  split at h
  · rename_i e kw z hsl
    split at h
    · rename_i hlen
      split at h
      · rename_i l hl
        split at h
        · rename_i d htd
          split at h
          · rename_i hwd
            obtain ⟨a, rest, h1, h2⟩ := decN_ok (decK_ok d) len l _ _ h
            split at h1
            · rename_i hrest
              have hr0 : segsA rest = [] := List.eq_nil_of_length_eq_zero (by rw [wL_eq]; exact hrest)
              rw [hr0, List.append_nil] at h2
              have hfill := fillV_ok _ _ _ hl
              rw [hpm, segsA_const] at hfill
              refine ⟨_, _, h1, fun n0 Bx w B η ρv inv he => ?_⟩
              have := buildOwn_ok (ρA := fun y => eu (ρ y)) inv (heu_of hp he) ho hlen.2 hsl hlen.1 hfill
              simp only [List.length_map] at this
              exact this.to (r := .own H.length) rfl (by simp) (le_push (by simp) (le_self H) (.inr (.inr (.inr ⟨_, _, e, kw, rfl, by simp [exE, hwd], h2⟩))))
            · cases h1
          · cases h
        · cases h
      · cases h
    · cases h
  · cases h
/-- A slice that is made, as one of the call's own. -/
def makeK (P : Program) (H : List E2) (t : TypeId) (a b : V) (k : V → List E2 → Tree R) : Tree R :=
  match sliT P t with
  | some (e, w, z) => (match rowI P e, tdOf P 12 e with
    | some (_, by_), some d => if wd d = w then intK a fun l => intK b fun c => .ite (decide (0 ≤ l ∧ l ≤ c) && roomB c.toNat by_)
        (decK d (z.map constV) fun zd r => if wL r = 0 then k (.own H.length) (H ++ [.own d (List.replicate l.toNat zd) e]) else .fail) .fail else .fail
    | _, _ => .fail)
  | none => .fail
theorem makeK_ok {t : TypeId} {a b : Operand} {k : V → List E2 → Tree R} {res : R} (hp : Plain ρ o) (ho : o.op = .makeSlice t a b) (h : (makeK P H t (ρ a) (ρ b) k).run = some res) : ∃ r H', (k r H').run = some res ∧ DoesS P H ρ o r H' := by
  unfold makeK at h
  split at h
  · rename_i e kw z hsl
    split at h
    · rename_i kw2 by_ d hrow htd
      obtain ⟨ti, zz, q1, q2, q3, q4, q5, q6⟩ := rowI_spec hrow
      split at h
      · rename_i hwd
        obtain ⟨kl, l, ha, h⟩ := intK_run h
        obtain ⟨kc, c, hb, h⟩ := intK_run h
        rcases Tree.run_ite h with ⟨hc, h⟩ | ⟨_, h⟩
        · simp only [Bool.and_eq_true, decide_eq_true_eq] at hc
          obtain ⟨⟨c1, c2⟩, c3⟩ := hc
          obtain ⟨c3, c4⟩ : c.toNat ≤ maxLen ∧ c.toNat * by_ ≤ 140737488355328 := of_decide_eq_true c3
          obtain ⟨zd, rest, h1, h2⟩ := decK_ok d _ _ _ h
          split at h1
          · rename_i hrest
            have hr0 : segsA rest = [] := List.eq_nil_of_length_eq_zero (by rw [wL_eq]; exact hrest)
            rw [hr0, List.append_nil, segsA_const] at h2
            refine ⟨_, _, h1, fun n0 Bx w B η ρv inv he => ?_⟩
            have := makeOwn_ok (ρA := fun y => ex (ρ y)) inv (he_of hp he) ho hsl q1 q4 (by simp only [ha]; rfl) (by simp only [hb]; rfl) c1 c2 c3 c4
            simp only [List.length_map] at this
            exact this.to (r := .own H.length) rfl (by simp) (le_push (by simp) (le_self H) (.inr (.inr (.inr ⟨_, _, e, kw, rfl, by simp [exE, hwd], wk_rep h2 _⟩))))
          · cases h1
        · cases h
      · cases h
    · cases h
  · cases h
/-- A part of an own row, in its stead. -/
def moveK (P : Program) (H : List E2) (ρ : Operand → V) (t : TypeId) (x : V) (lo hi : Option Operand) (k : V → List E2 → Tree R) : Tree R :=
  match elemT P t, x with
  | some e, .own id => (match H[id]? with
    | some (.own d l E) => if wd d = P.cellsOf e ∧ 1 ≤ wd d then (match lo, hi with
      | some lo, none => intK (ρ lo) fun a => .bind (dropI l a) fun m => k (.own H.length) (H.set id .dead ++ [.own d m E])
      | none, some hi => intK (ρ hi) fun b => .bind (takeI l b) fun m => k (.own H.length) (H.set id .dead ++ [.own d m E])
      | some lo, some hi => intK (ρ lo) fun a => intK (ρ hi) fun b => .bind (subI l a b) fun m => k (.own H.length) (H.set id .dead ++ [.own d m E])
      | none, none => .fail) else .fail
    | _ => .fail)
  | _, _ => .fail
theorem moveK_ok {t : TypeId} {x : Operand} {lo hi : Option Operand} {k : V → List E2 → Tree R} {res : R} (hp : Plain ρ o) (ho : o.op = .slice t x lo hi none) (h : (moveK P H ρ t (ρ x) lo hi k).run = some res) : ∃ r H', (k r H').run = some res ∧ DoesS P H ρ o r H' := by
  unfold moveK at h
  split at h
  · rename_i e id het hx
    split at h
    · rename_i d l E hH
      split at h
      · rename_i hwd
        have hdiv : (flat d l).length / wd d = l.length := by rw [flat_length]; exact Nat.mul_div_cancel _ (by omega)
        have exi : ∀ (y : Operand) kk z, ρ y = .c (.int kk z) → ex (ρ y) = .c (.int kk z) := fun y kk z h => by rw [h]; rfl
        have key : ∀ (a b : Nat), boundA (fun y => ex (ρ y)) 0 lo = some a → boundA (fun y => ex (ρ y)) l.length hi = some b → a ≤ b → b ≤ l.length → DoesS P H ρ o (.own H.length) (H.set id .dead ++ [.own d ((l.drop a).take (b - a)) E]) := fun a b ha hb hab hbl n0 Bx w B η ρv inv he => by
          have := sliceOwn_ok (P := P) (ρA := fun y => ex (ρ y)) inv (he_of hp he) ho (elemT_spec het) (by simp only [hx]; rfl) (exH hH) hwd.1 hwd.2 ha (by rw [hdiv]; exact hb) hab (by rw [flat_length]; exact Nat.mul_le_mul_right _ hbl)
          simp only [List.length_map] at this
          rw [← flat_drop, ← flat_take] at this
          exact this.to (r := .own H.length) rfl (by simp) (le_push (by simp) (le_set (e := .dead) (e1 := .dead) (.refl _)) (.refl _))
        split at h
        · obtain ⟨kk, z, hz, h⟩ := intK_run h
          obtain ⟨m, hm, h⟩ := Tree.run_bind h
          unfold dropI at hm
          split at hm
          · rename_i hc
            injection hm with hm; subst hm
            have := key z.toNat l.length (by simp [boundA, exi _ _ _ hz, hc.1]) rfl (by omega) (Nat.le_refl _)
            rw [List.take_of_length_le (by rw [List.length_drop]; exact Nat.le_refl _)] at this
            exact ⟨_, _, h, this⟩
          · cases hm
        · obtain ⟨kk, z, hz, h⟩ := intK_run h
          obtain ⟨m, hm, h⟩ := Tree.run_bind h
          unfold takeI at hm
          split at hm
          · rename_i hc
            injection hm with hm; subst hm
            have := key 0 z.toNat rfl (by simp [boundA, exi _ _ _ hz, hc.1]) (Nat.zero_le _) (by omega)
            rw [List.drop_zero, Nat.sub_zero] at this
            exact ⟨_, _, h, this⟩
          · cases hm
        · obtain ⟨kk, z, hz, h⟩ := intK_run h
          obtain ⟨kk2, z2, hz2, h⟩ := intK_run h
          obtain ⟨m, hm, h⟩ := Tree.run_bind h
          unfold subI at hm
          split at hm
          · rename_i hc
            injection hm with hm; subst hm
            exact ⟨_, _, h, key z.toNat z2.toNat (by simp [boundA, exi _ _ _ hz, hc.1]) (by simp [boundA, exi _ _ _ hz2]; omega) (by omega) (by omega)⟩
          · cases hm
        · cases h
      · cases h
    · cases h
  · cases h

/-! ### A whole array that is copied to -/
def Arr.over {α : Type} {n : Nat} (a : Arr α n) (l : List α) : Arr α n := ⟨l.take n ++ a.l.drop l.length, by rw [List.length_append, List.length_take, List.length_drop, a.h]; omega⟩
theorem over_flat {d : Td} {n : Nat} (a : Arr (T d) n) (l : List (T d)) : flat d (a.over l).l = putL (flat d a.l) 0 ((flat d l).take (min l.length n * wd d)) := by
  have e1 : (flat d l).take (min l.length n * wd d) = flat d (l.take (min l.length n)) := (flat_take d l _).symm
  have e2 : l.take (min l.length n) = l.take n := by
    rcases Nat.le_total l.length n with h | h
    · rw [Nat.min_eq_left h, List.take_of_length_le (Nat.le_refl _), List.take_of_length_le h]
    · rw [Nat.min_eq_right h]
  have e3 : a.l.drop (l.take n).length = a.l.drop l.length := by
    rcases Nat.le_total l.length n with h | h
    · rw [List.length_take, Nat.min_eq_right h]
    · rw [List.length_take, Nat.min_eq_left h, List.drop_eq_nil_of_le (by rw [a.h]; exact Nat.le_refl _), List.drop_eq_nil_of_le (by rw [a.h]; exact h)]
  unfold putL Arr.over
  rw [e1, e2, flat_append, List.take_zero, List.nil_append, Nat.zero_add, flat_length, ← flat_drop, e3]
theorem copyBox_ok {n0 : Nat} {Bx : List Nat} {w : World} {B : List Nat} {η : List Value} {Hh : List Ent} {ρv : Operand → Value} (inv : Inv n0 Bx w B η Hh) {x s : Operand} {t t2 E k : Nat} {i : TypeInfo} {id b n : Nat} {T' : TypeId} {cells l : List AV} (ho : o.op = .call ⟨.builtin .copy, #[x, s], #[t, t2]⟩)
    (ht : P.underlying t = some (.slice E)) (hi : P.info? E = some i) (hsz : i.size = k) (hx : ρv x = .slice (some ⟨b, 0, none⟩) n n) (hid : η[id]? = some (.pointer (some ⟨b, 0, none⟩))) (hH : Hh[id]? = some (.box cells T')) (hl : cells.length = n * k)
    (hs : Rel w B η (.sl l k) (ρv s)) (h1 : l.all AV.one = true) : OpS P n0 Bx w ρv o B η (.c (.int .i64 ((min (l.length / k) n : Nat) : Int))) (Hh.set id (.box (putL cells 0 (l.take (min (l.length / k) n * k))) T')) := by
  intro N hN
  obtain ⟨A, m, c, us, hv, hk, hn, hc, hm, hA, hr⟩ := Rel.slL hs
  have hdiv : l.length / k = m := by rw [← hn]; exact Nat.mul_div_cancel _ hk
  rw [hdiv] at hN
  have hent := inv.ent id _ hH
  rw [List.getD_eq_getElem?_getD, hid, Option.getD_some] at hent
  obtain ⟨b', us', e1, e2, e3, e4, e5, e6⟩ := hent
  obtain rfl : b = b' := by simpa using e1
  obtain ⟨q, hq⟩ : ∃ q, q = min m n := ⟨_, rfl⟩
  rw [← hq] at hN
  have hqm : q ≤ m := by omega
  have hqn : q ≤ n := by omega
  obtain ⟨news, hnews⟩ : ∃ news, news = (List.range (q * k)).map us := ⟨_, rfl⟩
  have hlen : news.length = q * k := by simp [hnews]
  have hmul : q * k ≤ l.length := by rw [← hn]; exact Nat.mul_le_mul_right k hqm
  have hmul2 : q * k ≤ us'.length := by rw [e6.1, hl]; exact Nat.mul_le_mul_right k hqn
  have hrel : RelL w B η (l.take (q * k)) news := ⟨by rw [hlen, List.length_take]; omega, fun j y hy => by
    rw [List.getElem?_take] at hy
    split at hy
    · rename_i hj
      exact ⟨us j, by simp [hnews, hj], (hr j y hy).any⟩
    · cases hy⟩
  have h1' : (l.take (q * k)).all AV.one = true := List.all_eq_true.2 fun y hy => List.all_eq_true.1 h1 y (List.mem_of_mem_take hy)
  have hfc : (Builtin.firstCells i.size q (.slice A m c)).run P w = .ok news.toArray w := by
    rw [hsz]
    cases A with
    | none =>
      have hm0 : m = 0 := by
        rcases Nat.eq_zero_or_pos m with h | h
        · exact h
        · obtain ⟨_, h, _⟩ := hA h; cases h
      have hq0 : q = 0 := by omega
      have : news = [] := List.eq_nil_of_length_eq_zero (by rw [hlen, hq0]; simp)
      rw [this, run_firstCells_none]
    | some ad =>
      refine run_firstCells_some (P := P) w k q ad m c news hlen (fun j v hj => ?_)
      have hjl : j < q * k := by rw [← hlen]; exact (List.getElem?_eq_some_iff.1 hj).1
      have hmp : 0 < m := by
        rcases Nat.eq_zero_or_pos m with h | h
        · have : q = 0 := by omega
          subst this
          omega
        · exact h
      obtain ⟨ad', h, hat⟩ := hA hmp
      injection h with h
      subst h
      rw [hat.cell j (by omega)]
      simp [hnews, hjl] at hj
      rw [hj]
  have hst := run_storeCells_at (P := P) b 0 T' news 0 us'.toArray w e5 (by simp; omega) (hrel.one h1')
  have hput : us'.toArray.toList.take (0 + 0) ++ news ++ us'.toArray.toList.drop (0 + 0 + news.length) = putL us' 0 news := rfl
  rw [hput] at hst
  have hon : On B w (w.setRow b (putL us' 0 news).toArray) := ⟨rfl, rfl, rfl, by simp, fun kk _ hk => .of (setRow_other w b kk _ (fun h => hk (by rw [h]; exact e3)))⟩
  obtain ⟨i1, i2, i3⟩ := inv.write (e' := .box (putL cells 0 (l.take (q * k))) T') (cs := (putL us' 0 news).toArray) hH hid rfl rfl rfl
    ⟨b, _, rfl, e2, e3, e4, setRow_heap w b us'.toArray _ T' (0, 0) e5, (e6.putL hrel 0).on hon (fun _ h => .inl h) (fun _ _ h => h)⟩
  have hqq : Nat.min m n = q := hq.symm
  have hrun0 : (Builtin.copy_ #[t, t2] o.type #[ρv x, ρv s]).run P w = .ok (.int .i64 (q : Int)) (w.setRow b (putL us' 0 news).toArray) := by
    rw [hx, hv]
    simp [Builtin.copy_, run_underlying ht, sizeOf, typeInfo, hi, Builtin.lenOf, hqq, hfc, hst, goInt]
  unfold Oper.val
  have hrun' : (execOp ρv o).run P w = .ok (.value (.int .i64 (q : Int))) (w.setRow b (putL us' 0 news).toArray) := by
    simp only [execOp, ho, resolve, invoke, builtin, Sem.run_bind, Sem.run_pure, Result.andThen_ok, List.map_toArray, List.map_cons, List.map_nil, hrun0]
  rw [hrun']
  exact hN _ _ B η i2 (fun _ h => .inl h) (fun _ _ h => h) i3 i1 (.c _ _) (fun h => by cases h)
def copyK (P : Program) (H : List E2) (t : TypeId) (x s : V) (k : V → List E2 → Tree R) : Tree R :=
  match x, elemT P t with
  | .bsl id n, some e => (match H[id]? with
    | some (.box [.arr d n' a] TT) => if n' = n ∧ wd d = P.cellsOf e ∧ 1 ≤ wd d then (match viewL P e s with
      | some ⟨d', l⟩ => castK d' d (fun d => List (T d)) l fun l => k (.c (.int .i64 ((min l.length n : Nat) : Int))) (H.set id (.box [.arr d n' (a.over l)] TT))
      | none => .fail) else .fail
    | _ => .fail)
  | _, _ => .fail
theorem copyK_ok {t t2 : TypeId} {x s : Operand} {k : V → List E2 → Tree R} {res : R} (ho : o.op = .call ⟨.builtin .copy, #[x, s], #[t, t2]⟩) (h : (copyK P H t (ρ x) (ρ s) k).run = some res) : ∃ r H', (k r H').run = some res ∧ DoesS P H ρ o r H' := by
  unfold copyK at h
  split at h
  · rename_i id n e hx het
    split at h
    · rename_i d n' a TT hH
      split at h
      · rename_i hc
        obtain ⟨rfl, hwd, hw1⟩ := hc
        split at h
        · rename_i d' l hv
          obtain ⟨e1, h1⟩ := castK_run h
          clear h
          subst e1
          simp only at h1
          refine ⟨_, _, h1, fun n0 Bx w B η ρv inv he => ?_⟩
          have hx0 := (he x (by simp [ho, Op.operands, Call.operands])).1
          rw [hx] at hx0
          obtain ⟨b, hid, hvx⟩ := hx0
          obtain ⟨ii, hii, hs⟩ := cells_info (t := e) (P := P) (by omega)
          have hrs := viewL_ok hv ((he s (by simp [ho, Op.operands, Call.operands])).1.get (viewL_plain hv))
          have := copyBox_ok (P := P) (o := o) (k := wd d') inv ho (elemT_spec het) hii (hs.trans hwd.symm) hvx hid (exH hH) (by simp [exE, segsA_cons, segsA_nil, segA, flat_length, a.h]) hrs (flat_one _ l)
          have hw0 : 0 < wd d' := hw1
          rw [flat_length, Nat.mul_div_cancel _ hw0] at this
          have e2 : putL (segsA [V.arr d' n' a]) 0 ((flat d' l).take (min l.length n' * wd d')) = segsA [V.arr d' n' (a.over l)] := by
            simp only [segsA_cons, segsA_nil, segA, List.append_nil]
            exact (over_flat a l).symm
          rw [e2] at this
          exact this.to (r := .c (.int .i64 ((min l.length n' : Nat) : Int))) rfl (by simp) (le_set (e := .dead) (.refl _))
        · cases h
      · cases h
    · cases h
  · cases h
/-- A whole array, as what is copied to. -/
def sliceWK (P : Program) (H : List E2) (ρ : Operand → V) (t : TypeId) (x : V) (lo hi : Option Operand) (k : V → List E2 → Tree R) : Tree R :=
  match arrT P t, x, lo, hi with
  | some (m, e), .box id 0, none, none => if 1 ≤ P.cellsOf e then k (.bsl id m) H else .fail
  | _, x, lo, hi => moveK P H ρ t x lo hi k
theorem sliceWK_ok {t : TypeId} {x : Operand} {lo hi : Option Operand} {k : V → List E2 → Tree R} {res : R} (hp : Plain ρ o) (ho : o.op = .slice t x lo hi none) (h : (sliceWK P H ρ t (ρ x) lo hi k).run = some res) : ∃ r H', (k r H').run = some res ∧ DoesS P H ρ o r H' := by
  unfold sliceWK at h
  split at h
  · rename_i m e id hat hx
    split at h
    · rename_i hc
      refine ⟨_, _, h, fun n0 Bx w B η ρv inv he N hN => ?_⟩
      have hx0 := he_of hp he x (by simp [ho, Op.operands])
      rw [hx] at hx0
      have hx0 : Rel w B η (.box id 0) (ρv x) := hx0
      have hx1 : ∃ b, ρv x = .pointer (some ⟨b, 0, none⟩) ∧ η[id]? = some (.pointer (some ⟨b, 0, none⟩)) := by
        generalize ρv x = v at hx0
        cases hx0 with
        | box _ _ _ b hid => exact ⟨b, rfl, hid⟩
      obtain ⟨b, hv, hid⟩ := hx1
      obtain ⟨ii, hii, hs⟩ := cells_info (t := e) (P := P) (by omega)
      have hu := arrT_spec hat
      have hbounds : (Instr.sliceBounds false m m none none none).run P w = .ok (0, m, m) w := by simp [Instr.sliceBounds, Sem.run_bind]
      have hadd : (⟨b, 0, none⟩ : Addr).add 0 = ⟨b, 0, none⟩ := by rw [Addr.add_mid]
      unfold Oper.val
      have hrun : (execOp ρv o).run P w = .ok (.value (.slice (some ⟨b, 0, none⟩) m m)) w := by
        simp [execOp, ho, Instr.sliceAt, Instr.sureAddr, Sem.run_bind, run_underlying hu, hv, hbounds, run_sizeOf hii, hs, hadd]
      rw [hrun]
      exact hN _ _ B η (On.refl _ _) (fun _ h => .inl h) (fun _ _ h => h) (Below.refl _ _) inv ⟨b, hid, rfl⟩ (fun h => by cases h)
    · cases h
  · exact moveK_ok hp ho h

/-! ### Calls by contract -/
/-- An argument, or an answer: nothing that a call writes. -/
def immV2 : V → Bool
  | .agg l => l.all immV
  | .fre _ _ => true
  | x => immV x
def argV : V → V
  | .fre d l => .lst d l
  | x => x
/-- What calls of a function yield. -/
def CallsK (P : Program) (f : FuncId) (args : List V) (r : V) : Prop :=
  ∀ (w : World) (B : List Nat) (cargs : List Value), (∀ b ∈ B, b < w.heap.size) → GlobOK w B → cargs.length = args.length → (∀ (i : Nat) x, args[i]? = some x → ∃ v, cargs[i]? = some v ∧ Rel w B [] (ex x) v) →
    Calls P f cargs.toArray w fun e w' => ∃ v, e = .returned v ∧ Gr w w' ∧ Rel w' B [] (ex r) v
/-- What comes of a call, as the operation that calls has it. -/
def EntersV (P : Program) (f : FuncId) (cargs : Array Value) (w : World) (N : Value → World → Prop) : Prop :=
  match (callFunc f cargs).run P w with
  | .ok (.value v) w' => N v w'
  | .ok .skip w' => N undef w'
  | .ok (.enter f args) w' => Calls P f args w' fun e w'' => ∃ v, e = .returned v ∧ N v w''
  | _ => False
/-- What calls of a function yield, whether it has a body or none. -/
def CallsV (P : Program) (f : FuncId) (args : List V) (r : V) : Prop :=
  ∀ (w : World) (B : List Nat) (cargs : List Value), (∀ b ∈ B, b < w.heap.size) → GlobOK w B → cargs.length = args.length → (∀ (i : Nat) x, args[i]? = some x → ∃ v, cargs[i]? = some v ∧ Rel w B [] (ex x) v) →
    ∀ N : Value → World → Prop, (∀ v w', Gr w w' → Rel w' B [] (ex r) v → N v w') → EntersV P f cargs.toArray w N
theorem CallsK.toV {P : Program} {f : FuncId} {args : List V} {r : V} (h : CallsK P f args r) (hf : ∃ fn, P.funcs[f]? = some fn ∧ fn.name ≠ "runtime.NumGoroutine" ∧ fn.body ≠ none) : CallsV P f args r := fun w B cargs h1 h2 h3 h4 N hN => by
  obtain ⟨fn, h5, h6, h7⟩ := hf
  unfold EntersV
  have hrun : (callFunc f cargs.toArray).run P w = .ok (.enter f cargs.toArray) w := by
    simp [callFunc, Sem.run_bind, h5, h6, h7]
  rw [hrun]
  exact (h w B cargs h1 h2 h3 h4).mono fun e w' ⟨v, g1, g2, g3⟩ => ⟨v, g1, hN v w' g2 g3⟩
theorem val_of_enters {P : Program} {f : FuncId} {x : Operand} {args : Array Operand} {ts : Array TypeId} {o : Oper} {ρv : Operand → Value} {w : World} {N : Value → World → Prop} (ho : o.op = .call ⟨.value x, args, ts⟩) (hx : ρv x = .func (.func f) #[] #[]) (h : EntersV P f (args.map ρv) w N) : Oper.val P ρv o w N := by
  unfold Oper.val
  have e : (execOp ρv o).run P w = (callFunc f (args.map ρv)).run P w := by
    simp [execOp, ho, resolve, Deferred.ofValue, hx, invoke, Sem.run_bind]
  rw [e]
  exact h
/-- Functions that are known by what they do. -/
abbrev Fns (R : Type) := FuncId → List V → (V → Tree R) → Tree R
structure FnsOK (P : Program) (F : Fns R) : Prop where
  ok : ∀ f args k res, (F f args k).run = some res → ∃ r, (k r).run = some res ∧ r.plain = true ∧ (∀ l k, ex r ≠ .fresh l k) ∧ CallsV P f args r
def evNF (P : Program) (F : Fns R) (H : List E2) (ρ : Operand → V) (o : Op) (k : V → Tree R) : Tree R :=
  match o with
  | .call ⟨.value (.func f), args, ts⟩ => if args.toList.all (fun x => immV2 (ρ x)) = true then F f (args.toList.map fun x => argV (ρ x)) k else .fail
  | o => evN P H ρ o k
theorem immV2_plain {x : V} (h : immV2 x = true) : x.plain = true := by cases x <;> first | rfl | cases h
theorem immV_arg {x : V} (h : immV2 x = true) {w : World} {B : List Nat} {η : List Value} {v : Value} (hr : Rel w B η (ex x) v) : Rel w B [] (ex (argV x)) v := by
  cases x with
  | agg l =>
    refine hr.bare ?_
    simp only [argV, ex, ex0, AV.imm]
    exact immV_ok l h
  | fre d l => exact hr.unf.bare rfl
  | arr d n a =>
    refine hr.bare ?_
    simp only [argV, ex, ex0, AV.imm]
    exact flat_imm d a.l
  | c v => exact hr.bare rfl
  | str s => exact hr.bare rfl
  | lst d l => exact hr.bare rfl
  | emp => exact hr.bare rfl
  | nn => exact hr.bare rfl
  | _ => cases h
theorem evNF_ok {F : Fns R} (hF : FnsOK P F) {k : V → Tree R} {res : R} (h : (evNF P F H ρ o.op k).run = some res) :
    ∃ r, (k r).run = some res ∧ ∀ (n0 : Nat) (Bx : List Nat) (w : World) (B : List Nat) (η : List Value) (ρv : Operand → Value), (∀ f, ρv (.func f) = .func (.func f) #[] #[]) → Inv n0 Bx w B η (H.map exE) → (∀ x ∈ o.op.operands, Rel2 w B η (ρ x) (ρv x) ∧ FreshV n0 (ex (ρ x)) (ρv x)) → OpK P n0 w ρv o B η r := by
  generalize ho : o.op = op at h
  unfold evNF at h
  split at h
  · rename_i f args ts
    split at h
    · rename_i himm
      obtain ⟨r, h1, h2, h3, h4⟩ := hF.ok _ _ _ _ h
      refine ⟨r, h1, fun n0 Bx w B η ρv hfv inv he N hN => val_of_enters ho (hfv f) ?_⟩
      have hmem : ∀ y ∈ args.toList, y ∈ o.op.operands := fun y hy => by simp [ho, Op.operands, Call.operands]; exact .inr (by simpa using hy)
      have hcall := h4 w B (args.toList.map ρv) inv.lt inv.base.2 (by simp) (fun i x hx => by
        rw [List.getElem?_map, Option.map_eq_some_iff] at hx
        obtain ⟨y, hy, rfl⟩ := hx
        have hm := List.mem_of_getElem? hy
        have hi := List.all_eq_true.1 himm y hm
        exact ⟨ρv y, by rw [List.getElem?_map, hy]; rfl, immV_arg hi ((he y (by rw [← ho]; exact hmem y hm)).1.get (immV2_plain hi))⟩) N (fun v w' g2 g3 => hN v w' (.gr g2) (Rel2.of h2 g3.any) (fun hfr => by generalize ex r = y at h3 hfr; cases y <;> first | exact absurd rfl (h3 _ _) | cases hfr))
      have hargs : (args.toList.map ρv).toArray = args.map ρv := by apply Array.ext'; simp
      rw [hargs] at hcall
      exact hcall
    · cases h
  · obtain ⟨r, h1, h2⟩ := evN_ok (o := o) (by rw [ho]; exact h)
    exact ⟨r, h1, fun n0 Bx w B η ρv _ inv he => h2 n0 Bx w B η ρv inv (by rw [ho]; exact he)⟩
/-- The sign at a place of a text, and its bytes. -/
def rdec (s : List UInt8) (p : Int) : Int × Int := (((Utf8.decode ⟨s.toArray⟩ p.toNat).1 : Nat), ((Utf8.decode ⟨s.toArray⟩ p.toNat).2 : Nat))
def rangeK (P : Program) (H : List E2) (t : TypeId) (x : V) (k : V → List E2 → Tree R) : Tree R :=
  match P.underlying t, x with
  | some .string, .str s => k (.box H.length 0) (H ++ [.itr s 0])
  | some .string, .c (.string b) => k (.box H.length 0) (H ++ [.itr b.data.toList 0])
  | _, _ => .fail
theorem rangeK_ok {t : TypeId} {x : Operand} {k : V → List E2 → Tree R} {res : R} (hp : Plain ρ o) (ho : o.op = .range t x) (h : (rangeK P H t (ρ x) k).run = some res) : ∃ r H', (k r H').run = some res ∧ DoesS P H ρ o r H' := by
  unfold rangeK at h
  have fin : ∀ (s : List UInt8), P.underlying t = some .string → ex (ρ x) = .c (.string ⟨s.toArray⟩) → DoesS P H ρ o (.box H.length 0) (H ++ [.itr s 0]) := fun s hu hs n0 Bx w B η ρv inv he => by
    have hx0 := he_of hp he x (by simp [ho, Op.operands])
    rw [hs] at hx0
    have := range_ok (P := P) (ρ := ρv) inv ho hu (Rel.ofC hx0)
    simp only [List.length_map] at this
    exact this.to (r := .box H.length 0) rfl (by simp) (le_push (by simp) (le_self H) (.refl _))
  split at h
  · rename_i s hu hx
    exact ⟨_, _, h, fin s hu (by rw [hx]; rfl)⟩
  · rename_i b hu hx
    exact ⟨_, _, h, fin b.data.toList hu (by rw [hx]; simp [ex, ex0])⟩
  · cases h
def nextK (H : List E2) (a : V) (k : V → List E2 → Tree R) : Tree R :=
  match a with
  | .box id 0 => (match H[id]? with
    | some (.itr s p) => .ite (decide (p.toNat < s.length)) (k (.tup [.c (.bool true), .c (.int .i64 (p.toNat : Nat)), .c (.int .i32 (rdec s p).1)]) (H.set id (.itr s (((p.toNat : Nat) : Int) + (rdec s p).2)))) (k (.tup [.c (.bool false)]) H)
    | _ => .fail)
  | _ => .fail
theorem nextK_ok {x : Operand} {k : V → List E2 → Tree R} {res : R} (hp : Plain ρ o) (ho : o.op = .next x true) (h : (nextK H (ρ x) k).run = some res) : ∃ r H', (k r H').run = some res ∧ DoesS P H ρ o r H' := by
  unfold nextK at h
  split at h
  · rename_i id hx
    split at h
    · rename_i s p hH
      rcases Tree.run_ite h with ⟨hb, h⟩ | ⟨hb, h⟩
      · have hlt := of_decide_eq_true hb
        refine ⟨_, _, h, fun n0 Bx w B η ρv inv he => ?_⟩
        have hx0 := he_of hp he x (by simp [ho, Op.operands])
        rw [hx] at hx0
        have := next_ok (P := P) (ρ := ρv) inv ho (exH hH) hx0 (by show p.toNat < s.toArray.size; simpa using hlt)
        refine this.to (r := .tup [.c (.bool true), .c (.int .i64 (p.toNat : Nat)), .c (.int .i32 (rdec s p).1)]) rfl (by simp) ?_
        refine le_set (e := .itr s p) ?_
        show EntLe _ (exE (.itr s (((p.toNat : Nat) : Int) + (rdec s p).2)))
        have e : (((p.toNat : Nat) : Int) + (rdec s p).2).toNat = p.toNat + (Utf8.decode ⟨s.toArray⟩ p.toNat).2 := by unfold rdec; simp only; omega
        show EntLe _ (.itr ⟨s.toArray⟩ (((p.toNat : Nat) : Int) + (rdec s p).2).toNat)
        rw [e]
        exact .refl _
      · have hlt := of_decide_eq_false hb
        refine ⟨_, _, h, fun n0 Bx w B η ρv inv he => ?_⟩
        have hx0 := he_of hp he x (by simp [ho, Op.operands])
        rw [hx] at hx0
        have := next_end (P := P) (ρ := ρv) inv ho (exH hH) hx0 (by show ¬ p.toNat < s.toArray.size; simpa using hlt)
        exact this.to (r := .tup [.c (.bool false)]) rfl (by simp) (le_self H)
    · cases h
  · cases h
/-- A part of it is no plain row's. -/
def movB : V → Bool
  | .adr _ | .lst _ _ | .str _ => false
  | _ => true
/-- Operations that write. -/
def evW2 (P : Program) (mv : Bool × Bool) (H : List E2) (ρ : Operand → V) (o : Op) (k : V → List E2 → Tree R) : Option (Tree R) :=
  match o with
  | .box t x => some (if mv.2 = true then boxImmK P t (ρ x) fun r => k r H else boxK P H t (ρ x) k)
  | .alloc t => some (allocK P H t k)
  | .store t a x => some (storeK P H t (ρ a) (ρ x) k)
  | .slice t x lo hi none => if mv.1 = true ∧ movB (ρ x) = true then some (sliceWK P H ρ t (ρ x) lo hi k) else none
  | .buildSlice t len parts => if mv.1 = true then some (buildOwnK P H ρ t len parts k) else none
  | .makeSlice t a b => some (makeK P H t (ρ a) (ρ b) k)
  | .range t x => some (rangeK P H t (ρ x) k)
  | .next x true => some (nextK H (ρ x) k)
  | .call ⟨.builtin .append, ⟨[s, x]⟩, ⟨[t, t']⟩⟩ => if t = t' then some (appendK P H t (ρ s) (ρ x) k) else (match ρ x with
    | .str bs => if stringT P t' = true then some (appendSK P H t (ρ s) bs k) else some .fail
    | x => some (appendZK P H t t' (ρ s) x k))
  | _ => none
def evS2 (P : Program) (F : Fns R) (mv : Bool × Bool) (H : List E2) (ρ : Operand → V) (o : Op) (k : V → List E2 → Tree R) : Tree R :=
  match evW2 P mv H ρ o k with
  | some t => if plainB ρ o = true then t else .fail
  | none => match o with
    | .call ⟨.builtin .copy, ⟨[x, s]⟩, ⟨[t, _]⟩⟩ => copyK P H t (ρ x) (ρ s) k
    | o => evNF P F H ρ o fun r => k r H
theorem evS2_ok {F : Fns R} (hF : FnsOK P F) {mv : Bool × Bool} {k : V → List E2 → Tree R} {res : R} (h : (evS2 P F mv H ρ o.op k).run = some res) :
    ∃ r H', (k r H').run = some res ∧ ∀ (n0 : Nat) (Bx : List Nat) (w : World) (B : List Nat) (η : List Value) (ρv : Operand → Value), (∀ f, ρv (.func f) = .func (.func f) #[] #[]) → Inv n0 Bx w B η (H.map exE) → (∀ x ∈ o.op.operands, Rel2 w B η (ρ x) (ρv x) ∧ FreshV n0 (ex (ρ x)) (ρv x)) → OpS2 P n0 Bx w ρv o B η r H' := by
  unfold evS2 at h
  split at h
  · rename_i t hw
    split at h
    · rename_i hpl
      have hp : Plain ρ o := fun x hx => Array.all_eq_true'.1 hpl x hx
      have key : ∀ {r H'}, (k r H').run = some res ∧ DoesS P H ρ o r H' → ∃ r H', (k r H').run = some res ∧ ∀ (n0 : Nat) (Bx : List Nat) (w : World) (B : List Nat) (η : List Value) (ρv : Operand → Value), (∀ f, ρv (.func f) = .func (.func f) #[] #[]) → Inv n0 Bx w B η (H.map exE) → (∀ x ∈ o.op.operands, Rel2 w B η (ρ x) (ρv x) ∧ FreshV n0 (ex (ρ x)) (ρv x)) → OpS2 P n0 Bx w ρv o B η r H' := fun {r H'} h => ⟨r, H', h.1, fun n0 Bx w B η ρv _ inv he => h.2 n0 Bx w B η ρv inv he⟩
      obtain ⟨op, ho⟩ : ∃ op, o.op = op := ⟨_, rfl⟩
      rw [ho] at hw
      unfold evW2 at hw
      split at hw
      · injection hw with hw; subst hw
        split at h
        · obtain ⟨r, H', h⟩ := boxImmK_ok hp ho h; exact key h
        · obtain ⟨r, H', h⟩ := boxK_ok hp ho h; exact key h
      · injection hw with hw; subst hw; obtain ⟨r, H', h⟩ := allocK_ok (ρ := ρ) ho h; exact key h
      · injection hw with hw; subst hw; obtain ⟨r, H', h⟩ := storeK_ok hp ho h; exact key h
      · split at hw
        · injection hw with hw; subst hw; obtain ⟨r, H', h⟩ := sliceWK_ok hp ho h; exact key h
        · cases hw
      · split at hw
        · injection hw with hw; subst hw; obtain ⟨r, H', h⟩ := buildOwnK_ok hp ho h; exact key h
        · cases hw
      · injection hw with hw; subst hw; obtain ⟨r, H', h⟩ := makeK_ok hp ho h; exact key h
      · injection hw with hw; subst hw; obtain ⟨r, H', h⟩ := rangeK_ok hp ho h; exact key h
      · injection hw with hw; subst hw; obtain ⟨r, H', h⟩ := nextK_ok hp ho h; exact key h
      · split at hw
        · rename_i ht
          subst ht
          injection hw with hw; subst hw; obtain ⟨r, H', h⟩ := appendK_ok hp ho h; exact key h
        · split at hw
          · rename_i bs hx
            split at hw
            · rename_i hst
              injection hw with hw; subst hw; obtain ⟨r, H', h⟩ := appendSK_ok hp ho (stringT_spec hst) hx h; exact key h
            · injection hw with hw; subst hw; cases h
          · injection hw with hw; subst hw; obtain ⟨r, H', h⟩ := appendZK_ok hp ho h; exact key h
      · cases hw
    · cases h
  · obtain ⟨op, ho⟩ : ∃ op, o.op = op := ⟨_, rfl⟩
    rw [ho] at h
    split at h
    · obtain ⟨r, H', h1, h2⟩ := copyK_ok ho h
      exact ⟨r, H', h1, fun n0 Bx w B η ρv _ inv he => h2 n0 Bx w B η ρv inv he⟩
    obtain ⟨r, h1, h2⟩ := evNF_ok (o := o) hF (by rw [ho]; exact h)
    exact ⟨r, H, h1, fun n0 Bx w B η ρv hfv inv he N hN => h2 n0 Bx w B η ρv hfv inv he N (fun v w' g hr hf => hN v w' B η g.on (fun _ h => .inl h) (fun _ _ h => h) (g.below inv.base.1) (inv.gk g) hr hf)⟩
end
end Go.Proofs.YtfaocnboildjbaaDoor
/-
  Slots; what is known may be put otherwise: rows of the call's own become plain ones, blocks get other numbers.
-/
namespace Go.Proofs.YtfaocnboildjbaaDoor
set_option maxRecDepth 100000
open Go.RowKit
set_option linter.unusedVariables false
set_option linter.unusedSimpArgs false

structure S2 where
  slots : List V
  heap : List E2
  deriving Inhabited
structure SlotsK (n0 : Nat) (w : World) (B : List Nat) (η : List Value) (sl : List V) (tmps : Array Value) : Prop where
  size : sl.length = tmps.size
  rel : ∀ t, Rel2 w B η (sl.getD t .any) (tmps.getD t undef)
  fresh : ∀ t, FreshV n0 (ex (sl.getD t .any)) (tmps.getD t undef)
structure SimK (n0 : Nat) (Bx : List Nat) (ds : List Deferred) (st : S2) (a : Act) (w : World) (B : List Nat) (η : List Value) : Prop where
  defers : a.defers = ds
  inv : Inv n0 Bx w B η (st.heap.map exE)
  slots : SlotsK n0 w B η st.slots a.tmps
theorem getD_map {α β : Type} (f : α → β) (l : List α) (t : Nat) (d : α) : (l.map f).getD t (f d) = f (l.getD t d) := by
  simp only [List.getD_eq_getElem?_getD, List.getElem?_map]
  cases l[t]? <;> rfl
theorem SlotsK.map {n0 : Nat} {w : World} {B B' : List Nat} {η η' : List Value} {sl : List V} {tmps : Array Value} (h : SlotsK n0 w B η sl tmps) (f : V → V) (hf : f .any = .any) (hr : ∀ x v, Rel2 w B η x v → Rel2 w B' η' (f x) v) (hfr : ∀ x v, FreshV n0 (ex x) v → FreshV n0 (ex (f x)) v) : SlotsK n0 w B' η' (sl.map f) tmps :=
  ⟨by simp [h.size], fun t => by
    have := getD_map f sl t .any
    rw [hf] at this
    rw [this]; exact hr _ _ (h.rel t), fun t => by
    have := getD_map f sl t .any
    rw [hf] at this
    rw [this]; exact hfr _ _ (h.fresh t)⟩
theorem SlotsK.put {n0 : Nat} {w : World} {B : List Nat} {η : List Value} {sl : List V} {tmps : Array Value} {r : V} {v : Value} (h : SlotsK n0 w B η sl tmps) (hr : Rel2 w B η r v) (hf : FreshV n0 (ex r) v) (t : Nat) : SlotsK n0 w B η (sl.set t r) (tmps.setIfInBounds t v) := by
  have key : ∀ u, ((sl.set t r).getD u .any = r ∧ (tmps.setIfInBounds t v).getD u undef = v) ∨ ((sl.set t r).getD u .any = sl.getD u .any ∧ (tmps.setIfInBounds t v).getD u undef = tmps.getD u undef) := by
    intro u
    simp only [List.getD_eq_getElem?_getD, Array.getD_eq_getD_getElem?]
    rw [List.getElem?_set, Array.getElem?_setIfInBounds]
    by_cases htu : t = u
    · subst htu
      simp only [if_true]
      rw [h.size]
      by_cases hlt : t < tmps.size
      · simp [hlt]
      · right
        simp only [hlt, if_false]
        have e1 : sl[t]? = none := List.getElem?_eq_none (by rw [h.size]; exact Nat.le_of_not_lt hlt)
        have e2 : tmps[t]? = none := Array.getElem?_eq_none (Nat.le_of_not_lt hlt)
        rw [e1, e2]
        exact ⟨rfl, rfl⟩
    · simp [htu]
  refine ⟨by simp [h.size], fun u => ?_, fun u => ?_⟩
  · rcases key u with ⟨h1, h2⟩ | ⟨h1, h2⟩ <;> rw [h1, h2]
    · exact hr
    · exact h.rel u
  · rcases key u with ⟨h1, h2⟩ | ⟨h1, h2⟩ <;> rw [h1, h2]
    · exact hf
    · exact h.fresh u
theorem SlotsK.on {n0 : Nat} {w w' : World} {B B' : List Nat} {η η' : List Value} {sl : List V} {tmps : Array Value} (h : SlotsK n0 w B η sl tmps) (g : On B w w') (hB : ∀ b ∈ B', b ∈ B ∨ w.heap.size ≤ b) (he : ∀ (id : Nat) v, η[id]? = some v → η'[id]? = some v) : SlotsK n0 w' B' η' sl tmps :=
  ⟨h.size, fun t => (h.rel t).on g hB he, h.fresh⟩

/-! ### A row of the call's own, from now on a plain one -/
def fzS (id : Nat) (d : Td) (l : List (T d)) : V → V
  | .own i => if i = id then .lst d l else .own i
  | x => x
def hasOwn (id : Nat) : V → Bool
  | .own i => i == id
  | .oadr i _ _ _ => i == id
  | _ => false
def fzV (id : Nat) (d : Td) (l : List (T d)) (x : V) : V :=
  match x with
  | .own i => if i = id then .lst d l else .own i
  | .oadr i dd j o => if i = id then .any else .oadr i dd j o
  | .agg segs => .agg (segs.map (fzS id d l))
  | .tup segs => if segs.any (hasOwn id) then .any else .tup segs
  | .clo f caps => if caps.any (hasOwn id) then .any else .clo f caps
  | x => x
def fzE (id : Nat) (d : Td) (l : List (T d)) : E2 → E2
  | .box segs t => .box (segs.map (fzS id d l)) t
  | e => e
def freeze (st : S2) (id : Nat) : S2 :=
  match st.heap[id]? with
  | some (.own d l E) => ⟨st.slots.map (fzV id d l), (st.heap.set id .dead).map (fzE id d l)⟩
  | _ => st
section
variable {n0 : Nat} {Bx : List Nat} {w : World} {B : List Nat} {η : List Value}
theorem rel_subB {B' : List Nat} (hB : ∀ b ∈ B', b ∈ B) {x : AV} {v : Value} (h : Rel w B η x v) : Rel w B' η x v := h.on (On.refl B w) (fun b hb => .inl (hB b hb)) (fun _ _ h => h)
theorem relL_subB {B' : List Nat} (hB : ∀ b ∈ B', b ∈ B) {l : List AV} {us : List Value} (h : RelL w B η l us) : RelL w B' η l us := h.on (On.refl B w) (fun b hb => .inl (hB b hb)) (fun _ _ h => h)
theorem frozen_rel {H : List Ent} (inv : Inv n0 Bx w B η H) {id E k : Nat} {cs : List AV} (hH : H[id]? = some (.own cs E k)) (himm : cs.all AV.imm0 = true) {B' : List Nat} (hB : ∀ b ∈ B', b ∈ B) (hb : ∀ b, blkOf (η.getD id undef) = some b → b ∉ B') {v : Value} (hx : Rel w B η (.own id) v) {η' : List Value} : Rel w B' η' (.sl cs k) v := by
  cases hx with
  | own _ _ a n c hid =>
    have hent := inv.ent id _ hH
    have hg : η.getD id undef = .slice a n c := by simp [List.getD_eq_getElem?_getD, hid]
    rw [hg] at hent hb
    obtain ⟨n', us, h1, h2, h3, h4⟩ := hent
    have hlen : n' * k = cs.length := by rw [← h2.1]; exact h1.1.symm
    have hrel : ∀ i x, cs[i]? = some x → Rel w B' [] x (us.getD i undef) := fun i x hx => by
      obtain ⟨u, q1, q2⟩ := h2.2 i x hx
      rw [List.getD_eq_getElem?_getD, q1, Option.getD_some]
      exact rel_subB hB (q2.bare0 (List.all_eq_true.1 himm x (List.mem_of_getElem? hx)))
    obtain rfl := h1.len
    rcases h1.2 with ⟨hv, hn0⟩ | ⟨g, oo, cap, cur, hv, hbb, hgg, hnc, hcm, hsz, htk⟩
    · injection hv with e1 e2 e3
      subst e1 e3
      subst hn0
      exact .sl _ _ _ _ _ _ _ h3 hlen (Nat.le_refl _) (Nat.zero_le _) (fun h0 => absurd h0 (by omega)) hrel
    · injection hv with e1 e2 e3
      subst e1 e3
      refine .sl _ _ _ _ _ _ _ h3 hlen hnc hcm (fun h0 => ⟨_, rfl, rfl, (Array.getElem?_eq_some_iff.1 hgg).1, hb g rfl, fun i hi => ?_⟩) hrel
      have hi' : i < us.length := by rw [h2.1]; exact hi
      rw [Addr.add_mid, h1.cells i _ (List.getElem?_eq_getElem hi'), List.getD_eq_getElem?_getD, List.getElem?_eq_getElem hi', Option.getD_some]
theorem RelL.map2 {w' : World} {B' : List Nat} {η' : List Value} {f : V → V} (hf : ∀ s us, RelL w B η (segA s) us → RelL w' B' η' (segA (f s)) us) : ∀ (l : List V) (us : List Value), RelL w B η (segsA l) us → RelL w' B' η' (segsA (l.map f)) us
  | [], us, h => by
    have : us = [] := List.eq_nil_of_length_eq_zero h.1
    subst this; exact RelL.nil _ _ _
  | s :: l, us, h => by
    rw [segsA_cons] at h
    obtain ⟨h1, h2⟩ := h.split
    rw [List.map_cons, segsA_cons]
    have := (hf s _ h1).append (RelL.map2 hf l _ h2)
    rwa [List.take_append_drop] at this
theorem RelL.one1 {x : AV} {us : List Value} (h : RelL w B η [x] us) : ∃ u, us = [u] ∧ Rel w B η x u := by
  match us, h with
  | [], hu => have := hu.1; simp at this
  | [u], hu =>
    obtain ⟨u', h1, h2⟩ := hu.2 0 x rfl
    simp at h1; subst h1
    exact ⟨u, rfl, h2⟩
  | _ :: _ :: _, hu => have := hu.1; simp at this
theorem RelL.of1 {x : AV} {u : Value} (h : Rel w B η x u) : RelL w B η [x] [u] := RelL.cons h (RelL.nil _ _ _)
theorem freeze_ok2 {ds : List Deferred} {st : S2} {a : Act} (h : SimK n0 Bx ds st a w B η) (id : Nat) : ∃ B', (∀ b ∈ B', b ∈ B) ∧ SimK n0 Bx ds (freeze st id) a w B' η ∧ ∀ d l E, st.heap[id]? = some (.own d l E) → ∀ b, blkOf (η.getD id undef) = some b → b ∉ B' := by
  unfold freeze
  split
  · rename_i d l E hH
    have hid := exH hH
    have hent := h.inv.ent id _ hid
    obtain ⟨n', us, h1, h2, h3, h4⟩ := hent
    obtain ⟨B', hBd⟩ : ∃ B', B' = (match blkOf (η.getD id undef) with | some b => B.filter (· ≠ b) | none => B) := ⟨_, rfl⟩
    have hB : ∀ b ∈ B', b ∈ B := fun b hb => by
      subst hBd
      split at hb
      · exact (List.mem_filter.1 hb).1
      · exact hb
    have hnb : ∀ b, blkOf (η.getD id undef) = some b → b ∉ B' := fun b hb hc => by
      rw [hb] at hBd; subst hBd
      simp at hc
    have hin : ∀ b ∈ B, blkOf (η.getD id undef) ≠ some b → b ∈ B' := fun b hb hne => by
      subst hBd
      split
      · rename_i c hc; exact List.mem_filter.2 ⟨hb, by simp; intro h; subst h; exact hne hc⟩
      · exact hb
    have hown : ∀ b, blkOf (η.getD id undef) = some b → (η.getD id undef).ownBlock = some b := fun b hb => by
      rcases h1.2 with ⟨hv, _⟩ | ⟨g, oo, cap, cur, hv, _⟩
      · rw [hv] at hb; cases hb
      · rw [hv] at hb ⊢; exact hb
    have himm : (flat d l).all AV.imm0 = true := flat_imm d l
    have hseg : ∀ s us, RelL w B η (segA s) us → RelL w B' η (segA (fzS id d l s)) us := fun s us hs => by
      unfold fzS
      split
      · split
        · rename_i i hi
          subst hi
          obtain ⟨u, rfl, hu⟩ := RelL.one1 (x := .own i) hs
          exact RelL.of1 (frozen_rel h.inv hid himm hB hnb hu)
        · exact relL_subB hB hs
      · exact relL_subB hB hs
    refine ⟨B', hB, ⟨h.defers, ?_, ?_⟩, fun _ _ _ _ => hnb⟩
    · refine ⟨by simp [h.inv.len], ⟨h.inv.base.1, h.inv.base.2.on (On.refl B w) (fun b hb => .inl (hB b hb))⟩, fun x hx => ⟨hin x (h.inv.sub x hx).1 (fun hc => (h4 x (hown x hc)).2 hx), (h.inv.sub x hx).2⟩, fun b hb => h.inv.lt b (hB b hb), fun i e he => ?_, fun i j ei ej hij hi hj hli hlj => ?_⟩
      · simp only [List.map_map, List.getElem?_map, Option.map_eq_some_iff, Function.comp_apply] at he
        obtain ⟨e0, he0, rfl⟩ := he
        rw [List.getElem?_set] at he0
        split at he0
        · split at he0
          · injection he0 with he0; subst he0; trivial
          · cases he0
        · rename_i hne
          have hold := h.inv.ent i _ (exH he0)
          cases e0 with
          | dead => trivial
          | box segs t =>
            obtain ⟨b, us', p1, p2, p3, p4, p5, p6⟩ := hold
            refine ⟨b, us', p1, p2, hin b p3 (fun hc => ?_), p4, p5, RelL.map2 hseg _ _ p6⟩
            exact h.inv.sep id i _ _ hne hid (exH he0) rfl rfl b hc (by rw [p1]; rfl)
          | itr s2 q2 =>
            obtain ⟨b, p1, p2, p3, p4, p5⟩ := hold
            refine ⟨b, p1, p2, hin b p3 (fun hc => ?_), p4, p5⟩
            exact h.inv.sep id i _ _ hne hid (exH he0) rfl rfl b hc (by rw [p1]; rfl)
          | own d2 l2 E2' =>
            obtain ⟨n2, us', p1, p2, p3, p4⟩ := hold
            refine ⟨n2, us', p1, relL_subB hB p2, p3, fun b hb => ⟨hin b (p4 b hb).1 (fun hc => ?_), (p4 b hb).2⟩⟩
            refine h.inv.sep id i _ _ hne hid (exH he0) rfl rfl b hc ?_
            rcases p1.2 with ⟨hv, _⟩ | ⟨g, oo, cap, cur, hv, _⟩
            · rw [hv] at hb; cases hb
            · rw [hv] at hb ⊢; exact hb
      · have key : ∀ (i : Nat) (ei : Ent), (((st.heap.set id .dead).map (fzE id d l)).map exE)[i]? = some ei → ei.live = true → ∃ ei', (st.heap.map exE)[i]? = some ei' ∧ ei'.live = true := by
          intro i ei hi hli
          simp only [List.map_map, List.getElem?_map, Option.map_eq_some_iff, Function.comp_apply] at hi
          obtain ⟨e0, he0, rfl⟩ := hi
          rw [List.getElem?_set] at he0
          split at he0
          · split at he0
            · injection he0 with he0; subst he0; cases hli
            · cases he0
          · exact ⟨_, exH he0, by cases e0 <;> first | rfl | cases hli⟩
        obtain ⟨_, k1, k2⟩ := key i ei hi hli
        obtain ⟨_, k3, k4⟩ := key j ej hj hlj
        exact h.inv.sep i j _ _ hij k1 k3 k2 k4
    · refine h.slots.map _ rfl (fun x v hx => ?_) (fun x v hf => ?_)
      · have dflt : Rel2 w B' η x v := hx.on (On.refl B w) (fun b hb => .inl (hB b hb)) (fun _ _ h => h)
        unfold fzV
        split
        · split
          · rename_i i hi
            subst hi
            exact frozen_rel h.inv hid himm hB hnb hx
          · exact dflt
        · split
          · trivial
          · exact dflt
        · rename_i segs
          obtain ⟨cs, rfl, hl⟩ := Rel.aggL hx
          have := RelL.map2 hseg _ _ hl
          exact this.toAgg
        · split
          · trivial
          · exact dflt
        · split
          · trivial
          · exact dflt
        · exact dflt
      · intro hfr
        cases x <;> first
          | exact hf hfr
          | (simp only [fzV, ex, ex0, isFresh] at hfr; cases hfr; done)
          | (simp only [fzV] at hfr; split at hfr <;> (simp only [ex, ex0, isFresh] at hfr; cases hfr))
  · rename_i hne
    exact ⟨B, fun _ h => h, h, fun d l E hH => absurd hH (fun hh => hne d l E hh)⟩
theorem freeze_ok {ds : List Deferred} {st : S2} {a : Act} (h : SimK n0 Bx ds st a w B η) (id : Nat) : ∃ B', (∀ b ∈ B', b ∈ B) ∧ SimK n0 Bx ds (freeze st id) a w B' η := by
  obtain ⟨B', h1, h2, _⟩ := freeze_ok2 h id
  exact ⟨B', h1, h2⟩
/-! ### A box of the call's own, from now on nobody's -/
def fbV (id : Nat) (segs : List V) (x : V) : V :=
  match x with
  | .box i off => if i = id then (match dropV big segs off with | some r => .adr r | none => .any) else .box i off
  | x => x
def freezeB (st : S2) (id : Nat) : S2 :=
  match st.heap[id]? with
  | some (.box segs T) => if segs.all immV = true then ⟨st.slots.map (fbV id segs), st.heap.set id .dead⟩ else st
  | _ => st
theorem frozenB_rel {H : List Ent} (inv : Inv n0 Bx w B η H) {id T : Nat} {segs : List V} (hH : H[id]? = some (.box (segsA segs) T)) (himm : segs.all immV = true) {B' : List Nat} (hB : ∀ b ∈ B', b ∈ B) (hb : ∀ b, blkOf (η.getD id undef) = some b → b ∉ B') {off : Nat} {r : List V} (hr : dropV big segs off = some r) {v : Value} (hx : Rel w B η (.box id off) v) : Rel w B' η (.adr (segsA r)) v := by
  cases hx with
  | box _ _ _ b hid =>
    have hent := inv.ent id _ hH
    have hg : η.getD id undef = .pointer (some ⟨b, 0, none⟩) := by simp [List.getD_eq_getElem?_getD, hid]
    rw [hg] at hent hb
    obtain ⟨b', us, p1, p2, p3, p4, p5, p6⟩ := hent
    injection p1 with p1
    injection p1 with p1
    injection p1 with p1
    subst p1
    obtain ⟨h1, h2⟩ := dropV_ok _ _ _ _ hr
    have hl := p6.1
    have himm' : (segsA segs).all AV.imm0 = true := immV_ok segs himm
    refine .adr _ _ _ (fun i => us.getD (off + i) undef) ⟨rfl, (Array.getElem?_eq_some_iff.1 p5).1, hb b rfl, fun i hi => ?_⟩ (fun i x hi => ?_)
    · rw [h1, List.length_drop] at hi
      rw [Addr.add_mid, cell_of_row w b _ _ _ (0, 0) p5, List.getD_eq_getElem?_getD]
      have hlt : off + i < us.length := by omega
      simp [hlt]
    · rw [h1, List.getElem?_drop] at hi
      obtain ⟨u, q1, q2⟩ := p6.2 _ x hi
      rw [List.getD_eq_getElem?_getD, q1, Option.getD_some]
      exact rel_subB hB (q2.bare0 (List.all_eq_true.1 himm' x (List.mem_of_getElem? hi)))
theorem freezeB_ok {ds : List Deferred} {st : S2} {a : Act} (h : SimK n0 Bx ds st a w B η) (id : Nat) : ∃ B', (∀ b ∈ B', b ∈ B) ∧ SimK n0 Bx ds (freezeB st id) a w B' η := by
  unfold freezeB
  split
  · rename_i segs T hH
    split
    · rename_i himm
      have hid := exH hH
      have hent := h.inv.ent id _ hid
      obtain ⟨b0, us0, h1, h2, h3, h4, h5, h6⟩ := hent
      obtain ⟨B', hBd⟩ : ∃ B', B' = B.filter (· ≠ b0) := ⟨_, rfl⟩
      have hB : ∀ b ∈ B', b ∈ B := fun b hb => by subst hBd; exact (List.mem_filter.1 hb).1
      have hnb : ∀ b, blkOf (η.getD id undef) = some b → b ∉ B' := fun b hb hc => by
        rw [h1] at hb
        injection hb with hb
        have hb : b0 = b := hb
        subst hb hBd
        simp at hc
      have hin : ∀ b ∈ B, blkOf (η.getD id undef) ≠ some b → b ∈ B' := fun b hb hne => by
        subst hBd
        refine List.mem_filter.2 ⟨hb, ?_⟩
        simp
        intro h; subst h
        exact hne (by rw [h1]; rfl)
      refine ⟨B', hB, h.defers, ?_, ?_⟩
      · refine ⟨by simp [h.inv.len], ⟨h.inv.base.1, h.inv.base.2.on (On.refl B w) (fun b hb => .inl (hB b hb))⟩, fun x hx => ⟨hin x (h.inv.sub x hx).1 (fun hc => ?_), (h.inv.sub x hx).2⟩, fun b hb => h.inv.lt b (hB b hb), fun i e he => ?_, fun i j ei ej hij hi hj hli hlj => ?_⟩
        · rw [h1] at hc
          injection hc with hc
          have hc : b0 = x := hc
          exact h4 (hc ▸ hx)
        · rw [List.map_set, List.getElem?_set] at he
          split at he
          · split at he
            · injection he with he; subst he; trivial
            · cases he
          · rename_i hne
            have hold := h.inv.ent i e he
            rw [List.getElem?_map, Option.map_eq_some_iff] at he
            obtain ⟨e0, he0, rfl⟩ := he
            cases e0 with
            | dead => trivial
            | box segs t =>
              obtain ⟨b, us', p1, p2, p3, p4, p5, p6⟩ := hold
              refine ⟨b, us', p1, p2, hin b p3 (fun hc => ?_), p4, p5, relL_subB hB p6⟩
              exact h.inv.sep id i _ _ hne hid (exH he0) rfl rfl b hc (by rw [p1]; rfl)
            | itr s2 q2 =>
              obtain ⟨b, p1, p2, p3, p4, p5⟩ := hold
              refine ⟨b, p1, p2, hin b p3 (fun hc => ?_), p4, p5⟩
              exact h.inv.sep id i _ _ hne hid (exH he0) rfl rfl b hc (by rw [p1]; rfl)
            | own d2 l2 E2' =>
              obtain ⟨n2, us', p1, p2, p3, p4⟩ := hold
              refine ⟨n2, us', p1, relL_subB hB p2, p3, fun b hb => ⟨hin b (p4 b hb).1 (fun hc => ?_), (p4 b hb).2⟩⟩
              refine h.inv.sep id i _ _ hne hid (exH he0) rfl rfl b hc ?_
              rcases p1.2 with ⟨hv, _⟩ | ⟨g, oo, cap, cur, hv, _⟩
              · rw [hv] at hb; cases hb
              · rw [hv] at hb ⊢; exact hb
        · have key : ∀ (i : Nat) (ei : Ent), ((st.heap.set id .dead).map exE)[i]? = some ei → ei.live = true → (st.heap.map exE)[i]? = some ei := by
            intro i ei hi hli
            rw [List.map_set, List.getElem?_set] at hi
            split at hi
            · split at hi
              · injection hi with hi; subst hi; cases hli
              · cases hi
            · exact hi
          exact h.inv.sep i j _ _ hij (key i ei hi hli) (key j ej hj hlj) hli hlj
      · refine h.slots.map _ rfl (fun x v hx => ?_) (fun x v hf => ?_)
        · have dflt : Rel2 w B' η x v := hx.on (On.refl B w) (fun b hb => .inl (hB b hb)) (fun _ _ h => h)
          unfold fbV
          split
          · split
            · rename_i i off hi
              subst hi
              split
              · rename_i r hr
                exact frozenB_rel h.inv hid himm hB hnb hr hx
              · trivial
            · exact dflt
          · exact dflt
        · intro hfr
          unfold fbV at hfr
          split at hfr
          · split at hfr
            · split at hfr <;> (simp only [ex, ex0, isFresh] at hfr; cases hfr)
            · simp only [ex, ex0, isFresh] at hfr; cases hfr
          · exact hf hfr
    · exact ⟨B, fun _ h => h, h⟩
  · exact ⟨B, fun _ h => h, h⟩
end
end Go.Proofs.YtfaocnboildjbaaDoor
/-
  Blocks get other numbers; a nil row becomes one of the call's own; states of a shape.
-/
namespace Go.Proofs.YtfaocnboildjbaaDoor
set_option maxRecDepth 100000
open Go.RowKit
set_option linter.unusedVariables false
set_option linter.unusedSimpArgs false

/-! ### Other numbers -/
def posOf : List Nat → Nat → Option Nat
  | [], _ => none
  | x :: l, i => if x = i then some 0 else (match posOf l i with | some j => some (j + 1) | none => none)
theorem posOf_spec : ∀ (l : List Nat) (i j : Nat), posOf l i = some j → l[j]? = some i
  | [], _, _, h => by cases h
  | x :: l, i, j, h => by
    unfold posOf at h
    split at h
    · rename_i hx; injection h with h; subst h hx; rfl
    · split at h
      · rename_i j' hj; injection h with h; subst h; exact posOf_spec l i j' hj
      · cases h
/-- The part, by the new numbers. -/
def rnS (keep : List Nat) : V → Option V
  | .own i => (match posOf keep i with | some j => some (.own j) | none => none)
  | .box i o => (match posOf keep i with | some j => some (.box j o) | none => none)
  | .boxi i off d n j o => (match posOf keep i with | some i' => some (.boxi i' off d n j o) | none => none)
  | .oadr i d j o => (match posOf keep i with | some i' => some (.oadr i' d j o) | none => none)
  | .agg _ | .tup _ | .any | .clo _ _ | .bsl _ _ => none
  | x => some x
def rnL (keep : List Nat) : List V → Option (List V)
  | [] => some []
  | x :: l => match rnS keep x, rnL keep l with
    | some y, some m => some (y :: m)
    | _, _ => none
def rnV (keep : List Nat) (x : V) : V :=
  match x with
  | .agg l => (match rnL keep l with | some m => .agg m | none => .any)
  | .tup l => .any
  | .clo f l => (match rnL keep l with | some m => .clo f m | none => .any)
  | .any => .any
  | .bsl _ _ => .any
  | x => (match rnS keep x with | some y => y | none => .any)
def rnE (keep : List Nat) : E2 → E2
  | .box l t => (match rnL keep l with | some m => .box m t | none => .dead)
  | e => e
def renum (keep : List Nat) (st : S2) : S2 := ⟨st.slots.map (rnV keep), keep.map fun i => rnE keep (st.heap.getD i .dead)⟩
section
variable {n0 : Nat} {Bx : List Nat} {w : World} {B : List Nat} {η η' : List Value} {keep : List Nat}
theorem rnS_rel (hη : ∀ i j v, posOf keep i = some j → η[i]? = some v → η'[j]? = some v) {x y : V} (h : rnS keep x = some y) {v : Value} (hx : Rel w B η (ex x) v) : Rel w B η' (ex y) v := by
  cases x with
  | own i =>
    simp only [rnS] at h
    split at h
    · rename_i j hj
      injection h with h; subst h
      cases hx with
      | own _ _ a n c hid => exact .own _ _ _ _ _ (hη _ _ _ hj hid)
    · cases h
  | box i o =>
    simp only [rnS] at h
    split at h
    · rename_i j hj
      injection h with h; subst h
      cases hx with
      | box _ _ _ b hid => exact .box _ _ _ _ (hη _ _ _ hj hid)
    · cases h
  | boxi i off d n j o =>
    simp only [rnS] at h
    split at h
    · rename_i i' hj
      injection h with h; subst h
      simp only [ex, ex0] at hx ⊢
      cases hx with
      | box _ _ _ b hid => exact .box _ _ _ _ (hη _ _ _ hj hid)
    · cases h
  | oadr i d j o =>
    simp only [rnS] at h
    split at h
    · rename_i i' hj
      injection h with h; subst h
      simp only [ex, ex0] at hx ⊢
      cases hx with
      | oadr _ _ _ b o n c hid => exact .oadr _ _ _ _ _ _ _ (hη _ _ _ hj hid)
    · cases h
  | agg l => cases h
  | tup l => cases h
  | any => cases h
  | clo f l => cases h
  | bsl i n => cases h
  | c v => simp only [rnS, Option.some.injEq] at h; subst h; cases hx; exact .c _ _
  | str s => simp only [rnS, Option.some.injEq] at h; subst h; cases hx; exact .c _ _
  | nn => simp only [rnS, Option.some.injEq] at h; subst h; exact hx.bare rfl
  | arr d n a =>
    simp only [rnS, Option.some.injEq] at h; subst h
    refine hx.bare ?_
    simp only [ex, ex0, AV.imm]
    exact flat_imm d a.l
  | lst d l => simp only [rnS, Option.some.injEq] at h; subst h; exact hx.bare rfl
  | fre d l =>
    simp only [rnS, Option.some.injEq] at h; subst h
    cases hx with
    | fresh _ _ _ A n us hk hn h0 hm hA hr => exact .fresh _ _ _ A n us hk hn h0 hm hA hr
  | emp => simp only [rnS, Option.some.injEq] at h; subst h; exact hx.bare rfl
  | adr l => simp only [rnS, Option.some.injEq] at h; subst h; exact hx.bare rfl
theorem rnS_seg (hη : ∀ i j v, posOf keep i = some j → η[i]? = some v → η'[j]? = some v) {x y : V} (h : rnS keep x = some y) {us : List Value} (hx : RelL w B η (segA x) us) : RelL w B η' (segA y) us := by
  cases x with
  | own i =>
    obtain ⟨u, rfl, hu⟩ := RelL.one1 (x := .own i) hx
    have := rnS_rel (B := B) (w := w) hη h (x := .own i) hu
    simp only [rnS] at h
    split at h
    · injection h with h; subst h; exact RelL.of1 this
    · cases h
  | box i o =>
    obtain ⟨u, rfl, hu⟩ := RelL.one1 (x := .box i o) hx
    have := rnS_rel (B := B) (w := w) hη h (x := .box i o) hu
    simp only [rnS] at h
    split at h
    · injection h with h; subst h; exact RelL.of1 this
    · cases h
  | boxi i off d n j o =>
    simp only [rnS] at h
    split at h
    · injection h with h; subst h
      have : us = [] := List.eq_nil_of_length_eq_zero hx.1
      subst this; exact RelL.nil _ _ _
    · cases h
  | oadr i d j o =>
    simp only [rnS] at h
    split at h
    · injection h with h; subst h
      have : us = [] := List.eq_nil_of_length_eq_zero hx.1
      subst this; exact RelL.nil _ _ _
    · cases h
  | agg l => cases h
  | tup l => cases h
  | any => cases h
  | clo f l => cases h
  | bsl i n => cases h
  | c v => simp only [rnS, Option.some.injEq] at h; subst h; obtain ⟨u, rfl, hu⟩ := RelL.one1 hx; cases hu; exact RelL.of1 (.c _ _)
  | str s => simp only [rnS, Option.some.injEq] at h; subst h; obtain ⟨u, rfl, hu⟩ := RelL.one1 hx; cases hu; exact RelL.of1 (.c _ _)
  | arr d n a =>
    simp only [rnS, Option.some.injEq] at h; subst h
    exact ⟨hx.1, fun i x hi => by
      obtain ⟨u, h1, h2⟩ := hx.2 i x hi
      exact ⟨u, h1, h2.bare0 (List.all_eq_true.1 (flat_imm d a.l) x (List.mem_of_getElem? hi))⟩⟩
  | lst d l => simp only [rnS, Option.some.injEq] at h; subst h; obtain ⟨u, rfl, hu⟩ := RelL.one1 hx; exact RelL.of1 (hu.bare rfl)
  | fre d l => simp only [rnS, Option.some.injEq] at h; subst h; obtain ⟨u, rfl, hu⟩ := RelL.one1 hx; exact RelL.of1 (hu.bare rfl)
  | emp => simp only [rnS, Option.some.injEq] at h; subst h; obtain ⟨u, rfl, hu⟩ := RelL.one1 hx; exact RelL.of1 (hu.bare rfl)
  | nn => simp only [rnS, Option.some.injEq] at h; subst h; obtain ⟨u, rfl, hu⟩ := RelL.one1 hx; exact RelL.of1 (hu.bare rfl)
  | adr l =>
    simp only [rnS, Option.some.injEq] at h; subst h
    have : us = [] := List.eq_nil_of_length_eq_zero hx.1
    subst this; exact RelL.nil _ _ _
theorem rnL_rel (hη : ∀ i j v, posOf keep i = some j → η[i]? = some v → η'[j]? = some v) : ∀ (l m : List V) (us : List Value), rnL keep l = some m → RelL w B η (segsA l) us → RelL w B η' (segsA m) us
  | [], m, us, h, hx => by
    simp only [rnL, Option.some.injEq] at h; subst h
    have : us = [] := List.eq_nil_of_length_eq_zero hx.1
    subst this; exact RelL.nil _ _ _
  | x :: l, m, us, h, hx => by
    unfold rnL at h
    split at h
    · rename_i y m' h1 h2
      injection h with h; subst h
      rw [segsA_cons] at hx ⊢
      obtain ⟨g1, g2⟩ := hx.split
      have := (rnS_seg hη h1 g1).append (rnL_rel hη l m' _ h2 g2)
      rwa [List.take_append_drop] at this
    · cases h
theorem rnL_len : ∀ (l m : List V), rnL keep l = some m → m.length = l.length ∧ ∀ (i : Nat) y, m[i]? = some y → ∃ x, l[i]? = some x ∧ rnS keep x = some y
  | [], m, h => by simp only [rnL, Option.some.injEq] at h; subst h; exact ⟨rfl, fun i y h => by simp at h⟩
  | x :: l, m, h => by
    unfold rnL at h
    split at h
    · rename_i y m' h1 h2
      injection h with h; subst h
      obtain ⟨g1, g2⟩ := rnL_len l m' h2
      refine ⟨by simp [g1], fun i z hz => ?_⟩
      cases i with
      | zero => simp at hz; subst hz; exact ⟨x, rfl, h1⟩
      | succ i => simpa using g2 i z (by simpa using hz)
    · cases h
theorem rnS_plain {x y : V} (h : rnS keep x = some y) : y.plain = true := by
  cases x <;> simp only [rnS] at h <;> first
    | (injection h with h; subst h; rfl)
    | (split at h <;> first | (injection h with h; subst h; rfl) | cases h)
    | cases h
theorem rnS_cap {x y : V} (h : rnS keep x = some y) (hc : x.cap = true) : y.cap = true := by
  cases x <;> simp only [rnS] at h <;> first
    | (injection h with h; subst h; exact hc)
    | (split at h <;> first | (injection h with h; subst h; rfl) | cases h)
    | cases h
theorem rnV_rel (hη : ∀ i j v, posOf keep i = some j → η[i]? = some v → η'[j]? = some v) {x : V} {v : Value} (hx : Rel2 w B η x v) : Rel2 w B η' (rnV keep x) v := by
  unfold rnV
  split
  · split
    · rename_i m hm
      obtain ⟨cs, rfl, hl⟩ := Rel.aggL hx
      exact (rnL_rel hη _ _ _ hm hl).toAgg
    · trivial
  · trivial
  · split
    · rename_i m hm
      obtain ⟨vs, h1, h2, h3⟩ := hx
      obtain ⟨g1, g2⟩ := rnL_len _ _ hm
      refine ⟨vs, h1, by rw [h2, g1], fun i c hc => ?_⟩
      obtain ⟨x, q1, q2⟩ := g2 i c hc
      obtain ⟨u, q3, q4, q5⟩ := h3 i x q1
      exact ⟨u, q3, rnS_cap q2 q4, rnS_rel hη q2 q5⟩
    · trivial
  · trivial
  · trivial
  · split
    · rename_i y hy
      refine Rel2.of (rnS_plain hy) (rnS_rel hη hy ?_)
      refine hx.get ?_
      cases x <;> first | rfl | cases hy
    · trivial
theorem exFresh {x : V} (h : isFresh (ex x) = true) : ∃ d l, x = .fre d l := by
  cases x <;> first | exact ⟨_, _, rfl⟩ | cases h
theorem renum_ok {ds : List Deferred} {st : S2} {a : Act} (h : SimK n0 Bx ds st a w B η) (hnd : keep.Nodup) : SimK n0 Bx ds (renum keep st) a w B (keep.map fun i => η.getD i undef) := by
  have hη : ∀ i j v, posOf keep i = some j → η[i]? = some v → (keep.map fun i => η.getD i undef)[j]? = some v := fun i j v hp hv => by
    rw [List.getElem?_map, posOf_spec _ _ _ hp, Option.map_some, List.getD_eq_getElem?_getD, hv, Option.getD_some]
  have key : ∀ (j : Nat) e, (((renum keep st).heap.map exE))[j]? = some e → ∃ i, keep[j]? = some i ∧ e = exE (rnE keep (st.heap.getD i .dead)) := fun j e he => by
    simp only [renum, List.map_map, List.getElem?_map, Option.map_eq_some_iff, Function.comp_apply] at he
    obtain ⟨i, hi, rfl⟩ := he
    exact ⟨i, hi, rfl⟩
  have live : ∀ i, (exE (rnE keep (st.heap.getD i .dead))).live = true → ∃ e, (st.heap.map exE)[i]? = some e ∧ e.live = true := fun i hl => by
    rw [List.getD_eq_getElem?_getD] at hl
    cases he : st.heap[i]? with
    | none => rw [he] at hl; cases hl
    | some e =>
      rw [he, Option.getD_some] at hl
      refine ⟨_, exH he, ?_⟩
      cases e with
      | dead => cases hl
      | box l t => rfl
      | own d l E => rfl
      | itr s p => rfl
  refine ⟨h.defers, ⟨by simp [renum], h.inv.base, h.inv.sub, h.inv.lt, fun j e he => ?_, fun i j ei ej hij hi hj hli hlj => ?_⟩, h.slots.map _ rfl (fun x v hx => rnV_rel hη hx) (fun x v hf => ?_)⟩
  · obtain ⟨i, hi, rfl⟩ := key j e he
    have hj : (keep.map fun i => η.getD i undef).getD j undef = η.getD i undef := by
      rw [List.getD_eq_getElem?_getD, List.getElem?_map, hi]; rfl
    cases hh : st.heap[i]? with
    | none =>
      have hd : st.heap.getD i .dead = .dead := by rw [List.getD_eq_getElem?_getD, hh]; rfl
      rw [hj, hd]
      trivial
    | some e0 =>
      have hold := h.inv.ent i _ (exH hh)
      have hd : st.heap.getD i .dead = e0 := by rw [List.getD_eq_getElem?_getD, hh]; rfl
      rw [hj, hd]
      cases e0 with
      | dead => trivial
      | box l t =>
        simp only [rnE]
        split
        · rename_i m hm
          obtain ⟨b, us, p1, p2, p3, p4, p5, p6⟩ := hold
          exact ⟨b, us, p1, p2, p3, p4, p5, rnL_rel hη _ _ _ hm p6⟩
        · trivial
      | own d l E =>
        obtain ⟨n, us, p1, p2, p3, p4⟩ := hold
        exact ⟨n, us, p1, ⟨p2.1, fun i x hi => by
          obtain ⟨u, q1, q2⟩ := p2.2 i x hi
          exact ⟨u, q1, q2.bare0 (List.all_eq_true.1 (flat_imm d l) x (List.mem_of_getElem? hi))⟩⟩, p3, p4⟩
      | itr s p => exact hold
  · obtain ⟨i', hi', rfl⟩ := key i ei hi
    obtain ⟨j', hj', rfl⟩ := key j ej hj
    obtain ⟨e1, q1, q2⟩ := live i' hli
    obtain ⟨e2, q3, q4⟩ := live j' hlj
    have hne : i' ≠ j' := fun hc => by
      subst hc
      obtain ⟨g1, g2⟩ := List.getElem?_eq_some_iff.1 hi'
      obtain ⟨g3, g4⟩ := List.getElem?_eq_some_iff.1 hj'
      exact hij ((List.getElem_inj hnd).1 (g2.trans g4.symm))
    have e3 : (keep.map fun i => η.getD i undef).getD i undef = η.getD i' undef := by rw [List.getD_eq_getElem?_getD, List.getElem?_map, hi']; rfl
    have e4 : (keep.map fun i => η.getD i undef).getD j undef = η.getD j' undef := by rw [List.getD_eq_getElem?_getD, List.getElem?_map, hj']; rfl
    rw [e3, e4]
    exact h.inv.sep i' j' _ _ hne q1 q3 q2 q4
  · intro hfr
    obtain ⟨d, l, hq⟩ := exFresh hfr
    have hx : x = .fre d l := by
      cases x with
      | agg l => simp only [rnV] at hq; split at hq <;> cases hq
      | clo f l => simp only [rnV] at hq; split at hq <;> cases hq
      | own i => simp only [rnV, rnS] at hq; cases hp : posOf keep i <;> simp only [hp] at hq <;> cases hq
      | box i o => simp only [rnV, rnS] at hq; cases hp : posOf keep i <;> simp only [hp] at hq <;> cases hq
      | boxi i off d n j o => simp only [rnV, rnS] at hq; cases hp : posOf keep i <;> simp only [hp] at hq <;> cases hq
      | oadr i d j o => simp only [rnV, rnS] at hq; cases hp : posOf keep i <;> simp only [hp] at hq <;> cases hq
      | fre d l => exact hq
      | _ => simp only [rnV, rnS] at hq; cases hq
    subst hx
    exact hf rfl
/-! ### A nil row, as one of the call's own -/
def ownize (P : Program) (st : S2) (s : Nat) (e : TypeId) : S2 :=
  match st.slots[s]?, tdOf P 12 e with
  | some (.c (.slice none 0 0)), some d => if 1 ≤ wd d then ⟨st.slots.set s (.own st.heap.length), st.heap ++ [.own d [] e]⟩ else st
  | _, _ => st
theorem ownize_ok {P : Program} {ds : List Deferred} {st : S2} {a : Act} (h : SimK n0 Bx ds st a w B η) (s : Nat) (e : TypeId) : ∃ η', SimK n0 Bx ds (ownize P st s e) a w B η' ∧ ∀ (id : Nat) v, η[id]? = some v → η'[id]? = some v := by
  unfold ownize
  split
  · rename_i d hs htd
    split
    · rename_i hw
      refine ⟨η ++ [.slice none 0 0], ⟨h.defers, ?_, ?_⟩, push_old η _⟩
      · refine ⟨by simp [h.inv.len], h.inv.base, h.inv.sub, h.inv.lt, fun i e' he => ?_, fun i j ei ej hij hi hj hli hlj b hb => ?_⟩
        · rw [List.map_append] at he
          rcases Nat.lt_or_ge i st.heap.length with hi | hi
          · rw [List.getElem?_append_left (by simpa using hi)] at he
            rw [getD_push_old (by rw [h.inv.len]; simpa using hi)]
            exact EntOK.keep (h.inv.ent i e' he) (On.refl B w) (fun _ h => .inl h) (fun _ h => h) (push_old η _) (fun _ _ _ => rfl)
          · rw [List.getElem?_append_right (by simpa using hi)] at he
            have hz : i = st.heap.length := by have := (List.getElem?_eq_some_iff.1 he).1; simp at this; omega
            subst hz
            simp at he; subst he
            have hl : η.length = st.heap.length := by simpa using h.inv.len
            rw [← hl, getD_push_new]
            exact ⟨0, [], OwnAt.nil w n0 e (wd d), RelL.nil _ _ _, hw, fun b hb => by cases hb⟩
        · rw [List.map_append] at hi hj
          have hl : η.length = st.heap.length := by simpa using h.inv.len
          have part : ∀ (i : Nat) (ei : Ent), (List.map exE st.heap ++ List.map exE [E2.own d [] e])[i]? = some ei → i < st.heap.length ∧ (st.heap.map exE)[i]? = some ei ∨ i = st.heap.length := fun i ei hi => by
            rcases Nat.lt_or_ge i st.heap.length with hlt | hge
            · rw [List.getElem?_append_left (by simpa using hlt)] at hi; exact .inl ⟨hlt, hi⟩
            · rw [List.getElem?_append_right (by simpa using hge)] at hi
              exact .inr (by have := (List.getElem?_eq_some_iff.1 hi).1; simp at this; omega)
          rcases part i ei hi with ⟨h1, h2⟩ | h1
          · rw [getD_push_old (by omega)] at hb
            rcases part j ej hj with ⟨h3, h4⟩ | h3
            · rw [getD_push_old (by omega)]
              exact h.inv.sep i j ei ej hij h2 h4 hli hlj b hb
            · subst h3; rw [← hl, getD_push_new]; intro hc; cases hc
          · subst h1; rw [← hl, getD_push_new] at hb; cases hb
      · have hv := h.slots.rel s
        rw [List.getD_eq_getElem?_getD, hs, Option.getD_some] at hv
        have hv : a.tmps.getD s undef = .slice none 0 0 := Rel.ofC hv
        have hl : η.length = st.heap.length := by simpa using h.inv.len
        have h1 := (h.slots.on (On.refl B w) (fun _ h => .inl h) (push_old η (.slice none 0 0))).put (r := .own st.heap.length) (v := .slice none 0 0) (.own _ _ _ _ _ (by rw [← hl, List.getElem?_append_right (Nat.le_refl _)]; simp)) (fun h => by cases h) s
        have h2 : a.tmps.setIfInBounds s (.slice none 0 0) = a.tmps := by
          have hlt : s < a.tmps.size := by rw [← h.slots.size]; exact (List.getElem?_eq_some_iff.1 hs).1
          rw [Array.getD_eq_getD_getElem?, Array.getElem?_eq_getElem hlt, Option.getD_some] at hv
          apply Array.ext (by simp)
          intro i hi1 hi2
          rw [Array.getElem_setIfInBounds]
          split
          · rename_i hsi; subst hsi; exact hv.symm
          · rfl
        rw [h2] at h1
        exact h1
    · exact ⟨η, h, fun _ _ h => h⟩
  · exact ⟨η, h, fun _ _ h => h⟩
/-! ### A row of the call's own that the one who called had already, under a number of its own -/
def moveOwn (m0 : Nat) (st : S2) (s : Nat) : S2 :=
  match st.slots[s]? with
  | some (.own i) => if i < m0 then (match st.heap[i]? with
    | some (.own d l E) => ⟨st.slots.set s (.own st.heap.length), st.heap.set i .dead ++ [.own d l E]⟩
    | _ => st) else st
  | _ => st
theorem moveOwn_ok {m0 : Nat} {ds : List Deferred} {st : S2} {a : Act} (h : SimK n0 Bx ds st a w B η) (s : Nat) : ∃ η', SimK n0 Bx ds (moveOwn m0 st s) a w B η' ∧ ∀ (id : Nat) v, η[id]? = some v → η'[id]? = some v := by
  unfold moveOwn
  split
  · rename_i k hs
    split
    · split
      · rename_i d l E hH
        have hl : η.length = st.heap.length := by simpa using h.inv.len
        have hk : k < st.heap.length := (List.getElem?_eq_some_iff.1 hH).1
        refine ⟨η ++ [η.getD k undef], ⟨h.defers, ?_, ?_⟩, push_old η _⟩
        · have part : ∀ (i : Nat) (ei : Ent), ((st.heap.set k .dead ++ [E2.own d l E]).map exE)[i]? = some ei → (i < st.heap.length ∧ i ≠ k ∧ (st.heap.map exE)[i]? = some ei) ∨ (i = k ∧ ei = .dead) ∨ (i = st.heap.length ∧ ei = exE (.own d l E)) := fun i ei hi => by
            rw [List.map_append] at hi
            rcases Nat.lt_or_ge i st.heap.length with hlt | hge
            · rw [List.getElem?_append_left (by simpa using hlt), List.map_set, List.getElem?_set] at hi
              split at hi
              · rename_i hik
                rw [if_pos (by simpa using hk)] at hi
                injection hi with hi
                exact .inr (.inl ⟨hik.symm, hi.symm⟩)
              · rename_i hik
                exact .inl ⟨hlt, fun hc => hik hc.symm, hi⟩
            · rw [List.getElem?_append_right (by simpa using hge)] at hi
              have hz : i = st.heap.length := by have := (List.getElem?_eq_some_iff.1 hi).1; simp at this; omega
              subst hz
              simp at hi
              exact .inr (.inr ⟨rfl, hi.symm⟩)
          refine ⟨by simp [h.inv.len], h.inv.base, h.inv.sub, h.inv.lt, fun i e' he => ?_, fun i j ei ej hij hi hj hli hlj b hb => ?_⟩
          · rcases part i e' he with ⟨h1, h2, h3⟩ | ⟨h1, rfl⟩ | ⟨rfl, rfl⟩
            · rw [getD_push_old (by omega)]
              exact EntOK.keep (h.inv.ent i e' h3) (On.refl B w) (fun _ h => .inl h) (fun _ h => h) (push_old η _) (fun _ _ _ => rfl)
            · trivial
            · rw [← hl, getD_push_new]
              exact EntOK.keep (h.inv.ent k _ (exH hH)) (On.refl B w) (fun _ h => .inl h) (fun _ h => h) (push_old η _) (fun _ _ _ => rfl)
          · rcases part i ei hi with ⟨h1, h2, h3⟩ | ⟨h1, rfl⟩ | ⟨h1, rfl⟩
            · rw [getD_push_old (by omega)] at hb
              rcases part j ej hj with ⟨g1, g2, g3⟩ | ⟨g1, rfl⟩ | ⟨g1, rfl⟩
              · rw [getD_push_old (by omega)]
                exact h.inv.sep i j ei ej hij h3 g3 hli hlj b hb
              · cases hlj
              · subst g1; rw [← hl, getD_push_new]
                exact h.inv.sep i k ei _ h2 h3 (exH hH) hli rfl b hb
            · cases hli
            · subst h1
              rw [← hl, getD_push_new] at hb
              rcases part j ej hj with ⟨g1, g2, g3⟩ | ⟨g1, rfl⟩ | ⟨g1, rfl⟩
              · rw [getD_push_old (by omega)]
                exact h.inv.sep k j _ ej (fun hc => g2 hc.symm) (exH hH) g3 rfl hlj b hb
              · cases hlj
              · exact absurd g1.symm hij
        · have hv := h.slots.rel s
          rw [List.getD_eq_getElem?_getD, hs, Option.getD_some] at hv
          have hv : Rel w B η (.own k) (a.tmps.getD s undef) := hv
          generalize hav : a.tmps.getD s undef = u0 at hv
          cases hv with
          | own _ _ a0 n c hid =>
            have hg : η.getD k undef = .slice a0 n c := by rw [List.getD_eq_getElem?_getD, hid]; rfl
            have h1 := (h.slots.on (On.refl B w) (fun _ h => .inl h) (push_old η (η.getD k undef))).put (r := .own st.heap.length) (v := .slice a0 n c) (.own _ _ _ _ _ (by rw [← hl, List.getElem?_append_right (Nat.le_refl _), hg]; simp)) (fun h => by cases h) s
            have h2 : a.tmps.setIfInBounds s (.slice a0 n c) = a.tmps := by
              have hlt : s < a.tmps.size := by rw [← h.slots.size]; exact (List.getElem?_eq_some_iff.1 hs).1
              have hav' : a.tmps.getD s undef = .slice a0 n c := hav
              rw [Array.getD_eq_getD_getElem?, Array.getElem?_eq_getElem hlt, Option.getD_some] at hav'
              apply Array.ext (by simp)
              intro i hi1 hi2
              rw [Array.getElem_setIfInBounds]
              split
              · rename_i hsi; subst hsi; exact hav'.symm
              · rfl
            rw [h2] at h1
            exact h1
      · exact ⟨η, h, fun _ _ h => h⟩
    · exact ⟨η, h, fun _ _ h => h⟩
  · exact ⟨η, h, fun _ _ h => h⟩
end
end Go.Proofs.YtfaocnboildjbaaDoor
/-
  The program's tables, as typed data.
-/
namespace Go.Proofs.YtfaocnboildjbaaDoor
set_option maxRecDepth 100000
open Go.RowKit
set_option linter.unusedVariables false
def globVs : List (Nat × List V) := [
]
def globV (g : Nat) : Option (List V) := (globVs.find? (·.1 == g)).map (·.2)
theorem globVs_ok : globVs.map (fun p => (p.1, segsA p.2)) = globs.map (fun p => (p.1, p.2.map AV.c)) := by kernel_rfl
theorem globV_rel {w : World} {B : List Nat} {η : List Value} {g : Nat} {l : List V} (h : GlobOK w B) (hl : globV g = some l) : Rel2 w B η (.adr l) (.pointer (some ⟨g, 0, none⟩)) := by
  unfold globV at hl
  rw [Option.map_eq_some_iff] at hl
  obtain ⟨p, hp, rfl⟩ := hl
  have h1 := List.mem_of_find?_eq_some hp
  have h2 := List.find?_some hp
  simp only [beq_iff_eq] at h2
  have h3 : (p.1, segsA p.2) ∈ globs.map (fun p => (p.1, p.2.map AV.c)) := by
    rw [← globVs_ok]
    exact List.mem_map.2 ⟨p, h1, rfl⟩
  obtain ⟨q, q1, q2⟩ := List.mem_map.1 h3
  injection q2 with q3 q4
  have h4 := h.tab q.1 q.2 q1
  rw [q3, h2, q4] at h4
  exact h4.any
end Go.Proofs.YtfaocnboildjbaaDoor
/-
  Regions, code, calls: run on typed values.
-/
namespace Go.Proofs.YtfaocnboildjbaaDoor
set_option maxRecDepth 100000
open Go.RowKit
set_option linter.unusedVariables false
set_option linter.unusedSimpArgs false

/-- What stays of what was known, as the call goes on. -/
structure Goes (n0 m0 : Nat) (w : World) (B : List Nat) (η : List Value) (w' : World) (B' : List Nat) (η' : List Value) : Prop where
  on : On B w w'
  hB : ∀ b ∈ B', b ∈ B ∨ w.heap.size ≤ b
  hη : ∀ (id : Nat) v, id < m0 → η[id]? = some v → η'[id]? = some v
  below : Below n0 w w'
theorem Goes.refl (n0 m0 : Nat) (w : World) (B : List Nat) (η : List Value) : Goes n0 m0 w B η w B η := ⟨On.refl B w, fun _ h => .inl h, fun _ _ _ h => h, Below.refl _ _⟩
theorem Goes.trans {n0 m0 : Nat} {a b c : World} {B B' B'' : List Nat} {η η' η'' : List Value} (h : Goes n0 m0 a B η b B' η') (k : Goes n0 m0 b B' η' c B'' η'') : Goes n0 m0 a B η c B'' η'' :=
  ⟨h.on.trans k.on h.hB, fun x hx => (k.hB x hx).elim (fun hx => h.hB x hx) (fun hx => .inr (Nat.le_trans h.on.size hx)), fun id v hi hv => k.hη id v hi (h.hη id v hi hv), h.below.trans k.below⟩
structure Env (R : Type) where
  fns : Fns R
  inl : FuncId → Bool
  lp : List Nat → Nat → Nat → S2 → (Exit → S2 → Tree R) → Tree R
  mv : List Nat → Nat → Bool × Bool
  cln : FuncId → Option TypeId
  scl : FuncId → Bool
  un : List Nat → Nat → Bool
def opV (sl : List V) : Operand → V
  | .tmp t => sl.getD t .any
  | .const v => constV v
  | .global g => (match globV g with | some l => .adr l | none => .c (.pointer (some ⟨g, 0, none⟩)))
  | .func f => .clo f []
def setV (sl : List V) (d : Option Tmp) (r : V) : List V := match d with | some t => sl.set t r | none => sl
/-- Rows of the call's own that an operation takes as plain ones. -/
def needs (mv : Bool × Bool) : Op → List Operand
  | .slice _ x _ _ _ => if mv.1 = true then [] else [x]
  | .call ⟨.builtin .append, ⟨[_, x]⟩, _⟩ => [x]
  | .call ⟨.value _, args, _⟩ => if mv.1 = true then [] else args.toList
  | .convert _ _ x => [x]
  | .sliceToArrayPointer _ x => [x]
  | .call ⟨.builtin .copy, ⟨[_, x]⟩, _⟩ => [x]
  | .buildSlice _ _ parts => parts.toList.map (·.2)
  | _ => []
def ownIds : V → List Nat
  | .own i => [i]
  | .agg l => l.filterMap fun | .own i => some i | _ => none
  | _ => []
def frzAll : List Nat → S2 → S2
  | [], st => st
  | i :: l, st => frzAll l (freeze st i)
/-- Boxes of which an operation makes a slice. -/
def needsB (mv : Bool × Bool) : Op → List Operand
  | .slice _ x _ _ none => if mv.1 = true then [] else [x]
  | _ => []
/-- Boxes of whose fields a region makes slices. -/
def needsF (mv : Bool × Bool) (ops : Array Oper) : List Operand := ops.toList.flatMap fun o => match o.op with
  | .slice _ (.tmp t) _ _ none => if mv.1 = true then [] else ops.toList.flatMap fun q => match q.op with
    | .fieldAddr _ y _ => if q.dst == some t then [y] else []
    | _ => []
  | _ => []
def boxIds : V → List Nat
  | .box i _ => [i]
  | _ => []
def frzBs : List Nat → S2 → S2
  | [], st => st
  | i :: l, st => frzBs l (freezeB st i)
def frzOp (mv : Bool × Bool) (o : Op) (st : S2) : S2 := frzBs ((needsB mv o).flatMap fun x => boxIds (opV st.slots x)) (frzAll ((needs mv o).flatMap fun x => ownIds (opV st.slots x)) st)
section
variable {R : Type}
/-- Is the operation wanted? -/
def wantK (ops : Array Oper) (sl : List V) (o : Oper) (yes no : List V → Tree R) : Tree R :=
  match o.guard with
  | none => yes sl
  | some (g, want) => match (ops[g]?).bind (·.dst) with
    | some d => match sl[d]? with
      | some (.c (.bool b)) => .ite b (if want = true then yes (sl.set d (.c (.bool true))) else no (sl.set d (.c (.bool true)))) (if want = true then no (sl.set d (.c (.bool false))) else yes (sl.set d (.c (.bool false))))
      | some (.c (.tuple _)) => no sl
      | _ => .fail
    | none => .fail
theorem set_same' {α : Type} {l : List α} {d : Nat} {x : α} (h : l[d]? = some x) : l.set d x = l := by
  apply List.ext_getElem?
  intro i
  rw [List.getElem?_set]
  split
  · rename_i hi
    subst hi
    rw [if_pos (List.getElem?_eq_some_iff.1 h).1, h]
  · rfl
def guardSlot (ops : Array Oper) (o : Oper) : Option Tmp := match o.guard with
  | some (g, _) => (ops[g]?).bind (·.dst)
  | none => none
theorem wantK_ok {ops : Array Oper} {sl : List V} {o : Oper} {yes no : List V → Tree R} {res : R} (h : (wantK ops sl o yes no).run = some res) :
    ∃ b : Bool, ((if b = true then yes sl else no sl)).run = some res ∧ ∀ (w : World) (B : List Nat) (η : List Value) (tmps : Array Value), sl.length = tmps.size → (∀ d, guardSlot ops o = some d → Rel2 w B η (sl.getD d .any) (tmps.getD d undef)) → Region.wanted o (yielded ops tmps) = b := by
  unfold wantK at h
  split at h
  · rename_i hg
    exact ⟨true, by simpa using h, fun w B η tmps hsz ht => by simp [Region.wanted, hg]⟩
  · rename_i g want hg
    split at h
    · rename_i d hd
      have slot : ∀ (v : Value), sl[d]? = some (.c v) → ∀ (w : World) (B : List Nat) (η : List Value) (tmps : Array Value), sl.length = tmps.size → (∀ d, guardSlot ops o = some d → Rel2 w B η (sl.getD d .any) (tmps.getD d undef)) → tmps[d]? = some v := fun v hv w B η tmps hsz ht => by
        have hr := ht d (by simp [guardSlot, hg, hd])
        rw [List.getD_eq_getElem?_getD, hv, Option.getD_some] at hr
        have hr := Rel.ofC hr
        have hlt : d < tmps.size := by rw [← hsz]; exact (List.getElem?_eq_some_iff.1 hv).1
        rw [Array.getD_eq_getD_getElem?, Array.getElem?_eq_getElem hlt, Option.getD_some] at hr
        rw [Array.getElem?_eq_getElem hlt, hr]
      split at h
      · rename_i b hv
        have key : ∀ (w : World) (B : List Nat) (η : List Value) (tmps : Array Value), sl.length = tmps.size → (∀ d, guardSlot ops o = some d → Rel2 w B η (sl.getD d .any) (tmps.getD d undef)) → Region.wanted o (yielded ops tmps) = (b == want) := fun w B η tmps hsz ht => by
          simp [Region.wanted, hg, yielded, hd, slot _ hv w B η tmps hsz ht]
        rcases Tree.run_ite h with ⟨hb, h1⟩ | ⟨hb, h1⟩
        · clear h
          subst hb
          rw [set_same' hv] at h1
          refine ⟨want, ?_, fun w B η tmps hsz ht => by rw [key w B η tmps hsz ht]; cases want <;> rfl⟩
          cases want <;> simpa using h1
        · clear h
          subst hb
          rw [set_same' hv] at h1
          refine ⟨!want, ?_, fun w B η tmps hsz ht => by rw [key w B η tmps hsz ht]; cases want <;> rfl⟩
          cases want <;> simpa using h1
      · rename_i hv
        refine ⟨false, by simpa using h, fun w B η tmps hsz ht => by simp [Region.wanted, hg, yielded, hd, slot _ hv w B η tmps hsz ht]⟩
      · cases h
    · cases h
theorem frzAll_ok {n0 m0 : Nat} {Bx : List Nat} {ds : List Deferred} {a : Act} {w : World} {η : List Value} : ∀ (l : List Nat) (st : S2) (B : List Nat), SimK n0 Bx ds st a w B η → ∃ B', SimK n0 Bx ds (frzAll l st) a w B' η ∧ Goes n0 m0 w B η w B' η
  | [], st, B, h => ⟨B, h, Goes.refl _ _ _ _ _⟩
  | i :: l, st, B, h => by
    obtain ⟨B1, h1, h2⟩ := freeze_ok h i
    obtain ⟨B2, h3, h4⟩ := frzAll_ok (m0 := m0) l _ B1 h2
    exact ⟨B2, h3, (⟨On.refl B w, fun b hb => .inl (h1 b hb), fun _ _ _ h => h, Below.refl _ _⟩ : Goes n0 m0 w B η w B1 η).trans h4⟩
theorem frzBs_ok {n0 m0 : Nat} {Bx : List Nat} {ds : List Deferred} {a : Act} {w : World} {η : List Value} : ∀ (l : List Nat) (st : S2) (B : List Nat), SimK n0 Bx ds st a w B η → ∃ B', SimK n0 Bx ds (frzBs l st) a w B' η ∧ Goes n0 m0 w B η w B' η
  | [], st, B, h => ⟨B, h, Goes.refl _ _ _ _ _⟩
  | i :: l, st, B, h => by
    obtain ⟨B1, h1, h2⟩ := freezeB_ok h i
    obtain ⟨B2, h3, h4⟩ := frzBs_ok (m0 := m0) l _ B1 h2
    exact ⟨B2, h3, (⟨On.refl B w, fun b hb => .inl (h1 b hb), fun _ _ _ h => h, Below.refl _ _⟩ : Goes n0 m0 w B η w B1 η).trans h4⟩
theorem frzOp_ok {n0 m0 : Nat} {Bx : List Nat} {ds : List Deferred} {a : Act} {w : World} {η : List Value} (mv : Bool × Bool) (o : Op) (st : S2) (B : List Nat) (h : SimK n0 Bx ds st a w B η) : ∃ B', SimK n0 Bx ds (frzOp mv o st) a w B' η ∧ Goes n0 m0 w B η w B' η := by
  obtain ⟨B1, h1, h2⟩ := frzAll_ok (m0 := m0) ((needs mv o).flatMap fun x => ownIds (opV st.slots x)) st B h
  obtain ⟨B2, h3, h4⟩ := frzBs_ok (m0 := m0) ((needsB mv o).flatMap fun x => boxIds (opV st.slots x)) _ B1 h1
  exact ⟨B2, h3, h2.trans h4⟩
/-- An operand, and what the region moves into it. -/
def srcsO (ops : Array Oper) (x : Operand) : List Operand := match x with
  | .tmp t => x :: ops.toList.flatMap fun q => match q.op with
    | .move y => if q.dst == some t then [y] else []
    | _ => []
  | x => [x]
/-- What all operations of a region ask for, ahead of them. -/
def frzOps (mv : Bool × Bool) (ops : Array Oper) (st : S2) : S2 := frzBs ((needsF mv ops ++ ops.toList.flatMap fun o => needsB mv o.op).flatMap fun x => boxIds (opV st.slots x)) (frzAll (((ops.toList.flatMap fun o => needs mv o.op).flatMap (srcsO ops)).flatMap fun x => ownIds (opV st.slots x)) st)
theorem frzOps_ok {n0 m0 : Nat} {Bx : List Nat} {ds : List Deferred} {a : Act} {w : World} {η : List Value} (mv : Bool × Bool) (ops : Array Oper) (st : S2) (B : List Nat) (h : SimK n0 Bx ds st a w B η) : ∃ B', SimK n0 Bx ds (frzOps mv ops st) a w B' η ∧ Goes n0 m0 w B η w B' η := by
  obtain ⟨B1, h1, h2⟩ := frzAll_ok (m0 := m0) (((ops.toList.flatMap fun o => needs mv o.op).flatMap (srcsO ops)).flatMap fun x => ownIds (opV st.slots x)) st B h
  obtain ⟨B2, h3, h4⟩ := frzBs_ok (m0 := m0) ((needsF mv ops ++ ops.toList.flatMap fun o => needsB mv o.op).flatMap fun x => boxIds (opV st.slots x)) _ B1 h1
  exact ⟨B2, h3, h2.trans h4⟩
theorem opG_rel {n0 : Nat} {w : World} {B : List Nat} {η : List Value} {sl : List V} (hgl : GlobOK w B) (g : Nat) : Rel2 w B η (opV sl (.global g)) (.pointer (some ⟨g, 0, none⟩)) ∧ FreshV n0 (ex (opV sl (.global g))) (.pointer (some ⟨g, 0, none⟩)) := by
  simp only [opV]
  split
  · rename_i l hl
    exact ⟨globV_rel hgl hl, fun h => by cases h⟩
  · exact ⟨.c _ _, fun h => by cases h⟩
theorem opV_rel {n0 : Nat} {w : World} {B : List Nat} {η : List Value} {sl : List V} {a : Act} (h : SlotsK n0 w B η sl a.tmps) (hgl : GlobOK w B) (x : Operand) : Rel2 w B η (opV sl x) (a.eval x) ∧ FreshV n0 (ex (opV sl x)) (a.eval x) := by
  cases x with
  | tmp t => exact ⟨h.rel t, h.fresh t⟩
  | const v =>
    refine ⟨Rel2.of (constV_plain v) ?_, fun h => ?_⟩
    · show Rel w B η (ex (constV v)) v
      rw [constV_ex]; exact .c _ _
    · simp only [opV, constV_ex, isFresh] at h; cases h
  | global g => exact opG_rel hgl g
  | func f => exact ⟨⟨[], rfl, rfl, fun i c h => by simp at h⟩, fun h => by cases h⟩
/-- A call that is run in place. -/
abbrev CallI (R : Type) := FuncId → List V → List E2 → (V → List E2 → Tree R) → Tree R
def RelVs (n0 : Nat) (w : World) (B : List Nat) (η : List Value) (args : List V) (cargs : List Value) : Prop := cargs.length = args.length ∧ ∀ (i : Nat) x, args[i]? = some x → ∃ v, cargs[i]? = some v ∧ Rel2 w B η x v ∧ FreshV n0 (ex x) v
structure CallIOK (P : Program) (C : CallI R) : Prop where
  ok : ∀ f args H k res, (C f args H k).run = some res → ∃ r H', (k r H').run = some res ∧ (∃ fn, P.funcs[f]? = some fn ∧ fn.name ≠ "runtime.NumGoroutine" ∧ fn.body ≠ none) ∧
    ∀ (n0 : Nat) (Bx : List Nat) (w : World) (B : List Nat) (η : List Value) (cargs : List Value), Inv n0 Bx w B η (H.map exE) → RelVs n0 w B η args cargs →
      Calls P f cargs.toArray w fun e w' => ∃ v B' η', e = .returned v ∧ Goes n0 H.length w B η w' B' η' ∧ Inv n0 Bx w' B' η' (H'.map exE) ∧ Rel2 w' B' η' r v ∧ FreshV n0 (ex r) v
/-- A call by contract: rows of the call's own that it is given are nobody's from then on. -/
def callF (Γ : Env R) (f : FuncId) (xs : List V) (H : List E2) (k : V → List E2 → Tree R) : Tree R :=
  match frzAll (xs.flatMap ownIds) ⟨xs, H⟩ with
  | ⟨ys, H1⟩ => if ys.all immV2 = true then Γ.fns f (ys.map argV) fun r => k r H1 else .fail
theorem callF_ok {P : Program} {Γ : Env R} (hF : FnsOK P Γ.fns) {f : FuncId} {args : Array Operand} {ts : Array TypeId} {sl : List V} {H : List E2} {o : Oper} {k : V → List E2 → Tree R} {res : R} (ho : o.op = .call ⟨.value (.func f), args, ts⟩) (h : (callF Γ f (args.toList.map (opV sl)) H k).run = some res) :
    ∃ r H', (k r H').run = some res ∧ ∀ (n0 : Nat) (Bx : List Nat) (w : World) (B : List Nat) (η : List Value) (ρv : Operand → Value), (∀ f, ρv (.func f) = .func (.func f) #[] #[]) → Inv n0 Bx w B η (H.map exE) → (∀ x ∈ o.op.operands, Rel2 w B η (opV sl x) (ρv x) ∧ FreshV n0 (ex (opV sl x)) (ρv x)) → OpS2 P n0 Bx w ρv o B η r H' := by
  unfold callF at h
  split at h
  rename_i ys H1 hst
  split at h
  · rename_i himm
    obtain ⟨r, h1, h2, h3, h4⟩ := hF.ok _ _ _ _ h
    refine ⟨r, H1, h1, fun n0 Bx w B η ρv hfv inv he N hN => val_of_enters ho (hfv f) ?_⟩
    have hmem : ∀ y ∈ args.toList, y ∈ o.op.operands := fun y hy => by simp [ho, Op.operands, Call.operands]; exact .inr (by simpa using hy)
    have hs : SimK n0 Bx [] ⟨args.toList.map (opV sl), H⟩ { tmps := args.map ρv, defers := [] } w B η := by
      refine ⟨rfl, inv, ⟨by simp, fun t => ?_, fun t => ?_⟩⟩
      all_goals
        simp only [List.getD_eq_getElem?_getD, Array.getD_eq_getD_getElem?, List.getElem?_map, Array.getElem?_map]
        rcases Nat.lt_or_ge t args.size with ht | ht
        · have e1 : args[t]? = some args[t] := Array.getElem?_eq_getElem ht
          have e2 : args.toList[t]? = some args[t] := by rw [Array.getElem?_toList]; exact e1
          have hm := he args[t] (hmem _ (List.mem_of_getElem? e2))
          simp only [e1, e2, Option.map_some, Option.getD_some]
          first | exact hm.1 | exact hm.2
        · have e1 : args[t]? = none := Array.getElem?_eq_none ht
          have e2 : args.toList[t]? = none := by rw [Array.getElem?_toList]; exact e1
          simp only [e1, e2, Option.map_none, Option.getD_none]
          first | trivial | (intro hc; cases hc)
    obtain ⟨B1, hs1, hg1⟩ := frzAll_ok (m0 := 0) ((args.toList.map (opV sl)).flatMap ownIds) _ B hs
    rw [hst] at hs1
    have hsz : ys.length = args.size := by have := hs1.slots.size; simpa using this
    have hcall := h4 w B1 (args.toList.map ρv) hs1.inv.lt hs1.inv.base.2 (by simp [hsz]) (fun i x hx => by
      rw [List.getElem?_map, Option.map_eq_some_iff] at hx
      obtain ⟨y, hy, rfl⟩ := hx
      have hi := List.all_eq_true.1 himm y (List.mem_of_getElem? hy)
      have hlt : i < args.size := by rw [← hsz]; exact (List.getElem?_eq_some_iff.1 hy).1
      have hr := hs1.slots.rel i
      simp only [List.getD_eq_getElem?_getD, hy, Option.getD_some, Array.getD_eq_getD_getElem?, Array.getElem?_map, Array.getElem?_eq_getElem hlt, Option.map_some] at hr
      exact ⟨ρv args[i], by simp [hlt], immV_arg hi (hr.get (immV2_plain hi))⟩) N (fun v w' g2 g3 => hN v w' B1 η (On.gr g2) (fun b hb => hg1.hB b hb) (fun _ _ h => h) (g2.mono inv.base.1) (hs1.inv.gr g2) (Rel2.of h2 g3.any) (fun hfr => by generalize ex r = y at h3 hfr; cases y <;> first | exact absurd rfl (h3 _ _) | cases hfr))
    have hargs : (args.toList.map ρv).toArray = args.map ρv := by apply Array.ext'; simp
    rw [hargs] at hcall
    exact hcall
  · cases h
/-- Plain values alone. -/
def scaV : V → Bool
  | .c _ => true
  | .tup l => l.all fun x => match x with | .c _ => true | _ => false
  | _ => false
theorem scaV_rel {r : V} (h : scaV r = true) {w : World} {B B' : List Nat} {η η' : List Value} {v : Value} (hr : Rel w B η (ex r) v) : Rel w B' η' (ex r) v := by
  cases r with
  | c u => have := Rel.ofC hr; subst this; exact .c _ _
  | tup l =>
    have hr : Rel w B η (.tup (l.map ex0)) v := hr
    show Rel w B' η' (.tup (l.map ex0)) v
    cases hr with
    | tup _ _ cs us hs hu hq =>
      refine .tup _ _ cs us hs hu (fun i x hx => ?_)
      have h0 := hq i x hx
      rw [List.getElem?_map, Option.map_eq_some_iff] at hx
      obtain ⟨y, hy, rfl⟩ := hx
      have h1 := List.all_eq_true.1 h y (List.mem_of_getElem? hy)
      cases y with
      | c u =>
        have h0 : Rel w B η (.c u) (us i) := h0
        have e := Rel.ofC h0
        rw [e]
        exact .c _ _
      | _ => cases h1
  | _ => cases h
/-- A call by contract that hands back plain values alone: what it is given stays what it is. -/
def callS (Γ : Env R) (f : FuncId) (xs : List V) (H : List E2) (k : V → List E2 → Tree R) : Tree R :=
  match frzAll (xs.flatMap ownIds) ⟨xs, H⟩ with
  | ⟨ys, H1⟩ => if ys.all immV2 = true then Γ.fns f (ys.map argV) fun r => if scaV r = true then k r H else .fail else .fail
theorem callS_ok {P : Program} {Γ : Env R} (hF : FnsOK P Γ.fns) {f : FuncId} {args : Array Operand} {ts : Array TypeId} {sl : List V} {H : List E2} {o : Oper} {k : V → List E2 → Tree R} {res : R} (ho : o.op = .call ⟨.value (.func f), args, ts⟩) (h : (callS Γ f (args.toList.map (opV sl)) H k).run = some res) :
    ∃ r H', (k r H').run = some res ∧ ∀ (n0 : Nat) (Bx : List Nat) (w : World) (B : List Nat) (η : List Value) (ρv : Operand → Value), (∀ f, ρv (.func f) = .func (.func f) #[] #[]) → Inv n0 Bx w B η (H.map exE) → (∀ x ∈ o.op.operands, Rel2 w B η (opV sl x) (ρv x) ∧ FreshV n0 (ex (opV sl x)) (ρv x)) → OpS2 P n0 Bx w ρv o B η r H' := by
  unfold callS at h
  split at h
  rename_i ys H1 hst
  split at h
  · rename_i himm
    obtain ⟨r, h1, h2, h3, h4⟩ := hF.ok _ _ _ _ h
    split at h1
    case isFalse => cases h1
    rename_i hsca
    refine ⟨r, H, h1, fun n0 Bx w B η ρv hfv inv he N hN => val_of_enters ho (hfv f) ?_⟩
    have hmem : ∀ y ∈ args.toList, y ∈ o.op.operands := fun y hy => by simp [ho, Op.operands, Call.operands]; exact .inr (by simpa using hy)
    have hs : SimK n0 Bx [] ⟨args.toList.map (opV sl), H⟩ { tmps := args.map ρv, defers := [] } w B η := by
      refine ⟨rfl, inv, ⟨by simp, fun t => ?_, fun t => ?_⟩⟩
      all_goals
        simp only [List.getD_eq_getElem?_getD, Array.getD_eq_getD_getElem?, List.getElem?_map, Array.getElem?_map]
        rcases Nat.lt_or_ge t args.size with ht | ht
        · have e1 : args[t]? = some args[t] := Array.getElem?_eq_getElem ht
          have e2 : args.toList[t]? = some args[t] := by rw [Array.getElem?_toList]; exact e1
          have hm := he args[t] (hmem _ (List.mem_of_getElem? e2))
          simp only [e1, e2, Option.map_some, Option.getD_some]
          first | exact hm.1 | exact hm.2
        · have e1 : args[t]? = none := Array.getElem?_eq_none ht
          have e2 : args.toList[t]? = none := by rw [Array.getElem?_toList]; exact e1
          simp only [e1, e2, Option.map_none, Option.getD_none]
          first | trivial | (intro hc; cases hc)
    obtain ⟨B1, hs1, hg1⟩ := frzAll_ok (m0 := 0) ((args.toList.map (opV sl)).flatMap ownIds) _ B hs
    rw [hst] at hs1
    have hsz : ys.length = args.size := by have := hs1.slots.size; simpa using this
    have hcall := h4 w B1 (args.toList.map ρv) hs1.inv.lt hs1.inv.base.2 (by simp [hsz]) (fun i x hx => by
      rw [List.getElem?_map, Option.map_eq_some_iff] at hx
      obtain ⟨y, hy, rfl⟩ := hx
      have hi := List.all_eq_true.1 himm y (List.mem_of_getElem? hy)
      have hlt : i < args.size := by rw [← hsz]; exact (List.getElem?_eq_some_iff.1 hy).1
      have hr := hs1.slots.rel i
      simp only [List.getD_eq_getElem?_getD, hy, Option.getD_some, Array.getD_eq_getD_getElem?, Array.getElem?_map, Array.getElem?_eq_getElem hlt, Option.map_some] at hr
      exact ⟨ρv args[i], by simp [hlt], immV_arg hi (hr.get (immV2_plain hi))⟩) N (fun v w' g2 g3 => hN v w' B η (On.gr g2) (fun b hb => .inl hb) (fun _ _ h => h) (g2.mono inv.base.1) (inv.gr g2) (Rel2.of h2 (scaV_rel hsca g3)) (fun hfr => by generalize ex r = y at h3 hfr; cases y <;> first | exact absurd rfl (h3 _ _) | cases hfr))
    have hargs : (args.toList.map ρv).toArray = args.map ρv := by apply Array.ext'; simp
    rw [hargs] at hcall
    exact hcall
  · cases h
def neB : Operand → Operand → Bool
  | .tmp i, .tmp j => i != j
  | .const _, .tmp _ => true
  | _, _ => false
theorem neB_ne {s x : Operand} (h : neB s x = true) : s ≠ x := fun e => by
  subst e
  cases s <;> simp [neB] at h
/-- Append of a row of the call's own, that is nobody's from then on. -/
def appO (P : Program) (sl : List V) (H : List E2) (s x : Operand) (t : TypeId) (k : V → List E2 → Tree R) : Tree R :=
  match frzAll (ownIds (opV sl x)) ⟨[opV sl s, opV sl x], H⟩ with
  | ⟨[s', x'], H1⟩ => if s'.plain = true ∧ x'.plain = true then appendK P H1 t s' x' k else .fail
  | _ => .fail
theorem appO_ok {P : Program} {sl : List V} {H : List E2} {o : Oper} {s x : Operand} {t : TypeId} {k : V → List E2 → Tree R} {res : R} (hne : s ≠ x) (ho : o.op = .call ⟨.builtin .append, #[s, x], #[t, t]⟩) (h : (appO P sl H s x t k).run = some res) :
    ∃ r H', (k r H').run = some res ∧ ∀ (n0 : Nat) (Bx : List Nat) (w : World) (B : List Nat) (η : List Value) (ρv : Operand → Value), (∀ f, ρv (.func f) = .func (.func f) #[] #[]) → Inv n0 Bx w B η (H.map exE) → (∀ x ∈ o.op.operands, Rel2 w B η (opV sl x) (ρv x) ∧ FreshV n0 (ex (opV sl x)) (ρv x)) → OpS2 P n0 Bx w ρv o B η r H' := by
  classical
  unfold appO at h
  split at h
  · rename_i s' x' H1 hst
    split at h
    · rename_i hpl
      obtain ⟨hp1, hp2⟩ := hpl
      obtain ⟨ρ', hρ⟩ : ∃ ρ' : Operand → V, ρ' = fun y => if y = s then s' else if y = x then x' else .any := ⟨_, rfl⟩
      have e1 : ρ' s = s' := by rw [hρ]; simp
      have e2 : ρ' x = x' := by rw [hρ]; simp [Ne.symm hne]
      have hops : ∀ y ∈ o.op.operands, y = s ∨ y = x := fun y hy => by
        rw [ho] at hy
        simpa [Op.operands, Call.operands] using hy
      have hp : Plain ρ' o := fun y hy => by
        rcases hops y hy with rfl | rfl
        · rw [e1]; exact hp1
        · rw [e2]; exact hp2
      obtain ⟨r, H', h1, h2⟩ := appendK_ok (ρ := ρ') hp ho (by rw [e1, e2]; exact h)
      refine ⟨r, H', h1, fun n0 Bx w B η ρv hfv inv he N hN => ?_⟩
      have hs : SimK n0 Bx [] ⟨[opV sl s, opV sl x], H⟩ { tmps := #[ρv s, ρv x], defers := [] } w B η := by
        have q1 := he s (by simp [ho, Op.operands, Call.operands])
        have q2 := he x (by simp [ho, Op.operands, Call.operands])
        refine ⟨rfl, inv, ⟨rfl, fun t => ?_, fun t => ?_⟩⟩
        · match t with
          | 0 => exact q1.1
          | 1 => exact q2.1
          | _ + 2 => trivial
        · match t with
          | 0 => exact q1.2
          | 1 => exact q2.2
          | _ + 2 => exact fun hc => by cases hc
      obtain ⟨B1, hs1, hg1⟩ := frzAll_ok (m0 := 0) (ownIds (opV sl x)) _ B hs
      rw [hst] at hs1
      have he' : ∀ y ∈ o.op.operands, Rel2 w B1 η (ρ' y) (ρv y) ∧ FreshV n0 (ex (ρ' y)) (ρv y) := fun y hy => by
        rcases hops y hy with rfl | rfl
        · rw [e1]; exact ⟨hs1.slots.rel 0, hs1.slots.fresh 0⟩
        · rw [e2]; exact ⟨hs1.slots.rel 1, hs1.slots.fresh 1⟩
      exact h2 n0 Bx w B1 η ρv hs1.inv he' N (fun v w' B' η' g1 g2 g3 g4 g5 g6 g7 => hN v w' B' η' (hg1.on.trans g1 (fun b hb => hg1.hB b hb)) (fun b hb => (g2 b hb).elim (fun h => hg1.hB b h) .inr) g3 g4 g5 g6 g7)
    · cases h
  · cases h
/-- One operation, where calls are run in place. -/
def evI (P : Program) (Γ : Env R) (C : CallI R) (mv : Bool × Bool) (st : S2) (o : Op) (k : V → List E2 → Tree R) : Tree R :=
  match o with
  | .call ⟨.value (.func f), args, ts⟩ => if Γ.inl f = true then C f (args.toList.map (opV st.slots)) st.heap k else if Γ.scl f = true ∧ mv.1 = true then callS Γ f (args.toList.map (opV st.slots)) st.heap k else callF Γ f (args.toList.map (opV st.slots)) st.heap k
  | .call ⟨.value (.tmp t), args, _⟩ => (match st.slots.getD t .any with
    | .clo f caps => if Γ.inl f = true then C f (args.toList.map (opV st.slots) ++ caps) st.heap k
      else if caps.isEmpty = true ∧ args.toList.all (fun x => immV2 (opV st.slots x)) = true then Γ.fns f (args.toList.map fun x => argV (opV st.slots x)) fun r => k r st.heap else .fail
    | _ => .fail)
  | .call ⟨.builtin .append, ⟨[s, x]⟩, ⟨[t, t']⟩⟩ => (match opV st.slots x with
    | .own _ => if neB s x = true ∧ t = t' then appO P st.slots st.heap s x t k else .fail
    | _ => evS2 P Γ.fns mv st.heap (opV st.slots) (.call ⟨.builtin .append, ⟨[s, x]⟩, ⟨[t, t']⟩⟩) k)
  | o => evS2 P Γ.fns mv st.heap (opV st.slots) o k
theorem evI_okC {P : Program} {Γ : Env R} (hF : FnsOK P Γ.fns) {C : CallI R} (hC : CallIOK P C) {mv : Bool × Bool} {st : S2} {o : Oper} {k : V → List E2 → Tree R} {res : R} (h : (evI P Γ C mv st o.op k).run = some res) :
    ∃ r H', (k r H').run = some res ∧ ∀ (n0 : Nat) (Bx : List Nat) (w : World) (B : List Nat) (η : List Value) (ρv : Operand → Value), (∀ f, ρv (.func f) = .func (.func f) #[] #[]) → Inv n0 Bx w B η (st.heap.map exE) → (∀ x ∈ o.op.operands, Rel2 w B η (opV st.slots x) (ρv x) ∧ FreshV n0 (ex (opV st.slots x)) (ρv x)) → OpS2 P n0 Bx w ρv o B η r H' := by
  have call : ∀ (f : FuncId) (args : List V) (fv : Operand) (ops : Array Operand) (ts : Array TypeId) (r : V) (H' : List E2), o.op = .call ⟨.value fv, ops, ts⟩ → (∃ fn, P.funcs[f]? = some fn ∧ fn.name ≠ "runtime.NumGoroutine" ∧ fn.body ≠ none) →
      (∀ (n0 : Nat) (Bx : List Nat) (w : World) (B : List Nat) (η : List Value) (cargs : List Value), Inv n0 Bx w B η (st.heap.map exE) → RelVs n0 w B η args cargs →
      Calls P f cargs.toArray w fun e w' => ∃ v B' η', e = .returned v ∧ Goes n0 st.heap.length w B η w' B' η' ∧ Inv n0 Bx w' B' η' (H'.map exE) ∧ Rel2 w' B' η' r v ∧ FreshV n0 (ex r) v) →
      (∀ (n0 : Nat) (w : World) (B : List Nat) (η : List Value) (ρv : Operand → Value), (∀ f, ρv (.func f) = .func (.func f) #[] #[]) → (∀ x ∈ o.op.operands, Rel2 w B η (opV st.slots x) (ρv x) ∧ FreshV n0 (ex (opV st.slots x)) (ρv x)) → ∃ (cargs : List Value) (a1 cap : Array Value), RelVs n0 w B η args cargs ∧ (resolve ρv ⟨.value fv, ops, ts⟩ o.type).run P w = .ok { target := .fn (.func f) cap, args := a1 } w ∧ a1 ++ cap = cargs.toArray) →
      ∀ (n0 : Nat) (Bx : List Nat) (w : World) (B : List Nat) (η : List Value) (ρv : Operand → Value), (∀ f, ρv (.func f) = .func (.func f) #[] #[]) → Inv n0 Bx w B η (st.heap.map exE) → (∀ x ∈ o.op.operands, Rel2 w B η (opV st.slots x) (ρv x) ∧ FreshV n0 (ex (opV st.slots x)) (ρv x)) → OpS2 P n0 Bx w ρv o B η r H' := by
    intro f args fv ops ts r H' ho hfn hcalls hargs n0 Bx w B η ρv hfv inv he N hN
    obtain ⟨fn, f1, f2, f3⟩ := hfn
    obtain ⟨cargs, a1, cap, hrel, hres, hcat⟩ := hargs n0 w B η ρv hfv he
    have hcall := hcalls n0 Bx w B η cargs inv hrel
    unfold Oper.val
    have hrun : (execOp ρv o).run P w = .ok (.enter f cargs.toArray) w := by
      simp only [execOp, ho, Sem.run_bind, hres, Result.andThen_ok, invoke, callFunc, hcat]
      simp [Sem.run_bind, f1, f2, f3]
    rw [hrun]
    refine hcall.mono fun e w' ⟨v, B', η', g1, g2, g3, g4, g5⟩ => ⟨v, g1, hN v w' B' η' g2.on g2.hB (fun id v hv => g2.hη id v ?_ hv) g2.below g3 g4 g5⟩
    have := (List.getElem?_eq_some_iff.1 hv).1
    rw [inv.len] at this
    simpa using this
  obtain ⟨op, ho⟩ : ∃ op, o.op = op := ⟨_, rfl⟩
  rw [ho] at h
  unfold evI at h
  split at h
  · rename_i f args ts
    split at h
    · obtain ⟨r, H', h1, h2, h3⟩ := hC.ok _ _ _ _ _ h
      refine ⟨r, H', h1, call f _ _ _ _ r H' ho h2 h3 fun n0 w B η ρv hfv he => ⟨args.toList.map ρv, args.map ρv, #[], ⟨by simp, fun i x hx => ?_⟩, ?_, ?_⟩⟩
      · rw [List.getElem?_map, Option.map_eq_some_iff] at hx
        obtain ⟨y, hy, rfl⟩ := hx
        have hm := List.mem_of_getElem? hy
        exact ⟨ρv y, by rw [List.getElem?_map, hy]; rfl, he y (by simp [ho, Op.operands, Call.operands]; exact .inr (by simpa using hm))⟩
      · simp [resolve, Deferred.ofValue, hfv]
      · apply Array.ext'; simp
    · split at h
      · exact callS_ok hF ho h
      · exact callF_ok hF ho h
  · rename_i t args ts
    split at h
    · rename_i f caps hcl
      split at h
      · obtain ⟨r, H', h1, h2, h3⟩ := hC.ok _ _ _ _ _ h
        refine ⟨r, H', h1, call f _ _ _ _ r H' ho h2 h3 fun n0 w B η ρv hfv he => ?_⟩
        have hv := (he (.tmp t) (by simp [ho, Op.operands, Call.operands])).1
        simp only [opV] at hv
        rw [hcl] at hv
        obtain ⟨vs, e1, e2, e3⟩ := hv
        refine ⟨args.toList.map ρv ++ vs, args.map ρv, vs.toArray, ⟨by simp [e2], fun i x hx => ?_⟩, ?_, ?_⟩
        · rw [List.getElem?_append] at hx ⊢
          simp only [List.length_map] at hx ⊢
          split at hx
          · rename_i hi
            rw [if_pos hi]
            rw [List.getElem?_map, Option.map_eq_some_iff] at hx
            obtain ⟨y, hy, rfl⟩ := hx
            have hm := List.mem_of_getElem? hy
            exact ⟨ρv y, by rw [List.getElem?_map, hy]; rfl, he y (by simp [ho, Op.operands, Call.operands]; exact .inr (by simpa using hm))⟩
          · rename_i hi
            rw [if_neg hi]
            obtain ⟨u, g1, g2, g3⟩ := e3 _ _ hx
            refine ⟨u, g1, Rel2.of (V.cap_plain g2) g3, fun hfr => ?_⟩
            obtain ⟨d, l, rfl⟩ := exFresh hfr
            cases g2
        · have hev : ρv (.tmp t) = .func (.func f) #[] vs.toArray := e1
          simp [resolve, Deferred.ofValue, hev]
        · apply Array.ext'; simp
      · split at h
        · rename_i hc
          obtain ⟨hcap, himm⟩ := hc
          have hcap : caps = [] := by simpa using hcap
          subst hcap
          obtain ⟨r, h1, h2, h3, h4⟩ := hF.ok _ _ _ _ h
          refine ⟨r, st.heap, h1, fun n0 Bx w B η ρv hfv inv he N hN => ?_⟩
          have hv := (he (.tmp t) (by simp [ho, Op.operands, Call.operands])).1
          simp only [opV] at hv
          rw [hcl] at hv
          obtain ⟨vs, e1, e2, e3⟩ := hv
          have hvs : vs = [] := List.eq_nil_of_length_eq_zero e2
          subst hvs
          have hev : ρv (.tmp t) = .func (.func f) #[] #[] := e1
          have hcall := h4 w B (args.toList.map ρv) inv.lt inv.base.2 (by simp) (fun i x hx => by
            rw [List.getElem?_map, Option.map_eq_some_iff] at hx
            obtain ⟨y, hy, rfl⟩ := hx
            have hm := List.mem_of_getElem? hy
            have hi := List.all_eq_true.1 himm y hm
            exact ⟨ρv y, by rw [List.getElem?_map, hy]; rfl, immV_arg hi ((he y (by simp [ho, Op.operands, Call.operands]; exact .inr (by simpa using hm))).1.get (immV2_plain hi))⟩) N (fun v w' g2 g3 => hN v w' B η (On.gr g2) (fun _ h => .inl h) (fun _ _ h => h) (g2.mono inv.base.1) (inv.gr g2) (Rel2.of h2 g3.any) (fun hfr => by generalize ex r = y at h3 hfr; cases y <;> first | exact absurd rfl (h3 _ _) | cases hfr))
          have hargs : (args.toList.map ρv).toArray = args.map ρv := by apply Array.ext'; simp
          rw [hargs] at hcall
          exact val_of_enters ho hev hcall
        · cases h
    · cases h
  · split at h
    · split at h
      · rename_i hc
        obtain ⟨hne, rfl⟩ := hc
        exact appO_ok (neB_ne hne) ho h
      · cases h
    · obtain ⟨r, H', h1, h2⟩ := evS2_ok (o := o) hF (by rw [ho]; exact h)
      exact ⟨r, H', h1, h2⟩
  · obtain ⟨r, H', h1, h2⟩ := evS2_ok (o := o) hF (by rw [ho]; exact h)
    exact ⟨r, H', h1, h2⟩
theorem evI_ok {P : Program} {Γ : Env R} (hF : FnsOK P Γ.fns) {C : CallI R} (hC : CallIOK P C) {mv : Bool × Bool} {st : S2} {o : Oper} {k : V → List E2 → Tree R} {res : R} (h : (evI P Γ C mv st o.op k).run = some res) :
    ∃ r H', (k r H').run = some res ∧ ∀ (n0 : Nat) (Bx : List Nat) (ds : List Deferred) (a : Act) (w : World) (B : List Nat) (η : List Value), SimK n0 Bx ds st a w B η → OpS2 P n0 Bx w a.eval o B η r H' := by
  obtain ⟨r, H', h1, h2⟩ := evI_okC hF hC h
  exact ⟨r, H', h1, fun n0 Bx ds a w B η hs => h2 n0 Bx w B η a.eval (fun f => rfl) hs.inv (fun x _ => opV_rel hs.slots hs.inv.base.2 x)⟩
end
end Go.Proofs.YtfaocnboildjbaaDoor
/-
  Regions that draw: some operations write, one behind the other, and others look at nothing that these write: in every order they come to one end.
-/
namespace Go.Proofs.YtfaocnboildjbaaDoor
set_option maxRecDepth 100000
open Go.RowKit
set_option linter.unusedVariables false
set_option linter.unusedSimpArgs false

section
variable {P : Program} {ops : Array Oper}
theorem wpAny_inv {Q : Exit → Act → World → Prop} (I : Array Bool → Act → World → Prop) (hback : backB ops = true)
    (hstep : ∀ (listed : Array Bool) (a : Act) (w : World) (j : Nat), HeadInv .any ops ops.size listed → I listed a w → j ∈ Region.ready .any ops listed → ∀ K : Act → World → Prop, (∀ a' w', I (listed.setIfInBounds j true) a' w' → K a' w') → wpOp P ops Q j K a w)
    (hend : ∀ (listed : Array Bool) (a : Act) (w : World), HeadInv .any ops ops.size listed → (∀ i, i < ops.size → listed.getD i false = true) → I listed a w → Q .normal a w) :
    ∀ (f : Nat) (listed : Array Bool) (a : Act) (w : World), ((List.range ops.size).filter fun i => !listed.getD i false).length = f → HeadInv .any ops ops.size listed → I listed a w → wpAny P .any ops Q f listed a w
  | 0, listed, a, w, hf, hi, inv => by
    have hall : ∀ i, i < ops.size → listed.getD i false = true := fun i hin => by
      cases hl : listed.getD i false with
      | true => rfl
      | false =>
        have : i ∈ (List.range ops.size).filter fun i => !listed.getD i false := List.mem_filter.2 ⟨List.mem_range.2 hin, by rw [hl]; rfl⟩
        rw [List.length_eq_zero_iff.1 hf] at this; cases this
    refine ⟨?_, hend listed a w hi hall inv⟩
    cases hr : Region.ready .any ops listed with
    | nil => rfl
    | cons j l =>
      have hj : j ∈ Region.ready .any ops listed := by rw [hr]; exact List.mem_cons_self
      obtain ⟨h1, o, ho, _⟩ := mem_ready.1 hj
      have hjs := (Array.getElem?_eq_some_iff.1 ho).1
      have := hall j hjs
      have hjl : j < listed.size := by rw [hi.size]; exact hjs
      simp [hjl] at this h1
      rw [this] at h1; cases h1
  | f + 1, listed, a, w, hf, hi, inv => by
    have hex : ∃ i, i < ops.size ∧ listed.getD i false = false := by
      cases hfil : (List.range ops.size).filter fun i => !listed.getD i false with
      | nil => rw [hfil] at hf; cases hf
      | cons x xs =>
        have : x ∈ (List.range ops.size).filter fun i => !listed.getD i false := by rw [hfil]; exact List.mem_cons_self
        obtain ⟨h1, h2⟩ := List.mem_filter.1 this
        exact ⟨x, List.mem_range.1 h1, by simpa using h2⟩
    have hready : ∃ i, i ∈ Region.ready .any ops listed := by
      obtain ⟨i0, hin0, hun0⟩ := hex
      revert hin0 hun0
      refine Nat.strongRecOn i0 fun i ih his hun => ?_
      by_cases hall : ∀ e ∈ ops[i].after, Region.binds .any e = true → listed.getD e.on false = true
      · refine ⟨i, mem_ready.2 ⟨?_, ops[i], Array.getElem?_eq_getElem his, hall⟩⟩
        have hil : i < listed.size := by rw [hi.size]; exact his
        simp [hil] at hun ⊢; exact hun
      · have : ∃ e ∈ ops[i].after, Region.binds .any e = true ∧ listed.getD e.on false = false := by
          apply Classical.byContradiction
          intro hc
          apply hall
          intro e he hb
          cases hl : listed.getD e.on false with
          | true => rfl
          | false => exact absurd ⟨e, he, hb, hl⟩ hc
        obtain ⟨e, he, hb, hl⟩ := this
        have h1 := List.all_eq_true.1 hback i (List.mem_range.2 his)
        simp only [Array.getElem?_eq_getElem his] at h1
        have h2 := Array.all_eq_true_iff_forall_mem.1 h1 e he
        simp only [hb, Bool.not_true, Bool.false_or, decide_eq_true_eq] at h2
        exact ih e.on h2 (by omega) hl
    refine ⟨fun h0 => by obtain ⟨i, hi2⟩ := hready; rw [h0] at hi2; exact (List.not_mem_nil hi2).elim, fun j hj => ?_⟩
    have hjs : j < ops.size := by obtain ⟨_, o, ho, _⟩ := mem_ready.1 hj; exact (Array.getElem?_eq_some_iff.1 ho).1
    refine hstep listed a w j hi inv hj _ fun a' w' inv' => wpAny_inv I hback hstep hend f _ a' w' ?_ (hi.set hj hjs) inv'
    have hjl : j < listed.size := by rw [hi.size]; omega
    have hjun : listed.getD j false = false := by
      have := (mem_ready.1 hj).1
      simp [hjl] at this ⊢; exact this
    have : ∀ (l : List Nat), l.Nodup → j ∈ l → (l.filter fun i => !(listed.setIfInBounds j true).getD i false).length + 1 = (l.filter fun i => !listed.getD i false).length := by
      intro l
      induction l with
      | nil => intro _ h; cases h
      | cons x l ih =>
        intro hnd hm
        obtain ⟨hx, hnd'⟩ := List.nodup_cons.1 hnd
        rcases List.mem_cons.1 hm with rfl | hm'
        · have e1 : (listed.setIfInBounds j true).getD j false = true := by simp [hjl]
          have e2 : (l.filter fun i => !(listed.setIfInBounds j true).getD i false) = l.filter fun i => !listed.getD i false :=
            List.filter_congr fun i hi' => by rw [getD_set_ne false (fun e => hx (by rw [e]; exact hi'))]
          rw [List.filter_cons_of_neg (by rw [e1]; simp), List.filter_cons_of_pos (by rw [hjun]; rfl), e2, List.length_cons]
        · have hne : j ≠ x := fun e => hx (by rw [← e]; exact hm')
          have ih' := ih hnd' hm'
          by_cases hlx : listed.getD x false = true
          · rw [List.filter_cons_of_neg (by rw [getD_set_ne false hne, hlx]; simp), List.filter_cons_of_neg (by rw [hlx]; simp)]; exact ih'
          · have hlx' : listed.getD x false = false := by simpa using hlx
            rw [List.filter_cons_of_pos (by rw [getD_set_ne false hne, hlx']; rfl), List.filter_cons_of_pos (by rw [hlx']; rfl), List.length_cons, List.length_cons]; omega
    have h := this (List.range ops.size) List.nodup_range (List.mem_range.2 hjs)
    omega
end
/-- It speaks of no block of the call's own. -/
def bareV : V → Bool
  | .any => true
  | .agg l => l.all immV
  | .tup l => l.all immV2
  | .fre _ _ => true
  | .adr _ => true
  | .clo _ l => l.isEmpty
  | x => immV x
theorem imm2_ex0 {x : V} (h : immV2 x = true) : (unf (ex0 x)).imm = true := by
  cases x with
  | agg l => exact immV_ok l h
  | arr d n a => exact flat_imm d a.l
  | _ => first | rfl | cases h
theorem Rel.bare2 {w : World} {B : List Nat} {η η' : List Value} {x : AV} {v : Value} (h : Rel w B η x v) (hi : (Go.Proofs.YtfaocnboildjbaaDoor.unf x).imm = true) : Rel w B η' x v := by
  cases h with
  | fresh _ l k A n us hk hn h0 hm hA hr => exact .fresh _ l k A n us hk hn h0 hm hA hr
  | c => exact .c _ _
  | sl _ l k A n c us hk hn hc hm hA hr => exact .sl _ l k A n c us hk hn hc hm hA hr
  | adr _ l ad us ha hr => exact .adr _ l ad us ha hr
  | emp _ A => exact .emp _ A
  | nn _ t v => exact .nn _ t v
  | agg _ l cs us hs hu hr => exact Rel.bare (.agg _ l cs us hs hu hr) hi
  | tup _ l cs us hs hu hr => exact Rel.bare (.tup _ l cs us hs hu hr) hi
  | _ => cases hi
theorem bareV_rel {w : World} {B : List Nat} {η η' : List Value} {x : V} {v : Value} (hb : bareV x = true) (h : Rel2 w B η x v) : Rel2 w B η' x v := by
  cases x with
  | any => trivial
  | agg l => exact Rel.bare h (immV_ok l hb)
  | arr d n a => exact Rel.bare h (flat_imm d a.l)
  | tup l =>
    have hr0 : Rel w B η (.tup (l.map ex0)) v := h
    cases hr0 with
    | tup _ _ cs us hs hu hr =>
      refine Rel.tup _ _ cs us hs hu (fun i y hy => (hr i y hy).bare2 ?_)
      rw [List.getElem?_map, Option.map_eq_some_iff] at hy
      obtain ⟨z, hz, rfl⟩ := hy
      exact imm2_ex0 (List.all_eq_true.1 hb z (List.mem_of_getElem? hz))
  | fre d l =>
    have hr0 : Rel w B η (.fresh (flat d l) (wd d)) v := h
    exact hr0.bare2 (η' := η') rfl
  | adr l =>
    have hr0 : Rel w B η (.adr (segsA l)) v := h
    exact hr0.bare2 (η' := η') rfl
  | c v0 => exact Rel.bare h rfl
  | str s => exact Rel.bare h rfl
  | lst d l => exact Rel.bare h rfl
  | emp => exact Rel.bare h rfl
  | nn => exact Rel.bare h rfl
  | clo f l =>
    have hl : l = [] := List.isEmpty_iff.1 hb
    subst hl
    obtain ⟨vs, h1, h2, h3⟩ := h
    exact ⟨vs, h1, h2, fun i c hc => by simp at hc⟩
  | _ => cases hb
/-- It writes. -/
def writesI (inl : FuncId → Bool) : Op → Bool
  | .store _ _ _ => true
  | .box _ _ => true
  | .alloc _ => true
  | .call c => match c.callee with
    | .builtin .append => true
    | .builtin .copy => true
    | .value (.func f) => inl f
    | .value (.tmp _) => true
    | _ => false
  | _ => false
/-- Which operations write nothing, and look at nothing that one which writes has made. -/
def frontsOf (inl : FuncId → Bool) (ops : Array Oper) : List Oper → List (Option Tmp × Bool) → List Bool
  | [], _ => []
  | o :: rest, acc =>
    let f := !writesI inl o.op && (o.looksAt ops).all fun t => acc.all fun p => p.2 || p.1 != some t
    f :: frontsOf inl ops rest (acc ++ [(o.dst, f)])
section
variable {R : Type}
def forceL : List V → (List V → Tree R) → Tree R
  | [], k => k []
  | x :: l, k => forceL l fun m => k (x :: m)
theorem forceL_eq : ∀ (l : List V) (k : List V → Tree R), forceL l k = k l
  | [], k => rfl
  | x :: l, k => by rw [forceL, forceL_eq l]
/-- The operations, numbered: those in front, the others. -/
def flR (k : Nat) : List Oper → List Bool → List (Nat × Oper)
  | o :: l, b :: fs => if b = true then (k, o) :: flR (k + 1) l fs else flR (k + 1) l fs
  | _, _ => []
def clR (k : Nat) : List Oper → List Bool → List (Nat × Oper)
  | o :: l, b :: fs => if b = true then clR (k + 1) l fs else (k, o) :: clR (k + 1) l fs
  | _, _ => []
theorem flR_mem : ∀ (l : List Oper) (fs : List Bool) (k j : Nat) (o : Oper), (j, o) ∈ flR k l fs ↔ k ≤ j ∧ l[j - k]? = some o ∧ fs[j - k]? = some true
  | [], fs, k, j, o => by cases fs <;> simp [flR]
  | _ :: _, [], k, j, o => by simp [flR]
  | p :: l, b :: fs, k, j, o => by
    have ih := flR_mem l fs (k + 1) j o
    have key : k + 1 ≤ j ∧ l[j - (k + 1)]? = some o ∧ fs[j - (k + 1)]? = some true ↔ k < j ∧ (p :: l)[j - k]? = some o ∧ (b :: fs)[j - k]? = some true := by
      constructor
      · rintro ⟨h1, h2, h3⟩
        rw [show j - k = (j - (k + 1)) + 1 by omega]
        exact ⟨by omega, by simpa using h2, by simpa using h3⟩
      · rintro ⟨h1, h2, h3⟩
        rw [show j - k = (j - (k + 1)) + 1 by omega] at h2 h3
        exact ⟨by omega, by simpa using h2, by simpa using h3⟩
    unfold flR
    cases b with
    | true =>
      simp only [if_true, List.mem_cons, ih, key]
      constructor
      · rintro (h | ⟨h1, h2, h3⟩)
        · injection h with h1 h2; subst h1 h2; simp
        · exact ⟨by omega, h2, h3⟩
      · rintro ⟨h1, h2, h3⟩
        rcases Nat.lt_or_ge k j with h | h
        · exact .inr ⟨h, h2, h3⟩
        · have : j = k := by omega
          subst this
          simp at h2
          exact .inl (by rw [h2])
    | false =>
      simp only [Bool.false_eq_true, if_false, ih, key]
      constructor
      · rintro ⟨h1, h2, h3⟩; exact ⟨by omega, h2, h3⟩
      · rintro ⟨h1, h2, h3⟩
        rcases Nat.lt_or_ge k j with h | h
        · exact ⟨h, h2, h3⟩
        · have : j = k := by omega
          subst this
          simp at h3
theorem clR_mem : ∀ (l : List Oper) (fs : List Bool) (k j : Nat) (o : Oper), (j, o) ∈ clR k l fs ↔ k ≤ j ∧ l[j - k]? = some o ∧ fs[j - k]? = some false
  | [], fs, k, j, o => by cases fs <;> simp [clR]
  | _ :: _, [], k, j, o => by simp [clR]
  | p :: l, b :: fs, k, j, o => by
    have ih := clR_mem l fs (k + 1) j o
    have key : k + 1 ≤ j ∧ l[j - (k + 1)]? = some o ∧ fs[j - (k + 1)]? = some false ↔ k < j ∧ (p :: l)[j - k]? = some o ∧ (b :: fs)[j - k]? = some false := by
      constructor
      · rintro ⟨h1, h2, h3⟩
        rw [show j - k = (j - (k + 1)) + 1 by omega]
        exact ⟨by omega, by simpa using h2, by simpa using h3⟩
      · rintro ⟨h1, h2, h3⟩
        rw [show j - k = (j - (k + 1)) + 1 by omega] at h2 h3
        exact ⟨by omega, by simpa using h2, by simpa using h3⟩
    unfold clR
    cases b with
    | false =>
      simp only [Bool.false_eq_true, if_false, List.mem_cons, ih, key]
      constructor
      · rintro (h | ⟨h1, h2, h3⟩)
        · injection h with h1 h2; subst h1 h2; simp
        · exact ⟨by omega, h2, h3⟩
      · rintro ⟨h1, h2, h3⟩
        rcases Nat.lt_or_ge k j with h | h
        · exact .inr ⟨h, h2, h3⟩
        · have : j = k := by omega
          subst this
          simp at h2
          exact .inl (by rw [h2])
    | true =>
      simp only [if_true, ih, key]
      constructor
      · rintro ⟨h1, h2, h3⟩; exact ⟨by omega, h2, h3⟩
      · rintro ⟨h1, h2, h3⟩
        rcases Nat.lt_or_ge k j with h | h
        · exact ⟨h, h2, h3⟩
        · have : j = k := by omega
          subst this
          simp at h3
theorem flR_pair : ∀ (l : List Oper) (fs : List Bool) (k : Nat), (flR k l fs).Pairwise fun p q => p.1 < q.1
  | [], fs, k => by cases fs <;> simp [flR]
  | _ :: _, [], k => by simp [flR]
  | p :: l, b :: fs, k => by
    unfold flR
    split
    · exact List.pairwise_cons.2 ⟨fun q hq => by have := (flR_mem l fs (k + 1) q.1 q.2).1 hq; show k < q.1; omega, flR_pair l fs (k + 1)⟩
    · exact flR_pair l fs (k + 1)
theorem clR_pair : ∀ (l : List Oper) (fs : List Bool) (k : Nat), (clR k l fs).Pairwise fun p q => p.1 < q.1
  | [], fs, k => by cases fs <;> simp [clR]
  | _ :: _, [], k => by simp [clR]
  | p :: l, b :: fs, k => by
    unfold clR
    split
    · exact clR_pair l fs (k + 1)
    · exact List.pairwise_cons.2 ⟨fun q hq => by have := (clR_mem l fs (k + 1) q.1 q.2).1 hq; show k < q.1; omega, clR_pair l fs (k + 1)⟩
/-- All that writes waits for it. -/
def modeA (ops : Array Oper) (cl : List (Nat × Oper)) (j : Nat) : Bool := match cl with
  | [] => true
  | (c, _) :: _ => ancB ops ops.size c j
def bareOps (ρ : Operand → V) (o : Op) : Bool := o.operands.all fun x => bareV (ρ x)
/-- Does what writes make boxes of its own, and fill these alone? -/
def ownSt (cl : List (Nat × Oper)) : Bool := cl.all fun p => match p.2.op with
  | .alloc _ => true
  | .store _ (.tmp t) _ => cl.any fun q => q.2.dst == some t && (match q.2.op with | .alloc _ => true | _ => false)
  | _ => false
def lowN (cl : List (Nat × Oper)) (H : List E2) : Nat := if ownSt cl = true then H.length else 0
/-- The boxes that speak of no block of the call's own. -/
def maskE : E2 → E2
  | .box l T => if l.all immV = true then .box l T else .dead
  | _ => .dead
def lowV (n : Nat) : V → Bool
  | .box id _ => decide (id < n)
  | .boxi id _ _ _ _ _ => decide (id < n)
  | x => bareV x
def lowOps (n : Nat) (ρ : Operand → V) (o : Op) : Bool := o.operands.all fun x => lowV n (ρ x)
/-- Does it leave the first entries as they are? -/
def keepB (n : Nat) (H : List E2) (ρ : Operand → V) (o : Op) : Bool := n == 0 || (decide (n ≤ H.length) && match o with
  | .alloc _ => true
  | .store _ a _ => (match ρ a with | .box id _ => decide (n ≤ id) | .boxi id _ _ _ _ _ => decide (n ≤ id) | _ => false)
  | _ => false)
def lowEq (n : Nat) (H H' : List E2) : Prop := ∀ i, i < n → H'[i]? = H[i]?
open Classical in
theorem evS2_low {P : Program} {F : Fns R} {mv : Bool × Bool} {n : Nat} {H : List E2} {ρ : Operand → V} {o : Op} {k : V → List E2 → Tree R} (h : keepB n H ρ o = true) :
    evS2 P F mv H ρ o k = evS2 P F mv H ρ o fun r H' => if lowEq n H H' then k r H' else .fail := by
  unfold keepB at h
  rcases Nat.eq_zero_or_pos n with rfl | hn
  · have : (fun r H' => if lowEq 0 H H' then k r H' else .fail) = k := by
      funext r H'
      rw [if_pos (show lowEq 0 H H' from fun i hi => absurd hi (Nat.not_lt_zero i))]
    rw [this]
  · have hz : (n == 0) = false := by simp; omega
    rw [hz, Bool.false_or, Bool.and_eq_true, decide_eq_true_eq] at h
    obtain ⟨hl, h⟩ := h
    split at h
    · have hp : ∀ e, lowEq n H (H ++ [e]) := fun e i hi => by rw [List.getElem?_append_left (by omega)]
      simp only [evS2, evW2, allocK]
      cases zeroP P _ with
      | none => rfl
      | some v => simp only [hp, if_true]
    · rename_i t a x
      have hp : ∀ id e, n ≤ id → lowEq n H (H.set id e) := fun id e hid i hi => by rw [List.getElem?_set_ne (by omega)]
      simp only [evS2, evW2, storeK]
      split at h
      · rename_i id off he
        have hid : n ≤ id := by simpa using h
        simp only [he, hp _ _ hid, if_true]
      · rename_i id off d m i oo he
        have hid : n ≤ id := by simpa using h
        simp only [he, hp _ _ hid, if_true]
      · cases h
    · cases h
open Classical in
theorem evI_low {P : Program} {Γ : Env R} {C : CallI R} {mv : Bool × Bool} {n : Nat} {H : List E2} {sl : List V} {o : Op} {k : V → List E2 → Tree R} (h : keepB n H (opV sl) o = true) :
    evI P Γ C mv ⟨sl, H⟩ o k = evI P Γ C mv ⟨sl, H⟩ o fun r H' => if lowEq n H H' then k r H' else .fail := by
  rcases Nat.eq_zero_or_pos n with rfl | hn
  · have : (fun r H' => if lowEq 0 H H' then k r H' else .fail) = k := by
      funext r H'
      rw [if_pos (show lowEq 0 H H' from fun i hi => absurd hi (Nat.not_lt_zero i))]
    rw [this]
  · have h' := h
    unfold keepB at h'
    have hz : (n == 0) = false := by simp; omega
    rw [hz, Bool.false_or, Bool.and_eq_true, decide_eq_true_eq] at h'
    obtain ⟨hl, h'⟩ := h'
    split at h'
    · exact evS2_low (F := Γ.fns) (mv := mv) h
    · exact evS2_low (F := Γ.fns) (mv := mv) h
    · cases h'
/-- Without what stands in these entries. -/
def maskW (W : List Nat) : Nat → List E2 → List E2
  | _, [] => []
  | i, e :: H => (if W.contains i = true then .dead else e) :: maskW W (i + 1) H
theorem maskW_get (W : List Nat) : ∀ (H : List E2) (k i : Nat), (maskW W k H)[i]? = (H[i]?).map fun e => if W.contains (k + i) = true then .dead else e
  | [], k, i => by simp [maskW]
  | e :: H, k, 0 => by simp [maskW]
  | e :: H, k, i + 1 => by
    rw [maskW, List.getElem?_cons_succ, maskW_get W H (k + 1) i, List.getElem?_cons_succ]
    rw [show k + 1 + i = k + (i + 1) by omega]
theorem maskW_length (W : List Nat) : ∀ (H : List E2) (k : Nat), (maskW W k H).length = H.length
  | [], k => rfl
  | e :: H, k => by rw [maskW, List.length_cons, maskW_length W H, List.length_cons]
/-- The entry of which an address is, as far as the region's start tells. -/
def baseO (sl : List V) (ops : List Oper) : Nat → Operand → Option Nat
  | 0, _ => none
  | n + 1, a => (match opV sl a with
    | .box id _ => some id
    | .boxi id _ _ _ _ _ => some id
    | _ => (match a with
      | .tmp t => (match ops.find? (fun o => o.dst == some t) with
        | some o => (match o.op with
          | .fieldAddr _ x _ => baseO sl ops n x
          | .indexAddr _ x _ => baseO sl ops n x
          | .move x => baseO sl ops n x
          | _ => none)
        | none => none)
      | _ => none))
/-- The entries that stores fill, where nothing else writes. -/
def wrIds (ops : List Oper) (sl : List V) : List (Nat × Oper) → Option (List Nat)
  | [] => some []
  | (_, o) :: l => match o.op with
    | .store _ a _ => (match baseO sl ops 6 a, wrIds ops sl l with
      | some id, some W => some (id :: W)
      | _, _ => none)
    | _ => none
/-- Does it write these entries alone? -/
def keepW (W : Option (List Nat)) (ρ : Operand → V) (o : Op) : Bool := match W with
  | none => true
  | some W => (match o with
    | .store _ a _ => (match ρ a with | .box id _ => W.contains id | .boxi id _ _ _ _ _ => W.contains id | _ => false)
    | _ => false)
def offEq (W : List Nat) (H H' : List E2) : Prop := H'.length = H.length ∧ ∀ i, W.contains i = false → H'[i]? = H[i]?
def offW (W : Option (List Nat)) (H H' : List E2) : Prop := ∀ W', W = some W' → offEq W' H H'
open Classical in
theorem evI_off {P : Program} {Γ : Env R} {C : CallI R} {mv : Bool × Bool} {W : Option (List Nat)} {H : List E2} {sl : List V} {o : Op} {k : V → List E2 → Tree R} (h : keepW W (opV sl) o = true) :
    evI P Γ C mv ⟨sl, H⟩ o k = evI P Γ C mv ⟨sl, H⟩ o fun r H' => if offW W H H' then k r H' else .fail := by
  cases W with
  | none =>
    have : (fun r H' => if offW none H H' then k r H' else .fail) = k := by
      funext r H'
      rw [if_pos (show offW none H H' from fun W' h => by cases h)]
    rw [this]
  | some W =>
    unfold keepW at h
    simp only at h
    split at h
    · rename_i t a x
      have hp : ∀ id e, W.contains id = true → offW (some W) H (H.set id e) := fun id e hid W' hW => by
        injection hW with hW
        subst hW
        refine ⟨by simp, fun i hi => ?_⟩
        have hne : id ≠ i := fun e => by subst e; rw [hid] at hi; cases hi
        rw [List.getElem?_set_ne hne]
      show evS2 P Γ.fns mv H (opV sl) (.store t a x) k = evS2 P Γ.fns mv H (opV sl) (.store t a x) _
      simp only [evS2, evW2, storeK]
      split at h
      · rename_i id off he
        simp only [he, hp _ _ h, if_true]
      · rename_i id off d m i oo he
        simp only [he, hp _ _ h, if_true]
      · cases h
    · cases h
/-- It reads nothing: an address is counted on; or a whole array, as a slice. -/
def addrB (ρ : Operand → V) : Op → Bool
  | .fieldAddr _ _ _ => true
  | .nilCheck _ => true
  | .move _ => true
  | .assign _ => true
  | .slice _ x none none none => (match ρ x with | .box _ 0 => true | _ => false)
  | .indexAddr _ x _ => (match ρ x with | .box _ _ => true | _ => false)
  | _ => false
/-- An element's address in a box: nothing is read. -/
theorem indexAddrK_okA {P : Program} {H : List E2} {ρ : Operand → V} {o : Oper} {t : TypeId} {x i : Operand} {k : V → Tree R} {res : R} {id off : Nat} (hp : Plain ρ o) (ho : o.op = .indexAddr t x i) (hx : ρ x = .box id off) (h : (indexAddrK P H t (ρ x) (ρ i) k).run = some res) : ∃ r, (k r).run = some res ∧ ∀ H', Does P H' ρ o r := by
  unfold indexAddrK at h
  split at h
  · rw [hx] at h
    simp only [viewL] at h
    cases h
  · rename_i m e kk z hnoel hat hi
    rw [hx] at h
    split at h
    · cases h
    · rename_i hc
      simp only at h
      split at h
      · rename_i l T' hH
        split at h
        · rename_i d n a rr hs
          split at h
          · rename_i hwd
            rcases Tree.run_ite h with ⟨hb, h⟩ | ⟨_, h⟩
            · have hz := of_decide_eq_true hb
              exact ⟨_, h, fun H' n0 Bx w B η ρv inv he => .of rfl (fun _ _ h => by simp [ex, ex0] at h) (indexArr_ok (ρA := fun y => ex (ρ y)) (he_of hp he) ho (arrT_spec hat) (by simp only [hi]; rfl) hz hc (by simp [hx, ex, ex0, addOff, hwd.1]))⟩
            · cases h
          · cases h
        · rcases Tree.run_ite h with ⟨hb, h⟩ | ⟨_, h⟩
          · have hz := of_decide_eq_true hb
            exact ⟨_, h, fun H' n0 Bx w B η ρv inv he => .of rfl (fun _ _ h => by simp [ex, ex0] at h) (indexArr_ok (ρA := fun y => ex (ρ y)) (he_of hp he) ho (arrT_spec hat) (by simp only [hi]; rfl) hz hc (by simp [hx, ex, ex0, addOff]))⟩
          · cases h
      · cases h
  · cases h
def evFr (P : Program) (F : Fns R) (ops : Array Oper) (cl : List (Nat × Oper)) (W : Option (List Nat)) (H : List E2) : List (Nat × Oper) → List V → (List V → Tree R) → Tree R
  | [], sl, k => k sl
  | (j, o) :: rest, sl, k => wantK ops sl o
    (fun sl => if modeA ops cl j = true then evNF P F H (opV sl) o.op fun r => forceL (setV sl o.dst r) fun sl' => evFr P F ops cl W H rest sl' k
      else if bareOps (opV sl) o.op = true then evNF P F [] (opV sl) o.op fun r => forceL (setV sl o.dst r) fun sl' => evFr P F ops cl W H rest sl' k
      else if addrB (opV sl) o.op = true then evNF P F H (opV sl) o.op fun r => forceL (setV sl o.dst r) fun sl' => evFr P F ops cl W H rest sl' k
      else if lowN cl H = H.length ∧ lowOps H.length (opV sl) o.op = true then evNF P F (H.map maskE) (opV sl) o.op fun r => forceL (setV sl o.dst r) fun sl' => evFr P F ops cl W H rest sl' k
      else match W with
        | some W' => evNF P F (maskW W' 0 H) (opV sl) o.op fun r => forceL (setV sl o.dst r) fun sl' => evFr P F ops cl W H rest sl' k
        | none => .fail)
    (fun sl => forceL (setV sl o.dst (.c undef)) fun sl' => evFr P F ops cl W H rest sl' k)
def evChL (P : Program) (Γ : Env R) (C : CallI R) (mv : Bool × Bool) (ops : Array Oper) (n : Nat) (W : Option (List Nat)) : List (Nat × Oper) → S2 → (S2 → Tree R) → Tree R
  | [], st, k => k st
  | (j, o) :: rest, st, k => wantK ops st.slots o
    (fun sl => if keepB n st.heap (opV sl) o.op = true ∧ keepW W (opV sl) o.op = true then evI P Γ C mv ⟨sl, st.heap⟩ o.op fun r H' => forceL (setV sl o.dst r) fun sl' => evChL P Γ C mv ops n W rest ⟨sl', H'⟩ k else .fail)
    (fun sl => forceL (setV sl o.dst (.c undef)) fun sl' => evChL P Γ C mv ops n W rest ⟨sl', st.heap⟩ k)
def evCh (P : Program) (Γ : Env R) (C : CallI R) (mv : Bool × Bool) (ops : Array Oper) (W : Option (List Nat)) (l : List (Nat × Oper)) (st : S2) (k : S2 → Tree R) : Tree R := evChL P Γ C mv ops (lowN l st.heap) W l st k
def Wt (ops : Array Oper) (o : Oper) (sl : List V) (b : Bool) : Prop := ∀ (w : World) (B : List Nat) (η : List Value) (tmps : Array Value), sl.length = tmps.size → (∀ d, guardSlot ops o = some d → Rel2 w B η (sl.getD d .any) (tmps.getD d undef)) → Region.wanted o (yielded ops tmps) = b
def OpsN (P : Program) (H : List E2) (o : Oper) (sl : List V) (r : V) : Prop := ∀ (n0 : Nat) (Bx : List Nat) (w : World) (B : List Nat) (η : List Value) (ρv : Operand → Value), (∀ f, ρv (.func f) = .func (.func f) #[] #[]) → Inv n0 Bx w B η (H.map exE) → (∀ x ∈ o.op.operands, Rel2 w B η (opV sl x) (ρv x) ∧ FreshV n0 (ex (opV sl x)) (ρv x)) → OpK P n0 w ρv o B η r
def OpsC (P : Program) (H : List E2) (o : Oper) (sl : List V) (r : V) (H' : List E2) : Prop := ∀ (n0 : Nat) (Bx : List Nat) (w : World) (B : List Nat) (η : List Value) (ρv : Operand → Value), (∀ f, ρv (.func f) = .func (.func f) #[] #[]) → Inv n0 Bx w B η (H.map exE) → (∀ x ∈ o.op.operands, Rel2 w B η (opV sl x) (ρv x) ∧ FreshV n0 (ex (opV sl x)) (ρv x)) → OpS2 P n0 Bx w ρv o B η r H'
def T1 (P : Program) (ops : Array Oper) (cl : List (Nat × Oper)) (W : Option (List Nat)) (H : List E2) : List (Nat × Oper) → List V → List V → Prop
  | [], sl, sl' => sl' = sl
  | (j, o) :: rest, sl, sl' => ∃ b r, Wt ops o sl b ∧ (b = true → (modeA ops cl j = true ∧ OpsN P H o sl r) ∨ ((∀ x ∈ o.op.operands, bareV (opV sl x) = true) ∧ OpsN P [] o sl r) ∨ (∀ H', OpsN P H' o sl r) ∨ (lowN cl H = H.length ∧ (∀ x ∈ o.op.operands, lowV H.length (opV sl x) = true) ∧ OpsN P (H.map maskE) o sl r) ∨ (∃ W', W = some W' ∧ OpsN P (maskW W' 0 H) o sl r)) ∧ (b = false → r = .c undef) ∧ T1 P ops cl W H rest (setV sl o.dst r) sl'
def T2 (P : Program) (ops : Array Oper) (n : Nat) (W : Option (List Nat)) : List (Nat × Oper) → S2 → S2 → Prop
  | [], st, st' => st' = st
  | (j, o) :: rest, st, st' => ∃ b r H', Wt ops o st.slots b ∧ (b = true → OpsC P st.heap o st.slots r H') ∧ (b = false → r = .c undef ∧ H' = st.heap) ∧ (lowEq n st.heap H' ∧ offW W st.heap H') ∧ T2 P ops n W rest ⟨setV st.slots o.dst r, H'⟩ st'
theorem addr_ok {P : Program} {F : Fns R} {H : List E2} {sl : List V} {o : Oper} {k : V → Tree R} {res : R} (ha : addrB (opV sl) o.op = true) (h : (evNF P F H (opV sl) o.op k).run = some res) : ∃ r, (k r).run = some res ∧ ∀ H', OpsN P H' o sl r := by
  obtain ⟨op, ho⟩ : ∃ op, o.op = op := ⟨_, rfl⟩
  rw [ho] at ha h
  unfold addrB at ha
  split at ha
  · rename_i s x f
    unfold evNF evN at h
    simp only at h
    split at h
    · rename_i hpl
      unfold evN1 at h
      simp only at h
      obtain ⟨r, h1, h2⟩ := fieldAddrK_okA (o := o) (fun y hy => by rw [ho] at hy; exact Array.all_eq_true'.1 hpl y hy) ho h
      exact ⟨r, h1, fun H' n0 Bx w B η ρv _ inv he => h2 H' n0 Bx w B η ρv inv he⟩
    · cases h
  · rename_i x
    unfold evNF evN at h
    simp only at h
    split at h
    · rename_i hpl
      unfold evN1 at h
      simp only at h
      obtain ⟨r, h1, h2⟩ := nilCheckK_okA (P := P) (o := o) (fun y hy => by rw [ho] at hy; exact Array.all_eq_true'.1 hpl y hy) ho h
      exact ⟨r, h1, fun H' n0 Bx w B η ρv _ inv he => h2 H' n0 Bx w B η ρv inv he⟩
    · cases h
  · rename_i x
    unfold evNF evN at h
    simp only at h
    exact ⟨_, h, fun H' n0 Bx w B η ρv _ inv he => does_move (x := x) (fun w ρv => by simp [execOp, ho]) (by simp [ho, Op.operands]) rfl n0 Bx w B η ρv inv he⟩
  · rename_i x
    unfold evNF evN at h
    simp only at h
    exact ⟨_, h, fun H' n0 Bx w B η ρv _ inv he => does_move (x := x) (fun w ρv => by simp [execOp, ho]) (by simp [ho, Op.operands]) rfl n0 Bx w B η ρv inv he⟩
  · rename_i t x
    split at ha
    · rename_i id hx
      unfold evNF evN at h
      simp only at h
      split at h
      · rename_i hpl
        have hp : Plain (opV sl) o := fun y hy => by rw [ho] at hy; exact Array.all_eq_true'.1 hpl y hy
        unfold evN1 at h
        simp only [hx] at h
        split at h
        · rename_i m e hat
          unfold sliceArrK at h
          simp only at h
          split at h
          · rename_i hc
            exact ⟨_, h, fun H' n0 Bx w B η ρv _ inv he => sliceBox_ok hp ho (arrT_spec hat) hx hc H' n0 Bx w B η ρv inv he⟩
          · cases h
        · rename_i hs
          cases hs
        · unfold sliceK at h
          split at h
          · simp only [viewL] at h
            cases h
          · cases h
      · cases h
    · cases ha
  · rename_i t x i
    split at ha
    · rename_i id off hx
      unfold evNF evN at h
      simp only at h
      split at h
      · rename_i hpl
        have hp : Plain (opV sl) o := fun y hy => by rw [ho] at hy; exact Array.all_eq_true'.1 hpl y hy
        unfold evN1 at h
        simp only at h
        obtain ⟨r, h1, h2⟩ := indexAddrK_okA (o := o) hp ho hx h
        exact ⟨r, h1, fun H' n0 Bx w B η ρv _ inv he => h2 H' n0 Bx w B η ρv inv he⟩
      · cases h
    · cases ha
  · cases ha
theorem evFr_ok {P : Program} {F : Fns R} (hF : FnsOK P F) {ops : Array Oper} {cl : List (Nat × Oper)} {W : Option (List Nat)} {H : List E2} : ∀ (l : List (Nat × Oper)) (sl : List V) (k : List V → Tree R) (res : R), (evFr P F ops cl W H l sl k).run = some res → ∃ sl', (k sl').run = some res ∧ T1 P ops cl W H l sl sl'
  | [], sl, k, res, h => ⟨sl, h, rfl⟩
  | (j, o) :: rest, sl, k, res, h => by
    unfold evFr at h
    obtain ⟨b, h1, hwant⟩ := wantK_ok h
    clear h
    cases b with
    | true =>
      simp only [if_true] at h1
      split at h1
      · rename_i hA
        obtain ⟨r, h2, h3⟩ := evNF_ok hF h1
        rw [forceL_eq] at h2
        obtain ⟨sl', h4, h5⟩ := evFr_ok hF rest _ k res h2
        exact ⟨sl', h4, true, r, hwant, fun _ => .inl ⟨hA, h3⟩, nofun, h5⟩
      · split at h1
        · rename_i hb
          obtain ⟨r, h2, h3⟩ := evNF_ok hF h1
          rw [forceL_eq] at h2
          obtain ⟨sl', h4, h5⟩ := evFr_ok hF rest _ k res h2
          exact ⟨sl', h4, true, r, hwant, fun _ => .inr (.inl ⟨fun x hx => Array.all_eq_true'.1 hb x hx, h3⟩), nofun, h5⟩
        · split at h1
          · rename_i hb
            obtain ⟨r, h2, h3⟩ := addr_ok hb h1
            rw [forceL_eq] at h2
            obtain ⟨sl', h4, h5⟩ := evFr_ok hF rest _ k res h2
            exact ⟨sl', h4, true, r, hwant, fun _ => .inr (.inr (.inl h3)), nofun, h5⟩
          · split at h1
            · rename_i hb
              obtain ⟨r, h2, h3⟩ := evNF_ok hF h1
              rw [forceL_eq] at h2
              obtain ⟨sl', h4, h5⟩ := evFr_ok hF rest _ k res h2
              exact ⟨sl', h4, true, r, hwant, fun _ => .inr (.inr (.inr (.inl ⟨hb.1, fun x hx => Array.all_eq_true'.1 hb.2 x hx, h3⟩))), nofun, h5⟩
            · split at h1
              · rename_i W'
                obtain ⟨r, h2, h3⟩ := evNF_ok hF h1
                rw [forceL_eq] at h2
                obtain ⟨sl', h4, h5⟩ := evFr_ok hF rest _ k res h2
                exact ⟨sl', h4, true, r, hwant, fun _ => .inr (.inr (.inr (.inr ⟨W', rfl, h3⟩))), nofun, h5⟩
              · cases h1
    | false =>
      simp only [Bool.false_eq_true, if_false] at h1
      rw [forceL_eq] at h1
      obtain ⟨sl', h4, h5⟩ := evFr_ok hF rest _ k res h1
      exact ⟨sl', h4, false, _, hwant, nofun, fun _ => rfl, h5⟩
theorem evChL_ok {P : Program} {Γ : Env R} (hF : FnsOK P Γ.fns) {C : CallI R} (hC : CallIOK P C) {mv : Bool × Bool} {ops : Array Oper} {n : Nat} {W : Option (List Nat)} : ∀ (l : List (Nat × Oper)) (st : S2) (k : S2 → Tree R) (res : R), (evChL P Γ C mv ops n W l st k).run = some res → ∃ st', (k st').run = some res ∧ T2 P ops n W l st st'
  | [], st, k, res, h => ⟨st, h, rfl⟩
  | (j, o) :: rest, st, k, res, h => by
    unfold evChL at h
    obtain ⟨b, h1, hwant⟩ := wantK_ok h
    clear h
    cases b with
    | true =>
      simp only [if_true] at h1
      split at h1
      · rename_i hk
        rw [evI_low hk.1, evI_off hk.2] at h1
        obtain ⟨r, H', h2, h3⟩ := evI_okC hF hC h1
        split at h2
        case isFalse => cases h2
        rename_i hoff
        split at h2
        · rename_i hlow
          rw [forceL_eq] at h2
          obtain ⟨st', h4, h5⟩ := evChL_ok hF hC rest _ k res h2
          exact ⟨st', h4, true, r, H', hwant, fun _ => h3, nofun, ⟨hlow, hoff⟩, h5⟩
        · cases h2
      · cases h1
    | false =>
      simp only [Bool.false_eq_true, if_false] at h1
      rw [forceL_eq] at h1
      obtain ⟨st', h4, h5⟩ := evChL_ok hF hC rest _ k res h1
      exact ⟨st', h4, false, _, _, hwant, nofun, fun _ => ⟨rfl, rfl⟩, ⟨fun _ _ => rfl, fun _ _ => ⟨rfl, fun _ _ => rfl⟩⟩, h5⟩
theorem evCh_ok {P : Program} {Γ : Env R} (hF : FnsOK P Γ.fns) {C : CallI R} (hC : CallIOK P C) {mv : Bool × Bool} {ops : Array Oper} {W : Option (List Nat)} (l : List (Nat × Oper)) (st : S2) (k : S2 → Tree R) (res : R) (h : (evCh P Γ C mv ops W l st k).run = some res) : ∃ st', (k st').run = some res ∧ T2 P ops (lowN l st.heap) W l st st' := evChL_ok hF hC l st k res h
/-! ### What the canonical run leaves in each slot -/
theorem getD_setV {sl : List V} {d : Option Tmp} {r : V} {t : Nat} (h : d ≠ some t) : (setV sl d r).getD t .any = sl.getD t .any := by
  cases d with
  | none => rfl
  | some u =>
    have : u ≠ t := fun e => h (by rw [e])
    simp [setV, List.getD_eq_getElem?_getD, List.getElem?_set_ne this]
theorem length_setV (sl : List V) (d : Option Tmp) (r : V) : (setV sl d r).length = sl.length := by cases d <;> simp [setV]
variable {P : Program} {ops : Array Oper} {cl : List (Nat × Oper)} {W : Option (List Nat)} {H : List E2}
theorem T1.keep : ∀ {l : List (Nat × Oper)} {sl sl' : List V}, T1 P ops cl W H l sl sl' → sl'.length = sl.length ∧ ∀ t, (∀ p ∈ l, p.2.dst ≠ some t) → sl'.getD t .any = sl.getD t .any
  | [], sl, sl', h => by
    have h : sl' = sl := h
    subst h; exact ⟨rfl, fun _ _ => rfl⟩
  | (j, o) :: rest, sl, sl', h => by
    obtain ⟨b, r, _, _, _, h5⟩ := h
    obtain ⟨k1, k2⟩ := T1.keep h5
    exact ⟨by rw [k1, length_setV], fun t ht => by rw [k2 t (fun p hp => ht p (List.mem_cons_of_mem _ hp)), getD_setV (ht (j, o) List.mem_cons_self)]⟩
theorem T2.low {n : Nat} : ∀ {l : List (Nat × Oper)} {st st' : S2}, T2 P ops n W l st st' → lowEq n st.heap st'.heap
  | [], st, st', h => by
    have h : st' = st := h
    subst h; exact fun _ _ => rfl
  | (j, o) :: rest, st, st', h => by
    obtain ⟨b, r, H', _, _, _, h4, h5⟩ := h
    exact fun i hi => (T2.low h5 i hi).trans (h4.1 i hi)
theorem T2.off {n : Nat} : ∀ {l : List (Nat × Oper)} {st st' : S2}, T2 P ops n W l st st' → offW W st.heap st'.heap
  | [], st, st', h => by
    have h : st' = st := h
    subst h; exact fun _ _ => ⟨rfl, fun _ _ => rfl⟩
  | (j, o) :: rest, st, st', h => by
    obtain ⟨b, r, H', _, _, _, h4, h5⟩ := h
    exact fun W' hW => ⟨(T2.off h5 W' hW).1.trans (h4.2 W' hW).1, fun i hi => ((T2.off h5 W' hW).2 i hi).trans ((h4.2 W' hW).2 i hi)⟩
theorem T2.keep {n : Nat} : ∀ {l : List (Nat × Oper)} {st st' : S2}, T2 P ops n W l st st' → st'.slots.length = st.slots.length ∧ ∀ t, (∀ p ∈ l, p.2.dst ≠ some t) → st'.slots.getD t .any = st.slots.getD t .any
  | [], st, st', h => by
    have h : st' = st := h
    subst h; exact ⟨rfl, fun _ _ => rfl⟩
  | (j, o) :: rest, st, st', h => by
    obtain ⟨b, r, H', _, _, _, _, h5⟩ := h
    obtain ⟨k1, k2⟩ := T2.keep h5
    exact ⟨by rw [k1, length_setV], fun t ht => by rw [k2 t (fun p hp => ht p (List.mem_cons_of_mem _ hp)), getD_setV (ht (j, o) List.mem_cons_self)]⟩
theorem T1.cut : ∀ {l1 l2 : List (Nat × Oper)} {sl sl' : List V}, T1 P ops cl W H (l1 ++ l2) sl sl' → ∃ m, T1 P ops cl W H l1 sl m ∧ T1 P ops cl W H l2 m sl'
  | [], l2, sl, sl', h => ⟨sl, rfl, h⟩
  | (j, o) :: l1, l2, sl, sl', h => by
    obtain ⟨b, r, h2, h3, h4, h5⟩ := h
    obtain ⟨m, k1, k2⟩ := T1.cut h5
    exact ⟨m, ⟨b, r, h2, h3, h4, k1⟩, k2⟩
theorem T2.cut {n : Nat} : ∀ {l1 l2 : List (Nat × Oper)} {st st' : S2}, T2 P ops n W (l1 ++ l2) st st' → ∃ m, T2 P ops n W l1 st m ∧ T2 P ops n W l2 m st'
  | [], l2, st, st', h => ⟨st, rfl, h⟩
  | (j, o) :: l1, l2, st, st', h => by
    obtain ⟨b, r, H', h2, h3, h4, h4', h5⟩ := h
    obtain ⟨m, k1, k2⟩ := T2.cut h5
    exact ⟨m, ⟨b, r, H', h2, h3, h4, h4', k1⟩, k2⟩
theorem T2.snoc {n : Nat} : ∀ {l1 : List (Nat × Oper)} {j : Nat} {o : Oper} {st m st' : S2}, T2 P ops n W l1 st m → T2 P ops n W [(j, o)] m st' → T2 P ops n W (l1 ++ [(j, o)]) st st'
  | [], j, o, st, m, st', h1, h2 => by
    have h1 : m = st := h1
    subst h1; exact h2
  | (i, p) :: l1, j, o, st, m, st', h1, h2 => by
    obtain ⟨b, r, H', a1, a2, a3, a3', a4⟩ := h1
    exact ⟨b, r, H', a1, a2, a3, a3', T2.snoc a4 h2⟩
/-! ### In whatever order -/
def chainB2 (ops : Array Oper) : List (Nat × Oper) → Bool
  | c :: c' :: r => ancB ops ops.size c'.1 c.1 && chainB2 ops (c' :: r)
  | _ => true
def depB (ops : Array Oper) (fs : List Bool) : Bool :=
  (List.range ops.size).all fun j => (List.range ops.size).all fun i => match ops[i]?, ops[j]? with
    | some oi, some oj => (match oi.dst with
      | some t => !(oj.looksAt ops).contains t || i == j || (if fs.getD j false = true then (fs.getD i false || decide (j < i)) else (!fs.getD i false || decide (i < j)))
      | none => true)
    | _, _ => true
def frontsA (inl : FuncId → Bool) (ops : Array Oper) : List Bool := frontsOf inl ops ops.toList []
def drawB (inl : FuncId → Bool) (ops : Array Oper) : Bool :=
  Region.noSelect ops && backB ops && onceB ops ops.size && dataB ops ops.size && chainB2 ops (clR 0 ops.toList (frontsA inl ops)) && depB ops (frontsA inl ops) && ((frontsA inl ops).length == ops.size)
theorem chainB2_spec : ∀ (l : List (Nat × Oper)), chainB2 ops l = true → ∀ (m : Nat) p q, l[m]? = some p → l[m + 1]? = some q → ancB ops ops.size q.1 p.1 = true
  | [], _, m, p, q, h1, h2 => by simp at h1
  | [c], _, m, p, q, h1, h2 => by simp at h2
  | c :: c' :: r, h, m, p, q, h1, h2 => by
    simp only [chainB2, Bool.and_eq_true] at h
    cases m with
    | zero => simp at h1 h2; subst h1 h2; exact h.1
    | succ m => exact chainB2_spec (c' :: r) h.2 m p q (by simpa using h1) (by simpa using h2)
theorem depB_spec {fs : List Bool} (h : depB ops fs = true) {i j : Nat} {oi oj : Oper} {t : Tmp} (hi : ops[i]? = some oi) (hj : ops[j]? = some oj) (hd : oi.dst = some t) (hl : t ∈ oj.looksAt ops) (hne : i ≠ j) :
    if fs.getD j false = true then (fs.getD i false = true ∨ j < i) else (fs.getD i false = false ∨ i < j) := by
  have := List.all_eq_true.1 (List.all_eq_true.1 h j (List.mem_range.2 (Array.getElem?_eq_some_iff.1 hj).1)) i (List.mem_range.2 (Array.getElem?_eq_some_iff.1 hi).1)
  simp only [hi, hj, hd, Bool.or_eq_true, beq_iff_eq, Bool.not_eq_true', List.contains_eq_mem, decide_eq_false_iff_not] at this
  rcases this with (h | h) | h
  · exact absurd hl h
  · exact absurd h hne
  · cases hf : fs.getD j false with
    | true => rw [hf] at h; simpa using h
    | false => rw [hf] at h; simpa using h
/-- Whoever is ready has all ahead of it listed. -/
theorem ready_anc {listed : Array Bool} (hcl : ∀ j oj, ops[j]? = some oj → listed.getD j false = true → ∀ e ∈ oj.after, Region.binds .any e = true → listed.getD e.on false = true) {j : Nat} {oj : Oper} (ho : ops[j]? = some oj) (hall : ∀ e ∈ oj.after, Region.binds .any e = true → listed.getD e.on false = true) {f i : Nat} (h : ancB ops f j i = true) : listed.getD i false = true := by
  cases f with
  | zero => cases h
  | succ f =>
    unfold ancB at h
    rw [ho] at h
    obtain ⟨e, he, hb⟩ := Array.any_eq_true'.1 h
    simp only [Bool.and_eq_true, Bool.or_eq_true, beq_iff_eq] at hb
    have h1 := hall e he hb.1
    rcases hb.2 with rfl | h2
    · exact h1
    · exact ancB_spec hcl f e.on i h2 h1
theorem mem_split {α : Type} {x : α} : ∀ {l : List α}, x ∈ l → ∃ l1 l2, l = l1 ++ x :: l2
  | y :: l, h => by
    rcases List.mem_cons.1 h with rfl | h
    · exact ⟨[], l, rfl⟩
    · obtain ⟨l1, l2, e⟩ := mem_split h
      exact ⟨y :: l1, l2, by rw [e]; rfl⟩
/-- What holds, whichever have come up. -/
def DInv (P : Program) (ops : Array Oper) (cl : List (Nat × Oper)) (W : Option (List Nat)) (sl0 sl1 : List V) (H0 : List E2) (st2 : S2) (n0 m0 : Nat) (Bx : List Nat) (ds : List Deferred) (w0 : World) (B0 : List Nat) (η0 : List Value) (listed : Array Bool) (a : Act) (w : World) : Prop :=
  ∃ (k : Nat) (st : S2) (B : List Nat) (η : List Value), T2 P ops (lowN cl H0) W (cl.take k) ⟨sl1, H0⟩ st ∧ T2 P ops (lowN cl H0) W (cl.drop k) st st2 ∧ k ≤ cl.length ∧ (∀ (m : Nat) p, cl[m]? = some p → (listed.getD p.1 false = true ↔ m < k)) ∧
    a.defers = ds ∧ a.tmps.size = sl0.length ∧ Inv n0 Bx w B η (st.heap.map exE) ∧ Goes n0 m0 w0 B0 η0 w B η ∧
    ∀ t, ((∃ i, (ops[i]?).bind (·.dst) = some t ∧ listed.getD i false = true) → Rel2 w B η (st2.slots.getD t .any) (a.tmps.getD t undef) ∧ FreshV n0 (ex (st2.slots.getD t .any)) (a.tmps.getD t undef)) ∧
      ((∀ i, (ops[i]?).bind (·.dst) = some t → listed.getD i false = false) → Rel2 w B η (sl0.getD t .any) (a.tmps.getD t undef) ∧ FreshV n0 (ex (sl0.getD t .any)) (a.tmps.getD t undef))
end
section
variable {R : Type} {P : Program} {ops : Array Oper} {W : Option (List Nat)}
theorem once' (honce : onceB ops ops.size = true) {i j : Nat} {t : Tmp} (h1 : (ops[i]?).bind (·.dst) = some t) (h2 : (ops[j]?).bind (·.dst) = some t) : i = j := by
  have s1 : i < ops.size := by obtain ⟨o, ho, _⟩ := Option.bind_eq_some_iff.1 h1; exact (Array.getElem?_eq_some_iff.1 ho).1
  have s2 : j < ops.size := by obtain ⟨o, ho, _⟩ := Option.bind_eq_some_iff.1 h2; exact (Array.getElem?_eq_some_iff.1 ho).1
  exact onceB_spec honce s1 s2 h1 h2
theorem put_getD (a : Act) (d : Option Tmp) (v : Value) (t : Nat) (h : d ≠ some t) : (a.put d v).tmps.getD t undef = a.tmps.getD t undef := by
  cases d with
  | none => rfl
  | some u =>
    have hne : u ≠ t := fun e => h (by rw [e])
    simp [Act.put, Array.getD_eq_getD_getElem?, Array.getElem?_setIfInBounds_ne hne]
theorem put_size (a : Act) (d : Option Tmp) (v : Value) : (a.put d v).tmps.size = a.tmps.size := by cases d <;> simp [Act.put]
theorem put_defers' (a : Act) (d : Option Tmp) (v : Value) : (a.put d v).defers = a.defers := by cases d <;> rfl
/-- The slot that an operation fills: what stands in it. -/
theorem put_own {w : World} {B : List Nat} {η : List Value} {n0 : Nat} {a : Act} {sl : List V} {d : Tmp} {v : Value} {r : V} (hsz : a.tmps.size = sl.length) (hr : Rel2 w B η r v) (hf : FreshV n0 (ex r) v) {x : V} (hx : d < sl.length → x = r) (hx2 : sl.length ≤ d → x = .any) : Rel2 w B η x ((a.put (some d) v).tmps.getD d undef) ∧ FreshV n0 (ex x) ((a.put (some d) v).tmps.getD d undef) := by
  rcases Nat.lt_or_ge d sl.length with h | h
  · rw [hx h]
    have : (a.put (some d) v).tmps.getD d undef = v := by
      simp [Act.put, Array.getD_eq_getD_getElem?, Array.getElem?_setIfInBounds_self_of_lt (show d < a.tmps.size by rw [hsz]; exact h)]
    rw [this]; exact ⟨hr, hf⟩
  · rw [hx2 h]; exact ⟨trivial, fun h => by cases h⟩
theorem getD_over {l : List V} {t : Nat} (h : l.length ≤ t) : l.getD t .any = .any := by
  rw [List.getD_eq_getElem?_getD, List.getElem?_eq_none h]; rfl
theorem setV_own {sl : List V} {d : Tmp} {r : V} (h : d < sl.length) : (setV sl (some d) r).getD d .any = r := by
  simp [setV, List.getD_eq_getElem?_getD, h]
theorem dinv_step {fs : List Bool} {cl fl : List (Nat × Oper)} (hcl : cl = clR 0 ops.toList fs) (hfl : fl = flR 0 ops.toList fs) (hsel : Region.noSelect ops = true) (hback : backB ops = true) (honce : onceB ops ops.size = true) (hdata : dataB ops ops.size = true) (hchain : chainB2 ops cl = true) (hdep : depB ops fs = true) (hfsl : fs.length = ops.size)
    {sl0 sl1 : List V} {H0 : List E2} {st2 : S2} {n0 m0 : Nat} {Bx : List Nat} {ds : List Deferred} {w0 : World} {B0 : List Nat} {η0 : List Value} {Q : Exit → Act → World → Prop}
    (h1 : T1 P ops cl W H0 fl sl0 sl1) (h2 : T2 P ops (lowN cl H0) W cl ⟨sl1, H0⟩ st2) :
    ∀ (listed : Array Bool) (a : Act) (w : World) (j : Nat), HeadInv .any ops ops.size listed → DInv P ops cl W sl0 sl1 H0 st2 n0 m0 Bx ds w0 B0 η0 listed a w → j ∈ Region.ready .any ops listed → ∀ K : Act → World → Prop, (∀ a' w', DInv P ops cl W sl0 sl1 H0 st2 n0 m0 Bx ds w0 B0 η0 (listed.setIfInBounds j true) a' w' → K a' w') → wpOp P ops Q j K a w := by
  intro listed a w j hi inv hj K hK
  obtain ⟨hjun, oj, hoj, hall⟩ := mem_ready.1 hj
  have hjs : j < ops.size := (Array.getElem?_eq_some_iff.1 hoj).1
  have hjl : j < listed.size := by rw [hi.size]; exact hjs
  have hjunF : listed.getD j false = false := by simp [hjl] at hjun ⊢; exact hjun
  obtain ⟨k, st, B, η, ht1, ht2, hk, hprog, hdef, hsz, hinv, hgo, hslot⟩ := inv
  have hfsj : ∀ i, i < ops.size → ∃ b, fs[i]? = some b := fun i hi => ⟨_, List.getElem?_eq_getElem (by rw [hfsl]; exact hi)⟩
  have hfsd : ∀ i b, fs[i]? = some b → fs.getD i false = b := fun i b h => by rw [List.getD_eq_getElem?_getD, h]; rfl
  have inF : ∀ i o, (i, o) ∈ fl ↔ ops[i]? = some o ∧ fs[i]? = some true := fun i o => by rw [hfl, flR_mem]; simp
  have inC : ∀ i o, (i, o) ∈ cl ↔ ops[i]? = some o ∧ fs[i]? = some false := fun i o => by rw [hcl, clR_mem]; simp
  have hlen1 := h1.keep.1
  have hlen2 := h2.keep.1
  simp only at hlen2
  -- who writes t, and is it listed?
  have wr : ∀ t ∈ oj.looksAt ops, ∀ (i : Nat) (oi : Oper), ops[i]? = some oi → oi.dst = some t → i = j ∨ (i < j ∧ listed.getD i false = true) ∨ (j < i ∧ listed.getD i false = false) := fun t ht i oi hoi hd => by
    rcases dataB_spec hdata (Array.getElem?_eq_some_iff.1 hoi).1 hjs (by rw [hoi]; exact hd) hoj ht with h | ⟨h1, h2⟩ | ⟨h1, h2⟩
    · exact .inl h
    · obtain ⟨o', ho', e, he, hb, hon⟩ := Region.waitsFor_spec h2
      have : o' = oj := by rw [hoj] at ho'; exact (Option.some.inj ho').symm
      subst this
      exact .inr (.inl ⟨h1, by rw [← hon]; exact hall e he hb⟩)
    · refine .inr (.inr ⟨h1, ?_⟩)
      cases hli : listed.getD i false with
      | false => rfl
      | true => have := ancB_spec hi.closed _ i j h2 hli; rw [hjunF] at this; cases this
  -- what is in a slot of the end, if it is not written by the others
  have end1 : ∀ (t : Tmp), (∀ (i : Nat) (o : Oper), (i, o) ∈ cl → o.dst ≠ some t) → st2.slots.getD t .any = sl1.getD t .any := fun t h => h2.keep.2 t (fun p hp => h p.1 p.2 hp)
  have ini1 : ∀ (t : Tmp), (∀ (i : Nat) (o : Oper), (i, o) ∈ fl → o.dst ≠ some t) → sl1.getD t .any = sl0.getD t .any := fun t h => h1.keep.2 t (fun p hp => h p.1 p.2 hp)
  have noC : ∀ (t : Tmp) (i : Nat) (oi : Oper), ops[i]? = some oi → oi.dst = some t → fs[i]? = some true → ∀ i' o', (i', o') ∈ cl → o'.dst ≠ some t := fun t i oi hoi hd hf i' o' hm hd' => by
    obtain ⟨q1, q2⟩ := (inC i' o').1 hm
    have := once' honce (show (ops[i]?).bind (·.dst) = some t by rw [hoi]; exact hd) (show (ops[i']?).bind (·.dst) = some t by rw [q1]; exact hd')
    subst this; rw [hf] at q2; cases q2
  have noF : ∀ (t : Tmp) (i : Nat) (oi : Oper), ops[i]? = some oi → oi.dst = some t → fs[i]? = some false → ∀ i' o', (i', o') ∈ fl → o'.dst ≠ some t := fun t i oi hoi hd hf i' o' hm hd' => by
    obtain ⟨q1, q2⟩ := (inF i' o').1 hm
    have := once' honce (show (ops[i]?).bind (·.dst) = some t by rw [hoi]; exact hd) (show (ops[i']?).bind (·.dst) = some t by rw [q1]; exact hd')
    subst this; rw [hf] at q2; cases q2
  have noW : ∀ (t : Tmp), (¬ ∃ (i : Nat) (oi : Oper), ops[i]? = some oi ∧ oi.dst = some t) → (∀ (i : Nat) (o : Oper), (i, o) ∈ fl → o.dst ≠ some t) ∧ (∀ (i : Nat) (o : Oper), (i, o) ∈ cl → o.dst ≠ some t) := fun t h =>
    ⟨fun i o hm hd => h ⟨i, o, ((inF i o).1 hm).1, hd⟩, fun i o hm hd => h ⟨i, o, ((inC i o).1 hm).1, hd⟩⟩
  have hnoT : ∀ (t : Tmp), (¬ ∃ (i : Nat) (oi : Oper), ops[i]? = some oi ∧ oi.dst = some t) → ∀ i, (ops[i]?).bind (·.dst) = some t → listed.getD i false = false := fun t h i hd => by
    obtain ⟨o, ho, hd⟩ := Option.bind_eq_some_iff.1 hd
    exact absurd ⟨i, o, ho, hd⟩ h
  -- if the slots that it looks at read as slc does, and it does as said, the rest is as said
  have fin : ∀ (st' : S2) (slc : List V) (b : Bool) (r : V) (k' : Nat), slc.length = sl0.length → Wt ops oj slc b →
      (∀ t ∈ oj.looksAt ops, Rel2 w B η (slc.getD t .any) (a.tmps.getD t undef) ∧ FreshV n0 (ex (slc.getD t .any)) (a.tmps.getD t undef)) →
      (b = true → (∀ x ∈ oj.op.operands, Rel2 w B η (opV slc x) (a.eval x) ∧ FreshV n0 (ex (opV slc x)) (a.eval x)) → OpS2 P n0 Bx w a.eval oj B η r st'.heap) → (b = false → r = .c undef ∧ st'.heap = st.heap) →
      T2 P ops (lowN cl H0) W (cl.take k') ⟨sl1, H0⟩ st' → T2 P ops (lowN cl H0) W (cl.drop k') st' st2 → k' ≤ cl.length → (∀ (m : Nat) p, cl[m]? = some p → ((listed.setIfInBounds j true).getD p.1 false = true ↔ m < k')) →
      (∀ t, oj.dst = some t → t < sl0.length → st2.slots.getD t .any = r) → wpOp P ops Q j K a w := by
    intro st' slc b r k' hslc hwt hlook hdo hno htk htd hkl hpr hown
    have heval : ∀ x ∈ oj.op.operands, Rel2 w B η (opV slc x) (a.eval x) ∧ FreshV n0 (ex (opV slc x)) (a.eval x) := fun x hx => by
      cases x with
      | tmp t => exact hlook t (List.mem_append_left _ (List.mem_filterMap.2 ⟨.tmp t, by simpa using hx, rfl⟩))
      | const v =>
        refine ⟨Rel2.of (constV_plain v) ?_, fun h => ?_⟩
        · show Rel w B η (ex (constV v)) v
          rw [constV_ex]; exact .c _ _
        · simp only [opV, constV_ex, isFresh] at h; cases h
      | global g => exact opG_rel hinv.base.2 g
      | func f => exact ⟨⟨[], rfl, rfl, fun i c h => by simp at h⟩, fun h => by cases h⟩
    have hw := hwt w B η a.tmps (by rw [hslc, hsz]) (fun d hd => (hlook d (by
      unfold guardSlot at hd
      split at hd
      · rename_i g want hg
        exact List.mem_append_right _ (by simp [hg, hd])
      · cases hd)).1)
    -- the invariant behind it
    have next : ∀ v w' B' η', On B w w' → (∀ b ∈ B', b ∈ B ∨ w.heap.size ≤ b) → (∀ (id : Nat) v, η[id]? = some v → η'[id]? = some v) → Below n0 w w' → Inv n0 Bx w' B' η' (st'.heap.map exE) → Rel2 w' B' η' r v → FreshV n0 (ex r) v → K (a.put oj.dst v) w' := by
      intro v w' B' η' g1 g2 g3 g4 g5 g6 g7
      refine hK _ _ ⟨k', st', B', η', htk, htd, hkl, hpr, by rw [put_defers']; exact hdef, by rw [put_size]; exact hsz, g5, hgo.trans ⟨g1, g2, fun id v _ hv => g3 id v hv, g4⟩, fun t => ?_⟩
      by_cases hdt : oj.dst = some t
      · refine ⟨fun _ => ?_, fun hno => ?_⟩
        · rw [hdt]
          exact put_own (sl := sl0) hsz g6 g7 (fun h => hown t hdt h) (fun h => getD_over (by rw [hlen2, hlen1]; exact h))
        · have := hno j (by rw [hoj]; exact hdt)
          simp [hjl] at this
      · rw [put_getD a oj.dst v t hdt]
        have hne : ∀ i, (ops[i]?).bind (·.dst) = some t → (listed.setIfInBounds j true).getD i false = listed.getD i false := fun i hd => by
          refine getD_set_ne false (fun e => hdt ?_)
          subst e
          rw [hoj] at hd; exact hd
        refine ⟨fun ⟨i, hd, hli⟩ => ?_, fun hno => ?_⟩
        · have := (hslot t).1 ⟨i, hd, by rw [← hne i hd]; exact hli⟩
          exact ⟨this.1.on g1 g2 g3, this.2⟩
        · have := (hslot t).2 (fun i hd => by rw [← hne i hd]; exact hno i hd)
          exact ⟨this.1.on g1 g2 g3, this.2⟩
    unfold wpOp
    simp only [hoj]
    rw [hw]
    cases b with
    | true =>
      rw [if_pos rfl]
      exact .inl (val_wp (hdo rfl heval _ next))
    | false =>
      obtain ⟨rfl, hh⟩ := hno rfl
      rw [if_neg (by simp)]
      exact next undef w B η (On.refl B w) (fun _ h => .inl h) (fun _ _ h => h) (Below.refl _ _) (by rw [hh]; exact hinv) (Rel.c _ _) (fun h => by cases h)
  obtain ⟨bj, hbj⟩ := hfsj j hjs
  cases bj with
  | true =>
    -- one in front
    obtain ⟨l1, l2, hsp⟩ := mem_split ((inF j oj).2 ⟨hoj, hbj⟩)
    have hpw := flR_pair ops.toList fs 0
    rw [← hfl, hsp] at hpw
    obtain ⟨pw1, pw2, pw3⟩ := List.pairwise_append.1 hpw
    have pl1 : ∀ i o, (i, o) ∈ l1 → i < j := fun i o hm => pw3 (i, o) hm (j, oj) List.mem_cons_self
    have pl2 : ∀ i o, (i, o) ∈ l2 → j < i := fun i o hm => (List.pairwise_cons.1 pw2).1 (i, o) hm
    rw [hsp] at h1
    obtain ⟨slc, q1, b, r, q2, q3, q4, q5⟩ := h1.cut
    have hmemF : ∀ i o, (i, o) ∈ fl → (i, o) ∈ l1 ∨ (i, o) = (j, oj) ∨ (i, o) ∈ l2 := fun i o hm => by rw [hsp] at hm; simpa using hm
    have hlook : ∀ t ∈ oj.looksAt ops, Rel2 w B η (slc.getD t .any) (a.tmps.getD t undef) ∧ FreshV n0 (ex (slc.getD t .any)) (a.tmps.getD t undef) := fun t ht => by
      by_cases hw : ∃ (i : Nat) (oi : Oper), ops[i]? = some oi ∧ oi.dst = some t
      · obtain ⟨i, oi, hoi, hd⟩ := hw
        have uniq : ∀ i' o', ops[i']? = some o' → o'.dst = some t → i' = i := fun i' o' h h' => once' honce (show (ops[i']?).bind (·.dst) = some t by rw [h]; exact h') (show (ops[i]?).bind (·.dst) = some t by rw [hoi]; exact hd)
        have initial : listed.getD i false = false → (∀ p ∈ l1, p.2.dst ≠ some t) → Rel2 w B η (slc.getD t .any) (a.tmps.getD t undef) ∧ FreshV n0 (ex (slc.getD t .any)) (a.tmps.getD t undef) := fun hun hno => by
          rw [q1.keep.2 t hno]
          exact (hslot t).2 (fun i' hd' => by
            obtain ⟨o', ho', hd'⟩ := Option.bind_eq_some_iff.1 hd'
            rw [uniq i' o' ho' hd']; exact hun)
        have notin : ¬ i < j → ∀ p ∈ l1, p.2.dst ≠ some t := fun hlt p hp hd' => by
          have hpf : p ∈ fl := by rw [hsp]; simp [hp]
          have := uniq p.1 p.2 ((inF p.1 p.2).1 hpf).1 hd'
          have h3 := pl1 p.1 p.2 hp
          omega
        rcases wr t ht i oi hoi hd with h | ⟨hlt, hli⟩ | ⟨hlt, hun⟩
        · subst h; exact initial hjunF (notin (by omega))
        · have hdp := depB_spec hdep hoi hoj hd ht (by omega)
          rw [hfsd j true hbj, if_pos rfl] at hdp
          obtain ⟨bi, hbi⟩ := hfsj i (Array.getElem?_eq_some_iff.1 hoi).1
          rw [hfsd i bi hbi] at hdp
          have hbi' : fs[i]? = some true := by
            rcases hdp with h | h
            · rw [hbi, h]
            · omega
          have hE : slc.getD t .any = st2.slots.getD t .any := by
            rw [end1 t (noC t i oi hoi hd hbi')]
            refine (T1.keep (l := (j, oj) :: l2) ⟨b, r, q2, q3, q4, q5⟩).2 t (fun p hp hd' => ?_) |>.symm
            have hpf : p ∈ fl := by rw [hsp]; exact List.mem_append_right _ hp
            have h4 := uniq p.1 p.2 ((inF p.1 p.2).1 hpf).1 hd'
            rcases List.mem_cons.1 hp with h | h
            · rw [h] at h4; simp only at h4; omega
            · have := pl2 p.1 p.2 h; omega
          rw [hE]
          exact (hslot t).1 ⟨i, by rw [hoi]; exact hd, hli⟩
        · exact initial hun (notin (by omega))
      · have := noW t hw
        rw [q1.keep.2 t (fun p hp => this.1 p.1 p.2 (by rw [hsp]; simp [hp]))]
        exact (hslot t).2 (hnoT t hw)
    refine fin st slc b r k q1.keep.1 q2 hlook (fun hb he => ?_) (fun hb => ⟨q4 hb, rfl⟩) ht1 ht2 hk (fun m p hp => ?_) (fun t hd htl => ?_)
    · have toS2 : OpK P n0 w a.eval oj B η r → OpS2 P n0 Bx w a.eval oj B η r st.heap := fun h N hN =>
        h N (fun v w' g hr hf => hN v w' B η g.on (fun _ h => .inl h) (fun _ _ h => h) (g.below hinv.base.1) (hinv.gk g) hr hf)
      rcases q3 hb with ⟨hA, hop⟩ | ⟨hbare, hop⟩ | hop | ⟨hlow, hlv, hop⟩ | ⟨W', hW, hop⟩
      rotate_right
      · have hoff := ht1.off W' hW
        refine toS2 (hop n0 Bx w B η a.eval (fun f => rfl) (hinv.le (by simp [maskW_length, hoff.1]) (fun i e' he' => ?_)) he)
        rw [List.getElem?_map, maskW_get, Option.map_map, Option.map_eq_some_iff] at he'
        obtain ⟨e0, h5, rfl⟩ := he'
        by_cases hc : W'.contains (0 + i) = true
        · have hlt : i < st.heap.length := by rw [hoff.1]; exact (List.getElem?_eq_some_iff.1 h5).1
          exact ⟨exE st.heap[i], by rw [List.getElem?_map, List.getElem?_eq_getElem hlt]; rfl, .inl (by simp only [Function.comp, hc, if_true]; rfl)⟩
        · have h6 := hoff.2 i (by simpa using hc)
          rw [show (⟨sl1, H0⟩ : S2).heap = H0 from rfl, h5] at h6
          exact ⟨exE e0, by rw [List.getElem?_map, h6]; rfl, .inr (.inl (by simp only [Function.comp, hc]; rfl))⟩
      · -- all that writes waits for it
        have hk0 : k = 0 := by
          cases hcc : cl with
          | nil => rw [hcc] at hk; simpa using hk
          | cons p rest =>
            obtain ⟨c, co⟩ := p
            rw [hcc] at hA
            rcases Nat.eq_zero_or_pos k with h | h
            · exact h
            · have h5 := (hprog 0 (c, co) (by rw [hcc]; rfl)).2 h
              have h6 := ancB_spec hi.closed _ c j hA h5
              rw [hjunF] at h6; cases h6
        subst hk0
        have hst : st = ⟨sl1, H0⟩ := ht1
        rw [hst] at hinv
        exact toS2 (hop n0 Bx w B η a.eval (fun f => rfl) hinv he)
      rotate_left
      · exact toS2 (hop st.heap n0 Bx w B η a.eval (fun f => rfl) hinv he)
      · have hkeep := ht1.low
        rw [hlow] at hkeep
        have hle : H0.length ≤ η.length := by
          rw [hinv.len, List.length_map]
          rcases Nat.eq_zero_or_pos H0.length with h | h
          · omega
          · have h5 := hkeep (H0.length - 1) (by omega)
            rw [show (⟨sl1, H0⟩ : S2).heap = H0 from rfl, List.getElem?_eq_getElem (show H0.length - 1 < H0.length by omega)] at h5
            have := (List.getElem?_eq_some_iff.1 h5).1
            omega
        have hg : ∀ id, id < H0.length → (η.take H0.length).getD id undef = η.getD id undef := fun id hid => by
          simp [List.getD_eq_getElem?_getD, List.getElem?_take, hid]
        have hent : ∀ id e, ((H0.map maskE).map exE)[id]? = some e → id < H0.length ∧ ((st.heap.map exE)[id]? = some e ∨ e = .dead) ∧ ∀ cells T, e = .box cells T → cells.all AV.imm0 = true := fun id e he => by
          rw [List.getElem?_map, List.getElem?_map, Option.map_map, Option.map_eq_some_iff] at he
          obtain ⟨e0, h5, rfl⟩ := he
          have hid := (List.getElem?_eq_some_iff.1 h5).1
          have h6 := hkeep id hid
          rw [show (⟨sl1, H0⟩ : S2).heap = H0 from rfl, h5] at h6
          refine ⟨hid, ?_⟩
          cases e0 with
          | dead => exact ⟨.inr rfl, fun cells T h => by cases h⟩
          | own d l E => exact ⟨.inr rfl, fun cells T h => by cases h⟩
          | itr s p => exact ⟨.inr rfl, fun cells T h => by cases h⟩
          | box l T =>
            by_cases hl : l.all immV = true
            · have hm : exE (maskE (.box l T)) = exE (.box l T) := by simp only [maskE, hl, if_true]
              refine ⟨.inl ?_, fun cells T' h => ?_⟩
              · show (st.heap.map exE)[id]? = some (exE (maskE (.box l T)))
                rw [hm, List.getElem?_map, h6]; rfl
              · have h : exE (maskE (.box l T)) = _ := h
                rw [hm] at h
                injection h with h7 h8
                rw [← h7]; exact immV_ok l hl
            · have hm : exE (maskE (.box l T)) = .dead := by simp only [maskE, hl]; rfl
              refine ⟨.inr hm, fun cells T' h => ?_⟩
              have h : exE (maskE (.box l T)) = _ := h
              rw [hm] at h; cases h
        have hinv0 : Inv n0 Bx w B (η.take H0.length) ((H0.map maskE).map exE) := by
          refine ⟨by simp; omega, hinv.base, hinv.sub, hinv.lt, fun id e he => ?_, fun i j ei ej hij hi' hj' li lj b hb => ?_⟩
          · obtain ⟨hid, h5, h6⟩ := hent id e he
            rw [hg id hid]
            rcases h5 with h5 | rfl
            · have h7 := hinv.ent id e h5
              cases e with
              | dead => trivial
              | box cells T =>
                obtain ⟨b, us, g1, g2, g3, g4, g5, g6⟩ := h7
                exact ⟨b, us, g1, g2, g3, g4, g5, g6.1, fun i x hx => by
                  obtain ⟨u, e1, e2⟩ := g6.2 i x hx
                  exact ⟨u, e1, e2.bare0 (List.all_eq_true.1 (h6 cells T rfl) x (List.mem_of_getElem? hx))⟩⟩
              | own cells E k =>
                exfalso
                rw [List.getElem?_map, List.getElem?_map, Option.map_map, Option.map_eq_some_iff] at he
                obtain ⟨e0, _, h9⟩ := he
                cases e0 with
                | dead => cases h9
                | own d l E => cases h9
                | itr s p => cases h9
                | box l T =>
                  simp only [Function.comp, maskE] at h9
                  split at h9 <;> cases h9
              | itr s p =>
                exfalso
                rw [List.getElem?_map, List.getElem?_map, Option.map_map, Option.map_eq_some_iff] at he
                obtain ⟨e0, _, h9⟩ := he
                cases e0 with
                | dead => cases h9
                | own d l E => cases h9
                | itr s p => cases h9
                | box l T =>
                  simp only [Function.comp, maskE] at h9
                  split at h9 <;> cases h9
            · trivial
          · obtain ⟨a1, a2, _⟩ := hent i ei hi'
            obtain ⟨b1, b2, _⟩ := hent j ej hj'
            rcases a2 with a2 | rfl
            · rcases b2 with b2 | rfl
              · rw [hg j b1]
                rw [hg i a1] at hb
                exact hinv.sep i j ei ej hij a2 b2 li lj b hb
              · cases lj
            · cases li
        have hsub : ∀ (id : Nat) v, (η.take H0.length)[id]? = some v → η[id]? = some v := fun id v hv => by
          rw [List.getElem?_take] at hv
          split at hv
          · exact hv
          · cases hv
        have hget : ∀ (id : Nat) v, id < H0.length → η[id]? = some v → (η.take H0.length)[id]? = some v := fun id v hid hv => by
          rw [List.getElem?_take, if_pos hid]; exact hv
        have hrel : ∀ (x : V) (v : Value), lowV H0.length x = true → Rel2 w B η x v → Rel2 w B (η.take H0.length) x v := fun x v hx hr => by
          unfold lowV at hx
          split at hx
          · have hr0 : Rel w B η (.box _ _) v := hr
            cases hr0 with
            | box _ _ _ b h => exact Rel.box _ _ _ b (hget _ _ (by simpa using hx) h)
          · have hr0 : Rel w B η (.box _ _) v := hr
            cases hr0 with
            | box _ _ _ b h => exact Rel.box _ _ _ b (hget _ _ (by simpa using hx) h)
          · exact bareV_rel hx hr
        refine toS2 fun N hN => hop n0 Bx w B (η.take H0.length) a.eval (fun f => rfl) hinv0 (fun x hx => ⟨hrel _ _ (hlv x hx) (he x hx).1, (he x hx).2⟩) N (fun v w' g hr hf => hN v w' g (hr.on (On.refl B w') (fun _ h => .inl h) hsub) hf)
      rotate_left
      · have hinv0 : Inv n0 Bx w B [] (([] : List E2).map exE) := ⟨rfl, hinv.base, hinv.sub, hinv.lt, fun id e h => by simp at h, fun i j ei ej _ h => by simp at h⟩
        refine toS2 fun N hN => hop n0 Bx w B [] a.eval (fun f => rfl) hinv0 (fun x hx => ⟨bareV_rel (hbare x hx) (he x hx).1, (he x hx).2⟩) N (fun v w' g hr hf => hN v w' g (hr.on (On.refl B w') (fun _ h => .inl h) (fun id v h => by simp at h)) hf)
    · have hmc := List.mem_of_getElem? hp
      have hne : j ≠ p.1 := fun e => by
        have := ((inC p.1 p.2).1 hmc).2
        rw [← e, hbj] at this; cases this
      rw [getD_set_ne false hne]
      exact hprog m p hp
    · rw [end1 t (noC t j oj hoj hd hbj)]
      have h6 := q5.keep.2 t (fun p hp hd' => by
        have hpf : p ∈ fl := by rw [hsp]; exact List.mem_append_right _ (List.mem_cons_of_mem _ hp)
        have := once' honce (show (ops[p.1]?).bind (·.dst) = some t by rw [((inF p.1 p.2).1 hpf).1]; exact hd') (show (ops[j]?).bind (·.dst) = some t by rw [hoj]; exact hd)
        have h3 := pl2 p.1 p.2 hp
        omega)
      rw [h6, hd, setV_own (by rw [q1.keep.1]; exact htl)]
  | false =>
    -- the next of the others
    obtain ⟨m, hm⟩ : ∃ m : Nat, cl[m]? = some (j, oj) := by
      obtain ⟨m, hm, e⟩ := List.getElem_of_mem ((inC j oj).2 ⟨hoj, hbj⟩)
      exact ⟨m, by rw [List.getElem?_eq_getElem hm, e]⟩
    have hmk : m = k := by
      have h5 : ¬ m < k := fun h => by
        have := (hprog m (j, oj) hm).2 h
        rw [hjunF] at this; cases this
      rcases Nat.lt_or_ge k m with h | h
      · have hm1 : m - 1 < cl.length := by have := (List.getElem?_eq_some_iff.1 hm).1; omega
        have h6 := chainB2_spec cl hchain (m - 1) _ _ (List.getElem?_eq_getElem hm1) (by rw [show m - 1 + 1 = m by omega]; exact hm)
        have h7 := ready_anc hi.closed hoj hall h6
        have h8 := (hprog (m - 1) _ (List.getElem?_eq_getElem hm1)).1 h7
        omega
      · omega
    subst hmk
    have hmlt : m < cl.length := (List.getElem?_eq_some_iff.1 hm).1
    have hdrop : cl.drop m = (j, oj) :: cl.drop (m + 1) := by
      rw [List.drop_eq_getElem_cons hmlt]
      rw [List.getElem?_eq_getElem hmlt] at hm
      injection hm with hm
      rw [hm]
    rw [hdrop] at ht2
    obtain ⟨b, r, H', q2, q3, q4, q4', q5⟩ := ht2
    have hpw := clR_pair ops.toList fs 0
    rw [← hcl] at hpw
    have htd : cl = cl.take m ++ (j, oj) :: cl.drop (m + 1) := by rw [← hdrop, List.take_append_drop]
    rw [htd] at hpw
    obtain ⟨pw1, pw2, pw3⟩ := List.pairwise_append.1 hpw
    have pl1 : ∀ i o, (i, o) ∈ cl.take m → i < j := fun i o hm => pw3 (i, o) hm (j, oj) List.mem_cons_self
    have pl2 : ∀ i o, (i, o) ∈ cl.drop (m + 1) → j < i := fun i o hm => (List.pairwise_cons.1 pw2).1 (i, o) hm
    have inCl : ∀ p, p ∈ cl.take m → p ∈ cl := fun p hp => List.mem_of_mem_take hp
    have inCd : ∀ p, p ∈ cl.drop (m + 1) → p ∈ cl := fun p hp => List.mem_of_mem_drop hp
    have hslen : st.slots.length = sl0.length := by rw [ht1.keep.1]; exact hlen1
    have hlook : ∀ t ∈ oj.looksAt ops, Rel2 w B η (st.slots.getD t .any) (a.tmps.getD t undef) ∧ FreshV n0 (ex (st.slots.getD t .any)) (a.tmps.getD t undef) := fun t ht => by
      by_cases hw : ∃ (i : Nat) (oi : Oper), ops[i]? = some oi ∧ oi.dst = some t
      · obtain ⟨i, oi, hoi, hd⟩ := hw
        have uniq : ∀ i' o', ops[i']? = some o' → o'.dst = some t → i' = i := fun i' o' h h' => once' honce (show (ops[i']?).bind (·.dst) = some t by rw [h]; exact h') (show (ops[i]?).bind (·.dst) = some t by rw [hoi]; exact hd)
        obtain ⟨bi, hbi⟩ := hfsj i (Array.getElem?_eq_some_iff.1 hoi).1
        have notin : ¬ i < j → ∀ p ∈ cl.take m, p.2.dst ≠ some t := fun hlt p hp hd' => by
          have := uniq p.1 p.2 ((inC p.1 p.2).1 (inCl p hp)).1 hd'
          have h3 := pl1 p.1 p.2 hp
          omega
        have initial : listed.getD i false = false → fs[i]? = some false → ¬ i < j → Rel2 w B η (st.slots.getD t .any) (a.tmps.getD t undef) ∧ FreshV n0 (ex (st.slots.getD t .any)) (a.tmps.getD t undef) := fun hun hf hlt => by
          rw [ht1.keep.2 t (notin hlt)]
          show Rel2 w B η (sl1.getD t .any) _ ∧ FreshV n0 (ex (sl1.getD t .any)) _
          rw [ini1 t (noF t i oi hoi hd hf)]
          exact (hslot t).2 (fun i' hd' => by
            obtain ⟨o', ho', hd'⟩ := Option.bind_eq_some_iff.1 hd'
            rw [uniq i' o' ho' hd']; exact hun)
        rcases wr t ht i oi hoi hd with h | ⟨hlt, hli⟩ | ⟨hlt, hun⟩
        · subst h; exact initial hjunF hbj (by omega)
        · have hE : st.slots.getD t .any = st2.slots.getD t .any := by
            refine (T2.keep (l := (j, oj) :: cl.drop (m + 1)) ⟨b, r, H', q2, q3, q4, q4', q5⟩).2 t (fun p hp hd' => ?_) |>.symm
            rcases List.mem_cons.1 hp with h | h
            · rw [h] at hd'
              have := uniq j oj hoj hd'
              omega
            · have h4 := uniq p.1 p.2 ((inC p.1 p.2).1 (inCd p h)).1 hd'
              have := pl2 p.1 p.2 h
              omega
          rw [hE]
          exact (hslot t).1 ⟨i, by rw [hoi]; exact hd, hli⟩
        · have hdp := depB_spec hdep hoi hoj hd ht (by omega)
          rw [hfsd j false hbj, if_neg (by simp), hfsd i bi hbi] at hdp
          refine initial hun ?_ (by omega)
          rcases hdp with h | h
          · rw [hbi, h]
          · omega
      · have := noW t hw
        rw [ht1.keep.2 t (fun p hp => this.2 p.1 p.2 (inCl p hp))]
        show Rel2 w B η (sl1.getD t .any) _ ∧ FreshV n0 (ex (sl1.getD t .any)) _
        rw [ini1 t this.1]
        exact (hslot t).2 (hnoT t hw)
    refine fin ⟨setV st.slots oj.dst r, H'⟩ st.slots b r (m + 1) hslen q2 hlook (fun hb he => q3 hb n0 Bx w B η a.eval (fun f => rfl) hinv he) (fun hb => ⟨(q4 hb).1, (q4 hb).2⟩) ?_ q5 hmlt (fun m' p hp => ?_) (fun t hd htl => ?_)
    · rw [List.take_add_one, hm]
      exact T2.snoc ht1 ⟨b, r, H', q2, q3, q4, q4', rfl⟩
    · by_cases he : p.1 = j
      · have hpm : m' = m := by
          have hmc := List.mem_of_getElem? hp
          have h9 : p = (j, oj) := by
            have := ((inC p.1 p.2).1 hmc).1
            rw [he, hoj] at this
            injection this with this
            exact Prod.ext he this.symm
          rw [h9] at hp
          obtain ⟨g1, g2⟩ := List.getElem?_eq_some_iff.1 hp
          obtain ⟨g3, g4⟩ := List.getElem?_eq_some_iff.1 hm
          have hnd : cl.Nodup := by
            have hpw' := clR_pair ops.toList fs 0
            rw [← hcl] at hpw'
            exact hpw'.imp (fun hlt e => by rw [e] at hlt; exact Nat.lt_irrefl _ hlt)
          exact (List.getElem_inj hnd).1 (g2.trans g4.symm)
        subst hpm
        rw [he]
        simp [hjl]
      · rw [getD_set_ne false (Ne.symm he), hprog m' p hp]
        constructor
        · intro h; omega
        · intro h
          rcases Nat.lt_or_ge m' m with h' | h'
          · exact h'
          · have : m' = m := by omega
            subst this
            rw [hm] at hp
            injection hp with hp
            exact absurd (by rw [← hp]) he
    · have h6 := q5.keep.2 t (fun p hp hd' => by
        have := once' honce (show (ops[p.1]?).bind (·.dst) = some t by rw [((inC p.1 p.2).1 (inCd p hp)).1]; exact hd') (show (ops[j]?).bind (·.dst) = some t by rw [hoj]; exact hd)
        have h3 := pl2 p.1 p.2 hp
        omega)
      simp only at h6
      rw [h6, hd, setV_own (by rw [hslen]; exact htl)]
theorem draw_ok (hm : P.follows .mixedOrders = true) {id : Nat} {inl : FuncId → Bool} (hB : drawB inl ops = true) {st0 st2 : S2} {sl1 : List V}
    (h1 : T1 P ops (clR 0 ops.toList (frontsA inl ops)) W st0.heap (flR 0 ops.toList (frontsA inl ops)) st0.slots sl1) (h2 : T2 P ops (lowN (clR 0 ops.toList (frontsA inl ops)) st0.heap) W (clR 0 ops.toList (frontsA inl ops)) ⟨sl1, st0.heap⟩ st2)
    {n0 m0 : Nat} {Bx : List Nat} {ds : List Deferred} {a : Act} {w : World} {B : List Nat} {η : List Value} {Q : Exit → Act → World → Prop} (hs : SimK n0 Bx ds st0 a w B η)
    (hQ : ∀ a' w' B' η', SimK n0 Bx ds st2 a' w' B' η' → Goes n0 m0 w B η w' B' η' → Q .normal a' w') : (Code.region id ops true).wp P Q a w := by
  refine wp_region_any hm ?_
  have g0 : Gr w { w with drawn := w.drawn + 1 } := ⟨rfl, rfl, rfl, Nat.le_refl _, fun _ _ => rfl⟩
  have hB' := hB
  simp only [drawB, Bool.and_eq_true, beq_iff_eq] at hB'
  obtain ⟨⟨⟨⟨⟨⟨hsel, hback⟩, honce⟩, hdata⟩, hchain⟩, hdep⟩, hfsl⟩ := hB'
  have hcount : ((List.range ops.size).filter fun i => !(Array.replicate ops.size false).getD i false).length = ops.size := by
    rw [List.filter_eq_self.2 (fun i _ => by rw [getD_replicate_false]; rfl), List.length_range]
  have inv0 : HeadInv .any ops ops.size (Array.replicate ops.size false) :=
    ⟨by simp, fun j oj _ hl => (by rw [getD_replicate_false] at hl; cases hl), fun t ht1 ht2 => by omega⟩
  refine wpAny_inv (DInv P ops (clR 0 ops.toList (frontsA inl ops)) W st0.slots sl1 st0.heap st2 n0 m0 Bx ds { w with drawn := w.drawn + 1 } B η) hback (dinv_step rfl rfl hsel hback honce hdata hchain hdep hfsl h1 h2) ?_ ops.size _ a _ hcount inv0 ?_
  · intro listed a' w' hi hall ⟨k, st, B', η', t1, t2, hk, hprog, hdef, hsz, hinv, hgo, hslot⟩
    have hkl : k = (clR 0 ops.toList (frontsA inl ops)).length := by
      rcases Nat.lt_or_ge k (clR 0 ops.toList (frontsA inl ops)).length with h | h
      · have h3 := hprog k _ (List.getElem?_eq_getElem h)
        have h4 := (clR_mem ops.toList (frontsA inl ops) 0 _ _).1 (List.getElem_mem h)
        have h5 : ((clR 0 ops.toList (frontsA inl ops))[k]).1 < ops.size := by
          have := (List.getElem?_eq_some_iff.1 h4.2.1).1
          simpa using this
        have := h3.1 (hall _ h5)
        omega
      · omega
    rw [hkl, List.drop_length] at t2
    have t2 : st2 = st := t2
    subst t2
    refine hQ a' w' B' η' ⟨hdef, hinv, ?_⟩ ⟨(On.gr g0).trans hgo.on (fun _ h => .inl h), fun b hb => hgo.hB b hb, hgo.hη, Below.trans (g0.mono hs.inv.base.1) hgo.below⟩
    have key : ∀ t, Rel2 w' B' η' (st2.slots.getD t .any) (a'.tmps.getD t undef) ∧ FreshV n0 (ex (st2.slots.getD t .any)) (a'.tmps.getD t undef) := fun t => by
      by_cases hw : ∃ (i : Nat) (oi : Oper), ops[i]? = some oi ∧ oi.dst = some t
      · obtain ⟨i, oi, hoi, hd⟩ := hw
        exact (hslot t).1 ⟨i, by rw [hoi]; exact hd, hall i (Array.getElem?_eq_some_iff.1 hoi).1⟩
      · have nf : ∀ p ∈ flR 0 ops.toList (frontsA inl ops), p.2.dst ≠ some t := fun p hp hd => hw ⟨p.1, p.2, by have := ((flR_mem ops.toList (frontsA inl ops) 0 p.1 p.2).1 hp).2.1; simpa using this, hd⟩
        have nc : ∀ p ∈ clR 0 ops.toList (frontsA inl ops), p.2.dst ≠ some t := fun p hp hd => hw ⟨p.1, p.2, by have := ((clR_mem ops.toList (frontsA inl ops) 0 p.1 p.2).1 hp).2.1; simpa using this, hd⟩
        rw [h2.keep.2 t nc]
        show Rel2 w' B' η' (sl1.getD t .any) _ ∧ FreshV n0 (ex (sl1.getD t .any)) _
        rw [h1.keep.2 t nf]
        exact (hslot t).2 (fun i hd => by
          obtain ⟨o, ho, hd⟩ := Option.bind_eq_some_iff.1 hd
          exact absurd ⟨i, o, ho, hd⟩ hw)
    refine ⟨?_, fun t => (key t).1, fun t => (key t).2⟩
    rw [hsz, h2.keep.1]
    exact h1.keep.1
  · refine ⟨0, ⟨sl1, st0.heap⟩, B, η, rfl, h2, Nat.zero_le _, fun m p hp => ⟨fun h => (by rw [getD_replicate_false] at h; cases h), fun h => by omega⟩, hs.defers, hs.slots.size.symm, hs.inv.gr g0, Goes.refl _ _ _ _ _, fun t => ⟨fun ⟨i, _, h⟩ => (by rw [getD_replicate_false] at h; cases h), fun _ => ⟨(hs.slots.rel t).gk (Gk.gr (n0 := n0) g0), hs.slots.fresh t⟩⟩⟩
end
end Go.Proofs.YtfaocnboildjbaaDoor
