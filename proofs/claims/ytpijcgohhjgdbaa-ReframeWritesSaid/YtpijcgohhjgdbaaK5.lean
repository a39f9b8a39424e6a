/-
  Operations that write, on typed values; calls by contract.
-/
import Derived.Test.YtpijcgohhjgdbaaK4
namespace Go.Proofs.Ytpijcgohhjgdbaa
set_option maxRecDepth 100000
open Go.RowKit
set_option linter.unusedVariables false
set_option linter.unusedSimpArgs false

def zeroP (P : Program) (t : TypeId) : Option Value := pureRun P (zeroValue t)
/-- Less is known of the second. -/
def EntLe (e e' : Ent) : Prop := e' = .dead ∨ e = e' ∨ (∃ l m T, e = .box l T ∧ e' = .box m T ∧ Wk l m) ∨ (∃ l m E k, e = .own l E k ∧ e' = .own m E k ∧ Wk l m)
theorem Wk.len {l m : List AV} (h : Wk l m) {w : World} {B : List Nat} {η us : List Value} (hl : RelL w B η l us) : m.length = l.length := by
  rw [← (h w B η us hl).1, hl.1]
theorem EntLe.refl (e : Ent) : EntLe e e := .inr (.inl rfl)
theorem EntLe.live {e e' : Ent} (h : EntLe e e') (hl : e'.live = true) : e.live = true := by
  rcases h with rfl | rfl | ⟨l, m, T, rfl, rfl, _⟩ | ⟨l, m, E, k, rfl, rfl, _⟩
  · cases hl
  · exact hl
  · rfl
  · rfl
theorem EntOK.le {n0 : Nat} {Bx : List Nat} {w : World} {B : List Nat} {η : List Value} {v : Value} {e e' : Ent} (h : EntOK n0 Bx w B η v e) (hle : EntLe e e') : EntOK n0 Bx w B η v e' := by
  rcases hle with rfl | rfl | ⟨l, m, T, rfl, rfl, hw⟩ | ⟨l, m, E, k, rfl, rfl, hw⟩
  · trivial
  · exact h
  · obtain ⟨b, us, h1, h2, h3, h4, h5, h6⟩ := h
    exact ⟨b, us, h1, h2, h3, h4, h5, hw w B η us h6⟩
  · obtain ⟨n, us, h1, h2, h3, h4⟩ := h
    exact ⟨n, us, h1, hw w B η us h2, h3, h4⟩
theorem Inv.le {n0 : Nat} {Bx : List Nat} {w : World} {B : List Nat} {η : List Value} {H H' : List Ent} (inv : Inv n0 Bx w B η H) (hlen : H'.length = H.length) (hle : ∀ (i : Nat) e', H'[i]? = some e' → ∃ e, H[i]? = some e ∧ EntLe e e') : Inv n0 Bx w B η H' := by
  refine ⟨by rw [hlen]; exact inv.len, inv.base, inv.sub, inv.lt, fun i e' he => ?_, fun i j ei ej hij hi hj hli hlj => ?_⟩
  · obtain ⟨e, h1, h2⟩ := hle i e' he
    exact (inv.ent i e h1).le h2
  · obtain ⟨e, h1, h2⟩ := hle i ei hi
    obtain ⟨f, h3, h4⟩ := hle j ej hj
    exact inv.sep i j e f hij h1 h3 (h2.live hli) (h4.live hlj)
/-- What an operation does, also one that writes. -/
def OpS2 (P : Program) (n0 : Nat) (Bx : List Nat) (w : World) (ρ : Operand → Value) (o : Oper) (B : List Nat) (η : List Value) (r : V) (H' : List E2) : Prop :=
  ∀ N : Value → World → Prop, (∀ v w' B' η', On B w w' → (∀ b ∈ B', b ∈ B ∨ w.heap.size ≤ b) → (∀ (id : Nat) v, η[id]? = some v → η'[id]? = some v) → Below n0 w w' → Inv n0 Bx w' B' η' (H'.map exE) → Rel2 w' B' η' r v → FreshV n0 (ex r) v → N v w') → Oper.val P ρ o w N
def DoesS (P : Program) (H : List E2) (ρ : Operand → V) (o : Oper) (r : V) (H' : List E2) : Prop :=
  ∀ (n0 : Nat) (Bx : List Nat) (w : World) (B : List Nat) (η : List Value) (ρv : Operand → Value), Inv n0 Bx w B η (H.map exE) → (∀ x ∈ o.op.operands, Rel2 w B η (ρ x) (ρv x) ∧ FreshV n0 (ex (ρ x)) (ρv x)) → OpS2 P n0 Bx w ρv o B η r H'
section
variable {P : Program} {H : List E2} {ρ : Operand → V} {o : Oper} {R : Type}
theorem Does.s {r : V} (h : Does P H ρ o r) : DoesS P H ρ o r H := fun n0 Bx w B η ρv inv he N hN =>
  h n0 Bx w B η ρv inv he N (fun v w' g hr hf => hN v w' B η g.on (fun _ h => .inl h) (fun _ _ h => h) (g.below inv.base.1) (inv.gk g) hr hf)
theorem OpS.to {n0 : Nat} {Bx : List Nat} {w : World} {ρv : Operand → Value} {B : List Nat} {η : List Value} {r : V} {H1 : List Ent} {H' : List E2} (h : OpS P n0 Bx w ρv o B η (ex r) H1) (hp : r.plain = true) (hlen : H'.length = H1.length) (hle : ∀ (i : Nat) e', H'[i]? = some e' → ∃ e, H1[i]? = some e ∧ EntLe e (exE e')) : OpS2 P n0 Bx w ρv o B η r H' := fun N hN =>
  h N fun v w' B' η' h1 h2 h3 h4 h5 h6 h7 => hN v w' B' η' h1 h2 h3 h4 (h5.le (by simp [hlen]) (fun i e' he => by
    rw [List.getElem?_map, Option.map_eq_some_iff] at he
    obtain ⟨e2, q1, rfl⟩ := he
    exact hle i e2 q1)) (Rel2.of hp h6) h7
theorem le_set {H1 : List E2} {id : Nat} {e e1 : E2} {f : Ent} (h : EntLe f (exE e1)) : ∀ (i : Nat) e', (H1.set id e1)[i]? = some e' → ∃ e, ((H1.map exE).set id f)[i]? = some e ∧ EntLe e (exE e') := by
  intro i e' he
  rw [List.getElem?_set] at he ⊢
  split at he
  · rename_i hi
    subst hi
    split at he
    · rename_i hlt
      injection he with he; subst he
      simp only [if_true, List.length_map]
      rw [if_pos hlt]
      exact ⟨f, rfl, h⟩
    · cases he
  · rename_i hi
    rw [if_neg hi, List.getElem?_map, he]
    exact ⟨_, rfl, .refl _⟩
theorem le_push {H1 : List E2} {H2 : List Ent} {e1 : E2} {f : Ent} (h0 : H2.length = H1.length) (h1 : ∀ (i : Nat) e', H1[i]? = some e' → ∃ e, H2[i]? = some e ∧ EntLe e (exE e')) (h : EntLe f (exE e1)) : ∀ (i : Nat) e', (H1 ++ [e1])[i]? = some e' → ∃ e, (H2 ++ [f])[i]? = some e ∧ EntLe e (exE e') := by
  intro i e' he
  rcases Nat.lt_or_ge i H1.length with hi | hi
  · rw [List.getElem?_append_left hi] at he
    rw [List.getElem?_append_left (by omega)]
    exact h1 i e' he
  · rw [List.getElem?_append_right hi] at he
    have hz : i - H1.length = 0 := by have := (List.getElem?_eq_some_iff.1 he).1; simp at this; omega
    rw [hz] at he
    injection he with he; subst he
    rw [List.getElem?_append_right (by omega), h0, hz]
    exact ⟨f, rfl, h⟩
theorem le_self (H1 : List E2) : ∀ (i : Nat) e', H1[i]? = some e' → ∃ e, (H1.map exE)[i]? = some e ∧ EntLe e (exE e') := fun i e' he => ⟨exE e', by rw [List.getElem?_map, he]; rfl, .refl _⟩
def boxK (P : Program) (H : List E2) (t : TypeId) (x : V) (k : V → List E2 → Tree R) : Tree R :=
  match toSegs x with
  | some s => k (.box H.length 0) (H ++ [.box (packT P t s) t])
  | none => .fail
/-- A box that nobody writes. -/
def boxImmK (P : Program) (t : TypeId) (x : V) (k : V → Tree R) : Tree R :=
  match toSegs x with
  | some s => if s.all immV = true then k (.adr (packT P t s)) else .fail
  | none => .fail
theorem boxImm_ok {P : Program} {n0 : Nat} {w : World} {B : List Nat} {η : List Value} {ρv : Operand → Value} {ρA : Operand → AV} {o : Oper} (hlt : ∀ b ∈ B, b < w.heap.size) (he : ∀ x ∈ o.op.operands, Rel w B η (ρA x) (ρv x)) {T : TypeId} {x : Operand} (ho : o.op = .box T x) (hnt : notTup (ρA x) = true) (himm : (ρA x).toL.all AV.imm0 = true) : OpOK P n0 w ρv o B η (.adr (ρA x).toL) := by
  intro N hN
  have hx := he x (by simp [ho, Op.operands])
  have hr := hx.toL (fun l e => by rw [e] at hnt; cases hnt)
  have g := gr_alloc (Gr.refl w) (.cells (ρv x).cells.toList.toArray T)
  unfold Oper.val
  have hrun : (execOp ρv o).run P w = .ok (.value (.pointer (some ⟨w.heap.size, 0, none⟩))) (w.alloc (.cells (ρv x).cells.toList.toArray T)) := by
    simp only [execOp, ho]
    rfl
  rw [hrun]
  refine hN _ _ (.gr g) (.adr _ _ _ (fun i => (ρv x).cells.toList.getD i undef) ⟨rfl, by simp, fun hb => ?_, fun j hj => ?_⟩ (fun j y hy => ?_))
  · have := hlt _ hb; simp at this
  · have hj' : j < (ρv x).cells.toList.length := by rw [← hr.1] at hj; exact hj
    rw [Addr.add_mid, Nat.zero_add, cell_of_row (w.alloc (.cells (ρv x).cells.toList.toArray T)) w.heap.size j (ρv x).cells.toList.toArray T (0, 0) (by show (w.heap.push _)[w.heap.size]? = _; simp)]
    rw [List.getElem?_toArray, List.getElem?_eq_getElem hj', List.getD_eq_getElem?_getD, List.getElem?_eq_getElem hj', Option.getD_some]
  · obtain ⟨u, q1, q2⟩ := hr.2 j y hy
    rw [List.getD_eq_getElem?_getD, q1, Option.getD_some]
    exact ((q2.bare0 (List.all_eq_true.1 himm y (List.mem_of_getElem? hy))) : Rel w B [] y u).gr g
theorem rel_adr_wk {w : World} {B : List Nat} {η : List Value} {l m : List AV} {v : Value} (hw : Wk l m) (hv : Rel w B η (.adr l) v) : Rel w B η (.adr m) v := by
  cases hv with
  | adr _ _ ad us ha hr =>
    have hl : RelL w B [] l ((List.range l.length).map us) := ⟨by simp, fun i y hy => ⟨us i, by simp [(List.getElem?_eq_some_iff.1 hy).1], hr i y hy⟩⟩
    have hm := hw w B [] _ hl
    have hlen : m.length = l.length := by have := hm.1; simpa using this.symm
    refine .adr _ _ ad us ⟨ha.spot, ha.lt, ha.out, fun i hi => ha.cell i (by omega)⟩ (fun i y hy => ?_)
    obtain ⟨u, q1, q2⟩ := hm.2 i y hy
    have hi : i < l.length := by rw [← hlen]; exact (List.getElem?_eq_some_iff.1 hy).1
    simp [hi] at q1
    rw [q1]; exact q2
theorem boxImmK_ok {t : TypeId} {x : Operand} {k : V → List E2 → Tree R} {res : R} (hp : Plain ρ o) (ho : o.op = .box t x) (h : (boxImmK P t (ρ x) fun r => k r H).run = some res) : ∃ r H', (k r H').run = some res ∧ DoesS P H ρ o r H' := by
  unfold boxImmK at h
  split at h
  · rename_i s hs
    obtain ⟨h1, h2, h3⟩ := toSegs_ok hs
    split at h
    · rename_i himm
      refine ⟨_, _, h, Does.s fun n0 Bx w B η ρv inv he => .of rfl (fun _ _ h => by simp [ex, ex0] at h) ?_⟩
      have := boxImm_ok (P := P) (n0 := n0) (ρA := fun y => eu (ρ y)) inv.lt (heu_of hp he) ho h2 (by rw [h1]; exact immV_ok s himm)
      rw [h1] at this
      refine this.mono fun w' v hv => ?_
      exact rel_adr_wk (packT_ok t s) hv
    · cases h
  · cases h
def allocK (P : Program) (H : List E2) (t : TypeId) (k : V → List E2 → Tree R) : Tree R :=
  match zeroP P t with
  | some v => k (.box H.length 0) (H ++ [.box (packT P t (v.cells.toList.map constV)) t])
  | none => .fail
def oneV : V → Bool
  | .c v => v.oneCell'
  | _ => true
theorem oneV_ok : ∀ (l : List V), l.all oneV = true → (segsA l).all AV.one = true
  | [], _ => rfl
  | x :: l, h => by
    simp only [List.all_cons, Bool.and_eq_true] at h
    rw [segsA_cons, List.all_append, oneV_ok l h.2, Bool.and_true]
    have h1 := h.1
    cases x <;> first | rfl | skip
    · simpa [segA, AV.one, oneV] using h1
    · rename_i d n a; exact flat_one d a.l
theorem boxK_ok {t : TypeId} {x : Operand} {k : V → List E2 → Tree R} {res : R} (hp : Plain ρ o) (ho : o.op = .box t x) (h : (boxK P H t (ρ x) k).run = some res) : ∃ r H', (k r H').run = some res ∧ DoesS P H ρ o r H' := by
  unfold boxK at h
  split at h
  · rename_i s hs
    obtain ⟨h1, h2, h3⟩ := toSegs_ok hs
    refine ⟨_, _, h, fun n0 Bx w B η ρv inv he => ?_⟩
    have := box_ok (P := P) (ρA := fun y => eu (ρ y)) inv (heu_of hp he) ho h2
    rw [h1] at this
    simp only [List.length_map] at this
    exact this.to (r := .box H.length 0) rfl (by simp) (le_push (by simp) (le_self H) (.inr (.inr (.inl ⟨_, _, _, rfl, rfl, packT_ok t s⟩))))
  · cases h
theorem allocK_ok {t : TypeId} {k : V → List E2 → Tree R} {res : R} (ho : o.op = .alloc t) (h : (allocK P H t k).run = some res) : ∃ r H', (k r H').run = some res ∧ DoesS P H ρ o r H' := by
  unfold allocK at h
  split at h
  · rename_i v hz
    refine ⟨_, _, h, fun n0 Bx w B η ρv inv he => ?_⟩
    have := alloc_ok (P := P) (ρ := ρv) inv ho hz
    rw [← segsA_const] at this
    simp only [List.length_map] at this
    exact this.to (r := .box H.length 0) rfl (by simp) (le_push (by simp) (le_self H) (.inr (.inr (.inl ⟨_, _, _, rfl, rfl, packT_ok t _⟩))))
  · cases h
def storeK (P : Program) (H : List E2) (t : TypeId) (a x : V) (k : V → List E2 → Tree R) : Tree R :=
  match toSegs x with
  | none => .fail
  | some s => if wL s = P.cellsOf t ∧ 0 < P.cellsOf t ∧ s.all oneV = true then (match a with
    | .box id off => (match H[id]? with
      | some (.box l T') => (match putV l off s with | some l' => k (.c undef) (H.set id (.box (packT P T' l') T')) | none => .fail)
      | _ => .fail)
    | .boxi id off d n i oo => (match H[id]? with
      | some (.box l T') => (match takeV big l off, dropV big l off with
        | some p, some (.arr d' n' a :: rr) => castK d' d (fun d => Arr (T d) n') a fun a => .bind (a.l[i]?) fun e => (match putV (enc d e) oo s with
          | some s' => decK d s' fun e' rest => if wL rest = 0 then k (.c undef) (H.set id (.box (p ++ .arr d n' (a.set i e') :: rr) T')) else .fail
          | none => .fail)
        | _, _ => .fail)
      | _ => .fail)
    | .oadr id d i oo => (match H[id]? with
      | some (.own d' l E) => castK d' d (fun d => List (T d)) l fun l => .bind (l[i]?) fun e => (match putV (enc d e) oo s with
          | some s' => decK d s' fun e' rest => if wL rest = 0 then k (.c undef) (H.set id (.own d (l.set i e') E)) else .fail
          | none => .fail)
      | _ => .fail)
    | _ => .fail) else .fail
theorem Arr.set_l {α : Type} {n : Nat} (a : Arr α n) (i : Nat) (x : α) : (a.set i x).l = a.l.set i x := rfl
theorem putL_mid {α : Type} (p c q : List α) (off : Nat) (l : List α) (h : off + l.length ≤ c.length) : putL (p ++ c ++ q) (p.length + off) l = p ++ putL c off l ++ q := by
  unfold putL
  rw [List.append_assoc p c q, List.take_append, List.take_of_length_le (by omega : p.length ≤ p.length + off), Nat.add_sub_cancel_left, List.take_append_of_le_length (by omega), List.drop_append, List.drop_eq_nil_of_le (by omega : p.length ≤ p.length + off + l.length), List.nil_append]
  rw [show p.length + off + l.length - p.length = off + l.length by omega, List.drop_append_of_le_length (by omega)]
  simp only [List.append_assoc]
/-- A part of one element is written. -/
theorem flat_put {d : Td} {l : List (T d)} {i oo : Nat} {e e' : T d} {s s' rest : List V} (he : l[i]? = some e) (hput : putV (enc d e) oo s = some s') (hw : Wk (segsA s') (cells d e' ++ segsA rest)) (hr : wL rest = 0) (pre post : List AV) :
    i * wd d + oo + (segsA s).length ≤ (flat d l).length ∧ Wk (putL (pre ++ flat d l ++ post) (pre.length + (i * wd d + oo)) (segsA s)) (pre ++ flat d (l.set i e') ++ post) := by
  obtain ⟨h1, h2⟩ := putV_ok hput
  rw [segsA_enc] at h1 h2
  have hi : i < l.length := (List.getElem?_eq_some_iff.1 he).1
  have hr0 : segsA rest = [] := List.eq_nil_of_length_eq_zero (by rw [wL_eq]; exact hr)
  rw [hr0, List.append_nil] at hw
  rw [cells_length] at h2
  have hle : i * wd d + wd d ≤ (flat d l).length := by rw [flat_length, ← Nat.succ_mul]; exact Nat.mul_le_mul_right _ hi
  have hsp : flat d l = flat d (l.take i) ++ cells d e ++ flat d (l.drop (i + 1)) := by
    rw [List.append_assoc, ← flat_drop_at he, flat_take, List.take_append_drop]
  have hpl : (flat d (l.take i)).length = i * wd d := by rw [flat_length, List.length_take, Nat.min_eq_left (by omega)]
  refine ⟨by omega, ?_⟩
  rw [putL_mid _ _ _ _ _ (by omega)]
  have e1 : putL (flat d l) (i * wd d + oo) (segsA s) = flat d (l.take i) ++ segsA s' ++ flat d (l.drop (i + 1)) := by
    conv => lhs; rw [hsp]
    rw [← hpl, putL_mid _ _ _ _ _ (by rw [cells_length]; exact h2), ← h1]
  have e2 : flat d (l.set i e') = flat d (l.take i) ++ cells d e' ++ flat d (l.drop (i + 1)) := by
    rw [List.set_eq_take_append_cons_drop, if_pos hi, flat_append, flat_cons, List.append_assoc]
  rw [e1, e2]
  exact ((Wk.refl _).app (((Wk.refl _).app hw).app (Wk.refl _))).app (Wk.refl _)
theorem storeK_ok {t : TypeId} {a x : Operand} {k : V → List E2 → Tree R} {res : R} (hp : Plain ρ o) (ho : o.op = .store t a x) (h : (storeK P H t (ρ a) (ρ x) k).run = some res) : ∃ r H', (k r H').run = some res ∧ DoesS P H ρ o r H' := by
  unfold storeK at h
  split at h
  · cases h
  · rename_i s hs
    obtain ⟨s1, s2, s3⟩ := toSegs_ok hs
    split at h
    · rename_i hc
      obtain ⟨c1, c2, c3⟩ := hc
      have hl : (segsA s).length = P.cellsOf t := by rw [wL_eq]; exact c1
      have h1 := oneV_ok s c3
      split at h
      · rename_i id off ha
        split at h
        · rename_i l T' hH
          split at h
          · rename_i l' hput
            obtain ⟨p1, p2⟩ := putV_ok hput
            refine ⟨_, _, h, fun n0 Bx w B η ρv inv he => ?_⟩
            have := storeBox_ok (ρA := fun y => eu (ρ y)) inv (heu_of hp he) ho (by simp only [ha]; rfl) (exH hH) (.inr s1) s2 hl c2 p2 h1
            rw [← p1] at this
            exact this.to (r := .c undef) rfl (by simp) (le_set (e := .dead) (.inr (.inr (.inl ⟨_, _, _, rfl, rfl, packT_ok T' l'⟩))))
          · cases h
        · cases h
      · rename_i id off d n i oo ha
        split at h
        · rename_i l T' hH
          split at h
          · rename_i p d' n' ar rr hpre hpost
            obtain ⟨e1, h⟩ := castK_run h
            subst e1
            obtain ⟨e, hel, h⟩ := Tree.run_bind h
            split at h
            · rename_i s' hput
              obtain ⟨e', rest, h3, h4⟩ := decK_ok _ _ _ _ h
              split at h3
              · rename_i hrest
                obtain ⟨q1, q2⟩ := takeV_ok _ _ _ _ hpre
                obtain ⟨q3, q4⟩ := dropV_ok _ _ _ _ hpost
                have hsp : segsA l = segsA p ++ flat d' ar.l ++ segsA rr := by
                  have : segsA l = (segsA l).take off ++ (segsA l).drop off := (List.take_append_drop _ _).symm
                  rw [this, ← q1, ← q3, List.append_assoc]; rfl
                have hpl : (segsA p).length = off := by rw [q1, List.length_take]; omega
                obtain ⟨f0, f2⟩ := flat_put (e' := e') hel hput h4 hrest (segsA p) (segsA rr)
                have f1 : i * wd d' + oo + (segsA s).length ≤ (flat d' ar.l).length := f0
                refine ⟨_, _, h3, fun n0 Bx w B η ρv inv he => ?_⟩
                have := storeBox_ok (ρA := fun y => eu (ρ y)) inv (heu_of hp he) ho (by simp only [ha]; rfl) (exH hH) (.inr s1) s2 hl c2 (by have hq := congrArg List.length hsp; simp only [List.length_append] at hq; omega) h1
                rw [hsp, ← hpl, Nat.add_assoc] at this
                refine this.to (r := .c undef) rfl (by simp) (le_set (e := .dead) (.inr (.inr (.inl ⟨_, _, _, rfl, rfl, ?_⟩))))
                have e3 : segsA (p ++ .arr d' n' (ar.set i e') :: rr) = segsA p ++ flat d' (ar.l.set i e') ++ segsA rr := by
                  rw [segsA_append, segsA_cons, List.append_assoc]; rfl
                rw [e3]
                exact f2
              · cases h3
            · cases h
          · cases h
        · cases h
      · rename_i id d i oo ha
        split at h
        · rename_i d' l E hH
          obtain ⟨e1, h⟩ := castK_run h
          subst e1
          obtain ⟨e, hel, h⟩ := Tree.run_bind h
          split at h
          · rename_i s' hput
            obtain ⟨e', rest, h3, h4⟩ := decK_ok _ _ _ _ h
            split at h3
            · rename_i hrest
              obtain ⟨f1, f2⟩ := flat_put (e' := e') hel hput h4 hrest [] []
              refine ⟨_, _, h3, fun n0 Bx w B η ρv inv he => ?_⟩
              have := storeOwn_ok (ρA := fun y => eu (ρ y)) inv (heu_of hp he) ho (by simp only [ha]; rfl) (exH hH) s1 s2 hl c2 f1 h1
              refine this.to (r := .c undef) rfl (by simp) (le_set (e := .dead) (.inr (.inr (.inr ⟨_, _, _, _, rfl, rfl, ?_⟩))))
              simpa using f2
            · cases h3
          · cases h
        · cases h
      · cases h
    · cases h
def roomB (n by_ : Nat) : Bool := decide (n ≤ maxLen ∧ n * by_ ≤ 140737488355328)
/-- What is appended. -/
def viewA (P : Program) (e : TypeId) (x : V) : Option (Sigma fun d => List (T d)) := match x with
  | .c (.slice (some _) 0 _) => (match tdOf P 12 e with | some d => some ⟨d, []⟩ | none => none)
  | x => viewL P e x
def appendK (P : Program) (H : List E2) (t : TypeId) (s x : V) (k : V → List E2 → Tree R) : Tree R :=
  match elemT P t with
  | some e => (match rowI P e with
    | some (w, by_) => (match viewA P e x with
      | some ⟨d, m⟩ => if wd d = w then (match s with
        | .c (.slice none 0 0) => .ite (roomB m.length by_) (k (.own H.length) (H ++ [.own d m e])) .fail
        | .own id => (match H[id]? with
          | some (.own d' l E) => if E = e then castK d' d (fun d => List (T d)) l fun l => .ite (roomB (l.length + m.length) by_) (k (.own H.length) (H.set id .dead ++ [.own d (l ++ m) e])) .fail else .fail
          | _ => .fail)
        | .emp => .ite (roomB m.length by_) (k (.lst d m) H) .fail
        | .fre d' l => castK d' d (fun d => List (T d)) l fun l => .ite (roomB (l.length + m.length) by_ && !m.isEmpty) (k (.own H.length) (H ++ [.own d (l ++ m) e])) .fail
        | _ => .fail) else .fail
      | none => .fail)
    | none => .fail)
  | none => .fail
theorem srcA_view {e : TypeId} {x : V} {d : Td} {m : List (T d)} (h : viewL P e x = some ⟨d, m⟩) (Hh : List Ent) : srcA Hh (wd d) (eu x) = some (flat d m) := by
  unfold viewL at h
  split at h
  · simp only [Option.some.injEq, Sigma.mk.injEq] at h
    obtain ⟨rfl, h⟩ := h
    have h := eq_of_heq h
    subst h
    simp [eu, ex, ex0, unf, srcA]
  · simp only [Option.some.injEq, Sigma.mk.injEq] at h
    obtain ⟨rfl, h⟩ := h
    have h := eq_of_heq h
    subst h
    simp [eu, ex, ex0, unf, srcA]
  · split at h
    · split at h
      · simp only [Option.some.injEq, Sigma.mk.injEq] at h
        obtain ⟨rfl, h⟩ := h
        have h := eq_of_heq h
        subst h
        rfl
      · cases h
    · cases h
  · split at h
    · split at h
      · simp only [Option.some.injEq, Sigma.mk.injEq] at h
        obtain ⟨rfl, h⟩ := h
        have h := eq_of_heq h
        subst h
        rfl
      · cases h
    · cases h
  · cases h
theorem srcA_viewA {e : TypeId} {x : V} {d : Td} {m : List (T d)} (h : viewA P e x = some ⟨d, m⟩) (Hh : List Ent) : srcA Hh (wd d) (eu x) = some (flat d m) := by
  unfold viewA at h
  split at h
  · split at h
    · simp only [Option.some.injEq, Sigma.mk.injEq] at h
      obtain ⟨rfl, h⟩ := h
      have h := eq_of_heq h
      subst h
      simp [eu, ex, ex0, unf, srcA, flat]
    · cases h
  · exact srcA_view h Hh
theorem appendK_ok {t : TypeId} {s x : Operand} {k : V → List E2 → Tree R} {res : R} (hp : Plain ρ o) (ho : o.op = .call ⟨.builtin .append, #[s, x], #[t, t]⟩) (h : (appendK P H t (ρ s) (ρ x) k).run = some res) : ∃ r H', (k r H').run = some res ∧ DoesS P H ρ o r H' := by
  unfold appendK at h
  split at h
  · rename_i e het
    split at h
    · rename_i kw by_ hrow
      obtain ⟨ti, z, q1, q2, q3, q4, q5, q6⟩ := rowI_spec hrow
      split at h
      · rename_i d m hv
        split at h
        · rename_i hwd
          have hsrc : ∀ (Hh : List Ent), srcA Hh kw (eu (ρ x)) = some (flat d m) := fun Hh => by rw [← hwd]; exact srcA_viewA hv Hh
          have hdiv : ∀ (l : List (T d)), (flat d l).length / kw = l.length := fun l => by rw [flat_length, hwd]; exact Nat.mul_div_cancel _ (by omega)
          have hrm : ∀ {n : Nat}, roomB n by_ = true → n ≤ maxLen ∧ n * by_ ≤ 140737488355328 := fun h => of_decide_eq_true h
          have hdiv2 : ∀ (l : List (T d)), ((flat d l).length + (flat d m).length) / kw = l.length + m.length := fun l => by rw [← List.length_append, ← flat_append, hdiv, List.length_append]
          split at h
          · rename_i hs
            rcases Tree.run_ite h with ⟨hb, h⟩ | ⟨_, h⟩
            · obtain ⟨r1, r2⟩ := hrm hb
              refine ⟨_, _, h, fun n0 Bx w B η ρv inv he => ?_⟩
              have hse : eu (ρ s) = .c (.slice none 0 0) := by rw [hs]; rfl
              have := append_ok (ρA := fun y => eu (ρ y)) inv (heu_of hp he) ho (elemT_spec het) q1 q2 q3 q4 q5 q6 (cells := []) (by simp only [hse]; rfl) (hsrc _) (flat_one d m) (by simpa [hdiv] using r1) (by simpa [hdiv] using r2)
              simp only [hse, killA, List.length_map, List.nil_append] at this
              exact this.to (r := .own H.length) rfl (by simp) (le_push (by simp) (le_self H) (by rw [← hwd]; exact .refl _))
            · cases h
          · rename_i id hs
            split at h
            · rename_i d' l E hH
              split at h
              · rename_i hE
                subst hE
                obtain ⟨e1, h1⟩ := castK_run h
                clear h
                subst e1
                simp only at h1
                rcases Tree.run_ite h1 with ⟨hb, h⟩ | ⟨_, h⟩
                · obtain ⟨r1, r2⟩ := hrm hb
                  refine ⟨_, _, h, fun n0 Bx w B η ρv inv he => ?_⟩
                  have hse : eu (ρ s) = .own id := by rw [hs]; rfl
                  have := append_ok (ρA := fun y => eu (ρ y)) inv (heu_of hp he) ho (elemT_spec het) q1 q2 q3 q4 q5 q6 (cells := flat _ l) (by simp only [hse, dstA, exH hH, exE, hwd, and_self, if_true]) (hsrc _) (flat_one _ m) (by rw [hdiv2]; exact r1) (by rw [hdiv2]; exact r2)
                  simp only [hse, killA, List.length_map, ← flat_append] at this
                  exact this.to (r := .own H.length) rfl (by simp) (le_push (by simp) (le_set (e := .dead) (e1 := .dead) (.refl _)) (by rw [← hwd]; exact .refl _))
                · cases h
              · cases h
            · cases h
          · rename_i hs
            rcases Tree.run_ite h with ⟨hb, h⟩ | ⟨_, h⟩
            · obtain ⟨r1, r2⟩ := hrm hb
              refine ⟨_, _, h, Does.s fun n0 Bx w B η ρv inv he => .of rfl (fun _ _ h => by simp [ex, ex0] at h) ?_⟩
              have hse : eu (ρ s) = .emp := by rw [hs]; rfl
              have := appendE_ok (ρA := fun y => eu (ρ y)) inv (heu_of hp he) ho (elemT_spec het) q1 q2 q3 q4 q5 q6 hse (hsrc _) (flat_one d m) (flat_imm d m) (by rw [hdiv]; exact r1) (by rw [hdiv]; exact r2)
              rw [← hwd] at this
              exact this
            · cases h
          · rename_i d' l hs
            obtain ⟨e1, h1⟩ := castK_run h
            clear h
            subst e1
            simp only at h1
            rcases Tree.run_ite h1 with ⟨hb, h⟩ | ⟨_, h⟩
            · simp only [Bool.and_eq_true, Bool.not_eq_true'] at hb
              obtain ⟨r1, r2⟩ := hrm hb.1
              refine ⟨_, _, h, fun n0 Bx w B η ρv inv he => ?_⟩
              have hse := congrArg ex hs
              simp only [ex, ex0] at hse
              have := appendF_ok (ρA := fun y => eu (ρ y)) (ρR := fun y => ex (ρ y)) inv (heu_of hp he) (fun y hy => ⟨he_of hp he y hy, (he y hy).2⟩) ho (elemT_spec het) q1 q2 q3 q4 q5 q6 (by rw [← hwd]; simp only [ex]; exact hse) (hsrc _) (flat_ne (by omega) hb.2) (flat_one _ m) (by rw [hdiv2]; exact r1) (by rw [hdiv2]; exact r2)
              simp only [List.length_map, ← flat_append] at this
              exact this.to (r := .own H.length) rfl (by simp) (le_push (by simp) (le_self H) (by rw [← hwd]; exact .refl _))
            · cases h
          · cases h
        · cases h
      · cases h
    · cases h
  · cases h
/-- Zeros that are appended. -/
def appendZK (P : Program) (H : List E2) (t tn : TypeId) (s x : V) (k : V → List E2 → Tree R) : Tree R :=
  match elemT P t, kindT P tn, sliT P t with
  | some e, some _, some (E, w, z) => (match rowI P e, tdOf P 12 e with
    | some (kw, by_), some d => if (E = e ∧ w = kw ∧ wd d = kw) ∧ z.all Value.oneCell' = true then (match x with
      | .c (.int _ n) => .ite (decide (0 ≤ n)) (decK d (z.map constV) fun zd r => if wL r = 0 then (match s with
        | .c (.slice none 0 0) => .ite (roomB n.toNat by_) (k (.own H.length) (H ++ [.own d (List.replicate n.toNat zd) e])) .fail
        | .own id => (match H[id]? with
          | some (.own d' l E') => if E' = e then castK d' d (fun d => List (T d)) l fun l => .ite (roomB (l.length + n.toNat) by_) (k (.own H.length) (H.set id .dead ++ [.own d (l ++ List.replicate n.toNat zd) e])) .fail else .fail
          | _ => .fail)
        | _ => .fail) else .fail) .fail
      | _ => .fail) else .fail
    | _, _ => .fail)
  | _, _, _ => .fail
theorem appendZK_ok {t tn : TypeId} {s x : Operand} {k : V → List E2 → Tree R} {res : R} (hp : Plain ρ o) (ho : o.op = .call ⟨.builtin .append, #[s, x], #[t, tn]⟩) (h : (appendZK P H t tn (ρ s) (ρ x) k).run = some res) : ∃ r H', (k r H').run = some res ∧ DoesS P H ρ o r H' := by
  unfold appendZK at h
  split at h
  · rename_i e kn E w z het hkn hsl
    split at h
    · rename_i kw by_ d hrow htd
      obtain ⟨ti, zv0, q1, q2, q3, q4, q5, q6⟩ := rowI_spec hrow
      split at h
      · rename_i hc
        obtain ⟨⟨rfl, rfl, hwd⟩, hone⟩ := hc
        obtain ⟨i', zv, hu, hi', hz, hsz, hzc, hzl, hk⟩ := sliT_spec hsl
        rw [q1] at hi'
        injection hi' with hi'
        subst hi'
        rw [q2] at hz
        injection hz with hz
        subst hz
        split at h
        · rename_i kx n hx
          rcases Tree.run_ite h with ⟨hn, h⟩ | ⟨_, h⟩
          · have hn := of_decide_eq_true hn
            obtain ⟨m, rfl⟩ : ∃ m : Nat, n = (m : Int) := ⟨n.toNat, by omega⟩
            simp only [Int.toNat_natCast] at h
            obtain ⟨zd, rest, h1, h2⟩ := decK_ok d _ _ _ h
            split at h1
            · rename_i hrest
              have hr0 : segsA rest = [] := List.eq_nil_of_length_eq_zero (by rw [wL_eq]; exact hrest)
              rw [hr0, List.append_nil, segsA_const] at h2
              have hze : (Builtin.zeroCells zv0.cells m).toList = repL m z := by rw [← hzc]; exact zeroCells_repL _ _ (by omega)
              have h1c : ∀ u ∈ repL m z, u.oneCell' = true := fun u hu => by
                unfold repL at hu
                obtain ⟨l, hl, hul⟩ := List.mem_flatten.1 hu
                rw [(List.mem_replicate.1 hl).2] at hul
                exact List.all_eq_true.1 hone u hul
              have hxe : eu (ρ x) = .c (.int kx (m : Int)) := by rw [hx]; rfl
              have hrm : ∀ {n : Nat}, roomB n by_ = true → n ≤ maxLen ∧ n * by_ ≤ 140737488355328 := fun h => of_decide_eq_true h
              have hdiv : ∀ (l : List (T d)), (flat d l).length / w = l.length := fun l => by rw [flat_length, hwd]; exact Nat.mul_div_cancel _ (by omega)
              split at h1
              · rename_i hs
                rcases Tree.run_ite h1 with ⟨hb, h⟩ | ⟨_, h⟩
                · obtain ⟨r1, r2⟩ := hrm hb
                  refine ⟨_, _, h, fun n0 Bx w0 B η ρv inv he => ?_⟩
                  have hse : eu (ρ s) = .c (.slice none 0 0) := by rw [hs]; rfl
                  have := appendZ_ok (ρA := fun y => eu (ρ y)) inv (heu_of hp he) ho (elemT_spec het) q1 q2 q3 q4 q5 q6 (kindT_spec hkn) (cells := []) (by simp only [hse]; rfl) hxe hze h1c (by simpa using r1) (by simpa using r2)
                  simp only [hse, killA, List.length_map, List.nil_append] at this
                  exact this.to (r := .own H.length) rfl (by simp) (le_push (by simp) (le_self H) (.inr (.inr (.inr ⟨_, _, E, w, rfl, by simp [exE, hwd], wk_rep h2 _⟩))))
                · cases h
              · rename_i id hs
                split at h1
                · rename_i d' l E' hH
                  split at h1
                  · rename_i hE
                    subst hE
                    obtain ⟨e1, h3⟩ := castK_run h1
                    clear h1
                    subst e1
                    simp only at h3
                    rcases Tree.run_ite h3 with ⟨hb, h⟩ | ⟨_, h⟩
                    · obtain ⟨r1, r2⟩ := hrm hb
                      refine ⟨_, _, h, fun n0 Bx w0 B η ρv inv he => ?_⟩
                      have hse : eu (ρ s) = .own id := by rw [hs]; rfl
                      have := appendZ_ok (ρA := fun y => eu (ρ y)) inv (heu_of hp he) ho (elemT_spec het) q1 q2 q3 q4 q5 q6 (kindT_spec hkn) (cells := flat _ l) (by simp only [hse, dstA, exH hH, exE, hwd, and_self, if_true]) hxe hze h1c (by rw [hdiv]; exact r1) (by rw [hdiv]; exact r2)
                      simp only [hse, killA, List.length_map] at this
                      exact this.to (r := .own H.length) rfl (by simp) (le_push (by simp) (le_set (e := .dead) (e1 := .dead) (.refl _)) (.inr (.inr (.inr ⟨_, flat _ l ++ flat _ (List.replicate m zd), E', w, rfl, by simp [exE, hwd, flat_append], (Wk.refl _).app (wk_rep h2 _)⟩))))
                    · cases h
                  · cases h1
                · cases h1
              · cases h1
            · cases h1
          · cases h
        · cases h
      · cases h
    · cases h
  · cases h
/-- A slice that is built, as one of the call's own. -/
def buildOwnK (P : Program) (H : List E2) (ρ : Operand → V) (t : TypeId) (len : Nat) (parts : Array (Nat × Operand)) (k : V → List E2 → Tree R) : Tree R :=
  match sliT P t with
  | some (e, w, z) => if len * w ≤ 16777216 ∧ len ≤ maxLen then (match fillV (fun i => some (i * w, w)) ((repL len z).map constV) (partsV ρ parts) with
    | some l => match tdOf P 12 e with
      | some d => if wd d = w then decN (decK d) len l fun a r => if wL r = 0 then k (.own H.length) (H ++ [.own d a.l e]) else .fail else .fail
      | none => .fail
    | none => .fail) else .fail
  | none => .fail
theorem buildOwnK_ok {t : TypeId} {len : Nat} {parts : Array (Nat × Operand)} {k : V → List E2 → Tree R} {res : R} (hp : Plain ρ o) (ho : o.op = .buildSlice t len parts) (h : (buildOwnK P H ρ t len parts k).run = some res) : ∃ r H', (k r H').run = some res ∧ DoesS P H ρ o r H' := by
  have hpm : (partsV ρ parts).map (fun p => (p.1, eu p.2)) = partsA (fun y => eu (ρ y)) parts := by simp [partsV, partsA, List.map_map, Function.comp_def]
  unfold buildOwnK at h
  split at h
  · rename_i e kw z hsl
    split at h
    · rename_i hlen
      split at h
      · rename_i l hl
        split at h
        · rename_i d htd
          split at h
          · rename_i hwd
            obtain ⟨a, rest, h1, h2⟩ := decN_ok (decK_ok d) len l _ _ h
            split at h1
            · rename_i hrest
              have hr0 : segsA rest = [] := List.eq_nil_of_length_eq_zero (by rw [wL_eq]; exact hrest)
              rw [hr0, List.append_nil] at h2
              have hfill := fillV_ok _ _ _ hl
              rw [hpm, segsA_const] at hfill
              refine ⟨_, _, h1, fun n0 Bx w B η ρv inv he => ?_⟩
              have := buildOwn_ok (ρA := fun y => eu (ρ y)) inv (heu_of hp he) ho hlen.2 hsl hlen.1 hfill
              simp only [List.length_map] at this
              exact this.to (r := .own H.length) rfl (by simp) (le_push (by simp) (le_self H) (.inr (.inr (.inr ⟨_, _, e, kw, rfl, by simp [exE, hwd], h2⟩))))
            · cases h1
          · cases h
        · cases h
      · cases h
    · cases h
  · cases h
/-- A slice that is made, as one of the call's own. -/
def makeK (P : Program) (H : List E2) (t : TypeId) (a b : V) (k : V → List E2 → Tree R) : Tree R :=
  match sliT P t with
  | some (e, w, z) => (match rowI P e, tdOf P 12 e with
    | some (_, by_), some d => if wd d = w then intK a fun l => intK b fun c => .ite (decide (0 ≤ l ∧ l ≤ c) && roomB c.toNat by_)
        (decK d (z.map constV) fun zd r => if wL r = 0 then k (.own H.length) (H ++ [.own d (List.replicate l.toNat zd) e]) else .fail) .fail else .fail
    | _, _ => .fail)
  | none => .fail
theorem makeK_ok {t : TypeId} {a b : Operand} {k : V → List E2 → Tree R} {res : R} (hp : Plain ρ o) (ho : o.op = .makeSlice t a b) (h : (makeK P H t (ρ a) (ρ b) k).run = some res) : ∃ r H', (k r H').run = some res ∧ DoesS P H ρ o r H' := by
  unfold makeK at h
  split at h
  · rename_i e kw z hsl
    split at h
    · rename_i kw2 by_ d hrow htd
      obtain ⟨ti, zz, q1, q2, q3, q4, q5, q6⟩ := rowI_spec hrow
      split at h
      · rename_i hwd
        obtain ⟨kl, l, ha, h⟩ := intK_run h
        obtain ⟨kc, c, hb, h⟩ := intK_run h
        rcases Tree.run_ite h with ⟨hc, h⟩ | ⟨_, h⟩
        · simp only [Bool.and_eq_true, decide_eq_true_eq] at hc
          obtain ⟨⟨c1, c2⟩, c3⟩ := hc
          obtain ⟨c3, c4⟩ : c.toNat ≤ maxLen ∧ c.toNat * by_ ≤ 140737488355328 := of_decide_eq_true c3
          obtain ⟨zd, rest, h1, h2⟩ := decK_ok d _ _ _ h
          split at h1
          · rename_i hrest
            have hr0 : segsA rest = [] := List.eq_nil_of_length_eq_zero (by rw [wL_eq]; exact hrest)
            rw [hr0, List.append_nil, segsA_const] at h2
            refine ⟨_, _, h1, fun n0 Bx w B η ρv inv he => ?_⟩
            have := makeOwn_ok (ρA := fun y => ex (ρ y)) inv (he_of hp he) ho hsl q1 q4 (by simp only [ha]; rfl) (by simp only [hb]; rfl) c1 c2 c3 c4
            simp only [List.length_map] at this
            exact this.to (r := .own H.length) rfl (by simp) (le_push (by simp) (le_self H) (.inr (.inr (.inr ⟨_, _, e, kw, rfl, by simp [exE, hwd], wk_rep h2 _⟩))))
          · cases h1
        · cases h
      · cases h
    · cases h
  · cases h
/-- A part of an own row, in its stead. -/
def moveK (P : Program) (H : List E2) (ρ : Operand → V) (t : TypeId) (x : V) (lo hi : Option Operand) (k : V → List E2 → Tree R) : Tree R :=
  match elemT P t, x with
  | some e, .own id => (match H[id]? with
    | some (.own d l E) => if wd d = P.cellsOf e ∧ 1 ≤ wd d then (match lo, hi with
      | some lo, none => intK (ρ lo) fun a => .bind (dropI l a) fun m => k (.own H.length) (H.set id .dead ++ [.own d m E])
      | none, some hi => intK (ρ hi) fun b => .bind (takeI l b) fun m => k (.own H.length) (H.set id .dead ++ [.own d m E])
      | some lo, some hi => intK (ρ lo) fun a => intK (ρ hi) fun b => .bind (subI l a b) fun m => k (.own H.length) (H.set id .dead ++ [.own d m E])
      | none, none => .fail) else .fail
    | _ => .fail)
  | _, _ => .fail
theorem moveK_ok {t : TypeId} {x : Operand} {lo hi : Option Operand} {k : V → List E2 → Tree R} {res : R} (hp : Plain ρ o) (ho : o.op = .slice t x lo hi none) (h : (moveK P H ρ t (ρ x) lo hi k).run = some res) : ∃ r H', (k r H').run = some res ∧ DoesS P H ρ o r H' := by
  unfold moveK at h
  split at h
  · rename_i e id het hx
    split at h
    · rename_i d l E hH
      split at h
      · rename_i hwd
        have hdiv : (flat d l).length / wd d = l.length := by rw [flat_length]; exact Nat.mul_div_cancel _ (by omega)
        have exi : ∀ (y : Operand) kk z, ρ y = .c (.int kk z) → ex (ρ y) = .c (.int kk z) := fun y kk z h => by rw [h]; rfl
        have key : ∀ (a b : Nat), boundA (fun y => ex (ρ y)) 0 lo = some a → boundA (fun y => ex (ρ y)) l.length hi = some b → a ≤ b → b ≤ l.length → DoesS P H ρ o (.own H.length) (H.set id .dead ++ [.own d ((l.drop a).take (b - a)) E]) := fun a b ha hb hab hbl n0 Bx w B η ρv inv he => by
          have := sliceOwn_ok (P := P) (ρA := fun y => ex (ρ y)) inv (he_of hp he) ho (elemT_spec het) (by simp only [hx]; rfl) (exH hH) hwd.1 hwd.2 ha (by rw [hdiv]; exact hb) hab (by rw [flat_length]; exact Nat.mul_le_mul_right _ hbl)
          simp only [List.length_map] at this
          rw [← flat_drop, ← flat_take] at this
          exact this.to (r := .own H.length) rfl (by simp) (le_push (by simp) (le_set (e := .dead) (e1 := .dead) (.refl _)) (.refl _))
        split at h
        · obtain ⟨kk, z, hz, h⟩ := intK_run h
          obtain ⟨m, hm, h⟩ := Tree.run_bind h
          unfold dropI at hm
          split at hm
          · rename_i hc
            injection hm with hm; subst hm
            have := key z.toNat l.length (by simp [boundA, exi _ _ _ hz, hc.1]) rfl (by omega) (Nat.le_refl _)
            rw [List.take_of_length_le (by rw [List.length_drop]; exact Nat.le_refl _)] at this
            exact ⟨_, _, h, this⟩
          · cases hm
        · obtain ⟨kk, z, hz, h⟩ := intK_run h
          obtain ⟨m, hm, h⟩ := Tree.run_bind h
          unfold takeI at hm
          split at hm
          · rename_i hc
            injection hm with hm; subst hm
            have := key 0 z.toNat rfl (by simp [boundA, exi _ _ _ hz, hc.1]) (Nat.zero_le _) (by omega)
            rw [List.drop_zero, Nat.sub_zero] at this
            exact ⟨_, _, h, this⟩
          · cases hm
        · obtain ⟨kk, z, hz, h⟩ := intK_run h
          obtain ⟨kk2, z2, hz2, h⟩ := intK_run h
          obtain ⟨m, hm, h⟩ := Tree.run_bind h
          unfold subI at hm
          split at hm
          · rename_i hc
            injection hm with hm; subst hm
            exact ⟨_, _, h, key z.toNat z2.toNat (by simp [boundA, exi _ _ _ hz, hc.1]) (by simp [boundA, exi _ _ _ hz2]; omega) (by omega) (by omega)⟩
          · cases hm
        · cases h
      · cases h
    · cases h
  · cases h

/-! ### A whole array that is copied to -/
def Arr.over {α : Type} {n : Nat} (a : Arr α n) (l : List α) : Arr α n := ⟨l.take n ++ a.l.drop l.length, by rw [List.length_append, List.length_take, List.length_drop, a.h]; omega⟩
theorem over_flat {d : Td} {n : Nat} (a : Arr (T d) n) (l : List (T d)) : flat d (a.over l).l = putL (flat d a.l) 0 ((flat d l).take (min l.length n * wd d)) := by
  have e1 : (flat d l).take (min l.length n * wd d) = flat d (l.take (min l.length n)) := (flat_take d l _).symm
  have e2 : l.take (min l.length n) = l.take n := by
    rcases Nat.le_total l.length n with h | h
    · rw [Nat.min_eq_left h, List.take_of_length_le (Nat.le_refl _), List.take_of_length_le h]
    · rw [Nat.min_eq_right h]
  have e3 : a.l.drop (l.take n).length = a.l.drop l.length := by
    rcases Nat.le_total l.length n with h | h
    · rw [List.length_take, Nat.min_eq_right h]
    · rw [List.length_take, Nat.min_eq_left h, List.drop_eq_nil_of_le (by rw [a.h]; exact Nat.le_refl _), List.drop_eq_nil_of_le (by rw [a.h]; exact h)]
  unfold putL Arr.over
  rw [e1, e2, flat_append, List.take_zero, List.nil_append, Nat.zero_add, flat_length, ← flat_drop, e3]
theorem copyBox_ok {n0 : Nat} {Bx : List Nat} {w : World} {B : List Nat} {η : List Value} {Hh : List Ent} {ρv : Operand → Value} (inv : Inv n0 Bx w B η Hh) {x s : Operand} {t t2 E k : Nat} {i : TypeInfo} {id b n : Nat} {T' : TypeId} {cells l : List AV} (ho : o.op = .call ⟨.builtin .copy, #[x, s], #[t, t2]⟩)
    (ht : P.underlying t = some (.slice E)) (hi : P.info? E = some i) (hsz : i.size = k) (hx : ρv x = .slice (some ⟨b, 0, none⟩) n n) (hid : η[id]? = some (.pointer (some ⟨b, 0, none⟩))) (hH : Hh[id]? = some (.box cells T')) (hl : cells.length = n * k)
    (hs : Rel w B η (.sl l k) (ρv s)) (h1 : l.all AV.one = true) : OpS P n0 Bx w ρv o B η (.c (.int .i64 ((min (l.length / k) n : Nat) : Int))) (Hh.set id (.box (putL cells 0 (l.take (min (l.length / k) n * k))) T')) := by
  intro N hN
  obtain ⟨A, m, c, us, hv, hk, hn, hc, hm, hA, hr⟩ := Rel.slL hs
  have hdiv : l.length / k = m := by rw [← hn]; exact Nat.mul_div_cancel _ hk
  rw [hdiv] at hN
  have hent := inv.ent id _ hH
  rw [List.getD_eq_getElem?_getD, hid, Option.getD_some] at hent
  obtain ⟨b', us', e1, e2, e3, e4, e5, e6⟩ := hent
  obtain rfl : b = b' := by simpa using e1
  obtain ⟨q, hq⟩ : ∃ q, q = min m n := ⟨_, rfl⟩
  rw [← hq] at hN
  have hqm : q ≤ m := by omega
  have hqn : q ≤ n := by omega
  obtain ⟨news, hnews⟩ : ∃ news, news = (List.range (q * k)).map us := ⟨_, rfl⟩
  have hlen : news.length = q * k := by simp [hnews]
  have hmul : q * k ≤ l.length := by rw [← hn]; exact Nat.mul_le_mul_right k hqm
  have hmul2 : q * k ≤ us'.length := by rw [e6.1, hl]; exact Nat.mul_le_mul_right k hqn
  have hrel : RelL w B η (l.take (q * k)) news := ⟨by rw [hlen, List.length_take]; omega, fun j y hy => by
    rw [List.getElem?_take] at hy
    split at hy
    · rename_i hj
      exact ⟨us j, by simp [hnews, hj], (hr j y hy).any⟩
    · cases hy⟩
  have h1' : (l.take (q * k)).all AV.one = true := List.all_eq_true.2 fun y hy => List.all_eq_true.1 h1 y (List.mem_of_mem_take hy)
  have hfc : (Builtin.firstCells i.size q (.slice A m c)).run P w = .ok news.toArray w := by
    rw [hsz]
    cases A with
    | none =>
      have hm0 : m = 0 := by
        rcases Nat.eq_zero_or_pos m with h | h
        · exact h
        · obtain ⟨_, h, _⟩ := hA h; cases h
      have hq0 : q = 0 := by omega
      have : news = [] := List.eq_nil_of_length_eq_zero (by rw [hlen, hq0]; simp)
      rw [this, run_firstCells_none]
    | some ad =>
      refine run_firstCells_some (P := P) w k q ad m c news hlen (fun j v hj => ?_)
      have hjl : j < q * k := by rw [← hlen]; exact (List.getElem?_eq_some_iff.1 hj).1
      have hmp : 0 < m := by
        rcases Nat.eq_zero_or_pos m with h | h
        · have : q = 0 := by omega
          subst this
          omega
        · exact h
      obtain ⟨ad', h, hat⟩ := hA hmp
      injection h with h
      subst h
      rw [hat.cell j (by omega)]
      simp [hnews, hjl] at hj
      rw [hj]
  have hst := run_storeCells_at (P := P) b 0 T' news 0 us'.toArray w e5 (by simp; omega) (hrel.one h1')
  have hput : us'.toArray.toList.take (0 + 0) ++ news ++ us'.toArray.toList.drop (0 + 0 + news.length) = putL us' 0 news := rfl
  rw [hput] at hst
  have hon : On B w (w.setRow b (putL us' 0 news).toArray) := ⟨rfl, rfl, rfl, by simp, fun kk _ hk => .of (setRow_other w b kk _ (fun h => hk (by rw [h]; exact e3)))⟩
  obtain ⟨i1, i2, i3⟩ := inv.write (e' := .box (putL cells 0 (l.take (q * k))) T') (cs := (putL us' 0 news).toArray) hH hid rfl rfl rfl
    ⟨b, _, rfl, e2, e3, e4, setRow_heap w b us'.toArray _ T' (0, 0) e5, (e6.putL hrel 0).on hon (fun _ h => .inl h) (fun _ _ h => h)⟩
  have hqq : Nat.min m n = q := hq.symm
  have hrun0 : (Builtin.copy_ #[t, t2] o.type #[ρv x, ρv s]).run P w = .ok (.int .i64 (q : Int)) (w.setRow b (putL us' 0 news).toArray) := by
    rw [hx, hv]
    simp [Builtin.copy_, run_underlying ht, sizeOf, typeInfo, hi, Builtin.lenOf, hqq, hfc, hst, goInt]
  unfold Oper.val
  have hrun' : (execOp ρv o).run P w = .ok (.value (.int .i64 (q : Int))) (w.setRow b (putL us' 0 news).toArray) := by
    simp only [execOp, ho, resolve, invoke, builtin, Sem.run_bind, Sem.run_pure, Result.andThen_ok, List.map_toArray, List.map_cons, List.map_nil, hrun0]
  rw [hrun']
  exact hN _ _ B η i2 (fun _ h => .inl h) (fun _ _ h => h) i3 i1 (.c _ _) (fun h => by cases h)
def copyK (P : Program) (H : List E2) (t : TypeId) (x s : V) (k : V → List E2 → Tree R) : Tree R :=
  match x, elemT P t with
  | .bsl id n, some e => (match H[id]? with
    | some (.box [.arr d n' a] TT) => if n' = n ∧ wd d = P.cellsOf e ∧ 1 ≤ wd d then (match viewL P e s with
      | some ⟨d', l⟩ => castK d' d (fun d => List (T d)) l fun l => k (.c (.int .i64 ((min l.length n : Nat) : Int))) (H.set id (.box [.arr d n' (a.over l)] TT))
      | none => .fail) else .fail
    | _ => .fail)
  | _, _ => .fail
theorem copyK_ok {t t2 : TypeId} {x s : Operand} {k : V → List E2 → Tree R} {res : R} (ho : o.op = .call ⟨.builtin .copy, #[x, s], #[t, t2]⟩) (h : (copyK P H t (ρ x) (ρ s) k).run = some res) : ∃ r H', (k r H').run = some res ∧ DoesS P H ρ o r H' := by
  unfold copyK at h
  split at h
  · rename_i id n e hx het
    split at h
    · rename_i d n' a TT hH
      split at h
      · rename_i hc
        obtain ⟨rfl, hwd, hw1⟩ := hc
        split at h
        · rename_i d' l hv
          obtain ⟨e1, h1⟩ := castK_run h
          clear h
          subst e1
          simp only at h1
          refine ⟨_, _, h1, fun n0 Bx w B η ρv inv he => ?_⟩
          have hx0 := (he x (by simp [ho, Op.operands, Call.operands])).1
          rw [hx] at hx0
          obtain ⟨b, hid, hvx⟩ := hx0
          obtain ⟨ii, hii, hs⟩ := cells_info (t := e) (P := P) (by omega)
          have hrs := viewL_ok hv ((he s (by simp [ho, Op.operands, Call.operands])).1.get (viewL_plain hv))
          have := copyBox_ok (P := P) (o := o) (k := wd d') inv ho (elemT_spec het) hii (hs.trans hwd.symm) hvx hid (exH hH) (by simp [exE, segsA_cons, segsA_nil, segA, flat_length, a.h]) hrs (flat_one _ l)
          have hw0 : 0 < wd d' := hw1
          rw [flat_length, Nat.mul_div_cancel _ hw0] at this
          have e2 : putL (segsA [V.arr d' n' a]) 0 ((flat d' l).take (min l.length n' * wd d')) = segsA [V.arr d' n' (a.over l)] := by
            simp only [segsA_cons, segsA_nil, segA, List.append_nil]
            exact (over_flat a l).symm
          rw [e2] at this
          exact this.to (r := .c (.int .i64 ((min l.length n' : Nat) : Int))) rfl (by simp) (le_set (e := .dead) (.refl _))
        · cases h
      · cases h
    · cases h
  · cases h
/-- A whole array, as what is copied to. -/
def sliceWK (P : Program) (H : List E2) (ρ : Operand → V) (t : TypeId) (x : V) (lo hi : Option Operand) (k : V → List E2 → Tree R) : Tree R :=
  match arrT P t, x, lo, hi with
  | some (m, e), .box id 0, none, none => if 1 ≤ P.cellsOf e then k (.bsl id m) H else .fail
  | _, x, lo, hi => moveK P H ρ t x lo hi k
theorem sliceWK_ok {t : TypeId} {x : Operand} {lo hi : Option Operand} {k : V → List E2 → Tree R} {res : R} (hp : Plain ρ o) (ho : o.op = .slice t x lo hi none) (h : (sliceWK P H ρ t (ρ x) lo hi k).run = some res) : ∃ r H', (k r H').run = some res ∧ DoesS P H ρ o r H' := by
  unfold sliceWK at h
  split at h
  · rename_i m e id hat hx
    split at h
    · rename_i hc
      refine ⟨_, _, h, fun n0 Bx w B η ρv inv he N hN => ?_⟩
      have hx0 := he_of hp he x (by simp [ho, Op.operands])
      rw [hx] at hx0
      have hx0 : Rel w B η (.box id 0) (ρv x) := hx0
      have hx1 : ∃ b, ρv x = .pointer (some ⟨b, 0, none⟩) ∧ η[id]? = some (.pointer (some ⟨b, 0, none⟩)) := by
        generalize ρv x = v at hx0
        cases hx0 with
        | box _ _ _ b hid => exact ⟨b, rfl, hid⟩
      obtain ⟨b, hv, hid⟩ := hx1
      obtain ⟨ii, hii, hs⟩ := cells_info (t := e) (P := P) (by omega)
      have hu := arrT_spec hat
      have hbounds : (Instr.sliceBounds false m m none none none).run P w = .ok (0, m, m) w := by simp [Instr.sliceBounds, Sem.run_bind]
      have hadd : (⟨b, 0, none⟩ : Addr).add 0 = ⟨b, 0, none⟩ := by rw [Addr.add_mid]
      unfold Oper.val
      have hrun : (execOp ρv o).run P w = .ok (.value (.slice (some ⟨b, 0, none⟩) m m)) w := by
        simp [execOp, ho, Instr.sliceAt, Instr.sureAddr, Sem.run_bind, run_underlying hu, hv, hbounds, run_sizeOf hii, hs, hadd]
      rw [hrun]
      exact hN _ _ B η (On.refl _ _) (fun _ h => .inl h) (fun _ _ h => h) (Below.refl _ _) inv ⟨b, hid, rfl⟩ (fun h => by cases h)
    · cases h
  · exact moveK_ok hp ho h

/-! ### Calls by contract -/
/-- An argument, or an answer: nothing that a call writes. -/
def immV2 : V → Bool
  | .agg l => l.all immV
  | .fre _ _ => true
  | x => immV x
def argV : V → V
  | .fre d l => .lst d l
  | x => x
/-- What calls of a function yield. -/
def CallsK (P : Program) (f : FuncId) (args : List V) (r : V) : Prop :=
  ∀ (w : World) (B : List Nat) (cargs : List Value), (∀ b ∈ B, b < w.heap.size) → GlobOK w B → cargs.length = args.length → (∀ (i : Nat) x, args[i]? = some x → ∃ v, cargs[i]? = some v ∧ Rel w B [] (ex x) v) →
    Calls P f cargs.toArray w fun e w' => ∃ v, e = .returned v ∧ Gr w w' ∧ Rel w' B [] (ex r) v
/-- What comes of a call, as the operation that calls has it. -/
def EntersV (P : Program) (f : FuncId) (cargs : Array Value) (w : World) (N : Value → World → Prop) : Prop :=
  match (callFunc f cargs).run P w with
  | .ok (.value v) w' => N v w'
  | .ok .skip w' => N undef w'
  | .ok (.enter f args) w' => Calls P f args w' fun e w'' => ∃ v, e = .returned v ∧ N v w''
  | _ => False
/-- What calls of a function yield, whether it has a body or none. -/
def CallsV (P : Program) (f : FuncId) (args : List V) (r : V) : Prop :=
  ∀ (w : World) (B : List Nat) (cargs : List Value), (∀ b ∈ B, b < w.heap.size) → GlobOK w B → cargs.length = args.length → (∀ (i : Nat) x, args[i]? = some x → ∃ v, cargs[i]? = some v ∧ Rel w B [] (ex x) v) →
    ∀ N : Value → World → Prop, (∀ v w', Gr w w' → Rel w' B [] (ex r) v → N v w') → EntersV P f cargs.toArray w N
theorem CallsK.toV {P : Program} {f : FuncId} {args : List V} {r : V} (h : CallsK P f args r) (hf : ∃ fn, P.funcs[f]? = some fn ∧ fn.name ≠ "runtime.NumGoroutine" ∧ fn.body ≠ none) : CallsV P f args r := fun w B cargs h1 h2 h3 h4 N hN => by
  obtain ⟨fn, h5, h6, h7⟩ := hf
  unfold EntersV
  have hrun : (callFunc f cargs.toArray).run P w = .ok (.enter f cargs.toArray) w := by
    simp [callFunc, Sem.run_bind, h5, h6, h7]
  rw [hrun]
  exact (h w B cargs h1 h2 h3 h4).mono fun e w' ⟨v, g1, g2, g3⟩ => ⟨v, g1, hN v w' g2 g3⟩
theorem val_of_enters {P : Program} {f : FuncId} {x : Operand} {args : Array Operand} {ts : Array TypeId} {o : Oper} {ρv : Operand → Value} {w : World} {N : Value → World → Prop} (ho : o.op = .call ⟨.value x, args, ts⟩) (hx : ρv x = .func (.func f) #[] #[]) (h : EntersV P f (args.map ρv) w N) : Oper.val P ρv o w N := by
  unfold Oper.val
  have e : (execOp ρv o).run P w = (callFunc f (args.map ρv)).run P w := by
    simp [execOp, ho, resolve, Deferred.ofValue, hx, invoke, Sem.run_bind]
  rw [e]
  exact h
/-- Functions that are known by what they do. -/
abbrev Fns (R : Type) := FuncId → List V → (V → Tree R) → Tree R
structure FnsOK (P : Program) (F : Fns R) : Prop where
  ok : ∀ f args k res, (F f args k).run = some res → ∃ r, (k r).run = some res ∧ r.plain = true ∧ (∀ l k, ex r ≠ .fresh l k) ∧ CallsV P f args r
def evNF (P : Program) (F : Fns R) (H : List E2) (ρ : Operand → V) (o : Op) (k : V → Tree R) : Tree R :=
  match o with
  | .call ⟨.value (.func f), args, ts⟩ => if args.toList.all (fun x => immV2 (ρ x)) = true then F f (args.toList.map fun x => argV (ρ x)) k else .fail
  | o => evN P H ρ o k
theorem immV2_plain {x : V} (h : immV2 x = true) : x.plain = true := by cases x <;> first | rfl | cases h
theorem immV_arg {x : V} (h : immV2 x = true) {w : World} {B : List Nat} {η : List Value} {v : Value} (hr : Rel w B η (ex x) v) : Rel w B [] (ex (argV x)) v := by
  cases x with
  | agg l =>
    refine hr.bare ?_
    simp only [argV, ex, ex0, AV.imm]
    exact immV_ok l h
  | fre d l => exact hr.unf.bare rfl
  | arr d n a =>
    refine hr.bare ?_
    simp only [argV, ex, ex0, AV.imm]
    exact flat_imm d a.l
  | c v => exact hr.bare rfl
  | str s => exact hr.bare rfl
  | lst d l => exact hr.bare rfl
  | emp => exact hr.bare rfl
  | _ => cases h
theorem evNF_ok {F : Fns R} (hF : FnsOK P F) {k : V → Tree R} {res : R} (h : (evNF P F H ρ o.op k).run = some res) :
    ∃ r, (k r).run = some res ∧ ∀ (n0 : Nat) (Bx : List Nat) (w : World) (B : List Nat) (η : List Value) (ρv : Operand → Value), (∀ f, ρv (.func f) = .func (.func f) #[] #[]) → Inv n0 Bx w B η (H.map exE) → (∀ x ∈ o.op.operands, Rel2 w B η (ρ x) (ρv x) ∧ FreshV n0 (ex (ρ x)) (ρv x)) → OpK P n0 w ρv o B η r := by
  generalize ho : o.op = op at h
  unfold evNF at h
  split at h
  · rename_i f args ts
    split at h
    · rename_i himm
      obtain ⟨r, h1, h2, h3, h4⟩ := hF.ok _ _ _ _ h
      refine ⟨r, h1, fun n0 Bx w B η ρv hfv inv he N hN => val_of_enters ho (hfv f) ?_⟩
      have hmem : ∀ y ∈ args.toList, y ∈ o.op.operands := fun y hy => by simp [ho, Op.operands, Call.operands]; exact .inr (by simpa using hy)
      have hcall := h4 w B (args.toList.map ρv) inv.lt inv.base.2 (by simp) (fun i x hx => by
        rw [List.getElem?_map, Option.map_eq_some_iff] at hx
        obtain ⟨y, hy, rfl⟩ := hx
        have hm := List.mem_of_getElem? hy
        have hi := List.all_eq_true.1 himm y hm
        exact ⟨ρv y, by rw [List.getElem?_map, hy]; rfl, immV_arg hi ((he y (by rw [← ho]; exact hmem y hm)).1.get (immV2_plain hi))⟩) N (fun v w' g2 g3 => hN v w' (.gr g2) (Rel2.of h2 g3.any) (fun hfr => by generalize ex r = y at h3 hfr; cases y <;> first | exact absurd rfl (h3 _ _) | cases hfr))
      have hargs : (args.toList.map ρv).toArray = args.map ρv := by apply Array.ext'; simp
      rw [hargs] at hcall
      exact hcall
    · cases h
  · obtain ⟨r, h1, h2⟩ := evN_ok (o := o) (by rw [ho]; exact h)
    exact ⟨r, h1, fun n0 Bx w B η ρv _ inv he => h2 n0 Bx w B η ρv inv (by rw [ho]; exact he)⟩
/-- The sign at a place of a text, and its bytes. -/
def rdec (s : List UInt8) (p : Int) : Int × Int := (((Utf8.decode ⟨s.toArray⟩ p.toNat).1 : Nat), ((Utf8.decode ⟨s.toArray⟩ p.toNat).2 : Nat))
def rangeK (P : Program) (H : List E2) (t : TypeId) (x : V) (k : V → List E2 → Tree R) : Tree R :=
  match P.underlying t, x with
  | some .string, .str s => k (.box H.length 0) (H ++ [.itr s 0])
  | some .string, .c (.string b) => k (.box H.length 0) (H ++ [.itr b.data.toList 0])
  | _, _ => .fail
theorem rangeK_ok {t : TypeId} {x : Operand} {k : V → List E2 → Tree R} {res : R} (hp : Plain ρ o) (ho : o.op = .range t x) (h : (rangeK P H t (ρ x) k).run = some res) : ∃ r H', (k r H').run = some res ∧ DoesS P H ρ o r H' := by
  unfold rangeK at h
  have fin : ∀ (s : List UInt8), P.underlying t = some .string → ex (ρ x) = .c (.string ⟨s.toArray⟩) → DoesS P H ρ o (.box H.length 0) (H ++ [.itr s 0]) := fun s hu hs n0 Bx w B η ρv inv he => by
    have hx0 := he_of hp he x (by simp [ho, Op.operands])
    rw [hs] at hx0
    have := range_ok (P := P) (ρ := ρv) inv ho hu (Rel.ofC hx0)
    simp only [List.length_map] at this
    exact this.to (r := .box H.length 0) rfl (by simp) (le_push (by simp) (le_self H) (.refl _))
  split at h
  · rename_i s hu hx
    exact ⟨_, _, h, fin s hu (by rw [hx]; rfl)⟩
  · rename_i b hu hx
    exact ⟨_, _, h, fin b.data.toList hu (by rw [hx]; simp [ex, ex0])⟩
  · cases h
def nextK (H : List E2) (a : V) (k : V → List E2 → Tree R) : Tree R :=
  match a with
  | .box id 0 => (match H[id]? with
    | some (.itr s p) => .ite (decide (p.toNat < s.length)) (k (.tup [.c (.bool true), .c (.int .i64 (p.toNat : Nat)), .c (.int .i32 (rdec s p).1)]) (H.set id (.itr s (((p.toNat : Nat) : Int) + (rdec s p).2)))) (k (.tup [.c (.bool false)]) H)
    | _ => .fail)
  | _ => .fail
theorem nextK_ok {x : Operand} {k : V → List E2 → Tree R} {res : R} (hp : Plain ρ o) (ho : o.op = .next x true) (h : (nextK H (ρ x) k).run = some res) : ∃ r H', (k r H').run = some res ∧ DoesS P H ρ o r H' := by
  unfold nextK at h
  split at h
  · rename_i id hx
    split at h
    · rename_i s p hH
      rcases Tree.run_ite h with ⟨hb, h⟩ | ⟨hb, h⟩
      · have hlt := of_decide_eq_true hb
        refine ⟨_, _, h, fun n0 Bx w B η ρv inv he => ?_⟩
        have hx0 := he_of hp he x (by simp [ho, Op.operands])
        rw [hx] at hx0
        have := next_ok (P := P) (ρ := ρv) inv ho (exH hH) hx0 (by show p.toNat < s.toArray.size; simpa using hlt)
        refine this.to (r := .tup [.c (.bool true), .c (.int .i64 (p.toNat : Nat)), .c (.int .i32 (rdec s p).1)]) rfl (by simp) ?_
        refine le_set (e := .itr s p) ?_
        show EntLe _ (exE (.itr s (((p.toNat : Nat) : Int) + (rdec s p).2)))
        have e : (((p.toNat : Nat) : Int) + (rdec s p).2).toNat = p.toNat + (Utf8.decode ⟨s.toArray⟩ p.toNat).2 := by unfold rdec; simp only; omega
        show EntLe _ (.itr ⟨s.toArray⟩ (((p.toNat : Nat) : Int) + (rdec s p).2).toNat)
        rw [e]
        exact .refl _
      · have hlt := of_decide_eq_false hb
        refine ⟨_, _, h, fun n0 Bx w B η ρv inv he => ?_⟩
        have hx0 := he_of hp he x (by simp [ho, Op.operands])
        rw [hx] at hx0
        have := next_end (P := P) (ρ := ρv) inv ho (exH hH) hx0 (by show ¬ p.toNat < s.toArray.size; simpa using hlt)
        exact this.to (r := .tup [.c (.bool false)]) rfl (by simp) (le_self H)
    · cases h
  · cases h
/-- Operations that write. -/
def evW2 (P : Program) (mv : Bool × Bool) (H : List E2) (ρ : Operand → V) (o : Op) (k : V → List E2 → Tree R) : Option (Tree R) :=
  match o with
  | .box t x => some (if mv.2 = true then boxImmK P t (ρ x) fun r => k r H else boxK P H t (ρ x) k)
  | .alloc t => some (allocK P H t k)
  | .store t a x => some (storeK P H t (ρ a) (ρ x) k)
  | .slice t x lo hi none => if mv.1 = true then some (sliceWK P H ρ t (ρ x) lo hi k) else none
  | .buildSlice t len parts => if mv.1 = true then some (buildOwnK P H ρ t len parts k) else none
  | .makeSlice t a b => some (makeK P H t (ρ a) (ρ b) k)
  | .range t x => some (rangeK P H t (ρ x) k)
  | .next x true => some (nextK H (ρ x) k)
  | .call ⟨.builtin .append, ⟨[s, x]⟩, ⟨[t, t']⟩⟩ => if t = t' then some (appendK P H t (ρ s) (ρ x) k) else some (appendZK P H t t' (ρ s) (ρ x) k)
  | _ => none
def evS2 (P : Program) (F : Fns R) (mv : Bool × Bool) (H : List E2) (ρ : Operand → V) (o : Op) (k : V → List E2 → Tree R) : Tree R :=
  match evW2 P mv H ρ o k with
  | some t => if plainB ρ o = true then t else .fail
  | none => match o with
    | .call ⟨.builtin .copy, ⟨[x, s]⟩, ⟨[t, _]⟩⟩ => copyK P H t (ρ x) (ρ s) k
    | o => evNF P F H ρ o fun r => k r H
theorem evS2_ok {F : Fns R} (hF : FnsOK P F) {mv : Bool × Bool} {k : V → List E2 → Tree R} {res : R} (h : (evS2 P F mv H ρ o.op k).run = some res) :
    ∃ r H', (k r H').run = some res ∧ ∀ (n0 : Nat) (Bx : List Nat) (w : World) (B : List Nat) (η : List Value) (ρv : Operand → Value), (∀ f, ρv (.func f) = .func (.func f) #[] #[]) → Inv n0 Bx w B η (H.map exE) → (∀ x ∈ o.op.operands, Rel2 w B η (ρ x) (ρv x) ∧ FreshV n0 (ex (ρ x)) (ρv x)) → OpS2 P n0 Bx w ρv o B η r H' := by
  unfold evS2 at h
  split at h
  · rename_i t hw
    split at h
    · rename_i hpl
      have hp : Plain ρ o := fun x hx => Array.all_eq_true'.1 hpl x hx
      have key : ∀ {r H'}, (k r H').run = some res ∧ DoesS P H ρ o r H' → ∃ r H', (k r H').run = some res ∧ ∀ (n0 : Nat) (Bx : List Nat) (w : World) (B : List Nat) (η : List Value) (ρv : Operand → Value), (∀ f, ρv (.func f) = .func (.func f) #[] #[]) → Inv n0 Bx w B η (H.map exE) → (∀ x ∈ o.op.operands, Rel2 w B η (ρ x) (ρv x) ∧ FreshV n0 (ex (ρ x)) (ρv x)) → OpS2 P n0 Bx w ρv o B η r H' := fun {r H'} h => ⟨r, H', h.1, fun n0 Bx w B η ρv _ inv he => h.2 n0 Bx w B η ρv inv he⟩
      obtain ⟨op, ho⟩ : ∃ op, o.op = op := ⟨_, rfl⟩
      rw [ho] at hw
      unfold evW2 at hw
      split at hw
      · injection hw with hw; subst hw
        split at h
        · obtain ⟨r, H', h⟩ := boxImmK_ok hp ho h; exact key h
        · obtain ⟨r, H', h⟩ := boxK_ok hp ho h; exact key h
      · injection hw with hw; subst hw; obtain ⟨r, H', h⟩ := allocK_ok (ρ := ρ) ho h; exact key h
      · injection hw with hw; subst hw; obtain ⟨r, H', h⟩ := storeK_ok hp ho h; exact key h
      · split at hw
        · injection hw with hw; subst hw; obtain ⟨r, H', h⟩ := sliceWK_ok hp ho h; exact key h
        · cases hw
      · split at hw
        · injection hw with hw; subst hw; obtain ⟨r, H', h⟩ := buildOwnK_ok hp ho h; exact key h
        · cases hw
      · injection hw with hw; subst hw; obtain ⟨r, H', h⟩ := makeK_ok hp ho h; exact key h
      · injection hw with hw; subst hw; obtain ⟨r, H', h⟩ := rangeK_ok hp ho h; exact key h
      · injection hw with hw; subst hw; obtain ⟨r, H', h⟩ := nextK_ok hp ho h; exact key h
      · split at hw
        · rename_i ht
          subst ht
          injection hw with hw; subst hw; obtain ⟨r, H', h⟩ := appendK_ok hp ho h; exact key h
        · injection hw with hw; subst hw; obtain ⟨r, H', h⟩ := appendZK_ok hp ho h; exact key h
      · cases hw
    · cases h
  · obtain ⟨op, ho⟩ : ∃ op, o.op = op := ⟨_, rfl⟩
    rw [ho] at h
    split at h
    · obtain ⟨r, H', h1, h2⟩ := copyK_ok ho h
      exact ⟨r, H', h1, fun n0 Bx w B η ρv _ inv he => h2 n0 Bx w B η ρv inv he⟩
    obtain ⟨r, h1, h2⟩ := evNF_ok (o := o) hF (by rw [ho]; exact h)
    exact ⟨r, H, h1, fun n0 Bx w B η ρv hfv inv he N hN => h2 n0 Bx w B η ρv hfv inv he N (fun v w' g hr hf => hN v w' B η g.on (fun _ h => .inl h) (fun _ _ h => h) (g.below inv.base.1) (inv.gk g) hr hf)⟩
end
end Go.Proofs.Ytpijcgohhjgdbaa
