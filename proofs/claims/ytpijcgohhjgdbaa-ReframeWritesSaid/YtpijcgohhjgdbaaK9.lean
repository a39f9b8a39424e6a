/-
  Regions, code, calls: run on typed values; what they come to.
-/
import Derived.Test.YtpijcgohhjgdbaaK8d
namespace Go.Proofs.Ytpijcgohhjgdbaa
set_option maxRecDepth 100000
open Go.RowKit
set_option linter.unusedVariables false
set_option linter.unusedSimpArgs false

section
variable {R : Type}
/-- What is appended to is nobody's from now on, and so is what comes of it. -/
def appQ (mv : Bool × Bool) (sl : List V) (o : Op) : Option (Nat × Operand × TypeId) :=
  if mv.2 = true then (match o with
    | .call ⟨.builtin .append, ⟨[s, x]⟩, ⟨[t, t']⟩⟩ => if t = t' ∧ plainB (opV sl) o = true then (match opV sl s with
      | .own id => some (id, x, t)
      | _ => none) else none
    | _ => none) else none
def appFzK (P : Program) (st : S2) (id : Nat) (x : V) (t : TypeId) (k : S2 → V → Tree R) : Tree R :=
  match elemT P t, st.heap[id]? with
  | some e, some (.own d l E) => (match rowI P e with
    | some (kw, by_) => if E = e ∧ wd d = kw then (match viewA P e x with
      | some ⟨d', m⟩ => castK d' d (fun d => List (T d)) m fun m => .ite (roomB (l.length + m.length) by_) (k (freeze st id) (.lst d (l ++ m))) .fail
      | none => .fail) else .fail
    | none => .fail)
  | _, _ => .fail
theorem appQ_spec {mv : Bool × Bool} {sl : List V} {o : Op} {id : Nat} {x : Operand} {t : TypeId} (h : appQ mv sl o = some (id, x, t)) : ∃ s, o = .call ⟨.builtin .append, #[s, x], #[t, t]⟩ ∧ opV sl s = .own id ∧ plainB (opV sl) o = true := by
  unfold appQ at h
  split at h
  · split at h
    · rename_i s x' t1 t2
      split at h
      · rename_i hc
        obtain ⟨rfl, hp⟩ := hc
        split at h
        · rename_i id' hs
          simp only [Option.some.injEq, Prod.mk.injEq] at h
          obtain ⟨rfl, rfl, rfl⟩ := h
          exact ⟨s, rfl, hs, hp⟩
        · cases h
      · cases h
    · cases h
  · cases h
theorem appFz_ok {P : Program} {st : S2} {o : Oper} {id : Nat} {s x : Operand} {t : TypeId} {k : S2 → V → Tree R} {res : R} (ho : o.op = .call ⟨.builtin .append, #[s, x], #[t, t]⟩) (hs : opV st.slots s = .own id) (hp : Plain (opV st.slots) o) (h : (appFzK P st id (opV st.slots x) t k).run = some res) :
    ∃ st2 r, (k st2 r).run = some res ∧ ∀ (n0 m0 : Nat) (Bx : List Nat) (ds : List Deferred) (a : Act) (w : World) (B : List Nat) (η : List Value), SimK n0 Bx ds st a w B η → ∀ N : Value → World → Prop,
      (∀ v w' B', SimK n0 Bx ds st2 a w' B' η → Goes n0 m0 w B η w' B' η → Rel2 w' B' η r v → FreshV n0 (ex r) v → N v w') → Oper.val P a.eval o w N := by
  unfold appFzK at h
  split at h
  · rename_i e d l E het hH
    split at h
    · rename_i kw by_ hrow
      obtain ⟨ti, z, q1, q2, q3, q4, q5, q6⟩ := rowI_spec hrow
      split at h
      · rename_i hc
        obtain ⟨rfl, hwd⟩ := hc
        split at h
        · rename_i d' m hv
          obtain ⟨e1, h1⟩ := castK_run h
          clear h
          subst e1
          simp only at h1
          rcases Tree.run_ite h1 with ⟨hb, h⟩ | ⟨_, h⟩
          · obtain ⟨r1, r2⟩ : l.length + m.length ≤ maxLen ∧ (l.length + m.length) * by_ ≤ 140737488355328 := of_decide_eq_true hb
            refine ⟨_, _, h, fun n0 m0 Bx ds a w B η hsim N hN => ?_⟩
            have hdiv2 : ((flat _ l).length + (flat _ m).length) / kw = l.length + m.length := by rw [← List.length_append, ← flat_append, flat_length, hwd, List.length_append]; exact Nat.mul_div_cancel _ (by omega)
            have hop : ∀ y ∈ o.op.operands, Rel2 w B η (opV st.slots y) (a.eval y) ∧ FreshV n0 (ex (opV st.slots y)) (a.eval y) := fun y _ => opV_rel hsim.slots hsim.inv.base.2 y
            have hse := (hop s (by simp [ho, Op.operands, Call.operands])).1
            rw [hs] at hse
            have hse : Rel w B η (.own id) (a.eval s) := hse
            have hxe := heu_of hp hop x (by simp [ho, Op.operands, Call.operands])
            have hsrc : ∀ (Hh : List Ent), srcA Hh kw (eu (opV st.slots x)) = some (flat _ m) := fun Hh => by rw [← hwd]; exact srcA_viewA hv Hh
            obtain ⟨v', w', g1, g2, g3, g4, g5⟩ := append_keep (P := P) (o := o) (ρA := fun y => eu (opV st.slots y)) hsim.inv ho hse hxe (elemT_spec het) q1 q2 q3 q4 q5 q6 (cells := flat _ l) (by rw [exH hH]; simp [exE, hwd]) (hsrc _) (flat_one _ m) (by rw [← flat_append]; exact flat_imm _ _) (by rw [hdiv2]; exact r1) (by rw [hdiv2]; exact r2)
            have hs1 : SimK n0 Bx ds st a w' B η := ⟨hsim.defers, g4, hsim.slots.on g2 (fun _ h => .inl h) (fun _ _ h => h)⟩
            obtain ⟨B', k1, k2, k3⟩ := freeze_ok2 hs1 id
            unfold Oper.val
            rw [g1]
            refine hN v' w' B' k2 ⟨g2, fun b hb => .inl (k1 b hb), fun _ _ _ h => h, g3⟩ ?_ (fun h => by cases h)
            have := g5 B' η k1 (k3 _ _ _ hH)
            rw [← flat_append, ← hwd] at this
            exact this
          · cases h
        · cases h
      · cases h
    · cases h
  · cases h
def evOpsI (P : Program) (Γ : Env R) (C : CallI R) (mv : Bool × Bool) (ops : Array Oper) : List Oper → S2 → (S2 → Tree R) → Tree R
  | [], st, k => k st
  | o :: rest, st, k => wantK ops st.slots o
    (fun sl => match frzOp mv o.op ⟨sl, st.heap⟩ with
      | ⟨sl1, H1⟩ => match appQ mv sl1 o.op with
        | some (id, x, t) => appFzK P ⟨sl1, H1⟩ id (opV sl1 x) t fun st2 r => forceL (setV st2.slots o.dst r) fun sl' => evOpsI P Γ C mv ops rest ⟨sl', st2.heap⟩ k
        | none => evI P Γ C mv ⟨sl1, H1⟩ o.op fun r H' => forceL (setV sl1 o.dst r) fun sl' => evOpsI P Γ C mv ops rest ⟨sl', H'⟩ k)
    (fun sl => forceL (setV sl o.dst (.c undef)) fun sl' => evOpsI P Γ C mv ops rest ⟨sl', st.heap⟩ k)
theorem SlotsK.setV {n0 : Nat} {w : World} {B : List Nat} {η : List Value} {sl : List V} {a : Act} {r : V} {v : Value} (h : SlotsK n0 w B η sl a.tmps) (hr : Rel2 w B η r v) (hf : FreshV n0 (ex r) v) (d : Option Tmp) : SlotsK n0 w B η (setV sl d r) (a.put d v).tmps := by
  cases d with
  | none => exact h
  | some t => exact h.put hr hf t
theorem put_defers (a : Act) (d : Option Tmp) (v : Value) : (a.put d v).defers = a.defers := by cases d <;> rfl
theorem evOpsI_ok {P : Program} {Γ : Env R} (hF : FnsOK P Γ.fns) {C : CallI R} (hC : CallIOK P C) {mv : Bool × Bool} {ops : Array Oper} : ∀ (l : List Oper) (st : S2) (k : S2 → Tree R) (res : R), (evOpsI P Γ C mv ops l st k).run = some res →
    ∃ st', (k st').run = some res ∧ ∀ (n0 m0 : Nat) (Bx : List Nat) (ds : List Deferred) (a : Act) (w : World) (B : List Nat) (η : List Value) (Q : Exit → Act → World → Prop), SimK n0 Bx ds st a w B η →
      (∀ a' w' B' η', SimK n0 Bx ds st' a' w' B' η' → Goes n0 m0 w B η w' B' η' → Q .normal a' w') → wpList P ops Q l a w
  | [], st, k, res, h => ⟨st, h, fun n0 m0 Bx ds a w B η Q hs hQ => hQ a w B η hs (Goes.refl _ _ _ _ _)⟩
  | o :: rest, st, k, res, h => by
    unfold evOpsI at h
    obtain ⟨b, h1, hwant⟩ := wantK_ok h
    clear h
    cases b with
    | true =>
      simp only [if_true] at h1
      split at h1
      · rename_i id x t hq
        obtain ⟨s, ho, hs, hpl⟩ := appQ_spec hq
        obtain ⟨st2, r, h2, h3⟩ := appFz_ok (st := frzOp mv o.op ⟨st.slots, st.heap⟩) (s := s) ho hs (fun y hy => Array.all_eq_true'.1 hpl y hy) h1
        rw [forceL_eq] at h2
        obtain ⟨st', h4, h5⟩ := evOpsI_ok hF hC rest _ k res h2
        refine ⟨st', h4, fun n0 m0 Bx ds a w B η Q hs hQ => ?_⟩
        unfold wpList
        rw [hwant w B η a.tmps hs.slots.size (fun d _ => hs.slots.rel d), if_pos rfl]
        obtain ⟨B1, hs1, hg1⟩ := frzOp_ok (m0 := m0) mv o.op st B hs
        refine .inl (val_wp (h3 n0 m0 Bx ds a w B1 η hs1 _ fun v w' B' hs2 hg2 hrel hfv => ?_))
        exact h5 n0 m0 Bx ds _ w' B' η Q ⟨by rw [put_defers]; exact hs2.defers, hs2.inv, hs2.slots.setV hrel hfv _⟩ (fun a2 w2 B2 η2 hs3 hg3 => hQ a2 w2 B2 η2 hs3 ((hg1.trans hg2).trans hg3))
      · obtain ⟨r, H', h2, h3⟩ := evI_ok hF hC h1
        rw [forceL_eq] at h2
        obtain ⟨st', h4, h5⟩ := evOpsI_ok hF hC rest _ k res h2
        refine ⟨st', h4, fun n0 m0 Bx ds a w B η Q hs hQ => ?_⟩
        unfold wpList
        rw [hwant w B η a.tmps hs.slots.size (fun d _ => hs.slots.rel d), if_pos rfl]
        obtain ⟨B1, hs1, hg1⟩ := frzOp_ok (m0 := m0) mv o.op st B hs
        refine .inl (val_wp (h3 n0 Bx ds a w B1 η hs1 _ fun v w' B' η' hon hB hη hbel inv' hrel hfv => ?_))
        have hg2 : Goes n0 m0 w B1 η w' B' η' := ⟨hon, hB, fun id v _ hv => hη id v hv, hbel⟩
        exact h5 n0 m0 Bx ds _ w' B' η' Q ⟨by rw [put_defers]; exact hs1.defers, inv', (hs1.slots.on hon hB hη).setV hrel hfv _⟩ (fun a2 w2 B2 η2 hs2 hg3 => hQ a2 w2 B2 η2 hs2 ((hg1.trans hg2).trans hg3))
    | false =>
      simp only [Bool.false_eq_true, if_false] at h1
      rw [forceL_eq] at h1
      obtain ⟨st', h4, h5⟩ := evOpsI_ok hF hC rest _ k res h1
      refine ⟨st', h4, fun n0 m0 Bx ds a w B η Q hs hQ => ?_⟩
      unfold wpList
      rw [hwant w B η a.tmps hs.slots.size (fun d _ => hs.slots.rel d), if_neg (by simp)]
      exact h5 n0 m0 Bx ds _ w B η Q ⟨by rw [put_defers]; exact hs.defers, hs.inv, hs.slots.setV (r := .c undef) (v := undef) (Rel.c _ _) (fun h => by cases h) _⟩ hQ

end
/-! ### Code -/
def okC2 (inl : FuncId → Bool) : Code → Bool
  | .region _ ops true => drawB inl ops
  | .seq a b => okC2 inl a && okC2 inl b
  | .cond _ a b => okC2 inl a && okC2 inl b
  | .block _ c => okC2 inl c
  | .loop c => okC2 inl c
  | .scope c => okC2 inl c
  | _ => true
/-- A loop's name: the first region in it. -/
def firstR : Code → Option Nat
  | .region id _ _ => some id
  | .seq a b => match firstR a with | some i => some i | none => firstR b
  | .cond _ a b => match firstR a with | some i => some i | none => firstR b
  | .block _ c => firstR c
  | .loop c => firstR c
  | .scope c => firstR c
  | _ => none
def loopsOf : Code → List Code
  | .seq a b => loopsOf a ++ loopsOf b
  | .cond _ a b => loopsOf a ++ loopsOf b
  | .block _ c => loopsOf c
  | .loop c => c :: loopsOf c
  | .scope c => loopsOf c
  | _ => []
def loopsIn (P : Program) : List Nat → List Code
  | f :: _ => (match P.funcs[f]? with
    | some fn => (match fn.body with | some c => loopsOf c | none => [])
    | none => [])
  | [] => []
section
variable {R : Type}
def resOneK (P : Program) (st : S2) (rv : ResultVar) (k : V → Tree R) : Tree R :=
  match rv with
  | .tmp t => k (st.slots.getD t .any)
  | .cell a t => if (st.slots.getD a .any).plain = true then loadK P st.heap t (st.slots.getD a .any) k else .fail
def tupOK : V → Bool
  | .any | .clo _ _ | .bsl _ _ | .tup _ => false
  | _ => true
def resLK (P : Program) (st : S2) : List ResultVar → (List V → Tree R) → Tree R
  | [], k => k []
  | r :: l, k => resOneK P st r fun x => if tupOK x = true then resLK P st l fun m => k (argV x :: m) else .fail
def resK (P : Program) (st : S2) (l : List ResultVar) (k : V → Tree R) : Tree R :=
  match l with
  | [] => k (.c (.tuple #[]))
  | [r] => resOneK P st r k
  | l => resLK P st l fun m => k (.tup m)
/-- A function that copies a row of bytes: what it hands back is the call's own. -/
def CloneOK (P : Program) (f : FuncId) (e : TypeId) : Prop := (∃ fn, P.funcs[f]? = some fn ∧ fn.name ≠ "runtime.NumGoroutine" ∧ fn.body ≠ none) ∧ ∀ (l : List Int), roomB l.length 1 = true → ∀ (w : World) (B : List Nat) (v : Value), (∀ b ∈ B, b < w.heap.size) → GlobOK w B → Rel w B [] (ex (.lst (.int .u8) l)) v → Calls P f #[v] w fun e1 w' => ∃ v', e1 = .returned v' ∧ Gr w w' ∧ OwnAt w' w.heap.size e 1 v' l.length (l.map fun n => Value.int .u8 n)
def cloneK (H : List E2) (e : TypeId) (args : List V) (k : V → List E2 → Tree R) : Tree R :=
  match args with
  | [.lst d l] => castK d (.int .u8) (fun d => List (T d)) l fun l => .ite (roomB (List.length l) 1) (k (.own H.length) (H ++ [.own (.int .u8) l e])) .fail
  | _ => .fail
theorem Inv.pushNil {n0 : Nat} {Bx : List Nat} {w : World} {B : List Nat} {η : List Value} {Hs : List Ent} (inv : Inv n0 Bx w B η Hs) (e : TypeId) {k : Nat} (hk : 1 ≤ k) : Inv n0 Bx w B (η ++ [.slice none 0 0]) (Hs ++ [.own [] e k]) := by
  refine ⟨by simp [inv.len], inv.base, inv.sub, inv.lt, fun i e' he => ?_, fun i j ei ej hij hi hj hli hlj b hb => ?_⟩
  · rcases Nat.lt_or_ge i Hs.length with hi | hi
    · rw [List.getElem?_append_left hi] at he
      rw [getD_push_old (by rw [inv.len]; exact hi)]
      exact EntOK.keep (inv.ent i e' he) (On.refl B w) (fun _ h => .inl h) (fun _ h => h) (push_old η _) (fun _ _ _ => rfl)
    · rw [List.getElem?_append_right hi] at he
      have hz : i = Hs.length := by have := (List.getElem?_eq_some_iff.1 he).1; simp at this; omega
      subst hz
      simp at he; subst he
      rw [← inv.len, getD_push_new]
      exact ⟨0, [], OwnAt.nil w n0 e k, RelL.nil _ _ _, hk, fun b hb => by cases hb⟩
  · have part : ∀ (i : Nat) (ei : Ent), (Hs ++ [Ent.own [] e k])[i]? = some ei → i < Hs.length ∧ Hs[i]? = some ei ∨ i = Hs.length := fun i ei hi => by
      rcases Nat.lt_or_ge i Hs.length with hlt | hge
      · rw [List.getElem?_append_left hlt] at hi; exact .inl ⟨hlt, hi⟩
      · rw [List.getElem?_append_right hge] at hi
        exact .inr (by have := (List.getElem?_eq_some_iff.1 hi).1; simp at this; omega)
    have hl := inv.len
    rcases part i ei hi with ⟨h1, h2⟩ | h1
    · rw [getD_push_old (by omega)] at hb
      rcases part j ej hj with ⟨h3, h4⟩ | h3
      · rw [getD_push_old (by omega)]
        exact inv.sep i j ei ej hij h2 h4 hli hlj b hb
      · subst h3; rw [← hl, getD_push_new]; intro hc; cases hc
    · subst h1; rw [← hl, getD_push_new] at hb; cases hb
theorem flat_u8 (l : List Int) : flat (.int .u8) l = l.map fun n => AV.c (.int .u8 n) := by
  induction l with
  | nil => rfl
  | cons x l ih => rw [flat_cons, ih]; rfl
theorem Inv.pushOwn {n0 : Nat} {Bx : List Nat} {w w' : World} {B : List Nat} {η : List Value} {Hs : List Ent} {e : TypeId} {l : List Int} {v : Value} (inv : Inv n0 Bx w B η Hs) (g : Gr w w') (h : OwnAt w' w.heap.size e 1 v l.length (l.map fun n => Value.int .u8 n)) : ∃ B', Inv n0 Bx w' B' (η ++ [v]) (Hs ++ [.own (flat (.int .u8) l) e 1]) ∧ (∀ b ∈ B', b ∈ B ∨ w.heap.size ≤ b) ∧ ∃ a n c, v = .slice a n c := by
  have hrl : ∀ (B' : List Nat) (η' : List Value), RelL w' B' η' (flat (.int .u8) l) (l.map fun n => Value.int .u8 n) := fun B' η' => ⟨by rw [flat_u8]; simp, fun i x hx => by
    rw [flat_u8, List.getElem?_map, Option.map_eq_some_iff] at hx
    obtain ⟨n, hn, rfl⟩ := hx
    exact ⟨.int .u8 n, by rw [List.getElem?_map, hn]; rfl, .c _ _⟩⟩
  rcases h.2 with ⟨hv, hn⟩ | ⟨gg, o, cap, cur, hv, hb, hcell, rest⟩
  · have hl : l = [] := List.eq_nil_of_length_eq_zero hn
    subst hl hv
    exact ⟨B, (inv.gr g).pushNil e (Nat.le_refl 1), fun b hb => .inl hb, _, _, _, rfl⟩
  · refine ⟨gg :: B, inv.push g hb (Array.getElem?_eq_some_iff.1 hcell).1 (by rw [hv]; rfl) ⟨l.length, _, ⟨h.1, .inr ⟨gg, o, cap, cur, hv, Nat.le_trans inv.base.1 hb, hcell, rest⟩⟩, hrl _ _, Nat.le_refl 1, fun b hb' => ?_⟩, fun b hb' => by rcases List.mem_cons.1 hb' with rfl | h; exact .inr hb; exact .inl h, _, _, _, hv⟩
    rw [hv] at hb'
    have : gg = b := by simpa [Value.ownBlock] using hb'
    subst this
    exact ⟨List.mem_cons_self, fun hx => by have := (inv.sub _ hx).2; have := inv.base.1; omega⟩
def callAt (P : Program) (Γ : Env R) (ev : List Nat → Nat → Code → S2 → (Exit → S2 → Tree R) → Tree R) (path : List Nat) : CallI R := fun f args H k =>
  if Γ.inl f = true then (match Γ.cln f with
  | some e => cloneK H e args k
  | none => match P.funcs[f]? with
    | some fn => (match fn.body with
      | some c => ev (f :: path) H.length c ⟨args ++ List.replicate (fn.ntmps - args.length) .any, H⟩ fun ex st' => match ex with
        | .normal => resK P st' fn.results.toList fun r => k r st'.heap
        | .ret => resK P st' fn.results.toList fun r => k r st'.heap
        | _ => .fail
      | none => .fail)
    | none => .fail) else .fail
def regName (c : Code) : Nat := match firstR c with | some i => i | none => 0
def evK (P : Program) (Γ : Env R) : Nat → List Nat → Nat → Code → S2 → (Exit → S2 → Tree R) → Tree R
  | 0, _, _, _, _, _ => .fail
  | n + 1, path, m0, c, st, k => match c with
    | .skip => k .normal st
    | .label _ => k .normal st
    | .region id ops false => evOpsI P Γ (callAt P Γ (evK P Γ n) (id :: path)) (Γ.mv path id) ops ops.toList st fun st' => k .normal st'
    | .region id ops true => (match frzOps (Γ.mv path id) ops st with
      | ⟨sl, H⟩ => evFr P Γ.fns ops (clR 0 ops.toList (frontsA Γ.inl ops)) H (flR 0 ops.toList (frontsA Γ.inl ops)) sl fun sl' =>
        evCh P Γ (callAt P Γ (evK P Γ n) (id :: path)) (Γ.mv path id) ops (clR 0 ops.toList (frontsA Γ.inl ops)) ⟨sl', H⟩ fun st' => k .normal st')
    | .seq a b => evK P Γ n path m0 a st fun ex st' => match ex with
      | .normal => evK P Γ n path m0 b st' k
      | e => k e st'
    | .cond x t e => (match opV st.slots x with
      | .c (.bool b) => .ite b (evK P Γ n path m0 t st k) (evK P Γ n path m0 e st k)
      | _ => .fail)
    | .block id c => evK P Γ n path m0 c st fun ex st' => match ex with
      | .exit i => if i = id then k .normal st' else k (.exit i) st'
      | e => k e st'
    | .loop c => Γ.lp path m0 (regName c) st k
    | .exit id => k (.exit id) st
    | .ret => k .ret st
    | .scope c => evK P Γ n path m0 c st fun ex st' => match ex with
      | .goto _ => .fail
      | e => k e st'
    | _ => .fail
/-- From any memory that is as st says, c ends with ex in one that is as st' says. -/
def Ends (P : Program) (m0 : Nat) (c : Code) (st : S2) (ex : Exit) (st' : S2) : Prop :=
  ∀ (n0 : Nat) (Bx : List Nat) (ds : List Deferred) (a : Act) (w : World) (B : List Nat) (η : List Value) (Q : Exit → Act → World → Prop), SimK n0 Bx ds st a w B η →
    (∀ a' w' B' η', SimK n0 Bx ds st' a' w' B' η' → Goes n0 m0 w B η w' B' η' → Q ex a' w') → c.wp P Q a w
structure EnvOK (P : Program) (Γ : Env R) : Prop where
  fns : FnsOK P Γ.fns
  inl : ∀ f, Γ.inl f = true → ∃ fn c, P.funcs[f]? = some fn ∧ fn.body = some c ∧ okC2 Γ.inl c = true ∧ fn.name ≠ "runtime.NumGoroutine"
  lp : ∀ path m0 c st k res, c ∈ loopsIn P path → (Γ.lp path m0 (regName c) st k).run = some res → ∃ ex st', (k ex st').run = some res ∧ Ends P m0 (.loop c) st ex st'
  cln : ∀ f e, Γ.cln f = some e → CloneOK P f e
theorem then_ne {ex : Exit} {N : Act → World → Prop} {Q : Exit → Act → World → Prop} {a : Act} {w : World} (h : ex ≠ .normal) : Exit.then N Q ex a w = Q ex a w := by
  cases ex <;> first | exact absurd rfl h | rfl
theorem wp_seqRegion {P : Program} {id : Nat} {ops : Array Oper} {Q : Exit → Act → World → Prop} {a : Act} {w : World} (h : wpList P ops Q ops.toList a w) : (Code.region id ops false).wp P Q a w := by
  refine wp_region ?_
  have e := wpOps_eq_wpList (P := P) (ops := ops) (Q := Q) ops.toList 0 (fun j => by simp)
  rw [List.range_eq_range']
  simp only [Array.length_toList] at e
  rw [e]
  exact h
def resRun (tmps : Array Value) : ResultVar → Sem Value
  | .tmp t => pure (tmps.getD t undef)
  | .cell a t => do loadVar t (← asAddr (tmps.getD a undef))
theorem results_eq (fn : Func) (tmps : Array Value) : results fn tmps = (do let vs ← fn.results.mapM (resRun tmps); pure (if h : vs.size = 1 then vs[0] else .tuple vs)) := by
  unfold results
  congr 1
theorem resOneK_ok {P : Program} {st : S2} {rv : ResultVar} {k : V → Tree R} {res : R} (h : (resOneK P st rv k).run = some res) :
    ∃ r, (k r).run = some res ∧ ∀ (n0 : Nat) (Bx : List Nat) (ds : List Deferred) (a : Act) (w : World) (B : List Nat) (η : List Value), SimK n0 Bx ds st a w B η → ∃ v, (resRun a.tmps rv).run P w = .ok v w ∧ Rel2 w B η r v ∧ FreshV n0 (ex r) v := by
  unfold resOneK at h
  split at h
  · rename_i t
    exact ⟨_, h, fun n0 Bx ds a w B η hs => ⟨_, rfl, hs.slots.rel t, hs.slots.fresh t⟩⟩
  · rename_i ad t
    split at h
    · rename_i hpl
      obtain ⟨segs, rest, l, h1, h2, h3⟩ := readK_ok h
      split at h1
      · rename_i r hr
        obtain ⟨h4, h5, h6⟩ := partV_ok hr
        refine ⟨r, h1, fun n0 Bx ds a w B η hs => ?_⟩
        obtain ⟨adr, u, hv, hrun, hrel⟩ := loadA_run (P := P) hs.inv ((hs.slots.rel ad).get hpl) (loadA_part h2 (by rw [h3]; exact partA_pre h4))
        refine ⟨u, ?_, Rel2.of h5 hrel, fun hfr => by generalize ex r = y at h6 hfr; cases y <;> first | exact absurd rfl (h6 _ _) | cases hfr⟩
        simp [resRun, hv, asAddr, Sem.run_bind, hrun]
      · cases h1
    · cases h
theorem tupOK_rel {x : V} (h : tupOK x = true) {n0 : Nat} {w : World} {B : List Nat} {η : List Value} {v : Value} (hr : Rel2 w B η x v) : Rel w B η (ex0 (argV x)) v := by
  cases x <;> first | exact hr | exact Rel.unf hr | cases h
theorem resLK_ok {P : Program} {st : S2} : ∀ (l : List ResultVar) (k : List V → Tree R) (res : R), (resLK P st l k).run = some res →
    ∃ m, (k m).run = some res ∧ m.length = l.length ∧ ∀ (n0 : Nat) (Bx : List Nat) (ds : List Deferred) (a : Act) (w : World) (B : List Nat) (η : List Value), SimK n0 Bx ds st a w B η → ∃ vs : List Value, (l.mapM (resRun a.tmps)).run P w = .ok vs w ∧ RelL w B η (m.map ex0) vs
  | [], k, res, h => ⟨[], h, rfl, fun n0 Bx ds a w B η hs => ⟨[], rfl, RelL.nil _ _ _⟩⟩
  | rv :: l, k, res, h => by
    unfold resLK at h
    obtain ⟨x, h1, h2⟩ := resOneK_ok h
    split at h1
    · rename_i hx
      obtain ⟨m, h3, h4, h5⟩ := resLK_ok l _ _ h1
      refine ⟨_, h3, by simp [h4], fun n0 Bx ds a w B η hs => ?_⟩
      obtain ⟨v, g1, g2, _⟩ := h2 n0 Bx ds a w B η hs
      obtain ⟨vs, g3, g4⟩ := h5 n0 Bx ds a w B η hs
      refine ⟨v :: vs, ?_, RelL.cons (tupOK_rel (n0 := n0) hx g2) g4⟩
      simp [Sem.run_bind, g1, g3]
    · cases h1
theorem resK_ok {P : Program} {st : S2} {fn : Func} {k : V → Tree R} {res : R} (h : (resK P st fn.results.toList k).run = some res) :
    ∃ r, (k r).run = some res ∧ ∀ (n0 : Nat) (Bx : List Nat) (ds : List Deferred) (a : Act) (w : World) (B : List Nat) (η : List Value), SimK n0 Bx ds st a w B η → ∃ v, (results fn a.tmps).run P w = .ok v w ∧ Rel2 w B η r v ∧ FreshV n0 (ex r) v := by
  obtain ⟨rs, hrs⟩ : ∃ rs, fn.results = rs := ⟨_, rfl⟩
  simp only [results_eq]
  rw [hrs] at h ⊢
  obtain ⟨rs⟩ := rs
  simp only at h
  unfold resK at h
  split at h
  · refine ⟨_, h, fun n0 Bx ds a w B η hs => ⟨.tuple #[], by simp, .c _ _, fun h => by cases h⟩⟩
  · obtain ⟨r, h1, h2⟩ := resOneK_ok h
    refine ⟨r, h1, fun n0 Bx ds a w B η hs => ?_⟩
    obtain ⟨v, g1, g2, g3⟩ := h2 n0 Bx ds a w B η hs
    exact ⟨v, by simp [Sem.run_bind, g1], g2, g3⟩
  · rename_i hn0 hn1
    obtain ⟨m, h1, h2, h3⟩ := resLK_ok _ _ _ h
    refine ⟨_, h1, fun n0 Bx ds a w B η hs => ?_⟩
    obtain ⟨vs, g1, g2⟩ := h3 n0 Bx ds a w B η hs
    have hlen : vs.length = rs.length := by rw [g2.1, List.length_map, h2]
    have hne : ¬ vs.length = 1 := fun hc => by
      rw [hlen] at hc
      match rs, hc with
      | [x], _ => exact hn1 x rfl
    refine ⟨.tuple vs.toArray, ?_, ?_, fun h => by cases h⟩
    · have hm : (Array.mapM (resRun a.tmps) rs.toArray).run P w = .ok vs.toArray w := by
        rw [List.mapM_toArray, ← bind_pure_comp]
        simp [Sem.run_bind, g1]
      rw [Sem.run_bind, hm]
      simp [hne]
    · show Rel w B η (.tup (m.map ex0)) _
      exact .tup _ _ _ (fun i => vs.getD i undef) (by simp [g2.1]) (fun i y hy => by obtain ⟨u, h1, h2⟩ := g2.2 i y hy; simp [List.getD_eq_getElem?_getD, h1]) (fun i y hy => by obtain ⟨u, h1, h2⟩ := g2.2 i y hy; simpa [List.getD_eq_getElem?_getD, h1] using h2)
end
end Go.Proofs.Ytpijcgohhjgdbaa
