/-
  Regions, code, calls: run on typed values.
-/
import Derived.Test.YtpijcgohhjgdbaaGlobV
namespace Go.Proofs.Ytpijcgohhjgdbaa
set_option maxRecDepth 100000
open Go.RowKit
set_option linter.unusedVariables false
set_option linter.unusedSimpArgs false

/-- What stays of what was known, as the call goes on. -/
structure Goes (n0 m0 : Nat) (w : World) (B : List Nat) (η : List Value) (w' : World) (B' : List Nat) (η' : List Value) : Prop where
  on : On B w w'
  hB : ∀ b ∈ B', b ∈ B ∨ w.heap.size ≤ b
  hη : ∀ (id : Nat) v, id < m0 → η[id]? = some v → η'[id]? = some v
  below : Below n0 w w'
theorem Goes.refl (n0 m0 : Nat) (w : World) (B : List Nat) (η : List Value) : Goes n0 m0 w B η w B η := ⟨On.refl B w, fun _ h => .inl h, fun _ _ _ h => h, Below.refl _ _⟩
theorem Goes.trans {n0 m0 : Nat} {a b c : World} {B B' B'' : List Nat} {η η' η'' : List Value} (h : Goes n0 m0 a B η b B' η') (k : Goes n0 m0 b B' η' c B'' η'') : Goes n0 m0 a B η c B'' η'' :=
  ⟨h.on.trans k.on h.hB, fun x hx => (k.hB x hx).elim (fun hx => h.hB x hx) (fun hx => .inr (Nat.le_trans h.on.size hx)), fun id v hi hv => k.hη id v hi (h.hη id v hi hv), h.below.trans k.below⟩
structure Env (R : Type) where
  fns : Fns R
  inl : FuncId → Bool
  lp : List Nat → Nat → Nat → S2 → (Exit → S2 → Tree R) → Tree R
  mv : List Nat → Nat → Bool × Bool
  cln : FuncId → Option TypeId
  scl : FuncId → Bool
def opV (sl : List V) : Operand → V
  | .tmp t => sl.getD t .any
  | .const v => constV v
  | .global g => (match globV g with | some l => .adr l | none => .c (.pointer (some ⟨g, 0, none⟩)))
  | .func f => .clo f []
def setV (sl : List V) (d : Option Tmp) (r : V) : List V := match d with | some t => sl.set t r | none => sl
/-- Rows of the call's own that an operation takes as plain ones. -/
def needs (mv : Bool × Bool) : Op → List Operand
  | .slice _ x _ _ _ => if mv.1 = true then [] else [x]
  | .call ⟨.builtin .append, ⟨[_, x]⟩, _⟩ => [x]
  | .call ⟨.value _, args, _⟩ => if mv.1 = true then [] else args.toList
  | .convert _ _ x => [x]
  | .sliceToArrayPointer _ x => [x]
  | .call ⟨.builtin .copy, ⟨[_, x]⟩, _⟩ => [x]
  | .buildSlice _ _ parts => parts.toList.map (·.2)
  | _ => []
def ownIds : V → List Nat
  | .own i => [i]
  | .agg l => l.filterMap fun | .own i => some i | _ => none
  | _ => []
def frzAll : List Nat → S2 → S2
  | [], st => st
  | i :: l, st => frzAll l (freeze st i)
/-- Boxes of which an operation makes a slice. -/
def needsB (mv : Bool × Bool) : Op → List Operand
  | .slice _ x _ _ none => if mv.1 = true then [] else [x]
  | _ => []
/-- Boxes of whose fields a region makes slices. -/
def needsF (mv : Bool × Bool) (ops : Array Oper) : List Operand := ops.toList.flatMap fun o => match o.op with
  | .slice _ (.tmp t) _ _ none => if mv.1 = true then [] else ops.toList.flatMap fun q => match q.op with
    | .fieldAddr _ y _ => if q.dst == some t then [y] else []
    | _ => []
  | _ => []
def boxIds : V → List Nat
  | .box i _ => [i]
  | _ => []
def frzBs : List Nat → S2 → S2
  | [], st => st
  | i :: l, st => frzBs l (freezeB st i)
def frzOp (mv : Bool × Bool) (o : Op) (st : S2) : S2 := frzBs ((needsB mv o).flatMap fun x => boxIds (opV st.slots x)) (frzAll ((needs mv o).flatMap fun x => ownIds (opV st.slots x)) st)
section
variable {R : Type}
/-- Is the operation wanted? -/
def wantK (ops : Array Oper) (sl : List V) (o : Oper) (yes no : List V → Tree R) : Tree R :=
  match o.guard with
  | none => yes sl
  | some (g, want) => match (ops[g]?).bind (·.dst) with
    | some d => match sl[d]? with
      | some (.c (.bool b)) => .ite b (if want = true then yes (sl.set d (.c (.bool true))) else no (sl.set d (.c (.bool true)))) (if want = true then no (sl.set d (.c (.bool false))) else yes (sl.set d (.c (.bool false))))
      | some (.c (.tuple _)) => no sl
      | _ => .fail
    | none => .fail
theorem set_same' {α : Type} {l : List α} {d : Nat} {x : α} (h : l[d]? = some x) : l.set d x = l := by
  apply List.ext_getElem?
  intro i
  rw [List.getElem?_set]
  split
  · rename_i hi
    subst hi
    rw [if_pos (List.getElem?_eq_some_iff.1 h).1, h]
  · rfl
def guardSlot (ops : Array Oper) (o : Oper) : Option Tmp := match o.guard with
  | some (g, _) => (ops[g]?).bind (·.dst)
  | none => none
theorem wantK_ok {ops : Array Oper} {sl : List V} {o : Oper} {yes no : List V → Tree R} {res : R} (h : (wantK ops sl o yes no).run = some res) :
    ∃ b : Bool, ((if b = true then yes sl else no sl)).run = some res ∧ ∀ (w : World) (B : List Nat) (η : List Value) (tmps : Array Value), sl.length = tmps.size → (∀ d, guardSlot ops o = some d → Rel2 w B η (sl.getD d .any) (tmps.getD d undef)) → Region.wanted o (yielded ops tmps) = b := by
  unfold wantK at h
  split at h
  · rename_i hg
    exact ⟨true, by simpa using h, fun w B η tmps hsz ht => by simp [Region.wanted, hg]⟩
  · rename_i g want hg
    split at h
    · rename_i d hd
      have slot : ∀ (v : Value), sl[d]? = some (.c v) → ∀ (w : World) (B : List Nat) (η : List Value) (tmps : Array Value), sl.length = tmps.size → (∀ d, guardSlot ops o = some d → Rel2 w B η (sl.getD d .any) (tmps.getD d undef)) → tmps[d]? = some v := fun v hv w B η tmps hsz ht => by
        have hr := ht d (by simp [guardSlot, hg, hd])
        rw [List.getD_eq_getElem?_getD, hv, Option.getD_some] at hr
        have hr := Rel.ofC hr
        have hlt : d < tmps.size := by rw [← hsz]; exact (List.getElem?_eq_some_iff.1 hv).1
        rw [Array.getD_eq_getD_getElem?, Array.getElem?_eq_getElem hlt, Option.getD_some] at hr
        rw [Array.getElem?_eq_getElem hlt, hr]
      split at h
      · rename_i b hv
        have key : ∀ (w : World) (B : List Nat) (η : List Value) (tmps : Array Value), sl.length = tmps.size → (∀ d, guardSlot ops o = some d → Rel2 w B η (sl.getD d .any) (tmps.getD d undef)) → Region.wanted o (yielded ops tmps) = (b == want) := fun w B η tmps hsz ht => by
          simp [Region.wanted, hg, yielded, hd, slot _ hv w B η tmps hsz ht]
        rcases Tree.run_ite h with ⟨hb, h1⟩ | ⟨hb, h1⟩
        · clear h
          subst hb
          rw [set_same' hv] at h1
          refine ⟨want, ?_, fun w B η tmps hsz ht => by rw [key w B η tmps hsz ht]; cases want <;> rfl⟩
          cases want <;> simpa using h1
        · clear h
          subst hb
          rw [set_same' hv] at h1
          refine ⟨!want, ?_, fun w B η tmps hsz ht => by rw [key w B η tmps hsz ht]; cases want <;> rfl⟩
          cases want <;> simpa using h1
      · rename_i hv
        refine ⟨false, by simpa using h, fun w B η tmps hsz ht => by simp [Region.wanted, hg, yielded, hd, slot _ hv w B η tmps hsz ht]⟩
      · cases h
    · cases h
theorem frzAll_ok {n0 m0 : Nat} {Bx : List Nat} {ds : List Deferred} {a : Act} {w : World} {η : List Value} : ∀ (l : List Nat) (st : S2) (B : List Nat), SimK n0 Bx ds st a w B η → ∃ B', SimK n0 Bx ds (frzAll l st) a w B' η ∧ Goes n0 m0 w B η w B' η
  | [], st, B, h => ⟨B, h, Goes.refl _ _ _ _ _⟩
  | i :: l, st, B, h => by
    obtain ⟨B1, h1, h2⟩ := freeze_ok h i
    obtain ⟨B2, h3, h4⟩ := frzAll_ok (m0 := m0) l _ B1 h2
    exact ⟨B2, h3, (⟨On.refl B w, fun b hb => .inl (h1 b hb), fun _ _ _ h => h, Below.refl _ _⟩ : Goes n0 m0 w B η w B1 η).trans h4⟩
theorem frzBs_ok {n0 m0 : Nat} {Bx : List Nat} {ds : List Deferred} {a : Act} {w : World} {η : List Value} : ∀ (l : List Nat) (st : S2) (B : List Nat), SimK n0 Bx ds st a w B η → ∃ B', SimK n0 Bx ds (frzBs l st) a w B' η ∧ Goes n0 m0 w B η w B' η
  | [], st, B, h => ⟨B, h, Goes.refl _ _ _ _ _⟩
  | i :: l, st, B, h => by
    obtain ⟨B1, h1, h2⟩ := freezeB_ok h i
    obtain ⟨B2, h3, h4⟩ := frzBs_ok (m0 := m0) l _ B1 h2
    exact ⟨B2, h3, (⟨On.refl B w, fun b hb => .inl (h1 b hb), fun _ _ _ h => h, Below.refl _ _⟩ : Goes n0 m0 w B η w B1 η).trans h4⟩
theorem frzOp_ok {n0 m0 : Nat} {Bx : List Nat} {ds : List Deferred} {a : Act} {w : World} {η : List Value} (mv : Bool × Bool) (o : Op) (st : S2) (B : List Nat) (h : SimK n0 Bx ds st a w B η) : ∃ B', SimK n0 Bx ds (frzOp mv o st) a w B' η ∧ Goes n0 m0 w B η w B' η := by
  obtain ⟨B1, h1, h2⟩ := frzAll_ok (m0 := m0) ((needs mv o).flatMap fun x => ownIds (opV st.slots x)) st B h
  obtain ⟨B2, h3, h4⟩ := frzBs_ok (m0 := m0) ((needsB mv o).flatMap fun x => boxIds (opV st.slots x)) _ B1 h1
  exact ⟨B2, h3, h2.trans h4⟩
/-- What all operations of a region ask for, ahead of them. -/
def frzOps (mv : Bool × Bool) (ops : Array Oper) (st : S2) : S2 := frzBs ((needsF mv ops ++ ops.toList.flatMap fun o => needsB mv o.op).flatMap fun x => boxIds (opV st.slots x)) (frzAll ((ops.toList.flatMap fun o => needs mv o.op).flatMap fun x => ownIds (opV st.slots x)) st)
theorem frzOps_ok {n0 m0 : Nat} {Bx : List Nat} {ds : List Deferred} {a : Act} {w : World} {η : List Value} (mv : Bool × Bool) (ops : Array Oper) (st : S2) (B : List Nat) (h : SimK n0 Bx ds st a w B η) : ∃ B', SimK n0 Bx ds (frzOps mv ops st) a w B' η ∧ Goes n0 m0 w B η w B' η := by
  obtain ⟨B1, h1, h2⟩ := frzAll_ok (m0 := m0) ((ops.toList.flatMap fun o => needs mv o.op).flatMap fun x => ownIds (opV st.slots x)) st B h
  obtain ⟨B2, h3, h4⟩ := frzBs_ok (m0 := m0) ((needsF mv ops ++ ops.toList.flatMap fun o => needsB mv o.op).flatMap fun x => boxIds (opV st.slots x)) _ B1 h1
  exact ⟨B2, h3, h2.trans h4⟩
theorem opG_rel {n0 : Nat} {w : World} {B : List Nat} {η : List Value} {sl : List V} (hgl : GlobOK w B) (g : Nat) : Rel2 w B η (opV sl (.global g)) (.pointer (some ⟨g, 0, none⟩)) ∧ FreshV n0 (ex (opV sl (.global g))) (.pointer (some ⟨g, 0, none⟩)) := by
  simp only [opV]
  split
  · rename_i l hl
    exact ⟨globV_rel hgl hl, fun h => by cases h⟩
  · exact ⟨.c _ _, fun h => by cases h⟩
theorem opV_rel {n0 : Nat} {w : World} {B : List Nat} {η : List Value} {sl : List V} {a : Act} (h : SlotsK n0 w B η sl a.tmps) (hgl : GlobOK w B) (x : Operand) : Rel2 w B η (opV sl x) (a.eval x) ∧ FreshV n0 (ex (opV sl x)) (a.eval x) := by
  cases x with
  | tmp t => exact ⟨h.rel t, h.fresh t⟩
  | const v =>
    refine ⟨Rel2.of (constV_plain v) ?_, fun h => ?_⟩
    · show Rel w B η (ex (constV v)) v
      rw [constV_ex]; exact .c _ _
    · simp only [opV, constV_ex, isFresh] at h; cases h
  | global g => exact opG_rel hgl g
  | func f => exact ⟨⟨[], rfl, rfl, fun i c h => by simp at h⟩, fun h => by cases h⟩
/-- A call that is run in place. -/
abbrev CallI (R : Type) := FuncId → List V → List E2 → (V → List E2 → Tree R) → Tree R
def RelVs (n0 : Nat) (w : World) (B : List Nat) (η : List Value) (args : List V) (cargs : List Value) : Prop := cargs.length = args.length ∧ ∀ (i : Nat) x, args[i]? = some x → ∃ v, cargs[i]? = some v ∧ Rel2 w B η x v ∧ FreshV n0 (ex x) v
structure CallIOK (P : Program) (C : CallI R) : Prop where
  ok : ∀ f args H k res, (C f args H k).run = some res → ∃ r H', (k r H').run = some res ∧ (∃ fn, P.funcs[f]? = some fn ∧ fn.name ≠ "runtime.NumGoroutine" ∧ fn.body ≠ none) ∧
    ∀ (n0 : Nat) (Bx : List Nat) (w : World) (B : List Nat) (η : List Value) (cargs : List Value), Inv n0 Bx w B η (H.map exE) → RelVs n0 w B η args cargs →
      Calls P f cargs.toArray w fun e w' => ∃ v B' η', e = .returned v ∧ Goes n0 H.length w B η w' B' η' ∧ Inv n0 Bx w' B' η' (H'.map exE) ∧ Rel2 w' B' η' r v ∧ FreshV n0 (ex r) v
/-- A call by contract: rows of the call's own that it is given are nobody's from then on. -/
def callF (Γ : Env R) (f : FuncId) (xs : List V) (H : List E2) (k : V → List E2 → Tree R) : Tree R :=
  match frzAll (xs.flatMap ownIds) ⟨xs, H⟩ with
  | ⟨ys, H1⟩ => if ys.all immV2 = true then Γ.fns f (ys.map argV) fun r => k r H1 else .fail
theorem callF_ok {P : Program} {Γ : Env R} (hF : FnsOK P Γ.fns) {f : FuncId} {args : Array Operand} {ts : Array TypeId} {sl : List V} {H : List E2} {o : Oper} {k : V → List E2 → Tree R} {res : R} (ho : o.op = .call ⟨.value (.func f), args, ts⟩) (h : (callF Γ f (args.toList.map (opV sl)) H k).run = some res) :
    ∃ r H', (k r H').run = some res ∧ ∀ (n0 : Nat) (Bx : List Nat) (w : World) (B : List Nat) (η : List Value) (ρv : Operand → Value), (∀ f, ρv (.func f) = .func (.func f) #[] #[]) → Inv n0 Bx w B η (H.map exE) → (∀ x ∈ o.op.operands, Rel2 w B η (opV sl x) (ρv x) ∧ FreshV n0 (ex (opV sl x)) (ρv x)) → OpS2 P n0 Bx w ρv o B η r H' := by
  unfold callF at h
  split at h
  rename_i ys H1 hst
  split at h
  · rename_i himm
    obtain ⟨r, h1, h2, h3, h4⟩ := hF.ok _ _ _ _ h
    refine ⟨r, H1, h1, fun n0 Bx w B η ρv hfv inv he N hN => val_of_enters ho (hfv f) ?_⟩
    have hmem : ∀ y ∈ args.toList, y ∈ o.op.operands := fun y hy => by simp [ho, Op.operands, Call.operands]; exact .inr (by simpa using hy)
    have hs : SimK n0 Bx [] ⟨args.toList.map (opV sl), H⟩ { tmps := args.map ρv, defers := [] } w B η := by
      refine ⟨rfl, inv, ⟨by simp, fun t => ?_, fun t => ?_⟩⟩
      all_goals
        simp only [List.getD_eq_getElem?_getD, Array.getD_eq_getD_getElem?, List.getElem?_map, Array.getElem?_map]
        rcases Nat.lt_or_ge t args.size with ht | ht
        · have e1 : args[t]? = some args[t] := Array.getElem?_eq_getElem ht
          have e2 : args.toList[t]? = some args[t] := by rw [Array.getElem?_toList]; exact e1
          have hm := he args[t] (hmem _ (List.mem_of_getElem? e2))
          simp only [e1, e2, Option.map_some, Option.getD_some]
          first | exact hm.1 | exact hm.2
        · have e1 : args[t]? = none := Array.getElem?_eq_none ht
          have e2 : args.toList[t]? = none := by rw [Array.getElem?_toList]; exact e1
          simp only [e1, e2, Option.map_none, Option.getD_none]
          first | trivial | (intro hc; cases hc)
    obtain ⟨B1, hs1, hg1⟩ := frzAll_ok (m0 := 0) ((args.toList.map (opV sl)).flatMap ownIds) _ B hs
    rw [hst] at hs1
    have hsz : ys.length = args.size := by have := hs1.slots.size; simpa using this
    have hcall := h4 w B1 (args.toList.map ρv) hs1.inv.lt hs1.inv.base.2 (by simp [hsz]) (fun i x hx => by
      rw [List.getElem?_map, Option.map_eq_some_iff] at hx
      obtain ⟨y, hy, rfl⟩ := hx
      have hi := List.all_eq_true.1 himm y (List.mem_of_getElem? hy)
      have hlt : i < args.size := by rw [← hsz]; exact (List.getElem?_eq_some_iff.1 hy).1
      have hr := hs1.slots.rel i
      simp only [List.getD_eq_getElem?_getD, hy, Option.getD_some, Array.getD_eq_getD_getElem?, Array.getElem?_map, Array.getElem?_eq_getElem hlt, Option.map_some] at hr
      exact ⟨ρv args[i], by simp [hlt], immV_arg hi (hr.get (immV2_plain hi))⟩) N (fun v w' g2 g3 => hN v w' B1 η (On.gr g2) (fun b hb => hg1.hB b hb) (fun _ _ h => h) (g2.mono inv.base.1) (hs1.inv.gr g2) (Rel2.of h2 g3.any) (fun hfr => by generalize ex r = y at h3 hfr; cases y <;> first | exact absurd rfl (h3 _ _) | cases hfr))
    have hargs : (args.toList.map ρv).toArray = args.map ρv := by apply Array.ext'; simp
    rw [hargs] at hcall
    exact hcall
  · cases h
/-- Plain values alone. -/
def scaV : V → Bool
  | .c _ => true
  | .tup l => l.all fun x => match x with | .c _ => true | _ => false
  | _ => false
theorem scaV_rel {r : V} (h : scaV r = true) {w : World} {B B' : List Nat} {η η' : List Value} {v : Value} (hr : Rel w B η (ex r) v) : Rel w B' η' (ex r) v := by
  cases r with
  | c u => have := Rel.ofC hr; subst this; exact .c _ _
  | tup l =>
    have hr : Rel w B η (.tup (l.map ex0)) v := hr
    show Rel w B' η' (.tup (l.map ex0)) v
    cases hr with
    | tup _ _ cs us hs hu hq =>
      refine .tup _ _ cs us hs hu (fun i x hx => ?_)
      have h0 := hq i x hx
      rw [List.getElem?_map, Option.map_eq_some_iff] at hx
      obtain ⟨y, hy, rfl⟩ := hx
      have h1 := List.all_eq_true.1 h y (List.mem_of_getElem? hy)
      cases y with
      | c u =>
        have h0 : Rel w B η (.c u) (us i) := h0
        have e := Rel.ofC h0
        rw [e]
        exact .c _ _
      | _ => cases h1
  | _ => cases h
/-- A call by contract that hands back plain values alone: what it is given stays what it is. -/
def callS (Γ : Env R) (f : FuncId) (xs : List V) (H : List E2) (k : V → List E2 → Tree R) : Tree R :=
  match frzAll (xs.flatMap ownIds) ⟨xs, H⟩ with
  | ⟨ys, H1⟩ => if ys.all immV2 = true then Γ.fns f (ys.map argV) fun r => if scaV r = true then k r H else .fail else .fail
theorem callS_ok {P : Program} {Γ : Env R} (hF : FnsOK P Γ.fns) {f : FuncId} {args : Array Operand} {ts : Array TypeId} {sl : List V} {H : List E2} {o : Oper} {k : V → List E2 → Tree R} {res : R} (ho : o.op = .call ⟨.value (.func f), args, ts⟩) (h : (callS Γ f (args.toList.map (opV sl)) H k).run = some res) :
    ∃ r H', (k r H').run = some res ∧ ∀ (n0 : Nat) (Bx : List Nat) (w : World) (B : List Nat) (η : List Value) (ρv : Operand → Value), (∀ f, ρv (.func f) = .func (.func f) #[] #[]) → Inv n0 Bx w B η (H.map exE) → (∀ x ∈ o.op.operands, Rel2 w B η (opV sl x) (ρv x) ∧ FreshV n0 (ex (opV sl x)) (ρv x)) → OpS2 P n0 Bx w ρv o B η r H' := by
  unfold callS at h
  split at h
  rename_i ys H1 hst
  split at h
  · rename_i himm
    obtain ⟨r, h1, h2, h3, h4⟩ := hF.ok _ _ _ _ h
    split at h1
    case isFalse => cases h1
    rename_i hsca
    refine ⟨r, H, h1, fun n0 Bx w B η ρv hfv inv he N hN => val_of_enters ho (hfv f) ?_⟩
    have hmem : ∀ y ∈ args.toList, y ∈ o.op.operands := fun y hy => by simp [ho, Op.operands, Call.operands]; exact .inr (by simpa using hy)
    have hs : SimK n0 Bx [] ⟨args.toList.map (opV sl), H⟩ { tmps := args.map ρv, defers := [] } w B η := by
      refine ⟨rfl, inv, ⟨by simp, fun t => ?_, fun t => ?_⟩⟩
      all_goals
        simp only [List.getD_eq_getElem?_getD, Array.getD_eq_getD_getElem?, List.getElem?_map, Array.getElem?_map]
        rcases Nat.lt_or_ge t args.size with ht | ht
        · have e1 : args[t]? = some args[t] := Array.getElem?_eq_getElem ht
          have e2 : args.toList[t]? = some args[t] := by rw [Array.getElem?_toList]; exact e1
          have hm := he args[t] (hmem _ (List.mem_of_getElem? e2))
          simp only [e1, e2, Option.map_some, Option.getD_some]
          first | exact hm.1 | exact hm.2
        · have e1 : args[t]? = none := Array.getElem?_eq_none ht
          have e2 : args.toList[t]? = none := by rw [Array.getElem?_toList]; exact e1
          simp only [e1, e2, Option.map_none, Option.getD_none]
          first | trivial | (intro hc; cases hc)
    obtain ⟨B1, hs1, hg1⟩ := frzAll_ok (m0 := 0) ((args.toList.map (opV sl)).flatMap ownIds) _ B hs
    rw [hst] at hs1
    have hsz : ys.length = args.size := by have := hs1.slots.size; simpa using this
    have hcall := h4 w B1 (args.toList.map ρv) hs1.inv.lt hs1.inv.base.2 (by simp [hsz]) (fun i x hx => by
      rw [List.getElem?_map, Option.map_eq_some_iff] at hx
      obtain ⟨y, hy, rfl⟩ := hx
      have hi := List.all_eq_true.1 himm y (List.mem_of_getElem? hy)
      have hlt : i < args.size := by rw [← hsz]; exact (List.getElem?_eq_some_iff.1 hy).1
      have hr := hs1.slots.rel i
      simp only [List.getD_eq_getElem?_getD, hy, Option.getD_some, Array.getD_eq_getD_getElem?, Array.getElem?_map, Array.getElem?_eq_getElem hlt, Option.map_some] at hr
      exact ⟨ρv args[i], by simp [hlt], immV_arg hi (hr.get (immV2_plain hi))⟩) N (fun v w' g2 g3 => hN v w' B η (On.gr g2) (fun b hb => .inl hb) (fun _ _ h => h) (g2.mono inv.base.1) (inv.gr g2) (Rel2.of h2 (scaV_rel hsca g3)) (fun hfr => by generalize ex r = y at h3 hfr; cases y <;> first | exact absurd rfl (h3 _ _) | cases hfr))
    have hargs : (args.toList.map ρv).toArray = args.map ρv := by apply Array.ext'; simp
    rw [hargs] at hcall
    exact hcall
  · cases h
def neB : Operand → Operand → Bool
  | .tmp i, .tmp j => i != j
  | .const _, .tmp _ => true
  | _, _ => false
theorem neB_ne {s x : Operand} (h : neB s x = true) : s ≠ x := fun e => by
  subst e
  cases s <;> simp [neB] at h
/-- Append of a row of the call's own, that is nobody's from then on. -/
def appO (P : Program) (sl : List V) (H : List E2) (s x : Operand) (t : TypeId) (k : V → List E2 → Tree R) : Tree R :=
  match frzAll (ownIds (opV sl x)) ⟨[opV sl s, opV sl x], H⟩ with
  | ⟨[s', x'], H1⟩ => if s'.plain = true ∧ x'.plain = true then appendK P H1 t s' x' k else .fail
  | _ => .fail
theorem appO_ok {P : Program} {sl : List V} {H : List E2} {o : Oper} {s x : Operand} {t : TypeId} {k : V → List E2 → Tree R} {res : R} (hne : s ≠ x) (ho : o.op = .call ⟨.builtin .append, #[s, x], #[t, t]⟩) (h : (appO P sl H s x t k).run = some res) :
    ∃ r H', (k r H').run = some res ∧ ∀ (n0 : Nat) (Bx : List Nat) (w : World) (B : List Nat) (η : List Value) (ρv : Operand → Value), (∀ f, ρv (.func f) = .func (.func f) #[] #[]) → Inv n0 Bx w B η (H.map exE) → (∀ x ∈ o.op.operands, Rel2 w B η (opV sl x) (ρv x) ∧ FreshV n0 (ex (opV sl x)) (ρv x)) → OpS2 P n0 Bx w ρv o B η r H' := by
  classical
  unfold appO at h
  split at h
  · rename_i s' x' H1 hst
    split at h
    · rename_i hpl
      obtain ⟨hp1, hp2⟩ := hpl
      obtain ⟨ρ', hρ⟩ : ∃ ρ' : Operand → V, ρ' = fun y => if y = s then s' else if y = x then x' else .any := ⟨_, rfl⟩
      have e1 : ρ' s = s' := by rw [hρ]; simp
      have e2 : ρ' x = x' := by rw [hρ]; simp [Ne.symm hne]
      have hops : ∀ y ∈ o.op.operands, y = s ∨ y = x := fun y hy => by
        rw [ho] at hy
        simpa [Op.operands, Call.operands] using hy
      have hp : Plain ρ' o := fun y hy => by
        rcases hops y hy with rfl | rfl
        · rw [e1]; exact hp1
        · rw [e2]; exact hp2
      obtain ⟨r, H', h1, h2⟩ := appendK_ok (ρ := ρ') hp ho (by rw [e1, e2]; exact h)
      refine ⟨r, H', h1, fun n0 Bx w B η ρv hfv inv he N hN => ?_⟩
      have hs : SimK n0 Bx [] ⟨[opV sl s, opV sl x], H⟩ { tmps := #[ρv s, ρv x], defers := [] } w B η := by
        have q1 := he s (by simp [ho, Op.operands, Call.operands])
        have q2 := he x (by simp [ho, Op.operands, Call.operands])
        refine ⟨rfl, inv, ⟨rfl, fun t => ?_, fun t => ?_⟩⟩
        · match t with
          | 0 => exact q1.1
          | 1 => exact q2.1
          | _ + 2 => trivial
        · match t with
          | 0 => exact q1.2
          | 1 => exact q2.2
          | _ + 2 => exact fun hc => by cases hc
      obtain ⟨B1, hs1, hg1⟩ := frzAll_ok (m0 := 0) (ownIds (opV sl x)) _ B hs
      rw [hst] at hs1
      have he' : ∀ y ∈ o.op.operands, Rel2 w B1 η (ρ' y) (ρv y) ∧ FreshV n0 (ex (ρ' y)) (ρv y) := fun y hy => by
        rcases hops y hy with rfl | rfl
        · rw [e1]; exact ⟨hs1.slots.rel 0, hs1.slots.fresh 0⟩
        · rw [e2]; exact ⟨hs1.slots.rel 1, hs1.slots.fresh 1⟩
      exact h2 n0 Bx w B1 η ρv hs1.inv he' N (fun v w' B' η' g1 g2 g3 g4 g5 g6 g7 => hN v w' B' η' (hg1.on.trans g1 (fun b hb => hg1.hB b hb)) (fun b hb => (g2 b hb).elim (fun h => hg1.hB b h) .inr) g3 g4 g5 g6 g7)
    · cases h
  · cases h
/-- One operation, where calls are run in place. -/
def evI (P : Program) (Γ : Env R) (C : CallI R) (mv : Bool × Bool) (st : S2) (o : Op) (k : V → List E2 → Tree R) : Tree R :=
  match o with
  | .call ⟨.value (.func f), args, ts⟩ => if Γ.inl f = true then C f (args.toList.map (opV st.slots)) st.heap k else if Γ.scl f = true ∧ mv.1 = true then callS Γ f (args.toList.map (opV st.slots)) st.heap k else callF Γ f (args.toList.map (opV st.slots)) st.heap k
  | .call ⟨.value (.tmp t), args, _⟩ => (match st.slots.getD t .any with
    | .clo f caps => if Γ.inl f = true then C f (args.toList.map (opV st.slots) ++ caps) st.heap k
      else if caps.isEmpty = true ∧ args.toList.all (fun x => immV2 (opV st.slots x)) = true then Γ.fns f (args.toList.map fun x => argV (opV st.slots x)) fun r => k r st.heap else .fail
    | _ => .fail)
  | .call ⟨.builtin .append, ⟨[s, x]⟩, ⟨[t, t']⟩⟩ => (match opV st.slots x with
    | .own _ => if neB s x = true ∧ t = t' then appO P st.slots st.heap s x t k else .fail
    | _ => evS2 P Γ.fns mv st.heap (opV st.slots) (.call ⟨.builtin .append, ⟨[s, x]⟩, ⟨[t, t']⟩⟩) k)
  | o => evS2 P Γ.fns mv st.heap (opV st.slots) o k
theorem evI_okC {P : Program} {Γ : Env R} (hF : FnsOK P Γ.fns) {C : CallI R} (hC : CallIOK P C) {mv : Bool × Bool} {st : S2} {o : Oper} {k : V → List E2 → Tree R} {res : R} (h : (evI P Γ C mv st o.op k).run = some res) :
    ∃ r H', (k r H').run = some res ∧ ∀ (n0 : Nat) (Bx : List Nat) (w : World) (B : List Nat) (η : List Value) (ρv : Operand → Value), (∀ f, ρv (.func f) = .func (.func f) #[] #[]) → Inv n0 Bx w B η (st.heap.map exE) → (∀ x ∈ o.op.operands, Rel2 w B η (opV st.slots x) (ρv x) ∧ FreshV n0 (ex (opV st.slots x)) (ρv x)) → OpS2 P n0 Bx w ρv o B η r H' := by
  have call : ∀ (f : FuncId) (args : List V) (fv : Operand) (ops : Array Operand) (ts : Array TypeId) (r : V) (H' : List E2), o.op = .call ⟨.value fv, ops, ts⟩ → (∃ fn, P.funcs[f]? = some fn ∧ fn.name ≠ "runtime.NumGoroutine" ∧ fn.body ≠ none) →
      (∀ (n0 : Nat) (Bx : List Nat) (w : World) (B : List Nat) (η : List Value) (cargs : List Value), Inv n0 Bx w B η (st.heap.map exE) → RelVs n0 w B η args cargs →
      Calls P f cargs.toArray w fun e w' => ∃ v B' η', e = .returned v ∧ Goes n0 st.heap.length w B η w' B' η' ∧ Inv n0 Bx w' B' η' (H'.map exE) ∧ Rel2 w' B' η' r v ∧ FreshV n0 (ex r) v) →
      (∀ (n0 : Nat) (w : World) (B : List Nat) (η : List Value) (ρv : Operand → Value), (∀ f, ρv (.func f) = .func (.func f) #[] #[]) → (∀ x ∈ o.op.operands, Rel2 w B η (opV st.slots x) (ρv x) ∧ FreshV n0 (ex (opV st.slots x)) (ρv x)) → ∃ (cargs : List Value) (a1 cap : Array Value), RelVs n0 w B η args cargs ∧ (resolve ρv ⟨.value fv, ops, ts⟩ o.type).run P w = .ok { target := .fn (.func f) cap, args := a1 } w ∧ a1 ++ cap = cargs.toArray) →
      ∀ (n0 : Nat) (Bx : List Nat) (w : World) (B : List Nat) (η : List Value) (ρv : Operand → Value), (∀ f, ρv (.func f) = .func (.func f) #[] #[]) → Inv n0 Bx w B η (st.heap.map exE) → (∀ x ∈ o.op.operands, Rel2 w B η (opV st.slots x) (ρv x) ∧ FreshV n0 (ex (opV st.slots x)) (ρv x)) → OpS2 P n0 Bx w ρv o B η r H' := by
    intro f args fv ops ts r H' ho hfn hcalls hargs n0 Bx w B η ρv hfv inv he N hN
    obtain ⟨fn, f1, f2, f3⟩ := hfn
    obtain ⟨cargs, a1, cap, hrel, hres, hcat⟩ := hargs n0 w B η ρv hfv he
    have hcall := hcalls n0 Bx w B η cargs inv hrel
    unfold Oper.val
    have hrun : (execOp ρv o).run P w = .ok (.enter f cargs.toArray) w := by
      simp only [execOp, ho, Sem.run_bind, hres, Result.andThen_ok, invoke, callFunc, hcat]
      simp [Sem.run_bind, f1, f2, f3]
    rw [hrun]
    refine hcall.mono fun e w' ⟨v, B', η', g1, g2, g3, g4, g5⟩ => ⟨v, g1, hN v w' B' η' g2.on g2.hB (fun id v hv => g2.hη id v ?_ hv) g2.below g3 g4 g5⟩
    have := (List.getElem?_eq_some_iff.1 hv).1
    rw [inv.len] at this
    simpa using this
  obtain ⟨op, ho⟩ : ∃ op, o.op = op := ⟨_, rfl⟩
  rw [ho] at h
  unfold evI at h
  split at h
  · rename_i f args ts
    split at h
    · obtain ⟨r, H', h1, h2, h3⟩ := hC.ok _ _ _ _ _ h
      refine ⟨r, H', h1, call f _ _ _ _ r H' ho h2 h3 fun n0 w B η ρv hfv he => ⟨args.toList.map ρv, args.map ρv, #[], ⟨by simp, fun i x hx => ?_⟩, ?_, ?_⟩⟩
      · rw [List.getElem?_map, Option.map_eq_some_iff] at hx
        obtain ⟨y, hy, rfl⟩ := hx
        have hm := List.mem_of_getElem? hy
        exact ⟨ρv y, by rw [List.getElem?_map, hy]; rfl, he y (by simp [ho, Op.operands, Call.operands]; exact .inr (by simpa using hm))⟩
      · simp [resolve, Deferred.ofValue, hfv]
      · apply Array.ext'; simp
    · split at h
      · exact callS_ok hF ho h
      · exact callF_ok hF ho h
  · rename_i t args ts
    split at h
    · rename_i f caps hcl
      split at h
      · obtain ⟨r, H', h1, h2, h3⟩ := hC.ok _ _ _ _ _ h
        refine ⟨r, H', h1, call f _ _ _ _ r H' ho h2 h3 fun n0 w B η ρv hfv he => ?_⟩
        have hv := (he (.tmp t) (by simp [ho, Op.operands, Call.operands])).1
        simp only [opV] at hv
        rw [hcl] at hv
        obtain ⟨vs, e1, e2, e3⟩ := hv
        refine ⟨args.toList.map ρv ++ vs, args.map ρv, vs.toArray, ⟨by simp [e2], fun i x hx => ?_⟩, ?_, ?_⟩
        · rw [List.getElem?_append] at hx ⊢
          simp only [List.length_map] at hx ⊢
          split at hx
          · rename_i hi
            rw [if_pos hi]
            rw [List.getElem?_map, Option.map_eq_some_iff] at hx
            obtain ⟨y, hy, rfl⟩ := hx
            have hm := List.mem_of_getElem? hy
            exact ⟨ρv y, by rw [List.getElem?_map, hy]; rfl, he y (by simp [ho, Op.operands, Call.operands]; exact .inr (by simpa using hm))⟩
          · rename_i hi
            rw [if_neg hi]
            obtain ⟨u, g1, g2, g3⟩ := e3 _ _ hx
            refine ⟨u, g1, Rel2.of (V.cap_plain g2) g3, fun hfr => ?_⟩
            obtain ⟨d, l, rfl⟩ := exFresh hfr
            cases g2
        · have hev : ρv (.tmp t) = .func (.func f) #[] vs.toArray := e1
          simp [resolve, Deferred.ofValue, hev]
        · apply Array.ext'; simp
      · split at h
        · rename_i hc
          obtain ⟨hcap, himm⟩ := hc
          have hcap : caps = [] := by simpa using hcap
          subst hcap
          obtain ⟨r, h1, h2, h3, h4⟩ := hF.ok _ _ _ _ h
          refine ⟨r, st.heap, h1, fun n0 Bx w B η ρv hfv inv he N hN => ?_⟩
          have hv := (he (.tmp t) (by simp [ho, Op.operands, Call.operands])).1
          simp only [opV] at hv
          rw [hcl] at hv
          obtain ⟨vs, e1, e2, e3⟩ := hv
          have hvs : vs = [] := List.eq_nil_of_length_eq_zero e2
          subst hvs
          have hev : ρv (.tmp t) = .func (.func f) #[] #[] := e1
          have hcall := h4 w B (args.toList.map ρv) inv.lt inv.base.2 (by simp) (fun i x hx => by
            rw [List.getElem?_map, Option.map_eq_some_iff] at hx
            obtain ⟨y, hy, rfl⟩ := hx
            have hm := List.mem_of_getElem? hy
            have hi := List.all_eq_true.1 himm y hm
            exact ⟨ρv y, by rw [List.getElem?_map, hy]; rfl, immV_arg hi ((he y (by simp [ho, Op.operands, Call.operands]; exact .inr (by simpa using hm))).1.get (immV2_plain hi))⟩) N (fun v w' g2 g3 => hN v w' B η (On.gr g2) (fun _ h => .inl h) (fun _ _ h => h) (g2.mono inv.base.1) (inv.gr g2) (Rel2.of h2 g3.any) (fun hfr => by generalize ex r = y at h3 hfr; cases y <;> first | exact absurd rfl (h3 _ _) | cases hfr))
          have hargs : (args.toList.map ρv).toArray = args.map ρv := by apply Array.ext'; simp
          rw [hargs] at hcall
          exact val_of_enters ho hev hcall
        · cases h
    · cases h
  · split at h
    · split at h
      · rename_i hc
        obtain ⟨hne, rfl⟩ := hc
        exact appO_ok (neB_ne hne) ho h
      · cases h
    · obtain ⟨r, H', h1, h2⟩ := evS2_ok (o := o) hF (by rw [ho]; exact h)
      exact ⟨r, H', h1, h2⟩
  · obtain ⟨r, H', h1, h2⟩ := evS2_ok (o := o) hF (by rw [ho]; exact h)
    exact ⟨r, H', h1, h2⟩
theorem evI_ok {P : Program} {Γ : Env R} (hF : FnsOK P Γ.fns) {C : CallI R} (hC : CallIOK P C) {mv : Bool × Bool} {st : S2} {o : Oper} {k : V → List E2 → Tree R} {res : R} (h : (evI P Γ C mv st o.op k).run = some res) :
    ∃ r H', (k r H').run = some res ∧ ∀ (n0 : Nat) (Bx : List Nat) (ds : List Deferred) (a : Act) (w : World) (B : List Nat) (η : List Value), SimK n0 Bx ds st a w B η → OpS2 P n0 Bx w a.eval o B η r H' := by
  obtain ⟨r, H', h1, h2⟩ := evI_okC hF hC h
  exact ⟨r, H', h1, fun n0 Bx ds a w B η hs => h2 n0 Bx w B η a.eval (fun f => rfl) hs.inv (fun x _ => opV_rel hs.slots hs.inv.base.2 x)⟩
end
end Go.Proofs.Ytpijcgohhjgdbaa
