/-
  Loops and functions, by plain functions on typed data.
-/
import Derived.Test.YtpijcgohhjgdbaaKB
namespace Go.Proofs.Ytpijcgohhjgdbaa
set_option maxRecDepth 100000
open Go.RowKit
set_option linter.unusedVariables false
set_option linter.unusedSimpArgs false

/-- A function by rounds, with fuel. -/
def gl {C O : Type} (G : (C → Option O) → C → Option O) : Nat → C → Option O
  | 0, _ => none
  | n + 1, c => G (gl G n) c
@[reducible] def OT : List (Exit × Shape) → Type
  | [] => Empty
  | [e] => CT e.2
  | e :: e2 :: es => CT e.2 ⊕ OT (e2 :: es)
def encO (n : Nat) : (es : List (Exit × Shape)) → OT es → Exit × S2
  | [], o => nomatch o
  | [e], o => (e.1, stOf e.2 n o)
  | e :: e2 :: es, o => match o with
    | .inl c => (e.1, stOf e.2 n c)
    | .inr o => encO n (e2 :: es) o
def exitEq : Exit → Exit → Bool
  | .normal, .normal => true
  | .ret, .ret => true
  | .exit i, .exit j => i == j
  | _, _ => false
theorem exitEq_eq {x y : Exit} (h : exitEq x y = true) : x = y := by
  unfold exitEq at h
  split at h
  · rfl
  · rfl
  · simp only [beq_iff_eq] at h; rw [h]
  · cases h
section
variable {R : Type}
def casesO (n : Nat) : (es : List (Exit × Shape)) → OT es → (Exit → S2 → Tree R) → Tree R
  | [], _, _ => .fail
  | [e], o, k => k e.1 (stOf e.2 n o)
  | e :: e2 :: es, o, k => .cases o (fun c => k e.1 (stOf e.2 n c)) (fun o => casesO n (e2 :: es) o k)
theorem casesO_run (n : Nat) : ∀ (es : List (Exit × Shape)) (o : OT es) (k : Exit → S2 → Tree R), (casesO n es o k).run = (k (encO n es o).1 (encO n es o).2).run
  | [], o, _ => nomatch o
  | [e], o, k => rfl
  | e :: e2 :: es, .inl c, k => rfl
  | e :: e2 :: es, .inr o, k => casesO_run n (e2 :: es) o k
def decO (P : Program) (m0 n : Nat) (ow : List (Nat × TypeId)) : (es : List (Exit × Shape)) → Exit → S2 → (OT es → Tree R) → Tree R
  | [], _, _, _ => .fail
  | [e], x, st, k => if exitEq x e.1 = true then toShape P m0 ow e.2 n st k else .fail
  | e :: e2 :: es, x, st, k => if exitEq x e.1 = true then toShape P m0 ow e.2 n st fun c => k (.inl c) else decO P m0 n ow (e2 :: es) x st fun o => k (.inr o)
theorem decO_ok {P : Program} {m0 n : Nat} {ow : List (Nat × TypeId)} : ∀ (es : List (Exit × Shape)) (x : Exit) (st : S2) (k : OT es → Tree R) (res : R), (decO P m0 n ow es x st k).run = some res →
    ∃ o, (k o).run = some res ∧ x = (encO n es o).1 ∧ ∀ (n0 : Nat) (Bx : List Nat) (ds : List Deferred) (a : Act) (w : World) (B : List Nat) (η : List Value), SimK n0 Bx ds st a w B η → ∃ B' η', SimK n0 Bx ds (encO n es o).2 a w B' η' ∧ Goes n0 m0 w B η w B' η'
  | [], x, st, k, res, h => by cases h
  | [e], x, st, k, res, h => by
    unfold decO at h
    split at h
    · rename_i he
      obtain ⟨c, h1, h2⟩ := toShape_ok h
      exact ⟨c, h1, exitEq_eq he, h2⟩
    · cases h
  | e :: e2 :: es, x, st, k, res, h => by
    unfold decO at h
    split at h
    · rename_i he
      obtain ⟨c, h1, h2⟩ := toShape_ok h
      exact ⟨.inl c, h1, exitEq_eq he, h2⟩
    · obtain ⟨o, h1, h2, h3⟩ := decO_ok (e2 :: es) x st _ res h
      exact ⟨.inr o, h1, h2, h3⟩
/-- What is to be known of a loop ahead. -/
structure LI where
  n : Nat
  m0 : Nat
  ow : List (Nat × TypeId)
  sh : Shape
  outs : List (Exit × Shape)
/-- One round. -/
def roundK (P : Program) (Γ : (R : Type) → Env R) (fuel : Nat) (path : List Nat) (li : LI) (body : Code) (X : CT li.sh → Option (OT li.outs)) (c : CT li.sh) : Tree (OT li.outs) :=
  evK P (Γ (OT li.outs)) fuel path li.m0 body (stOf li.sh li.n c) fun ex st' => match ex with
    | .normal => toShape P li.m0 li.ow li.sh li.n st' fun c' => .tail (X c')
    | ex => decO P li.m0 li.n li.ow li.outs ex st' fun o => .done o
def lpK (P : Program) (li : LI) (G : (CT li.sh → Option (OT li.outs)) → CT li.sh → Option (OT li.outs)) (N : Nat) (st : S2) (k : Exit → S2 → Tree R) : Tree R :=
  toShape P li.m0 li.ow li.sh li.n st fun c => .bind (gl G N c) fun o => casesO li.n li.outs o k
def LoopOK (P : Program) (m0 : Nat) (body : Code) (lp : S2 → (Exit → S2 → Tree R) → Tree R) : Prop :=
  ∀ st k res, (lp st k).run = some res → ∃ ex st', (k ex st').run = some res ∧ Ends P m0 (.loop body) st ex st'
end
section
variable {P : Program} {Γ : (R : Type) → Env R}
theorem gl_ends (hm : P.follows .mixedOrders = true) {li : LI} {G : (CT li.sh → Option (OT li.outs)) → CT li.sh → Option (OT li.outs)} {fuel : Nat} {path : List Nat} {body : Code}
    (hΓ : EnvOK P (Γ (OT li.outs))) (hok : okC2 (Γ (OT li.outs)).inl body = true) (hsub : ∀ c' ∈ loopsOf body, c' ∈ loopsIn P path)
    (hstep : ∀ X c, (roundK P Γ fuel path li body X c).run = G X c) : ∀ (N : Nat) (c : CT li.sh) (o : OT li.outs), gl G N c = some o →
    ∀ (n0 : Nat) (Bx : List Nat) (ds : List Deferred) (a : Act) (w : World) (B : List Nat) (η : List Value) (Q : Exit → Act → World → Prop), SimK n0 Bx ds (stOf li.sh li.n c) a w B η →
      (∀ a' w' B' η', SimK n0 Bx ds (encO li.n li.outs o).2 a' w' B' η' → Goes n0 li.m0 w B η w' B' η' → Q (encO li.n li.outs o).1 a' w') → Code.rounds P body Q N a w
  | 0, c, o, h => by cases h
  | N + 1, c, o, h => by
    intro n0 Bx ds a w B η Q hs hQ
    have h1 : G (gl G N) c = some o := h
    rw [← hstep] at h1
    obtain ⟨ex, st', h2, h3⟩ := evK_ok hm hΓ fuel path li.m0 body _ _ o hok hsub h1
    rw [rounds_succ]
    split at h2
    · obtain ⟨c', h4, h5⟩ := toShape_ok h2
      refine h3 n0 Bx ds a w B η _ hs fun a' w' B' η' hs' hg' => ?_
      obtain ⟨B2, η2, hs2, hg2⟩ := h5 n0 Bx ds a' w' B' η' hs'
      exact gl_ends hm hΓ hok hsub hstep N c' o h4 n0 Bx ds a' w' B2 η2 Q hs2 fun a3 w3 B3 η3 hs3 hg3 => hQ a3 w3 B3 η3 hs3 ((hg'.trans hg2).trans hg3)
    · rename_i hne
      obtain ⟨o', h4, h5, h6⟩ := decO_ok _ _ _ _ _ h2
      simp only [Tree.run, Option.some.injEq] at h4
      subst h4
      refine h3 n0 Bx ds a w B η _ hs fun a' w' B' η' hs' hg' => ?_
      obtain ⟨B2, η2, hs2, hg2⟩ := h6 n0 Bx ds a' w' B' η' hs'
      rw [then_ne (fun hc => hne hc), h5]
      exact hQ a' w' B2 η2 hs2 (hg'.trans hg2)
theorem lpK_ok {R : Type} (hm : P.follows .mixedOrders = true) {li : LI} {G : (CT li.sh → Option (OT li.outs)) → CT li.sh → Option (OT li.outs)} {fuel : Nat} {path : List Nat} {body : Code}
    (hΓ : EnvOK P (Γ (OT li.outs))) (hok : okC2 (Γ (OT li.outs)).inl body = true) (hsub : ∀ c' ∈ loopsOf body, c' ∈ loopsIn P path)
    (hstep : ∀ X c, (roundK P Γ fuel path li body X c).run = G X c) (N : Nat) : LoopOK (R := R) P li.m0 body (lpK P li G N) := by
  intro st k res h
  obtain ⟨c, h1, h2⟩ := toShape_ok h
  obtain ⟨o, h3, h4⟩ := Tree.run_bind h1
  rw [casesO_run] at h4
  refine ⟨_, _, h4, fun n0 Bx ds a w B η Q hs hQ => ?_⟩
  obtain ⟨B1, η1, hs1, hg1⟩ := h2 n0 Bx ds a w B η hs
  exact wp_loop_rounds N (gl_ends hm hΓ hok hsub hstep N c o h3 n0 Bx ds a w B1 η1 Q hs1 fun a' w' B' η' hs' hg' => hQ a' w' B' η' hs' (hg1.trans hg'))

/-! ### The environment, a loop or a function more -/
def Env.addLp (Γ : (R : Type) → Env R) (path : List Nat) (m0 key : Nat) (lp : (R : Type) → S2 → (Exit → S2 → Tree R) → Tree R) : (R : Type) → Env R := fun R =>
  { Γ R with lp := fun p m k st kk => if p = path ∧ m = m0 ∧ k = key then lp R st kk else (Γ R).lp p m k st kk }
/-- The loop of this name. -/
def loopAt (P : Program) (path : List Nat) (key : Nat) : Code := match (loopsIn P path).filter (fun c => regName c == key) with
  | [c] => c
  | _ => .skip
def oneLoop (P : Program) (path : List Nat) (key : Nat) : Bool := match (loopsIn P path).filter (fun c => regName c == key) with
  | [_] => true
  | _ => false
theorem loopAt_eq {path : List Nat} {key : Nat} (h : oneLoop P path key = true) {c : Code} (hc : c ∈ loopsIn P path) (hk : regName c = key) : c = loopAt P path key := by
  unfold oneLoop at h
  unfold loopAt
  have hm : c ∈ (loopsIn P path).filter (fun c => regName c == key) := List.mem_filter.2 ⟨hc, by simp [hk]⟩
  split at h
  · rename_i c0 he
    rw [he] at hm
    simp only [List.mem_singleton] at hm
    rw [hm]
  · cases h
theorem EnvOK.addLp {R : Type} (hΓ : EnvOK P (Γ R)) {path : List Nat} {m0 key : Nat} {lp : (R : Type) → S2 → (Exit → S2 → Tree R) → Tree R} (h1 : oneLoop P path key = true) (h2 : LoopOK P m0 (loopAt P path key) (lp R)) : EnvOK P (Env.addLp Γ path m0 key lp R) := by
  refine ⟨hΓ.fns, hΓ.inl, fun p m c st k res hc h => ?_, hΓ.cln⟩
  simp only [Env.addLp] at h
  split at h
  · rename_i hp
    obtain ⟨rfl, rfl, hk⟩ := hp
    rw [loopAt_eq h1 hc hk]
    exact h2 st k res h
  · exact hΓ.lp p m c st k res hc h
def Env.addFn (Γ : (R : Type) → Env R) (f : FuncId) (S : (R : Type) → List V → (V → Tree R) → Tree R) : (R : Type) → Env R := fun R =>
  { Γ R with fns := fun g args k => if g = f then S R args k else (Γ R).fns g args k }
/-- Of functions that are run in place. -/
def Env.addInl (Γ : (R : Type) → Env R) (l : List FuncId) : (R : Type) → Env R := fun R => { Γ R with inl := fun f => l.contains f }
def Env.addMv (Γ : (R : Type) → Env R) (l : List (Nat × Nat)) : (R : Type) → Env R := fun R => { Γ R with mv := fun p i => (l.contains (p.headD 0, i) || ((Γ R).mv p i).1, ((Γ R).mv p i).2) }
def Env.addBx (Γ : (R : Type) → Env R) (l : List (Nat × Nat)) : (R : Type) → Env R := fun R => { Γ R with mv := fun p i => (((Γ R).mv p i).1, l.contains (p.headD 0, i) || ((Γ R).mv p i).2) }
/-- A loop, a function that nothing is known of. -/
def noLoop (path : List Nat) (m0 key : Nat) (st : S2) : Option Unit := none
def noFn (f : FuncId) (args : List V) : Option Unit := none
def env0 : (R : Type) → Env R := fun R => ⟨fun f args _ => .bind (noFn f args) fun _ => .fail, fun _ => false, fun p m k st _ => .bind (noLoop p m k st) fun _ => .fail, fun _ _ => (false, false), fun _ => none, fun _ => false⟩
theorem loops_sub : ∀ (d c c' : Code), c ∈ loopsOf d → c' ∈ loopsOf c → c' ∈ loopsOf d
  | .seq a b, c, c', h, h' => by
    simp only [loopsOf, List.mem_append] at h ⊢
    exact h.elim (fun h => .inl (loops_sub a c c' h h')) (fun h => .inr (loops_sub b c c' h h'))
  | .cond x a b, c, c', h, h' => by
    simp only [loopsOf, List.mem_append] at h ⊢
    exact h.elim (fun h => .inl (loops_sub a c c' h h')) (fun h => .inr (loops_sub b c c' h h'))
  | .block i a, c, c', h, h' => by
    simp only [loopsOf] at h ⊢
    exact loops_sub a c c' h h'
  | .scope a, c, c', h, h' => by
    simp only [loopsOf] at h ⊢
    exact loops_sub a c c' h h'
  | .loop a, c, c', h, h' => by
    simp only [loopsOf, List.mem_cons] at h ⊢
    rcases h with rfl | h
    · exact .inr h'
    · exact .inr (loops_sub a c c' h h')
  | .skip, c, c', h, h' => by simp [loopsOf] at h
  | .region _ _ _, c, c', h, h' => by simp [loopsOf] at h
  | .rangeFunc _ _ _ _, c, c', h, h' => by simp [loopsOf] at h
  | .exit _, c, c', h, h' => by simp [loopsOf] at h
  | .label _, c, c', h, h' => by simp [loopsOf] at h
  | .goto _, c, c', h, h' => by simp [loopsOf] at h
  | .ret, c, c', h, h' => by simp [loopsOf] at h
  | .refuse _, c, c', h, h' => by simp [loopsOf] at h
theorem loopAt_sub {path : List Nat} {key : Nat} : ∀ c' ∈ loopsOf (loopAt P path key), c' ∈ loopsIn P path := by
  intro c' hc'
  unfold loopAt at hc'
  split at hc'
  · rename_i c hc
    have hm : c ∈ loopsIn P path := (List.mem_filter.1 (by rw [hc]; simp : c ∈ (loopsIn P path).filter fun c => regName c == key)).1
    unfold loopsIn at hm ⊢
    split at hm
    · split at hm
      · split at hm
        · exact loops_sub _ c c' hm hc'
        · simp at hm
      · simp at hm
    · simp at hm
  · simp [loopsOf] at hc'
theorem env0_ok (R : Type) : EnvOK P (env0 R) where
  fns := ⟨fun f args k res h => nomatch h⟩
  inl := fun f h => nomatch h
  lp := fun path m0 c st k res _ h => nomatch h
  cln := fun f e h => nomatch h
theorem EnvOK.addMv {R : Type} (hΓ : EnvOK P (Γ R)) (l : List (Nat × Nat)) : EnvOK P (Env.addMv Γ l R) := ⟨hΓ.fns, hΓ.inl, hΓ.lp, hΓ.cln⟩
theorem EnvOK.addBx {R : Type} (hΓ : EnvOK P (Γ R)) (l : List (Nat × Nat)) : EnvOK P (Env.addBx Γ l R) := ⟨hΓ.fns, hΓ.inl, hΓ.lp, hΓ.cln⟩
def inlOK (P : Program) (l : List FuncId) : Bool := l.all fun f => match P.funcs[f]? with
  | some fn => (match fn.body with | some c => okC2 (fun f => l.contains f) c && fn.name != "runtime.NumGoroutine" | none => false)
  | none => false
theorem EnvOK.addInl {R : Type} (hΓ : EnvOK P (Γ R)) {l : List FuncId} (h : inlOK P l = true) : EnvOK P (Env.addInl Γ l R) := by
  refine ⟨hΓ.fns, fun f hf => ?_, hΓ.lp, hΓ.cln⟩
  have := List.all_eq_true.1 h f (by simpa [Env.addInl] using hf)
  split at this
  · rename_i fn hfn
    split at this
    · rename_i c hc
      simp only [Bool.and_eq_true, bne_iff_ne] at this
      exact ⟨fn, c, hfn, hc, this.1, this.2⟩
    · cases this
  · cases this

/-! ### Functions -/
@[reducible] def RT : List Td → Type
  | [] => Unit
  | [d] => T d
  | d :: e :: l => T d × RT (e :: l)
def valR : (l : List Td) → RT l → List V
  | [], _ => []
  | [d], x => [valV d x]
  | d :: e :: l, x => valV d x.1 :: valR (e :: l) x.2
def tupV (l : List V) : V := match l with
  | [] => .c (.tuple #[])
  | [x] => x
  | l => .tup l
def valA : (l : List Td) → HL l → List V
  | [], _ => []
  | d :: l, c => valV d c.1 :: valA l c.2
section
variable {R : Type}
def decA : (l : List Td) → List V → (HL l → Tree R) → Tree R
  | [], xs, k => (match xs with | [] => k () | _ => .fail)
  | d :: l, xs, k => (match xs with
    | x :: xs => decV d x fun y => decA l xs fun z => k (y, z)
    | [] => .fail)
def decRL : (l : List Td) → List V → (RT l → Tree R) → Tree R
  | [], xs, k => (match xs with | [] => k () | _ => .fail)
  | [d], xs, k => (match xs with | [x] => decV d x k | _ => .fail)
  | d :: e :: l, xs, k => (match xs with
    | x :: xs => decV d x fun y => decRL (e :: l) xs fun z => k (y, z)
    | [] => .fail)
def decR (l : List Td) (r : V) (k : RT l → Tree R) : Tree R :=
  match l with
  | [] => (match r with | .c (.tuple _) => k () | _ => .fail)
  | [d] => decV d r k
  | d :: e :: l => (match r with | .tup xs => decRL (d :: e :: l) xs k | _ => .fail)
/-- Nothing of the call's own is left. -/
def frzRes (st : S2) : S2 := frzAll (List.range st.heap.length) st
def runV (P : Program) (Γ : (R : Type) → Env R) (fuel : Nat) (f : FuncId) (xs : List V) (rs : List Td) : Tree (RT rs) :=
  match P.funcs[f]? with
  | some fn => (match fn.body with
    | some b => evK P (Γ (RT rs)) fuel [f] 0 b ⟨slots0 fn xs, []⟩ fun ex st' => match ex with
      | .normal => resK P (frzRes st') fn.results.toList fun r => decR rs r fun y => .done y
      | .ret => resK P (frzRes st') fn.results.toList fun r => decR rs r fun y => .done y
      | _ => .fail
    | none => .fail)
  | none => .fail
def runK (P : Program) (Γ : (R : Type) → Env R) (fuel : Nat) (f : FuncId) (ds rs : List Td) (c : HL ds) : Tree (RT rs) := runV P Γ fuel f (valA ds c) rs
def fnK (ds rs : List Td) (g : HL ds → Option (RT rs)) (args : List V) (k : V → Tree R) : Tree R := decA ds args fun c => .bind (g c) fun y => k (tupV (valR rs y))
theorem decA_ok : ∀ (l : List Td) (xs : List V) (k : HL l → Tree R) (res : R), (decA l xs k).run = some res → ∃ c, (k c).run = some res ∧ xs.length = (valA l c).length ∧ ∀ (i : Nat) y, (valA l c)[i]? = some y → ∃ x, xs[i]? = some x ∧ y.plain = true ∧ isFresh (ex y) = false ∧ ∀ (w : World) (B : List Nat) (η : List Value) (v : Value), Rel w B η (ex x) v → Rel w B η (ex y) v
  | [], xs, k, res, h => by
    unfold decA at h
    split at h
    · exact ⟨(), h, rfl, fun i y h => by simp [valA] at h⟩
    · cases h
  | d :: l, xs, k, res, h => by
    unfold decA at h
    split at h
    · rename_i x xs
      obtain ⟨y, h1, h2, h3⟩ := decV_ok h
      obtain ⟨c, h4, h5, h6⟩ := decA_ok l xs _ res h1
      refine ⟨(y, c), h4, by simp [valA, h5], fun i z hz => ?_⟩
      cases i with
      | zero => simp [valA] at hz; subst hz; exact ⟨x, rfl, valV_plain d y, valV_fresh d y, h3⟩
      | succ i => simpa using h6 i z (by simpa [valA] using hz)
    · cases h
theorem decV_ex0 {R : Type} {d : Td} {x : V} {k : T d → Tree R} {res : R} (h : (decV d x k).run = some res) : ex0 x = ex x := by
  cases x with
  | tup l =>
    unfold decV at h
    split at h
    · simp only [toSegs] at h; cases h
    · cases h
  | _ => rfl
theorem decRL_ok : ∀ (l : List Td) (xs : List V) (k : RT l → Tree R) (res : R), (decRL l xs k).run = some res → ∃ c, (k c).run = some res ∧ xs.length = l.length ∧ xs.length = (valR l c).length ∧ ∀ (i : Nat) y, (valR l c)[i]? = some y → ∃ x, xs[i]? = some x ∧ ex0 x = ex x ∧ ∀ (w : World) (B : List Nat) (η : List Value) (v : Value), Rel w B η (ex x) v → Rel w B η (ex y) v
  | [], xs, k, res, h => by
    unfold decRL at h
    split at h
    · exact ⟨(), h, rfl, rfl, fun i y h => by simp [valR] at h⟩
    · cases h
  | [d], xs, k, res, h => by
    unfold decRL at h
    split at h
    · rename_i x
      obtain ⟨y, h1, h2, h3⟩ := decV_ok h
      refine ⟨y, h1, rfl, rfl, fun i z hz => ?_⟩
      cases i with
      | zero => simp [valR] at hz; subst hz; exact ⟨x, rfl, decV_ex0 h, h3⟩
      | succ i => simp [valR] at hz
    · cases h
  | d :: e :: l, xs, k, res, h => by
    unfold decRL at h
    split at h
    · rename_i x xs
      obtain ⟨y, h1, h2, h3⟩ := decV_ok h
      obtain ⟨c, h4, h5, h6, h7⟩ := decRL_ok (e :: l) xs _ res h1
      refine ⟨(y, c), h4, by simp [h5], by simp [valR, h6], fun i z hz => ?_⟩
      cases i with
      | zero => simp [valR] at hz; subst hz; exact ⟨x, rfl, decV_ex0 h, h3⟩
      | succ i => simpa using h7 i z (by simpa [valR] using hz)
    · cases h
end
theorem valV_imm0 {w : World} {B B' : List Nat} {η η' : List Value} {d : Td} {x : T d} {v : Value} (hB : ∀ b ∈ B', b ∈ B) (h : Rel w B η (ex (valV d x)) v) : Rel w B' η' (ex (valV d x)) v := by
  refine Rel.bare (rel_subB hB h) ?_
  cases hd : rowD d with
  | true => rw [valV_row d x hd]; exact cells_imm d x
  | false =>
    have := cells_imm d x
    rw [valV_one d x hd] at this
    simp only [List.all_cons, List.all_nil, Bool.and_true] at this
    generalize ex (valV d x) = y at this
    cases y <;> first | exact this | cases this
theorem ex_valV0 (d : Td) (x : T d) : ex0 (valV d x) = ex (valV d x) := by cases d <;> rfl
theorem valR_spec : ∀ (l : List Td) (c : RT l) (i : Nat) y, (valR l c)[i]? = some y → ∃ d x, y = valV d x
  | [], c, i, y, h => by simp [valR] at h
  | [d], c, i, y, h => by
    cases i with
    | zero => simp [valR] at h; exact ⟨d, c, h.symm⟩
    | succ i => simp [valR] at h
  | d :: e :: l, c, i, y, h => by
    cases i with
    | zero => simp [valR] at h; exact ⟨d, c.1, h.symm⟩
    | succ i => exact valR_spec (e :: l) c.2 i y (by simpa [valR] using h)
theorem decR_ok {R : Type} : ∀ (l : List Td) {r : V} {k : RT l → Tree R} {res : R} (h : (decR l r k).run = some res), ∃ y, (k y).run = some res ∧ r.plain = true ∧ ∀ (w : World) (B B' : List Nat) (η η' : List Value) (v : Value), (∀ b ∈ B', b ∈ B) → Rel w B η (ex r) v → (l = [] → v = .tuple #[]) → Rel w B' η' (ex (tupV (valR l y))) v
  | [], r, k, res, h => by
    simp only [decR] at h
    split at h
    · exact ⟨(), h, rfl, fun w B B' η η' v hB hv h0 => by rw [h0 rfl]; exact .c _ _⟩
    · cases h
  | [d], r, k, res, h => by
    obtain ⟨y, h1, h2, h3⟩ := decV_ok h
    exact ⟨y, h1, h2, fun w B B' η η' v hB hv _ => valV_imm0 hB (h3 w B η v hv)⟩
  | d :: e :: l, r, k, res, h => by
    simp only [decR] at h
    split at h
    · rename_i xs
      obtain ⟨y, h1, h2, h3, h4⟩ := decRL_ok _ _ _ _ h
      refine ⟨y, h1, rfl, fun w B B' η η' v hB hv _ => ?_⟩
      have hlen : (valR (d :: e :: l) y).length = (d :: e :: l).length := by rw [← h3, h2]
      have htv : tupV (valR (d :: e :: l) y) = .tup (valR (d :: e :: l) y) := by
        match hq : valR (d :: e :: l) y with
        | [] => rw [hq] at hlen; simp at hlen
        | [_] => rw [hq] at hlen; simp at hlen
        | _ :: _ :: _ => rfl
      rw [htv]
      cases hv with
      | tup _ _ cs us hs hu hr =>
        refine .tup _ _ cs us (by rw [hs, List.length_map, List.length_map, h3]) (fun i x hx => ?_) (fun i x hx => ?_)
        · rw [List.getElem?_map, Option.map_eq_some_iff] at hx
          obtain ⟨z, hz, rfl⟩ := hx
          obtain ⟨x0, q1, q2, q3⟩ := h4 i z hz
          exact hu i (ex0 x0) (by rw [List.getElem?_map, q1]; rfl)
        · rw [List.getElem?_map, Option.map_eq_some_iff] at hx
          obtain ⟨z, hz, rfl⟩ := hx
          obtain ⟨x0, q1, q2, q3⟩ := h4 i z hz
          obtain ⟨d', x', rfl⟩ := valR_spec _ _ _ _ hz
          have h0 := hr i (ex0 x0) (by rw [List.getElem?_map, q1]; rfl)
          rw [q2] at h0
          rw [ex_valV0]
          exact valV_imm0 hB (q3 w B η _ h0)
    · cases h
theorem valA_vals : ∀ (l : List Td) (c : HL l) (i : Nat) x, (valA l c)[i]? = some x → x.plain = true ∧ isFresh (ex x) = false := fun l => by
  induction l with
  | nil => intro c i x hx; simp [valA] at hx
  | cons d l ih =>
    intro c i x hx
    cases i with
    | zero => simp [valA] at hx; subst hx; exact ⟨valV_plain d c.1, valV_fresh d c.1⟩
    | succ i => exact ih c.2 i x (by simpa [valA] using hx)
theorem runV_ok (hm : P.follows .mixedOrders = true) {f : FuncId} {xs : List V} {rs : List Td} (hΓ : EnvOK P (Γ (RT rs))) {fuel : Nat} (hf : ∃ fn c, P.funcs[f]? = some fn ∧ fn.body = some c ∧ okC2 (Γ (RT rs)).inl c = true ∧ fn.name ≠ "runtime.NumGoroutine" ∧ (rs = [] → fn.results = #[])) (hxs : ∀ (i : Nat) x, xs[i]? = some x → x.plain = true ∧ isFresh (ex x) = false) {y : RT rs} (h : (runV P Γ fuel f xs rs).run = some y) : CallsK P f xs (tupV (valR rs y)) := by
  obtain ⟨fn, b, hfn, hb, hok, hnm, hres⟩ := hf
  unfold runV at h
  rw [hfn] at h
  simp only [hb] at h
  obtain ⟨ex1, st', h1, h2⟩ := evK_ok hm hΓ fuel [f] 0 b _ _ y hok (fun c' hc' => by simp only [loopsIn, hfn, hb]; exact hc') h
  intro w B cargs hB hgl hlen hrel
  refine calls_of_wp hfn hb ?_
  have hsim : SimK w.heap.size B [] ⟨slots0 fn xs, []⟩ { tmps := cargs.toArray ++ Array.replicate (fn.ntmps - cargs.toArray.size) undef, defers := [] } w B [] := by
    refine ⟨rfl, ⟨rfl, ⟨Nat.le_refl _, hgl⟩, fun b hb => ⟨hb, hB b hb⟩, hB, fun id e h => by simp at h, fun i j ei ej _ h => by simp at h⟩, slots0_ok ⟨hlen, fun i x hx => ?_⟩⟩
    obtain ⟨v, q1, q2⟩ := hrel i x hx
    obtain ⟨q3, q4⟩ := hxs i x hx
    exact ⟨v, q1, Rel2.of q3 q2, fun h => by rw [q4] at h; cases h⟩
  refine h2 w.heap.size B [] _ w B [] _ hsim fun a' w' B' η' hs hg => ?_
  obtain ⟨B2, hs2, hg2⟩ := frzAll_ok (m0 := 0) (List.range st'.heap.length) st' B' hs
  have key : ∀ {r : V} {k : V → Tree (RT rs)}, (decR rs r fun y => .done y).run = some y → (∀ (n0 : Nat) (Bx : List Nat) (ds : List Deferred) (a : Act) (w : World) (B : List Nat) (η : List Value), SimK n0 Bx ds (frzRes st') a w B η → ∃ v, (results fn a.tmps).run P w = .ok v w ∧ Rel2 w B η r v ∧ FreshV n0 (ex r) v) → ∃ v, (results fn a'.tmps).run P w' = .ok v w' ∧ Rel w' B [] (ex (tupV (valR rs y))) v := by
    intro r k hr hv
    obtain ⟨y', q1, q2, q3⟩ := decR_ok _ hr
    simp only [Tree.run, Option.some.injEq] at q1
    subst q1
    obtain ⟨v, g1, g2, _⟩ := hv _ _ _ a' w' B2 η' hs2
    have h0 : rs = [] → v = .tuple #[] := fun h => by
      have := hres h
      unfold results at g1
      rw [this] at g1
      simp at g1
      exact g1.symm
    have hB0 : ∀ b ∈ B, b ∈ B2 := fun b hb => (hs2.inv.sub b hb).1
    exact ⟨v, g1, q3 w' B2 B η' [] v hB0 (g2.get q2) h0⟩
  split at h1
  · obtain ⟨r, q1, q2⟩ := resK_ok h1
    obtain ⟨v, g1, g2⟩ := key (k := fun _ => .fail) q1 q2
    exact ⟨hs.defers, v, g1, v, rfl, hg.below, g2⟩
  · obtain ⟨r, q1, q2⟩ := resK_ok h1
    obtain ⟨v, g1, g2⟩ := key (k := fun _ => .fail) q1 q2
    exact ⟨hs.defers, v, g1, v, rfl, hg.below, g2⟩
  · cases h1
theorem runK_ok (hm : P.follows .mixedOrders = true) {f : FuncId} {ds rs : List Td} (hΓ : EnvOK P (Γ (RT rs))) {fuel : Nat} (hf : ∃ fn c, P.funcs[f]? = some fn ∧ fn.body = some c ∧ okC2 (Γ (RT rs)).inl c = true ∧ fn.name ≠ "runtime.NumGoroutine" ∧ (rs = [] → fn.results = #[])) {c : HL ds} {y : RT rs} (h : (runK P Γ fuel f ds rs c).run = some y) : CallsK P f (valA ds c) (tupV (valR rs y)) := by
  unfold runK at h
  exact runV_ok hm hΓ hf (valA_vals ds c) h
def okFn (P : Program) (inl : FuncId → Bool) (f : FuncId) (rs : List Td) : Bool := match P.funcs[f]? with
  | some fn => (match fn.body with
    | some c => okC2 inl c && fn.name != "runtime.NumGoroutine" && (!rs.isEmpty || fn.results.size == 0)
    | none => false)
  | none => false
theorem okFn_ok {inl : FuncId → Bool} {f : FuncId} {rs : List Td} (h : okFn P inl f rs = true) : ∃ fn c, P.funcs[f]? = some fn ∧ fn.body = some c ∧ okC2 inl c = true ∧ fn.name ≠ "runtime.NumGoroutine" ∧ (rs = [] → fn.results = #[]) := by
  unfold okFn at h
  split at h
  · rename_i fn hfn
    split at h
    · rename_i c hc
      simp only [Bool.and_eq_true, bne_iff_ne, Bool.or_eq_true, Bool.not_eq_true', beq_iff_eq] at h
      refine ⟨fn, c, hfn, hc, h.1.1, h.1.2, fun hr => ?_⟩
      subst hr
      rcases h.2 with h | h
      · cases h
      · exact Array.eq_empty_of_size_eq_zero h
    · cases h
  · cases h
theorem tupV_plain (l : List Td) (y : RT l) : (tupV (valR l y)).plain = true ∧ ∀ m k, ex (tupV (valR l y)) ≠ .fresh m k := by
  match l, y with
  | [], y => exact ⟨rfl, fun m k h => by simp [valR, tupV, ex, ex0] at h⟩
  | [d], y =>
    refine ⟨valV_plain d y, fun m k h => ?_⟩
    have := valV_fresh d y
    rw [show ex (valV d y) = .fresh m k from h] at this
    cases this
  | d :: e :: l, y =>
    match l, y with
    | [], y => exact ⟨rfl, fun m k h => by simp [valR, tupV, ex] at h⟩
    | _ :: _, y => exact ⟨rfl, fun m k h => by simp [valR, tupV, ex] at h⟩
/-- A function more, by what it does. -/
theorem EnvOK.addFn {R : Type} {Γ0 : (R : Type) → Env R} (hm : P.follows .mixedOrders = true) (hΓ : EnvOK P (Γ R)) {f : FuncId} {ds rs : List Td} {g : HL ds → Option (RT rs)} {fuel : Nat} (hΓ0 : EnvOK P (Γ0 (RT rs))) (hok : okFn P (Γ0 (RT rs)).inl f rs = true) (h : ∀ c, (runK P Γ0 fuel f ds rs c).run = g c) : EnvOK P (Env.addFn Γ f (fun R => fnK ds rs g) R) := by
  refine ⟨⟨fun f' args k res hc => ?_⟩, hΓ.inl, hΓ.lp, hΓ.cln⟩
  simp only [Env.addFn] at hc
  split at hc
  · rename_i hff
    subst hff
    obtain ⟨c, h1, h2, h3⟩ := decA_ok _ _ _ _ hc
    obtain ⟨y, h4, h5⟩ := Tree.run_bind h1
    obtain ⟨p1, p2⟩ := tupV_plain rs y
    obtain ⟨fn, b, hfn, hb, hokc, hnm, hres⟩ := okFn_ok hok
    refine ⟨_, h5, p1, p2, CallsK.toV (fun w B cargs hB hgl hlen hrel => ?_) ⟨fn, hfn, hnm, by rw [hb]; exact fun h => by cases h⟩⟩
    refine runK_ok hm hΓ0 (okFn_ok hok) (by rw [h]; exact h4) w B cargs hB hgl (by rw [hlen, h2]) (fun i x hx => ?_)
    obtain ⟨x0, q1, _, _, q4⟩ := h3 i x hx
    obtain ⟨v, q5, q6⟩ := hrel i x0 q1
    exact ⟨v, q5, q4 w B [] v q6⟩
  · exact hΓ.fns.ok f' args k res hc
/-- A function more, by what is known of it. -/
theorem EnvOK.addSelf {R : Type} (hΓ : EnvOK P (Γ R)) {f : FuncId} {ds rs : List Td} {g : HL ds → Option (RT rs)} {inl : FuncId → Bool} (hok : okFn P inl f rs = true) (hX : ∀ c y, g c = some y → CallsK P f (valA ds c) (tupV (valR rs y))) : EnvOK P (Env.addFn Γ f (fun R => fnK ds rs g) R) := by
  refine ⟨⟨fun f' args k res hc => ?_⟩, hΓ.inl, hΓ.lp, hΓ.cln⟩
  simp only [Env.addFn] at hc
  split at hc
  · rename_i hff
    subst hff
    obtain ⟨c, h1, h2, h3⟩ := decA_ok _ _ _ _ hc
    obtain ⟨y, h4, h5⟩ := Tree.run_bind h1
    obtain ⟨p1, p2⟩ := tupV_plain rs y
    obtain ⟨fn, b, hfn, hb, hokc, hnm, hres⟩ := okFn_ok hok
    refine ⟨_, h5, p1, p2, CallsK.toV (fun w B cargs hB hgl hlen hrel => ?_) ⟨fn, hfn, hnm, by rw [hb]; exact fun h => by cases h⟩⟩
    refine hX c y h4 w B cargs hB hgl (by rw [hlen, h2]) (fun i x hx => ?_)
    obtain ⟨x0, q1, _, _, q4⟩ := h3 i x hx
    obtain ⟨v, q5, q6⟩ := hrel i x0 q1
    exact ⟨v, q5, q4 w B [] v q6⟩
  · exact hΓ.fns.ok f' args k res hc
/-- A function that calls itself: by how often it may. -/
theorem rec_ok (hm : P.follows .mixedOrders = true) {f : FuncId} {ds rs : List Td} {G : (HL ds → Option (RT rs)) → HL ds → Option (RT rs)} {Γs : (HL ds → Option (RT rs)) → (R : Type) → Env R} {fuel : Nat}
    (h1 : ∀ X, (∀ c y, X c = some y → CallsK P f (valA ds c) (tupV (valR rs y))) → EnvOK P (Γs X (RT rs))) (hok : ∀ X, okFn P (Γs X (RT rs)).inl f rs = true) (h2 : ∀ X c, (runK P (Γs X) fuel f ds rs c).run = G X c) :
    ∀ N c y, gl G N c = some y → CallsK P f (valA ds c) (tupV (valR rs y))
  | 0, c, y, h => by cases h
  | N + 1, c, y, h => runK_ok hm (h1 _ (rec_ok hm h1 hok h2 N)) (okFn_ok (hok _)) (by rw [h2]; exact h)
/-- A function of a slice that asks whether it is nil: nil, none but not nil, and some. -/
theorem EnvOK.addNil {R : Type} {Γ0 : (R : Type) → Env R} (hm : P.follows .mixedOrders = true) (hΓ : EnvOK P (Γ R)) {f : FuncId} {d : Td} {rs : List Td} {g : HL [.sl d] → Option (RT rs)} {e : RT rs} {fuel : Nat} (hΓ0 : EnvOK P (Γ0 (RT rs))) (hok : okFn P (Γ0 (RT rs)).inl f rs = true) (h : ∀ c, (runK P Γ0 fuel f [.sl d] rs c).run = g c)
    (h1 : ∀ c, (runV P Γ0 fuel f [.c (.slice none 0 c)] rs).run = some e) (h2 : ∀ A c, (runV P Γ0 fuel f [.c (.slice (some A) 0 c)] rs).run = some e) : EnvOK P (Env.addFn Γ f (fun R => fnK [.sl d] rs (fun c => bif c.1.isEmpty then some e else g c)) R) := by
  refine ⟨⟨fun f' args k res hc => ?_⟩, hΓ.inl, hΓ.lp, hΓ.cln⟩
  simp only [Env.addFn] at hc
  split at hc
  · rename_i hff
    subst hff
    obtain ⟨c, q1, q2, q3⟩ := decA_ok _ _ _ _ hc
    obtain ⟨y, q4, q5⟩ := Tree.run_bind q1
    obtain ⟨p1, p2⟩ := tupV_plain rs y
    obtain ⟨fn, b, hfn, hb, hokc, hnm, hres⟩ := okFn_ok hok
    refine ⟨_, q5, p1, p2, CallsK.toV (fun w B cargs hB hgl hlen hrel => ?_) ⟨fn, hfn, hnm, by rw [hb]; exact fun h => by cases h⟩⟩
    have hrel' : ∀ (i : Nat) x, (valA [.sl d] c)[i]? = some x → ∃ v, cargs[i]? = some v ∧ Rel w B [] (ex x) v := fun i x hx => by
      obtain ⟨x0, r1, _, _, r4⟩ := q3 i x hx
      obtain ⟨v, r5, r6⟩ := hrel i x0 r1
      exact ⟨v, r5, r4 w B [] v r6⟩
    have hlen' : cargs.length = 1 := by rw [hlen, q2]; rfl
    cases he : c.1.isEmpty with
    | false =>
      simp only [he, cond_false] at q4
      exact runK_ok hm hΓ0 (okFn_ok hok) (by rw [h]; exact q4) w B cargs hB hgl (by rw [hlen, q2]) hrel'
    | true =>
      simp only [he, cond_true, Option.some.injEq] at q4
      subst q4
      obtain ⟨v, r1, r2⟩ := hrel' 0 (.lst d c.1) rfl
      obtain ⟨A, n, cc, us, hv, _, hn, _, hm', _, _⟩ := Rel.slL r2
      have hl : c.1 = [] := List.isEmpty_iff.1 he
      rw [hl] at hn
      have hn0 : n = 0 := by
        have hk := Rel.slL r2
        obtain ⟨_, _, _, _, _, hk, _⟩ := hk
        rcases Nat.eq_zero_or_pos n with h | h
        · exact h
        · have := Nat.mul_pos h hk; simp [flat] at hn; omega
      subst hn0 hv
      have hca : cargs = [.slice A 0 cc] := by
        match cargs, hlen', r1 with
        | [x], _, r1 => simp at r1; rw [r1]
      have go : (runV P Γ0 fuel f' [.c (.slice A 0 cc)] rs).run = some e → Calls P f' cargs.toArray w fun e1 w' => ∃ v, e1 = .returned v ∧ Gr w w' ∧ Rel w' B [] (ex (tupV (valR rs e))) v := fun hr => by
        refine runV_ok hm hΓ0 (okFn_ok hok) (fun i x hx => ?_) hr w B cargs hB hgl (by rw [hlen']; rfl) (fun i x hx => ?_)
        · match i, hx with
          | 0, hx => simp at hx; subst hx; exact ⟨rfl, rfl⟩
        · match i, hx with
          | 0, hx => simp at hx; subst hx; exact ⟨.slice A 0 cc, by rw [hca]; rfl, .c _ _⟩
      cases A with
      | some A => exact go (h2 A cc)
      | none => exact go (h1 cc)
  · exact hΓ.fns.ok f' args k res hc
/-! ### Rows that are copied -/
def Env.addCln (Γ : (R : Type) → Env R) (f : FuncId) (e : TypeId) : (R : Type) → Env R := fun R => { Γ R with cln := fun g => if g = f then some e else (Γ R).cln g }
theorem EnvOK.addCln {R : Type} (hΓ : EnvOK P (Γ R)) {f : FuncId} {e : TypeId} (h : CloneOK P f e) : EnvOK P (Env.addCln Γ f e R) := ⟨hΓ.fns, hΓ.inl, hΓ.lp, fun g e' hg => by
  simp only [Env.addCln] at hg
  split at hg
  · rename_i hgf
    subst hgf
    injection hg with hg
    subst hg
    exact h
  · exact hΓ.cln g e' hg⟩
def Env.addScl (Γ : (R : Type) → Env R) (l : List FuncId) : (R : Type) → Env R := fun R => { Γ R with scl := fun f => l.contains f }
theorem EnvOK.addScl {R : Type} (hΓ : EnvOK P (Γ R)) (l : List FuncId) : EnvOK P (Env.addScl Γ l R) := ⟨hΓ.fns, hΓ.inl, hΓ.lp, hΓ.cln⟩
def ownEnd (P : Program) (st' : S2) (fn : Func) (e : TypeId) : Tree (List Int) := resK P st' fn.results.toList fun r => match r with
  | .own id => (match st'.heap[id]? with
    | some (.own d l e') => if e' = e then castK d (.int .u8) (fun d => List (T d)) l fun l => .done l else .fail
    | _ => .fail)
  | .c (.slice none 0 0) => .done []
  | _ => .fail
def runOwn (P : Program) (Γ : (R : Type) → Env R) (fuel : Nat) (f : FuncId) (xs : List V) (e : TypeId) : Tree (List Int) :=
  match P.funcs[f]? with
  | some fn => (match fn.body with
    | some b => evK P (Γ (List Int)) fuel [f] 0 b ⟨slots0 fn xs, []⟩ fun ex st' => (match ex with
      | .normal => ownEnd P st' fn e
      | .ret => ownEnd P st' fn e
      | _ => .fail)
    | none => .fail)
  | none => .fail
theorem relL_u8 {w : World} {B : List Nat} {η : List Value} {l : List Int} {us : List Value} (h : RelL w B η (flat (.int .u8) l) us) : us = l.map fun n => Value.int .u8 n := by
  rw [flat_u8] at h
  apply List.ext_getElem?
  intro i
  rcases Nat.lt_or_ge i l.length with hi | hi
  · obtain ⟨u, h1, h2⟩ := h.2 i (.c (.int .u8 l[i])) (by rw [List.getElem?_map, List.getElem?_eq_getElem hi]; rfl)
    rw [h1, Rel.ofC h2, List.getElem?_map, List.getElem?_eq_getElem hi]
    rfl
  · have hl := h.1
    rw [List.length_map] at hl
    rw [List.getElem?_eq_none (by omega), List.getElem?_eq_none (by rw [List.length_map]; exact hi)]
theorem runOwn_ok (hm : P.follows .mixedOrders = true) {f : FuncId} {xs : List V} {rs : List Td} {e : TypeId} (hΓ : EnvOK P (Γ (List Int))) {fuel : Nat} (hf : ∃ fn c, P.funcs[f]? = some fn ∧ fn.body = some c ∧ okC2 (Γ (List Int)).inl c = true ∧ fn.name ≠ "runtime.NumGoroutine" ∧ (rs = [] → fn.results = #[])) (hxs : ∀ (i : Nat) x, xs[i]? = some x → x.plain = true ∧ isFresh (ex x) = false) {l : List Int} (h : (runOwn P Γ fuel f xs e).run = some l) (w : World) (B : List Nat) (cargs : List Value) (hB : ∀ b ∈ B, b < w.heap.size) (hgl : GlobOK w B) (hlen : cargs.length = xs.length) (hrel : ∀ (i : Nat) x, xs[i]? = some x → ∃ v, cargs[i]? = some v ∧ Rel w B [] (ex x) v) :
    Calls P f cargs.toArray w fun e1 w' => ∃ v', e1 = .returned v' ∧ Gr w w' ∧ OwnAt w' w.heap.size e 1 v' l.length (l.map fun n => Value.int .u8 n) := by
  obtain ⟨fn, b, hfn, hb, hok, hnm, _⟩ := hf
  unfold runOwn at h
  rw [hfn] at h
  simp only [hb] at h
  obtain ⟨ex1, st', h1, h2⟩ := evK_ok hm hΓ fuel [f] 0 b _ _ l hok (fun c' hc' => by simp only [loopsIn, hfn, hb]; exact hc') h
  refine calls_of_wp hfn hb ?_
  have hsim : SimK w.heap.size B [] ⟨slots0 fn xs, []⟩ { tmps := cargs.toArray ++ Array.replicate (fn.ntmps - cargs.toArray.size) undef, defers := [] } w B [] := by
    refine ⟨rfl, ⟨rfl, ⟨Nat.le_refl _, hgl⟩, fun b hb => ⟨hb, hB b hb⟩, hB, fun id e h => by simp at h, fun i j ei ej _ h => by simp at h⟩, slots0_ok ⟨hlen, fun i x hx => ?_⟩⟩
    obtain ⟨v, q1, q2⟩ := hrel i x hx
    obtain ⟨q3, q4⟩ := hxs i x hx
    exact ⟨v, q1, Rel2.of q3 q2, fun h => by rw [q4] at h; cases h⟩
  refine h2 w.heap.size B [] _ w B [] _ hsim fun a' w' B' η' hs hg => ?_
  have fin : (ownEnd P st' fn e).run = some l → ∃ v, (results fn a'.tmps).run P w' = .ok v w' ∧ OwnAt w' w.heap.size e 1 v l.length (l.map fun n => Value.int .u8 n) := by
    intro h1
    obtain ⟨r, q1, q2⟩ := resK_ok h1
    obtain ⟨v, g1, g2, g5⟩ := q2 _ _ _ a' w' B' η' hs
    refine ⟨v, g1, ?_⟩
    clear g5
    split at q1
    · rename_i id
      split at q1
      · rename_i d l0 e' hid
        split at q1
        · rename_i he
          subst he
          obtain ⟨e1, q3⟩ := castK_run q1
          subst e1
          simp only [Tree.run, Option.some.injEq] at q3
          subst q3
          obtain ⟨n, us, p1, p2, p3, p4⟩ := hs.inv.ent id _ (exH hid)
          have hus := relL_u8 p2
          subst hus
          have g3 : Rel w' B' η' (.own id) v := g2
          have hv : η'.getD id undef = v := by
            cases g3 with
            | own _ _ a n c h => rw [List.getD_eq_getElem?_getD, h]; rfl
          rw [hv] at p1
          have hn : n = l0.length := by
            have h5 := p1.1
            rw [List.length_map, show wd (.int .u8) = 1 from rfl, Nat.mul_one] at h5
            exact h5.symm
          rw [hn] at p1
          exact p1
        · cases q1
      · cases q1
    · simp only [Tree.run, Option.some.injEq] at q1
      subst q1
      have g3 : Rel w' B' η' (.c (.slice none 0 0)) v := g2
      rw [Rel.ofC g3]
      exact OwnAt.nil _ _ _ _
    · cases q1
  split at h1
  · obtain ⟨v, g1, g2⟩ := fin h1
    exact ⟨hs.defers, v, g1, v, rfl, hg.below, g2⟩
  · obtain ⟨v, g1, g2⟩ := fin h1
    exact ⟨hs.defers, v, g1, v, rfl, hg.below, g2⟩
  · cases h1
theorem cloneOK_of {Γ0 : (R : Type) → Env R} (hm : P.follows .mixedOrders = true) {f : FuncId} {e : TypeId} {fuel : Nat} (hΓ0 : EnvOK P (Γ0 (List Int))) (hok : okFn P (Γ0 (List Int)).inl f [.sl (.int .u8)] = true) {g : List Int → Option (List Int)} (h : ∀ l : List Int, (runOwn P Γ0 fuel f [.lst (.int .u8) l] e).run = g l) (hg : ∀ l : List Int, l.isEmpty = false → roomB l.length 1 = true → g l = some l)
    (h1 : ∀ c, (runOwn P Γ0 fuel f [.c (.slice none 0 c)] e).run = some []) (h2 : ∀ A c, (runOwn P Γ0 fuel f [.c (.slice (some A) 0 c)] e).run = some []) : CloneOK P f e := by
  obtain ⟨fn, b, hfn, hb, hokc, hnm, hres⟩ := okFn_ok hok
  refine ⟨⟨fn, hfn, hnm, by rw [hb]; exact fun h => by cases h⟩, fun l hr w B v hB hgl hv => ?_⟩
  cases he : l.isEmpty with
  | false =>
    exact runOwn_ok hm hΓ0 (okFn_ok hok) (xs := [.lst (.int .u8) l]) (fun i x hx => by
      match i, hx with
      | 0, hx => simp at hx; subst hx; exact ⟨rfl, rfl⟩) (by rw [h]; exact hg l he hr) w B [v] hB hgl rfl (fun i x hx => by
      match i, hx with
      | 0, hx => simp at hx; subst hx; exact ⟨v, rfl, hv⟩)
  | true =>
    have hl : l = [] := List.isEmpty_iff.1 he
    subst hl
    obtain ⟨A, n, cc, us, rfl, hk, hn, _, hm', _, _⟩ := Rel.slL hv
    have hn0 : n = 0 := by
      rcases Nat.eq_zero_or_pos n with h | h
      · exact h
      · have := Nat.mul_pos h hk; simp [flat] at hn; omega
    subst hn0
    have go : (runOwn P Γ0 fuel f [.c (.slice A 0 cc)] e).run = some [] → Calls P f #[.slice A 0 cc] w fun e1 w' => ∃ v', e1 = .returned v' ∧ Gr w w' ∧ OwnAt w' w.heap.size e 1 v' ([] : List Int).length (([] : List Int).map fun n => Value.int .u8 n) := fun hr => by
      exact runOwn_ok hm hΓ0 (okFn_ok hok) (xs := [.c (.slice A 0 cc)]) (fun i x hx => by
        match i, hx with
        | 0, hx => simp at hx; subst hx; exact ⟨rfl, rfl⟩) hr w B [.slice A 0 cc] hB hgl rfl (fun i x hx => by
        match i, hx with
        | 0, hx => simp at hx; subst hx; exact ⟨.slice A 0 cc, rfl, .c _ _⟩)
    cases A with
    | some A => exact go (h2 A cc)
    | none => exact go (h1 cc)
end
end Go.Proofs.Ytpijcgohhjgdbaa
