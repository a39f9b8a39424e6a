/-
  Parts of my own, one behind the other: KC, QBase, KOpen, KRead, KD, KM, GCr, QBase2, QCr1.
-/
import Derived.Test.YtcinflglacikjaaMrg3
import Derived.ProofKit
import Derived.OpenShut
import Derived.ShutString
import Derived.ChangeOld
namespace Go.Proofs.Ytcinflglacikjaa
set_option maxRecDepth 100000
open Go.RowKit
set_option linter.unusedVariables false
set_option linter.unusedSimpArgs false
def gl {C O : Type} (G : (C → Option O) → C → Option O) : Nat → C → Option O
 | 0, _ => none
 | n + 1, c => G (gl G n) c
@[reducible] def OT : List (Exit × Shape) → Type
 | [] => Empty
 | [e] => CT e.2
 | e :: e2 :: es => CT e.2 ⊕ OT (e2 :: es)
def encO (n : Nat) : (es : List (Exit × Shape)) → OT es → Exit × S2
 | [], o => nomatch o
 | [e], o => (e.1, stOf e.2 n o)
 | e :: e2 :: es, o => match o with
  | .inl c => (e.1, stOf e.2 n c)
  | .inr o => encO n (e2 :: es) o
def exitEq : Exit → Exit → Bool
 | .normal, .normal => true
 | .ret, .ret => true
 | .exit i, .exit j => i == j
 | _, _ => false
theorem exitEq_eq {x y : Exit} (h : exitEq x y = true) : x = y := by
 unfold exitEq at h
 split at h
 ·rfl
 ·rfl
 ·simp only [beq_iff_eq] at h; rw [h]
 ·cases h
section
variable {R : Type}
def casesO (n : Nat) : (es : List (Exit × Shape)) → OT es → (Exit → S2 → Tree R) → Tree R
 | [], _, _ => .fail
 | [e], o, k => k e.1 (stOf e.2 n o)
 | e :: e2 :: es, o, k => .cases o (fun c => k e.1 (stOf e.2 n c)) (fun o => casesO n (e2 :: es) o k)
theorem casesO_run (n : Nat) : ∀ (es : List (Exit × Shape)) (o : OT es) (k : Exit → S2 → Tree R), (casesO n es o k).run = (k (encO n es o).1 (encO n es o).2).run
 | [], o, _ => nomatch o
 | [e], o, k => rfl
 | e :: e2 :: es, .inl c, k => rfl
 | e :: e2 :: es, .inr o, k => casesO_run n (e2 :: es) o k
def decO (P : Program) (m0 n : Nat) (ow : List (Nat × TypeId)) : (es : List (Exit × Shape)) → Exit → S2 → (OT es → Tree R) → Tree R
 | [], _, _, _ => .fail
 | [e], x, st, k => if exitEq x e.1 = true then toShape P m0 ow e.2 n st k else .fail
 | e :: e2 :: es, x, st, k => if exitEq x e.1 = true then toShape P m0 ow e.2 n st fun c => k (.inl c) else decO P m0 n ow (e2 :: es) x st fun o => k (.inr o)
theorem decO_ok {P : Program} {m0 n : Nat} {ow : List (Nat × TypeId)} : ∀ (es : List (Exit × Shape)) (x : Exit) (st : S2) (k : OT es → Tree R) (res : R), (decO P m0 n ow es x st k).run = some res →
  ∃ o, (k o).run = some res ∧ x = (encO n es o).1 ∧ ∀ (n0 : Nat) (Bx : List Nat) (ds : List Deferred) (a : Act) (w : World) (B : List Nat) (η : List Value), SimK n0 Bx ds st a w B η → ∃ B' η', SimK n0 Bx ds (encO n es o).2 a w B' η' ∧ Goes n0 Bx m0 w B η w B' η'
 | [], x, st, k, res, h => by cases h
 | [e], x, st, k, res, h => by
  unfold decO at h
  split at h
  ·rename_i he
   obtain ⟨c, h1, h2⟩ := toShape_ok h
   exact ⟨c, h1, exitEq_eq he, h2⟩
  ·cases h
 | e :: e2 :: es, x, st, k, res, h => by
  unfold decO at h
  split at h
  ·rename_i he
   obtain ⟨c, h1, h2⟩ := toShape_ok h
   exact ⟨.inl c, h1, exitEq_eq he, h2⟩
  ·obtain ⟨o, h1, h2, h3⟩ := decO_ok (e2 :: es) x st _ res h
   exact ⟨.inr o, h1, h2, h3⟩
structure LI where
 n : Nat
 m0 : Nat
 ow : List (Nat × TypeId)
 sh : Shape
 outs : List (Exit × Shape)
def roundK (P : Program) (Γ : (R : Type) → Env R) (fuel : Nat) (path : List Nat) (li : LI) (body : Code) (X : CT li.sh → Option (OT li.outs)) (c : CT li.sh) : Tree (OT li.outs) :=
 evK P (Γ (OT li.outs)) fuel path li.m0 body (stOf li.sh li.n c) fun ex st' => match ex with
  | .normal => toShape P li.m0 li.ow li.sh li.n st' fun c' => .tail (X c')
  | ex => decO P li.m0 li.n li.ow li.outs ex st' fun o => .done o
def lpK (P : Program) (li : LI) (G : (CT li.sh → Option (OT li.outs)) → CT li.sh → Option (OT li.outs)) (N : Nat) (st : S2) (k : Exit → S2 → Tree R) : Tree R :=
 toShape P li.m0 li.ow li.sh li.n st fun c => .bind (gl G N c) fun o => casesO li.n li.outs o k
def LoopOK (P : Program) (m0 : Nat) (body : Code) (lp : S2 → (Exit → S2 → Tree R) → Tree R) : Prop :=
 ∀ st k res, (lp st k).run = some res → ∃ ex st', (k ex st').run = some res ∧ Ends P m0 (.loop body) st ex st'
end
section
variable {P : Program} {Γ : (R : Type) → Env R}
theorem gl_ends (hm : P.follows .mixedOrders = true) {li : LI} {G : (CT li.sh → Option (OT li.outs)) → CT li.sh → Option (OT li.outs)} {fuel : Nat} {path : List Nat} {body : Code}
  (hΓ : EnvOK P (Γ (OT li.outs))) (hok : okC2 (Γ (OT li.outs)).inl body = true) (hsub : ∀ c' ∈ loopsOf body, c' ∈ loopsIn P path)
  (hstep : ∀ X c, (roundK P Γ fuel path li body X c).run = G X c) : ∀ (N : Nat) (c : CT li.sh) (o : OT li.outs), gl G N c = some o →
  ∀ (n0 : Nat) (Bx : List Nat) (ds : List Deferred) (a : Act) (w : World) (B : List Nat) (η : List Value) (Q : Exit → Act → World → Prop), SimK n0 Bx ds (stOf li.sh li.n c) a w B η →
   (∀ a' w' B' η', SimK n0 Bx ds (encO li.n li.outs o).2 a' w' B' η' → Goes n0 Bx li.m0 w B η w' B' η' → Q (encO li.n li.outs o).1 a' w') → Code.rounds P body Q N a w
 | 0, c, o, h => by cases h
 | N + 1, c, o, h => by
  intro n0 Bx ds a w B η Q hs hQ
  have h1 : G (gl G N) c = some o := h
  rw [← hstep] at h1
  obtain ⟨ex, st', h2, h3⟩ := evK_ok hm hΓ fuel path li.m0 body _ _ o hok hsub h1
  rw [rounds_succ]
  split at h2
  ·obtain ⟨c', h4, h5⟩ := toShape_ok h2
   refine h3 n0 Bx ds a w B η _ hs fun a' w' B' η' hs' hg' => ?_
   obtain ⟨B2, η2, hs2, hg2⟩ := h5 n0 Bx ds a' w' B' η' hs'
   exact gl_ends hm hΓ hok hsub hstep N c' o h4 n0 Bx ds a' w' B2 η2 Q hs2 fun a3 w3 B3 η3 hs3 hg3 => hQ a3 w3 B3 η3 hs3 ((hg'.trans hg2).trans hg3)
  ·rename_i hne
   obtain ⟨o', h4, h5, h6⟩ := decO_ok _ _ _ _ _ h2
   simp only [Tree.run, Option.some.injEq] at h4
   subst h4
   refine h3 n0 Bx ds a w B η _ hs fun a' w' B' η' hs' hg' => ?_
   obtain ⟨B2, η2, hs2, hg2⟩ := h6 n0 Bx ds a' w' B' η' hs'
   rw [then_ne (fun hc => hne hc), h5]
   exact hQ a' w' B2 η2 hs2 (hg'.trans hg2)
theorem lpK_ok {R : Type} (hm : P.follows .mixedOrders = true) {li : LI} {G : (CT li.sh → Option (OT li.outs)) → CT li.sh → Option (OT li.outs)} {fuel : Nat} {path : List Nat} {body : Code}
  (hΓ : EnvOK P (Γ (OT li.outs))) (hok : okC2 (Γ (OT li.outs)).inl body = true) (hsub : ∀ c' ∈ loopsOf body, c' ∈ loopsIn P path)
  (hstep : ∀ X c, (roundK P Γ fuel path li body X c).run = G X c) (N : Nat) : LoopOK (R := R) P li.m0 body (lpK P li G N) := by
 intro st k res h
 obtain ⟨c, h1, h2⟩ := toShape_ok h
 obtain ⟨o, h3, h4⟩ := Tree.run_bind h1
 rw [casesO_run] at h4
 refine ⟨_, _, h4, fun n0 Bx ds a w B η Q hs hQ => ?_⟩
 obtain ⟨B1, η1, hs1, hg1⟩ := h2 n0 Bx ds a w B η hs
 exact wp_loop_rounds N (gl_ends hm hΓ hok hsub hstep N c o h3 n0 Bx ds a w B1 η1 Q hs1 fun a' w' B' η' hs' hg' => hQ a' w' B' η' hs' (hg1.trans hg'))
def Env.addLp (Γ : (R : Type) → Env R) (path : List Nat) (m0 key : Nat) (lp : (R : Type) → S2 → (Exit → S2 → Tree R) → Tree R) : (R : Type) → Env R := fun R =>
 { Γ R with lp := fun p m k st kk => if p = path ∧ m = m0 ∧ k = key then lp R st kk else (Γ R).lp p m k st kk }
def loopAt (P : Program) (path : List Nat) (key : Nat) : Code := match (loopsIn P path).filter (fun c => regName c == key) with
 | [c] => c
 | _ => .skip
def oneLoop (P : Program) (path : List Nat) (key : Nat) : Bool := match (loopsIn P path).filter (fun c => regName c == key) with
 | [_] => true
 | _ => false
theorem loopAt_eq {path : List Nat} {key : Nat} (h : oneLoop P path key = true) {c : Code} (hc : c ∈ loopsIn P path) (hk : regName c = key) : c = loopAt P path key := by
 unfold oneLoop at h
 unfold loopAt
 have hm : c ∈ (loopsIn P path).filter (fun c => regName c == key) := List.mem_filter.2 ⟨hc, by simp [hk]⟩
 split at h
 ·rename_i c0 he
  rw [he] at hm
  simp only [List.mem_singleton] at hm
  rw [hm]
 ·cases h
theorem EnvOK.addLp {R : Type} (hΓ : EnvOK P (Γ R)) {path : List Nat} {m0 key : Nat} {lp : (R : Type) → S2 → (Exit → S2 → Tree R) → Tree R} (h1 : oneLoop P path key = true) (h2 : LoopOK P m0 (loopAt P path key) (lp R)) : EnvOK P (Env.addLp Γ path m0 key lp R) := by
 refine ⟨hΓ.fns, hΓ.inl, fun p m c st k res hc h => ?_, hΓ.cln, hΓ.mth⟩
 simp only [Env.addLp] at h
 split at h
 ·rename_i hp
  obtain ⟨rfl, rfl, hk⟩ := hp
  rw [loopAt_eq h1 hc hk]
  exact h2 st k res h
 ·exact hΓ.lp p m c st k res hc h
def Env.addFn (Γ : (R : Type) → Env R) (f : FuncId) (S : (R : Type) → List V → (V → Tree R) → Tree R) : (R : Type) → Env R := fun R =>
 { Γ R with fns := fun g args k => if g = f then S R args k else (Γ R).fns g args k }
def Env.addInl (Γ : (R : Type) → Env R) (l : List FuncId) : (R : Type) → Env R := fun R => { Γ R with inl := fun f => l.contains f }
def Env.addMv (Γ : (R : Type) → Env R) (l : List (Nat × Nat)) : (R : Type) → Env R := fun R => { Γ R with mv := fun p i => (l.contains (p.headD 0, i) || ((Γ R).mv p i).1, ((Γ R).mv p i).2) }
def Env.addBx (Γ : (R : Type) → Env R) (l : List (Nat × Nat)) : (R : Type) → Env R := fun R => { Γ R with mv := fun p i => (((Γ R).mv p i).1, l.contains (p.headD 0, i) || ((Γ R).mv p i).2) }
def noLoop (path : List Nat) (m0 key : Nat) (st : S2) : Option Unit := none
def noFn (f : FuncId) (args : List V) : Option Unit := none
def env0 : (R : Type) → Env R := fun R => ⟨fun f args _ => .bind (noFn f args) fun _ => .fail, fun _ => false, fun p m k st _ => .bind (noLoop p m k st) fun _ => .fail, fun _ _ => (false, false), fun _ => none, fun _ => false, fun _ _ => false, fun _ => none⟩
theorem loops_sub : ∀ (d c c' : Code), c ∈ loopsOf d → c' ∈ loopsOf c → c' ∈ loopsOf d
 | .seq a b, c, c', h, h' => by
  simp only [loopsOf, List.mem_append] at h ⊢
  exact h.elim (fun h => .inl (loops_sub a c c' h h')) (fun h => .inr (loops_sub b c c' h h'))
 | .cond x a b, c, c', h, h' => by
  simp only [loopsOf, List.mem_append] at h ⊢
  exact h.elim (fun h => .inl (loops_sub a c c' h h')) (fun h => .inr (loops_sub b c c' h h'))
 | .block i a, c, c', h, h' => by
  simp only [loopsOf] at h ⊢
  exact loops_sub a c c' h h'
 | .scope a, c, c', h, h' => by
  simp only [loopsOf] at h ⊢
  exact loops_sub a c c' h h'
 | .loop a, c, c', h, h' => by
  simp only [loopsOf, List.mem_cons] at h ⊢
  rcases h with rfl | h
  ·exact .inr h'
  ·exact .inr (loops_sub a c c' h h')
 | .skip, c, c', h, h' => by simp [loopsOf] at h
 | .region _ _ _, c, c', h, h' => by simp [loopsOf] at h
 | .rangeFunc _ _ _ _, c, c', h, h' => by simp [loopsOf] at h
 | .exit _, c, c', h, h' => by simp [loopsOf] at h
 | .label _, c, c', h, h' => by simp [loopsOf] at h
 | .goto _, c, c', h, h' => by simp [loopsOf] at h
 | .ret, c, c', h, h' => by simp [loopsOf] at h
 | .refuse _, c, c', h, h' => by simp [loopsOf] at h
theorem loopAt_sub {path : List Nat} {key : Nat} : ∀ c' ∈ loopsOf (loopAt P path key), c' ∈ loopsIn P path := by
 intro c' hc'
 unfold loopAt at hc'
 split at hc'
 ·rename_i c hc
  have hm : c ∈ loopsIn P path := (List.mem_filter.1 (by rw [hc]; simp : c ∈ (loopsIn P path).filter fun c => regName c == key)).1
  unfold loopsIn at hm ⊢
  split at hm
  ·split at hm
   ·split at hm
    ·exact loops_sub _ c c' hm hc'
    ·simp at hm
   ·simp at hm
  ·simp at hm
 ·simp [loopsOf] at hc'
theorem env0_ok (R : Type) : EnvOK P (env0 R) where
 fns := ⟨fun f args k res h => nomatch h⟩
 inl := fun f h => nomatch h
 lp := fun path m0 c st k res _ h => nomatch h
 cln := fun f e h => nomatch h
 mth := fun f c h => nomatch h
theorem EnvOK.addMv {R : Type} (hΓ : EnvOK P (Γ R)) (l : List (Nat × Nat)) : EnvOK P (Env.addMv Γ l R) := ⟨hΓ.fns, hΓ.inl, hΓ.lp, hΓ.cln, hΓ.mth⟩
theorem EnvOK.addBx {R : Type} (hΓ : EnvOK P (Γ R)) (l : List (Nat × Nat)) : EnvOK P (Env.addBx Γ l R) := ⟨hΓ.fns, hΓ.inl, hΓ.lp, hΓ.cln, hΓ.mth⟩
def inlOK (P : Program) (l : List FuncId) : Bool := l.all fun f => match P.funcs[f]? with
 | some fn => (match fn.body with | some c => okC2 (fun f => l.contains f) c && fn.name != "runtime.NumGoroutine" | none => false)
 | none => false
theorem EnvOK.addInl {R : Type} (hΓ : EnvOK P (Γ R)) {l : List FuncId} (h : inlOK P l = true) : EnvOK P (Env.addInl Γ l R) := by
 refine ⟨hΓ.fns, fun f hf => ?_, hΓ.lp, hΓ.cln, hΓ.mth⟩
 have := List.all_eq_true.1 h f (by simpa [Env.addInl] using hf)
 split at this
 ·rename_i fn hfn
  split at this
  ·rename_i c hc
   simp only [Bool.and_eq_true, bne_iff_ne] at this
   exact ⟨fn, c, hfn, hc, this.1, this.2⟩
  ·cases this
 ·cases this
@[reducible] def RT : List Td → Type
 | [] => Unit
 | [d] => T d
 | d :: e :: l => T d × RT (e :: l)
def valR : (l : List Td) → RT l → List V
 | [], _ => []
 | [d], x => [valV d x]
 | d :: e :: l, x => valV d x.1 :: valR (e :: l) x.2
def tupV (l : List V) : V := match l with
 | [] => .c (.tuple #[])
 | [x] => x
 | l => .tup l
def valA : (l : List Td) → HL l → List V
 | [], _ => []
 | d :: l, c => valV d c.1 :: valA l c.2
section
variable {R : Type}
def decA : (l : List Td) → List V → (HL l → Tree R) → Tree R
 | [], xs, k => (match xs with | [] => k () | _ => .fail)
 | d :: l, xs, k => (match xs with
  | x :: xs => decV d x fun y => decA l xs fun z => k (y, z)
  | [] => .fail)
def decRL : (l : List Td) → List V → (RT l → Tree R) → Tree R
 | [], xs, k => (match xs with | [] => k () | _ => .fail)
 | [d], xs, k => (match xs with | [x] => decV d x k | _ => .fail)
 | d :: e :: l, xs, k => (match xs with
  | x :: xs => decV d x fun y => decRL (e :: l) xs fun z => k (y, z)
  | [] => .fail)
def decR (l : List Td) (r : V) (k : RT l → Tree R) : Tree R :=
 match l with
 | [] => (match r with | .c (.tuple _) => k () | _ => .fail)
 | [d] => decV d r k
 | d :: e :: l => (match r with | .tup xs => decRL (d :: e :: l) xs k | _ => .fail)
def frzRes (st : S2) : S2 := frzAll (List.range st.heap.length) st
def runV (P : Program) (Γ : (R : Type) → Env R) (fuel : Nat) (f : FuncId) (xs : List V) (rs : List Td) : Tree (RT rs) :=
 match P.funcs[f]? with
 | some fn => (match fn.body with
  | some b => evK P (Γ (RT rs)) fuel [f] 0 b ⟨slots0 fn xs, []⟩ fun ex st' => match ex with
   | .normal => resK P (frzRes st') fn.results.toList fun r => decR rs r fun y => .done y
   | .ret => resK P (frzRes st') fn.results.toList fun r => decR rs r fun y => .done y
   | _ => .fail
  | none => .fail)
 | none => .fail
def runK (P : Program) (Γ : (R : Type) → Env R) (fuel : Nat) (f : FuncId) (ds rs : List Td) (c : HL ds) : Tree (RT rs) := runV P Γ fuel f (valA ds c) rs
def fnK (ds rs : List Td) (g : HL ds → Option (RT rs)) (args : List V) (k : V → Tree R) : Tree R := decA ds args fun c => .bind (g c) fun y => k (tupV (valR rs y))
theorem decA_ok : ∀ (l : List Td) (xs : List V) (k : HL l → Tree R) (res : R), (decA l xs k).run = some res → ∃ c, (k c).run = some res ∧ xs.length = (valA l c).length ∧ ∀ (i : Nat) y, (valA l c)[i]? = some y → ∃ x, xs[i]? = some x ∧ y.plain = true ∧ isFresh (ex y) = false ∧ ∀ (w : World) (B : List Nat) (η : List Value) (v : Value), Rel w B η (ex x) v → Rel w B η (ex y) v
 | [], xs, k, res, h => by
  unfold decA at h
  split at h
  ·exact ⟨(), h, rfl, fun i y h => by simp [valA] at h⟩
  ·cases h
 | d :: l, xs, k, res, h => by
  unfold decA at h
  split at h
  ·rename_i x xs
   obtain ⟨y, h1, h2, h3⟩ := decV_ok h
   obtain ⟨c, h4, h5, h6⟩ := decA_ok l xs _ res h1
   refine ⟨(y, c), h4, by simp [valA, h5], fun i z hz => ?_⟩
   cases i with
   | zero => simp [valA] at hz; subst hz; exact ⟨x, rfl, valV_plain d y, valV_fresh d y, h3⟩
   | succ i => simpa using h6 i z (by simpa [valA] using hz)
  ·cases h
theorem decV_ex0 {R : Type} {d : Td} {x : V} {k : T d → Tree R} {res : R} (h : (decV d x k).run = some res) : ex0 x = ex x := by
 cases x with
 | tup l =>
  unfold decV at h
  split at h
  ·simp only [toSegs] at h; cases h
  ·cases h
 | _ => rfl
theorem decRL_ok : ∀ (l : List Td) (xs : List V) (k : RT l → Tree R) (res : R), (decRL l xs k).run = some res → ∃ c, (k c).run = some res ∧ xs.length = l.length ∧ xs.length = (valR l c).length ∧ ∀ (i : Nat) y, (valR l c)[i]? = some y → ∃ x, xs[i]? = some x ∧ ex0 x = ex x ∧ ∀ (w : World) (B : List Nat) (η : List Value) (v : Value), Rel w B η (ex x) v → Rel w B η (ex y) v
 | [], xs, k, res, h => by
  unfold decRL at h
  split at h
  ·exact ⟨(), h, rfl, rfl, fun i y h => by simp [valR] at h⟩
  ·cases h
 | [d], xs, k, res, h => by
  unfold decRL at h
  split at h
  ·rename_i x
   obtain ⟨y, h1, h2, h3⟩ := decV_ok h
   refine ⟨y, h1, rfl, rfl, fun i z hz => ?_⟩
   cases i with
   | zero => simp [valR] at hz; subst hz; exact ⟨x, rfl, decV_ex0 h, h3⟩
   | succ i => simp [valR] at hz
  ·cases h
 | d :: e :: l, xs, k, res, h => by
  unfold decRL at h
  split at h
  ·rename_i x xs
   obtain ⟨y, h1, h2, h3⟩ := decV_ok h
   obtain ⟨c, h4, h5, h6, h7⟩ := decRL_ok (e :: l) xs _ res h1
   refine ⟨(y, c), h4, by simp [h5], by simp [valR, h6], fun i z hz => ?_⟩
   cases i with
   | zero => simp [valR] at hz; subst hz; exact ⟨x, rfl, decV_ex0 h, h3⟩
   | succ i => simpa using h7 i z (by simpa [valR] using hz)
  ·cases h
end
theorem valV_imm0 {w : World} {B B' : List Nat} {η η' : List Value} {d : Td} {x : T d} {v : Value} (hB : ∀ b ∈ B', b ∈ B) (h : Rel w B η (ex (valV d x)) v) : Rel w B' η' (ex (valV d x)) v := by
 refine Rel.bare (rel_subB hB h) ?_
 cases hd : rowD d with
 | true => rw [valV_row d x hd]; exact cells_imm d x
 | false =>
  have := cells_imm d x
  rw [valV_one d x hd] at this
  simp only [List.all_cons, List.all_nil, Bool.and_true] at this
  generalize ex (valV d x) = y at this
  cases y <;> first | exact this | cases this
theorem ex_valV0 (d : Td) (x : T d) : ex0 (valV d x) = ex (valV d x) := by cases d <;> rfl
theorem valR_spec : ∀ (l : List Td) (c : RT l) (i : Nat) y, (valR l c)[i]? = some y → ∃ d x, y = valV d x
 | [], c, i, y, h => by simp [valR] at h
 | [d], c, i, y, h => by
  cases i with
  | zero => simp [valR] at h; exact ⟨d, c, h.symm⟩
  | succ i => simp [valR] at h
 | d :: e :: l, c, i, y, h => by
  cases i with
  | zero => simp [valR] at h; exact ⟨d, c.1, h.symm⟩
  | succ i => exact valR_spec (e :: l) c.2 i y (by simpa [valR] using h)
theorem decR_ok {R : Type} : ∀ (l : List Td) {r : V} {k : RT l → Tree R} {res : R} (h : (decR l r k).run = some res), ∃ y, (k y).run = some res ∧ r.plain = true ∧ ∀ (w : World) (B B' : List Nat) (η η' : List Value) (v : Value), (∀ b ∈ B', b ∈ B) → Rel w B η (ex r) v → (l = [] → v = .tuple #[]) → Rel w B' η' (ex (tupV (valR l y))) v
 | [], r, k, res, h => by
  simp only [decR] at h
  split at h
  ·exact ⟨(), h, rfl, fun w B B' η η' v hB hv h0 => by rw [h0 rfl]; exact .c _ _⟩
  ·cases h
 | [d], r, k, res, h => by
  obtain ⟨y, h1, h2, h3⟩ := decV_ok h
  exact ⟨y, h1, h2, fun w B B' η η' v hB hv _ => valV_imm0 hB (h3 w B η v hv)⟩
 | d :: e :: l, r, k, res, h => by
  simp only [decR] at h
  split at h
  ·rename_i xs
   obtain ⟨y, h1, h2, h3, h4⟩ := decRL_ok _ _ _ _ h
   refine ⟨y, h1, rfl, fun w B B' η η' v hB hv _ => ?_⟩
   have hlen : (valR (d :: e :: l) y).length = (d :: e :: l).length := by rw [← h3, h2]
   have htv : tupV (valR (d :: e :: l) y) = .tup (valR (d :: e :: l) y) := by
    match hq : valR (d :: e :: l) y with
    | [] => rw [hq] at hlen; simp at hlen
    | [_] => rw [hq] at hlen; simp at hlen
    | _ :: _ :: _ => rfl
   rw [htv]
   cases hv with
   | tup _ _ cs us hs hu hr =>
    refine .tup _ _ cs us (by rw [hs, List.length_map, List.length_map, h3]) (fun i x hx => ?_) (fun i x hx => ?_)
    ·rw [List.getElem?_map, Option.map_eq_some_iff] at hx
     obtain ⟨z, hz, rfl⟩ := hx
     obtain ⟨x0, q1, q2, q3⟩ := h4 i z hz
     exact hu i (ex0 x0) (by rw [List.getElem?_map, q1]; rfl)
    ·rw [List.getElem?_map, Option.map_eq_some_iff] at hx
     obtain ⟨z, hz, rfl⟩ := hx
     obtain ⟨x0, q1, q2, q3⟩ := h4 i z hz
     obtain ⟨d', x', rfl⟩ := valR_spec _ _ _ _ hz
     have h0 := hr i (ex0 x0) (by rw [List.getElem?_map, q1]; rfl)
     rw [q2] at h0
     rw [ex_valV0]
     exact valV_imm0 hB (q3 w B η _ h0)
  ·cases h
theorem valA_vals : ∀ (l : List Td) (c : HL l) (i : Nat) x, (valA l c)[i]? = some x → x.plain = true ∧ isFresh (ex x) = false := fun l => by
 induction l with
 | nil => intro c i x hx; simp [valA] at hx
 | cons d l ih =>
  intro c i x hx
  cases i with
  | zero => simp [valA] at hx; subst hx; exact ⟨valV_plain d c.1, valV_fresh d c.1⟩
  | succ i => exact ih c.2 i x (by simpa [valA] using hx)
theorem runV_ok (hm : P.follows .mixedOrders = true) {f : FuncId} {xs : List V} {rs : List Td} (hΓ : EnvOK P (Γ (RT rs))) {fuel : Nat} (hf : ∃ fn c, P.funcs[f]? = some fn ∧ fn.body = some c ∧ okC2 (Γ (RT rs)).inl c = true ∧ fn.name ≠ "runtime.NumGoroutine" ∧ (rs = [] → fn.results = #[])) (hxs : ∀ (i : Nat) x, xs[i]? = some x → x.plain = true ∧ isFresh (ex x) = false) {y : RT rs} (h : (runV P Γ fuel f xs rs).run = some y) : CallsK P f xs (tupV (valR rs y)) := by
 obtain ⟨fn, b, hfn, hb, hok, hnm, hres⟩ := hf
 unfold runV at h
 rw [hfn] at h
 simp only [hb] at h
 obtain ⟨ex1, st', h1, h2⟩ := evK_ok hm hΓ fuel [f] 0 b _ _ y hok (fun c' hc' => by simp only [loopsIn, hfn, hb]; exact hc') h
 intro w B cargs hB hgl hlen hrel
 refine calls_of_wp hfn hb ?_
 have hsim : SimK w.heap.size B [] ⟨slots0 fn xs, []⟩ { tmps := cargs.toArray ++ Array.replicate (fn.ntmps - cargs.toArray.size) undef, defers := [] } w B [] := by
  refine ⟨rfl, ⟨rfl, ⟨Nat.le_refl _, hgl⟩, fun b hb => hb, hB, fun id e h => by simp at h, fun i j ei ej _ h => by simp at h⟩, slots0_ok ⟨hlen, fun i x hx => ?_⟩⟩
  obtain ⟨v, q1, q2⟩ := hrel i x hx
  obtain ⟨q3, q4⟩ := hxs i x hx
  exact ⟨v, q1, Rel2.of q3 q2, fun h => by rw [q4] at h; cases h⟩
 refine h2 w.heap.size B [] _ w B [] _ hsim fun a' w' B' η' hs hg => ?_
 obtain ⟨B2, hs2, hg2⟩ := frzAll_ok (m0 := 0) (List.range st'.heap.length) st' B' hs
 have key : ∀ {r : V} {k : V → Tree (RT rs)}, (decR rs r fun y => .done y).run = some y → (∀ (n0 : Nat) (Bx : List Nat) (ds : List Deferred) (a : Act) (w : World) (B : List Nat) (η : List Value), SimK n0 Bx ds (frzRes st') a w B η → ∃ v, (results fn a.tmps).run P w = .ok v w ∧ Rel2 w B η r v ∧ FreshV n0 (ex r) v) → ∃ v, (results fn a'.tmps).run P w' = .ok v w' ∧ Rel w' B [] (ex (tupV (valR rs y))) v := by
  intro r k hr hv
  obtain ⟨y', q1, q2, q3⟩ := decR_ok _ hr
  simp only [Tree.run, Option.some.injEq] at q1
  subst q1
  obtain ⟨v, g1, g2, _⟩ := hv _ _ _ a' w' B2 η' hs2
  have h0 : rs = [] → v = .tuple #[] := fun h => by
   have := hres h
   unfold results at g1
   rw [this] at g1
   simp at g1
   exact g1.symm
  have hB0 : ∀ b ∈ B, b ∈ B2 := fun b hb => (hs2.inv.sub b hb)
  exact ⟨v, g1, q3 w' B2 B η' [] v hB0 (g2.get q2) h0⟩
 split at h1
 ·obtain ⟨r, q1, q2⟩ := resK_ok h1
  obtain ⟨v, g1, g2⟩ := key (k := fun _ => .fail) q1 q2
  exact ⟨hs.defers, v, g1, v, rfl, hg.below.below, g2⟩
 ·obtain ⟨r, q1, q2⟩ := resK_ok h1
  obtain ⟨v, g1, g2⟩ := key (k := fun _ => .fail) q1 q2
  exact ⟨hs.defers, v, g1, v, rfl, hg.below.below, g2⟩
 ·cases h1
theorem runK_ok (hm : P.follows .mixedOrders = true) {f : FuncId} {ds rs : List Td} (hΓ : EnvOK P (Γ (RT rs))) {fuel : Nat} (hf : ∃ fn c, P.funcs[f]? = some fn ∧ fn.body = some c ∧ okC2 (Γ (RT rs)).inl c = true ∧ fn.name ≠ "runtime.NumGoroutine" ∧ (rs = [] → fn.results = #[])) {c : HL ds} {y : RT rs} (h : (runK P Γ fuel f ds rs c).run = some y) : CallsK P f (valA ds c) (tupV (valR rs y)) := by
 unfold runK at h
 exact runV_ok hm hΓ hf (valA_vals ds c) h
def okFn (P : Program) (inl : FuncId → Bool) (f : FuncId) (rs : List Td) : Bool := match P.funcs[f]? with
 | some fn => (match fn.body with
  | some c => okC2 inl c && fn.name != "runtime.NumGoroutine" && (!rs.isEmpty || fn.results.size == 0)
  | none => false)
 | none => false
theorem okFn_ok {inl : FuncId → Bool} {f : FuncId} {rs : List Td} (h : okFn P inl f rs = true) : ∃ fn c, P.funcs[f]? = some fn ∧ fn.body = some c ∧ okC2 inl c = true ∧ fn.name ≠ "runtime.NumGoroutine" ∧ (rs = [] → fn.results = #[]) := by
 unfold okFn at h
 split at h
 ·rename_i fn hfn
  split at h
  ·rename_i c hc
   simp only [Bool.and_eq_true, bne_iff_ne, Bool.or_eq_true, Bool.not_eq_true', beq_iff_eq] at h
   refine ⟨fn, c, hfn, hc, h.1.1, h.1.2, fun hr => ?_⟩
   subst hr
   rcases h.2 with h | h
   ·cases h
   ·exact Array.eq_empty_of_size_eq_zero h
  ·cases h
 ·cases h
theorem tupV_plain (l : List Td) (y : RT l) : (tupV (valR l y)).plain = true ∧ ∀ m k, ex (tupV (valR l y)) ≠ .fresh m k := by
 match l, y with
 | [], y => exact ⟨rfl, fun m k h => by simp [valR, tupV, ex, ex0] at h⟩
 | [d], y =>
  refine ⟨valV_plain d y, fun m k h => ?_⟩
  have := valV_fresh d y
  rw [show ex (valV d y) = .fresh m k from h] at this
  cases this
 | d :: e :: l, y =>
  match l, y with
  | [], y => exact ⟨rfl, fun m k h => by simp [valR, tupV, ex] at h⟩
  | _ :: _, y => exact ⟨rfl, fun m k h => by simp [valR, tupV, ex] at h⟩
theorem EnvOK.addFn {R : Type} {Γ0 : (R : Type) → Env R} (hm : P.follows .mixedOrders = true) (hΓ : EnvOK P (Γ R)) {f : FuncId} {ds rs : List Td} {g : HL ds → Option (RT rs)} {fuel : Nat} (hΓ0 : EnvOK P (Γ0 (RT rs))) (hok : okFn P (Γ0 (RT rs)).inl f rs = true) (h : ∀ c, (runK P Γ0 fuel f ds rs c).run = g c) : EnvOK P (Env.addFn Γ f (fun R => fnK ds rs g) R) := by
 refine ⟨⟨fun f' args k res hc => ?_⟩, hΓ.inl, hΓ.lp, hΓ.cln, hΓ.mth⟩
 simp only [Env.addFn] at hc
 split at hc
 ·rename_i hff
  subst hff
  obtain ⟨c, h1, h2, h3⟩ := decA_ok _ _ _ _ hc
  obtain ⟨y, h4, h5⟩ := Tree.run_bind h1
  obtain ⟨p1, p2⟩ := tupV_plain rs y
  obtain ⟨fn, b, hfn, hb, hokc, hnm, hres⟩ := okFn_ok hok
  refine ⟨_, h5, p1, p2, CallsK.toV (fun w B cargs hB hgl hlen hrel => ?_) ⟨fn, hfn, hnm, by rw [hb]; exact fun h => by cases h⟩⟩
  refine runK_ok hm hΓ0 (okFn_ok hok) (by rw [h]; exact h4) w B cargs hB hgl (by rw [hlen, h2]) (fun i x hx => ?_)
  obtain ⟨x0, q1, _, _, q4⟩ := h3 i x hx
  obtain ⟨v, q5, q6⟩ := hrel i x0 q1
  exact ⟨v, q5, q4 w B [] v q6⟩
 ·exact hΓ.fns.ok f' args k res hc
def Env.addCln (Γ : (R : Type) → Env R) (f : FuncId) (e : TypeId) : (R : Type) → Env R := fun R => { Γ R with cln := fun g => if g = f then some e else (Γ R).cln g }
theorem EnvOK.addCln {R : Type} (hΓ : EnvOK P (Γ R)) {f : FuncId} {e : TypeId} (h : CloneOK P f e) : EnvOK P (Env.addCln Γ f e R) := ⟨hΓ.fns, hΓ.inl, hΓ.lp, fun g e' hg => by
 simp only [Env.addCln] at hg
 split at hg
 ·rename_i hgf
  subst hgf
  injection hg with hg
  subst hg
  exact h
 ·exact hΓ.cln g e' hg, hΓ.mth⟩
def ownEnd (P : Program) (st' : S2) (fn : Func) (e : TypeId) : Tree (List Int) := resK P st' fn.results.toList fun r => match r with
 | .own id => (match st'.heap[id]? with
  | some (.own d l e') => if e' = e then castK d (.int .u8) (fun d => List (T d)) l fun l => .done l else .fail
  | _ => .fail)
 | .c (.slice none 0 0) => .done []
 | _ => .fail
def runOwn (P : Program) (Γ : (R : Type) → Env R) (fuel : Nat) (f : FuncId) (xs : List V) (e : TypeId) : Tree (List Int) :=
 match P.funcs[f]? with
 | some fn => (match fn.body with
  | some b => evK P (Γ (List Int)) fuel [f] 0 b ⟨slots0 fn xs, []⟩ fun ex st' => (match ex with
   | .normal => ownEnd P st' fn e
   | .ret => ownEnd P st' fn e
   | _ => .fail)
  | none => .fail)
 | none => .fail
theorem relL_u8 {w : World} {B : List Nat} {η : List Value} {l : List Int} {us : List Value} (h : RelL w B η (flat (.int .u8) l) us) : us = l.map fun n => Value.int .u8 n := by
 rw [flat_u8] at h
 apply List.ext_getElem?
 intro i
 rcases Nat.lt_or_ge i l.length with hi | hi
 ·obtain ⟨u, h1, h2⟩ := h.2 i (.c (.int .u8 l[i])) (by rw [List.getElem?_map, List.getElem?_eq_getElem hi]; rfl)
  rw [h1, Rel.ofC h2, List.getElem?_map, List.getElem?_eq_getElem hi]
  rfl
 ·have hl := h.1
  rw [List.length_map] at hl
  rw [List.getElem?_eq_none (by omega), List.getElem?_eq_none (by rw [List.length_map]; exact hi)]
theorem runOwn_ok (hm : P.follows .mixedOrders = true) {f : FuncId} {xs : List V} {rs : List Td} {e : TypeId} (hΓ : EnvOK P (Γ (List Int))) {fuel : Nat} (hf : ∃ fn c, P.funcs[f]? = some fn ∧ fn.body = some c ∧ okC2 (Γ (List Int)).inl c = true ∧ fn.name ≠ "runtime.NumGoroutine" ∧ (rs = [] → fn.results = #[])) (hxs : ∀ (i : Nat) x, xs[i]? = some x → x.plain = true ∧ isFresh (ex x) = false) {l : List Int} (h : (runOwn P Γ fuel f xs e).run = some l) (w : World) (B : List Nat) (cargs : List Value) (hB : ∀ b ∈ B, b < w.heap.size) (hgl : GlobOK w B) (hlen : cargs.length = xs.length) (hrel : ∀ (i : Nat) x, xs[i]? = some x → ∃ v, cargs[i]? = some v ∧ Rel w B [] (ex x) v) :
  Calls P f cargs.toArray w fun e1 w' => ∃ v', e1 = .returned v' ∧ Gr w w' ∧ OwnAt w' w.heap.size e 1 v' l.length (l.map fun n => Value.int .u8 n) := by
 obtain ⟨fn, b, hfn, hb, hok, hnm, _⟩ := hf
 unfold runOwn at h
 rw [hfn] at h
 simp only [hb] at h
 obtain ⟨ex1, st', h1, h2⟩ := evK_ok hm hΓ fuel [f] 0 b _ _ l hok (fun c' hc' => by simp only [loopsIn, hfn, hb]; exact hc') h
 refine calls_of_wp hfn hb ?_
 have hsim : SimK w.heap.size B [] ⟨slots0 fn xs, []⟩ { tmps := cargs.toArray ++ Array.replicate (fn.ntmps - cargs.toArray.size) undef, defers := [] } w B [] := by
  refine ⟨rfl, ⟨rfl, ⟨Nat.le_refl _, hgl⟩, fun b hb => hb, hB, fun id e h => by simp at h, fun i j ei ej _ h => by simp at h⟩, slots0_ok ⟨hlen, fun i x hx => ?_⟩⟩
  obtain ⟨v, q1, q2⟩ := hrel i x hx
  obtain ⟨q3, q4⟩ := hxs i x hx
  exact ⟨v, q1, Rel2.of q3 q2, fun h => by rw [q4] at h; cases h⟩
 refine h2 w.heap.size B [] _ w B [] _ hsim fun a' w' B' η' hs hg => ?_
 have fin : (ownEnd P st' fn e).run = some l → ∃ v, (results fn a'.tmps).run P w' = .ok v w' ∧ OwnAt w' w.heap.size e 1 v l.length (l.map fun n => Value.int .u8 n) := by
  intro h1
  obtain ⟨r, q1, q2⟩ := resK_ok h1
  obtain ⟨v, g1, g2, g5⟩ := q2 _ _ _ a' w' B' η' hs
  refine ⟨v, g1, ?_⟩
  clear g5
  split at q1
  ·rename_i id
   split at q1
   ·rename_i d l0 e' hid
    split at q1
    ·rename_i he
     subst he
     obtain ⟨e1, q3⟩ := castK_run q1
     subst e1
     simp only [Tree.run, Option.some.injEq] at q3
     subst q3
     obtain ⟨n, us, p1, p2, p3, p4⟩ := hs.inv.ent id _ (exH hid)
     have hus := relL_u8 p2
     subst hus
     have g3 : Rel w' B' η' (.own id) v := g2
     have hv : η'.getD id undef = v := by
      cases g3 with
      | own _ _ a n c h => rw [List.getD_eq_getElem?_getD, h]; rfl
     rw [hv] at p1
     have hn : n = l0.length := by
      have h5 := p1.1
      rw [List.length_map, show wd (.int .u8) = 1 from rfl, Nat.mul_one] at h5
      exact h5.symm
     rw [hn] at p1
     exact p1
    ·cases q1
   ·cases q1
  ·simp only [Tree.run, Option.some.injEq] at q1
   subst q1
   have g3 : Rel w' B' η' (.c (.slice none 0 0)) v := g2
   rw [Rel.ofC g3]
   exact OwnAt.nil _ _ _ _
  ·cases q1
 split at h1
 ·obtain ⟨v, g1, g2⟩ := fin h1
  exact ⟨hs.defers, v, g1, v, rfl, hg.below.below, g2⟩
 ·obtain ⟨v, g1, g2⟩ := fin h1
  exact ⟨hs.defers, v, g1, v, rfl, hg.below.below, g2⟩
 ·cases h1
theorem cloneOK_of {Γ0 : (R : Type) → Env R} (hm : P.follows .mixedOrders = true) {f : FuncId} {e : TypeId} {fuel : Nat} (hΓ0 : EnvOK P (Γ0 (List Int))) (hok : okFn P (Γ0 (List Int)).inl f [.sl (.int .u8)] = true) {g : List Int → Option (List Int)} (h : ∀ l : List Int, (runOwn P Γ0 fuel f [.lst (.int .u8) l] e).run = g l) (hg : ∀ l : List Int, l.isEmpty = false → roomB l.length 1 = true → g l = some l)
  (h1 : ∀ c, (runOwn P Γ0 fuel f [.c (.slice none 0 c)] e).run = some []) (h2 : ∀ A c, (runOwn P Γ0 fuel f [.c (.slice (some A) 0 c)] e).run = some []) : CloneOK P f e := by
 obtain ⟨fn, b, hfn, hb, hokc, hnm, hres⟩ := okFn_ok hok
 refine ⟨⟨fn, hfn, hnm, by rw [hb]; exact fun h => by cases h⟩, fun l hr w B v hB hgl hv => ?_⟩
 cases he : l.isEmpty with
 | false =>
  exact runOwn_ok hm hΓ0 (okFn_ok hok) (xs := [.lst (.int .u8) l]) (fun i x hx => by
   match i, hx with
   | 0, hx => simp at hx; subst hx; exact ⟨rfl, rfl⟩) (by rw [h]; exact hg l he hr) w B [v] hB hgl rfl (fun i x hx => by
   match i, hx with
   | 0, hx => simp at hx; subst hx; exact ⟨v, rfl, hv⟩)
 | true =>
  have hl : l = [] := List.isEmpty_iff.1 he
  subst hl
  obtain ⟨A, n, cc, us, rfl, hk, hn, _, hm', _, _⟩ := Rel.slL hv
  have hn0 : n = 0 := by
   rcases Nat.eq_zero_or_pos n with h | h
   ·exact h
   ·have := Nat.mul_pos h hk; simp [flat] at hn; omega
  subst hn0
  have go : (runOwn P Γ0 fuel f [.c (.slice A 0 cc)] e).run = some [] → Calls P f #[.slice A 0 cc] w fun e1 w' => ∃ v', e1 = .returned v' ∧ Gr w w' ∧ OwnAt w' w.heap.size e 1 v' ([] : List Int).length (([] : List Int).map fun n => Value.int .u8 n) := fun hr => by
   exact runOwn_ok hm hΓ0 (okFn_ok hok) (xs := [.c (.slice A 0 cc)]) (fun i x hx => by
    match i, hx with
    | 0, hx => simp at hx; subst hx; exact ⟨rfl, rfl⟩) hr w B [.slice A 0 cc] hB hgl rfl (fun i x hx => by
    match i, hx with
    | 0, hx => simp at hx; subst hx; exact ⟨.slice A 0 cc, rfl, .c _ _⟩)
  cases A with
  | some A => exact go (h2 A cc)
  | none => exact go (h1 cc)
end
theorem wrap64 {x : Int} (h1 : -9223372036854775808 ≤ x) (h2 : x < 9223372036854775808) : IntKind.wrap .i64 x = x := by
 have := IntKind.wrap_i64 x
 rw [this]; omega
theorem getI_nat {α : Type} (l : List α) (i : Nat) : getI l (i : Int) = l[i]? := by unfold getI; rw [if_pos (Int.natCast_nonneg i), Int.toNat_natCast]
theorem getI_lt {α : Type} (l : List α) (i : Nat) (h : i < l.length) : getI l (i : Int) = some l[i] := by rw [getI_nat, List.getElem?_eq_getElem h]
theorem roomB_of {n b : Nat} (h1 : n ≤ maxLen) (h2 : n * b ≤ 140737488355328) : roomB n b = true := decide_eq_true ⟨h1, h2⟩
theorem big_len : 1000000000 ≤ maxLen := by simp [maxLen]
theorem gl_succ {C O : Type} (G : (C → Option O) → C → Option O) (n : Nat) (c : C) : gl G (n + 1) c = G (gl G n) c := rfl
theorem gl_run {C O : Type} {G : (C → Option O) → C → Option O} (st : Nat → C) (n : Nat) (o : O) (hstep : ∀ X i, i < n → G X (st i) = X (st (i + 1))) (hend : ∀ X, G X (st n) = some o) : ∀ k i, i ≤ n → n - i < k → gl G k (st i) = some o
 | 0, i, _, h => by omega
 | k + 1, i, hi, h => by
  rw [gl_succ]
  rcases Nat.lt_or_ge i n with h' | h'
  ·rw [hstep _ i h']; exact gl_run st n o hstep hend k (i + 1) h' (by omega)
  ·have : i = n := by omega
   subst this; exact hend _
end Go.Proofs.Ytcinflglacikjaa
namespace Go.Proofs.Ytcinflglacikjaa
set_option maxRecDepth 100000
open Go.ChangeShapes Go.WideShapes Go.ChangeAt Go.RowKit
set_option linter.unusedVariables false
theorem own : ownKnob Try.prog.godebug = none := by kernel_rfl
theorem laidOut : laidOutB Try.prog = true := by kernel_rfl
theorem callsK_true {f : FuncId} {args : List V} {cargs : List Value} {w : World} (h : CallsK Try.prog f args (.c (.bool true))) (hr : RelL w [] [] (args.map ex) cargs) (hgl : GlobOK w [] := by refine ⟨fun g l h => ?_, fun g h => ?_, fun g h => ?_, fun g l h => ?_⟩ <;> simp [globs, globNN, globNum, globRows] at h) :
  Calls Try.prog f cargs.toArray w fun e w' => e = .returned (.bool true) ∧ Below w.heap.size w w' :=
 (h w [] cargs (by simp) hgl (by rw [hr.1, List.length_map]) (fun i x hx => hr.2 i (ex x) (by rw [List.getElem?_map, hx]; rfl))).mono fun e w' ⟨v, he, hg, hrel⟩ => by cases hrel; exact ⟨he, ⟨hg.os, hg.tape, hg.output, hg.size, fun b hb => hg.block b hb⟩⟩
section
variable {H : Type} {enc : TypeId × Value → H} {W : World}
theorem lt_of_trod {T : TypeId} {v : Value} {d : DataW H} {p : List MemPlace} (h : DataW.Trod enc Try.prog W 0 (fun _ => true) true T v d p) : ∀ x ∈ p, x.block < W.heap.size := by
 obtain ⟨m, hm⟩ := h; exact DataW.trod_lt m _ _ _ hm
end
end Go.Proofs.Ytcinflglacikjaa
namespace Go.Proofs.Ytcinflglacikjaa
set_option maxRecDepth 100000
open Go.ChangeShapes Go.WideShapes Go.ChangeAt Go.RowKit
set_option linter.unusedVariables false
set_option linter.unusedSimpArgs false
def wfT : (d : Td) → T d → Prop
 | .int k, n => (Lit.int k n).wf = true
 | .bool, _ => True
 | .str, s => s.length ≤ maxLen
 | .sl d, l => l.length ≤ maxLen ∧ ∀ x ∈ l, wfT d x
 | .arr n d, a => ∀ x ∈ a.l, wfT d x
 | .pair d e, x => wfT d x.1 ∧ wfT e x.2
section
variable {P : Program} {H : Type} {enc : TypeId × Value → H} {W : World}
theorem pick_list {α : Type} (Q : Nat → α → Prop) : ∀ n, (∀ i, i < n → ∃ y, Q i y) → ∃ l : List α, l.length = n ∧ ∀ i y, l[i]? = some y → Q i y
 | 0, _ => ⟨[], rfl, fun i y h => by simp at h⟩
 | n + 1, h => by
  obtain ⟨l, h1, h2⟩ := pick_list Q n fun i hi => h i (by omega)
  obtain ⟨y, hy⟩ := h n (by omega)
  refine ⟨l ++ [y], by simp [h1], fun i z hz => ?_⟩
  rcases Nat.lt_or_ge i n with hi | hi
  ·rw [List.getElem?_append_left (by omega)] at hz; exact h2 i z hz
  ·rw [List.getElem?_append_right (by omega)] at hz
   have : i - l.length = 0 := by have := (List.getElem?_eq_some_iff.1 hz).1; simp at this; omega
   rw [this] at hz
   simp at hz
   subst hz
   rw [show i = n by omega]; exact hy
theorem cell_spot {a : Addr} {v : Value} (h : W.cell? a = some v) : a.spot = none := by
 unfold World.cell? at h
 split at h
 ·split at h
  ·cases h
  ·rename_i hs; cases hx : a.spot with
   | none => rfl
   | some _ => rw [hx] at hs; simp at hs
 ·cases h
theorem add_add (a : Addr) (i j : Nat) (h : a.spot = none) : (a.add i).add j = a.add (i + j) := by
 unfold Addr.add
 obtain ⟨b, o, s⟩ := a
 simp only at h
 subst h
 by_cases hi : i = 0 <;> by_cases hj : j = 0 <;> simp [hi, hj, Nat.add_assoc]
theorem cells_get {a : Addr} {n : Nat} {cs : List Value} (h : W.cells? 0 a n = some cs) : cs.length = n ∧ ∀ i u, cs[i]? = some u → W.cell? (a.add i) = some u := by
 unfold World.cells? at h
 rw [if_pos (Nat.zero_le _)] at h
 have hl := mapM_some_length h
 rw [List.length_range] at hl
 refine ⟨hl, fun i u hu => ?_⟩
 have hi : i < n := by have := (List.getElem?_eq_some_iff.1 hu).1; omega
 rw [mapM_some_get h i i (by simp [hi])]
 exact hu
theorem flat_rel {d : Td} (xs : List (T d)) (us : Nat → Value) (B : List Nat) (h : ∀ i x, xs[i]? = some x → ∀ j y, (cells d x)[j]? = some y → Rel W B [] y (us (i * wd d + j))) : ∀ i y, (flat d xs)[i]? = some y → Rel W B [] y (us i) := by
 intro i y hy
 have hi : i < xs.length * wd d := by have := (List.getElem?_eq_some_iff.1 hy).1; rwa [flat_length] at this
 have hw : 0 < wd d := by rcases Nat.eq_zero_or_pos (wd d) with h | h; rw [h] at hi; omega; exact h
 have hq : i / wd d < xs.length := Nat.div_lt_of_lt_mul (by rw [Nat.mul_comm]; exact hi)
 have hx : xs[i / wd d]? = some xs[i / wd d] := List.getElem?_eq_getElem hq
 have hf := flat_at d xs (i / wd d) _ hx
 have hr : i % wd d < wd d := Nat.mod_lt _ hw
 have hdm := Nat.div_add_mod i (wd d)
 have h1 : (cells d xs[i / wd d])[i % wd d]? = some y := by
  rw [← hf, List.getElem?_take, if_pos hr, List.getElem?_drop]
  rw [show i / wd d * wd d + i % wd d = i by rw [Nat.mul_comm]; exact hdm]
  exact hy
 have := h _ _ hx _ _ h1
 rwa [show i / wd d * wd d + i % wd d = i by rw [Nat.mul_comm]; exact hdm] at this
mutual
theorem read_td : ∀ (n : Nat) (t : TypeId) (d : Td), layT' P n t d = true → ∀ (fuel : Nat) (cs : List Value) (x : DataW H × List MemPlace), DataW.trod enc P W 0 (fun _ => true) true fuel t cs = some x → ∃ y : T d, RelL W [] [] (cells d y) cs ∧ wfT d y
 | 0, t, d, h => by simp [layT'] at h
 | n + 1, t, d, h => by
  intro fuel cs x hx
  simp only [layT', Bool.and_eq_true, beq_iff_eq] at h
  obtain ⟨hc, h⟩ := h
  split at h
  ·rename_i k k' hu
   have := of_decide_eq_true h
   subst this
   obtain ⟨z, rfl, _, hw⟩ := DataW.trod_int hu hx
   exact ⟨z, RelL.cons (.c _ _) (RelL.nil _ _ _), hw⟩
  ·rename_i hu
   obtain ⟨z, rfl, _⟩ := DataW.trod_bool hu hx
   exact ⟨z, RelL.cons (.c _ _) (RelL.nil _ _ _), trivial⟩
  ·rename_i hu
   obtain ⟨s, rfl, _, hs⟩ := DataW.trod_string hu hx
   refine ⟨s.data.toList, RelL.cons ?_ (RelL.nil _ _ _), by show s.data.toList.length ≤ maxLen; simpa using hs⟩
   have : (⟨s.data.toList.toArray⟩ : ByteArray) = s := by cases s; simp
   rw [this]; exact .c _ _
  ·rename_i e d hu
   simp only [Bool.and_eq_true, decide_eq_true_eq] at h
   obtain ⟨hw, h⟩ := h
   have hce := layT_cells h
   rcases DataW.trod_slice hu hx with ⟨rfl, _⟩ | ⟨a, len, cap, elems, rest, m, rfl, rfl, _, _, hlc, hm, hel, hels, _⟩
   ·exact ⟨[], RelL.cons (rel_nil_sl hw (.c _ _)) (RelL.nil _ _ _), by simp [maxLen], fun x hx => by cases hx⟩
   ·obtain ⟨ys, hy1, hy2⟩ := pick_list (fun i y => ∃ us, W.cells? 0 (a.add (i * wd d)) (wd d) = some us ∧ RelL W [] [] (cells d y) us ∧ wfT d y) len fun i hi => by
     have h0 := hels i hi
     rw [List.getElem?_eq_getElem (by omega), hce] at h0
     obtain ⟨us, q1, q2⟩ := Option.bind_eq_some_iff.1 h0
     obtain ⟨y, q3, q4⟩ := read_td n e d h _ _ _ q2
     exact ⟨y, us, q1, q3, q4⟩
    refine ⟨ys, RelL.cons ?_ (RelL.nil _ _ _), by rw [hy1]; omega, fun x hx => ?_⟩
    ·have hspot : 0 < len → a.spot = none := fun h0 => by
      obtain ⟨us, q1, q3, _⟩ := hy2 0 ys[0] (List.getElem?_eq_getElem (by omega))
      have hl := (cells_get q1).1
      have := (cells_get q1).2 0 us[0] (List.getElem?_eq_getElem (by omega))
      have := cell_spot this
      unfold Addr.add at this
      simpa using this
     have hcell : ∀ i x, ys[i]? = some x → ∀ j y, (cells d x)[j]? = some y → Rel W [] [] y ((W.cell? (a.add (i * wd d + j))).getD undef) ∧ (W.cell? (a.add (i * wd d + j))).isSome = true := fun i x hx j y hy => by
      obtain ⟨us, q1, q3, _⟩ := hy2 i x hx
      obtain ⟨u, q4, q5⟩ := q3.2 j y hy
      have := (cells_get q1).2 j u q4
      have h0 : 0 < len := by have := (List.getElem?_eq_some_iff.1 hx).1; omega
      rw [add_add a _ _ (hspot h0)] at this
      rw [this]
      exact ⟨q5, rfl⟩
     have hr := flat_rel (W := W) ys (fun i => (W.cell? (a.add i)).getD undef) [] fun i x hx j y hy => (hcell i x hx j y hy).1
     refine .sl _ _ _ _ _ _ (fun i => (W.cell? (a.add i)).getD undef) hw (by show len * wd d = (flat d ys).length; rw [flat_length, hy1]) hlc hm (fun h0 => ⟨a, rfl, hspot h0, ?_, by simp, fun i hi => ?_⟩) hr
     ·obtain ⟨us, q1, q3, _⟩ := hy2 0 ys[0] (List.getElem?_eq_getElem (by omega))
      have hl := (cells_get q1).1
      have := (cells_get q1).2 0 us[0] (List.getElem?_eq_getElem (by omega))
      have := World.block_lt_of_cell? W _ this
      rwa [block_of_add, block_of_add] at this
     ·have hi' : i < len * wd d := by change i < (flat d ys).length at hi; rw [flat_length, hy1] at hi; exact hi
      have hq : i / wd d < ys.length := by rw [hy1]; exact Nat.div_lt_of_lt_mul (by rw [Nat.mul_comm]; exact hi')
      have hrm : i % wd d < (cells d ys[i / wd d]).length := by rw [cells_length]; exact Nat.mod_lt _ (by omega)
      have := (hcell _ _ (List.getElem?_eq_getElem hq) _ _ (List.getElem?_eq_getElem hrm)).2
      rw [show i / wd d * wd d + i % wd d = i by rw [Nat.mul_comm]; exact Nat.div_add_mod i (wd d)] at this
      obtain ⟨u, hu⟩ := Option.isSome_iff_exists.1 this
      rw [hu]; rfl
    ·obtain ⟨i, hi⟩ := List.getElem?_of_mem hx
     obtain ⟨_, _, _, q⟩ := hy2 i x hi
     exact q
  ·rename_i m e m' d hu
   simp only [Bool.and_eq_true, beq_iff_eq] at h
   obtain ⟨rfl, h⟩ := h
   have hce := layT_cells h
   obtain ⟨xs, m2, rfl, _, hl, hxl, hi⟩ := DataW.trod_array hu hx
   obtain ⟨ys, hy1, hy2⟩ := pick_list (fun i y => RelL W [] [] (cells d y) ((cs.drop (i * wd d)).take (wd d)) ∧ wfT d y) m fun i h1 => by
    have h0 := hi i h1
    rw [List.getElem?_eq_getElem (by omega), hce] at h0
    exact read_td n e d h _ _ _ h0
   refine ⟨⟨ys, hy1⟩, ⟨?_, ?_⟩, fun x hx => ?_⟩
   ·rw [cells_length, ← hc]; exact hl.symm ▸ rfl
   ·intro i y hy
    have hr := flat_rel (W := W) ys (fun i => cs.getD i undef) [] fun i x hx j y hy => by
     obtain ⟨u, q1, q2⟩ := (hy2 i x hx).1.2 j y hy
     rw [List.getElem?_take] at q1
     split at q1
     ·rw [List.getElem?_drop] at q1
      rw [List.getD_eq_getElem?_getD, q1]; exact q2
     ·cases q1
    have hlt : i < cs.length := by
     have := (List.getElem?_eq_some_iff.1 hy).1
     rw [cells_length, ← hc, ← hl] at this
     exact this
    refine ⟨cs[i], List.getElem?_eq_getElem hlt, ?_⟩
    have := hr i y hy
    rwa [List.getD_eq_getElem?_getD, List.getElem?_eq_getElem hlt] at this
   ·obtain ⟨i, hi⟩ := List.getElem?_of_mem hx
    exact (hy2 i x hi).2
  ·rename_i fs hu
   obtain ⟨xs, m2, rfl, _, hl, hxl, hi⟩ := DataW.trod_struct hu hx
   have := read_fs n fs.toList 0 _ h m2 cs (fun i f hf => by
    have h0 := hi i f (by simpa using hf)
    have hlt : i < xs.length := by have := (List.getElem?_eq_some_iff.1 hf).1; rw [hxl]; simpa using this
    exact ⟨_, h0.trans (List.getElem?_eq_getElem hlt)⟩) (by rw [hl, hc]; omega)
   simpa using this
  ·cases h
theorem read_fs : ∀ (n : Nat) (fs : List Field) (o : Nat) (d : Td), layFs P n fs o d = true → ∀ (m : Nat) (cs : List Value), (∀ (i : Nat) (f : Field), fs[i]? = some f → ∃ x, DataW.trod enc P W 0 (fun _ => true) true m f.type ((cs.drop f.offset).take (P.cellsOf f.type)) = some x) → cs.length = o + wd d → ∃ y : T d, RelL W [] [] (cells d y) (cs.drop o) ∧ wfT d y
 | 0, fs, o, d, h => by simp [layFs] at h
 | n + 1, [], o, d, h => by simp [layFs] at h
 | n + 1, [f], o, d, h => by
  intro m cs hx hl
  simp only [layFs, Bool.and_eq_true, beq_iff_eq] at h
  obtain ⟨rfl, h⟩ := h
  obtain ⟨x, hx⟩ := hx 0 f rfl
  rw [layT_cells h] at hx
  obtain ⟨y, h1, h2⟩ := read_td n _ d h _ _ _ hx
  rw [List.take_of_length_le (by rw [List.length_drop]; omega)] at h1
  exact ⟨y, h1, h2⟩
 | n + 1, f :: g :: fs, o, d, h => by
  intro m cs hx hl
  simp only [layFs] at h
  split at h
  ·rename_i d e
   simp only [Bool.and_eq_true, beq_iff_eq] at h
   obtain ⟨⟨rfl, h⟩, h'⟩ := h
   simp only [wd] at hl
   obtain ⟨x, hx0⟩ := hx 0 f rfl
   rw [layT_cells h] at hx0
   obtain ⟨y, h1, h2⟩ := read_td n _ d h _ _ _ hx0
   obtain ⟨z, h3, h4⟩ := read_fs n (g :: fs) _ e h' m cs (fun i f' hf => hx (i + 1) f' (by simpa using hf)) (by omega)
   refine ⟨(y, z), ?_, h2, h4⟩
   have := h1.append h3
   rw [← List.drop_drop, List.take_append_drop] at this
   exact this
  ·cases h
end
end
def rowB (P : Program) (t : TypeId) : Bool := match P.underlying t with
 | some (.struct _) | some (.array _ _) => true
 | _ => false
theorem okWide_row {P : Program} {W : World} {base : Nat} {t : TypeId} {v : Value} (h : rowB P t = true) (hv : Value.okWide P W .any base t v) : ∃ cs, v = .agg cs := by
 unfold rowB at h
 unfold Value.okWide at hv
 split at h
 ·rename_i hu; rw [hu] at hv; obtain ⟨cs, h1, _⟩ := hv; exact ⟨cs, h1⟩
 ·rename_i hu; rw [hu] at hv; obtain ⟨cs, h1, _⟩ := hv; exact ⟨cs, h1⟩
 ·cases h
theorem okWide_one {P : Program} {W : World} {base n : Nat} {t : TypeId} {d : Td} {v : Value} (hl : layT' P n t d = true) (h : rowB P t = false) (hv : Value.okWide P W .any base t v) : v.cells.toList = [v] := by
 cases n with
 | zero => simp [layT'] at hl
 | succ n =>
  simp only [layT', Bool.and_eq_true] at hl
  replace hl := hl.2
  split at hl
  ·rename_i hu; obtain ⟨_, rfl⟩ := okWide_int hu hv; rfl
  ·rename_i hu
   simp only [Value.okWide, hu, Cell.okWide] at hv
   cases v <;> first | rfl | simp_all [Cell.ok]
  ·rename_i hu; obtain ⟨_, rfl⟩ := okWide_string hu hv; rfl
  ·rename_i hu; obtain ⟨_, _, _, rfl⟩ := okWide_slice hu hv; rfl
  ·rename_i hu; simp [rowB, hu] at h
  ·rename_i hu; simp [rowB, hu] at h
  ·cases hl
theorem open_td {H : Type} {enc : TypeId × Value → H} {W : World} {t : TypeId} {d : Td} (hl : layT' Try.prog 24 t d = true) (hr : rowB Try.prog t = rowD d) {base : Nat} {v : Value} {x : DataW H} {p : List MemPlace} (hv : Value.okWide Try.prog W .any base t v) (h : DataW.Trod enc Try.prog W 0 (fun _ => true) true t v x p) : ∃ y : T d, Rel W [] [] (ex (valV d y)) v ∧ wfT d y := by
 obtain ⟨fuel, hf⟩ := h
 obtain ⟨y, h1, h2⟩ := read_td _ _ _ hl _ _ _ hf
 refine ⟨y, ?_, h2⟩
 cases hd : rowD d with
 | true =>
  obtain ⟨cs, rfl⟩ := okWide_row (hr.trans hd) hv
  rw [valV_row d y hd]
  refine .agg _ _ cs (fun i => cs.getD i undef) (by rw [← h1.1]; simp [Value.cells]) (fun i x hx => ?_) (fun i x hx => ?_)
  ·obtain ⟨u, q1, _⟩ := h1.2 i x hx
   simp only [Value.cells, Array.getElem?_toList] at q1
   rw [Array.getD_eq_getD_getElem?, q1]; rfl
  ·obtain ⟨u, q1, q2⟩ := h1.2 i x hx
   simp only [Value.cells, Array.getElem?_toList] at q1
   rw [Array.getD_eq_getD_getElem?, q1]; exact q2
 | false =>
  rw [okWide_one hl (hr.trans hd) hv, valV_one d y hd] at h1
  obtain ⟨u, q1, q2⟩ := h1.2 0 _ rfl
  simp at q1
  rw [q1]; exact q2
end Go.Proofs.Ytcinflglacikjaa
namespace Go.Proofs.Ytcinflglacikjaa
set_option maxRecDepth 100000
open Go.RowKit
set_option linter.unusedVariables false
set_option linter.unusedSimpArgs false
section
variable {P : Program} {R : Type}
end
structure MI where
 nt : Nat
 nr : Nat
 mb : Nat
 sh : Shape
 outs : List (Exit × Shape)
def lab1 : V → Nat
 | .c (.pointer none) => 1
 | .box _ _ => 2
 | _ => 0
def labR : List V → Nat
 | [] => 0
 | x :: l => lab1 x + 3 * labR l
def nilAt : List V → Nat → List Nat
 | [], _ => []
 | .c (.slice none 0 0) :: l, i => i :: nilAt l (i + 1)
 | _ :: l, i => nilAt l (i + 1)
def ownNil (P : Program) : List Nat → S2 → S2
 | [], st => st
 | i :: l, st => ownNil P l (match st.heap.getD i .dead with | .box segs t => ownB P t i (nilAt segs 0) st | _ => st)
theorem ownNil_ok {P : Program} {n0 m0 : Nat} {Bx : List Nat} {ds : List Deferred} {a : Act} {w : World} {B : List Nat} : ∀ (l : List Nat) (st : S2) (η : List Value), SimK n0 Bx ds st a w B η → ∃ η', SimK n0 Bx ds (ownNil P l st) a w B η' ∧ Goes n0 Bx m0 w B η w B η'
 | [], st, η, h => ⟨η, h, Goes.refl _ _ _ _ _ _⟩
 | i :: l, st, η, h => by
  unfold ownNil
  split
  ·rename_i segs t _
   obtain ⟨η1, h1, h2⟩ := ownB_ok (m0 := m0) (P := P) t i (nilAt segs 0) st η h
   obtain ⟨η2, h3, h4⟩ := ownNil_ok (m0 := m0) l _ η1 h1
   exact ⟨η2, h3, h2.trans h4⟩
  ·exact ownNil_ok l st η h
def isBx : E2 → Bool
 | .box _ _ => true
 | _ => false
def keepA (args : List V) (H : List E2) : List Nat :=
 (clos H 0 500 (args.flatMap idsV) []).filter (fun i => isBx (H.getD i .dead)) ++ (clos H 0 500 (args.flatMap idsV) []).filter (fun i => !isBx (H.getD i .dead))
section
variable {R : Type}
def endM (P : Program) (mi : MI) (fn : Func) (st : S2) (k : OT mi.outs → Tree R) : Tree R :=
 resLK P st fn.results.toList fun rs => forceST (ownNil P (List.range st.heap.length) ⟨rs, st.heap⟩) fun st2 => decO P mi.mb mi.nr [] mi.outs (.exit (labR rs)) st2 k
def runM (P : Program) (Γ : (R : Type) → Env R) (fuel : Nat) (path : List Nat) (f : FuncId) (mi : MI) (c : CT mi.sh) : Tree (OT mi.outs) :=
 match P.funcs[f]? with
 | some fn => (match fn.body with
  | some b => evK P (Γ (OT mi.outs)) fuel path mi.mb b (stOf mi.sh mi.nt c) fun ex st' => match ex with
   | .normal => endM P mi fn st' fun o => .done o
   | .ret => endM P mi fn st' fun o => .done o
   | _ => .fail
  | none => .fail)
 | none => .fail
def bkL (keep : List Nat) (n m : Nat) : List Nat := (List.range n).map (fun i => match posOf keep i with | some j => j | none => m + i) ++ (List.range (m - keep.length)).map (fun j => keep.length + j)
def ovl {α : Type} (keep : List Nat) : Nat → List α → List α → List α
 | _, [], l => l
 | i, e :: H, a :: l => (if keep.contains i then a else e) :: ovl keep (i + 1) H l
 | _, _ :: _, [] => []
def retK (l : List V) (k : V → Tree R) : Tree R := match l with
 | [] => k (.c (.tuple #[]))
 | [x] => k x
 | l => if l.all tupOK = true then k (.tup l) else .fail
def backK (keep : List Nat) (mb : Nat) (H1 : List E2) (st : S2) (k : V → List E2 → Tree R) : Tree R :=
 forceNL (bkL (keep.take mb) H1.length st.heap.length) fun L => if nodupB L = true then forceST (renum L ⟨st.slots, st.heap ++ H1.map fun _ => .dead⟩) fun st2 => retK st2.slots fun r => k r (ovl keep 0 H1 st2.heap) else .fail
def backK0 (keep : List Nat) (mb : Nat) (H1 : List E2) (st : S2) (k : V → List E2 → Tree R) : Tree R :=
 if nodupB (bkL (keep.take mb) H1.length st.heap.length) = true then (match renum (bkL (keep.take mb) H1.length st.heap.length) ⟨st.slots, st.heap ++ H1.map fun _ => .dead⟩ with
  | ⟨rs, Ha⟩ => retK rs fun r => k r (ovl keep 0 H1 Ha)) else .fail
def spec (l : List V) : List V := l.filter fun x => match x with | .own _ | .box _ _ | .c (.pointer none) => true | _ => false
def specB : List BSh → List V
 | [] => []
 | .own j :: b => .own j :: specB b
 | .lv v :: b => v :: specB b
 | _ :: b => specB b
def fitB (b : List BSh) (segs : List V) : Bool := litEqL (spec segs) (specB b)
def fitS : List (Nat × SSh) → List V → Bool
 | [], _ => true
 | (s, .lit v) :: l, sl => litEq (sl.getD s .any) v && fitS l sl
 | (s, .ty _) :: l, sl => (match sl.getD s .any with | .own _ | .box _ _ | .c (.pointer none) | .adr _ | .clo _ _ => false | _ => true) && fitS l sl
 | (s, .adr _) :: l, sl => (match sl.getD s .any with | .adr _ => true | _ => false) && fitS l sl
 | (s, .mix b) :: l, sl => (match sl.getD s .any with | .agg segs => fitB b segs | _ => false) && fitS l sl
def fitH : List HSh → List E2 → Bool
 | [], [] => true
 | .boxp t b :: l, .box segs t' :: H => t == t' && fitB b segs && fitH l H
 | .box t _ :: l, .box segs t' :: H => t == t' && (spec segs).isEmpty && fitH l H
 | .own _ E :: l, .own _ _ E' :: H => E == E' && fitH l H
 | .dead :: l, _ :: H => fitH l H
 | .itr :: l, .itr _ _ :: H => fitH l H
 | _, _ => false
def mthK (P : Program) (mi : MI) (g : CT mi.sh → Option (OT mi.outs)) (old : List V → List E2 → (V → List E2 → Tree R) → Tree R) (args0 : List V) (H : List E2) (k : V → List E2 → Tree R) : Tree R :=
 forceVL (args0.map argV) fun args => forceNL (keepA args H) fun keep0 => forceST (ownNil P keep0 ⟨args, H⟩) fun st1 => forceNL (keepA args st1.heap) fun keep =>
  if nodupB keep = true ∧ keep.all (fun i => decide (i < st1.heap.length)) = true ∧ mi.mb ≤ keep.length ∧ args.length ≤ mi.nt then forceST (renum keep st1) fun st2 =>
   if (fitS mi.sh.slots st2.slots && fitH mi.sh.heap st2.heap) = true then decS mi.sh.slots (st2.slots ++ List.replicate (mi.nt - st2.slots.length) .any) fun c1 => decH mi.sh.heap st2.heap fun c2 => .bind (g (c1, c2)) fun o => casesO mi.nr mi.outs o fun _ st => forceST st fun st => backK keep mi.mb st1.heap st k
   else old args0 H k else old args0 H k
def mthK0 (P : Program) (mi : MI) (g : CT mi.sh → Option (OT mi.outs)) (old : List V → List E2 → (V → List E2 → Tree R) → Tree R) (args0 : List V) (H : List E2) (k : V → List E2 → Tree R) : Tree R :=
 match args0.map argV with
 | args => match ownNil P (keepA args H) ⟨args, H⟩ with
  | ⟨sl1, H1⟩ => match keepA args H1 with
   | keep => if nodupB keep = true ∧ keep.all (fun i => decide (i < H1.length)) = true ∧ mi.mb ≤ keep.length ∧ args.length ≤ mi.nt then (match renum keep ⟨sl1, H1⟩ with
    | ⟨sl2, H2⟩ => if (fitS mi.sh.slots sl2 && fitH mi.sh.heap H2) = true then decS mi.sh.slots (sl2 ++ List.replicate (mi.nt - sl2.length) .any) fun c1 => decH mi.sh.heap H2 fun c2 => .bind (g (c1, c2)) fun o => casesO mi.nr mi.outs o fun _ st => backK0 keep mi.mb H1 st k else old args0 H k) else old args0 H k
end
section
variable {P : Program}
theorem slots_of {n0 : Nat} {w : World} {B : List Nat} {η : List Value} {args : List V} {cargs : List Value} (h : RelVs n0 w B η args cargs) : SlotsK n0 w B η args cargs.toArray := by
 refine ⟨by simp [h.1], fun t => ?_, fun t => ?_⟩
 ·rw [List.getD_eq_getElem?_getD, Array.getD_eq_getD_getElem?, List.getElem?_toArray]
  rcases Nat.lt_or_ge t args.length with ht | ht
  ·obtain ⟨u, h1, h2, _⟩ := h.2 t _ (List.getElem?_eq_getElem ht)
   rw [List.getElem?_eq_getElem ht, h1]; exact h2
  ·rw [List.getElem?_eq_none ht]; trivial
 ·rw [List.getD_eq_getElem?_getD, Array.getD_eq_getD_getElem?, List.getElem?_toArray]
  rcases Nat.lt_or_ge t args.length with ht | ht
  ·obtain ⟨u, h1, _, h2⟩ := h.2 t _ (List.getElem?_eq_getElem ht)
   rw [List.getElem?_eq_getElem ht, h1]; exact h2
  ·rw [List.getElem?_eq_none ht]; exact fun h => by cases h
theorem slots_rel {n0 : Nat} {w : World} {B : List Nat} {η : List Value} {args : List V} {cargs : List Value} (h : SlotsK n0 w B η args cargs.toArray) : RelVs n0 w B η args cargs := by
 have hl : args.length = cargs.length := by simpa using h.size
 refine ⟨hl.symm, fun i x hx => ?_⟩
 have hi := (List.getElem?_eq_some_iff.1 hx).1
 have h1 := h.rel i
 have h2 := h.fresh i
 rw [List.getD_eq_getElem?_getD, hx, Array.getD_eq_getD_getElem?, List.getElem?_toArray, List.getElem?_eq_getElem (by omega)] at h1 h2
 exact ⟨_, List.getElem?_eq_getElem (by omega), h1, h2⟩
theorem argV_rel {n0 : Nat} {w : World} {B : List Nat} {η : List Value} {x : V} {v : Value} (h : Rel2 w B η x v) : Rel2 w B η (argV x) v ∧ FreshV n0 (ex (argV x)) v := by
 cases x <;> first | exact ⟨h, fun h => by cases h⟩ | exact ⟨Rel.unf h, fun h => by cases h⟩
theorem args_rel {n0 : Nat} {w : World} {B : List Nat} {η : List Value} {args : List V} {cargs : List Value} (h : RelVs n0 w B η args cargs) : RelVs n0 w B η (args.map argV) cargs := by
 refine ⟨by simp [h.1], fun i y hy => ?_⟩
 rw [List.getElem?_map, Option.map_eq_some_iff] at hy
 obtain ⟨x, hx, rfl⟩ := hy
 obtain ⟨v, h1, h2, _⟩ := h.2 i x hx
 obtain ⟨q1, q2⟩ := argV_rel (n0 := n0) h2
 exact ⟨v, h1, q1, q2⟩
theorem resMK_ok {R : Type} {st : S2} : ∀ (l : List ResultVar) (k : List V → Tree R) (res : R), (resLK P st l k).run = some res →
  ∃ m, (k m).run = some res ∧ ∀ (n0 : Nat) (Bx : List Nat) (ds : List Deferred) (a : Act) (w : World) (B : List Nat) (η : List Value), SimK n0 Bx ds st a w B η → ∃ vs : List Value, (l.mapM (resRun a.tmps)).run P w = .ok vs w ∧ RelVs n0 w B η m vs
 | [], k, res, h => ⟨[], h, fun n0 Bx ds a w B η hs => ⟨[], rfl, rfl, fun i x h => by simp at h⟩⟩
 | rv :: l, k, res, h => by
  unfold resLK at h
  obtain ⟨x, h1, h2⟩ := resOneK_ok h
  split at h1
  ·obtain ⟨m, h3, h5⟩ := resMK_ok l _ _ h1
   refine ⟨_, h3, fun n0 Bx ds a w B η hs => ?_⟩
   obtain ⟨v, g1, g2, _⟩ := h2 n0 Bx ds a w B η hs
   obtain ⟨vs, g3, g4⟩ := h5 n0 Bx ds a w B η hs
   refine ⟨v :: vs, ?_, by simp [g4.1], fun i y hy => ?_⟩
   ·simp [Sem.run_bind, g1, g3]
   ·cases i with
    | zero => simp at hy; subst hy; obtain ⟨q1, q2⟩ := argV_rel (n0 := n0) g2; exact ⟨v, rfl, q1, q2⟩
    | succ i => simpa using g4.2 i y (by simpa using hy)
  ·cases h1
def MthC (P : Program) (f : FuncId) (mi : MI) (g : CT mi.sh → Option (OT mi.outs)) : Prop :=
 (∃ fn, P.funcs[f]? = some fn ∧ fn.name ≠ "runtime.NumGoroutine" ∧ fn.body ≠ none) ∧
 ∀ c o, g c = some o → ∀ (n0 : Nat) (Bx : List Nat) (w : World) (B : List Nat) (η : List Value) (cargs : List Value),
  SimK n0 Bx [] (stOf mi.sh mi.nt c) { tmps := cargs.toArray ++ Array.replicate (mi.nt - cargs.toArray.size) undef, defers := [] } w B η →
  Calls P f cargs.toArray w fun e w' => ∃ (vs : List Value) (B' : List Nat) (η' : List Value), e = .returned (if h : vs.toArray.size = 1 then vs.toArray[0] else .tuple vs.toArray) ∧ Goes n0 Bx mi.mb w B η w' B' η' ∧
   SimK n0 Bx [] (encO mi.nr mi.outs o).2 { tmps := vs.toArray, defers := [] } w' B' η'
def okM (P : Program) (inl : FuncId → Bool) (f : FuncId) (nt : Nat) : Bool := match P.funcs[f]? with
 | some fn => (match fn.body with
  | some c => okC2 inl c && fn.name != "runtime.NumGoroutine" && fn.ntmps == nt
  | none => false)
 | none => false
theorem runM_ok (hm : P.follows .mixedOrders = true) {Γ : (R : Type) → Env R} {f : FuncId} {mi : MI} {g : CT mi.sh → Option (OT mi.outs)} {fuel j : Nat} (hΓ : EnvOK P (Γ (OT mi.outs))) (hok : okM P (Γ (OT mi.outs)).inl f mi.nt = true) (h : ∀ c, (runM P Γ fuel [f, j] f mi c).run = g c) : MthC P f mi g := by
 unfold okM at hok
 split at hok
 ·rename_i fn hfn
  split at hok
  ·rename_i b hb
   simp only [Bool.and_eq_true, bne_iff_ne, beq_iff_eq] at hok
   obtain ⟨⟨hokc, hnm⟩, hnt⟩ := hok
   refine ⟨⟨fn, hfn, hnm, by rw [hb]; exact fun h => by cases h⟩, fun c o hc n0 Bx w B η cargs hs => ?_⟩
   rw [← h] at hc
   unfold runM at hc
   rw [hfn] at hc
   simp only [hb] at hc
   obtain ⟨ex, st', h1, h2⟩ := evK_ok hm hΓ fuel [f, j] mi.mb b _ _ _ hokc (fun c' hc' => by simp only [loopsIn, hfn, hb]; exact hc') hc
   refine calls_of_wp hfn hb ?_
   rw [hnt]
   refine h2 n0 Bx [] _ w B η _ hs fun a' w' B' η' hs' hg => ?_
   have key : (endM P mi fn st' fun o => .done o).run = some o → ∃ (vs : List Value) (v : Value) (B2 : List Nat) (η2 : List Value), (results fn a'.tmps).run P w' = .ok v w' ∧ v = (if h : vs.toArray.size = 1 then vs.toArray[0] else .tuple vs.toArray) ∧ Goes n0 Bx mi.mb w B η w' B2 η2 ∧ SimK n0 Bx [] (encO mi.nr mi.outs o).2 { tmps := vs.toArray, defers := [] } w' B2 η2 := by
    intro he
    unfold endM at he
    obtain ⟨m, k1, k2⟩ := resMK_ok _ _ _ he
    rw [forceST_eq] at k1
    obtain ⟨vs, k3, k4⟩ := k2 n0 Bx [] a' w' B' η' hs'
    obtain ⟨o', k5, _, k6⟩ := decO_ok _ _ _ _ _ k1
    simp only [Tree.run, Option.some.injEq] at k5
    subst k5
    have hs2 : SimK n0 Bx [] ⟨m, st'.heap⟩ { tmps := vs.toArray, defers := [] } w' B' η' := ⟨rfl, hs'.inv, slots_of k4⟩
    obtain ⟨η1, q1, q2⟩ := ownNil_ok (P := P) (m0 := mi.mb) (List.range st'.heap.length) _ η' hs2
    obtain ⟨B2, η2, q3, q4⟩ := k6 n0 Bx [] _ w' B' η1 q1
    refine ⟨vs, _, B2, η2, ?_, rfl, (hg.trans q2).trans q4, q3⟩
    rw [results_eq]
    have hmm : (fn.results.mapM (resRun a'.tmps)).run P w' = .ok vs.toArray w' := by
     obtain ⟨rs, hrs⟩ : ∃ rs, fn.results = rs := ⟨_, rfl⟩
     rw [hrs] at k3 ⊢
     obtain ⟨rs⟩ := rs
     rw [List.mapM_toArray, ← bind_pure_comp]
     simp only at k3
     simp [Sem.run_bind, k3]
    rw [Sem.run_bind, hmm]
    rfl
   split at h1
   ·obtain ⟨vs, v, B2, η2, q1, q2, q3, q4⟩ := key h1
    exact ⟨hs'.defers, v, q1, vs, B2, η2, by rw [q2], q3, q4⟩
   ·obtain ⟨vs, v, B2, η2, q1, q2, q3, q4⟩ := key h1
    exact ⟨hs'.defers, v, q1, vs, B2, η2, by rw [q2], q3, q4⟩
   ·cases h1
  ·cases hok
 ·cases hok
theorem ovl_length {α : Type} (keep : List Nat) : ∀ (k : Nat) (H l : List α), H.length ≤ l.length → (ovl keep k H l).length = l.length
 | _, [], l, _ => rfl
 | k, e :: H, a :: l, h => by
  simp only [ovl, List.length_cons] at h ⊢
  rw [ovl_length keep (k + 1) H l (by omega)]
 | _, _ :: _, [], h => by simp at h
theorem ovl_get {α : Type} (keep : List Nat) : ∀ (k : Nat) (H l : List α) (i : Nat), H.length ≤ l.length → (ovl keep k H l)[i]? = if i < H.length ∧ ¬ (keep.contains (k + i) = true) then H[i]? else l[i]?
 | _, [], l, i, _ => by simp [ovl]
 | k, e :: H, a :: l, 0, h => by
  simp only [ovl, List.getElem?_cons_zero, Nat.add_zero, List.length_cons]
  by_cases hk : keep.contains k = true
  ·rw [if_pos hk, if_neg (fun h => h.2 hk)]
  ·rw [if_neg hk, if_pos ⟨by omega, hk⟩]
 | k, e :: H, a :: l, i + 1, h => by
  simp only [ovl, List.getElem?_cons_succ, List.length_cons] at h ⊢
  rw [ovl_get keep (k + 1) H l i (by omega)]
  have e1 : k + 1 + i = k + (i + 1) := by omega
  rw [e1]
  by_cases hc : i < H.length ∧ ¬ (keep.contains (k + (i + 1)) = true)
  ·rw [if_pos hc, if_pos ⟨by omega, hc.2⟩]
  ·rw [if_neg hc, if_neg (fun h => hc ⟨by omega, h.2⟩)]
 | _, _ :: _, [], _, h => by simp at h
theorem EntOK.chBx {n0 : Nat} {Bx Bx' : List Nat} {w : World} {B : List Nat} {η : List Value} {v : Value} {e : Ent} (h : EntOK n0 Bx w B η v e) (hb : e.live = true → ∀ b, blkOf v = some b → b ∉ Bx') : EntOK n0 Bx' w B η v e := by
 cases e with
 | dead => trivial
 | box cells T =>
  obtain ⟨b, us, h1, h2, h3, h4, h5, h6⟩ := h
  exact ⟨b, us, h1, h2, h3, hb rfl b (by rw [h1]; rfl), h5, h6⟩
 | own cells E k =>
  obtain ⟨n, us, h1, h2, h3, h4⟩ := h
  refine ⟨n, us, h1, h2, h3, fun b hb' => ⟨(h4 b hb').1, hb rfl b ?_⟩⟩
  rcases h1.2 with ⟨hv, _⟩ | ⟨gg, oo, cap, cur, hv, _⟩
  ·rw [hv] at hb'; cases hb'
  ·rw [hv] at hb' ⊢; exact hb'
 | itr s pos =>
  obtain ⟨b, h1, h2, h3, h4, h5⟩ := h
  exact ⟨b, h1, h2, h3, hb rfl b (by rw [h1]; rfl), h5⟩
theorem EntOK.keepF {n0 : Nat} {Bx : List Nat} {w w' : World} {B B' : List Nat} {η η' : List Value} {v : Value} {e : Ent} (h : EntOK n0 Bx w B η v e) (g : On B w w') (hB : ∀ b ∈ B', b ∈ B ∨ w.heap.size ≤ b) (he : ∀ (id : Nat) v, η[id]? = some v → η'[id]? = some v)
  (hin : e.live = true → ∀ b, blkOf v = some b → b ∈ B') (hb : e.live = true → ∀ b, blkOf v = some b → w'.heap[b]? = w.heap[b]?) : EntOK n0 Bx w' B' η' v e := by
 cases e with
 | dead => trivial
 | box cells T =>
  obtain ⟨b, us, h1, h2, h3, h4, h5, h6⟩ := h
  refine ⟨b, us, h1, h2, hin rfl b (by rw [h1]; rfl), h4, ?_, h6.on g hB he⟩
  rw [hb rfl b (by rw [h1]; rfl)]; exact h5
 | own cells E k =>
  obtain ⟨n, us, h1, h2, h3, h4⟩ := h
  have hblk : ∀ b, v.ownBlock = some b → blkOf v = some b := fun b hb' => by
   rcases h1.2 with ⟨hv, _⟩ | ⟨gg, oo, cap, cur, hv, _⟩
   ·rw [hv] at hb'; cases hb'
   ·rw [hv] at hb' ⊢; exact hb'
  refine ⟨n, us, ⟨h1.1, ?_⟩, h2.on g hB he, h3, fun b hb' => ⟨hin rfl b (hblk b hb'), (h4 b hb').2⟩⟩
  rcases h1.2 with hn | ⟨gg, oo, cap, cur, hv, hb', hgg, rest⟩
  ·exact .inl hn
  ·refine .inr ⟨gg, oo, cap, cur, hv, hb', ?_, rest⟩
   rw [hb rfl gg (by rw [hv]; rfl)]; exact hgg
 | itr s pos =>
  obtain ⟨b, h1, h2, h3, h4, h5⟩ := h
  exact ⟨b, h1, h2, hin rfl b (by rw [h1]; rfl), h4, by rw [hb rfl b (by rw [h1]; rfl)]; exact h5⟩
theorem Inv.pad {n0 : Nat} {Bx : List Nat} {w : World} {B : List Nat} {η η' : List Value} {H H' : List Ent} (inv : Inv n0 Bx w B η H) (hl : η'.length = H'.length) (hd : ∀ e ∈ H', e = .dead) : Inv n0 Bx w B (η ++ η') (H ++ H') := by
 have old : ∀ i, i < H.length → (η ++ η').getD i undef = η.getD i undef := fun i hi => by
  rw [List.getD_eq_getElem?_getD, List.getElem?_append_left (by rw [inv.len]; exact hi), List.getD_eq_getElem?_getD]
 have part : ∀ (i : Nat) (e : Ent), (H ++ H')[i]? = some e → e.live = true → i < H.length ∧ H[i]? = some e := fun i e hi hl => by
  rcases Nat.lt_or_ge i H.length with h | h
  ·rw [List.getElem?_append_left h] at hi; exact ⟨h, hi⟩
  ·rw [List.getElem?_append_right h] at hi
   rw [hd e (List.mem_of_getElem? hi)] at hl
   cases hl
 refine ⟨by simp [inv.len, hl], inv.base, inv.sub, inv.lt, fun i e he => ?_, fun i j ei ej hij hi hj hli hlj b hb => ?_⟩
 ·cases hlv : e.live with
  | true =>
   obtain ⟨h1, h2⟩ := part i e he hlv
   rw [old i h1]
   exact EntOK.keepF (inv.ent i e h2) (On.refl B w) (fun _ h => .inl h) (fun id v hv => by rw [List.getElem?_append_left (List.getElem?_eq_some_iff.1 hv).1]; exact hv) (fun hl b hb => (EntOK.lt (inv.ent i e h2) hl b hb).2) (fun _ _ _ => rfl)
  | false => cases e <;> first | trivial | cases hlv
 ·obtain ⟨h1, h2⟩ := part i ei hi hli
  obtain ⟨h3, h4⟩ := part j ej hj hlj
  rw [old i h1] at hb
  rw [old j h3]
  exact inv.sep i j ei ej hij h2 h4 hli hlj b hb
theorem back_ok {n0 : Nat} {Bx FB : List Nat} {w w' : World} {B B' : List Nat} {η1 η3 : List Value} {H1 : List E2} {keep kb : List Nat} {st : S2} {vs : Array Value} (inv1 : Inv n0 Bx w B η1 (H1.map exE))
  (hkb : ∀ i ∈ kb, i ∈ keep)
  (f1 : ∀ b ∈ Bx, b ∈ FB) (f2 : ∀ (i : Nat) e, (H1.map exE)[i]? = some e → e.live = true → i ∉ keep → ∀ b, blkOf (η1.getD i undef) = some b → b ∈ FB) (hs : SimK n0 FB [] st { tmps := vs, defers := [] } w' B' η3)
  (hon : On B w w') (hB : ∀ b ∈ B', b ∈ B ∨ w.heap.size ≤ b) (hbel : Bel n0 FB w w') (hη : ∀ (j i : Nat), kb[j]? = some i → ∀ v, η1[i]? = some v → η3[j]? = some v) (hL : (bkL kb H1.length st.heap.length).Nodup) :
  ∃ η4, Inv n0 Bx w' B' η4 ((ovl keep 0 H1 (renum (bkL kb H1.length st.heap.length) ⟨st.slots, st.heap ++ H1.map fun _ => .dead⟩).heap).map exE) ∧ SlotsK n0 w' B' η4 (renum (bkL kb H1.length st.heap.length) ⟨st.slots, st.heap ++ H1.map fun _ => .dead⟩).slots vs ∧ ∀ (id : Nat) v, η1[id]? = some v → η4[id]? = some v := by
 have hlen1 : η1.length = H1.length := by simpa using inv1.len
 have hlen3 : η3.length = st.heap.length := by simpa using hs.inv.len
 obtain ⟨L, hLe⟩ : ∃ L, L = bkL kb H1.length st.heap.length := ⟨_, rfl⟩
 rw [← hLe] at hL ⊢
 have hpad : SimK n0 FB [] ⟨st.slots, st.heap ++ H1.map fun _ => .dead⟩ { tmps := vs, defers := [] } w' B' (η3 ++ η1) := by
  refine ⟨rfl, ?_, hs.slots.on (On.refl B' w') (fun _ h => .inl h) (fun id v hv => by rw [List.getElem?_append_left (List.getElem?_eq_some_iff.1 hv).1]; exact hv)⟩
  rw [List.map_append]
  refine hs.inv.pad (by simp [hlen1]) (fun e he => ?_)
  simp only [List.map_map, List.mem_map, Function.comp_apply] at he
  obtain ⟨_, _, rfl⟩ := he
  rfl
 have hr := renum_ok hpad hL
 obtain ⟨Ha, hHa⟩ : ∃ Ha, Ha = (renum L ⟨st.slots, st.heap ++ H1.map fun _ => .dead⟩).heap := ⟨_, rfl⟩
 obtain ⟨ηa, hηa⟩ : ∃ ηa, ηa = L.map (fun i => (η3 ++ η1).getD i undef) := ⟨_, rfl⟩
 rw [← hηa] at hr
 have hinv := hr.inv
 rw [← hHa] at hinv ⊢
 have hLl : H1.length ≤ L.length := by rw [hLe]; simp [bkL]
 have hHl : Ha.length = L.length := by rw [hHa]; simp [renum]
 have he : ∀ (id : Nat) v, η1[id]? = some v → ηa[id]? = some v := fun id v hv => by
  have hid : id < H1.length := by rw [← hlen1]; exact (List.getElem?_eq_some_iff.1 hv).1
  have hLi : L[id]? = some (match posOf kb id with | some j => j | none => st.heap.length + id) := by
   rw [hLe, bkL, List.getElem?_append_left (by simpa using hid), List.getElem?_map, List.getElem?_range hid]
   rfl
  rw [hηa, List.getElem?_map, hLi, Option.map_some]
  congr 1
  cases hp : posOf kb id with
  | some j =>
   have h3 := hη j id (posOf_spec _ _ _ hp) v hv
   simp only
   rw [List.getD_eq_getElem?_getD, List.getElem?_append_left (List.getElem?_eq_some_iff.1 h3).1, h3]
   rfl
  | none =>
   simp only
   rw [List.getD_eq_getElem?_getD, List.getElem?_append_right (by omega), hlen3, Nat.add_sub_cancel_left, hv]
   rfl
 have hget : ∀ i : Nat, i < H1.length → ηa.getD i undef = η1.getD i undef := fun i hi => by
  have := he i _ (List.getElem?_eq_getElem (by omega))
  rw [List.getD_eq_getElem?_getD, this, List.getD_eq_getElem?_getD, List.getElem?_eq_getElem (by omega)]
 -- each entry: one that stayed, or one that came back
 have part : ∀ (i : Nat) (e : Ent), ((ovl keep 0 H1 Ha).map exE)[i]? = some e → (i < H1.length ∧ i ∉ keep ∧ (H1.map exE)[i]? = some e) ∨ (Ha.map exE)[i]? = some e := fun i e hi => by
  rw [List.getElem?_map, ovl_get keep 0 H1 Ha i (by omega)] at hi
  split at hi
  ·rename_i hc
   refine .inl ⟨hc.1, fun hk => hc.2 ?_, by rw [List.getElem?_map]; exact hi⟩
   rw [Nat.zero_add, List.contains_eq_mem]
   exact decide_eq_true hk
  ·exact .inr (by rw [List.getElem?_map]; exact hi)
 have frame : ∀ (i : Nat) (e : Ent), i < H1.length → i ∉ keep → (H1.map exE)[i]? = some e → EntOK n0 Bx w' B' ηa (ηa.getD i undef) e := fun i e hi hk h => by
  rw [hget i hi]
  refine EntOK.keepF (inv1.ent i e h) hon hB he (fun hl b hb => hinv.sub b (f2 i e h hl hk b hb)) (fun hl b hb => hbel.bx b (f2 i e h hl hk b hb) (EntOK.lt (inv1.ent i e h) hl b hb).1)
 refine ⟨ηa, ⟨by rw [List.length_map, ovl_length keep 0 H1 Ha (by omega), hηa, List.length_map, hHl], hinv.base, fun b hb => hinv.sub b (f1 b hb), hinv.lt, fun i e hi => ?_, fun i j ei ej hij hi hj hli hlj b hb => ?_⟩, hr.slots, he⟩
 ·rcases part i e hi with ⟨h1, h2, h3⟩ | h
  ·exact frame i e h1 h2 h3
  ·exact EntOK.chBx (hinv.ent i e h) (fun hl b hb hc => EntOK.noBx (hinv.ent i e h) hl b hb (f1 b hc))
 ·rcases part i ei hi with ⟨h1, h2, h3⟩ | h
  ·rw [hget i h1] at hb
   rcases part j ej hj with ⟨k1, k2, k3⟩ | k
   ·rw [hget j k1]
    exact inv1.sep i j ei ej hij h3 k3 hli hlj b hb
   ·intro hc
    exact EntOK.noBx (hinv.ent j ej k) hlj b hc (f2 i ei h3 hli h2 b hb)
  ·rcases part j ej hj with ⟨k1, k2, k3⟩ | k
   ·intro hc
    rw [hget j k1] at hc
    exact EntOK.noBx (hinv.ent i ei h) hli b hb (f2 j ej k3 hlj k2 b hc)
   ·exact hinv.sep i j ei ej hij h k hli hlj b hb
theorem retK_ok {R : Type} {l : List V} {k : V → Tree R} {res : R} (h : (retK l k).run = some res) : ∃ r, (k r).run = some res ∧ ∀ (n0 : Nat) (w : World) (B : List Nat) (η : List Value) (vs : List Value), RelVs n0 w B η l vs → Rel2 w B η r (if h : vs.toArray.size = 1 then vs.toArray[0] else .tuple vs.toArray) ∧ FreshV n0 (ex r) (if h : vs.toArray.size = 1 then vs.toArray[0] else .tuple vs.toArray) := by
 unfold retK at h
 split at h
 ·refine ⟨_, h, fun n0 w B η vs hr => ?_⟩
  have : vs = [] := List.eq_nil_of_length_eq_zero hr.1
  subst this
  exact ⟨Rel.c _ _, fun h => by cases h⟩
 ·rename_i x
  refine ⟨_, h, fun n0 w B η vs hr => ?_⟩
  obtain ⟨v, h1, h2, h3⟩ := hr.2 0 x rfl
  match vs, hr.1, h1 with
  | [u], _, h1 =>
   simp at h1
   subst h1
   exact ⟨h2, h3⟩
 ·rename_i hn0 hn1
  split at h
  ·rename_i hall
   refine ⟨_, h, fun n0 w B η vs hr => ?_⟩
   have hne : ¬ vs.toArray.size = 1 := fun hc => by
    have hc : vs.length = 1 := by simpa using hc
    rw [hr.1] at hc
    match l, hc with
    | [x], _ => exact hn1 x rfl
   rw [dif_neg hne]
   refine ⟨?_, fun h => by cases h⟩
   show Rel w B η (.tup (l.map ex0)) _
   have key : ∀ (i : Nat) x, l[i]? = some x → ∃ u, vs[i]? = some u ∧ Rel w B η (ex0 x) u := fun i x hx => by
    obtain ⟨u, q1, q2, _⟩ := hr.2 i x hx
    have ht := List.all_eq_true.1 hall x (List.mem_of_getElem? hx)
    refine ⟨u, q1, ?_⟩
    cases x <;> first | exact q2 | cases ht
   refine .tup _ _ _ (fun i => vs.getD i undef) (by simp [hr.1]) (fun i y hy => ?_) (fun i y hy => ?_)
   ·rw [List.getElem?_map, Option.map_eq_some_iff] at hy
    obtain ⟨x, hx, rfl⟩ := hy
    obtain ⟨u, q1, q2⟩ := key i x hx
    simp [List.getD_eq_getElem?_getD, q1]
   ·rw [List.getElem?_map, Option.map_eq_some_iff] at hy
    obtain ⟨x, hx, rfl⟩ := hy
    obtain ⟨u, q1, q2⟩ := key i x hx
    simpa [List.getD_eq_getElem?_getD, q1] using q2
  ·cases h
theorem backK_eq {R : Type} (keep : List Nat) (mb : Nat) (H1 : List E2) (st : S2) (k : V → List E2 → Tree R) : backK keep mb H1 st k = backK0 keep mb H1 st k := by
 unfold backK backK0
 simp only [forceST_eq, forceNL_eq]
theorem mthK_eq {R : Type} (P : Program) (mi : MI) (g : CT mi.sh → Option (OT mi.outs)) (old : List V → List E2 → (V → List E2 → Tree R) → Tree R) (args0 : List V) (H : List E2) (k : V → List E2 → Tree R) : mthK P mi g old args0 H k = mthK0 P mi g old args0 H k := by
 unfold mthK mthK0
 simp only [forceST_eq, forceNL_eq, forceVL_eq, backK_eq]
theorem mthK_ok {R : Type} {f : FuncId} {mi : MI} {g : CT mi.sh → Option (OT mi.outs)} {old : List V → List E2 → (V → List E2 → Tree R) → Tree R} (hc : MthC P f mi g) (hold : MthOK P f old) : MthOK (R := R) P f (mthK P mi g old) := by
 intro args0 H k res h
 rw [mthK_eq] at h
 unfold mthK0 at h
 obtain ⟨args, hargs⟩ : ∃ args, args = args0.map argV := ⟨_, rfl⟩
 rw [← hargs] at h
 simp only at h
 obtain ⟨st1, hst1⟩ : ∃ st1, st1 = ownNil P (keepA args H) ⟨args, H⟩ := ⟨_, rfl⟩
 rw [← hst1] at h
 obtain ⟨sl1, H1⟩ := st1
 simp only at h
 obtain ⟨keep, hkeep⟩ : ∃ keep, keep = keepA args H1 := ⟨_, rfl⟩
 rw [← hkeep] at h
 split at h
 ·rename_i hcond
  obtain ⟨hnd, hall, hmb, hal⟩ := hcond
  obtain ⟨st2, hst2⟩ : ∃ st2, st2 = renum keep ⟨sl1, H1⟩ := ⟨_, rfl⟩
  rw [← hst2] at h
  obtain ⟨sl2, H2⟩ := st2
  simp only at h
  split at h
  case isFalse => exact hold _ _ _ _ h
  obtain ⟨c1, h1, hd1⟩ := decS_ok _ _ _ _ h
  obtain ⟨c2, h2, hd2, hd3⟩ := decH_ok _ _ _ _ h1
  obtain ⟨o, ho, h3⟩ := Tree.run_bind h2
  rw [casesO_run] at h3
  obtain ⟨stE, hstE⟩ : ∃ stE, stE = (encO mi.nr mi.outs o).2 := ⟨_, rfl⟩
  rw [← hstE] at h3
  unfold backK0 at h3
  split at h3
  ·rename_i hnd2
   obtain ⟨rs, hrs⟩ : ∃ x, x = renum (bkL (keep.take mi.mb) H1.length stE.heap.length) ⟨stE.slots, stE.heap ++ H1.map fun _ => .dead⟩ := ⟨_, rfl⟩
   rw [← hrs] at h3
   obtain ⟨rsl, Ha⟩ := rs
   simp only at h3
   obtain ⟨r, h4, h5⟩ := retK_ok h3
   refine ⟨r, _, h4, hc.1, fun n0 Bx w B η cargs inv hrel => ?_⟩
   have hs0 : SimK n0 Bx [] ⟨args, H⟩ { tmps := cargs.toArray, defers := [] } w B η := ⟨rfl, inv, by rw [hargs]; exact slots_of (args_rel hrel)⟩
   obtain ⟨η1, g1, g2⟩ := ownNil_ok (P := P) (m0 := H.length) (keepA args H) _ η hs0
   rw [← hst1] at g1
   have inv1 := g1.inv
   simp only at inv1
   -- the part that is handed over
   have hr := renum_ok g1 (nodupB_ok hnd)
   rw [← hst2] at hr
   obtain ⟨η2, hη2⟩ : ∃ η2, η2 = keep.map fun i => η1.getD i undef := ⟨_, rfl⟩
   rw [← hη2] at hr
   have hlt : ∀ i ∈ keep, i < H1.length := fun i hi => by simpa using List.all_eq_true.1 hall i hi
   have hlen1 : η1.length = H1.length := by simpa using inv1.len
   obtain ⟨FB, hFB⟩ : ∃ FB : List Nat, ∀ b, b ∈ FB ↔ b ∈ B ∧ ∀ (i : Nat) e, i ∈ keep → (H1.map exE)[i]? = some e → e.live = true → blkOf (η1.getD i undef) ≠ some b :=
    ⟨B.filter fun b => @decide _ (Classical.propDecidable (∀ (i : Nat) e, i ∈ keep → (H1.map exE)[i]? = some e → e.live = true → blkOf (η1.getD i undef) ≠ some b)), fun b => by rw [List.mem_filter]; simp⟩
   have f1 : ∀ b ∈ Bx, b ∈ FB := fun b hb => (hFB b).2 ⟨inv1.sub b hb, fun i e _ he hl hc => EntOK.noBx (inv1.ent i e he) hl b hc hb⟩
   have f2 : ∀ (i : Nat) e, (H1.map exE)[i]? = some e → e.live = true → i ∉ keep → ∀ b, blkOf (η1.getD i undef) = some b → b ∈ FB := fun i e he hl hk b hb => (hFB b).2 ⟨(EntOK.lt (inv1.ent i e he) hl b hb).2, fun j ej hj hej hlj hc => inv1.sep i j e ej (fun hij => hk (by rw [hij]; exact hj)) he hej hl hlj b hb hc⟩
   have inv2 : Inv n0 FB w B η2 (H2.map exE) := by
    refine ⟨hr.inv.len, hr.inv.base, fun b hb => ((hFB b).1 hb).1, hr.inv.lt, fun j e he => EntOK.chBx (hr.inv.ent j e he) (fun hl b hb hc => ?_), hr.inv.sep⟩
    have hH2 : H2 = keep.map fun i => rnE keep (H1.getD i .dead) := by
     have := congrArg S2.heap hst2
     exact this
    rw [hH2] at he
    simp only [List.map_map, List.getElem?_map, Option.map_eq_some_iff, Function.comp_apply] at he
    obtain ⟨i, hi, rfl⟩ := he
    have hik := List.mem_of_getElem? hi
    have hil := hlt i hik
    have hgd : H1.getD i .dead = H1[i] := by rw [List.getD_eq_getElem?_getD, List.getElem?_eq_getElem hil]; rfl
    rw [hgd] at hl
    have hl' : (exE H1[i]).live = true := by
     generalize H1[i] = e0 at hl
     cases e0 with
     | box l t => rfl
     | _ => first | exact hl | cases hl
    have hη : η2.getD j undef = η1.getD i undef := by
     rw [hη2, List.getD_eq_getElem?_getD, List.getElem?_map, hi]; rfl
    rw [hη] at hb
    exact ((hFB b).1 hc).2 i _ hik (exH (List.getElem?_eq_getElem hil)) hl' hb
   have hrel2 := slots_rel hr.slots
   have hsl := slots0_ok (fn := { (default : Func) with ntmps := mi.nt }) hrel2
   have hsim : SimK n0 FB [] (stOf mi.sh mi.nt (c1, c2)) { tmps := cargs.toArray ++ Array.replicate (mi.nt - cargs.toArray.size) undef, defers := [] } w B η2 := by
    refine ⟨rfl, ?_, ?_⟩
    ·refine inv2.le (by simp [stOf, hd2]) (fun i e' he => ?_)
     simp only [stOf, List.getElem?_map, Option.map_eq_some_iff] at he
     obtain ⟨e0, he0, rfl⟩ := he
     obtain ⟨e1, he1, hle⟩ := hd3 i e0 he0
     exact ⟨_, exH he1, hle⟩
    ·exact hd1 n0 w B η2 _ _ hsl (any_slots (by
      have : cargs.length = args.length := by rw [hrel.1, hargs, List.length_map]
      simp; omega))
   refine (hc.2 (c1, c2) o ho n0 FB w B η2 cargs hsim).mono fun e w' ⟨vs, B', η3, e1, hg, hs3⟩ => ?_
   rw [← hstE] at hs3
   have hkη : ∀ (j i : Nat), (keep.take mi.mb)[j]? = some i → ∀ v, η1[i]? = some v → η3[j]? = some v := fun j i hji v hv => by
    have hj : j < mi.mb ∧ keep[j]? = some i := by
     rw [List.getElem?_take] at hji
     split at hji
     ·rename_i hj; exact ⟨hj, hji⟩
     ·cases hji
    refine hg.hη j v hj.1 ?_
    rw [hη2, List.getElem?_map, hj.2, Option.map_some, List.getD_eq_getElem?_getD, hv]
    rfl
   obtain ⟨η4, b1, b2, b3⟩ := back_ok (keep := keep) (kb := keep.take mi.mb) inv1 (fun i hi => List.mem_of_mem_take hi) f1 f2 hs3 hg.on hg.hB hg.below hkη (nodupB_ok hnd2)
   rw [← hrs] at b1 b2
   obtain ⟨q1, q2⟩ := h5 n0 w' B' η4 vs (slots_rel b2)
   exact ⟨_, B', η4, e1, ⟨hg.on, hg.hB, fun id v hid hv => b3 id v (g2.hη id v hid hv), ⟨hg.below.below, fun b hb hl => hg.below.bx b (f1 b hb) hl⟩⟩, b1, q1, q2⟩
  ·cases h3
 ·exact hold _ _ _ _ h
end
section
variable {P : Program} {Γ : (R : Type) → Env R}
def noMth (f : FuncId) (args : List V) (H : List E2) : Option Unit := none
def oldM {R : Type} (Γ : Env R) (f : FuncId) : List V → List E2 → (V → List E2 → Tree R) → Tree R := match Γ.mth f with
 | some c => c
 | none => fun _ _ _ => .fail
theorem oldM_ok {R : Type} {Γ : Env R} (h : EnvOK P Γ) (f : FuncId) : MthOK P f (oldM Γ f) := by
 unfold oldM
 split
 ·rename_i c hc; exact h.mth f c hc
 ·exact fun _ _ _ _ h => by cases h
def Env.addMths (Γ : (R : Type) → Env R) (l : List FuncId) : (R : Type) → Env R := fun R => { Γ R with mth := fun f => if l.contains f = true then some (fun args H _ => .bind (noMth f args H) fun _ => .fail) else (Γ R).mth f }
theorem EnvOK.addMths {R : Type} (hΓ : EnvOK P (Γ R)) (l : List FuncId) : EnvOK P (Env.addMths Γ l R) := ⟨hΓ.fns, hΓ.inl, hΓ.lp, hΓ.cln, fun f c hc => by
 simp only [Env.addMths] at hc
 split at hc
 ·injection hc with hc
  subst hc
  exact fun args H k res h => nomatch h
 ·exact hΓ.mth f c hc⟩
def Env.addMth (Γ : (R : Type) → Env R) (f : FuncId) (c : (R : Type) → (List V → List E2 → (V → List E2 → Tree R) → Tree R) → List V → List E2 → (V → List E2 → Tree R) → Tree R) : (R : Type) → Env R := fun R => { Γ R with mth := fun g => if g = f then some (c R (oldM (Γ R) f)) else (Γ R).mth g }
theorem EnvOK.addMth {R : Type} (hΓ : EnvOK P (Γ R)) {f : FuncId} {mi : MI} {g : CT mi.sh → Option (OT mi.outs)} (hc : MthC P f mi g) : EnvOK P (Env.addMth Γ f (fun R old => mthK P mi g old) R) := ⟨hΓ.fns, hΓ.inl, hΓ.lp, hΓ.cln, fun f' c h => by
 simp only [Env.addMth] at h
 split at h
 ·rename_i hf
  subst hf
  injection h with h
  subst h
  exact mthK_ok hc (oldM_ok hΓ _)
 ·exact hΓ.mth f' c h⟩
end
end Go.Proofs.Ytcinflglacikjaa
namespace Go.Proofs.Ytcinflglacikjaa
open Go.RowKit
set_option linter.unusedVariables false
set_option maxRecDepth 100000
section
variable (N : Nat)
theorem hmx : Try.prog.follows .mixedOrders = true := by kernel_rfl
noncomputable def Ev0 (N : Nat) : (R : Type) → Env R := Env.addInl env0 [11, 5, 22, 23, 28, 25, 21, 7, 24, 27, 9, 12, 18, 19, 17, 16, 20, 14, 30]
theorem Ev0_ok (R : Type) : EnvOK Try.prog (Ev0 N R) := EnvOK.addInl (env0_ok R) (by kernel_rfl)
noncomputable def Ev1 : (R : Type) → Env R := Env.addMths (Ev0 N) [11, 5, 21, 7, 9, 12, 18, 19, 17, 16, 20, 14]
theorem Ev1_ok (R : Type) : EnvOK Try.prog (Ev1 N R) := EnvOK.addMths (Ev0_ok N R) [11, 5, 21, 7, 9, 12, 18, 19, 17, 16, 20, 14]
noncomputable def Ev2 : (R : Type) → Env R := Env.addBx (Ev1 N) [(5, 0)]
theorem Ev2_ok (R : Type) : EnvOK Try.prog (Ev2 N R) := EnvOK.addBx (Ev1_ok N R) [(5, 0)]
noncomputable def Ev3 : (R : Type) → Env R := Env.addMv (Ev2 N) [(28, 3), (28, 2)]
theorem Ev3_ok (R : Type) : EnvOK Try.prog (Ev3 N R) := EnvOK.addMv (Ev2_ok N R) [(28, 3), (28, 2)]
noncomputable def Ev4 : (R : Type) → Env R := Env.addMv (Ev3 N) [(18, 3)]
theorem Ev4_ok (R : Type) : EnvOK Try.prog (Ev4 N R) := EnvOK.addMv (Ev3_ok N R) [(18, 3)]
noncomputable def Ev5 : (R : Type) → Env R := Env.addMv (Ev4 N) [(30, 3)]
theorem Ev5_ok (R : Type) : EnvOK Try.prog (Ev5 N R) := EnvOK.addMv (Ev4_ok N R) [(30, 3)]
noncomputable def slices_Clone_byte_byte_o (N : Nat) (l : List (Int)) : Option (List Int) :=
 bif (@List.isEmpty Int l) then
  none
 else
  bif (roomB ((List.length ([] : List Int)) + (List.length l)) 1) then
   some ((([] : List Int) ++ l))
  else
   none
theorem slices_Clone_byte_byte_o_S (l : List (Int)) : (runOwn Try.prog (Ev5 N) 400 30 [.lst (.int .u8) l] 5).run = slices_Clone_byte_byte_o N l := by kernel_rfl
theorem slices_Clone_byte_byte_o_n1 (c : Nat) : (runOwn Try.prog (Ev5 N) 400 30 [.c (.slice none 0 c)] 5).run = some [] := by kernel_rfl
theorem slices_Clone_byte_byte_o_n2 (A : Addr) (c : Nat) : (runOwn Try.prog (Ev5 N) 400 30 [.c (.slice (some A) 0 c)] 5).run = some [] := by kernel_rfl
theorem slices_Clone_byte_byte_o_F (l : List (Int)) (h1 : l.isEmpty = false) (h2 : roomB l.length 1 = true) : slices_Clone_byte_byte_o N l = some l := by simp [slices_Clone_byte_byte_o, h1, h2]
noncomputable def Ev6 : (R : Type) → Env R := Env.addCln (Ev5 N) 30 5
theorem Ev6_ok (R : Type) : EnvOK Try.prog (Ev6 N R) := EnvOK.addCln (Ev5_ok N R) (cloneOK_of hmx (Ev5_ok N _) (by kernel_rfl) (slices_Clone_byte_byte_o_S N) (slices_Clone_byte_byte_o_F N) (slices_Clone_byte_byte_o_n1 N) (slices_Clone_byte_byte_o_n2 N))
noncomputable def chans_New_M1_I : MI := ⟨6, 1, 0, ⟨[(0, .ty (.arr 32 (.int .u8)))], []⟩, [(.exit 2, ⟨[(0, .lit (.box 0 0))], [.boxp 63 [.ty .bool, .ty (.arr 32 (.int .u8)), .own 1, .ty (.int .i64), .ty (.int .i64), .ty (.int .i64), .own 2, .ty (.int .i64), .ty (.int .i64), .ty (.int .i64), .ty .bool], .own (.int .u8) 5, .own (.int .u8) 5]⟩)]⟩
noncomputable def chans_New_M1 (N : Nat) (hash0 : Arr Int 32) : Option ((Unit × (Bool × ((Arr Int 32) × (Int × (Int × (Int × (Int × (Int × (Int × (Bool × ((List Int) × ((List Int) × Unit))))))))))))) :=
 some (((), (true, (hash0, ((0 : Int), ((0 : Int), ((0 : Int), ((0 : Int), ((0 : Int), ((0 : Int), (false, (([] : List Int), (([] : List Int), ())))))))))))))
theorem chans_New_M1_S (hash0 : Arr Int 32) : (runM Try.prog (Ev6 N) 400 [5, 1] 5 chans_New_M1_I ((hash0, ()), ())).run = chans_New_M1 N hash0 := by kernel_rfl
noncomputable def Ev7 : (R : Type) → Env R := Env.addMth (Ev6 N) 5 (fun R old => mthK Try.prog chans_New_M1_I (fun c => chans_New_M1 N c.1.1) old)
theorem Ev7_ok (R : Type) : EnvOK Try.prog (Ev7 N R) := EnvOK.addMth (Ev6_ok N R) (runM_ok (mi := chans_New_M1_I) (g := fun c => chans_New_M1 N c.1.1) hmx (Ev6_ok N _) (by kernel_rfl) (fun (c : CT chans_New_M1_I.sh) => chans_New_M1_S N c.1.1))
noncomputable def chans_Chan_Put_M1_I : MI := ⟨31, 1, 1, ⟨[(0, .lit (.box 0 0)), (1, .ty (.int .i64)), (2, .ty (.sl (.int .u8)))], [.boxp 63 [.ty .bool, .ty (.arr 32 (.int .u8)), .own 1, .ty (.int .i64), .ty (.int .i64), .ty (.int .i64), .own 2, .ty (.int .i64), .ty (.int .i64), .ty (.int .i64), .ty .bool], .own (.int .u8) 5, .own (.int .u8) 5]⟩, [(.exit 0, ⟨[(0, .ty (.int .i64))], [.boxp 63 [.ty .bool, .ty (.arr 32 (.int .u8)), .own 1, .ty (.int .i64), .ty (.int .i64), .ty (.int .i64), .own 2, .ty (.int .i64), .ty (.int .i64), .ty (.int .i64), .ty .bool], .own (.int .u8) 5, .own (.int .u8) 5]⟩)]⟩
noncomputable def chans_Chan_Put_M1 (N : Nat) (way1 : Int) (b2 : List (Int)) (h0 : Bool) (h1 : Arr Int 32) (h2 : Int) (h3 : Int) (h4 : Int) (h5 : Int) (h6 : Int) (h7 : Int) (h8 : Bool) (h9 : List (Int)) (h10 : List (Int)) : Option (((Int × Unit) × (Bool × ((Arr Int 32) × (Int × (Int × (Int × (Int × (Int × (Int × (Bool × ((List Int) × ((List Int) × Unit))))))))))))) :=
 Option.bind (some ((cond true h0 false))) fun (v14 : Bool) =>
 bif (!v14) then
  some ((((2 : Int), ()), (h0, (h1, (h2, (h3, (h4, (h5, (h6, (h7, (h8, (h9, (h10, ())))))))))))))
 else
  Option.bind (bif (decide (way1 = (0 : Int))) then
    some (true)
   else
    some ((cond false true (decide (way1 = (1 : Int)))))) fun (v15 : Bool) =>
  bif (!v15) then
   some ((((1 : Int), ()), (h0, (h1, (h2, (h3, (h4, (h5, (h6, (h7, (h8, (h9, (h10, ())))))))))))))
  else
   bif h8 then
    some ((((11 : Int), ()), (h0, (h1, (h2, (h3, (h4, (h5, (h6, (h7, (h8, (h9, (h10, ())))))))))))))
   else
    bif (decide (way1 = ((0 : Nat) : Int))) then
     bif (decide ((IntKind.wrap .i64 ((65536 : Int) - (((List.length h9) : Nat) : Int))) < (((List.length b2) : Nat) : Int))) then
      some ((((12 : Int), ()), (h0, (h1, (h2, (h3, (h4, (h5, (h6, (h7, (h8, (h9, (h10, ())))))))))))))
     else
      bif (decide (way1 = ((0 : Nat) : Int))) then
       bif (roomB ((List.length h9) + (List.length b2)) 1) then
        some ((((0 : Int), ()), (h0, (h1, ((IntKind.wrap .i64 (h2 + (((List.length b2) : Nat) : Int))), (h3, (h4, (h5, (h6, (h7, (h8, ((h9 ++ b2), (h10, ())))))))))))))
       else
        none
      else
       bif (decide (way1 = ((((0 : Nat) + (1 : Nat)) : Nat) : Int))) then
        bif (roomB ((List.length h10) + (List.length b2)) 1) then
         some ((((0 : Int), ()), (h0, (h1, (h2, (h3, (h4, ((IntKind.wrap .i64 (h5 + (((List.length b2) : Nat) : Int))), (h6, (h7, (h8, (h9, ((h10 ++ b2), ())))))))))))))
        else
         none
       else
        none
    else
     bif (decide (way1 = ((((0 : Nat) + (1 : Nat)) : Nat) : Int))) then
      bif (decide ((IntKind.wrap .i64 ((65536 : Int) - (((List.length h10) : Nat) : Int))) < (((List.length b2) : Nat) : Int))) then
       some ((((12 : Int), ()), (h0, (h1, (h2, (h3, (h4, (h5, (h6, (h7, (h8, (h9, (h10, ())))))))))))))
      else
       bif (decide (way1 = ((0 : Nat) : Int))) then
        bif (roomB ((List.length h9) + (List.length b2)) 1) then
         some ((((0 : Int), ()), (h0, (h1, ((IntKind.wrap .i64 (h2 + (((List.length b2) : Nat) : Int))), (h3, (h4, (h5, (h6, (h7, (h8, ((h9 ++ b2), (h10, ())))))))))))))
        else
         none
       else
        bif (decide (way1 = ((((0 : Nat) + (1 : Nat)) : Nat) : Int))) then
         bif (roomB ((List.length h10) + (List.length b2)) 1) then
          some ((((0 : Int), ()), (h0, (h1, (h2, (h3, (h4, ((IntKind.wrap .i64 (h5 + (((List.length b2) : Nat) : Int))), (h6, (h7, (h8, (h9, ((h10 ++ b2), ())))))))))))))
         else
          none
        else
         none
     else
      none
theorem chans_Chan_Put_M1_S (way1 : Int) (b2 : List (Int)) (h0 : Bool) (h1 : Arr Int 32) (h2 : Int) (h3 : Int) (h4 : Int) (h5 : Int) (h6 : Int) (h7 : Int) (h8 : Bool) (h9 : List (Int)) (h10 : List (Int)) : (runM Try.prog (Ev7 N) 400 [7, 1] 7 chans_Chan_Put_M1_I ((way1, b2, ()), (h0, h1, h2, h3, h4, h5, h6, h7, h8, h9, h10, ()))).run = chans_Chan_Put_M1 N way1 b2 h0 h1 h2 h3 h4 h5 h6 h7 h8 h9 h10 := by kernel_rfl
noncomputable def Ev8 : (R : Type) → Env R := Env.addMth (Ev7 N) 7 (fun R old => mthK Try.prog chans_Chan_Put_M1_I (fun c => chans_Chan_Put_M1 N c.1.1 c.1.2.1 c.2.1 c.2.2.1 c.2.2.2.1 c.2.2.2.2.1 c.2.2.2.2.2.1 c.2.2.2.2.2.2.1 c.2.2.2.2.2.2.2.1 c.2.2.2.2.2.2.2.2.1 c.2.2.2.2.2.2.2.2.2.1 c.2.2.2.2.2.2.2.2.2.2.1 c.2.2.2.2.2.2.2.2.2.2.2.1) old)
theorem Ev8_ok (R : Type) : EnvOK Try.prog (Ev8 N R) := EnvOK.addMth (Ev7_ok N R) (runM_ok (mi := chans_Chan_Put_M1_I) (g := fun c => chans_Chan_Put_M1 N c.1.1 c.1.2.1 c.2.1 c.2.2.1 c.2.2.2.1 c.2.2.2.2.1 c.2.2.2.2.2.1 c.2.2.2.2.2.2.1 c.2.2.2.2.2.2.2.1 c.2.2.2.2.2.2.2.2.1 c.2.2.2.2.2.2.2.2.2.1 c.2.2.2.2.2.2.2.2.2.2.1 c.2.2.2.2.2.2.2.2.2.2.2.1) hmx (Ev7_ok N _) (by kernel_rfl) (fun (c : CT chans_Chan_Put_M1_I.sh) => chans_Chan_Put_M1_S N c.1.1 c.1.2.1 c.2.1 c.2.2.1 c.2.2.2.1 c.2.2.2.2.1 c.2.2.2.2.2.1 c.2.2.2.2.2.2.1 c.2.2.2.2.2.2.2.1 c.2.2.2.2.2.2.2.2.1 c.2.2.2.2.2.2.2.2.2.1 c.2.2.2.2.2.2.2.2.2.2.1 c.2.2.2.2.2.2.2.2.2.2.2.1))
noncomputable def chans_Chan_Take_M1_I : MI := ⟨39, 2, 1, ⟨[(0, .lit (.box 0 0)), (1, .ty (.int .i64)), (2, .ty (.int .i64))], [.boxp 63 [.ty .bool, .ty (.arr 32 (.int .u8)), .own 1, .ty (.int .i64), .ty (.int .i64), .ty (.int .i64), .own 2, .ty (.int .i64), .ty (.int .i64), .ty (.int .i64), .ty .bool], .own (.int .u8) 5, .own (.int .u8) 5]⟩, [(.exit 0, ⟨[(0, .ty (.sl (.int .u8))), (1, .ty (.int .i64))], [.boxp 63 [.ty .bool, .ty (.arr 32 (.int .u8)), .own 1, .ty (.int .i64), .ty (.int .i64), .ty (.int .i64), .own 2, .ty (.int .i64), .ty (.int .i64), .ty (.int .i64), .ty .bool], .own (.int .u8) 5, .own (.int .u8) 5]⟩)]⟩
noncomputable def chans_Chan_Take_M1 (N : Nat) (way1 : Int) (n2 : Int) (h0 : Bool) (h1 : Arr Int 32) (h2 : Int) (h3 : Int) (h4 : Int) (h5 : Int) (h6 : Int) (h7 : Int) (h8 : Bool) (h9 : List (Int)) (h10 : List (Int)) : Option ((((List Int) × (Int × Unit)) × (Bool × ((Arr Int 32) × (Int × (Int × (Int × (Int × (Int × (Int × (Bool × ((List Int) × ((List Int) × Unit))))))))))))) :=
 Option.bind (some ((cond true h0 false))) fun (v14 : Bool) =>
 bif (!v14) then
  some (((([] : List Int), ((2 : Int), ())), (h0, (h1, (h2, (h3, (h4, (h5, (h6, (h7, (h8, (h9, (h10, ())))))))))))))
 else
  Option.bind (bif (decide (way1 = (0 : Int))) then
    some (true)
   else
    some ((cond false true (decide (way1 = (1 : Int)))))) fun (v15 : Bool) =>
  Option.bind (bif (!v15) then
    some (true)
   else
    some ((cond false true (decide (n2 < (0 : Int)))))) fun (v16 : Bool) =>
  bif v16 then
   some (((([] : List Int), ((1 : Int), ())), (h0, (h1, (h2, (h3, (h4, (h5, (h6, (h7, (h8, (h9, (h10, ())))))))))))))
  else
   bif (decide (way1 = ((0 : Nat) : Int))) then
    Option.bind (takeI h9 (@minI n2 (((List.length h9) : Nat) : Int))) fun (v17 : (List Int)) =>
    bif (roomB (List.length v17) 1) then
     Option.bind (dropI h9 (@minI n2 (((List.length h9) : Nat) : Int))) fun (v18 : (List Int)) =>
     bif (decide (way1 = ((0 : Nat) : Int))) then
      bif (decide (way1 = ((0 : Nat) : Int))) then
       some (((v17, ((0 : Int), ())), (h0, (h1, (h2, ((IntKind.wrap .i64 (h3 + (((List.length v17) : Nat) : Int))), (h4, (h5, (h6, (h7, (h8, (v18, (h10, ())))))))))))))
      else
       bif (decide (way1 = ((((0 : Nat) + (1 : Nat)) : Nat) : Int))) then
        some (((v17, ((0 : Int), ())), (h0, (h1, (h2, (h3, (h4, (h5, ((IntKind.wrap .i64 (h3 + (((List.length v17) : Nat) : Int))), (h7, (h8, (v18, (h10, ())))))))))))))
       else
        none
     else
      bif (decide (way1 = ((((0 : Nat) + (1 : Nat)) : Nat) : Int))) then
       bif (decide (way1 = ((0 : Nat) : Int))) then
        some (((v17, ((0 : Int), ())), (h0, (h1, (h2, ((IntKind.wrap .i64 (h6 + (((List.length v17) : Nat) : Int))), (h4, (h5, (h6, (h7, (h8, (v18, (h10, ())))))))))))))
       else
        bif (decide (way1 = ((((0 : Nat) + (1 : Nat)) : Nat) : Int))) then
         some (((v17, ((0 : Int), ())), (h0, (h1, (h2, (h3, (h4, (h5, ((IntKind.wrap .i64 (h6 + (((List.length v17) : Nat) : Int))), (h7, (h8, (v18, (h10, ())))))))))))))
        else
         none
      else
       none
    else
     none
   else
    bif (decide (way1 = ((((0 : Nat) + (1 : Nat)) : Nat) : Int))) then
     Option.bind (takeI h10 (@minI n2 (((List.length h10) : Nat) : Int))) fun (v17 : (List Int)) =>
     bif (roomB (List.length v17) 1) then
      Option.bind (dropI h10 (@minI n2 (((List.length h10) : Nat) : Int))) fun (v18 : (List Int)) =>
      bif (decide (way1 = ((0 : Nat) : Int))) then
       bif (decide (way1 = ((0 : Nat) : Int))) then
        some (((v17, ((0 : Int), ())), (h0, (h1, (h2, ((IntKind.wrap .i64 (h3 + (((List.length v17) : Nat) : Int))), (h4, (h5, (h6, (h7, (h8, (h9, (v18, ())))))))))))))
       else
        bif (decide (way1 = ((((0 : Nat) + (1 : Nat)) : Nat) : Int))) then
         some (((v17, ((0 : Int), ())), (h0, (h1, (h2, (h3, (h4, (h5, ((IntKind.wrap .i64 (h3 + (((List.length v17) : Nat) : Int))), (h7, (h8, (h9, (v18, ())))))))))))))
        else
         none
      else
       bif (decide (way1 = ((((0 : Nat) + (1 : Nat)) : Nat) : Int))) then
        bif (decide (way1 = ((0 : Nat) : Int))) then
         some (((v17, ((0 : Int), ())), (h0, (h1, (h2, ((IntKind.wrap .i64 (h6 + (((List.length v17) : Nat) : Int))), (h4, (h5, (h6, (h7, (h8, (h9, (v18, ())))))))))))))
        else
         bif (decide (way1 = ((((0 : Nat) + (1 : Nat)) : Nat) : Int))) then
          some (((v17, ((0 : Int), ())), (h0, (h1, (h2, (h3, (h4, (h5, ((IntKind.wrap .i64 (h6 + (((List.length v17) : Nat) : Int))), (h7, (h8, (h9, (v18, ())))))))))))))
         else
          none
       else
        none
     else
      none
    else
     none
theorem chans_Chan_Take_M1_S (way1 : Int) (n2 : Int) (h0 : Bool) (h1 : Arr Int 32) (h2 : Int) (h3 : Int) (h4 : Int) (h5 : Int) (h6 : Int) (h7 : Int) (h8 : Bool) (h9 : List (Int)) (h10 : List (Int)) : (runM Try.prog (Ev8 N) 400 [9, 1] 9 chans_Chan_Take_M1_I ((way1, n2, ()), (h0, h1, h2, h3, h4, h5, h6, h7, h8, h9, h10, ()))).run = chans_Chan_Take_M1 N way1 n2 h0 h1 h2 h3 h4 h5 h6 h7 h8 h9 h10 := by kernel_rfl
noncomputable def Ev9 : (R : Type) → Env R := Env.addMth (Ev8 N) 9 (fun R old => mthK Try.prog chans_Chan_Take_M1_I (fun c => chans_Chan_Take_M1 N c.1.1 c.1.2.1 c.2.1 c.2.2.1 c.2.2.2.1 c.2.2.2.2.1 c.2.2.2.2.2.1 c.2.2.2.2.2.2.1 c.2.2.2.2.2.2.2.1 c.2.2.2.2.2.2.2.2.1 c.2.2.2.2.2.2.2.2.2.1 c.2.2.2.2.2.2.2.2.2.2.1 c.2.2.2.2.2.2.2.2.2.2.2.1) old)
theorem Ev9_ok (R : Type) : EnvOK Try.prog (Ev9 N R) := EnvOK.addMth (Ev8_ok N R) (runM_ok (mi := chans_Chan_Take_M1_I) (g := fun c => chans_Chan_Take_M1 N c.1.1 c.1.2.1 c.2.1 c.2.2.1 c.2.2.2.1 c.2.2.2.2.1 c.2.2.2.2.2.1 c.2.2.2.2.2.2.1 c.2.2.2.2.2.2.2.1 c.2.2.2.2.2.2.2.2.1 c.2.2.2.2.2.2.2.2.2.1 c.2.2.2.2.2.2.2.2.2.2.1 c.2.2.2.2.2.2.2.2.2.2.2.1) hmx (Ev8_ok N _) (by kernel_rfl) (fun (c : CT chans_Chan_Take_M1_I.sh) => chans_Chan_Take_M1_S N c.1.1 c.1.2.1 c.2.1 c.2.2.1 c.2.2.2.1 c.2.2.2.2.1 c.2.2.2.2.2.1 c.2.2.2.2.2.2.1 c.2.2.2.2.2.2.2.1 c.2.2.2.2.2.2.2.2.1 c.2.2.2.2.2.2.2.2.2.1 c.2.2.2.2.2.2.2.2.2.2.1 c.2.2.2.2.2.2.2.2.2.2.2.1))
noncomputable def chans_Chan_Len_M1_I : MI := ⟨21, 1, 1, ⟨[(0, .lit (.box 0 0)), (1, .ty (.int .i64))], [.boxp 63 [.ty .bool, .ty (.arr 32 (.int .u8)), .own 1, .ty (.int .i64), .ty (.int .i64), .ty (.int .i64), .own 2, .ty (.int .i64), .ty (.int .i64), .ty (.int .i64), .ty .bool], .own (.int .u8) 5, .own (.int .u8) 5]⟩, [(.exit 0, ⟨[(0, .ty (.int .i64))], [.boxp 63 [.ty .bool, .ty (.arr 32 (.int .u8)), .own 1, .ty (.int .i64), .ty (.int .i64), .ty (.int .i64), .own 2, .ty (.int .i64), .ty (.int .i64), .ty (.int .i64), .ty .bool], .own (.int .u8) 5, .own (.int .u8) 5]⟩)]⟩
noncomputable def chans_Chan_Len_M1 (N : Nat) (way1 : Int) (h0 : Bool) (h1 : Arr Int 32) (h2 : Int) (h3 : Int) (h4 : Int) (h5 : Int) (h6 : Int) (h7 : Int) (h8 : Bool) (h9 : List (Int)) (h10 : List (Int)) : Option (((Int × Unit) × (Bool × ((Arr Int 32) × (Int × (Int × (Int × (Int × (Int × (Int × (Bool × ((List Int) × ((List Int) × Unit))))))))))))) :=
 Option.bind (some ((cond true h0 false))) fun (v13 : Bool) =>
 bif (!v13) then
  some ((((0 : Int), ()), (h0, (h1, (h2, (h3, (h4, (h5, (h6, (h7, (h8, (h9, (h10, ())))))))))))))
 else
  Option.bind (bif (decide (way1 = (0 : Int))) then
    some (true)
   else
    some ((cond false true (decide (way1 = (1 : Int)))))) fun (v14 : Bool) =>
  Option.bind (some ((cond false true (!v14)))) fun (v15 : Bool) =>
  bif v15 then
   some ((((0 : Int), ()), (h0, (h1, (h2, (h3, (h4, (h5, (h6, (h7, (h8, (h9, (h10, ())))))))))))))
  else
   bif (decide (way1 = ((0 : Nat) : Int))) then
    some ((((((List.length h9) : Nat) : Int), ()), (h0, (h1, (h2, (h3, (h4, (h5, (h6, (h7, (h8, (h9, (h10, ())))))))))))))
   else
    bif (decide (way1 = ((((0 : Nat) + (1 : Nat)) : Nat) : Int))) then
     some ((((((List.length h10) : Nat) : Int), ()), (h0, (h1, (h2, (h3, (h4, (h5, (h6, (h7, (h8, (h9, (h10, ())))))))))))))
    else
     none
theorem chans_Chan_Len_M1_S (way1 : Int) (h0 : Bool) (h1 : Arr Int 32) (h2 : Int) (h3 : Int) (h4 : Int) (h5 : Int) (h6 : Int) (h7 : Int) (h8 : Bool) (h9 : List (Int)) (h10 : List (Int)) : (runM Try.prog (Ev9 N) 400 [19, 1] 19 chans_Chan_Len_M1_I ((way1, ()), (h0, h1, h2, h3, h4, h5, h6, h7, h8, h9, h10, ()))).run = chans_Chan_Len_M1 N way1 h0 h1 h2 h3 h4 h5 h6 h7 h8 h9 h10 := by kernel_rfl
noncomputable def Ev10 : (R : Type) → Env R := Env.addMth (Ev9 N) 19 (fun R old => mthK Try.prog chans_Chan_Len_M1_I (fun c => chans_Chan_Len_M1 N c.1.1 c.2.1 c.2.2.1 c.2.2.2.1 c.2.2.2.2.1 c.2.2.2.2.2.1 c.2.2.2.2.2.2.1 c.2.2.2.2.2.2.2.1 c.2.2.2.2.2.2.2.2.1 c.2.2.2.2.2.2.2.2.2.1 c.2.2.2.2.2.2.2.2.2.2.1 c.2.2.2.2.2.2.2.2.2.2.2.1) old)
theorem Ev10_ok (R : Type) : EnvOK Try.prog (Ev10 N R) := EnvOK.addMth (Ev9_ok N R) (runM_ok (mi := chans_Chan_Len_M1_I) (g := fun c => chans_Chan_Len_M1 N c.1.1 c.2.1 c.2.2.1 c.2.2.2.1 c.2.2.2.2.1 c.2.2.2.2.2.1 c.2.2.2.2.2.2.1 c.2.2.2.2.2.2.2.1 c.2.2.2.2.2.2.2.2.1 c.2.2.2.2.2.2.2.2.2.1 c.2.2.2.2.2.2.2.2.2.2.1 c.2.2.2.2.2.2.2.2.2.2.2.1) hmx (Ev9_ok N _) (by kernel_rfl) (fun (c : CT chans_Chan_Len_M1_I.sh) => chans_Chan_Len_M1_S N c.1.1 c.2.1 c.2.2.1 c.2.2.2.1 c.2.2.2.2.1 c.2.2.2.2.2.1 c.2.2.2.2.2.2.1 c.2.2.2.2.2.2.2.1 c.2.2.2.2.2.2.2.2.1 c.2.2.2.2.2.2.2.2.2.1 c.2.2.2.2.2.2.2.2.2.2.1 c.2.2.2.2.2.2.2.2.2.2.2.1))
noncomputable def chans_Chan_Hash_M1_I : MI := ⟨11, 1, 1, ⟨[(0, .lit (.box 0 0))], [.boxp 63 [.ty .bool, .ty (.arr 32 (.int .u8)), .own 1, .ty (.int .i64), .ty (.int .i64), .ty (.int .i64), .own 2, .ty (.int .i64), .ty (.int .i64), .ty (.int .i64), .ty .bool], .own (.int .u8) 5, .own (.int .u8) 5]⟩, [(.exit 0, ⟨[(0, .ty (.arr 32 (.int .u8)))], [.boxp 63 [.ty .bool, .ty (.arr 32 (.int .u8)), .own 1, .ty (.int .i64), .ty (.int .i64), .ty (.int .i64), .own 2, .ty (.int .i64), .ty (.int .i64), .ty (.int .i64), .ty .bool], .own (.int .u8) 5, .own (.int .u8) 5]⟩)]⟩
noncomputable def chans_Chan_Hash_M1 (N : Nat) (h0 : Bool) (h1 : Arr Int 32) (h2 : Int) (h3 : Int) (h4 : Int) (h5 : Int) (h6 : Int) (h7 : Int) (h8 : Bool) (h9 : List (Int)) (h10 : List (Int)) : Option ((((Arr Int 32) × Unit) × (Bool × ((Arr Int 32) × (Int × (Int × (Int × (Int × (Int × (Int × (Bool × ((List Int) × ((List Int) × Unit))))))))))))) :=
 Option.bind (some ((cond true h0 false))) fun (v12 : Bool) =>
 bif (!v12) then
  some ((((@Arr.cons Int 31 0 (@Arr.cons Int 30 0 (@Arr.cons Int 29 0 (@Arr.cons Int 28 0 (@Arr.cons Int 27 0 (@Arr.cons Int 26 0 (@Arr.cons Int 25 0 (@Arr.cons Int 24 0 (@Arr.cons Int 23 0 (@Arr.cons Int 22 0 (@Arr.cons Int 21 0 (@Arr.cons Int 20 0 (@Arr.cons Int 19 0 (@Arr.cons Int 18 0 (@Arr.cons Int 17 0 (@Arr.cons Int 16 0 (@Arr.cons Int 15 0 (@Arr.cons Int 14 0 (@Arr.cons Int 13 0 (@Arr.cons Int 12 0 (@Arr.cons Int 11 0 (@Arr.cons Int 10 0 (@Arr.cons Int 9 0 (@Arr.cons Int 8 0 (@Arr.cons Int 7 0 (@Arr.cons Int 6 0 (@Arr.cons Int 5 0 (@Arr.cons Int 4 0 (@Arr.cons Int 3 0 (@Arr.cons Int 2 0 (@Arr.cons Int 1 0 (@Arr.cons Int 0 0 (@Arr.nil Int))))))))))))))))))))))))))))))))), ()), (h0, (h1, (h2, (h3, (h4, (h5, (h6, (h7, (h8, (h9, (h10, ())))))))))))))
 else
  some (((h1, ()), (h0, (h1, (h2, (h3, (h4, (h5, (h6, (h7, (h8, (h9, (h10, ())))))))))))))
theorem chans_Chan_Hash_M1_S (h0 : Bool) (h1 : Arr Int 32) (h2 : Int) (h3 : Int) (h4 : Int) (h5 : Int) (h6 : Int) (h7 : Int) (h8 : Bool) (h9 : List (Int)) (h10 : List (Int)) : (runM Try.prog (Ev10 N) 400 [21, 1] 21 chans_Chan_Hash_M1_I ((), (h0, h1, h2, h3, h4, h5, h6, h7, h8, h9, h10, ()))).run = chans_Chan_Hash_M1 N h0 h1 h2 h3 h4 h5 h6 h7 h8 h9 h10 := by kernel_rfl
noncomputable def Ev11 : (R : Type) → Env R := Env.addMth (Ev10 N) 21 (fun R old => mthK Try.prog chans_Chan_Hash_M1_I (fun c => chans_Chan_Hash_M1 N c.2.1 c.2.2.1 c.2.2.2.1 c.2.2.2.2.1 c.2.2.2.2.2.1 c.2.2.2.2.2.2.1 c.2.2.2.2.2.2.2.1 c.2.2.2.2.2.2.2.2.1 c.2.2.2.2.2.2.2.2.2.1 c.2.2.2.2.2.2.2.2.2.2.1 c.2.2.2.2.2.2.2.2.2.2.2.1) old)
theorem Ev11_ok (R : Type) : EnvOK Try.prog (Ev11 N R) := EnvOK.addMth (Ev10_ok N R) (runM_ok (mi := chans_Chan_Hash_M1_I) (g := fun c => chans_Chan_Hash_M1 N c.2.1 c.2.2.1 c.2.2.2.1 c.2.2.2.2.1 c.2.2.2.2.2.1 c.2.2.2.2.2.2.1 c.2.2.2.2.2.2.2.1 c.2.2.2.2.2.2.2.2.1 c.2.2.2.2.2.2.2.2.2.1 c.2.2.2.2.2.2.2.2.2.2.1 c.2.2.2.2.2.2.2.2.2.2.2.1) hmx (Ev10_ok N _) (by kernel_rfl) (fun (c : CT chans_Chan_Hash_M1_I.sh) => chans_Chan_Hash_M1_S N c.2.1 c.2.2.1 c.2.2.2.1 c.2.2.2.2.1 c.2.2.2.2.2.1 c.2.2.2.2.2.2.1 c.2.2.2.2.2.2.2.1 c.2.2.2.2.2.2.2.2.1 c.2.2.2.2.2.2.2.2.2.1 c.2.2.2.2.2.2.2.2.2.2.1 c.2.2.2.2.2.2.2.2.2.2.2.1))
noncomputable def chans_Chan_Open_M1_I : MI := ⟨12, 1, 1, ⟨[(0, .lit (.box 0 0))], [.boxp 63 [.ty .bool, .ty (.arr 32 (.int .u8)), .own 1, .ty (.int .i64), .ty (.int .i64), .ty (.int .i64), .own 2, .ty (.int .i64), .ty (.int .i64), .ty (.int .i64), .ty .bool], .own (.int .u8) 5, .own (.int .u8) 5]⟩, [(.exit 0, ⟨[(0, .ty .bool)], [.boxp 63 [.ty .bool, .ty (.arr 32 (.int .u8)), .own 1, .ty (.int .i64), .ty (.int .i64), .ty (.int .i64), .own 2, .ty (.int .i64), .ty (.int .i64), .ty (.int .i64), .ty .bool], .own (.int .u8) 5, .own (.int .u8) 5]⟩)]⟩
noncomputable def chans_Chan_Open_M1 (N : Nat) (h0 : Bool) (h1 : Arr Int 32) (h2 : Int) (h3 : Int) (h4 : Int) (h5 : Int) (h6 : Int) (h7 : Int) (h8 : Bool) (h9 : List (Int)) (h10 : List (Int)) : Option (((Bool × Unit) × (Bool × ((Arr Int 32) × (Int × (Int × (Int × (Int × (Int × (Int × (Bool × ((List Int) × ((List Int) × Unit))))))))))))) :=
 Option.bind (some ((cond true h0 false))) fun (v12 : Bool) =>
 Option.bind (bif v12 then
   some ((cond true (!h8) false))
  else
   some (false)) fun (v13 : Bool) =>
 some (((v13, ()), (h0, (h1, (h2, (h3, (h4, (h5, (h6, (h7, (h8, (h9, (h10, ())))))))))))))
theorem chans_Chan_Open_M1_S (h0 : Bool) (h1 : Arr Int 32) (h2 : Int) (h3 : Int) (h4 : Int) (h5 : Int) (h6 : Int) (h7 : Int) (h8 : Bool) (h9 : List (Int)) (h10 : List (Int)) : (runM Try.prog (Ev11 N) 400 [20, 1] 20 chans_Chan_Open_M1_I ((), (h0, h1, h2, h3, h4, h5, h6, h7, h8, h9, h10, ()))).run = chans_Chan_Open_M1 N h0 h1 h2 h3 h4 h5 h6 h7 h8 h9 h10 := by kernel_rfl
noncomputable def Ev12 : (R : Type) → Env R := Env.addMth (Ev11 N) 20 (fun R old => mthK Try.prog chans_Chan_Open_M1_I (fun c => chans_Chan_Open_M1 N c.2.1 c.2.2.1 c.2.2.2.1 c.2.2.2.2.1 c.2.2.2.2.2.1 c.2.2.2.2.2.2.1 c.2.2.2.2.2.2.2.1 c.2.2.2.2.2.2.2.2.1 c.2.2.2.2.2.2.2.2.2.1 c.2.2.2.2.2.2.2.2.2.2.1 c.2.2.2.2.2.2.2.2.2.2.2.1) old)
theorem Ev12_ok (R : Type) : EnvOK Try.prog (Ev12 N R) := EnvOK.addMth (Ev11_ok N R) (runM_ok (mi := chans_Chan_Open_M1_I) (g := fun c => chans_Chan_Open_M1 N c.2.1 c.2.2.1 c.2.2.2.1 c.2.2.2.2.1 c.2.2.2.2.2.1 c.2.2.2.2.2.2.1 c.2.2.2.2.2.2.2.1 c.2.2.2.2.2.2.2.2.1 c.2.2.2.2.2.2.2.2.2.1 c.2.2.2.2.2.2.2.2.2.2.1 c.2.2.2.2.2.2.2.2.2.2.2.1) hmx (Ev11_ok N _) (by kernel_rfl) (fun (c : CT chans_Chan_Open_M1_I.sh) => chans_Chan_Open_M1_S N c.2.1 c.2.2.1 c.2.2.2.1 c.2.2.2.2.1 c.2.2.2.2.2.1 c.2.2.2.2.2.2.1 c.2.2.2.2.2.2.2.1 c.2.2.2.2.2.2.2.2.1 c.2.2.2.2.2.2.2.2.2.1 c.2.2.2.2.2.2.2.2.2.2.1 c.2.2.2.2.2.2.2.2.2.2.2.1))
noncomputable def law38_alive : Option Bool :=
 Option.bind (chans_New_M1 N (@Arr.cons Int 31 7 (@Arr.cons Int 30 0 (@Arr.cons Int 29 0 (@Arr.cons Int 28 0 (@Arr.cons Int 27 0 (@Arr.cons Int 26 0 (@Arr.cons Int 25 0 (@Arr.cons Int 24 0 (@Arr.cons Int 23 0 (@Arr.cons Int 22 0 (@Arr.cons Int 21 0 (@Arr.cons Int 20 0 (@Arr.cons Int 19 0 (@Arr.cons Int 18 0 (@Arr.cons Int 17 0 (@Arr.cons Int 16 0 (@Arr.cons Int 15 0 (@Arr.cons Int 14 0 (@Arr.cons Int 13 0 (@Arr.cons Int 12 0 (@Arr.cons Int 11 0 (@Arr.cons Int 10 0 (@Arr.cons Int 9 0 (@Arr.cons Int 8 0 (@Arr.cons Int 7 0 (@Arr.cons Int 6 0 (@Arr.cons Int 5 0 (@Arr.cons Int 4 0 (@Arr.cons Int 3 0 (@Arr.cons Int 2 0 (@Arr.cons Int 1 0 (@Arr.cons Int 0 0 (@Arr.nil Int)))))))))))))))))))))))))))))))))) fun v1 =>
 Option.bind (chans_Chan_Put_M1 N (0 : Int) ([97, 98, 99] : List Int) v1.2.1 v1.2.2.1 v1.2.2.2.1 v1.2.2.2.2.1 v1.2.2.2.2.2.1 v1.2.2.2.2.2.2.1 v1.2.2.2.2.2.2.2.1 v1.2.2.2.2.2.2.2.2.1 v1.2.2.2.2.2.2.2.2.2.1 (v1.2.2.2.2.2.2.2.2.2).snd.1 (v1.2.2.2.2.2.2.2.2.2).snd.2.1) fun v2 =>
 Option.bind (some ((cond false true (!(decide (v2.1.1 = (0 : Int))))))) fun (v3 : Bool) =>
 bif v3 then
  some (false)
 else
  Option.bind (chans_Chan_Take_M1 N (0 : Int) (2 : Int) v2.2.1 v2.2.2.1 v2.2.2.2.1 v2.2.2.2.2.1 v2.2.2.2.2.2.1 v2.2.2.2.2.2.2.1 v2.2.2.2.2.2.2.2.1 v2.2.2.2.2.2.2.2.2.1 v2.2.2.2.2.2.2.2.2.2.1 (v2.2.2.2.2.2.2.2.2.2).snd.1 (v2.2.2.2.2.2.2.2.2.2).snd.2.1) fun v4 =>
  Option.bind (@toBy v4.1.1) fun (v5 : (List UInt8)) =>
  Option.bind (bif (decide (v5 = (Array.toList (List.toArray ([97, 98] : List UInt8))))) then
    some ((cond true (decide (v4.1.2.1 = (0 : Int))) false))
   else
    some (false)) fun (v6 : Bool) =>
  bif v6 then
   Option.bind (chans_Chan_Len_M1 N (0 : Int) v4.2.1 v4.2.2.1 v4.2.2.2.1 v4.2.2.2.2.1 v4.2.2.2.2.2.1 v4.2.2.2.2.2.2.1 v4.2.2.2.2.2.2.2.1 v4.2.2.2.2.2.2.2.2.1 v4.2.2.2.2.2.2.2.2.2.1 (v4.2.2.2.2.2.2.2.2.2).snd.1 (v4.2.2.2.2.2.2.2.2.2).snd.2.1) fun v7 =>
   Option.bind (some ((cond true (decide (v7.1.1 = (1 : Int))) false))) fun (v8 : Bool) =>
   bif v8 then
    Option.bind (chans_Chan_Hash_M1 N v7.2.1 v7.2.2.1 v7.2.2.2.1 v7.2.2.2.2.1 v7.2.2.2.2.2.1 v7.2.2.2.2.2.2.1 v7.2.2.2.2.2.2.2.1 v7.2.2.2.2.2.2.2.2.1 v7.2.2.2.2.2.2.2.2.2.1 (v7.2.2.2.2.2.2.2.2.2).snd.1 (v7.2.2.2.2.2.2.2.2.2).snd.2.1) fun v9 =>
    Option.bind (bif ((@wfB (@Td.arr (32 : Nat) (@Td.int @IntKind.u8)) v9.1.1) && (@wfB (@Td.arr (32 : Nat) (@Td.int @IntKind.u8)) (@Arr.cons Int 31 7 (@Arr.cons Int 30 0 (@Arr.cons Int 29 0 (@Arr.cons Int 28 0 (@Arr.cons Int 27 0 (@Arr.cons Int 26 0 (@Arr.cons Int 25 0 (@Arr.cons Int 24 0 (@Arr.cons Int 23 0 (@Arr.cons Int 22 0 (@Arr.cons Int 21 0 (@Arr.cons Int 20 0 (@Arr.cons Int 19 0 (@Arr.cons Int 18 0 (@Arr.cons Int 17 0 (@Arr.cons Int 16 0 (@Arr.cons Int 15 0 (@Arr.cons Int 14 0 (@Arr.cons Int 13 0 (@Arr.cons Int 12 0 (@Arr.cons Int 11 0 (@Arr.cons Int 10 0 (@Arr.cons Int 9 0 (@Arr.cons Int 8 0 (@Arr.cons Int 7 0 (@Arr.cons Int 6 0 (@Arr.cons Int 5 0 (@Arr.cons Int 4 0 (@Arr.cons Int 3 0 (@Arr.cons Int 2 0 (@Arr.cons Int 1 0 (@Arr.cons Int 0 0 (@Arr.nil Int))))))))))))))))))))))))))))))))))) then
      some ((cond true (@Decidable.decide (@Eq (Arr Int 32) v9.1.1 (@Arr.cons Int 31 7 (@Arr.cons Int 30 0 (@Arr.cons Int 29 0 (@Arr.cons Int 28 0 (@Arr.cons Int 27 0 (@Arr.cons Int 26 0 (@Arr.cons Int 25 0 (@Arr.cons Int 24 0 (@Arr.cons Int 23 0 (@Arr.cons Int 22 0 (@Arr.cons Int 21 0 (@Arr.cons Int 20 0 (@Arr.cons Int 19 0 (@Arr.cons Int 18 0 (@Arr.cons Int 17 0 (@Arr.cons Int 16 0 (@Arr.cons Int 15 0 (@Arr.cons Int 14 0 (@Arr.cons Int 13 0 (@Arr.cons Int 12 0 (@Arr.cons Int 11 0 (@Arr.cons Int 10 0 (@Arr.cons Int 9 0 (@Arr.cons Int 8 0 (@Arr.cons Int 7 0 (@Arr.cons Int 6 0 (@Arr.cons Int 5 0 (@Arr.cons Int 4 0 (@Arr.cons Int 3 0 (@Arr.cons Int 2 0 (@Arr.cons Int 1 0 (@Arr.cons Int 0 0 (@Arr.nil Int)))))))))))))))))))))))))))))))))) (@decT (@Td.arr (32 : Nat) (@Td.int @IntKind.u8)) v9.1.1 (@Arr.cons Int 31 7 (@Arr.cons Int 30 0 (@Arr.cons Int 29 0 (@Arr.cons Int 28 0 (@Arr.cons Int 27 0 (@Arr.cons Int 26 0 (@Arr.cons Int 25 0 (@Arr.cons Int 24 0 (@Arr.cons Int 23 0 (@Arr.cons Int 22 0 (@Arr.cons Int 21 0 (@Arr.cons Int 20 0 (@Arr.cons Int 19 0 (@Arr.cons Int 18 0 (@Arr.cons Int 17 0 (@Arr.cons Int 16 0 (@Arr.cons Int 15 0 (@Arr.cons Int 14 0 (@Arr.cons Int 13 0 (@Arr.cons Int 12 0 (@Arr.cons Int 11 0 (@Arr.cons Int 10 0 (@Arr.cons Int 9 0 (@Arr.cons Int 8 0 (@Arr.cons Int 7 0 (@Arr.cons Int 6 0 (@Arr.cons Int 5 0 (@Arr.cons Int 4 0 (@Arr.cons Int 3 0 (@Arr.cons Int 2 0 (@Arr.cons Int 1 0 (@Arr.cons Int 0 0 (@Arr.nil Int))))))))))))))))))))))))))))))))))) false))
     else
      none) fun (v10 : Bool) =>
    bif v10 then
     Option.bind (chans_Chan_Open_M1 N v9.2.1 v9.2.2.1 v9.2.2.2.1 v9.2.2.2.2.1 v9.2.2.2.2.2.1 v9.2.2.2.2.2.2.1 v9.2.2.2.2.2.2.2.1 v9.2.2.2.2.2.2.2.2.1 v9.2.2.2.2.2.2.2.2.2.1 (v9.2.2.2.2.2.2.2.2.2).snd.1 (v9.2.2.2.2.2.2.2.2.2).snd.2.1) fun v11 =>
     some ((cond (cond (cond true v11.1.1 false) true false) true false))
    else
     some ((cond (cond false true false) true false))
   else
    some ((cond (cond false true false) true false))
  else
   some ((cond (cond false true false) true false))
theorem law38_alive_S : (runK Try.prog (Ev12 N) 400 6 [] [.bool] ()).run = law38_alive N  := by kernel_rfl
noncomputable def Ev13 : (R : Type) → Env R := Env.addFn (Ev12 N) 6 (fun R => fnK [] [.bool] (fun c => law38_alive N ))
theorem Ev13_ok (R : Type) : EnvOK Try.prog (Ev13 N R) := EnvOK.addFn hmx (Ev12_ok N R) (Ev12_ok N _) (by kernel_rfl) (fun c => law38_alive_S N )
noncomputable def chans_Relay_M1_I : MI := ⟨74, 2, 2, ⟨[(0, .lit (.box 0 0)), (1, .ty (.int .i64)), (2, .lit (.box 1 0)), (3, .ty (.int .i64)), (4, .ty (.int .i64))], [.boxp 63 [.ty .bool, .ty (.arr 32 (.int .u8)), .own 2, .ty (.int .i64), .ty (.int .i64), .ty (.int .i64), .own 3, .ty (.int .i64), .ty (.int .i64), .ty (.int .i64), .ty .bool], .boxp 63 [.ty .bool, .ty (.arr 32 (.int .u8)), .own 4, .ty (.int .i64), .ty (.int .i64), .ty (.int .i64), .own 5, .ty (.int .i64), .ty (.int .i64), .ty (.int .i64), .ty .bool], .own (.int .u8) 5, .own (.int .u8) 5, .own (.int .u8) 5, .own (.int .u8) 5]⟩, [(.exit 0, ⟨[(0, .ty (.int .i64)), (1, .ty (.int .i64))], [.boxp 63 [.ty .bool, .ty (.arr 32 (.int .u8)), .own 2, .ty (.int .i64), .ty (.int .i64), .ty (.int .i64), .own 3, .ty (.int .i64), .ty (.int .i64), .ty (.int .i64), .ty .bool], .boxp 63 [.ty .bool, .ty (.arr 32 (.int .u8)), .own 4, .ty (.int .i64), .ty (.int .i64), .ty (.int .i64), .own 5, .ty (.int .i64), .ty (.int .i64), .ty (.int .i64), .ty .bool], .own (.int .u8) 5, .own (.int .u8) 5, .own (.int .u8) 5, .own (.int .u8) 5]⟩)]⟩
noncomputable def chans_Relay_M1 (way1 : Int) (other3 : Int) (n4 : Int) (h0 : Bool) (h1 : Arr Int 32) (h2 : Int) (h3 : Int) (h4 : Int) (h5 : Int) (h6 : Int) (h7 : Int) (h8 : Bool) (h9 : Bool) (h10 : Arr Int 32) (h11 : Int) (h12 : Int) (h13 : Int) (h14 : Int) (h15 : Int) (h16 : Int) (h17 : Bool) (h18 : List (Int)) (h19 : List (Int)) (h20 : List (Int)) (h21 : List (Int)) : Option (((Int × (Int × Unit)) × (Bool × ((Arr Int 32) × (Int × (Int × (Int × (Int × (Int × (Int × (Bool × (Bool × ((Arr Int 32) × (Int × (Int × (Int × (Int × (Int × (Int × (Bool × ((List Int) × ((List Int) × ((List Int) × ((List Int) × Unit)))))))))))))))))))))))) :=
 Option.bind (some ((cond true h0 false))) fun (v26 : Bool) =>
 bif (!v26) then
  some ((((0 : Int), ((2 : Int), ())), (h0, (h1, (h2, (h3, (h4, (h5, (h6, (h7, (h8, (h9, (h10, (h11, (h12, (h13, (h14, (h15, (h16, (h17, (h18, (h19, (h20, (h21, ()))))))))))))))))))))))))
 else
  Option.bind (some ((cond true h9 false))) fun (v27 : Bool) =>
  Option.bind (some ((cond false true (!v27)))) fun (v28 : Bool) =>
  bif v28 then
   some ((((0 : Int), ((2 : Int), ())), (h0, (h1, (h2, (h3, (h4, (h5, (h6, (h7, (h8, (h9, (h10, (h11, (h12, (h13, (h14, (h15, (h16, (h17, (h18, (h19, (h20, (h21, ()))))))))))))))))))))))))
  else
   Option.bind (bif (decide (way1 = (0 : Int))) then
     some (true)
    else
     some ((cond false true (decide (way1 = (1 : Int)))))) fun (v29 : Bool) =>
   bif (!v29) then
    some ((((0 : Int), ((1 : Int), ())), (h0, (h1, (h2, (h3, (h4, (h5, (h6, (h7, (h8, (h9, (h10, (h11, (h12, (h13, (h14, (h15, (h16, (h17, (h18, (h19, (h20, (h21, ()))))))))))))))))))))))))
   else
    Option.bind (bif (decide (other3 = (0 : Int))) then
      some (true)
     else
      some ((cond false true (decide (other3 = (1 : Int)))))) fun (v30 : Bool) =>
    Option.bind (some ((cond false true (!v30)))) fun (v31 : Bool) =>
    Option.bind (bif v31 then
      some (true)
     else
      some ((cond false true (decide (n4 < (0 : Int)))))) fun (v32 : Bool) =>
    Option.bind (bif v32 then
      some (true)
     else
      some ((cond false true false))) fun (v33 : Bool) =>
    bif v33 then
     some ((((0 : Int), ((1 : Int), ())), (h0, (h1, (h2, (h3, (h4, (h5, (h6, (h7, (h8, (h9, (h10, (h11, (h12, (h13, (h14, (h15, (h16, (h17, (h18, (h19, (h20, (h21, ()))))))))))))))))))))))))
    else
     Option.bind (chans_Chan_Len_M1 N way1 h0 h1 h2 h3 h4 h5 h6 h7 h8 h18 h19) fun v34 =>
     bif h17 then
      some ((((0 : Int), ((11 : Int), ())), (v34.2.1, (v34.2.2.1, (v34.2.2.2.1, (v34.2.2.2.2.1, (v34.2.2.2.2.2.1, (v34.2.2.2.2.2.2.1, (v34.2.2.2.2.2.2.2.1, (v34.2.2.2.2.2.2.2.2.1, (v34.2.2.2.2.2.2.2.2.2.1, (h9, (h10, (h11, (h12, (h13, (h14, (h15, (h16, (h17, ((v34.2.2.2.2.2.2.2.2.2).snd.1, ((v34.2.2.2.2.2.2.2.2.2).snd.2.1, (h20, (h21, ()))))))))))))))))))))))))
     else
      bif (decide (other3 = ((0 : Nat) : Int))) then
       bif (decide ((IntKind.wrap .i64 ((65536 : Int) - (((List.length h20) : Nat) : Int))) < (@minI n4 v34.1.1))) then
        some ((((0 : Int), ((12 : Int), ())), (v34.2.1, (v34.2.2.1, (v34.2.2.2.1, (v34.2.2.2.2.1, (v34.2.2.2.2.2.1, (v34.2.2.2.2.2.2.1, (v34.2.2.2.2.2.2.2.1, (v34.2.2.2.2.2.2.2.2.1, (v34.2.2.2.2.2.2.2.2.2.1, (h9, (h10, (h11, (h12, (h13, (h14, (h15, (h16, (h17, ((v34.2.2.2.2.2.2.2.2.2).snd.1, ((v34.2.2.2.2.2.2.2.2.2).snd.2.1, (h20, (h21, ()))))))))))))))))))))))))
       else
        Option.bind (chans_Chan_Take_M1 N way1 n4 v34.2.1 v34.2.2.1 v34.2.2.2.1 v34.2.2.2.2.1 v34.2.2.2.2.2.1 v34.2.2.2.2.2.2.1 v34.2.2.2.2.2.2.2.1 v34.2.2.2.2.2.2.2.2.1 v34.2.2.2.2.2.2.2.2.2.1 (v34.2.2.2.2.2.2.2.2.2).snd.1 (v34.2.2.2.2.2.2.2.2.2).snd.2.1) fun v35 =>
        bif (decide (other3 = ((0 : Nat) : Int))) then
         bif (roomB ((List.length h20) + (List.length v35.1.1)) 1) then
          some ((((((List.length v35.1.1) : Nat) : Int), ((0 : Int), ())), (v35.2.1, (v35.2.2.1, (v35.2.2.2.1, (v35.2.2.2.2.1, (v35.2.2.2.2.2.1, (v35.2.2.2.2.2.2.1, (v35.2.2.2.2.2.2.2.1, (v35.2.2.2.2.2.2.2.2.1, (v35.2.2.2.2.2.2.2.2.2.1, (h9, (h10, ((IntKind.wrap .i64 (h11 + (((List.length v35.1.1) : Nat) : Int))), (h12, (h13, (h14, (h15, (h16, (h17, ((v35.2.2.2.2.2.2.2.2.2).snd.1, ((v35.2.2.2.2.2.2.2.2.2).snd.2.1, ((h20 ++ v35.1.1), (h21, ()))))))))))))))))))))))))
         else
          none
        else
         bif (decide (other3 = ((((0 : Nat) + (1 : Nat)) : Nat) : Int))) then
          bif (roomB ((List.length h21) + (List.length v35.1.1)) 1) then
           some ((((((List.length v35.1.1) : Nat) : Int), ((0 : Int), ())), (v35.2.1, (v35.2.2.1, (v35.2.2.2.1, (v35.2.2.2.2.1, (v35.2.2.2.2.2.1, (v35.2.2.2.2.2.2.1, (v35.2.2.2.2.2.2.2.1, (v35.2.2.2.2.2.2.2.2.1, (v35.2.2.2.2.2.2.2.2.2.1, (h9, (h10, (h11, (h12, (h13, ((IntKind.wrap .i64 (h14 + (((List.length v35.1.1) : Nat) : Int))), (h15, (h16, (h17, ((v35.2.2.2.2.2.2.2.2.2).snd.1, ((v35.2.2.2.2.2.2.2.2.2).snd.2.1, (h20, ((h21 ++ v35.1.1), ()))))))))))))))))))))))))
          else
           none
         else
          none
      else
       bif (decide (other3 = ((((0 : Nat) + (1 : Nat)) : Nat) : Int))) then
        bif (decide ((IntKind.wrap .i64 ((65536 : Int) - (((List.length h21) : Nat) : Int))) < (@minI n4 v34.1.1))) then
         some ((((0 : Int), ((12 : Int), ())), (v34.2.1, (v34.2.2.1, (v34.2.2.2.1, (v34.2.2.2.2.1, (v34.2.2.2.2.2.1, (v34.2.2.2.2.2.2.1, (v34.2.2.2.2.2.2.2.1, (v34.2.2.2.2.2.2.2.2.1, (v34.2.2.2.2.2.2.2.2.2.1, (h9, (h10, (h11, (h12, (h13, (h14, (h15, (h16, (h17, ((v34.2.2.2.2.2.2.2.2.2).snd.1, ((v34.2.2.2.2.2.2.2.2.2).snd.2.1, (h20, (h21, ()))))))))))))))))))))))))
        else
         Option.bind (chans_Chan_Take_M1 N way1 n4 v34.2.1 v34.2.2.1 v34.2.2.2.1 v34.2.2.2.2.1 v34.2.2.2.2.2.1 v34.2.2.2.2.2.2.1 v34.2.2.2.2.2.2.2.1 v34.2.2.2.2.2.2.2.2.1 v34.2.2.2.2.2.2.2.2.2.1 (v34.2.2.2.2.2.2.2.2.2).snd.1 (v34.2.2.2.2.2.2.2.2.2).snd.2.1) fun v35 =>
         bif (decide (other3 = ((0 : Nat) : Int))) then
          bif (roomB ((List.length h20) + (List.length v35.1.1)) 1) then
           some ((((((List.length v35.1.1) : Nat) : Int), ((0 : Int), ())), (v35.2.1, (v35.2.2.1, (v35.2.2.2.1, (v35.2.2.2.2.1, (v35.2.2.2.2.2.1, (v35.2.2.2.2.2.2.1, (v35.2.2.2.2.2.2.2.1, (v35.2.2.2.2.2.2.2.2.1, (v35.2.2.2.2.2.2.2.2.2.1, (h9, (h10, ((IntKind.wrap .i64 (h11 + (((List.length v35.1.1) : Nat) : Int))), (h12, (h13, (h14, (h15, (h16, (h17, ((v35.2.2.2.2.2.2.2.2.2).snd.1, ((v35.2.2.2.2.2.2.2.2.2).snd.2.1, ((h20 ++ v35.1.1), (h21, ()))))))))))))))))))))))))
          else
           none
         else
          bif (decide (other3 = ((((0 : Nat) + (1 : Nat)) : Nat) : Int))) then
           bif (roomB ((List.length h21) + (List.length v35.1.1)) 1) then
            some ((((((List.length v35.1.1) : Nat) : Int), ((0 : Int), ())), (v35.2.1, (v35.2.2.1, (v35.2.2.2.1, (v35.2.2.2.2.1, (v35.2.2.2.2.2.1, (v35.2.2.2.2.2.2.1, (v35.2.2.2.2.2.2.2.1, (v35.2.2.2.2.2.2.2.2.1, (v35.2.2.2.2.2.2.2.2.2.1, (h9, (h10, (h11, (h12, (h13, ((IntKind.wrap .i64 (h14 + (((List.length v35.1.1) : Nat) : Int))), (h15, (h16, (h17, ((v35.2.2.2.2.2.2.2.2.2).snd.1, ((v35.2.2.2.2.2.2.2.2.2).snd.2.1, (h20, ((h21 ++ v35.1.1), ()))))))))))))))))))))))))
           else
            none
          else
           none
       else
        none
theorem chans_Relay_M1_S (way1 : Int) (other3 : Int) (n4 : Int) (h0 : Bool) (h1 : Arr Int 32) (h2 : Int) (h3 : Int) (h4 : Int) (h5 : Int) (h6 : Int) (h7 : Int) (h8 : Bool) (h9 : Bool) (h10 : Arr Int 32) (h11 : Int) (h12 : Int) (h13 : Int) (h14 : Int) (h15 : Int) (h16 : Int) (h17 : Bool) (h18 : List (Int)) (h19 : List (Int)) (h20 : List (Int)) (h21 : List (Int)) : (runM Try.prog (Ev13 N) 400 [14, 1] 14 chans_Relay_M1_I ((way1, other3, n4, ()), (h0, h1, h2, h3, h4, h5, h6, h7, h8, h9, h10, h11, h12, h13, h14, h15, h16, h17, h18, h19, h20, h21, ()))).run = chans_Relay_M1 N way1 other3 n4 h0 h1 h2 h3 h4 h5 h6 h7 h8 h9 h10 h11 h12 h13 h14 h15 h16 h17 h18 h19 h20 h21 := by kernel_rfl
noncomputable def Ev14 : (R : Type) → Env R := Env.addMth (Ev13 N) 14 (fun R old => mthK Try.prog chans_Relay_M1_I (fun c => chans_Relay_M1 N c.1.1 c.1.2.1 c.1.2.2.1 c.2.1 c.2.2.1 c.2.2.2.1 c.2.2.2.2.1 c.2.2.2.2.2.1 c.2.2.2.2.2.2.1 c.2.2.2.2.2.2.2.1 c.2.2.2.2.2.2.2.2.1 c.2.2.2.2.2.2.2.2.2.1 c.2.2.2.2.2.2.2.2.2.2.1 c.2.2.2.2.2.2.2.2.2.2.2.1 c.2.2.2.2.2.2.2.2.2.2.2.2.1 c.2.2.2.2.2.2.2.2.2.2.2.2.2.1 c.2.2.2.2.2.2.2.2.2.2.2.2.2.2.1 c.2.2.2.2.2.2.2.2.2.2.2.2.2.2.2.1 c.2.2.2.2.2.2.2.2.2.2.2.2.2.2.2.2.1 c.2.2.2.2.2.2.2.2.2.2.2.2.2.2.2.2.2.1 c.2.2.2.2.2.2.2.2.2.2.2.2.2.2.2.2.2.2.1 c.2.2.2.2.2.2.2.2.2.2.2.2.2.2.2.2.2.2.2.1 c.2.2.2.2.2.2.2.2.2.2.2.2.2.2.2.2.2.2.2.2.1 c.2.2.2.2.2.2.2.2.2.2.2.2.2.2.2.2.2.2.2.2.2.1 c.2.2.2.2.2.2.2.2.2.2.2.2.2.2.2.2.2.2.2.2.2.2.1) old)
theorem Ev14_ok (R : Type) : EnvOK Try.prog (Ev14 N R) := EnvOK.addMth (Ev13_ok N R) (runM_ok (mi := chans_Relay_M1_I) (g := fun c => chans_Relay_M1 N c.1.1 c.1.2.1 c.1.2.2.1 c.2.1 c.2.2.1 c.2.2.2.1 c.2.2.2.2.1 c.2.2.2.2.2.1 c.2.2.2.2.2.2.1 c.2.2.2.2.2.2.2.1 c.2.2.2.2.2.2.2.2.1 c.2.2.2.2.2.2.2.2.2.1 c.2.2.2.2.2.2.2.2.2.2.1 c.2.2.2.2.2.2.2.2.2.2.2.1 c.2.2.2.2.2.2.2.2.2.2.2.2.1 c.2.2.2.2.2.2.2.2.2.2.2.2.2.1 c.2.2.2.2.2.2.2.2.2.2.2.2.2.2.1 c.2.2.2.2.2.2.2.2.2.2.2.2.2.2.2.1 c.2.2.2.2.2.2.2.2.2.2.2.2.2.2.2.2.1 c.2.2.2.2.2.2.2.2.2.2.2.2.2.2.2.2.2.1 c.2.2.2.2.2.2.2.2.2.2.2.2.2.2.2.2.2.2.1 c.2.2.2.2.2.2.2.2.2.2.2.2.2.2.2.2.2.2.2.1 c.2.2.2.2.2.2.2.2.2.2.2.2.2.2.2.2.2.2.2.2.1 c.2.2.2.2.2.2.2.2.2.2.2.2.2.2.2.2.2.2.2.2.2.1 c.2.2.2.2.2.2.2.2.2.2.2.2.2.2.2.2.2.2.2.2.2.2.1) hmx (Ev13_ok N _) (by kernel_rfl) (fun (c : CT chans_Relay_M1_I.sh) => chans_Relay_M1_S N c.1.1 c.1.2.1 c.1.2.2.1 c.2.1 c.2.2.1 c.2.2.2.1 c.2.2.2.2.1 c.2.2.2.2.2.1 c.2.2.2.2.2.2.1 c.2.2.2.2.2.2.2.1 c.2.2.2.2.2.2.2.2.1 c.2.2.2.2.2.2.2.2.2.1 c.2.2.2.2.2.2.2.2.2.2.1 c.2.2.2.2.2.2.2.2.2.2.2.1 c.2.2.2.2.2.2.2.2.2.2.2.2.1 c.2.2.2.2.2.2.2.2.2.2.2.2.2.1 c.2.2.2.2.2.2.2.2.2.2.2.2.2.2.1 c.2.2.2.2.2.2.2.2.2.2.2.2.2.2.2.1 c.2.2.2.2.2.2.2.2.2.2.2.2.2.2.2.2.1 c.2.2.2.2.2.2.2.2.2.2.2.2.2.2.2.2.2.1 c.2.2.2.2.2.2.2.2.2.2.2.2.2.2.2.2.2.2.1 c.2.2.2.2.2.2.2.2.2.2.2.2.2.2.2.2.2.2.2.1 c.2.2.2.2.2.2.2.2.2.2.2.2.2.2.2.2.2.2.2.2.1 c.2.2.2.2.2.2.2.2.2.2.2.2.2.2.2.2.2.2.2.2.2.1 c.2.2.2.2.2.2.2.2.2.2.2.2.2.2.2.2.2.2.2.2.2.2.1))
noncomputable def chans_Chan_Peek_M1_I : MI := ⟨21, 1, 1, ⟨[(0, .lit (.box 0 0)), (1, .ty (.int .i64))], [.boxp 63 [.ty .bool, .ty (.arr 32 (.int .u8)), .own 1, .ty (.int .i64), .ty (.int .i64), .ty (.int .i64), .own 2, .ty (.int .i64), .ty (.int .i64), .ty (.int .i64), .ty .bool], .own (.int .u8) 5, .own (.int .u8) 5]⟩, [(.exit 0, ⟨[(0, .ty (.sl (.int .u8)))], [.boxp 63 [.ty .bool, .ty (.arr 32 (.int .u8)), .own 1, .ty (.int .i64), .ty (.int .i64), .ty (.int .i64), .own 2, .ty (.int .i64), .ty (.int .i64), .ty (.int .i64), .ty .bool], .own (.int .u8) 5, .own (.int .u8) 5]⟩)]⟩
noncomputable def chans_Chan_Peek_M1 (N : Nat) (way1 : Int) (h0 : Bool) (h1 : Arr Int 32) (h2 : Int) (h3 : Int) (h4 : Int) (h5 : Int) (h6 : Int) (h7 : Int) (h8 : Bool) (h9 : List (Int)) (h10 : List (Int)) : Option ((((List Int) × Unit) × (Bool × ((Arr Int 32) × (Int × (Int × (Int × (Int × (Int × (Int × (Bool × ((List Int) × ((List Int) × Unit))))))))))))) :=
 Option.bind (some ((cond true h0 false))) fun (v13 : Bool) =>
 bif (!v13) then
  some (((([] : List Int), ()), (h0, (h1, (h2, (h3, (h4, (h5, (h6, (h7, (h8, (h9, (h10, ())))))))))))))
 else
  Option.bind (bif (decide (way1 = (0 : Int))) then
    some (true)
   else
    some ((cond false true (decide (way1 = (1 : Int)))))) fun (v14 : Bool) =>
  Option.bind (some ((cond false true (!v14)))) fun (v15 : Bool) =>
  bif v15 then
   some (((([] : List Int), ()), (h0, (h1, (h2, (h3, (h4, (h5, (h6, (h7, (h8, (h9, (h10, ())))))))))))))
  else
   bif (decide (way1 = ((0 : Nat) : Int))) then
    bif (roomB (List.length h9) 1) then
     some (((h9, ()), (h0, (h1, (h2, (h3, (h4, (h5, (h6, (h7, (h8, (h9, (h10, ())))))))))))))
    else
     none
   else
    bif (decide (way1 = ((((0 : Nat) + (1 : Nat)) : Nat) : Int))) then
     bif (roomB (List.length h10) 1) then
      some (((h10, ()), (h0, (h1, (h2, (h3, (h4, (h5, (h6, (h7, (h8, (h9, (h10, ())))))))))))))
     else
      none
    else
     none
theorem chans_Chan_Peek_M1_S (way1 : Int) (h0 : Bool) (h1 : Arr Int 32) (h2 : Int) (h3 : Int) (h4 : Int) (h5 : Int) (h6 : Int) (h7 : Int) (h8 : Bool) (h9 : List (Int)) (h10 : List (Int)) : (runM Try.prog (Ev14 N) 400 [18, 1] 18 chans_Chan_Peek_M1_I ((way1, ()), (h0, h1, h2, h3, h4, h5, h6, h7, h8, h9, h10, ()))).run = chans_Chan_Peek_M1 N way1 h0 h1 h2 h3 h4 h5 h6 h7 h8 h9 h10 := by kernel_rfl
noncomputable def Ev15 : (R : Type) → Env R := Env.addMth (Ev14 N) 18 (fun R old => mthK Try.prog chans_Chan_Peek_M1_I (fun c => chans_Chan_Peek_M1 N c.1.1 c.2.1 c.2.2.1 c.2.2.2.1 c.2.2.2.2.1 c.2.2.2.2.2.1 c.2.2.2.2.2.2.1 c.2.2.2.2.2.2.2.1 c.2.2.2.2.2.2.2.2.1 c.2.2.2.2.2.2.2.2.2.1 c.2.2.2.2.2.2.2.2.2.2.1 c.2.2.2.2.2.2.2.2.2.2.2.1) old)
theorem Ev15_ok (R : Type) : EnvOK Try.prog (Ev15 N R) := EnvOK.addMth (Ev14_ok N R) (runM_ok (mi := chans_Chan_Peek_M1_I) (g := fun c => chans_Chan_Peek_M1 N c.1.1 c.2.1 c.2.2.1 c.2.2.2.1 c.2.2.2.2.1 c.2.2.2.2.2.1 c.2.2.2.2.2.2.1 c.2.2.2.2.2.2.2.1 c.2.2.2.2.2.2.2.2.1 c.2.2.2.2.2.2.2.2.2.1 c.2.2.2.2.2.2.2.2.2.2.1 c.2.2.2.2.2.2.2.2.2.2.2.1) hmx (Ev14_ok N _) (by kernel_rfl) (fun (c : CT chans_Chan_Peek_M1_I.sh) => chans_Chan_Peek_M1_S N c.1.1 c.2.1 c.2.2.1 c.2.2.2.1 c.2.2.2.2.1 c.2.2.2.2.2.1 c.2.2.2.2.2.2.1 c.2.2.2.2.2.2.2.1 c.2.2.2.2.2.2.2.2.1 c.2.2.2.2.2.2.2.2.2.1 c.2.2.2.2.2.2.2.2.2.2.1 c.2.2.2.2.2.2.2.2.2.2.2.1))
noncomputable def ref01_Same_M1_L4_I : LI := ⟨26, 0, [], ⟨[(0, .ty (.sl (.int .u8))), (1, .ty (.sl (.int .u8))), (5, .ty (.int .i64))], []⟩, [(.ret, ⟨[(4, .ty .bool)], []⟩), (.exit 0, ⟨[], []⟩)]⟩
noncomputable def ref01_Same_M1_L4 (N : Nat) (X : (((List Int) × ((List Int) × (Int × Unit))) × Unit) → Option ((((Bool × Unit) × Unit) ⊕ (Unit × Unit)))) (a0 : List (Int)) (b1 : List (Int)) (i5 : Int) : Option ((((Bool × Unit) × Unit) ⊕ (Unit × Unit))) :=
 bif (decide (i5 < (((List.length a0) : Nat) : Int))) then
  Option.bind (getI a0 i5) fun (v5 : Int) =>
  Option.bind (getI b1 i5) fun (v6 : Int) =>
  bif (!(decide (v5 = v6))) then
   some ((.inl ((false, ()), ())))
  else
   (X ((a0, (b1, ((IntKind.wrap .i64 (i5 + 1)), ()))), ()))
 else
  some ((.inr ((), ())))
noncomputable def ref01_Same_M1_L4_R (c : (((List Int) × ((List Int) × (Int × Unit))) × Unit)) : Option ((((Bool × Unit) × Unit) ⊕ (Unit × Unit))) := gl (fun X c => ref01_Same_M1_L4 N X c.1.1 c.1.2.1 c.1.2.2.1) N c
theorem ref01_Same_M1_L4_S (X : (((List Int) × ((List Int) × (Int × Unit))) × Unit) → Option ((((Bool × Unit) × Unit) ⊕ (Unit × Unit)))) (a0 : List (Int)) (b1 : List (Int)) (i5 : Int) : (roundK Try.prog (Ev15 N) 400 [11, 1] ref01_Same_M1_L4_I (loopAt Try.prog [11, 1] 4) X ((a0, b1, i5, ()), ())).run = ref01_Same_M1_L4 N X a0 b1 i5 := by kernel_rfl
noncomputable def Ev16 : (R : Type) → Env R := Env.addLp (Ev15 N) [11, 1] 0 4 (fun R => lpK Try.prog ref01_Same_M1_L4_I (fun X c => ref01_Same_M1_L4 N X c.1.1 c.1.2.1 c.1.2.2.1) N)
theorem Ev16_ok (R : Type) : EnvOK Try.prog (Ev16 N R) := EnvOK.addLp (Ev15_ok N R) (by kernel_rfl) (lpK_ok (li := ref01_Same_M1_L4_I) (G := fun X c => ref01_Same_M1_L4 N X c.1.1 c.1.2.1 c.1.2.2.1) hmx (Ev15_ok N _) (by kernel_rfl) loopAt_sub (fun (X : CT ref01_Same_M1_L4_I.sh → Option (OT ref01_Same_M1_L4_I.outs)) (c : CT ref01_Same_M1_L4_I.sh) => ref01_Same_M1_L4_S N X c.1.1 c.1.2.1 c.1.2.2.1) N)
noncomputable def ref01_Same_M1_I : MI := ⟨26, 1, 0, ⟨[(0, .ty (.sl (.int .u8))), (1, .ty (.sl (.int .u8)))], []⟩, [(.exit 0, ⟨[(0, .ty .bool)], []⟩)]⟩
noncomputable def ref01_Same_M1 (a0 : List (Int)) (b1 : List (Int)) : Option (((Bool × Unit) × Unit)) :=
 bif (!(decide ((((List.length a0) : Nat) : Int) = (((List.length b1) : Nat) : Int)))) then
  some (((false, ()), ()))
 else
  Option.bind (ref01_Same_M1_L4_R N ((a0, (b1, ((0 : Int), ()))), ())) fun v3 =>
  Sum.elim
   (fun (v4 : ((Bool × Unit) × Unit)) =>
   some (((v4.1.1, ()), ())))
   (fun (v4 : (Unit × Unit)) =>
   some (((true, ()), ()))) v3
theorem ref01_Same_M1_S (a0 : List (Int)) (b1 : List (Int)) : (runM Try.prog (Ev16 N) 400 [11, 1] 11 ref01_Same_M1_I ((a0, b1, ()), ())).run = ref01_Same_M1 N a0 b1 := by kernel_rfl
noncomputable def Ev17 : (R : Type) → Env R := Env.addMth (Ev16 N) 11 (fun R old => mthK Try.prog ref01_Same_M1_I (fun c => ref01_Same_M1 N c.1.1 c.1.2.1) old)
theorem Ev17_ok (R : Type) : EnvOK Try.prog (Ev17 N R) := EnvOK.addMth (Ev16_ok N R) (runM_ok (mi := ref01_Same_M1_I) (g := fun c => ref01_Same_M1 N c.1.1 c.1.2.1) hmx (Ev16_ok N _) (by kernel_rfl) (fun (c : CT ref01_Same_M1_I.sh) => ref01_Same_M1_S N c.1.1 c.1.2.1))
noncomputable def ref01_Same_M2_L4_I : LI := ⟨26, 0, [], ⟨[(0, .ty (.sl (.int .u8))), (1, .ty (.sl (.int .u8))), (5, .ty (.int .i64))], []⟩, [(.ret, ⟨[(4, .ty .bool)], []⟩), (.exit 0, ⟨[], []⟩)]⟩
noncomputable def ref01_Same_M2_L4 (N : Nat) (X : (((List Int) × ((List Int) × (Int × Unit))) × Unit) → Option ((((Bool × Unit) × Unit) ⊕ (Unit × Unit)))) (a0 : List (Int)) (b1 : List (Int)) (i5 : Int) : Option ((((Bool × Unit) × Unit) ⊕ (Unit × Unit))) :=
 bif (decide (i5 < (((List.length a0) : Nat) : Int))) then
  Option.bind (getI a0 i5) fun (v5 : Int) =>
  Option.bind (getI b1 i5) fun (v6 : Int) =>
  bif (!(decide (v5 = v6))) then
   some ((.inl ((false, ()), ())))
  else
   (X ((a0, (b1, ((IntKind.wrap .i64 (i5 + 1)), ()))), ()))
 else
  some ((.inr ((), ())))
noncomputable def ref01_Same_M2_L4_R (c : (((List Int) × ((List Int) × (Int × Unit))) × Unit)) : Option ((((Bool × Unit) × Unit) ⊕ (Unit × Unit))) := gl (fun X c => ref01_Same_M2_L4 N X c.1.1 c.1.2.1 c.1.2.2.1) N c
theorem ref01_Same_M2_L4_S (X : (((List Int) × ((List Int) × (Int × Unit))) × Unit) → Option ((((Bool × Unit) × Unit) ⊕ (Unit × Unit)))) (a0 : List (Int)) (b1 : List (Int)) (i5 : Int) : (roundK Try.prog (Ev17 N) 400 [11, 2] ref01_Same_M2_L4_I (loopAt Try.prog [11, 2] 4) X ((a0, b1, i5, ()), ())).run = ref01_Same_M2_L4 N X a0 b1 i5 := by kernel_rfl
noncomputable def Ev18 : (R : Type) → Env R := Env.addLp (Ev17 N) [11, 2] 0 4 (fun R => lpK Try.prog ref01_Same_M2_L4_I (fun X c => ref01_Same_M2_L4 N X c.1.1 c.1.2.1 c.1.2.2.1) N)
theorem Ev18_ok (R : Type) : EnvOK Try.prog (Ev18 N R) := EnvOK.addLp (Ev17_ok N R) (by kernel_rfl) (lpK_ok (li := ref01_Same_M2_L4_I) (G := fun X c => ref01_Same_M2_L4 N X c.1.1 c.1.2.1 c.1.2.2.1) hmx (Ev17_ok N _) (by kernel_rfl) loopAt_sub (fun (X : CT ref01_Same_M2_L4_I.sh → Option (OT ref01_Same_M2_L4_I.outs)) (c : CT ref01_Same_M2_L4_I.sh) => ref01_Same_M2_L4_S N X c.1.1 c.1.2.1 c.1.2.2.1) N)
noncomputable def ref01_Same_M2_I : MI := ⟨26, 1, 0, ⟨[(0, .ty (.sl (.int .u8))), (1, .lit (.own 0))], [.own (.int .u8) 5]⟩, [(.exit 0, ⟨[(0, .ty .bool)], []⟩)]⟩
noncomputable def ref01_Same_M2 (a0 : List (Int)) (h0 : List (Int)) : Option (((Bool × Unit) × Unit)) :=
 bif (!(decide ((((List.length a0) : Nat) : Int) = (((List.length h0) : Nat) : Int)))) then
  some (((false, ()), ()))
 else
  Option.bind (ref01_Same_M2_L4_R N ((a0, (h0, ((0 : Int), ()))), ())) fun v3 =>
  Sum.elim
   (fun (v4 : ((Bool × Unit) × Unit)) =>
   some (((v4.1.1, ()), ())))
   (fun (v4 : (Unit × Unit)) =>
   some (((true, ()), ()))) v3
theorem ref01_Same_M2_S (a0 : List (Int)) (h0 : List (Int)) : (runM Try.prog (Ev18 N) 400 [11, 2] 11 ref01_Same_M2_I ((a0, ()), (h0, ()))).run = ref01_Same_M2 N a0 h0 := by kernel_rfl
noncomputable def Ev19 : (R : Type) → Env R := Env.addMth (Ev18 N) 11 (fun R old => mthK Try.prog ref01_Same_M2_I (fun c => ref01_Same_M2 N c.1.1 c.2.1) old)
theorem Ev19_ok (R : Type) : EnvOK Try.prog (Ev19 N R) := EnvOK.addMth (Ev18_ok N R) (runM_ok (mi := ref01_Same_M2_I) (g := fun c => ref01_Same_M2 N c.1.1 c.2.1) hmx (Ev18_ok N _) (by kernel_rfl) (fun (c : CT ref01_Same_M2_I.sh) => ref01_Same_M2_S N c.1.1 c.2.1))
noncomputable def law38_ChansRelays (a0 : List (Int)) (b1 : List (Int)) (n2 : Int) : Option Bool :=
 bif (decide ((500 : Int) < (((List.length a0) : Nat) : Int))) then
  some ((cond (cond (cond true (cond true (!false) false) false) true false) true false))
 else
  Option.bind (some ((cond false true (decide ((500 : Int) < (((List.length b1) : Nat) : Int)))))) fun (v4 : Bool) =>
  bif v4 then
   some ((cond (cond (cond true (cond true (!false) false) false) true false) true false))
  else
   Option.bind (chans_New_M1 N (@Arr.cons Int 31 1 (@Arr.cons Int 30 0 (@Arr.cons Int 29 0 (@Arr.cons Int 28 0 (@Arr.cons Int 27 0 (@Arr.cons Int 26 0 (@Arr.cons Int 25 0 (@Arr.cons Int 24 0 (@Arr.cons Int 23 0 (@Arr.cons Int 22 0 (@Arr.cons Int 21 0 (@Arr.cons Int 20 0 (@Arr.cons Int 19 0 (@Arr.cons Int 18 0 (@Arr.cons Int 17 0 (@Arr.cons Int 16 0 (@Arr.cons Int 15 0 (@Arr.cons Int 14 0 (@Arr.cons Int 13 0 (@Arr.cons Int 12 0 (@Arr.cons Int 11 0 (@Arr.cons Int 10 0 (@Arr.cons Int 9 0 (@Arr.cons Int 8 0 (@Arr.cons Int 7 0 (@Arr.cons Int 6 0 (@Arr.cons Int 5 0 (@Arr.cons Int 4 0 (@Arr.cons Int 3 0 (@Arr.cons Int 2 0 (@Arr.cons Int 1 0 (@Arr.cons Int 0 0 (@Arr.nil Int)))))))))))))))))))))))))))))))))) fun v5 =>
   Option.bind (chans_New_M1 N (@Arr.cons Int 31 2 (@Arr.cons Int 30 0 (@Arr.cons Int 29 0 (@Arr.cons Int 28 0 (@Arr.cons Int 27 0 (@Arr.cons Int 26 0 (@Arr.cons Int 25 0 (@Arr.cons Int 24 0 (@Arr.cons Int 23 0 (@Arr.cons Int 22 0 (@Arr.cons Int 21 0 (@Arr.cons Int 20 0 (@Arr.cons Int 19 0 (@Arr.cons Int 18 0 (@Arr.cons Int 17 0 (@Arr.cons Int 16 0 (@Arr.cons Int 15 0 (@Arr.cons Int 14 0 (@Arr.cons Int 13 0 (@Arr.cons Int 12 0 (@Arr.cons Int 11 0 (@Arr.cons Int 10 0 (@Arr.cons Int 9 0 (@Arr.cons Int 8 0 (@Arr.cons Int 7 0 (@Arr.cons Int 6 0 (@Arr.cons Int 5 0 (@Arr.cons Int 4 0 (@Arr.cons Int 3 0 (@Arr.cons Int 2 0 (@Arr.cons Int 1 0 (@Arr.cons Int 0 0 (@Arr.nil Int)))))))))))))))))))))))))))))))))) fun v6 =>
   Option.bind (chans_Chan_Put_M1 N (0 : Int) a0 v5.2.1 v5.2.2.1 v5.2.2.2.1 v5.2.2.2.2.1 v5.2.2.2.2.2.1 v5.2.2.2.2.2.2.1 v5.2.2.2.2.2.2.2.1 v5.2.2.2.2.2.2.2.2.1 v5.2.2.2.2.2.2.2.2.2.1 (v5.2.2.2.2.2.2.2.2.2).snd.1 (v5.2.2.2.2.2.2.2.2.2).snd.2.1) fun v7 =>
   Option.bind (chans_Chan_Put_M1 N (0 : Int) b1 v6.2.1 v6.2.2.1 v6.2.2.2.1 v6.2.2.2.2.1 v6.2.2.2.2.2.1 v6.2.2.2.2.2.2.1 v6.2.2.2.2.2.2.2.1 v6.2.2.2.2.2.2.2.2.1 v6.2.2.2.2.2.2.2.2.2.1 (v6.2.2.2.2.2.2.2.2.2).snd.1 (v6.2.2.2.2.2.2.2.2.2).snd.2.1) fun v8 =>
   Option.bind (chans_Chan_Put_M1 N (1 : Int) b1 v7.2.1 v7.2.2.1 v7.2.2.2.1 v7.2.2.2.2.1 v7.2.2.2.2.2.1 v7.2.2.2.2.2.2.1 v7.2.2.2.2.2.2.2.1 v7.2.2.2.2.2.2.2.2.1 v7.2.2.2.2.2.2.2.2.2.1 (v7.2.2.2.2.2.2.2.2.2).snd.1 (v7.2.2.2.2.2.2.2.2.2).snd.2.1) fun v9 =>
   Option.bind (chans_Chan_Put_M1 N (1 : Int) a0 v8.2.1 v8.2.2.1 v8.2.2.2.1 v8.2.2.2.2.1 v8.2.2.2.2.2.1 v8.2.2.2.2.2.2.1 v8.2.2.2.2.2.2.2.1 v8.2.2.2.2.2.2.2.2.1 v8.2.2.2.2.2.2.2.2.2.1 (v8.2.2.2.2.2.2.2.2.2).snd.1 (v8.2.2.2.2.2.2.2.2.2).snd.2.1) fun v10 =>
   Option.bind (chans_Relay_M1 N (0 : Int) (0 : Int) (IntKind.wrap .i64 n2) v9.2.1 v9.2.2.1 v9.2.2.2.1 v9.2.2.2.2.1 v9.2.2.2.2.2.1 v9.2.2.2.2.2.2.1 v9.2.2.2.2.2.2.2.1 v9.2.2.2.2.2.2.2.2.1 v9.2.2.2.2.2.2.2.2.2.1 v10.2.1 v10.2.2.1 v10.2.2.2.1 v10.2.2.2.2.1 v10.2.2.2.2.2.1 v10.2.2.2.2.2.2.1 v10.2.2.2.2.2.2.2.1 v10.2.2.2.2.2.2.2.2.1 v10.2.2.2.2.2.2.2.2.2.1 (v9.2.2.2.2.2.2.2.2.2).snd.1 (v9.2.2.2.2.2.2.2.2.2).snd.2.1 (v10.2.2.2.2.2.2.2.2.2).snd.1 (v10.2.2.2.2.2.2.2.2.2).snd.2.1) fun v11 =>
   bif (decide (v7.1.1 = (0 : Int))) then
    bif (cond true (decide (v8.1.1 = (0 : Int))) false) then
     bif (cond true (decide (v9.1.1 = (0 : Int))) false) then
      bif (cond true (decide (v10.1.1 = (0 : Int))) false) then
       bif (cond true (decide (v11.1.2.1 = (0 : Int))) false) then
        bif (cond true (decide (v11.1.1 = (@minI (IntKind.wrap .i64 n2) (((List.length a0) : Nat) : Int)))) false) then
         Option.bind (dropI a0 (@minI (IntKind.wrap .i64 n2) (((List.length a0) : Nat) : Int))) fun (v12 : (List Int)) =>
         Option.bind (chans_Chan_Peek_M1 N (0 : Int) v11.2.1 v11.2.2.1 v11.2.2.2.1 v11.2.2.2.2.1 v11.2.2.2.2.2.1 v11.2.2.2.2.2.2.1 v11.2.2.2.2.2.2.2.1 v11.2.2.2.2.2.2.2.2.1 v11.2.2.2.2.2.2.2.2.2.1 ((v11.2.2.2.2.2.2.2.2.2).snd.2.2.2.2.2.2.2.2).snd.1 ((v11.2.2.2.2.2.2.2.2.2).snd.2.2.2.2.2.2.2.2).snd.2.1) fun v13 =>
         Option.bind (ref01_Same_M1 N v13.1.1 v12) fun v14 =>
         bif (cond true v14.1.1 false) then
          Option.bind (chans_Chan_Peek_M1 N (0 : Int) (v11.2.2.2.2.2.2.2.2.2).snd.1 (v11.2.2.2.2.2.2.2.2.2).snd.2.1 (v11.2.2.2.2.2.2.2.2.2).snd.2.2.1 (v11.2.2.2.2.2.2.2.2.2).snd.2.2.2.1 (v11.2.2.2.2.2.2.2.2.2).snd.2.2.2.2.1 (v11.2.2.2.2.2.2.2.2.2).snd.2.2.2.2.2.1 (v11.2.2.2.2.2.2.2.2.2).snd.2.2.2.2.2.2.1 (v11.2.2.2.2.2.2.2.2.2).snd.2.2.2.2.2.2.2.1 (v11.2.2.2.2.2.2.2.2.2).snd.2.2.2.2.2.2.2.2.1 ((v11.2.2.2.2.2.2.2.2.2).snd.2.2.2.2.2.2.2.2).snd.2.2.1 ((v11.2.2.2.2.2.2.2.2.2).snd.2.2.2.2.2.2.2.2).snd.2.2.2.1) fun v15 =>
          bif (roomB (List.length b1) 1) then
           Option.bind (takeI a0 (@minI (IntKind.wrap .i64 n2) (((List.length a0) : Nat) : Int))) fun (v16 : (List Int)) =>
           bif (roomB ((List.length b1) + (List.length v16)) 1) then
            Option.bind (ref01_Same_M2 N v15.1.1 (b1 ++ v16)) fun v17 =>
            bif (cond true v17.1.1 false) then
             Option.bind (chans_Chan_Peek_M1 N (1 : Int) v13.2.1 v13.2.2.1 v13.2.2.2.1 v13.2.2.2.2.1 v13.2.2.2.2.2.1 v13.2.2.2.2.2.2.1 v13.2.2.2.2.2.2.2.1 v13.2.2.2.2.2.2.2.2.1 v13.2.2.2.2.2.2.2.2.2.1 (v13.2.2.2.2.2.2.2.2.2).snd.1 (v13.2.2.2.2.2.2.2.2.2).snd.2.1) fun v18 =>
             Option.bind (ref01_Same_M1 N v18.1.1 b1) fun v19 =>
             bif (cond true v19.1.1 false) then
              Option.bind (chans_Chan_Peek_M1 N (1 : Int) v15.2.1 v15.2.2.1 v15.2.2.2.1 v15.2.2.2.2.1 v15.2.2.2.2.2.1 v15.2.2.2.2.2.2.1 v15.2.2.2.2.2.2.2.1 v15.2.2.2.2.2.2.2.2.1 v15.2.2.2.2.2.2.2.2.2.1 (v15.2.2.2.2.2.2.2.2.2).snd.1 (v15.2.2.2.2.2.2.2.2.2).snd.2.1) fun v20 =>
              Option.bind (ref01_Same_M1 N v20.1.1 a0) fun v21 =>
              bif (cond true v21.1.1 false) then
               some ((cond true (cond (cond (cond true (cond true (!false) false) false) true false) true false) false))
              else
               some (false)
             else
              some (false)
            else
             some (false)
           else
            none
          else
           none
         else
          some (false)
        else
         some (false)
       else
        some (false)
      else
       some (false)
     else
      some (false)
    else
     some (false)
   else
    some (false)
theorem law38_ChansRelays_S (a0 : List (Int)) (b1 : List (Int)) (n2 : Int) : (runK Try.prog (Ev19 N) 400 4 [(.sl (.int .u8)), (.sl (.int .u8)), (.int .u8)] [.bool] (a0, b1, n2, ())).run = law38_ChansRelays N a0 b1 n2 := by kernel_rfl
theorem law38_ChansRelays_C (a0 : List (Int)) (b1 : List (Int)) (n2 : Int) (y : Bool) (h : law38_ChansRelays N a0 b1 n2 = some y) : CallsK Try.prog 4 (valA [(.sl (.int .u8)), (.sl (.int .u8)), (.int .u8)] (a0, b1, n2, ())) (tupV (valR [.bool] y)) := runK_ok hmx (Ev19_ok N _) (okFn_ok (by kernel_rfl)) (by rw [law38_ChansRelays_S]; exact h)
end
end Go.Proofs.Ytcinflglacikjaa
namespace Go.Proofs.Ytcinflglacikjaa
set_option maxRecDepth 100000
open Go.RowKit
set_option linter.unusedVariables false
set_option linter.unusedSimpArgs false
def AllB (l : List Int) : Prop := ∀ x ∈ l, 0 ≤ x ∧ x < 256
theorem AllB.nil : AllB [] := fun _ h => by cases h
theorem AllB.cons {x : Int} {l : List Int} (h1 : 0 ≤ x ∧ x < 256) (h2 : AllB l) : AllB (x :: l) := fun y hy => by
  rcases List.mem_cons.1 hy with rfl | hy
  · exact h1
  · exact h2 y hy
theorem AllB.append {l m : List Int} (h1 : AllB l) (h2 : AllB m) : AllB (l ++ m) := fun y hy => by
  rcases List.mem_append.1 hy with hy | hy
  · exact h1 y hy
  · exact h2 y hy
theorem AllB.drop {l : List Int} (h : AllB l) (n : Nat) : AllB (l.drop n) := fun y hy => h y (List.mem_of_mem_drop hy)
theorem AllB.take {l : List Int} (h : AllB l) (n : Nat) : AllB (l.take n) := fun y hy => h y (List.mem_of_mem_take hy)
theorem AllB.get {l : List Int} (h : AllB l) (i : Nat) (hi : i < l.length) : 0 ≤ l[i] ∧ l[i] < 256 := h _ (List.getElem_mem hi)
theorem wf_u8 {n : Int} (h : (Lit.int .u8 n).wf = true) : 0 ≤ n ∧ n < 256 := by
  simp only [Lit.wf, Bool.and_eq_true, decide_eq_true_eq, IntKind.min, IntKind.max, IntKind.signed, IntKind.bits] at h
  simp at h
  omega
theorem dropI_nat {α : Type} (l : List α) {a : Int} {i : Nat} (ha : a = i) (h1 : i ≤ l.length) : dropI l a = some (l.drop i) := by
  subst ha
  unfold dropI
  rw [if_pos ⟨by omega, by omega⟩, Int.toNat_natCast]
theorem takeI_nat {α : Type} (l : List α) {a : Int} {i : Nat} (ha : a = i) (h1 : i ≤ l.length) : takeI l a = some (l.take i) := by
  subst ha
  unfold takeI
  rw [if_pos ⟨by omega, by omega⟩, Int.toNat_natCast]
end Go.Proofs.Ytcinflglacikjaa
namespace Go.Proofs.Ytcinflglacikjaa
set_option maxRecDepth 100000
open Go.RowKit
set_option linter.unusedVariables false
set_option linter.unusedSimpArgs false
set_option maxRecDepth 100000
theorem bpos {α : Type} {p : Prop} {i : Decidable p} {x y : α} (h : p) : (bif @decide p i then x else y) = x := by rw [decide_eq_true h]; rfl
theorem bneg {α : Type} {p : Prop} {i : Decidable p} {x y : α} (h : ¬ p) : (bif @decide p i then x else y) = y := by rw [decide_eq_false h]; rfl
theorem room_small {n b : Nat} (h : n ≤ 100000) (hb : b ≤ 100) : roomB n b = true := roomB_of (by have := big_len; omega) (by
 have : n * b ≤ 100000 * 100 := Nat.mul_le_mul h hb
 omega)
theorem rpos {α : Type} {n b : Nat} {x y : α} (h : n ≤ 100000) (hb : b ≤ 100) : (bif roomB n b then x else y) = x := by rw [room_small h hb]; rfl
theorem bnd {α β : Type} {o : Option α} {v : α} {k : α → Option β} (h : o = some v) : Option.bind o k = k v := by rw [h]; rfl
theorem bcp {α : Type} {p : Prop} {i : Decidable p} {x y : α} (h : p) : (bif (cond true (@decide p i) false) then x else y) = x := by rw [decide_eq_true h]; rfl
theorem bvp {α : Type} {v : Bool} {x y : α} (h : v = true) : (bif v then x else y) = x := by rw [h]; rfl
theorem bvn {α : Type} {v : Bool} {x y : α} (h : v = false) : (bif v then x else y) = y := by rw [h]; rfl
theorem same1 (a : List Int) (h : a.length ≤ 10000) : ref01_Same_M1 200000 a a = some ((true, ()), ()) := by
 have hl : ref01_Same_M1_L4_R 200000 ((a, (a, ((0 : Int), ()))), ()) = some (.inr ((), ())) := by
  have := gl_run (G := fun X c => ref01_Same_M1_L4 200000 X c.1.1 c.1.2.1 c.1.2.2.1) (fun i => ((a, (a, ((i : Int), ()))), ())) a.length (.inr ((), ())) (fun X i hi => ?_) (fun X => ?_) 200000 0 (Nat.zero_le _) (by omega)
  ·exact this
  ·have c1 : ((i : Int) < (a.length : Int)) := by omega
   have w : IntKind.wrap .i64 ((i : Int) + 1) = ((i + 1 : Nat) : Int) := by rw [wrap64 (by omega) (by omega)]; omega
   simp only [ref01_Same_M1_L4, c1, decide_true, cond_true, getI_lt a i hi, Option.bind_some, Bool.not_true, cond_false, w]
  ·have c1 : ¬ ((a.length : Int) < (a.length : Int)) := by omega
   simp only [ref01_Same_M1_L4, c1, decide_false, cond_false]
 unfold ref01_Same_M1
 refine (bvn (by rw [decide_eq_true rfl]; rfl)).trans ?_
 exact (bnd hl).trans rfl
theorem same2 (a : List Int) (h : a.length ≤ 10000) : ref01_Same_M2 200000 a a = some ((true, ()), ()) := by
 have hl : ref01_Same_M2_L4_R 200000 ((a, (a, ((0 : Int), ()))), ()) = some (.inr ((), ())) := by
  have := gl_run (G := fun X c => ref01_Same_M2_L4 200000 X c.1.1 c.1.2.1 c.1.2.2.1) (fun i => ((a, (a, ((i : Int), ()))), ())) a.length (.inr ((), ())) (fun X i hi => ?_) (fun X => ?_) 200000 0 (Nat.zero_le _) (by omega)
  ·exact this
  ·have c1 : ((i : Int) < (a.length : Int)) := by omega
   have w : IntKind.wrap .i64 ((i : Int) + 1) = ((i + 1 : Nat) : Int) := by rw [wrap64 (by omega) (by omega)]; omega
   simp only [ref01_Same_M2_L4, c1, decide_true, cond_true, getI_lt a i hi, Option.bind_some, Bool.not_true, cond_false, w]
  ·have c1 : ¬ ((a.length : Int) < (a.length : Int)) := by omega
   simp only [ref01_Same_M2_L4, c1, decide_false, cond_false]
 unfold ref01_Same_M2
 refine (bvn (by rw [decide_eq_true rfl]; rfl)).trans ?_
 exact (bnd hl).trans rfl
section
variable (h : Arr Int 32) (p0 t0 l0 p1 t1 l1 : Int) (b0 b1 d : List Int)
theorem put0 (hb : b0.length ≤ 1000) (hd : d.length ≤ 1000) : chans_Chan_Put_M1 200000 0 d true h p0 t0 l0 p1 t1 l1 false b0 b1 = some ((0, ()), (true, (h, (IntKind.wrap .i64 (p0 + (d.length : Int)), (t0, (l0, (p1, (t1, (l1, (false, (b0 ++ d, (b1, ())))))))))))) := by
 have w : IntKind.wrap .i64 ((65536 : Int) - (b0.length : Int)) = 65536 - (b0.length : Int) := wrap64 (by omega) (by omega)
 unfold chans_Chan_Put_M1
 refine (bnd (v := true) rfl).trans ?_
 refine (bvn rfl).trans ?_
 refine (bnd (v := true) rfl).trans ?_
 refine (bvn rfl).trans ?_
 refine (bvn rfl).trans ?_
 refine (bpos rfl).trans ?_
 refine (bneg (by rw [w]; omega)).trans ?_
 refine (bpos rfl).trans ?_
 refine (rpos (by omega) (by omega)).trans ?_
 rfl
theorem put1 (hb : b1.length ≤ 1000) (hd : d.length ≤ 1000) : chans_Chan_Put_M1 200000 1 d true h p0 t0 l0 p1 t1 l1 false b0 b1 = some ((0, ()), (true, (h, (p0, (t0, (l0, (IntKind.wrap .i64 (p1 + (d.length : Int)), (t1, (l1, (false, (b0, (b1 ++ d, ())))))))))))) := by
 have w : IntKind.wrap .i64 ((65536 : Int) - (b1.length : Int)) = 65536 - (b1.length : Int) := wrap64 (by omega) (by omega)
 unfold chans_Chan_Put_M1
 refine (bnd (v := true) rfl).trans ?_
 refine (bvn rfl).trans ?_
 refine (bnd (v := true) rfl).trans ?_
 refine (bvn rfl).trans ?_
 refine (bvn rfl).trans ?_
 refine (bneg (by omega)).trans ?_
 refine (bpos rfl).trans ?_
 refine (bneg (by rw [w]; omega)).trans ?_
 refine (bneg (by omega)).trans ?_
 refine (bpos rfl).trans ?_
 refine (rpos (by omega) (by omega)).trans ?_
 rfl
theorem len0 : chans_Chan_Len_M1 200000 0 true h p0 t0 l0 p1 t1 l1 false b0 b1 = some (((b0.length : Int), ()), (true, (h, (p0, (t0, (l0, (p1, (t1, (l1, (false, (b0, (b1, ())))))))))))) := by
 unfold chans_Chan_Len_M1
 refine (bnd (v := true) rfl).trans ?_
 refine (bvn rfl).trans ?_
 refine (bnd (v := true) rfl).trans ?_
 refine (bnd (v := false) rfl).trans ?_
 refine (bvn rfl).trans ?_
 refine (bpos rfl).trans ?_
 rfl
theorem peek0 (hb : b0.length ≤ 10000) : chans_Chan_Peek_M1 200000 0 true h p0 t0 l0 p1 t1 l1 false b0 b1 = some ((b0, ()), (true, (h, (p0, (t0, (l0, (p1, (t1, (l1, (false, (b0, (b1, ())))))))))))) := by
 unfold chans_Chan_Peek_M1
 refine (bnd (v := true) rfl).trans ?_
 refine (bvn rfl).trans ?_
 refine (bnd (v := true) rfl).trans ?_
 refine (bnd (v := false) rfl).trans ?_
 refine (bvn rfl).trans ?_
 refine (bpos rfl).trans ?_
 refine (rpos (by omega) (by omega)).trans ?_
 rfl
theorem peek1 (hb : b1.length ≤ 10000) : chans_Chan_Peek_M1 200000 1 true h p0 t0 l0 p1 t1 l1 false b0 b1 = some ((b1, ()), (true, (h, (p0, (t0, (l0, (p1, (t1, (l1, (false, (b0, (b1, ())))))))))))) := by
 unfold chans_Chan_Peek_M1
 refine (bnd (v := true) rfl).trans ?_
 refine (bvn rfl).trans ?_
 refine (bnd (v := true) rfl).trans ?_
 refine (bnd (v := false) rfl).trans ?_
 refine (bvn rfl).trans ?_
 refine (bneg (by omega)).trans ?_
 refine (bpos rfl).trans ?_
 refine (rpos (by omega) (by omega)).trans ?_
 rfl
theorem mini (k n : Nat) : minI (k : Int) (n : Int) = ((min k n : Nat) : Int) := by unfold minI; split <;> omega
theorem take0 (k : Nat) (hb : b0.length ≤ 10000) : chans_Chan_Take_M1 200000 0 (k : Int) true h p0 t0 l0 p1 t1 l1 false b0 b1 = some ((b0.take (min k b0.length), (0, ())), (true, (h, (p0, (IntKind.wrap .i64 (t0 + ((b0.take (min k b0.length)).length : Int)), (l0, (p1, (t1, (l1, (false, (b0.drop (min k b0.length), (b1, ())))))))))))) := by
 unfold chans_Chan_Take_M1
 refine (bnd (v := true) rfl).trans ?_
 refine (bvn rfl).trans ?_
 refine (bnd (v := true) rfl).trans ?_
 refine (bnd (v := false) (by rw [decide_eq_false (show ¬ (k : Int) < 0 by omega)]; rfl)).trans ?_
 refine (bvn rfl).trans ?_
 refine (bpos rfl).trans ?_
 have e1 : takeI b0 (minI (k : Int) (b0.length : Int)) = some (b0.take (min k b0.length)) := by rw [mini]; exact takeI_nat b0 rfl (by omega)
 have e2 : dropI b0 (minI (k : Int) (b0.length : Int)) = some (b0.drop (min k b0.length)) := by rw [mini]; exact dropI_nat b0 rfl (by omega)
 refine (bnd e1).trans ?_
 refine (rpos (by rw [List.length_take]; omega) (by omega)).trans ?_
 refine (bnd e2).trans ?_
 refine (bpos rfl).trans ?_
 refine (bpos rfl).trans ?_
 rfl
theorem put0e (hd : d.length ≤ 1000) : chans_Chan_Put_M1 200000 0 d true h p0 t0 l0 p1 t1 l1 false [] b1 = some ((0, ()), (true, (h, (IntKind.wrap .i64 (p0 + (d.length : Int)), (t0, (l0, (p1, (t1, (l1, (false, (d, (b1, ())))))))))))) := put0 h p0 t0 l0 p1 t1 l1 [] b1 d (by simp) hd
theorem put1e (hd : d.length ≤ 1000) : chans_Chan_Put_M1 200000 1 d true h p0 t0 l0 p1 t1 l1 false b0 [] = some ((0, ()), (true, (h, (p0, (t0, (l0, (IntKind.wrap .i64 (p1 + (d.length : Int)), (t1, (l1, (false, (b0, (d, ())))))))))))) := put1 h p0 t0 l0 p1 t1 l1 b0 [] d (by simp) hd
end
theorem relay0 (k : Nat) (hx hy : Arr Int 32) (p0 t0 l0 p1 t1 l1 q0 u0 m0 q1 u1 m1 : Int) (a0 a1 c0 c1 : List Int) (ha : a0.length ≤ 1000) (hc : c0.length ≤ 1000) :
  ∃ z1 z2 : Int, chans_Relay_M1 200000 0 0 (k : Int) true hx p0 t0 l0 p1 t1 l1 false true hy q0 u0 m0 q1 u1 m1 false a0 a1 c0 c1 = some ((((a0.take (min k a0.length)).length : Int), (0, ())), (true, (hx, (p0, (z1, (l0, (p1, (t1, (l1, (false, (true, (hy, (z2, (u0, (m0, (q1, (u1, (m1, (false, (a0.drop (min k a0.length), (a1, (c0 ++ a0.take (min k a0.length), (c1, ()))))))))))))))))))))))) := by
 have w : IntKind.wrap .i64 ((65536 : Int) - (c0.length : Int)) = 65536 - (c0.length : Int) := wrap64 (by omega) (by omega)
 refine ⟨IntKind.wrap .i64 (t0 + ((a0.take (min k a0.length)).length : Int)), IntKind.wrap .i64 (q0 + ((a0.take (min k a0.length)).length : Int)), ?_⟩
 unfold chans_Relay_M1
 refine (bnd (v := true) rfl).trans ?_
 refine (bvn rfl).trans ?_
 refine (bnd (v := true) rfl).trans ?_
 refine (bnd (v := false) rfl).trans ?_
 refine (bvn rfl).trans ?_
 refine (bnd (v := true) rfl).trans ?_
 refine (bvn rfl).trans ?_
 refine (bnd (v := true) rfl).trans ?_
 refine (bnd (v := false) rfl).trans ?_
 refine (bnd (v := false) (by rw [decide_eq_false (show ¬ (k : Int) < 0 by omega)]; rfl)).trans ?_
 refine (bnd (v := false) rfl).trans ?_
 refine (bvn rfl).trans ?_
 refine (bnd (len0 hx p0 t0 l0 p1 t1 l1 a0 a1)).trans ?_
 refine (bvn rfl).trans ?_
 refine (bpos rfl).trans ?_
 refine (bneg (by rw [w]; show ¬ (65536 - (c0.length : Int) < minI (k : Int) (a0.length : Int)); rw [mini]; omega)).trans ?_
 refine (bnd (take0 hx p0 t0 l0 p1 t1 l1 a0 a1 k (by omega))).trans ?_
 refine (bpos rfl).trans ?_
 refine (rpos (by show c0.length + (a0.take (min k a0.length)).length ≤ 100000; rw [List.length_take]; omega) (by omega)).trans ?_
 rfl
theorem law_ChansRelays (a b : List Int) (n : Int) (w1 : wfT (.sl (.int .u8)) a) (w2 : wfT (.sl (.int .u8)) b) (w3 : wfT (.int .u8) n) : law38_ChansRelays 200000 a b n = some true := by
 have hn : 0 ≤ n ∧ n < 256 := wf_u8 w3
 unfold law38_ChansRelays
 by_cases h1 : (500 : Int) < (a.length : Int)
 ·exact (bpos h1).trans rfl
 refine (bneg h1).trans ?_
 by_cases h2 : (500 : Int) < (b.length : Int)
 ·rw [decide_eq_true h2]
  exact (bnd (v := true) rfl).trans rfl
 rw [decide_eq_false h2]
 refine (bnd (v := false) rfl).trans ((bvn rfl).trans ?_)
 obtain ⟨k, hk⟩ : ∃ k : Nat, n = (k : Int) := ⟨n.toNat, by omega⟩
 subst hk
 have wn : IntKind.wrap .i64 (k : Int) = (k : Int) := wrap64 (by omega) (by omega)
 rw [wn]
 have hm : minI (k : Int) (a.length : Int) = ((min k a.length : Nat) : Int) := mini k a.length
 rw [hm]
 have e1 : takeI a ((min k a.length : Nat) : Int) = some (a.take (min k a.length)) := takeI_nat a rfl (by omega)
 have e2 : dropI a ((min k a.length : Nat) : Int) = some (a.drop (min k a.length)) := dropI_nat a rfl (by omega)
 refine (bnd rfl).trans ?_
 refine (bnd rfl).trans ?_
 refine (bnd (put0e _ _ _ _ _ _ _ [] a (by omega))).trans ?_
 refine (bnd (put0e _ _ _ _ _ _ _ [] b (by omega))).trans ?_
 refine (bnd (put1e _ _ _ _ _ _ _ a b (by omega))).trans ?_
 refine (bnd (put1e _ _ _ _ _ _ _ b a (by omega))).trans ?_
 obtain ⟨z1, z2, hr⟩ := relay0 k ⟨1 :: List.replicate 31 0, rfl⟩ ⟨2 :: List.replicate 31 0, rfl⟩ (IntKind.wrap .i64 (0 + (a.length : Int))) 0 0 (IntKind.wrap .i64 (0 + (b.length : Int))) 0 0 (IntKind.wrap .i64 (0 + (b.length : Int))) 0 0 (IntKind.wrap .i64 (0 + (a.length : Int))) 0 0 a b b a (by omega) (by omega)
 have hlt : (a.take (min k a.length)).length = min k a.length := by rw [List.length_take]; omega
 refine (bnd hr).trans ?_
 refine (bpos rfl).trans ?_
 refine (bcp rfl).trans ?_
 refine (bcp rfl).trans ?_
 refine (bcp rfl).trans ?_
 refine (bcp rfl).trans ?_
 refine (bcp (by show ((a.take (min k a.length)).length : Int) = _; rw [hlt])).trans ?_
 refine (bnd e2).trans ?_
 refine (bnd (peek0 _ _ _ _ _ _ _ _ _ (by rw [List.length_drop]; omega))).trans ?_
 refine (bnd (same1 _ (by rw [List.length_drop]; omega))).trans ?_
 refine (bvp rfl).trans ?_
 refine (bnd (peek0 _ _ _ _ _ _ _ _ _ (by rw [List.length_append, hlt]; omega))).trans ?_
 refine (rpos (by omega) (by omega)).trans ?_
 refine (bnd e1).trans ?_
 refine (rpos (by rw [hlt]; omega) (by omega)).trans ?_
 refine (bnd (same2 _ (by rw [List.length_append, hlt]; omega))).trans ?_
 refine (bvp rfl).trans ?_
 refine (bnd (peek1 _ _ _ _ _ _ _ _ b (by omega))).trans ?_
 refine (bnd (same1 b (by omega))).trans ?_
 refine (bvp rfl).trans ?_
 refine (bnd (peek1 _ _ _ _ _ _ _ _ a (by omega))).trans ?_
 refine (bnd (same1 a (by omega))).trans ?_
 exact (bvp rfl).trans rfl
end Go.Proofs.Ytcinflglacikjaa
