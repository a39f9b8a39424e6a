/-
  Code and calls: that they come to what the run on typed values says.
-/
import Derived.Test.YtpijcgohhjgdbaaK9
namespace Go.Proofs.Ytpijcgohhjgdbaa
set_option maxRecDepth 100000
open Go.RowKit
set_option linter.unusedVariables false
set_option linter.unusedSimpArgs false

section
variable {R : Type} {P : Program} {Γ : Env R}
/-- The slots as a function begins. -/
def slots0 (fn : Func) (args : List V) : List V := args ++ List.replicate (fn.ntmps - args.length) .any
theorem slots0_ok {n0 : Nat} {w : World} {B : List Nat} {η : List Value} {fn : Func} {args : List V} {cargs : List Value} (h : RelVs n0 w B η args cargs) : SlotsK n0 w B η (slots0 fn args) (cargs.toArray ++ Array.replicate (fn.ntmps - cargs.toArray.size) undef) := by
  have hl := h.1
  have key : ∀ t, Rel2 w B η ((slots0 fn args).getD t .any) ((cargs.toArray ++ Array.replicate (fn.ntmps - cargs.toArray.size) undef).getD t undef) ∧ FreshV n0 (ex ((slots0 fn args).getD t .any)) ((cargs.toArray ++ Array.replicate (fn.ntmps - cargs.toArray.size) undef).getD t undef) := by
    intro t
    simp only [slots0, List.getD_eq_getElem?_getD, Array.getD_eq_getD_getElem?]
    rw [List.getElem?_append, Array.getElem?_append]
    simp only [List.size_toArray, hl]
    by_cases ht : t < args.length
    · simp only [ht, if_true]
      obtain ⟨u, h1, h2⟩ := h.2 t _ (List.getElem?_eq_getElem ht)
      rw [List.getElem?_eq_getElem ht, List.getElem?_toArray, h1]
      exact h2
    · simp only [ht, if_false]
      rw [List.getElem?_replicate, Array.getElem?_replicate]
      split <;> exact ⟨trivial, fun h => by cases h⟩
  exact ⟨by simp [slots0, hl], fun t => (key t).1, fun t => (key t).2⟩
theorem callAt_ok (hΓ : EnvOK P Γ) {n : Nat} (ih : ∀ (path : List Nat) (m0 : Nat) (c : Code) (st : S2) (k : Exit → S2 → Tree R) (res : R), okC2 Γ.inl c = true → (∀ c' ∈ loopsOf c, c' ∈ loopsIn P path) → (evK P Γ n path m0 c st k).run = some res → ∃ ex st', (k ex st').run = some res ∧ Ends P m0 c st ex st') (path : List Nat) :
    CallIOK P (callAt P Γ (evK P Γ n) path) := by
  refine ⟨fun f args H k res h => ?_⟩
  unfold callAt at h
  split at h
  · rename_i hin
    split at h
    · rename_i e hcl
      have hc := hΓ.cln f e hcl
      unfold cloneK at h
      split at h
      · rename_i d l
        obtain ⟨e1, h1⟩ := castK_run h
        clear h
        subst e1
        simp only at h1
        rcases Tree.run_ite h1 with ⟨hr, h2⟩ | ⟨_, h2⟩
        · refine ⟨_, _, h2, hc.1, fun n0 Bx w B η cargs inv hrel => ?_⟩
          obtain ⟨v, q1, q2, _⟩ := hrel.2 0 (.lst (.int .u8) l) rfl
          have hcg : cargs = [v] := by
            have := hrel.1
            match cargs, this, q1 with
            | [x], _, q1 => simp at q1; rw [q1]
          subst hcg
          refine (hc.2 l hr w B v inv.lt inv.base.2 ((q2.get rfl).bare rfl)).mono fun e1 w' ⟨v', g1, g2, g3⟩ => ?_
          obtain ⟨B', i1, i2, a, n, c, rfl⟩ := inv.pushOwn g2 g3
          refine ⟨_, B', _, g1, ⟨.gr g2, i2, fun id v _ hv => push_old η _ id v hv, g2.mono inv.base.1⟩, by rw [List.map_append]; exact i1, ?_, fun hfr => by cases hfr⟩
          have hl : η.length = H.length := by have := inv.len; simpa using this
          exact Rel.own _ _ _ _ _ (by rw [← hl, List.getElem?_append_right (Nat.le_refl _)]; simp)
        · cases h2
      · cases h
    obtain ⟨fn, c, hf, hb, hok, hnm⟩ := hΓ.inl f hin
    rw [hf] at h
    simp only [hb] at h
    obtain ⟨ex, st', h1, h2⟩ := ih _ _ _ _ _ _ hok (fun c' hc' => by simp only [loopsIn, hf, hb]; exact hc') h
    have key : ∀ {r}, (ex = .normal ∨ ex = .ret) → (k r st'.heap).run = some res ∧ (∀ (n0 : Nat) (Bx : List Nat) (ds : List Deferred) (a : Act) (w : World) (B : List Nat) (η : List Value), SimK n0 Bx ds st' a w B η → ∃ v, (results fn a.tmps).run P w = .ok v w ∧ Rel2 w B η r v ∧ FreshV n0 (Go.Proofs.Ytpijcgohhjgdbaa.ex r) v) →
        ∃ r H', (k r H').run = some res ∧ (∃ fn, P.funcs[f]? = some fn ∧ fn.name ≠ "runtime.NumGoroutine" ∧ fn.body ≠ none) ∧
        ∀ (n0 : Nat) (Bx : List Nat) (w : World) (B : List Nat) (η : List Value) (cargs : List Value), Inv n0 Bx w B η (H.map exE) → RelVs n0 w B η args cargs →
          Calls P f cargs.toArray w fun e w' => ∃ v B' η', e = .returned v ∧ Goes n0 H.length w B η w' B' η' ∧ Inv n0 Bx w' B' η' (H'.map exE) ∧ Rel2 w' B' η' r v ∧ FreshV n0 (Go.Proofs.Ytpijcgohhjgdbaa.ex r) v := by
      intro r hex hr
      refine ⟨r, st'.heap, hr.1, ⟨fn, hf, hnm, by rw [hb]; exact fun h => by cases h⟩, fun n0 Bx w B η cargs inv hrel => calls_of_wp hf hb ?_⟩
      refine h2 n0 Bx [] _ w B η _ ⟨rfl, inv, slots0_ok hrel⟩ (fun a' w' B' η' hs hg => ?_)
      obtain ⟨v, q1, q2, q3⟩ := hr.2 n0 Bx [] a' w' B' η' hs
      rcases hex with rfl | rfl
      · exact ⟨hs.defers, v, q1, v, B', η', rfl, hg, hs.inv, q2, q3⟩
      · exact ⟨hs.defers, v, q1, v, B', η', rfl, hg, hs.inv, q2, q3⟩
    split at h1
    · obtain ⟨r, q1, q2⟩ := resK_ok h1
      exact key (.inl rfl) ⟨q1, q2⟩
    · obtain ⟨r, q1, q2⟩ := resK_ok h1
      exact key (.inr rfl) ⟨q1, q2⟩
    · cases h1
  · cases h
theorem evK_ok (hm : P.follows .mixedOrders = true) (hΓ : EnvOK P Γ) : ∀ (n : Nat) (path : List Nat) (m0 : Nat) (c : Code) (st : S2) (k : Exit → S2 → Tree R) (res : R), okC2 Γ.inl c = true → (∀ c' ∈ loopsOf c, c' ∈ loopsIn P path) → (evK P Γ n path m0 c st k).run = some res → ∃ ex st', (k ex st').run = some res ∧ Ends P m0 c st ex st'
  | 0, path, m0, c, st, k, res, _, _, h => by cases h
  | n + 1, path, m0, c, st, k, res, hok, hsub, h => by
    have ih := evK_ok hm hΓ n
    cases c with
    | skip => exact ⟨_, _, h, fun n0 Bx ds a w B η Q hs hQ => wp_skip (hQ a w B η hs (Goes.refl _ _ _ _ _))⟩
    | label l => exact ⟨_, _, h, fun n0 Bx ds a w B η Q hs hQ => wp_label (hQ a w B η hs (Goes.refl _ _ _ _ _))⟩
    | exit id => exact ⟨_, _, h, fun n0 Bx ds a w B η Q hs hQ => wp_exit (hQ a w B η hs (Goes.refl _ _ _ _ _))⟩
    | ret => exact ⟨_, _, h, fun n0 Bx ds a w B η Q hs hQ => wp_ret (hQ a w B η hs (Goes.refl _ _ _ _ _))⟩
    | region id ops draw =>
      cases draw with
      | false =>
        obtain ⟨st', h1, h2⟩ := evOpsI_ok hΓ.fns (callAt_ok hΓ ih (id :: path)) _ _ _ _ h
        exact ⟨_, st', h1, fun n0 Bx ds a w B η Q hs hQ => wp_seqRegion (h2 n0 m0 Bx ds a w B η Q hs hQ)⟩
      | true =>
        unfold evK at h
        simp only at h
        obtain ⟨sl1, h1, h2⟩ := evFr_ok hΓ.fns _ _ _ _ h
        obtain ⟨st', h3, h4⟩ := evCh_ok hΓ.fns (callAt_ok hΓ ih (id :: path)) _ _ _ _ h1
        refine ⟨_, st', h3, fun n0 Bx ds a w B η Q hs hQ => ?_⟩
        obtain ⟨B1, hs1, hg1⟩ := frzOps_ok (m0 := m0) (Γ.mv path id) ops st B hs
        simp only [okC2] at hok
        exact draw_ok hm hok h2 h4 hs1 (fun a2 w2 B2 η2 hs2 hg2 => hQ a2 w2 B2 η2 hs2 (hg1.trans hg2))
    | seq x y =>
      simp only [okC2, Bool.and_eq_true] at hok
      obtain ⟨ex1, st1, h1, h2⟩ := ih path m0 x st _ res hok.1 (fun c' hc' => hsub c' (by simp [loopsOf, hc'])) h
      split at h1
      · obtain ⟨ex2, st2, h3, h4⟩ := ih path m0 y st1 _ res hok.2 (fun c' hc' => hsub c' (by simp [loopsOf, hc'])) h1
        exact ⟨ex2, st2, h3, fun n0 Bx ds a w B η Q hs hQ => wp_seq (h2 n0 Bx ds a w B η _ hs fun a' w' B' η' hs' hg' => h4 n0 Bx ds a' w' B' η' Q hs' fun a2 w2 B2 η2 hs2 hg2 => hQ a2 w2 B2 η2 hs2 (hg'.trans hg2))⟩
      · rename_i hne
        exact ⟨ex1, st1, h1, fun n0 Bx ds a w B η Q hs hQ => wp_seq (h2 n0 Bx ds a w B η _ hs fun a' w' B' η' hs' hg' => by rw [then_ne (fun hc => hne hc)]; exact hQ a' w' B' η' hs' hg')⟩
    | cond x t e =>
      simp only [okC2, Bool.and_eq_true] at hok
      unfold evK at h
      simp only at h
      split at h
      · rename_i b hb
        have hx : ∀ {n0 : Nat} {Bx : List Nat} {ds : List Deferred} {a : Act} {w : World} {B : List Nat} {η : List Value}, SimK n0 Bx ds st a w B η → a.eval x = .bool b := fun hs => by
          have := (opV_rel hs.slots hs.inv.base.2 x).1
          rw [hb] at this
          exact Rel.ofC this
        rcases Tree.run_ite h with ⟨hbt, h1⟩ | ⟨hbf, h1⟩
        · obtain ⟨ex, st', h2, h3⟩ := ih path m0 t st k res hok.1 (fun c' hc' => hsub c' (by simp [loopsOf, hc'])) h1
          exact ⟨ex, st', h2, fun n0 Bx ds a w B η Q hs hQ => wp_cond_true (by rw [hx hs, hbt]) (h3 n0 Bx ds a w B η Q hs hQ)⟩
        · obtain ⟨ex, st', h2, h3⟩ := ih path m0 e st k res hok.2 (fun c' hc' => hsub c' (by simp [loopsOf, hc'])) h1
          exact ⟨ex, st', h2, fun n0 Bx ds a w B η Q hs hQ => wp_cond_false (by rw [hx hs, hbf]) (h3 n0 Bx ds a w B η Q hs hQ)⟩
      · cases h
    | block id c =>
      simp only [okC2] at hok
      obtain ⟨ex1, st1, h1, h2⟩ := ih path m0 c st _ res hok (fun c' hc' => hsub c' (by simpa [loopsOf] using hc')) h
      split at h1
      · rename_i i
        split at h1
        · rename_i hi
          exact ⟨_, st1, h1, fun n0 Bx ds a w B η Q hs hQ => wp_block (h2 n0 Bx ds a w B η _ hs fun a' w' B' η' hs' hg' => by simp only [Exit.inBlock, hi, if_true]; exact hQ a' w' B' η' hs' hg')⟩
        · rename_i hi
          exact ⟨_, st1, h1, fun n0 Bx ds a w B η Q hs hQ => wp_block (h2 n0 Bx ds a w B η _ hs fun a' w' B' η' hs' hg' => by simp only [Exit.inBlock, hi, if_false]; exact hQ a' w' B' η' hs' hg')⟩
      · rename_i hne
        exact ⟨ex1, st1, h1, fun n0 Bx ds a w B η Q hs hQ => wp_block (h2 n0 Bx ds a w B η _ hs fun a' w' B' η' hs' hg' => by
          cases ex1 <;> first | exact absurd rfl (hne _) | exact hQ a' w' B' η' hs' hg')⟩
    | loop c =>
      exact hΓ.lp path m0 c st k res (hsub c (by simp [loopsOf])) h
    | scope c =>
      simp only [okC2] at hok
      obtain ⟨ex1, st1, h1, h2⟩ := ih path m0 c st _ res hok (fun c' hc' => hsub c' (by simpa [loopsOf] using hc')) h
      split at h1
      · cases h1
      · rename_i hne
        exact ⟨ex1, st1, h1, fun n0 Bx ds a w B η Q hs hQ => wp_scope_straight (h2 n0 Bx ds a w B η _ hs fun a' w' B' η' hs' hg' => by
          cases ex1 <;> first | exact absurd rfl (hne _) | exact hQ a' w' B' η' hs' hg')⟩
    | _ => cases h
end
end Go.Proofs.Ytpijcgohhjgdbaa
