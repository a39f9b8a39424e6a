/-
  Layer 7, on plain data: it is alive; its laws.
-/
import Derived.Test.YtpnoegajljbfoaaQH1
namespace Go.Proofs.Ytpnoegajljbfoaa
set_option maxRecDepth 100000
open Go.RowKit
set_option linter.unusedVariables false
set_option linter.unusedSimpArgs false
set_option maxRecDepth 100000

/-! ### Chains -/
noncomputable def nx (K : Arr Int 64) (a : List Int) : List Int := (hm K a).l
noncomputable def chG (K : Arr Int 64) : Nat → List Int → List (List Int)
  | 0, _ => []
  | m + 1, a => nx K a :: chG K m (nx K a)
theorem chG_len (K : Arr Int 64) : ∀ m a, (chG K m a).length = m
  | 0, _ => rfl
  | m + 1, a => by rw [chG, List.length_cons, chG_len K m]
theorem nx_ok {K : Arr Int 64} {a : List Int} (h : a.length ≤ 3000) (ha : AllB a) : (nx K a).length = 32 ∧ AllB (nx K a) := ⟨(hm K a).h, hm_B h ha⟩
theorem chG_B (K : Arr Int 64) : ∀ m a, a.length ≤ 3000 → AllB a → ∀ p ∈ chG K m a, p.length = 32 ∧ AllB p
  | 0, a, _, _, p, hp => by cases hp
  | m + 1, a, h, ha, p, hp => by
    obtain ⟨h1, h2⟩ := nx_ok (K := K) h ha
    rcases List.mem_cons.1 hp with rfl | hp
    · exact ⟨h1, h2⟩
    · exact chG_B K m _ (by omega) h2 p hp
theorem chG_next (K : Arr Int 64) : ∀ m a i (h : i + 1 < (chG K m a).length), (chG K m a)[i + 1] = nx K ((chG K m a)[i]'(by omega))
  | 0, a, i, h => by simp [chG] at h
  | m + 1, a, 0, h => by
    cases m with
    | zero => simp [chG] at h
    | succ m => rfl
  | m + 1, a, i + 1, h => by
    have h' : i + 1 < (chG K m (nx K a)).length := by simp only [chG, List.length_cons] at h; omega
    exact chG_next K m (nx K a) i h'
theorem one_ok {a : List Int} (h : a.length ≤ 3000) (ha : AllB a) : ∀ p ∈ ([a] : List (List Int)), p.length ≤ 3000 ∧ AllB p := fun p hp => by
  rw [List.mem_singleton] at hp; subst hp; exact ⟨h, ha⟩
theorem flat_one' (a : List Int) : ([a] : List (List Int)).flatten = a := by simp
theorem hchain (k : List Int) (hk : k.length ≤ 4000) (hB : AllB k) (n : Int) : ∀ (m M : Nat) (a : List Int) (h0 : List (List Int)), m < M → a.length ≤ 3000 → AllB a → h0.length + m ≤ 32 → ((h0.length : Int) + m = minI n 32 ∨ (m = 0 ∧ minI n 32 ≤ (h0.length : Int))) →
    gl (fun X c => hmac_Chain_L3 200000 X c.1.1 c.1.2.1 c.1.2.2.1 c.2.1) M ((k, (n, (a, ()))), (h0, ())) = some ((), (h0 ++ chG (kb k) m a, ()))
  | m, 0, _, _, h, _, _, _, _ => by omega
  | 0, M + 1, a, h0, _, _, _, _, hn => by
    have c1 : ¬ ((h0.length : Int) < minI n 32) := by omega
    rw [gl_succ]
    simp only [hmac_Chain_L3, c1, decide_false, cond_false, chG, List.append_nil]
  | m + 1, M + 1, a, h0, hM, ha, haB, hl, hn => by
    have c1 : ((h0.length : Int) < minI n 32) := by omega
    have r : ∀ y : List Int, roomB (h0.length + ([y] : List (List Int)).length) 24 = true := fun y => roomB_of (by have := big_len; simp; omega) (by simp; omega)
    obtain ⟨h1, h2⟩ := nx_ok (K := kb k) ha haB
    rw [gl_succ]
    simp only [hmac_Chain_L3, c1, decide_true, cond_true, hof_ok k hk hB [a] (by simp) (one_ok ha haB) (by rw [flat_one']; omega), flat_one', Option.bind_some, r]
    refine (hchain k hk hB n m M (nx (kb k) a) (h0 ++ [nx (kb k) a]) (by omega) (by omega) h2 (by simp; omega) (by simp; omega)).trans ?_
    rw [chG, List.append_assoc]
    rfl
theorem rchain (k : List Int) (hk : k.length ≤ 4000) (hB : AllB k) (n : Int) : ∀ (m M : Nat) (a : List Int) (h0 : List (List Int)), m < M → a.length ≤ 3000 → AllB a → h0.length + m ≤ 32 → ((h0.length : Int) + m = minI n 32 ∨ (m = 0 ∧ minI n 32 ≤ (h0.length : Int))) →
    gl (fun X c => ref07_Chain_L4 200000 X c.1.1 c.1.2.1 c.1.2.2.1 c.1.2.2.2.1 c.2.1) M ((k, (n, (a, ((h0.length : Int), ())))), (h0, ())) = some ((), (h0 ++ chG (kb k) m a, ()))
  | m, 0, _, _, h, _, _, _, _ => by omega
  | 0, M + 1, a, h0, _, _, _, _, hn => by
    have c0 : ¬ ((h0.length : Int) < minI n 32) := by omega
    rw [gl_succ]
    by_cases c1 : ((h0.length : Int) < n)
    · have c2 : ¬ ((h0.length : Int) < (32 : Int)) := by
        unfold minI at c0
        split at c0 <;> omega
      simp only [ref07_Chain_L4, c1, c2, decide_true, decide_false, cond_true, cond_false, chG, List.append_nil]
    · simp only [ref07_Chain_L4, c1, decide_false, cond_false, chG, List.append_nil]
  | m + 1, M + 1, a, h0, hM, ha, haB, hl, hn => by
    have c0 : ((h0.length : Int) < minI n 32) := by omega
    have c1 : ((h0.length : Int) < n) := by unfold minI at c0; split at c0 <;> omega
    have c2 : ((h0.length : Int) < (32 : Int)) := by unfold minI at c0; split at c0 <;> omega
    have r : ∀ y : List Int, roomB (h0.length + ([y] : List (List Int)).length) 24 = true := fun y => roomB_of (by have := big_len; simp; omega) (by simp; omega)
    obtain ⟨h1, h2⟩ := nx_ok (K := kb k) ha haB
    have e3 : Go.IntKind.wrap .i64 ((h0.length : Int) + 1) = (((h0 ++ [nx (kb k) a]).length : Nat) : Int) := by rw [wrap64 (by omega) (by omega)]; simp
    rw [gl_succ]
    simp only [ref07_Chain_L4, c1, c2, decide_true, cond_true, rof_ok k hk hB a ha haB, Option.bind_some, r, e3]
    refine (rchain k hk hB n m M (nx (kb k) a) (h0 ++ [nx (kb k) a]) (by omega) (by omega) h2 (by simp; omega) (by simp; omega)).trans ?_
    rw [chG, List.append_assoc]
    rfl
theorem minI32 (n : Int) : (minI n 32).toNat ≤ 32 ∧ (((minI n 32).toNat : Int) = minI n 32 ∨ ((minI n 32).toNat = 0 ∧ minI n 32 ≤ 0)) := by
  have : minI n 32 ≤ 32 := by unfold minI; split <;> omega
  omega
theorem hchain_ok (k : List Int) (hk : k.length ≤ 4000) (hB : AllB k) (n : Int) : hmac_Chain 200000 k n = some (chG (kb k) (minI n 32).toNat []) := by
  have h := minI32 n
  have := hchain k hk hB n (minI n 32).toNat 200000 [] [] (by omega) (by simp) AllB.nil (by simp; omega) (by simp; omega)
  unfold hmac_Chain
  refine (congrArg (fun o => Option.bind o _) this).trans ?_
  rfl
theorem rchain_ok (k : List Int) (hk : k.length ≤ 4000) (hB : AllB k) (n : Int) : ref07_Chain 200000 k n = some (chG (kb k) (minI n 32).toNat []) := by
  have h := minI32 n
  have := rchain k hk hB n (minI n 32).toNat 200000 [] [] (by omega) (by simp) AllB.nil (by simp; omega) (by simp; omega)
  unfold ref07_Chain
  refine (congrArg (fun o => Option.bind o _) this).trans ?_
  rfl
/-! ### It is alive -/
theorem head07 : (hmac_Of 200000 [] []).map (fun D => D.l.take 4) = some [182, 19, 103, 154] := by decide +kernel
theorem alive07 : law07_alive 200000 = some true := by
  have h0 := hof_ok [] (by simp) AllB.nil [] (by simp) (by simp) (by simp)
  have hf0 : ([] : List (List Int)).flatten = [] := rfl
  rw [hf0] at h0
  have hd := head07
  rw [h0] at hd
  simp only [Option.map_some, Option.some.injEq] at hd
  have hlen := (hm (kb []) []).h
  have hBm := hm_B (b := kb []) (l := []) (by simp) AllB.nil
  have g : ∀ (i : Nat) (v : Int), i < 4 → ([182, 19, 103, 154] : List Int)[i]? = some v → (hm (kb []) []).l[i]? = some v := fun i v hi hv => by
    rw [← hd, List.getElem?_take, if_pos hi] at hv
    exact hv
  have i0 : Int.toNat (0 : Int) = 0 := rfl
  have i1 : Int.toNat (1 : Int) = 1 := rfl
  have i2 : Int.toNat (2 : Int) = 2 := rfl
  have i3 : Int.toNat (3 : Int) = 3 := rfl
  have k1 := check_ok [] (by simp) AllB.nil (hm (kb []) []).l (by omega) hBm [] (by simp) (by simp) (by simp)
  have k2 := check_ok [] (by simp) AllB.nil ((hm (kb []) []).l.take 31) (by rw [List.length_take]; omega) (hBm.take 31) [] (by simp) (by simp) (by simp)
  rw [hf0] at k1 k2
  have tk : takeI (hm (kb []) []).l (31 : Int) = some ((hm (kb []) []).l.take 31) := takeI_nat _ rfl (by omega)
  have ne : ¬ ((hm (kb []) []).l = (hm (kb []) []).l.take 31) := fun h => by
    have := congrArg List.length h
    rw [List.length_take] at this
    omega
  have hc := hchain_ok [] (by simp) AllB.nil 2
  have hcl : (((chG (kb []) (minI 2 32).toNat []).length : Nat) : Int) = 2 := by rw [chG_len]; rfl
  unfold law07_alive
  simp only [h0, Option.bind_some, i0, i1, i2, i3, g 0 182 (by omega) rfl, g 1 19 (by omega) rfl, g 2 103 (by omega) rfl, g 3 154 (by omega) rfl, decide_true, cond_true, k1, tk, k2, ne, decide_false, Bool.not_false, hc, hcl]
/-! ### The laws -/
theorem wf_arr {n : Nat} {a : Arr Int n} (h : AllB a.l) : wfB (.arr n (.int .u8)) a = true := wfB_b a h
theorem law_HmacLong (k b : List Int) (h1 : wfT (.sl (.int .u8)) k) (h2 : wfT (.sl (.int .u8)) b) : law07_HmacLong 200000 k b = some true := by
  have hk := wf_bytes h1
  have hb := wf_bytes h2
  unfold law07_HmacLong
  by_cases c1 : (300 : Int) < (k.length : Int)
  · simp only [c1, decide_true, cond_true, alive07, Option.bind_some]
  by_cases c2 : (200 : Int) < (b.length : Int)
  · simp only [c1, c2, decide_true, decide_false, cond_true, cond_false, alive07, Option.bind_some]
  by_cases c3 : (k.length : Int) ≤ 64
  · simp only [c1, c2, c3, decide_true, decide_false, cond_true, cond_false, alive07, Option.bind_some]
  have d := dig_ok k (by omega) hk
  have hdl := (dig k).h
  have e1 : kb (dig k).l = kb k := by
    unfold kb keyL
    rw [if_neg (by omega), if_pos (by omega)]
  have o1 := hof_ok k (by omega) hk [b] (by simp) (one_ok (by omega) hb) (by rw [flat_one']; omega)
  have o2 := hof_ok (dig k).l (by omega) d.2.1 [b] (by simp) (one_ok (by omega) hb) (by rw [flat_one']; omega)
  have y1 := hkey_ok k (by omega) hk
  have y2 := hkey_ok (dig k).l (by omega) d.2.1
  rw [flat_one'] at o1 o2
  rw [e1] at o2 y2
  have w1 := wf_arr (hm_B (b := kb k) (l := b) (by omega) hb)
  have w2 := wf_arr (kb_B (k := k) (by omega) hk)
  simp only [c1, c2, c3, decide_false, cond_true, cond_false, d.1, Option.bind_some, o1, o2, w1, w2, Bool.and_self, decide_true, y1, y2, alive07]
theorem law_HmacNoughts (k : List Int) (n : Int) (b : List Int) (h1 : wfT (.sl (.int .u8)) k) (hn : wfT (.int .u8) n) (h2 : wfT (.sl (.int .u8)) b) : law07_HmacNoughts 200000 k n b = some true := by
  have hk := wf_bytes h1
  have hb := wf_bytes h2
  have hn := wf_u8 hn
  unfold law07_HmacNoughts
  by_cases c1 : (64 : Int) < (k.length : Int)
  · simp only [c1, decide_true, cond_true, alive07, Option.bind_some]
  by_cases c2 : (200 : Int) < (b.length : Int)
  · simp only [c1, c2, decide_true, decide_false, cond_true, cond_false, alive07, Option.bind_some]
  have w0 : Go.IntKind.wrap .i64 ((65 : Int) - (k.length : Int)) = (65 : Int) - (k.length : Int) := wrap64 (by omega) (by omega)
  have wn : Go.IntKind.wrap .i64 n = n := wrap64 (by omega) (by omega)
  have c3 : ¬ ((65 : Int) - (k.length : Int) = 0) := by omega
  obtain ⟨m, hm⟩ : ∃ m : Nat, Int.tmod n ((65 : Int) - (k.length : Int)) = (m : Int) := ⟨(Int.tmod n ((65 : Int) - (k.length : Int))).toNat, by
    have := Int.tmod_nonneg ((65 : Int) - (k.length : Int)) (show 0 ≤ n by omega); omega⟩
  have hml : k.length + m ≤ 64 := by
    have := Int.tmod_lt_of_pos n (show 0 < (65 : Int) - (k.length : Int) by omega)
    omega
  have c4 : ((0 : Int) ≤ (m : Int)) := by omega
  have r1 : roomB k.length 1 = true := roomB_of (by have := big_len; omega) (by omega)
  have r2 : roomB (k.length + m) 1 = true := roomB_of (by have := big_len; omega) (by omega)
  have hB2 : AllB (k ++ List.replicate m 0) := hk.append fun x hx => by
    rw [(List.mem_replicate.1 hx).2]
    exact ⟨Int.le_refl _, by decide⟩
  have hl2 : (k ++ List.replicate m (0 : Int)).length = k.length + m := by simp
  have e1 : kb (k ++ List.replicate m 0) = kb k := by
    apply Arr.eq
    unfold kb keyL
    rw [if_neg (by omega), if_neg (by omega), over64 _ (by omega), over64 _ (by omega), hl2, List.append_assoc, List.replicate_append_replicate, show m + (64 - (k.length + m)) = 64 - k.length by omega]
  have o1 := hof_ok k (by omega) hk [b] (by simp) (one_ok (by omega) hb) (by rw [flat_one']; omega)
  have o2 := hof_ok (k ++ List.replicate m 0) (by omega) hB2 [b] (by simp) (one_ok (by omega) hb) (by rw [flat_one']; omega)
  have y1 := hkey_ok k (by omega) hk
  have y2 := hkey_ok (k ++ List.replicate m 0) (by omega) hB2
  rw [flat_one'] at o1 o2
  rw [e1] at o2 y2
  have w1 := wf_arr (hm_B (b := kb k) (l := b) (by omega) hb)
  have w2 := wf_arr (kb_B (k := k) (by omega) hk)
  simp only [c1, c2, w0, wn, c3, hm, c4, Int.toNat_natCast, r1, r2, decide_false, decide_true, cond_true, cond_false, Option.bind_some, o1, o2, w1, w2, Bool.and_self, y1, y2, alive07]
theorem law_HmacChains (k : List Int) (n : Int) (h1 : wfT (.sl (.int .u8)) k) (hn : wfT (.int .i64) n) : law07_HmacChains 200000 k n = some true := by
  have hk := wf_bytes h1
  unfold law07_HmacChains
  by_cases c1 : (200 : Int) < (k.length : Int)
  · simp only [c1, decide_true, cond_true, alive07, Option.bind_some]
  have hkl : k.length ≤ 4000 := by omega
  obtain ⟨L, hL⟩ : ∃ L, L = chG (kb k) (minI n 32).toNat [] := ⟨_, rfl⟩
  have hLl : L.length ≤ 32 := by rw [hL, chG_len]; exact (minI32 n).1
  have hLB : ∀ p ∈ L, p.length = 32 ∧ AllB p := by rw [hL]; exact chG_B _ _ _ (by simp) AllB.nil
  have hnx : ∀ i (h : i + 1 < L.length), L[i + 1] = nx (kb k) (L[i]'(by omega)) := by subst hL; exact chG_next _ _ _
  have hloop : law07_HmacChains_L7_R 200000 ((k, (L, (L, ((L.length : Int), ((0 : Int), ()))))), ()) = some (.inr ((), ())) := by
    refine gl_run (G := fun (X : (((List (Int)) × ((List (List (Int))) × ((List (List (Int))) × ((Int) × ((Int) × Unit))))) × Unit) → Option (((((Bool) × Unit) × Unit) ⊕ (Unit × Unit)))) c => law07_HmacChains_L7 200000 X c.1.1 c.1.2.1 c.1.2.2.1 c.1.2.2.2.1 c.1.2.2.2.2.1) (fun i => ((k, (L, (L, ((L.length : Int), (((i : Nat) : Int), ()))))), ())) L.length _ (fun X i hi => ?_) (fun X => ?_) 200000 0 (Nat.zero_le _) (by omega)
    · have q1 : ((i : Int) < (L.length : Int)) := by omega
      have e3 : Go.IntKind.wrap .i64 ((i : Int) + 1) = ((i + 1 : Nat) : Int) := by rw [wrap64 (by omega) (by omega)]; omega
      have hp := hLB L[i] (List.getElem_mem hi)
      have s := same05 (N := 200000) L[i] L[i] (by omega) (by omega)
      cases i with
      | zero =>
        have q2 : ¬ ((0 : Int) < (((0 : Nat) : Nat) : Int)) := by omega
        simp only [law07_HmacChains_L7, q1, decide_true, cond_true, getI_lt L 0 hi, Option.bind_some, s, Bool.not_true, cond_false, q2, decide_false, e3]
      | succ i =>
        have q2 : ((0 : Int) < ((i + 1 : Nat) : Int)) := by omega
        have e4 : Go.IntKind.wrap .i64 (((i + 1 : Nat) : Int) - 1) = ((i : Nat) : Int) := by rw [wrap64 (by omega) (by omega)]; omega
        have hp2 := hLB (L[i]'(by omega)) (List.getElem_mem _)
        have ck := check_ok k hkl hk L[i + 1] (by omega) hp.2 [L[i]'(by omega)] (by simp) (one_ok (by omega) hp2.2) (by rw [flat_one']; omega)
        rw [flat_one'] at ck
        have hq : (hm (kb k) (L[i]'(by omega))).l = L[i + 1] := (hnx i hi).symm
        simp only [law07_HmacChains_L7, q1, decide_true, cond_true, getI_lt L (i + 1) hi, Option.bind_some, s, Bool.not_true, cond_false, q2, e4, getI_lt L i (by omega), ck, hq, e3]
    · have q1 : ¬ ((L.length : Int) < (L.length : Int)) := by omega
      simp only [law07_HmacChains_L7, q1, decide_false, cond_false]
  simp only [c1, decide_false, cond_false, hchain_ok k hkl hk n, rchain_ok k hkl hk n, ← hL, Option.bind_some, decide_true, Bool.not_true]
  refine (congrArg (fun o => Option.bind o _) hloop).trans ?_
  simp only [Option.bind_some, Sum.elim_inr, alive07]
theorem gather07 (k : List Int) (s : List Int) (l : List (List Int)) (hl : l.length ≤ 10) : ∃ o, law07_HmacSeals_L5_R 200000 ((k, (l, (s, (l, ((l.length : Int), ((0 : Int), ())))))), (([] : List Int), ())) = some o ∧ (o = .inl ((true, ()), ()) ∨ (o = .inr ((k, (l, (s, ()))), (l.flatten, ())) ∧ ∀ p ∈ l, p.length ≤ 100)) := by
  have hsn : ∀ i (hi : i < l.length), (l.take (i + 1)).flatten = (l.take i).flatten ++ l[i] := fun i hi => by
    have : l.take (i + 1) = l.take i ++ [l[i]] := by rw [List.take_add_one, List.getElem?_eq_getElem hi]; rfl
    rw [this, List.flatten_append]
    simp
  obtain ⟨o, h1, h2⟩ := gl_inv (G := fun (X : (((List (Int)) × ((List (List (Int))) × ((List (Int)) × ((List (List (Int))) × ((Int) × ((Int) × Unit)))))) × ((List (Int)) × Unit)) → Option (((((Bool) × Unit) × Unit) ⊕ (((List (Int)) × ((List (List (Int))) × ((List (Int)) × Unit))) × ((List (Int)) × Unit))))) c => law07_HmacSeals_L5 200000 X c.1.1 c.1.2.1 c.1.2.2.1 c.1.2.2.2.1 c.1.2.2.2.2.1 c.1.2.2.2.2.2.1 c.2.1)
    (fun n c => ∃ i : Nat, c = ((k, (l, (s, (l, ((l.length : Int), ((i : Int), ())))))), ((l.take i).flatten, ())) ∧ i ≤ l.length ∧ n = l.length - i ∧ ∀ p ∈ l.take i, p.length ≤ 100)
    (fun o => o = .inl ((true, ()), ()) ∨ (o = .inr ((k, (l, (s, ()))), (l.flatten, ())) ∧ ∀ p ∈ l, p.length ≤ 100)) (fun X n c ⟨i, hc, hi, hn, hp⟩ => by
      subst hc
      rcases Nat.lt_or_ge i l.length with hlt | hge
      · have c1 : ((i : Int) < (l.length : Int)) := by omega
        have c2 : Go.IntKind.wrap .i64 ((i : Int) + 1) = ((i + 1 : Nat) : Int) := by rw [wrap64 (by omega) (by omega)]; omega
        by_cases h100 : (100 : Int) < (l[i].length : Int)
        · left
          refine ⟨.inl ((true, ()), ()), ?_, .inl rfl⟩
          simp only [law07_HmacSeals_L5, c1, decide_true, cond_true, getI_lt l i hlt, Option.bind_some, h100, alive07]
        · right
          have ht : (l.take i).flatten.length ≤ 100 * 10 := by
            have := flat_len (l.take i) 100 hp
            rw [List.length_take] at this
            omega
          have c3 : roomB ((l.take i).flatten.length + l[i].length) 1 = true := roomB_of (by have := big_len; omega) (by omega)
          refine ⟨l.length - (i + 1), ((k, (l, (s, (l, ((l.length : Int), (((i + 1 : Nat) : Int), ())))))), ((l.take (i + 1)).flatten, ())), by omega, ⟨i + 1, rfl, hlt, rfl, ?_⟩, ?_⟩
          · intro p hp'
            rw [List.take_add_one, List.getElem?_eq_getElem hlt] at hp'
            rcases List.mem_append.1 hp' with h | h
            · exact hp p h
            · simp at h; subst h; omega
          · simp only [law07_HmacSeals_L5, c1, decide_true, cond_true, getI_lt l i hlt, Option.bind_some, h100, decide_false, cond_false, c3, c2, hsn i hlt]
      · left
        have c1 : ¬ ((i : Int) < (l.length : Int)) := by omega
        refine ⟨.inr ((k, (l, (s, ()))), ((l.take i).flatten, ())), by simp only [law07_HmacSeals_L5, c1, decide_false, cond_false], .inr ⟨?_, ?_⟩⟩
        · rw [List.take_of_length_le hge]
        · intro p hp'
          exact hp p (by rw [List.take_of_length_le hge]; exact hp')) 200000 l.length ((k, (l, (s, (l, ((l.length : Int), ((0 : Int), ())))))), (([] : List Int), ())) (by omega) ⟨0, rfl, by omega, by omega, by simp⟩
  exact ⟨o, h1, h2⟩
theorem law_HmacSeals (k : List Int) (l : List (List Int)) (s : List Int) (h1 : wfT (.sl (.int .u8)) k) (h3 : wfT (.sl (.sl (.int .u8))) l) (h2 : wfT (.sl (.int .u8)) s) : law07_HmacSeals 200000 k l s = some true := by
  have hk := wf_bytes h1
  have hs := wf_bytes h2
  have hlB : ∀ p ∈ l, AllB p := fun p hp => wf_bytes (h3.2 p hp)
  unfold law07_HmacSeals
  by_cases c1 : (200 : Int) < (k.length : Int)
  · simp only [c1, decide_true, cond_true, alive07, Option.bind_some]
  by_cases c2 : (10 : Int) < (l.length : Int)
  · simp only [c1, c2, decide_true, decide_false, cond_true, cond_false, alive07, Option.bind_some]
  by_cases c3 : (100 : Int) < (s.length : Int)
  · simp only [c1, c2, c3, decide_true, decide_false, cond_true, cond_false, alive07, Option.bind_some]
  obtain ⟨o, g1, g2⟩ := gather07 k s l (by omega)
  simp only [c1, c2, c3, decide_true, decide_false, cond_true, cond_false]
  refine (congrArg (fun o => Option.bind o _) g1).trans ?_
  rcases g2 with rfl | ⟨rfl, hp⟩
  · simp only [Option.bind_some, Sum.elim_inl]
  · have hfl : l.flatten.length ≤ 1000 := by
      have := flat_len l 100 hp
      omega
    have hfB : AllB l.flatten := fun x hx => by
      obtain ⟨p, hp, hx⟩ := List.mem_flatten.1 hx
      exact hlB p hp x hx
    have hps : ∀ p ∈ l, p.length ≤ 3000 ∧ AllB p := fun p hq => ⟨by have := hp p hq; omega, hlB p hq⟩
    have hkl : k.length ≤ 4000 := by omega
    have hmB := hm_B (b := kb k) (l := l.flatten) (by omega) hfB
    have hml := (hm (kb k) l.flatten).h
    have o1 := rof_ok k hkl hk l.flatten (by omega) hfB
    have o2 := hof_ok k hkl hk l (by omega) hps (by omega)
    have k1 := check_ok k hkl hk s (by omega) hs l (by omega) hps (by omega)
    have k2 := check_ok k hkl hk (hm (kb k) l.flatten).l (by omega) hmB l (by omega) hps (by omega)
    have s1 := same05 (N := 200000) (hm (kb k) l.flatten).l s (by omega) (by omega)
    have w1 := wf_arr hmB
    have w2 := wf_arr (kb_B (k := k) hkl hk)
    simp only [Option.bind_some, Sum.elim_inr, o1, o2, w1, w2, Bool.and_self, cond_true, cond_false, decide_true, hkey_ok k hkl hk, rkey_ok k hkl hk, k1, s1, beq_self_eq_true, k2, alive07]
end Go.Proofs.Ytpnoegajljbfoaa
