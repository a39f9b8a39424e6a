/-
  Layer 4, on plain data: parts.
-/
import Derived.Test.YtpjamebfpgmjdaaDoorQM5
namespace Go.Proofs.YtpjamebfpgmjdaaDoor
set_option maxRecDepth 100000
open Go.RowKit
set_option linter.unusedVariables false
set_option linter.unusedSimpArgs false
set_option maxRecDepth 100000

theorem wf_parts {l : List (List Int)} (h : wfT (.sl (.sl (.int .u8))) l) : ∀ p ∈ l, AllB p := fun p hp => wf_bytes (h.2 p hp)
theorem gather05 (l : List (List Int)) (hl : l.length ≤ 20) : ∃ o, law04_Md4Parts_L5_R 200000 ((l, (l, ((l.length : Int), ((0 : Int), ())))), (([] : List Int), ())) = some o ∧ (o = .inl ((true, ()), ()) ∨ (o = .inr ((l, ()), (l.flatten, ())) ∧ ∀ p ∈ l, p.length ≤ 100)) := by
  have hsn : ∀ i (hi : i < l.length), (l.take (i + 1)).flatten = (l.take i).flatten ++ l[i] := fun i hi => by
    have : l.take (i + 1) = l.take i ++ [l[i]] := by rw [List.take_add_one, List.getElem?_eq_getElem hi]; rfl
    rw [this, List.flatten_append]
    simp
  obtain ⟨o, h1, h2⟩ := gl_inv (G := fun (X : (((List (List Int)) × ((List (List Int)) × ((Int) × ((Int) × Unit)))) × ((List Int) × Unit)) → Option (((((Bool) × Unit) × Unit) ⊕ (((List (List Int)) × Unit) × ((List Int) × Unit))))) c => law04_Md4Parts_L5 200000 X c.1.1 c.1.2.1 c.1.2.2.1 c.1.2.2.2.1 c.2.1)
    (fun n c => ∃ i : Nat, c = ((l, (l, ((l.length : Int), ((i : Int), ())))), ((l.take i).flatten, ())) ∧ i ≤ l.length ∧ n = l.length - i ∧ ∀ p ∈ l.take i, p.length ≤ 100)
    (fun o => o = .inl ((true, ()), ()) ∨ (o = .inr ((l, ()), (l.flatten, ())) ∧ ∀ p ∈ l, p.length ≤ 100)) (fun X n c ⟨i, hc, hi, hn, hp⟩ => by
      subst hc
      rcases Nat.lt_or_ge i l.length with hlt | hge
      · have c1 : ((i : Int) < (l.length : Int)) := by omega
        have c2 : Go.IntKind.wrap .i64 ((i : Int) + 1) = ((i + 1 : Nat) : Int) := by rw [wrap64 (by omega) (by omega)]; omega
        by_cases h100 : (100 : Int) < (l[i].length : Int)
        · left
          refine ⟨.inl ((true, ()), ()), ?_, .inl rfl⟩
          simp only [law04_Md4Parts_L5, c1, decide_true, cond_true, getI_lt l i hlt, Option.bind_some, h100, alive04]
        · right
          have ht : (l.take i).flatten.length ≤ 100 * 20 := by
            have := flat_len (l.take i) 100 hp
            rw [List.length_take] at this
            omega
          have c3 : roomB ((l.take i).flatten.length + l[i].length) 1 = true := roomB_of (by have := big_len; omega) (by omega)
          refine ⟨l.length - (i + 1), ((l, (l, ((l.length : Int), (((i + 1 : Nat) : Int), ())))), ((l.take (i + 1)).flatten, ())), by omega, ⟨i + 1, rfl, hlt, rfl, ?_⟩, ?_⟩
          · intro p hp'
            rw [List.take_add_one, List.getElem?_eq_getElem hlt] at hp'
            rcases List.mem_append.1 hp' with h | h
            · exact hp p h
            · simp at h; subst h; omega
          · simp only [law04_Md4Parts_L5, c1, decide_true, cond_true, getI_lt l i hlt, Option.bind_some, h100, decide_false, cond_false, c3, c2, hsn i hlt]
      · left
        have c1 : ¬ ((i : Int) < (l.length : Int)) := by omega
        refine ⟨.inr ((l, ()), ((l.take i).flatten, ())), by simp only [law04_Md4Parts_L5, c1, decide_false, cond_false], .inr ⟨?_, ?_⟩⟩
        · rw [List.take_of_length_le hge]
        · intro p hp'
          exact hp p (by rw [List.take_of_length_le hge]; exact hp')) 200000 l.length ((l, (l, ((l.length : Int), ((0 : Int), ())))), (([] : List Int), ())) (by omega) ⟨0, rfl, by omega, by omega, by simp⟩
  exact ⟨o, h1, h2⟩
theorem blocks04 (l : List (List Int)) (all : List Int) : ∀ (m M : Nat) (t t' : Arr Int 4) (w : List Int), m < M → w.length = 64 * m → w.length < 100000 → AllW t.l → AllB w → runB 200000 m t w = some t' →
    gl (fun X c => law04_Md4Parts_L17 200000 X c.1.1 c.1.2.1 c.1.2.2.1 c.2.1) M ((l, (all, (w, ()))), (t, ())) = some ((l, (all, ())), (t', ()))
  | 0, M + 1, t, t', w, hM, hw, hl, ht, hb, hr => by
    have c1 : ¬ ((0 : Int) < (w.length : Int)) := by omega
    have hr : some t = some t' := hr
    injection hr with hr
    subst hr
    rw [gl_succ]
    simp only [law04_Md4Parts_L17, c1, decide_false, cond_false]
  | m + 1, M + 1, t, t', w, hM, hw, hl, ht, hb, hr => by
    have c1 : ((0 : Int) < (w.length : Int)) := by omega
    obtain ⟨a, a1, a2⟩ := toArr64 w (by omega)
    obtain ⟨t1, h1, h2, h3⟩ := block_pair t a ht (by rw [a1]; exact hb.take 64)
    have h4 : md4_behind 200000 t a ks04 = some t1 := by
      obtain ⟨t2, _, g2, g3⟩ := behind_pair (N := 200000) (by omega) t a ht (by rw [a1]; exact hb.take 64)
      rw [h3] at g3
      injection g3 with g3
      subst g3; exact g2
    unfold runB stepB at hr
    rw [a2, Option.bind_some, h4, Option.bind_some] at hr
    have ih := blocks04 l all m M t1 t' (w.drop 64) (by omega) (by rw [List.length_drop]; omega) (by rw [List.length_drop]; omega) h1 (hb.drop 64) hr
    have k1 : takeI w (64 : Int) = some (w.take 64) := takeI_nat w (i := 64) rfl (by omega)
    have k2 : dropI w (64 : Int) = some (w.drop 64) := dropI_nat w (i := 64) rfl (by omega)
    rw [gl_succ]
    simp only [law04_Md4Parts_L17, c1, decide_true, cond_true, k1, k2, Option.bind_some, a2, h2]
    exact ih
theorem law_Md4Parts (l : List (List Int)) (h : wfT (.sl (.sl (.int .u8))) l) : law04_Md4Parts 200000 l = some true := by
  have hB := wf_parts h
  unfold law04_Md4Parts
  by_cases hl : (20 : Int) < (l.length : Int)
  · simp only [hl, decide_true, cond_true, alive04, Option.bind_some]
  · have hl' : l.length ≤ 20 := by omega
    obtain ⟨o, o1, o2⟩ := gather05 l hl'
    simp only [hl, decide_false, cond_false]
    refine (congrArg (fun o => Option.bind o _) o1).trans ?_
    simp only [Option.bind_some]
    rcases o2 with rfl | ⟨rfl, h100⟩
    · rfl
    · have hfl := flat_len l 100 h100
      obtain ⟨a, b, c, d, ht, D, r1, r2, r3, r4⟩ := of_ok l (by omega) (fun p hp => ⟨by have := h100 p hp; omega, hB p hp⟩) (by omega)
      have hfB : AllB l.flatten := fun x hx => by
        obtain ⟨p, hp, hx⟩ := List.mem_flatten.1 hx
        exact hB p hp x hx
      have D2 : md4_Of 200000 [l.flatten] = some D := by
        have hone : ([l.flatten] : List (List Int)).flatten = l.flatten := by simp
        obtain ⟨a', b', c', d', ht', D', r1', r2', r3', r4'⟩ := of_ok [l.flatten] (by simp) (fun p hp => by
          rw [List.mem_singleton] at hp; subst hp; exact ⟨by omega, hfB⟩) (by rw [hone]; omega)
        rw [hone, r1] at r1'
        injection r1' with r1'
        injection r1' with r1'
        injection r1' with e1 r1'
        injection r1' with e2 r1'
        injection r1' with e3 r1'
        injection r1' with e4 r1'
        subst e1 e2 e3 e4
        rw [r4', Arr.eq (r3'.trans r3.symm)]
      have hn : 0 ≤ (l.flatten.length : Int) ∧ (l.flatten.length : Int) < 18446744073709551616 := by omega
      have hwn : Go.IntKind.wrap .u64 (l.flatten.length : Int) = (l.flatten.length : Int) := wrapU64 (by omega) (by omega)
      have htail := md4_tail_ok (N := 200000) (l.flatten.length : Int) hn (by omega)
      have htl := tail4_len (l.flatten.length : Int)
      have hnz := nz_lt (l.flatten.length : Int)
      have hlen := nb_ok l.flatten.length l.flatten rfl
      have hm : Int.tmod (Go.IntKind.wrap .i64 ((l.flatten.length : Int) + ((tail4 (l.flatten.length : Int)).length : Int))) 64 = 0 := by
        rw [List.length_append] at hlen
        rw [wrap64 (by omega) (by omega), Int.tmod_eq_emod_of_nonneg (by omega)]
        omega
      have c1 : ¬ (((tail4 (l.flatten.length : Int)).length : Int) < 9) := by omega
      have c2 : ¬ ((72 : Int) < ((tail4 (l.flatten.length : Int)).length : Int)) := by omega
      have g0 : getI (tail4 (l.flatten.length : Int)) 0 = some 128 := rfl
      have c3 : roomB l.flatten.length 1 = true := roomB_of (by have := big_len; omega) (by omega)
      have c4 : roomB (l.flatten.length + (tail4 (l.flatten.length : Int)).length) 1 = true := roomB_of (by have := big_len; omega) (by omega)
      have hloop : law04_Md4Parts_L17_R 200000 ((l, (l.flatten, ((l.flatten ++ tail4 (l.flatten.length : Int)), ()))), (first04, ())) = some ((l, (l.flatten, ())), ((⟨[a, b, c, d], ht⟩ : Arr Int 4), ())) :=
        blocks04 l l.flatten (nb l.flatten.length) 200000 first04 _ _ (by rw [List.length_append] at hlen; omega) hlen (by rw [List.length_append]; omega) first_W (hfB.append (tail4_B _)) r1
      simp only [Sum.elim_inr]
      simp only [hwn, htail, Option.bind_some, hm, decide_true, Bool.not_true, cond_false, c1, c2, decide_false, g0, c3, c4, cond_true]
      refine (congrArg (fun o => Option.bind o _) hloop).trans ?_
      have hw := wfB_b D (by rw [r3]; exact dg4_B _ _ _ _)
      have z0 : D.l[Int.toNat 0]? = some (a % 256) := by rw [r3]; rfl
      have z1 : D.l[Int.toNat 15]? = some (d / 16777216 % 256) := by rw [r3]; rfl
      have y0 : ([a, b, c, d] : List Int)[Int.toNat 0]? = some a := rfl
      have y4 : ([a, b, c, d] : List Int)[Int.toNat 3]? = some d := rfl
      have p1 : (2 : Int) ^ min (Int.toNat 24) (IntKind.bits .u32) = 16777216 := by decide +kernel
      have p2 : Go.IntKind.wrap .u8 (Int.fdiv d 16777216) = d / 16777216 % 256 := by rw [Int.fdiv_eq_ediv_of_nonneg _ (by decide), IntKind.wrap_u8]
      have p3 : Go.IntKind.wrap .u8 a = a % 256 := by rw [IntKind.wrap_u8]
      simp only [Option.bind_some, D2, r4, hw, Bool.and_self, cond_true, decide_true, z0, z1, y0, y4, p1, p2, p3, alive04]
end Go.Proofs.YtpjamebfpgmjdaaDoor
