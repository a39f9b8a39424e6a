/-
  Parts of my own, one behind the other: QHp.
-/
import Derived.Test.YtailoanlfbpfnaaDoorMrg5
/-
  Layer 16, on plain data: a response's status, by the program and by the reference.
-/
namespace Go.Proofs.YtailoanlfbpfnaaDoor
set_option maxRecDepth 100000
open Go.RowKit
set_option linter.unusedVariables false
set_option linter.unusedSimpArgs false
set_option maxRecDepth 100000

/-! ### What digits tell, and how many they are -/
theorem vm_lo : ∀ (s : List UInt8) (acc u : Nat), vm acc s = some u → acc * 10 ^ s.length ≤ u
  | [], acc, u, h => by simp only [vm, Option.some.injEq] at h; subst h; simp
  | c :: r, acc, u, h => by
    unfold vm at h
    split at h
    · cases h
    · have := vm_lo r _ u h
      rw [List.length_cons, Nat.pow_succ]
      have h2 : acc * 10 * 10 ^ r.length ≤ (acc * 10 + (c.toNat - 48)) * 10 ^ r.length := Nat.mul_le_mul_right _ (by omega)
      have h3 : acc * (10 ^ r.length * 10) = acc * 10 * 10 ^ r.length := by rw [Nat.mul_comm (10 ^ r.length) 10, Nat.mul_assoc]
      omega
theorem vm_two : ∀ (s : List UInt8) (u : Nat), s.length ≤ 2 → s.all digC = true → vm 0 s = some u → u < 100
  | [], u, _, _, h => by simp only [vm, Option.some.injEq] at h; omega
  | [a], u, _, hd, h => by
    simp only [List.all_cons, List.all_nil, Bool.and_true] at hd
    have ha := (dig_iff _).1 hd
    simp only [vm] at h
    split at h
    · cases h
    · simp only [Option.some.injEq] at h; omega
  | [a, b], u, _, hd, h => by
    simp only [List.all_cons, List.all_nil, Bool.and_true, Bool.and_eq_true] at hd
    have ha := (dig_iff _).1 hd.1
    have hb := (dig_iff _).1 hd.2
    simp only [vm] at h
    split at h
    · cases h
    · split at h
      · cases h
      · simp only [Option.some.injEq] at h; omega
  | a :: b :: c :: r, u, hl, _, _ => by simp at hl
/-- The status that digits tell. -/
def statD (D : List UInt8) : Int × Int := if (numR D).2 = 0 ∧ 100 ≤ Go.IntKind.wrap .i64 (numR D).1 ∧ Go.IntKind.wrap .i64 (numR D).1 ≤ 599 then (Go.IntKind.wrap .i64 (numR D).1, 0) else (0, 3)
theorem wrap_big {u : Nat} (h : 1000 ≤ u) (h2 : u < 18446744073709551616) : ¬ (100 ≤ Go.IntKind.wrap .i64 (u : Int) ∧ Go.IntKind.wrap .i64 (u : Int) ≤ 599) := by
  rw [IntKind.wrap_i64]
  omega
theorem vm_hi : ∀ (s : List UInt8) (acc u : Nat), acc < 18446744073709551616 → vm acc s = some u → u < 18446744073709551616
  | [], acc, u, ha, h => by simp only [vm, Option.some.injEq] at h; omega
  | c :: r, acc, u, ha, h => by
    unfold vm at h
    split at h
    · cases h
    · exact vm_hi r _ u (by omega) h
theorem stat_bad {D : List UInt8} (h : numB D = false ∨ D.length ≤ 2 ∨ 4 ≤ D.length) : statD D = (0, 3) := by
  unfold statD
  refine if_neg fun hc => ?_
  obtain ⟨h1, h2⟩ := hc
  unfold numR at h1 h2
  cases hn : numB D with
  | false => rw [hn] at h1; simp at h1
  | true =>
    rw [hn, if_pos rfl] at h1 h2
    rcases h with h | h | h
    · rw [hn] at h; cases h
    · unfold numB at hn
      rw [Bool.and_eq_true] at hn
      cases hv : vm 0 D with
      | none => rw [hv] at h1; simp at h1
      | some u =>
        rw [hv] at h2
        simp only at h2
        have := vm_two D u h hn.1 hv
        rw [wrap64 (by omega) (by omega)] at h2
        omega
    · unfold numB at hn
      rw [Bool.and_eq_true] at hn
      have hn2 := of_decide_eq_true hn.2
      cases hv : vm 0 D with
      | none => rw [hv] at h1; simp at h1
      | some u =>
        rw [hv] at h2
        simp only at h2
        refine wrap_big ?_ (vm_hi D 0 u (by omega) hv) h2
        match D, hv with
        | d :: r, hv =>
          have hd : digC d = true := by have := hn.1; rw [List.all_cons, Bool.and_eq_true] at this; exact this.1
          have hdd := (dig_iff _).1 hd
          have h48 : d ≠ 48 := by
            rcases hn2.2 with hx | hx
            · rw [hx] at h; simp at h
            · exact hx
          have hge : 1 ≤ d.toNat - 48 := by
            have : d.toNat ≠ 48 := fun hc => h48 (UInt8.toNat_inj.1 hc)
            omega
          unfold vm at hv
          split at hv
          · cases hv
          · have hlo := vm_lo r _ u hv
            have hp : 10 ^ 3 ≤ 10 ^ r.length := Nat.pow_le_pow_right (by omega) (by simp at h; omega)
            have : 1 * 10 ^ 3 ≤ (0 * 10 + (d.toNat - 48)) * 10 ^ r.length := Nat.mul_le_mul (by omega) hp
            omega
theorem stat_three {a b c : UInt8} (ha : digC a = true) (hb : digC b = true) (hc : digC c = true) : statD [a, b, c] = if 100 ≤ (100 * (a.toNat - 48) + 10 * (b.toNat - 48) + (c.toNat - 48) : Nat) ∧ (100 * (a.toNat - 48) + 10 * (b.toNat - 48) + (c.toNat - 48) : Nat) ≤ 599 then (((100 * (a.toNat - 48) + 10 * (b.toNat - 48) + (c.toNat - 48) : Nat) : Int), 0) else (0, 3) := by
  have da := (dig_iff _).1 ha
  have db := (dig_iff _).1 hb
  have dc := (dig_iff _).1 hc
  by_cases h48 : a = 48
  · have h1 : numB [a, b, c] = false := by
      unfold numB
      rw [Bool.and_eq_false_iff]
      refine .inr (decide_eq_false fun hx => ?_)
      rcases hx.2 with hy | hy
      · simp at hy
      · exact hy h48
    rw [stat_bad (.inl h1)]
    subst h48
    rw [if_neg (by have : (48 : UInt8).toNat = 48 := rfl; omega)]
  · have h1 : numB [a, b, c] = true := by
      unfold numB
      simp only [List.all_cons, ha, hb, hc, List.all_nil, Bool.and_true, Bool.true_and]
      exact decide_eq_true ⟨by simp, .inr h48⟩
    have hv : vm 0 [a, b, c] = some (100 * (a.toNat - 48) + 10 * (b.toNat - 48) + (c.toNat - 48)) := by
      simp only [vm]
      rw [if_neg (by omega), if_neg (by omega), if_neg (by omega)]
      congr 1
      omega
    unfold statD numR
    rw [h1, if_pos rfl, hv]
    simp only
    rw [wrap64 (by omega) (by omega)]
    by_cases hr : 100 ≤ (100 * (a.toNat - 48) + 10 * (b.toNat - 48) + (c.toNat - 48) : Nat) ∧ (100 * (a.toNat - 48) + 10 * (b.toNat - 48) + (c.toNat - 48) : Nat) ≤ 599
    · rw [if_pos hr, if_pos ⟨trivial, by omega, by omega⟩]
    · rw [if_neg hr, if_neg (fun hx => hr ⟨by omega, by omega⟩)]
/-! ### The status behind the first blank -/
theorem spn_cons (x : UInt8) (t : List UInt8) (c : UInt8) : spn (x :: t) c = if x = c then 0 else spn t c + 1 := by
  unfold spn ix
  rw [List.findIdx?_cons]
  by_cases h : x = c
  · subst h; simp
  · rw [if_neg h]
    have hb : (x == c) = false := by simpa using h
    rw [hb]
    cases List.findIdx? (fun b => b == c) t <;> simp
/-- The status that the document's answer reads. -/
def statR : List UInt8 → Int × Int
  | a :: b :: c :: t => if (t = [] ∨ t.getD 0 0 = 32) ∧ digC a = true ∧ digC b = true ∧ digC c = true ∧ 100 ≤ (100 * (a.toNat - 48) + 10 * (b.toNat - 48) + (c.toNat - 48) : Nat) ∧ (100 * (a.toNat - 48) + 10 * (b.toNat - 48) + (c.toNat - 48) : Nat) ≤ 599 then (((100 * (a.toNat - 48) + 10 * (b.toNat - 48) + (c.toNat - 48) : Nat) : Int), 0) else (0, 3)
  | _ => (0, 3)
theorem dig32 {x : UInt8} (h : digC x = true) : x ≠ 32 := fun hx => by subst hx; exact absurd h (by decide)
theorem stat_eq (r : List UInt8) : statD (r.take (spn r 32)) = statR r := by
  have short : r.length ≤ 2 → statD (r.take (spn r 32)) = (0, 3) := fun h => stat_bad (.inr (.inl (by simp; omega)))
  match r, short with
  | [], short => exact short (by simp)
  | [a], short => exact short (by simp)
  | [a, b], short => exact short (by simp)
  | a :: b :: c :: t, _ =>
    rw [statR]
    by_cases hd : digC a = true ∧ digC b = true ∧ digC c = true
    · obtain ⟨ha, hb, hc⟩ := hd
      have hs : spn (a :: b :: c :: t) 32 = spn t 32 + 3 := by
        rw [spn_cons, if_neg (dig32 ha), spn_cons, if_neg (dig32 hb), spn_cons, if_neg (dig32 hc)]
      rw [hs]
      simp only [List.take_succ_cons]
      match t with
      | [] =>
        have : spn ([] : List UInt8) 32 = 0 := rfl
        rw [this, List.take_zero, stat_three ha hb hc]
        simp only [ha, hb, hc, true_or, true_and]
      | x :: t' =>
        by_cases hx : x = 32
        · have : spn (x :: t') 32 = 0 := by rw [spn_cons, if_pos hx]
          rw [this, List.take_zero, stat_three ha hb hc]
          have h0 : (x :: t').getD 0 0 = 32 := hx
          simp only [ha, hb, hc, h0, or_true, true_and]
        · have : spn (x :: t') 32 = spn t' 32 + 1 := by rw [spn_cons, if_neg hx]
          rw [this, stat_bad (.inr (.inr (by simp only [List.take_succ_cons, List.length_cons]; omega)))]
          refine (if_neg fun hh => ?_).symm
          rcases hh.1 with h1 | h1
          · cases h1
          · exact hx h1
    · rw [if_neg (fun hh => hd ⟨hh.2.1, hh.2.2.1, hh.2.2.2.1⟩)]
      by_cases hl : spn (a :: b :: c :: t) 32 ≤ 2
      · exact stat_bad (.inr (.inl (by simp only [List.length_take]; omega)))
      · obtain ⟨k, hk⟩ : ∃ k, spn (a :: b :: c :: t) 32 = k + 3 := ⟨spn (a :: b :: c :: t) 32 - 3, by omega⟩
        rw [hk]
        simp only [List.take_succ_cons]
        refine stat_bad (.inl ?_)
        unfold numB
        rw [Bool.and_eq_false_iff]
        refine .inl ?_
        simp only [List.all_cons]
        cases e1 : digC a <;> cases e2 : digC b <;> cases e3 : digC c <;> simp_all
/-- A response's first line. -/
def ver16 : List UInt8 := [72, 84, 84, 80, 47, 49, 46, 49]
def hfirst (ls : List (List UInt8)) : Int × Int := match ls with
  | [] => (0, 3)
  | l :: _ => match ix l 32 with
    | none => (0, 3)
    | some i => if l.take i = ver16 then statD ((l.drop (i + 1)).take (spn (l.drop (i + 1)) 32)) else (0, 15)
theorem hmay_ok (N : Nat) (x : Int) : httpp_may N x = some (decide (100 ≤ x ∧ x ≤ 599)) := by
  unfold httpp_may
  by_cases h1 : (100 : Int) ≤ x
  · by_cases h2 : x ≤ 599
    · simp only [decide_eq_true h1, decide_eq_true h2, cond_true, Option.bind_some, decide_eq_true (And.intro h1 h2)]
    · simp only [decide_eq_true h1, decide_eq_false h2, cond_true, cond_false, Option.bind_some, decide_eq_false (fun hx : 100 ≤ x ∧ x ≤ 599 => h2 hx.2)]
  · simp only [decide_eq_false h1, cond_false, Option.bind_some, decide_eq_false (fun hx : 100 ≤ x ∧ x ≤ 599 => h1 hx.1)]
theorem rmay_ok (N : Nat) (x : Int) : ref16_may N x = some (decide (100 ≤ x ∧ x ≤ 599)) := by
  unfold ref16_may
  by_cases h1 : (100 : Int) ≤ x
  · by_cases h2 : x ≤ 599
    · simp only [decide_eq_true h1, decide_eq_true h2, cond_true, Option.bind_some, decide_eq_true (And.intro h1 h2)]
    · simp only [decide_eq_true h1, decide_eq_false h2, cond_true, cond_false, Option.bind_some, decide_eq_false (fun hx : 100 ≤ x ∧ x ≤ 599 => h2 hx.2)]
  · simp only [decide_eq_false h1, cond_false, Option.bind_some, decide_eq_false (fun hx : 100 ≤ x ∧ x ≤ 599 => h1 hx.1)]
theorem first_end (N : Nat) (D : List UInt8) (h : D.length < N) (hb : D.length ≤ 1000000) :
    (Option.bind (words_Number N D) fun (v9 : (Int × Int)) =>
       bif (!(decide (v9.2 = (0 : Int)))) then
        Option.bind (some (Bool.true)) fun (v10 : Bool) =>
        bif v10 then
         some (((0 : Int), (3 : Int)))
        else
         some (((Go.IntKind.wrap .i64 v9.1), (0 : Int)))
       else
        Option.bind (httpp_may N (Go.IntKind.wrap .i64 v9.1)) fun (v10 : Bool) =>
        Option.bind (some ((@cond Bool Bool.false Bool.true (!v10)))) fun (v11 : Bool) =>
        bif v11 then
         some (((0 : Int), (3 : Int)))
        else
         some (((Go.IntKind.wrap .i64 v9.1), (0 : Int)))) = some (statD D) := by
  rw [number_ok D h hb, Option.bind_some]
  unfold statD
  by_cases h0 : (numR D).2 = 0
  · rw [decide_eq_true h0, Bool.not_true, cond_false, hmay_ok, Option.bind_some]
    by_cases hr : 100 ≤ Go.IntKind.wrap .i64 (numR D).1 ∧ Go.IntKind.wrap .i64 (numR D).1 ≤ 599
    · rw [decide_eq_true hr, if_pos ⟨h0, hr⟩]; rfl
    · rw [decide_eq_false hr, if_neg (fun hx => hr hx.2)]; rfl
  · rw [decide_eq_false h0, if_neg (fun hx => h0 hx.1)]; rfl
theorem first_ok {N : Nat} (ls : List (List UInt8)) (hb : ∀ l ∈ ls, l.length < 100000) (hN : 100000 ≤ N) : httpp_first N ls = some (hfirst ls) := by
  unfold httpp_first hfirst
  match ls with
  | [] => rfl
  | l :: r =>
    have hl := hb l (by simp)
    have c0 : ¬ ((((List.length (l :: r)) : Nat) : Int) = (0 : Int)) := by simp only [List.length_cons]; omega
    have g0 : getI (l :: r) (0 : Int) = some l := rfl
    rw [decide_eq_false c0, cond_false, g0, Option.bind_some]
    by_cases h1 : l = [32]
    · subst h1; rfl
    · have hne : ¬ (([32] : List UInt8) = l) := fun h => h1 h.symm
      have h32 : idxB l ((((32 : UInt8).toNat : Nat)) : Int) = (match ix l 32 with | some k => ((k : Nat) : Int) | none => -1) := idx_eq _ 32
      simp only [decide_eq_false hne, cond_true, cond_false, Option.bind_some]
      cases hix : ix l 32 with
      | none =>
        rw [hix] at h32
        simp only at h32
        have c1 : ¬ ((0 : Int) ≤ -1) := by omega
        simp only [h32, decide_eq_false c1, cond_false]
      | some k =>
        rw [hix] at h32
        simp only at h32
        obtain ⟨hk, _, _⟩ := ix_some hix
        have c1 : (0 : Int) ≤ ((k : Nat) : Int) := by omega
        have t1 : takeI l ((k : Nat) : Int) = some (l.take k) := takeI_nat l rfl (by omega)
        have e5 : Go.IntKind.wrap .i64 (((k : Nat) : Int) + (((List.length ([32] : List UInt8)) : Nat) : Int)) = ((k + 1 : Nat) : Int) := by simp only [List.length_singleton]; rw [wrap64 (by omega) (by omega)]; omega
        have t2 : dropI l ((k + 1 : Nat) : Int) = some (l.drop (k + 1)) := dropI_nat l rfl (by omega)
        simp only [h32, decide_eq_true c1, cond_true, t1, Option.bind_some, e5, t2]
        by_cases hv : l.take k = ver16
        · rw [if_pos hv]
          have hv' : l.take k = [72, 84, 84, 80, 47, 49, 46, 49] := hv
          simp only [hv', decide_true, Bool.not_true, cond_false]
          obtain ⟨v5, h5⟩ : ∃ v5, v5 = l.drop (k + 1) := ⟨_, rfl⟩
          have l5 : v5.length < 100000 := by rw [h5]; simp; omega
          rw [← h5]
          by_cases h2 : v5 = [32]
          · subst h2
            have hd : dropI ([32] : List UInt8) (Go.IntKind.wrap .i64 ((0 : Int) + (((List.length ([32] : List UInt8)) : Nat) : Int))) = some [] := by decide +kernel
            have hz : ([32] : List UInt8).take (spn [32] 32) = [] := by decide +kernel
            have ht0 : List.take (Int.toNat (0 : Int)) ([32] : List UInt8) = [] := rfl
            rw [hz]
            simp only [decide_eq_true (show ([32] : List UInt8) = [32] from rfl), cond_true, hd, Option.bind_some, ht0]
            exact first_end N [] (by simp; omega) (by simp)
          · have hne2 : ¬ (([32] : List UInt8) = v5) := fun h => h2 h.symm
            have g32 : idxB v5 ((((32 : UInt8).toNat : Nat)) : Int) = (match ix v5 32 with | some k => ((k : Nat) : Int) | none => -1) := idx_eq _ 32
            simp only [decide_eq_false hne2, cond_true, cond_false, Option.bind_some]
            cases hiy : ix v5 32 with
            | none =>
              rw [hiy] at g32
              simp only at g32
              have c2 : ¬ ((0 : Int) ≤ -1) := by omega
              have hs : spn v5 32 = v5.length := by unfold spn; rw [hiy]; rfl
              have ht : v5.take (spn v5 32) = v5 := by rw [hs, List.take_length]
              simp only [g32, decide_eq_false c2, cond_false]
              rw [ht]
              exact first_end N v5 (by omega) (by omega)
            | some j =>
              rw [hiy] at g32
              simp only at g32
              obtain ⟨hj, _, _⟩ := ix_some hiy
              have c2 : (0 : Int) ≤ ((j : Nat) : Int) := by omega
              have s1 : takeI v5 ((j : Nat) : Int) = some (v5.take j) := takeI_nat v5 rfl (by omega)
              have e6 : Go.IntKind.wrap .i64 (((j : Nat) : Int) + (((List.length ([32] : List UInt8)) : Nat) : Int)) = ((j + 1 : Nat) : Int) := by simp only [List.length_singleton]; rw [wrap64 (by omega) (by omega)]; omega
              have s2 : dropI v5 ((j + 1 : Nat) : Int) = some (v5.drop (j + 1)) := dropI_nat v5 rfl (by omega)
              have hs : spn v5 32 = j := by unfold spn; rw [hiy]; rfl
              simp only [g32, decide_eq_true c2, cond_true, s1, Option.bind_some, e6, s2]
              rw [hs]
              exact first_end N (v5.take j) (by simp; omega) (by simp; omega)
        · rw [if_neg hv]
          have hv' : ¬ (l.take k = [72, 84, 84, 80, 47, 49, 46, 49]) := hv
          simp only [decide_eq_false hv', Bool.not_false, cond_true]
/-! ### The reference's loops -/
theorem rspan16 (N : Nat) (ls : List (List UInt8)) (m : Int) (s : List UInt8) (hb : s.length < 100000) : ∀ (n p : Nat), p ≤ spn s 32 → spn s 32 - p < n →
    gl (fun X c => ref16_Parse_L8 N X c.1.1 c.1.2.1 c.1.2.2.1 c.1.2.2.2.1) n ((ls, (m, (s, ((p : Int), ())))), ()) = some ((ls, (m, (s, (((spn s 32 : Nat) : Int), ())))), ())
  | 0, p, _, h => by omega
  | n + 1, p, hp, h => by
    rw [gl_succ]
    show ref16_Parse_L8 N _ ls m s (p : Int) = _
    have hle := spn_le s 32
    rcases Nat.lt_or_ge p (spn s 32) with hlt | hge
    · have hpl : p < s.length := by omega
      have c1 : (p : Int) < (((List.length s) : Nat) : Int) := by omega
      have e3 : Go.IntKind.wrap .i64 ((p : Int) + 1) = ((p + 1 : Nat) : Int) := by rw [wrap64 (by omega) (by omega)]; omega
      have hne : ¬ (((((s[p]).toNat : Nat)) : Int) = 32) := fun hc => spn_lt hlt hpl ((u8_eq _ 32).1 hc)
      have key : ∀ X, ref16_Parse_L8 N X ls m s (p : Int) = X ((ls, (m, (s, (((p + 1 : Nat) : Int), ())))), ()) := fun X => by
        simp only [ref16_Parse_L8, Option.bind_some, decide_eq_true c1, cond_true, getI_lt s p hpl, decide_eq_false hne, Bool.not_false, e3]
      rw [key]
      exact rspan16 N ls m s hb n (p + 1) (by omega) (by omega)
    · have hpe : p = spn s 32 := by omega
      subst hpe
      by_cases c : spn s 32 < s.length
      · have c1 : ((spn s 32 : Nat) : Int) < (((List.length s) : Nat) : Int) := by omega
        have heq : ((((s[spn s 32]).toNat : Nat)) : Int) = 32 := (u8_eq _ 32).2 (spn_at c).1
        simp only [ref16_Parse_L8, Option.bind_some, decide_eq_true c1, cond_true, getI_lt s _ c, decide_eq_true heq, Bool.not_true, cond_false]
      · have c1 : ¬ (((spn s 32 : Nat) : Int) < (((List.length s) : Nat) : Int)) := by omega
        simp only [ref16_Parse_L8, Option.bind_some, decide_eq_false c1, cond_false]
theorem rdig_key (N : Nat) (ls : List (List UInt8)) (m : Int) (r : List UInt8) (i st : Nat) (hi : i < 3) (hr : i < r.length) (hst : st < 1000000) (X) :
    ref16_Parse_L19 N X ls m r ((st : Nat) : Int) ((i : Nat) : Int) = bif digC (r.getD i 0) then X ((ls, (m, (r, (((10 * st + ((r.getD i 0).toNat - 48) : Nat) : Int), (((i + 1 : Nat) : Int), ()))))), ()) else some (.inl ((0, (0, (3, ()))), ())) := by
  have c1 : ((i : Nat) : Int) < 3 := by omega
  have g : getI r ((i : Nat) : Int) = some (r.getD i 0) := by rw [getI_lt r i hr, List.getD_eq_getElem?_getD, List.getElem?_eq_getElem hr, Option.getD_some]
  generalize r.getD i 0 = v at g ⊢
  have hv := v.toNat_lt
  have e3 : Go.IntKind.wrap .i64 ((i : Int) + 1) = ((i + 1 : Nat) : Int) := by rw [wrap64 (by omega) (by omega)]; omega
  cases hd : digC v with
  | false =>
    have hnd : ¬ (48 ≤ v.toNat ∧ v.toNat ≤ 57) := fun hc => by rw [(dig_iff _).2 hc] at hd; cases hd
    by_cases h1 : ((v.toNat : Nat) : Int) < 48
    · simp only [ref16_Parse_L19, decide_eq_true c1, cond_true, g, Option.bind_some, decide_eq_true h1, cond_false]
    · have h2 : (57 : Int) < ((v.toNat : Nat) : Int) := by omega
      simp only [ref16_Parse_L19, decide_eq_true c1, cond_true, g, Option.bind_some, decide_eq_false h1, decide_eq_true h2, cond_false]
  | true =>
    have hdd := (dig_iff _).1 hd
    have h1 : ¬ (((v.toNat : Nat) : Int) < 48) := by omega
    have h2 : ¬ ((57 : Int) < ((v.toNat : Nat) : Int)) := by omega
    have w1 : Go.IntKind.wrap .u8 (((v.toNat : Nat) : Int) - 48) = ((v.toNat - 48 : Nat) : Int) := by rw [wrap8 _ (by omega) (by omega)]; omega
    have w2 : Go.IntKind.wrap .i64 ((v.toNat - 48 : Nat) : Int) = ((v.toNat - 48 : Nat) : Int) := wrap64 (by omega) (by omega)
    have w3 : Go.IntKind.wrap .i64 ((10 : Int) * ((st : Nat) : Int)) = ((10 * st : Nat) : Int) := by rw [wrap64 (by omega) (by omega)]; omega
    have w4 : Go.IntKind.wrap .i64 (((10 * st : Nat) : Int) + ((v.toNat - 48 : Nat) : Int)) = ((10 * st + (v.toNat - 48) : Nat) : Int) := by rw [wrap64 (by omega) (by omega)]; omega
    simp only [ref16_Parse_L19, decide_eq_true c1, cond_true, g, Option.bind_some, decide_eq_false h1, decide_eq_false h2, cond_false, w1, w2, w3, w4, e3]
theorem rdig_ok (N : Nat) (hN : 10 ≤ N) (ls : List (List UInt8)) (m : Int) (a b c : UInt8) (t : List UInt8) :
    ref16_Parse_L19_R N ((ls, (m, (a :: b :: c :: t, ((0 : Int), ((0 : Int), ()))))), ()) = some (if digC a = true ∧ digC b = true ∧ digC c = true then .inr ((ls, (m, (((100 * (a.toNat - 48) + 10 * (b.toNat - 48) + (c.toNat - 48) : Nat) : Int), ()))), ()) else .inl ((0, (0, (3, ()))), ())) := by
  obtain ⟨k, rfl⟩ : ∃ k, N = k + 4 := ⟨N - 4, by omega⟩
  have ha := a.toNat_lt
  have hb := b.toNat_lt
  have hc := c.toNat_lt
  unfold ref16_Parse_L19_R
  rw [gl_succ]
  show ref16_Parse_L19 _ _ ls m (a :: b :: c :: t) (((0 : Nat)) : Int) (((0 : Nat)) : Int) = _
  rw [rdig_key _ _ _ _ 0 0 (by omega) (by simp) (by omega), show (a :: b :: c :: t).getD 0 0 = a from rfl]
  cases ea : digC a with
  | false => rw [if_neg (by simp)]; rfl
  | true =>
    have da := (dig_iff _).1 ea
    rw [cond_true, gl_succ]
    show ref16_Parse_L19 _ _ ls m (a :: b :: c :: t) (((10 * 0 + (a.toNat - 48) : Nat)) : Int) (((1 : Nat)) : Int) = _
    rw [rdig_key _ _ _ _ 1 _ (by omega) (by simp) (by omega), show (a :: b :: c :: t).getD 1 0 = b from rfl]
    cases eb : digC b with
    | false => rw [if_neg (by simp)]; rfl
    | true =>
      have db := (dig_iff _).1 eb
      rw [cond_true, gl_succ]
      show ref16_Parse_L19 _ _ ls m (a :: b :: c :: t) (((10 * (10 * 0 + (a.toNat - 48)) + (b.toNat - 48) : Nat)) : Int) (((2 : Nat)) : Int) = _
      rw [rdig_key _ _ _ _ 2 _ (by omega) (by simp) (by omega), show (a :: b :: c :: t).getD 2 0 = c from rfl]
      cases ec : digC c with
      | false => rw [if_neg (by simp)]; rfl
      | true =>
        rw [cond_true, gl_succ, if_pos ⟨rfl, rfl, rfl⟩]
        show ref16_Parse_L19 _ _ ls m (a :: b :: c :: t) _ (((3 : Nat)) : Int) = _
        have e : (10 * (10 * (10 * 0 + (a.toNat - 48)) + (b.toNat - 48)) + (c.toNat - 48)) = (100 * (a.toNat - 48) + 10 * (b.toNat - 48) + (c.toNat - 48)) := by omega
        rw [e]
        rfl
/-! ### Parsed -/
def cl16 : List UInt8 := [67, 111, 110, 116, 101, 110, 116, 45, 76, 101, 110, 103, 116, 104]
def lenS (st : Int) : List UInt8 := if st = 200 then [49, 56, 52, 52, 54, 55, 52, 52, 48, 55, 51, 55, 48, 57, 53, 53, 49, 54, 49, 53] else [48]
def tailR (ls : List (List UInt8)) (size st : Int) : Int × (Int × Int) :=
  if (fieldsR (ls.drop 1)).2 = 0 then (if (findR (fieldsR (ls.drop 1)).1 cl16).2 = 0 then (if (findR (fieldsR (ls.drop 1)).1 cl16).1 = lenS st then (st, (size, 0)) else (0, (0, 3))) else (0, (0, (findR (fieldsR (ls.drop 1)).1 cl16).2))) else (0, (0, (fieldsR (ls.drop 1)).2))
def parse16 (b : List Int) : Int × (Int × Int) := if (headR b).2.2 = 0 then (if (hfirst (headR b).1).2 = 0 then tailR (headR b).1 (headR b).2.1 (hfirst (headR b).1).1 else (0, (0, (hfirst (headR b).1).2))) else (0, (0, (headR b).2.2))
theorem hlen_ok (N : Nat) (x : Int) : httpp_length N x = some (lenS x) := by
  unfold httpp_length lenS
  by_cases h : x = 200
  · rw [decide_eq_true h, if_pos h]; rfl
  · rw [decide_eq_false h, if_neg h]; rfl
theorem rlen_ok (N : Nat) (x : Int) : ref16_length N x = some (lenS x) := by
  unfold ref16_length lenS
  by_cases h : x = 200
  · rw [decide_eq_true h, if_pos h]; rfl
  · rw [decide_eq_false h, if_neg h]; rfl
theorem hfirst_nil {ls : List (List UInt8)} (h : (hfirst ls).2 = 0) : 1 ≤ ls.length := by
  match ls, h with
  | [], h => exact absurd h (by decide)
  | l :: r, _ => simp
theorem hparse_ok (b : List Int) (ha : AllB b) (hb : b.length ≤ 5000) : httpp_Parse 200000 b = some (parse16 b) := by
  obtain ⟨q1, q2⟩ := headR_len b
  unfold httpp_Parse parse16
  rw [head_ok b ha (by omega)]
  generalize headR b = H at q1 q2 ⊢
  rw [Option.bind_some]
  by_cases h0 : H.2.2 = 0
  · rw [decide_eq_true h0, if_pos h0, Bool.not_true, cond_false, first_ok H.1 (fun l hl => by have := q2 l hl; omega) (by omega), Option.bind_some]
    by_cases h1 : (hfirst H.1).2 = 0
    · have hl1 := hfirst_nil h1
      have d1 : dropI H.1 (1 : Int) = some (H.1.drop 1) := dropI_nat H.1 rfl hl1
      have hd : ∀ x ∈ H.1.drop 1, x.length < 100000 := fun x hx => by have := q2 x (List.mem_of_mem_drop hx); omega
      obtain ⟨f1, f2⟩ := fieldsR_len (H.1.drop 1) (B := 5000) (fun x hx => by have := q2 x (List.mem_of_mem_drop hx); omega)
      rw [decide_eq_true h1, if_pos h1, Bool.not_true, cond_false, d1, Option.bind_some, fields_ok (by omega) _ hd, Option.bind_some]
      unfold tailR
      generalize fieldsR (H.1.drop 1) = F at f1 f2 ⊢
      have fl : F.1.length ≤ 5000 := by simp at f1; omega
      by_cases h2 : F.2 = 0
      · rw [decide_eq_true h2, if_pos h2, Bool.not_true, cond_false]
        rw [show ([67, 111, 110, 116, 101, 110, 116, 45, 76, 101, 110, 103, 116, 104] : List UInt8).toArray.toList = cl16 from rfl, find_ok F.1 cl16 (by omega) (by omega) (by decide) (fun x hx => by have := f2 x hx; omega), Option.bind_some]
        by_cases h3 : (findR F.1 cl16).2 = 0
        · rw [decide_eq_true h3, if_pos h3, Bool.not_true, cond_false, hlen_ok, Option.bind_some]
          by_cases h4 : (findR F.1 cl16).1 = lenS (hfirst H.1).1
          · rw [decide_eq_true h4, if_pos h4]; rfl
          · rw [decide_eq_false h4, if_neg h4]; rfl
        · rw [decide_eq_false h3, if_neg h3]; rfl
      · rw [decide_eq_false h2, if_neg h2]; rfl
    · rw [decide_eq_false h1, if_neg h1]; rfl
  · rw [decide_eq_false h0, if_neg h0]; rfl
theorem rtail_ok (N : Nat) (ls : List (List UInt8)) (size st : Int) (q2 : ∀ l ∈ ls, l.length ≤ 5000) (q1 : ls.length ≤ 5000) (hl1 : 1 ≤ ls.length) (hN : 120000 ≤ N) :
    (Option.bind (ref16_may N st) fun (v10 : Bool) =>
        bif (!v10) then
         some (((0 : Int), ((0 : Int), (3 : Int))))
        else
         Option.bind (dropI ls (1 : Int)) fun (v11 : (List (List UInt8))) =>
         Option.bind (@ref14_Fields N v11) fun (v12 : ((List ((List UInt8) × (List UInt8))) × Int)) =>
         bif (!(decide (v12.2 = (0 : Int)))) then
          some (((0 : Int), ((0 : Int), v12.2)))
         else
          Option.bind (@ref14_Find N v12.1 cl16) fun (v13 : ((List UInt8) × Int)) =>
          bif (!(decide (v13.2 = (0 : Int)))) then
           some (((0 : Int), ((0 : Int), v13.2)))
          else
           Option.bind (@ref16_length N st) fun (v14 : (List UInt8)) =>
           bif (!(decide (v13.1 = v14))) then
            some (((0 : Int), ((0 : Int), (3 : Int))))
           else
            some ((st, (size, (0 : Int))))) = some (if 100 ≤ st ∧ st ≤ 599 then tailR ls size st else (0, (0, 3))) := by
  rw [rmay_ok, Option.bind_some]
  by_cases hm : 100 ≤ st ∧ st ≤ 599
  · rw [decide_eq_true hm, if_pos hm, Bool.not_true, cond_false]
    have d1 : dropI ls (1 : Int) = some (ls.drop 1) := dropI_nat ls rfl hl1
    have hd : ∀ x ∈ ls.drop 1, x.length < 100000 := fun x hx => by have := q2 x (List.mem_of_mem_drop hx); omega
    obtain ⟨f1, f2⟩ := fieldsR_len (ls.drop 1) (B := 5000) (fun x hx => q2 x (List.mem_of_mem_drop hx))
    rw [d1, Option.bind_some, rfields_ok (by omega) _ hd, Option.bind_some]
    unfold tailR
    generalize fieldsR (ls.drop 1) = F at f1 f2 ⊢
    have fl : F.1.length ≤ 5000 := by simp at f1; omega
    by_cases h2 : F.2 = 0
    · rw [decide_eq_true h2, if_pos h2, Bool.not_true, cond_false]
      rw [rfind_ok F.1 cl16 (by omega) (by omega) (by decide) (fun x hx => by have := f2 x hx; omega), Option.bind_some]
      by_cases h3 : (findR F.1 cl16).2 = 0
      · rw [decide_eq_true h3, if_pos h3, Bool.not_true, cond_false, rlen_ok, Option.bind_some]
        by_cases h4 : (findR F.1 cl16).1 = lenS st
        · rw [decide_eq_true h4, if_pos h4]; rfl
        · rw [decide_eq_false h4, if_neg h4]; rfl
      · rw [decide_eq_false h3, if_neg h3]; rfl
    · rw [decide_eq_false h2, if_neg h2]; rfl
  · rw [decide_eq_false hm, if_neg hm]; rfl
theorem rparse_ok (b : List Int) (ha : AllB b) (hb : b.length ≤ 5000) : ref16_Parse 200000 b = some (parse16 b) := by
  obtain ⟨q1, q2⟩ := headR_len b
  unfold ref16_Parse parse16
  rw [rhead_ok b ha (by omega)]
  generalize headR b = H at q1 q2 ⊢
  obtain ⟨ls, size, e⟩ := H
  rw [Option.bind_some]
  simp only at q1 q2 ⊢
  by_cases h0 : e = 0
  · rw [decide_eq_true h0, if_pos h0, Bool.not_true, cond_false]
    match ls, q1, q2 with
    | [], _, _ => rfl
    | l :: r, q1, q2 =>
      have hl : l.length ≤ 5000 := by have := q2 l (by simp); omega
      have c0 : ¬ ((((List.length (l :: r)) : Nat) : Int) = (0 : Int)) := by simp only [List.length_cons]; omega
      have g0 : getI (l :: r) (0 : Int) = some l := rfl
      have hsp : ref16_Parse_L8_R 200000 (((l :: r), (size, (l, ((0 : Int), ())))), ()) = some (((l :: r), (size, (l, (((spn l 32 : Nat) : Int), ())))), ()) := rspan16 200000 _ _ l (by omega) 200000 0 (Nat.zero_le _) (by have := spn_le l 32; omega)
      rw [decide_eq_false c0, cond_false, g0, Option.bind_some, hsp, Option.bind_some]
      simp only
      unfold hfirst
      simp only
      have hle := spn_le l 32
      by_cases he : spn l 32 = l.length
      · have c1 : (((spn l 32 : Nat)) : Int) = (((List.length l) : Nat) : Int) := by omega
        rw [decide_eq_true c1, cond_true, spn_end he]
        simp
      · have hlt : spn l 32 < l.length := by omega
        have c1 : ¬ ((((spn l 32 : Nat)) : Int) = (((List.length l) : Nat) : Int)) := by omega
        have t1 : takeI l ((spn l 32 : Nat) : Int) = some (l.take (spn l 32)) := takeI_nat l rfl (by omega)
        have e5 : Go.IntKind.wrap .i64 (((spn l 32 : Nat) : Int) + 1) = ((spn l 32 + 1 : Nat) : Int) := by rw [wrap64 (by omega) (by omega)]; omega
        have t2 : dropI l ((spn l 32 + 1 : Nat) : Int) = some (l.drop (spn l 32 + 1)) := dropI_nat l rfl (by omega)
        rw [decide_eq_false c1, cond_false, t1, Option.bind_some, (spn_at hlt).2]
        simp only
        by_cases hv : l.take (spn l 32) = ver16
        · have hv' : l.take (spn l 32) = ([72, 84, 84, 80, 47, 49, 46, 49] : List UInt8) := hv
          rw [if_pos hv]
          simp only [hv', decide_true, Bool.not_true, cond_false, e5, t2, Option.bind_some]
          rw [stat_eq]
          generalize l.drop (spn l 32 + 1) = rest
          have short : rest.length < 3 → statR rest = (0, 3) := fun h => by
            match rest, h with
            | [], _ => rfl
            | [a], _ => rfl
            | [a, b], _ => rfl
            | a :: b :: c :: t, h => simp at h; omega
          by_cases hs : rest.length < 3
          · have c3 : (((List.length rest) : Nat) : Int) < 3 := by omega
            rw [decide_eq_true c3, short hs]
            rfl
          · have c3 : ¬ ((((List.length rest) : Nat) : Int) < 3) := by omega
            match rest, hs, c3 with
            | [], hs, _ => simp at hs
            | [a], hs, _ => simp at hs
            | [a, b], hs, _ => simp at hs
            | a :: b :: c :: t, hs, c3 =>
              rw [decide_eq_false c3, cond_false, statR]
              have body : ∀ (y : Int × (Int × Int)), (y = if (if digC a = true ∧ digC b = true ∧ digC c = true ∧ 100 ≤ (100 * (a.toNat - 48) + 10 * (b.toNat - 48) + (c.toNat - 48) : Nat) ∧ (100 * (a.toNat - 48) + 10 * (b.toNat - 48) + (c.toNat - 48) : Nat) ≤ 599 then ((((100 * (a.toNat - 48) + 10 * (b.toNat - 48) + (c.toNat - 48) : Nat) : Int), 0) : Int × Int) else (0, 3)).2 = 0 then tailR (l :: r) size (if digC a = true ∧ digC b = true ∧ digC c = true ∧ 100 ≤ (100 * (a.toNat - 48) + 10 * (b.toNat - 48) + (c.toNat - 48) : Nat) ∧ (100 * (a.toNat - 48) + 10 * (b.toNat - 48) + (c.toNat - 48) : Nat) ≤ 599 then ((((100 * (a.toNat - 48) + 10 * (b.toNat - 48) + (c.toNat - 48) : Nat) : Int), 0) : Int × Int) else (0, 3)).1 else (0, (0, 3))) →
                  (Option.bind (ref16_Parse_L19_R 200000 (((l :: r), (size, ((a :: b :: c :: t), ((0 : Int), ((0 : Int), ()))))), ())) fun (v8 : (((Int × (Int × (Int × Unit))) × Unit) ⊕ (((List (List UInt8)) × (Int × (Int × Unit))) × Unit))) =>
       Sum.elim
        (fun (v9 : ((Int × (Int × (Int × Unit))) × Unit)) =>
        some ((v9.1.1, (v9.1.2.1, v9.1.2.2.1))))
        (fun (v9 : (((List (List UInt8)) × (Int × (Int × Unit))) × Unit)) =>
        Option.bind (@ref16_may 200000 v9.1.2.2.1) fun (v10 : Bool) =>
        bif (!v10) then
         some (((0 : Int), ((0 : Int), (3 : Int))))
        else
         Option.bind (dropI v9.1.1 (1 : Int)) fun (v11 : (List (List UInt8))) =>
         Option.bind (@ref14_Fields 200000 v11) fun (v12 : ((List ((List UInt8) × (List UInt8))) × Int)) =>
         bif (!(decide (v12.2 = (0 : Int)))) then
          some (((0 : Int), ((0 : Int), v12.2)))
         else
          Option.bind (@ref14_Find 200000 v12.1 [67, 111, 110, 116, 101, 110, 116, 45, 76, 101, 110, 103, 116, 104]) fun (v13 : ((List UInt8) × Int)) =>
          bif (!(decide (v13.2 = (0 : Int)))) then
           some (((0 : Int), ((0 : Int), v13.2)))
          else
           Option.bind (@ref16_length 200000 v9.1.2.2.1) fun (v14 : (List UInt8)) =>
           bif (!(decide (v13.1 = v14))) then
            some (((0 : Int), ((0 : Int), (3 : Int))))
           else
            some ((v9.1.2.2.1, (v9.1.2.1, (0 : Int))))) v8) = some y := fun y hy => by
                rw [rdig_ok 200000 (by omega), Option.bind_some, hy]
                by_cases hd : digC a = true ∧ digC b = true ∧ digC c = true
                · rw [if_pos hd, Sum.elim_inr]
                  refine (rtail_ok 200000 (l :: r) size (((100 * (a.toNat - 48) + 10 * (b.toNat - 48) + (c.toNat - 48) : Nat) : Nat) : Int) (fun x hx => by have := q2 x hx; omega) (by omega) (by simp) (by omega)).trans ?_
                  by_cases hr : 100 ≤ (100 * (a.toNat - 48) + 10 * (b.toNat - 48) + (c.toNat - 48) : Nat) ∧ (100 * (a.toNat - 48) + 10 * (b.toNat - 48) + (c.toNat - 48) : Nat) ≤ 599
                  · rw [if_pos (show (100 : Int) ≤ (((100 * (a.toNat - 48) + 10 * (b.toNat - 48) + (c.toNat - 48) : Nat) : Nat) : Int) ∧ (((100 * (a.toNat - 48) + 10 * (b.toNat - 48) + (c.toNat - 48) : Nat) : Nat) : Int) ≤ (599 : Int) from ⟨by omega, by omega⟩), if_pos (show digC a = true ∧ digC b = true ∧ digC c = true ∧ 100 ≤ (100 * (a.toNat - 48) + 10 * (b.toNat - 48) + (c.toNat - 48) : Nat) ∧ (100 * (a.toNat - 48) + 10 * (b.toNat - 48) + (c.toNat - 48) : Nat) ≤ 599 from ⟨hd.1, hd.2.1, hd.2.2, hr⟩)]; rfl
                  · rw [if_neg (fun hx : (100 : Int) ≤ (((100 * (a.toNat - 48) + 10 * (b.toNat - 48) + (c.toNat - 48) : Nat) : Nat) : Int) ∧ (((100 * (a.toNat - 48) + 10 * (b.toNat - 48) + (c.toNat - 48) : Nat) : Nat) : Int) ≤ (599 : Int) => hr ⟨by omega, by omega⟩), if_neg (fun hx : digC a = true ∧ digC b = true ∧ digC c = true ∧ 100 ≤ (100 * (a.toNat - 48) + 10 * (b.toNat - 48) + (c.toNat - 48) : Nat) ∧ (100 * (a.toNat - 48) + 10 * (b.toNat - 48) + (c.toNat - 48) : Nat) ≤ 599 => hr hx.2.2.2)]; rfl
                · rw [if_neg hd, if_neg (fun hx : digC a = true ∧ digC b = true ∧ digC c = true ∧ 100 ≤ (100 * (a.toNat - 48) + 10 * (b.toNat - 48) + (c.toNat - 48) : Nat) ∧ (100 * (a.toNat - 48) + 10 * (b.toNat - 48) + (c.toNat - 48) : Nat) ≤ 599 => hd ⟨hx.1, hx.2.1, hx.2.2.1⟩)]; rfl
              match t with
              | [] =>
                have c4 : ¬ ((3 : Int) < (((List.length [a, b, c]) : Nat) : Int)) := by simp
                rw [decide_eq_false c4]
                simp only [cond_false, Option.bind_some]
                refine body _ ?_
                simp only [true_or, true_and]
                split <;> rfl
              | x :: t' =>
                have c4 : (3 : Int) < (((List.length (a :: b :: c :: x :: t')) : Nat) : Int) := by simp only [List.length_cons]; omega
                have g3 : getI (a :: b :: c :: x :: t') (3 : Int) = some x := rfl
                rw [decide_eq_true c4]
                simp only [cond_true, g3, Option.bind_some]
                by_cases hx : x = 32
                · have c5 : ((x.toNat : Nat) : Int) = 32 := (u8_eq x 32).2 hx
                  rw [decide_eq_true c5]
                  simp only [Bool.not_true, cond_false]
                  refine body _ ?_
                  have h0 : (x :: t').getD 0 0 = 32 := hx
                  simp only [h0, or_true, true_and]
                  split <;> rfl
                · have c5 : ¬ (((x.toNat : Nat) : Int) = 32) := fun hc => hx ((u8_eq x 32).1 hc)
                  rw [decide_eq_false c5]
                  simp only [Bool.not_false, cond_true]
                  have hf : ¬ (x :: t' = [] ∨ (x :: t').getD 0 0 = 32) := fun hh => hh.elim (fun h1 => by cases h1) (fun h1 => hx h1)
                  simp only [hf, false_and, if_false]
                  rfl
        · have hv' : ¬ (l.take (spn l 32) = ([72, 84, 84, 80, 47, 49, 46, 49] : List UInt8)) := hv
          rw [if_neg hv]
          simp only [decide_eq_false hv', Bool.not_false, cond_true]
          rfl
  · rw [decide_eq_false h0, if_neg h0]; rfl
theorem dec_200 : Go.Lib.decDigits 200 = [50, 48, 48] := by rw [Go.Lib.decDigits, dif_neg (by decide), Go.Lib.decDigits, dif_neg (by decide), Go.Lib.decDigits, dif_pos (by decide)]; rfl
theorem alive16 : law16_alive 200000 = some true := by
  have h4 : (Int.toNat (Go.IntKind.wrap .u64 (200 : Int))) = 200 := rfl
  unfold law16_alive
  simp only [h4, dec_200]
  decide +kernel
theorem law_HttppParses (b : List Int) (w1 : wfT (.sl (.int .u8)) b) : law16_HttppParses 200000 b = some true := by
  unfold law16_HttppParses
  by_cases h1 : (3000 : Int) < (((List.length b) : Nat) : Int)
  · simp only [decide_eq_true h1, cond_true, Option.bind_some, alive16]
  have hb := wf_bytes w1
  simp only [decide_eq_false h1, cond_false, hparse_ok b hb (by omega), rparse_ok b hb (by omega), Option.bind_some, decide_true, cond_true, alive16]
end Go.Proofs.YtailoanlfbpfnaaDoor
