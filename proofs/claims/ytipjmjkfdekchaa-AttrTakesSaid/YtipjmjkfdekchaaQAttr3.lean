/-
  Layer 17, on plain data: attributes taken apart, and made anew; the law AttrTakes.
-/
import Derived.Test.YtipjmjkfdekchaaQAttr2
namespace Go.Proofs.Ytipjmjkfdekchaa
set_option maxRecDepth 100000
open Go.RowKit
set_option linter.unusedVariables false
set_option linter.unusedSimpArgs false
set_option maxRecDepth 100000

/-- What is asked of one that takes apart data of a kind. -/
def toE (a : At2) (k : Int) : Int := if a.1 = k then chk a else 9
section
variable {N : Nat}
theorem checked_ok (a : At2) (k : Int) (hw : AllB a.2) : attr_checked N (a.1, a.2) k = some (toE a k) := by
  unfold attr_checked toE
  have h : attr_Check N (a.1, a.2) = some (chk a) := chk_ok a hw
  by_cases hk : a.1 = k
  · simp [hk]
    rw [← hk]; exact h
  · simp [hk]
theorem rto_ok (a : At2) (k : Int) (hw : AllB a.2) (hN : 10000 ≤ N) : ref17_To N (a.1, a.2) k = some (toE a k) := by
  unfold ref17_To toE
  have h : ref17_Check N (a.1, a.2) = some (chk a) := rchk_ok a hw hN
  by_cases hk : a.1 = k
  · simp [hk]
    rw [← hk]; exact h
  · simp [hk]
theorem chk_zero {a : At2} (h : chk a = 0) : kindB a.1 = true ∧ leastA a.1 ≤ a.2.length ∧ a.2.length ≤ mostA a.1 ∧ (a.1 ≠ 1 → z3 (a.2.getD 0 0) (a.2.getD 1 0) (a.2.getD 2 0) = true ∧ okB a.1 (a.2.getD 3 0) = true) := by
  unfold chk at h
  split at h
  · cases h
  · rename_i hk
    split at h
    · cases h
    · split at h
      · cases h
      · refine ⟨by cases hh : kindB a.1 <;> simp_all, by omega, by omega, fun h1 => ?_⟩
        rw [if_neg h1] at h
        split at h
        · rename_i h2
          rw [Bool.and_eq_true] at h2
          exact h2
        · cases h
theorem z3_true {x y z : Int} (h : z3 x y z = true) : x = 0 ∧ y = 0 ∧ z = 0 := by
  unfold z3 at h
  simp only [Bool.and_eq_true, decide_eq_true_eq] at h
  exact ⟨h.1.1, h.1.2, h.2⟩
theorem toE_zero {a : At2} {k : Int} (h : toE a k = 0) : a.1 = k ∧ chk a = 0 := by
  unfold toE at h
  split at h
  · exact ⟨by assumption, h⟩
  · cases h
theorem behind_ok (w : Int) (l : List (List Int)) (hl : l.length ≤ 900) (hs : ∀ p ∈ l, p.length ≤ 100) (hN : 10000 ≤ N) : attr_behind N w l = some (0 :: 0 :: 0 :: w :: l.flatten) := by
  unfold attr_behind
  rw [ojoin l (by omega) (fun p hp => by have := hs p hp; omega) hN]
  have hfl : ∀ m : List (List Int), (∀ p ∈ m, p.length ≤ 100) → m.flatten.length ≤ 100 * m.length := by
    intro m
    induction m with
    | nil => intro _; simp
    | cons p m ih =>
      intro h
      have h1 := h p List.mem_cons_self
      have h2 := ih fun q hq => h q (List.mem_cons_of_mem _ hq)
      rw [List.flatten_cons, List.length_append, List.length_cons]
      omega
  have h3 := hfl l hs
  simp only [Option.bind_some]
  rw [ojoin _ (by simp) (fun p hp => by
    simp only [List.mem_cons, List.not_mem_nil, or_false] at hp
    rcases hp with rfl | rfl | rfl
    · simp
    · simp
    · omega) hN]
  have e3 : List.replicate (Int.toNat 3) (0 : Int) = [0, 0, 0] := rfl
  rw [e3]
  simp
theorem take1_ok (a : At2) (hw : wfA a) (hN : 10000 ≤ N) : ∃ v, attr_ToProto N (a.1, a.2) = some (v, toE a 1) ∧ (toE a 1 = 0 → attr_Proto N v = some a) := by
  unfold attr_ToProto
  rw [checked_ok a 1 hw.2]
  simp only [Option.bind_some]
  by_cases h : toE a 1 = 0
  · obtain ⟨h1, h2⟩ := toE_zero h
    obtain ⟨_, h3, h4, _⟩ := chk_zero h2
    obtain ⟨k, l⟩ := a
    have h1' : k = 1 := h1
    subst h1'
    have hl : l.length = 2 := by
      have h3' : 2 ≤ l.length := h3
      have h4' : l.length ≤ 2 := h4
      omega
    match l, hl with
    | [x, y], _ =>
      have bx := hw.2 x (by simp)
      have by' := hw.2 y (by simp)
      have w1 : Go.IntKind.wrap .u16 (x * 256 + y) = x * 256 + y := by rw [IntKind.wrap_u16]; omega
      have w2 : Go.IntKind.wrap .u64 (x * 256 + y) = x * 256 + y := wrapU64 (by omega) (by omega)
      refine ⟨x * 256 + y, ?_, fun _ => ?_⟩
      · simp only [h, decide_true, Bool.not_true, cond_false, oget2 x y bx by' hN, Option.bind_some, w1]
      · have e1 : (x * 256 + y) / 256 % 256 = x := by omega
        have e2 : (x * 256 + y) % 256 = y := by omega
        unfold attr_Proto
        rw [w2, oput2 _ (by omega) hN, e1, e2]
        rfl
  · exact ⟨0, by simp [h], fun h' => absurd h' h⟩
theorem take2_ok (a : At2) (hw : wfA a) (hN : 10000 ≤ N) : ∃ v, attr_ToStatus N (a.1, a.2) = some (v, toE a 2) ∧ (toE a 2 = 0 → attr_OfStatus N v = some a) := by
  unfold attr_ToStatus
  rw [checked_ok a 2 hw.2]
  simp only [Option.bind_some]
  by_cases h : toE a 2 = 0
  · obtain ⟨h1, h2⟩ := toE_zero h
    obtain ⟨_, h3, h4, h5⟩ := chk_zero h2
    obtain ⟨k, l⟩ := a
    have h1' : k = 2 := h1
    have hne : (2 : Int) ≠ 1 := by decide
    subst h1'
    have h3' : 8 ≤ l.length := h3
    have h4' : l.length ≤ 72 := h4
    obtain ⟨x, y, z, w, r, rfl⟩ := list4 (by omega : 4 ≤ l.length)
    simp only [List.length_cons] at h3' h4'
    obtain ⟨c1, c2, c3, c4, d, rfl⟩ := list4 (by omega : 4 ≤ r.length)
    simp only [List.length_cons] at h3' h4'
    obtain ⟨h6, h7⟩ := h5 hne
    obtain ⟨rfl, rfl, rfl⟩ := z3_true h6
    have b1 := hw.2 c1 (by simp)
    have b2 := hw.2 c2 (by simp)
    have b3 := hw.2 c3 (by simp)
    have b4 := hw.2 c4 (by simp)
    have s1 : subI ((0 : Int) :: 0 :: 0 :: w :: c1 :: c2 :: c3 :: c4 :: d) 4 8 = some [c1, c2, c3, c4] := subI_nat _ (i := 4) (j := 8) rfl rfl (by omega) (by simp)
    have g3 : getI ((0 : Int) :: 0 :: 0 :: w :: c1 :: c2 :: c3 :: c4 :: d) 3 = some w := rfl
    have d8 : dropI ((0 : Int) :: 0 :: 0 :: w :: c1 :: c2 :: c3 :: c4 :: d) 8 = some d := dropI_nat _ (i := 8) rfl (by simp)
    have w1 : Go.IntKind.wrap .u32 (((c1 * 256 + c2) * 256 + c3) * 256 + c4) = ((c1 * 256 + c2) * 256 + c3) * 256 + c4 := by rw [IntKind.wrap_u32]; omega
    have w2 : Go.IntKind.wrap .u64 (((c1 * 256 + c2) * 256 + c3) * 256 + c4) = ((c1 * 256 + c2) * 256 + c3) * 256 + c4 := wrapU64 (by omega) (by omega)
    have hc : slices_Clone_byte_byte N d = some d := oclone d (by omega)
    refine ⟨(w, ((c1 * 256 + c2) * 256 + c3) * 256 + c4, d), ?_, fun _ => ?_⟩
    · simp only [h, decide_true, Bool.not_true, cond_false, s1, oget4 c1 c2 c3 c4 b1 b2 b3 b4 hN, g3, d8, hc, Option.bind_some, w1]
    · have e1 : (((c1 * 256 + c2) * 256 + c3) * 256 + c4) / 16777216 % 256 = c1 := by omega
      have e2 : (((c1 * 256 + c2) * 256 + c3) * 256 + c4) / 65536 % 256 = c2 := by omega
      have e3 : (((c1 * 256 + c2) * 256 + c3) * 256 + c4) / 256 % 256 = c3 := by omega
      have e4 : (((c1 * 256 + c2) * 256 + c3) * 256 + c4) % 256 = c4 := by omega
      have hm : minI (d.length : Int) 64 = (d.length : Int) := by unfold minI; rw [if_neg (by omega)]
      have ht : takeI d (d.length : Int) = some d := by rw [takeI_nat d (i := d.length) rfl (Nat.le_refl _), List.take_length]
      unfold attr_OfStatus
      simp only [w2]
      rw [oput4 _ (by omega) hN, e1, e2, e3, e4]
      simp only [Option.bind_some, hm, ht]
      rw [behind_ok w _ (by simp) (fun p hp => by
        simp only [List.mem_cons, List.not_mem_nil, or_false] at hp
        rcases hp with rfl | rfl
        · simp
        · omega) hN]
      simp
  · exact ⟨(0, 0, []), by simp [h], fun h' => absurd h' h⟩
theorem take4_ok (a : At2) (hw : wfA a) (hN : 10000 ≤ N) : ∃ v, attr_ToAsk N (a.1, a.2) = some (v, toE a 4) ∧ (toE a 4 = 0 → attr_OfAsk N v = some a) := by
  unfold attr_ToAsk
  rw [checked_ok a 4 hw.2]
  simp only [Option.bind_some]
  by_cases h : toE a 4 = 0
  · obtain ⟨h1, h2⟩ := toE_zero h
    obtain ⟨_, h3, h4, h5⟩ := chk_zero h2
    obtain ⟨k, l⟩ := a
    have h1' : k = 4 := h1
    have hne : (4 : Int) ≠ 1 := by decide
    subst h1'
    have h3' : 36 ≤ l.length := h3
    have h4' : l.length ≤ 36 := h4
    obtain ⟨x, y, z, w, r, rfl⟩ := list4 (by omega : 4 ≤ l.length)
    simp only [List.length_cons] at h3' h4'
    obtain ⟨h6, h7⟩ := h5 hne
    obtain ⟨rfl, rfl, rfl⟩ := z3_true h6
    have g3 : getI ((0 : Int) :: 0 :: 0 :: w :: r) 3 = some w := rfl
    have d4 : dropI ((0 : Int) :: 0 :: 0 :: w :: r) 4 = some r := dropI_nat _ (i := 4) rfl (by simp)
    have hr : r.length = 32 := by omega
    have ta : toArr 32 r = some ⟨r, hr⟩ := by
      unfold toArr
      rw [dif_pos (by omega)]
      congr 1
      exact Arr.ext' (List.take_of_length_le (by omega))
    refine ⟨(w, ⟨r, hr⟩), ?_, fun _ => ?_⟩
    · simp only [h, decide_true, Bool.not_true, cond_false, g3, d4, ta, Option.bind_some]
    · unfold attr_OfAsk
      rw [behind_ok w _ (by simp) (fun p hp => by simp only [List.mem_singleton] at hp; rw [hp]; show r.length ≤ 100; omega) hN]
      simp
  · exact ⟨_, by simp only [h, decide_false, Bool.not_false, cond_true]; rfl, fun h' => absurd h' h⟩
theorem take3_ok (a : At2) (hw : wfA a) (hN : 10000 ≤ N) : ∃ v, attr_ToBinding N (a.1, a.2) = some (v, toE a 3) ∧ (toE a 3 = 0 → attr_OfBinding N v = some a) := by
  unfold attr_ToBinding
  rw [checked_ok a 3 hw.2]
  simp only [Option.bind_some]
  by_cases h : toE a 3 = 0
  · obtain ⟨h1, h2⟩ := toE_zero h
    obtain ⟨_, h3, h4, h5⟩ := chk_zero h2
    obtain ⟨k, l⟩ := a
    have h1' : k = 3 := h1
    have hne : (3 : Int) ≠ 1 := by decide
    subst h1'
    have h3' : 100 ≤ l.length := h3
    have h4' : l.length ≤ 100 := h4
    have hl : l.length = 100 := by omega
    have hl' := hl
    obtain ⟨x, y, z, w, r, rfl⟩ := list4 (by omega : 4 ≤ l.length)
    simp only [List.length_cons] at hl'
    obtain ⟨h6, h7⟩ := h5 hne
    obtain ⟨rfl, rfl, rfl⟩ := z3_true h6
    have hr : r.length = 96 := by omega
    have g3 : getI ((0 : Int) :: 0 :: 0 :: w :: r) 3 = some w := rfl
    have s1 : subI ((0 : Int) :: 0 :: 0 :: w :: r) 4 36 = some (r.take 32) := subI_nat _ (i := 4) (j := 36) rfl rfl (by omega) (by simp; omega)
    have s2 : subI ((0 : Int) :: 0 :: 0 :: w :: r) 36 68 = some ((r.drop 32).take 32) := subI_nat _ (i := 36) (j := 68) rfl rfl (by omega) (by simp; omega)
    have s3 : dropI ((0 : Int) :: 0 :: 0 :: w :: r) 68 = some (r.drop 64) := dropI_nat _ (i := 68) rfl (by simp; omega)
    have l1 : (r.take 32).length = 32 := by rw [List.length_take]; omega
    have l2 : ((r.drop 32).take 32).length = 32 := by rw [List.length_take, List.length_drop]; omega
    have l3 : (r.drop 64).length = 32 := by rw [List.length_drop]; omega
    have ta : ∀ (m : List Int) (hm : m.length = 32), toArr 32 m = some ⟨m, hm⟩ := fun m hm => by
      unfold toArr
      rw [dif_pos (by omega)]
      congr 1
      exact Arr.ext' (List.take_of_length_le (by omega))
    refine ⟨(w, ⟨r.take 32, l1⟩, ⟨(r.drop 32).take 32, l2⟩, ⟨r.drop 64, l3⟩), ?_, fun _ => ?_⟩
    · simp only [h, decide_true, Bool.not_true, cond_false, g3, s1, s2, s3, ta _ l1, ta _ l2, ta _ l3, Option.bind_some]
    · unfold attr_OfBinding
      rw [behind_ok w _ (by simp) (fun p hp => by
        simp only [List.mem_cons, List.not_mem_nil, or_false] at hp
        rcases hp with rfl | rfl | rfl
        · show (r.take 32).length ≤ 100; omega
        · show ((r.drop 32).take 32).length ≤ 100; omega
        · show (r.drop 64).length ≤ 100; omega) hN]
      have e1 : r.take 32 ++ ((r.drop 32).take 32 ++ r.drop 64) = r := by
        have : (r.drop 32).take 32 ++ r.drop 64 = r.drop 32 := by
          rw [show r.drop 64 = (r.drop 32).drop 32 by rw [List.drop_drop], List.take_append_drop]
        rw [this, List.take_append_drop]
      simp [e1]
  · exact ⟨_, by simp only [h, decide_false, Bool.not_false, cond_true]; rfl, fun h' => absurd h' h⟩
end
theorem law_AttrTakes (a : At2) (h1 : wfT (.pair (.int .u8) (.sl (.int .u8))) a) : law17_AttrTakes 200000 a = some true := by
  have wa := wf_attr h1
  unfold law17_AttrTakes
  by_cases ha : (5000 : Int) < (a.2.length : Int)
  · simp only [ha, decide_true, cond_true, alive17, Option.bind_some]
  · simp only [ha, decide_false, cond_false]
    obtain ⟨v1, p1, q1⟩ := take1_ok (N := 200000) a wa (by omega)
    obtain ⟨v2, p2, q2⟩ := take2_ok (N := 200000) a wa (by omega)
    obtain ⟨v3, p3, q3⟩ := take3_ok (N := 200000) a wa (by omega)
    obtain ⟨v4, p4, q4⟩ := take4_ok (N := 200000) a wa (by omega)
    have hs : attr_Same 200000 (a.1, a.2) (a.1, a.2) = some true := by
      have := asame_ok (N := 200000) a a wa wa (by omega) (by omega)
      rw [decide_eq_true rfl] at this
      exact this
    have q2' : toE a 2 = 0 → attr_OfStatus 200000 (v2.1, (v2.2.1, v2.2.2)) = some a := q2
    have q3' : toE a 3 = 0 → attr_OfBinding 200000 (v3.1, (v3.2.1, (v3.2.2.1, v3.2.2.2))) = some a := q3
    have q4' : toE a 4 = 0 → attr_OfAsk 200000 (v4.1, v4.2) = some a := q4
    rw [p1, Option.bind_some, p2, Option.bind_some, p3, Option.bind_some, p4, Option.bind_some]
    simp only [rto_ok a _ wa.2 (by omega : 10000 ≤ 200000), Option.bind_some, decide_true, Bool.not_true, cond_false]
    by_cases c1 : toE a 1 = 0 <;> by_cases c2 : toE a 2 = 0 <;> by_cases c3 : toE a 3 = 0 <;> by_cases c4 : toE a 4 = 0 <;> simp [c1, c2, c3, c4, q1, q2', q3', q4', hs, alive17]
end Go.Proofs.Ytipjmjkfdekchaa
