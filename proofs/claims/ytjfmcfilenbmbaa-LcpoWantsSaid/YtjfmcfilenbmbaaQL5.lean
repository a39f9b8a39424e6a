/-
  Layer 25, on plain data: the law LcpoWants.
-/
import Derived.Test.YtjfmcfilenbmbaaQL4
namespace Go.Proofs.Ytjfmcfilenbmbaa
set_option maxRecDepth 100000
open Go.RowKit
set_option linter.unusedVariables false
set_option linter.unusedSimpArgs false
set_option maxRecDepth 100000

abbrev Wt3 := Int × Int × Bool
def wfW (w : Wt3) : Prop := (0 ≤ w.1 ∧ w.1 < 65536) ∧ (0 ≤ w.2.1 ∧ w.2.1 < 4294967296)
theorem wf_u16 {n : Int} (h : (Lit.int .u16 n).wf = true) : 0 ≤ n ∧ n < 65536 := by
  simp only [Lit.wf, Bool.and_eq_true, decide_eq_true_eq, IntKind.min, IntKind.max, IntKind.signed, IntKind.bits] at h
  simp at h
  omega
theorem wfu16 {n : Int} (h : 0 ≤ n ∧ n < 65536) : (Lit.int .u16 n).wf = true := by
  simp only [Lit.wf, Bool.and_eq_true, decide_eq_true_eq, IntKind.min, IntKind.max, IntKind.signed, IntKind.bits]
  simp
  omega
theorem wfu32 {n : Int} (h : 0 ≤ n ∧ n < 4294967296) : (Lit.int .u32 n).wf = true := by
  simp only [Lit.wf, Bool.and_eq_true, decide_eq_true_eq, IntKind.min, IntKind.max, IntKind.signed, IntKind.bits]
  simp
  omega
theorem wfB_want (w : Wt3) (h : wfW w) : wfB (.pair (.int .u16) (.pair (.int .u32) .bool)) (w.1, (w.2.1, w.2.2)) = true := by
  simp only [wfB, wfu16 h.1, wfu32 h.2, Bool.and_self]
def firstP (k : Int) (o : Op) : Bool := decide (o.1 = k) && decide ((o.2.length : Int) = sz k)
def firstS (l : List Op) (k : Int) : Option Op := l.find? (firstP k)
theorem firstS_some {l : List Op} {k : Int} {o : Op} (h : firstS l k = some o) : o ∈ l ∧ o.1 = k ∧ (o.2.length : Int) = sz k := by
  refine ⟨List.mem_of_find?_eq_some h, ?_⟩
  have := List.find?_some h
  simpa [firstP] using this
theorem first_step {l : List Op} {k : Int} {i : Nat} (hi : i < l.length) : (l.drop i).find? (firstP k) = if firstP k l[i] = true then some l[i] else (l.drop (i + 1)).find? (firstP k) := by
  rw [List.drop_eq_getElem_cons hi, List.find?_cons]
  cases firstP k l[i] <;> simp
section
variable {N : Nat}
theorem first_loop (l : List Op) (k : Int) (hl : l.length ≤ 1000) : ∀ (j M i : Nat), j + i = l.length → j < M → gl (fun X c => lcpo_first_L2 N X c.1.1 c.1.2.1 c.1.2.2.1 c.1.2.2.2.1) M ((k, (l, ((l.length : Int), ((i : Int), ())))), ()) = some (match (l.drop i).find? (firstP k) with | some o => .inl ((o.2, (true, ())), ()) | none => .inr ((), ()))
  | 0, M + 1, i, hj, hM => by
    have c1 : ¬ ((i : Int) < (l.length : Int)) := by omega
    rw [gl_succ, List.drop_of_length_le (by omega)]
    simp only [lcpo_first_L2, c1, decide_false, cond_false]
    rfl
  | j + 1, M + 1, i, hj, hM => by
    have hlt : i < l.length := by omega
    have c1 : ((i : Int) < (l.length : Int)) := by omega
    have c2 : Go.IntKind.wrap .i64 ((i : Int) + 1) = ((i + 1 : Nat) : Int) := by rw [wrap64 (by omega) (by omega)]; omega
    have ih := first_loop l k hl j M (i + 1) (by omega) (by omega)
    have hsz := size_ok (N := N) k
    rw [gl_succ, first_step hlt]
    by_cases h1 : l[i].1 = k
    · by_cases h2 : (l[i].2.length : Int) = sz k
      · have hp : firstP k l[i] = true := by simp [firstP, h1, h2]
        rw [if_pos hp]
        simp only [lcpo_first_L2, c1, decide_true, cond_true, getI_lt l i hlt, Option.bind_some, h1, hsz, h2]
      · have hp : ¬ firstP k l[i] = true := by simp [firstP, h1, h2]
        rw [if_neg hp]
        simp only [lcpo_first_L2, c1, decide_true, decide_false, cond_true, cond_false, getI_lt l i hlt, Option.bind_some, h1, hsz, h2, c2]
        exact ih
    · have hp : ¬ firstP k l[i] = true := by simp [firstP, h1]
      rw [if_neg hp]
      simp only [lcpo_first_L2, c1, decide_true, decide_false, cond_true, cond_false, getI_lt l i hlt, Option.bind_some, h1, c2]
      exact ih
theorem rfirst_loop (l : List Op) (k : Int) (hl : l.length ≤ 1000) : ∀ (j M i : Nat), j + i = l.length → j < M → gl (fun X c => ref25_first_L2 N X c.1.1 c.1.2.1 c.1.2.2.1 c.2.1) M ((l, (k, ((i : Int), ()))), (((0 : Int), ([] : List Int)), ())) = some (match (l.drop i).find? (firstP k) with | some o => .inl ((true, ()), ((o.1, o.2), ())) | none => .inr ((), (((0 : Int), ([] : List Int)), ())))
  | 0, M + 1, i, hj, hM => by
    have c1 : ¬ ((i : Int) < (l.length : Int)) := by omega
    rw [gl_succ, List.drop_of_length_le (by omega)]
    simp only [ref25_first_L2, c1, decide_false, cond_false]
    rfl
  | j + 1, M + 1, i, hj, hM => by
    have hlt : i < l.length := by omega
    have c1 : ((i : Int) < (l.length : Int)) := by omega
    have c2 : Go.IntKind.wrap .i64 ((i : Int) + 1) = ((i + 1 : Nat) : Int) := by rw [wrap64 (by omega) (by omega)]; omega
    have ih := rfirst_loop l k hl j M (i + 1) (by omega) (by omega)
    have hright := right_ok (N := N) (l[i].1, l[i].2)
    rw [gl_succ, first_step hlt]
    by_cases h1 : l[i].1 = k
    · by_cases h2 : (l[i].2.length : Int) = sz k
      · have hp : firstP k l[i] = true := by simp [firstP, h1, h2]
        rw [if_pos hp]
        simp only [h1, h2, decide_true] at hright
        simp only [ref25_first_L2, c1, decide_true, cond_true, getI_lt l i hlt, Option.bind_some, h1, hright]
      · have hp : ¬ firstP k l[i] = true := by simp [firstP, h1, h2]
        rw [if_neg hp]
        simp only [h1, h2, decide_false] at hright
        simp only [ref25_first_L2, c1, decide_true, cond_true, cond_false, getI_lt l i hlt, Option.bind_some, h1, hright, c2]
        exact ih
    · have hp : ¬ firstP k l[i] = true := by simp [firstP, h1]
      rw [if_neg hp]
      simp only [ref25_first_L2, c1, decide_true, decide_false, cond_true, cond_false, getI_lt l i hlt, Option.bind_some, h1, c2]
      exact ih
theorem first_some (l : List Op) (k : Int) (hl : l.length ≤ 1000) (hN : 10000 ≤ N) {o : Op} (h : firstS l k = some o) : lcpo_first N l k = some (o.2, true) ∧ ref25_first N l k = some (o, true) := by
  have h1 := first_loop (N := N) l k hl l.length N 0 (by omega) (by omega)
  have h2 := rfirst_loop (N := N) l k hl l.length N 0 (by omega) (by omega)
  rw [List.drop_zero, show l.find? (firstP k) = some o from h] at h1 h2
  exact ⟨(congrArg (fun o => Option.bind o _) (show lcpo_first_L2_R N ((k, (l, ((l.length : Int), ((0 : Int), ())))), ()) = _ from h1)).trans rfl, (congrArg (fun o => Option.bind o _) (show ref25_first_L2_R N ((l, (k, ((0 : Int), ()))), (((0 : Int), ([] : List Int)), ())) = _ from h2)).trans rfl⟩
theorem first_none (l : List Op) (k : Int) (hl : l.length ≤ 1000) (hN : 10000 ≤ N) (h : firstS l k = none) : lcpo_first N l k = some ([], false) ∧ ref25_first N l k = some ((0, []), false) := by
  have h1 := first_loop (N := N) l k hl l.length N 0 (by omega) (by omega)
  have h2 := rfirst_loop (N := N) l k hl l.length N 0 (by omega) (by omega)
  rw [List.drop_zero, show l.find? (firstP k) = none from h] at h1 h2
  exact ⟨(congrArg (fun o => Option.bind o _) (show lcpo_first_L2_R N ((k, (l, ((l.length : Int), ((0 : Int), ())))), ()) = _ from h1)).trans rfl, (congrArg (fun o => Option.bind o _) (show ref25_first_L2_R N ((l, (k, ((0 : Int), ()))), (((0 : Int), ([] : List Int)), ())) = _ from h2)).trans rfl⟩
theorem val1 {l : List Op} (hw : wfO l) {o : Op} (h : firstS l 1 = some o) (hN : 100 ≤ N) : ∃ v, lcpo_value N o.2 = some v ∧ ref01_Num N o.2 = some v ∧ 0 ≤ v ∧ v < 65536 := by
  obtain ⟨h1, h2, h3⟩ := firstS_some h
  obtain ⟨k, d⟩ := o
  have hd := (hw _ h1).2
  have hl : d.length = 2 := by rw [show sz 1 = 2 from rfl] at h3; simp only at h3; omega
  match d, hl with
  | [x, y], _ =>
    have bx := hd x (by simp)
    have by' := hd y (by simp)
    exact ⟨x * 256 + y, lget2 x y bx by' hN, lnum2 x y bx by' hN, by omega, by omega⟩
theorem val5 {l : List Op} (hw : wfO l) {o : Op} (h : firstS l 5 = some o) (hN : 100 ≤ N) : ∃ v, lcpo_value N o.2 = some v ∧ ref01_Num N o.2 = some v ∧ 0 ≤ v ∧ v < 4294967296 := by
  obtain ⟨h1, h2, h3⟩ := firstS_some h
  obtain ⟨k, d⟩ := o
  have hd := (hw _ h1).2
  have hl : d.length = 4 := by rw [show sz 5 = 4 from rfl] at h3; simp only at h3; omega
  match d, hl with
  | [x, y, z, u], _ =>
    have bx := hd x (by simp)
    have by' := hd y (by simp)
    have bz := hd z (by simp)
    have bu := hd u (by simp)
    exact ⟨((x * 256 + y) * 256 + z) * 256 + u, lget4 x y z u bx by' bz bu hN, lnum4 x y z u bx by' bz bu hN, by omega, by omega⟩
theorem beq_ok (l : List Int) (h : AllB l) : bytes_Equal N l [194, 35, 129] = some (decide (l = chapL)) := by
  unfold bytes_Equal
  rw [toBy_map h, show ([194, 35, 129] : List Int) = chapL from rfl, toBy_map chap_B, Option.bind_some, Option.bind_some, bytes_dec h chap_B]
theorem has_ok (l : List Op) (k : Int) (hl : l.length ≤ 1000) (hs : ∀ o ∈ l, o.2.length ≤ 1000) (hN : 10000 ≤ N) : lcpo_has N l k = some (findS l k).2 := by
  unfold lcpo_has
  rw [find_ok l k hl hs hN]
  rfl
theorem rej_ok (w : Wt3) (hw : wfW w) (l : List Op) (hl : l.length ≤ 1000) (hs : ∀ o ∈ l, o.2.length ≤ 1000) (hN : 10000 ≤ N) : ∃ r, lcpo_Rejected N (w.1, (w.2.1, w.2.2)) l = some r ∧ ref25_Rejected N (w.1, (w.2.1, w.2.2)) l = some r ∧ wfW r.1 := by
  have a1 := has_ok (N := N) l 1 hl hs hN
  have a3 := has_ok (N := N) l 3 hl hs hN
  have a5 := has_ok (N := N) l 5 hl hs hN
  have b1 := ref_find_ok (N := N) l 1 hl hN
  have b3 := ref_find_ok (N := N) l 3 hl hN
  have b5 := ref_find_ok (N := N) l 5 hl hN
  unfold lcpo_Rejected ref25_Rejected
  cases h1 : (findS l 1).2 <;> cases h5 : (findS l 5).2 <;> simp only [a1, a3, a5, b1, b3, b5, h1, h5, Option.bind_some, cond_true, cond_false]
  · exact ⟨_, rfl, rfl, hw⟩
  · exact ⟨_, rfl, rfl, hw.1, by show (0 : Int) ≤ 0 ∧ (0 : Int) < 4294967296; omega⟩
  · exact ⟨_, rfl, rfl, by show (0 : Int) ≤ 0 ∧ (0 : Int) < 65536; omega, hw.2⟩
  · exact ⟨_, rfl, rfl, by show (0 : Int) ≤ 0 ∧ (0 : Int) < 65536; omega, by show (0 : Int) ≤ 0 ∧ (0 : Int) < 4294967296; omega⟩
theorem opts_ok (w : Wt3) (hw : wfW w) (hN : 10000 ≤ N) : ∃ r, lcpo_Options N (w.1, (w.2.1, w.2.2)) = some r ∧ ref25_Options N (w.1, (w.2.1, w.2.2)) = some r ∧ wfO r ∧ r.length ≤ 3 := by
  obtain ⟨m, g, p⟩ := w
  obtain ⟨hm, hg⟩ := hw
  simp only at hm hg
  have em : Go.IntKind.wrap .u64 m = m := wrapU64 (by omega) (by omega)
  have eg : Go.IntKind.wrap .u64 g = g := wrapU64 (by omega) (by omega)
  have p1 := lput2 (N := N) m (by omega) (by omega)
  have p2 := lbig2 (N := N) m (by omega) (by omega)
  have p3 := lput4 (N := N) g (by omega) (by omega)
  have p4 := lbig4 (N := N) g (by omega) (by omega)
  have e1 : sz 1 = 2 := rfl
  have e5 : sz 5 = 4 := rfl
  have w1 : wfO [((1 : Int), [m / 256 % 256, m % 256])] := fun o ho => by
    rw [List.mem_singleton] at ho; subst ho
    refine ⟨by show (0 : Int) ≤ 1 ∧ (1 : Int) < 256; omega, fun x hx => ?_⟩
    simp only [List.mem_cons, List.not_mem_nil, or_false] at hx
    rcases hx with rfl | rfl <;> omega
  have w3 : wfO [((3 : Int), ([194, 35, 129] : List Int))] := fun o ho => by
    rw [List.mem_singleton] at ho; subst ho
    exact ⟨by show (0 : Int) ≤ 3 ∧ (3 : Int) < 256; omega, chap_B⟩
  have w5 : wfO [((5 : Int), [g / 16777216 % 256, g / 65536 % 256, g / 256 % 256, g % 256])] := fun o ho => by
    rw [List.mem_singleton] at ho; subst ho
    refine ⟨by show (0 : Int) ≤ 5 ∧ (5 : Int) < 256; omega, fun x hx => ?_⟩
    simp only [List.mem_cons, List.not_mem_nil, or_false] at hx
    rcases hx with rfl | rfl | rfl | rfl <;> omega
  have app : ∀ {a b : List Op}, wfO a → wfO b → wfO (a ++ b) := fun ha hb o ho => by
    rcases List.mem_append.1 ho with h | h
    · exact ha o h
    · exact hb o h
  have nil : wfO [] := fun o ho => by cases ho
  unfold lcpo_Options ref25_Options
  by_cases h1 : m = 0 <;> by_cases h5 : g = 0 <;> cases p <;> simp only [h1, h5, decide_true, decide_false, Bool.not_true, Bool.not_false, cond_true, cond_false, lcpo_number, size_ok, e1, e5, em, eg, p1, p2, p3, p4, Option.bind_some]
  · exact ⟨_, rfl, rfl, nil, by simp⟩
  · exact ⟨_, rfl, rfl, w3, by simp⟩
  · exact ⟨_, rfl, rfl, w5, by simp⟩
  · exact ⟨_, rfl, rfl, app w3 w5, by simp⟩
  · exact ⟨_, rfl, rfl, w1, by simp⟩
  · exact ⟨_, rfl, rfl, app w1 w3, by simp⟩
  · exact ⟨_, rfl, rfl, app w1 w5, by simp⟩
  · exact ⟨_, rfl, rfl, app (app w1 w3) w5, by simp⟩
theorem of_ok (l : List Op) (hw : wfO l) (hl : l.length ≤ 1000) (hs : ∀ o ∈ l, o.2.length ≤ 1000) (hN : 100001 < N) : ∃ g : Int × Int × Bool × Bool × Bool, lcpo_Of N l = some g ∧ ref25_Of N l = some g ∧ (0 ≤ g.1 ∧ g.1 < 65536) ∧ (0 ≤ g.2.1 ∧ g.2.1 < 4294967296) := by
  have fst : ∀ k, ∃ d b o, lcpo_first N l k = some (d, b) ∧ ref25_first N l k = some (o, b) ∧ ((b = true ∧ o.2 = d ∧ firstS l k = some o) ∨ (b = false ∧ d = [])) := fun k => by
    cases h : firstS l k with
    | some o => exact ⟨o.2, true, o, (first_some l k hl (by omega) h).1, (first_some l k hl (by omega) h).2, .inl ⟨rfl, rfl, rfl⟩⟩
    | none => exact ⟨[], false, (0, []), (first_none l k hl (by omega) h).1, (first_none l k hl (by omega) h).2, .inr ⟨rfl, rfl⟩⟩
  obtain ⟨d1, b1, o1, p1, q1, r1⟩ := fst 1
  obtain ⟨d3, b3, o3, p3, q3, r3⟩ := fst 3
  obtain ⟨d5, b5, o5, p5, q5, r5⟩ := fst 5
  obtain ⟨d7, b7, o7, p7, q7, _⟩ := fst 7
  obtain ⟨d8, b8, o8, p8, q8, _⟩ := fst 8
  have v16 : ∀ v : Int, 0 ≤ v ∧ v < 65536 → Go.IntKind.wrap .u16 v = v := fun v h => by rw [IntKind.wrap_u16]; omega
  have z16 : (0 : Int) ≤ 1500 ∧ (1500 : Int) < 65536 := by omega
  have z32 : (0 : Int) ≤ 0 ∧ (0 : Int) < 4294967296 := by omega
  have hnil : bytes_Equal N [] [194, 35, 129] = some false := beq_ok [] AllB.nil
  have s1 : (b1 = true ∧ ∃ v1, lcpo_value N d1 = some v1 ∧ ref01_Num N o1.2 = some v1 ∧ 0 ≤ v1 ∧ v1 < 65536) ∨ b1 = false := by
    rcases r1 with ⟨rfl, rfl, f1⟩ | ⟨rfl, rfl⟩
    · exact .inl ⟨rfl, val1 hw f1 (by omega)⟩
    · exact .inr rfl
  have s5 : (b5 = true ∧ ∃ v5, lcpo_value N d5 = some v5 ∧ ref01_Num N o5.2 = some v5 ∧ 0 ≤ v5 ∧ v5 < 4294967296) ∨ b5 = false := by
    rcases r5 with ⟨rfl, rfl, f5⟩ | ⟨rfl, rfl⟩
    · exact .inl ⟨rfl, val5 hw f5 (by omega)⟩
    · exact .inr rfl
  have s3 : (b3 = true ∧ ∃ t, bytes_Equal N d3 [194, 35, 129] = some t ∧ ref01_Same N o3.2 [194, 35, 129] = some t) ∨ (b3 = false ∧ bytes_Equal N d3 [194, 35, 129] = some false) := by
    rcases r3 with ⟨rfl, rfl, f3⟩ | ⟨rfl, rfl⟩
    · have hm := (firstS_some f3).1
      exact .inl ⟨rfl, decide (o3.2 = chapL), beq_ok o3.2 (hw _ hm).2, same21 o3.2 chapL (by have := hs _ hm; omega) (by omega)⟩
    · exact .inr ⟨rfl, hnil⟩
  clear r1 r3 r5
  unfold lcpo_Of ref25_Of
  rcases s1 with ⟨rfl, v1, a1, a2, a3⟩ | rfl <;> rcases s5 with ⟨rfl, v5, c1, c2, c3⟩ | rfl <;> rcases s3 with ⟨rfl, t, e1, e2⟩ | ⟨rfl, hnil'⟩
  · simp only [p1, p3, p5, p7, p8, q1, q3, q5, q7, q8, Option.bind_some, cond_true, cond_false, a1, a2, c1, c2, e1, e2, v16 v1 a3, wrapU32 c3]
    exact ⟨_, rfl, rfl, a3, c3⟩
  · simp only [p1, p3, p5, p7, p8, q1, q3, q5, q7, q8, Option.bind_some, cond_true, cond_false, a1, a2, c1, c2, hnil', v16 v1 a3, wrapU32 c3]
    exact ⟨_, rfl, rfl, a3, c3⟩
  · simp only [p1, p3, p5, p7, p8, q1, q3, q5, q7, q8, Option.bind_some, cond_true, cond_false, a1, a2, e1, e2, v16 v1 a3]
    exact ⟨_, rfl, rfl, a3, z32⟩
  · simp only [p1, p3, p5, p7, p8, q1, q3, q5, q7, q8, Option.bind_some, cond_true, cond_false, a1, a2, hnil', v16 v1 a3]
    exact ⟨_, rfl, rfl, a3, z32⟩
  · simp only [p1, p3, p5, p7, p8, q1, q3, q5, q7, q8, Option.bind_some, cond_true, cond_false, c1, c2, e1, e2, wrapU32 c3]
    exact ⟨_, rfl, rfl, z16, c3⟩
  · simp only [p1, p3, p5, p7, p8, q1, q3, q5, q7, q8, Option.bind_some, cond_true, cond_false, c1, c2, hnil', wrapU32 c3]
    exact ⟨_, rfl, rfl, z16, c3⟩
  · simp only [p1, p3, p5, p7, p8, q1, q3, q5, q7, q8, Option.bind_some, cond_true, cond_false, e1, e2]
    exact ⟨_, rfl, rfl, z16, z32⟩
  · simp only [p1, p3, p5, p7, p8, q1, q3, q5, q7, q8, Option.bind_some, cond_true, cond_false, hnil']
    exact ⟨_, rfl, rfl, z16, z32⟩
theorem naked_ok (w : Wt3) (hw : wfW w) (l : List Op) (fresh : Int) (hf : 0 ≤ fresh ∧ fresh < 4294967296) (hwl : wfO l) (hl : l.length ≤ 1000) (hs : ∀ o ∈ l, o.2.length ≤ 1000) (hN : 10000 ≤ N) : ∃ r, lcpo_Naked N (w.1, (w.2.1, w.2.2)) l fresh = some r ∧ ref25_Naked N (w.1, (w.2.1, w.2.2)) l fresh = some r ∧ wfW r := by
  obtain ⟨m, g, p⟩ := w
  have a5 := has_ok (N := N) l 5 hl hs hN
  have b5 := ref_find_ok (N := N) l 5 hl hN
  unfold lcpo_Naked ref25_Naked
  cases h : firstS l 1 with
  | none =>
    obtain ⟨f1, f2⟩ := first_none (N := N) l 1 hl hN h
    cases h5 : (findS l 5).2 <;> simp only [f1, f2, a5, b5, h5, Option.bind_some, cond_true, cond_false]
    · exact ⟨_, rfl, rfl, hw⟩
    · exact ⟨_, rfl, rfl, hw.1, hf⟩
  | some o =>
    obtain ⟨f1, f2⟩ := first_some (N := N) l 1 hl hN h
    obtain ⟨v, v1, v2, v3⟩ := val1 (N := N) hwl h (by omega)
    have u1 : Go.IntKind.wrap .u16 v = v := by rw [IntKind.wrap_u16]; omega
    cases t1 : decide ((128 : Int) ≤ v) <;> cases t2 : decide (v ≤ m) <;> cases t3 : decide (m = (0 : Int)) <;> cases h5 : (findS l 5).2 <;>
      simp only [f1, f2, v1, v2, u1, t1, t2, t3, a5, b5, h5, Option.bind_some, cond_true, cond_false] <;>
      first
        | exact ⟨_, rfl, rfl, hw⟩
        | exact ⟨_, rfl, rfl, v3, hw.2⟩
        | exact ⟨_, rfl, rfl, v3, hf⟩
        | exact ⟨_, rfl, rfl, hw.1, hf⟩
end
theorem law_LcpoWants (w : Wt3) (l : List Op) (fresh : Int) (h1 : wfT (.pair (.int .u16) (.pair (.int .u32) .bool)) w) (h2 : wfT (.sl (.pair (.int .u8) (.sl (.int .u8)))) l) (h3 : wfT (.int .u32) fresh) : law25_LcpoWants 200000 w l fresh = some true := by
  have hw := wf_opts h2
  have hww : wfW w := ⟨wf_u16 h1.1, wf_u32' h1.2.1⟩
  have hf := wf_u32' h3
  unfold law25_LcpoWants
  obtain ⟨f, hfar, hf2⟩ := far_ok (N := 200000) l (by omega)
  rw [hfar, Option.bind_some]
  cases f with
  | true => simp only [cond_true, alive25, Option.bind_some]
  | false =>
    obtain ⟨hl, hs⟩ := hf2 rfl
    have hs' : ∀ o ∈ l, o.2.length ≤ 1000 := fun o ho => by have := hs o ho; omega
    have hth := theirs_ok (N := 200000) l (by omega) (by omega)
    obtain ⟨r, r1, r2, r3⟩ := rej_ok (N := 200000) w hww l (by omega) hs' (by omega)
    obtain ⟨os, o1, o2, o3, o4⟩ := opts_ok (N := 200000) w hww (by omega)
    have hto := theirs_ok (N := 200000) os (by omega) (by omega)
    have hso := osame_ok (N := 200000) os os o3 o3 (by omega) (by omega)
    obtain ⟨g, g1, g2, g3, g4⟩ := of_ok (N := 200000) l hw (by omega) hs' (by omega)
    obtain ⟨k, k1, k2, k3⟩ := naked_ok (N := 200000) w hww l fresh hf hw (by omega) hs' (by omega)
    have wg : wfB (.pair (.int .u16) (.pair (.int .u32) (.pair .bool (.pair .bool .bool)))) (g.1, (g.2.1, (g.2.2.1, (g.2.2.2.1, g.2.2.2.2)))) = true := by
      simp only [wfB, wfu16 g3, wfu32 g4, Bool.and_self]
    simp only [cond_false, hth, Option.bind_some, r1, r2, o1, o2, hto, hso, decide_true, cond_true, g1, g2, wg, Bool.and_self, k1, k2, wfB_want k k3, wfB_want r.1 r3, beq_rfl', alive25]
end Go.Proofs.Ytjfmcfilenbmbaa
