/-
  Parts of my own, one behind the other: QI2, QI3, QI4, QI5, QI6.
-/
import Derived.Test.YthakbkoflnpfaaaMrg4
/-
  Layer 32, on plain data: what the program and the document lay.
-/
namespace Go.Proofs.Ythakbkoflnpfaaa
set_option maxRecDepth 100000
open Go.RowKit
set_option linter.unusedVariables false
set_option linter.unusedSimpArgs false
set_option maxRecDepth 100000

section
variable {N : Nat}
theorem join10 (l : List (List Int)) (hl : l.length ≤ 10) (hs : ∀ p ∈ l, p.length ≤ 2000) (hN : 10000 ≤ N) : qOJoinL3R N ((l, ((0 : Int), (l, ((l.length : Int), ((0 : Int), ()))))), ()) = some ((l, ((l.flatten.length : Int), ())), ()) ∧ qOJoinL9R N ((l, ((l.length : Int), ((0 : Int), ()))), (([] : List Int), ())) = some ((), (l.flatten, ())) ∧ l.flatten.length ≤ 20000 := by
  have tot : ∀ (m : List (List Int)), (∀ p ∈ m, p.length ≤ 2000) → m.flatten.length ≤ 2000 * m.length := by
    intro m
    induction m with
    | nil => intro _; simp
    | cons p m ih =>
      intro h
      have h1 := h p List.mem_cons_self
      have h2 := ih fun q hq => h q (List.mem_cons_of_mem _ hq)
      rw [List.flatten_cons, List.length_append, List.length_cons]
      omega
  have tk : ∀ i, (l.take i).flatten.length ≤ 20000 := fun i => by
    have := tot (l.take i) fun p hp => hs p (List.mem_of_mem_take hp)
    rw [List.length_take] at this
    omega
  have hsn : ∀ i (hi : i < l.length), (l.take (i + 1)).flatten = (l.take i).flatten ++ l[i] := fun i hi => by
    have : l.take (i + 1) = l.take i ++ [l[i]] := by rw [List.take_add_one, List.getElem?_eq_getElem hi]; rfl
    rw [this, List.flatten_append]
    simp
  have h1 := gl_run (G := fun (X : ((List (List Int) × Int × List (List Int) × Int × Int × Unit) × Unit) → Option ((List (List Int) × Int × Unit) × Unit)) c => qOJoinL3 N X c.1.1 c.1.2.1 c.1.2.2.1 c.1.2.2.2.1 c.1.2.2.2.2.1)
    (fun i => ((l, (((l.take i).flatten.length : Int), (l, ((l.length : Int), ((i : Int), ()))))), ())) l.length ((l, ((l.flatten.length : Int), ())), ()) (fun X i hi => by
    have c1 : ((i : Int) < (l.length : Int)) := by omega
    have c2 : Go.IntKind.wrap .i64 ((i : Int) + 1) = ((i + 1 : Nat) : Int) := by rw [wrap64 (by omega) (by omega)]; omega
    have hp := hs _ (List.getElem_mem hi)
    have ht := tk i
    have c3 : Go.IntKind.wrap .i64 (((l.take i).flatten.length : Int) + (l[i].length : Int)) = (((l.take (i + 1)).flatten.length : Nat) : Int) := by rw [wrap64 (by omega) (by omega), hsn i hi, List.length_append]; omega
    simp only [qOJoinL3, c1, decide_true, cond_true, getI_lt l i hi, Option.bind_some, c3, c2]) (fun X => by
    simp [qOJoinL3]) N 0 (by omega) (by omega)
  have h2 := gl_run (G := fun (X : ((List (List Int) × Int × Int × Unit) × List Int × Unit) → Option (Unit × List Int × Unit)) c => qOJoinL9 N X c.1.1 c.1.2.1 c.1.2.2.1 c.2.1)
    (fun i => ((l, ((l.length : Int), ((i : Int), ()))), ((l.take i).flatten, ()))) l.length ((), (l.flatten, ())) (fun X i hi => by
    have c1 : ((i : Int) < (l.length : Int)) := by omega
    have c2 : Go.IntKind.wrap .i64 ((i : Int) + 1) = ((i + 1 : Nat) : Int) := by rw [wrap64 (by omega) (by omega)]; omega
    have hp := hs _ (List.getElem_mem hi)
    have ht := tk i
    have c3 : roomB ((l.take i).flatten.length + l[i].length) 1 = true := roomB_of (by have := big_len; omega) (by omega)
    simp only [qOJoinL9, c1, decide_true, cond_true, getI_lt l i hi, Option.bind_some, c3, c2, hsn i hi]) (fun X => by
    simp [qOJoinL9]) N 0 (by omega) (by omega)
  simp only [Int.natCast_zero, List.take_zero, List.flatten_nil, List.length_nil] at h1 h2
  refine ⟨h1, h2, ?_⟩
  have := tot l hs
  omega
/-- A row of the call's own lies beside: it stays. -/
theorem join7 (l : List (List Int)) (h : List Int) (hl : l.length ≤ 10) (hs : ∀ p ∈ l, p.length ≤ 2000) (hN : 10000 ≤ N) : ipcp_Lay_7_octs_Join_L3_R N ((l, ((0 : Int), (l, ((l.length : Int), ((0 : Int), ()))))), (h, ())) = some ((l, ((l.flatten.length : Int), ())), (h, ())) ∧ ipcp_Lay_7_octs_Join_L9_R N ((l, ((l.length : Int), ((0 : Int), ()))), (h, (([] : List Int), ()))) = some ((), (h, (l.flatten, ()))) := by
  have tk : ∀ i, (l.take i).flatten.length ≤ 20000 := fun i => (join10 (N := N) (l.take i) (by rw [List.length_take]; omega) (fun p hp => hs p (List.mem_of_mem_take hp)) hN).2.2
  have hsn : ∀ i (hi : i < l.length), (l.take (i + 1)).flatten = (l.take i).flatten ++ l[i] := fun i hi => by
    have : l.take (i + 1) = l.take i ++ [l[i]] := by rw [List.take_add_one, List.getElem?_eq_getElem hi]; rfl
    rw [this, List.flatten_append]
    simp
  have h1 := gl_run (G := fun (X : ((List (List Int) × Int × List (List Int) × Int × Int × Unit) × List Int × Unit) → Option ((List (List Int) × Int × Unit) × List Int × Unit)) c => ipcp_Lay_7_octs_Join_L3 N X c.1.1 c.1.2.1 c.1.2.2.1 c.1.2.2.2.1 c.1.2.2.2.2.1 c.2.1)
    (fun i => ((l, (((l.take i).flatten.length : Int), (l, ((l.length : Int), ((i : Int), ()))))), (h, ()))) l.length ((l, ((l.flatten.length : Int), ())), (h, ())) (fun X i hi => by
    have c1 : ((i : Int) < (l.length : Int)) := by omega
    have c2 : Go.IntKind.wrap .i64 ((i : Int) + 1) = ((i + 1 : Nat) : Int) := by rw [wrap64 (by omega) (by omega)]; omega
    have hp := hs _ (List.getElem_mem hi)
    have ht := tk i
    have c3 : Go.IntKind.wrap .i64 (((l.take i).flatten.length : Int) + (l[i].length : Int)) = (((l.take (i + 1)).flatten.length : Nat) : Int) := by rw [wrap64 (by omega) (by omega), hsn i hi, List.length_append]; omega
    simp only [ipcp_Lay_7_octs_Join_L3, c1, decide_true, cond_true, getI_lt l i hi, Option.bind_some, c3, c2]) (fun X => by
    simp [ipcp_Lay_7_octs_Join_L3]) N 0 (by omega) (by omega)
  have h2 := gl_run (G := fun (X : ((List (List Int) × Int × Int × Unit) × List Int × List Int × Unit) → Option (Unit × List Int × List Int × Unit)) c => ipcp_Lay_7_octs_Join_L9 N X c.1.1 c.1.2.1 c.1.2.2.1 c.2.1 c.2.2.1)
    (fun i => ((l, ((l.length : Int), ((i : Int), ()))), (h, ((l.take i).flatten, ())))) l.length ((), (h, (l.flatten, ()))) (fun X i hi => by
    have c1 : ((i : Int) < (l.length : Int)) := by omega
    have c2 : Go.IntKind.wrap .i64 ((i : Int) + 1) = ((i + 1 : Nat) : Int) := by rw [wrap64 (by omega) (by omega)]; omega
    have hp := hs _ (List.getElem_mem hi)
    have ht := tk i
    have c3 : roomB ((l.take i).flatten.length + l[i].length) 1 = true := roomB_of (by have := big_len; omega) (by omega)
    simp only [ipcp_Lay_7_octs_Join_L9, c1, decide_true, cond_true, getI_lt l i hi, Option.bind_some, c3, c2, hsn i hi]) (fun X => by
    simp [ipcp_Lay_7_octs_Join_L9]) N 0 (by omega) (by omega)
  simp only [Int.natCast_zero, List.take_zero, List.flatten_nil, List.length_nil] at h1 h2
  exact ⟨h1, h2⟩
theorem cong_cond {α : Type} {b : Bool} {x y : α} (h : b = true) : (bif b then x else y) = x := by rw [h]; rfl
abbrev Dg := Int × (Int × (Int × (Int × List Int)))
def wfD (d : Dg) : Prop := (0 ≤ d.1 ∧ d.1 < 256) ∧ (0 ≤ d.2.1 ∧ d.2.1 < 256) ∧ (0 ≤ d.2.2.1 ∧ d.2.2.1 < 4294967296) ∧ (0 ≤ d.2.2.2.1 ∧ d.2.2.2.1 < 4294967296) ∧ AllB d.2.2.2.2
def n2 (n : Int) : List Int := [n / 256 % 256, n % 256]
def n4 (n : Int) : List Int := [n / 16777216 % 256, n / 65536 % 256, n / 256 % 256, n % 256]
def lenD (d : Dg) : Int := 20 + (d.2.2.2.2.length : Int)
def aheadD (d : Dg) : List Int := [[69, 0], n2 (lenD d), [0, 0, 0, 0], [d.1, d.2.1]].flatten
def behindD (d : Dg) : List Int := [n4 d.2.2.1, n4 d.2.2.2.1].flatten
def ckD (d : Dg) : Int := 65535 - foldS (PS (aheadD d ++ behindD d) 18)
def layD (d : Dg) : List Int := [aheadD d, n2 (ckD d), behindD d, d.2.2.2.2].flatten
theorem n2_len (n : Int) : (n2 n).length = 2 := rfl
theorem n4_len (n : Int) : (n4 n).length = 4 := rfl
theorem ahead_len (d : Dg) : (aheadD d).length = 10 := rfl
theorem behind_len (d : Dg) : (behindD d).length = 8 := rfl
theorem AllB_app {a b : List Int} (ha : AllB a) (hb : AllB b) : AllB (a ++ b) := fun x hx => (List.mem_append.1 hx).elim (ha x) (hb x)
theorem AllB_nil' : AllB [] := fun x h => by cases h
theorem AllB_cons' {x : Int} {l : List Int} (hx : 0 ≤ x ∧ x < 256) (h : AllB l) : AllB (x :: l) := fun y hy => (List.mem_cons.1 hy).elim (fun e => e ▸ hx) (h y)
theorem n2_B (n : Int) : AllB (n2 n) := AllB_cons' (by omega) (AllB_cons' (by omega) AllB_nil')
theorem n4_B (n : Int) : AllB (n4 n) := AllB_cons' (by omega) (AllB_cons' (by omega) (AllB_cons' (by omega) (AllB_cons' (by omega) AllB_nil')))
theorem ahead_B {d : Dg} (h : wfD d) : AllB (aheadD d) :=
  AllB_app (AllB_cons' (by omega) (AllB_cons' (by omega) AllB_nil')) (AllB_app (n2_B _) (AllB_app (AllB_cons' (by omega) (AllB_cons' (by omega) (AllB_cons' (by omega) (AllB_cons' (by omega) AllB_nil')))) (AllB_app (AllB_cons' h.1 (AllB_cons' h.2.1 AllB_nil')) AllB_nil')))
theorem behind_B (d : Dg) : AllB (behindD d) := AllB_app (n4_B _) (AllB_app (n4_B _) AllB_nil')
theorem ck_bd {d : Dg} (h : wfD d) : 0 ≤ ckD d ∧ ckD d ≤ 65535 := by
  have h1 := PS_bd (AllB_app (ahead_B h) (behind_B d)) 18
  have h2 := foldS_bd _ h1.1
  unfold ckD
  omega
theorem layD_B {d : Dg} (h : wfD d) : AllB (layD d) := AllB_app (ahead_B h) (AllB_app (n2_B _) (AllB_app (behind_B d) (AllB_app h.2.2.2.2 AllB_nil')))
theorem layD_len (d : Dg) : (layD d).length = 20 + d.2.2.2.2.length := by
  have h1 := ahead_len d
  have h2 := behind_len d
  have h3 := n2_len (ckD d)
  simp only [layD, List.flatten_cons, List.flatten_nil, List.length_append, List.length_nil]
  omega
theorem lay_ok {d : Dg} (h : wfD d) (hl : d.2.2.2.2.length ≤ 1480) (hN : 200000 ≤ N) : ipcp_Lay N d = some (layD d, 0) := by
  obtain ⟨t, p, s, r, b⟩ := d
  obtain ⟨ht, hp, hs, hr, hb⟩ := h
  simp only at ht hp hs hr hb hl
  have hwf : wfD (t, p, s, r, b) := ⟨ht, hp, hs, hr, hb⟩
  have c1 : ¬ (1480 : Int) < (b.length : Int) := by omega
  have w1 : Go.IntKind.wrap .u64 (Go.IntKind.wrap .i64 ((20 : Int) + (b.length : Int))) = 20 + (b.length : Int) := by rw [wrap64 (by omega) (by omega), wrapU64 (by omega) (by omega)]
  have w2 : Go.IntKind.wrap .u64 s = s := wrapU64 hs.1 (by omega)
  have w3 : Go.IntKind.wrap .u64 r = r := wrapU64 hr.1 (by omega)
  have p1 : octs_Put N (20 + (b.length : Int)) 2 false = some (n2 (20 + (b.length : Int)), 0) := put2 (N := N) _ (by omega) (by omega)
  have p2 : octs_Put N s 4 false = some (n4 s, 0) := put4 (N := N) _ (by omega) (by omega)
  have p3 : octs_Put N r 4 false = some (n4 r, 0) := put4 (N := N) _ (by omega) (by omega)
  have ck := ck_bd hwf
  have j6 := join10 (N := N) [[69, 0], n2 (20 + (b.length : Int)), List.replicate (Int.toNat 4) 0, [t, p]] (by simp) (fun q hq => by
    simp only [List.mem_cons, List.not_mem_nil, or_false] at hq
    rcases hq with rfl | rfl | rfl | rfl <;> simp [n2]) (by omega)
  have j7 := join7 (N := N) [n4 s, n4 r] (aheadD (t, p, s, r, b)) (by simp) (fun q hq => by
    simp only [List.mem_cons, List.not_mem_nil, or_false] at hq
    rcases hq with rfl | rfl <;> simp [n4]) (by omega)
  have j8 := join10 (N := N) [aheadD (t, p, s, r, b), behindD (t, p, s, r, b)] (by simp) (fun q hq => by
    simp only [List.mem_cons, List.not_mem_nil, or_false] at hq
    rcases hq with rfl | rfl
    · rw [ahead_len]; omega
    · rw [behind_len]; omega) (by omega)
  have j9 := join10 (N := N) [aheadD (t, p, s, r, b), n2 (ckD (t, p, s, r, b)), behindD (t, p, s, r, b), b] (by simp) (fun q hq => by
    simp only [List.mem_cons, List.not_mem_nil, or_false] at hq
    rcases hq with rfl | rfl | rfl | rfl
    · rw [ahead_len]; omega
    · rw [n2_len]; omega
    · rw [behind_len]; omega
    · omega) (by omega)
  have e8 : [aheadD (t, p, s, r, b), behindD (t, p, s, r, b)].flatten = aheadD (t, p, s, r, b) ++ behindD (t, p, s, r, b) := by simp
  have s8 : ipcp_Sum N [aheadD (t, p, s, r, b), behindD (t, p, s, r, b)].flatten = some (ckD (t, p, s, r, b)) := by
    rw [e8, sum_ok (AllB_app (ahead_B hwf) (behind_B _)) (by rw [List.length_append, ahead_len, behind_len]; omega) hN, List.length_append, ahead_len, behind_len]
    rfl
  have w8 : Go.IntKind.wrap .u64 (ckD (t, p, s, r, b)) = ckD (t, p, s, r, b) := wrapU64 ck.1 (by omega)
  have p8 : octs_Put N (ckD (t, p, s, r, b)) 2 false = some (n2 (ckD (t, p, s, r, b)), 0) := put2 (N := N) _ (by omega) (by omega)
  have rm : ∀ n : Nat, n ≤ 20000 → ((decide ((0 : Int) ≤ (0 : Int) ∧ (0 : Int) ≤ ((n : Nat) : Int))) && (roomB (Int.toNat ((n : Nat) : Int)) 1)) = true := fun n hn => by
    rw [Int.toNat_natCast, roomB_of (by have := big_len; omega) (by omega)]
    simp
  unfold ipcp_Lay
  rw [decide_eq_false c1, cond_false, w1, p1, Option.bind_some, w2, p2, Option.bind_some, w3, p3, Option.bind_some]
  refine (congrArg (fun x => Option.bind x _) (show ipcp_Lay_6_octs_Join_L3_R N _ = _ from j6.1)).trans ?_
  rw [Option.bind_some]
  refine (cong_cond (rm _ j6.2.2)).trans ?_
  refine (congrArg (fun x => Option.bind x _) (show ipcp_Lay_6_octs_Join_L9_R N _ = _ from j6.2.1)).trans ?_
  rw [Option.bind_some]
  refine (congrArg (fun x => Option.bind x _) (show ipcp_Lay_7_octs_Join_L3_R N _ = _ from j7.1)).trans ?_
  rw [Option.bind_some]
  refine (cong_cond (rm _ (by simp [n4]))).trans ?_
  refine (congrArg (fun x => Option.bind x _) (show ipcp_Lay_7_octs_Join_L9_R N _ = _ from j7.2)).trans ?_
  rw [Option.bind_some]
  refine (congrArg (fun x => Option.bind x _) (show ipcp_Lay_8_octs_Join_L3_R N _ = _ from j8.1)).trans ?_
  rw [Option.bind_some]
  refine (cong_cond (rm _ j8.2.2)).trans ?_
  refine (congrArg (fun x => Option.bind x _) (show ipcp_Lay_8_octs_Join_L9_R N _ = _ from j8.2.1)).trans ?_
  rw [Option.bind_some]
  refine (congrArg (fun x => Option.bind x _) (show ipcp_Sum N _ = _ from s8)).trans ?_
  rw [Option.bind_some, w8, p8, Option.bind_some]
  refine (congrArg (fun x => Option.bind x _) (show ipcp_Lay_9_octs_Join_L3_R N _ = _ from j9.1)).trans ?_
  rw [Option.bind_some]
  refine (cong_cond (rm _ j9.2.2)).trans ?_
  refine (congrArg (fun x => Option.bind x _) (show ipcp_Lay_9_octs_Join_L9_R N _ = _ from j9.2.1)).trans ?_
  rw [Option.bind_some]
  rfl
end
end Go.Proofs.Ythakbkoflnpfaaa
/-
  Layer 32, on plain data: what the document lays; sums of what is laid.
-/
namespace Go.Proofs.Ythakbkoflnpfaaa
set_option maxRecDepth 100000
open Go.RowKit
set_option linter.unusedVariables false
set_option linter.unusedSimpArgs false
set_option maxRecDepth 100000

section
variable {N : Nat}
theorem room_of {n : Nat} (h : n ≤ 20000) : roomB n 1 = true := roomB_of (by have := big_len; omega) (by omega)
theorem PS_zero {d : Dg} (x y : Int) : PS (aheadD d ++ [x, y] ++ behindD d) 20 = PS (aheadD d ++ behindD d) 18 + 256 * x + y := by
  obtain ⟨t, p, s, r, b⟩ := d
  simp only [PS, wI, aheadD, behindD, n2, n4, List.flatten_cons, List.flatten_nil, List.cons_append, List.nil_append, List.append_nil, List.getD_cons_zero, List.getD_cons_succ]
  simp only [Nat.reduceMod, if_true, Nat.one_ne_zero, if_false]
  omega
theorem rlay_ok {d : Dg} (h : wfD d) (hl : d.2.2.2.2.length ≤ 1480) (hN : 200000 ≤ N) : ref32_Lay N d = some (layD d, 0) := by
  obtain ⟨t, p, s, r, b⟩ := d
  obtain ⟨ht, hp, hs, hr, hb⟩ := h
  simp only at ht hp hs hr hb hl
  have hwf : wfD (t, p, s, r, b) := ⟨ht, hp, hs, hr, hb⟩
  have c1 : ¬ (1480 : Int) < (b.length : Int) := by omega
  have w1 : Go.IntKind.wrap .u64 (Go.IntKind.wrap .i64 ((20 : Int) + (b.length : Int))) = 20 + (b.length : Int) := by rw [wrap64 (by omega) (by omega), wrapU64 (by omega) (by omega)]
  have w2 : Go.IntKind.wrap .u64 s = s := wrapU64 hs.1 (by omega)
  have w3 : Go.IntKind.wrap .u64 r = r := wrapU64 hr.1 (by omega)
  have p1 : ref01_Big N (20 + (b.length : Int)) 2 = some (n2 (20 + (b.length : Int))) := big2 (N := N) _ (by omega) (by omega)
  have p2 : ref01_Big N s 4 = some (n4 s) := big4 (N := N) _ (by omega) (by omega)
  have p3 : ref01_Big N r 4 = some (n4 r) := big4 (N := N) _ (by omega) (by omega)
  have ck := ck_bd hwf
  have eb : (((([69, 0] ++ n2 (20 + (b.length : Int))) ++ [0, 0, 0, 0, t, p, 0, 0]) ++ n4 s) ++ n4 r) = aheadD (t, p, s, r, b) ++ [0, 0] ++ behindD (t, p, s, r, b) := rfl
  have sB : AllB (aheadD (t, p, s, r, b) ++ [0, 0] ++ behindD (t, p, s, r, b)) := AllB_app (AllB_app (ahead_B hwf) (AllB_cons' (by omega) (AllB_cons' (by omega) AllB_nil'))) (behind_B _)
  have s8 : ref32_Sum N (((([69, 0] ++ n2 (20 + (b.length : Int))) ++ [0, 0, 0, 0, t, p, 0, 0]) ++ n4 s) ++ n4 r) = some (ckD (t, p, s, r, b)) := by
    rw [eb, rsum_ok sB (by show (20 : Nat) ≤ _; omega) hN]
    show some (65535 - foldS (PS (aheadD (t, p, s, r, b) ++ [0, 0] ++ behindD (t, p, s, r, b)) 20)) = _
    rw [PS_zero]
    simp only [Int.mul_zero, Int.add_zero]
    rfl
  have x1 : Go.IntKind.wrap .u8 (Go.IntKind.wrap .u16 (Int.tdiv (ckD (t, p, s, r, b)) 256)) = ckD (t, p, s, r, b) / 256 % 256 := by
    rw [Int.tdiv_eq_ediv_of_nonneg ck.1, IntKind.wrap_u16, IntKind.wrap_u8]; omega
  have x2 : Go.IntKind.wrap .u8 (Int.tmod (ckD (t, p, s, r, b)) 256) = ckD (t, p, s, r, b) % 256 := by
    rw [Int.tmod_eq_emod_of_nonneg ck.1, IntKind.wrap_u8]; omega
  unfold ref32_Lay
  rw [decide_eq_false c1, cond_false, w1, p1, Option.bind_some]
  refine (cong_cond (by rw [room_of (show _ ≤ 20000 from by simp [n2])]; rfl)).trans ?_
  refine (cong_cond (room_of (show _ ≤ 20000 from by simp [n2]))).trans ?_
  rw [w2, p2, Option.bind_some, w3, p3, Option.bind_some]
  refine (cong_cond (room_of (show _ ≤ 20000 from by simp [n2, n4]))).trans ?_
  refine (cong_cond (room_of (show _ ≤ 20000 from by simp [n2, n4]))).trans ?_
  rw [s8, Option.bind_some, x1, x2]
  refine (cong_cond (by simp [n2, n4])).trans ?_
  refine (congrArg (fun x => Option.bind x _) (show _ = some (0 : Int) from rfl)).trans ?_
  rw [Option.bind_some]
  refine (cong_cond (by simp [n2, n4])).trans ?_
  refine (congrArg (fun x => Option.bind x _) (show _ = some (0 : Int) from rfl)).trans ?_
  rw [Option.bind_some]
  refine (cong_cond (room_of (show _ ≤ 20000 from by simp [n2, n4]; omega))).trans ?_
  show some (_, (0 : Int)) = some (_, 0)
  refine congrArg (fun x => some (x, (0 : Int))) ?_
  have e1 : layD (t, p, s, r, b) = (aheadD (t, p, s, r, b) ++ (n2 (ckD (t, p, s, r, b)) ++ behindD (t, p, s, r, b))) ++ b := by simp [layD]
  rw [e1]
  rfl
/-- The sum over the laid head is nought. -/
theorem head_eq (d : Dg) (k : List Int) : (layD d ++ k).take 20 = aheadD d ++ n2 (ckD d) ++ behindD d := by
  have e1 : layD d ++ k = (aheadD d ++ n2 (ckD d) ++ behindD d) ++ (d.2.2.2.2 ++ k) := by simp [layD]
  rw [e1, List.take_append_of_le_length (by simp [ahead_len, behind_len, n2_len]), List.take_of_length_le (by simp [ahead_len, behind_len, n2_len])]
theorem foldS_full {s : Int} (h : 0 ≤ s) : foldS s = 0 ↔ s = 0 := by unfold foldS; split <;> omega
theorem foldS_top {s : Int} (h : 0 ≤ s) : foldS s = 65535 ↔ s ≠ 0 ∧ s % 65535 = 0 := by unfold foldS; split <;> omega
theorem PS_head {d : Dg} (h : wfD d) : PS (aheadD d ++ n2 (ckD d) ++ behindD d) 20 = PS (aheadD d ++ behindD d) 18 + ckD d := by
  have ck := ck_bd h
  have := PS_zero (d := d) (ckD d / 256 % 256) (ckD d % 256)
  show PS (aheadD d ++ [ckD d / 256 % 256, ckD d % 256] ++ behindD d) 20 = _
  rw [this]
  omega
theorem PS_pos {d : Dg} (h : wfD d) : 17664 ≤ PS (aheadD d ++ behindD d) 18 := by
  obtain ⟨t, p, s, r, b⟩ := d
  obtain ⟨ht, hp, hs, hr, hb⟩ := h
  simp only at ht hp hs hr hb
  simp only [PS, wI, aheadD, behindD, n2, n4, lenD, List.flatten_cons, List.flatten_nil, List.cons_append, List.nil_append, List.append_nil, List.getD_cons_zero, List.getD_cons_succ]
  simp only [Nat.reduceMod, if_true, Nat.one_ne_zero, if_false]
  omega
/-- What is laid weighs a multiple of all ones. -/
theorem PS_top {d : Dg} (h : wfD d) : PS (aheadD d ++ n2 (ckD d) ++ behindD d) 20 % 65535 = 0 := by
  rw [PS_head h]
  have h1 := PS_pos h
  unfold ckD foldS
  rw [if_neg (by omega)]
  omega
end
end Go.Proofs.Ythakbkoflnpfaaa
/-
  Layer 32, on plain data: what the program and the document read.
-/
namespace Go.Proofs.Ythakbkoflnpfaaa
set_option maxRecDepth 100000
open Go.RowKit
set_option linter.unusedVariables false
set_option linter.unusedSimpArgs false
set_option maxRecDepth 100000

theorem drop_take2 (l : List Int) (i : Nat) (h : i + 2 ≤ l.length) : (l.drop i).take 2 = [l.getD i 0, l.getD (i + 1) 0] := by
  rw [List.drop_eq_getElem_cons (by omega), List.drop_eq_getElem_cons (by omega)]
  simp only [List.getD_eq_getElem?_getD, List.getElem?_eq_getElem (show i < l.length by omega), List.getElem?_eq_getElem (show i + 1 < l.length by omega), Option.getD_some]
  rfl
theorem drop_take4 (l : List Int) (i : Nat) (h : i + 4 ≤ l.length) : (l.drop i).take 4 = [l.getD i 0, l.getD (i + 1) 0, l.getD (i + 2) 0, l.getD (i + 3) 0] := by
  rw [List.drop_eq_getElem_cons (by omega), List.drop_eq_getElem_cons (by omega), List.drop_eq_getElem_cons (by omega), List.drop_eq_getElem_cons (by omega)]
  simp only [List.getD_eq_getElem?_getD, List.getElem?_eq_getElem (show i < l.length by omega), List.getElem?_eq_getElem (show i + 1 < l.length by omega), List.getElem?_eq_getElem (show i + 2 < l.length by omega), List.getElem?_eq_getElem (show i + 3 < l.length by omega), Option.getD_some]
  rfl
theorem getI_D (l : List Int) (i : Nat) (h : i < l.length) : getI l (i : Int) = some (l.getD i 0) := by
  rw [getI_lt l i h, List.getD_eq_getElem?_getD, List.getElem?_eq_getElem h]
  rfl
def zeroD : Dg := (0, (0, (0, (0, []))))
def w4 (b : List Int) (i : Nat) : Int := ((b.getD i 0 * 256 + b.getD (i + 1) 0) * 256 + b.getD (i + 2) 0) * 256 + b.getD (i + 3) 0
def lenP (b : List Int) : Int := b.getD 2 0 * 256 + b.getD 3 0
def readD (b : List Int) : Dg := (b.getD 8 0, (b.getD 9 0, (w4 b 12, (w4 b 16, (b.drop 20).take ((lenP b).toNat - 20)))))
def okSum (b : List Int) : Prop := PS b 20 % 65535 = 0
instance (b : List Int) : Decidable (okSum b) := inferInstanceAs (Decidable (_ = _))
def parseD (b : List Int) : Dg × Int :=
  if b.length < 20 then (zeroD, 4) else if b.getD 0 0 ≠ 69 then (zeroD, 15) else if lenP b < 20 then (zeroD, 3) else if (b.length : Int) < lenP b then (zeroD, 4) else if 1500 < lenP b then (zeroD, 8) else if ¬ okSum b then (zeroD, 3) else (readD b, 0)
theorem PS_take (b : List Int) (k : Nat) : ∀ i : Nat, i ≤ k → PS (b.take k) i = PS b i
  | 0, _ => rfl
  | i + 1, h => by
    have e : (b.take k).getD i 0 = b.getD i 0 := by simp only [List.getD_eq_getElem?_getD, List.getElem?_take, if_pos (show i < k by omega)]
    rw [PS, PS, PS_take b k i (by omega), e]
theorem PS_one {b : List Int} (hb : AllB b) (h : b.getD 0 0 = 69) : ∀ i, 17664 ≤ PS b (i + 1)
  | 0 => by rw [PS, PS, h]; decide
  | i + 1 => by
    have h1 := PS_one hb h i
    have h2 := wI_bd (i := i + 1) (getD_B hb (i + 1))
    rw [PS]; omega
theorem AllB_take' {b : List Int} (hb : AllB b) (k : Nat) : AllB (b.take k) := fun x hx => hb x (List.mem_of_mem_take hx)
section
variable {N : Nat}
theorem headsum {b : List Int} (hb : AllB b) (h : 20 ≤ b.length) (h0 : b.getD 0 0 = 69) (hN : 200000 ≤ N) : (65535 - foldS (PS (b.take 20) (b.take 20).length) = 0 ↔ okSum b) := by
  have e : (b.take 20).length = 20 := by rw [List.length_take]; omega
  have h1 : 17664 ≤ PS b 20 := PS_one hb h0 19
  rw [e, PS_take b 20 20 (by omega)]
  have := foldS_top (s := PS b 20) (by omega)
  unfold okSum
  constructor
  · intro h; exact (this.1 (by omega)).2
  · intro h; have := this.2 ⟨by omega, h⟩; omega
theorem iaddr_ok {x y z u : Int} (hx : 0 ≤ x ∧ x < 256) (hy : 0 ≤ y ∧ y < 256) (hz : 0 ≤ z ∧ z < 256) (hu : 0 ≤ u ∧ u < 256) (hN : 200000 ≤ N) : ipcp_addr N [x, y, z, u] = some (((x * 256 + y) * 256 + z) * 256 + u) := by
  have g : octs_Get N [x, y, z, u] false = some (((x * 256 + y) * 256 + z) * 256 + u, 0) := get4 (N := N) x y z u hx hy hz hu (by omega)
  unfold ipcp_addr
  rw [g, Option.bind_some]
  show some (Go.IntKind.wrap .u32 (((x * 256 + y) * 256 + z) * 256 + u)) = _
  rw [IntKind.wrap_u32]
  congr 1
  omega
theorem clone_ok {l : List Int} (h : l.length ≤ 20000) : slices_Clone_byte_byte N l = some l := by
  unfold slices_Clone_byte_byte
  cases l with
  | nil => rfl
  | cons x l =>
    unfold slices_Clone_byte_byte_ne
    rw [room_of h]
    rfl
theorem parse_ok {b : List Int} (hb : AllB b) (hl : b.length ≤ 100000) (hN : 200000 ≤ N) : ipcp_Parse N b = some (parseD b) := by
  unfold ipcp_Parse parseD
  by_cases c0 : b.length < 20
  · have c0' : (b.length : Int) < 20 := by omega
    rw [decide_eq_true c0', cond_true, if_pos c0]
    rfl
  have c0' : ¬ (b.length : Int) < 20 := by omega
  have s1 : subI b 2 4 = some [b.getD 2 0, b.getD 3 0] := (subI_nat b (a := 2) (b := 4) (i := 2) (j := 4) rfl rfl (by omega) (by omega)).trans (congrArg some (drop_take2 b 2 (by omega)))
  have B := fun i => getD_B hb i
  have g1 : octs_Get N [b.getD 2 0, b.getD 3 0] false = some (lenP b, 0) := get2 (N := N) _ _ (B 2) (B 3) (by omega)
  have g0 : getI b 0 = some (b.getD 0 0) := getI_D b 0 (by omega)
  have wl : Go.IntKind.wrap .i64 (lenP b) = lenP b := by have := B 2; have := B 3; exact wrap64 (by unfold lenP; omega) (by unfold lenP; omega)
  rw [decide_eq_false c0', cond_false, if_neg c0, s1, Option.bind_some, g1, Option.bind_some, g0, Option.bind_some]
  simp only [wl]
  by_cases c1 : b.getD 0 0 = 69
  · rw [decide_eq_true c1, if_neg (by omega), Bool.not_true, cond_false]
    by_cases c2 : lenP b < 20
    · rw [decide_eq_true c2, if_pos c2, cond_true]; rfl
    rw [decide_eq_false c2, if_neg c2, cond_false]
    by_cases c3 : (b.length : Int) < lenP b
    · rw [decide_eq_true c3, if_pos c3, cond_true]; rfl
    rw [decide_eq_false c3, if_neg c3, cond_false]
    by_cases c4 : 1500 < lenP b
    · rw [decide_eq_true c4, if_pos c4, cond_true]; rfl
    have t1 : takeI b 20 = some (b.take 20) := takeI_nat b (i := 20) rfl (by omega)
    rw [decide_eq_false c4, if_neg c4, cond_false, t1, Option.bind_some, sum_ok (AllB_take' hb 20) (by rw [List.length_take]; omega) hN, Option.bind_some]
    have hs := headsum hb (by omega) c1 hN
    by_cases c5 : okSum b
    · rw [decide_eq_true (hs.2 c5), Bool.not_true, cond_false, if_neg (by simpa using c5)]
      have g8 : getI b 8 = some (b.getD 8 0) := getI_D b 8 (by omega)
      have g9 : getI b 9 = some (b.getD 9 0) := getI_D b 9 (by omega)
      have s2 : subI b 12 16 = some [b.getD 12 0, b.getD 13 0, b.getD 14 0, b.getD 15 0] := (subI_nat b (a := 12) (b := 16) (i := 12) (j := 16) rfl rfl (by omega) (by omega)).trans (congrArg some (drop_take4 b 12 (by omega)))
      have s3 : subI b 16 20 = some [b.getD 16 0, b.getD 17 0, b.getD 18 0, b.getD 19 0] := (subI_nat b (a := 16) (b := 20) (i := 16) (j := 20) rfl rfl (by omega) (by omega)).trans (congrArg some (drop_take4 b 16 (by omega)))
      have s4 : subI b 20 (lenP b) = some ((b.drop 20).take ((lenP b).toNat - 20)) := subI_nat b (i := 20) (j := (lenP b).toNat) rfl (by omega) (by omega) (by omega)
      rw [g8, Option.bind_some, g9, Option.bind_some, s2, Option.bind_some, iaddr_ok (B 12) (B 13) (B 14) (B 15) hN, Option.bind_some, s3, Option.bind_some, iaddr_ok (B 16) (B 17) (B 18) (B 19) hN, Option.bind_some, s4, Option.bind_some,
        clone_ok (by rw [List.length_take, List.length_drop]; omega), Option.bind_some]
      rfl
    · rw [decide_eq_false (fun h => c5 (hs.1 h)), Bool.not_false, cond_true, if_pos c5]; rfl
  · rw [decide_eq_false c1, if_pos c1, Bool.not_false, cond_true]; rfl
theorem rparse_ok {b : List Int} (hb : AllB b) (hl : b.length ≤ 100000) (hN : 200000 ≤ N) : ref32_Parse N b = some (parseD b) := by
  unfold ref32_Parse parseD
  by_cases c0 : b.length < 20
  · have c0' : (b.length : Int) < 20 := by omega
    rw [decide_eq_true c0', cond_true, if_pos c0]
    rfl
  have c0' : ¬ (b.length : Int) < 20 := by omega
  have s1 : subI b 2 4 = some [b.getD 2 0, b.getD 3 0] := (subI_nat b (a := 2) (b := 4) (i := 2) (j := 4) rfl rfl (by omega) (by omega)).trans (congrArg some (drop_take2 b 2 (by omega)))
  have B := fun i => getD_B hb i
  have g1 : ref01_Num N [b.getD 2 0, b.getD 3 0] = some (lenP b) := num2 (N := N) _ _ (B 2) (B 3) (by omega)
  have g0 : getI b 0 = some (b.getD 0 0) := getI_D b 0 (by omega)
  have bd : 0 ≤ lenP b ∧ lenP b ≤ 65535 := by have := B 2; have := B 3; unfold lenP; omega
  have wl : Go.IntKind.wrap .i64 (lenP b) = lenP b := wrap64 (by omega) (by omega)
  have wl2 : Go.IntKind.wrap .i64 (lenP b - 20) = lenP b - 20 := wrap64 (by omega) (by omega)
  rw [decide_eq_false c0', cond_false, if_neg c0, g0, Option.bind_some]
  by_cases c1 : b.getD 0 0 = 69
  · rw [decide_eq_true c1, if_neg (by omega), Bool.not_true, cond_false, s1, Option.bind_some, g1, Option.bind_some]
    simp only [wl, wl2]
    by_cases c2 : lenP b < 20
    · rw [decide_eq_true c2, if_pos c2, cond_true]; rfl
    rw [decide_eq_false c2, if_neg c2, cond_false]
    by_cases c3 : (b.length : Int) < lenP b
    · rw [decide_eq_true c3, if_pos c3, cond_true]; rfl
    rw [decide_eq_false c3, if_neg c3, cond_false]
    by_cases c4 : 1500 < lenP b
    · rw [decide_eq_true (show 1480 < lenP b - 20 by omega), if_pos c4, cond_true]; rfl
    have t1 : takeI b 20 = some (b.take 20) := takeI_nat b (i := 20) rfl (by omega)
    rw [decide_eq_false (show ¬ 1480 < lenP b - 20 by omega), if_neg c4, cond_false, t1, Option.bind_some, rsum_ok (AllB_take' hb 20) (by rw [List.length_take]; omega) hN, Option.bind_some]
    have hs := headsum hb (by omega) c1 hN
    by_cases c5 : okSum b
    · rw [decide_eq_true (hs.2 c5), Bool.not_true, cond_false, if_neg (by simpa using c5)]
      have g8 : getI b 8 = some (b.getD 8 0) := getI_D b 8 (by omega)
      have g9 : getI b 9 = some (b.getD 9 0) := getI_D b 9 (by omega)
      have s2 : subI b 12 16 = some [b.getD 12 0, b.getD 13 0, b.getD 14 0, b.getD 15 0] := (subI_nat b (a := 12) (b := 16) (i := 12) (j := 16) rfl rfl (by omega) (by omega)).trans (congrArg some (drop_take4 b 12 (by omega)))
      have s3 : subI b 16 20 = some [b.getD 16 0, b.getD 17 0, b.getD 18 0, b.getD 19 0] := (subI_nat b (a := 16) (b := 20) (i := 16) (j := 20) rfl rfl (by omega) (by omega)).trans (congrArg some (drop_take4 b 16 (by omega)))
      have s4 : subI b 20 (lenP b) = some ((b.drop 20).take ((lenP b).toNat - 20)) := subI_nat b (i := 20) (j := (lenP b).toNat) rfl (by omega) (by omega) (by omega)
      have n1 : ref01_Num N [b.getD 12 0, b.getD 13 0, b.getD 14 0, b.getD 15 0] = some (w4 b 12) := num4 (N := N) _ _ _ _ (B 12) (B 13) (B 14) (B 15) (by omega)
      have n2 : ref01_Num N [b.getD 16 0, b.getD 17 0, b.getD 18 0, b.getD 19 0] = some (w4 b 16) := num4 (N := N) _ _ _ _ (B 16) (B 17) (B 18) (B 19) (by omega)
      have v1 : Go.IntKind.wrap .u32 (w4 b 12) = w4 b 12 := by have := B 12; have := B (12 + 1); have := B (12 + 2); have := B (12 + 3); rw [IntKind.wrap_u32]; unfold w4; omega
      have v2 : Go.IntKind.wrap .u32 (w4 b 16) = w4 b 16 := by have := B 16; have := B (16 + 1); have := B (16 + 2); have := B (16 + 3); rw [IntKind.wrap_u32]; unfold w4; omega
      rw [g8, Option.bind_some, g9, Option.bind_some, s2, Option.bind_some, n1, Option.bind_some, s3, Option.bind_some, n2, Option.bind_some, s4, Option.bind_some, v1, v2]
      rfl
    · rw [decide_eq_false (fun h => c5 (hs.1 h)), Bool.not_false, cond_true, if_pos c5]; rfl
  · rw [decide_eq_false c1, if_pos c1, Bool.not_false, cond_true]; rfl
end
end Go.Proofs.Ythakbkoflnpfaaa
/-
  Layer 32, on plain data: there and back, one bit turned; the laws.
-/
namespace Go.Proofs.Ythakbkoflnpfaaa
set_option maxRecDepth 100000
open Go.RowKit
set_option linter.unusedVariables false
set_option linter.unusedSimpArgs false
set_option maxRecDepth 100000

theorem wf_u32i {n : Int} (h : (Lit.int .u32 n).wf = true) : 0 ≤ n ∧ n < 4294967296 := by
  simp only [Lit.wf, Bool.and_eq_true, decide_eq_true_eq, IntKind.min, IntKind.max, IntKind.signed, IntKind.bits] at h
  simp at h
  omega
theorem wf_u16i {n : Int} (h : (Lit.int .u16 n).wf = true) : 0 ≤ n ∧ n < 65536 := by
  simp only [Lit.wf, Bool.and_eq_true, decide_eq_true_eq, IntKind.min, IntKind.max, IntKind.signed, IntKind.bits] at h
  simp at h
  omega
theorem wf_dg {d : Dg} (h : wfT (.pair (.int .u8) (.pair (.int .u8) (.pair (.int .u32) (.pair (.int .u32) (.sl (.int .u8)))))) d) : wfD d := ⟨wf_u8 h.1, wf_u8 h.2.1, wf_u32i h.2.2.1, wf_u32i h.2.2.2.1, wf_bytes h.2.2.2.2⟩
theorem zeroD_wf : wfD zeroD := ⟨by decide, by decide, by decide, by decide, AllB_nil'⟩
theorem readD_wf {b : List Int} (hb : AllB b) : wfD (readD b) := by
  have B := fun i => getD_B hb i
  have w : ∀ i, 0 ≤ w4 b i ∧ w4 b i < 4294967296 := fun i => by
    have := B i; have := B (i + 1); have := B (i + 2); have := B (i + 3)
    unfold w4; omega
  exact ⟨B 8, B 9, w 12, w 16, fun x hx => hb x (List.mem_of_mem_drop (List.mem_of_mem_take hx))⟩
theorem parseD_wf {b : List Int} (hb : AllB b) : wfD (parseD b).1 := by
  unfold parseD
  repeat' split
  all_goals first | exact zeroD_wf | exact readD_wf hb
theorem parseD_len (b : List Int) : (parseD b).1.2.2.2.2.length ≤ 1480 := by
  unfold parseD
  repeat' split
  all_goals first | exact Nat.zero_le _ | skip
  show ((b.drop 20).take ((lenP b).toNat - 20)).length ≤ 1480
  rw [List.length_take]
  omega
theorem bit_flip : ∀ v : Nat, v < 256 → ∀ m : Nat, m < 8 → Go.bits .xor .u8 (v : Int) ((2 : Int) ^ m) = (v : Int) + 2 ^ m ∨ Go.bits .xor .u8 (v : Int) ((2 : Int) ^ m) = (v : Int) - 2 ^ m := by decide +kernel
section
variable {N : Nat}
theorem bsame {a b : List Int} (ha : AllB a) (hb : AllB b) : bytes_Equal N a b = some (decide (a = b)) := by
  unfold bytes_Equal
  rw [toBy_map ha, Option.bind_some, toBy_map hb, Option.bind_some, bytes_dec ha hb]
theorem rsame32 (a b : List Int) (h : a.length ≤ 2000) (hN : 200000 ≤ N) : ref01_Same N a b = some (decide (a = b)) := sameF_ok (by omega) (by omega)
theorem isame {a b : Dg} (ha : wfD a) (hb : wfD b) : ipcp_Same N a b = some (decide (a = b)) := by
  obtain ⟨a1, a2, a3, a4, a5⟩ := a
  obtain ⟨b1, b2, b3, b4, b5⟩ := b
  unfold ipcp_Same
  simp only [bsame ha.2.2.2.2 hb.2.2.2.2, Option.bind_some, Prod.mk.injEq]
  by_cases h1 : a1 = b1 <;> by_cases h2 : a2 = b2 <;> by_cases h3 : a3 = b3 <;> by_cases h4 : a4 = b4 <;> by_cases h5 : a5 = b5 <;> simp [h1, h2, h3, h4, h5]
theorem irsame {a b : Dg} (hl : a.2.2.2.2.length ≤ 2000) (hN : 200000 ≤ N) : ref32_Same N a b = some (decide (a = b)) := by
  obtain ⟨a1, a2, a3, a4, a5⟩ := a
  obtain ⟨b1, b2, b3, b4, b5⟩ := b
  unfold ref32_Same
  simp only [rsame32 a5 b5 hl hN, Option.bind_some, Prod.mk.injEq]
  by_cases h1 : a1 = b1 <;> by_cases h2 : a2 = b2 <;> by_cases h3 : a3 = b3 <;> by_cases h4 : a4 = b4 <;> by_cases h5 : a5 = b5 <;> simp [h1, h2, h3, h4, h5]
/-- Too long: both refuse. -/
theorem lay_big {d : Dg} (hl : ¬ d.2.2.2.2.length ≤ 1480) : ipcp_Lay N d = some ([], 8) ∧ ref32_Lay N d = some ([], 8) := by
  have c1 : (1480 : Int) < (d.2.2.2.2.length : Int) := by omega
  unfold ipcp_Lay ref32_Lay
  rw [decide_eq_true c1, cond_true, cond_true]
  exact ⟨rfl, rfl⟩
end
theorem PS_pre (b : List Int) (h : 20 ≤ b.length) : PS (b.take 20) 20 = PS b 20 := PS_take b 20 20 (by omega)
theorem parse_lay {d : Dg} (h : wfD d) (hl : d.2.2.2.2.length ≤ 1480) (k : List Int) : parseD (layD d ++ k) = (d, 0) := by
  have hlen : (layD d ++ k).length = 20 + d.2.2.2.2.length + k.length := by rw [List.length_append, layD_len]
  have hs : okSum (layD d ++ k) := by
    unfold okSum
    rw [← PS_pre _ (by omega), head_eq]
    exact PS_top h
  obtain ⟨t, p, s, r, b⟩ := d
  obtain ⟨ht, hp, hs', hr, hb⟩ := h
  simp only at ht hp hs' hr hb hl hlen
  have e0 : (layD (t, p, s, r, b) ++ k).getD 0 0 = 69 := rfl
  have eL : lenP (layD (t, p, s, r, b) ++ k) = 20 + (b.length : Int) := by
    show (20 + (b.length : Int)) / 256 % 256 * 256 + (20 + (b.length : Int)) % 256 = _
    omega
  unfold parseD
  rw [if_neg (by omega), if_neg (by rw [e0]; simp), eL, if_neg (by omega), if_neg (by rw [hlen]; omega), if_neg (by omega), if_neg (by simpa using hs)]
  have e8 : (layD (t, p, s, r, b) ++ k).getD 8 0 = t := rfl
  have e9 : (layD (t, p, s, r, b) ++ k).getD 9 0 = p := rfl
  have e12 : w4 (layD (t, p, s, r, b) ++ k) 12 = s := by
    show ((s / 16777216 % 256 * 256 + s / 65536 % 256) * 256 + s / 256 % 256) * 256 + s % 256 = s
    omega
  have e16 : w4 (layD (t, p, s, r, b) ++ k) 16 = r := by
    show ((r / 16777216 % 256 * 256 + r / 65536 % 256) * 256 + r / 256 % 256) * 256 + r % 256 = r
    omega
  have ed : (layD (t, p, s, r, b) ++ k).drop 20 = b ++ k := by
    have : layD (t, p, s, r, b) ++ k = (aheadD (t, p, s, r, b) ++ n2 (ckD (t, p, s, r, b)) ++ behindD (t, p, s, r, b)) ++ (b ++ k) := by simp [layD]
    rw [this, List.drop_append_of_le_length (by simp [ahead_len, behind_len, n2_len]), List.drop_of_length_le (by simp [ahead_len, behind_len, n2_len]), List.nil_append]
  unfold readD
  rw [e8, e9, e12, e16, ed, eL, List.take_append_of_le_length (by omega), List.take_of_length_le (by omega)]
theorem PS_set (b : List Int) (j : Nat) (y : Int) : ∀ i : Nat, j < b.length → PS (b.set j y) i = if j < i then PS b i + (wI j y - wI j (b.getD j 0)) else PS b i
  | 0, h => by rw [if_neg (by omega)]; rfl
  | i + 1, h => by
    have ih := PS_set b j y i h
    rw [PS, ih, PS]
    by_cases hij : i = j
    · subst hij
      have e : (b.set i y).getD i 0 = y := by rw [List.getD_eq_getElem?_getD, List.getElem?_set_self h]; rfl
      rw [e, if_neg (by omega), if_pos (by omega)]
      omega
    · have e : (b.set j y).getD i 0 = b.getD i 0 := by rw [List.getD_eq_getElem?_getD, List.getElem?_set_ne (by omega), List.getD_eq_getElem?_getD]
      rw [e]
      by_cases h1 : j < i
      · rw [if_pos h1, if_pos (by omega)]; omega
      · rw [if_neg h1, if_neg (by omega)]
/-- One bit turned: never all ones. -/
theorem flip_bad {b : List Int} (hb : AllB b) (hl : 20 ≤ b.length) (hs : okSum b) (j m : Nat) (hj : j < 20) (hm : m < 8) :
    (parseD (b.set j (Go.bits .xor .u8 (b.getD j 0) ((2 : Int) ^ m)))).2 ≠ 0 := by
  have hv := getD_B hb j
  obtain ⟨v, hv'⟩ := Int.eq_ofNat_of_zero_le hv.1
  have hf := bit_flip v (by omega) m hm
  have hbad : ¬ okSum (b.set j (Go.bits .xor .u8 (b.getD j 0) ((2 : Int) ^ m))) := by
    intro h
    unfold okSum at h hs
    rw [PS_set b j _ 20 (by omega), if_pos hj, hv'] at h
    have cases_m : ((2 : Int) ^ m = 1 ∨ (2 : Int) ^ m = 2 ∨ (2 : Int) ^ m = 4 ∨ (2 : Int) ^ m = 8 ∨ (2 : Int) ^ m = 16 ∨ (2 : Int) ^ m = 32 ∨ (2 : Int) ^ m = 64 ∨ (2 : Int) ^ m = 128) := by
      have : m = 0 ∨ m = 1 ∨ m = 2 ∨ m = 3 ∨ m = 4 ∨ m = 5 ∨ m = 6 ∨ m = 7 := by omega
      rcases this with rfl | rfl | rfl | rfl | rfl | rfl | rfl | rfl <;> simp
    unfold wI at h
    generalize Go.bits .xor .u8 (v : Int) ((2 : Int) ^ m) = y at h hf
    generalize (2 : Int) ^ m = q at hf cases_m
    split at h <;> omega
  unfold parseD
  repeat' split
  all_goals first | (simp; done) | skip
end Go.Proofs.Ythakbkoflnpfaaa
/-
  Layer 32, on plain data: the laws.
-/
namespace Go.Proofs.Ythakbkoflnpfaaa
set_option maxRecDepth 100000
open Go.RowKit
set_option linter.unusedVariables false
set_option linter.unusedSimpArgs false
set_option maxRecDepth 100000

theorem law_IpcpDatagrams (d : Dg) (b : List Int) (h0 : wfT (.pair (.int .u8) (.pair (.int .u8) (.pair (.int .u32) (.pair (.int .u32) (.sl (.int .u8)))))) d) (h1 : wfT (.sl (.int .u8)) b) : law32_IpcpDatagrams 200000 d b = some true := by
  have hd := wf_dg h0
  have hb := wf_bytes h1
  unfold law32_IpcpDatagrams
  by_cases c1 : (2000 : Int) < (d.2.2.2.2.length : Int)
  · rw [decide_eq_true c1, cond_true, alive32]; rfl
  rw [decide_eq_false c1, cond_false]
  by_cases c2 : (2000 : Int) < (b.length : Int)
  · rw [decide_eq_true c2]; simp only [cond_false, cond_true]; rw [alive32]; rfl
  rw [decide_eq_false c2]
  simp only [cond_false]
  obtain ⟨L, e, hL, hL2, hLl⟩ : ∃ L e, ipcp_Lay 200000 d = some (L, e) ∧ ref32_Lay 200000 d = some (L, e) ∧ L.length ≤ 2000 := by
    by_cases hl : d.2.2.2.2.length ≤ 1480
    · exact ⟨_, _, lay_ok hd hl (by omega), rlay_ok hd hl (by omega), by rw [layD_len]; omega⟩
    · exact ⟨_, _, (lay_big hl).1, (lay_big hl).2, Nat.zero_le _⟩
  have p1 := parse_ok (N := 200000) hb (by omega) (by omega)
  have p2 := rparse_ok (N := 200000) hb (by omega) (by omega)
  have hw := parseD_wf hb
  have hw2 := parseD_len b
  have q1 := isame (N := 200000) hw hw
  have q2 := isame (N := 200000) hw hd
  have q3 := irsame (N := 200000) (a := (parseD b).1) (b := d) (by omega) (by omega)
  have s1 := sum_ok (N := 200000) hb (by omega) (by omega)
  have s2 := rsum_ok (N := 200000) hb (by omega) (by omega)
  have sL := rsame32 (N := 200000) L L hLl (by omega)
  have hL' : ipcp_Lay 200000 (d.1, (d.2.1, (d.2.2.1, (d.2.2.2.1, d.2.2.2.2)))) = some (L, e) := hL
  have hL2' : ref32_Lay 200000 (d.1, (d.2.1, (d.2.2.1, (d.2.2.2.1, d.2.2.2.2)))) = some (L, e) := hL2
  have q1' : ipcp_Same 200000 ((parseD b).1.1, ((parseD b).1.2.1, ((parseD b).1.2.2.1, ((parseD b).1.2.2.2.1, (parseD b).1.2.2.2.2)))) ((parseD b).1.1, ((parseD b).1.2.1, ((parseD b).1.2.2.1, ((parseD b).1.2.2.2.1, (parseD b).1.2.2.2.2)))) = some (decide ((parseD b).1 = (parseD b).1)) := q1
  have q2' : ipcp_Same 200000 ((parseD b).1.1, ((parseD b).1.2.1, ((parseD b).1.2.2.1, ((parseD b).1.2.2.2.1, (parseD b).1.2.2.2.2)))) (d.1, (d.2.1, (d.2.2.1, (d.2.2.2.1, d.2.2.2.2)))) = some (decide ((parseD b).1 = d)) := q2
  have q3' : ref32_Same 200000 ((parseD b).1.1, ((parseD b).1.2.1, ((parseD b).1.2.2.1, ((parseD b).1.2.2.2.1, (parseD b).1.2.2.2.2)))) (d.1, (d.2.1, (d.2.2.1, (d.2.2.2.1, d.2.2.2.2)))) = some (decide ((parseD b).1 = d)) := q3
  rw [hL', Option.bind_some, hL2', Option.bind_some, p1, Option.bind_some, p2, Option.bind_some]
  simp only [sL, q1', q2', q3', s1, s2, Option.bind_some, decide_true, cond_true, alive32]
  simp
theorem law_IpcpBack (d : Dg) (k : List Int) (x : Int) (h0 : wfT (.pair (.int .u8) (.pair (.int .u8) (.pair (.int .u32) (.pair (.int .u32) (.sl (.int .u8)))))) d) (h1 : wfT (.sl (.int .u8)) k) (h2 : wfT (.int .u16) x) : law32_IpcpBack 200000 d k x = some true := by
  have hd := wf_dg h0
  have hk := wf_bytes h1
  have hx := wf_u16i h2
  unfold law32_IpcpBack
  by_cases c1 : (1480 : Int) < (d.2.2.2.2.length : Int)
  · rw [decide_eq_true c1, cond_true, alive32]; rfl
  rw [decide_eq_false c1, cond_false]
  by_cases c2 : (200 : Int) < (k.length : Int)
  · rw [decide_eq_true c2]; simp only [cond_false, cond_true]; rw [alive32]; rfl
  rw [decide_eq_false c2]
  simp only [cond_false]
  have hl : d.2.2.2.2.length ≤ 1480 := by omega
  have hL : ipcp_Lay 200000 (d.1, (d.2.1, (d.2.2.1, (d.2.2.2.1, d.2.2.2.2)))) = some (layD d, 0) := lay_ok hd hl (by omega)
  have hlen := layD_len d
  have hB := layD_B hd
  have p1 := parse_ok (N := 200000) (AllB_app hB hk) (by rw [List.length_append]; omega) (by omega)
  rw [parse_lay hd hl] at p1
  have q1 : ipcp_Same 200000 (d.1, (d.2.1, (d.2.2.1, (d.2.2.2.1, d.2.2.2.2)))) (d.1, (d.2.1, (d.2.2.1, (d.2.2.2.1, d.2.2.2.2)))) = some (decide (d = d)) := isame (N := 200000) hd hd
  have t1 : takeI (layD d) 20 = some ((layD d).take 20) := takeI_nat (layD d) (a := 20) (i := 20) rfl (by omega)
  have g0 : (layD d).getD 0 0 = 69 := rfl
  have hs : okSum (layD d) := by
    unfold okSum
    rw [← PS_pre _ (by omega)]
    have e := head_eq d []
    rw [List.append_nil] at e
    rw [e]
    exact PS_top hd
  have s1 := sum_ok (N := 200000) (AllB_take' hB 20) (by rw [List.length_take]; omega) (by omega)
  rw [(headsum (N := 200000) hB (by omega) g0 (by omega)).2 hs] at s1
  have w1 : Go.IntKind.wrap .i64 x = x := wrap64 (by omega) (by omega)
  have e1 : Int.tmod x 160 = x % 160 := Int.tmod_eq_emod_of_nonneg (by omega)
  have e2 : Int.tdiv (x % 160) 8 = x % 160 / 8 := Int.tdiv_eq_ediv_of_nonneg (by omega)
  have e3 : Int.tmod (x % 160) 8 = x % 160 % 8 := Int.tmod_eq_emod_of_nonneg (by omega)
  have w2 : Go.IntKind.wrap .i64 (x % 160 / 8) = x % 160 / 8 := wrap64 (by omega) (by omega)
  have c3 : 0 ≤ x % 160 / 8 ∧ x % 160 / 8 < ((layD d).length : Int) := by omega
  have c4 : 0 ≤ x % 160 % 8 := by omega
  have hj : (x % 160 / 8).toNat < (layD d).length := by omega
  have gq : (layD d)[(x % 160 / 8).toNat]? = some ((layD d).getD (x % 160 / 8).toNat 0) := by rw [List.getD_eq_getElem?_getD, List.getElem?_eq_getElem hj]; rfl
  have w3 : Go.IntKind.wrap .u8 ((1 : Int) * 2 ^ min (x % 160 % 8).toNat (IntKind.bits IntKind.u8)) = 2 ^ (x % 160 % 8).toNat := by
    have hm : (x % 160 % 8).toNat < 8 := by omega
    generalize (x % 160 % 8).toNat = m at hm ⊢
    have : m = 0 ∨ m = 1 ∨ m = 2 ∨ m = 3 ∨ m = 4 ∨ m = 5 ∨ m = 6 ∨ m = 7 := by omega
    rcases this with rfl | rfl | rfl | rfl | rfl | rfl | rfl | rfl <;> rfl
  have fb := flip_bad hB (by omega) hs (x % 160 / 8).toNat (x % 160 % 8).toNat (by omega) (by omega)
  have hB2 : AllB ((layD d).set (x % 160 / 8).toNat (Go.bits .xor .u8 ((layD d).getD (x % 160 / 8).toNat 0) ((2 : Int) ^ (x % 160 % 8).toNat))) := fun y hy => by
    rcases List.mem_or_eq_of_mem_set hy with h | rfl
    · exact hB y h
    · have : ∀ a b : Int, 0 ≤ bits .xor .u8 a b ∧ bits .xor .u8 a b < 256 := fun a b => by
        show 0 ≤ IntKind.u8.wrap _ ∧ IntKind.u8.wrap _ < 256
        rw [IntKind.wrap_u8]; omega
      exact this _ _
  have p2 := parse_ok (N := 200000) hB2 (by rw [List.length_set]; omega) (by omega)
  have r1 : roomB (layD d).length 1 = true := room_of (by omega)
  have r2 : roomB ((layD d).length + k.length) 1 = true := room_of (by omega)
  rw [hL, Option.bind_some]
  simp only [r1, r2, cond_true, p1, Option.bind_some, decide_true, Bool.not_true, cond_false, q1, t1, s1, w1, e1, e2, e3, w2, decide_eq_true c3, decide_eq_true c4]
  refine (congrArg (fun x => Option.bind x _) gq).trans ?_
  rw [Option.bind_some]
  refine (congrArg (fun x => Option.bind x _) gq).trans ?_
  rw [Option.bind_some]
  simp only [w3, p2, Option.bind_some, decide_eq_false fb, Bool.not_false, cond_true, alive32]
end Go.Proofs.Ythakbkoflnpfaaa
