/-
  Layer 25, on plain data: judged.
-/
import Derived.Test.YtjfmcfilenbmbaaQL1
namespace Go.Proofs.Ytjfmcfilenbmbaa
set_option maxRecDepth 100000
open Go.RowKit
set_option linter.unusedVariables false
set_option linter.unusedSimpArgs false
set_option maxRecDepth 100000

/-- How many bytes a type has. -/
def sz (k : Int) : Int := if k = 1 then 2 else if k = 3 then 3 else if k = 5 then 4 else if k = 7 then 0 else if k = 8 then 0 else -1
def chapL : List Int := [194, 35, 129]
theorem chap_B : AllB chapL := fun x hx => by
  simp only [chapL, List.mem_cons, List.not_mem_nil, or_false] at hx
  rcases hx with rfl | rfl | rfl <;> omega
def may (o : Op) (proves : Bool) : Bool := decide ((o.2.length : Int) = sz o.1) && (!decide (o.1 = 3) || proves)
/-- What stands first of a type. -/
theorem findS_new {l : List Op} {i : Nat} (hi : i < l.length) (h : (findS (l.take i) l[i].1).2 = false) : findS l l[i].1 = (l[i], true) := by
  unfold findS at h ⊢
  have hs : l = l.take i ++ l.drop i := (List.take_append_drop i l).symm
  cases hf : (l.take i).find? (fun o => decide (o.1 = l[i].1)) with
  | some o => rw [hf] at h; cases h
  | none =>
    have h2 : l.find? (fun o => decide (o.1 = l[i].1)) = some l[i] := by
      have : (l.take i ++ l.drop i).find? (fun o => decide (o.1 = l[i].1)) = some l[i] := by
        rw [List.find?_append, hf, List.drop_eq_getElem_cons hi, List.find?_cons]
        simp
      rwa [← hs] at this
    rw [h2]
section
variable {N : Nat}
theorem size_ok (k : Int) : lcpo_size N k = some (sz k) := by
  unfold lcpo_size sz
  by_cases h1 : k = 1
  · subst h1; rfl
  · by_cases h3 : k = 3
    · subst h3; rfl
    · by_cases h5 : k = 5
      · subst h5; rfl
      · by_cases h7 : k = 7
        · subst h7; rfl
        · by_cases h8 : k = 8
          · subst h8; rfl
          · simp [h1, h3, h5, h7, h8]
theorem long_ok (k : Int) : ref25_long N k = some (sz k) := by
  unfold ref25_long sz
  by_cases h1 : k = 1
  · subst h1; rfl
  · by_cases h3 : k = 3
    · subst h3; rfl
    · by_cases h5 : k = 5
      · subst h5; rfl
      · by_cases h7 : k = 7
        · subst h7; rfl
        · by_cases h8 : k = 8
          · subst h8; rfl
          · simp [h1, h3, h5, h7, h8]
theorem may_ok (o : Op) (proves : Bool) : lcpo_may N o proves = some (may o proves) := by
  unfold lcpo_may may
  rw [size_ok, Option.bind_some]
  by_cases h : (o.2.length : Int) = sz o.1
  · by_cases h3 : o.1 = 3 <;> cases proves <;> simp [h, h3]
  · simp [h]
theorem right_ok (o : Op) : ref25_right N o = some (decide ((o.2.length : Int) = sz o.1)) := by
  unfold ref25_right
  rw [long_ok, Option.bind_some]
  by_cases h : (o.2.length : Int) = sz o.1
  · simp [h]
  · have : ¬ sz o.1 = (o.2.length : Int) := fun e => h e.symm
    simp [h, this]
theorem num_some (l : List Int) (hl : l.length ≤ 1000) (hN : 10000 ≤ N) : ∃ n, ref01_Num N l = some n := by
  obtain ⟨o, h1, _⟩ := gl_inv (G := fun (X : (((List (Int)) × ((Int) × ((Int) × Unit))) × Unit) → Option ((((Int) × Unit) × Unit))) c => ref01_Num_L3 N X c.1.1 c.1.2.1 c.1.2.2.1)
    (fun n c => ∃ (i : Nat) (x : Int), c = ((l, (x, ((i : Int), ()))), ()) ∧ i ≤ l.length ∧ n = l.length - i) (fun _ => True) (fun X n c ⟨i, x, hc, hi, hn⟩ => by
      subst hc
      rcases Nat.lt_or_ge i l.length with hlt | hge
      · right
        have c1 : ((i : Int) < (l.length : Int)) := by omega
        have c2 : Go.IntKind.wrap .i64 ((i : Int) + 1) = ((i + 1 : Nat) : Int) := by rw [wrap64 (by omega) (by omega)]; omega
        refine ⟨l.length - (i + 1), ((l, (Go.IntKind.wrap .u64 (Go.IntKind.wrap .u64 (x * 256) + Go.IntKind.wrap .u64 l[i]), (((i + 1 : Nat) : Int), ()))), ()), by omega, ⟨i + 1, _, rfl, hlt, rfl⟩, ?_⟩
        simp only [ref01_Num_L3, c1, decide_true, cond_true, getI_lt l i hlt, Option.bind_some, c2]
      · left
        have c1 : ¬ ((i : Int) < (l.length : Int)) := by omega
        exact ⟨((x, ()), ()), by simp only [ref01_Num_L3, c1, decide_false, cond_false], trivial⟩) N l.length ((l, ((0 : Int), ((0 : Int), ()))), ()) (by omega) ⟨0, 0, rfl, by omega, by omega⟩
  exact ⟨o.1.1, (congrArg (fun o => Option.bind o _) h1).trans rfl⟩
theorem lput2 (n : Int) (h : 0 ≤ n ∧ n < 18446744073709551616) (hN : 100 ≤ N) : octs_Put N n 2 false = some ([n / 256 % 256, n % 256], 0) := put2 n h hN
theorem lput4 (n : Int) (h : 0 ≤ n ∧ n < 18446744073709551616) (hN : 100 ≤ N) : octs_Put N n 4 false = some ([n / 16777216 % 256, n / 65536 % 256, n / 256 % 256, n % 256], 0) := put4 n h hN
theorem lbig2 (n : Int) (h : 0 ≤ n ∧ n < 18446744073709551616) (hN : 100 ≤ N) : ref01_Big N n 2 = some [n / 256 % 256, n % 256] := big2 n h hN
theorem lbig4 (n : Int) (h : 0 ≤ n ∧ n < 18446744073709551616) (hN : 100 ≤ N) : ref01_Big N n 4 = some [n / 16777216 % 256, n / 65536 % 256, n / 256 % 256, n % 256] := big4 n h hN
theorem lget2 (x y : Int) (hx : 0 ≤ x ∧ x < 256) (hy : 0 ≤ y ∧ y < 256) (hN : 100 ≤ N) : lcpo_value N [x, y] = some (x * 256 + y) := by
  unfold lcpo_value
  exact (congrArg (fun o => Option.bind o _) (show octs_Get N [x, y] false = some (x * 256 + y, 0) from get2 x y hx hy hN)).trans rfl
theorem lget4 (x y z u : Int) (hx : 0 ≤ x ∧ x < 256) (hy : 0 ≤ y ∧ y < 256) (hz : 0 ≤ z ∧ z < 256) (hu : 0 ≤ u ∧ u < 256) (hN : 100 ≤ N) : lcpo_value N [x, y, z, u] = some (((x * 256 + y) * 256 + z) * 256 + u) := by
  unfold lcpo_value
  exact (congrArg (fun o => Option.bind o _) (show octs_Get N [x, y, z, u] false = some (((x * 256 + y) * 256 + z) * 256 + u, 0) from get4 x y z u hx hy hz hu hN)).trans rfl
theorem lnum2 (x y : Int) (hx : 0 ≤ x ∧ x < 256) (hy : 0 ≤ y ∧ y < 256) (hN : 100 ≤ N) : ref01_Num N [x, y] = some (x * 256 + y) := num2 x y hx hy hN
theorem lnum4 (x y z u : Int) (hx : 0 ≤ x ∧ x < 256) (hy : 0 ≤ y ∧ y < 256) (hz : 0 ≤ z ∧ z < 256) (hu : 0 ≤ u ∧ u < 256) (hN : 100 ≤ N) : ref01_Num N [x, y, z, u] = some (((x * 256 + y) * 256 + z) * 256 + u) := num4 x y z u hx hy hz hu hN
theorem wrapU32 {x : Int} (h : 0 ≤ x ∧ x < 4294967296) : Go.IntKind.wrap .u32 x = x := by rw [IntKind.wrap_u32]; omega
/-- What is told in an option's place: the same on both sides. -/
theorem better_ok (o : Op) (own fresh : Int) (hw : (0 ≤ o.1 ∧ o.1 < 256) ∧ AllB o.2) (hs : (o.2.length : Int) = sz o.1) (hf : 0 ≤ fresh ∧ fresh < 4294967296) (hN : 100001 < N) :
    ∃ r r' : Op × Bool, lcpo_better N o own fresh = some r ∧ ref25_better N o own fresh = some r' ∧ r.2 = r'.2 ∧ (r.2 = true → r.1 = r'.1 ∧ r.1.1 = o.1 ∧ AllB r.1.2 ∧ r.1.2.length ≤ 10 ∧ (own ≠ fresh → fresh ≠ 0 → r.1 ≠ o)) := by
  obtain ⟨k, l⟩ := o
  simp only at hw hs
  have hsz := hs
  unfold sz at hsz
  by_cases h1 : k = 1
  · subst h1
    simp only [if_true] at hsz
    have hl : l.length = 2 := by omega
    match l, hl with
    | [x, y], _ =>
      have bx := hw.2 x (by simp)
      have by' := hw.2 y (by simp)
      have hw32 : Go.IntKind.wrap .u32 (x * 256 + y) = x * 256 + y := wrapU32 (by omega)
      have e1 : sz 1 = 2 := rfl
      have e2 := lput2 (N := N) 1400 (by omega) (by omega)
      have e3 := lbig2 (N := N) 1400 (by omega) (by omega)
      by_cases hv : x * 256 + y < 128
      · refine ⟨((1, [1400 / 256 % 256, 1400 % 256]), true), ((1, [1400 / 256 % 256, 1400 % 256]), true), ?_, ?_, rfl, fun _ => ⟨rfl, rfl, ?_, by simp, fun _ _ e => ?_⟩⟩
        · simp only [lcpo_better, lcpo_number, size_ok, e1, e2, Option.bind_some, decide_true, cond_true, lget2 (N := N) x y bx by' (by omega), hv]
        · simp only [ref25_better, lnum2 (N := N) x y bx by' (by omega), Option.bind_some, decide_true, cond_true, hw32, hv, e3]
        · intro z hz
          simp only [List.mem_cons, List.not_mem_nil, or_false] at hz
          rcases hz with rfl | rfl <;> omega
        · simp at e; omega
      · refine ⟨((1, [1400 / 256 % 256, 1400 % 256]), false), ((0, []), false), ?_, ?_, rfl, nofun⟩
        · simp only [lcpo_better, lcpo_number, size_ok, e1, e2, Option.bind_some, decide_true, cond_true, lget2 (N := N) x y bx by' (by omega), hv, decide_false]
        · simp only [ref25_better, lnum2 (N := N) x y bx by' (by omega), Option.bind_some, decide_true, cond_true, hw32, hv, decide_false]
          rfl
  · by_cases h3 : k = 3
    · subst h3
      obtain ⟨n, hn⟩ := num_some (N := N) l (by simp at hsz; omega) (by omega)
      have hb : bytes_Equal N l [194, 35, 129] = some (decide (l = chapL)) := by
        unfold bytes_Equal
        rw [toBy_map hw.2, show ([194, 35, 129] : List Int) = chapL from rfl, toBy_map chap_B, Option.bind_some, Option.bind_some, bytes_dec hw.2 chap_B]
      have hr : ref01_Same N l [194, 35, 129] = some (decide (l = chapL)) := same21 l chapL (by simp at hsz; omega) (by omega)
      have n1 : ¬ ((3 : Int) = 1) := by decide
      by_cases hv : l = chapL
      · have d0 : decide (l = chapL) = true := decide_eq_true hv
        refine ⟨((3, chapL), false), ((0, []), false), ?_, ?_, rfl, nofun⟩
        · simp only [lcpo_better, n1, decide_false, cond_false, decide_true, cond_true, hb, Option.bind_some, d0, Bool.not_true]
          rfl
        · simp only [ref25_better, hn, Option.bind_some, n1, decide_false, cond_false, decide_true, cond_true, hr, d0, Bool.not_true]
          rfl
      · have d0 : decide (l = chapL) = false := decide_eq_false hv
        refine ⟨((3, chapL), true), ((3, chapL), true), ?_, ?_, rfl, fun _ => ⟨rfl, rfl, chap_B, by simp [chapL], fun _ _ e => hv ?_⟩⟩
        · simp only [lcpo_better, n1, decide_false, cond_false, decide_true, cond_true, hb, Option.bind_some, d0, Bool.not_false]
          rfl
        · simp only [ref25_better, hn, Option.bind_some, n1, decide_false, cond_false, decide_true, cond_true, hr, d0, Bool.not_false]
          rfl
        · exact (Prod.mk.inj e).2.symm
    · by_cases h5 : k = 5
      · subst h5
        have hl : l.length = 4 := by
          rw [show sz 5 = 4 from rfl] at hs
          omega
        match l, hl with
        | [x, y, z, u], _ =>
          have bx := hw.2 x (by simp)
          have by' := hw.2 y (by simp)
          have bz := hw.2 z (by simp)
          have bu := hw.2 u (by simp)
          have hw32 : Go.IntKind.wrap .u32 (((x * 256 + y) * 256 + z) * 256 + u) = ((x * 256 + y) * 256 + z) * 256 + u := wrapU32 (by omega)
          have e1 : sz 5 = 4 := rfl
          have wf : Go.IntKind.wrap .u64 fresh = fresh := wrapU64 (by omega) (by omega)
          have e2 := lput4 (N := N) fresh (by omega) (by omega)
          have e3 := lbig4 (N := N) fresh (by omega) (by omega)
          have n1 : ¬ ((5 : Int) = 1) := by decide
          have n3 : ¬ ((5 : Int) = 3) := by decide
          have g1 := lget4 (N := N) x y z u bx by' bz bu (by omega)
          have g2 := lnum4 (N := N) x y z u bx by' bz bu (by omega)
          have bf : AllB [fresh / 16777216 % 256, fresh / 65536 % 256, fresh / 256 % 256, fresh % 256] := fun w hw' => by
            simp only [List.mem_cons, List.not_mem_nil, or_false] at hw'
            rcases hw' with rfl | rfl | rfl | rfl <;> omega
          by_cases hv : ((x * 256 + y) * 256 + z) * 256 + u = 0
          · have t0 : decide (Go.IntKind.wrap .u32 (((x * 256 + y) * 256 + z) * 256 + u) = 0) = true := by rw [hw32]; exact decide_eq_true hv
            refine ⟨((5, [fresh / 16777216 % 256, fresh / 65536 % 256, fresh / 256 % 256, fresh % 256]), true), ((5, [fresh / 16777216 % 256, fresh / 65536 % 256, fresh / 256 % 256, fresh % 256]), true), ?_, ?_, rfl, fun _ => ⟨rfl, rfl, bf, by simp, fun _ hz e => ?_⟩⟩
            · simp only [lcpo_better, n1, n3, decide_false, cond_false, decide_true, cond_true, g1, Option.bind_some, lcpo_number, size_ok, e1, wf, e2, t0]
            · simp only [ref25_better, g2, n1, n3, decide_false, cond_false, decide_true, cond_true, Option.bind_some, wf, e3, t0]
            · simp at e; omega
          · have t0 : decide (Go.IntKind.wrap .u32 (((x * 256 + y) * 256 + z) * 256 + u) = 0) = false := by rw [hw32]; exact decide_eq_false hv
            by_cases ho : ((x * 256 + y) * 256 + z) * 256 + u = own
            · have t1 : decide (Go.IntKind.wrap .u32 (((x * 256 + y) * 256 + z) * 256 + u) = own) = true := by rw [hw32]; exact decide_eq_true ho
              refine ⟨((5, [fresh / 16777216 % 256, fresh / 65536 % 256, fresh / 256 % 256, fresh % 256]), true), ((5, [fresh / 16777216 % 256, fresh / 65536 % 256, fresh / 256 % 256, fresh % 256]), true), ?_, ?_, rfl, fun _ => ⟨rfl, rfl, bf, by simp, fun hof hz e => ?_⟩⟩
              · simp only [lcpo_better, n1, n3, decide_false, cond_false, decide_true, cond_true, g1, Option.bind_some, lcpo_number, size_ok, e1, wf, e2, t0, t1]
              · simp only [ref25_better, g2, n1, n3, decide_false, cond_false, decide_true, cond_true, Option.bind_some, wf, e3, t0, t1]
              · simp at e; omega
            · have t1 : decide (Go.IntKind.wrap .u32 (((x * 256 + y) * 256 + z) * 256 + u) = own) = false := by rw [hw32]; exact decide_eq_false ho
              refine ⟨((5, [fresh / 16777216 % 256, fresh / 65536 % 256, fresh / 256 % 256, fresh % 256]), false), ((0, []), false), ?_, ?_, rfl, nofun⟩
              · simp only [lcpo_better, n1, n3, decide_false, cond_false, decide_true, cond_true, g1, Option.bind_some, lcpo_number, size_ok, e1, wf, e2, t0, t1]
              · simp only [ref25_better, g2, n1, n3, decide_false, cond_false, decide_true, cond_true, Option.bind_some, t0, t1]
      · have hlen : l.length ≤ 10 := by
          simp only [h1, h3, h5, if_false] at hsz
          split at hsz
          · omega
          · split at hsz <;> omega
        obtain ⟨n, hn⟩ := num_some (N := N) l (by omega) (by omega)
        refine ⟨((0, []), false), ((0, []), false), ?_, ?_, rfl, nofun⟩
        · simp only [lcpo_better, h1, h3, h5, decide_false, cond_false]
        · simp only [ref25_better, hn, h1, h3, h5, decide_false, cond_false, Option.bind_some]
end
end Go.Proofs.Ytjfmcfilenbmbaa
