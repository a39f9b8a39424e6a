/-
  Layer 22, on plain data: options of packets, what is rejected, numbers; the laws CtlOptions and CtlRejects.
-/
import Derived.Test.YtdaminjbockmbaaQCtl1
namespace Go.Proofs.Ytdaminjbockmbaa
set_option maxRecDepth 100000
open Go.RowKit
set_option linter.unusedVariables false
set_option linter.unusedSimpArgs false
set_option maxRecDepth 100000

section
variable {N : Nat}
/-! ### Cut -/
def cutC (b : List Int) (most : Int) : List Int := if most ≤ 4 then [] else b.take (minI (b.length : Int) (most - 4)).toNat
theorem minI_r {a b : Int} (ha : 0 ≤ a) (hb : 0 ≤ b) : 0 ≤ minI a b ∧ minI a b ≤ a := by unfold minI; split <;> omega
theorem ccut_ok (b : List Int) (most : Int) (hm : -9223372036854775808 ≤ most ∧ most < 9223372036854775808) : ctl_cut N b most = some (cutC b most) := by
  unfold ctl_cut cutC
  by_cases h : most ≤ 4
  · simp [h]
  · have w : Go.IntKind.wrap .i64 (most - 4) = most - 4 := wrap64 (by omega) (by omega)
    obtain ⟨r1, r2⟩ := minI_r (show (0 : Int) ≤ (b.length : Int) by omega) (show (0 : Int) ≤ most - 4 by omega)
    have t := takeI_nat b (a := minI (b.length : Int) (most - 4)) (i := (minI (b.length : Int) (most - 4)).toNat) (by omega) (by omega)
    simp [h, w, t]
theorem crcut_ok (b : List Int) (most : Int) (hm : -9223372036854775808 ≤ most ∧ most < 9223372036854775808) : ref22_cut N b most = some (cutC b most) := by
  unfold ref22_cut cutC
  by_cases h : most < 4
  · have h' : most ≤ 4 := by omega
    simp [h, h']
  · have w : Go.IntKind.wrap .i64 (most - 4) = most - 4 := wrap64 (by omega) (by omega)
    obtain ⟨r1, r2⟩ := minI_r (show (0 : Int) ≤ (b.length : Int) by omega) (show (0 : Int) ≤ most - 4 by omega)
    have t := takeI_nat b (a := minI (b.length : Int) (most - 4)) (i := (minI (b.length : Int) (most - 4)).toNat) (by omega) (by omega)
    by_cases h4 : most = 4
    · subst h4
      have e : (minI (b.length : Int) (4 - 4)).toNat = 0 := by unfold minI; split <;> omega
      simp only [h, decide_false, cond_false, w, t, Option.bind_some, e, List.take_zero]
      simp
    · have h' : ¬ most ≤ 4 := by omega
      simp [h, h', w, t]
theorem cutC_wf {b : List Int} (hb : AllB b) (most : Int) : AllB (cutC b most) := by
  unfold cutC; split
  · exact AllB.nil
  · exact hb.take _
/-! ### Rejected, told -/
theorem crej_ok (id : Int) (c : Ct) (most : Int) (hl : c.2.2.length ≤ 5000) (hm : -9223372036854775808 ≤ most ∧ most < 9223372036854775808) (hN : 10000 ≤ N) : ctl_Reject N id c most = some (7, id, cutC (layC c).1 most) := by
  unfold ctl_Reject
  have e : ctl_Lay N (c.1, (c.2.1, c.2.2)) = some (layC c) := clay_ok c hl hN
  rw [e, Option.bind_some, ccut_ok _ _ hm, Option.bind_some]
theorem crrej_ok (id : Int) (c : Ct) (most : Int) (hl : c.2.2.length ≤ 5000) (hm : -9223372036854775808 ≤ most ∧ most < 9223372036854775808) (hN : 10000 ≤ N) : ref22_Reject N id c most = some (7, id, cutC (layC c).1 most) := by
  unfold ref22_Reject
  have e : ref22_Lay N (c.1, (c.2.1, c.2.2)) = some (layC c) := crlay_ok c hl hN
  rw [e, Option.bind_some, crcut_ok _ _ hm, Option.bind_some]
theorem bigP (k : Ct) : ∀ (M : Nat) (n i : Int) (h1 : List Int), gl (fun (X : (((Int) × ((Int) × Unit)) × (((Int) × ((Int) × (List (Int)))) × ((List (Int)) × Unit))) → Option ((Unit × (((Int) × ((Int) × (List (Int)))) × ((List (Int)) × Unit))))) c => ref22_Proto_1_ref01_Big_L3 N X c.1.1 c.1.2.1 c.2.1 c.2.2.1) M ((n, (i, ())), (k, (h1, ()))) = (gl (fun X c => qRBigL3 N X c.1.1 c.1.2.1 c.2.1) M ((n, (i, ())), (h1, ()))).map fun o => ((), (k, (o.2.1, ())))
  | 0, n, i, h1 => rfl
  | M + 1, n, i, h1 => by
    rw [gl_succ, gl_succ]
    simp only [ref22_Proto_1_ref01_Big_L3, qRBigL3]
    by_cases c1 : (0 : Int) ≤ i
    · by_cases c2 : (0 : Int) ≤ i ∧ i < (h1.length : Int)
      · cases hg : h1[i.toNat]? with
        | none => simp [c1, c2, hg]
        | some v =>
          simp only [c1, c2, hg, decide_true, cond_true, Option.bind_some, and_self]
          exact bigP k M _ _ _
      · have c3 : ¬ (i < (h1.length : Int)) := by omega
        simp [c1, c3]
    · simp [c1]
theorem bigE (k : Ct) : ∀ (M : Nat) (n i : Int) (h1 : List Int), gl (fun (X : (((Int) × ((Int) × Unit)) × (((Int) × ((Int) × (List (Int)))) × ((List (Int)) × Unit))) → Option ((Unit × (((Int) × ((Int) × (List (Int)))) × ((List (Int)) × Unit))))) c => ref22_Echo_1_ref01_Big_L3 N X c.1.1 c.1.2.1 c.2.1 c.2.2.1) M ((n, (i, ())), (k, (h1, ()))) = (gl (fun X c => qRBigL3 N X c.1.1 c.1.2.1 c.2.1) M ((n, (i, ())), (h1, ()))).map fun o => ((), (k, (o.2.1, ())))
  | 0, n, i, h1 => rfl
  | M + 1, n, i, h1 => by
    rw [gl_succ, gl_succ]
    simp only [ref22_Echo_1_ref01_Big_L3, qRBigL3]
    by_cases c1 : (0 : Int) ≤ i
    · by_cases c2 : (0 : Int) ≤ i ∧ i < (h1.length : Int)
      · cases hg : h1[i.toNat]? with
        | none => simp [c1, c2, hg]
        | some v =>
          simp only [c1, c2, hg, decide_true, cond_true, Option.bind_some, and_self]
          exact bigE k M _ _ _
      · have c3 : ¬ (i < (h1.length : Int)) := by omega
        simp [c1, c3]
    · simp [c1]
def proC (id : Int) (f : Op) (most : Int) : Ct := (8, id, cutC ([f.1 / 256 % 256, f.1 % 256] ++ f.2) most)
theorem cpro_ok (id : Int) (f : Op) (most : Int) (hf : 0 ≤ f.1 ∧ f.1 < 65536) (hl : f.2.length ≤ 5000) (hm : -9223372036854775808 ≤ most ∧ most < 9223372036854775808) (hN : 10000 ≤ N) : ctl_Proto N id f most = some (proC id f most) := by
  unfold ctl_Proto proC
  have w : Go.IntKind.wrap .u64 f.1 = f.1 := wrapU64 (by omega) (by omega)
  have j := ojoin (N := N) [[f.1 / 256 % 256, f.1 % 256], f.2] (by simp) (fun p hp => by
    simp only [List.mem_cons, List.not_mem_nil, or_false] at hp
    rcases hp with rfl | rfl
    · simp
    · omega) hN
  have jf : ([[f.1 / 256 % 256, f.1 % 256], f.2] : List (List Int)).flatten = [f.1 / 256 % 256, f.1 % 256] ++ f.2 := by simp
  rw [w, oput2 _ (by omega) hN, Option.bind_some]
  simp only [j, jf, Option.bind_some, ccut_ok _ _ hm]
theorem crpro_ok (id : Int) (f : Op) (most : Int) (hf : 0 ≤ f.1 ∧ f.1 < 65536) (hl : f.2.length ≤ 5000) (hm : -9223372036854775808 ≤ most ∧ most < 9223372036854775808) (hN : 10000 ≤ N) : ref22_Proto N id f most = some (proC id f most) := by
  unfold ref22_Proto proC
  have w : Go.IntKind.wrap .u64 f.1 = f.1 := wrapU64 (by omega) (by omega)
  have w1 : Go.IntKind.wrap .i64 ((2 : Int) - 1) = 1 := by decide
  have r2 : List.replicate (Int.toNat 2) (0 : Int) = [0, 0] := rfl
  have hb : ref22_Proto_1_ref01_Big_L3_R N (((f.1), ((1 : Int), ())), (((0 : Int), ((0 : Int), ([] : List Int))), (([0, 0] : List Int), ()))) = some ((), (((0 : Int), ((0 : Int), ([] : List Int))), ([f.1 / 256 % 256, f.1 % 256], ()))) := by
    have b := bigl2 (N := N) f.1 (by omega) hN
    unfold qRBigL3R at b
    refine (bigP (N := N) (0, 0, []) N f.1 1 [0, 0]).trans ?_
    rw [b]; rfl
  have r : roomB (([f.1 / 256 % 256, f.1 % 256] : List Int).length + f.2.length) 1 = true := roomB_of (by have := big_len; simp only [List.length_cons, List.length_nil]; omega) (by simp only [List.length_cons, List.length_nil]; omega)
  rw [w, w1, r2, hb, Option.bind_some]
  simp only [r, cond_true, crcut_ok _ _ hm, Option.bind_some]
def ecC (code id n : Int) (d : List Int) : Ct := (code, id, [n / 16777216 % 256, n / 65536 % 256, n / 256 % 256, n % 256] ++ d)
theorem cec_ok (code id n : Int) (d : List Int) (hn : 0 ≤ n ∧ n < 4294967296) (hl : d.length ≤ 5000) (hN : 10000 ≤ N) : ctl_Echo N code id n d = some (ecC code id n d) := by
  unfold ctl_Echo ecC
  have w : Go.IntKind.wrap .u64 n = n := wrapU64 (by omega) (by omega)
  have j := ojoin (N := N) [[n / 16777216 % 256, n / 65536 % 256, n / 256 % 256, n % 256], d] (by simp) (fun p hp => by
    simp only [List.mem_cons, List.not_mem_nil, or_false] at hp
    rcases hp with rfl | rfl
    · simp
    · omega) hN
  have jf : ([[n / 16777216 % 256, n / 65536 % 256, n / 256 % 256, n % 256], d] : List (List Int)).flatten = [n / 16777216 % 256, n / 65536 % 256, n / 256 % 256, n % 256] ++ d := by simp
  rw [w, oput4 _ (by omega) hN, Option.bind_some]
  simp only [j, jf, Option.bind_some]
theorem crec_ok (code id n : Int) (d : List Int) (hn : 0 ≤ n ∧ n < 4294967296) (hl : d.length ≤ 5000) (hN : 10000 ≤ N) : ref22_Echo N code id n d = some (ecC code id n d) := by
  unfold ref22_Echo ecC
  have w : Go.IntKind.wrap .u64 n = n := wrapU64 (by omega) (by omega)
  have w1 : Go.IntKind.wrap .i64 ((4 : Int) - 1) = 3 := by decide
  have r2 : List.replicate (Int.toNat 4) (0 : Int) = [0, 0, 0, 0] := rfl
  have hb : ref22_Echo_1_ref01_Big_L3_R N ((n, ((3 : Int), ())), (((0 : Int), ((0 : Int), ([] : List Int))), (([0, 0, 0, 0] : List Int), ()))) = some ((), (((0 : Int), ((0 : Int), ([] : List Int))), ([n / 16777216 % 256, n / 65536 % 256, n / 256 % 256, n % 256], ()))) := by
    have b := bigl4 (N := N) n (by omega) hN
    unfold qRBigL3R at b
    refine (bigE (N := N) (0, 0, []) N n 3 [0, 0, 0, 0]).trans ?_
    rw [b]; rfl
  have r : roomB (([n / 16777216 % 256, n / 65536 % 256, n / 256 % 256, n % 256] : List Int).length + d.length) 1 = true := roomB_of (by have := big_len; simp only [List.length_cons, List.length_nil]; omega) (by simp only [List.length_cons, List.length_nil]; omega)
  rw [w, w1, r2, hb, Option.bind_some]
  simp only [r, cond_true]
def magC (c : Ct) : Int × List Int × Int := if c.2.2.length < 4 then (0, [], 4) else (Go.IntKind.wrap .u32 (((c.2.2.getD 0 0 * 256 + c.2.2.getD 1 0) * 256 + c.2.2.getD 2 0) * 256 + c.2.2.getD 3 0), c.2.2.drop 4, 0)
theorem cmag_ok (c : Ct) (hw : AllB c.2.2) (hl : c.2.2.length ≤ 100000) (hN : 10000 ≤ N) : ctl_Magic N c = some (magC c) := by
  unfold ctl_Magic magC
  obtain ⟨code, id, b⟩ := c
  simp only at hw hl ⊢
  by_cases h4 : b.length < 4
  · have c1 : (b.length : Int) < 4 := by omega
    rw [decide_eq_true c1, if_pos h4]; rfl
  · have c1 : ¬ (b.length : Int) < 4 := by omega
    obtain ⟨x, y, z, u, r, rfl⟩ := list4 (by omega : 4 ≤ b.length)
    have bx := hw x (by simp)
    have by' := hw y (by simp)
    have bz := hw z (by simp)
    have bu := hw u (by simp)
    have t1 : takeI (x :: y :: z :: u :: r) (4 : Int) = some [x, y, z, u] := takeI_nat _ (i := 4) rfl (by simp)
    have t2 : dropI (x :: y :: z :: u :: r) (4 : Int) = some r := dropI_nat _ (i := 4) rfl (by simp)
    have hc : slices_Clone_byte_byte N r = some r := clone_ok _ (by simp only [List.length_cons] at hl; omega)
    rw [decide_eq_false c1, if_neg h4]
    simp only [cond_false, t1, t2, Option.bind_some, oget4 x y z u bx by' bz bu hN, hc]
    rfl
theorem crmag_ok (c : Ct) (hw : AllB c.2.2) (hl : c.2.2.length ≤ 100000) (hN : 10000 ≤ N) : ref22_Magic N c = some (magC c) := by
  unfold ref22_Magic magC
  obtain ⟨code, id, b⟩ := c
  simp only at hw hl ⊢
  by_cases h4 : b.length < 4
  · have c1 : (b.length : Int) < 4 := by omega
    rw [decide_eq_true c1, if_pos h4]; rfl
  · have c1 : ¬ (b.length : Int) < 4 := by omega
    obtain ⟨x, y, z, u, r, rfl⟩ := list4 (by omega : 4 ≤ b.length)
    have bx := hw x (by simp)
    have by' := hw y (by simp)
    have bz := hw z (by simp)
    have bu := hw u (by simp)
    have t1 : takeI (x :: y :: z :: u :: r) (4 : Int) = some [x, y, z, u] := takeI_nat _ (i := 4) rfl (by simp)
    have t2 : dropI (x :: y :: z :: u :: r) (4 : Int) = some r := dropI_nat _ (i := 4) rfl (by simp)
    rw [decide_eq_false c1, if_neg h4]
    simp only [cond_false, t1, t2, Option.bind_some, rnum4 x y z u bx by' bz bu hN]
    rfl
/-! ### Options -/
def isC (code : Int) : Bool := decide (1 ≤ code ∧ code ≤ 4)
theorem chas_ok (code : Int) : ctl_hasOptions N code = some (isC code) := by
  unfold ctl_hasOptions isC
  by_cases h1 : (1 : Int) ≤ code <;> by_cases h2 : code ≤ (4 : Int) <;> simp [h1, h2]
theorem crhas_ok (code : Int) : ref22_conf N code = some (isC code) := by
  unfold ref22_conf isC
  by_cases h1 : (1 : Int) ≤ code <;> by_cases h2 : code ≤ (4 : Int) <;> simp [h1, h2]
def conC (code id : Int) (l : List Op) : Ct × Int := bif isC code then (bif decide ((layS l).2 = 0) then ((code, id, (layS l).1), 0) else ((0, 0, []), (layS l).2)) else ((0, 0, []), 9)
theorem ccon_ok (code id : Int) (l : List Op) (hl : l.length ≤ 1000) (hN : 10000 ≤ N) : ctl_Conf N code id l = some (conC code id l) := by
  unfold ctl_Conf conC
  rw [chas_ok, Option.bind_some, lay_ok l hl hN]
  cases isC code
  · rfl
  · by_cases h : (layS l).2 = 0 <;> simp [h]
theorem crcon_ok (code id : Int) (l : List Op) (hl : l.length ≤ 1000) (hN : 10000 ≤ N) : ref22_Conf N code id l = some (conC code id l) := by
  unfold ref22_Conf conC
  rw [crhas_ok, Option.bind_some, ref_lay_ok l hl hN]
  cases isC code
  · rfl
  · by_cases h : (layS l).2 = 0 <;> simp [h]
def optC (N : Nat) (c : Ct) : List Op × Int := bif isC c.1 then fin (par N c.2.2 []) else ([], 9)
theorem copt_ok (c : Ct) (hb : c.2.2.length ≤ 100000) (hw : AllB c.2.2) (hN : 100000 < N) : ctl_Options N c = some (optC N c) := by
  unfold ctl_Options optC
  rw [chas_ok, Option.bind_some, parse_ok c.2.2 hb hw hN]
  cases isC c.1 <;> rfl
theorem cropt_ok (c : Ct) (hb : c.2.2.length ≤ 100000) (hw : AllB c.2.2) (hN : 100000 < N) : ref22_Options N c = some (optC N c) := by
  unfold ref22_Options optC
  rw [crhas_ok, Option.bind_some, ref_parse_ok c.2.2 hb hw hN]
  cases isC c.1 <;> rfl
end
theorem optC_wf (c : Ct) (hl : c.2.2.length < 200000) (hw : AllB c.2.2) : wfO (optC 200000 c).1 ∧ (optC 200000 c).1.length ≤ 32 := by
  unfold optC
  cases isC c.1
  · exact ⟨fun o ho => (by cases ho), Nat.zero_le _⟩
  · simp only [cond_true]
    rcases par_back 200000 c.2.2 [] hl hw (fun o ho => (by cases ho)) (by simp) with ⟨e, h, he⟩ | ⟨m, h, _, _, hm⟩
    · rw [h]; exact ⟨fun o ho => (by cases ho), Nat.zero_le _⟩
    · have := par_wf 200000 c.2.2 [] hw (fun o ho => (by cases ho)) m h
      rw [h]; exact ⟨this, hm⟩
theorem wf_i64 {n : Int} (h : (Lit.int .i64 n).wf = true) : -9223372036854775808 ≤ n ∧ n < 9223372036854775808 := by
  simp only [Lit.wf, Bool.and_eq_true, decide_eq_true_eq, IntKind.min, IntKind.max, IntKind.signed, IntKind.bits] at h
  simp at h
  omega
theorem wf_u16 {n : Int} (h : (Lit.int .u16 n).wf = true) : 0 ≤ n ∧ n < 65536 := by
  simp only [Lit.wf, Bool.and_eq_true, decide_eq_true_eq, IntKind.min, IntKind.max, IntKind.signed, IntKind.bits] at h
  simp at h
  omega
theorem magC_wf (c : Ct) (hw : AllB c.2.2) : AllB (magC c).2.1 ∧ (magC c).2.1.length ≤ c.2.2.length := by
  unfold magC; split
  · exact ⟨AllB.nil, Nat.zero_le _⟩
  · exact ⟨hw.drop _, by show (c.2.2.drop 4).length ≤ _; rw [List.length_drop]; omega⟩
theorem law_CtlRejects (c : Ct) (f : Op) (most : Int) (h1 : wfT (.pair (.int .u8) (.pair (.int .u8) (.sl (.int .u8)))) c) (h2 : wfT (.pair (.int .u16) (.sl (.int .u8))) f) (h3 : wfT (.int .i64) most) : law22_CtlRejects 200000 c f most = some true := by
  have wc := wf_ct h1
  have wf : 0 ≤ f.1 ∧ f.1 < 65536 := wf_u16 h2.1
  have wfd := wf_bytes h2.2
  have hm := wf_i64 h3
  unfold law22_CtlRejects
  by_cases ha : (4500 : Int) < (c.2.2.length : Int)
  · simp only [ha, decide_true, cond_true, alive22, Option.bind_some]
  · by_cases hb : (4500 : Int) < (f.2.length : Int)
    · simp only [ha, hb, decide_true, decide_false, cond_true, cond_false, alive22, Option.bind_some]
    · have hw32 : 0 ≤ Go.IntKind.wrap .u32 most ∧ Go.IntKind.wrap .u32 most < 4294967296 := by rw [IntKind.wrap_u32]; omega
      have m1 : ctl_Magic 200000 (c.1, (c.2.1, c.2.2)) = some (magC c) := cmag_ok c wc.2.2 (by omega) (by omega)
      have m2 : ref22_Magic 200000 (c.1, (c.2.1, c.2.2)) = some (magC c) := crmag_ok c wc.2.2 (by omega) (by omega)
      have j1 : ctl_Reject 200000 c.2.1 (c.1, (c.2.1, c.2.2)) most = some (7, c.2.1, cutC (layC c).1 most) := crej_ok c.2.1 c most (by omega) hm (by omega)
      have j2 : ref22_Reject 200000 c.2.1 (c.1, (c.2.1, c.2.2)) most = some (7, c.2.1, cutC (layC c).1 most) := crrej_ok c.2.1 c most (by omega) hm (by omega)
      have p1 : ctl_Proto 200000 c.2.1 (f.1, f.2) most = some (proC c.2.1 f most) := cpro_ok c.2.1 f most wf (by omega) hm (by omega)
      have p2 : ref22_Proto 200000 c.2.1 (f.1, f.2) most = some (proC c.2.1 f most) := crpro_ok c.2.1 f most wf (by omega) hm (by omega)
      have e1 : ctl_Echo 200000 c.1 c.2.1 (Go.IntKind.wrap .u32 most) f.2 = some (ecC c.1 c.2.1 (Go.IntKind.wrap .u32 most) f.2) := cec_ok _ _ _ _ hw32 (by omega) (by omega)
      have e2 : ref22_Echo 200000 c.1 c.2.1 (Go.IntKind.wrap .u32 most) f.2 = some (ecC c.1 c.2.1 (Go.IntKind.wrap .u32 most) f.2) := crec_ok _ _ _ _ hw32 (by omega) (by omega)
      have w1 : wfC (7, c.2.1, cutC (layC c).1 most) := ⟨by show (0 : Int) ≤ 7 ∧ (7 : Int) < 256; decide, wc.2.1, cutC_wf (layC_wf c wc (by omega)).2 most⟩
      have w2 : wfC (proC c.2.1 f most) := ⟨by show (0 : Int) ≤ 8 ∧ (8 : Int) < 256; decide, wc.2.1, cutC_wf ((AllB.cons (by omega) (AllB.cons (by omega) AllB.nil)).append wfd) most⟩
      have w3 : wfC (ecC c.1 c.2.1 (Go.IntKind.wrap .u32 most) f.2) := ⟨wc.1, wc.2.1, (AllB.cons (by omega) (AllB.cons (by omega) (AllB.cons (by omega) (AllB.cons (by omega) AllB.nil)))).append wfd⟩
      have s1 : ctl_Same 200000 ((7 : Int), (c.2.1, cutC (layC c).1 most)) ((7 : Int), (c.2.1, cutC (layC c).1 most)) = some true := by
        refine (csame_ok _ _ w1 w1).trans ?_; simp
      have s2 : ctl_Same 200000 ((proC c.2.1 f most).1, ((proC c.2.1 f most).2.1, (proC c.2.1 f most).2.2)) ((proC c.2.1 f most).1, ((proC c.2.1 f most).2.1, (proC c.2.1 f most).2.2)) = some true := by
        refine (csame_ok _ _ w2 w2).trans ?_; simp
      obtain ⟨E, hE⟩ : ∃ E, E = ecC c.1 c.2.1 (Go.IntKind.wrap .u32 most) f.2 := ⟨_, rfl⟩
      rw [← hE] at e1 e2 w3
      have s3 : ctl_Same 200000 (E.1, (E.2.1, E.2.2)) (E.1, (E.2.1, E.2.2)) = some true := by
        refine (csame_ok E E w3 w3).trans ?_; simp
      have hmg := magC_wf c wc.2.2
      have s4 : ref01_Same 200000 (magC c).2.1 (magC c).2.1 = some true := by
        refine (rsame _ _ (by omega) (by omega)).trans ?_; simp
      simp only [ha, hb, decide_false, cond_false, m1, m2, Option.bind_some, j1, j2, s1, cond_true, p1, p2, s2, e1, e2, s3, s4, decide_true, alive22]
theorem far22 (l : List Op) (hd : Arr Int 2) (c : Ct) (m : List Op) (hml : m.length ≤ 40) : ∃ o, law22_CtlOptions_L2_R 200000 ((l, (hd, ((c.1, (c.2.1, c.2.2)), (m, ((m.length : Int), ((0 : Int), ())))))), ()) = some o ∧ (o = .inl ((true, ()), ()) ∨ (o = .inr ((l, (hd, (c, ()))), ()) ∧ ∀ o ∈ m, o.2.length ≤ 300)) := by
  obtain ⟨o, h1, h2⟩ := gl_inv (G := fun (X : (((List ((Int) × (List (Int)))) × ((Arr (Int) 2) × (((Int) × ((Int) × (List (Int)))) × ((List ((Int) × (List (Int)))) × ((Int) × ((Int) × Unit)))))) × Unit) → Option (((((Bool) × Unit) × Unit) ⊕ (((List ((Int) × (List (Int)))) × ((Arr (Int) 2) × (((Int) × ((Int) × (List (Int)))) × Unit))) × Unit)))) c => law22_CtlOptions_L2 200000 X c.1.1 c.1.2.1 c.1.2.2.1 c.1.2.2.2.1 c.1.2.2.2.2.1 c.1.2.2.2.2.2.1)
    (fun n s => ∃ i : Nat, s = ((l, (hd, ((c.1, (c.2.1, c.2.2)), (m, ((m.length : Int), ((i : Int), ())))))), ()) ∧ i ≤ m.length ∧ n = m.length - i ∧ ∀ o ∈ m.take i, o.2.length ≤ 300) (fun o => o = .inl ((true, ()), ()) ∨ (o = .inr ((l, (hd, (c, ()))), ()) ∧ ∀ o ∈ m, o.2.length ≤ 300)) (fun X n s ⟨i, hc, hi, hn, ht⟩ => by
      subst hc
      rcases Nat.lt_or_ge i m.length with hlt | hge
      · have c1 : ((i : Int) < (m.length : Int)) := by omega
        have c2 : Go.IntKind.wrap .i64 ((i : Int) + 1) = ((i + 1 : Nat) : Int) := by rw [wrap64 (by omega) (by omega)]; omega
        by_cases he : (300 : Int) < (m[i].2.length : Int)
        · left
          exact ⟨_, by simp only [law22_CtlOptions_L2, c1, decide_true, cond_true, getI_lt m i hlt, Option.bind_some, he, alive22], .inl rfl⟩
        · right
          refine ⟨m.length - (i + 1), ((l, (hd, ((c.1, (c.2.1, c.2.2)), (m, ((m.length : Int), (((i + 1 : Nat) : Int), ())))))), ()), by omega, ⟨i + 1, rfl, hlt, rfl, ?_⟩, ?_⟩
          · intro o ho
            rw [take_snoc m i hlt] at ho
            rcases List.mem_append.1 ho with ho | ho
            · exact ht o ho
            · simp at ho; subst ho; omega
          · simp only [law22_CtlOptions_L2, c1, decide_true, cond_true, getI_lt m i hlt, Option.bind_some, he, decide_false, cond_false, c2]
      · left
        have c1 : ¬ ((i : Int) < (m.length : Int)) := by omega
        refine ⟨_, by simp only [law22_CtlOptions_L2, c1, decide_false, cond_false], .inr ⟨rfl, ?_⟩⟩
        rw [List.take_of_length_le (by omega)] at ht
        exact ht) 200000 m.length ((l, (hd, ((c.1, (c.2.1, c.2.2)), (m, ((m.length : Int), ((0 : Int), ())))))), ()) (by omega) ⟨0, rfl, by omega, by omega, by simp⟩
  exact ⟨o, h1, h2⟩
theorem layS_wf (l : List Op) (hw : wfO l) : AllB (layS l).1 ∧ (layS l).1.length ≤ 10000 := by
  unfold layS
  split
  · exact ⟨AllB.nil, by simp⟩
  · split
    · rename_i h32 hs
      have hs := all_small.1 hs
      refine ⟨encs_all hs hw, ?_⟩
      have := encs_len hs
      show (encs l).length ≤ _
      omega
    · exact ⟨AllB.nil, by simp⟩
theorem conC_back (code id : Int) (l : List Op) (h : (conC code id l).2 = 0) : optC 200000 (conC code id l).1 = (l, 0) := by
  unfold conC at h ⊢
  cases hc : isC code with
  | false => rw [hc] at h; cases h
  | true =>
    rw [hc] at h
    simp only [cond_true] at h ⊢
    by_cases h0 : (layS l).2 = 0
    · simp only [h0, decide_true, cond_true]
      have hl : l.length ≤ 32 ∧ small l ∧ (layS l).1 = encs l := by
        unfold layS at h0 ⊢
        split at h0
        · cases h0
        · rename_i h32
          rw [if_neg h32]
          split at h0
          · rename_i hs
            rw [if_pos hs]
            exact ⟨by omega, all_small.1 hs, rfl⟩
          · cases h0
      unfold optC
      simp only [hc, cond_true, hl.2.2]
      have hel := encs_len hl.2.1
      rw [par_encs l 200000 [] (by omega) hl.2.1 (by simpa using hl.1)]
      rfl
    · simp only [h0, decide_false, cond_false] at h
theorem law_CtlOptions (hd : Arr Int 2) (l : List Op) (c : Ct) (h0 : wfT (.arr 2 (.int .u8)) hd) (h1 : wfT (.sl (.pair (.int .u8) (.sl (.int .u8)))) l) (h2 : wfT (.pair (.int .u8) (.pair (.int .u8) (.sl (.int .u8)))) c) : law22_CtlOptions 200000 hd l c = some true := by
  have wh : AllB hd.l := fun x hx => wf_u8 (h0 x hx)
  have wl := wf_opts h1
  have wc := wf_ct h2
  have hm : takeI l (minI (l.length : Int) 40) = some (l.take 40) := by
    unfold minI
    split
    · exact takeI_nat l (i := 40) rfl (by omega)
    · rw [takeI_nat l (i := l.length) rfl (by omega), List.take_of_length_le (by omega), List.take_of_length_le (by omega)]
  have hml : (l.take 40).length ≤ 40 := by rw [List.length_take]; omega
  obtain ⟨o, g1, g2⟩ := far22 l hd c (l.take 40) hml
  unfold law22_CtlOptions
  rw [hm, Option.bind_some]
  refine (congrArg (fun o => Option.bind o _) g1).trans ?_
  rcases g2 with rfl | ⟨rfl, hs⟩
  · rfl
  · simp only [Option.bind_some, Sum.elim_inr]
    by_cases ha : (40 : Int) < (l.length : Int)
    · simp only [ha, decide_true, cond_true, alive22, Option.bind_some]
    by_cases hb : (4500 : Int) < (c.2.2.length : Int)
    · simp only [ha, hb, decide_true, decide_false, cond_true, cond_false, alive22, Option.bind_some]
    have hl0 : 0 < hd.l.length := by rw [hd.h]; omega
    have hl1 : 1 < hd.l.length := by rw [hd.h]; omega
    have hx := wh.get 0 hl0
    have hy := wh.get 1 hl1
    have g0 := getI_at hd.l (a := (0 : Int)) (i := 0) rfl hl0
    have gg1 := getI_at hd.l (a := (1 : Int)) (i := 1) rfl hl1
    generalize hd.l[0] = x at hx g0
    generalize hd.l[1] = y at hy gg1
    have t1 := theirs_ok (N := 200000) l (by omega) (by omega)
    have k1 := ccon_ok (N := 200000) x y l (by omega) (by omega)
    have k2 := crcon_ok (N := 200000) x y l (by omega) (by omega)
    have q1 : ctl_Options 200000 (c.1, (c.2.1, c.2.2)) = some (optC 200000 c) := copt_ok c (by omega) wc.2.2 (by omega)
    have q2 : ref22_Options 200000 (c.1, (c.2.1, c.2.2)) = some (optC 200000 c) := cropt_ok c (by omega) wc.2.2 (by omega)
    have hback := conC_back x y l
    have hls := layS_wf l wl
    have wK : wfC (conC x y l).1 ∧ (conC x y l).1.2.2.length ≤ 10000 := by
      unfold conC
      cases isC x
      · simp only [cond_false]; exact ⟨⟨by show (0 : Int) ≤ 0 ∧ (0 : Int) < 256; decide, by show (0 : Int) ≤ 0 ∧ (0 : Int) < 256; decide, AllB.nil⟩, by simp⟩
      · by_cases hz : (layS l).2 = 0
        · simp only [hz, decide_true, cond_true]; exact ⟨⟨hx, hy, hls.1⟩, hls.2⟩
        · simp only [hz, decide_false, cond_true, cond_false]; exact ⟨⟨by show (0 : Int) ≤ 0 ∧ (0 : Int) < 256; decide, by show (0 : Int) ≤ 0 ∧ (0 : Int) < 256; decide, AllB.nil⟩, by simp⟩
    obtain ⟨K, hK⟩ : ∃ K, K = conC x y l := ⟨_, rfl⟩
    rw [← hK] at k1 k2 hback wK
    have q3 : ctl_Options 200000 (K.1.1, (K.1.2.1, K.1.2.2)) = some (optC 200000 K.1) := copt_ok K.1 (by omega) wK.1.2.2 (by omega)
    have s1 : ctl_Same 200000 (K.1.1, (K.1.2.1, K.1.2.2)) (K.1.1, (K.1.2.1, K.1.2.2)) = some true := by
      refine (csame_ok K.1 K.1 wK.1 wK.1).trans ?_; simp
    obtain ⟨wo, lo⟩ := optC_wf c (by omega) wc.2.2
    obtain ⟨wo2, lo2⟩ := optC_wf K.1 (by omega) wK.1.2.2
    have t2 := theirs_ok (N := 200000) (optC 200000 c).1 (by omega) (by omega)
    have s2 : opts_Same 200000 (optC 200000 c).1 (optC 200000 c).1 = some true := by
      refine (osame_ok _ _ wo wo (by omega) (by omega)).trans ?_; simp
    simp only [ha, hb, decide_false, cond_false, g0, gg1, Option.bind_some, t1, k1, k2, q1, q2, q3, s1, cond_true, decide_true, t2, s2]
    by_cases hz : K.2 = 0
    · have hb2 := hback hz
      have s3 : opts_Same 200000 (optC 200000 K.1).1 l = some true := by
        refine (osame_ok _ _ wo2 wl (by omega) (by omega)).trans ?_; rw [hb2]; simp
      rw [hb2] at s3
      simp [hz, s3, hb2, alive22]
    · simp [hz, alive22]
end Go.Proofs.Ytdaminjbockmbaa
