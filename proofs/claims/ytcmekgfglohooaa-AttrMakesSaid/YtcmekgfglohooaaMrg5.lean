/-
  Parts of my own, one behind the other: QAM3.
-/
import Derived.Test.YtcmekgfglohooaaMrg4
/-
  Layer 17, on plain data: attributes made; the law AttrMakes.
-/
namespace Go.Proofs.Ytcmekgfglohooaa
set_option maxRecDepth 100000
open Go.RowKit
set_option linter.unusedVariables false
set_option linter.unusedSimpArgs false
set_option maxRecDepth 100000

/-- A status's attribute; a binding's; one that asks for it. -/
def stA (ab code : Int) (d : List Int) : At2 := (2, 0 :: 0 :: 0 :: ab :: (code / 16777216 % 256) :: (code / 65536 % 256) :: (code / 256 % 256) :: (code % 256) :: d.take 64)
def biA (m : Int) (x y z : Arr Int 32) : At2 := (3, 0 :: 0 :: 0 :: m :: (x.l ++ (y.l ++ z.l)))
def asA (m : Int) (x : Arr Int 32) : At2 := (4, 0 :: 0 :: 0 :: m :: x.l)
theorem take64_ok (d : List Int) : takeI d (minI (d.length : Int) 64) = some (d.take 64) := by
  unfold minI
  split
  · exact takeI_nat d (i := 64) rfl (by omega)
  · rw [takeI_nat d (i := d.length) rfl (Nat.le_refl _), List.take_length, List.take_of_length_le (by omega)]
theorem toArr32 (l : List Int) (h : l.length = 32) : toArr 32 l = some ⟨l, h⟩ := by
  unfold toArr
  rw [dif_pos (by omega)]
  congr 1
  exact Arr.ext' (List.take_of_length_le (by omega))
theorem rsmall {n : Nat} (h : n ≤ 100000) : roomB n 1 = true := roomB_of (by have := big_len; omega) (by omega)
section
variable {N : Nat}
theorem ofSt_ok (ab code : Int) (d : List Int) (hc : 0 ≤ code ∧ code < 4294967296) (hN : 10000 ≤ N) : attr_OfStatus N (ab, (code, d)) = some (stA ab code d) := by
  have w2 : Go.IntKind.wrap .u64 code = code := wrapU64 (by omega) (by omega)
  unfold attr_OfStatus
  simp only [w2]
  rw [oput4 _ (by omega) hN]
  simp only [Option.bind_some, take64_ok]
  rw [behind_ok ab _ (by simp) (fun p hp => by
    simp only [List.mem_cons, List.not_mem_nil, or_false] at hp
    rcases hp with rfl | rfl
    · simp
    · rw [List.length_take]; omega) hN]
  simp [stA]
theorem ofBi_ok (m : Int) (x y z : Arr Int 32) (hN : 10000 ≤ N) : attr_OfBinding N (m, (x, (y, z))) = some (biA m x y z) := by
  have hx := x.h
  have hy := y.h
  have hz := z.h
  unfold attr_OfBinding
  rw [behind_ok m _ (by simp) (fun p hp => by
    simp only [List.mem_cons, List.not_mem_nil, or_false] at hp
    rcases hp with rfl | rfl | rfl
    · omega
    · omega
    · omega) hN]
  simp [biA]
theorem ofAs_ok (m : Int) (x : Arr Int 32) (hN : 10000 ≤ N) : attr_OfAsk N (m, x) = some (asA m x) := by
  have hx := x.h
  unfold attr_OfAsk
  rw [behind_ok m _ (by simp) (fun p hp => by rw [List.mem_singleton.1 hp]; show x.l.length ≤ 100; omega) hN]
  simp [asA]
theorem rSt_ok (ab code : Int) (d : List Int) (hc : 0 ≤ code ∧ code < 4294967296) (hN : 10000 ≤ N) : ref17_Status N ab code d = some (stA ab code d) := by
  have w2 : Go.IntKind.wrap .u64 code = code := wrapU64 (by omega) (by omega)
  have hb : ref01_Big N code 4 = some [code / 16777216 % 256, code / 65536 % 256, code / 256 % 256, code % 256] := big4 (N := N) code (by omega) (by omega)
  unfold ref17_Status
  simp only [w2, hb, Option.bind_some, take64_ok]
  rw [rsmall (by simp), rsmall (by simp only [List.length_append, List.length_cons, List.length_nil, List.length_take]; omega)]
  simp [stA]
theorem ne_emp {x : Arr Int 32} : x.l.isEmpty = false := by
  have hx := x.h
  cases h : x.l with
  | nil => rw [h] at hx; simp at hx
  | cons a l => rfl
theorem rBi_ok (m : Int) (x y z : Arr Int 32) : ref17_Binding N m x y z = some (biA m x y z) := by
  have hx := x.h
  have hy := y.h
  have hz := z.h
  unfold ref17_Binding
  rw [rsmall (by simp; omega), rsmall (by simp only [List.length_append, List.length_cons, List.length_nil]; omega), rsmall (by simp only [List.length_append, List.length_cons, List.length_nil]; omega), ne_emp]
  simp [biA]
theorem rAs_ok (m : Int) (x : Arr Int 32) : ref17_Ask N m x = some (asA m x) := by
  have hx := x.h
  unfold ref17_Ask
  rw [rsmall (by simp; omega), ne_emp]
  simp [asA]
/-! ### Taken apart -/
theorem stA_B (ab code : Int) (d : List Int) (ha : 0 ≤ ab ∧ ab < 256) (hd : AllB d) : AllB (stA ab code d).2 ∧ (stA ab code d).2.length ≤ 72 := by
  refine ⟨?_, ?_⟩
  · exact AllB.cons (by omega) (AllB.cons (by omega) (AllB.cons (by omega) (AllB.cons ha (AllB.cons (by omega) (AllB.cons (by omega) (AllB.cons (by omega) (AllB.cons (by omega) (hd.take 64))))))))
  · simp only [stA, List.length_cons, List.length_take]; omega
theorem biA_B (m : Int) (x y z : Arr Int 32) (hm : 0 ≤ m ∧ m < 256) (hx : AllB x.l) (hy : AllB y.l) (hz : AllB z.l) : AllB (biA m x y z).2 :=
  AllB.cons (by omega) (AllB.cons (by omega) (AllB.cons (by omega) (AllB.cons hm (hx.append (hy.append hz)))))
theorem asA_B (m : Int) (x : Arr Int 32) (hm : 0 ≤ m ∧ m < 256) (hx : AllB x.l) : AllB (asA m x).2 :=
  AllB.cons (by omega) (AllB.cons (by omega) (AllB.cons (by omega) (AllB.cons hm hx)))
theorem stA_e (ab code : Int) (d : List Int) : toE (stA ab code d) 2 = if ab ≤ 4 then 0 else 3 := by
  have hl : (stA ab code d).2.length = 8 + min 64 d.length := by simp only [stA, List.length_cons, List.length_take]; omega
  unfold toE
  rw [if_pos (show (stA ab code d).1 = 2 from rfl)]
  unfold chk
  rw [show (stA ab code d).1 = 2 from rfl, if_neg (show ¬ kindB 2 = false by decide), if_neg (by rw [hl]; show ¬ _ < 8; omega), if_neg (by rw [hl]; show ¬ 72 < _; omega), if_neg (show ¬ (2 : Int) = 1 by decide)]
  have h1 : (z3 ((stA ab code d).2.getD 0 0) ((stA ab code d).2.getD 1 0) ((stA ab code d).2.getD 2 0) && okB 2 ((stA ab code d).2.getD 3 0)) = decide (ab ≤ 4) := by
    show (z3 0 0 0 && okB 2 ab) = _
    simp [z3, okB]
  rw [h1]
  by_cases h : ab ≤ 4 <;> simp [h]
theorem biA_e (m : Int) (x y z : Arr Int 32) : toE (biA m x y z) 3 = if m = 1 ∨ m = 2 then 0 else 3 := by
  have hx := x.h
  have hy := y.h
  have hz := z.h
  have hl : (biA m x y z).2.length = 100 := by simp only [biA, List.length_cons, List.length_append]; omega
  unfold toE
  rw [if_pos (show (biA m x y z).1 = 3 from rfl)]
  unfold chk
  rw [show (biA m x y z).1 = 3 from rfl, if_neg (show ¬ kindB 3 = false by decide), if_neg (by rw [hl]; exact (by decide : ¬ 100 < leastA 3)), if_neg (by rw [hl]; exact (by decide : ¬ mostA 3 < 100)), if_neg (show ¬ (3 : Int) = 1 by decide)]
  have h1 : (z3 ((biA m x y z).2.getD 0 0) ((biA m x y z).2.getD 1 0) ((biA m x y z).2.getD 2 0) && okB 3 ((biA m x y z).2.getD 3 0)) = (decide (m = 1) || decide (m = 2)) := by
    show (z3 0 0 0 && okB 3 m) = _
    simp [z3, okB]
  rw [h1]
  by_cases h : m = 1 <;> by_cases h' : m = 2 <;> simp [h, h']
theorem asA_e (m : Int) (x : Arr Int 32) : toE (asA m x) 4 = if 1 ≤ m ∧ m ≤ 3 then 0 else 3 := by
  have hx := x.h
  have hl : (asA m x).2.length = 36 := by simp only [asA, List.length_cons]; omega
  unfold toE
  rw [if_pos (show (asA m x).1 = 4 from rfl)]
  unfold chk
  rw [show (asA m x).1 = 4 from rfl, if_neg (show ¬ kindB 4 = false by decide), if_neg (by rw [hl]; exact (by decide : ¬ 36 < leastA 4)), if_neg (by rw [hl]; exact (by decide : ¬ mostA 4 < 36)), if_neg (show ¬ (4 : Int) = 1 by decide)]
  have h1 : (z3 ((asA m x).2.getD 0 0) ((asA m x).2.getD 1 0) ((asA m x).2.getD 2 0) && okB 4 ((asA m x).2.getD 3 0)) = (decide (1 ≤ m) && decide (m ≤ 3)) := by
    show (z3 0 0 0 && okB 4 m) = _
    simp [z3, okB]
  rw [h1]
  by_cases h : 1 ≤ m <;> by_cases h' : m ≤ 3 <;> simp [h, h']
theorem toSt_ok (ab code : Int) (d : List Int) (ha : 0 ≤ ab ∧ ab < 256) (hc : 0 ≤ code ∧ code < 4294967296) (hd : AllB d) (hN : 10000 ≤ N) : attr_ToStatus N ((stA ab code d).1, (stA ab code d).2) = some (if ab ≤ 4 then ((ab, (code, d.take 64)), 0) else ((0, (0, [])), 3)) := by
  unfold attr_ToStatus
  rw [checked_ok (stA ab code d) 2 (stA_B ab code d ha hd).1, stA_e]
  simp only [Option.bind_some]
  by_cases h : ab ≤ 4
  · have s1 : subI (stA ab code d).2 4 8 = some [code / 16777216 % 256, code / 65536 % 256, code / 256 % 256, code % 256] := subI_nat _ (i := 4) (j := 8) rfl rfl (by omega) (by simp [stA])
    have g3 : getI (stA ab code d).2 3 = some ab := rfl
    have d8 : dropI (stA ab code d).2 8 = some (d.take 64) := dropI_nat _ (i := 8) rfl (by simp [stA])
    have hcl : slices_Clone_byte_byte N (d.take 64) = some (d.take 64) := oclone _ (by rw [List.length_take]; omega)
    have e1 : (((code / 16777216 % 256 * 256 + code / 65536 % 256) * 256 + code / 256 % 256) * 256 + code % 256) = code := by omega
    have w1 : Go.IntKind.wrap .u32 code = code := by rw [IntKind.wrap_u32]; omega
    simp only [h, if_true, decide_true, Bool.not_true, cond_false, s1, Option.bind_some, oget4 _ _ _ _ (by omega : 0 ≤ code / 16777216 % 256 ∧ code / 16777216 % 256 < 256) (by omega : 0 ≤ code / 65536 % 256 ∧ code / 65536 % 256 < 256) (by omega : 0 ≤ code / 256 % 256 ∧ code / 256 % 256 < 256) (by omega : 0 ≤ code % 256 ∧ code % 256 < 256) hN, g3, d8, hcl, e1, w1]
  · simp [h]
theorem toBi_ok (m : Int) (x y z : Arr Int 32) (hm : 0 ≤ m ∧ m < 256) (hx : AllB x.l) (hy : AllB y.l) (hz : AllB z.l) : ∃ v, attr_ToBinding N ((biA m x y z).1, (biA m x y z).2) = some (v, if m = 1 ∨ m = 2 then 0 else 3) ∧ (m = 1 ∨ m = 2 → v = (m, (x, (y, z)))) := by
  have lx := x.h
  have ly := y.h
  have lz := z.h
  unfold attr_ToBinding
  rw [checked_ok (biA m x y z) 3 (biA_B m x y z hm hx hy hz), biA_e]
  simp only [Option.bind_some]
  by_cases h : m = 1 ∨ m = 2
  · have hl : (biA m x y z).2.length = 100 := by simp only [biA, List.length_cons, List.length_append]; omega
    have g3 : getI (biA m x y z).2 3 = some m := rfl
    have t1 : (x.l ++ (y.l ++ z.l)).take 32 = x.l := List.take_left' lx
    have t2 : ((x.l ++ (y.l ++ z.l)).drop 32).take 32 = y.l := by rw [List.drop_left' lx]; exact List.take_left' ly
    have t3 : (x.l ++ (y.l ++ z.l)).drop 64 = z.l := by
      have : (x.l ++ (y.l ++ z.l)).drop 64 = ((x.l ++ (y.l ++ z.l)).drop 32).drop 32 := by rw [List.drop_drop]
      rw [this, List.drop_left' lx]; exact List.drop_left' ly
    have s1 : subI (biA m x y z).2 4 36 = some x.l := (subI_nat (biA m x y z).2 (a := (4 : Int)) (b := 36) (i := 4) (j := 36) rfl rfl (by omega) (by omega)).trans (congrArg some t1)
    have s2 : subI (biA m x y z).2 36 68 = some y.l := (subI_nat (biA m x y z).2 (a := (36 : Int)) (b := 68) (i := 36) (j := 68) rfl rfl (by omega) (by omega)).trans (congrArg some t2)
    have s3 : dropI (biA m x y z).2 68 = some z.l := (dropI_nat (biA m x y z).2 (a := (68 : Int)) (i := 68) rfl (by omega)).trans (congrArg some t3)
    refine ⟨(m, (x, (y, z))), ?_, fun _ => rfl⟩
    rw [if_pos h]
    simp only [decide_true, Bool.not_true, cond_false, g3, s1, s2, s3, toArr32 _ lx, toArr32 _ ly, toArr32 _ lz, Option.bind_some]
  · refine ⟨_, by rw [if_neg h]; rfl, fun h' => absurd h' h⟩
theorem toAs_ok (m : Int) (x : Arr Int 32) (hm : 0 ≤ m ∧ m < 256) (hx : AllB x.l) : ∃ v, attr_ToAsk N ((asA m x).1, (asA m x).2) = some (v, if 1 ≤ m ∧ m ≤ 3 then 0 else 3) ∧ (1 ≤ m ∧ m ≤ 3 → v = (m, x)) := by
  have lx := x.h
  unfold attr_ToAsk
  rw [checked_ok (asA m x) 4 (asA_B m x hm hx), asA_e]
  simp only [Option.bind_some]
  by_cases h : 1 ≤ m ∧ m ≤ 3
  · have g3 : getI (asA m x).2 3 = some m := rfl
    have s3 : dropI (asA m x).2 4 = some x.l := dropI_nat _ (i := 4) rfl (by simp [asA])
    refine ⟨(m, x), ?_, fun _ => rfl⟩
    rw [if_pos h]
    simp only [decide_true, Bool.not_true, cond_false, g3, s3, toArr32 _ lx, Option.bind_some]
  · refine ⟨_, by rw [if_neg h]; rfl, fun h' => absurd h' h⟩
theorem proto_ok (n : Int) (h : 0 ≤ n ∧ n < 65536) (hN : 10000 ≤ N) : attr_Proto N n = some (1, [n / 256 % 256, n % 256]) := by
  unfold attr_Proto
  rw [wrapU64 (by omega) (by omega), oput2 _ (by omega) hN]
  rfl
theorem toPr_ok (n : Int) (h : 0 ≤ n ∧ n < 65536) (hN : 10000 ≤ N) : attr_ToProto N (1, [n / 256 % 256, n % 256]) = some (n, 0) := by
  have hB : AllB [n / 256 % 256, n % 256] := AllB.cons (by omega) (AllB.cons (by omega) AllB.nil)
  have he : toE ((1, [n / 256 % 256, n % 256]) : At2) 1 = 0 := by
    unfold toE chk
    simp [kindB, leastA, mostA]
  have w1 : Go.IntKind.wrap .u16 (n / 256 % 256 * 256 + n % 256) = n := by rw [IntKind.wrap_u16]; omega
  unfold attr_ToProto
  rw [checked_ok ((1, [n / 256 % 256, n % 256]) : At2) 1 hB, he]
  simp only [Option.bind_some, decide_true, Bool.not_true, cond_false]
  rw [oget2 _ _ (by omega) (by omega) hN, Option.bind_some, w1]
end
theorem wfB_p1 {m : Int} {x : Arr Int 32} (hm : 0 ≤ m ∧ m < 256) (hx : AllB x.l) : wfB (.pair (.int .u8) (.arr 32 (.int .u8))) (m, x) = true := by
  have h2 : wfB (.arr 32 (.int .u8)) x = true := List.all_eq_true.2 fun y hy => wfu8 (hx y hy)
  show (wfB (.int .u8) m && wfB (.arr 32 (.int .u8)) x) = true
  rw [h2, Bool.and_true]
  exact wfu8 hm
theorem wfB_p3 {m : Int} {x y z : Arr Int 32} (hm : 0 ≤ m ∧ m < 256) (hx : AllB x.l) (hy : AllB y.l) (hz : AllB z.l) : wfB (.pair (.int .u8) (.pair (.arr 32 (.int .u8)) (.pair (.arr 32 (.int .u8)) (.arr 32 (.int .u8))))) (m, (x, (y, z))) = true := by
  have h2 : wfB (.arr 32 (.int .u8)) x = true := List.all_eq_true.2 fun y hy => wfu8 (hx y hy)
  have h3 : wfB (.arr 32 (.int .u8)) y = true := List.all_eq_true.2 fun z hz => wfu8 (hy z hz)
  have h4 : wfB (.arr 32 (.int .u8)) z = true := List.all_eq_true.2 fun y hy => wfu8 (hz y hy)
  show (wfB (.int .u8) m && (wfB (.arr 32 (.int .u8)) x && (wfB (.arr 32 (.int .u8)) y && wfB (.arr 32 (.int .u8)) z))) = true
  rw [h2, h3, h4, Bool.and_true, Bool.and_true, Bool.and_true]
  exact wfu8 hm
theorem law_AttrMakes (s : Int × (Int × List Int)) (x : Int × (Arr Int 32 × (Arr Int 32 × Arr Int 32))) (y : Int × Arr Int 32) (h1 : wfT (.pair (.int .u8) (.pair (.int .u32) (.sl (.int .u8)))) s) (h2 : wfT (.pair (.int .u8) (.pair (.arr 32 (.int .u8)) (.pair (.arr 32 (.int .u8)) (.arr 32 (.int .u8))))) x) (h3 : wfT (.pair (.int .u8) (.arr 32 (.int .u8))) y) : law17_AttrMakes 200000 s x y = some true := by
  obtain ⟨ab, code, d⟩ := s
  obtain ⟨m, xa, xb, xc⟩ := x
  obtain ⟨q, ya⟩ := y
  have ha : 0 ≤ ab ∧ ab < 256 := wf_u8 h1.1
  have hc : 0 ≤ code ∧ code < 4294967296 := by
    have := h1.2.1
    have h : (Lit.int .u32 code).wf = true := this
    simp only [Lit.wf, Bool.and_eq_true, decide_eq_true_eq, IntKind.min, IntKind.max, IntKind.signed, IntKind.bits] at h
    simp at h
    omega
  have hd : AllB d := wf_bytes h1.2.2
  have hm : 0 ≤ m ∧ m < 256 := wf_u8 h2.1
  have hxa : AllB xa.l := fun z hz => wf_u8 (h2.2.1 z hz)
  have hxb : AllB xb.l := fun z hz => wf_u8 (h2.2.2.1 z hz)
  have hxc : AllB xc.l := fun z hz => wf_u8 (h2.2.2.2 z hz)
  have hq : 0 ≤ q ∧ q < 256 := wf_u8 h3.1
  have hya : AllB ya.l := fun z hz => wf_u8 (h3.2 z hz)
  have lya := ya.h
  have lxa := xa.h
  have lxb := xb.h
  have lxc := xc.h
  unfold law17_AttrMakes
  by_cases hl : (300 : Int) < (d.length : Int)
  · rw [decide_eq_true hl]
    simp only [cond_true, alive17, Option.bind_some]
  · obtain ⟨sB, sL⟩ := stA_B ab code d ha hd
    have sS : attr_Same 200000 ((stA ab code d).1, (stA ab code d).2) ((stA ab code d).1, (stA ab code d).2) = some true := by
      have := asame_ok (N := 200000) (stA ab code d) (stA ab code d) ⟨(show 0 ≤ (2 : Int) ∧ (2 : Int) < 256 by decide), sB⟩ ⟨(show 0 ≤ (2 : Int) ∧ (2 : Int) < 256 by decide), sB⟩ (by omega) (by omega)
      rw [decide_eq_true rfl] at this
      exact this
    have bL : (biA m xa xb xc).2.length ≤ 1000 := by simp only [biA, List.length_cons, List.length_append]; omega
    have bS : attr_Same 200000 ((biA m xa xb xc).1, (biA m xa xb xc).2) ((biA m xa xb xc).1, (biA m xa xb xc).2) = some true := by
      have hB := biA_B m xa xb xc hm hxa hxb hxc
      have := asame_ok (N := 200000) (biA m xa xb xc) (biA m xa xb xc) ⟨(show 0 ≤ (3 : Int) ∧ (3 : Int) < 256 by decide), hB⟩ ⟨(show 0 ≤ (3 : Int) ∧ (3 : Int) < 256 by decide), hB⟩ (by omega) (by omega)
      rw [decide_eq_true rfl] at this
      exact this
    have aL : (asA q ya).2.length ≤ 1000 := by simp only [asA, List.length_cons]; omega
    have aS : attr_Same 200000 ((asA q ya).1, (asA q ya).2) ((asA q ya).1, (asA q ya).2) = some true := by
      have hB := asA_B q ya hq hya
      have := asame_ok (N := 200000) (asA q ya) (asA q ya) ⟨(show 0 ≤ (4 : Int) ∧ (4 : Int) < 256 by decide), hB⟩ ⟨(show 0 ≤ (4 : Int) ∧ (4 : Int) < 256 by decide), hB⟩ (by omega) (by omega)
      rw [decide_eq_true rfl] at this
      exact this
    have t1 := toSt_ok (N := 200000) ab code d ha hc hd (by omega)
    obtain ⟨v2, t2, e2⟩ := toBi_ok (N := 200000) m xa xb xc hm hxa hxb hxc
    obtain ⟨v3, t3, e3⟩ := toAs_ok (N := 200000) q ya hq hya
    have hw : 0 ≤ Go.IntKind.wrap .u16 code ∧ Go.IntKind.wrap .u16 code < 65536 := by rw [IntKind.wrap_u16]; omega
    have p1 := proto_ok (N := 200000) (Go.IntKind.wrap .u16 code) hw (by omega)
    have p2 := toPr_ok (N := 200000) (Go.IntKind.wrap .u16 code) hw (by omega)
    have hsame : ref01_Same 200000 (d.take 64) (d.take 64) = some true := by
      have h64 : (d.take 64).length ≤ 64 := by rw [List.length_take]; omega
      have := rsame (N := 200000) (d.take 64) (d.take 64) (by omega) (by omega)
      rw [decide_eq_true rfl] at this
      exact this
    rw [decide_eq_false hl]
    simp only [cond_false]
    rw [ofSt_ok (N := 200000) ab code d hc (by omega), Option.bind_some, ofBi_ok (N := 200000) m xa xb xc (by omega), Option.bind_some, ofAs_ok (N := 200000) q ya (by omega), Option.bind_some, rSt_ok (N := 200000) ab code d hc (by omega), Option.bind_some, sS, Option.bind_some]
    simp only [Bool.not_true, cond_false]
    rw [rBi_ok, Option.bind_some, bS, Option.bind_some]
    simp only [Bool.not_true, cond_false]
    rw [rAs_ok, Option.bind_some, aS, Option.bind_some]
    simp only [Bool.not_true, cond_false]
    rw [t1, Option.bind_some, t2, Option.bind_some, t3, Option.bind_some]
    simp only [p1, p2, Option.bind_some]
    have k3 := wfB_p1 hq hya
    have k2 := wfB_p3 hm hxa hxb hxc
    by_cases c1 : ab ≤ 4
    · by_cases c2 : m = 1 ∨ m = 2
      · have e2' := e2 c2
        subst e2'
        by_cases c3 : 1 ≤ q ∧ q ≤ 3
        · have e3' := e3 c3
          subst e3'
          rcases c2 with rfl | rfl <;> simp [c1, c3.1, c3.2, take64_ok, hsame, alive17, k2, k3]
        · by_cases c4 : 1 ≤ q
          · have c5 : ¬ q ≤ 3 := fun h => c3 ⟨c4, h⟩
            rcases c2 with rfl | rfl <;> simp [c1, c3, c4, c5, take64_ok, hsame, alive17, k2]
          · rcases c2 with rfl | rfl <;> simp [c1, c3, c4, take64_ok, hsame, alive17, k2]
      · have c21 : ¬ m = 1 := fun h => c2 (.inl h)
        have c22 : ¬ m = 2 := fun h => c2 (.inr h)
        by_cases c3 : 1 ≤ q ∧ q ≤ 3
        · have e3' := e3 c3
          subst e3'
          simp [c1, c21, c22, c3.1, c3.2, take64_ok, hsame, alive17, k3]
        · by_cases c4 : 1 ≤ q
          · have c5 : ¬ q ≤ 3 := fun h => c3 ⟨c4, h⟩
            simp [c1, c21, c22, c3, c4, c5, take64_ok, hsame, alive17]
          · simp [c1, c21, c22, c3, c4, take64_ok, hsame, alive17]
    · by_cases c2 : m = 1 ∨ m = 2
      · have e2' := e2 c2
        subst e2'
        by_cases c3 : 1 ≤ q ∧ q ≤ 3
        · have e3' := e3 c3
          subst e3'
          rcases c2 with rfl | rfl <;> simp [c1, c3.1, c3.2, take64_ok, hsame, alive17, k2, k3]
        · by_cases c4 : 1 ≤ q
          · have c5 : ¬ q ≤ 3 := fun h => c3 ⟨c4, h⟩
            rcases c2 with rfl | rfl <;> simp [c1, c3, c4, c5, take64_ok, hsame, alive17, k2]
          · rcases c2 with rfl | rfl <;> simp [c1, c3, c4, take64_ok, hsame, alive17, k2]
      · have c21 : ¬ m = 1 := fun h => c2 (.inl h)
        have c22 : ¬ m = 2 := fun h => c2 (.inr h)
        by_cases c3 : 1 ≤ q ∧ q ≤ 3
        · have e3' := e3 c3
          subst e3'
          simp [c1, c21, c22, c3.1, c3.2, take64_ok, hsame, alive17, k3]
        · by_cases c4 : 1 ≤ q
          · have c5 : ¬ q ≤ 3 := fun h => c3 ⟨c4, h⟩
            simp [c1, c21, c22, c3, c4, c5, take64_ok, hsame, alive17]
          · simp [c1, c21, c22, c3, c4, take64_ok, hsame, alive17]
end Go.Proofs.Ytcmekgfglohooaa
