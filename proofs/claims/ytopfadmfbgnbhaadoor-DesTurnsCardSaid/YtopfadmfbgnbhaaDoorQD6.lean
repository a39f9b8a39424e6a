/-
  A block that goes through all rounds: the program's, the document's, and what comes back.
-/
import Derived.Test.YtopfadmfbgnbhaaDoorQD5
namespace Go.Proofs.YtopfadmfbgnbhaaDoor
set_option maxRecDepth 100000
open Go.RowKit
set_option linter.unusedVariables false
set_option linter.unusedSimpArgs false
set_option maxRecDepth 100000

noncomputable def stepM (s : List Bool × List Bool) (k : List Bool) : List Bool × List Bool := (s.2, xorL s.1 (wordM s.2 k))
def Two (s : List Bool × List Bool) : Prop := s.1.length = 32 ∧ s.2.length = 32
theorem stepM_two {s : List Bool × List Bool} (k : List Bool) (h : Two s) : Two (stepM s k) := ⟨h.2, by rw [stepM, xorL_len _ _ (by rw [wordM_len]; exact h.1)]; exact h.1⟩
theorem fold_two : ∀ (ks : List (List Bool)) {s : List Bool × List Bool}, Two s → Two (ks.foldl stepM s)
  | [], _, h => h
  | k :: ks, _, h => fold_two ks (stepM_two k h)
noncomputable def turnM (ks : List (List Bool)) (b : List Bool) : List Bool := let s := ks.foldl stepM ((byM tFirst b).take 32, (byM tFirst b).drop 32); byM tLast (s.2 ++ s.1)
theorem turnM_len (ks : List (List Bool)) (b : List Bool) : (turnM ks b).length = 64 := by unfold turnM; rw [byM_len]; rfl
theorem first_two (b : List Bool) : Two ((byM tFirst b).take 32, (byM tFirst b).drop 32) := by
  have : (byM tFirst b).length = 64 := by rw [byM_len]; rfl
  constructor <;> simp [this]
theorem w32 {x : Int} (h1 : 0 ≤ x) (h2 : x < 4294967296) : Go.IntKind.wrap .u32 x = x := by rw [Go.IntKind.wrap_u32]; omega
theorem through_form (a : Arr Int 16) (b : Int) : des_through 200000 a b = Option.bind (des_wide 200000) fun v3 => Option.bind (des_first 200000) fun v4 => Option.bind (des_permuted 200000 b 64 v4) fun v5 => Option.bind (des_through_L5_R 200000 ((v3, (tMixing, ((Go.IntKind.wrap .u32 (Int.fdiv v5 ((2 : Int) ^ 32))), ((Go.IntKind.wrap .u32 v5), (a, ((0 : Int), ())))))), ())) fun v6 => Option.bind (des_last 200000) fun v7 => Option.bind (des_permuted 200000 (bits .or .u64 (Go.IntKind.wrap .u64 ((Go.IntKind.wrap .u64 v6.1.2.1) * (4294967296 : Int))) (Go.IntKind.wrap .u64 v6.1.1)) 64 v7) fun v8 => some v8 := by kernel_rfl
theorem through_p (a : Arr Int 16) (ks : List (List Bool)) (b : List Bool) (ha : a.l = ks.map fun k => ((toW k : Nat) : Int)) (hks : ∀ k ∈ ks, k.length = 48) (hb : b.length = 64) : des_through 200000 a (toW b : Int) = some ((toW (turnM ks b) : Nat) : Int) := by
  have hl : ks.length = 16 := by have := a.h; rw [ha] at this; simpa using this
  have h1 := permuted_ok (N := 200000) b tFirst (by omega) (by omega) (by rw [hb]; exact ok_first) (by decide) (by decide)
  rw [hb] at h1
  have hpl : (byM tFirst b).length = 64 := by rw [byM_len]; rfl
  have hS := first_two b
  have hpb := toW_lt (byM tFirst b)
  rw [hpl] at hpb
  have h2 := toW_div (byM tFirst b) 32 (by omega)
  rw [hpl, show 64 - 32 = 32 from rfl] at h2
  have h3 := toW_mod (byM tFirst b) 32 (by omega)
  rw [hpl, show 64 - 32 = 32 from rfl] at h3
  have h4 := fdivN (toW (byM tFirst b)) 32
  have hlt := toW_lt ((byM tFirst b).take 32)
  rw [hS.1] at hlt
  have k1 : Go.IntKind.wrap .u32 (Int.fdiv (toW (byM tFirst b) : Int) ((2 : Int) ^ 32)) = ((toW ((byM tFirst b).take 32) : Nat) : Int) := by rw [h4, h2, w32 (by omega) (by omega)]
  have k2 : Go.IntKind.wrap .u32 (toW (byM tFirst b) : Int) = ((toW ((byM tFirst b).drop 32) : Nat) : Int) := by rw [Go.IntKind.wrap_u32, ← h3]; omega
  generalize hs : ((byM tFirst b).take 32, (byM tFirst b).drop 32) = s at *
  have hs1 : (byM tFirst b).take 32 = s.1 := by rw [← hs]
  have hs2 : (byM tFirst b).drop 32 = s.2 := by rw [← hs]
  have e1 : des_through_L5_R 200000 ((tWide, (tMixing, ((toW s.1 : Int), ((toW s.2 : Int), (a, ((0 : Int), ())))))), ()) = some (((toW (ks.foldl stepM s).1 : Int), ((toW (ks.foldl stepM s).2 : Int), ())), ()) := by
    unfold des_through_L5_R
    have := gl_run (G := fun X c => des_through_L5 200000 X c.1.1 c.1.2.1 c.1.2.2.1 c.1.2.2.2.1 c.1.2.2.2.2.1 c.1.2.2.2.2.2.1) (fun i => ((tWide, (tMixing, ((toW ((ks.take i).foldl stepM s).1 : Int), ((toW ((ks.take i).foldl stepM s).2 : Int), (a, ((i : Int), ())))))), ())) 16 (((toW (ks.foldl stepM s).1 : Int), ((toW (ks.foldl stepM s).2 : Int), ())), ()) (fun Y i hi => ?_) (fun Y => ?_) 200000 0 (Nat.zero_le _) (by decide)
    · exact this
    · have d1 : decide ((i : Int) < (16 : Int)) = true := decide_eq_true (by omega)
      have hil : i < ks.length := by omega
      have hg : getI a.l (i : Int) = some ((toW ks[i] : Nat) : Int) := by rw [ha, getI_lt _ i (by simpa using hil)]; simp
      have hF := fold_two (ks.take i) hS
      have hk := hks ks[i] (List.getElem_mem hil)
      have hkb := toW_lt ks[i]
      rw [hk] at hkb
      have hw := word_p ((ks.take i).foldl stepM s).2 ks[i] (toW ks[i]) hF.2 hk (by omega) (Nat.mod_eq_of_lt hkb)
      have hx := xor_words32 ((ks.take i).foldl stepM s).1 (wordM ((ks.take i).foldl stepM s).2 ks[i]) (by rw [wordM_len]; exact hF.1) (by rw [hF.1]; decide)
      have hst : (ks.take (i + 1)).foldl stepM s = stepM ((ks.take i).foldl stepM s) ks[i] := by rw [← List.take_append_getElem hil, List.foldl_append]; rfl
      have hw2 : Go.IntKind.wrap .i64 ((i : Int) + 1) = ((i + 1 : Nat) : Int) := by rw [wrap64 (by omega) (by omega)]; omega
      simp only [des_through_L5, d1, cond_true, hg, Option.bind_some, hw, hx, hw2, hst, stepM]
    · have ht : ks.take 16 = ks := by rw [← hl]; exact List.take_length
      simp only [ht]
      rfl
  have hF := fold_two ks hS
  generalize hf : ks.foldl stepM s = t at *
  have b1 := toW_lt t.1
  have b2 := toW_lt t.2
  rw [hF.1] at b1
  rw [hF.2] at b2
  have hor := or_words t.2 t.1 (by rw [hF.1, hF.2]; decide)
  rw [hF.1] at hor
  have hor : bits .or .u64 (Go.IntKind.wrap .u64 (((toW t.2 : Nat) : Int) * (4294967296 : Int))) ((toW t.1 : Nat) : Int) = ((toW (t.2 ++ t.1) : Nat) : Int) := hor
  have hcl : (t.2 ++ t.1).length = 64 := by rw [List.length_append, hF.1, hF.2]
  have h5 := permuted_ok (N := 200000) (t.2 ++ t.1) tLast (by omega) (by omega) (by rw [hcl]; exact ok_last) (by decide) (by decide)
  rw [hcl] at h5
  rw [through_form, wide_t, first_t, last_t]
  simp only [Option.bind_some]
  rw [show des_permuted 200000 (toW b : Int) (64 : Int) tFirst = _ from h1]
  simp only [Option.bind_some]
  rw [k1, k2, hs1, hs2, e1]
  simp only [Option.bind_some]
  rw [wrapU64 (x := ((toW t.2 : Nat) : Int)) (by omega) (by omega), wrapU64 (x := ((toW t.1 : Nat) : Int)) (by omega) (by omega), hor]
  rw [show des_permuted 200000 ((toW (t.2 ++ t.1) : Nat) : Int) (64 : Int) tLast = _ from h5]
  simp only [Option.bind_some]
  unfold turnM
  rw [hs, hf]
theorem turn_form (b : Int) (l : List (List Int)) : ref08_turn 200000 b l = Option.bind (ref03_Row 200000 b 64) fun v3 => Option.bind (ref08_by 200000 v3 tFirst) fun v4 => Option.bind (takeI v4 (32 : Int)) fun v5 => Option.bind (dropI v4 (32 : Int)) fun v6 => Option.bind (ref08_turn_L4_R 200000 ((l, (v5, (v6, ((0 : Int), ())))), ())) fun v7 => bif roomB (List.length v7.1.2.1) 1 then (bif roomB ((List.length v7.1.2.1) + (List.length v7.1.1)) 1 then (Option.bind (ref08_by 200000 (v7.1.2.1 ++ v7.1.1) tLast) fun v8 => Option.bind (ref03_Word 200000 v8) fun v9 => some v9) else none) else none := by kernel_rfl
theorem turn_d (ks : List (List Bool)) (b : List Bool) (hl : ks.length ≤ 16) (hks : ∀ k ∈ ks, k.length = 48) (hb : b.length = 64) : ref08_turn 200000 (toW b : Int) (ks.map rI) = some ((toW (turnM ks b) : Nat) : Int) := by
  have hbb := toW_lt b
  rw [hb] at hbb
  have h0 : ref03_Row 200000 (toW b : Int) (64 : Int) = some (rI b) := by
    have := row_ok (N := 200000) (toW b) 64 (by omega) (by decide) (by decide)
    rw [← hb, bitsOf_toW, hb] at this
    exact this
  have h1 := by_ok (N := 200000) b tFirst (by rw [hb]; exact ok_first) (by omega) (by decide) (by decide)
  have hpl : (byM tFirst b).length = 64 := by rw [byM_len]; rfl
  have hS := first_two b
  have h2 : takeI (rI (byM tFirst b)) (32 : Int) = some (rI ((byM tFirst b).take 32)) := (takeI_nat (a := (32 : Int)) (rI (byM tFirst b)) (i := 32) rfl (by rw [rI_len]; omega)).trans (by rw [rI_take])
  have h3 : dropI (rI (byM tFirst b)) (32 : Int) = some (rI ((byM tFirst b).drop 32)) := (dropI_nat (a := (32 : Int)) (rI (byM tFirst b)) (i := 32) rfl (by rw [rI_len]; omega)).trans (by rw [rI_drop])
  generalize hs : ((byM tFirst b).take 32, (byM tFirst b).drop 32) = s at *
  have hs1 : (byM tFirst b).take 32 = s.1 := by rw [← hs]
  have hs2 : (byM tFirst b).drop 32 = s.2 := by rw [← hs]
  have e1 : ref08_turn_L4_R 200000 ((ks.map rI, (rI s.1, (rI s.2, ((0 : Int), ())))), ()) = some ((rI (ks.foldl stepM s).1, (rI (ks.foldl stepM s).2, ())), ()) := by
    unfold ref08_turn_L4_R
    have := gl_run (G := fun X c => ref08_turn_L4 200000 X c.1.1 c.1.2.1 c.1.2.2.1 c.1.2.2.2.1) (fun i => ((ks.map rI, (rI ((ks.take i).foldl stepM s).1, (rI ((ks.take i).foldl stepM s).2, ((i : Int), ())))), ())) ks.length ((rI (ks.foldl stepM s).1, (rI (ks.foldl stepM s).2, ())), ()) (fun Y i hi => ?_) (fun Y => ?_) 200000 0 (Nat.zero_le _) (by omega)
    · exact this
    · have d1 : decide ((i : Int) < ((ks.map rI).length : Int)) = true := decide_eq_true (by simp; omega)
      have hg : getI (ks.map rI) (i : Int) = some (rI ks[i]) := by rw [getI_lt _ i (by simpa using hi)]; simp
      have hF := fold_two (ks.take i) hS
      have hk := hks ks[i] (List.getElem_mem hi)
      have hw := word_d ((ks.take i).foldl stepM s).2 ks[i] hF.2 hk
      have hx := rowsx_ok (N := 200000) ((ks.take i).foldl stepM s).1 (wordM ((ks.take i).foldl stepM s).2 ks[i]) (by rw [wordM_len]; exact hF.1) (by rw [hF.1]; decide) (by decide)
      have hst : (ks.take (i + 1)).foldl stepM s = stepM ((ks.take i).foldl stepM s) ks[i] := by rw [← List.take_append_getElem hi, List.foldl_append]; rfl
      have hw2 : Go.IntKind.wrap .i64 ((i : Int) + 1) = ((i + 1 : Nat) : Int) := by rw [wrap64 (by omega) (by omega)]; omega
      simp only [ref08_turn_L4, d1, cond_true, hg, Option.bind_some, hw, hx, hw2, hst, stepM]
    · have d1 : decide ((ks.length : Int) < ((ks.map rI).length : Int)) = false := decide_eq_false (by simp)
      simp only [ref08_turn_L4, d1, cond_false, List.take_length]
  have hF := fold_two ks hS
  generalize hf : ks.foldl stepM s = t at *
  have hcl : (t.2 ++ t.1).length = 64 := by rw [List.length_append, hF.1, hF.2]
  have h5 := by_ok (N := 200000) (t.2 ++ t.1) tLast (by rw [hcl]; exact ok_last) (by omega) (by decide) (by decide)
  have h6 := word_ok (N := 200000) (byM tLast (t.2 ++ t.1)) (by rw [byM_len]; decide) (by decide)
  have r1 : roomB (rI t.2).length 1 = true := roomB_of (by rw [rI_len, hF.2]; have := big_len; omega) (by rw [rI_len, hF.2]; decide)
  have r2 : roomB ((rI t.2).length + (rI t.1).length) 1 = true := roomB_of (by rw [rI_len, rI_len, hF.2, hF.1]; have := big_len; omega) (by rw [rI_len, rI_len, hF.2, hF.1]; decide)
  rw [turn_form, h0]
  simp only [Option.bind_some, h1, h2, h3, hs1, hs2, e1, r1, r2, cond_true, ← rI_append, h5, h6]
  unfold turnM
  rw [hs, hf]
/-! ### Turned, and turned back -/
theorem turn_p (key b : List Bool) (hk : key.length = 64) (hb : b.length = 64) : des_Turn 200000 (toW key : Int) (toW b : Int) = some ((toW (turnM (keysM key) b) : Nat) : Int) := by
  obtain ⟨a, h1, h2⟩ := keys_p key hk
  unfold des_Turn
  rw [h1]
  simp only [Option.bind_some]
  rw [through_p a (keysM key) b h2 (fun k h => keysM_row h) hb]
  rfl
theorem Turn_d (key b : List Bool) (hk : key.length = 64) (hb : b.length = 64) : ref08_Turn 200000 (toW key : Int) (toW b : Int) = some ((toW (turnM (keysM key) b) : Nat) : Int) := by
  unfold ref08_Turn
  rw [keys_d key hk]
  simp only [Option.bind_some]
  rw [turn_d (keysM key) b (by rw [keysM_len]; decide) (fun k h => keysM_row h) hb]
  rfl
theorem len16 {α : Type} : ∀ (l : List α), l.length = 16 → ∃ a b c d e f g h i j k m n o p q, l = [a, b, c, d, e, f, g, h, i, j, k, m, n, o, p, q]
  | [a, b, c, d, e, f, g, h, i, j, k, m, n, o, p, q], _ => ⟨a, b, c, d, e, f, g, h, i, j, k, m, n, o, p, q, rfl⟩
/-- The keys the other way round. -/
def stB (z a : Arr Int 16) : Nat → Arr Int 16
  | 0 => z
  | i + 1 => (stB z a i).set (15 - i) (a.l.getD i 0)
theorem stB_all (z a : Arr Int 16) : (stB z a 16).l = a.l.reverse := by
  obtain ⟨zl, zh⟩ := z
  obtain ⟨al, ah⟩ := a
  obtain ⟨z1, z2, z3, z4, z5, z6, z7, z8, z9, z10, z11, z12, z13, z14, z15, z16, rfl⟩ := len16 zl zh
  obtain ⟨a1, a2, a3, a4, a5, a6, a7, a8, a9, a10, a11, a12, a13, a14, a15, a16, rfl⟩ := len16 al ah
  rfl
theorem back_loop (z a : Arr Int 16) (x : Int) : des_Back_L4_R 200000 ((x, (a, ((0 : Int), ()))), (z, ())) = some ((x, ()), (stB z a 16, ())) := by
  unfold des_Back_L4_R
  have := gl_run (G := fun X c => des_Back_L4 200000 X c.1.1 c.1.2.1 c.1.2.2.1 c.2.1) (fun i => ((x, (a, ((i : Int), ()))), (stB z a i, ()))) 16 ((x, ()), (stB z a 16, ())) (fun Y i hi => ?_) (fun Y => rfl) 200000 0 (Nat.zero_le _) (by decide)
  · exact this
  · have d1 : decide ((i : Int) < (16 : Int)) = true := decide_eq_true (by omega)
    have hil : i < a.l.length := by rw [a.h]; exact hi
    have hg : getI a.l (i : Int) = some (a.l.getD i 0) := by rw [getI_lt _ i hil]; simp [List.getElem?_eq_getElem hil]
    have hw : Go.IntKind.wrap .i64 ((15 : Int) - (i : Int)) = ((15 - i : Nat) : Int) := by rw [wrap64 (by omega) (by omega)]; omega
    have d2 : decide ((0 : Int) ≤ ((15 - i : Nat) : Int) ∧ ((15 - i : Nat) : Int) < (((16 : Nat) : Nat) : Int)) = true := decide_eq_true (by omega)
    obtain ⟨v, hv⟩ := arr_get (stB z a i) (15 - i) (by omega)
    have hw2 : Go.IntKind.wrap .i64 ((i : Int) + 1) = ((i + 1 : Nat) : Int) := by rw [wrap64 (by omega) (by omega)]; omega
    simp only [des_Back_L4, d1, cond_true, hg, Option.bind_some, hw, d2, Int.toNat_natCast, hv, hw2]
    rfl
theorem back_p (key b : List Bool) (hk : key.length = 64) (hb : b.length = 64) : des_Back 200000 (toW key : Int) (toW b : Int) = some ((toW (turnM (keysM key).reverse b) : Nat) : Int) := by
  obtain ⟨a, h1, h2⟩ := keys_p key hk
  unfold des_Back
  rw [h1]
  simp only [Option.bind_some]
  rw [back_loop]
  simp only [Option.bind_some]
  rw [through_p _ (keysM key).reverse b (by rw [stB_all, h2, List.map_reverse]) (fun k h => keysM_row (List.mem_reverse.1 h)) hb]
  rfl
theorem Back_d (key b : List Bool) (hk : key.length = 64) (hb : b.length = 64) : ref08_Back 200000 (toW key : Int) (toW b : Int) = some ((toW (turnM (keysM key).reverse b) : Nat) : Int) := by
  have hl := keysM_len key
  have hrow : ∀ k ∈ keysM key, k.length = 48 := fun k h => keysM_row h
  unfold ref08_Back
  rw [keys_d key hk]
  generalize keysM key = ks at *
  have e1 : ref08_Back_L4_R 200000 (((toW b : Int), (ks.map rI, ((15 : Int), ()))), ([], ())) = some (((toW b : Int), ()), (ks.reverse.map rI, ())) := by
    unfold ref08_Back_L4_R
    have := gl_run (G := fun X c => ref08_Back_L4 200000 X c.1.1 c.1.2.1 c.1.2.2.1 c.2.1) (fun i => (((toW b : Int), (ks.map rI, ((15 : Int) - (i : Int), ()))), ((ks.reverse.take i).map rI, ()))) 16 (((toW b : Int), ()), (ks.reverse.map rI, ())) (fun Y i hi => ?_) (fun Y => ?_) 200000 0 (Nat.zero_le _) (by decide)
    · exact this
    · have d1 : decide ((0 : Int) ≤ (15 : Int) - (i : Int)) = true := decide_eq_true (by omega)
      have hil : 15 - i < ks.length := by omega
      have hir : i < ks.reverse.length := by simp; omega
      have hg : getI (ks.map rI) ((15 : Int) - (i : Int)) = some (rI ks[15 - i]) := by rw [show (15 : Int) - (i : Int) = ((15 - i : Nat) : Int) by omega, getI_lt _ (15 - i) (by simpa using hil)]; simp
      have hr : roomB (((ks.reverse.take i).map rI).length + [rI ks[15 - i]].length) 24 = true := by
        simp only [List.length_map, List.length_take, List.length_cons, List.length_nil]
        exact roomB_of (by have := big_len; omega) (by omega)
      have hap : (ks.reverse.take i).map rI ++ [rI ks[15 - i]] = (ks.reverse.take (i + 1)).map rI := by
        rw [← List.take_append_getElem hir, List.map_append, List.getElem_reverse]
        simp only [hl, List.map_cons, List.map_nil]
      have hw2 : Go.IntKind.wrap .i64 ((15 : Int) - (i : Int) - 1) = (15 : Int) - ((i + 1 : Nat) : Int) := by rw [wrap64 (by omega) (by omega)]; omega
      simp only [ref08_Back_L4, d1, cond_true, hg, Option.bind_some, hr, hap, hw2]
    · have ht : ks.reverse.take 16 = ks.reverse := by rw [show 16 = ks.reverse.length by simp [hl]]; exact List.take_length
      simp only [ht]
      rfl
  have hw : Go.IntKind.wrap .i64 (((ks.map rI).length : Int) - 1) = 15 := by rw [List.length_map, hl]; rfl
  simp only [Option.bind_some]
  rw [hw, e1]
  simp only [Option.bind_some]
  rw [turn_d ks.reverse b (by simp [hl]) (fun k h => hrow k (List.mem_reverse.1 h)) hb]
  rfl
theorem alive_ok : law08_alive 200000 = some true := by kernel_rfl
end Go.Proofs.YtopfadmfbgnbhaaDoor
