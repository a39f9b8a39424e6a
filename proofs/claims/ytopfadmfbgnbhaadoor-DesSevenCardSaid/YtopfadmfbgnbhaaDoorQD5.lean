/-
  Round keys, and a block that goes through all rounds: the program's and the document's.
-/
import Derived.Test.YtopfadmfbgnbhaaDoorQD4
namespace Go.Proofs.YtopfadmfbgnbhaaDoor
set_option maxRecDepth 100000
open Go.RowKit
set_option linter.unusedVariables false
set_option linter.unusedSimpArgs false
set_option maxRecDepth 100000

/-- Half a key behind so many rounds. -/
def hv : Nat → List Bool → List Bool
  | 0, c => c
  | i + 1, c => rot (amt (i + 1)) (hv i c)
theorem hv_len : ∀ i c, (hv i c).length = c.length
  | 0, c => rfl
  | i + 1, c => by rw [hv, rot_len, hv_len i c]
def keyAt (c d : List Bool) (i : Nat) : List Bool := byM tOfRounds (hv (i + 1) c ++ hv (i + 1) d)
theorem keyAt_len (c d : List Bool) (i : Nat) : (keyAt c d i).length = 48 := by rw [keyAt, byM_len]; rfl
def keysM (key : List Bool) : List (List Bool) := (List.range 16).map (keyAt ((byM tOfKeys key).take 28) ((byM tOfKeys key).drop 28))
theorem keysM_len (key : List Bool) : (keysM key).length = 16 := by simp [keysM]
theorem keysM_row {key k : List Bool} (h : k ∈ keysM key) : k.length = 48 := by
  obtain ⟨i, _, rfl⟩ := List.mem_map.1 h
  exact keyAt_len _ _ _
/-- An array into which so many have been put. -/
def stA (z : Arr Int 16) (f : Nat → Int) : Nat → Arr Int 16
  | 0 => z
  | i + 1 => (stA z f i).set i (f i)
theorem set_at (A B : List Int) (i : Nat) (v : Int) (hA : A.length = i) (hi : i < B.length) : (A ++ B.drop i).set i v = (A ++ [v]) ++ B.drop (i + 1) := by
  subst hA
  rw [List.set_append_right _ _ (Nat.le_refl _), List.drop_eq_getElem_cons hi, Nat.sub_self, List.set_cons_zero, List.append_assoc]
  rfl
theorem stA_l (z : Arr Int 16) (f : Nat → Int) : ∀ i, i ≤ 16 → (stA z f i).l = (List.range i).map f ++ z.l.drop i
  | 0, _ => rfl
  | i + 1, h => by
    show (stA z f i).l.set i (f i) = _
    rw [stA_l z f i (by omega), set_at _ _ i _ (by simp) (by rw [z.h]; omega), List.range_succ, List.map_append]
    rfl
theorem stA_all (z : Arr Int 16) (f : Nat → Int) : (stA z f 16).l = (List.range 16).map f := by
  have := stA_l z f 16 (Nat.le_refl _)
  rw [this, List.drop_eq_nil_of_le (by rw [z.h]; decide), List.append_nil]
theorem w56 : Go.IntKind.wrap .u64 (Go.IntKind.wrap .u64 ((1 : Int) * (2 : Int) ^ (min (Int.toNat (56 : Int)) (Go.IntKind.bits .u64))) - 1) = ((2 ^ 56 - 1 : Nat) : Int) := by decide +kernel
theorem w28 : Go.IntKind.wrap .u64 (Go.IntKind.wrap .u64 ((1 : Int) * (2 : Int) ^ (min (Int.toNat (Go.IntKind.wrap .i64 ((56 : Int) - 28))) (Go.IntKind.bits .u64))) - 1) = ((2 ^ 28 - 1 : Nat) : Int) := by decide +kernel
theorem m28 : min (Int.toNat (Go.IntKind.wrap .i64 ((56 : Int) - 28))) (Go.IntKind.bits .u64) = 28 := by decide +kernel
theorem arr_get (a : Arr Int 16) (i : Nat) (h : i < 16) : ∃ v, a.l[i]? = some v := ⟨_, List.getElem?_eq_getElem (by rw [a.h]; exact h)⟩
def M56 : Int := 72057594037927935
def M28 : Int := 268435455
theorem m56_eq : M56 = ((2 ^ 56 - 1 : Nat) : Int) := by decide +kernel
theorem m28_eq : M28 = ((2 ^ 28 - 1 : Nat) : Int) := by decide +kernel
theorem Keys_form (key : Int) : des_Keys 200000 key = Option.bind (des_ofKeys 200000) fun v2 => Option.bind (des_permuted 200000 key 64 v2) fun v3 => Option.bind (des_Keys_L5_R 200000 (((Int.fdiv (bits .and .u64 v3 M56) ((2 : Int) ^ 28)), ((bits .and .u64 (bits .and .u64 v3 M56) M28), (tOfRounds, ((0 : Int), ())))), (dflt (.arr 16 (.int .u64)), (dflt (.arr 16 (.int .u64)), ())))) fun v4 => some v4.2.2.1 := by kernel_rfl
theorem keys_p (key : List Bool) (hk : key.length = 64) : ∃ a, des_Keys 200000 (toW key : Int) = some a ∧ a.l = (keysM key).map fun k => ((toW k : Nat) : Int) := by
  have h1 := permuted_ok (N := 200000) key tOfKeys (by omega) (by omega) (by rw [hk]; exact ok_ofKeys) (by decide) (by decide)
  rw [hk] at h1
  have hpl : (byM tOfKeys key).length = 56 := by rw [byM_len]; rfl
  generalize hp : byM tOfKeys key = p at *
  have h2 := low_ok p 56 (by omega) (by omega)
  rw [hpl, show 56 - 56 = 0 from rfl, List.drop_zero] at h2
  have h3 := low_ok p 28 (by omega) (by omega)
  rw [hpl, show 56 - 28 = 28 from rfl] at h3
  have h4 := toW_div p 28 (by omega)
  rw [hpl, show 56 - 28 = 28 from rfl] at h4
  have h5 := fdivN (toW p) 28
  rw [h4] at h5
  have hc : (p.take 28).length = 28 := by simp [hpl]
  have hd : (p.drop 28).length = 28 := by simp [hpl]
  generalize hcE : p.take 28 = c at *
  generalize hdE : p.drop 28 = d at *
  let f : Nat → Int := fun i => ((toW (keyAt c d i) : Nat) : Int)
  have e1 : ∀ y z : Arr Int 16, des_Keys_L5_R 200000 (((toW c : Int), ((toW d : Int), (tOfRounds, ((0 : Int), ())))), (y, (z, ()))) = some ((), (y, (stA z f 16, ()))) := by
    intro y z
    unfold des_Keys_L5_R
    have := gl_run (G := fun X c => des_Keys_L5 200000 X c.1.1 c.1.2.1 c.1.2.2.1 c.1.2.2.2.1 c.2.1 c.2.2.1) (fun i => (((toW (hv i c) : Int), ((toW (hv i d) : Int), (tOfRounds, ((i : Int), ())))), (y, (stA z f i, ())))) 16 ((), (y, (stA z f 16, ()))) (fun Y i hi => ?_) (fun Y => rfl) 200000 0 (Nat.zero_le _) (by decide)
    · exact this
    · have d1 : decide ((i : Int) < (16 : Int)) = true := decide_eq_true (by omega)
      have hw : Go.IntKind.wrap .i64 ((i : Int) + 1) = ((i + 1 : Nat) : Int) := by rw [wrap64 (by omega) (by omega)]; omega
      have t1 := turned_ok (N := 200000) (hv i c) (i + 1) (by omega) (by omega) (by rw [hv_len, hc]) (by decide)
      have t2 := turned_ok (N := 200000) (hv i d) (i + 1) (by omega) (by omega) (by rw [hv_len, hd]) (by decide)
      have hl1 : (hv (i + 1) c).length = 28 := by rw [hv_len, hc]
      have hl2 : (hv (i + 1) d).length = 28 := by rw [hv_len, hd]
      have hor := or_words (hv (i + 1) c) (hv (i + 1) d) (by omega)
      rw [hl2] at hor
      have hpw : (2 : Int) ^ (min (Int.toNat (28 : Int)) (Go.IntKind.bits .u64)) = ((2 ^ 28 : Nat) : Int) := rfl
      have hcl : (hv (i + 1) c ++ hv (i + 1) d).length = 56 := by rw [List.length_append, hl1, hl2]
      have h6 := permuted_ok (N := 200000) (hv (i + 1) c ++ hv (i + 1) d) tOfRounds (by omega) (by omega) (by rw [hcl]; exact ok_ofRounds) (by decide) (by decide)
      rw [hcl] at h6
      have h6 : des_permuted 200000 ((toW (hv (i + 1) c ++ hv (i + 1) d) : Nat) : Int) (56 : Int) tOfRounds = some ((toW (keyAt c d i) : Nat) : Int) := h6
      have d2 : decide ((0 : Int) ≤ (i : Int) ∧ (i : Int) < (((16 : Nat) : Nat) : Int)) = true := decide_eq_true (by omega)
      obtain ⟨v, hv⟩ := arr_get (stA z f i) i hi
      have t1 : des_turned 200000 ((toW (Go.Proofs.YtopfadmfbgnbhaaDoor.hv i c) : Nat) : Int) ((i + 1 : Nat) : Int) = some ((toW (Go.Proofs.YtopfadmfbgnbhaaDoor.hv (i + 1) c) : Nat) : Int) := t1
      have t2 : des_turned 200000 ((toW (Go.Proofs.YtopfadmfbgnbhaaDoor.hv i d) : Nat) : Int) ((i + 1 : Nat) : Int) = some ((toW (Go.Proofs.YtopfadmfbgnbhaaDoor.hv (i + 1) d) : Nat) : Int) := t2
      simp only [des_Keys_L5, d1, d2, cond_true, hw, t1, t2, Option.bind_some, hpw, hor, h6, Int.toNat_natCast, hv]
      rfl
  refine ⟨stA (dflt (.arr 16 (.int .u64))) f 16, ?_, ?_⟩
  · rw [Keys_form, ofKeys_t]
    simp only [Option.bind_some]
    rw [show des_permuted 200000 (toW key : Int) (64 : Int) tOfKeys = _ from h1]
    simp only [Option.bind_some]
    rw [m56_eq, m28_eq, h2, h3, h5, e1]
    rfl
  · rw [stA_all]
    unfold keysM
    rw [List.map_map, hp, hcE, hdE]
    rfl
theorem keys_step (X : (((List (Int)) × ((List (Int)) × ((Int) × Unit))) × ((List (List (Int))) × Unit)) → Option ((Unit × ((List (List (Int))) × Unit)))) (c d : List Int) (h0 : List (List Int)) (i : Nat) (hi : i < 16) :
    ref08_keys_L5 200000 X c d ((i + 1 : Nat) : Int) h0 = Option.bind (dropI c (amt (i + 1) : Int)) fun v6 => Option.bind (takeI c (amt (i + 1) : Int)) fun v7 =>
      bif (roomB (List.length v6) 1) then (bif (roomB ((List.length v6) + (List.length v7)) 1) then (Option.bind (dropI d (amt (i + 1) : Int)) fun v8 => Option.bind (takeI d (amt (i + 1) : Int)) fun v9 =>
      (bif (roomB (List.length v8) 1) then (bif (roomB ((List.length v8) + (List.length v9)) 1) then (bif (roomB (List.length (v6 ++ v7)) 1) then (bif (roomB ((List.length (v6 ++ v7)) + (List.length (v8 ++ v9))) 1) then
       (Option.bind (ref08_by 200000 ((v6 ++ v7) ++ (v8 ++ v9)) tOfRounds) fun v10 => (bif (roomB ((List.length h0) + (List.length ([v10] : List ((List Int))))) 24) then
          (X (((v6 ++ v7), ((v8 ++ v9), ((Go.IntKind.wrap .i64 (((i + 1 : Nat) : Int) + (1 : Int))), ()))), ((h0 ++ ([v10] : List ((List Int)))), ()))) else none)) else none) else none) else none) else none)) else none) else none := by
  have : i = 0 ∨ i = 1 ∨ i = 2 ∨ i = 3 ∨ i = 4 ∨ i = 5 ∨ i = 6 ∨ i = 7 ∨ i = 8 ∨ i = 9 ∨ i = 10 ∨ i = 11 ∨ i = 12 ∨ i = 13 ∨ i = 14 ∨ i = 15 := by omega
  rcases this with rfl | rfl | rfl | rfl | rfl | rfl | rfl | rfl | rfl | rfl | rfl | rfl | rfl | rfl | rfl | rfl <;> rfl
theorem keys_d (key : List Bool) (hk : key.length = 64) : ref08_keys 200000 (toW key : Int) = some ((keysM key).map rI) := by
  have hkb := toW_lt key
  rw [hk] at hkb
  have h0 : ref03_Row 200000 (toW key : Int) (64 : Int) = some (rI key) := by
    have := row_ok (N := 200000) (toW key) 64 (by omega) (by decide) (by decide)
    rw [← hk, bitsOf_toW, hk] at this
    exact this
  have h1 := by_ok (N := 200000) key tOfKeys (by rw [hk]; exact ok_ofKeys) (by omega) (by decide) (by decide)
  have hpl : (byM tOfKeys key).length = 56 := by rw [byM_len]; rfl
  generalize hp : byM tOfKeys key = p at *
  have h2 : takeI (rI p) (28 : Int) = some (rI (p.take 28)) := (takeI_nat (a := (28 : Int)) (rI p) (i := 28) rfl (by rw [rI_len]; omega)).trans (by rw [rI_take])
  have h3 : dropI (rI p) (28 : Int) = some (rI (p.drop 28)) := (dropI_nat (a := (28 : Int)) (rI p) (i := 28) rfl (by rw [rI_len]; omega)).trans (by rw [rI_drop])
  have hc : (p.take 28).length = 28 := by simp [hpl]
  have hd : (p.drop 28).length = 28 := by simp [hpl]
  generalize hcE : p.take 28 = c at *
  generalize hdE : p.drop 28 = d at *
  have e1 : ref08_keys_L5_R 200000 ((rI c, (rI d, ((1 : Int), ()))), ([], ())) = some ((), (((List.range 16).map (keyAt c d)).map rI, ())) := by
    unfold ref08_keys_L5_R
    have := gl_run (G := fun X c => ref08_keys_L5 200000 X c.1.1 c.1.2.1 c.1.2.2.1 c.2.1) (fun i => ((rI (hv i c), (rI (hv i d), (((i + 1 : Nat) : Int), ()))), (((List.range i).map (keyAt c d)).map rI, ()))) 16 ((), (((List.range 16).map (keyAt c d)).map rI, ())) (fun Y i hi => ?_) (fun Y => rfl) 200000 0 (Nat.zero_le _) (by decide)
    · exact this
    · have hn : amt (i + 1) ≤ 2 := by unfold amt; split <;> simp
      have hlc : (hv i c).length = 28 := by rw [hv_len, hc]
      have hld : (hv i d).length = 28 := by rw [hv_len, hd]
      have a1 : dropI (rI (hv i c)) (amt (i + 1) : Int) = some (rI ((hv i c).drop (amt (i + 1)))) := by rw [dropI_nat _ rfl (by rw [rI_len]; omega), rI_drop]
      have a2 : takeI (rI (hv i c)) (amt (i + 1) : Int) = some (rI ((hv i c).take (amt (i + 1)))) := by rw [takeI_nat _ rfl (by rw [rI_len]; omega), rI_take]
      have a3 : dropI (rI (hv i d)) (amt (i + 1) : Int) = some (rI ((hv i d).drop (amt (i + 1)))) := by rw [dropI_nat _ rfl (by rw [rI_len]; omega), rI_drop]
      have a4 : takeI (rI (hv i d)) (amt (i + 1) : Int) = some (rI ((hv i d).take (amt (i + 1)))) := by rw [takeI_nat _ rfl (by rw [rI_len]; omega), rI_take]
      have b1 : rI ((hv i c).drop (amt (i + 1))) ++ rI ((hv i c).take (amt (i + 1))) = rI (hv (i + 1) c) := by rw [← rI_append]; rfl
      have b2 : rI ((hv i d).drop (amt (i + 1))) ++ rI ((hv i d).take (amt (i + 1))) = rI (hv (i + 1) d) := by rw [← rI_append]; rfl
      have room : ∀ n, n ≤ 100 → roomB n 1 = true := fun n hn => roomB_of (by have := big_len; omega) (by omega)
      have r1 : roomB (rI ((hv i c).drop (amt (i + 1)))).length 1 = true := room _ (by rw [rI_len, List.length_drop]; omega)
      have r2 : roomB ((rI ((hv i c).drop (amt (i + 1)))).length + (rI ((hv i c).take (amt (i + 1)))).length) 1 = true := room _ (by rw [rI_len, rI_len, List.length_drop, List.length_take]; omega)
      have r3 : roomB (rI ((hv i d).drop (amt (i + 1)))).length 1 = true := room _ (by rw [rI_len, List.length_drop]; omega)
      have r4 : roomB ((rI ((hv i d).drop (amt (i + 1)))).length + (rI ((hv i d).take (amt (i + 1)))).length) 1 = true := room _ (by rw [rI_len, rI_len, List.length_drop, List.length_take]; omega)
      have hl1 : (hv (i + 1) c).length = 28 := by rw [hv_len, hc]
      have hl2 : (hv (i + 1) d).length = 28 := by rw [hv_len, hd]
      have r5 : roomB (rI (hv (i + 1) c)).length 1 = true := room _ (by rw [rI_len]; omega)
      have r6 : roomB ((rI (hv (i + 1) c)).length + (rI (hv (i + 1) d)).length) 1 = true := room _ (by rw [rI_len, rI_len]; omega)
      have hcl : (hv (i + 1) c ++ hv (i + 1) d).length = 56 := by rw [List.length_append, hl1, hl2]
      have h6 := by_ok (N := 200000) (hv (i + 1) c ++ hv (i + 1) d) tOfRounds (by rw [hcl]; exact ok_ofRounds) (by omega) (by decide) (by decide)
      rw [rI_append] at h6
      have r7 : roomB ((((List.range i).map (keyAt c d)).map rI).length + [rI (keyAt c d i)].length) 24 = true := by
        simp only [List.length_map, List.length_range, List.length_cons, List.length_nil]
        exact roomB_of (by have := big_len; omega) (by omega)
      have hw : Go.IntKind.wrap .i64 (((i + 1 : Nat) : Int) + 1) = ((i + 1 + 1 : Nat) : Int) := by rw [wrap64 (by omega) (by omega)]; omega
      have hap : (((List.range i).map (keyAt c d)).map rI) ++ [rI (keyAt c d i)] = ((List.range (i + 1)).map (keyAt c d)).map rI := by rw [List.range_succ, List.map_append, List.map_append]; rfl
      have h6 : ref08_by 200000 (rI (hv (i + 1) c) ++ rI (hv (i + 1) d)) tOfRounds = some (rI (keyAt c d i)) := h6
      show ref08_keys_L5 200000 Y (rI (hv i c)) (rI (hv i d)) ((i + 1 : Nat) : Int) (((List.range i).map (keyAt c d)).map rI) = _
      rw [keys_step Y _ _ _ i hi, a1]
      simp only [Option.bind_some, a2, a3, a4, r1, r2, r3, r4, cond_true, b1, b2, r5, r6, h6, r7, hw, hap]
  unfold ref08_keys
  rw [h0]
  simp only [Option.bind_some]
  show (ref08_by 200000 (rI key) tOfKeys).bind _ = _
  rw [h1]
  simp only [Option.bind_some, h2, h3]
  show (ref08_keys_L5_R 200000 ((rI c, (rI d, ((1 : Int), ()))), ([], ()))).bind _ = _
  rw [e1]
  simp only [Option.bind_some, keysM, hp, hcE, hdE]
theorem Keys_eq (key : List Bool) (hk : key.length = 64) : ∃ a, des_Keys 200000 (toW key : Int) = some a ∧ ref08_Keys 200000 (toW key : Int) = some a := by
  obtain ⟨a, h1, h2⟩ := keys_p key hk
  have hd := keys_d key hk
  have hl := keysM_len key
  have hrow : ∀ k ∈ keysM key, k.length = 48 := fun k h => keysM_row h
  generalize keysM key = ks at *
  let f : Nat → Int := fun i => ((toW (ks.getD i []) : Nat) : Int)
  have e1 : ∀ y z : Arr Int 16, ref08_Keys_L4_R 200000 ((ks.map rI, ((0 : Int), ())), (y, (z, ()))) = some ((), (y, (stA z f 16, ()))) := by
    intro y z
    unfold ref08_Keys_L4_R
    have := gl_run (G := fun X c => ref08_Keys_L4 200000 X c.1.1 c.1.2.1 c.2.1 c.2.2.1) (fun i => ((ks.map rI, ((i : Int), ())), (y, (stA z f i, ())))) 16 ((), (y, (stA z f 16, ()))) (fun Y i hi => ?_) (fun Y => rfl) 200000 0 (Nat.zero_le _) (by decide)
    · exact this
    · have d1 : decide ((i : Int) < (16 : Int)) = true := decide_eq_true (by omega)
      have hil : i < ks.length := by omega
      have hg : getI (ks.map rI) (i : Int) = some (rI ks[i]) := by rw [getI_lt _ i (by simpa using hil)]; simp
      have hw := word_ok (N := 200000) ks[i] (by rw [hrow _ (List.getElem_mem hil)]; decide) (by decide)
      have d2 : decide ((0 : Int) ≤ (i : Int) ∧ (i : Int) < (((16 : Nat) : Nat) : Int)) = true := decide_eq_true (by omega)
      obtain ⟨v, hv⟩ := arr_get (stA z f i) i hi
      have hw2 : Go.IntKind.wrap .i64 ((i : Int) + 1) = ((i + 1 : Nat) : Int) := by rw [wrap64 (by omega) (by omega)]; omega
      have hf : f i = ((toW ks[i] : Nat) : Int) := by simp only [f, List.getD_eq_getElem?_getD, List.getElem?_eq_getElem hil, Option.getD_some]
      simp only [ref08_Keys_L4, d1, d2, cond_true, hg, hw, Option.bind_some, Int.toNat_natCast, hv, hw2]
      rw [← hf]
      rfl
  refine ⟨a, h1, ?_⟩
  have hal : ∀ z, stA z f 16 = a := by
    intro z
    have : (stA z f 16).l = a.l := by
      rw [stA_all, h2]
      apply List.ext_getElem
      · simp [hl]
      · intro i h3 h4
        have hil : i < ks.length := by simpa using h4
        simp [f, List.getElem?_eq_getElem hil]
    cases a; cases hst : stA z f 16; simp_all
  unfold ref08_Keys
  rw [hd]
  simp only [Option.bind_some]
  show (ref08_Keys_L4_R 200000 ((ks.map rI, ((0 : Int), ())), (dflt (.arr 16 (.int .u64)), (dflt (.arr 16 (.int .u64)), ())))).bind _ = _
  rw [e1, hal]
  rfl
end Go.Proofs.YtopfadmfbgnbhaaDoor
