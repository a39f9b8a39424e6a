/-
  What is turned is turned back; other bits turn to other bits; four laws of layer 8 on plain data.
-/
import Derived.Test.YtopfadmfbgnbhaaDoorQD6
namespace Go.Proofs.YtopfadmfbgnbhaaDoor
set_option maxRecDepth 100000
open Go.RowKit
set_option linter.unusedVariables false
set_option linter.unusedSimpArgs false
set_option maxRecDepth 100000

theorem byM_comp (s t : List Int) (l : List Bool) (h : tabOK t.length s) : byM s (byM t l) = byM (s.map fun i => t.getD (i.toNat - 1) 0) l := by
  unfold byM
  rw [List.map_map]
  apply List.map_congr_left
  intro i hi
  have := h i hi
  have hlt : i.toNat - 1 < t.length := by omega
  simp [List.getD_eq_getElem?_getD, List.getElem?_eq_getElem hlt]
def idT : List Int := (List.range 64).map fun (i : Nat) => (i : Int) + 1
theorem byM_id (l : List Bool) (h : l.length = 64) : byM idT l = l := by
  apply List.ext_getElem
  · rw [byM_len, h]; rfl
  · intro i h1 h2
    simp [byM, idT, List.getElem?_eq_getElem h2]
theorem first_last (l : List Bool) (h : l.length = 64) : byM tFirst (byM tLast l) = l := by
  rw [byM_comp tFirst tLast l (show tabOK 64 tFirst from ok_first), show (tFirst.map fun i => tLast.getD (i.toNat - 1) 0) = idT by decide +kernel, byM_id l h]
theorem last_first (l : List Bool) (h : l.length = 64) : byM tLast (byM tFirst l) = l := by
  rw [byM_comp tLast tFirst l (show tabOK 64 tLast from ok_last), show (tLast.map fun i => tFirst.getD (i.toNat - 1) 0) = idT by decide +kernel, byM_id l h]
theorem xorL_twice (a b : List Bool) (h : a.length = b.length) : xorL (xorL a b) b = a := by
  apply List.ext_getElem
  · rw [xorL_len _ _ (by rw [xorL_len _ _ h, h]), xorL_len _ _ h]
  · intro i h1 h2
    simp [xorL]
def swapM (s : List Bool × List Bool) : List Bool × List Bool := (s.2, s.1)
theorem step_swap (s : List Bool × List Bool) (k : List Bool) (h : Two s) : stepM (swapM (stepM s k)) k = swapM s := by
  unfold stepM swapM
  simp only
  rw [xorL_twice _ _ (by rw [wordM_len]; exact h.1)]
theorem fold_swap : ∀ (ks : List (List Bool)) (s : List Bool × List Bool), Two s → ks.reverse.foldl stepM (swapM (ks.foldl stepM s)) = swapM s
  | [], s, _ => rfl
  | k :: ks, s, h => by
    rw [List.reverse_cons, List.foldl_append]
    show stepM (List.foldl stepM (swapM (List.foldl stepM (stepM s k) ks)) ks.reverse) k = swapM s
    rw [fold_swap ks (stepM s k) (stepM_two k h), step_swap s k h]
theorem turn_back (ks : List (List Bool)) (b : List Bool) (hb : b.length = 64) : turnM ks.reverse (turnM ks b) = b := by
  have hS := first_two b
  have hpl : (byM tFirst b).length = 64 := by rw [byM_len]; rfl
  unfold turnM
  simp only
  have hts : (byM tFirst b).take 32 ++ (byM tFirst b).drop 32 = byM tFirst b := List.take_append_drop _ _
  generalize hs : ((byM tFirst b).take 32, (byM tFirst b).drop 32) = s at *
  have hs1 : (byM tFirst b).take 32 = s.1 := by rw [← hs]
  have hs2 : (byM tFirst b).drop 32 = s.2 := by rw [← hs]
  have hF := fold_two ks hS
  have hsw := fold_swap ks s hS
  generalize hf : ks.foldl stepM s = t at *
  have hcl : (t.2 ++ t.1).length = 64 := by rw [List.length_append, hF.1, hF.2]
  rw [first_last _ hcl, show (t.2 ++ t.1).take 32 = t.2 by rw [← hF.2]; exact List.take_left, show (t.2 ++ t.1).drop 32 = t.1 by rw [← hF.2]; exact List.drop_left]
  rw [show (t.2, t.1) = swapM t from rfl, hsw]
  rw [show (swapM s).2 ++ (swapM s).1 = s.1 ++ s.2 from rfl, ← hs1, ← hs2, hts, last_first b hb]
/-! ### Other bits -/
def notL (l : List Bool) : List Bool := l.map not
theorem notL_len (l : List Bool) : (notL l).length = l.length := by simp [notL]
theorem byM_not (t : List Int) (l : List Bool) (h : tabOK l.length t) : byM t (notL l) = notL (byM t l) := by
  unfold byM notL
  rw [List.map_map]
  apply List.map_congr_left
  intro i hi
  have := h i hi
  have hlt : i.toNat - 1 < l.length := by omega
  simp [List.getD_eq_getElem?_getD, List.getElem?_eq_getElem hlt]
theorem rot_not (n : Nat) (c : List Bool) : rot n (notL c) = notL (rot n c) := by simp [rot, notL, List.map_append, List.map_drop, List.map_take]
theorem hv_not : ∀ i c, hv i (notL c) = notL (hv i c)
  | 0, c => rfl
  | i + 1, c => by rw [hv, hv_not i c, rot_not]; rfl
theorem keyAt_not (c d : List Bool) (hc : c.length = 28) (hd : d.length = 28) (i : Nat) : keyAt (notL c) (notL d) i = notL (keyAt c d i) := by
  unfold keyAt
  rw [hv_not, hv_not, show notL (hv (i + 1) c) ++ notL (hv (i + 1) d) = notL (hv (i + 1) c ++ hv (i + 1) d) by simp [notL]]
  exact byM_not _ _ (by rw [List.length_append, hv_len, hv_len, hc, hd]; exact ok_ofRounds)
theorem keysM_not (key : List Bool) (hk : key.length = 64) : keysM (notL key) = (keysM key).map notL := by
  have hpl : (byM tOfKeys key).length = 56 := by rw [byM_len]; rfl
  unfold keysM
  rw [byM_not _ _ (by rw [hk]; exact ok_ofKeys), show (notL (byM tOfKeys key)).take 28 = notL ((byM tOfKeys key).take 28) by simp [notL, List.map_take], show (notL (byM tOfKeys key)).drop 28 = notL ((byM tOfKeys key).drop 28) by simp [notL, List.map_drop], List.map_map]
  apply List.map_congr_left
  intro i _
  exact keyAt_not _ _ (by simp [hpl]) (by simp [hpl]) i
theorem xorL_not2 (a b : List Bool) : xorL (notL a) (notL b) = xorL a b := by
  unfold xorL notL
  rw [List.zipWith_map]
  congr 1
  funext x y
  cases x <;> cases y <;> rfl
theorem xorL_not1 (a b : List Bool) : xorL (notL a) b = notL (xorL a b) := by
  unfold xorL notL
  rw [List.zipWith_map_left, List.map_zipWith]
  congr 1
  funext x y
  cases x <;> cases y <;> rfl
theorem wordM_not (r k : List Bool) (hr : r.length = 32) : wordM (notL r) (notL k) = wordM r k := by
  unfold wordM
  rw [byM_not _ _ (by rw [hr]; exact ok_wide), xorL_not2]
def notS (s : List Bool × List Bool) : List Bool × List Bool := (notL s.1, notL s.2)
theorem fold_not : ∀ (ks : List (List Bool)) (s : List Bool × List Bool), Two s → (ks.map notL).foldl stepM (notS s) = notS (ks.foldl stepM s)
  | [], s, _ => rfl
  | k :: ks, s, h => by
    rw [List.map_cons, List.foldl_cons, List.foldl_cons, ← fold_not ks (stepM s k) (stepM_two k h)]
    congr 1
    unfold stepM notS
    simp only
    rw [wordM_not _ _ h.2, xorL_not1]
theorem turn_not (ks : List (List Bool)) (b : List Bool) (hb : b.length = 64) : turnM (ks.map notL) (notL b) = notL (turnM ks b) := by
  have hS := first_two b
  unfold turnM
  simp only
  rw [byM_not _ _ (by rw [hb]; exact ok_first), show (notL (byM tFirst b)).take 32 = notL ((byM tFirst b).take 32) by simp [notL, List.map_take], show (notL (byM tFirst b)).drop 32 = notL ((byM tFirst b).drop 32) by simp [notL, List.map_drop]]
  generalize hs : ((byM tFirst b).take 32, (byM tFirst b).drop 32) = s at *
  rw [show (notL ((byM tFirst b).take 32), notL ((byM tFirst b).drop 32)) = notS s by rw [← hs]; rfl, fold_not ks s hS]
  have hF := fold_two ks hS
  generalize ks.foldl stepM s = t at *
  rw [show (notS t).2 ++ (notS t).1 = notL (t.2 ++ t.1) by simp [notS, notL]]
  exact byM_not _ _ (by rw [List.length_append, hF.1, hF.2]; exact ok_last)
theorem row64 (x : Int) (h : 0 ≤ x ∧ x < 18446744073709551616) : ∃ l : List Bool, l.length = 64 ∧ x = ((toW l : Nat) : Int) ∧ l = bitsOf 64 x.toNat := ⟨bitsOf 64 x.toNat, bitsOf_len _ _, by rw [toW_full (by omega)]; omega, rfl⟩
theorem notW (l : List Bool) (h : l.length = 64) : bits .xor .u64 (if IntKind.u64.signed = true then (-1 : Int) else IntKind.u64.max) ((toW l : Nat) : Int) = ((toW (notL l) : Nat) : Int) := by
  have h1 : (if IntKind.u64.signed = true then (-1 : Int) else IntKind.u64.max) = ((toW (List.replicate 64 true) : Nat) : Int) := by decide +kernel
  rw [h1, xor_words _ _ (by simp [h]) (by simp)]
  have : xorL (List.replicate 64 true) l = notL l := by
    apply List.ext_getElem
    · rw [notL_len, xorL_len _ _ (by rw [List.length_replicate, h]), List.length_replicate, h]
    · intro i h1 h2
      simp only [xorL, notL, List.getElem_zipWith, List.getElem_map, List.getElem_replicate]
      cases l[i]'(by rw [notL_len] at h2; exact h2) <;> rfl
  rw [this]
theorem bitsOf_get : ∀ (w x j : Nat), j < w → (bitsOf w x).getD j false = x.testBit (w - 1 - j)
  | w + 1, x, 0, _ => by rw [bitsOf_cons, Nat.testBit_eq_decide_div_mod_eq]; rfl
  | w + 1, x, j + 1, h => by
    rw [bitsOf_cons]
    have := bitsOf_get w x j (by omega)
    rw [show w + 1 - 1 - (j + 1) = w - 1 - j by omega, ← this]
    rfl
theorem low_bits (x b : Nat) : byM tOfKeys (bitsOf 64 (x ^^^ (b &&& 72340172838076673))) = byM tOfKeys (bitsOf 64 x) := by
  unfold byM
  apply List.map_congr_left
  intro i hi
  have h := ok_ofKeys i hi
  have hm : ∀ i ∈ tOfKeys, (72340172838076673 : Nat).testBit (64 - 1 - (i.toNat - 1)) = false := by decide +kernel
  rw [bitsOf_get _ _ _ (by omega), bitsOf_get _ _ _ (by omega), Nat.testBit_xor, Nat.testBit_and, hm i hi]
  simp
theorem wfu64 {n : Int} (h : 0 ≤ n ∧ n < 18446744073709551616) : (Lit.int .u64 n).wf = true := by
  simp only [Lit.wf, Bool.and_eq_true, decide_eq_true_eq, IntKind.min, IntKind.max, IntKind.signed, IntKind.bits]
  simp
  omega
theorem wf_u64 {n : Int} (h : wfT (.int .u64) n) : 0 ≤ n ∧ n < 18446744073709551616 := by
  have h3 : (Lit.int .u64 n).wf = true := h
  simp only [Lit.wf, Bool.and_eq_true, decide_eq_true_eq, IntKind.min, IntKind.max, IntKind.signed, IntKind.bits] at h3
  simp at h3
  omega
theorem wf_u32 {n : Int} (h : wfT (.int .u32) n) : 0 ≤ n ∧ n < 4294967296 := by
  have h3 : (Lit.int .u32 n).wf = true := h
  simp only [Lit.wf, Bool.and_eq_true, decide_eq_true_eq, IntKind.min, IntKind.max, IntKind.signed, IntKind.bits] at h3
  simp at h3
  omega
theorem law_DesWords (n key half : Int) (h1 : wfT (.int .i64) n) (h2 : wfT (.int .u64) key) (h3 : wfT (.int .u32) half) : law08_DesWords 200000 n key half = some true := by
  have hk := wf_u64 h2
  have hh := wf_u32 h3
  obtain ⟨k, rfl⟩ : ∃ k : Nat, key = k := ⟨key.toNat, by omega⟩
  obtain ⟨m, rfl⟩ : ∃ m : Nat, half = m := ⟨half.toNat, by omega⟩
  obtain ⟨v, b1, b2⟩ := Box_eq n k (by omega)
  obtain ⟨w, c1, c2⟩ := Word_eq m k (by omega) (by omega)
  have hl := bitsOf_len 64 k
  have hb : toW (bitsOf 64 k) = k := toW_full (by omega)
  obtain ⟨a, a1, a2⟩ := Keys_eq (bitsOf 64 k) hl
  obtain ⟨a', a3, a4⟩ := keys_p (bitsOf 64 k) hl
  rw [a1] at a3
  obtain rfl := Option.some.inj a3
  rw [hb] at a1 a2
  have hw : wfB (.arr 16 (.int .u64)) a = true := by
    refine List.all_eq_true.2 fun x hx => ?_
    rw [a4] at hx
    obtain ⟨r, hr, rfl⟩ := List.mem_map.1 hx
    have := toW_lt r
    rw [keysM_row hr] at this
    exact wfu64 (by omega)
  unfold law08_DesWords
  generalize des_Box 200000 n (k : Int) = o1 at *
  generalize ref08_Box 200000 n (k : Int) = o2 at *
  generalize des_Keys 200000 (k : Int) = o3 at *
  generalize ref08_Keys 200000 (k : Int) = o4 at *
  generalize des_Word 200000 (m : Int) (k : Int) = o5 at *
  generalize ref08_Word 200000 (m : Int) (k : Int) = o6 at *
  have hal := alive_ok
  generalize law08_alive 200000 = o7 at *
  subst b1 b2 a1 a2 c1 c2 hal
  simp only [Option.bind_some, decide_true, cond_true, hw, Bool.and_self]
theorem law_DesTurns (key block : Int) (h1 : wfT (.int .u64) key) (h2 : wfT (.int .u64) block) : law08_DesTurns 200000 key block = some true := by
  obtain ⟨k, hk, rfl, _⟩ := row64 key (wf_u64 h1)
  obtain ⟨b, hb, rfl, _⟩ := row64 block (wf_u64 h2)
  unfold law08_DesTurns
  rw [turn_p k b hk hb, Turn_d k b hk hb]
  simp only [Option.bind_some, decide_true, cond_true]
  rw [back_p k b hk hb, Back_d k b hk hb]
  simp only [Option.bind_some, decide_true, cond_true, alive_ok]
theorem law_DesBack (key block bts : Int) (h1 : wfT (.int .u64) key) (h2 : wfT (.int .u64) block) (h3 : wfT (.int .u64) bts) : law08_DesBack 200000 key block bts = some true := by
  obtain ⟨k, hk, hkk, hk2⟩ := row64 key (wf_u64 h1)
  obtain ⟨b, hb, rfl, _⟩ := row64 block (wf_u64 h2)
  have hkr := wf_u64 h1
  have hbr := wf_u64 h3
  have hand : bits .and .u64 bts (72340172838076673 : Int) = ((bts.toNat &&& 72340172838076673 : Nat) : Int) := by
    have := q64_and bts.toNat 72340172838076673 (by omega) (by decide)
    rwa [show ((bts.toNat : Nat) : Int) = bts by omega] at this
  have hle : bts.toNat &&& 72340172838076673 < 18446744073709551616 := Nat.lt_of_le_of_lt Nat.and_le_right (by decide)
  have hx : bits .xor .u64 key (bits .and .u64 bts (72340172838076673 : Int)) = ((key.toNat ^^^ (bts.toNat &&& 72340172838076673) : Nat) : Int) := by
    rw [hand]
    have := q64_xor key.toNat (bts.toNat &&& 72340172838076673) (by omega) hle
    rwa [show ((key.toNat : Nat) : Int) = key by omega] at this
  have hy : key.toNat ^^^ (bts.toNat &&& 72340172838076673) < 2 ^ 64 := Nat.xor_lt_two_pow (n := 64) (by omega) (by omega)
  have hyr : ((key.toNat ^^^ (bts.toNat &&& 72340172838076673) : Nat) : Int) = ((toW (bitsOf 64 (key.toNat ^^^ (bts.toNat &&& 72340172838076673))) : Nat) : Int) := by rw [toW_full hy]
  have hks : keysM (bitsOf 64 (key.toNat ^^^ (bts.toNat &&& 72340172838076673))) = keysM k := by
    unfold keysM
    rw [low_bits, hk2]
  have t := turn_p k b hk hb
  have u := turn_p (bitsOf 64 (key.toNat ^^^ (bts.toNat &&& 72340172838076673))) b (bitsOf_len _ _) hb
  rw [hks] at u
  have v := back_p k (turnM (keysM k) b) hk (turnM_len _ _)
  rw [turn_back _ b hb] at v
  have w := back_p k b hk hb
  have z := turn_p k (turnM (keysM k).reverse b) hk (turnM_len _ _)
  have hz := turn_back (keysM k).reverse b hb
  rw [List.reverse_reverse] at hz
  rw [hz] at z
  unfold law08_DesBack
  rw [hx, hyr]
  generalize bitsOf 64 (key.toNat ^^^ (bts.toNat &&& 72340172838076673)) = yy at *
  rw [hkk, t]
  simp only [Option.bind_some]
  rw [v]
  simp only [Option.bind_some, decide_true, cond_true]
  rw [w]
  simp only [Option.bind_some]
  rw [z]
  simp only [Option.bind_some, decide_true, cond_true]
  rw [u]
  simp only [Option.bind_some, decide_true, cond_true, alive_ok]
theorem law_DesOther (key block : Int) (h1 : wfT (.int .u64) key) (h2 : wfT (.int .u64) block) : law08_DesOther 200000 key block = some true := by
  obtain ⟨k, hk, rfl, _⟩ := row64 key (wf_u64 h1)
  obtain ⟨b, hb, rfl, _⟩ := row64 block (wf_u64 h2)
  have hkn : (notL k).length = 64 := by rw [notL_len, hk]
  have hbn : (notL b).length = 64 := by rw [notL_len, hb]
  have t1 := turn_p (notL k) (notL b) hkn hbn
  rw [keysM_not k hk, turn_not _ b hb] at t1
  have t2 := turn_p k b hk hb
  have u1 := back_p (notL k) (notL b) hkn hbn
  rw [keysM_not k hk, ← List.map_reverse, turn_not _ b hb] at u1
  have u2 := back_p k b hk hb
  unfold law08_DesOther
  rw [notW k hk, notW b hb, t1, t2]
  simp only [Option.bind_some]
  rw [notW _ (turnM_len _ _), u1, u2]
  simp only [Option.bind_some, decide_true, cond_true]
  rw [notW _ (turnM_len _ _)]
  simp only [decide_true, cond_true, alive_ok, Option.bind_some]
end Go.Proofs.YtopfadmfbgnbhaaDoor
