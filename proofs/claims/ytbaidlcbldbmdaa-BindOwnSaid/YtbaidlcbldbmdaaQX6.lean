/-
  Layer 7, on plain data: both are the same; digests; a key's block; a block turned; seals.
-/
import Derived.Test.YtbaidlcbldbmdaaQX5
namespace Go.Proofs.Ytbaidlcbldbmdaa
set_option maxRecDepth 100000
open Go.RowKit
set_option linter.unusedVariables false
set_option linter.unusedSimpArgs false
set_option maxRecDepth 100000

/-! ### Bits -/
theorem q8_of (a : Nat) (ha : a < 256) : (BitVec.ofInt 8 (a : Int)).toNat = a := by
  rw [BitVec.ofInt_natCast, BitVec.toNat_ofNat]; exact Nat.mod_eq_of_lt (by omega)
theorem xor8 (a b : Nat) (ha : a < 256) (hb : b < 256) : bits .xor .u8 (a : Int) (b : Int) = ((a ^^^ b : Nat) : Int) := by
  have hx : a ^^^ b < 2 ^ 8 := Nat.xor_lt_two_pow (by omega) (by omega)
  show IntKind.u8.wrap ((BitVec.ofInt 8 (a : Int) ^^^ BitVec.ofInt 8 (b : Int)).toNat : Int) = _
  rw [BitVec.toNat_xor, q8_of a ha, q8_of b hb, IntKind.wrap_u8]
  omega
theorem xor64 (a b : Nat) (ha : a < 2 ^ 62) (hb : b < 2 ^ 62) : bits .xor .i64 (a : Int) (b : Int) = ((a ^^^ b : Nat) : Int) := by
  have hx : a ^^^ b < 2 ^ 62 := Nat.xor_lt_two_pow ha hb
  show IntKind.i64.wrap ((BitVec.ofInt 64 (a : Int) ^^^ BitVec.ofInt 64 (b : Int)).toNat : Int) = _
  rw [BitVec.toNat_xor, q64_of a (by omega), q64_of b (by omega), wrap64 (by omega) (by omega)]
theorem or64 (a b : Nat) (ha : a < 2 ^ 62) (hb : b < 2 ^ 62) : bits .or .i64 (a : Int) (b : Int) = ((a ||| b : Nat) : Int) := by
  have hx : a ||| b < 2 ^ 62 := Nat.or_lt_two_pow ha hb
  show IntKind.i64.wrap ((BitVec.ofInt 64 (a : Int) ||| BitVec.ofInt 64 (b : Int)).toNat : Int) = _
  rw [BitVec.toNat_or, q64_of a (by omega), q64_of b (by omega), wrap64 (by omega) (by omega)]
theorem xor_zero (a b : Nat) : a ^^^ b = 0 ↔ a = b := by
  constructor
  · intro h
    have h2 : a ^^^ b ^^^ b = b := by rw [h, Nat.zero_xor]
    rw [Nat.xor_assoc, Nat.xor_self, Nat.xor_zero] at h2
    exact h2
  · rintro rfl; exact Nat.xor_self a
theorem or_zero' (a b : Nat) : a ||| b = 0 ↔ a = 0 ∧ b = 0 := by
  constructor
  · intro h
    constructor
    · apply Nat.eq_of_testBit_eq; intro i
      have := congrArg (Nat.testBit · i) h
      simp at this ⊢; exact this.1
    · apply Nat.eq_of_testBit_eq; intro i
      have := congrArg (Nat.testBit · i) h
      simp at this ⊢; exact this.2
  · rintro ⟨rfl, rfl⟩; rfl
def dif (a b : List Int) : Nat → Nat
  | 0 => a.length ^^^ b.length
  | i + 1 => dif a b i ||| ((a.getD i 0).toNat ^^^ (b.getD i 0).toNat)
theorem b8 {a : List Int} (h : AllB a) (i : Nat) : 0 ≤ a.getD i 0 ∧ a.getD i 0 < 256 := by
  rw [List.getD_eq_getElem?_getD]
  rcases Nat.lt_or_ge i a.length with hi | hi
  · rw [List.getElem?_eq_getElem hi]; exact h.get i hi
  · rw [List.getElem?_eq_none hi]; exact ⟨Int.le_refl _, by decide⟩
theorem dif_lt {a b : List Int} (ha : AllB a) (hb : AllB b) (la : a.length < 100000) (lb : b.length < 100000) : ∀ i, dif a b i < 2 ^ 62
  | 0 => Nat.xor_lt_two_pow (by omega) (by omega)
  | i + 1 => by
    have h1 := b8 ha i
    have h2 := b8 hb i
    exact Nat.or_lt_two_pow (dif_lt ha hb la lb i) (Nat.xor_lt_two_pow (by omega) (by omega))
theorem dif_zero (a b : List Int) : ∀ i, dif a b i = 0 ↔ a.length = b.length ∧ ∀ j, j < i → (a.getD j 0).toNat = (b.getD j 0).toNat
  | 0 => by
    unfold dif
    rw [xor_zero]
    exact ⟨fun h => ⟨h, fun j hj => by omega⟩, fun h => h.1⟩
  | i + 1 => by
    unfold dif
    rw [or_zero', dif_zero a b i, xor_zero]
    constructor
    · rintro ⟨⟨h1, h2⟩, h3⟩
      refine ⟨h1, fun j hj => ?_⟩
      rcases Nat.lt_or_ge j i with h | h
      · exact h2 j h
      · have : j = i := by omega
        subst this; exact h3
    · rintro ⟨h1, h2⟩
      exact ⟨⟨h1, fun j hj => h2 j (by omega)⟩, h2 i (by omega)⟩
theorem osame (a b : List Int) (ha : AllB a) (hb : AllB b) (la : a.length < 100000) (lb : b.length < 100000) {N : Nat} (hN : 200000 ≤ N) : octs_Same N a b = some (decide (a = b)) := by
  obtain ⟨m, hm⟩ : ∃ m, m = min a.length b.length := ⟨_, rfl⟩
  have hmi : minI (a.length : Int) (b.length : Int) = (m : Int) := by unfold minI; split <;> omega
  have hloop : octs_Same_L3_R N ((a, (b, (((dif a b 0 : Nat) : Int), ((m : Int), ((0 : Int), ()))))), ()) = some ((((dif a b m : Nat) : Int), ()), ()) := by
    refine gl_run (G := fun X c => octs_Same_L3 N X c.1.1 c.1.2.1 c.1.2.2.1 c.1.2.2.2.1 c.1.2.2.2.2.1) (fun i => ((a, (b, (((dif a b i : Nat) : Int), ((m : Int), (((i : Nat) : Int), ()))))), ())) m _ (fun X i hi => ?_) (fun X => ?_) N 0 (Nat.zero_le _) (by omega)
    · have c1 : ((i : Int) < (m : Int)) := by omega
      have hia : i < a.length := by omega
      have hib : i < b.length := by omega
      have h1 := b8 ha i
      have h2 := b8 hb i
      have e1 : a[i] = ((a.getD i 0).toNat : Int) := by
        rw [Int.toNat_of_nonneg h1.1, List.getD_eq_getElem?_getD, List.getElem?_eq_getElem hia]; rfl
      have e2 : b[i] = ((b.getD i 0).toNat : Int) := by
        rw [Int.toNat_of_nonneg h2.1, List.getD_eq_getElem?_getD, List.getElem?_eq_getElem hib]; rfl
      have hx : (a.getD i 0).toNat ^^^ (b.getD i 0).toNat < 2 ^ 8 := Nat.xor_lt_two_pow (by omega) (by omega)
      have e3 : Go.IntKind.wrap .i64 ((i : Int) + 1) = ((i + 1 : Nat) : Int) := by rw [wrap64 (by omega) (by omega)]; omega
      simp only [octs_Same_L3, c1, decide_true, cond_true, getI_lt a i hia, getI_lt b i hib, Option.bind_some, e3]
      rw [e1, e2, xor8 _ _ (by omega) (by omega), wrap64 (by omega) (by omega), or64 _ _ (dif_lt ha hb la lb i) (by omega)]
      rfl
    · have c1 : ¬ ((m : Int) < (m : Int)) := by omega
      simp only [octs_Same_L3, c1, decide_false, cond_false]
  have hx : bits .xor .i64 (a.length : Int) (b.length : Int) = ((dif a b 0 : Nat) : Int) := xor64 _ _ (by omega) (by omega)
  unfold octs_Same
  rw [hx, hmi]
  refine (congrArg (fun o => Option.bind o _) hloop).trans ?_
  simp only [Option.bind_some, Option.some.injEq]
  have key : ((dif a b m : Nat) : Int) = 0 ↔ a = b := by
    rw [show (((dif a b m : Nat) : Int) = 0 ↔ dif a b m = 0) from by omega, dif_zero]
    constructor
    · rintro ⟨h1, h2⟩
      apply List.ext_getElem h1
      intro j hj1 hj2
      have h3 := h2 j (by omega)
      have q1 := b8 ha j
      have q2 := b8 hb j
      rw [List.getD_eq_getElem?_getD, List.getElem?_eq_getElem hj1, Option.getD_some] at h3 q1
      rw [List.getD_eq_getElem?_getD, List.getElem?_eq_getElem hj2, Option.getD_some] at h3 q2
      omega
    · rintro rfl; exact ⟨rfl, fun _ _ => rfl⟩
  exact decide_eq_decide.2 key

/-! ### Digests -/
noncomputable def dig (b : List Int) : Arr Int 32 := (sha256_Of 200000 [b]).getD ⟨List.replicate 32 0, rfl⟩
theorem sha_ok (l : List (List Int)) (hl : l.length ≤ 1000) (hs : ∀ p ∈ l, p.length ≤ 5000 ∧ AllB p) (hf : l.flatten.length ≤ 5000) :
    sha256_Of 200000 l = some (dig l.flatten) ∧ AllB (dig l.flatten).l ∧ (l.flatten.length ≤ 4000 → ref06_Of 200000 l.flatten = some (dig l.flatten)) := by
  have hB : AllB l.flatten := fun x hx => by
    obtain ⟨p, hp, hx⟩ := List.mem_flatten.1 hx
    exact (hs p hp).2 x hx
  obtain ⟨a, b, c, d, e, f, g, u, ht, D, r1, r2, r3, r4⟩ := of_ok l hl hs hf
  obtain ⟨a', b', c', d', e', f', g', u', ht', D', q1, q2, q3, q4⟩ := of_ok [l.flatten] (by simp) (fun p hp => by
    rw [List.mem_singleton] at hp; subst hp; exact ⟨hf, hB⟩) (by simpa using hf)
  have hfl : ([l.flatten] : List (List Int)).flatten = l.flatten := by simp
  rw [hfl, r1] at q1
  injection q1 with q1
  injection q1 with q1
  simp only [List.cons.injEq, and_true] at q1
  obtain ⟨rfl, rfl, rfl, rfl, rfl, rfl, rfl, rfl⟩ := q1
  have hD : D' = D := Arr.eq (by rw [q3, r3])
  subst hD
  have hd : dig l.flatten = D' := by unfold dig; rw [q4]; rfl
  rw [hd]
  refine ⟨r4, by rw [r3]; exact dg5_B _ _ _ _ _ _ _ _, fun h4 => ?_⟩
  obtain ⟨D2, p1, p2⟩ := refOf_ok l.flatten hB h4 r1
  rw [p2]
  exact congrArg some (Arr.eq (by rw [p1, r3]))
theorem dig_ok (b : List Int) (h : b.length ≤ 4000) (hb : AllB b) : sha256_Of 200000 [b] = some (dig b) ∧ AllB (dig b).l ∧ ref06_Of 200000 b = some (dig b) := by
  have hfl : ([b] : List (List Int)).flatten = b := by simp
  have := sha_ok [b] (by simp) (fun p hp => by rw [List.mem_singleton] at hp; subst hp; exact ⟨by omega, hb⟩) (by rw [hfl]; omega)
  rw [hfl] at this
  exact ⟨this.1, this.2.1, this.2.2 h⟩

/-! ### A key's block -/
def z64 : Arr Int 64 := ⟨List.replicate 64 0, rfl⟩
noncomputable def keyL (k : List Int) : List Int := if 64 < k.length then (dig k).l else k
noncomputable def kb (k : List Int) : Arr Int 64 := z64.over (keyL k)
theorem keyL_len (k : List Int) : (keyL k).length ≤ 64 := by
  unfold keyL
  split
  · rw [(dig k).h]; omega
  · omega
theorem keyL_B {k : List Int} (h : k.length ≤ 4000) (hk : AllB k) : AllB (keyL k) := by
  unfold keyL
  split
  · exact (dig_ok k h hk).2.1
  · exact hk
theorem over64 (k : List Int) (h : k.length ≤ 64) : (z64.over k).l = k ++ List.replicate (64 - k.length) 0 := by
  show k.take 64 ++ (List.replicate 64 (0 : Int)).drop k.length = _
  rw [List.take_of_length_le h, List.drop_replicate]
theorem kb_B {k : List Int} (h : k.length ≤ 4000) (hk : AllB k) : AllB (kb k).l := by
  unfold kb
  rw [over64 _ (keyL_len k)]
  refine (keyL_B h hk).append (fun x hx => ?_)
  rw [(List.mem_replicate.1 hx).2]
  exact ⟨Int.le_refl _, by decide⟩
theorem hkey_ok (k : List Int) (h : k.length ≤ 4000) (hk : AllB k) : hmac_Key 200000 k = some (kb k) := by
  unfold hmac_Key kb keyL
  by_cases hc : 64 < k.length
  · have c1 : ((64 : Int) < (k.length : Int)) := by omega
    simp only [c1, decide_true, cond_true, (dig_ok k h hk).1, Option.bind_some, hc, if_true]
    rfl
  · have c1 : ¬ ((64 : Int) < (k.length : Int)) := by omega
    simp only [c1, decide_false, cond_false, hc, if_false]
    rfl
theorem over_set (k : List Int) (h : k.length ≤ 64) (i : Nat) (hi : i < k.length) : (z64.over (k.take i)).set i k[i] = z64.over (k.take (i + 1)) := by
  apply Arr.eq
  show (z64.over (k.take i)).l.set i k[i] = _
  have l1 : (k.take i).length = i := by rw [List.length_take]; omega
  have l2 : (k.take (i + 1)).length = i + 1 := by rw [List.length_take]; omega
  rw [over64 _ (by omega), over64 _ (by omega), l1, l2]
  have e1 : k.take (i + 1) = k.take i ++ [k[i]] := by rw [List.take_add_one, List.getElem?_eq_getElem hi]; rfl
  rw [e1, List.set_append_right _ _ (by omega), l1, Nat.sub_self, show 64 - i = (64 - (i + 1)) + 1 by omega, List.replicate_succ, List.set_cons_zero, List.append_assoc]
  rfl
theorem rkeyloop (k : List Int) (h : k.length ≤ 64) (h0 : Arr Int 64) : ref07_Key_L6_R 200000 ((k, ((0 : Int), ())), (h0, (z64, ()))) = some ((), (h0, (z64.over k, ()))) := by
  have e0 : z64.over (k.take 0) = z64 := Arr.eq (by rw [over64 _ (by simp)]; rfl)
  have en : z64.over (k.take k.length) = z64.over k := by rw [List.take_length]
  have := gl_run (G := fun X c => ref07_Key_L6 200000 X c.1.1 c.1.2.1 c.2.1 c.2.2.1) (fun i => ((k, (((i : Nat) : Int), ())), (h0, (z64.over (k.take i), ())))) k.length (((), (h0, (z64.over k, ())))) (fun X i hi => ?_) (fun X => ?_) 200000 0 (Nat.zero_le _) (by omega)
  · rw [e0] at this; exact this
  · have c1 : ((i : Int) < (k.length : Int)) := by omega
    have c2 : ((0 : Int) ≤ (i : Int) ∧ (i : Int) < (((64 : Nat) : Nat) : Int)) := by omega
    have e3 : Go.IntKind.wrap .i64 ((i : Int) + 1) = ((i + 1 : Nat) : Int) := by rw [wrap64 (by omega) (by omega)]; omega
    have hl : i < (z64.over (k.take i)).l.length := by rw [(z64.over (k.take i)).h]; omega
    simp only [ref07_Key_L6, c1, c2, decide_true, cond_true, getI_lt k i hi, Option.bind_some, Int.toNat_natCast, List.getElem?_eq_getElem hl, e3, and_self, over_set k h i hi]
  · have c1 : ¬ ((k.length : Int) < (k.length : Int)) := by omega
    simp only [ref07_Key_L6, c1, decide_false, cond_false, en]
theorem rkey_ok (k : List Int) (h : k.length ≤ 4000) (hk : AllB k) : ref07_Key 200000 k = some (kb k) := by
  unfold ref07_Key kb keyL
  by_cases hc : 64 < k.length
  · have c1 : ((64 : Int) < (k.length : Int)) := by omega
    simp only [c1, decide_true, cond_true, (dig_ok k h hk).2.2, Option.bind_some, hc, if_true]
    refine (congrArg (fun o => Option.bind o _) (rkeyloop (dig k).l (by rw [(dig k).h]; omega) _)).trans ?_
    rfl
  · have c1 : ¬ ((64 : Int) < (k.length : Int)) := by omega
    simp only [c1, decide_false, cond_false, hc, if_false]
    refine (congrArg (fun o => Option.bind o _) (rkeyloop k (by omega) _)).trans ?_
    rfl

/-! ### A block turned -/
def xr (x v : Int) : Int := bits .xor .u8 v x
theorem xr_B (x v : Int) : 0 ≤ xr x v ∧ xr x v < 256 := by
  show 0 ≤ IntKind.u8.wrap _ ∧ IntKind.u8.wrap _ < 256
  rw [IntKind.wrap_u8]
  omega
def tn (b : Arr Int 64) (x : Int) : List Int := b.l.map (xr x)
theorem tn_len (b : Arr Int 64) (x : Int) : (tn b x).length = 64 := by unfold tn; rw [List.length_map, b.h]
theorem tn_B (b : Arr Int 64) (x : Int) : AllB (tn b x) := fun y hy => by
  obtain ⟨v, _, rfl⟩ := List.mem_map.1 hy
  exact xr_B x v
def tnA (b : Arr Int 64) (x : Int) (i : Nat) : Arr Int 64 := ⟨(b.l.take i).map (xr x) ++ b.l.drop i, by rw [List.length_append, List.length_map, List.length_take, List.length_drop, b.h]; omega⟩
theorem turned_ok (b : Arr Int 64) (x : Int) : hmac_turned 200000 b x = some (tn b x) := by
  have hloop : hmac_turned_L2_R 200000 ((x, ((0 : Int), ())), (b, ())) = some ((), (tnA b x 64, ())) := by
    have e0 : tnA b x 0 = b := Arr.eq (by simp [tnA])
    have := gl_run (G := fun X c => hmac_turned_L2 200000 X c.1.1 c.1.2.1 c.2.1) (fun i => ((x, (((i : Nat) : Int), ())), (tnA b x i, ()))) 64 (((), (tnA b x 64, ()))) (fun X i hi => ?_) (fun X => ?_) 200000 0 (Nat.zero_le _) (by omega)
    · rw [e0] at this; exact this
    · have c1 : ((i : Int) < (64 : Int)) := by omega
      have c2 : ((0 : Int) ≤ (i : Int) ∧ (i : Int) < (((64 : Nat) : Nat) : Int)) := by omega
      have e3 : Go.IntKind.wrap .i64 ((i : Int) + 1) = ((i + 1 : Nat) : Int) := by rw [wrap64 (by omega) (by omega)]; omega
      have hbl : i < b.l.length := by rw [b.h]; omega
      have l1 : ((b.l.take i).map (xr x)).length = i := by rw [List.length_map, List.length_take, b.h]; omega
      have hg : (tnA b x i).l[i]? = some b.l[i] := by
        show ((b.l.take i).map (xr x) ++ b.l.drop i)[i]? = _
        rw [List.getElem?_append_right (by omega), l1, Nat.sub_self, List.drop_eq_getElem_cons hbl]; rfl
      have hs : (tnA b x i).set i (bits .xor .u8 b.l[i] x) = tnA b x (i + 1) := by
        apply Arr.eq
        show ((b.l.take i).map (xr x) ++ b.l.drop i).set i (xr x b.l[i]) = (b.l.take (i + 1)).map (xr x) ++ b.l.drop (i + 1)
        rw [List.set_append_right _ _ (by omega), l1, Nat.sub_self, List.drop_eq_getElem_cons hbl, List.set_cons_zero, List.take_add_one, List.getElem?_eq_getElem hbl, List.map_append, List.append_assoc]
        rfl
      simp only [hmac_turned_L2, c1, c2, decide_true, cond_true, Int.toNat_natCast, hg, Option.bind_some, e3, and_self, hs]
    · have c1 : ¬ (((64 : Nat) : Int) < (64 : Int)) := by omega
      simp only [hmac_turned_L2, c1, decide_false, cond_false]
  unfold hmac_turned
  refine (congrArg (fun o => Option.bind o _) hloop).trans ?_
  simp only [Option.bind_some, Option.some.injEq]
  show (b.l.take 64).map (xr x) ++ b.l.drop 64 = _
  rw [List.take_of_length_le (by rw [b.h]; omega), List.drop_of_length_le (by rw [b.h]; omega), List.append_nil]
  rfl
theorem rstep (b : Arr Int 64) (x : Int) (i : Nat) (hi : i < 64) : (b.l.take i).map (xr x) ++ [bits .xor .u8 (b.l[i]'(by rw [b.h]; exact hi)) x] = (b.l.take (i + 1)).map (xr x) := by
  have hbl : i < b.l.length := by rw [b.h]; omega
  rw [List.take_add_one, List.getElem?_eq_getElem hbl, List.map_append]
  rfl
theorem rturn2 (b : Arr Int 64) (x : Int) (h0 : Arr Int 32) (h1 : Arr Int 64) : ref07_Of_2_ref07_turned_L3_R 200000 ((x, (b, ((0 : Int), ()))), (h0, (h1, (([] : List Int), ())))) = some ((), (h0, (h1, (tn b x, ())))) := by
  have en : (b.l.take 64).map (xr x) = tn b x := by rw [List.take_of_length_le (by rw [b.h]; omega)]; rfl
  refine gl_run (G := fun X c => ref07_Of_2_ref07_turned_L3 200000 X c.1.1 c.1.2.1 c.1.2.2.1 c.2.1 c.2.2.1 c.2.2.2.1) (fun i => ((x, (b, (((i : Nat) : Int), ()))), (h0, (h1, ((b.l.take i).map (xr x), ()))))) 64 _ (fun X i hi => ?_) (fun X => ?_) 200000 0 (Nat.zero_le _) (by omega)
  · have c1 : ((i : Int) < (64 : Int)) := by omega
    have e3 : Go.IntKind.wrap .i64 ((i : Int) + 1) = ((i + 1 : Nat) : Int) := by rw [wrap64 (by omega) (by omega)]; omega
    have hbl : i < b.l.length := by rw [b.h]; omega
    have r : ∀ y : Int, roomB (((b.l.take i).map (xr x)).length + ([y] : List Int).length) 1 = true := fun y => roomB_of (by have := big_len; simp; omega) (by simp; omega)
    simp only [ref07_Of_2_ref07_turned_L3, c1, decide_true, cond_true, getI_lt b.l i hbl, Option.bind_some, r, e3, rstep b x i hi]
  · have c1 : ¬ (((64 : Nat) : Int) < (64 : Int)) := by omega
    simp only [ref07_Of_2_ref07_turned_L3, c1, decide_false, cond_false, en]
theorem rturn3 (b : Arr Int 64) (x : Int) (h0 : Arr Int 32) (h1 : Arr Int 64) : ref07_Of_3_ref07_turned_L3_R 200000 ((x, (b, ((0 : Int), ()))), (h0, (h1, (([] : List Int), ())))) = some ((), (h0, (h1, (tn b x, ())))) := by
  have en : (b.l.take 64).map (xr x) = tn b x := by rw [List.take_of_length_le (by rw [b.h]; omega)]; rfl
  refine gl_run (G := fun X c => ref07_Of_3_ref07_turned_L3 200000 X c.1.1 c.1.2.1 c.1.2.2.1 c.2.1 c.2.2.1 c.2.2.2.1) (fun i => ((x, (b, (((i : Nat) : Int), ()))), (h0, (h1, ((b.l.take i).map (xr x), ()))))) 64 _ (fun X i hi => ?_) (fun X => ?_) 200000 0 (Nat.zero_le _) (by omega)
  · have c1 : ((i : Int) < (64 : Int)) := by omega
    have e3 : Go.IntKind.wrap .i64 ((i : Int) + 1) = ((i + 1 : Nat) : Int) := by rw [wrap64 (by omega) (by omega)]; omega
    have hbl : i < b.l.length := by rw [b.h]; omega
    have r : ∀ y : Int, roomB (((b.l.take i).map (xr x)).length + ([y] : List Int).length) 1 = true := fun y => roomB_of (by have := big_len; simp; omega) (by simp; omega)
    simp only [ref07_Of_3_ref07_turned_L3, c1, decide_true, cond_true, getI_lt b.l i hbl, Option.bind_some, r, e3, rstep b x i hi]
  · have c1 : ¬ (((64 : Nat) : Int) < (64 : Int)) := by omega
    simp only [ref07_Of_3_ref07_turned_L3, c1, decide_false, cond_false, en]

/-! ### Seals -/
noncomputable def hm (b : Arr Int 64) (l : List Int) : Arr Int 32 := dig (tn b 92 ++ (dig (tn b 54 ++ l)).l)
theorem hm_in {b : Arr Int 64} {l : List Int} (h : l.length ≤ 3000) (hl : AllB l) : (tn b 54 ++ l).length ≤ 4000 ∧ AllB (tn b 54 ++ l) ∧ (tn b 92 ++ (dig (tn b 54 ++ l)).l).length ≤ 4000 ∧ AllB (tn b 92 ++ (dig (tn b 54 ++ l)).l) := by
  have h1 : (tn b 54 ++ l).length ≤ 4000 := by rw [List.length_append, tn_len]; omega
  have h2 : AllB (tn b 54 ++ l) := (tn_B b 54).append hl
  exact ⟨h1, h2, by rw [List.length_append, tn_len, (dig _).h]; omega, (tn_B b 92).append (dig_ok _ h1 h2).2.1⟩
theorem hm_B {b : Arr Int 64} {l : List Int} (h : l.length ≤ 3000) (hl : AllB l) : AllB (hm b l).l := (dig_ok _ (hm_in (b := b) h hl).2.2.1 (hm_in h hl).2.2.2).2.1
theorem hof_ok (k : List Int) (hk : k.length ≤ 4000) (hB : AllB k) (l : List (List Int)) (hl : l.length ≤ 100) (hs : ∀ p ∈ l, p.length ≤ 3000 ∧ AllB p) (hf : l.flatten.length ≤ 3000) : hmac_Of 200000 k l = some (hm (kb k) l.flatten) := by
  have hfB : AllB l.flatten := fun x hx => by
    obtain ⟨p, hp, hx⟩ := List.mem_flatten.1 hx
    exact (hs p hp).2 x hx
  obtain ⟨i1, i2, i3, i4⟩ := hm_in (b := kb k) hf hfB
  have r : roomB (([tn (kb k) 54] : List (List Int)).length + l.length) 24 = true := roomB_of (by have := big_len; simp; omega) (by simp; omega)
  have f1 : ([tn (kb k) 54] ++ l).flatten = tn (kb k) 54 ++ l.flatten := by simp
  have f2 : ([tn (kb k) 92, (dig (tn (kb k) 54 ++ l.flatten)).l] : List (List Int)).flatten = tn (kb k) 92 ++ (dig (tn (kb k) 54 ++ l.flatten)).l := by simp
  have s1 := (sha_ok ([tn (kb k) 54] ++ l) (by simp; omega) (fun p hp => by
    rcases List.mem_append.1 hp with h | h
    · rw [List.mem_singleton] at h; subst h; exact ⟨by rw [tn_len]; omega, tn_B _ _⟩
    · exact ⟨by have := (hs p h).1; omega, (hs p h).2⟩) (by rw [f1]; omega)).1
  have s2 := (sha_ok [tn (kb k) 92, (dig (tn (kb k) 54 ++ l.flatten)).l] (by simp) (fun p hp => by
    rcases List.mem_cons.1 hp with h | h
    · subst h; exact ⟨by rw [tn_len]; omega, tn_B _ _⟩
    · rw [List.mem_singleton] at h; subst h; exact ⟨by rw [(dig _).h]; omega, (dig_ok _ i1 i2).2.1⟩) (by rw [f2]; omega)).1
  rw [f1] at s1
  rw [f2] at s2
  unfold hmac_Of
  simp only [hkey_ok k hk hB, turned_ok, Option.bind_some, r, cond_true, s1, s2]
  rfl
theorem rof_ok (k : List Int) (hk : k.length ≤ 4000) (hB : AllB k) (l : List Int) (hl : l.length ≤ 3000) (hlB : AllB l) : ref07_Of 200000 k l = some (hm (kb k) l) := by
  obtain ⟨i1, i2, i3, i4⟩ := hm_in (b := kb k) hl hlB
  have r1 : roomB ((tn (kb k) 54).length + l.length) 1 = true := roomB_of (by have := big_len; rw [tn_len]; omega) (by rw [tn_len]; omega)
  have r2 : roomB ((tn (kb k) 92).length + (dig (tn (kb k) 54 ++ l)).l.length) 1 = true := roomB_of (by have := big_len; rw [tn_len, (dig _).h]; omega) (by rw [tn_len, (dig _).h]; omega)
  unfold ref07_Of
  simp only [rkey_ok k hk hB, Option.bind_some]
  refine (congrArg (fun o => Option.bind o _) (rturn2 (kb k) 54 _ _)).trans ?_
  simp only [Option.bind_some, r1, cond_true, (dig_ok _ i1 i2).2.2]
  refine (congrArg (fun o => Option.bind o _) (rturn3 (kb k) 92 _ _)).trans ?_
  simp only [Option.bind_some, r2, cond_true, (dig_ok _ i3 i4).2.2]
  rfl
end Go.Proofs.Ytbaidlcbldbmdaa
