/-
  Contracts: numbers as rows of digits, by the document: digits, products, which one is above.
-/
import Derived.Test.YtkndelbnjhkbcaaVals
import Derived.Test.YtkndelbnjhkbcaaNval
import Derived.Deep.LoopGhost
namespace Go.Proofs.Ytkndelbnjhkbcaa
open Go.RowKit
set_option linter.unusedVariables false

/-- What hands back a row of digits of its own. -/
def RetDig (w : World) (P : List Nat → Prop) (e : Ending) (w' : World) : Prop :=
  ∃ v l, e = .returned v ∧ OV 22 w' w.heap.size v l.length (l.map uv) ∧ Digs l ∧ P l ∧ Below w.heap.size w w'
theorem RetDig.of {w w' : World} {P : List Nat → Prop} {l : List Nat} {v : Value} {n : Nat} (h : OV 22 w' w.heap.size v n (l.map uv)) (hd : Digs l) (hp : P l) (hb : Below w.heap.size w w') : RetDig w P (.returned v) w' :=
  ⟨v, l, rfl, by have := h.len; rw [List.length_map] at this; rw [this]; exact h, hd, hp, hb⟩
theorem uv_at {w : World} {A : Option Addr} {L : List Nat} {n k : Nat} (h : RV w A n (L.map uv)) (hk : k < n) :
    ∃ ad p, A = some ad ∧ L[k]? = some p ∧ w.cell? (ad.add k) = some (.int .u64 (p : Int)) := by
  obtain ⟨ad, vv, rfl, _, hvk, hcell⟩ := h.at_ hk
  have hl : k < L.length := by have := h.len; rw [List.length_map] at this; omega
  have hp : L[k]? = some L[k] := List.getElem?_eq_getElem hl
  rw [map_at hp] at hvk
  injection hvk with hvk
  subst hvk
  exact ⟨ad, _, rfl, hp, hcell⟩

set_option maxRecDepth 100000 in
set_option maxHeartbeats 1000000 in
theorem ref_digits (n : Nat) (w : World) (hn : n < 18446744073709551616) :
    Calls Try.prog 54 #[.int .u64 n] w (RetDig w fun l => nval l = n ∧ l.length ≤ 4) := by
  go_enter Try.func54, Try.ntmps54
  go_wp2
  go_loopw [0, 3] (fun s0 s3 wr => ∃ (cur : Nat) (acc : List Nat), s0 = .int .u64 cur ∧ cur < 18446744073709551616 ∧ acc.length ≤ 4 ∧ DigAt n acc cur ∧ OV 22 wr w.heap.size s3 acc.length (acc.map uv) ∧ Below w.heap.size w wr) (fun s0 _ _ => (intOf s0).toNat)
  case atStart => exact ⟨n, [], rfl, hn, Nat.zero_le _, DigAt.start _, OV.nil _ _ _, Below.refl _ _⟩
  case round =>
    obtain ⟨cur, acc, rfl, hcur, hal, hdig, hown, hbel⟩ := hrel
    have Hdig := Lib.hid hdig; clear hdig
    have Hown := Lib.hid hown; clear hown
    have hsz := hbel.size
    by_cases hc : 0 < cur
    · have hfew := Hdig.out.few hn hc
      have Hst := Lib.hid Hdig.out.step
      obtain ⟨D, hD⟩ : ∃ D, D = cur % 65536 := ⟨_, rfl⟩
      have hD' : (cur : Int) % 65536 = (D : Int) := by omega
      rw [← hD] at Hst
      clear hD
      go_wp2_with (at_builtin; refine wpList_appv el_u64 rfl (.tmp 6) (.tmp 9) rfl w.heap.size _ _ _ rfl (Hown.out.alloc _) _ _ _ _ rfl (RV.one_ _ _ _ _ (by simp)) (one_i _ _) (by omega) (by simp; omega) ?_; intro v' w1 hown1 hg1 hat1; have Hown1 := Lib.hid hown1; clear hown1)
      go_roundw
      case rel =>
        refine ⟨cur / 65536, acc ++ [D], by go_num, by omega, by simp; omega, Hst.out, ?_, (hbel.alloc hsz _).grown hg1 (by simp; omega) fun j hj => (Hown.out.lt j hj).1⟩
        rw [List.length_append, List.map_append]; exact Hown1.out
      case measure => simp [intOf] <;> omega
    · obtain rfl : cur = 0 := by omega
      have Hl := Lib.hid Hdig.out.last
      go_wp2
      go_ret
      exact RetDig.of Hown.out Hdig.out.2 ⟨Hl.out, hal⟩ hbel

set_option maxHeartbeats 400000 in
theorem ref_at (A : Option Addr) (L : List Nat) (n c j : Nat) (w : World) (h : RV w A n (L.map uv)) (hj : j < 9223372036854775808) (hn : n ≤ maxLen) :
    Calls Try.prog 56 #[.slice A n c, .int .i64 j] w fun e w' => e = .returned (.int .u64 (dig L j : Nat)) ∧ w = w' := by
  unfold maxLen at hn
  have hl : L.length = n := by have := h.len; rwa [List.length_map] at this
  by_cases hlt : j < n
  · obtain ⟨ad, p, rfl, hp, hcell⟩ := uv_at h hlt
    have hd : dig L j = p := by unfold dig; rw [hp]; rfl
    rw [hd]
    clear h hp hd hl
    go_enter Try.func56, Try.ntmps56
    go_wp2
    go_ret
    exact ⟨rfl, rfl⟩
  · have hd : dig L j = 0 := by unfold dig; rw [List.getElem?_eq_none (by omega)]; rfl
    rw [hd]
    clear h hd hl
    go_enter Try.func56, Try.ntmps56
    go_wp2
    go_ret
    exact ⟨rfl, rfl⟩

set_option maxRecDepth 100000 in
set_option maxHeartbeats 1000000 in
theorem ref_above (A B : Option Addr) (a b : List Nat) (n m c d : Nat) (q : Bool) (w : World) (ha : RV w A n (a.map uv)) (hb : RV w B m (b.map uv)) (hda : Digs a) (hdb : Digs b) (hn : n ≤ 100000) (hm : m ≤ 100000) (hq : q = decide (nval b < nval a)) :
    Calls Try.prog 41 #[.slice A n c, .slice B m d] w fun e w' => e = .returned (.bool q) ∧ Qt w w' := by
  have la : a.length = n := by have := ha.len; rwa [List.length_map] at this
  have lb : b.length = m := by have := hb.len; rwa [List.length_map] at this
  have hst := SameFrom.start a b
  rw [la, lb] at hst
  obtain ⟨N, hN⟩ : ∃ N, N = max n m := ⟨_, rfl⟩
  rw [← hN] at hst
  have hmx : max (n : Int) (m : Int) = (N : Int) := by omega
  have hN1 : N ≤ 100000 := by omega
  have Hst := Lib.hid hst; clear hst
  have Hda := Lib.hid hda; clear hda
  have Hdb := Lib.hid hdb; clear hdb
  have Hq := Lib.hid hq; clear hq
  have Ha := Lib.hid ha; clear ha
  have Hb := Lib.hid hb; clear hb
  clear la lb
  have ca := fun j hj w' (hk : Qt w w') => ref_at A a n c j w' (Ha.out.qt hk) hj (by simp [maxLen]; omega)
  have cb := fun j hj w' (hk : Qt w w') => ref_at B b m d j w' (Hb.out.qt hk) hj (by simp [maxLen]; omega)
  have Ca := Lib.hid ca; clear ca
  have Cb := Lib.hid cb; clear cb
  have hnm : (n < m ∧ N = m) ∨ (m ≤ n ∧ N = n) := by omega
  clear hmx hN
  rcases hnm with ⟨hle, hNm⟩ | ⟨hle, hNm⟩
  all_goals
    obtain rfl := hNm
    go_enter Try.func41, Try.ntmps41
    go_wp2
    go_loopw [5] (fun i wr => ∃ k : Nat, k ≤ N ∧ i = .int .i64 ((k : Int) - 1) ∧ SameFrom a b k ∧ Qt w wr) (fun i _ => (intOf i + 1).toNat)
    case atStart => exact ⟨N, Nat.le_refl _, rfl, Hst.out, Qt.refl _⟩
    case round =>
      obtain ⟨k, hk, rfl, hs, hqt⟩ := hrel
      have Hs := Lib.hid hs; clear hs
      clear Hst
      rcases k with _ | j
      · have hf : q = false := by rw [Hq.out, Hs.out.last]; simp
        have Hf := Lib.hid hf; clear hf
        go_wp2
        go_ret
        exact ⟨ret_bool Hf.out.symm, hqt⟩
      · have hj : ((j + 1 : Nat) : Int) - 1 = (j : Int) := by omega
        rw [hj]
        clear hj
        have c1 := Ca.out j (by omega) _ hqt
        have c2 := Cb.out j (by omega) _ hqt
        have d1 := Hda.out.dig j
        have d2 := Hdb.out.dig j
        obtain ⟨x, hx⟩ : ∃ x, x = dig a j := ⟨_, rfl⟩
        obtain ⟨y, hy⟩ : ∃ y, y = dig b j := ⟨_, rfl⟩
        rw [← hx] at c1 d1
        rw [← hy] at c2 d2
        have Hx := Lib.hid hx; clear hx
        have Hy := Lib.hid hy; clear hy
        have C1 := Lib.hid c1; clear c1
        have C2 := Lib.hid c2; clear c2
        by_cases hxy : x = y
        · subst hxy
          have Hs' := Lib.hid (Hs.out.step (by rw [← Hx.out, ← Hy.out]))
          go_wp2_with fail
          refine C1.out.mono ?_
          rintro e w1 ⟨rfl, rfl⟩
          go_wp2_with fail
          refine C2.out.mono ?_
          rintro e w1 ⟨rfl, rfl⟩
          go_wp2
          go_roundw
          case rel => exact ⟨j, by omega, rfl, Hs'.out, hqt⟩
          case measure => simp [intOf] <;> omega
        · have hne : ((x : Int) != (y : Int)) = true := by simp; omega
          have hf : q = decide (y < x) := by
            rw [Hq.out, Hs.out.part Hda.out Hdb.out (by rw [← Hx.out, ← Hy.out]; exact hxy), ← Hx.out, ← Hy.out]
          have Hf := Lib.hid hf; clear hf hxy
          go_wp2_with fail
          refine C1.out.mono ?_
          rintro e w1 ⟨rfl, rfl⟩
          go_wp2_with fail
          refine C2.out.mono ?_
          rintro e w1 ⟨rfl, rfl⟩
          go_wp2_with fail
          refine C1.out.mono ?_
          rintro e w1 ⟨rfl, rfl⟩
          go_wp2_with fail
          refine C2.out.mono ?_
          rintro e w1 ⟨rfl, rfl⟩
          go_wp2
          go_ret
          exact ⟨ret_bool (by first | rw [Hf.out]; done | (rw [Hf.out, Bool.eq_iff_iff]; simp)), hqt⟩
end Go.Proofs.Ytkndelbnjhkbcaa
