/-
  Contracts: the first primes, by the program.
-/
import Derived.Test.YtkndelbnjhkbcaaVals
import Derived.Test.YtkndelbnjhkbcaaPrimesPlain
import Derived.Deep.LoopGhost
namespace Go.Proofs.Ytkndelbnjhkbcaa
open Go.RowKit
set_option linter.unusedVariables false

/-- What hands back a slice of values of its own. -/
def RetV (E : TypeId) (w : World) (vs : List Value) (e : Ending) (w' : World) : Prop :=
  ∃ v, e = .returned v ∧ OV E w' w.heap.size v vs.length vs ∧ Below w.heap.size w w'
theorem RetV.of {E : TypeId} {w w' : World} {vs : List Value} {v : Value} {n : Nat} (h : OV E w' w.heap.size v n vs) (hb : Below w.heap.size w w') : RetV E w vs (.returned v) w' :=
  ⟨v, rfl, by rw [h.len]; exact h, hb⟩

theorem none_before {L : List Nat} {n j p : Nat} (h : ∀ i q, i < j → L[i]? = some q → n % q ≠ 0) (hp : L[j]? = some p) (hn : n % p ≠ 0) : ∀ i q, i < j + 1 → L[i]? = some q → n % q ≠ 0 := by
  intro i q hi hq
  rcases Nat.lt_or_ge i j with h' | h'
  · exact h i q h' hq
  · obtain rfl : i = j := by omega
    rw [hp] at hq; injection hq with hq; subst hq; exact hn


set_option maxHeartbeats 800000 in
theorem roots_primes_few (many : Int) (M : Nat) (w : World) (h1 : many ≤ 168) (hM : M = many.toNat) :
    Calls Try.prog 17 #[.int .i64 many] w (RetV 3 w ((firstPrimes M).map iv)) := by
  have HM := Lib.hid hM; clear hM
  go_enter Try.func17, Try.ntmps17
  go_wp2
  go_step3
  go_wp2
  go_step3
  go_wp2
  go_loopg [3, 4] 998 (fun g s3 s4 wr => ∃ n : Nat, n + g = 1000 ∧ 2 ≤ n ∧ s4 = .int .i64 n ∧ OV 3 wr w.heap.size s3 (primesTo n).length ((primesTo n).map iv) ∧ (primesTo n).length ≤ M ∧ Below w.heap.size w wr)
  case atStart => exact ⟨2, rfl, Nat.le_refl _, rfl, OV.nil _ _ _, Nat.zero_le _, Below.refl _ _⟩
  case round =>
    obtain ⟨n, hng, hn2, rfl, hown, hle, hbel⟩ := hrel
    have Hown := Lib.hid hown; clear hown
    by_cases hlt : (primesTo n).length < M
    · have hn8 := primesTo_few hlt (by have := HM.out; omega)
      obtain ⟨A, c, rfl, hnc, hcm, hrv⟩ := Hown.out.shape
      obtain ⟨L, hL⟩ : ∃ L, L = primesTo n := ⟨_, rfl⟩
      have HL := Lib.hid hL
      rw [← hL] at Hown hlt hle hnc hrv ⊢
      clear hL
      have hLn : L.length ≤ 168 := by have := HM.out; omega
      have hlt' : (L.length : Int) < many := by have := HM.out; omega
      have Hrv := Lib.hid hrv; clear hrv
      obtain ⟨G, rfl⟩ : ∃ G, gk = G + 1 := ⟨gk - 1, by omega⟩
      obtain ⟨wo, hwo⟩ : ∃ wo : World, wo = wr := ⟨_, rfl⟩
      subst hwo
      go_wp2
      go_loopg [17] L.length (fun g2 s17 wy => ∃ j : Nat, j + g2 = L.length ∧ s17 = .int .i64 j ∧ (∀ i p, i < j → L[i]? = some p → n % p ≠ 0) ∧ wo = wy)
      case atStart => exact ⟨0, by omega, rfl, fun i p h => by omega, rfl⟩
      case round =>
        obtain ⟨j, hjg, rfl, hno, rfl⟩ := hrel
        have Hno := Lib.hid hno; clear hno
        by_cases hj : j < L.length
        · obtain ⟨ad, vv, rfl, _, hvk, hcell⟩ := Hrv.out.at_ hj
          obtain ⟨p, hp⟩ : ∃ p, L[j]? = some p := ⟨_, List.getElem?_eq_getElem hj⟩
          rw [map_at hp] at hvk
          injection hvk with hvk
          subst hvk
          unfold iv at hcell
          have hpp := mem_primesTo.1 (by rw [← HL.out]; exact List.mem_of_getElem? hp)
          obtain ⟨hp1, hp2, hp3⟩ := hpp
          have Hp := Lib.hid hp; clear hp
          have Hp3 := Lib.hid hp3; clear hp3
          by_cases hz : n % p = 0
          · have Hb := Lib.hid (primeB_not (by rw [← HL.out]; exact Hp.out) hz)
            have hz' : ((n : Int) % (p : Int) == 0) = true := by rw [← Int.natCast_emod, hz]; rfl
            clear hz
            go_wp2
            go_roundg G
            case measure => omega
            case rel => exact ⟨n + 1, by omega, by omega, by go_num, by rw [primesTo_no Hb.out, ← HL.out]; exact Hown.out, by rw [primesTo_no Hb.out, ← HL.out]; exact hle, hbel⟩
          · have hz' : ((n : Int) % (p : Int) == 0) = false := by
              rw [← Int.natCast_emod]; simp; omega
            have Hn := Lib.hid (none_before Hno.out Hp.out hz)
            clear hz
            obtain ⟨G2, rfl⟩ : ∃ G2, gk = G2 + 1 := ⟨gk - 1, by omega⟩
            go_wp2
            go_roundg G2
            case measure => omega
            case rel => exact ⟨j + 1, by omega, by go_num, Hn.out, rfl⟩
        · have hpr : primeB n = true := primeB_of fun i p hi hq => Hno.out i p (by rw [← HL.out] at hi; omega) (by rw [HL.out]; exact hq)
          have Hpr := Lib.hid hpr; clear hpr
          have hsz := hbel.size
          go_wp2_with (at_builtin; refine wpList_appv el_int rfl (.tmp 26) (.tmp 28) rfl w.heap.size _ _ _ rfl (Hown.out.alloc _) _ _ _ _ rfl (RV.one_ _ _ _ _ (by simp)) (one_i _ _) (by omega) (by simp; omega) ?_; intro v' w1 hown1 hg1 hat1; have Hown1 := Lib.hid hown1; clear hown1)
          go_roundg G
          case measure => omega
          case rel =>
            refine ⟨n + 1, by omega, by omega, by go_num, ?_, by rw [primesTo_yes hn2 Hpr.out, ← HL.out, List.length_append]; exact hlt, (hbel.alloc hsz _).grown hg1 (by simp; omega) fun j hj => (Hown.out.lt j hj).1⟩
            rw [primesTo_yes hn2 Hpr.out, ← HL.out, List.length_append, List.map_append]
            exact Hown1.out
    · have hf := primesTo_first (n := n) (m := M) (by omega) (by omega)
      obtain ⟨A, c, rfl, hnc, hcm, hrv⟩ := Hown.out.shape
      obtain ⟨L, hL⟩ : ∃ L, L = primesTo n := ⟨_, rfl⟩
      rw [← hL] at Hown hlt hle hnc hrv hf ⊢
      have Hf := Lib.hid hf; clear hf hrv hL
      have hge : ¬ (L.length : Int) < many := by have := HM.out; omega
      go_wp2
      try rw [Exit.noGoto_ret]
      go_ret
      rw [← Hf.out]
      exact RetV.of Hown.out hbel

set_option maxHeartbeats 800000 in
theorem roots_primes_many (many : Int) (M : Nat) (w : World) (h1 : 168 < many) (hM : M = 168) :
    Calls Try.prog 17 #[.int .i64 many] w (RetV 3 w ((firstPrimes M).map iv)) := by
  have HM := Lib.hid hM; clear hM
  go_enter Try.func17, Try.ntmps17
  go_wp2
  go_step3
  go_wp2
  go_step3
  go_wp2
  go_loopg [3, 4] 998 (fun g s3 s4 wr => ∃ n : Nat, n + g = 1000 ∧ 2 ≤ n ∧ s4 = .int .i64 n ∧ OV 3 wr w.heap.size s3 (primesTo n).length ((primesTo n).map iv) ∧ (primesTo n).length ≤ M ∧ Below w.heap.size w wr)
  case atStart => exact ⟨2, rfl, Nat.le_refl _, rfl, OV.nil _ _ _, Nat.zero_le _, Below.refl _ _⟩
  case round =>
    obtain ⟨n, hng, hn2, rfl, hown, hle, hbel⟩ := hrel
    have Hown := Lib.hid hown; clear hown
    by_cases hlt : (primesTo n).length < M
    · have hn8 := primesTo_few hlt (by have := HM.out; omega)
      obtain ⟨A, c, rfl, hnc, hcm, hrv⟩ := Hown.out.shape
      obtain ⟨L, hL⟩ : ∃ L, L = primesTo n := ⟨_, rfl⟩
      have HL := Lib.hid hL
      rw [← hL] at Hown hlt hle hnc hrv ⊢
      clear hL
      have hLn : L.length ≤ 168 := by have := HM.out; omega
      have hlt' : (L.length : Int) < 168 := by have := HM.out; omega
      have Hrv := Lib.hid hrv; clear hrv
      obtain ⟨G, rfl⟩ : ∃ G, gk = G + 1 := ⟨gk - 1, by omega⟩
      obtain ⟨wo, hwo⟩ : ∃ wo : World, wo = wr := ⟨_, rfl⟩
      subst hwo
      go_wp2
      go_loopg [17] L.length (fun g2 s17 wy => ∃ j : Nat, j + g2 = L.length ∧ s17 = .int .i64 j ∧ (∀ i p, i < j → L[i]? = some p → n % p ≠ 0) ∧ wo = wy)
      case atStart => exact ⟨0, by omega, rfl, fun i p h => by omega, rfl⟩
      case round =>
        obtain ⟨j, hjg, rfl, hno, rfl⟩ := hrel
        have Hno := Lib.hid hno; clear hno
        by_cases hj : j < L.length
        · obtain ⟨ad, vv, rfl, _, hvk, hcell⟩ := Hrv.out.at_ hj
          obtain ⟨p, hp⟩ : ∃ p, L[j]? = some p := ⟨_, List.getElem?_eq_getElem hj⟩
          rw [map_at hp] at hvk
          injection hvk with hvk
          subst hvk
          unfold iv at hcell
          have hpp := mem_primesTo.1 (by rw [← HL.out]; exact List.mem_of_getElem? hp)
          obtain ⟨hp1, hp2, hp3⟩ := hpp
          have Hp := Lib.hid hp; clear hp
          have Hp3 := Lib.hid hp3; clear hp3
          by_cases hz : n % p = 0
          · have Hb := Lib.hid (primeB_not (by rw [← HL.out]; exact Hp.out) hz)
            have hz' : ((n : Int) % (p : Int) == 0) = true := by rw [← Int.natCast_emod, hz]; rfl
            clear hz
            go_wp2
            go_roundg G
            case measure => omega
            case rel => exact ⟨n + 1, by omega, by omega, by go_num, by rw [primesTo_no Hb.out, ← HL.out]; exact Hown.out, by rw [primesTo_no Hb.out, ← HL.out]; exact hle, hbel⟩
          · have hz' : ((n : Int) % (p : Int) == 0) = false := by
              rw [← Int.natCast_emod]; simp; omega
            have Hn := Lib.hid (none_before Hno.out Hp.out hz)
            clear hz
            obtain ⟨G2, rfl⟩ : ∃ G2, gk = G2 + 1 := ⟨gk - 1, by omega⟩
            go_wp2
            go_roundg G2
            case measure => omega
            case rel => exact ⟨j + 1, by omega, by go_num, Hn.out, rfl⟩
        · have hpr : primeB n = true := primeB_of fun i p hi hq => Hno.out i p (by rw [← HL.out] at hi; omega) (by rw [HL.out]; exact hq)
          have Hpr := Lib.hid hpr; clear hpr
          have hsz := hbel.size
          go_wp2_with (at_builtin; refine wpList_appv el_int rfl (.tmp 26) (.tmp 28) rfl w.heap.size _ _ _ rfl (Hown.out.alloc _) _ _ _ _ rfl (RV.one_ _ _ _ _ (by simp)) (one_i _ _) (by omega) (by simp; omega) ?_; intro v' w1 hown1 hg1 hat1; have Hown1 := Lib.hid hown1; clear hown1)
          go_roundg G
          case measure => omega
          case rel =>
            refine ⟨n + 1, by omega, by omega, by go_num, ?_, by rw [primesTo_yes hn2 Hpr.out, ← HL.out, List.length_append]; exact hlt, (hbel.alloc hsz _).grown hg1 (by simp; omega) fun j hj => (Hown.out.lt j hj).1⟩
            rw [primesTo_yes hn2 Hpr.out, ← HL.out, List.length_append, List.map_append]
            exact Hown1.out
    · have hf := primesTo_first (n := n) (m := M) (by omega) (by omega)
      obtain ⟨A, c, rfl, hnc, hcm, hrv⟩ := Hown.out.shape
      obtain ⟨L, hL⟩ : ∃ L, L = primesTo n := ⟨_, rfl⟩
      rw [← hL] at Hown hlt hle hnc hrv hf ⊢
      have Hf := Lib.hid hf; clear hf hrv hL
      have hge : ¬ (L.length : Int) < 168 := by have := HM.out; omega
      go_wp2
      try rw [Exit.noGoto_ret]
      go_ret
      rw [← Hf.out]
      exact RetV.of Hown.out hbel

theorem roots_primes (many : Int) (w : World) :
    Calls Try.prog 17 #[.int .i64 many] w (RetV 3 w ((firstPrimes (min many 168).toNat).map iv)) := by
  rcases (by omega : many ≤ 168 ∨ 168 < many) with h | h
  · exact roots_primes_few many _ w h (by omega)
  · exact roots_primes_many many _ w h (by omega)
end Go.Proofs.Ytkndelbnjhkbcaa
