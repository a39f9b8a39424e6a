/-
  Contract: the first primes, by the document.
-/
import Derived.Test.YtkndelbnjhkbcaaPrimes1
namespace Go.Proofs.Ytkndelbnjhkbcaa
open Go.RowKit
set_option linter.unusedVariables false

theorem primes_end {n : Nat} {many : Int} (hn : n ≤ 1000) (h2 : 2 ≤ n) (hle : (primesTo n).length ≤ many.toNat) (h : ¬ (n < 1000 ∧ ((primesTo n).length : Int) < many)) :
    primesTo n = firstPrimes (min many 168).toNat := by
  rcases Nat.lt_or_ge n 1000 with h' | h'
  · have h3 : ¬ ((primesTo n).length : Int) < many := fun h4 => h ⟨h', h4⟩
    have hl : (primesTo n).length ≤ 168 := by
      have := (primesTo_prefix (1000 - n) n).length_le
      rw [show n + (1000 - n) = 1000 by omega, primesTo_1000] at this
      exact this
    exact primesTo_first hn (by omega)
  · obtain rfl : n = 1000 := by omega
    have := primesTo_1000
    exact primesTo_first (Nat.le_refl _) (by omega)

set_option maxRecDepth 100000 in
set_option maxHeartbeats 1000000 in
theorem ref_primes (many : Int) (w : World) :
    Calls Try.prog 18 #[.int .i64 many] w (RetV 3 w ((firstPrimes (min many 168).toNat).map iv)) := by
  go_enter Try.func18, Try.ntmps18
  go_wp2
  go_loopg [3, 4] 998 (fun g s3 s4 wr => ∃ n : Nat, n + g = 1000 ∧ 2 ≤ n ∧ s4 = .int .i64 n ∧ OV 3 wr w.heap.size s3 (primesTo n).length ((primesTo n).map iv) ∧ (primesTo n).length ≤ many.toNat ∧ Below w.heap.size w wr)
  case atStart => exact ⟨2, rfl, Nat.le_refl _, rfl, OV.nil _ _ _, Nat.zero_le _, Below.refl _ _⟩
  case round =>
    obtain ⟨n, hng, hn2, rfl, hown, hle, hbel⟩ := hrel
    have Hend := Lib.hid (fun h => primes_end (n := n) (many := many) (by omega) hn2 hle h)
    have Hown := Lib.hid hown; clear hown
    obtain ⟨L, hL⟩ : ∃ L, L = primesTo n := ⟨_, rfl⟩
    have HL := Lib.hid hL
    rw [← hL] at Hown hle Hend
    have Hle := Lib.hid hle
    clear hL
    obtain ⟨A, c, rfl, hnc, hcm, hrv⟩ := Hown.out.shape
    clear hrv
    by_cases hlt : n < 1000 ∧ (L.length : Int) < many
    · obtain ⟨hn, hlt⟩ := hlt
      have hLn : L.length ≤ 1000 := by
        have : (primesTo n).length ≤ n := by unfold primesTo; exact Nat.le_trans (List.length_filter_le _ _) (by simp)
        rw [← HL.out] at this; omega
      have hle' : L.length + 1 ≤ many.toNat := by omega
      have Hle' := Lib.hid hle'
      clear Hend hle hle'
      obtain ⟨G, rfl⟩ : ∃ G, gk = G + 1 := ⟨gk - 1, by omega⟩
      obtain ⟨wo, hwo⟩ : ∃ wo : World, wo = wr := ⟨_, rfl⟩
      subst hwo
      go_wp2
      go_loopg [5] (n - 2) (fun g2 s5 wy => ∃ k : Nat, k + g2 = n ∧ 2 ≤ k ∧ s5 = .int .i64 k ∧ (∀ j, 2 ≤ j → j < k → n % j ≠ 0) ∧ wo = wy)
      case atStart => exact ⟨2, by omega, Nat.le_refl _, rfl, fun j h1 h2 => by omega, rfl⟩
      case round =>
        obtain ⟨k, hkg, hk2, rfl, hno, rfl⟩ := hrel
        have Hno := Lib.hid hno; clear hno
        by_cases hk : k < n
        · by_cases hz : n % k = 0
          · have hb : primeB n = false := by
              cases hb : primeB n with
              | false => rfl
              | true => exact absurd hz (primeB_true.1 hb k hk2 hk)
            have Hb := Lib.hid hb; clear hb
            have hz' : ((n : Int) % (k : Int) != 0) = false := by rw [← Int.natCast_emod, hz]; rfl
            have hkn : ((k : Int) == (n : Int)) = false := beq_eq_false_iff_ne.2 (by omega)
            clear hz
            go_wp2
            go_roundg G
            case measure => omega
            case rel => exact ⟨n + 1, by omega, by omega, by go_num, by rw [primesTo_no Hb.out, ← HL.out]; exact Hown.out, by rw [primesTo_no Hb.out, ← HL.out]; exact Hle.out, hbel⟩
          · have hz' : ((n : Int) % (k : Int) != 0) = true := by
              rw [← Int.natCast_emod]; simp; omega
            have Hz := Lib.hid hz; clear hz
            obtain ⟨G2, rfl⟩ : ∃ G2, gk = G2 + 1 := ⟨gk - 1, by omega⟩
            go_wp2
            go_roundg G2
            case measure => omega
            case rel =>
              refine ⟨k + 1, by omega, by omega, by go_num, fun j h1 h2 => ?_, rfl⟩
              rcases Nat.lt_or_ge j k with h | h
              · exact Hno.out j h1 h
              · obtain rfl : j = k := by omega
                exact Hz.out
        · obtain rfl : k = n := by omega
          have hpr : primeB k = true := primeB_true.2 fun j h1 h2 => Hno.out j h1 h2
          have Hpr := Lib.hid hpr; clear hpr
          have hsz := hbel.size
          go_wp2_with (at_builtin; refine wpList_appv el_int rfl (.tmp 30) (.tmp 32) rfl w.heap.size _ _ _ rfl (Hown.out.alloc _) _ _ _ _ rfl (RV.one_ _ _ _ _ (by simp)) (one_i _ _) (by omega) (by simp; omega) ?_; intro v' w1 hown1 hg1 hat1; have Hown1 := Lib.hid hown1; clear hown1)
          go_roundg G
          case measure => omega
          case rel =>
            refine ⟨k + 1, by omega, by omega, by go_num, ?_, by rw [primesTo_yes hn2 Hpr.out, ← HL.out, List.length_append]; exact Hle'.out, (hbel.alloc hsz _).grown hg1 (by simp; omega) fun j hj => (Hown.out.lt j hj).1⟩
            rw [primesTo_yes hn2 Hpr.out, ← HL.out, List.length_append, List.map_append]
            exact Hown1.out
    · have hf := Hend.out hlt
      clear Hend hle
      have Hf := Lib.hid hf; clear hf
      by_cases hn : n < 1000
      · have hge : ¬ (L.length : Int) < many := fun h => hlt ⟨hn, h⟩
        clear hlt
        go_wp2
        go_ret
        rw [← Hf.out]
        exact RetV.of Hown.out hbel
      · clear hlt
        go_wp2
        go_ret
        rw [← Hf.out]
        exact RetV.of Hown.out hbel
end Go.Proofs.Ytkndelbnjhkbcaa
