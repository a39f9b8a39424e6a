/-
  Walk: the first primes rise, no one divides a later one, and each number up to the last one is a multiple of one of them.
-/
import Derived.Test.YtkndelbnjhkbcaaLawA02
namespace Go.Proofs.Ytkndelbnjhkbcaa
open Go.RowKit
set_option linter.unusedVariables false

/-- Has one of the first j met n? -/
def MetBy (L : List Nat) (n j : Nat) (b : Bool) : Prop := b = true ↔ ∃ i p : Nat, i < j ∧ L[i]? = some p ∧ n % p = 0
theorem MetBy.start (L : List Nat) (n : Nat) : MetBy L n 0 false := by simp [MetBy]
theorem MetBy.stays {L : List Nat} {n j : Nat} (h : MetBy L n j true) : MetBy L n (j + 1) true := by
  obtain ⟨i, p, h1, h2, h3⟩ := h.1 rfl
  exact ⟨fun _ => ⟨i, p, by omega, h2, h3⟩, fun _ => rfl⟩
theorem MetBy.now {L : List Nat} {n j p : Nat} (hp : L[j]? = some p) (h : n % p = 0) : MetBy L n (j + 1) true := ⟨fun _ => ⟨j, p, by omega, hp, h⟩, fun _ => rfl⟩
theorem MetBy.not {L : List Nat} {n j p : Nat} (hb : MetBy L n j false) (hp : L[j]? = some p) (h : n % p ≠ 0) : MetBy L n (j + 1) false := by
  refine ⟨(fun h => by cases h), fun ⟨i, q, h1, h2, h3⟩ => ?_⟩
  rcases Nat.lt_or_ge i j with hi | hi
  · exact hb.2 ⟨i, q, hi, h2, h3⟩
  · obtain rfl : i = j := by omega
    rw [hp] at h2; injection h2 with h2; subst h2; exact absurd h3 h
theorem MetBy.last {L : List Nat} {n : Nat} {b : Bool} (hb : MetBy L n L.length b) (h : ∃ i p : Nat, L[i]? = some p ∧ n % p = 0) : b = true := by
  obtain ⟨i, p, h1, h2⟩ := h
  exact hb.2 ⟨i, p, (List.getElem?_eq_some_iff.1 h1).1, h1, h2⟩
theorem iv_at {w : World} {A : Option Addr} {L : List Nat} {n k : Nat} (h : RV w A n (L.map iv)) (hk : k < n) :
    ∃ ad p, A = some ad ∧ L[k]? = some p ∧ w.cell? (ad.add k) = some (.int .i64 (p : Int)) := by
  obtain ⟨ad, vv, rfl, _, hvk, hcell⟩ := h.at_ hk
  have hl : k < L.length := by have := h.len; rw [List.length_map] at this; omega
  have hp : L[k]? = some L[k] := List.getElem?_eq_getElem hl
  rw [map_at hp] at hvk
  injection hvk with hvk
  subst hvk
  exact ⟨ad, _, rfl, hp, hcell⟩

set_option maxRecDepth 100000 in
set_option maxHeartbeats 2000000 in
theorem law_sieve (a : Nat) (w : World) (ha : a < 256) :
    Calls Try.prog 6 #[.int .u8 a] w fun e w' => e = .returned (.bool true) ∧ Below w.heap.size w w' := by
  obtain ⟨M, hM⟩ : ∃ M : Nat, M = min a 168 := ⟨_, rfl⟩
  have hprimes : ∀ w, Calls Try.prog 17 #[.int .i64 a] w (RetV 3 w ((firstPrimes M).map iv)) := fun w => by
    have := roots_primes a w
    rwa [show (min (a : Int) 168).toNat = M by omega] at this
  obtain ⟨L, hL⟩ : ∃ L, L = firstPrimes M := ⟨_, rfl⟩
  have hlen : L.length = M := by rw [hL, firstPrimes_length]; omega
  rw [← hL] at hprimes
  have HL := Lib.hid hL; clear hL
  have hmin : (min (a : Int) 168) = (L.length : Int) := by omega
  have hL1 : L.length ≤ 168 := by omega
  have hM' := hM
  clear hM hlen
  go_enter Try.func6, Try.ntmps6
  go_wp2_with fail
  refine (hprimes _).mono ?_
  rintro e w1 ⟨v, rfl, hown, hb1⟩
  rw [List.length_map] at hown
  obtain ⟨A, c, rfl, hnc, hcm, hrv⟩ := hown.shape
  have Hrv := Lib.hid hrv
  clear hown hrv
  go_wp2
  go_loopw [23] (fun i wr => ∃ k : Nat, k ≤ L.length ∧ i = .int .i64 k ∧ Qt w1 wr) (fun i _ => L.length - (intOf i).toNat)
  case atStart => exact ⟨0, Nat.zero_le _, rfl, Qt.refl _⟩
  case round =>
    obtain ⟨k, hk, rfl, hq⟩ := hrel
    by_cases hlt : k < L.length
    · obtain ⟨ad, p, hA, hp, hcell⟩ := iv_at (Hrv.out.qt hq) hlt
      have Hp := Lib.hid hp; clear hp
      have hp2 := (firstPrimes_at (by rw [← HL.out]; exact Hp.out)).2.1
      have hpz : 2 ≤ p := (firstPrimes_at (by rw [← HL.out]; exact Hp.out)).1
      obtain ⟨wo, hwo⟩ : ∃ wo : World, wo = wr := ⟨_, rfl⟩
      subst hwo
      have HA := Lib.hid hA
      subst hA
      go_wp2
      go_loopw [32] (fun i wr => ∃ j : Nat, j ≤ k ∧ i = .int .i64 j ∧ Qt w1 wr) (fun i _ => k - (intOf i).toNat)
      case atStart => exact ⟨0, Nat.zero_le _, rfl, hq⟩
      case round =>
        obtain ⟨j, hj, rfl, hq'⟩ := hrel
        by_cases hjl : j < k
        · obtain ⟨ad2, q, hA, hqq, hcell2⟩ := iv_at (Hrv.out.qt hq') (by omega : j < L.length)
          injection hA with hA
          subst hA
          have hq2 := (firstPrimes_at (by rw [← HL.out]; exact hqq)).1
          have hql : q < p := first_rise (by rw [← HL.out]; exact Hp.out) (by rw [← HL.out]; exact hqq) hjl
          have hnd : p % q ≠ 0 := first_ndiv (by rw [← HL.out]; exact Hp.out) (by rw [← HL.out]; exact hqq) hjl
          have hz' : ((p : Int) % (q : Int) == 0) = false := by
            rw [← Int.natCast_emod]; simp; omega
          have Hqq := Lib.hid hqq; clear hqq hnd
          have hcell3 := hcell
          go_wp2
          go_roundw
          case rel => exact ⟨j + 1, by omega, by go_num, hq'⟩
          case measure => simp [intOf] <;> omega
        · go_wp2
          go_roundw
          case rel => exact ⟨k + 1, by omega, by go_num, hq'⟩
          case measure => simp [intOf] <;> omega
    · have hkn : k = L.length := by omega
      subst hkn
      clear hk hlt
      have hbw := below_qt hb1 hq
      by_cases hemp : L.length = 0
      · have hemp' : ((L.length : Int) == 0) = true := beq_iff_eq.2 (by omega)
        have Hemp := Lib.hid hemp; clear hemp
        go_wp2_with fail
        refine (alive02 _).mono ?_
        rintro e w4 ⟨rfl, hb4⟩
        go_wp2
        go_ret
        exact ⟨rfl, hbw.trans (hb4.mono hbw.size)⟩
      · have hpos : 0 < L.length := by omega
        have hemp' : ((L.length : Int) == 0) = false := beq_eq_false_iff_ne.2 (by omega)
        clear hemp
        obtain ⟨wz, hwz⟩ : ∃ wz : World, wz = wr := ⟨_, rfl⟩
        subst hwz
        have hlast := iv_at (Hrv.out.qt hq) (by omega : L.length - 1 < L.length)
        obtain ⟨ad, last, hA, hlp, hlcell⟩ := hlast
        subst hA
        have hll := (firstPrimes_at (by rw [← HL.out]; exact hlp)).2.1
        have Hlp := Lib.hid hlp; clear hlp
        have Hlc := Lib.hid hlcell; clear hlcell
        go_wp2
        go_loopw [8] (fun i wr => ∃ n : Nat, 2 ≤ n ∧ n ≤ 1001 ∧ i = .int .i64 n ∧ Qt w1 wr) (fun i _ => 1001 - (intOf i).toNat)
        case atStart => exact ⟨2, Nat.le_refl _, by omega, rfl, hq⟩
        case round =>
          obtain ⟨n, hn2, hn3, rfl, hq'⟩ := hrel
          clear hq hbw
          have hbw := below_qt hb1 hq'
          have hlast := iv_at (Hrv.out.qt hq') (by omega : L.length - 1 < L.length)
          obtain ⟨ad', last', hA, hlp, hlcell⟩ := hlast
          injection hA with hA
          subst hA
          have hle : last' = last := by
            have := Hlp.out; rw [hlp] at this; injection this
          subst hle
          clear hlp
          by_cases hnl : n ≤ last'
          · obtain ⟨wx, hwx⟩ : ∃ wx : World, wx = wr := ⟨_, rfl⟩
            subst hwx
            go_wp2
            go_loopw [9, 63] (fun m i wr => ∃ (j : Nat) (b : Bool), j ≤ L.length ∧ i = .int .i64 j ∧ m = .bool b ∧ MetBy L n j b ∧ Qt w1 wr) (fun _ i _ => L.length - (intOf i).toNat)
            case atStart => exact ⟨0, false, Nat.zero_le _, rfl, rfl, MetBy.start _ _, hq'⟩
            case round =>
              obtain ⟨j, b, hj, rfl, rfl, hmet, hq2⟩ := hrel
              have Hmet := Lib.hid hmet; clear hmet
              by_cases hjl : j < L.length
              · obtain ⟨ad2, q, hA, hqq, hcell2⟩ := iv_at (Hrv.out.qt hq2) hjl
                injection hA with hA
                subst hA
                have hqz := (firstPrimes_at (by rw [← HL.out]; exact hqq)).1
                have hq1k := (firstPrimes_at (by rw [← HL.out]; exact hqq)).2.1
                have Hqq := Lib.hid hqq; clear hqq
                cases b with
                | true =>
                  have Hn := Lib.hid Hmet.out.stays
                  go_wp2
                  go_roundw
                  case rel => exact ⟨j + 1, true, by omega, by go_num, rfl, Hn.out, hq2⟩
                  case measure => simp [intOf] <;> omega
                | false =>
                  by_cases hz : n % q = 0
                  · have Hn := Lib.hid (MetBy.now Hqq.out hz)
                    have hz' : ((n : Int) % (q : Int) == 0) = true := by rw [← Int.natCast_emod, hz]; rfl
                    clear hz
                    go_wp2
                    go_roundw
                    case rel => exact ⟨j + 1, true, by omega, by go_num, rfl, Hn.out, hq2⟩
                    case measure => simp [intOf] <;> omega
                  · have Hn := Lib.hid (MetBy.not Hmet.out Hqq.out hz)
                    have hz' : ((n : Int) % (q : Int) == 0) = false := by
                      rw [← Int.natCast_emod]; simp; omega
                    clear hz
                    go_wp2
                    go_roundw
                    case rel => exact ⟨j + 1, false, by omega, by go_num, rfl, Hn.out, hq2⟩
                    case measure => simp [intOf] <;> omega
              · obtain rfl : j = L.length := by omega
                have hb : b = true := Hmet.out.last (by rw [HL.out]; exact first_meets hn2 (by rw [← HL.out]; exact Hlp.out) hnl)
                subst hb
                go_wp2
                go_roundw
                case rel => exact ⟨n + 1, by omega, by omega, by go_num, hq2⟩
                case measure => simp [intOf] <;> omega
          · go_wp2_with fail
            refine (alive02 _).mono ?_
            rintro e w4 ⟨rfl, hb4⟩
            go_wp2
            go_ret
            exact ⟨rfl, hbw.trans (hb4.mono hbw.size)⟩
end Go.Proofs.Ytkndelbnjhkbcaa
