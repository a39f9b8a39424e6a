/-
  Walk: the first primes, any many of them, and their roots' bits, are the document's.
-/
import Derived.Test.YtkndelbnjhkbcaaLawS02
import Derived.Test.YtkndelbnjhkbcaaRefPrimes
import Derived.Test.YtkndelbnjhkbcaaRef02d
import Derived.Deep.RegionHeld3
namespace Go.Proofs.Ytkndelbnjhkbcaa
open Go.RowKit
set_option linter.unusedVariables false

theorem wv_at {w : World} {A : Option Addr} {L : List Nat} {n k : Nat} (h : RV w A n (L.map wv)) (hk : k < n) :
    ∃ ad p, A = some ad ∧ L[k]? = some p ∧ ad.block < w.heap.size ∧ w.cell? (ad.add k) = some (.int .u32 (p : Int)) := by
  obtain ⟨ad, vv, rfl, hlt, hvk, hcell⟩ := h.at_ hk
  have hl : k < L.length := by have := h.len; rw [List.length_map] at this; omega
  have hp : L[k]? = some L[k] := List.getElem?_eq_getElem hl
  rw [map_at hp] at hvk
  injection hvk with hvk
  subst hvk
  exact ⟨ad, _, rfl, hp, hlt, hcell⟩
theorem iv_at' {w : World} {A : Option Addr} {L : List Nat} {n k : Nat} (h : RV w A n (L.map iv)) (hk : k < n) :
    ∃ ad p, A = some ad ∧ L[k]? = some p ∧ ad.block < w.heap.size ∧ w.cell? (ad.add k) = some (.int .i64 (p : Int)) := by
  obtain ⟨ad, vv, rfl, hlt, hvk, hcell⟩ := h.at_ hk
  have hl : k < L.length := by have := h.len; rw [List.length_map] at this; omega
  have hp : L[k]? = some L[k] := List.getElem?_eq_getElem hl
  rw [map_at hp] at hvk
  injection hvk with hvk
  subst hvk
  exact ⟨ad, _, rfl, hp, hlt, hcell⟩
theorem fracs_at {m m' k p f : Nat} {d : Int} (h : m ≤ m') (hf : (fracs m d)[k]? = some f) (hp : (firstPrimes m')[k]? = some p) : f = fracI (p : Int) d := by
  unfold fracs at hf
  rw [List.getElem?_map] at hf
  have hk : k < m := by
    have := (List.getElem?_eq_some_iff.1 (by rw [List.getElem?_map]; exact hf : ((firstPrimes m).map fun (p : Nat) => fracI (p : Int) d)[k]? = some f)).1
    rw [List.length_map, firstPrimes_length] at this; omega
  have e : (firstPrimes m)[k]? = (firstPrimes m')[k]? := by
    unfold firstPrimes
    rw [List.getElem?_take, List.getElem?_take, if_pos hk, if_pos (by omega)]
  rw [e, hp] at hf
  simp at hf
  exact hf.symm
theorem add_block (a : Addr) (n : Nat) : (a.add n).block = a.block := block_of_add a n


set_option maxRecDepth 100000 in
set_option maxHeartbeats 2000000 in
theorem law_primes_false (many : Int) (w : World) :
    Calls Try.prog 4 #[.int .i64 many, .bool false] w fun e w' => e = .returned (.bool true) ∧ Below w.heap.size w w' := by
  have c1 := fun w => roots_primes many w
  have c2 := fun w => ref_primes many w
  have c3 := fun w => roots_fracs (min many 10) 2 w
  have c4 := fun (p : Nat) w => ref_frac (p : Int) 2 w
  obtain ⟨M, hM⟩ : ∃ M, M = (min many 168).toNat := ⟨_, rfl⟩
  obtain ⟨K, hK⟩ : ∃ K, K = (min (min many 10) 168).toNat := ⟨_, rfl⟩
  rw [← hM] at c1 c2
  rw [← hK] at c3
  obtain ⟨L, hL⟩ : ∃ L, L = firstPrimes M := ⟨_, rfl⟩
  obtain ⟨G, hG⟩ : ∃ G, G = fracs K 2 := ⟨_, rfl⟩
  have hLl : L.length = min M 168 := by rw [hL, firstPrimes_length]
  have hGl : G.length = K := by rw [hG]; unfold fracs; rw [List.length_map, firstPrimes_length]; omega
  have hat : ∀ k p f : Nat, G[k]? = some f → L[k]? = some p → f = fracI (p : Int) 2 := fun k p f h1 h2 => fracs_at (m := K) (m' := M) (by omega) (by rw [← hG]; exact h1) (by rw [← hL]; exact h2)
  rw [← hL] at c1 c2
  rw [← hG] at c3
  obtain ⟨J, hJ⟩ : ∃ J, J = min many 10 := ⟨_, rfl⟩
  rw [← hJ] at c3
  have hm2 : min (L.length : Int) 10 = (G.length : Int) := by omega
  have hLb : L.length ≤ 168 := by omega
  have hGL : G.length ≤ L.length := by omega
  have Hat := Lib.hid hat; clear hat
  have C1 := Lib.hid c1; clear c1
  have C2 := Lib.hid c2; clear c2
  have C3 := Lib.hid c3; clear c3
  have C4 := Lib.hid c4; clear c4
  clear hM hK hL hG hLl hGl
  have hJ' : min many 10 = J := hJ.symm
  clear hJ
  go_enter Try.func4, Try.ntmps4
  go_wp2_with fail
  refine (C1.out _).mono ?_
  rintro e w1 ⟨v1, rfl, hown1, hb1⟩
  rw [List.length_map] at hown1
  obtain ⟨A, c, rfl, hnc, hcm, hrv⟩ := hown1.shape
  have Hrv := Lib.hid hrv; clear hrv hown1
  go_wp2_with fail
  refine (C2.out _).mono ?_
  rintro e w2 ⟨v2, rfl, hown2, hb2⟩
  rw [List.length_map] at hown2
  obtain ⟨A2, c2, rfl, hnc2, hcm2, hrv2⟩ := hown2.shape
  have Hrv2 := Lib.hid hrv2; clear hrv2 hown2
  have Hrv1 := Lib.hid (Hrv.out.below hb2); clear Hrv
  have hb12 := hb1.trans (hb2.mono hb1.size)
  clear hb1 hb2
  go_wp2
  go_loopw [23] (fun i wr => ∃ k : Nat, k ≤ L.length ∧ i = .int .i64 k ∧ Qt w2 wr) (fun i _ => L.length - (intOf i).toNat)
  case atStart => exact ⟨0, Nat.zero_le _, rfl, Qt.refl _⟩
  case round =>
    obtain ⟨k, hk, rfl, q, rfl⟩ := hrel
    by_cases hlt : k < L.length
    · obtain ⟨ad, p, hA, hp, hcell⟩ := iv_at Hrv1.out hlt
      obtain ⟨ad2, p2, hA2, hp2, hcell2⟩ := iv_at Hrv2.out hlt
      have hpp : p2 = p := by rw [hp] at hp2; injection hp2 with h; exact h.symm
      subst hpp hA hA2
      clear hp hp2
      go_wp2
      go_quiet (fail)
      go_wp2
      go_roundw
      case rel => exact ⟨k + 1, by omega, by go_num, by first | exact Qt.d _ _ | exact Qt.dd _ _ _⟩
      case measure => simp [intOf] <;> omega
    · skip
      have hbq := below_qt hb12 (Qt.d w2 q)
      have Hrv2' := Lib.hid (Hrv2.out.qt (Qt.d w2 q))
      go_wp2_with fail
      refine (C3.out _).mono ?_
      rintro e w3 ⟨v3, rfl, hown3, hb3⟩
      rw [List.length_map] at hown3
      obtain ⟨A3, c3, rfl, hnc3, hcm3, hrv3⟩ := hown3.shape
      have Hrv3 := Lib.hid hrv3; clear hrv3 hown3
      have Hrv23 := Lib.hid (Hrv2'.out.below hb3)
      have hb13 := hbq.trans (hb3.mono hbq.size)
      clear hb12 hbq hb3
      go_wp2
      go_loopw [48] (fun i wr => ∃ k : Nat, k ≤ G.length ∧ i = .int .i64 k ∧ Below w3.heap.size w3 wr) (fun i _ => G.length - (intOf i).toNat)
      case atStart => exact ⟨0, Nat.zero_le _, rfl, Below.refl _ _⟩
      case round =>
        obtain ⟨i, hi, rfl, hbr⟩ := hrel
        by_cases hlt : i < G.length
        · obtain ⟨ad, f, hA, hf, hl1, hcell⟩ := wv_at (Hrv3.out.below hbr) hlt
          obtain ⟨ad2, p, hA2, hp, hl2, hcell2⟩ := iv_at' (Hrv23.out.below hbr) (by omega : i < L.length)
          have hfp := Hat.out i p f hf hp
          have c4 := C4.out p
          rw [← hfp] at c4
          have C4' := Lib.hid c4; clear c4
          subst hA hA2
          clear hf hp hfp
          have hiL : i < L.length := by omega
          go_wp2
          obtain ⟨wo, hwo⟩ : ∃ wo : World, wo = wr := ⟨_, rfl⟩
          subst hwo
          have hbd : Below wo.heap.size wo wo.drew := (Below.refl _ _).drew
          have hkeep : ∀ w' : World, w'.cell? (ad.add i) = some (.int .u32 f) → w'.cell? (ad2.add i) = some (.int .i64 p) → Below wo.heap.size wo w' →
              Calls Try.prog 15 #[.int .i64 p, .int .i64 2] w' fun e w4 => e = .returned (.int .u32 f) ∧ w4.cell? (ad.add i) = some (.int .u32 f) ∧ w4.cell? (ad2.add i) = some (.int .i64 p) ∧ Below wo.heap.size wo w4 := fun w' g1 g2 g3 =>
            (C4'.out w').mono fun e w4 ⟨he, hbz⟩ => by
              have := g3.size
              exact ⟨he, (hbz.cell (by rw [block_of_add]; omega)).trans g1, (hbz.cell (by rw [block_of_add]; omega)).trans g2, g3.trans (hbz.mono this)⟩
          have Hkeep := Lib.hid hkeep; clear hkeep
          go_region_held3 (fun w' => w'.cell? (ad.add i) = some (.int .u32 f) ∧ w'.cell? (ad2.add i) = some (.int .i64 p) ∧ Below wo.heap.size wo w') (first | go_keep | (go_split_ands; exact ⟨by assumption, by assumption, by assumption⟩) | (exact ⟨by assumption, by assumption, by assumption⟩))
            (first | (go_at_call 15; refine (Hkeep.out _ (by assumption) (by assumption) (by assumption)).mono ?_; rintro e w4 ⟨rfl, hz1, hz2, hz3⟩))
          go_wp2
          go_roundw
          case rel =>
            refine ⟨i + 1, by omega, by go_num, hbr.trans (Below.mono ?_ hbr.size)⟩
            assumption
          case measure => simp [intOf] <;> omega
        · go_wp2_with fail
          refine (alive02 _).mono ?_
          rintro e w7 ⟨rfl, hb7⟩
          have hbe := hb13.trans (hbr.mono hb13.size)
          go_wp2
          go_ret
          exact ⟨rfl, hbe.trans (hb7.mono hbe.size)⟩

set_option maxRecDepth 100000 in
set_option maxHeartbeats 2000000 in
theorem law_primes_true (many : Int) (w : World) :
    Calls Try.prog 4 #[.int .i64 many, .bool true] w fun e w' => e = .returned (.bool true) ∧ Below w.heap.size w w' := by
  have c1 := fun w => roots_primes many w
  have c2 := fun w => ref_primes many w
  have c3 := fun w => roots_fracs (min many 10) 3 w
  have c4 := fun (p : Nat) w => ref_frac (p : Int) 3 w
  obtain ⟨M, hM⟩ : ∃ M, M = (min many 168).toNat := ⟨_, rfl⟩
  obtain ⟨K, hK⟩ : ∃ K, K = (min (min many 10) 168).toNat := ⟨_, rfl⟩
  rw [← hM] at c1 c2
  rw [← hK] at c3
  obtain ⟨L, hL⟩ : ∃ L, L = firstPrimes M := ⟨_, rfl⟩
  obtain ⟨G, hG⟩ : ∃ G, G = fracs K 3 := ⟨_, rfl⟩
  have hLl : L.length = min M 168 := by rw [hL, firstPrimes_length]
  have hGl : G.length = K := by rw [hG]; unfold fracs; rw [List.length_map, firstPrimes_length]; omega
  have hat : ∀ k p f : Nat, G[k]? = some f → L[k]? = some p → f = fracI (p : Int) 3 := fun k p f h1 h2 => fracs_at (m := K) (m' := M) (by omega) (by rw [← hG]; exact h1) (by rw [← hL]; exact h2)
  rw [← hL] at c1 c2
  rw [← hG] at c3
  obtain ⟨J, hJ⟩ : ∃ J, J = min many 10 := ⟨_, rfl⟩
  rw [← hJ] at c3
  have hm2 : min (L.length : Int) 10 = (G.length : Int) := by omega
  have hLb : L.length ≤ 168 := by omega
  have hGL : G.length ≤ L.length := by omega
  have Hat := Lib.hid hat; clear hat
  have C1 := Lib.hid c1; clear c1
  have C2 := Lib.hid c2; clear c2
  have C3 := Lib.hid c3; clear c3
  have C4 := Lib.hid c4; clear c4
  clear hM hK hL hG hLl hGl
  have hJ' : min many 10 = J := hJ.symm
  clear hJ
  go_enter Try.func4, Try.ntmps4
  go_wp2_with fail
  refine (C1.out _).mono ?_
  rintro e w1 ⟨v1, rfl, hown1, hb1⟩
  rw [List.length_map] at hown1
  obtain ⟨A, c, rfl, hnc, hcm, hrv⟩ := hown1.shape
  have Hrv := Lib.hid hrv; clear hrv hown1
  go_wp2_with fail
  refine (C2.out _).mono ?_
  rintro e w2 ⟨v2, rfl, hown2, hb2⟩
  rw [List.length_map] at hown2
  obtain ⟨A2, c2, rfl, hnc2, hcm2, hrv2⟩ := hown2.shape
  have Hrv2 := Lib.hid hrv2; clear hrv2 hown2
  have Hrv1 := Lib.hid (Hrv.out.below hb2); clear Hrv
  have hb12 := hb1.trans (hb2.mono hb1.size)
  clear hb1 hb2
  go_wp2
  go_loopw [23] (fun i wr => ∃ k : Nat, k ≤ L.length ∧ i = .int .i64 k ∧ Qt w2 wr) (fun i _ => L.length - (intOf i).toNat)
  case atStart => exact ⟨0, Nat.zero_le _, rfl, Qt.refl _⟩
  case round =>
    obtain ⟨k, hk, rfl, q, rfl⟩ := hrel
    by_cases hlt : k < L.length
    · obtain ⟨ad, p, hA, hp, hcell⟩ := iv_at Hrv1.out hlt
      obtain ⟨ad2, p2, hA2, hp2, hcell2⟩ := iv_at Hrv2.out hlt
      have hpp : p2 = p := by rw [hp] at hp2; injection hp2 with h; exact h.symm
      subst hpp hA hA2
      clear hp hp2
      go_wp2
      go_quiet (fail)
      go_wp2
      go_roundw
      case rel => exact ⟨k + 1, by omega, by go_num, by first | exact Qt.d _ _ | exact Qt.dd _ _ _⟩
      case measure => simp [intOf] <;> omega
    · skip
      have hbq := below_qt hb12 (Qt.d w2 q)
      have Hrv2' := Lib.hid (Hrv2.out.qt (Qt.d w2 q))
      go_wp2_with fail
      refine (C3.out _).mono ?_
      rintro e w3 ⟨v3, rfl, hown3, hb3⟩
      rw [List.length_map] at hown3
      obtain ⟨A3, c3, rfl, hnc3, hcm3, hrv3⟩ := hown3.shape
      have Hrv3 := Lib.hid hrv3; clear hrv3 hown3
      have Hrv23 := Lib.hid (Hrv2'.out.below hb3)
      have hb13 := hbq.trans (hb3.mono hbq.size)
      clear hb12 hbq hb3
      go_wp2
      go_loopw [48] (fun i wr => ∃ k : Nat, k ≤ G.length ∧ i = .int .i64 k ∧ Below w3.heap.size w3 wr) (fun i _ => G.length - (intOf i).toNat)
      case atStart => exact ⟨0, Nat.zero_le _, rfl, Below.refl _ _⟩
      case round =>
        obtain ⟨i, hi, rfl, hbr⟩ := hrel
        by_cases hlt : i < G.length
        · obtain ⟨ad, f, hA, hf, hl1, hcell⟩ := wv_at (Hrv3.out.below hbr) hlt
          obtain ⟨ad2, p, hA2, hp, hl2, hcell2⟩ := iv_at' (Hrv23.out.below hbr) (by omega : i < L.length)
          have hfp := Hat.out i p f hf hp
          have c4 := C4.out p
          rw [← hfp] at c4
          have C4' := Lib.hid c4; clear c4
          subst hA hA2
          clear hf hp hfp
          have hiL : i < L.length := by omega
          go_wp2
          obtain ⟨wo, hwo⟩ : ∃ wo : World, wo = wr := ⟨_, rfl⟩
          subst hwo
          have hbd : Below wo.heap.size wo wo.drew := (Below.refl _ _).drew
          have hkeep : ∀ w' : World, w'.cell? (ad.add i) = some (.int .u32 f) → w'.cell? (ad2.add i) = some (.int .i64 p) → Below wo.heap.size wo w' →
              Calls Try.prog 15 #[.int .i64 p, .int .i64 3] w' fun e w4 => e = .returned (.int .u32 f) ∧ w4.cell? (ad.add i) = some (.int .u32 f) ∧ w4.cell? (ad2.add i) = some (.int .i64 p) ∧ Below wo.heap.size wo w4 := fun w' g1 g2 g3 =>
            (C4'.out w').mono fun e w4 ⟨he, hbz⟩ => by
              have := g3.size
              exact ⟨he, (hbz.cell (by rw [block_of_add]; omega)).trans g1, (hbz.cell (by rw [block_of_add]; omega)).trans g2, g3.trans (hbz.mono this)⟩
          have Hkeep := Lib.hid hkeep; clear hkeep
          go_region_held3 (fun w' => w'.cell? (ad.add i) = some (.int .u32 f) ∧ w'.cell? (ad2.add i) = some (.int .i64 p) ∧ Below wo.heap.size wo w') (first | go_keep | (go_split_ands; exact ⟨by assumption, by assumption, by assumption⟩) | (exact ⟨by assumption, by assumption, by assumption⟩))
            (first | (go_at_call 15; refine (Hkeep.out _ (by assumption) (by assumption) (by assumption)).mono ?_; rintro e w4 ⟨rfl, hz1, hz2, hz3⟩))
          go_wp2
          go_roundw
          case rel =>
            refine ⟨i + 1, by omega, by go_num, hbr.trans (Below.mono ?_ hbr.size)⟩
            assumption
          case measure => simp [intOf] <;> omega
        · go_wp2_with fail
          refine (alive02 _).mono ?_
          rintro e w7 ⟨rfl, hb7⟩
          have hbe := hb13.trans (hbr.mono hb13.size)
          go_wp2
          go_ret
          exact ⟨rfl, hbe.trans (hb7.mono hbe.size)⟩

theorem law_primes (many : Int) (b : Bool) (w : World) :
    Calls Try.prog 4 #[.int .i64 many, .bool b] w fun e w' => e = .returned (.bool true) ∧ Below w.heap.size w w' := by
  cases b
  · exact law_primes_false many w
  · exact law_primes_true many w
end Go.Proofs.Ytkndelbnjhkbcaa
