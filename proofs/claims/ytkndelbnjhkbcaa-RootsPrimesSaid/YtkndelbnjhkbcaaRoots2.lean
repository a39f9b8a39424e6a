/-
  Contracts: roots, their bits behind the point, those of the first primes.
-/
import Derived.Test.YtkndelbnjhkbcaaRoots1
import Derived.Test.YtkndelbnjhkbcaaPrimes1
namespace Go.Proofs.Ytkndelbnjhkbcaa
open Go.RowKit
set_option linter.unusedVariables false

theorem u64_or_nat (a b : Nat) (ha : a < 18446744073709551616) (hb : b < 18446744073709551616) : bits .or .u64 (a : Int) (b : Int) = ((a ||| b : Nat) : Int) := by
  have hx : a ||| b < 2 ^ 64 := Nat.or_lt_two_pow (by omega) (by omega)
  have e : ∀ x : Nat, x < 18446744073709551616 → (BitVec.ofInt 64 (x : Int)).toNat = x := fun x h => by
    rw [BitVec.ofInt_natCast, BitVec.toNat_ofNat]; exact Nat.mod_eq_of_lt h
  show IntKind.u64.wrap ((BitVec.ofInt 64 (a : Int) ||| BitVec.ofInt 64 (b : Int)).toNat : Int) = _
  rw [BitVec.toNat_or, e a ha, e b hb, IntKind.wrap_u64]
  omega
/-- What the loop's test tells. -/
theorem pow_le_lo {k : Nat} (h : k ≤ 36) : 2 ^ k ≤ 68719476736 := by
  have := Nat.pow_le_pow_right (n := 2) (by omega) h
  omega

set_option maxHeartbeats 800000 in
theorem roots_root (n d b : Nat) (w : World) (hm : MayRoot n d b) :
    Calls Try.prog 11 #[.int .i64 n, .int .i64 d, .int .i64 b] w fun e w' => e = .returned (.tuple #[.int .u64 (rootOf n d b : Nat), .int .i64 0]) ∧ Qt w w' := by
  have Hm := Lib.hid hm
  obtain ⟨h1, h2, h3⟩ := hm
  have hdb : d * b ≤ 96 := by rcases h2 with rfl | rfl <;> omega
  have hd3 : d ≤ 3 := by omega
  have H2 := Lib.hid h2; clear h2
  have hdb' : (d : Int) * (b : Int) ≤ 96 := by have := Int.ofNat_le.2 hdb; simpa using this
  have hdb0 : (0 : Int) ≤ (d : Int) * (b : Int) := Int.mul_nonneg (by omega) (by omega)
  obtain ⟨s, hs⟩ : ∃ s, s = d * b := ⟨_, rfl⟩
  have hdbc : (d : Int) * (b : Int) = (s : Int) := by rw [hs]; simp
  rw [← hs] at hdb
  have Hs := Lib.hid hs; clear hs
  have Hdbc := Lib.hid hdbc; clear hdbc
  go_enter Try.func11, Try.ntmps11
  go_wp2_with fail
  refine (roots_may_yes n d b _ Hm.out).mono ?_
  rintro e w' ⟨rfl, rfl⟩
  go_wp2
  go_loopw [8, 9] (fun r i wr => ∃ k x : Nat, k ≤ 37 ∧ i = .int .i64 ((k : Int) - 1) ∧ r = .int .u64 x ∧ GrowAt n d b k x ∧ Qt w wr) (fun _ i _ => (intOf i + 1).toNat)
  case atStart => exact ⟨37, 0, Nat.le_refl _, rfl, rfl, GrowAt.start _ _ _, Qt.refl _⟩
  case round =>
    obtain ⟨k, x, hk, rfl, rfl, hg, hq⟩ := hrel
    have Hg := Lib.hid hg; clear hg
    have Hq := Lib.hid hq; clear hq
    rcases k with _ | j
    · have hx := Hg.out.last
      have Hx := Lib.hid hx; clear hx
      go_wp2
      go_ret2
      exact ⟨ret2 (int_eq (by rw [Hx.out])) rfl, Hq.out⟩
    · have hj : ((j + 1 : Nat) : Int) - 1 = (j : Int) := by omega
      rw [hj]
      clear hj
      obtain ⟨y, hy⟩ : ∃ y, y = x + 2 ^ j := ⟨_, rfl⟩
      have hyl : y < 137438953472 ∧ x < 137438953472 ∧ 2 ^ j < 137438953472 := by
        have hp := pow_le_lo (k := j) (by omega)
        have hb := Hg.out.2.2
        have : 2 ^ (j + 1) = 2 ^ j * 2 := Nat.pow_succ ..
        have h0 : 0 < 2 ^ j := Nat.pos_of_ne_zero (by simp)
        omega
      obtain ⟨hyl, hxl, hpl⟩ := hyl
      have hor : bits .or .u64 (x : Int) (IntKind.u64.wrap (2 ^ j)) = (y : Int) := by
        obtain ⟨P, hP⟩ : ∃ P, P = 2 ^ j := ⟨_, rfl⟩
        have e1 : (2 : Int) ^ j = (P : Int) := by rw [hP]; simp
        have e2 : (P : Int) % 18446744073709551616 = (P : Int) := by rw [← hP] at hpl; omega
        rw [IntKind.wrap_u64, e1, e2, hP, u64_or_nat _ _ (by omega) (by omega), Hg.out.or, hy]
      have hdbc := Hdbc.out
      have Hy := Lib.hid hy; clear hy
      have Hpl := Lib.hid hpl; clear hpl
      by_cases hc : y ^ d ≤ n * 2 ^ s
      · have hfalse : false = decide (n * 2 ^ s < y ^ d) := by simp; omega
        have Hf := Lib.hid hfalse; clear hfalse
        have Hyes := Lib.hid (Hg.out.yes (by unfold topOf; rw [← Hs.out, ← Hy.out]; exact hc))
        clear hc
        go_wp2_with fail
        refine (roots_above y n d s false _ hyl h1 H2.out hdb Hf.out).mono ?_
        rintro e w' ⟨rfl, hq1⟩
        have Hq1 := Lib.hid (Hq.out.trans hq1); clear hq1
        go_wp2
        go_roundw
        case rel => exact ⟨j, y, by omega, rfl, rfl, by rw [Hy.out]; exact Hyes.out, Hq1.out⟩
        case measure => simp [intOf] <;> omega
      · have htrue : true = decide (n * 2 ^ s < y ^ d) := by simp; omega
        have Hf := Lib.hid htrue; clear htrue
        have Hno := Lib.hid (Hg.out.no (by unfold topOf; rw [← Hs.out, ← Hy.out]; omega))
        clear hc
        go_wp2_with fail
        refine (roots_above y n d s true _ hyl h1 H2.out hdb Hf.out).mono ?_
        rintro e w' ⟨rfl, hq1⟩
        have Hq1 := Lib.hid (Hq.out.trans hq1); clear hq1
        go_wp2
        go_roundw
        case rel => exact ⟨j, x, by omega, rfl, rfl, Hno.out, Hq1.out⟩
        case measure => simp [intOf] <;> omega
set_option maxHeartbeats 400000 in
theorem roots_root_no (n d b : Int) (w : World) (hm : ¬ MayRootI n d b) :
    Calls Try.prog 11 #[.int .i64 n, .int .i64 d, .int .i64 b] w fun e w' => e = .returned (.tuple #[.int .u64 0, .int .i64 1]) ∧ w = w' := by
  have Hm := Lib.hid hm; clear hm
  go_enter Try.func11, Try.ntmps11
  go_wp2_with fail
  refine (roots_may_no n d b _ Hm.out).mono ?_
  rintro e w' ⟨rfl, rfl⟩
  go_wp2
  go_ret2
  exact ⟨rfl, rfl⟩
/-- The root of any numbers, and the error. -/
def rootI (n d b : Int) : Nat := if 0 ≤ n ∧ n ≤ 1000 ∧ (d = 2 ∨ d = 3) ∧ 0 ≤ b ∧ b ≤ 32 then rootOf n.toNat d.toNat b.toNat else 0
def rootE (n d b : Int) : Int := if 0 ≤ n ∧ n ≤ 1000 ∧ (d = 2 ∨ d = 3) ∧ 0 ≤ b ∧ b ≤ 32 then 0 else 1
theorem roots_root_all (n d b : Int) (w : World) :
    Calls Try.prog 11 #[.int .i64 n, .int .i64 d, .int .i64 b] w fun e w' => e = .returned (.tuple #[.int .u64 (rootI n d b : Nat), .int .i64 (rootE n d b)]) ∧ Qt w w' := by
  by_cases h : MayRootI n d b
  · have h' := h
    unfold MayRootI at h'
    obtain ⟨N, D, B, rfl, rfl, rfl, hm⟩ := h.nat
    simp only [rootI, rootE, if_pos h']
    exact roots_root N D B w hm
  · have h' := h
    unfold MayRootI at h'
    simp only [rootI, rootE, if_neg h']
    exact (roots_root_no n d b w h).mono fun e w' ⟨he, hw⟩ => ⟨he, hw ▸ Qt.refl _⟩

/-- Is x the root? -/
theorem roots_is (x : Nat) (n d b : Int) (q : Bool) (w : World) (hx : x < 18446744073709551616) (hq : q = decide (rootE n d b = 0 ∧ x = rootI n d b)) :
    Calls Try.prog 13 #[.int .u64 x, .int .i64 n, .int .i64 d, .int .i64 b] w fun e w' => e = .returned (.bool q) ∧ Qt w w' := by
  obtain ⟨R, hR⟩ : ∃ R, R = rootI n d b := ⟨_, rfl⟩
  obtain ⟨E, hE⟩ : ∃ E, E = rootE n d b := ⟨_, rfl⟩
  have hcall := roots_root_all n d b w
  rw [← hR, ← hE] at hcall hq
  have Hq := Lib.hid hq; clear hq hR hE
  by_cases he : E = 0
  · subst he
    go_enter Try.func13, Try.ntmps13
    go_wp2_with fail
    refine hcall.mono ?_
    rintro e w' ⟨rfl, hq1⟩
    have Hq1 := Lib.hid hq1; clear hq1
    go_wp2
    go_ret
    exact ⟨ret_bool (by rw [Hq.out, Bool.eq_iff_iff]; simp; omega), Hq1.out⟩
  · have he' : (E == 0) = false := by simp; exact he
    have hqf : q = false := by rw [Hq.out]; simp [he]
    have Hqf := Lib.hid hqf
    clear he hqf
    go_enter Try.func13, Try.ntmps13
    go_wp2_with fail
    refine hcall.mono ?_
    rintro e w' ⟨rfl, hq1⟩
    have Hq1 := Lib.hid hq1; clear hq1
    go_wp2
    go_ret
    exact ⟨ret_bool (by rw [Hqf.out]), Hq1.out⟩
/-- The first 32 bits behind the point. -/
def fracI (n d : Int) : Nat := rootI n d 32 % 4294967296
theorem roots_frac (n d : Int) (w : World) :
    Calls Try.prog 14 #[.int .i64 n, .int .i64 d] w fun e w' => e = .returned (.int .u32 (fracI n d : Nat)) ∧ Qt w w' := by
  obtain ⟨R, hR⟩ : ∃ R, R = rootI n d 32 := ⟨_, rfl⟩
  have hcall := roots_root_all n d 32 w
  rw [← hR] at hcall
  have HR := Lib.hid hR; clear hR
  obtain ⟨E, hE⟩ : ∃ E, E = rootE n d 32 := ⟨_, rfl⟩
  rw [← hE] at hcall
  clear hE
  go_enter Try.func14, Try.ntmps14
  go_wp2_with fail
  refine hcall.mono ?_
  rintro e w' ⟨rfl, hq1⟩
  have Hq1 := Lib.hid hq1; clear hq1
  go_wp2
  go_ret
  exact ⟨ret_int (by unfold fracI; rw [← HR.out]; simp), Hq1.out⟩

/-- Those of the first primes. -/
def fracs (m : Nat) (d : Int) : List Nat := (firstPrimes m).map fun (p : Nat) => fracI (p : Int) d
set_option maxHeartbeats 400000 in
theorem roots_fracs (many d : Int) (w : World) :
    Calls Try.prog 19 #[.int .i64 many, .int .i64 d] w (RetV 29 w ((fracs (min many 168).toNat d).map wv)) := by
  have hprimes := roots_primes many w
  obtain ⟨L, hL⟩ : ∃ L, L = firstPrimes (min many 168).toNat := ⟨_, rfl⟩
  unfold fracs
  rw [← hL] at hprimes ⊢
  have hLn : L.length ≤ 168 := by rw [hL, firstPrimes_length]; omega
  clear hL
  go_enter Try.func19, Try.ntmps19
  go_wp2_with fail
  refine hprimes.mono ?_
  rintro e w1 ⟨v, rfl, hown, hb1⟩
  rw [List.length_map] at hown
  obtain ⟨A, c, rfl, hnc, hcm, hrv⟩ := hown.shape
  have Hrv := Lib.hid hrv; clear hrv hown
  go_wp2
  go_loopw [5, 11] (fun v i wr => ∃ k : Nat, k ≤ L.length ∧ i = .int .i64 k ∧ OV 29 wr w1.heap.size v k (((L.take k).map fun (p : Nat) => fracI (p : Int) d).map wv) ∧ Below w.heap.size w wr ∧ Below w1.heap.size w1 wr) (fun _ i _ => L.length - (intOf i).toNat)
  case atStart => exact ⟨0, Nat.zero_le _, rfl, OV.nil _ _ _, hb1, Below.refl _ _⟩
  case round =>
    obtain ⟨k, hk, rfl, hown, hbel, hbel1⟩ := hrel
    have Hown := Lib.hid hown; clear hown
    by_cases hlt : k < L.length
    · obtain ⟨ad, vv, rfl, _, hvk, hcell⟩ := (Hrv.out.below hbel1).at_ hlt
      obtain ⟨p, hp⟩ : ∃ p, L[k]? = some p := ⟨_, List.getElem?_eq_getElem hlt⟩
      rw [map_at hp] at hvk
      injection hvk with hvk
      subst hvk
      unfold iv at hcell
      have Htk := Lib.hid (take_snoc hp)
      clear hp
      have hsz := hbel.size
      obtain ⟨F, hF⟩ : ∃ F, F = fracI (p : Int) d := ⟨_, rfl⟩
      have hfr := roots_frac p d
      rw [← hF] at hfr
      have HF := Lib.hid hF; clear hF
      go_wp2_with fail
      refine (hfr _).mono ?_
      rintro e w2 ⟨rfl, hq2⟩
      have hbel2 := below_qt hbel hq2
      have hbel12 := below_qt hbel1 hq2
      have Hown2 := Lib.hid (Hown.out.qt hq2)
      have hsz2 := hbel2.size
      clear hq2 hfr
      go_wp2_with (at_builtin; refine wpList_appv el_u32 rfl (.tmp 15) (.tmp 19) rfl w1.heap.size _ _ _ rfl (Hown2.out.alloc _) _ _ _ _ rfl (RV.one_ _ _ _ _ (by simp)) (one_i _ _) (by omega) (by have := hbel12.size; simp; omega) ?_; intro v' w3 hown3 hg3 hat3; have Hown3 := Lib.hid hown3; clear hown3)
      go_roundw
      case rel =>
        refine ⟨k + 1, by omega, by go_num, ?_, (hbel2.alloc hsz2 _).grown hg3 (by simp; omega) fun j hj => by have := (Hown2.out.lt j hj).1; have := hb1.size; omega, ?_⟩
        · rw [Htk.out, List.map_append, List.map_append, List.map_singleton, List.map_singleton, ← HF.out]
          exact Hown3.out
        · exact (hbel12.alloc hbel12.size _).grown hg3 (by have := hbel12.size; simp; omega) fun j hj => (Hown2.out.lt j hj).1
      case measure => simp [intOf]; omega
    · have hkn : k = L.length := by omega
      subst hkn
      rw [List.take_length] at Hown
      go_wp2
      go_ret
      exact RetV.of (Hown.out.more hb1.size) hbel
end Go.Proofs.Ytkndelbnjhkbcaa
