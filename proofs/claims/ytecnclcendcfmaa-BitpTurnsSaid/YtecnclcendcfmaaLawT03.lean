/-
  Walk: turned by two numbers is turned by both together; both parts make the word.
-/
import Derived.Test.YtecnclcendcfmaaLawA03
import Derived.Test.YtecnclcendcfmaaTurnPlain
import Derived.Test.YtecnclcendcfmaaRgn
namespace Go.Proofs.Ytecnclcendcfmaa
set_option maxRecDepth 100000
open Go.RowKit
set_option linter.unusedVariables false

theorem a0_word (x W : Nat) (w : World) (hx : x < 18446744073709551616) (h1 : 1 ≤ W) (h2 : W ≤ 64) :
    Calls Try.prog 10 #[.int .u64 x, .int .i64 W] w fun e w' => e = .returned (.int .u64 (x % 2 ^ W : Nat)) ∧ w = w' := by
  by_cases h : 64 ≤ W
  · obtain rfl : W = 64 := by omega
    have hm : x % 2 ^ 64 = x := Nat.mod_eq_of_lt hx
    rw [hm]
    go_enter Try.func10, Try.ntmps10
    go_wp2
    go_ret
    exact ⟨rfl, rfl⟩
  · obtain ⟨P, hP⟩ : ∃ P, P = 2 ^ W := ⟨_, rfl⟩
    have hP1 : P ≤ 9223372036854775808 := by have := pow2_le (k := W) (m := 63) (by omega); omega
    have hP0 : 0 < P := by rw [hP]; exact Nat.pos_of_ne_zero (by simp)
    rw [← hP]
    have hw : IntKind.u64.wrap (2 ^ W) = (P : Int) := by
      have : (2 : Int) ^ W = (P : Int) := by rw [hP]; simp
      rw [this, IntKind.wrap_u64]; omega
    clear hP
    go_enter Try.func10, Try.ntmps10
    go_wp2
    go_ret
    exact ⟨ret_int (by simp), rfl⟩
theorem wpStill_skip {P : Program} {ops : Array Oper} {w : World} {Q : Act → Prop} {a : Act} {o : Oper} {rest : List Oper} (h : Region.wanted o (yielded ops a.tmps) = false) (h2 : a.put o.dst undef = a)
    (hk : wpStill P ops w Q rest a) : wpStill P ops w Q (o :: rest) a := by
  simp only [wpStill, h, Bool.false_eq_true, if_false, h2]
  exact hk
theorem and63 (n : Int) : bits .and .i64 n 63 = n % 64 := by
  show IntKind.i64.wrap ((BitVec.ofInt 64 n &&& BitVec.ofInt 64 63).toNat : Int) = _
  have h63 : (BitVec.ofInt 64 63).toNat = 2 ^ 6 - 1 := by decide
  rw [BitVec.toNat_and, h63, Nat.and_two_pow_sub_one_eq_mod, BitVec.toNat_ofInt, IntKind.wrap_i64]
  have : (2 ^ 64 : Nat) = 18446744073709551616 := by decide
  rw [this]
  omega
theorem join_fact {x V t : Nat} (hx : x < 18446744073709551616) (hV : V ≤ 64) (ht : t ≤ V) (h : V - t < 64) :
    bits .or .u64 (IntKind.u64.wrap (((x % 2 ^ V / 2 ^ (V - t) : Nat) : Int) * 2 ^ (V - t))) ((x % 2 ^ (V - t) : Nat) : Int) = ((x % 2 ^ V : Nat) : Int) := by
  have hj := parts_join x V (V - t) (Nat.sub_le _ _)
  obtain ⟨p, hp⟩ : ∃ p, p = x % 2 ^ V / 2 ^ (V - t) * 2 ^ (V - t) := ⟨_, rfl⟩
  have e : ((x % 2 ^ V / 2 ^ (V - t) : Nat) : Int) * 2 ^ (V - t) = (p : Int) := by rw [hp]; simp
  rw [← hp] at hj
  have hm : x % 2 ^ V ≤ x := Nat.mod_le _ _
  have hq : x % 2 ^ (V - t) < 2 ^ (V - t) := Nat.mod_lt _ (Nat.pos_of_ne_zero (by simp))
  have e2 : IntKind.u64.wrap (p : Int) = (p : Int) := by rw [IntKind.wrap_u64]; omega
  rw [e, e2, u64_or_n _ _ (by omega) (by omega), or_parts (by rw [hp]; exact Nat.mul_mod_left _ _) hq, hj]

set_option maxRecDepth 100000 in
set_option maxHeartbeats 2000000 in
theorem law_turns (x : Nat) (W n1 n2 : Int) (w : World) (hx : x < 18446744073709551616) (a1 : -32768 ≤ n1) (a2 : n1 ≤ 32767) (b1 : -32768 ≤ n2) (b2 : n2 ≤ 32767) :
    Calls Try.prog 3 #[.int .u64 x, .int .i64 W, .agg #[.int .i16 n1, .int .i16 n2]] w fun e w' => e = .returned (.bool true) ∧ Below w.heap.size w w' := by
  by_cases hW : MayW W
  · obtain ⟨g1, g2⟩ := hW
    obtain ⟨V, rfl⟩ : ∃ V : Nat, W = (V : Int) := ⟨W.toNat, by omega⟩
    have e1 := Int.emod_nonneg n1 (by omega : (V : Int) ≠ 0)
    have e2 := Int.emod_lt_of_pos n1 (by omega : (0 : Int) < (V : Int))
    have e3 := Int.emod_nonneg n2 (by omega : (V : Int) ≠ 0)
    have e4 := Int.emod_lt_of_pos n2 (by omega : (0 : Int) < (V : Int))
    have hAl : turnW x V (n1 % (V : Int)).toNat < 18446744073709551616 := by
      have h1 := (turn_parts (x := x) (W := V) (l := (n1 % (V : Int)).toNat) (by omega))
      have h2 := pow2_le (k := V) (m := 64) (by omega)
      have h3 := Nat.lt_of_lt_of_le h1.2 (pow2_le (m := V) (by omega))
      have hor := or_parts (a := x % 2 ^ (V - (n1 % (V : Int)).toNat) * 2 ^ (n1 % (V : Int)).toNat) (Nat.mul_mod_left _ _) h1.2
      unfold turnW
      rw [← hor]
      have := Nat.or_lt_two_pow h1.1 h3
      omega
    have c1 := fun w => bitp_turn_yes x V n1 w hx (by omega) (by omega)
    have c2 := fun w => bitp_turn_yes (turnW x V (n1 % (V : Int)).toNat) V n2 w hAl (by omega) (by omega)
    have c3 := fun w => bitp_turn_yes x V (n1 + n2) w hx (by omega) (by omega)
    have htt := turn_turn (x := x) (W := V) (a := (n1 % (V : Int)).toNat) (b := (n2 % (V : Int)).toNat) (c := ((n1 + n2) % (V : Int)).toNat) (by omega) (by omega) (by
      have : (((n1 % (V : Int)).toNat + (n2 % (V : Int)).toNat : Nat) : Int) = n1 % (V : Int) + n2 % (V : Int) := by omega
      have h5 : ((((n1 % (V : Int)).toNat + (n2 % (V : Int)).toNat) % V : Nat) : Int) = (n1 + n2) % (V : Int) := by
        rw [Int.natCast_emod, this, ← Int.add_emod]
      omega)
    rw [htt] at c2
    obtain ⟨Aw, hAw⟩ : ∃ Aw, Aw = turnW x V (n1 % (V : Int)).toNat := ⟨_, rfl⟩
    obtain ⟨Cw, hCw⟩ : ∃ Cw, Cw = turnW x V ((n1 + n2) % (V : Int)).toNat := ⟨_, rfl⟩
    simp only [← hAw] at c1 c2
    simp only [← hCw] at c2 c3
    clear hAw hCw htt hAl e1 e2 e3 e4
    obtain ⟨t, ht⟩ : ∃ t : Nat, (t : Int) = n1 % 64 := ⟨(n1 % 64).toNat, by omega⟩
    have hat : bits .and .i64 n1 63 = (t : Int) := by rw [and63, ht]
    have htl : t < 64 := by omega
    clear ht
    have C1 := Lib.hid c1; clear c1
    have C2 := Lib.hid c2; clear c2
    have C3 := Lib.hid c3; clear c3
    by_cases hgt : V < t
    · have cs := fun w => bitp_split_no x V t w (fun h => by have := h.2.2; omega)
      have Cs := Lib.hid cs; clear cs
      go_enter Try.func3, Try.ntmps3
      go_wp2_with fail
      refine (C1.out _).mono ?_
      rintro e w1 ⟨rfl, q1, rfl⟩
      go_wp2_with fail
      refine (C2.out _).mono ?_
      rintro e w2 ⟨rfl, q2, rfl⟩
      go_wp2_with fail
      refine (C3.out _).mono ?_
      rintro e w3 ⟨rfl, q3, rfl⟩
      go_wp2_with fail
      refine (Cs.out _).mono ?_
      rintro e w4 ⟨rfl, rfl⟩
      go_wp2
      obtain ⟨wz, hwz⟩ : ∃ wz, wz = (w.alloc (.cells #[.int .i16 n1, .int .i16 n2] 24)).drewN (q1 + q2 + q3) := ⟨_, rfl⟩
      have hbz : Below w.heap.size w wz := by rw [hwz]; exact below_drewN ((Below.refl _ _).alloc (Nat.le_refl _) _) _
      rw [← hwz]
      clear hwz
      have hd1 : decide ((V : Int) < (t : Int)) = true := decide_eq_true (by omega)
      (refine wp_region_all (by kernel_rfl) (by kernel_rfl) ?_; simp only [List.map_cons, List.map_nil])
      (repeat (first | (refine wpF_val (v := ?_) (by rfl) (fun ys wx N hG hN => ?_) ?_; rotate_left; simp only [actS, fillS]; (have hGc := bcell hG); (have hGd := acell hG); go_simp; (try go_bits); exact hN _ (Gr.refl _); rotate_left; simp only [putS, addS, List.set_cons_zero, List.set_cons_succ]) | (refine wpF_skip way_gr (by rfl) ?_; simp only [putS, addS, List.set_cons_zero, List.set_cons_succ])))
      (refine wpF_val (v := ?_) (by rfl) (fun ys wx N hG hN => ?_) ?_; rotate_left; simp only [actS, fillS]; (have hGc := bcell hG); (have hGd := acell hG); go_simp; (try go_bits); refine (alive03 _).mono ?_; rintro e w5 ⟨rfl, hb5⟩; refine ⟨_, rfl, ?_⟩; exact hN _ (by assumption); rotate_left; simp only [putS, addS, List.set_cons_zero, List.set_cons_succ])
      (repeat (first | (refine wpF_val (v := ?_) (by rfl) (fun ys wx N hG hN => ?_) ?_; rotate_left; simp only [actS, fillS]; (have hGc := bcell hG); (have hGd := acell hG); go_simp; (try go_bits); exact hN _ (Gr.refl _); rotate_left; simp only [putS, addS, List.set_cons_zero, List.set_cons_succ]) | (refine wpF_skip way_gr (by rfl) ?_; simp only [putS, addS, List.set_cons_zero, List.set_cons_succ])))
      (refine wpF_end (fun ys wz hG _ _ => ?_); simp only [actS, fillS])
      go_wp2
      go_ret
      exact ⟨rfl, Gr.trans hbz hG⟩
    · have hle : t ≤ V := by omega
      have hcast : ((V - t : Nat) : Int) = (V : Int) - (t : Int) := by omega
      have cs := fun w => bitp_split_yes x V t w hx (by omega) (by omega) hle
      have ca0 := fun w => a0_word x V w hx (by omega) (by omega)
      by_cases h64 : V - t = 64
      · obtain ⟨rfl, rfl⟩ : V = 64 ∧ t = 0 := by omega
        have hq : x % 2 ^ (64 - 0) = x := Nat.mod_eq_of_lt (by simpa using hx)
        rw [hq] at cs
        obtain ⟨p, hp⟩ : ∃ p, p = x % 2 ^ 64 / 2 ^ (64 - 0) := ⟨_, rfl⟩
        (try simp only [← hp] at cs)
        have Cs := Lib.hid cs; clear cs
        have Ca0 := Lib.hid ca0; clear ca0
        clear hp hq hcast h64
        go_enter Try.func3, Try.ntmps3
        go_wp2_with fail
        refine (C1.out _).mono ?_
        rintro e w1 ⟨rfl, q1, rfl⟩
        go_wp2_with fail
        refine (C2.out _).mono ?_
        rintro e w2 ⟨rfl, q2, rfl⟩
        go_wp2_with fail
        refine (C3.out _).mono ?_
        rintro e w3 ⟨rfl, q3, rfl⟩
        go_wp2_with fail
        refine (Cs.out _).mono ?_
        rintro e w4 ⟨rfl, q4, rfl⟩
        go_wp2
        obtain ⟨wz, hwz⟩ : ∃ wz, wz = (w.alloc (.cells #[.int .i16 n1, .int .i16 n2] 24)).drewN (q1 + q2 + q3 + q4) := ⟨_, rfl⟩
        have hbz : Below w.heap.size w wz := by rw [hwz]; exact below_drewN ((Below.refl _ _).alloc (Nat.le_refl _) _) _
        rw [← hwz]
        clear hwz
        (refine wp_region_all (by kernel_rfl) (by kernel_rfl) ?_; simp only [List.map_cons, List.map_nil])
        (repeat (first | (refine wpF_val (v := ?_) (by rfl) (fun ys wx N hG hN => ?_) ?_; rotate_left; simp only [actS, fillS]; (have hGc := bcell hG); (have hGd := acell hG); go_simp; (try go_bits); exact hN _ (Gr.refl _); rotate_left; simp only [putS, addS, List.set_cons_zero, List.set_cons_succ]) | (refine wpF_skip way_gr (by rfl) ?_; simp only [putS, addS, List.set_cons_zero, List.set_cons_succ])))
        (refine wpF_val (v := ?_) (by rfl) (fun ys wx N hG hN => ?_) ?_; rotate_left; simp only [actS, fillS]; (have hGc := bcell hG); (have hGd := acell hG); go_simp; (try go_bits); refine (alive03 _).mono ?_; rintro e w5 ⟨rfl, hb5⟩; refine ⟨_, rfl, ?_⟩; exact hN _ (by assumption); rotate_left; simp only [putS, addS, List.set_cons_zero, List.set_cons_succ])
        (repeat (first | (refine wpF_val (v := ?_) (by rfl) (fun ys wx N hG hN => ?_) ?_; rotate_left; simp only [actS, fillS]; (have hGc := bcell hG); (have hGd := acell hG); go_simp; (try go_bits); exact hN _ (Gr.refl _); rotate_left; simp only [putS, addS, List.set_cons_zero, List.set_cons_succ]) | (refine wpF_skip way_gr (by rfl) ?_; simp only [putS, addS, List.set_cons_zero, List.set_cons_succ])))
        (refine wpF_end (fun ys wz hG _ _ => ?_); simp only [actS, fillS])
        go_wp2
        go_ret
        exact ⟨rfl, Gr.trans hbz hG⟩
      · have hj := join_fact (x := x) hx (by omega) hle (by omega)
        obtain ⟨p, hp⟩ : ∃ p, p = x % 2 ^ V / 2 ^ (V - t) := ⟨_, rfl⟩
        obtain ⟨q, hq⟩ : ∃ q, q = x % 2 ^ (V - t) := ⟨_, rfl⟩
        obtain ⟨z, hz⟩ : ∃ z, z = x % 2 ^ V := ⟨_, rfl⟩
        simp only [← hz] at ca0 hp
        rw [← hz, ← hq, ← hp] at hj
        rw [← hz] at cs
        simp only [← hp, ← hq] at cs
        have hne : ((V : Int) - (t : Int) == 64) = false := beq_eq_false_iff_ne.2 (by omega)
        have hlt64 : (V : Int) - (t : Int) < 64 := by omega
        have Cs := Lib.hid cs; clear cs
        have Ca0 := Lib.hid ca0; clear ca0
        clear hp hq hz hcast h64
        go_enter Try.func3, Try.ntmps3
        go_wp2_with fail
        refine (C1.out _).mono ?_
        rintro e w1 ⟨rfl, q1, rfl⟩
        go_wp2_with fail
        refine (C2.out _).mono ?_
        rintro e w2 ⟨rfl, q2, rfl⟩
        go_wp2_with fail
        refine (C3.out _).mono ?_
        rintro e w3 ⟨rfl, q3, rfl⟩
        go_wp2_with fail
        refine (Cs.out _).mono ?_
        rintro e w4 ⟨rfl, q4, rfl⟩
        go_wp2
        obtain ⟨wz, hwz⟩ : ∃ wz, wz = (w.alloc (.cells #[.int .i16 n1, .int .i16 n2] 24)).drewN (q1 + q2 + q3 + q4) := ⟨_, rfl⟩
        have hbz : Below w.heap.size w wz := by rw [hwz]; exact below_drewN ((Below.refl _ _).alloc (Nat.le_refl _) _) _
        rw [← hwz]
        clear hwz
        (refine wp_region_all (by kernel_rfl) (by kernel_rfl) ?_; simp only [List.map_cons, List.map_nil])
        (repeat (first | (refine wpF_val (v := ?_) (by rfl) (fun ys wx N hG hN => ?_) ?_; rotate_left; simp only [actS, fillS]; (have hGc := bcell hG); (have hGd := acell hG); go_simp; (try go_bits); exact hN _ (Gr.refl _); rotate_left; simp only [putS, addS, List.set_cons_zero, List.set_cons_succ]) | (refine wpF_skip way_gr (by rfl) ?_; simp only [putS, addS, List.set_cons_zero, List.set_cons_succ])))
        (refine wpF_val (v := ?_) (by rfl) (fun ys wx N hG hN => ?_) ?_; rotate_left; simp only [actS, fillS]; (have hGc := bcell hG); (have hGd := acell hG); go_simp; (try go_bits); refine (Ca0.out _).mono ?_; rintro e w5 ⟨rfl, rfl⟩; refine ⟨_, rfl, ?_⟩; exact hN _ (Gr.refl _); rotate_left; simp only [putS, addS, List.set_cons_zero, List.set_cons_succ])
        (repeat (first | (refine wpF_val (v := ?_) (by rfl) (fun ys wx N hG hN => ?_) ?_; rotate_left; simp only [actS, fillS]; (have hGc := bcell hG); (have hGd := acell hG); go_simp; (try go_bits); exact hN _ (Gr.refl _); rotate_left; simp only [putS, addS, List.set_cons_zero, List.set_cons_succ]) | (refine wpF_skip way_gr (by rfl) ?_; simp only [putS, addS, List.set_cons_zero, List.set_cons_succ])))
        (refine wpF_val (v := ?_) (by rfl) (fun ys wx N hG hN => ?_) ?_; rotate_left; simp only [actS, fillS]; (have hGc := bcell hG); (have hGd := acell hG); go_simp; (try go_bits); refine (alive03 _).mono ?_; rintro e w5 ⟨rfl, hb5⟩; refine ⟨_, rfl, ?_⟩; exact hN _ (by assumption); rotate_left; simp only [putS, addS, List.set_cons_zero, List.set_cons_succ])
        (repeat (first | (refine wpF_val (v := ?_) (by rfl) (fun ys wx N hG hN => ?_) ?_; rotate_left; simp only [actS, fillS]; (have hGc := bcell hG); (have hGd := acell hG); go_simp; (try go_bits); exact hN _ (Gr.refl _); rotate_left; simp only [putS, addS, List.set_cons_zero, List.set_cons_succ]) | (refine wpF_skip way_gr (by rfl) ?_; simp only [putS, addS, List.set_cons_zero, List.set_cons_succ])))
        (refine wpF_end (fun ys wz hG _ _ => ?_); simp only [actS, fillS])
        go_wp2
        go_ret
        exact ⟨rfl, Gr.trans hbz hG⟩
  · have c1 := fun n w => bitp_turn_no x W n w hW
    have c1' := fun n w => bitp_turn_no 0 W n w hW
    have C1 := Lib.hid c1; clear c1
    have C2 := Lib.hid c1'; clear c1'
    clear hW
    go_enter Try.func3, Try.ntmps3
    go_wp2_with fail
    refine (C1.out _ _).mono ?_
    rintro e w1 ⟨rfl, rfl⟩
    go_wp2_with fail
    refine (C2.out _ _).mono ?_
    rintro e w1 ⟨rfl, rfl⟩
    go_wp2_with fail
    refine (C1.out _ _).mono ?_
    rintro e w1 ⟨rfl, rfl⟩
    go_wp2_with fail
    refine (alive03 _).mono ?_
    rintro e w4 ⟨rfl, hb4⟩
    go_wp2
    go_ret
    exact ⟨rfl, ((Below.refl _ _).alloc (Nat.le_refl _) _).trans (hb4.mono (by simp))⟩
end Go.Proofs.Ytecnclcendcfmaa
