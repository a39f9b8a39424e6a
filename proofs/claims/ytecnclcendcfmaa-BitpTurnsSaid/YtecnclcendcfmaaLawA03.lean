/-
  Contract: the probe of layer 3 answers true.
-/
import Derived.Test.YtecnclcendcfmaaBitp4
namespace Go.Proofs.Ytecnclcendcfmaa
set_option maxRecDepth 100000
open Go.RowKit
set_option linter.unusedVariables false

theorem RV.two_ (E : TypeId) (w : World) (u v : Value) (g : Nat) (hg : g = w.heap.size) : RV (w.alloc (.cells #[u, v] E)) (some ⟨g, 0, none⟩) 2 [u, v] := by
  subst hg
  refine ⟨rfl, fun _ => ⟨_, rfl, by simp, fun j b hj => ?_⟩⟩
  match j, hj with
  | 0, hj => simp at hj; subst hj; simp [Addr.add]
  | 1, hj => simp at hj; subst hj; simp [Addr.add]
theorem alive03_perm : permI 2 2 [2, 1] = 1 ∧ permE 2 [2, 1] = 0 := by decide
theorem alive03_turn : turnW 1 4 ((-1 : Int) % ((4 : Nat) : Int)).toNat = 8 := by decide
theorem alive03_spread : (spreadB (List.replicate 7 0))[0]? = some 1 := by decide +kernel
theorem alive03_odd : oddN 3 = 2 := by decide
theorem OB.mk7 (w : World) : RB (w.alloc (.cells (madeCells #[.int .u8 0] 7) 5)) (some ⟨w.heap.size, 0, none⟩) 7 (List.replicate 7 0) := by
  obtain ⟨A, c, he, _, _, h⟩ := (OB.made w w.heap.size 7 7 (Nat.le_refl _) (by simp [maxLen]) (Nat.le_refl _)).shape
  injection he with h1 h2 h3
  subst h1; exact h

set_option maxRecDepth 100000 in
set_option maxHeartbeats 1000000 in
theorem alive03 (w : World) : Calls Try.prog 8 #[] w fun e w' => e = .returned (.bool true) ∧ Below w.heap.size w w' := by
  have c1 : ∀ (g : Nat) (w : World), g = w.heap.size → Calls Try.prog 24 #[.int .u64 2, .int .i64 2, .slice (some ⟨g, 0, none⟩) 2 2] (w.alloc (.cells #[.int .i64 2, .int .i64 1] 3)) fun e w' => e = .returned (.tuple #[.int .u64 1, .int .i64 0]) ∧ Below (w.alloc (.cells #[.int .i64 2, .int .i64 1] 3)).heap.size (w.alloc (.cells #[.int .i64 2, .int .i64 1] 3)) w' := fun g w hg =>
    (bitp_permute 2 2 2 2 _ [2, 1] _ (by omega) (RV.two_ _ _ _ _ _ hg) (by simp [maxLen])).mono fun e w' h => by
      unfold PermPost at h
      rw [alive03_perm.1, alive03_perm.2] at h
      exact h
  have c2 : ∀ w, Calls Try.prog 7 #[.int .u64 1, .int .i64 4, .int .i64 (-1)] w fun e w' => e = .returned (.tuple #[.int .u64 8, .int .i64 0]) ∧ Qt w w' := fun w => by
    have := bitp_turn_yes 1 4 (-1) w (by omega) (by omega) (by omega)
    rw [alive03_turn] at this
    exact this
  have c3 := fun w => bitp_spread (w.alloc (.cells (madeCells #[.int .u8 0] 7) 5)) 7 _ _ (OB.mk7 w)
  have c4 : ∀ w, Calls Try.prog 26 #[.int .u64 8, .int .i64 4, .int .i64 1] w fun e w' => e = .returned (.int .u64 1) ∧ w = w' := fun w =>
    bitp_bit_yes 8 4 1 w (by omega) (by omega) (by omega) (by omega)
  have c5 : ∀ w, Calls Try.prog 27 #[.int .u8 3] w fun e w' => e = .returned (.int .u8 2) ∧ w = w' := fun w => by
    have := bitp_odd 3 w (by omega)
    rw [alive03_odd] at this
    exact this
  have C1 := Lib.hid c1; clear c1
  have C2 := Lib.hid c2; clear c2
  have C3 := Lib.hid c3; clear c3
  have C4 := Lib.hid c4; clear c4
  have C5 := Lib.hid c5; clear c5
  have hmk := mk_bytes 7 7 (by omega) (by omega) (by omega)
  go_enter Try.func8, Try.ntmps8
  go_wp2_with fail
  refine (C1.out _ w rfl).mono ?_
  rintro e w1 ⟨rfl, hb1⟩
  have Hb1 := Lib.hid (((Below.refl w.heap.size w).alloc (Nat.le_refl _) _).trans (hb1.mono (by simp))); clear hb1
  go_wp2_with fail
  refine (C2.out _).mono ?_
  rintro e w2 ⟨rfl, hq2⟩
  have Hb2 := Lib.hid (below_qt Hb1.out hq2); clear hq2
  go_wp2_with fail
  refine (C3.out w2).mono ?_
  rintro e w3 ⟨v, rfl, hown, hb3⟩
  have Hb3 := Lib.hid ((Hb2.out.alloc Hb2.out.size _).trans (hb3.mono (by have := Hb2.out.size; simp; omega))); clear hb3 hmk
  obtain ⟨A, c, rfl, hnc, hcm, hrv⟩ := hown.shape
  obtain ⟨ad, vv, hA, hlt, hvk, hcell, _, _⟩ := hrv.at_ (k := 0) (by decide)
  rw [alive03_spread] at hvk
  injection hvk with hvk
  subst hvk
  subst hA
  have hcell' : w3.cell? ad = some (.int .u8 1) := by simpa [Addr.add] using hcell
  clear hown hrv hcell hlt
  go_wp2_with fail
  refine (C4.out _).mono ?_
  rintro e w4 ⟨rfl, rfl⟩
  go_wp2_with fail
  refine (C5.out _).mono ?_
  rintro e w5 ⟨rfl, rfl⟩
  go_wp2
  go_ret
  exact ⟨rfl, Hb3.out⟩
end Go.Proofs.Ytecnclcendcfmaa
