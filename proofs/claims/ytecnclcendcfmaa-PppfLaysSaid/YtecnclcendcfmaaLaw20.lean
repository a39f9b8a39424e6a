/-
  The laws of layer 20.
-/
import Derived.Test.YtecnclcendcfmaaPppf4
namespace Go.Proofs.Ytecnclcendcfmaa
set_option maxRecDepth 100000
open Go.RowKit
set_option linter.unusedVariables false
set_option linter.unusedSimpArgs false

theorem strip_not {x : UInt8} {t : List UInt8} (h : x ≠ 255) : strip2 255 3 (x :: t) = x :: t := by
  unfold strip2; rw [if_neg]; intro e; cases t <;> simp at e; exact h e.1
theorem strip_yes (t : List UInt8) : strip2 255 3 (255 :: 3 :: t) = t := by unfold strip2; simp
theorem parse_hi (p : Nat) (xs : List UInt8) (hp : p < 65536) (hpr : protoB p = true) (hn : xs.length ≤ 4000) : parseL (UInt8.ofNat (p / 256) :: UInt8.ofNat p :: xs) = (p, xs, 0) := by
  have h := hpr
  unfold protoB at h
  simp at h
  have e1 : (UInt8.ofNat (p / 256)).toNat = p / 256 := by rw [UInt8.toNat_ofNat']; omega
  have e2 : (UInt8.ofNat p).toNat = p % 256 := by rw [UInt8.toNat_ofNat']
  show (if (UInt8.ofNat (p / 256)).toNat % 2 = 1 then finR (UInt8.ofNat (p / 256)).toNat (UInt8.ofNat p :: xs) else finR (256 * (UInt8.ofNat (p / 256)).toNat + (UInt8.ofNat p).toNat) xs) = _
  rw [e1, if_neg (by omega), e2, show 256 * (p / 256) + p % 256 = p by omega]
  unfold finR
  rw [hpr, if_pos rfl, if_pos hn]
theorem parse_lo (p : Nat) (xs : List UInt8) (hp : p < 256) (hpr : protoB p = true) (hn : xs.length ≤ 4000) : parseL (UInt8.ofNat p :: xs) = (p, xs, 0) := by
  have h := hpr
  unfold protoB at h
  simp at h
  have e2 : (UInt8.ofNat p).toNat = p := by rw [UInt8.toNat_ofNat']; omega
  have : parseL (UInt8.ofNat p :: xs) = finR p xs := by cases xs <;> simp [parseL, e2, h.1.1]
  rw [this]
  unfold finR
  rw [hpr, if_pos rfl, if_pos hn]
theorem parse_lay (p : Nat) (xs : List UInt8) (bare short : Bool) (hp : p < 65536) (hpr : protoB p = true) (hn : xs.length ≤ 4000) : parseF (layF p xs bare short) = (p, xs, 0) := by
  have h := hpr
  unfold protoB at h
  simp at h
  have e1 : (UInt8.ofNat (p / 256)) ≠ 255 := by
    intro e
    have := congrArg UInt8.toNat e
    rw [UInt8.toNat_ofNat'] at this
    simp at this
    omega
  unfold parseF layF
  by_cases hs : short = true ∧ p < 256
  · have e3 : (if short && decide (p < 256) then ([] : List UInt8) else [UInt8.ofNat (p / 256)]) = [] := by simp [hs.1, hs.2]
    have e2 : (UInt8.ofNat p) ≠ 255 := by
      intro e
      have := congrArg UInt8.toNat e
      rw [UInt8.toNat_ofNat'] at this
      simp at this
      omega
    rw [e3]
    cases bare
    · show parseL (strip2 255 3 (255 :: 3 :: (UInt8.ofNat p :: xs))) = _
      rw [strip_yes]; exact parse_lo p xs hs.2 hpr hn
    · show parseL (strip2 255 3 (UInt8.ofNat p :: xs)) = _
      rw [strip_not e2]; exact parse_lo p xs hs.2 hpr hn
  · have e3 : (if short && decide (p < 256) then ([] : List UInt8) else [UInt8.ofNat (p / 256)]) = [UInt8.ofNat (p / 256)] := by
      rw [if_neg]; simpa using hs
    rw [e3]
    cases bare
    · show parseL (strip2 255 3 (255 :: 3 :: (UInt8.ofNat (p / 256) :: UInt8.ofNat p :: xs))) = _
      rw [strip_yes]; exact parse_hi p xs hp hpr hn
    · show parseL (strip2 255 3 (UInt8.ofNat (p / 256) :: UInt8.ofNat p :: xs)) = _
      rw [strip_not e1]; exact parse_hi p xs hp hpr hn
theorem same_yes (xs : List UInt8) : decide (xs = xs) = true := by simp
set_option maxHeartbeats 4000000 in
theorem alive20 (w : World) : Calls Try.prog 11 #[] w fun e w' => e = .returned (.bool true) ∧ Gr w w' := by
  have l1 := fun w => pppf_lay_all 33 none 0 0 [] true true w (by omega) (RB.nil _ _) (Nat.le_refl _)
  have e1 : layR 33 [] true true = [33] := by decide
  have e2 : layE 33 0 = 0 := by decide
  rw [e1, e2] at l1
  have L1 := Lib.hid l1; clear l1 e1 e2
  have l2 := fun A w (h : RB w A 1 [120]) => pppf_lay_all 49185 A 1 1 [120] false true w (by omega) h (Nat.le_refl _)
  have e1 : layR 49185 [120] false true = [255, 3, 192, 33, 120] := by decide
  have e2 : layE 49185 1 = 0 := by decide
  rw [e1, e2] at l2
  have L2 := Lib.hid l2; clear l2 e1 e2
  have e3 : parseF [255, 3, 192, 33, 120] = (49185, [120], 0) := by decide
  go_enter Try.func11, Try.ntmps11
  go_wp2_with fail
  refine (L1.out _).mono ?_
  rintro e w1 ⟨A1, n1, c1, rfl, h11, h12, h13, hb1⟩
  obtain rfl : n1 = 1 := by have := h13.len; simpa using this.symm
  have kc := fun (w : World) (C : Array Value) (n c : Nat) => Lib.run_convert_bytes_const (P := Try.prog) w 34 5 C n c Try.underlying34 Try.underlying5
  go_wp2_with fail
  have hr := RB.litm w1 [120] (1, 2) 5 _ rfl
  refine (L2.out _ _ hr).mono ?_
  rintro e w2 ⟨A2, n2, c2, rfl, h21, h22, h23, hb2⟩
  obtain rfl : n2 = 5 := by have := h23.len; simpa using this.symm
  clear kc hr
  go_wp2_with fail
  refine (pppf_parse _ _ _ _ _ h23 h21 h22).mono ?_
  rintro e w3 ⟨A3, n3, c3, rfl, h31, h32, h33, hb3⟩
  rw [e3] at h33 ⊢
  clear e3
  have Gm : Gr w1 w3 := Gr.trans (Gr.trans (gr_alloc (Gr.refl _) _) hb2) hb3
  have G3 : Gr w w3 := Gr.trans hb1 Gm
  have h1' := h13.gr Gm
  have h3' := Lib.hid h33
  clear h13 h23 h33 hb1 hb2 hb3 Gm
  have h3n := h3'.out
  have hs := fun w (h : RB w A1 1 [33]) => str_bytes A1 1 c1 [33] w h
  have Hs := Lib.hid hs; clear hs
  have x := StA.new w3 [.int .u16 49185, .slice A3 n3 c3] 39
  have gn := gr_alloc (Gr.refl w3) (.cells [Value.int .u16 49185, .slice A3 n3 c3].toArray 39)
  have h1n := h1'.gr gn
  have h3m := h3n.gr gn
  have G4 := Gr.trans G3 gn
  clear h1' h3' h3n gn
  have hsn := Hs.out _ h1n
  have xc0 := x.cell 0 _ rfl
  have xf0 := x.free 0 _ rfl
  have xc1 := x.cell 1 _ rfl
  have xf1 := x.free 1 _ rfl
  dsimp only
  go_wp2_with fail
  refine (pppf_same 49185 49185 A3 A3 n3 c3 n3 c3 [120] [120] _ h3m h3m).mono ?_
  have et : (decide ((49185 : Nat) = 49185) && decide (([120] : List UInt8) = [120])) = true := by decide
  rw [et]
  rintro e w4 ⟨rfl, hb4⟩
  have G5 := Gr.trans G4 hb4
  clear et G4 hb4 x hsn h1n h3m
  go_wp2_with fail
  refine (pppf_known 49699 _).mono ?_
  have et : knownB 49699 = true := by decide
  rw [et]
  rintro e w5 ⟨rfl, rfl⟩
  clear et
  go_wp2_with fail
  refine (pppf_may 32801 _ (by omega)).mono ?_
  have et : protoB 32801 = true := by decide
  rw [et]
  rintro e w5 ⟨rfl, rfl⟩
  clear et
  go_wp2
  go_ret
  exact ⟨rfl, G5⟩
end Go.Proofs.Ytecnclcendcfmaa
