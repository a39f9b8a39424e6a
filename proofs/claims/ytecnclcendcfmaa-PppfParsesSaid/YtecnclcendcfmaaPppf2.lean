/-
  Frames are laid.
-/
import Derived.Test.YtecnclcendcfmaaPppf1
namespace Go.Proofs.Ytecnclcendcfmaa
set_option maxRecDepth 100000
open Go.RowKit
set_option linter.unusedVariables false
set_option linter.unusedSimpArgs false

def layF (p : Nat) (data : List UInt8) (bare short : Bool) : List UInt8 := (if bare then [] else [255, 3]) ++ ((if short && decide (p < 256) then [] else [UInt8.ofNat (p / 256)]) ++ (UInt8.ofNat p :: data))
def layE (p n : Nat) : Int := if protoB p then (if n ≤ 4000 then 0 else 8) else 3
theorem hi_byte (p : Nat) (hp : p < 65536) : (p : Int) / 256 = ((UInt8.ofNat (p / 256)).toNat : Int) := by
  rw [UInt8.toNat_ofNat']; omega
theorem lo_byte (p : Nat) : (p : Int) % 256 = ((UInt8.ofNat p).toNat : Int) := by
  rw [UInt8.toNat_ofNat']; omega

set_option maxHeartbeats 1000000 in
theorem pppf_lay_true_all (p : Nat) (A : Option Addr) (n c : Nat) (xs : List UInt8) (w : World) (hp : p < 65536) (hpr : protoB p = true)  (hx : RB w A n xs) (hn : n ≤ 4000) (hnc : n ≤ c) :
    Calls Try.prog 12 #[.agg #[.int .u16 p, .slice A n c], .bool true, .bool false] w (RetBE w (layF p xs true false) 0) := by
  have e1 : layF p xs true false = [] ++ [UInt8.ofNat (p / 256)] ++ [UInt8.ofNat p] ++ xs := by unfold layF; simp
  rw [e1]
  clear e1
  have hn' : ¬ 4000 < n := by omega
  have hx0 := hx
  clear hx
  have kh := hi_byte p hp
  have kl := lo_byte p
  obtain ⟨y, hy⟩ : ∃ y, y = UInt8.ofNat p := ⟨_, rfl⟩
  obtain ⟨x, hx'⟩ : ∃ x, x = UInt8.ofNat (p / 256) := ⟨_, rfl⟩
  rw [← hy] at kl ⊢
  rw [← hx'] at kh ⊢
  clear hy hx'
  go_enter Try.func12, Try.ntmps12
  go_wp2_with fail
  refine (pppf_may _ _ hp).mono ?_
  rw [hpr]
  rintro e w0 ⟨rfl, hw0⟩
  subst hw0
  have s0 := StA.new w [.int .u16 p, .slice A n c] 39
  have G0 : Gr w (w.alloc (.cells #[.int .u16 p, .slice A n c] 39)) := by (repeat (first | exact Gr.refl _ | assumption | (refine gr_alloc ?_ _) | (refine gr_drewN ?_ _) | (refine gr_drew ?_) | (refine gr_set ?_ (by first | (simp; done) | omega | (simp; omega) | (simp at *; omega)) _) | (refine Gr.trans ?_ (by assumption))))
  have z0 : w.heap.size + 1 ≤ (w.alloc (.cells #[.int .u16 p, .slice A n c] 39)).heap.size := by simp
  have o0 := OB.nil (w.alloc (.cells #[.int .u16 p, .slice A n c] 39)) (w.heap.size + 1)
  go_wp2_with (first | (at_builtin; refine wpList_appk _ rfl (.tmp 28) (.tmp 33) rfl (w.heap.size + 1) _ 0 _ rfl (o0.alloc _) _ 1 _ _ rfl (RB.new1 _ x _ (by simp)) (by omega) (Nat.le_trans z0 (gr_alloc (Gr.refl _) _).size) ?_; intro v1 u1 o1 b1; have s1 := (s0.gr (gr_alloc (Gr.refl _) _)).below b1 (by omega); have G1 := Below.trans (gr_alloc G0 _) (b1.mono (Nat.le_succ _)); have z1 := Nat.le_trans (Nat.le_trans z0 (gr_alloc (Gr.refl _) _).size) b1.size; have y1 : w.heap.size < u1.heap.size := z1; (try clear c0 c1); have c0 := s1.cell 0 _ rfl; have c1 := s1.cell 1 _ rfl; clear b1) | (at_builtin; refine wpList_appk _ rfl (.tmp 35) (.tmp 39) rfl (w.heap.size + 1) _ 1 _ rfl (o1.alloc _) _ 1 _ _ rfl (RB.new1 _ y _ (by simp)) (by omega) (Nat.le_trans z1 (gr_alloc (Gr.refl _) _).size) ?_; intro v2 u2 o2 b2; have s2 := (s1.gr (gr_alloc (Gr.refl _) _)).below b2 (by omega); have G2 := Below.trans (gr_alloc G1 _) (b2.mono (Nat.le_succ _)); have z2 := Nat.le_trans (Nat.le_trans z1 (gr_alloc (Gr.refl _) _).size) b2.size; have y2 : w.heap.size < u2.heap.size := z2; (try clear c0 c1); have c0 := s2.cell 0 _ rfl; have c1 := s2.cell 1 _ rfl; clear b2) | (at_builtin; refine wpList_appk _ rfl (.tmp 41) (.tmp 43) rfl (w.heap.size + 1) _ 2 _ rfl o2 A n c xs rfl (hx0.gr G2) (by omega) z2 ?_; intro v3 u3 o3 b3; have G3 := Below.trans G2 (b3.mono (Nat.le_succ _)); clear c0 c1))
  go_ret2
  exact RetBE.of (o3.more (Nat.le_succ _)) G3

set_option maxHeartbeats 1000000 in
theorem ref20_lay_true_all (p : Nat) (A : Option Addr) (n c : Nat) (xs : List UInt8) (w : World) (hp : p < 65536) (hpr : protoB p = true)  (hx : RB w A n xs) (hn : n ≤ 4000) (hnc : n ≤ c) :
    Calls Try.prog 14 #[.agg #[.int .u16 p, .slice A n c], .bool true, .bool false] w (RetBE w (layF p xs true false) 0) := by
  have e1 : layF p xs true false = [] ++ [UInt8.ofNat (p / 256)] ++ [UInt8.ofNat p] ++ xs := by unfold layF; simp
  rw [e1]
  clear e1
  have hn' : ¬ 4000 < n := by omega
  have hx0 := hx
  clear hx
  have kh := hi_byte p hp
  have kl := lo_byte p
  obtain ⟨y, hy⟩ : ∃ y, y = UInt8.ofNat p := ⟨_, rfl⟩
  obtain ⟨x, hx'⟩ : ∃ x, x = UInt8.ofNat (p / 256) := ⟨_, rfl⟩
  rw [← hy] at kl ⊢
  rw [← hx'] at kh ⊢
  clear hy hx'
  go_enter Try.func14, Try.ntmps14
  go_wp2_with fail
  refine (ref20_may _ _ hp).mono ?_
  rw [hpr]
  rintro e w0 ⟨rfl, hw0⟩
  subst hw0
  have s0 := StA.new w [.int .u16 p, .slice A n c] 36
  have G0 : Gr w (w.alloc (.cells #[.int .u16 p, .slice A n c] 36)) := by (repeat (first | exact Gr.refl _ | assumption | (refine gr_alloc ?_ _) | (refine gr_drewN ?_ _) | (refine gr_drew ?_) | (refine gr_set ?_ (by first | (simp; done) | omega | (simp; omega) | (simp at *; omega)) _) | (refine Gr.trans ?_ (by assumption))))
  have z0 : w.heap.size + 1 ≤ (w.alloc (.cells #[.int .u16 p, .slice A n c] 36)).heap.size := by simp
  have o0 : True := trivial
  have o0' := OB.lit (w.alloc (.cells #[.int .u16 p, .slice A n c] 36)) (w.heap.size + 1) [255, 3] (by simp) (by simp [maxLen])
  rw [show (w.alloc (.cells #[.int .u16 p, .slice A n c] 36)).heap.size = w.heap.size + 1 by simp] at o0'
  have L0 := gr_alloc (Gr.refl (w.alloc (.cells #[.int .u16 p, .slice A n c] 36))) (.cells ([255, 3].map bv).toArray 5)
  replace G0 := Gr.trans G0 L0
  replace s0 := s0.gr L0
  replace z0 := Nat.le_trans z0 L0.size
  replace o0 := OB.nil ((w.alloc (.cells #[.int .u16 p, .slice A n c] 36)).alloc (.cells ([255, 3].map bv).toArray 5)) (w.heap.size + 1)
  clear L0 o0'
  go_wp2_with (at_builtin; refine wpList_appk _ rfl (.tmp 26) (.tmp 31) rfl (w.heap.size + 1) _ 0 _ rfl (o0.alloc _) _ 1 _ _ rfl (RB.new1 _ x _ (by simp)) (by omega) (Nat.le_trans z0 (gr_alloc (Gr.refl _) _).size) ?_; intro v1 u1 o1 b1; have s1 := (s0.gr (gr_alloc (Gr.refl _) _)).below b1 (by omega); have G1 := Below.trans (gr_alloc G0 _) (b1.mono (Nat.le_succ _)); have z1 := Nat.le_trans (Nat.le_trans z0 (gr_alloc (Gr.refl _) _).size) b1.size; have y1 : w.heap.size < u1.heap.size := z1; (try clear c0 c1); have c0 := s1.cell 0 _ rfl; have c1 := s1.cell 1 _ rfl; clear b1)
  have kt : IntKind.u8.wrap (Int.tmod (p : Int) 256) = (y.toNat : Int) := by rw [Int.tmod_eq_emod_of_nonneg (by omega), IntKind.wrap_u8]; omega
  have tok1 : True := trivial
  have tok2 : True := trivial
  go_region_law (first | (have _t := tok1; refine step_appk _ rfl (.tmp 33) (.tmp 38) rfl (w.heap.size + 1) _ 1 _ rfl (o1.alloc _).drew _ 1 _ _ rfl (RB.new1 _ y _ (by simp)) (by omega) (Nat.le_trans z1 (gr_drew (gr_alloc (Gr.refl _) _)).size) ?_; intro v2 u2 o2 b2; have s2 := (s1.gr (gr_drew (gr_alloc (Gr.refl _) _))).below b2 (by omega); have G2 := Below.trans (gr_drew (gr_alloc G1 _)) (b2.mono (Nat.le_succ _)); have z2 := Nat.le_trans (Nat.le_trans z1 (gr_drew (gr_alloc (Gr.refl _) _)).size) b2.size; have y2 : w.heap.size < u2.heap.size := z2; (try clear c0 c1); have c0 := s2.cell 0 _ rfl; have c1 := s2.cell 1 _ rfl; clear b2 tok1 _t) | (have _t := tok2; refine step_appk _ rfl (.tmp 39) (.tmp 41) rfl (w.heap.size + 1) _ 2 _ rfl o2 A n c xs rfl (hx0.gr G2) (by omega) z2 ?_; intro v3 u3 o3 b3; have G3 := Below.trans G2 (b3.mono (Nat.le_succ _)); clear c0 c1 tok2 _t))
  all_goals
    go_wp2
    go_ret2
    exact RetBE.of (o3.more (Nat.le_succ _)) G3

set_option maxHeartbeats 1000000 in
theorem pppf_lay_true_big (p : Nat) (A : Option Addr) (n c : Nat) (xs : List UInt8) (w : World) (hp : p < 65536) (hpr : protoB p = true) (hq : ¬ p < 256) (hx : RB w A n xs) (hn : n ≤ 4000) (hnc : n ≤ c) :
    Calls Try.prog 12 #[.agg #[.int .u16 p, .slice A n c], .bool true, .bool true] w (RetBE w (layF p xs true true) 0) := by
  have e1 : layF p xs true true = [] ++ [UInt8.ofNat (p / 256)] ++ [UInt8.ofNat p] ++ xs := by unfold layF; simp [hq]
  rw [e1]
  clear e1
  have hn' : ¬ 4000 < n := by omega
  have hx0 := hx
  clear hx
  have kh := hi_byte p hp
  have kl := lo_byte p
  obtain ⟨y, hy⟩ : ∃ y, y = UInt8.ofNat p := ⟨_, rfl⟩
  obtain ⟨x, hx'⟩ : ∃ x, x = UInt8.ofNat (p / 256) := ⟨_, rfl⟩
  rw [← hy] at kl ⊢
  rw [← hx'] at kh ⊢
  clear hy hx'
  have hq' : 256 ≤ p := by omega
  have hq'' : 255 < p := by omega
  go_enter Try.func12, Try.ntmps12
  go_wp2_with fail
  refine (pppf_may _ _ hp).mono ?_
  rw [hpr]
  rintro e w0 ⟨rfl, hw0⟩
  subst hw0
  have s0 := StA.new w [.int .u16 p, .slice A n c] 39
  have G0 : Gr w (w.alloc (.cells #[.int .u16 p, .slice A n c] 39)) := by (repeat (first | exact Gr.refl _ | assumption | (refine gr_alloc ?_ _) | (refine gr_drewN ?_ _) | (refine gr_drew ?_) | (refine gr_set ?_ (by first | (simp; done) | omega | (simp; omega) | (simp at *; omega)) _) | (refine Gr.trans ?_ (by assumption))))
  have z0 : w.heap.size + 1 ≤ (w.alloc (.cells #[.int .u16 p, .slice A n c] 39)).heap.size := by simp
  have o0 := OB.nil (w.alloc (.cells #[.int .u16 p, .slice A n c] 39)) (w.heap.size + 1)
  go_wp2_with (first | (at_builtin; refine wpList_appk _ rfl (.tmp 28) (.tmp 33) rfl (w.heap.size + 1) _ 0 _ rfl (o0.alloc _) _ 1 _ _ rfl (RB.new1 _ x _ (by simp)) (by omega) (Nat.le_trans z0 (gr_alloc (Gr.refl _) _).size) ?_; intro v1 u1 o1 b1; have s1 := (s0.gr (gr_alloc (Gr.refl _) _)).below b1 (by omega); have G1 := Below.trans (gr_alloc G0 _) (b1.mono (Nat.le_succ _)); have z1 := Nat.le_trans (Nat.le_trans z0 (gr_alloc (Gr.refl _) _).size) b1.size; have y1 : w.heap.size < u1.heap.size := z1; (try clear c0 c1); have c0 := s1.cell 0 _ rfl; have c1 := s1.cell 1 _ rfl; clear b1) | (at_builtin; refine wpList_appk _ rfl (.tmp 35) (.tmp 39) rfl (w.heap.size + 1) _ 1 _ rfl (o1.alloc _) _ 1 _ _ rfl (RB.new1 _ y _ (by simp)) (by omega) (Nat.le_trans z1 (gr_alloc (Gr.refl _) _).size) ?_; intro v2 u2 o2 b2; have s2 := (s1.gr (gr_alloc (Gr.refl _) _)).below b2 (by omega); have G2 := Below.trans (gr_alloc G1 _) (b2.mono (Nat.le_succ _)); have z2 := Nat.le_trans (Nat.le_trans z1 (gr_alloc (Gr.refl _) _).size) b2.size; have y2 : w.heap.size < u2.heap.size := z2; (try clear c0 c1); have c0 := s2.cell 0 _ rfl; have c1 := s2.cell 1 _ rfl; clear b2) | (at_builtin; refine wpList_appk _ rfl (.tmp 41) (.tmp 43) rfl (w.heap.size + 1) _ 2 _ rfl o2 A n c xs rfl (hx0.gr G2) (by omega) z2 ?_; intro v3 u3 o3 b3; have G3 := Below.trans G2 (b3.mono (Nat.le_succ _)); clear c0 c1))
  go_ret2
  exact RetBE.of (o3.more (Nat.le_succ _)) G3

set_option maxHeartbeats 1000000 in
theorem ref20_lay_true_big (p : Nat) (A : Option Addr) (n c : Nat) (xs : List UInt8) (w : World) (hp : p < 65536) (hpr : protoB p = true) (hq : ¬ p < 256) (hx : RB w A n xs) (hn : n ≤ 4000) (hnc : n ≤ c) :
    Calls Try.prog 14 #[.agg #[.int .u16 p, .slice A n c], .bool true, .bool true] w (RetBE w (layF p xs true true) 0) := by
  have e1 : layF p xs true true = [] ++ [UInt8.ofNat (p / 256)] ++ [UInt8.ofNat p] ++ xs := by unfold layF; simp [hq]
  rw [e1]
  clear e1
  have hn' : ¬ 4000 < n := by omega
  have hx0 := hx
  clear hx
  have kh := hi_byte p hp
  have kl := lo_byte p
  obtain ⟨y, hy⟩ : ∃ y, y = UInt8.ofNat p := ⟨_, rfl⟩
  obtain ⟨x, hx'⟩ : ∃ x, x = UInt8.ofNat (p / 256) := ⟨_, rfl⟩
  rw [← hy] at kl ⊢
  rw [← hx'] at kh ⊢
  clear hy hx'
  have hq' : 256 ≤ p := by omega
  have hq'' : 255 < p := by omega
  go_enter Try.func14, Try.ntmps14
  go_wp2_with fail
  refine (ref20_may _ _ hp).mono ?_
  rw [hpr]
  rintro e w0 ⟨rfl, hw0⟩
  subst hw0
  have s0 := StA.new w [.int .u16 p, .slice A n c] 36
  have G0 : Gr w (w.alloc (.cells #[.int .u16 p, .slice A n c] 36)) := by (repeat (first | exact Gr.refl _ | assumption | (refine gr_alloc ?_ _) | (refine gr_drewN ?_ _) | (refine gr_drew ?_) | (refine gr_set ?_ (by first | (simp; done) | omega | (simp; omega) | (simp at *; omega)) _) | (refine Gr.trans ?_ (by assumption))))
  have z0 : w.heap.size + 1 ≤ (w.alloc (.cells #[.int .u16 p, .slice A n c] 36)).heap.size := by simp
  have o0 : True := trivial
  have o0' := OB.lit (w.alloc (.cells #[.int .u16 p, .slice A n c] 36)) (w.heap.size + 1) [255, 3] (by simp) (by simp [maxLen])
  rw [show (w.alloc (.cells #[.int .u16 p, .slice A n c] 36)).heap.size = w.heap.size + 1 by simp] at o0'
  have L0 := gr_alloc (Gr.refl (w.alloc (.cells #[.int .u16 p, .slice A n c] 36))) (.cells ([255, 3].map bv).toArray 5)
  replace G0 := Gr.trans G0 L0
  replace s0 := s0.gr L0
  replace z0 := Nat.le_trans z0 L0.size
  replace o0 := OB.nil ((w.alloc (.cells #[.int .u16 p, .slice A n c] 36)).alloc (.cells ([255, 3].map bv).toArray 5)) (w.heap.size + 1)
  clear L0 o0'
  go_wp2_with (at_builtin; refine wpList_appk _ rfl (.tmp 26) (.tmp 31) rfl (w.heap.size + 1) _ 0 _ rfl (o0.alloc _) _ 1 _ _ rfl (RB.new1 _ x _ (by simp)) (by omega) (Nat.le_trans z0 (gr_alloc (Gr.refl _) _).size) ?_; intro v1 u1 o1 b1; have s1 := (s0.gr (gr_alloc (Gr.refl _) _)).below b1 (by omega); have G1 := Below.trans (gr_alloc G0 _) (b1.mono (Nat.le_succ _)); have z1 := Nat.le_trans (Nat.le_trans z0 (gr_alloc (Gr.refl _) _).size) b1.size; have y1 : w.heap.size < u1.heap.size := z1; (try clear c0 c1); have c0 := s1.cell 0 _ rfl; have c1 := s1.cell 1 _ rfl; clear b1)
  have kt : IntKind.u8.wrap (Int.tmod (p : Int) 256) = (y.toNat : Int) := by rw [Int.tmod_eq_emod_of_nonneg (by omega), IntKind.wrap_u8]; omega
  have tok1 : True := trivial
  have tok2 : True := trivial
  go_region_law (first | (have _t := tok1; refine step_appk _ rfl (.tmp 33) (.tmp 38) rfl (w.heap.size + 1) _ 1 _ rfl (o1.alloc _).drew _ 1 _ _ rfl (RB.new1 _ y _ (by simp)) (by omega) (Nat.le_trans z1 (gr_drew (gr_alloc (Gr.refl _) _)).size) ?_; intro v2 u2 o2 b2; have s2 := (s1.gr (gr_drew (gr_alloc (Gr.refl _) _))).below b2 (by omega); have G2 := Below.trans (gr_drew (gr_alloc G1 _)) (b2.mono (Nat.le_succ _)); have z2 := Nat.le_trans (Nat.le_trans z1 (gr_drew (gr_alloc (Gr.refl _) _)).size) b2.size; have y2 : w.heap.size < u2.heap.size := z2; (try clear c0 c1); have c0 := s2.cell 0 _ rfl; have c1 := s2.cell 1 _ rfl; clear b2 tok1 _t) | (have _t := tok2; refine step_appk _ rfl (.tmp 39) (.tmp 41) rfl (w.heap.size + 1) _ 2 _ rfl o2 A n c xs rfl (hx0.gr G2) (by omega) z2 ?_; intro v3 u3 o3 b3; have G3 := Below.trans G2 (b3.mono (Nat.le_succ _)); clear c0 c1 tok2 _t))
  all_goals
    go_wp2
    go_ret2
    exact RetBE.of (o3.more (Nat.le_succ _)) G3

set_option maxHeartbeats 1000000 in
theorem pppf_lay_true_no (p : Nat) (A : Option Addr) (n c : Nat) (xs : List UInt8) (w : World) (hp : p < 65536) (hpr : protoB p = true) (hq : p < 256) (hx : RB w A n xs) (hn : n ≤ 4000) (hnc : n ≤ c) :
    Calls Try.prog 12 #[.agg #[.int .u16 p, .slice A n c], .bool true, .bool true] w (RetBE w (layF p xs true true) 0) := by
  have e1 : layF p xs true true = [] ++ [] ++ [UInt8.ofNat p] ++ xs := by unfold layF; simp [hq]
  rw [e1]
  clear e1
  have hn' : ¬ 4000 < n := by omega
  have hx0 := hx
  clear hx
  obtain ⟨y, hy⟩ : ∃ y, y = UInt8.ofNat p := ⟨_, rfl⟩
  rw [← hy]
  obtain rfl : y.toNat = p := by rw [hy, UInt8.toNat_ofNat']; omega
  clear hy
  have hq' : ¬ 256 ≤ y.toNat := by omega
  have hq'' : ¬ 255 < y.toNat := by omega
  go_enter Try.func12, Try.ntmps12
  go_wp2_with fail
  refine (pppf_may _ _ hp).mono ?_
  rw [hpr]
  rintro e w0 ⟨rfl, hw0⟩
  subst hw0
  have s0 := StA.new w [.int .u16 y.toNat, .slice A n c] 39
  have G0 : Gr w (w.alloc (.cells #[.int .u16 y.toNat, .slice A n c] 39)) := by (repeat (first | exact Gr.refl _ | assumption | (refine gr_alloc ?_ _) | (refine gr_drewN ?_ _) | (refine gr_drew ?_) | (refine gr_set ?_ (by first | (simp; done) | omega | (simp; omega) | (simp at *; omega)) _) | (refine Gr.trans ?_ (by assumption))))
  have z0 : w.heap.size + 1 ≤ (w.alloc (.cells #[.int .u16 y.toNat, .slice A n c] 39)).heap.size := by simp
  have o0 := OB.nil (w.alloc (.cells #[.int .u16 y.toNat, .slice A n c] 39)) (w.heap.size + 1)
  go_wp2_with (first | (at_builtin; refine wpList_appk _ rfl (.tmp 35) (.tmp 39) rfl (w.heap.size + 1) _ 0 _ rfl (o0.alloc _) _ 1 _ _ rfl (RB.new1 _ y _ (by simp)) (by omega) (Nat.le_trans z0 (gr_alloc (Gr.refl _) _).size) ?_; intro v1 u1 o1 b1; have s1 := (s0.gr (gr_alloc (Gr.refl _) _)).below b1 (by omega); have G1 := Below.trans (gr_alloc G0 _) (b1.mono (Nat.le_succ _)); have z1 := Nat.le_trans (Nat.le_trans z0 (gr_alloc (Gr.refl _) _).size) b1.size; have y1 : w.heap.size < u1.heap.size := z1; (try clear c0 c1); have c0 := s1.cell 0 _ rfl; have c1 := s1.cell 1 _ rfl; clear b1) | (at_builtin; refine wpList_appk _ rfl (.tmp 41) (.tmp 43) rfl (w.heap.size + 1) _ 1 _ rfl o1 A n c xs rfl (hx0.gr G1) (by omega) z1 ?_; intro v2 u2 o2 b2; have G2 := Below.trans G1 (b2.mono (Nat.le_succ _)); clear c0 c1))
  go_ret2
  exact RetBE.of (o2.more (Nat.le_succ _)) G2

set_option maxHeartbeats 1000000 in
theorem ref20_lay_true_no (p : Nat) (A : Option Addr) (n c : Nat) (xs : List UInt8) (w : World) (hp : p < 65536) (hpr : protoB p = true) (hq : p < 256) (hx : RB w A n xs) (hn : n ≤ 4000) (hnc : n ≤ c) :
    Calls Try.prog 14 #[.agg #[.int .u16 p, .slice A n c], .bool true, .bool true] w (RetBE w (layF p xs true true) 0) := by
  have e1 : layF p xs true true = [] ++ [] ++ [UInt8.ofNat p] ++ xs := by unfold layF; simp [hq]
  rw [e1]
  clear e1
  have hn' : ¬ 4000 < n := by omega
  have hx0 := hx
  clear hx
  obtain ⟨y, hy⟩ : ∃ y, y = UInt8.ofNat p := ⟨_, rfl⟩
  rw [← hy]
  obtain rfl : y.toNat = p := by rw [hy, UInt8.toNat_ofNat']; omega
  clear hy
  have hq' : ¬ 256 ≤ y.toNat := by omega
  have hq'' : ¬ 255 < y.toNat := by omega
  go_enter Try.func14, Try.ntmps14
  go_wp2_with fail
  refine (ref20_may _ _ hp).mono ?_
  rw [hpr]
  rintro e w0 ⟨rfl, hw0⟩
  subst hw0
  have s0 := StA.new w [.int .u16 y.toNat, .slice A n c] 36
  have G0 : Gr w (w.alloc (.cells #[.int .u16 y.toNat, .slice A n c] 36)) := by (repeat (first | exact Gr.refl _ | assumption | (refine gr_alloc ?_ _) | (refine gr_drewN ?_ _) | (refine gr_drew ?_) | (refine gr_set ?_ (by first | (simp; done) | omega | (simp; omega) | (simp at *; omega)) _) | (refine Gr.trans ?_ (by assumption))))
  have z0 : w.heap.size + 1 ≤ (w.alloc (.cells #[.int .u16 y.toNat, .slice A n c] 36)).heap.size := by simp
  have o0 : True := trivial
  have o0' := OB.lit (w.alloc (.cells #[.int .u16 y.toNat, .slice A n c] 36)) (w.heap.size + 1) [255, 3] (by simp) (by simp [maxLen])
  rw [show (w.alloc (.cells #[.int .u16 y.toNat, .slice A n c] 36)).heap.size = w.heap.size + 1 by simp] at o0'
  have L0 := gr_alloc (Gr.refl (w.alloc (.cells #[.int .u16 y.toNat, .slice A n c] 36))) (.cells ([255, 3].map bv).toArray 5)
  replace G0 := Gr.trans G0 L0
  replace s0 := s0.gr L0
  replace z0 := Nat.le_trans z0 L0.size
  replace o0 := OB.nil ((w.alloc (.cells #[.int .u16 y.toNat, .slice A n c] 36)).alloc (.cells ([255, 3].map bv).toArray 5)) (w.heap.size + 1)
  clear L0 o0'
  have c0 := s0.cell 0 _ rfl
  have c1 := s0.cell 1 _ rfl
  go_wp2
  have kt : IntKind.u8.wrap (Int.tmod (y.toNat : Int) 256) = (y.toNat : Int) := by rw [Int.tmod_eq_emod_of_nonneg (by omega), IntKind.wrap_u8]; omega
  have tok1 : True := trivial
  have tok2 : True := trivial
  go_region_law (first | (have _t := tok1; refine step_appk _ rfl (.tmp 33) (.tmp 38) rfl (w.heap.size + 1) _ 0 _ rfl (o0.alloc _).drew _ 1 _ _ rfl (RB.new1 _ y _ (by simp)) (by omega) (Nat.le_trans z0 (gr_drew (gr_alloc (Gr.refl _) _)).size) ?_; intro v1 u1 o1 b1; have s1 := (s0.gr (gr_drew (gr_alloc (Gr.refl _) _))).below b1 (by omega); have G1 := Below.trans (gr_drew (gr_alloc G0 _)) (b1.mono (Nat.le_succ _)); have z1 := Nat.le_trans (Nat.le_trans z0 (gr_drew (gr_alloc (Gr.refl _) _)).size) b1.size; have y1 : w.heap.size < u1.heap.size := z1; (try clear c0 c1); have c0 := s1.cell 0 _ rfl; have c1 := s1.cell 1 _ rfl; clear b1 tok1 _t) | (have _t := tok2; refine step_appk _ rfl (.tmp 39) (.tmp 41) rfl (w.heap.size + 1) _ 1 _ rfl o1 A n c xs rfl (hx0.gr G1) (by omega) z1 ?_; intro v2 u2 o2 b2; have G2 := Below.trans G1 (b2.mono (Nat.le_succ _)); clear c0 c1 tok2 _t))
  all_goals
    go_wp2
    go_ret2
    exact RetBE.of (o2.more (Nat.le_succ _)) G2

set_option maxHeartbeats 1000000 in
theorem pppf_lay_false_all (p : Nat) (A : Option Addr) (n c : Nat) (xs : List UInt8) (w : World) (hp : p < 65536) (hpr : protoB p = true)  (hx : RB w A n xs) (hn : n ≤ 4000) (hnc : n ≤ c) :
    Calls Try.prog 12 #[.agg #[.int .u16 p, .slice A n c], .bool false, .bool false] w (RetBE w (layF p xs false false) 0) := by
  have e1 : layF p xs false false = [255, 3] ++ [UInt8.ofNat (p / 256)] ++ [UInt8.ofNat p] ++ xs := by unfold layF; simp
  rw [e1]
  clear e1
  have hn' : ¬ 4000 < n := by omega
  have hx0 := hx
  clear hx
  have kh := hi_byte p hp
  have kl := lo_byte p
  obtain ⟨y, hy⟩ : ∃ y, y = UInt8.ofNat p := ⟨_, rfl⟩
  obtain ⟨x, hx'⟩ : ∃ x, x = UInt8.ofNat (p / 256) := ⟨_, rfl⟩
  rw [← hy] at kl ⊢
  rw [← hx'] at kh ⊢
  clear hy hx'
  go_enter Try.func12, Try.ntmps12
  go_wp2_with fail
  refine (pppf_may _ _ hp).mono ?_
  rw [hpr]
  rintro e w0 ⟨rfl, hw0⟩
  subst hw0
  have s0 := StA.new w [.int .u16 p, .slice A n c] 39
  go_wp2_with fail
  refine (pppf_ahead _).mono ?_
  rintro e w1 ⟨rfl, o0, hb1⟩
  have G0 : Gr w w1 := by (repeat (first | exact Gr.refl _ | assumption | (refine gr_alloc ?_ _) | (refine gr_drewN ?_ _) | (refine gr_drew ?_) | (refine gr_set ?_ (by first | (simp; done) | omega | (simp; omega) | (simp at *; omega)) _) | (refine Gr.trans ?_ (by assumption))))
  replace s0 := s0.gr hb1
  have c0 := s0.cell 0 _ rfl
  have c1 := s0.cell 1 _ rfl
  replace o0 := o0.more (b' := w.heap.size + 1) (by simp)
  rw [show (w.alloc (.cells #[.int .u16 p, .slice A n c] 39)).heap.size = w.heap.size + 1 by simp] at o0
  have z0 : w.heap.size + 1 ≤ w1.heap.size := by have := s0.lt; omega
  clear hb1
  go_wp2_with (first | (at_builtin; refine wpList_appk _ rfl (.tmp 28) (.tmp 33) rfl (w.heap.size + 1) _ 2 _ rfl (o0.alloc _) _ 1 _ _ rfl (RB.new1 _ x _ (by simp)) (by omega) (Nat.le_trans z0 (gr_alloc (Gr.refl _) _).size) ?_; intro v1 u1 o1 b1; have s1 := (s0.gr (gr_alloc (Gr.refl _) _)).below b1 (by omega); have G1 := Below.trans (gr_alloc G0 _) (b1.mono (Nat.le_succ _)); have z1 := Nat.le_trans (Nat.le_trans z0 (gr_alloc (Gr.refl _) _).size) b1.size; have y1 : w.heap.size < u1.heap.size := z1; (try clear c0 c1); have c0 := s1.cell 0 _ rfl; have c1 := s1.cell 1 _ rfl; clear b1) | (at_builtin; refine wpList_appk _ rfl (.tmp 35) (.tmp 39) rfl (w.heap.size + 1) _ 3 _ rfl (o1.alloc _) _ 1 _ _ rfl (RB.new1 _ y _ (by simp)) (by omega) (Nat.le_trans z1 (gr_alloc (Gr.refl _) _).size) ?_; intro v2 u2 o2 b2; have s2 := (s1.gr (gr_alloc (Gr.refl _) _)).below b2 (by omega); have G2 := Below.trans (gr_alloc G1 _) (b2.mono (Nat.le_succ _)); have z2 := Nat.le_trans (Nat.le_trans z1 (gr_alloc (Gr.refl _) _).size) b2.size; have y2 : w.heap.size < u2.heap.size := z2; (try clear c0 c1); have c0 := s2.cell 0 _ rfl; have c1 := s2.cell 1 _ rfl; clear b2) | (at_builtin; refine wpList_appk _ rfl (.tmp 41) (.tmp 43) rfl (w.heap.size + 1) _ 4 _ rfl o2 A n c xs rfl (hx0.gr G2) (by omega) z2 ?_; intro v3 u3 o3 b3; have G3 := Below.trans G2 (b3.mono (Nat.le_succ _)); clear c0 c1))
  go_ret2
  exact RetBE.of (o3.more (Nat.le_succ _)) G3

set_option maxHeartbeats 1000000 in
theorem ref20_lay_false_all (p : Nat) (A : Option Addr) (n c : Nat) (xs : List UInt8) (w : World) (hp : p < 65536) (hpr : protoB p = true)  (hx : RB w A n xs) (hn : n ≤ 4000) (hnc : n ≤ c) :
    Calls Try.prog 14 #[.agg #[.int .u16 p, .slice A n c], .bool false, .bool false] w (RetBE w (layF p xs false false) 0) := by
  have e1 : layF p xs false false = [255, 3] ++ [UInt8.ofNat (p / 256)] ++ [UInt8.ofNat p] ++ xs := by unfold layF; simp
  rw [e1]
  clear e1
  have hn' : ¬ 4000 < n := by omega
  have hx0 := hx
  clear hx
  have kh := hi_byte p hp
  have kl := lo_byte p
  obtain ⟨y, hy⟩ : ∃ y, y = UInt8.ofNat p := ⟨_, rfl⟩
  obtain ⟨x, hx'⟩ : ∃ x, x = UInt8.ofNat (p / 256) := ⟨_, rfl⟩
  rw [← hy] at kl ⊢
  rw [← hx'] at kh ⊢
  clear hy hx'
  go_enter Try.func14, Try.ntmps14
  go_wp2_with fail
  refine (ref20_may _ _ hp).mono ?_
  rw [hpr]
  rintro e w0 ⟨rfl, hw0⟩
  subst hw0
  have s0 := StA.new w [.int .u16 p, .slice A n c] 36
  have G0 : Gr w (w.alloc (.cells #[.int .u16 p, .slice A n c] 36)) := by (repeat (first | exact Gr.refl _ | assumption | (refine gr_alloc ?_ _) | (refine gr_drewN ?_ _) | (refine gr_drew ?_) | (refine gr_set ?_ (by first | (simp; done) | omega | (simp; omega) | (simp at *; omega)) _) | (refine Gr.trans ?_ (by assumption))))
  have z0 : w.heap.size + 1 ≤ (w.alloc (.cells #[.int .u16 p, .slice A n c] 36)).heap.size := by simp
  have o0 : True := trivial
  have o0' := OB.lit (w.alloc (.cells #[.int .u16 p, .slice A n c] 36)) (w.heap.size + 1) [255, 3] (by simp) (by simp [maxLen])
  rw [show (w.alloc (.cells #[.int .u16 p, .slice A n c] 36)).heap.size = w.heap.size + 1 by simp] at o0'
  have L0 := gr_alloc (Gr.refl (w.alloc (.cells #[.int .u16 p, .slice A n c] 36))) (.cells ([255, 3].map bv).toArray 5)
  replace G0 := Gr.trans G0 L0
  replace s0 := s0.gr L0
  replace z0 := Nat.le_trans z0 L0.size
  replace o0 := o0'
  clear L0
  go_wp2_with (at_builtin; refine wpList_appk _ rfl (.tmp 26) (.tmp 31) rfl (w.heap.size + 1) _ 2 _ rfl (o0.alloc _) _ 1 _ _ rfl (RB.new1 _ x _ (by simp)) (by omega) (Nat.le_trans z0 (gr_alloc (Gr.refl _) _).size) ?_; intro v1 u1 o1 b1; have s1 := (s0.gr (gr_alloc (Gr.refl _) _)).below b1 (by omega); have G1 := Below.trans (gr_alloc G0 _) (b1.mono (Nat.le_succ _)); have z1 := Nat.le_trans (Nat.le_trans z0 (gr_alloc (Gr.refl _) _).size) b1.size; have y1 : w.heap.size < u1.heap.size := z1; (try clear c0 c1); have c0 := s1.cell 0 _ rfl; have c1 := s1.cell 1 _ rfl; clear b1)
  have kt : IntKind.u8.wrap (Int.tmod (p : Int) 256) = (y.toNat : Int) := by rw [Int.tmod_eq_emod_of_nonneg (by omega), IntKind.wrap_u8]; omega
  have tok1 : True := trivial
  have tok2 : True := trivial
  go_region_law (first | (have _t := tok1; refine step_appk _ rfl (.tmp 33) (.tmp 38) rfl (w.heap.size + 1) _ 3 _ rfl (o1.alloc _).drew _ 1 _ _ rfl (RB.new1 _ y _ (by simp)) (by omega) (Nat.le_trans z1 (gr_drew (gr_alloc (Gr.refl _) _)).size) ?_; intro v2 u2 o2 b2; have s2 := (s1.gr (gr_drew (gr_alloc (Gr.refl _) _))).below b2 (by omega); have G2 := Below.trans (gr_drew (gr_alloc G1 _)) (b2.mono (Nat.le_succ _)); have z2 := Nat.le_trans (Nat.le_trans z1 (gr_drew (gr_alloc (Gr.refl _) _)).size) b2.size; have y2 : w.heap.size < u2.heap.size := z2; (try clear c0 c1); have c0 := s2.cell 0 _ rfl; have c1 := s2.cell 1 _ rfl; clear b2 tok1 _t) | (have _t := tok2; refine step_appk _ rfl (.tmp 39) (.tmp 41) rfl (w.heap.size + 1) _ 4 _ rfl o2 A n c xs rfl (hx0.gr G2) (by omega) z2 ?_; intro v3 u3 o3 b3; have G3 := Below.trans G2 (b3.mono (Nat.le_succ _)); clear c0 c1 tok2 _t))
  all_goals
    go_wp2
    go_ret2
    exact RetBE.of (o3.more (Nat.le_succ _)) G3

set_option maxHeartbeats 1000000 in
theorem pppf_lay_false_big (p : Nat) (A : Option Addr) (n c : Nat) (xs : List UInt8) (w : World) (hp : p < 65536) (hpr : protoB p = true) (hq : ¬ p < 256) (hx : RB w A n xs) (hn : n ≤ 4000) (hnc : n ≤ c) :
    Calls Try.prog 12 #[.agg #[.int .u16 p, .slice A n c], .bool false, .bool true] w (RetBE w (layF p xs false true) 0) := by
  have e1 : layF p xs false true = [255, 3] ++ [UInt8.ofNat (p / 256)] ++ [UInt8.ofNat p] ++ xs := by unfold layF; simp [hq]
  rw [e1]
  clear e1
  have hn' : ¬ 4000 < n := by omega
  have hx0 := hx
  clear hx
  have kh := hi_byte p hp
  have kl := lo_byte p
  obtain ⟨y, hy⟩ : ∃ y, y = UInt8.ofNat p := ⟨_, rfl⟩
  obtain ⟨x, hx'⟩ : ∃ x, x = UInt8.ofNat (p / 256) := ⟨_, rfl⟩
  rw [← hy] at kl ⊢
  rw [← hx'] at kh ⊢
  clear hy hx'
  have hq' : 256 ≤ p := by omega
  have hq'' : 255 < p := by omega
  go_enter Try.func12, Try.ntmps12
  go_wp2_with fail
  refine (pppf_may _ _ hp).mono ?_
  rw [hpr]
  rintro e w0 ⟨rfl, hw0⟩
  subst hw0
  have s0 := StA.new w [.int .u16 p, .slice A n c] 39
  go_wp2_with fail
  refine (pppf_ahead _).mono ?_
  rintro e w1 ⟨rfl, o0, hb1⟩
  have G0 : Gr w w1 := by (repeat (first | exact Gr.refl _ | assumption | (refine gr_alloc ?_ _) | (refine gr_drewN ?_ _) | (refine gr_drew ?_) | (refine gr_set ?_ (by first | (simp; done) | omega | (simp; omega) | (simp at *; omega)) _) | (refine Gr.trans ?_ (by assumption))))
  replace s0 := s0.gr hb1
  have c0 := s0.cell 0 _ rfl
  have c1 := s0.cell 1 _ rfl
  replace o0 := o0.more (b' := w.heap.size + 1) (by simp)
  rw [show (w.alloc (.cells #[.int .u16 p, .slice A n c] 39)).heap.size = w.heap.size + 1 by simp] at o0
  have z0 : w.heap.size + 1 ≤ w1.heap.size := by have := s0.lt; omega
  clear hb1
  go_wp2_with (first | (at_builtin; refine wpList_appk _ rfl (.tmp 28) (.tmp 33) rfl (w.heap.size + 1) _ 2 _ rfl (o0.alloc _) _ 1 _ _ rfl (RB.new1 _ x _ (by simp)) (by omega) (Nat.le_trans z0 (gr_alloc (Gr.refl _) _).size) ?_; intro v1 u1 o1 b1; have s1 := (s0.gr (gr_alloc (Gr.refl _) _)).below b1 (by omega); have G1 := Below.trans (gr_alloc G0 _) (b1.mono (Nat.le_succ _)); have z1 := Nat.le_trans (Nat.le_trans z0 (gr_alloc (Gr.refl _) _).size) b1.size; have y1 : w.heap.size < u1.heap.size := z1; (try clear c0 c1); have c0 := s1.cell 0 _ rfl; have c1 := s1.cell 1 _ rfl; clear b1) | (at_builtin; refine wpList_appk _ rfl (.tmp 35) (.tmp 39) rfl (w.heap.size + 1) _ 3 _ rfl (o1.alloc _) _ 1 _ _ rfl (RB.new1 _ y _ (by simp)) (by omega) (Nat.le_trans z1 (gr_alloc (Gr.refl _) _).size) ?_; intro v2 u2 o2 b2; have s2 := (s1.gr (gr_alloc (Gr.refl _) _)).below b2 (by omega); have G2 := Below.trans (gr_alloc G1 _) (b2.mono (Nat.le_succ _)); have z2 := Nat.le_trans (Nat.le_trans z1 (gr_alloc (Gr.refl _) _).size) b2.size; have y2 : w.heap.size < u2.heap.size := z2; (try clear c0 c1); have c0 := s2.cell 0 _ rfl; have c1 := s2.cell 1 _ rfl; clear b2) | (at_builtin; refine wpList_appk _ rfl (.tmp 41) (.tmp 43) rfl (w.heap.size + 1) _ 4 _ rfl o2 A n c xs rfl (hx0.gr G2) (by omega) z2 ?_; intro v3 u3 o3 b3; have G3 := Below.trans G2 (b3.mono (Nat.le_succ _)); clear c0 c1))
  go_ret2
  exact RetBE.of (o3.more (Nat.le_succ _)) G3

set_option maxHeartbeats 1000000 in
theorem ref20_lay_false_big (p : Nat) (A : Option Addr) (n c : Nat) (xs : List UInt8) (w : World) (hp : p < 65536) (hpr : protoB p = true) (hq : ¬ p < 256) (hx : RB w A n xs) (hn : n ≤ 4000) (hnc : n ≤ c) :
    Calls Try.prog 14 #[.agg #[.int .u16 p, .slice A n c], .bool false, .bool true] w (RetBE w (layF p xs false true) 0) := by
  have e1 : layF p xs false true = [255, 3] ++ [UInt8.ofNat (p / 256)] ++ [UInt8.ofNat p] ++ xs := by unfold layF; simp [hq]
  rw [e1]
  clear e1
  have hn' : ¬ 4000 < n := by omega
  have hx0 := hx
  clear hx
  have kh := hi_byte p hp
  have kl := lo_byte p
  obtain ⟨y, hy⟩ : ∃ y, y = UInt8.ofNat p := ⟨_, rfl⟩
  obtain ⟨x, hx'⟩ : ∃ x, x = UInt8.ofNat (p / 256) := ⟨_, rfl⟩
  rw [← hy] at kl ⊢
  rw [← hx'] at kh ⊢
  clear hy hx'
  have hq' : 256 ≤ p := by omega
  have hq'' : 255 < p := by omega
  go_enter Try.func14, Try.ntmps14
  go_wp2_with fail
  refine (ref20_may _ _ hp).mono ?_
  rw [hpr]
  rintro e w0 ⟨rfl, hw0⟩
  subst hw0
  have s0 := StA.new w [.int .u16 p, .slice A n c] 36
  have G0 : Gr w (w.alloc (.cells #[.int .u16 p, .slice A n c] 36)) := by (repeat (first | exact Gr.refl _ | assumption | (refine gr_alloc ?_ _) | (refine gr_drewN ?_ _) | (refine gr_drew ?_) | (refine gr_set ?_ (by first | (simp; done) | omega | (simp; omega) | (simp at *; omega)) _) | (refine Gr.trans ?_ (by assumption))))
  have z0 : w.heap.size + 1 ≤ (w.alloc (.cells #[.int .u16 p, .slice A n c] 36)).heap.size := by simp
  have o0 : True := trivial
  have o0' := OB.lit (w.alloc (.cells #[.int .u16 p, .slice A n c] 36)) (w.heap.size + 1) [255, 3] (by simp) (by simp [maxLen])
  rw [show (w.alloc (.cells #[.int .u16 p, .slice A n c] 36)).heap.size = w.heap.size + 1 by simp] at o0'
  have L0 := gr_alloc (Gr.refl (w.alloc (.cells #[.int .u16 p, .slice A n c] 36))) (.cells ([255, 3].map bv).toArray 5)
  replace G0 := Gr.trans G0 L0
  replace s0 := s0.gr L0
  replace z0 := Nat.le_trans z0 L0.size
  replace o0 := o0'
  clear L0
  go_wp2_with (at_builtin; refine wpList_appk _ rfl (.tmp 26) (.tmp 31) rfl (w.heap.size + 1) _ 2 _ rfl (o0.alloc _) _ 1 _ _ rfl (RB.new1 _ x _ (by simp)) (by omega) (Nat.le_trans z0 (gr_alloc (Gr.refl _) _).size) ?_; intro v1 u1 o1 b1; have s1 := (s0.gr (gr_alloc (Gr.refl _) _)).below b1 (by omega); have G1 := Below.trans (gr_alloc G0 _) (b1.mono (Nat.le_succ _)); have z1 := Nat.le_trans (Nat.le_trans z0 (gr_alloc (Gr.refl _) _).size) b1.size; have y1 : w.heap.size < u1.heap.size := z1; (try clear c0 c1); have c0 := s1.cell 0 _ rfl; have c1 := s1.cell 1 _ rfl; clear b1)
  have kt : IntKind.u8.wrap (Int.tmod (p : Int) 256) = (y.toNat : Int) := by rw [Int.tmod_eq_emod_of_nonneg (by omega), IntKind.wrap_u8]; omega
  have tok1 : True := trivial
  have tok2 : True := trivial
  go_region_law (first | (have _t := tok1; refine step_appk _ rfl (.tmp 33) (.tmp 38) rfl (w.heap.size + 1) _ 3 _ rfl (o1.alloc _).drew _ 1 _ _ rfl (RB.new1 _ y _ (by simp)) (by omega) (Nat.le_trans z1 (gr_drew (gr_alloc (Gr.refl _) _)).size) ?_; intro v2 u2 o2 b2; have s2 := (s1.gr (gr_drew (gr_alloc (Gr.refl _) _))).below b2 (by omega); have G2 := Below.trans (gr_drew (gr_alloc G1 _)) (b2.mono (Nat.le_succ _)); have z2 := Nat.le_trans (Nat.le_trans z1 (gr_drew (gr_alloc (Gr.refl _) _)).size) b2.size; have y2 : w.heap.size < u2.heap.size := z2; (try clear c0 c1); have c0 := s2.cell 0 _ rfl; have c1 := s2.cell 1 _ rfl; clear b2 tok1 _t) | (have _t := tok2; refine step_appk _ rfl (.tmp 39) (.tmp 41) rfl (w.heap.size + 1) _ 4 _ rfl o2 A n c xs rfl (hx0.gr G2) (by omega) z2 ?_; intro v3 u3 o3 b3; have G3 := Below.trans G2 (b3.mono (Nat.le_succ _)); clear c0 c1 tok2 _t))
  all_goals
    go_wp2
    go_ret2
    exact RetBE.of (o3.more (Nat.le_succ _)) G3

set_option maxHeartbeats 1000000 in
theorem pppf_lay_false_no (p : Nat) (A : Option Addr) (n c : Nat) (xs : List UInt8) (w : World) (hp : p < 65536) (hpr : protoB p = true) (hq : p < 256) (hx : RB w A n xs) (hn : n ≤ 4000) (hnc : n ≤ c) :
    Calls Try.prog 12 #[.agg #[.int .u16 p, .slice A n c], .bool false, .bool true] w (RetBE w (layF p xs false true) 0) := by
  have e1 : layF p xs false true = [255, 3] ++ [] ++ [UInt8.ofNat p] ++ xs := by unfold layF; simp [hq]
  rw [e1]
  clear e1
  have hn' : ¬ 4000 < n := by omega
  have hx0 := hx
  clear hx
  obtain ⟨y, hy⟩ : ∃ y, y = UInt8.ofNat p := ⟨_, rfl⟩
  rw [← hy]
  obtain rfl : y.toNat = p := by rw [hy, UInt8.toNat_ofNat']; omega
  clear hy
  have hq' : ¬ 256 ≤ y.toNat := by omega
  have hq'' : ¬ 255 < y.toNat := by omega
  go_enter Try.func12, Try.ntmps12
  go_wp2_with fail
  refine (pppf_may _ _ hp).mono ?_
  rw [hpr]
  rintro e w0 ⟨rfl, hw0⟩
  subst hw0
  have s0 := StA.new w [.int .u16 y.toNat, .slice A n c] 39
  go_wp2_with fail
  refine (pppf_ahead _).mono ?_
  rintro e w1 ⟨rfl, o0, hb1⟩
  have G0 : Gr w w1 := by (repeat (first | exact Gr.refl _ | assumption | (refine gr_alloc ?_ _) | (refine gr_drewN ?_ _) | (refine gr_drew ?_) | (refine gr_set ?_ (by first | (simp; done) | omega | (simp; omega) | (simp at *; omega)) _) | (refine Gr.trans ?_ (by assumption))))
  replace s0 := s0.gr hb1
  have c0 := s0.cell 0 _ rfl
  have c1 := s0.cell 1 _ rfl
  replace o0 := o0.more (b' := w.heap.size + 1) (by simp)
  rw [show (w.alloc (.cells #[.int .u16 y.toNat, .slice A n c] 39)).heap.size = w.heap.size + 1 by simp] at o0
  have z0 : w.heap.size + 1 ≤ w1.heap.size := by have := s0.lt; omega
  clear hb1
  go_wp2_with (first | (at_builtin; refine wpList_appk _ rfl (.tmp 35) (.tmp 39) rfl (w.heap.size + 1) _ 2 _ rfl (o0.alloc _) _ 1 _ _ rfl (RB.new1 _ y _ (by simp)) (by omega) (Nat.le_trans z0 (gr_alloc (Gr.refl _) _).size) ?_; intro v1 u1 o1 b1; have s1 := (s0.gr (gr_alloc (Gr.refl _) _)).below b1 (by omega); have G1 := Below.trans (gr_alloc G0 _) (b1.mono (Nat.le_succ _)); have z1 := Nat.le_trans (Nat.le_trans z0 (gr_alloc (Gr.refl _) _).size) b1.size; have y1 : w.heap.size < u1.heap.size := z1; (try clear c0 c1); have c0 := s1.cell 0 _ rfl; have c1 := s1.cell 1 _ rfl; clear b1) | (at_builtin; refine wpList_appk _ rfl (.tmp 41) (.tmp 43) rfl (w.heap.size + 1) _ 3 _ rfl o1 A n c xs rfl (hx0.gr G1) (by omega) z1 ?_; intro v2 u2 o2 b2; have G2 := Below.trans G1 (b2.mono (Nat.le_succ _)); clear c0 c1))
  go_ret2
  exact RetBE.of (o2.more (Nat.le_succ _)) G2

set_option maxHeartbeats 1000000 in
theorem ref20_lay_false_no (p : Nat) (A : Option Addr) (n c : Nat) (xs : List UInt8) (w : World) (hp : p < 65536) (hpr : protoB p = true) (hq : p < 256) (hx : RB w A n xs) (hn : n ≤ 4000) (hnc : n ≤ c) :
    Calls Try.prog 14 #[.agg #[.int .u16 p, .slice A n c], .bool false, .bool true] w (RetBE w (layF p xs false true) 0) := by
  have e1 : layF p xs false true = [255, 3] ++ [] ++ [UInt8.ofNat p] ++ xs := by unfold layF; simp [hq]
  rw [e1]
  clear e1
  have hn' : ¬ 4000 < n := by omega
  have hx0 := hx
  clear hx
  obtain ⟨y, hy⟩ : ∃ y, y = UInt8.ofNat p := ⟨_, rfl⟩
  rw [← hy]
  obtain rfl : y.toNat = p := by rw [hy, UInt8.toNat_ofNat']; omega
  clear hy
  have hq' : ¬ 256 ≤ y.toNat := by omega
  have hq'' : ¬ 255 < y.toNat := by omega
  go_enter Try.func14, Try.ntmps14
  go_wp2_with fail
  refine (ref20_may _ _ hp).mono ?_
  rw [hpr]
  rintro e w0 ⟨rfl, hw0⟩
  subst hw0
  have s0 := StA.new w [.int .u16 y.toNat, .slice A n c] 36
  have G0 : Gr w (w.alloc (.cells #[.int .u16 y.toNat, .slice A n c] 36)) := by (repeat (first | exact Gr.refl _ | assumption | (refine gr_alloc ?_ _) | (refine gr_drewN ?_ _) | (refine gr_drew ?_) | (refine gr_set ?_ (by first | (simp; done) | omega | (simp; omega) | (simp at *; omega)) _) | (refine Gr.trans ?_ (by assumption))))
  have z0 : w.heap.size + 1 ≤ (w.alloc (.cells #[.int .u16 y.toNat, .slice A n c] 36)).heap.size := by simp
  have o0 : True := trivial
  have o0' := OB.lit (w.alloc (.cells #[.int .u16 y.toNat, .slice A n c] 36)) (w.heap.size + 1) [255, 3] (by simp) (by simp [maxLen])
  rw [show (w.alloc (.cells #[.int .u16 y.toNat, .slice A n c] 36)).heap.size = w.heap.size + 1 by simp] at o0'
  have L0 := gr_alloc (Gr.refl (w.alloc (.cells #[.int .u16 y.toNat, .slice A n c] 36))) (.cells ([255, 3].map bv).toArray 5)
  replace G0 := Gr.trans G0 L0
  replace s0 := s0.gr L0
  replace z0 := Nat.le_trans z0 L0.size
  replace o0 := o0'
  clear L0
  have c0 := s0.cell 0 _ rfl
  have c1 := s0.cell 1 _ rfl
  go_wp2
  have kt : IntKind.u8.wrap (Int.tmod (y.toNat : Int) 256) = (y.toNat : Int) := by rw [Int.tmod_eq_emod_of_nonneg (by omega), IntKind.wrap_u8]; omega
  have tok1 : True := trivial
  have tok2 : True := trivial
  go_region_law (first | (have _t := tok1; refine step_appk _ rfl (.tmp 33) (.tmp 38) rfl (w.heap.size + 1) _ 2 _ rfl (o0.alloc _).drew _ 1 _ _ rfl (RB.new1 _ y _ (by simp)) (by omega) (Nat.le_trans z0 (gr_drew (gr_alloc (Gr.refl _) _)).size) ?_; intro v1 u1 o1 b1; have s1 := (s0.gr (gr_drew (gr_alloc (Gr.refl _) _))).below b1 (by omega); have G1 := Below.trans (gr_drew (gr_alloc G0 _)) (b1.mono (Nat.le_succ _)); have z1 := Nat.le_trans (Nat.le_trans z0 (gr_drew (gr_alloc (Gr.refl _) _)).size) b1.size; have y1 : w.heap.size < u1.heap.size := z1; (try clear c0 c1); have c0 := s1.cell 0 _ rfl; have c1 := s1.cell 1 _ rfl; clear b1 tok1 _t) | (have _t := tok2; refine step_appk _ rfl (.tmp 39) (.tmp 41) rfl (w.heap.size + 1) _ 3 _ rfl o1 A n c xs rfl (hx0.gr G1) (by omega) z1 ?_; intro v2 u2 o2 b2; have G2 := Below.trans G1 (b2.mono (Nat.le_succ _)); clear c0 c1 tok2 _t))
  all_goals
    go_wp2
    go_ret2
    exact RetBE.of (o2.more (Nat.le_succ _)) G2
end Go.Proofs.Ytecnclcendcfmaa
