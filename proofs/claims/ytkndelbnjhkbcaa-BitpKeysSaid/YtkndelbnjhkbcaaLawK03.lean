/-
  Walk: any key spread, and gathered, and any byte made odd, are the document's; what is spread is gathered.
-/
import Derived.Test.YtkndelbnjhkbcaaLawA03
import Derived.Test.YtkndelbnjhkbcaaRef03d
import Derived.Test.YtkndelbnjhkbcaaSame
namespace Go.Proofs.Ytkndelbnjhkbcaa
open Go.RowKit
set_option linter.unusedVariables false

theorem decide_self (xs : List UInt8) : decide (xs = xs) = true := by simp
def spI (bs : List UInt8) : List UInt8 := if bs.length = 7 then spreadB bs else []
def spE (bs : List UInt8) : Int := if bs.length = 7 then 0 else 1
def gaI (bs : List UInt8) : List UInt8 := if bs.length = 8 then gatherB bs else []
def gaE (bs : List UInt8) : Int := if bs.length = 8 then 0 else 1
theorem bitp_spread_all (w : World) (n c : Nat) (A : Option Addr) (bs : List UInt8) (hA : RB w A n bs) (hn : n ≤ maxLen) :
    Calls Try.prog 29 #[.slice A n c] w (RetBE w (spI bs) (spE bs)) := by
  by_cases h : n = 7
  · subst h
    simp only [spI, spE, if_pos hA.len]
    exact (bitp_spread w c A bs hA).mono fun e w' ⟨v, he, ho, hb⟩ => by subst he; exact RetBE.of ho hb
  · have h' : ¬ bs.length = 7 := by rw [hA.len]; exact h
    simp only [spI, spE, if_neg h']
    exact (bitp_spread_no w n c A h hn).mono fun e w' ⟨he, hw⟩ => by subst he hw; exact RetBE.nil _ _
theorem ref_spread_all (w : World) (n c : Nat) (A : Option Addr) (bs : List UInt8) (hA : RB w A n bs) (hn : n ≤ maxLen) :
    Calls Try.prog 30 #[.slice A n c] w (RetBE w (spI bs) (spE bs)) := by
  by_cases h : n = 7
  · subst h
    simp only [spI, spE, if_pos hA.len]
    exact ref_spread w c A bs hA
  · have h' : ¬ bs.length = 7 := by rw [hA.len]; exact h
    simp only [spI, spE, if_neg h']
    exact (ref_spread_no w n c A h hn).mono fun e w' ⟨he, hw⟩ => by subst he hw; exact RetBE.nil _ _
theorem bitp_gather_all (w : World) (n c : Nat) (A : Option Addr) (bs : List UInt8) (hA : RB w A n bs) (hn : n ≤ maxLen) :
    Calls Try.prog 31 #[.slice A n c] w (RetBE w (gaI bs) (gaE bs)) := by
  by_cases h : n = 8
  · subst h
    simp only [gaI, gaE, if_pos hA.len]
    exact (bitp_gather w c A bs hA).mono fun e w' ⟨v, he, ho, hb⟩ => by subst he; exact RetBE.of ho hb
  · have h' : ¬ bs.length = 8 := by rw [hA.len]; exact h
    simp only [gaI, gaE, if_neg h']
    exact (bitp_gather_no w n c A h hn).mono fun e w' ⟨he, hw⟩ => by subst he hw; exact RetBE.nil _ _
theorem ref_gather_all (w : World) (n c : Nat) (A : Option Addr) (bs : List UInt8) (hA : RB w A n bs) (hn : n ≤ maxLen) :
    Calls Try.prog 32 #[.slice A n c] w (RetBE w (gaI bs) (gaE bs)) := by
  by_cases h : n = 8
  · subst h
    simp only [gaI, gaE, if_pos hA.len]
    exact ref_gather w c A bs hA
  · have h' : ¬ bs.length = 8 := by rw [hA.len]; exact h
    simp only [gaI, gaE, if_neg h']
    exact (ref_gather_no w n c A h hn).mono fun e w' ⟨he, hw⟩ => by subst he hw; exact RetBE.nil _ _
theorem spI_len (bs : List UInt8) : (spI bs).length ≤ 8 := by
  unfold spI; split
  · rename_i h; rw [spreadB_length h]; exact Nat.le_refl _
  · simp
theorem gaI_len (bs : List UInt8) : (gaI bs).length ≤ 7 := by
  unfold gaI; split
  · rename_i h; rw [gatherB_length h]; exact Nat.le_refl _
  · simp

set_option maxRecDepth 100000 in
set_option maxHeartbeats 2000000 in
theorem law_keys (n c b : Nat) (A : Option Addr) (bs : List UInt8) (w : World) (hA : RB w A n bs) (hn : n ≤ c) (hc : c ≤ maxLen) (hb : b < 256) :
    Calls Try.prog 8 #[.slice A n c, .int .u8 b] w fun e w' => e = .returned (.bool true) ∧ Below w.heap.size w w' := by
  have hnm : n ≤ maxLen := Nat.le_trans hn hc
  have hnm' := hnm
  unfold maxLen at hnm'
  by_cases hbig : 100 < n
  · clear hA hn hc hnm
    go_enter Try.func8, Try.ntmps8
    go_wp2_with fail
    refine (alive03 _).mono ?_
    rintro e w4 ⟨rfl, hb4⟩
    go_wp2
    go_ret
    exact ⟨rfl, hb4⟩
  · have hE := show (spE bs = 0 ∧ gaE (spI bs) = 0 ∧ gaI (spI bs) = bs) ∨ spE bs = 1 by
      by_cases h : bs.length = 7
      · left
        simp only [spE, spI, gaE, gaI, if_pos h, if_pos (spreadB_length h), gather_spread h]
        exact ⟨trivial, trivial, trivial⟩
      · right; simp only [spE, if_neg h]
    have hS8 := spI_len bs
    have hG7 := gaI_len bs
    have hG7' := gaI_len (spI bs)
    have c1 := fun w' (h : Below w.heap.size w w') => bitp_spread_all w' n c A bs (hA.below h) hnm
    have c2 := fun w' (h : Below w.heap.size w w') => ref_spread_all w' n c A bs (hA.below h) hnm
    have c3 := fun w' (h : Below w.heap.size w w') => bitp_gather_all w' n c A bs (hA.below h) hnm
    have c4 := fun w' (h : Below w.heap.size w w') => ref_gather_all w' n c A bs (hA.below h) hnm
    have c5 := fun w' m d B (h : RB w' B m (spI bs)) (hm : m ≤ maxLen) => bitp_gather_all w' m d B (spI bs) h hm
    obtain ⟨S, hS⟩ : ∃ S, S = spI bs := ⟨_, rfl⟩
    obtain ⟨E, hEE⟩ : ∃ E, E = spE bs := ⟨_, rfl⟩
    obtain ⟨G, hG⟩ : ∃ G, G = gaI bs := ⟨_, rfl⟩
    obtain ⟨F, hF⟩ : ∃ F, F = gaE bs := ⟨_, rfl⟩
    obtain ⟨K, hK⟩ : ∃ K, K = gaI (spI bs) := ⟨_, rfl⟩
    obtain ⟨I, hI⟩ : ∃ I, I = gaE (spI bs) := ⟨_, rfl⟩
    rw [← hK, ← hI, ← hEE] at hE
    rw [← hS] at hS8
    rw [← hG] at hG7
    rw [← hK] at hG7'
    simp only [← hS, ← hEE] at c1 c2
    simp only [← hG, ← hF] at c3 c4
    simp only [← hK, ← hI] at c5
    simp only [← hS] at c5
    clear hS hEE hG hF hK hI
    have C1 := Lib.hid c1; clear c1
    have C2 := Lib.hid c2; clear c2
    have C3 := Lib.hid c3; clear c3
    have C4 := Lib.hid c4; clear c4
    have C5 := Lib.hid c5; clear c5
    have HA := Lib.hid hA; clear hA
    have co1 := fun w => bitp_odd b w hb
    have co2 := fun w => ref_odd b w hb
    have hol := oddN_lt b hb
    obtain ⟨O, hO⟩ : ∃ O, O = oddN b := ⟨_, rfl⟩
    simp only [← hO] at co1 co2
    have Co1 := Lib.hid co1; clear co1
    have Co2 := Lib.hid co2; clear co2
    rw [← hO] at hol
    have HE := Lib.hid hE; clear hE
    clear hO hn hc hnm
    go_enter Try.func8, Try.ntmps8
    go_wp2_with fail
    refine (C1.out _ (Below.refl _ _)).mono ?_
    rintro e w1 ⟨A1, n1, d1, rfl, hd1, hm1, hr1, hb1⟩
    have Hb1 := Lib.hid hb1
    go_wp2_with fail
    refine (C2.out _ Hb1.out).mono ?_
    rintro e w2 ⟨A2, n2, d2, rfl, hd2, hm2, hr2, hb2⟩
    have Hb2 := Lib.hid (Hb1.out.trans (hb2.mono Hb1.out.size))
    have hr12 := hr1.below hb2
    go_wp2_with fail
    refine (C3.out _ Hb2.out).mono ?_
    rintro e w3 ⟨A3, n3, d3, rfl, hd3, hm3, hr3, hb3⟩
    have Hb3 := Lib.hid (Hb2.out.trans (hb3.mono Hb2.out.size))
    have hr13 := hr12.below hb3
    have hr23 := hr2.below hb3
    go_wp2_with fail
    refine (C4.out _ Hb3.out).mono ?_
    rintro e w4 ⟨A4, n4, d4, rfl, hd4, hm4, hr4, hb4⟩
    have Hb4 := Lib.hid (Hb3.out.trans (hb4.mono Hb3.out.size))
    have hr14 := hr13.below hb4
    have hr24 := hr23.below hb4
    have hr34 := hr3.below hb4
    have ln1 := hr1.len
    have ln2 := hr2.len
    have ln3 := hr3.len
    have ln4 := hr4.len
    have hn1 : n1 ≤ 8 := by omega
    have hn2 : n2 ≤ 8 := by omega
    have hn3 : n3 ≤ 7 := by omega
    have hn4 : n4 ≤ 7 := by omega
    clear ln1 ln2 ln3 ln4 hr1 hr2 hr3 hr12 hr13 hr23 hb1 hb2 hb3 hb4
    go_wp2_with fail
    refine (C5.out _ _ _ _ hr14 (by simp [maxLen]; omega)).mono ?_
    rintro e w5 ⟨A5, n5, d5, rfl, hd5, hm5, hr5, hb5⟩
    have Hb5 := Lib.hid (Hb4.out.trans (hb5.mono Hb4.out.size))
    have ln5 := hr5.len
    have hn5 : n5 ≤ 7 := by omega
    have Hr1 := Lib.hid (hr14.below hb5)
    have Hr2 := Lib.hid (hr24.below hb5)
    have Hr3 := Lib.hid (hr34.below hb5)
    have Hr4 := Lib.hid (hr4.below hb5)
    have Hr5 := Lib.hid hr5
    clear ln5 hr14 hr24 hr34 hr4 hr5 hb5
    rcases HE.out with ⟨he, hi, hk⟩ | he
    · subst he hi hk
      go_wp2_with fail
      refine (ref_same A1 A2 n1 n2 d1 d2 S S _ Hr1.out Hr2.out (by simp [maxLen]; omega) (by simp [maxLen]; omega)).mono ?_
      rintro e w6 ⟨rfl, hq6⟩
      rw [decide_self]
      have Hq6 := Lib.hid hq6; clear hq6
      go_wp2_with fail
      refine (ref_same A3 A4 n3 n4 d3 d4 G G _ (Hr3.out.qt Hq6.out) (Hr4.out.qt Hq6.out) (by simp [maxLen]; omega) (by simp [maxLen]; omega)).mono ?_
      rintro e w7 ⟨rfl, hq7⟩
      rw [decide_self]
      have Hq7 := Lib.hid (Hq6.out.trans hq7); clear hq7
      go_wp2_with fail
      refine (Co1.out _).mono ?_
      rintro e w8 ⟨rfl, rfl⟩
      go_wp2_with fail
      refine (Co2.out _).mono ?_
      rintro e w8 ⟨rfl, rfl⟩
      go_wp2_with fail
      refine (ref_same A5 A n5 n d5 c K K _ (Hr5.out.qt Hq7.out) ((HA.out.below Hb5.out).qt Hq7.out) (by simp [maxLen]; omega) (by simp [maxLen]; omega)).mono ?_
      rintro e w9 ⟨rfl, hq9⟩
      rw [decide_self]
      have Hq9 := Lib.hid (Hq7.out.trans hq9); clear hq9
      have hbf := below_qt Hb5.out Hq9.out
      go_wp2_with fail
      refine (alive03 _).mono ?_
      rintro e w10 ⟨rfl, hb10⟩
      go_wp2
      go_ret
      exact ⟨rfl, hbf.trans (hb10.mono hbf.size)⟩
    · subst he
      go_wp2_with fail
      refine (ref_same A1 A2 n1 n2 d1 d2 S S _ Hr1.out Hr2.out (by simp [maxLen]; omega) (by simp [maxLen]; omega)).mono ?_
      rintro e w6 ⟨rfl, hq6⟩
      rw [decide_self]
      have Hq6 := Lib.hid hq6; clear hq6
      go_wp2_with fail
      refine (ref_same A3 A4 n3 n4 d3 d4 G G _ (Hr3.out.qt Hq6.out) (Hr4.out.qt Hq6.out) (by simp [maxLen]; omega) (by simp [maxLen]; omega)).mono ?_
      rintro e w7 ⟨rfl, hq7⟩
      rw [decide_self]
      have Hq7 := Lib.hid (Hq6.out.trans hq7); clear hq7
      go_wp2_with fail
      refine (Co1.out _).mono ?_
      rintro e w8 ⟨rfl, rfl⟩
      go_wp2_with fail
      refine (Co2.out _).mono ?_
      rintro e w8 ⟨rfl, rfl⟩
      have hbf := below_qt Hb5.out Hq7.out
      go_wp2_with fail
      refine (alive03 _).mono ?_
      rintro e w10 ⟨rfl, hb10⟩
      go_wp2
      go_ret
      exact ⟨rfl, hbf.trans (hb10.mono hbf.size)⟩
end Go.Proofs.Ytkndelbnjhkbcaa
