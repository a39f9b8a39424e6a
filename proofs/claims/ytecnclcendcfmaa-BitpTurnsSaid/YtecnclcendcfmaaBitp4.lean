/-
  Contracts: keys spread, and gathered.
-/
import Derived.Test.YtecnclcendcfmaaBitpPlain
import Derived.Test.YtecnclcendcfmaaBitp2
import Derived.Outline
namespace Go.Proofs.Ytecnclcendcfmaa
set_option maxRecDepth 100000
open Go.RowKit
set_option linter.unusedVariables false

theorem dbl_u8 (s : Nat) (h : s < 128) : IntKind.u8.wrap ((s : Int) * 2) = ((2 * s : Nat) : Int) := by rw [IntKind.wrap_u8]; omega
set_option maxRecDepth 100000 in
set_option maxHeartbeats 1000000 in
theorem bitp_spread (w : World) (c : Nat) (A : Option Addr) (bs : List UInt8) (hA : RB w A 7 bs) :
    Calls Try.prog 25 #[.slice A 7 c] w fun e w' => ∃ v, e = .returned (.tuple #[v, .int .i64 0]) ∧ OB w' w.heap.size v 8 (spreadB bs) ∧ Below w.heap.size w w' := by
  have hl := hA.len
  have hpl := packed7_length hl
  have hlt := fun s hs => packed7_lt hl (s := s) hs
  have cg := bitp_gathered w 7 8 7 c A bs hA (by omega) (by omega) (by omega) (by omega)
  unfold spreadB
  obtain ⟨L, hL⟩ : ∃ L, L = packed 7 (keyBits 8 bs) := ⟨_, rfl⟩
  rw [← hL] at hpl cg ⊢
  simp only [← hL] at hlt
  rw [hpl] at cg
  clear hL hA hl
  have Hlt := Lib.hid hlt; clear hlt
  have Hpl := Lib.hid hpl; clear hpl
  go_enter Try.func25, Try.ntmps25
  go_wp2_with fail
  refine cg.mono ?_
  rintro e w1 ⟨v, rfl, hown, hb1⟩
  obtain ⟨B, cc, rfl, hnc, hcm, hrb⟩ := hown.shape
  have hB : ∃ g, B = some ⟨g, 0, none⟩ := by
    rcases hown.2 with ⟨hv, hn⟩ | ⟨g, cap, cur, hv, _⟩
    · injection hv with h1 h2 h3; omega
    · injection hv with h1 h2 h3; exact ⟨g, h1⟩
  obtain ⟨g, rfl⟩ := hB
  have hge := hown.ge
  have Hown := Lib.hid hown; clear hown hrb
  go_wp2
  go_loopw [14] (fun i wr => ∃ (k : Nat) (cur : List UInt8), k ≤ 8 ∧ i = .int .i64 k ∧ OB wr w.heap.size (.slice (some ⟨g, 0, none⟩) 8 cc) 8 cur ∧ cur.take k = (L.map fun s => UInt8.ofNat (oddN (2 * s.toNat))).take k ∧ cur.drop k = L.drop k ∧ Below w.heap.size w wr) (fun i _ => 8 - (intOf i).toNat)
  case atStart => exact ⟨0, L, Nat.zero_le _, rfl, Hown.out, rfl, rfl, hb1⟩
  case round =>
    obtain ⟨k, cur, hk, rfl, hown, htk, hdr, hbel⟩ := hrel
    have Hown := Lib.hid hown; clear hown
    have Htk := Lib.hid htk; clear htk
    have Hdr := Lib.hid hdr; clear hdr
    by_cases hlt : k < 8
    · have hcl := Hown.out.len
      obtain ⟨s, hs⟩ : ∃ s, L[k]? = some s := ⟨_, List.getElem?_eq_getElem (by rw [Hpl.out]; omega)⟩
      have hcs : cur[k]? = some s := by
        have h1 : (cur.drop k)[0]? = (L.drop k)[0]? := by rw [Hdr.out]
        rw [List.getElem?_drop, List.getElem?_drop] at h1
        rw [show k + 0 = k by omega] at h1
        rw [h1, hs]
      have hsl := Hlt.out s (List.mem_of_getElem? hs)
      have hcc := Hown.out.cellAt hcs
      have hfz := Hown.out.frozenAt k
      have hcc' : wr.cell? ⟨g, k, none⟩ = some (.int .u8 (s.toNat : Int)) := hcc
      have hdb : (s.toNat : Int) * 2 = ((2 * s.toNat : Nat) : Int) := by omega
      have codd := fun w => bitp_odd (2 * s.toNat) w (by omega)
      have hol := oddN_lt (2 * s.toNat) (by omega)
      obtain ⟨o, ho⟩ : ∃ o : UInt8, o = UInt8.ofNat (oddN (2 * s.toNat)) := ⟨_, rfl⟩
      have hoI : ((oddN (2 * s.toNat) : Nat) : Int) = (o.toNat : Int) := by rw [ho, UInt8.toNat_ofNat']; omega
      rw [hoI] at codd
      have hat : (L.map fun s => UInt8.ofNat (oddN (2 * s.toNat)))[k]? = some o := by rw [List.getElem?_map, hs, ho]; rfl
      have Hnx := Lib.hid (set_take Htk.out (by omega) hat)
      have Hdx := Lib.hid (show (cur.set k o).drop (k + 1) = L.drop (k + 1) by
        rw [List.drop_set_of_lt (by omega)]
        have := congrArg (List.drop 1) Hdr.out
        rwa [List.drop_drop, List.drop_drop] at this)
      have Codd := Lib.hid codd; clear codd
      clear hs hcs hcc hat ho hol hoI hcl
      obtain ⟨S, hS⟩ : ∃ S, S = s.toNat := ⟨_, rfl⟩
      rw [← hS] at hcc' hsl hdb Codd
      clear hS
      obtain ⟨S2, hS2⟩ : ∃ S2, S2 = 2 * S := ⟨_, rfl⟩
      rw [← hS2] at hdb Codd
      clear hS2
      go_wp2_with fail
      refine (Codd.out _).mono ?_
      rintro e w2 ⟨rfl, rfl⟩
      go_wp2
      go_roundw
      case rel => exact ⟨k + 1, cur.set k o, by omega, by go_num, Hown.out.stored _ _, Hnx.out, Hdx.out, hbel.setCell (by have := hge.1; simp; omega) _⟩
      case measure => simp [intOf] <;> omega
    · obtain rfl : k = 8 := by omega
      have h1 := Htk.out
      have h2 := Hown.out.len
      rw [List.take_of_length_le (by omega), List.take_of_length_le (by rw [List.length_map, Hpl.out]; exact Nat.le_refl _)] at h1
      subst h1
      go_wp2
      go_ret2
      exact ⟨_, rfl, Hown.out, hbel⟩
theorem bitp_spread_no (w : World) (n c : Nat) (A : Option Addr) (h : n ≠ 7) (hn : n ≤ maxLen) :
    Calls Try.prog 25 #[.slice A n c] w fun e w' => e = .returned (.tuple #[.slice none 0 0, .int .i64 1]) ∧ w = w' := by
  unfold maxLen at hn
  have hne : ((n : Int) != 7) = true := by simp; omega
  clear h
  go_enter Try.func25, Try.ntmps25
  go_wp2
  go_ret2
  exact ⟨rfl, rfl⟩
end Go.Proofs.Ytecnclcendcfmaa
