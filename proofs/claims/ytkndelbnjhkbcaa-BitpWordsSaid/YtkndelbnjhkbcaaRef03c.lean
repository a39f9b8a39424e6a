/-
  Contract: the word of the bits that a table names, by the document.
-/
import Derived.Test.YtkndelbnjhkbcaaRef03b
namespace Go.Proofs.Ytkndelbnjhkbcaa
open Go.RowKit
set_option linter.unusedVariables false

/-- The bits that a table names, as bytes. -/
def namedB (x W : Nat) (zs : List Int) : List UInt8 := zs.map fun z => UInt8.ofNat (x / 2 ^ (W - z.toNat) % 2)
theorem namedB_snoc {x W : Nat} {zs : List Int} {k : Nat} {z : Int} (h : zs[k]? = some z) : namedB x W (zs.take (k + 1)) = namedB x W (zs.take k) ++ [UInt8.ofNat (x / 2 ^ (W - z.toNat) % 2)] := by
  unfold namedB; rw [take_snoc h]; simp
theorem namedB_two (x W : Nat) (zs : List Int) : Bytes2 (namedB x W zs) := by
  intro b hb
  obtain ⟨z, _, rfl⟩ := List.mem_map.1 hb
  have := Nat.mod_lt (x / 2 ^ (W - z.toNat)) (by omega : 0 < 2)
  rw [UInt8.toNat_ofNat']; omega
theorem namedB_word (x W : Nat) (zs : List Int) : wordN (natsOf (namedB x W zs)) = permF x W 0 zs := by
  have h1 : natsOf (namedB x W zs) = zs.map fun z => x / 2 ^ (W - z.toNat) % 2 := by
    unfold namedB
    rw [show (zs.map fun z => UInt8.ofNat (x / 2 ^ (W - z.toNat) % 2)) = (zs.map fun z => x / 2 ^ (W - z.toNat) % 2).map UInt8.ofNat by rw [List.map_map]; rfl]
    refine natsOf_ofNat fun y hy => ?_
    obtain ⟨z, _, rfl⟩ := List.mem_map.1 hy
    have := Nat.mod_lt (x / 2 ^ (W - z.toNat)) (by omega : 0 < 2)
    omega
  rw [h1]
  unfold wordN permF
  rw [List.foldl_map]

set_option maxRecDepth 100000 in
set_option maxHeartbeats 2000000 in
theorem ref_permute (x n c : Nat) (W : Int) (A : Option Addr) (zs : List Int) (w : World) (hx : x < 18446744073709551616) (hz : RV w A n (zs.map iz)) (hn : n ≤ maxLen) :
    Calls Try.prog 22 #[.int .u64 x, .int .i64 W, .slice A n c] w (PermPost x W zs w) := by
  have hl : zs.length = n := by have := hz.len; rwa [List.length_map] at this
  unfold maxLen at hn
  have Hl := Lib.hid hl; clear hl
  have Hz := Lib.hid hz; clear hz
  by_cases hW : MayW W
  · obtain ⟨g1, g2⟩ := hW
    by_cases hn64 : n ≤ 64
    · obtain ⟨U, rfl⟩ : ∃ U : Nat, W = (U : Int) := ⟨W.toNat, by omega⟩
      go_enter Try.func22, Try.ntmps22
      go_wp2_with fail
      refine (ref_wide_yes U _ g1 g2).mono ?_
      rintro e w1 ⟨rfl, rfl⟩
      go_wp2_with fail
      refine (ref_row x U _ hx (by omega)).mono ?_
      rintro e w1 ⟨g, rfl, hown, hb1⟩
      have hRat : ∀ i, i < U → w1.cell? ⟨g, i, none⟩ = some (.int .u8 ((UInt8.ofNat (x / 2 ^ (U - 1 - i) % 2)).toNat : Int)) := fun i hi => hown.cellAt (rowB_at hi)
      have hgl := hown.ge
      have HRat := Lib.hid hRat; clear hRat hown
      go_wp2
      go_loopw [9, 10] (fun v i wr => ∃ k : Nat, k ≤ n ∧ i = .int .i64 k ∧ (∀ (j : Nat) (z : Int), j < k → zs[j]? = some z → 1 ≤ z ∧ z ≤ (U : Int)) ∧ OB wr w1.heap.size v k (namedB x U (zs.take k)) ∧ Below w1.heap.size w1 wr) (fun _ i _ => n - (intOf i).toNat)
      case atStart => exact ⟨0, Nat.zero_le _, rfl, fun j z hj => by omega, OB.nil _ _, Below.refl _ _⟩
      case round =>
        obtain ⟨k, hk, rfl, hall, hown, hbel1⟩ := hrel
        have hbel := hb1.trans (hbel1.mono hb1.size)
        have Hall := Lib.hid hall; clear hall
        have Hown := Lib.hid hown; clear hown
        by_cases hlt : k < n
        · obtain ⟨ad, z, rfl, hzk, _, hzc⟩ := iz_at (Hz.out.below hbel) hlt
          have Hzk := Lib.hid hzk; clear hzk
          by_cases h1 : 1 ≤ z
          · by_cases h2 : z ≤ (U : Int)
            · obtain ⟨j, rfl⟩ : ∃ j : Nat, z = ((j + 1 : Nat) : Int) := ⟨z.toNat - 1, by omega⟩
              have hj1 : ((j + 1 : Nat) : Int) - 1 = (j : Int) := by omega
              have hcell := (hbel1.cell (p := ⟨g, j, none⟩) hgl.2).trans (HRat.out j (by omega))
              have Hsn := Lib.hid (namedB_snoc (x := x) (W := U) Hzk.out)
              have hjj : (((j + 1 : Nat) : Int)).toNat = j + 1 := rfl
              rw [hjj, show U - (j + 1) = U - 1 - j by omega] at Hsn
              obtain ⟨q, hq⟩ : ∃ q : UInt8, q = UInt8.ofNat (x / 2 ^ (U - 1 - j) % 2) := ⟨_, rfl⟩
              rw [← hq] at hcell Hsn
              clear hq hjj
              have hsz := hbel1.size
              obtain ⟨zz, hzz⟩ : ∃ zz : Int, zz = ((j + 1 : Nat) : Int) := ⟨_, rfl⟩
              rw [← hzz] at hzc h1 h2 hj1
              have Hzz := Lib.hid hzz; clear hzz
              go_wp2_with (at_builtin; refine wpList_appb _ rfl (.tmp 41) (.tmp 50) rfl w1.heap.size _ _ _ rfl (Hown.out.alloc _) _ _ _ _ rfl (RB.new1 _ q _ (by simp)) (by omega) (by simp; omega) ?_; intro v' w3 hown3 hg3 hat3; have Hown3 := Lib.hid hown3; clear hown3)
              go_roundw
              case rel =>
                refine ⟨k + 1, by omega, by go_num, fun i y hi hy => ?_, ?_, (hbel1.alloc hsz _).grown hg3 (by simp; omega) fun j hj => (Hown.out.lt j hj).1⟩
                · rcases Nat.lt_or_ge i k with h | h
                  · exact Hall.out i y h hy
                  · obtain rfl : i = k := by omega
                    rw [Hzk.out] at hy; injection hy with hy; subst hy
                    have := Hzz.out; omega
                · rw [Hsn.out]; exact Hown3.out
              case measure => simp [intOf] <;> omega
            · go_wp2
              go_ret2
              exact PermPost.no (fun h => by have := (h.2.2 z (List.mem_of_getElem? Hzk.out)).2; omega) hbel
          · go_wp2
            go_ret2
            exact PermPost.no (fun h => by have := (h.2.2 z (List.mem_of_getElem? Hzk.out)).1; omega) hbel
        · obtain rfl : k = n := by omega
          have hall : ∀ z ∈ zs, 1 ≤ z ∧ z ≤ (U : Int) := fun z hzm => by
            obtain ⟨i, hi, he⟩ := List.mem_iff_getElem.1 hzm
            exact Hall.out i z (by rw [← Hl.out]; exact hi) (by rw [List.getElem?_eq_getElem hi, he])
          have Hal := Lib.hid hall; clear hall
          have ht : zs.take k = zs := List.take_of_length_le (by rw [Hl.out]; exact Nat.le_refl _)
          rw [ht] at Hown
          obtain ⟨A3, c3, rfl, hnc3, hcm3, hrb3⟩ := Hown.out.shape
          have hE := namedB_word x U zs
          have hB := namedB_two x U zs
          obtain ⟨N, hN⟩ : ∃ N, N = namedB x U zs := ⟨_, rfl⟩
          obtain ⟨F, hF⟩ : ∃ F, F = permF x U 0 zs := ⟨_, rfl⟩
          rw [← hN, ← hF] at hE
          rw [← hN] at hB hrb3
          have cw := fun w' (hr : RB w' A3 k N) => ref_word A3 k c3 N w' hr hB hn64
          rw [hE] at cw
          have Cw := Lib.hid cw; clear cw
          have Hrb3 := Lib.hid hrb3
          have HF := Lib.hid hF
          clear hrb3 hF hE hB hN ht
          go_wp2_with fail
          refine (Cw.out _ Hrb3.out).mono ?_
          rintro e w4 ⟨rfl, rfl⟩
          go_wp2
          go_ret2
          exact PermPost.yes ⟨⟨g1, g2⟩, by rw [Hl.out]; exact hn64, Hal.out⟩ (by rw [HF.out]) hbel
    · go_enter Try.func22, Try.ntmps22
      go_wp2_with fail
      refine (ref_wide_yes W _ g1 g2).mono ?_
      rintro e w1 ⟨rfl, rfl⟩
      go_wp2
      go_ret2
      exact PermPost.no (fun h => by have := h.2.1; rw [Hl.out] at this; omega) (Below.refl _ _)
  · have HW := Lib.hid hW; clear hW
    go_enter Try.func22, Try.ntmps22
    go_wp2_with fail
    refine (ref_wide_no W _ HW.out).mono ?_
    rintro e w1 ⟨rfl, rfl⟩
    go_wp2
    go_ret2
    exact PermPost.no (fun h => HW.out h.1) (Below.refl _ _)
end Go.Proofs.Ytkndelbnjhkbcaa
