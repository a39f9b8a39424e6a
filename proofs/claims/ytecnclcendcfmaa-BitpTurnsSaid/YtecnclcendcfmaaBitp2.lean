/-
  Contracts: the word of the bits that a table names.
-/
import Derived.Test.YtecnclcendcfmaaBitp1
namespace Go.Proofs.Ytecnclcendcfmaa
set_option maxRecDepth 100000
open Go.RowKit
set_option linter.unusedVariables false

/-- What a call that hands back nothing hands back. -/
theorem bitp_put (g v b : Nat) (w : World) (hc : w.cell? ⟨g, 0, none⟩ = some (.int .u64 v)) (hf : w.frozen? ⟨g, 0, none⟩ = false) (hv : v < 9223372036854775808) (hb : b < 2) :
    Calls Try.prog 35 #[.int .u64 b, .pointer (some ⟨g, 0, none⟩)] w fun e w' => e = .returned (.tuple #[]) ∧ w' = w.setCell ⟨g, 0, none⟩ (.int .u64 (2 * v + b : Nat)) := by
  have hor : bits .or .u64 ((v : Int) * 2) (b : Int) = ((2 * v + b : Nat) : Int) := by
    have e2 : (v : Int) * 2 = ((2 * v : Nat) : Int) := by omega
    rw [e2, u64_or_n _ _ (by omega) (by omega), or_parts (k := 1) (by omega) (by omega)]
  obtain ⟨z, hz⟩ : ∃ z, z = 2 * v + b := ⟨_, rfl⟩
  rw [← hz] at hor ⊢
  clear hz
  go_enter Try.func35, Try.ntmps35
  go_wp2
  go_end0
  exact ⟨rfl, rfl⟩

/-- The bits that a table names, behind v. -/
def permF (x W : Nat) (v : Nat) (zs : List Int) : Nat := zs.foldl (fun v z => 2 * v + x / 2 ^ (W - z.toNat) % 2) v
theorem permF_snoc {x W v : Nat} {zs : List Int} {k : Nat} {z : Int} (h : zs[k]? = some z) : permF x W v (zs.take (k + 1)) = 2 * permF x W v (zs.take k) + x / 2 ^ (W - z.toNat) % 2 := by
  rw [take_snoc h]; simp [permF]
theorem permF_lt (x W : Nat) : ∀ zs : List Int, permF x W 0 zs < 2 ^ zs.length := by
  have : ∀ (zs : List Int) (v k : Nat), v < 2 ^ k → permF x W v zs < 2 ^ (k + zs.length) := by
    intro zs
    induction zs with
    | nil => intro v k h; simpa [permF] using h
    | cons z zs ih =>
      intro v k h
      have := ih (2 * v + x / 2 ^ (W - z.toNat) % 2) (k + 1) (by rw [Nat.pow_succ]; omega)
      rw [List.length_cons, show k + (zs.length + 1) = k + 1 + zs.length by omega]
      exact this
  intro zs
  have := this zs 0 0 (by simp)
  simpa using this
def iz (z : Int) : Value := .int .i64 z
theorem iz_at {w : World} {A : Option Addr} {L : List Int} {n k : Nat} (h : RV w A n (L.map iz)) (hk : k < n) :
    ∃ ad p, A = some ad ∧ L[k]? = some p ∧ ad.block < w.heap.size ∧ w.cell? (ad.add k) = some (.int .i64 p) := by
  obtain ⟨ad, vv, rfl, hlt, hvk, hcell⟩ := h.at_ hk
  have hl : k < L.length := by have := h.len; rw [List.length_map] at this; omega
  have hp : L[k]? = some L[k] := List.getElem?_eq_getElem hl
  rw [map_at hp] at hvk
  injection hvk with hvk
  subst hvk
  exact ⟨ad, _, rfl, hp, hlt, hcell⟩

set_option maxRecDepth 100000 in
set_option maxHeartbeats 1000000 in
theorem bitp_named (x W n c : Nat) (A : Option Addr) (zs : List Int) (w0 w : World) (hx : x < 18446744073709551616) (h2 : W ≤ 64) (hz : RV w0 A n (zs.map iz)) (hok : ∀ z ∈ zs, 1 ≤ z ∧ z ≤ (W : Int)) (hn : n ≤ 64)
    (hb : Below w0.heap.size w0 w) (hc : w.cell? ⟨w0.heap.size, 0, none⟩ = some (.int .u64 0)) (hf : w.frozen? ⟨w0.heap.size, 0, none⟩ = false) :
    Calls Try.prog 34 #[.int .u64 x, .int .i64 W, .slice A n c, .func (.func 35) #[] #[.pointer (some ⟨w0.heap.size, 0, none⟩)]] w fun e w' =>
      e = .returned (.tuple #[]) ∧ w'.cell? ⟨w0.heap.size, 0, none⟩ = some (.int .u64 (permF x W 0 zs : Nat)) ∧ Below w0.heap.size w0 w' := by
  have hl : zs.length = n := by have := hz.len; rwa [List.length_map] at this
  have Hok := Lib.hid hok; clear hok
  have Hl := Lib.hid hl; clear hl
  have Hz := Lib.hid hz; clear hz
  obtain ⟨g, hg⟩ : ∃ g, g = w0.heap.size := ⟨_, rfl⟩
  rw [← hg] at hc hf hb ⊢
  have Hg := Lib.hid hg; clear hg
  have Hb := Lib.hid hb; clear hb
  have Hc := Lib.hid hc; clear hc
  have Hf := Lib.hid hf; clear hf
  go_enter Try.func34, Try.ntmps34
  go_wp2
  go_loopw [12] (fun i wr => ∃ k : Nat, k ≤ n ∧ i = .int .i64 k ∧ wr.cell? ⟨g, 0, none⟩ = some (.int .u64 (permF x W 0 (zs.take k) : Nat)) ∧ wr.frozen? ⟨g, 0, none⟩ = false ∧ Below g w0 wr) (fun i _ => n - (intOf i).toNat)
  case atStart => exact ⟨0, Nat.zero_le _, rfl, Hc.out, Hf.out, Hb.out⟩
  case round =>
    obtain ⟨k, hk, rfl, hcell, hfz, hbel⟩ := hrel
    by_cases hlt : k < n
    · obtain ⟨ad, z, rfl, hzk, _, hzc⟩ := iz_at (Hz.out.below (by rw [← Hg.out]; exact hbel)) hlt
      obtain ⟨hz1, hz2⟩ := Hok.out z (List.mem_of_getElem? hzk)
      have Hs := Lib.hid (permF_snoc (x := x) (W := W) (v := 0) hzk)
      have hvl := permF_lt x W (zs.take k)
      have hkl : (zs.take k).length ≤ 63 := by rw [List.length_take]; omega
      have hvl2 := Nat.lt_of_lt_of_le hvl (pow2_le (m := 63) hkl)
      clear hvl hkl hzk
      obtain ⟨v, hv⟩ : ∃ v, v = permF x W 0 (zs.take k) := ⟨_, rfl⟩
      rw [← hv] at hcell hvl2 Hs
      clear hv
      obtain ⟨j, rfl⟩ : ∃ j : Nat, z = (j : Int) := ⟨z.toNat, by omega⟩
      have hbit := fun w => bitp_bit_yes x W j w hx (by omega) (by omega) h2
      obtain ⟨b, hbb⟩ : ∃ b, b = x / 2 ^ (W - j) % 2 := ⟨_, rfl⟩
      have hb2 : b < 2 := by rw [hbb]; exact Nat.mod_lt _ (by omega)
      simp only [← hbb] at hbit
      have hjj : ((j : Int)).toNat = j := rfl
      rw [hjj, ← hbb] at Hs
      clear hbb hjj
      have Hbit := Lib.hid hbit; clear hbit
      go_wp2_with fail
      refine (Hbit.out _).mono ?_
      rintro e w1 ⟨rfl, rfl⟩
      go_wp2_with fail
      refine (bitp_put g v b _ hcell hfz (by omega) hb2).mono ?_
      rintro e w1 ⟨rfl, rfl⟩
      go_wp2
      go_roundw
      case rel => exact ⟨k + 1, by omega, by go_num, by rw [Hs.out]; exact World.cell?_setCell_same _ _ _ hcell, by simp [hfz], hbel.setCell (Nat.le_refl _) _⟩
      case measure => simp [intOf] <;> omega
    · obtain rfl : k = n := by omega
      rw [List.take_of_length_le (by rw [Hl.out]; exact Nat.le_refl _)] at hcell
      have Hcell := Lib.hid hcell; clear hcell
      go_wp2
      go_end0
      exact ⟨rfl, Hcell.out, hbel⟩

/-- May there be such a word? -/
def permB (W : Int) (zs : List Int) : Bool := decide (1 ≤ W) && decide (W ≤ 64) && decide (zs.length ≤ 64) && zs.all fun z => decide (1 ≤ z) && decide (z ≤ W)
def permI (x : Nat) (W : Int) (zs : List Int) : Nat := if permB W zs = true then permF x W.toNat 0 zs else 0
def permE (W : Int) (zs : List Int) : Int := if permB W zs = true then 0 else 1
theorem permB_true {W : Int} {zs : List Int} : permB W zs = true ↔ MayW W ∧ zs.length ≤ 64 ∧ ∀ z ∈ zs, 1 ≤ z ∧ z ≤ W := by
  unfold permB MayW
  simp only [Bool.and_eq_true, decide_eq_true_iff, List.all_eq_true]
  constructor
  · rintro ⟨⟨⟨h1, h2⟩, h3⟩, h4⟩; exact ⟨⟨h1, h2⟩, h3, h4⟩
  · rintro ⟨⟨h1, h2⟩, h3, h4⟩; exact ⟨⟨⟨h1, h2⟩, h3⟩, h4⟩
/-- What Permute hands back. -/
def PermPost (x : Nat) (W : Int) (zs : List Int) (w : World) (e : Ending) (w' : World) : Prop :=
  e = .returned (.tuple #[.int .u64 (permI x W zs : Nat), .int .i64 (permE W zs)]) ∧ Below w.heap.size w w'
theorem PermPost.no {x : Nat} {W : Int} {zs : List Int} {w w' : World} (h : ¬ (MayW W ∧ zs.length ≤ 64 ∧ ∀ z ∈ zs, 1 ≤ z ∧ z ≤ W)) (hb : Below w.heap.size w w') :
    PermPost x W zs w (.returned (.tuple #[.int .u64 0, .int .i64 1])) w' := by
  have : permB W zs ≠ true := fun hh => h (permB_true.1 hh)
  refine ⟨?_, hb⟩
  simp only [permI, permE, if_neg this]
  rfl
theorem PermPost.yes {x W : Nat} {zs : List Int} {w w' : World} {v : Int} (h : MayW W ∧ zs.length ≤ 64 ∧ ∀ z ∈ zs, 1 ≤ z ∧ z ≤ (W : Int)) (hv : v = (permF x W 0 zs : Nat)) (hb : Below w.heap.size w w') :
    PermPost x W zs w (.returned (.tuple #[.int .u64 v, .int .i64 0])) w' := by
  have : permB W zs = true := permB_true.2 h
  refine ⟨?_, hb⟩
  simp only [permI, permE, if_pos this, hv, Int.toNat_natCast]
set_option maxRecDepth 100000 in
set_option maxHeartbeats 1000000 in
theorem bitp_permute (x n c : Nat) (W : Int) (A : Option Addr) (zs : List Int) (w : World) (hx : x < 18446744073709551616) (hz : RV w A n (zs.map iz)) (hn : n ≤ maxLen) :
    Calls Try.prog 24 #[.int .u64 x, .int .i64 W, .slice A n c] w (PermPost x W zs w) := by
  have hl : zs.length = n := by have := hz.len; rwa [List.length_map] at this
  unfold maxLen at hn
  have Hl := Lib.hid hl; clear hl
  have Hz := Lib.hid hz; clear hz
  by_cases hW : MayW W
  · obtain ⟨g1, g2⟩ := hW
    by_cases hn64 : n ≤ 64
    · obtain ⟨U, rfl⟩ : ∃ U : Nat, W = (U : Int) := ⟨W.toNat, by omega⟩
      have hmf : ∀ (fn : Fn) (first cap : Array Value) (w : World), (Instr.makeFunc fn first cap).run Try.prog w = .ok (.func fn first cap) w := fun _ _ _ _ => rfl
      go_enter Try.func24, Try.ntmps24
      go_wp2_with fail
      refine (bitp_may_yes U _ g1 g2).mono ?_
      rintro e w1 ⟨rfl, rfl⟩
      go_wp2
      go_loopw [21] (fun i wr => ∃ k : Nat, k ≤ n ∧ i = .int .i64 k ∧ (∀ (j : Nat) (z : Int), j < k → zs[j]? = some z → 1 ≤ z ∧ z ≤ (U : Int)) ∧ w = wr) (fun i _ => n - (intOf i).toNat)
      case atStart => exact ⟨0, Nat.zero_le _, rfl, fun j z hj => by omega, rfl⟩
      case round =>
        obtain ⟨k, hk, rfl, hall, rfl⟩ := hrel
        have Hall := Lib.hid hall; clear hall
        by_cases hlt : k < n
        · obtain ⟨ad, z, rfl, hzk, _, hzc⟩ := iz_at Hz.out hlt
          have Hzk := Lib.hid hzk; clear hzk
          by_cases h1 : 1 ≤ z
          · by_cases h2 : z ≤ (U : Int)
            · go_wp2
              go_roundw
              case rel =>
                refine ⟨k + 1, by omega, by go_num, fun j y hj hy => ?_, by first | rfl | trivial⟩
                rcases Nat.lt_or_ge j k with h | h
                · exact Hall.out j y h hy
                · obtain rfl : j = k := by omega
                  rw [Hzk.out] at hy; injection hy with hy; subst hy; exact ⟨h1, h2⟩
              case measure => simp [intOf] <;> omega
            · go_wp2
              go_ret2
              exact PermPost.no (fun h => by have := (h.2.2 z (List.mem_of_getElem? Hzk.out)).2; omega) (Below.refl _ _)
          · go_wp2
            go_ret2
            exact PermPost.no (fun h => by have := (h.2.2 z (List.mem_of_getElem? Hzk.out)).1; omega) (Below.refl _ _)
        · obtain rfl : k = n := by omega
          have hall : ∀ z ∈ zs, 1 ≤ z ∧ z ≤ (U : Int) := fun z hzm => by
            obtain ⟨i, hi, he⟩ := List.mem_iff_getElem.1 hzm
            exact Hall.out i z (by rw [← Hl.out]; exact hi) (by rw [List.getElem?_eq_getElem hi, he])
          have Hal := Lib.hid hall; clear hall
          have cnam := fun (w' : World) (hb : Below w.heap.size w w') (hc : w'.cell? ⟨w.heap.size, 0, none⟩ = some (.int .u64 0)) (hf : w'.frozen? ⟨w.heap.size, 0, none⟩ = false) =>
            bitp_named x U k c A zs w w' hx (by omega) Hz.out Hal.out hn64 hb hc hf
          have Cn := Lib.hid cnam; clear cnam
          go_wp2_with fail
          refine (Cn.out _ ((Below.refl _ _).alloc (Nat.le_refl _) _) (by simp) (by simp)).mono ?_
          rintro e w2 ⟨rfl, hc2, hb2⟩
          have Hb2 := Lib.hid hb2; clear hb2
          go_wp2
          go_ret2
          exact PermPost.yes ⟨⟨g1, g2⟩, by rw [Hl.out]; exact hn64, Hal.out⟩ rfl Hb2.out
    · go_enter Try.func24, Try.ntmps24
      go_wp2_with fail
      refine (bitp_may_yes W _ g1 g2).mono ?_
      rintro e w1 ⟨rfl, rfl⟩
      go_wp2
      go_ret2
      exact PermPost.no (fun h => by have := h.2.1; rw [Hl.out] at this; omega) (Below.refl _ _)
  · have HW := Lib.hid hW; clear hW
    go_enter Try.func24, Try.ntmps24
    go_wp2_with fail
    refine (bitp_may_no W _ HW.out).mono ?_
    rintro e w1 ⟨rfl, rfl⟩
    go_wp2
    go_ret2
    exact PermPost.no (fun h => HW.out h.1) (Below.refl _ _)
end Go.Proofs.Ytecnclcendcfmaa
