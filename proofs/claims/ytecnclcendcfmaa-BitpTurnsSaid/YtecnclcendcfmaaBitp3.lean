/-
  Contracts: odd bytes; bits of bytes, laid anew.
-/
import Derived.Test.YtecnclcendcfmaaBitp1
import Derived.Test.YtecnclcendcfmaaOddPlain
import Derived.Test.YtecnclcendcfmaaFar
import Derived.Outline
namespace Go.Proofs.Ytecnclcendcfmaa
set_option maxRecDepth 100000
open Go.RowKit
set_option linter.unusedVariables false

set_option maxHeartbeats 400000 in
theorem bitp_odd (n : Nat) (w : World) (hn : n < 256) :
    Calls Try.prog 27 #[.int .u8 n] w fun e w' => e = .returned (.int .u8 (oddN n : Nat)) ∧ w = w' := by
  have h1 := high_of n hn
  have h2 := or1_of n hn
  have h3 := ones_le n hn
  have hodd : oddN n = if Lib.onesCount (n - n % 2) % 2 = 0 then n - n % 2 + 1 else n - n % 2 := rfl
  obtain ⟨H, hH⟩ : ∃ H, H = n - n % 2 := ⟨_, rfl⟩
  rw [← hH] at h1 h2 h3 hodd
  have hHl : H ≤ 255 := by omega
  have hcnt := fun w => Try.bits_OnesCount8 (H : Int) w (by omega) (by omega)
  have hHn : ((H : Int)).toNat = H := rfl
  rw [hHn] at hcnt
  obtain ⟨C, hC⟩ : ∃ C, C = Lib.onesCount H := ⟨_, rfl⟩
  rw [← hC] at h3 hcnt hodd
  clear hC hH hHn
  by_cases hc : C % 2 = 0
  · rw [if_pos hc] at hodd
    rw [hodd]
    have hz : ((C : Int) % 2 == 0) = true := beq_iff_eq.2 (by omega)
    clear hc hodd
    go_enter Try.func27, Try.ntmps27
    go_wp2_with fail
    refine (hcnt _).mono ?_
    rintro e w' ⟨rfl, rfl⟩
    go_wp2
    go_ret
    exact ⟨rfl, rfl⟩
  · rw [if_neg hc] at hodd
    rw [hodd]
    have hz : ((C : Int) % 2 == 0) = false := beq_eq_false_iff_ne.2 (by omega)
    clear hc hodd
    go_enter Try.func27, Try.ntmps27
    go_wp2_with fail
    refine (hcnt _).mono ?_
    rintro e w' ⟨rfl, rfl⟩
    go_wp2
    go_ret
    exact ⟨rfl, rfl⟩

/-- Bytes laid so far, the bits of the next one, how many these are; and a bit more. -/
structure PK where
  acc : List UInt8
  b : Nat
  f : Nat
def pstep (to : Nat) (s : PK) (bit : Nat) : PK := if s.f + 1 = to then ⟨s.acc ++ [UInt8.ofNat (2 * s.b + bit)], 0, 0⟩ else ⟨s.acc, 2 * s.b + bit, s.f + 1⟩
/-- What the memory of a gathering holds: four cells from block g on, and the bytes behind them. -/
def GS (w0 : World) (to g : Nat) (w : World) (s : PK) : Prop :=
  ∃ v, w.cell? ⟨g, 0, none⟩ = some (.int .i64 to) ∧ w.cell? ⟨g + 1, 0, none⟩ = some v ∧ w.cell? ⟨g + 2, 0, none⟩ = some (.int .u8 s.b) ∧ w.cell? ⟨g + 3, 0, none⟩ = some (.int .i64 s.f) ∧
    w.frozen? ⟨g + 1, 0, none⟩ = false ∧ w.frozen? ⟨g + 2, 0, none⟩ = false ∧ w.frozen? ⟨g + 3, 0, none⟩ = false ∧ OB w (g + 4) v s.acc.length s.acc ∧ Below g w0 w ∧ g + 4 ≤ w.heap.size ∧ s.f < to ∧ s.b < 2 ^ s.f
/-- The closure's post. -/
def GPost (w0 : World) (to g : Nat) (s : PK) (bit : Nat) (e : Ending) (w' : World) : Prop := e = .returned (.tuple #[]) ∧ GS w0 to g w' (pstep to s bit)

set_option maxRecDepth 100000 in
set_option maxHeartbeats 1000000 in
theorem bitp_gput (w0 w : World) (to g bit : Nat) (s : PK) (h : GS w0 to g w s) (hto : to ≤ 8) (hbit : bit < 2) (hlen : s.acc.length ≤ 1000000) :
    Calls Try.prog 40 #[.int .u8 bit, .pointer (some ⟨g + 2, 0, none⟩), .pointer (some ⟨g + 3, 0, none⟩), .pointer (some ⟨g, 0, none⟩), .pointer (some ⟨g + 1, 0, none⟩)] w (GPost w0 to g s bit) := by
  obtain ⟨acc, b, f⟩ := s
  obtain ⟨v, c0, c1, c2, c3, f1, f2, f3, hown, hbel, hsz, hf, hb⟩ := h
  simp only at c2 c3 hown hf hb hlen
  have hb7 : b < 128 := by
    have := pow2_le (k := f) (m := 7) (by omega)
    omega
  have hor : bits .or .u8 ((b : Int) * 2) (bit : Int) = ((2 * b + bit : Nat) : Int) := by
    have e2 : (b : Int) * 2 = ((2 * b : Nat) : Int) := by omega
    rw [e2, u8_or_n _ _ (by omega) (by omega), or_parts (k := 1) (by omega) (by omega)]
  obtain ⟨z, hz⟩ : ∃ z, z = 2 * b + bit := ⟨_, rfl⟩
  rw [← hz] at hor
  have hzl : z < 256 := by omega
  have Hz := Lib.hid hz; clear hz
  have Hown := Lib.hid hown; clear hown
  by_cases hlast : f + 1 = to
  · have hcmp : ((f : Int) + 1 == (to : Int)) = true := beq_iff_eq.2 (by omega)
    have Hl := Lib.hid hlast; clear hlast
    obtain ⟨zb, hzb⟩ : ∃ zb : UInt8, zb = UInt8.ofNat z := ⟨_, rfl⟩
    have hzI : (z : Int) = (zb.toNat : Int) := by rw [hzb, UInt8.toNat_ofNat']; omega
    rw [hzI] at hor
    have Hzb := Lib.hid hzb; clear hzb hzI
    have h3 : acc.length + 1 ≤ 140737488355328 := by omega
    go_enter Try.func40, Try.ntmps40
    go_wp2_with (at_builtin; refine wpList_appb _ rfl (.tmp 15) (.tmp 17) rfl (g + 4) _ _ _ rfl (((Hown.out.far (by simp) _).far (by simp) _).alloc _) _ _ _ _ rfl (RB.new1 _ zb _ (by simp)) h3 (by simp; omega) ?_; intro v' w1 hown1 hg1 hat1; have Hg1 := Lib.hid hg1; have k0 := grown_cell (p := ⟨g, 0, none⟩) hg1 Hown.out.ownGe (by simp) (by simp; omega); have k1 := grown_cell (p := ⟨g + 1, 0, none⟩) hg1 Hown.out.ownGe (by simp) (by simp; omega); have k2 := grown_cell (p := ⟨g + 2, 0, none⟩) hg1 Hown.out.ownGe (by simp) (by simp; omega); have k3 := grown_cell (p := ⟨g + 3, 0, none⟩) hg1 Hown.out.ownGe (by simp) (by simp; omega); obtain ⟨A', c', rfl, hnc', hcm', hrv'⟩ := hown1.shape; have Hown1 := Lib.hid hown1; clear hown1 hg1 hrv'; rw [alloc_other (by simp; omega)] at k0 k1 k2 k3; rw [set_other (by omega), set_other (by omega), c0] at k0; rw [set_other (by omega), set_other (by omega), c1] at k1; rw [set_other (by omega), set_same c2] at k2; rw [set_same (by rw [set_other (by omega)]; exact c3)] at k3; obtain ⟨k0, k0'⟩ := k0; obtain ⟨k1, k1'⟩ := k1; obtain ⟨k2, k2'⟩ := k2; obtain ⟨k3, k3'⟩ := k3; rw [alloc_frozen (by simp; omega), set_frozen, set_frozen] at k1' k2' k3'; rw [f1] at k1'; rw [f2] at k2'; rw [f3] at k3'; clear k0' hat1)
    go_end0
    refine ⟨rfl, ?_⟩
    have hs : pstep to ⟨acc, b, f⟩ bit = ⟨acc ++ [zb], 0, 0⟩ := by simp only [pstep, if_pos Hl.out, ← Hz.out, ← Hzb.out]
    rw [hs]
    refine ⟨_, by rw [set_other (by omega), set_other (by omega), set_other (by omega)]; exact k0, by rw [set_other (by omega), set_other (by omega)]; exact set_same k1,
      by rw [set_other (by omega)]; exact set_same (by rw [set_other (by omega)]; exact k2), set_same (by rw [set_other (by omega), set_other (by omega)]; exact k3),
      by rw [set_frozen, set_frozen, set_frozen]; exact k1', by rw [set_frozen, set_frozen, set_frozen]; exact k2', by rw [set_frozen, set_frozen, set_frozen]; exact k3', ?_, ?_, ?_, by have := Hl.out; simp only; omega, by simp⟩
    · simp only [List.length_append, List.length_singleton]
      exact ((Hown1.out.far (by simp) _).far (by simp) _).far (by simp) _
    · exact ((((((hbel.setCell (by simp) _).setCell (by simp) _).alloc (by simp; omega) _).grown Hg1.out (by simp; omega) fun j hj => by have := Hown.out.ownGe j hj; omega).setCell (by simp) _).setCell (by simp) _).setCell (by simp) _
    · have := Hg1.out.size
      simp at this ⊢
      omega
  · have hcmp : ((f : Int) + 1 == (to : Int)) = false := beq_eq_false_iff_ne.2 (by omega)
    have Hl := Lib.hid hlast; clear hlast
    have Hbel := Lib.hid hbel; clear hbel
    go_enter Try.func40, Try.ntmps40
    go_wp2
    go_end0
    refine ⟨rfl, ?_⟩
    have hs : pstep to ⟨acc, b, f⟩ bit = ⟨acc, z, f + 1⟩ := by simp only [pstep, if_neg Hl.out, Hz.out]
    rw [hs]
    refine ⟨v, by rw [set_other (by omega), set_other (by omega)]; exact c0, by rw [set_other (by omega), set_other (by omega)]; exact c1, by rw [set_other (by omega)]; exact set_same c2, ?_, by simp [f1], by simp [f2], by simp [f3], (Hown.out.far (by simp) _).far (by simp) _, (Hbel.out.setCell (by simp) _).setCell (by simp) _, by simp; omega, by have := Hl.out; simp only; omega, ?_⟩
    · exact set_same (by rw [set_other (by omega)]; exact c3)
    · have := Hz.out
      simp only [Nat.pow_succ]; omega

/-- The first bits of a byte, so many; of each byte. -/
def bitsN (many : Nat) (b : UInt8) : List Nat := (List.range many).map fun i => b.toNat / 2 ^ (7 - i) % 2
def keyBits (many : Nat) (bs : List UInt8) : List Nat := (bs.map (bitsN many)).flatten
def packs (to : Nat) (s : PK) (bits : List Nat) : PK := bits.foldl (pstep to) s
theorem bitsN_at {many i : Nat} {b : UInt8} (h : i < many) : (bitsN many b)[i]? = some (b.toNat / 2 ^ (7 - i) % 2) := by
  unfold bitsN; rw [List.getElem?_map, List.getElem?_range h]; rfl
theorem bitsN_length (many : Nat) (b : UInt8) : (bitsN many b).length = many := by simp [bitsN]
theorem packs_snoc {to : Nat} {s : PK} {bits : List Nat} {k x : Nat} (h : bits[k]? = some x) : packs to s (bits.take (k + 1)) = pstep to (packs to s (bits.take k)) x := by
  rw [take_snoc h]; simp [packs]
theorem keyBits_snoc {many : Nat} {bs : List UInt8} {k : Nat} {b : UInt8} (h : bs[k]? = some b) : keyBits many (bs.take (k + 1)) = keyBits many (bs.take k) ++ bitsN many b := by
  rw [take_snoc h]; simp [keyBits]
theorem packs_append (to : Nat) (s : PK) (a b : List Nat) : packs to s (a ++ b) = packs to (packs to s a) b := by simp [packs]
theorem pstep_len (to : Nat) (s : PK) (x : Nat) : (pstep to s x).acc.length ≤ s.acc.length + 1 := by unfold pstep; split <;> simp
theorem packs_len (to : Nat) : ∀ (bits : List Nat) (s : PK), (packs to s bits).acc.length ≤ s.acc.length + bits.length
  | [], s => by simp [packs]
  | x :: bits, s => by
    have h1 := packs_len to bits (pstep to s x)
    have h2 := pstep_len to s x
    have e : packs to s (x :: bits) = packs to (pstep to s x) bits := rfl
    rw [e, List.length_cons]; omega
theorem keyBits_length (many : Nat) (bs : List UInt8) : (keyBits many bs).length = many * bs.length := by
  induction bs with
  | nil => rfl
  | cons b bs ih =>
    have : keyBits many (b :: bs) = bitsN many b ++ keyBits many bs := rfl
    rw [this, List.length_append, bitsN_length, ih, List.length_cons, Nat.mul_succ]; omega

set_option maxRecDepth 100000 in
set_option maxHeartbeats 2000000 in
theorem bitp_each (w0 w : World) (to many n c : Nat) (A : Option Addr) (bs : List UInt8) (s : PK) (hA : RB w0 A n bs) (hn : n ≤ 100) (hm : many ≤ 8) (hto : to ≤ 8) (hs0 : s.acc.length = 0) (h : GS w0 to w0.heap.size w s) :
    Calls Try.prog 41 #[.slice A n c, .int .i64 many, .func (.func 40) #[] #[.pointer (some ⟨w0.heap.size + 2, 0, none⟩), .pointer (some ⟨w0.heap.size + 3, 0, none⟩), .pointer (some ⟨w0.heap.size, 0, none⟩), .pointer (some ⟨w0.heap.size + 1, 0, none⟩)]] w
      fun e w' => e = .returned (.tuple #[]) ∧ GS w0 to w0.heap.size w' (packs to s (keyBits many bs)) := by
  have hl := hA.len
  obtain ⟨g, hg⟩ : ∃ g, g = w0.heap.size := ⟨_, rfl⟩
  rw [← hg] at h ⊢
  have Hg := Lib.hid hg; clear hg
  have Hs := Lib.hid h; clear h
  have Hl := Lib.hid hl; clear hl
  have Hs0 := Lib.hid hs0; clear hs0
  go_enter Try.func41, Try.ntmps41
  go_wp2
  go_loopw [11] (fun i wr => ∃ k : Nat, k ≤ n ∧ i = .int .i64 k ∧ GS w0 to g wr (packs to s (keyBits many (bs.take k)))) (fun i _ => n - (intOf i).toNat)
  case atStart => exact ⟨0, Nat.zero_le _, rfl, Hs.out⟩
  case round =>
    obtain ⟨k, hk, rfl, hst⟩ := hrel
    have Hst := Lib.hid hst; clear hst
    by_cases hlt : k < n
    · obtain ⟨v0, _, _, _, _, _, _, _, _, hbel0, _⟩ := Hst.out
      obtain ⟨ad, b, hAd, _, hbk, hbc, hb0, hb1⟩ := (hA.below (by rw [← Hg.out]; exact hbel0)).at_ hlt
      have Hbk := Lib.hid hbk; clear hbk hbel0
      obtain ⟨s1, hs1⟩ : ∃ s1, s1 = packs to s (keyBits many (bs.take k)) := ⟨_, rfl⟩
      have hs1l : s1.acc.length ≤ many * 100 := by
        have h1 := packs_len to (keyBits many (bs.take k)) s
        rw [keyBits_length, Hs0.out, ← hs1] at h1
        have : many * (bs.take k).length ≤ many * 100 := Nat.mul_le_mul (Nat.le_refl _) (by rw [List.length_take, Hl.out]; omega)
        omega
      rw [← hs1] at Hst
      have Hs1 := Lib.hid hs1; clear hs1
      obtain ⟨wo, hwo⟩ : ∃ wo : World, wo = wr := ⟨_, rfl⟩
      subst hwo
      subst hAd
      go_wp2
      clear hbc
      go_loopw [16] (fun i wy => ∃ j : Nat, j ≤ many ∧ i = .int .i64 j ∧ GS w0 to g wy (packs to s1 ((bitsN many b).take j))) (fun i _ => many - (intOf i).toNat)
      case atStart => exact ⟨0, Nat.zero_le _, rfl, Hst.out⟩
      case round =>
        obtain ⟨j, hj, rfl, hst2⟩ := hrel
        by_cases hjl : j < many
        · have hbit := bitsN_at (b := b) hjl
          obtain ⟨x, hx⟩ : ∃ x, x = b.toNat / 2 ^ (7 - j) % 2 := ⟨_, rfl⟩
          rw [← hx] at hbit
          have hx2 : x < 2 := by rw [hx]; exact Nat.mod_lt _ (by omega)
          have hand : bits .and .u8 ((b.toNat : Int) / 2 ^ (7 - j)) 1 = (x : Int) := by
            rw [div_cast, hx]
            exact u8_and1 _ (Nat.lt_of_le_of_lt (Nat.div_le_self _ _) b.toNat_lt)
          have Hsn := Lib.hid (packs_snoc (to := to) (s := s1) hbit)
          have h7 : (7 : Int) - (j : Int) = ((7 - j : Nat) : Int) := by omega
          obtain ⟨s2, hs2⟩ : ∃ s2, s2 = packs to s1 ((bitsN many b).take j) := ⟨_, rfl⟩
          have hs2l : s2.acc.length ≤ 1000000 := by
            have h1 := packs_len to ((bitsN many b).take j) s1
            rw [← hs2] at h1
            have : ((bitsN many b).take j).length ≤ 8 := by rw [List.length_take, bitsN_length]; omega
            have : many * 100 ≤ 800 := by omega
            omega
          rw [← hs2] at hst2 Hsn
          clear hbit hs2 hx
          have Hst2 := Lib.hid hst2; clear hst2
          go_wp2_with fail
          refine (bitp_gput w0 wr to g x s2 Hst2.out hto hx2 hs2l).mono ?_
          rintro e w3 ⟨rfl, hgs⟩
          have Hgs := Lib.hid hgs; clear hgs
          go_wp2
          go_roundw
          case rel => exact ⟨j + 1, by omega, by go_num, by rw [Hsn.out]; exact Hgs.out⟩
          case measure => simp [intOf] <;> omega
        · obtain rfl : j = many := by omega
          rw [List.take_of_length_le (by rw [bitsN_length]; exact Nat.le_refl _)] at hst2
          have Hst2 := Lib.hid hst2; clear hst2
          go_wp2
          go_roundw
          case rel => exact ⟨k + 1, by omega, by go_num, by rw [keyBits_snoc Hbk.out, packs_append, ← Hs1.out]; exact Hst2.out⟩
          case measure => simp [intOf] <;> omega
    · obtain rfl : k = n := by omega
      rw [List.take_of_length_le (by rw [Hl.out]; exact Nat.le_refl _)] at Hst
      go_wp2
      go_end0
      exact ⟨rfl, Hst.out⟩

/-- Bits laid anew into bytes of so many bits each. -/
def packed (to : Nat) (bits : List Nat) : List UInt8 := (packs to ⟨[], 0, 0⟩ bits).acc
set_option maxRecDepth 100000 in
set_option maxHeartbeats 1000000 in
theorem bitp_gathered (w : World) (to many n c : Nat) (A : Option Addr) (bs : List UInt8) (hA : RB w A n bs) (hn : n ≤ 100) (hm : many ≤ 8) (hto : to ≤ 8) (hto1 : 1 ≤ to) :
    Calls Try.prog 36 #[.slice A n c, .int .i64 many, .int .i64 to] w fun e w' => ∃ v, e = .returned v ∧ OB w' w.heap.size v (packed to (keyBits many bs)).length (packed to (keyBits many bs)) ∧ Below w.heap.size w w' := by
  have hmf : ∀ (fn : Fn) (first cap : Array Value) (w : World), (Instr.makeFunc fn first cap).run Try.prog w = .ok (.func fn first cap) w := fun _ _ _ _ => rfl
  have ce := fun w' h => bitp_each w w' to many n c A bs ⟨[], 0, 0⟩ hA hn hm hto rfl h
  have Ce := Lib.hid ce; clear ce
  unfold packed
  obtain ⟨s, hs⟩ : ∃ s, s = packs to ⟨[], 0, 0⟩ (keyBits many bs) := ⟨_, rfl⟩
  rw [← hs] at Ce ⊢
  clear hs
  go_enter Try.func36, Try.ntmps36
  go_wp2_with fail
  refine (Ce.out _ ?_).mono ?_
  · refine ⟨.slice none 0 0, ?_, ?_, ?_, ?_, ?_, ?_, ?_, OB.nil _ _, ((((Below.refl _ _).alloc (by simp) _).alloc (by simp) _).alloc (by simp; omega) _).alloc (by simp; omega) _, by simp, hto1, by simp⟩
    · rw [alloc_other (by simp; omega), alloc_other (by simp; omega), alloc_other (by simp)]; exact alloc_new rfl
    · rw [alloc_other (by simp), alloc_other (by simp)]; exact alloc_new (by simp)
    · rw [alloc_other (by simp)]; exact alloc_new (by simp)
    · exact alloc_new (by simp)
    · rw [alloc_frozen (by simp), alloc_frozen (by simp)]; exact alloc_new_frozen (by simp)
    · rw [alloc_frozen (by simp)]; exact alloc_new_frozen (by simp)
    · exact alloc_new_frozen (by simp)
  rintro e w2 ⟨rfl, v, c0, c1, c2, c3, f1, f2, f3, hown, hbel, hsz, hf, hb⟩
  have Hown := Lib.hid hown; clear hown
  have Hbel := Lib.hid hbel; clear hbel
  go_wp2
  go_ret
  exact ⟨_, rfl, Hown.out.more (by omega), Hbel.out⟩
end Go.Proofs.Ytecnclcendcfmaa
