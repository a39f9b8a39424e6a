/-
  Contracts: keys spread, and gathered, by the document.
-/
import Derived.Test.YtkndelbnjhkbcaaRef03c
import Derived.Test.YtkndelbnjhkbcaaBitp4
namespace Go.Proofs.Ytkndelbnjhkbcaa
open Go.RowKit
set_option linter.unusedVariables false

theorem rowB_bits (b : UInt8) : rowB b.toNat 8 = (bitsN 8 b).map UInt8.ofNat := by
  unfold rowB rowN bitsN; rfl
/-- The bits of each byte, as bytes. -/
def bitsB (many : Nat) (bs : List UInt8) : List UInt8 := (keyBits many bs).map UInt8.ofNat
theorem bitsB_snoc {many : Nat} {bs : List UInt8} {k : Nat} {b : UInt8} (h : bs[k]? = some b) : bitsB many (bs.take (k + 1)) = bitsB many (bs.take k) ++ (bitsN many b).map UInt8.ofNat := by
  unfold bitsB; rw [keyBits_snoc h, List.map_append]
theorem bitsB_length (many : Nat) (bs : List UInt8) : (bitsB many bs).length = many * bs.length := by unfold bitsB; rw [List.length_map, keyBits_length]
theorem bitsB_nats (many : Nat) (bs : List UInt8) : natsOf (bitsB many bs) = keyBits many bs := natsOf_ofNat fun x hx => by have := keyBits_two many bs x hx; omega
theorem bitsB_two (many : Nat) (bs : List UInt8) : Bytes2 (bitsB many bs) := by
  intro b hb
  have : b.toNat ∈ natsOf (bitsB many bs) := List.mem_map.2 ⟨b, hb, rfl⟩
  rw [bitsB_nats] at this
  exact keyBits_two many bs _ this
theorem bitsB_chunk (many to i : Nat) (bs : List UInt8) : natsOf (((bitsB many bs).drop (to * i)).take to) = ((keyBits many bs).drop (to * i)).take to := by
  unfold natsOf
  rw [List.map_take, List.map_drop]
  exact congrArg (fun l => (l.drop (to * i)).take to) (bitsB_nats many bs)
theorem rowB_take7 (b : UInt8) : (rowB b.toNat 8).take 7 = (bitsN 7 b).map UInt8.ofNat := by
  rw [rowB_bits, ← List.map_take]
  rfl
theorem spreadB_at {bs : List UInt8} (h : bs.length = 7) {i : Nat} (hi : i < 8) :
    (spreadB bs)[i]? = some (UInt8.ofNat (oddN (2 * wordN (((keyBits 8 bs).drop (7 * i)).take 7)))) ∧ wordN (((keyBits 8 bs).drop (7 * i)).take 7) < 128 := by
  have hl : (keyBits 8 bs).length = 7 * 8 := by rw [keyBits_length, h]
  have hc := chunks_at 7 8 i (keyBits 8 bs) hi
  obtain ⟨h1, h2⟩ := chunks_each 7 8 _ hl _ (List.mem_of_getElem? hc)
  have hw := wordN_lt 7 _ h1 fun x hx => keyBits_two 8 bs x (h2 x hx)
  have hn : (UInt8.ofNat (wordN (((keyBits 8 bs).drop (7 * i)).take 7))).toNat = wordN (((keyBits 8 bs).drop (7 * i)).take 7) := by rw [UInt8.toNat_ofNat']; omega
  refine ⟨?_, hw⟩
  unfold spreadB
  rw [packed7 h, List.getElem?_map, List.getElem?_map, hc]
  simp only [Option.map_some, hn]
theorem gatherB_at {bs : List UInt8} (h : bs.length = 8) {i : Nat} (hi : i < 7) :
    (gatherB bs)[i]? = some (UInt8.ofNat (wordN (((keyBits 7 bs).drop (8 * i)).take 8))) ∧ wordN (((keyBits 7 bs).drop (8 * i)).take 8) < 256 := by
  have hl : (keyBits 7 bs).length = 8 * 7 := by rw [keyBits_length, h]
  have hc := chunks_at 8 7 i (keyBits 7 bs) hi
  obtain ⟨h1, h2⟩ := chunks_each 8 7 _ hl _ (List.mem_of_getElem? hc)
  have hw := wordN_lt 8 _ h1 fun x hx => keyBits_two 7 bs x (h2 x hx)
  refine ⟨?_, hw⟩
  unfold gatherB
  rw [packed8 h, List.getElem?_map, hc]
  rfl
theorem add_some (g l : Nat) : Option.map (fun x => Addr.add x l) (some ⟨g, 0, none⟩) = some ⟨g, l, none⟩ := by
  unfold Addr.add; simp; omega

set_option maxRecDepth 100000 in
set_option maxHeartbeats 2000000 in
theorem ref_spread (w : World) (c : Nat) (A : Option Addr) (bs : List UInt8) (hA : RB w A 7 bs) :
    Calls Try.prog 30 #[.slice A 7 c] w (RetBE w (spreadB bs) 0) := by
  have hl := hA.len
  have Hl := Lib.hid hl; clear hl
  have HA := Lib.hid hA; clear hA
  go_enter Try.func30, Try.ntmps30
  go_wp2
  go_loopw [4, 6] (fun v i wr => ∃ k : Nat, k ≤ 7 ∧ i = .int .i64 k ∧ OB wr w.heap.size v (8 * k) (bitsB 8 (bs.take k)) ∧ Below w.heap.size w wr) (fun _ i _ => 7 - (intOf i).toNat)
  case atStart => exact ⟨0, Nat.zero_le _, rfl, OB.nil _ _, Below.refl _ _⟩
  case round =>
    obtain ⟨k, hk, rfl, hown, hbel⟩ := hrel
    have Hown := Lib.hid hown; clear hown
    by_cases hlt : k < 7
    · obtain ⟨ad, b, rfl, _, hbk, hbc, hb0, hb1⟩ := (HA.out.below hbel).at_ hlt
      have hsn := bitsB_snoc (many := 8) hbk
      rw [← rowB_bits] at hsn
      have Hsn := Lib.hid hsn; clear hsn hbk
      have crow := fun w => ref_row b.toNat 8 w (by omega) (by omega)
      obtain ⟨R, hR⟩ : ∃ R, R = rowB b.toNat 8 := ⟨_, rfl⟩
      rw [← hR] at Hsn
      simp only [← hR] at crow
      have Crow := Lib.hid crow; clear crow hR
      have hsz := hbel.size
      go_wp2_with fail
      refine (Crow.out _).mono ?_
      rintro e w1 ⟨g, rfl, hown1, hb1'⟩
      have hrb := (RB.ofOwn hown1).1
      have Hrb := Lib.hid hrb; clear hrb hown1
      have hbel1 := hbel.trans (hb1'.mono hbel.size)
      have Hown1 := Lib.hid (Hown.out.below hb1')
      clear hb1'
      go_wp2_with (at_builtin; refine wpList_appb _ rfl (.tmp 15) (.tmp 21) rfl w.heap.size _ _ _ rfl Hown1.out _ _ _ _ rfl Hrb.out (by omega) hbel1.size ?_; intro v' w3 hown3 hg3 hat3; have Hown3 := Lib.hid hown3; clear hown3)
      go_roundw
      case rel =>
        refine ⟨k + 1, by omega, by go_num, ?_, hbel1.grown hg3 hbel1.size fun j hj => (Hown1.out.lt j hj).1⟩
        rw [Hsn.out, show 8 * (k + 1) = 8 * k + 8 by omega]; exact Hown3.out
      case measure => simp [intOf] <;> omega
    · obtain rfl : k = 7 := by omega
      have ht : bs.take 7 = bs := List.take_of_length_le (by rw [Hl.out]; exact Nat.le_refl _)
      rw [ht] at Hown
      obtain ⟨g, cc, rfl, hcc, hccm⟩ := Hown.out.form (by omega)
      unfold maxLen at hccm
      have hrb := (RB.ofOwn Hown.out).1
      have Hrb := Lib.hid hrb; clear hrb
      obtain ⟨wo, hwo⟩ : ∃ wo : World, wo = wr := ⟨_, rfl⟩
      subst hwo
      have h56 : 8 * 7 = 56 := rfl
      rw [h56] at Hrb hcc ⊢
      clear h56 Hown hlt
      go_wp2
      go_loopw [5, 7] (fun v i wy => ∃ k : Nat, k ≤ 8 ∧ i = .int .i64 k ∧ OB wy wo.heap.size v k ((spreadB bs).take k) ∧ Below wo.heap.size wo wy) (fun _ i _ => 8 - (intOf i).toNat)
      case atStart => exact ⟨0, Nat.zero_le _, rfl, OB.nil _ _, Below.refl _ _⟩
      case round =>
        obtain ⟨k, hk, rfl, hown, hbel2⟩ := hrel
        have Hown := Lib.hid hown; clear hown
        by_cases hlt : k < 8
        · obtain ⟨hat, hwl⟩ := spreadB_at Hl.out hlt
          have hch := bitsB_chunk 8 7 k bs
          have hr7 := ((Hrb.out.below hbel2).from_ (k := 7 * k) (c := cc) (by omega) (by omega)).upto (k := 7) (by omega)
          rw [if_neg (by omega), add_some] at hr7
          have hB := ((bitsB_two 8 bs).drop (7 * k)).take 7
          obtain ⟨C, hC⟩ : ∃ C, C = ((bitsB 8 bs).drop (7 * k)).take 7 := ⟨_, rfl⟩
          rw [← hC] at hch hr7 hB
          rw [← hch] at hat hwl
          obtain ⟨N, hN⟩ : ∃ N, N = wordN (natsOf C) := ⟨_, rfl⟩
          rw [← hN] at hat hwl
          have cw := fun cap => ref_word (some ⟨g, 7 * k, none⟩) 7 cap C wr hr7 hB (by omega)
          rw [← hN] at cw
          have co := fun w => ref_odd (2 * N) w (by omega)
          have hol := oddN_lt (2 * N) (by omega)
          obtain ⟨o, ho⟩ : ∃ o : UInt8, o = UInt8.ofNat (oddN (2 * N)) := ⟨_, rfl⟩
          have hoI : ((oddN (2 * N) : Nat) : Int) = (o.toNat : Int) := by rw [ho, UInt8.toNat_ofNat']; omega
          rw [hoI] at co
          rw [← ho] at hat
          have Hsn := Lib.hid (take_snoc hat)
          have Cw := Lib.hid cw; clear cw
          have Co := Lib.hid co; clear co
          have hsz := hbel2.size
          have e1 : (2 : Int) * (N : Int) = ((2 * N : Nat) : Int) := by omega
          obtain ⟨M, hM⟩ : ∃ M, M = 2 * N := ⟨_, rfl⟩
          have hMl : M < 256 := by omega
          rw [← hM] at e1 Co
          have k1 : (7 : Int) * (k : Int) = ((7 * k : Nat) : Int) := by omega
          obtain ⟨K, hK⟩ : ∃ K, K = 7 * k := ⟨_, rfl⟩
          have hKl : K ≤ 49 := by omega
          rw [← hK] at k1 Cw
          have k2 : ((K : Int) + 7 - (K : Int)).toNat = 7 := by omega
          have k3 : ¬ cc = K := by omega
          clear hch hr7 hB hC hat hN ho hoI hol hM hK
          go_wp2_with fail
          refine (Cw.out _).mono ?_
          rintro e w1 ⟨rfl, rfl⟩
          go_wp2_with fail
          refine (Co.out _).mono ?_
          rintro e w1 ⟨rfl, rfl⟩
          go_wp2_with (at_builtin; refine wpList_appb _ rfl (.tmp 27) (.tmp 39) rfl wo.heap.size _ _ _ rfl (Hown.out.alloc _) _ _ _ _ rfl (RB.new1 _ o _ (by simp)) (by omega) (by simp; omega) ?_; intro v' w3 hown3 hg3 hat3; have Hown3 := Lib.hid hown3; clear hown3)
          go_roundw
          case rel =>
            (repeat apply Exists.intro)
            exact ⟨⟨k + 1, by omega, by go_num, by rw [Hsn.out]; exact Hown3.out, (hbel2.alloc hsz _).grown hg3 (by simp; omega) fun j hj => (Hown.out.lt j hj).1⟩, rfl⟩
          case measure => simp [intOf] <;> omega
        · obtain rfl : k = 8 := by omega
          have hts : (spreadB bs).take 8 = spreadB bs := List.take_of_length_le (by rw [spreadB_length Hl.out]; exact Nat.le_refl _)
          rw [hts] at Hown
          go_wp2
          go_ret2
          exact RetBE.of Hown.out (hbel.trans (hbel2.mono hbel.size))
theorem ref_spread_no (w : World) (n c : Nat) (A : Option Addr) (h : n ≠ 7) (hn : n ≤ maxLen) :
    Calls Try.prog 30 #[.slice A n c] w fun e w' => e = .returned (.tuple #[.slice none 0 0, .int .i64 1]) ∧ w = w' := by
  unfold maxLen at hn
  have hne : ((n : Int) != 7) = true := by simp; omega
  clear h
  go_enter Try.func30, Try.ntmps30
  go_wp2
  go_ret2
  exact ⟨rfl, rfl⟩
set_option maxRecDepth 100000 in
set_option maxHeartbeats 2000000 in
theorem ref_gather (w : World) (c : Nat) (A : Option Addr) (bs : List UInt8) (hA : RB w A 8 bs) :
    Calls Try.prog 32 #[.slice A 8 c] w (RetBE w (gatherB bs) 0) := by
  have hl := hA.len
  have Hl := Lib.hid hl; clear hl
  have HA := Lib.hid hA; clear hA
  go_enter Try.func32, Try.ntmps32
  go_wp2
  go_loopw [4, 6] (fun v i wr => ∃ k : Nat, k ≤ 8 ∧ i = .int .i64 k ∧ OB wr w.heap.size v (7 * k) (bitsB 7 (bs.take k)) ∧ Below w.heap.size w wr) (fun _ i _ => 8 - (intOf i).toNat)
  case atStart => exact ⟨0, Nat.zero_le _, rfl, OB.nil _ _, Below.refl _ _⟩
  case round =>
    obtain ⟨k, hk, rfl, hown, hbel⟩ := hrel
    have Hown := Lib.hid hown; clear hown
    by_cases hlt : k < 8
    · obtain ⟨ad, b, rfl, _, hbk, hbc, hb0, hb1⟩ := (HA.out.below hbel).at_ hlt
      have hsn := bitsB_snoc (many := 7) hbk
      rw [← rowB_take7] at hsn
      have Hsn := Lib.hid hsn; clear hsn hbk
      have crow := fun w => ref_row b.toNat 8 w (by omega) (by omega)
      obtain ⟨R, hR⟩ : ∃ R, R = rowB b.toNat 8 := ⟨_, rfl⟩
      rw [← hR] at Hsn
      simp only [← hR] at crow
      have Crow := Lib.hid crow; clear crow hR
      have hsz := hbel.size
      go_wp2_with fail
      refine (Crow.out _).mono ?_
      rintro e w1 ⟨g, rfl, hown1, hb1'⟩
      have hrb := (RB.ofOwn hown1).1
      have Hrb := Lib.hid (hrb.upto (k := 7) (by omega)); clear hrb hown1
      have hbel1 := hbel.trans (hb1'.mono hbel.size)
      have Hown1 := Lib.hid (Hown.out.below hb1')
      clear hb1'
      go_wp2_with (at_builtin; refine wpList_appb _ rfl (.tmp 15) (.tmp 22) rfl w.heap.size _ _ _ rfl Hown1.out _ _ _ _ rfl Hrb.out (by omega) hbel1.size ?_; intro v' w3 hown3 hg3 hat3; have Hown3 := Lib.hid hown3; clear hown3)
      go_roundw
      case rel =>
        refine ⟨k + 1, by omega, by go_num, ?_, hbel1.grown hg3 hbel1.size fun j hj => (Hown1.out.lt j hj).1⟩
        rw [Hsn.out, show 7 * (k + 1) = 7 * k + 7 by omega]; exact Hown3.out
      case measure => simp [intOf] <;> omega
    · obtain rfl : k = 8 := by omega
      have ht : bs.take 8 = bs := List.take_of_length_le (by rw [Hl.out]; exact Nat.le_refl _)
      rw [ht] at Hown
      obtain ⟨g, cc, rfl, hcc, hccm⟩ := Hown.out.form (by omega)
      unfold maxLen at hccm
      have hrb := (RB.ofOwn Hown.out).1
      have Hrb := Lib.hid hrb; clear hrb
      obtain ⟨wo, hwo⟩ : ∃ wo : World, wo = wr := ⟨_, rfl⟩
      subst hwo
      have h56 : 7 * 8 = 56 := rfl
      rw [h56] at Hrb hcc ⊢
      clear h56 Hown hlt
      go_wp2
      go_loopw [5, 7] (fun v i wy => ∃ k : Nat, k ≤ 7 ∧ i = .int .i64 k ∧ OB wy wo.heap.size v k ((gatherB bs).take k) ∧ Below wo.heap.size wo wy) (fun _ i _ => 7 - (intOf i).toNat)
      case atStart => exact ⟨0, Nat.zero_le _, rfl, OB.nil _ _, Below.refl _ _⟩
      case round =>
        obtain ⟨k, hk, rfl, hown, hbel2⟩ := hrel
        have Hown := Lib.hid hown; clear hown
        by_cases hlt : k < 7
        · obtain ⟨hat, hwl⟩ := gatherB_at Hl.out hlt
          have hch := bitsB_chunk 7 8 k bs
          have hr7 := ((Hrb.out.below hbel2).from_ (k := 8 * k) (c := cc) (by omega) (by omega)).upto (k := 8) (by omega)
          rw [if_neg (by omega), add_some] at hr7
          have hB := ((bitsB_two 7 bs).drop (8 * k)).take 8
          obtain ⟨C, hC⟩ : ∃ C, C = ((bitsB 7 bs).drop (8 * k)).take 8 := ⟨_, rfl⟩
          rw [← hC] at hch hr7 hB
          rw [← hch] at hat hwl
          obtain ⟨N, hN⟩ : ∃ N, N = wordN (natsOf C) := ⟨_, rfl⟩
          rw [← hN] at hat hwl
          have cw := fun cap => ref_word (some ⟨g, 8 * k, none⟩) 8 cap C wr hr7 hB (by omega)
          rw [← hN] at cw
          obtain ⟨o, ho⟩ : ∃ o : UInt8, o = UInt8.ofNat N := ⟨_, rfl⟩
          have hoI : (N : Int) = (o.toNat : Int) := by rw [ho, UInt8.toNat_ofNat']; omega
          rw [hoI] at cw
          rw [← ho] at hat
          have hol := o.toNat_lt
          have Hsn := Lib.hid (take_snoc hat)
          have Cw := Lib.hid cw; clear cw
          have hsz := hbel2.size
          have k1 : (8 : Int) * (k : Int) = ((8 * k : Nat) : Int) := by omega
          obtain ⟨K, hK⟩ : ∃ K, K = 8 * k := ⟨_, rfl⟩
          have hKl : K ≤ 48 := by omega
          rw [← hK] at k1 Cw
          have k2 : ((K : Int) + 8 - (K : Int)).toNat = 8 := by omega
          have k3 : ¬ cc = K := by omega
          clear hch hr7 hB hC hat hN ho hoI hK
          go_wp2_with fail
          refine (Cw.out _).mono ?_
          rintro e w1 ⟨rfl, rfl⟩
          go_wp2_with (at_builtin; refine wpList_appb _ rfl (.tmp 28) (.tmp 38) rfl wo.heap.size _ _ _ rfl (Hown.out.alloc _) _ _ _ _ rfl (RB.new1 _ o _ (by simp)) (by omega) (by simp; omega) ?_; intro v' w3 hown3 hg3 hat3; have Hown3 := Lib.hid hown3; clear hown3)
          go_roundw
          case rel =>
            (repeat apply Exists.intro)
            exact ⟨⟨k + 1, by omega, by go_num, by rw [Hsn.out]; exact Hown3.out, (hbel2.alloc hsz _).grown hg3 (by simp; omega) fun j hj => (Hown.out.lt j hj).1⟩, rfl⟩
          case measure => simp [intOf] <;> omega
        · obtain rfl : k = 7 := by omega
          have hts : (gatherB bs).take 7 = gatherB bs := List.take_of_length_le (by rw [gatherB_length Hl.out]; exact Nat.le_refl _)
          rw [hts] at Hown
          go_wp2
          go_ret2
          exact RetBE.of Hown.out (hbel.trans (hbel2.mono hbel.size))
theorem ref_gather_no (w : World) (n c : Nat) (A : Option Addr) (h : n ≠ 8) (hn : n ≤ maxLen) :
    Calls Try.prog 32 #[.slice A n c] w fun e w' => e = .returned (.tuple #[.slice none 0 0, .int .i64 1]) ∧ w = w' := by
  unfold maxLen at hn
  have hne : ((n : Int) != 8) = true := by simp; omega
  clear h
  go_enter Try.func32, Try.ntmps32
  go_wp2
  go_ret2
  exact ⟨rfl, rfl⟩
end Go.Proofs.Ytkndelbnjhkbcaa
