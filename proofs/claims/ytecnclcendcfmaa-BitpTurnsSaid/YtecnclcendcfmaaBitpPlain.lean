/-
  Plain facts on bits laid anew. Nothing of the program.
-/
import Derived.Test.YtecnclcendcfmaaBitp3
namespace Go.Proofs.Ytecnclcendcfmaa
set_option maxRecDepth 100000

/-- The number of bits, the highest one first. -/
def wordN (l : List Nat) : Nat := l.foldl (fun a x => 2 * a + x) 0
def Bits2 (l : List Nat) : Prop := ∀ x ∈ l, x < 2
theorem wordN_snoc (l : List Nat) (x : Nat) : wordN (l ++ [x]) = 2 * wordN l + x := by simp [wordN]
theorem wordN_lt : ∀ (n : Nat) (l : List Nat), l.length = n → Bits2 l → wordN l < 2 ^ n
  | 0, l, h, _ => by rw [List.eq_nil_of_length_eq_zero h]; decide
  | n + 1, l, h, hb => by
    rcases List.eq_nil_or_concat l with rfl | ⟨l', x, rfl⟩
    · simp at h
    · rw [List.concat_eq_append] at h hb ⊢
      have h1 : l'.length = n := by simpa using h
      have h2 := wordN_lt n l' h1 fun y hy => hb y (List.mem_append_left _ hy)
      have h3 := hb x (by simp)
      rw [wordN_snoc, Nat.pow_succ]; omega
theorem wordN_bits : ∀ (n : Nat) (l : List Nat), l.length = n → Bits2 l → (List.range n).map (fun i => wordN l / 2 ^ (n - 1 - i) % 2) = l
  | 0, l, h, _ => by rw [List.eq_nil_of_length_eq_zero h]; rfl
  | n + 1, l, h, hb => by
    rcases List.eq_nil_or_concat l with rfl | ⟨l', x, rfl⟩
    · simp at h
    · rw [List.concat_eq_append] at h hb ⊢
      have h1 : l'.length = n := by simpa using h
      have h2 := wordN_bits n l' h1 fun y hy => hb y (List.mem_append_left _ hy)
      have h3 := hb x (by simp)
      rw [List.range_succ, List.map_append, List.map_singleton, wordN_snoc]
      congr 1
      · conv => rhs; rw [← h2]
        apply List.map_congr_left
        intro i hi
        have hi := List.mem_range.1 hi
        rw [show n + 1 - 1 - i = (n - 1 - i) + 1 by omega, Nat.pow_succ, Nat.mul_comm (2 ^ (n - 1 - i)) 2, ← Nat.div_div_eq_div_mul]
        congr 2
        omega
      · simp; omega
theorem packs_chunk (to : Nat) : ∀ (bits : List Nat) (s : PK), s.f + bits.length = to → bits ≠ [] → packs to s bits = ⟨s.acc ++ [UInt8.ofNat (bits.foldl (fun a x => 2 * a + x) s.b)], 0, 0⟩
  | [], s, h, hn => absurd rfl hn
  | [x], s, h, _ => by
    have : s.f + 1 = to := h
    simp [packs, pstep, this]
  | x :: y :: r, s, h, _ => by
    have hne : s.f + 1 ≠ to := by simp at h; omega
    have e : packs to s (x :: y :: r) = packs to (pstep to s x) (y :: r) := rfl
    rw [e, packs_chunk to (y :: r) _ (by simp only [pstep, if_neg hne]; simp at h ⊢; omega) (by simp)]
    simp only [pstep, if_neg hne, List.foldl_cons]
theorem packs_chunks (to : Nat) (h1 : 1 ≤ to) : ∀ (cs : List (List Nat)) (acc : List UInt8), (∀ c ∈ cs, c.length = to) → packs to ⟨acc, 0, 0⟩ cs.flatten = ⟨acc ++ cs.map fun c => UInt8.ofNat (wordN c), 0, 0⟩
  | [], acc, _ => by simp [packs]
  | c :: cs, acc, h => by
    have hc := h c (by simp)
    have hne : c ≠ [] := fun e => by subst e; simp at hc; omega
    rw [List.flatten_cons, packs_append, packs_chunk to c ⟨acc, 0, 0⟩ (by simpa using hc) hne, packs_chunks to h1 cs _ fun d hd => h d (List.mem_cons_of_mem _ hd)]
    simp [wordN]
theorem packed_chunks {to : Nat} (h1 : 1 ≤ to) {cs : List (List Nat)} (h : ∀ c ∈ cs, c.length = to) : packed to cs.flatten = cs.map fun c => UInt8.ofNat (wordN c) := by
  unfold packed; rw [packs_chunks to h1 cs [] h]; simp
/-- Bits in pieces of so many. -/
def chunks (to : Nat) : Nat → List Nat → List (List Nat)
  | 0, _ => []
  | m + 1, l => l.take to :: chunks to m (l.drop to)
theorem chunks_flatten (to : Nat) : ∀ (m : Nat) (l : List Nat), l.length = to * m → (chunks to m l).flatten = l
  | 0, l, h => by
    have : l = [] := List.eq_nil_of_length_eq_zero (by simpa using h)
    rw [this]; rfl
  | m + 1, l, h => by
    rw [chunks, List.flatten_cons, chunks_flatten to m _ (by rw [List.length_drop, h, Nat.mul_succ]; omega), List.take_append_drop]
theorem chunks_each (to : Nat) : ∀ (m : Nat) (l : List Nat), l.length = to * m → ∀ c ∈ chunks to m l, c.length = to ∧ ∀ x ∈ c, x ∈ l
  | 0, l, h => by intro c hc; cases hc
  | m + 1, l, h => by
    intro c hc
    rw [chunks, List.mem_cons] at hc
    rw [Nat.mul_succ] at h
    rcases hc with rfl | hc
    · exact ⟨by rw [List.length_take]; omega, fun x hx => List.mem_of_mem_take hx⟩
    · obtain ⟨a, b⟩ := chunks_each to m (l.drop to) (by rw [List.length_drop]; omega) c hc
      exact ⟨a, fun x hx => List.mem_of_mem_drop (b x hx)⟩
theorem chunks_length (to : Nat) : ∀ (m : Nat) (l : List Nat), (chunks to m l).length = m
  | 0, _ => rfl
  | m + 1, l => by rw [chunks, List.length_cons, chunks_length]
theorem chunks_at (to : Nat) : ∀ (m i : Nat) (l : List Nat), i < m → (chunks to m l)[i]? = some ((l.drop (to * i)).take to)
  | m + 1, 0, l, _ => by simp [chunks]
  | m + 1, i + 1, l, h => by
    rw [chunks, List.getElem?_cons_succ, chunks_at to m i _ (by omega), List.drop_drop, Nat.mul_succ, Nat.add_comm]
theorem packed_at {to m : Nat} (h1 : 1 ≤ to) {l : List Nat} (h : l.length = to * m) : packed to l = (chunks to m l).map fun c => UInt8.ofNat (wordN c) := by
  conv => lhs; rw [← chunks_flatten to m l h]
  exact packed_chunks h1 fun c hc => (chunks_each to m l h c hc).1
theorem keyBits_two (many : Nat) (bs : List UInt8) : Bits2 (keyBits many bs) := by
  intro x hx
  unfold keyBits at hx
  obtain ⟨l, hl, hx⟩ := List.mem_flatten.1 hx
  obtain ⟨b, _, rfl⟩ := List.mem_map.1 hl
  unfold bitsN at hx
  obtain ⟨i, _, rfl⟩ := List.mem_map.1 hx
  exact Nat.mod_lt _ (by omega)
/-- Seven bytes in eight; eight in seven. -/
def spreadB (bs : List UInt8) : List UInt8 := (packed 7 (keyBits 8 bs)).map fun s => UInt8.ofNat (oddN (2 * s.toNat))
def gatherB (bs : List UInt8) : List UInt8 := packed 8 (keyBits 7 bs)
theorem packed7 {bs : List UInt8} (h : bs.length = 7) : packed 7 (keyBits 8 bs) = (chunks 7 8 (keyBits 8 bs)).map fun c => UInt8.ofNat (wordN c) :=
  packed_at (by omega) (by rw [keyBits_length, h])
theorem packed8 {bs : List UInt8} (h : bs.length = 8) : packed 8 (keyBits 7 bs) = (chunks 8 7 (keyBits 7 bs)).map fun c => UInt8.ofNat (wordN c) :=
  packed_at (by omega) (by rw [keyBits_length, h])
theorem packed7_length {bs : List UInt8} (h : bs.length = 7) : (packed 7 (keyBits 8 bs)).length = 8 := by rw [packed7 h, List.length_map, chunks_length]
theorem spreadB_length {bs : List UInt8} (h : bs.length = 7) : (spreadB bs).length = 8 := by unfold spreadB; rw [List.length_map, packed7_length h]
theorem gatherB_length {bs : List UInt8} (h : bs.length = 8) : (gatherB bs).length = 7 := by unfold gatherB; rw [packed8 h, List.length_map, chunks_length]
theorem packed7_lt {bs : List UInt8} (h : bs.length = 7) {s : UInt8} (hs : s ∈ packed 7 (keyBits 8 bs)) : s.toNat < 128 := by
  rw [packed7 h] at hs
  obtain ⟨c, hc, rfl⟩ := List.mem_map.1 hs
  obtain ⟨h1, h2⟩ := chunks_each 7 8 _ (by rw [keyBits_length, h]) c hc
  have := wordN_lt 7 c h1 fun x hx => keyBits_two 8 bs x (h2 x hx)
  rw [UInt8.toNat_ofNat']; omega
theorem spread_bits : ∀ s : Nat, s < 128 → bitsN 7 (UInt8.ofNat (oddN (2 * s))) = (List.range 7).map fun i => s / 2 ^ (7 - 1 - i) % 2 := by decide +kernel
theorem byte_bits : ∀ n : Nat, n < 256 → UInt8.ofNat (wordN (bitsN 8 (UInt8.ofNat n))) = UInt8.ofNat n := by decide +kernel
theorem keyBits_spread {bs : List UInt8} (h : bs.length = 7) : keyBits 7 (spreadB bs) = keyBits 8 bs := by
  have hl : (keyBits 8 bs).length = 7 * 8 := by rw [keyBits_length, h]
  conv => rhs; rw [← chunks_flatten 7 8 _ hl]
  have hsp : spreadB bs = (chunks 7 8 (keyBits 8 bs)).map fun c => UInt8.ofNat (oddN (2 * (UInt8.ofNat (wordN c)).toNat)) := by
    unfold spreadB; rw [packed7 h, List.map_map]; rfl
  rw [hsp]
  have hk : ∀ l : List UInt8, keyBits 7 l = (l.map (bitsN 7)).flatten := fun l => rfl
  rw [hk, List.map_map]
  congr 1
  conv => rhs; rw [← List.map_id (chunks 7 8 (keyBits 8 bs))]
  apply List.map_congr_left
  intro c hc
  obtain ⟨h1, h2⟩ := chunks_each 7 8 _ hl c hc
  have hb : Bits2 c := fun x hx => keyBits_two 8 bs x (h2 x hx)
  have hw := wordN_lt 7 c h1 hb
  have hn : (UInt8.ofNat (wordN c)).toNat = wordN c := by rw [UInt8.toNat_ofNat']; omega
  simp only [Function.comp_apply, hn, id]
  rw [spread_bits _ hw]
  exact wordN_bits 7 c h1 hb
theorem gather_spread {bs : List UInt8} (h : bs.length = 7) : gatherB (spreadB bs) = bs := by
  unfold gatherB
  rw [keyBits_spread h]
  unfold keyBits
  rw [packed_chunks (by omega) (by intro c hc; obtain ⟨b, _, rfl⟩ := List.mem_map.1 hc; exact bitsN_length 8 b), List.map_map]
  conv => rhs; rw [← List.map_id bs]
  apply List.map_congr_left
  intro b _
  have := byte_bits b.toNat b.toNat_lt
  simpa using this
/-- How many bits of a byte are 1. -/
def ones8 (n : Nat) : Nat := n % 2 + n / 2 % 2 + n / 4 % 2 + n / 8 % 2 + n / 16 % 2 + n / 32 % 2 + n / 64 % 2 + n / 128 % 2
theorem odd_ones : ∀ n : Nat, n < 256 → ones8 (oddN n) % 2 = 1 := by decide +kernel
theorem odd_half : ∀ n : Nat, n < 256 → oddN n / 2 = n / 2 := by decide +kernel
theorem odd_odd : ∀ n : Nat, n < 256 → oddN (oddN n) = oddN n := by decide +kernel
end Go.Proofs.Ytecnclcendcfmaa
