/-
  Plain facts on words as rows of bits. Nothing of the program.
-/
import Derived.Test.YtkndelbnjhkbcaaBitpPlain
namespace Go.Proofs.Ytkndelbnjhkbcaa

/-- A word's bits, the highest one first. -/
def rowN (x W : Nat) : List Nat := (List.range W).map fun i => x / 2 ^ (W - 1 - i) % 2
def rowB (x W : Nat) : List UInt8 := (rowN x W).map UInt8.ofNat
def natsOf (bs : List UInt8) : List Nat := bs.map UInt8.toNat
theorem rowN_length (x W : Nat) : (rowN x W).length = W := by simp [rowN]
theorem rowB_length (x W : Nat) : (rowB x W).length = W := by simp [rowB, rowN_length]
theorem rowN_two (x W : Nat) : Bits2 (rowN x W) := by
  intro y hy
  unfold rowN at hy
  obtain ⟨i, _, rfl⟩ := List.mem_map.1 hy
  exact Nat.mod_lt _ (by omega)
theorem natsOf_ofNat {l : List Nat} (h : ∀ x ∈ l, x < 256) : natsOf (l.map UInt8.ofNat) = l := by
  unfold natsOf
  rw [List.map_map]
  conv => rhs; rw [← List.map_id l]
  apply List.map_congr_left
  intro x hx
  have := h x hx
  simp only [Function.comp_apply, id]
  rw [UInt8.toNat_ofNat']; omega
theorem natsOf_rowB (x W : Nat) : natsOf (rowB x W) = rowN x W := natsOf_ofNat fun y hy => by have := rowN_two x W y hy; omega
theorem rowN_at {x W i : Nat} (h : i < W) : (rowN x W)[i]? = some (x / 2 ^ (W - 1 - i) % 2) := by
  unfold rowN; rw [List.getElem?_map, List.getElem?_range h]; rfl
theorem rowB_at {x W i : Nat} (h : i < W) : (rowB x W)[i]? = some (UInt8.ofNat (x / 2 ^ (W - 1 - i) % 2)) := by
  unfold rowB; rw [List.getElem?_map, rowN_at h]; rfl
theorem rowN_succ (x W : Nat) : rowN x (W + 1) = rowN (x / 2) W ++ [x % 2] := by
  unfold rowN
  rw [List.range_succ, List.map_append, List.map_singleton]
  congr 1
  · apply List.map_congr_left
    intro i hi
    have hi := List.mem_range.1 hi
    rw [show W + 1 - 1 - i = (W - 1 - i) + 1 by omega, Nat.pow_succ, Nat.mul_comm, ← Nat.div_div_eq_div_mul]
  · simp
theorem wordN_rowN : ∀ (W x : Nat), wordN (rowN x W) = x % 2 ^ W
  | 0, x => by simp [rowN, wordN, Nat.mod_one]
  | W + 1, x => by
    rw [rowN_succ, wordN_snoc, wordN_rowN W (x / 2), Nat.pow_succ, Nat.mul_comm (2 ^ W) 2, Nat.mod_mul]
    omega
theorem wordN_append (a : List Nat) : ∀ b : List Nat, wordN (a ++ b) = wordN a * 2 ^ b.length + wordN b := by
  have : ∀ (n : Nat) (b : List Nat), b.length = n → wordN (a ++ b) = wordN a * 2 ^ b.length + wordN b := by
    intro n
    induction n with
    | zero => intro b h; rw [List.eq_nil_of_length_eq_zero h]; simp [wordN]
    | succ n ih =>
      intro b h
      rcases List.eq_nil_or_concat b with rfl | ⟨b', x, rfl⟩
      · simp at h
      · rw [List.concat_eq_append] at h ⊢
        have h1 : b'.length = n := by simpa using h
        rw [← List.append_assoc, wordN_snoc, ih b' h1, wordN_snoc, List.length_append, List.length_singleton, Nat.pow_succ, ← Nat.mul_assoc]
        omega
  exact fun b => this b.length b rfl
theorem rowN_take {x W t : Nat} (h : t ≤ W) : (rowN x W).take t = rowN (x / 2 ^ (W - t)) t := by
  apply List.ext_getElem?
  intro i
  rw [List.getElem?_take]
  split
  · rename_i hi
    rw [rowN_at (by omega), rowN_at hi, Nat.div_div_eq_div_mul, ← Nat.pow_add]
    congr 4
    omega
  · rw [List.getElem?_eq_none (by rw [rowN_length]; omega)]
theorem rowN_drop {x W t : Nat} (h : t ≤ W) : (rowN x W).drop t = rowN x (W - t) := by
  apply List.ext_getElem?
  intro i
  rw [List.getElem?_drop]
  by_cases hi : i < W - t
  · rw [rowN_at (by omega), rowN_at hi]
    congr 4
    omega
  · rw [List.getElem?_eq_none (by rw [rowN_length]; omega), List.getElem?_eq_none (by rw [rowN_length]; omega)]
theorem word_head {x W t : Nat} (h : t ≤ W) : wordN (natsOf ((rowB x W).take t)) = x % 2 ^ W / 2 ^ (W - t) := by
  have : natsOf ((rowB x W).take t) = (rowN x W).take t := by unfold natsOf; rw [List.map_take]; exact congrArg _ (natsOf_rowB x W)
  rw [this, rowN_take h, wordN_rowN]
  have e : 2 ^ W = 2 ^ (W - t) * 2 ^ t := by rw [← Nat.pow_add, show W - t + t = W by omega]
  rw [e, Nat.mod_mul_right_div_self]
theorem word_tail {x W t : Nat} (h : t ≤ W) : wordN (natsOf ((rowB x W).drop t)) = x % 2 ^ (W - t) := by
  have : natsOf ((rowB x W).drop t) = (rowN x W).drop t := by unfold natsOf; rw [List.map_drop]; exact congrArg _ (natsOf_rowB x W)
  rw [this, rowN_drop h, wordN_rowN]
theorem word_turn {x W t : Nat} (h : t ≤ W) : wordN (natsOf ((rowB x W).drop t ++ (rowB x W).take t)) = turnW x W t := by
  have e : natsOf ((rowB x W).drop t ++ (rowB x W).take t) = natsOf ((rowB x W).drop t) ++ natsOf ((rowB x W).take t) := by simp [natsOf]
  rw [e, wordN_append, word_tail h, word_head h]
  have : (natsOf ((rowB x W).take t)).length = t := by simp [natsOf, rowB_length]; omega
  rw [this]; rfl
def Bytes2 (bs : List UInt8) : Prop := ∀ b ∈ bs, b.toNat < 2
theorem rowB_two (x W : Nat) : Bytes2 (rowB x W) := by
  intro b hb
  have : b.toNat ∈ natsOf (rowB x W) := List.mem_map.2 ⟨b, hb, rfl⟩
  rw [natsOf_rowB] at this
  exact rowN_two x W _ this
theorem Bytes2.nats {bs : List UInt8} (h : Bytes2 bs) : Bits2 (natsOf bs) := by
  intro x hx
  obtain ⟨b, hb, rfl⟩ := List.mem_map.1 hx
  exact h b hb
theorem natsOf_length (bs : List UInt8) : (natsOf bs).length = bs.length := by simp [natsOf]
theorem natsOf_snoc {bs : List UInt8} {k : Nat} {b : UInt8} (h : bs[k]? = some b) : natsOf (bs.take (k + 1)) = natsOf (bs.take k) ++ [b.toNat] := by rw [take_snoc h]; simp [natsOf]
/-- How the document makes a byte odd. -/
def popTo (b i : Nat) : Nat := ((List.range i).map fun j => b / 2 ^ (j + 1) % 2).sum
theorem popTo_succ (c i : Nat) : popTo c (i + 1) = popTo c i + c / 2 ^ (i + 1) % 2 := by
  unfold popTo; rw [List.range_succ, List.map_append, List.sum_append]; simp
theorem popTo_le (c i : Nat) : popTo c i ≤ i := by
  induction i with
  | zero => simp [popTo]
  | succ i ih => rw [popTo_succ]; omega
theorem odd_pop : ∀ n : Nat, n < 256 → n - n % 2 + (popTo n 7 + 1) % 2 = oddN n := by decide +kernel
end Go.Proofs.Ytkndelbnjhkbcaa
