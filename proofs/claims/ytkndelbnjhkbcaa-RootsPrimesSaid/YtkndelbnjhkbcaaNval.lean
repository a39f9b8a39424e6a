/-
  Plain facts on numbers as rows of digits of base 65536, the lowest first. Nothing of the program.
-/
import Derived.Test.YtkndelbnjhkbcaaRootsPlain
namespace Go.Proofs.Ytkndelbnjhkbcaa

def nval : List Nat → Nat
  | [] => 0
  | d :: r => d + 65536 * nval r
/-- Each is a digit. -/
def Digs (l : List Nat) : Prop := ∀ d ∈ l, d < 65536
def dig (l : List Nat) (j : Nat) : Nat := (l[j]?).getD 0

theorem nval_append (l r : List Nat) : nval (l ++ r) = nval l + 65536 ^ l.length * nval r := by
  induction l with
  | nil => simp [nval]
  | cons d l ih =>
    simp only [List.cons_append, nval, ih, List.length_cons, Nat.pow_succ]
    rw [Nat.mul_add, ← Nat.mul_assoc, Nat.mul_comm 65536 (65536 ^ l.length), Nat.add_assoc]
theorem nval_snoc (l : List Nat) (d : Nat) : nval (l ++ [d]) = nval l + 65536 ^ l.length * d := by rw [nval_append]; simp [nval]
theorem Digs.snoc {l : List Nat} {d : Nat} (h : Digs l) (hd : d < 65536) : Digs (l ++ [d]) := by
  intro x hx
  rcases List.mem_append.1 hx with h' | h'
  · exact h x h'
  · simp at h'; omega
theorem Digs.nil : Digs [] := fun d h => by cases h
theorem Digs.at_ {l : List Nat} {j d : Nat} (h : Digs l) (hd : l[j]? = some d) : d < 65536 := h d (List.mem_of_getElem? hd)
theorem Digs.dig {l : List Nat} (h : Digs l) (j : Nat) : dig l j < 65536 := by
  unfold Go.Proofs.Ytkndelbnjhkbcaa.dig
  cases hj : l[j]? with
  | none => simp
  | some d => exact h.at_ hj
theorem Digs.set {l : List Nat} {j d : Nat} (h : Digs l) (hd : d < 65536) : Digs (l.set j d) := by
  intro x hx
  rcases List.mem_or_eq_of_mem_set hx with h' | h'
  · exact h x h'
  · omega
theorem nval_set : ∀ (l : List Nat) (j o x : Nat), l[j]? = some o → nval (l.set j x) + o * 65536 ^ j = nval l + x * 65536 ^ j
  | [], j, o, x, h => by simp at h
  | d :: l, 0, o, x, h => by
    simp at h; subst h
    simp only [List.set_cons_zero, nval]; omega
  | d :: l, j + 1, o, x, h => by
    simp only [List.getElem?_cons_succ] at h
    have ih := nval_set l j o x h
    simp only [List.set_cons_succ, nval, Nat.pow_succ]
    have e : ∀ y, y * (65536 ^ j * 65536) = 65536 * (y * 65536 ^ j) := fun y => by rw [← Nat.mul_assoc, Nat.mul_comm]
    rw [e, e]; omega
theorem nval_take {l : List Nat} {j d : Nat} (h : l[j]? = some d) : nval (l.take (j + 1)) = nval (l.take j) + 65536 ^ j * d := by
  rw [take_snoc h, nval_snoc, List.length_take, Nat.min_eq_left]
  exact Nat.le_of_lt (List.getElem?_eq_some_iff.1 h).1
theorem nval_zeros (n : Nat) : nval (List.replicate n 0) = 0 := by
  induction n with
  | zero => rfl
  | succ n ih => simp [List.replicate_succ, nval, ih]
theorem nval_dig (l : List Nat) : nval l = dig l 0 + 65536 * nval l.tail := by cases l <;> simp [nval, dig]
theorem dig_succ (l : List Nat) (j : Nat) : dig l (j + 1) = dig l.tail j := by cases l <;> simp [dig]
theorem Digs.tail {l : List Nat} (h : Digs l) : Digs l.tail := fun d hd => h d (List.mem_of_mem_tail hd)
theorem nval_ext : ∀ (n : Nat) (a b : List Nat), a.length ≤ n → b.length ≤ n → (∀ j, dig a j = dig b j) → nval a = nval b
  | 0, a, b, h1, h2, _ => by
    rw [List.eq_nil_of_length_eq_zero (by omega : a.length = 0), List.eq_nil_of_length_eq_zero (by omega : b.length = 0)]
  | n + 1, a, b, h1, h2, h => by
    rw [nval_dig a, nval_dig b, h 0, nval_ext n a.tail b.tail (by simp; omega) (by simp; omega) fun j => by rw [← dig_succ, ← dig_succ]; exact h (j + 1)]
theorem nval_lt : ∀ (i : Nat) (a b : List Nat), Digs b → (∀ j, i < j → dig a j = dig b j) → dig b i < dig a i → nval b < nval a
  | 0, a, b, hb, h, hlt => by
    have := nval_ext (max a.length b.length) a.tail b.tail (by simp; omega) (by simp; omega) fun j => by rw [← dig_succ, ← dig_succ]; exact h (j + 1) (by omega)
    rw [nval_dig a, nval_dig b, this]; omega
  | i + 1, a, b, hb, h, hlt => by
    have := nval_lt i a.tail b.tail hb.tail (fun j hj => by rw [← dig_succ, ← dig_succ]; exact h (j + 1) (by omega)) (by rw [← dig_succ, ← dig_succ]; exact hlt)
    have h0 := hb.dig 0
    rw [nval_dig a, nval_dig b]; omega
/-- The digits from i on are the same. -/
def SameFrom (a b : List Nat) (i : Nat) : Prop := ∀ j, i ≤ j → dig a j = dig b j
theorem SameFrom.start (a b : List Nat) : SameFrom a b (max a.length b.length) := by
  intro j hj
  unfold dig
  rw [List.getElem?_eq_none (by omega), List.getElem?_eq_none (by omega)]
theorem SameFrom.step {a b : List Nat} {i : Nat} (h : SameFrom a b (i + 1)) (hd : dig a i = dig b i) : SameFrom a b i := by
  intro j hj
  rcases Nat.eq_or_lt_of_le hj with rfl | h'
  · exact hd
  · exact h j h'
theorem SameFrom.last {a b : List Nat} (h : SameFrom a b 0) : nval a = nval b := nval_ext (max a.length b.length) a b (by omega) (by omega) fun j => h j (by omega)
theorem SameFrom.part {a b : List Nat} {i : Nat} (ha : Digs a) (hb : Digs b) (h : SameFrom a b (i + 1)) (hd : dig a i ≠ dig b i) : decide (nval b < nval a) = decide (dig b i < dig a i) := by
  rcases Nat.lt_or_gt_of_ne hd with h' | h'
  · have := nval_lt i b a ha (fun j hj => (h j hj).symm) h'
    rw [Bool.eq_iff_iff]; simp; omega
  · have := nval_lt i a b hb (fun j hj => h j hj) h'
    rw [Bool.eq_iff_iff]; simp; omega
/-- Digits of n so far, and what is left of it. -/
def DigAt (n : Nat) (acc : List Nat) (cur : Nat) : Prop := nval acc + 65536 ^ acc.length * cur = n ∧ Digs acc
theorem DigAt.start (n : Nat) : DigAt n [] n := ⟨by simp [nval], Digs.nil⟩
theorem DigAt.step {n cur : Nat} {acc : List Nat} (h : DigAt n acc cur) : DigAt n (acc ++ [cur % 65536]) (cur / 65536) := by
  refine ⟨?_, h.2.snoc (by omega)⟩
  rw [nval_snoc, List.length_append, List.length_singleton, Nat.pow_succ, Nat.add_assoc, Nat.mul_assoc, ← Nat.mul_add, ← h.1]
  congr 2; omega
theorem DigAt.few {n cur : Nat} {acc : List Nat} (h : DigAt n acc cur) (hn : n < 18446744073709551616) (h0 : 0 < cur) : acc.length ≤ 3 := by
  rcases Nat.lt_or_ge 3 acc.length with h' | h'
  · have h1 : 65536 ^ 4 ≤ 65536 ^ acc.length := Nat.pow_le_pow_right (by omega) h'
    have h2 : 65536 ^ acc.length * 1 ≤ 65536 ^ acc.length * cur := Nat.mul_le_mul (Nat.le_refl _) h0
    have := h.1
    omega
  · exact h'
theorem DigAt.last {n : Nat} {acc : List Nat} (h : DigAt n acc 0) : nval acc = n := by have := h.1; omega
/-- What the loops of a product keep: at row i, digit k, with a carry. -/
def TimesAt (a b out : List Nat) (i k c : Nat) : Prop :=
  nval out + c * 65536 ^ (i + k) = nval (a.take i) * nval b + dig a i * 65536 ^ i * nval (b.take k) ∧ Digs out ∧ out.length = a.length + b.length + 1 ∧ (∀ j, i + b.length ≤ j → j < out.length → out[j]? = some 0) ∧ c < 65536
def TimesRow (a b out : List Nat) (i : Nat) : Prop :=
  nval out = nval (a.take i) * nval b ∧ Digs out ∧ out.length = a.length + b.length + 1 ∧ (∀ j, i + b.length ≤ j → j < out.length → out[j]? = some 0)
theorem TimesRow.start (a b : List Nat) : TimesRow a b (List.replicate (a.length + b.length + 1) 0) 0 := by
  refine ⟨by simp [nval_zeros, nval], fun d hd => ?_, by simp, fun j _ hj => ?_⟩
  · have := (List.mem_replicate.1 hd).2; omega
  · rw [List.length_replicate] at hj
    rw [List.getElem?_replicate, if_pos hj]
theorem TimesRow.in_ {a b out : List Nat} {i : Nat} (h : TimesRow a b out i) : TimesAt a b out i 0 0 := ⟨by rw [h.1]; simp [nval], h.2.1, h.2.2.1, h.2.2.2, by omega⟩
theorem TimesAt.step {a b out : List Nat} {i k c o p q : Nat} (h : TimesAt a b out i k c) (ha : Digs a) (hb : Digs b) (ho : out[i + k]? = some o) (hp : a[i]? = some p) (hq : b[k]? = some q) :
    TimesAt a b (out.set (i + k) ((o + p * q + c) % 65536)) i (k + 1) ((o + p * q + c) / 65536) ∧ o + p * q + c < 4294967296 := by
  obtain ⟨h1, h2, h3, h4, h5⟩ := h
  have ho' := h2.at_ ho
  have hp' := ha.at_ hp
  have hq' := hb.at_ hq
  have hk : k < b.length := (List.getElem?_eq_some_iff.1 hq).1
  have hpq : p * q ≤ 65535 * 65535 := Nat.mul_le_mul (by omega) (by omega)
  have hdig : dig a i = p := by unfold dig; rw [hp]; rfl
  obtain ⟨x, hx⟩ : ∃ x, x = o + p * q + c := ⟨_, rfl⟩
  have hxl : x < 4294967296 := by omega
  rw [← hx]
  refine ⟨⟨?_, h2.set (by omega), by rw [List.length_set]; exact h3, fun j hj hl => ?_, by omega⟩, hxl⟩
  · have e1 := nval_set out (i + k) o (x % 65536) ho
    rw [hdig] at h1 ⊢
    rw [nval_take hq]
    obtain ⟨P, hP⟩ : ∃ P, P = 65536 ^ (i + k) := ⟨_, rfl⟩
    have hP' : P = 65536 ^ i * 65536 ^ k := by rw [hP, Nat.pow_add]
    have hPs : 65536 ^ (i + (k + 1)) = P * 65536 := by rw [hP, ← Nat.add_assoc, Nat.pow_succ]
    rw [hPs]
    rw [← hP] at e1 h1
    have e3 : (x % 65536) * P + (x / 65536) * (P * 65536) = x * P := by
      have : x % 65536 + 65536 * (x / 65536) = x := Nat.mod_add_div x 65536
      conv => rhs; rw [← this]
      rw [Nat.add_mul, Nat.mul_comm P 65536, ← Nat.mul_assoc, Nat.mul_comm (x / 65536) 65536]
    have e4 : x * P = o * P + p * q * P + c * P := by rw [hx, Nat.add_mul, Nat.add_mul]
    have e5 : p * 65536 ^ i * (nval (b.take k) + 65536 ^ k * q) = p * 65536 ^ i * nval (b.take k) + p * q * P := by
      rw [Nat.mul_add]
      congr 1
      rw [hP', Nat.mul_assoc, Nat.mul_assoc, ← Nat.mul_assoc (65536 ^ i), Nat.mul_comm (65536 ^ i * 65536 ^ k) q]
    rw [e5]
    omega
  · rw [List.length_set] at hl
    rw [List.getElem?_set_ne (by omega)]
    exact h4 j hj hl
theorem TimesAt.row {a b out : List Nat} {i c p : Nat} (h : TimesAt a b out i b.length c) (hp : a[i]? = some p) : out[i + b.length]? = some 0 ∧ TimesRow a b (out.set (i + b.length) c) (i + 1) := by
  obtain ⟨h1, h2, h3, h4, h5⟩ := h
  have hi : i < a.length := (List.getElem?_eq_some_iff.1 hp).1
  have h0 := h4 (i + b.length) (Nat.le_refl _) (by omega)
  have hdig : dig a i = p := by unfold dig; rw [hp]; rfl
  refine ⟨h0, ?_, h2.set h5, by rw [List.length_set]; exact h3, fun j hj hl => ?_⟩
  · have e1 := nval_set out (i + b.length) 0 c h0
    rw [List.take_length, hdig] at h1
    rw [nval_take hp, Nat.add_mul, Nat.mul_comm (65536 ^ i) p]
    omega
  · rw [List.length_set] at hl
    rw [List.getElem?_set_ne (by omega)]
    exact h4 j (by omega) hl
theorem TimesRow.last {a b out : List Nat} (h : TimesRow a b out a.length) : nval out = nval a * nval b := by rw [h.1, List.take_length]
/-- The bits of a root, from a higher one on. -/
def GrowR (n d b k x : Nat) : Prop := grow (topOf n d b) d k x = rootOf n d b ∧ x + 2 ^ k ≤ 2199023255552
theorem GrowR.start {n d b : Nat} (h : MayRoot n d b) : GrowR n d b 41 0 := by
  refine ⟨?_, by decide⟩
  have h1 := rootOf_spec h
  have hd : 0 ^ d ≤ topOf n d b := by rcases h.2.1 with rfl | rfl <;> simp
  have h2 := grow_spec (topOf n d b) d 41 0 hd (by
    rw [Nat.zero_add]
    exact Nat.lt_of_lt_of_le (topOf_lt h) (Nat.pow_le_pow_left (by decide) d))
  exact pow_uniq h2.1 h2.2 h1.1 h1.2
theorem GrowR.yes {n d b k x : Nat} (h : GrowR n d b (k + 1) x) (hc : (x + 2 ^ k) ^ d ≤ topOf n d b) : GrowR n d b k (x + 2 ^ k) := by
  obtain ⟨h1, h3⟩ := h
  rw [grow, if_pos hc] at h1
  exact ⟨h1, by rw [Nat.pow_succ] at h3; omega⟩
theorem GrowR.no {n d b k x : Nat} (h : GrowR n d b (k + 1) x) (hc : topOf n d b < (x + 2 ^ k) ^ d) : GrowR n d b k x := by
  obtain ⟨h1, h3⟩ := h
  rw [grow, if_neg (by omega)] at h1
  exact ⟨h1, by rw [Nat.pow_succ] at h3; omega⟩
theorem GrowR.last {n d b x : Nat} (h : GrowR n d b 0 x) : x = rootOf n d b := h.1
end Go.Proofs.Ytkndelbnjhkbcaa
