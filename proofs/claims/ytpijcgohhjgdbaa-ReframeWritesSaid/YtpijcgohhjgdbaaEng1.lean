/-
  Plain values: what a value of the program says, without where in memory it lies; and what stands for it.
-/
import Derived.Test.YtpijcgohhjgdbaaGlob
namespace Go.Proofs.Ytpijcgohhjgdbaa
set_option maxRecDepth 100000
open Go.RowKit
set_option linter.unusedVariables false

/-- A value, as plain data. -/
inductive AV where
  | c (v : Value)
  | agg (l : List AV)
  | tup (l : List AV)
  | sl (l : List AV) (k : Nat)
  | fresh (l : List AV) (k : Nat)
  | emp
  | adr (l : List AV)
  | box (id off : Nat)
  | own (id : Nat)
  | oadr (id off : Nat)
  deriving Inhabited

/-- Cells from ad on stay, and hold these. -/
structure At (w : World) (B : List Nat) (ad : Addr) (len : Nat) (us : Nat → Value) : Prop where
  spot : ad.spot = none
  lt : ad.block < w.heap.size
  out : ad.block ∉ B
  cell : ∀ i, i < len → w.cell? (ad.add i) = some (us i)

inductive Rel (w : World) (B : List Nat) : List Value → AV → Value → Prop where
  | c (η : List Value) (v : Value) : Rel w B η (.c v) v
  | agg (η : List Value) (l : List AV) (cs : Array Value) (us : Nat → Value) (hs : cs.size = l.length) (hu : ∀ i x, l[i]? = some x → cs[i]? = some (us i)) (hr : ∀ i x, l[i]? = some x → Rel w B η x (us i)) : Rel w B η (.agg l) (.agg cs)
  | tup (η : List Value) (l : List AV) (cs : Array Value) (us : Nat → Value) (hs : cs.size = l.length) (hu : ∀ i x, l[i]? = some x → cs[i]? = some (us i)) (hr : ∀ i x, l[i]? = some x → Rel w B η x (us i)) : Rel w B η (.tup l) (.tuple cs)
  | sl (η : List Value) (l : List AV) (k : Nat) (A : Option Addr) (n c : Nat) (us : Nat → Value) (hk : 1 ≤ k) (hn : n * k = l.length) (hc : n ≤ c) (hm : c ≤ maxLen) (hA : 0 < n → ∃ ad, A = some ad ∧ At w B ad l.length us) (hr : ∀ i x, l[i]? = some x → Rel w B [] x (us i)) : Rel w B η (.sl l k) (.slice A n c)
  | fresh (η : List Value) (l : List AV) (k : Nat) (A : Option Addr) (n : Nat) (us : Nat → Value) (hk : 1 ≤ k) (hn : n * k = l.length) (h0 : A = none → n = 0) (hm : n ≤ maxLen) (hA : 0 < n → ∃ ad, A = some ad ∧ At w B ad l.length us) (hr : ∀ i x, l[i]? = some x → Rel w B [] x (us i)) : Rel w B η (.fresh l k) (.slice A n n)
  | emp (η : List Value) (A : Option Addr) : Rel w B η .emp (.slice A 0 0)
  | adr (η : List Value) (l : List AV) (ad : Addr) (us : Nat → Value) (ha : At w B ad l.length us) (hr : ∀ i x, l[i]? = some x → Rel w B [] x (us i)) : Rel w B η (.adr l) (.pointer (some ad))
  | box (η : List Value) (id off b : Nat) (h : η[id]? = some (.pointer (some ⟨b, 0, none⟩))) : Rel w B η (.box id off) (.pointer (some ⟨b, off, none⟩))
  | own (η : List Value) (id : Nat) (a : Option Addr) (n c : Nat) (h : η[id]? = some (.slice a n c)) : Rel w B η (.own id) (.slice a n c)
  | oadr (η : List Value) (id off b o n c : Nat) (h : η[id]? = some (.slice (some ⟨b, o, none⟩) n c)) : Rel w B η (.oadr id off) (.pointer (some ⟨b, o + off, none⟩))

/-- A block of cells holds what it held (it may be marked as one that a text shares). -/
def Soft (w w' : World) (b : Nat) : Prop := ∀ c e fr, w.heap[b]? = some (.cells c e fr) → ∃ fr', w'.heap[b]? = some (.cells c e fr')
theorem Soft.of {w w' : World} {b : Nat} (h : w'.heap[b]? = w.heap[b]?) : Soft w w' b := fun c e fr hc => ⟨fr, by rw [h]; exact hc⟩
theorem Soft.cell {w w' : World} {b : Nat} (h : Soft w w' b) {p : Addr} (hp : p.block = b) {u : Value} (hu : w.cell? p = some u) : w'.cell? p = some u := by
  subst hp
  unfold World.cell? at hu ⊢
  split at hu
  · rename_i c e fr hc
    obtain ⟨fr', hc'⟩ := h c e fr hc
    rw [hc']
    exact hu
  · cases hu
theorem Soft.trans {a b c : World} {k : Nat} (h : Soft a b k) (h' : Soft b c k) : Soft a c k := fun x e fr hx => by
  obtain ⟨fr', h1⟩ := h x e fr hx
  exact h' x e fr' h1
/-- The world goes on: what is not among B stays. -/
structure On (B : List Nat) (w w' : World) : Prop where
  os : w'.os = w.os
  tape : w'.tape = w.tape
  output : w'.output = w.output
  size : w.heap.size ≤ w'.heap.size
  block : ∀ b, b < w.heap.size → b ∉ B → Soft w w' b
theorem On.refl (B : List Nat) (w : World) : On B w w := ⟨rfl, rfl, rfl, Nat.le_refl _, fun _ _ _ => .of rfl⟩
theorem On.gr {B : List Nat} {w w' : World} (h : Gr w w') : On B w w' := ⟨h.os, h.tape, h.output, h.size, fun b hb _ => .of (h.block b hb)⟩
/-- The world goes on: what is below n0, or among B, stays just so; all else holds what it held. -/
structure Gk (n0 : Nat) (B : List Nat) (w w' : World) : Prop where
  os : w'.os = w.os
  tape : w'.tape = w.tape
  output : w'.output = w.output
  size : w.heap.size ≤ w'.heap.size
  block : ∀ b, b < w.heap.size → Soft w w' b
  just : ∀ b, b < w.heap.size → b < n0 ∨ b ∈ B → w'.heap[b]? = w.heap[b]?
theorem Gk.refl (n0 : Nat) (B : List Nat) (w : World) : Gk n0 B w w := ⟨rfl, rfl, rfl, Nat.le_refl _, fun _ _ => .of rfl, fun _ _ _ => rfl⟩
theorem Gk.gr {n0 : Nat} {B : List Nat} {w w' : World} (h : Gr w w') : Gk n0 B w w' := ⟨h.os, h.tape, h.output, h.size, fun b hb => .of (h.block b hb), fun b hb _ => h.block b hb⟩
theorem Gk.trans {n0 : Nat} {B : List Nat} {a b c : World} (h : Gk n0 B a b) (k : Gk n0 B b c) : Gk n0 B a c :=
  ⟨k.os.trans h.os, k.tape.trans h.tape, k.output.trans h.output, Nat.le_trans h.size k.size, fun i hi => (h.block i hi).trans (k.block i (Nat.lt_of_lt_of_le hi h.size)),
   fun i hi hj => (k.just i (Nat.lt_of_lt_of_le hi h.size) hj).trans (h.just i hi hj)⟩
theorem Gk.on {n0 : Nat} {B B' : List Nat} {w w' : World} (h : Gk n0 B w w') : On B' w w' := ⟨h.os, h.tape, h.output, h.size, fun b hb _ => h.block b hb⟩
theorem Gk.below {n0 : Nat} {B : List Nat} {w w' : World} (h : Gk n0 B w w') (hn : n0 ≤ w.heap.size) : Below n0 w w' := ⟨h.os, h.tape, h.output, h.size, fun b hb => h.just b (by omega) (.inl hb)⟩
theorem way_gk (n0 : Nat) (B : List Nat) : Way (Gk n0 B) := ⟨Gk.refl n0 B, fun _ _ _ h k => Gk.trans h k, fun _ => ⟨rfl, rfl, rfl, Nat.le_refl _, fun _ _ => .of rfl, fun _ _ _ => rfl⟩⟩
theorem At.on {w w' : World} {B B' : List Nat} {ad : Addr} {len : Nat} {us : Nat → Value} (h : At w B ad len us) (g : On B w w') (hB : ∀ b ∈ B', b ∈ B ∨ w.heap.size ≤ b) : At w' B' ad len us :=
  ⟨h.spot, Nat.lt_of_lt_of_le h.lt g.size, fun hb => (hB _ hb).elim h.out (fun hb => by have := h.lt; omega),
   fun i hi => (g.block _ h.lt h.out).cell (block_of_add _ _) (h.cell i hi)⟩
theorem Rel.on {w w' : World} {B B' : List Nat} {η η' : List Value} {x : AV} {v : Value} (h : Rel w B η x v) (g : On B w w') (hB : ∀ b ∈ B', b ∈ B ∨ w.heap.size ≤ b) (he : ∀ (id : Nat) v, η[id]? = some v → η'[id]? = some v) : Rel w' B' η' x v := by
  induction h generalizing η' with
  | c η v => exact .c _ v
  | agg η l cs us hs hu hr ih => exact .agg _ l cs us hs hu (fun i x hx => ih i x hx he)
  | tup η l cs us hs hu hr ih => exact .tup _ l cs us hs hu (fun i x hx => ih i x hx he)
  | sl η l k A n c us hk hn hc hm hA hr ih => exact .sl _ l k A n c us hk hn hc hm (fun h0 => by obtain ⟨ad, h1, h2⟩ := hA h0; exact ⟨ad, h1, h2.on g hB⟩) (fun i x hx => ih i x hx (fun _ _ h => h))
  | fresh η l k A n us hk hn h0 hm hA hr ih => exact .fresh _ l k A n us hk hn h0 hm (fun h0 => by obtain ⟨ad, h1, h2⟩ := hA h0; exact ⟨ad, h1, h2.on g hB⟩) (fun i x hx => ih i x hx (fun _ _ h => h))
  | emp η A => exact .emp _ A
  | adr η l ad us ha hr ih => exact .adr _ l ad us (ha.on g hB) (fun i x hx => ih i x hx (fun _ _ h => h))
  | box η id off b h => exact .box _ id off b (he _ _ h)
  | own η id a n c h => exact .own _ id a n c (he _ _ h)
  | oadr η id off b o n c h => exact .oadr _ id off b o n c (he _ _ h)
/-- It does not speak of what the call itself writes. -/
def AV.imm0 : AV → Bool
  | .c _ | .sl _ _ | .adr _ | .emp => true
  | _ => false
def AV.imm : AV → Bool
  | .agg l | .tup l => l.all AV.imm0
  | x => x.imm0
theorem Rel.bare0 {w : World} {B : List Nat} {η η' : List Value} {x : AV} {v : Value} (h : Rel w B η x v) (hi : x.imm0 = true) : Rel w B η' x v := by
  cases h with
  | c => exact .c _ _
  | sl _ l k A n c us hk hn hc hm hA hr => exact .sl _ l k A n c us hk hn hc hm hA hr
  | adr _ l ad us ha hr => exact .adr _ l ad us ha hr
  | emp _ A => exact .emp _ A
  | _ => simp [AV.imm0] at hi
theorem Rel.bare {w : World} {B : List Nat} {η η' : List Value} {x : AV} {v : Value} (h : Rel w B η x v) (hi : x.imm = true) : Rel w B η' x v := by
  cases h with
  | c => exact .c _ _
  | sl _ l k A n c us hk hn hc hm hA hr => exact .sl _ l k A n c us hk hn hc hm hA hr
  | adr _ l ad us ha hr => exact .adr _ l ad us ha hr
  | emp _ A => exact .emp _ A
  | agg _ l cs us hs hu hr => exact .agg _ l cs us hs hu (fun i x hx => (hr i x hx).bare0 (List.all_eq_true.1 hi x (List.mem_of_getElem? hx)))
  | tup _ l cs us hs hu hr => exact .tup _ l cs us hs hu (fun i x hx => (hr i x hx).bare0 (List.all_eq_true.1 hi x (List.mem_of_getElem? hx)))
  | _ => simp [AV.imm, AV.imm0] at hi
theorem Rel.any {w : World} {B : List Nat} {η : List Value} {x : AV} {v : Value} (h : Rel w B [] x v) : Rel w B η x v := h.on (On.refl _ _) (fun _ h => .inl h) (fun _ _ h => by simp at h)
theorem Rel.gr {w w' : World} {B : List Nat} {η : List Value} {x : AV} {v : Value} (h : Rel w B η x v) (g : Gr w w') : Rel w' B η x v := h.on (.gr g) (fun _ hb => .inl hb) (fun _ _ h => h)
theorem Rel.gk {n0 : Nat} {w w' : World} {B : List Nat} {η : List Value} {x : AV} {v : Value} (h : Rel w B η x v) (g : Gk n0 B w w') : Rel w' B η x v := h.on g.on (fun _ hb => .inl hb) (fun _ _ h => h)
theorem On.trans {B B' : List Nat} {a b c : World} (h : On B a b) (k : On B' b c) (hB : ∀ b ∈ B', b ∈ B ∨ a.heap.size ≤ b) : On B a c :=
  ⟨k.os.trans h.os, k.tape.trans h.tape, k.output.trans h.output, Nat.le_trans h.size k.size, fun i hi hn => by
    exact (h.block i hi hn).trans (k.block i (Nat.lt_of_lt_of_le hi h.size) (fun hb => (hB _ hb).elim hn (fun hb => by omega)))⟩

/-- What stands in a block of the call's own. -/
inductive Ent where
  | dead
  | box (cells : List AV) (T : TypeId)
  | own (cells : List AV) (E : TypeId) (k : Nat)
  | itr (s : ByteArray) (pos : Nat)
  deriving Inhabited

def RelL (w : World) (B : List Nat) (η : List Value) (l : List AV) (us : List Value) : Prop := us.length = l.length ∧ ∀ (i : Nat) x, l[i]? = some x → ∃ u, us[i]? = some u ∧ Rel w B η x u
theorem RelL.on {w w' : World} {B B' : List Nat} {η η' : List Value} {l : List AV} {us : List Value} (h : RelL w B η l us) (g : On B w w') (hB : ∀ b ∈ B', b ∈ B ∨ w.heap.size ≤ b) (he : ∀ (id : Nat) v, η[id]? = some v → η'[id]? = some v) : RelL w' B' η' l us :=
  ⟨h.1, fun i x hx => by obtain ⟨u, h1, h2⟩ := h.2 i x hx; exact ⟨u, h1, h2.on g hB he⟩⟩
theorem RelL.nil (w : World) (B : List Nat) (η : List Value) : RelL w B η [] [] := ⟨rfl, fun i x h => by simp at h⟩
theorem RelL.cons {w : World} {B : List Nat} {η : List Value} {x : AV} {l : List AV} {u : Value} {us : List Value} (h : Rel w B η x u) (k : RelL w B η l us) : RelL w B η (x :: l) (u :: us) :=
  ⟨by simp [k.1], fun i y hy => by
    cases i with
    | zero => simp at hy; subst hy; exact ⟨u, rfl, h⟩
    | succ i => simp at hy; obtain ⟨v, h1, h2⟩ := k.2 i y hy; exact ⟨v, by simpa using h1, h2⟩⟩
theorem RelL.append {w : World} {B : List Nat} {η : List Value} {l m : List AV} {us vs : List Value} (h : RelL w B η l us) (k : RelL w B η m vs) : RelL w B η (l ++ m) (us ++ vs) :=
  ⟨by simp [h.1, k.1], fun i x hx => by
    rw [List.getElem?_append] at hx ⊢
    rw [h.1]
    split at hx
    · rename_i hi; rw [if_pos hi]; exact h.2 i x hx
    · rename_i hi; rw [if_neg hi]; exact k.2 _ x hx⟩
theorem RelL.take {w : World} {B : List Nat} {η : List Value} {l : List AV} {us : List Value} (h : RelL w B η l us) (n : Nat) : RelL w B η (l.take n) (us.take n) :=
  ⟨by simp [h.1], fun i x hx => by
    rw [List.getElem?_take] at hx ⊢
    split at hx
    · rename_i hi; rw [if_pos hi]; exact h.2 i x hx
    · cases hx⟩
theorem RelL.drop {w : World} {B : List Nat} {η : List Value} {l : List AV} {us : List Value} (h : RelL w B η l us) (n : Nat) : RelL w B η (l.drop n) (us.drop n) :=
  ⟨by simp [h.1], fun i x hx => by rw [List.getElem?_drop] at hx ⊢; exact h.2 _ x hx⟩
theorem RelL.set {w : World} {B : List Nat} {η : List Value} {l : List AV} {us : List Value} (h : RelL w B η l us) {x : AV} {u : Value} (hx : Rel w B η x u) (n : Nat) : RelL w B η (l.set n x) (us.set n u) :=
  ⟨by simp [h.1], fun i y hy => by
    rw [List.getElem?_set] at hy ⊢
    rw [h.1]
    split at hy
    · split at hy
      · rename_i h1 h2; rw [if_pos h1, if_pos h2]; injection hy with hy; subst hy; exact ⟨u, rfl, hx⟩
      · cases hy
    · rename_i h1; rw [if_neg h1]; exact h.2 i y hy⟩

/-- A slice, at whatever place, of a block of the call's own. -/
def OwnAt (w : World) (base : Nat) (e : TypeId) (k : Nat) (v : Value) (n : Nat) (us : List Value) : Prop :=
  us.length = n * k ∧ ((v = .slice none 0 0 ∧ n = 0) ∨ ∃ g o cap cur, v = .slice (some ⟨g, o, none⟩) n cap ∧ base ≤ g ∧ w.heap[g]? = some (.cells cur e (0, 0)) ∧ n ≤ cap ∧ cap ≤ maxLen ∧ o + cap * k ≤ cur.size ∧ (cur.toList.drop o).take (n * k) = us)
theorem OwnAt.nil (w : World) (base e k : Nat) : OwnAt w base e k (.slice none 0 0) 0 [] := ⟨by simp, .inl ⟨rfl, rfl⟩⟩
theorem OwnAt.row {w : World} {base base' e k n : Nat} {v : Value} {us : List Value} (h : w.ownsRow base' e k v n us) (hb : base ≤ base') : OwnAt w base e k v n us := by
  refine ⟨h.1, ?_⟩
  rcases h.2 with hn | ⟨g, cap, cur, hv, hg, hh, h1, h2, h3, h4⟩
  · exact .inl hn
  · exact .inr ⟨g, 0, cap, cur, hv, by omega, hh, h1, h2, by omega, by simpa using h4⟩
theorem OwnAt.cells {w : World} {base e k n g o c : Nat} {us : List Value} (h : OwnAt w base e k (.slice (some ⟨g, o, none⟩) n c) n us) : ∀ (j : Nat) u, us[j]? = some u → w.cell? ⟨g, o + j, none⟩ = some u := by
  intro j u hu
  rcases h.2 with ⟨hv, _⟩ | ⟨g', o', cap, cur, hv, _, hh, _, _, _, ht⟩
  · cases hv
  · injection hv with q1 q2 q3
    injection q1 with q1
    injection q1 with q4 q5
    subst q4 q5
    rw [cell_of_row w g _ cur e (0, 0) hh]
    rw [← ht, List.getElem?_take] at hu
    split at hu
    · rw [List.getElem?_drop] at hu; simpa using hu
    · cases hu
theorem OwnAt.len {w : World} {base e k n m c : Nat} {a : Option Addr} {us : List Value} (h : OwnAt w base e k (.slice a m c) n us) : m = n := by
  rcases h.2 with ⟨hv, hn⟩ | ⟨g', o', cap, cur, hv, _⟩ <;> injection hv with q1 q2 q3 <;> omega
def EntOK (n0 : Nat) (Bx : List Nat) (w : World) (B : List Nat) (η : List Value) (v : Value) : Ent → Prop
  | .dead => True
  | .box cells T => ∃ b us, v = .pointer (some ⟨b, 0, none⟩) ∧ n0 ≤ b ∧ b ∈ B ∧ b ∉ Bx ∧ w.heap[b]? = some (.cells us.toArray T (0, 0)) ∧ RelL w B η cells us
  | .own cells E k => ∃ n us, OwnAt w n0 E k v n us ∧ RelL w B η cells us ∧ 1 ≤ k ∧ ∀ b, v.ownBlock = some b → b ∈ B ∧ b ∉ Bx
  | .itr s pos => ∃ b, v = .pointer (some ⟨b, 0, none⟩) ∧ n0 ≤ b ∧ b ∈ B ∧ b ∉ Bx ∧ w.heap[b]? = some (.stringIter s pos)

/-- The block of a live one. -/
def blkOf (v : Value) : Option Nat := match v with
  | .pointer (some a) => some a.block
  | .slice (some a) _ _ => some a.block
  | _ => none
def Ent.live : Ent → Bool
  | .dead => false
  | _ => true

/-- The program's tables hold what they hold. -/
def GlobOK (w : World) (B : List Nat) : Prop := ∀ g l, (g, l) ∈ globs → Rel w B [] (.adr (l.map .c)) (.pointer (some ⟨g, 0, none⟩))
theorem GlobOK.on {w w' : World} {B B' : List Nat} (h : GlobOK w B) (g : On B w w') (hB : ∀ b ∈ B', b ∈ B ∨ w.heap.size ≤ b) : GlobOK w' B' := fun i l hi => (h i l hi).on g hB (fun _ _ h => h)
/-- What holds of memory, between two operations. -/
structure Inv (n0 : Nat) (Bx : List Nat) (w : World) (B : List Nat) (η : List Value) (H : List Ent) : Prop where
  len : η.length = H.length
  base : n0 ≤ w.heap.size ∧ GlobOK w B
  sub : ∀ b ∈ Bx, b ∈ B ∧ b < n0
  lt : ∀ b ∈ B, b < w.heap.size
  ent : ∀ id e, H[id]? = some e → EntOK n0 Bx w B η (η.getD id undef) e
  sep : ∀ i j ei ej, i ≠ j → H[i]? = some ei → H[j]? = some ej → ei.live = true → ej.live = true → ∀ b, blkOf (η.getD i undef) = some b → blkOf (η.getD j undef) ≠ some b

theorem EntOK.keep {n0 : Nat} {Bx : List Nat} {w w' : World} {B B' : List Nat} {η η' : List Value} {v : Value} {e : Ent} (h : EntOK n0 Bx w B η v e) (g : On B w w') (hB : ∀ b ∈ B', b ∈ B ∨ w.heap.size ≤ b) (hs : ∀ b ∈ B, b ∈ B') (he : ∀ (id : Nat) v, η[id]? = some v → η'[id]? = some v)
    (hb : e.live = true → ∀ b, blkOf v = some b → w'.heap[b]? = w.heap[b]?) : EntOK n0 Bx w' B' η' v e := by
  cases e with
  | dead => trivial
  | box cells T =>
    obtain ⟨b, us, h1, h2, h3, h4, h5, h6⟩ := h
    refine ⟨b, us, h1, h2, hs _ h3, h4, ?_, h6.on g hB he⟩
    rw [hb rfl b (by rw [h1]; rfl)]; exact h5
  | own cells E k =>
    obtain ⟨n, us, h1, h2, h3, h4⟩ := h
    refine ⟨n, us, ⟨h1.1, ?_⟩, h2.on g hB he, h3, fun b hb' => ⟨hs _ (h4 b hb').1, (h4 b hb').2⟩⟩
    rcases h1.2 with hn | ⟨gg, oo, cap, cur, hv, hb', hgg, rest⟩
    · exact .inl hn
    · refine .inr ⟨gg, oo, cap, cur, hv, hb', ?_, rest⟩
      rw [hb rfl gg (by rw [hv]; rfl)]; exact hgg
  | itr s pos =>
    obtain ⟨b, h1, h2, h3, h4, h5⟩ := h
    exact ⟨b, h1, h2, hs _ h3, h4, by rw [hb rfl b (by rw [h1]; rfl)]; exact h5⟩
theorem EntOK.lt {n0 : Nat} {Bx : List Nat} {w : World} {B : List Nat} {η : List Value} {v : Value} {e : Ent} (h : EntOK n0 Bx w B η v e) (hl : e.live = true) : ∀ b, blkOf v = some b → b < w.heap.size ∧ b ∈ B := by
  intro b hb
  cases e with
  | dead => cases hl
  | box cells T =>
    obtain ⟨b', us, h1, h2, h3, h4, h5, h6⟩ := h
    rw [h1] at hb; simp [blkOf] at hb; subst hb
    exact ⟨(Array.getElem?_eq_some_iff.1 h5).1, h3⟩
  | own cells E k =>
    obtain ⟨n, us, h1, h2, h3, h4⟩ := h
    rcases h1.2 with ⟨hv, _⟩ | ⟨gg, oo, cap, cur, hv, hb', hgg, rest⟩
    · rw [hv] at hb; cases hb
    · rw [hv] at hb; simp [blkOf] at hb; subst hb
      exact ⟨(Array.getElem?_eq_some_iff.1 hgg).1, (h4 gg (by rw [hv]; rfl)).1⟩
  | itr s pos =>
    obtain ⟨b', h1, h2, h3, h4, h5⟩ := h
    rw [h1] at hb; simp [blkOf] at hb; subst hb
    exact ⟨(Array.getElem?_eq_some_iff.1 h5).1, h3⟩
theorem EntOK.on {n0 : Nat} {Bx : List Nat} {w w' : World} {B : List Nat} {η η' : List Value} {v : Value} {e : Ent} (h : EntOK n0 Bx w B η v e) (g : Gr w w') (he : ∀ (id : Nat) v, η[id]? = some v → η'[id]? = some v) : EntOK n0 Bx w' B η' v e :=
  EntOK.keep h (.gr g) (fun _ h => .inl h) (fun _ h => h) he (fun hl b hb => g.block b (EntOK.lt h hl b hb).1)
theorem Inv.gk {n0 : Nat} {Bx : List Nat} {w w' : World} {B : List Nat} {η : List Value} {H : List Ent} (h : Inv n0 Bx w B η H) (g : Gk n0 B w w') : Inv n0 Bx w' B η H :=
  ⟨h.len, ⟨Nat.le_trans h.base.1 g.size, h.base.2.on g.on (fun _ h => .inl h)⟩, h.sub, fun b hb => Nat.lt_of_lt_of_le (h.lt b hb) g.size, fun id e he => EntOK.keep (h.ent id e he) g.on (fun _ h => .inl h) (fun _ h => h) (fun _ _ h => h)
    (fun hl b hb => have hlt := EntOK.lt (h.ent id e he) hl b hb; g.just b hlt.1 (.inr hlt.2)), h.sep⟩
theorem Inv.gr {n0 : Nat} {Bx : List Nat} {w w' : World} {B : List Nat} {η : List Value} {H : List Ent} (h : Inv n0 Bx w B η H) (g : Gr w w') : Inv n0 Bx w' B η H :=
  ⟨h.len, ⟨Nat.le_trans h.base.1 g.size, h.base.2.on (.gr g) (fun _ h => .inl h)⟩, h.sub, fun b hb => Nat.lt_of_lt_of_le (h.lt b hb) g.size, fun id e he => EntOK.on (h.ent id e he) g (fun _ _ h => h), h.sep⟩
end Go.Proofs.Ytpijcgohhjgdbaa
