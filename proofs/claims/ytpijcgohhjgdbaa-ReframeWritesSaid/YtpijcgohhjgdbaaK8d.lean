/-
  Regions that draw: some operations write, one behind the other, and others look at nothing that these write: in every order they come to one end.
-/
import Derived.Test.YtpijcgohhjgdbaaK8
namespace Go.Proofs.Ytpijcgohhjgdbaa
set_option maxRecDepth 100000
open Go.RowKit
set_option linter.unusedVariables false
set_option linter.unusedSimpArgs false

section
variable {P : Program} {ops : Array Oper}
theorem wpAny_inv {Q : Exit → Act → World → Prop} (I : Array Bool → Act → World → Prop) (hback : backB ops = true)
    (hstep : ∀ (listed : Array Bool) (a : Act) (w : World) (j : Nat), HeadInv .any ops ops.size listed → I listed a w → j ∈ Region.ready .any ops listed → ∀ K : Act → World → Prop, (∀ a' w', I (listed.setIfInBounds j true) a' w' → K a' w') → wpOp P ops Q j K a w)
    (hend : ∀ (listed : Array Bool) (a : Act) (w : World), HeadInv .any ops ops.size listed → (∀ i, i < ops.size → listed.getD i false = true) → I listed a w → Q .normal a w) :
    ∀ (f : Nat) (listed : Array Bool) (a : Act) (w : World), ((List.range ops.size).filter fun i => !listed.getD i false).length = f → HeadInv .any ops ops.size listed → I listed a w → wpAny P .any ops Q f listed a w
  | 0, listed, a, w, hf, hi, inv => by
    have hall : ∀ i, i < ops.size → listed.getD i false = true := fun i hin => by
      cases hl : listed.getD i false with
      | true => rfl
      | false =>
        have : i ∈ (List.range ops.size).filter fun i => !listed.getD i false := List.mem_filter.2 ⟨List.mem_range.2 hin, by rw [hl]; rfl⟩
        rw [List.length_eq_zero_iff.1 hf] at this; cases this
    refine ⟨?_, hend listed a w hi hall inv⟩
    cases hr : Region.ready .any ops listed with
    | nil => rfl
    | cons j l =>
      have hj : j ∈ Region.ready .any ops listed := by rw [hr]; exact List.mem_cons_self
      obtain ⟨h1, o, ho, _⟩ := mem_ready.1 hj
      have hjs := (Array.getElem?_eq_some_iff.1 ho).1
      have := hall j hjs
      have hjl : j < listed.size := by rw [hi.size]; exact hjs
      simp [hjl] at this h1
      rw [this] at h1; cases h1
  | f + 1, listed, a, w, hf, hi, inv => by
    have hex : ∃ i, i < ops.size ∧ listed.getD i false = false := by
      cases hfil : (List.range ops.size).filter fun i => !listed.getD i false with
      | nil => rw [hfil] at hf; cases hf
      | cons x xs =>
        have : x ∈ (List.range ops.size).filter fun i => !listed.getD i false := by rw [hfil]; exact List.mem_cons_self
        obtain ⟨h1, h2⟩ := List.mem_filter.1 this
        exact ⟨x, List.mem_range.1 h1, by simpa using h2⟩
    have hready : ∃ i, i ∈ Region.ready .any ops listed := by
      obtain ⟨i0, hin0, hun0⟩ := hex
      revert hin0 hun0
      refine Nat.strongRecOn i0 fun i ih his hun => ?_
      by_cases hall : ∀ e ∈ ops[i].after, Region.binds .any e = true → listed.getD e.on false = true
      · refine ⟨i, mem_ready.2 ⟨?_, ops[i], Array.getElem?_eq_getElem his, hall⟩⟩
        have hil : i < listed.size := by rw [hi.size]; exact his
        simp [hil] at hun ⊢; exact hun
      · have : ∃ e ∈ ops[i].after, Region.binds .any e = true ∧ listed.getD e.on false = false := by
          apply Classical.byContradiction
          intro hc
          apply hall
          intro e he hb
          cases hl : listed.getD e.on false with
          | true => rfl
          | false => exact absurd ⟨e, he, hb, hl⟩ hc
        obtain ⟨e, he, hb, hl⟩ := this
        have h1 := List.all_eq_true.1 hback i (List.mem_range.2 his)
        simp only [Array.getElem?_eq_getElem his] at h1
        have h2 := Array.all_eq_true_iff_forall_mem.1 h1 e he
        simp only [hb, Bool.not_true, Bool.false_or, decide_eq_true_eq] at h2
        exact ih e.on h2 (by omega) hl
    refine ⟨fun h0 => by obtain ⟨i, hi2⟩ := hready; rw [h0] at hi2; exact (List.not_mem_nil hi2).elim, fun j hj => ?_⟩
    have hjs : j < ops.size := by obtain ⟨_, o, ho, _⟩ := mem_ready.1 hj; exact (Array.getElem?_eq_some_iff.1 ho).1
    refine hstep listed a w j hi inv hj _ fun a' w' inv' => wpAny_inv I hback hstep hend f _ a' w' ?_ (hi.set hj hjs) inv'
    have hjl : j < listed.size := by rw [hi.size]; omega
    have hjun : listed.getD j false = false := by
      have := (mem_ready.1 hj).1
      simp [hjl] at this ⊢; exact this
    have : ∀ (l : List Nat), l.Nodup → j ∈ l → (l.filter fun i => !(listed.setIfInBounds j true).getD i false).length + 1 = (l.filter fun i => !listed.getD i false).length := by
      intro l
      induction l with
      | nil => intro _ h; cases h
      | cons x l ih =>
        intro hnd hm
        obtain ⟨hx, hnd'⟩ := List.nodup_cons.1 hnd
        rcases List.mem_cons.1 hm with rfl | hm'
        · have e1 : (listed.setIfInBounds j true).getD j false = true := by simp [hjl]
          have e2 : (l.filter fun i => !(listed.setIfInBounds j true).getD i false) = l.filter fun i => !listed.getD i false :=
            List.filter_congr fun i hi' => by rw [getD_set_ne false (fun e => hx (by rw [e]; exact hi'))]
          rw [List.filter_cons_of_neg (by rw [e1]; simp), List.filter_cons_of_pos (by rw [hjun]; rfl), e2, List.length_cons]
        · have hne : j ≠ x := fun e => hx (by rw [← e]; exact hm')
          have ih' := ih hnd' hm'
          by_cases hlx : listed.getD x false = true
          · rw [List.filter_cons_of_neg (by rw [getD_set_ne false hne, hlx]; simp), List.filter_cons_of_neg (by rw [hlx]; simp)]; exact ih'
          · have hlx' : listed.getD x false = false := by simpa using hlx
            rw [List.filter_cons_of_pos (by rw [getD_set_ne false hne, hlx']; rfl), List.filter_cons_of_pos (by rw [hlx']; rfl), List.length_cons, List.length_cons]; omega
    have h := this (List.range ops.size) List.nodup_range (List.mem_range.2 hjs)
    omega
end
/-- It speaks of no block of the call's own. -/
def bareV : V → Bool
  | .any => true
  | .agg l => l.all immV
  | .tup l => l.all immV2
  | .fre _ _ => true
  | .adr _ => true
  | .clo _ l => l.isEmpty
  | x => immV x
theorem imm2_ex0 {x : V} (h : immV2 x = true) : (unf (ex0 x)).imm = true := by
  cases x with
  | agg l => exact immV_ok l h
  | arr d n a => exact flat_imm d a.l
  | _ => first | rfl | cases h
theorem Rel.bare2 {w : World} {B : List Nat} {η η' : List Value} {x : AV} {v : Value} (h : Rel w B η x v) (hi : (Go.Proofs.Ytpijcgohhjgdbaa.unf x).imm = true) : Rel w B η' x v := by
  cases h with
  | fresh _ l k A n us hk hn h0 hm hA hr => exact .fresh _ l k A n us hk hn h0 hm hA hr
  | c => exact .c _ _
  | sl _ l k A n c us hk hn hc hm hA hr => exact .sl _ l k A n c us hk hn hc hm hA hr
  | adr _ l ad us ha hr => exact .adr _ l ad us ha hr
  | emp _ A => exact .emp _ A
  | agg _ l cs us hs hu hr => exact Rel.bare (.agg _ l cs us hs hu hr) hi
  | tup _ l cs us hs hu hr => exact Rel.bare (.tup _ l cs us hs hu hr) hi
  | _ => cases hi
theorem bareV_rel {w : World} {B : List Nat} {η η' : List Value} {x : V} {v : Value} (hb : bareV x = true) (h : Rel2 w B η x v) : Rel2 w B η' x v := by
  cases x with
  | any => trivial
  | agg l => exact Rel.bare h (immV_ok l hb)
  | arr d n a => exact Rel.bare h (flat_imm d a.l)
  | tup l =>
    have hr0 : Rel w B η (.tup (l.map ex0)) v := h
    cases hr0 with
    | tup _ _ cs us hs hu hr =>
      refine Rel.tup _ _ cs us hs hu (fun i y hy => (hr i y hy).bare2 ?_)
      rw [List.getElem?_map, Option.map_eq_some_iff] at hy
      obtain ⟨z, hz, rfl⟩ := hy
      exact imm2_ex0 (List.all_eq_true.1 hb z (List.mem_of_getElem? hz))
  | fre d l =>
    have hr0 : Rel w B η (.fresh (flat d l) (wd d)) v := h
    exact hr0.bare2 (η' := η') rfl
  | adr l =>
    have hr0 : Rel w B η (.adr (segsA l)) v := h
    exact hr0.bare2 (η' := η') rfl
  | c v0 => exact Rel.bare h rfl
  | str s => exact Rel.bare h rfl
  | lst d l => exact Rel.bare h rfl
  | emp => exact Rel.bare h rfl
  | clo f l =>
    have hl : l = [] := List.isEmpty_iff.1 hb
    subst hl
    obtain ⟨vs, h1, h2, h3⟩ := h
    exact ⟨vs, h1, h2, fun i c hc => by simp at hc⟩
  | _ => cases hb
/-- It writes. -/
def writesI (inl : FuncId → Bool) : Op → Bool
  | .store _ _ _ => true
  | .box _ _ => true
  | .alloc _ => true
  | .call c => match c.callee with
    | .builtin .append => true
    | .builtin .copy => true
    | .value (.func f) => inl f
    | .value (.tmp _) => true
    | _ => false
  | _ => false
/-- Which operations write nothing, and look at nothing that one which writes has made. -/
def frontsOf (inl : FuncId → Bool) (ops : Array Oper) : List Oper → List (Option Tmp × Bool) → List Bool
  | [], _ => []
  | o :: rest, acc =>
    let f := !writesI inl o.op && (o.looksAt ops).all fun t => acc.all fun p => p.2 || p.1 != some t
    f :: frontsOf inl ops rest (acc ++ [(o.dst, f)])
section
variable {R : Type}
def forceL : List V → (List V → Tree R) → Tree R
  | [], k => k []
  | x :: l, k => forceL l fun m => k (x :: m)
theorem forceL_eq : ∀ (l : List V) (k : List V → Tree R), forceL l k = k l
  | [], k => rfl
  | x :: l, k => by rw [forceL, forceL_eq l]
/-- The operations, numbered: those in front, the others. -/
def flR (k : Nat) : List Oper → List Bool → List (Nat × Oper)
  | o :: l, b :: fs => if b = true then (k, o) :: flR (k + 1) l fs else flR (k + 1) l fs
  | _, _ => []
def clR (k : Nat) : List Oper → List Bool → List (Nat × Oper)
  | o :: l, b :: fs => if b = true then clR (k + 1) l fs else (k, o) :: clR (k + 1) l fs
  | _, _ => []
theorem flR_mem : ∀ (l : List Oper) (fs : List Bool) (k j : Nat) (o : Oper), (j, o) ∈ flR k l fs ↔ k ≤ j ∧ l[j - k]? = some o ∧ fs[j - k]? = some true
  | [], fs, k, j, o => by cases fs <;> simp [flR]
  | _ :: _, [], k, j, o => by simp [flR]
  | p :: l, b :: fs, k, j, o => by
    have ih := flR_mem l fs (k + 1) j o
    have key : k + 1 ≤ j ∧ l[j - (k + 1)]? = some o ∧ fs[j - (k + 1)]? = some true ↔ k < j ∧ (p :: l)[j - k]? = some o ∧ (b :: fs)[j - k]? = some true := by
      constructor
      · rintro ⟨h1, h2, h3⟩
        rw [show j - k = (j - (k + 1)) + 1 by omega]
        exact ⟨by omega, by simpa using h2, by simpa using h3⟩
      · rintro ⟨h1, h2, h3⟩
        rw [show j - k = (j - (k + 1)) + 1 by omega] at h2 h3
        exact ⟨by omega, by simpa using h2, by simpa using h3⟩
    unfold flR
    cases b with
    | true =>
      simp only [if_true, List.mem_cons, ih, key]
      constructor
      · rintro (h | ⟨h1, h2, h3⟩)
        · injection h with h1 h2; subst h1 h2; simp
        · exact ⟨by omega, h2, h3⟩
      · rintro ⟨h1, h2, h3⟩
        rcases Nat.lt_or_ge k j with h | h
        · exact .inr ⟨h, h2, h3⟩
        · have : j = k := by omega
          subst this
          simp at h2
          exact .inl (by rw [h2])
    | false =>
      simp only [Bool.false_eq_true, if_false, ih, key]
      constructor
      · rintro ⟨h1, h2, h3⟩; exact ⟨by omega, h2, h3⟩
      · rintro ⟨h1, h2, h3⟩
        rcases Nat.lt_or_ge k j with h | h
        · exact ⟨h, h2, h3⟩
        · have : j = k := by omega
          subst this
          simp at h3
theorem clR_mem : ∀ (l : List Oper) (fs : List Bool) (k j : Nat) (o : Oper), (j, o) ∈ clR k l fs ↔ k ≤ j ∧ l[j - k]? = some o ∧ fs[j - k]? = some false
  | [], fs, k, j, o => by cases fs <;> simp [clR]
  | _ :: _, [], k, j, o => by simp [clR]
  | p :: l, b :: fs, k, j, o => by
    have ih := clR_mem l fs (k + 1) j o
    have key : k + 1 ≤ j ∧ l[j - (k + 1)]? = some o ∧ fs[j - (k + 1)]? = some false ↔ k < j ∧ (p :: l)[j - k]? = some o ∧ (b :: fs)[j - k]? = some false := by
      constructor
      · rintro ⟨h1, h2, h3⟩
        rw [show j - k = (j - (k + 1)) + 1 by omega]
        exact ⟨by omega, by simpa using h2, by simpa using h3⟩
      · rintro ⟨h1, h2, h3⟩
        rw [show j - k = (j - (k + 1)) + 1 by omega] at h2 h3
        exact ⟨by omega, by simpa using h2, by simpa using h3⟩
    unfold clR
    cases b with
    | false =>
      simp only [Bool.false_eq_true, if_false, List.mem_cons, ih, key]
      constructor
      · rintro (h | ⟨h1, h2, h3⟩)
        · injection h with h1 h2; subst h1 h2; simp
        · exact ⟨by omega, h2, h3⟩
      · rintro ⟨h1, h2, h3⟩
        rcases Nat.lt_or_ge k j with h | h
        · exact .inr ⟨h, h2, h3⟩
        · have : j = k := by omega
          subst this
          simp at h2
          exact .inl (by rw [h2])
    | true =>
      simp only [if_true, ih, key]
      constructor
      · rintro ⟨h1, h2, h3⟩; exact ⟨by omega, h2, h3⟩
      · rintro ⟨h1, h2, h3⟩
        rcases Nat.lt_or_ge k j with h | h
        · exact ⟨h, h2, h3⟩
        · have : j = k := by omega
          subst this
          simp at h3
theorem flR_pair : ∀ (l : List Oper) (fs : List Bool) (k : Nat), (flR k l fs).Pairwise fun p q => p.1 < q.1
  | [], fs, k => by cases fs <;> simp [flR]
  | _ :: _, [], k => by simp [flR]
  | p :: l, b :: fs, k => by
    unfold flR
    split
    · exact List.pairwise_cons.2 ⟨fun q hq => by have := (flR_mem l fs (k + 1) q.1 q.2).1 hq; show k < q.1; omega, flR_pair l fs (k + 1)⟩
    · exact flR_pair l fs (k + 1)
theorem clR_pair : ∀ (l : List Oper) (fs : List Bool) (k : Nat), (clR k l fs).Pairwise fun p q => p.1 < q.1
  | [], fs, k => by cases fs <;> simp [clR]
  | _ :: _, [], k => by simp [clR]
  | p :: l, b :: fs, k => by
    unfold clR
    split
    · exact clR_pair l fs (k + 1)
    · exact List.pairwise_cons.2 ⟨fun q hq => by have := (clR_mem l fs (k + 1) q.1 q.2).1 hq; show k < q.1; omega, clR_pair l fs (k + 1)⟩
/-- All that writes waits for it. -/
def modeA (ops : Array Oper) (cl : List (Nat × Oper)) (j : Nat) : Bool := match cl with
  | [] => true
  | (c, _) :: _ => ancB ops ops.size c j
def bareOps (ρ : Operand → V) (o : Op) : Bool := o.operands.all fun x => bareV (ρ x)
/-- Does what writes make boxes of its own, and fill these alone? -/
def ownSt (cl : List (Nat × Oper)) : Bool := cl.all fun p => match p.2.op with
  | .alloc _ => true
  | .store _ (.tmp t) _ => cl.any fun q => q.2.dst == some t && (match q.2.op with | .alloc _ => true | _ => false)
  | _ => false
def lowN (cl : List (Nat × Oper)) (H : List E2) : Nat := if ownSt cl = true then H.length else 0
/-- The boxes that speak of no block of the call's own. -/
def maskE : E2 → E2
  | .box l T => if l.all immV = true then .box l T else .dead
  | _ => .dead
def lowV (n : Nat) : V → Bool
  | .box id _ => decide (id < n)
  | .boxi id _ _ _ _ _ => decide (id < n)
  | x => bareV x
def lowOps (n : Nat) (ρ : Operand → V) (o : Op) : Bool := o.operands.all fun x => lowV n (ρ x)
/-- Does it leave the first entries as they are? -/
def keepB (n : Nat) (H : List E2) (ρ : Operand → V) (o : Op) : Bool := n == 0 || (decide (n ≤ H.length) && match o with
  | .alloc _ => true
  | .store _ a _ => (match ρ a with | .box id _ => decide (n ≤ id) | .boxi id _ _ _ _ _ => decide (n ≤ id) | _ => false)
  | _ => false)
def lowEq (n : Nat) (H H' : List E2) : Prop := ∀ i, i < n → H'[i]? = H[i]?
open Classical in
theorem evS2_low {P : Program} {F : Fns R} {mv : Bool × Bool} {n : Nat} {H : List E2} {ρ : Operand → V} {o : Op} {k : V → List E2 → Tree R} (h : keepB n H ρ o = true) :
    evS2 P F mv H ρ o k = evS2 P F mv H ρ o fun r H' => if lowEq n H H' then k r H' else .fail := by
  unfold keepB at h
  rcases Nat.eq_zero_or_pos n with rfl | hn
  · have : (fun r H' => if lowEq 0 H H' then k r H' else .fail) = k := by
      funext r H'
      rw [if_pos (show lowEq 0 H H' from fun i hi => absurd hi (Nat.not_lt_zero i))]
    rw [this]
  · have hz : (n == 0) = false := by simp; omega
    rw [hz, Bool.false_or, Bool.and_eq_true, decide_eq_true_eq] at h
    obtain ⟨hl, h⟩ := h
    split at h
    · have hp : ∀ e, lowEq n H (H ++ [e]) := fun e i hi => by rw [List.getElem?_append_left (by omega)]
      simp only [evS2, evW2, allocK]
      cases zeroP P _ with
      | none => rfl
      | some v => simp only [hp, if_true]
    · rename_i t a x
      have hp : ∀ id e, n ≤ id → lowEq n H (H.set id e) := fun id e hid i hi => by rw [List.getElem?_set_ne (by omega)]
      simp only [evS2, evW2, storeK]
      split at h
      · rename_i id off he
        have hid : n ≤ id := by simpa using h
        simp only [he, hp _ _ hid, if_true]
      · rename_i id off d m i oo he
        have hid : n ≤ id := by simpa using h
        simp only [he, hp _ _ hid, if_true]
      · cases h
    · cases h
open Classical in
theorem evI_low {P : Program} {Γ : Env R} {C : CallI R} {mv : Bool × Bool} {n : Nat} {H : List E2} {sl : List V} {o : Op} {k : V → List E2 → Tree R} (h : keepB n H (opV sl) o = true) :
    evI P Γ C mv ⟨sl, H⟩ o k = evI P Γ C mv ⟨sl, H⟩ o fun r H' => if lowEq n H H' then k r H' else .fail := by
  rcases Nat.eq_zero_or_pos n with rfl | hn
  · have : (fun r H' => if lowEq 0 H H' then k r H' else .fail) = k := by
      funext r H'
      rw [if_pos (show lowEq 0 H H' from fun i hi => absurd hi (Nat.not_lt_zero i))]
    rw [this]
  · have h' := h
    unfold keepB at h'
    have hz : (n == 0) = false := by simp; omega
    rw [hz, Bool.false_or, Bool.and_eq_true, decide_eq_true_eq] at h'
    obtain ⟨hl, h'⟩ := h'
    split at h'
    · exact evS2_low (F := Γ.fns) (mv := mv) h
    · exact evS2_low (F := Γ.fns) (mv := mv) h
    · cases h'
/-- It reads nothing: an address is counted on. -/
def addrB : Op → Bool
  | .fieldAddr _ _ _ => true
  | _ => false
def evFr (P : Program) (F : Fns R) (ops : Array Oper) (cl : List (Nat × Oper)) (H : List E2) : List (Nat × Oper) → List V → (List V → Tree R) → Tree R
  | [], sl, k => k sl
  | (j, o) :: rest, sl, k => wantK ops sl o
    (fun sl => if modeA ops cl j = true then evNF P F H (opV sl) o.op fun r => forceL (setV sl o.dst r) fun sl' => evFr P F ops cl H rest sl' k
      else if bareOps (opV sl) o.op = true then evNF P F [] (opV sl) o.op fun r => forceL (setV sl o.dst r) fun sl' => evFr P F ops cl H rest sl' k
      else if addrB o.op = true then evNF P F H (opV sl) o.op fun r => forceL (setV sl o.dst r) fun sl' => evFr P F ops cl H rest sl' k
      else if lowN cl H = H.length ∧ lowOps H.length (opV sl) o.op = true then evNF P F (H.map maskE) (opV sl) o.op fun r => forceL (setV sl o.dst r) fun sl' => evFr P F ops cl H rest sl' k else .fail)
    (fun sl => forceL (setV sl o.dst (.c undef)) fun sl' => evFr P F ops cl H rest sl' k)
def evChL (P : Program) (Γ : Env R) (C : CallI R) (mv : Bool × Bool) (ops : Array Oper) (n : Nat) : List (Nat × Oper) → S2 → (S2 → Tree R) → Tree R
  | [], st, k => k st
  | (j, o) :: rest, st, k => wantK ops st.slots o
    (fun sl => if keepB n st.heap (opV sl) o.op = true then evI P Γ C mv ⟨sl, st.heap⟩ o.op fun r H' => forceL (setV sl o.dst r) fun sl' => evChL P Γ C mv ops n rest ⟨sl', H'⟩ k else .fail)
    (fun sl => forceL (setV sl o.dst (.c undef)) fun sl' => evChL P Γ C mv ops n rest ⟨sl', st.heap⟩ k)
def evCh (P : Program) (Γ : Env R) (C : CallI R) (mv : Bool × Bool) (ops : Array Oper) (l : List (Nat × Oper)) (st : S2) (k : S2 → Tree R) : Tree R := evChL P Γ C mv ops (lowN l st.heap) l st k
def Wt (ops : Array Oper) (o : Oper) (sl : List V) (b : Bool) : Prop := ∀ (w : World) (B : List Nat) (η : List Value) (tmps : Array Value), sl.length = tmps.size → (∀ d, guardSlot ops o = some d → Rel2 w B η (sl.getD d .any) (tmps.getD d undef)) → Region.wanted o (yielded ops tmps) = b
def OpsN (P : Program) (H : List E2) (o : Oper) (sl : List V) (r : V) : Prop := ∀ (n0 : Nat) (Bx : List Nat) (w : World) (B : List Nat) (η : List Value) (ρv : Operand → Value), (∀ f, ρv (.func f) = .func (.func f) #[] #[]) → Inv n0 Bx w B η (H.map exE) → (∀ x ∈ o.op.operands, Rel2 w B η (opV sl x) (ρv x) ∧ FreshV n0 (ex (opV sl x)) (ρv x)) → OpK P n0 w ρv o B η r
def OpsC (P : Program) (H : List E2) (o : Oper) (sl : List V) (r : V) (H' : List E2) : Prop := ∀ (n0 : Nat) (Bx : List Nat) (w : World) (B : List Nat) (η : List Value) (ρv : Operand → Value), (∀ f, ρv (.func f) = .func (.func f) #[] #[]) → Inv n0 Bx w B η (H.map exE) → (∀ x ∈ o.op.operands, Rel2 w B η (opV sl x) (ρv x) ∧ FreshV n0 (ex (opV sl x)) (ρv x)) → OpS2 P n0 Bx w ρv o B η r H'
def T1 (P : Program) (ops : Array Oper) (cl : List (Nat × Oper)) (H : List E2) : List (Nat × Oper) → List V → List V → Prop
  | [], sl, sl' => sl' = sl
  | (j, o) :: rest, sl, sl' => ∃ b r, Wt ops o sl b ∧ (b = true → (modeA ops cl j = true ∧ OpsN P H o sl r) ∨ ((∀ x ∈ o.op.operands, bareV (opV sl x) = true) ∧ OpsN P [] o sl r) ∨ (∀ H', OpsN P H' o sl r) ∨ (lowN cl H = H.length ∧ (∀ x ∈ o.op.operands, lowV H.length (opV sl x) = true) ∧ OpsN P (H.map maskE) o sl r)) ∧ (b = false → r = .c undef) ∧ T1 P ops cl H rest (setV sl o.dst r) sl'
def T2 (P : Program) (ops : Array Oper) (n : Nat) : List (Nat × Oper) → S2 → S2 → Prop
  | [], st, st' => st' = st
  | (j, o) :: rest, st, st' => ∃ b r H', Wt ops o st.slots b ∧ (b = true → OpsC P st.heap o st.slots r H') ∧ (b = false → r = .c undef ∧ H' = st.heap) ∧ lowEq n st.heap H' ∧ T2 P ops n rest ⟨setV st.slots o.dst r, H'⟩ st'
theorem addr_ok {P : Program} {F : Fns R} {H : List E2} {sl : List V} {o : Oper} {k : V → Tree R} {res : R} (ha : addrB o.op = true) (h : (evNF P F H (opV sl) o.op k).run = some res) : ∃ r, (k r).run = some res ∧ ∀ H', OpsN P H' o sl r := by
  obtain ⟨op, ho⟩ : ∃ op, o.op = op := ⟨_, rfl⟩
  rw [ho] at ha h
  unfold addrB at ha
  split at ha
  · rename_i s x f
    unfold evNF evN at h
    simp only at h
    split at h
    · rename_i hpl
      unfold evN1 at h
      simp only at h
      obtain ⟨r, h1, h2⟩ := fieldAddrK_okA (o := o) (fun y hy => by rw [ho] at hy; exact Array.all_eq_true'.1 hpl y hy) ho h
      exact ⟨r, h1, fun H' n0 Bx w B η ρv _ inv he => h2 H' n0 Bx w B η ρv inv he⟩
    · cases h
  · cases ha
theorem evFr_ok {P : Program} {F : Fns R} (hF : FnsOK P F) {ops : Array Oper} {cl : List (Nat × Oper)} {H : List E2} : ∀ (l : List (Nat × Oper)) (sl : List V) (k : List V → Tree R) (res : R), (evFr P F ops cl H l sl k).run = some res → ∃ sl', (k sl').run = some res ∧ T1 P ops cl H l sl sl'
  | [], sl, k, res, h => ⟨sl, h, rfl⟩
  | (j, o) :: rest, sl, k, res, h => by
    unfold evFr at h
    obtain ⟨b, h1, hwant⟩ := wantK_ok h
    clear h
    cases b with
    | true =>
      simp only [if_true] at h1
      split at h1
      · rename_i hA
        obtain ⟨r, h2, h3⟩ := evNF_ok hF h1
        rw [forceL_eq] at h2
        obtain ⟨sl', h4, h5⟩ := evFr_ok hF rest _ k res h2
        exact ⟨sl', h4, true, r, hwant, fun _ => .inl ⟨hA, h3⟩, nofun, h5⟩
      · split at h1
        · rename_i hb
          obtain ⟨r, h2, h3⟩ := evNF_ok hF h1
          rw [forceL_eq] at h2
          obtain ⟨sl', h4, h5⟩ := evFr_ok hF rest _ k res h2
          exact ⟨sl', h4, true, r, hwant, fun _ => .inr (.inl ⟨fun x hx => Array.all_eq_true'.1 hb x hx, h3⟩), nofun, h5⟩
        · split at h1
          · rename_i hb
            obtain ⟨r, h2, h3⟩ := addr_ok hb h1
            rw [forceL_eq] at h2
            obtain ⟨sl', h4, h5⟩ := evFr_ok hF rest _ k res h2
            exact ⟨sl', h4, true, r, hwant, fun _ => .inr (.inr (.inl h3)), nofun, h5⟩
          · split at h1
            · rename_i hb
              obtain ⟨r, h2, h3⟩ := evNF_ok hF h1
              rw [forceL_eq] at h2
              obtain ⟨sl', h4, h5⟩ := evFr_ok hF rest _ k res h2
              exact ⟨sl', h4, true, r, hwant, fun _ => .inr (.inr (.inr ⟨hb.1, fun x hx => Array.all_eq_true'.1 hb.2 x hx, h3⟩)), nofun, h5⟩
            · cases h1
    | false =>
      simp only [Bool.false_eq_true, if_false] at h1
      rw [forceL_eq] at h1
      obtain ⟨sl', h4, h5⟩ := evFr_ok hF rest _ k res h1
      exact ⟨sl', h4, false, _, hwant, nofun, fun _ => rfl, h5⟩
theorem evChL_ok {P : Program} {Γ : Env R} (hF : FnsOK P Γ.fns) {C : CallI R} (hC : CallIOK P C) {mv : Bool × Bool} {ops : Array Oper} {n : Nat} : ∀ (l : List (Nat × Oper)) (st : S2) (k : S2 → Tree R) (res : R), (evChL P Γ C mv ops n l st k).run = some res → ∃ st', (k st').run = some res ∧ T2 P ops n l st st'
  | [], st, k, res, h => ⟨st, h, rfl⟩
  | (j, o) :: rest, st, k, res, h => by
    unfold evChL at h
    obtain ⟨b, h1, hwant⟩ := wantK_ok h
    clear h
    cases b with
    | true =>
      simp only [if_true] at h1
      split at h1
      · rename_i hk
        rw [evI_low hk] at h1
        obtain ⟨r, H', h2, h3⟩ := evI_okC hF hC h1
        split at h2
        · rename_i hlow
          rw [forceL_eq] at h2
          obtain ⟨st', h4, h5⟩ := evChL_ok hF hC rest _ k res h2
          exact ⟨st', h4, true, r, H', hwant, fun _ => h3, nofun, hlow, h5⟩
        · cases h2
      · cases h1
    | false =>
      simp only [Bool.false_eq_true, if_false] at h1
      rw [forceL_eq] at h1
      obtain ⟨st', h4, h5⟩ := evChL_ok hF hC rest _ k res h1
      exact ⟨st', h4, false, _, _, hwant, nofun, fun _ => ⟨rfl, rfl⟩, fun _ _ => rfl, h5⟩
theorem evCh_ok {P : Program} {Γ : Env R} (hF : FnsOK P Γ.fns) {C : CallI R} (hC : CallIOK P C) {mv : Bool × Bool} {ops : Array Oper} (l : List (Nat × Oper)) (st : S2) (k : S2 → Tree R) (res : R) (h : (evCh P Γ C mv ops l st k).run = some res) : ∃ st', (k st').run = some res ∧ T2 P ops (lowN l st.heap) l st st' := evChL_ok hF hC l st k res h
/-! ### What the canonical run leaves in each slot -/
theorem getD_setV {sl : List V} {d : Option Tmp} {r : V} {t : Nat} (h : d ≠ some t) : (setV sl d r).getD t .any = sl.getD t .any := by
  cases d with
  | none => rfl
  | some u =>
    have : u ≠ t := fun e => h (by rw [e])
    simp [setV, List.getD_eq_getElem?_getD, List.getElem?_set_ne this]
theorem length_setV (sl : List V) (d : Option Tmp) (r : V) : (setV sl d r).length = sl.length := by cases d <;> simp [setV]
variable {P : Program} {ops : Array Oper} {cl : List (Nat × Oper)} {H : List E2}
theorem T1.keep : ∀ {l : List (Nat × Oper)} {sl sl' : List V}, T1 P ops cl H l sl sl' → sl'.length = sl.length ∧ ∀ t, (∀ p ∈ l, p.2.dst ≠ some t) → sl'.getD t .any = sl.getD t .any
  | [], sl, sl', h => by
    have h : sl' = sl := h
    subst h; exact ⟨rfl, fun _ _ => rfl⟩
  | (j, o) :: rest, sl, sl', h => by
    obtain ⟨b, r, _, _, _, h5⟩ := h
    obtain ⟨k1, k2⟩ := T1.keep h5
    exact ⟨by rw [k1, length_setV], fun t ht => by rw [k2 t (fun p hp => ht p (List.mem_cons_of_mem _ hp)), getD_setV (ht (j, o) List.mem_cons_self)]⟩
theorem T2.low {n : Nat} : ∀ {l : List (Nat × Oper)} {st st' : S2}, T2 P ops n l st st' → lowEq n st.heap st'.heap
  | [], st, st', h => by
    have h : st' = st := h
    subst h; exact fun _ _ => rfl
  | (j, o) :: rest, st, st', h => by
    obtain ⟨b, r, H', _, _, _, h4, h5⟩ := h
    exact fun i hi => (T2.low h5 i hi).trans (h4 i hi)
theorem T2.keep {n : Nat} : ∀ {l : List (Nat × Oper)} {st st' : S2}, T2 P ops n l st st' → st'.slots.length = st.slots.length ∧ ∀ t, (∀ p ∈ l, p.2.dst ≠ some t) → st'.slots.getD t .any = st.slots.getD t .any
  | [], st, st', h => by
    have h : st' = st := h
    subst h; exact ⟨rfl, fun _ _ => rfl⟩
  | (j, o) :: rest, st, st', h => by
    obtain ⟨b, r, H', _, _, _, _, h5⟩ := h
    obtain ⟨k1, k2⟩ := T2.keep h5
    exact ⟨by rw [k1, length_setV], fun t ht => by rw [k2 t (fun p hp => ht p (List.mem_cons_of_mem _ hp)), getD_setV (ht (j, o) List.mem_cons_self)]⟩
theorem T1.cut : ∀ {l1 l2 : List (Nat × Oper)} {sl sl' : List V}, T1 P ops cl H (l1 ++ l2) sl sl' → ∃ m, T1 P ops cl H l1 sl m ∧ T1 P ops cl H l2 m sl'
  | [], l2, sl, sl', h => ⟨sl, rfl, h⟩
  | (j, o) :: l1, l2, sl, sl', h => by
    obtain ⟨b, r, h2, h3, h4, h5⟩ := h
    obtain ⟨m, k1, k2⟩ := T1.cut h5
    exact ⟨m, ⟨b, r, h2, h3, h4, k1⟩, k2⟩
theorem T2.cut {n : Nat} : ∀ {l1 l2 : List (Nat × Oper)} {st st' : S2}, T2 P ops n (l1 ++ l2) st st' → ∃ m, T2 P ops n l1 st m ∧ T2 P ops n l2 m st'
  | [], l2, st, st', h => ⟨st, rfl, h⟩
  | (j, o) :: l1, l2, st, st', h => by
    obtain ⟨b, r, H', h2, h3, h4, h4', h5⟩ := h
    obtain ⟨m, k1, k2⟩ := T2.cut h5
    exact ⟨m, ⟨b, r, H', h2, h3, h4, h4', k1⟩, k2⟩
theorem T2.snoc {n : Nat} : ∀ {l1 : List (Nat × Oper)} {j : Nat} {o : Oper} {st m st' : S2}, T2 P ops n l1 st m → T2 P ops n [(j, o)] m st' → T2 P ops n (l1 ++ [(j, o)]) st st'
  | [], j, o, st, m, st', h1, h2 => by
    have h1 : m = st := h1
    subst h1; exact h2
  | (i, p) :: l1, j, o, st, m, st', h1, h2 => by
    obtain ⟨b, r, H', a1, a2, a3, a3', a4⟩ := h1
    exact ⟨b, r, H', a1, a2, a3, a3', T2.snoc a4 h2⟩
/-! ### In whatever order -/
def chainB2 (ops : Array Oper) : List (Nat × Oper) → Bool
  | c :: c' :: r => ancB ops ops.size c'.1 c.1 && chainB2 ops (c' :: r)
  | _ => true
def depB (ops : Array Oper) (fs : List Bool) : Bool :=
  (List.range ops.size).all fun j => (List.range ops.size).all fun i => match ops[i]?, ops[j]? with
    | some oi, some oj => (match oi.dst with
      | some t => !(oj.looksAt ops).contains t || i == j || (if fs.getD j false = true then (fs.getD i false || decide (j < i)) else (!fs.getD i false || decide (i < j)))
      | none => true)
    | _, _ => true
def frontsA (inl : FuncId → Bool) (ops : Array Oper) : List Bool := frontsOf inl ops ops.toList []
def drawB (inl : FuncId → Bool) (ops : Array Oper) : Bool :=
  Region.noSelect ops && backB ops && onceB ops ops.size && dataB ops ops.size && chainB2 ops (clR 0 ops.toList (frontsA inl ops)) && depB ops (frontsA inl ops) && ((frontsA inl ops).length == ops.size)
theorem chainB2_spec : ∀ (l : List (Nat × Oper)), chainB2 ops l = true → ∀ (m : Nat) p q, l[m]? = some p → l[m + 1]? = some q → ancB ops ops.size q.1 p.1 = true
  | [], _, m, p, q, h1, h2 => by simp at h1
  | [c], _, m, p, q, h1, h2 => by simp at h2
  | c :: c' :: r, h, m, p, q, h1, h2 => by
    simp only [chainB2, Bool.and_eq_true] at h
    cases m with
    | zero => simp at h1 h2; subst h1 h2; exact h.1
    | succ m => exact chainB2_spec (c' :: r) h.2 m p q (by simpa using h1) (by simpa using h2)
theorem depB_spec {fs : List Bool} (h : depB ops fs = true) {i j : Nat} {oi oj : Oper} {t : Tmp} (hi : ops[i]? = some oi) (hj : ops[j]? = some oj) (hd : oi.dst = some t) (hl : t ∈ oj.looksAt ops) (hne : i ≠ j) :
    if fs.getD j false = true then (fs.getD i false = true ∨ j < i) else (fs.getD i false = false ∨ i < j) := by
  have := List.all_eq_true.1 (List.all_eq_true.1 h j (List.mem_range.2 (Array.getElem?_eq_some_iff.1 hj).1)) i (List.mem_range.2 (Array.getElem?_eq_some_iff.1 hi).1)
  simp only [hi, hj, hd, Bool.or_eq_true, beq_iff_eq, Bool.not_eq_true', List.contains_eq_mem, decide_eq_false_iff_not] at this
  rcases this with (h | h) | h
  · exact absurd hl h
  · exact absurd h hne
  · cases hf : fs.getD j false with
    | true => rw [hf] at h; simpa using h
    | false => rw [hf] at h; simpa using h
/-- Whoever is ready has all ahead of it listed. -/
theorem ready_anc {listed : Array Bool} (hcl : ∀ j oj, ops[j]? = some oj → listed.getD j false = true → ∀ e ∈ oj.after, Region.binds .any e = true → listed.getD e.on false = true) {j : Nat} {oj : Oper} (ho : ops[j]? = some oj) (hall : ∀ e ∈ oj.after, Region.binds .any e = true → listed.getD e.on false = true) {f i : Nat} (h : ancB ops f j i = true) : listed.getD i false = true := by
  cases f with
  | zero => cases h
  | succ f =>
    unfold ancB at h
    rw [ho] at h
    obtain ⟨e, he, hb⟩ := Array.any_eq_true'.1 h
    simp only [Bool.and_eq_true, Bool.or_eq_true, beq_iff_eq] at hb
    have h1 := hall e he hb.1
    rcases hb.2 with rfl | h2
    · exact h1
    · exact ancB_spec hcl f e.on i h2 h1
theorem mem_split {α : Type} {x : α} : ∀ {l : List α}, x ∈ l → ∃ l1 l2, l = l1 ++ x :: l2
  | y :: l, h => by
    rcases List.mem_cons.1 h with rfl | h
    · exact ⟨[], l, rfl⟩
    · obtain ⟨l1, l2, e⟩ := mem_split h
      exact ⟨y :: l1, l2, by rw [e]; rfl⟩
/-- What holds, whichever have come up. -/
def DInv (P : Program) (ops : Array Oper) (cl : List (Nat × Oper)) (sl0 sl1 : List V) (H0 : List E2) (st2 : S2) (n0 m0 : Nat) (Bx : List Nat) (ds : List Deferred) (w0 : World) (B0 : List Nat) (η0 : List Value) (listed : Array Bool) (a : Act) (w : World) : Prop :=
  ∃ (k : Nat) (st : S2) (B : List Nat) (η : List Value), T2 P ops (lowN cl H0) (cl.take k) ⟨sl1, H0⟩ st ∧ T2 P ops (lowN cl H0) (cl.drop k) st st2 ∧ k ≤ cl.length ∧ (∀ (m : Nat) p, cl[m]? = some p → (listed.getD p.1 false = true ↔ m < k)) ∧
    a.defers = ds ∧ a.tmps.size = sl0.length ∧ Inv n0 Bx w B η (st.heap.map exE) ∧ Goes n0 m0 w0 B0 η0 w B η ∧
    ∀ t, ((∃ i, (ops[i]?).bind (·.dst) = some t ∧ listed.getD i false = true) → Rel2 w B η (st2.slots.getD t .any) (a.tmps.getD t undef) ∧ FreshV n0 (ex (st2.slots.getD t .any)) (a.tmps.getD t undef)) ∧
      ((∀ i, (ops[i]?).bind (·.dst) = some t → listed.getD i false = false) → Rel2 w B η (sl0.getD t .any) (a.tmps.getD t undef) ∧ FreshV n0 (ex (sl0.getD t .any)) (a.tmps.getD t undef))
end
section
variable {R : Type} {P : Program} {ops : Array Oper}
theorem once' (honce : onceB ops ops.size = true) {i j : Nat} {t : Tmp} (h1 : (ops[i]?).bind (·.dst) = some t) (h2 : (ops[j]?).bind (·.dst) = some t) : i = j := by
  have s1 : i < ops.size := by obtain ⟨o, ho, _⟩ := Option.bind_eq_some_iff.1 h1; exact (Array.getElem?_eq_some_iff.1 ho).1
  have s2 : j < ops.size := by obtain ⟨o, ho, _⟩ := Option.bind_eq_some_iff.1 h2; exact (Array.getElem?_eq_some_iff.1 ho).1
  exact onceB_spec honce s1 s2 h1 h2
theorem put_getD (a : Act) (d : Option Tmp) (v : Value) (t : Nat) (h : d ≠ some t) : (a.put d v).tmps.getD t undef = a.tmps.getD t undef := by
  cases d with
  | none => rfl
  | some u =>
    have hne : u ≠ t := fun e => h (by rw [e])
    simp [Act.put, Array.getD_eq_getD_getElem?, Array.getElem?_setIfInBounds_ne hne]
theorem put_size (a : Act) (d : Option Tmp) (v : Value) : (a.put d v).tmps.size = a.tmps.size := by cases d <;> simp [Act.put]
theorem put_defers' (a : Act) (d : Option Tmp) (v : Value) : (a.put d v).defers = a.defers := by cases d <;> rfl
/-- The slot that an operation fills: what stands in it. -/
theorem put_own {w : World} {B : List Nat} {η : List Value} {n0 : Nat} {a : Act} {sl : List V} {d : Tmp} {v : Value} {r : V} (hsz : a.tmps.size = sl.length) (hr : Rel2 w B η r v) (hf : FreshV n0 (ex r) v) {x : V} (hx : d < sl.length → x = r) (hx2 : sl.length ≤ d → x = .any) : Rel2 w B η x ((a.put (some d) v).tmps.getD d undef) ∧ FreshV n0 (ex x) ((a.put (some d) v).tmps.getD d undef) := by
  rcases Nat.lt_or_ge d sl.length with h | h
  · rw [hx h]
    have : (a.put (some d) v).tmps.getD d undef = v := by
      simp [Act.put, Array.getD_eq_getD_getElem?, Array.getElem?_setIfInBounds_self_of_lt (show d < a.tmps.size by rw [hsz]; exact h)]
    rw [this]; exact ⟨hr, hf⟩
  · rw [hx2 h]; exact ⟨trivial, fun h => by cases h⟩
theorem getD_over {l : List V} {t : Nat} (h : l.length ≤ t) : l.getD t .any = .any := by
  rw [List.getD_eq_getElem?_getD, List.getElem?_eq_none h]; rfl
theorem setV_own {sl : List V} {d : Tmp} {r : V} (h : d < sl.length) : (setV sl (some d) r).getD d .any = r := by
  simp [setV, List.getD_eq_getElem?_getD, h]
theorem dinv_step {fs : List Bool} {cl fl : List (Nat × Oper)} (hcl : cl = clR 0 ops.toList fs) (hfl : fl = flR 0 ops.toList fs) (hsel : Region.noSelect ops = true) (hback : backB ops = true) (honce : onceB ops ops.size = true) (hdata : dataB ops ops.size = true) (hchain : chainB2 ops cl = true) (hdep : depB ops fs = true) (hfsl : fs.length = ops.size)
    {sl0 sl1 : List V} {H0 : List E2} {st2 : S2} {n0 m0 : Nat} {Bx : List Nat} {ds : List Deferred} {w0 : World} {B0 : List Nat} {η0 : List Value} {Q : Exit → Act → World → Prop}
    (h1 : T1 P ops cl H0 fl sl0 sl1) (h2 : T2 P ops (lowN cl H0) cl ⟨sl1, H0⟩ st2) :
    ∀ (listed : Array Bool) (a : Act) (w : World) (j : Nat), HeadInv .any ops ops.size listed → DInv P ops cl sl0 sl1 H0 st2 n0 m0 Bx ds w0 B0 η0 listed a w → j ∈ Region.ready .any ops listed → ∀ K : Act → World → Prop, (∀ a' w', DInv P ops cl sl0 sl1 H0 st2 n0 m0 Bx ds w0 B0 η0 (listed.setIfInBounds j true) a' w' → K a' w') → wpOp P ops Q j K a w := by
  intro listed a w j hi inv hj K hK
  obtain ⟨hjun, oj, hoj, hall⟩ := mem_ready.1 hj
  have hjs : j < ops.size := (Array.getElem?_eq_some_iff.1 hoj).1
  have hjl : j < listed.size := by rw [hi.size]; exact hjs
  have hjunF : listed.getD j false = false := by simp [hjl] at hjun ⊢; exact hjun
  obtain ⟨k, st, B, η, ht1, ht2, hk, hprog, hdef, hsz, hinv, hgo, hslot⟩ := inv
  have hfsj : ∀ i, i < ops.size → ∃ b, fs[i]? = some b := fun i hi => ⟨_, List.getElem?_eq_getElem (by rw [hfsl]; exact hi)⟩
  have hfsd : ∀ i b, fs[i]? = some b → fs.getD i false = b := fun i b h => by rw [List.getD_eq_getElem?_getD, h]; rfl
  have inF : ∀ i o, (i, o) ∈ fl ↔ ops[i]? = some o ∧ fs[i]? = some true := fun i o => by rw [hfl, flR_mem]; simp
  have inC : ∀ i o, (i, o) ∈ cl ↔ ops[i]? = some o ∧ fs[i]? = some false := fun i o => by rw [hcl, clR_mem]; simp
  have hlen1 := h1.keep.1
  have hlen2 := h2.keep.1
  simp only at hlen2
  -- who writes t, and is it listed?
  have wr : ∀ t ∈ oj.looksAt ops, ∀ (i : Nat) (oi : Oper), ops[i]? = some oi → oi.dst = some t → i = j ∨ (i < j ∧ listed.getD i false = true) ∨ (j < i ∧ listed.getD i false = false) := fun t ht i oi hoi hd => by
    rcases dataB_spec hdata (Array.getElem?_eq_some_iff.1 hoi).1 hjs (by rw [hoi]; exact hd) hoj ht with h | ⟨h1, h2⟩ | ⟨h1, h2⟩
    · exact .inl h
    · obtain ⟨o', ho', e, he, hb, hon⟩ := Region.waitsFor_spec h2
      have : o' = oj := by rw [hoj] at ho'; exact (Option.some.inj ho').symm
      subst this
      exact .inr (.inl ⟨h1, by rw [← hon]; exact hall e he hb⟩)
    · refine .inr (.inr ⟨h1, ?_⟩)
      cases hli : listed.getD i false with
      | false => rfl
      | true => have := ancB_spec hi.closed _ i j h2 hli; rw [hjunF] at this; cases this
  -- what is in a slot of the end, if it is not written by the others
  have end1 : ∀ (t : Tmp), (∀ (i : Nat) (o : Oper), (i, o) ∈ cl → o.dst ≠ some t) → st2.slots.getD t .any = sl1.getD t .any := fun t h => h2.keep.2 t (fun p hp => h p.1 p.2 hp)
  have ini1 : ∀ (t : Tmp), (∀ (i : Nat) (o : Oper), (i, o) ∈ fl → o.dst ≠ some t) → sl1.getD t .any = sl0.getD t .any := fun t h => h1.keep.2 t (fun p hp => h p.1 p.2 hp)
  have noC : ∀ (t : Tmp) (i : Nat) (oi : Oper), ops[i]? = some oi → oi.dst = some t → fs[i]? = some true → ∀ i' o', (i', o') ∈ cl → o'.dst ≠ some t := fun t i oi hoi hd hf i' o' hm hd' => by
    obtain ⟨q1, q2⟩ := (inC i' o').1 hm
    have := once' honce (show (ops[i]?).bind (·.dst) = some t by rw [hoi]; exact hd) (show (ops[i']?).bind (·.dst) = some t by rw [q1]; exact hd')
    subst this; rw [hf] at q2; cases q2
  have noF : ∀ (t : Tmp) (i : Nat) (oi : Oper), ops[i]? = some oi → oi.dst = some t → fs[i]? = some false → ∀ i' o', (i', o') ∈ fl → o'.dst ≠ some t := fun t i oi hoi hd hf i' o' hm hd' => by
    obtain ⟨q1, q2⟩ := (inF i' o').1 hm
    have := once' honce (show (ops[i]?).bind (·.dst) = some t by rw [hoi]; exact hd) (show (ops[i']?).bind (·.dst) = some t by rw [q1]; exact hd')
    subst this; rw [hf] at q2; cases q2
  have noW : ∀ (t : Tmp), (¬ ∃ (i : Nat) (oi : Oper), ops[i]? = some oi ∧ oi.dst = some t) → (∀ (i : Nat) (o : Oper), (i, o) ∈ fl → o.dst ≠ some t) ∧ (∀ (i : Nat) (o : Oper), (i, o) ∈ cl → o.dst ≠ some t) := fun t h =>
    ⟨fun i o hm hd => h ⟨i, o, ((inF i o).1 hm).1, hd⟩, fun i o hm hd => h ⟨i, o, ((inC i o).1 hm).1, hd⟩⟩
  have hnoT : ∀ (t : Tmp), (¬ ∃ (i : Nat) (oi : Oper), ops[i]? = some oi ∧ oi.dst = some t) → ∀ i, (ops[i]?).bind (·.dst) = some t → listed.getD i false = false := fun t h i hd => by
    obtain ⟨o, ho, hd⟩ := Option.bind_eq_some_iff.1 hd
    exact absurd ⟨i, o, ho, hd⟩ h
  -- if the slots that it looks at read as slc does, and it does as said, the rest is as said
  have fin : ∀ (st' : S2) (slc : List V) (b : Bool) (r : V) (k' : Nat), slc.length = sl0.length → Wt ops oj slc b →
      (∀ t ∈ oj.looksAt ops, Rel2 w B η (slc.getD t .any) (a.tmps.getD t undef) ∧ FreshV n0 (ex (slc.getD t .any)) (a.tmps.getD t undef)) →
      (b = true → (∀ x ∈ oj.op.operands, Rel2 w B η (opV slc x) (a.eval x) ∧ FreshV n0 (ex (opV slc x)) (a.eval x)) → OpS2 P n0 Bx w a.eval oj B η r st'.heap) → (b = false → r = .c undef ∧ st'.heap = st.heap) →
      T2 P ops (lowN cl H0) (cl.take k') ⟨sl1, H0⟩ st' → T2 P ops (lowN cl H0) (cl.drop k') st' st2 → k' ≤ cl.length → (∀ (m : Nat) p, cl[m]? = some p → ((listed.setIfInBounds j true).getD p.1 false = true ↔ m < k')) →
      (∀ t, oj.dst = some t → t < sl0.length → st2.slots.getD t .any = r) → wpOp P ops Q j K a w := by
    intro st' slc b r k' hslc hwt hlook hdo hno htk htd hkl hpr hown
    have heval : ∀ x ∈ oj.op.operands, Rel2 w B η (opV slc x) (a.eval x) ∧ FreshV n0 (ex (opV slc x)) (a.eval x) := fun x hx => by
      cases x with
      | tmp t => exact hlook t (List.mem_append_left _ (List.mem_filterMap.2 ⟨.tmp t, by simpa using hx, rfl⟩))
      | const v =>
        refine ⟨Rel2.of (constV_plain v) ?_, fun h => ?_⟩
        · show Rel w B η (ex (constV v)) v
          rw [constV_ex]; exact .c _ _
        · simp only [opV, constV_ex, isFresh] at h; cases h
      | global g => exact opG_rel hinv.base.2 g
      | func f => exact ⟨⟨[], rfl, rfl, fun i c h => by simp at h⟩, fun h => by cases h⟩
    have hw := hwt w B η a.tmps (by rw [hslc, hsz]) (fun d hd => (hlook d (by
      unfold guardSlot at hd
      split at hd
      · rename_i g want hg
        exact List.mem_append_right _ (by simp [hg, hd])
      · cases hd)).1)
    -- the invariant behind it
    have next : ∀ v w' B' η', On B w w' → (∀ b ∈ B', b ∈ B ∨ w.heap.size ≤ b) → (∀ (id : Nat) v, η[id]? = some v → η'[id]? = some v) → Below n0 w w' → Inv n0 Bx w' B' η' (st'.heap.map exE) → Rel2 w' B' η' r v → FreshV n0 (ex r) v → K (a.put oj.dst v) w' := by
      intro v w' B' η' g1 g2 g3 g4 g5 g6 g7
      refine hK _ _ ⟨k', st', B', η', htk, htd, hkl, hpr, by rw [put_defers']; exact hdef, by rw [put_size]; exact hsz, g5, hgo.trans ⟨g1, g2, fun id v _ hv => g3 id v hv, g4⟩, fun t => ?_⟩
      by_cases hdt : oj.dst = some t
      · refine ⟨fun _ => ?_, fun hno => ?_⟩
        · rw [hdt]
          exact put_own (sl := sl0) hsz g6 g7 (fun h => hown t hdt h) (fun h => getD_over (by rw [hlen2, hlen1]; exact h))
        · have := hno j (by rw [hoj]; exact hdt)
          simp [hjl] at this
      · rw [put_getD a oj.dst v t hdt]
        have hne : ∀ i, (ops[i]?).bind (·.dst) = some t → (listed.setIfInBounds j true).getD i false = listed.getD i false := fun i hd => by
          refine getD_set_ne false (fun e => hdt ?_)
          subst e
          rw [hoj] at hd; exact hd
        refine ⟨fun ⟨i, hd, hli⟩ => ?_, fun hno => ?_⟩
        · have := (hslot t).1 ⟨i, hd, by rw [← hne i hd]; exact hli⟩
          exact ⟨this.1.on g1 g2 g3, this.2⟩
        · have := (hslot t).2 (fun i hd => by rw [← hne i hd]; exact hno i hd)
          exact ⟨this.1.on g1 g2 g3, this.2⟩
    unfold wpOp
    simp only [hoj]
    rw [hw]
    cases b with
    | true =>
      rw [if_pos rfl]
      exact .inl (val_wp (hdo rfl heval _ next))
    | false =>
      obtain ⟨rfl, hh⟩ := hno rfl
      rw [if_neg (by simp)]
      exact next undef w B η (On.refl B w) (fun _ h => .inl h) (fun _ _ h => h) (Below.refl _ _) (by rw [hh]; exact hinv) (Rel.c _ _) (fun h => by cases h)
  obtain ⟨bj, hbj⟩ := hfsj j hjs
  cases bj with
  | true =>
    -- one in front
    obtain ⟨l1, l2, hsp⟩ := mem_split ((inF j oj).2 ⟨hoj, hbj⟩)
    have hpw := flR_pair ops.toList fs 0
    rw [← hfl, hsp] at hpw
    obtain ⟨pw1, pw2, pw3⟩ := List.pairwise_append.1 hpw
    have pl1 : ∀ i o, (i, o) ∈ l1 → i < j := fun i o hm => pw3 (i, o) hm (j, oj) List.mem_cons_self
    have pl2 : ∀ i o, (i, o) ∈ l2 → j < i := fun i o hm => (List.pairwise_cons.1 pw2).1 (i, o) hm
    rw [hsp] at h1
    obtain ⟨slc, q1, b, r, q2, q3, q4, q5⟩ := h1.cut
    have hmemF : ∀ i o, (i, o) ∈ fl → (i, o) ∈ l1 ∨ (i, o) = (j, oj) ∨ (i, o) ∈ l2 := fun i o hm => by rw [hsp] at hm; simpa using hm
    have hlook : ∀ t ∈ oj.looksAt ops, Rel2 w B η (slc.getD t .any) (a.tmps.getD t undef) ∧ FreshV n0 (ex (slc.getD t .any)) (a.tmps.getD t undef) := fun t ht => by
      by_cases hw : ∃ (i : Nat) (oi : Oper), ops[i]? = some oi ∧ oi.dst = some t
      · obtain ⟨i, oi, hoi, hd⟩ := hw
        have uniq : ∀ i' o', ops[i']? = some o' → o'.dst = some t → i' = i := fun i' o' h h' => once' honce (show (ops[i']?).bind (·.dst) = some t by rw [h]; exact h') (show (ops[i]?).bind (·.dst) = some t by rw [hoi]; exact hd)
        have initial : listed.getD i false = false → (∀ p ∈ l1, p.2.dst ≠ some t) → Rel2 w B η (slc.getD t .any) (a.tmps.getD t undef) ∧ FreshV n0 (ex (slc.getD t .any)) (a.tmps.getD t undef) := fun hun hno => by
          rw [q1.keep.2 t hno]
          exact (hslot t).2 (fun i' hd' => by
            obtain ⟨o', ho', hd'⟩ := Option.bind_eq_some_iff.1 hd'
            rw [uniq i' o' ho' hd']; exact hun)
        have notin : ¬ i < j → ∀ p ∈ l1, p.2.dst ≠ some t := fun hlt p hp hd' => by
          have hpf : p ∈ fl := by rw [hsp]; simp [hp]
          have := uniq p.1 p.2 ((inF p.1 p.2).1 hpf).1 hd'
          have h3 := pl1 p.1 p.2 hp
          omega
        rcases wr t ht i oi hoi hd with h | ⟨hlt, hli⟩ | ⟨hlt, hun⟩
        · subst h; exact initial hjunF (notin (by omega))
        · have hdp := depB_spec hdep hoi hoj hd ht (by omega)
          rw [hfsd j true hbj, if_pos rfl] at hdp
          obtain ⟨bi, hbi⟩ := hfsj i (Array.getElem?_eq_some_iff.1 hoi).1
          rw [hfsd i bi hbi] at hdp
          have hbi' : fs[i]? = some true := by
            rcases hdp with h | h
            · rw [hbi, h]
            · omega
          have hE : slc.getD t .any = st2.slots.getD t .any := by
            rw [end1 t (noC t i oi hoi hd hbi')]
            refine (T1.keep (l := (j, oj) :: l2) ⟨b, r, q2, q3, q4, q5⟩).2 t (fun p hp hd' => ?_) |>.symm
            have hpf : p ∈ fl := by rw [hsp]; exact List.mem_append_right _ hp
            have h4 := uniq p.1 p.2 ((inF p.1 p.2).1 hpf).1 hd'
            rcases List.mem_cons.1 hp with h | h
            · rw [h] at h4; simp only at h4; omega
            · have := pl2 p.1 p.2 h; omega
          rw [hE]
          exact (hslot t).1 ⟨i, by rw [hoi]; exact hd, hli⟩
        · exact initial hun (notin (by omega))
      · have := noW t hw
        rw [q1.keep.2 t (fun p hp => this.1 p.1 p.2 (by rw [hsp]; simp [hp]))]
        exact (hslot t).2 (hnoT t hw)
    refine fin st slc b r k q1.keep.1 q2 hlook (fun hb he => ?_) (fun hb => ⟨q4 hb, rfl⟩) ht1 ht2 hk (fun m p hp => ?_) (fun t hd htl => ?_)
    · have toS2 : OpK P n0 w a.eval oj B η r → OpS2 P n0 Bx w a.eval oj B η r st.heap := fun h N hN =>
        h N (fun v w' g hr hf => hN v w' B η g.on (fun _ h => .inl h) (fun _ _ h => h) (g.below hinv.base.1) (hinv.gk g) hr hf)
      rcases q3 hb with ⟨hA, hop⟩ | ⟨hbare, hop⟩ | hop | ⟨hlow, hlv, hop⟩
      · -- all that writes waits for it
        have hk0 : k = 0 := by
          cases hcc : cl with
          | nil => rw [hcc] at hk; simpa using hk
          | cons p rest =>
            obtain ⟨c, co⟩ := p
            rw [hcc] at hA
            rcases Nat.eq_zero_or_pos k with h | h
            · exact h
            · have h5 := (hprog 0 (c, co) (by rw [hcc]; rfl)).2 h
              have h6 := ancB_spec hi.closed _ c j hA h5
              rw [hjunF] at h6; cases h6
        subst hk0
        have hst : st = ⟨sl1, H0⟩ := ht1
        rw [hst] at hinv
        exact toS2 (hop n0 Bx w B η a.eval (fun f => rfl) hinv he)
      rotate_left
      · exact toS2 (hop st.heap n0 Bx w B η a.eval (fun f => rfl) hinv he)
      · have hkeep := ht1.low
        rw [hlow] at hkeep
        have hle : H0.length ≤ η.length := by
          rw [hinv.len, List.length_map]
          rcases Nat.eq_zero_or_pos H0.length with h | h
          · omega
          · have h5 := hkeep (H0.length - 1) (by omega)
            rw [show (⟨sl1, H0⟩ : S2).heap = H0 from rfl, List.getElem?_eq_getElem (show H0.length - 1 < H0.length by omega)] at h5
            have := (List.getElem?_eq_some_iff.1 h5).1
            omega
        have hg : ∀ id, id < H0.length → (η.take H0.length).getD id undef = η.getD id undef := fun id hid => by
          simp [List.getD_eq_getElem?_getD, List.getElem?_take, hid]
        have hent : ∀ id e, ((H0.map maskE).map exE)[id]? = some e → id < H0.length ∧ ((st.heap.map exE)[id]? = some e ∨ e = .dead) ∧ ∀ cells T, e = .box cells T → cells.all AV.imm0 = true := fun id e he => by
          rw [List.getElem?_map, List.getElem?_map, Option.map_map, Option.map_eq_some_iff] at he
          obtain ⟨e0, h5, rfl⟩ := he
          have hid := (List.getElem?_eq_some_iff.1 h5).1
          have h6 := hkeep id hid
          rw [show (⟨sl1, H0⟩ : S2).heap = H0 from rfl, h5] at h6
          refine ⟨hid, ?_⟩
          cases e0 with
          | dead => exact ⟨.inr rfl, fun cells T h => by cases h⟩
          | own d l E => exact ⟨.inr rfl, fun cells T h => by cases h⟩
          | itr s p => exact ⟨.inr rfl, fun cells T h => by cases h⟩
          | box l T =>
            by_cases hl : l.all immV = true
            · have hm : exE (maskE (.box l T)) = exE (.box l T) := by simp only [maskE, hl, if_true]
              refine ⟨.inl ?_, fun cells T' h => ?_⟩
              · show (st.heap.map exE)[id]? = some (exE (maskE (.box l T)))
                rw [hm, List.getElem?_map, h6]; rfl
              · have h : exE (maskE (.box l T)) = _ := h
                rw [hm] at h
                injection h with h7 h8
                rw [← h7]; exact immV_ok l hl
            · have hm : exE (maskE (.box l T)) = .dead := by simp only [maskE, hl]; rfl
              refine ⟨.inr hm, fun cells T' h => ?_⟩
              have h : exE (maskE (.box l T)) = _ := h
              rw [hm] at h; cases h
        have hinv0 : Inv n0 Bx w B (η.take H0.length) ((H0.map maskE).map exE) := by
          refine ⟨by simp; omega, hinv.base, hinv.sub, hinv.lt, fun id e he => ?_, fun i j ei ej hij hi' hj' li lj b hb => ?_⟩
          · obtain ⟨hid, h5, h6⟩ := hent id e he
            rw [hg id hid]
            rcases h5 with h5 | rfl
            · have h7 := hinv.ent id e h5
              cases e with
              | dead => trivial
              | box cells T =>
                obtain ⟨b, us, g1, g2, g3, g4, g5, g6⟩ := h7
                exact ⟨b, us, g1, g2, g3, g4, g5, g6.1, fun i x hx => by
                  obtain ⟨u, e1, e2⟩ := g6.2 i x hx
                  exact ⟨u, e1, e2.bare0 (List.all_eq_true.1 (h6 cells T rfl) x (List.mem_of_getElem? hx))⟩⟩
              | own cells E k =>
                exfalso
                rw [List.getElem?_map, List.getElem?_map, Option.map_map, Option.map_eq_some_iff] at he
                obtain ⟨e0, _, h9⟩ := he
                cases e0 with
                | dead => cases h9
                | own d l E => cases h9
                | itr s p => cases h9
                | box l T =>
                  simp only [Function.comp, maskE] at h9
                  split at h9 <;> cases h9
              | itr s p =>
                exfalso
                rw [List.getElem?_map, List.getElem?_map, Option.map_map, Option.map_eq_some_iff] at he
                obtain ⟨e0, _, h9⟩ := he
                cases e0 with
                | dead => cases h9
                | own d l E => cases h9
                | itr s p => cases h9
                | box l T =>
                  simp only [Function.comp, maskE] at h9
                  split at h9 <;> cases h9
            · trivial
          · obtain ⟨a1, a2, _⟩ := hent i ei hi'
            obtain ⟨b1, b2, _⟩ := hent j ej hj'
            rcases a2 with a2 | rfl
            · rcases b2 with b2 | rfl
              · rw [hg j b1]
                rw [hg i a1] at hb
                exact hinv.sep i j ei ej hij a2 b2 li lj b hb
              · cases lj
            · cases li
        have hsub : ∀ (id : Nat) v, (η.take H0.length)[id]? = some v → η[id]? = some v := fun id v hv => by
          rw [List.getElem?_take] at hv
          split at hv
          · exact hv
          · cases hv
        have hget : ∀ (id : Nat) v, id < H0.length → η[id]? = some v → (η.take H0.length)[id]? = some v := fun id v hid hv => by
          rw [List.getElem?_take, if_pos hid]; exact hv
        have hrel : ∀ (x : V) (v : Value), lowV H0.length x = true → Rel2 w B η x v → Rel2 w B (η.take H0.length) x v := fun x v hx hr => by
          unfold lowV at hx
          split at hx
          · have hr0 : Rel w B η (.box _ _) v := hr
            cases hr0 with
            | box _ _ _ b h => exact Rel.box _ _ _ b (hget _ _ (by simpa using hx) h)
          · have hr0 : Rel w B η (.box _ _) v := hr
            cases hr0 with
            | box _ _ _ b h => exact Rel.box _ _ _ b (hget _ _ (by simpa using hx) h)
          · exact bareV_rel hx hr
        refine toS2 fun N hN => hop n0 Bx w B (η.take H0.length) a.eval (fun f => rfl) hinv0 (fun x hx => ⟨hrel _ _ (hlv x hx) (he x hx).1, (he x hx).2⟩) N (fun v w' g hr hf => hN v w' g (hr.on (On.refl B w') (fun _ h => .inl h) hsub) hf)
      rotate_left
      · have hinv0 : Inv n0 Bx w B [] (([] : List E2).map exE) := ⟨rfl, hinv.base, hinv.sub, hinv.lt, fun id e h => by simp at h, fun i j ei ej _ h => by simp at h⟩
        refine toS2 fun N hN => hop n0 Bx w B [] a.eval (fun f => rfl) hinv0 (fun x hx => ⟨bareV_rel (hbare x hx) (he x hx).1, (he x hx).2⟩) N (fun v w' g hr hf => hN v w' g (hr.on (On.refl B w') (fun _ h => .inl h) (fun id v h => by simp at h)) hf)
    · have hmc := List.mem_of_getElem? hp
      have hne : j ≠ p.1 := fun e => by
        have := ((inC p.1 p.2).1 hmc).2
        rw [← e, hbj] at this; cases this
      rw [getD_set_ne false hne]
      exact hprog m p hp
    · rw [end1 t (noC t j oj hoj hd hbj)]
      have h6 := q5.keep.2 t (fun p hp hd' => by
        have hpf : p ∈ fl := by rw [hsp]; exact List.mem_append_right _ (List.mem_cons_of_mem _ hp)
        have := once' honce (show (ops[p.1]?).bind (·.dst) = some t by rw [((inF p.1 p.2).1 hpf).1]; exact hd') (show (ops[j]?).bind (·.dst) = some t by rw [hoj]; exact hd)
        have h3 := pl2 p.1 p.2 hp
        omega)
      rw [h6, hd, setV_own (by rw [q1.keep.1]; exact htl)]
  | false =>
    -- the next of the others
    obtain ⟨m, hm⟩ : ∃ m : Nat, cl[m]? = some (j, oj) := by
      obtain ⟨m, hm, e⟩ := List.getElem_of_mem ((inC j oj).2 ⟨hoj, hbj⟩)
      exact ⟨m, by rw [List.getElem?_eq_getElem hm, e]⟩
    have hmk : m = k := by
      have h5 : ¬ m < k := fun h => by
        have := (hprog m (j, oj) hm).2 h
        rw [hjunF] at this; cases this
      rcases Nat.lt_or_ge k m with h | h
      · have hm1 : m - 1 < cl.length := by have := (List.getElem?_eq_some_iff.1 hm).1; omega
        have h6 := chainB2_spec cl hchain (m - 1) _ _ (List.getElem?_eq_getElem hm1) (by rw [show m - 1 + 1 = m by omega]; exact hm)
        have h7 := ready_anc hi.closed hoj hall h6
        have h8 := (hprog (m - 1) _ (List.getElem?_eq_getElem hm1)).1 h7
        omega
      · omega
    subst hmk
    have hmlt : m < cl.length := (List.getElem?_eq_some_iff.1 hm).1
    have hdrop : cl.drop m = (j, oj) :: cl.drop (m + 1) := by
      rw [List.drop_eq_getElem_cons hmlt]
      rw [List.getElem?_eq_getElem hmlt] at hm
      injection hm with hm
      rw [hm]
    rw [hdrop] at ht2
    obtain ⟨b, r, H', q2, q3, q4, q4', q5⟩ := ht2
    have hpw := clR_pair ops.toList fs 0
    rw [← hcl] at hpw
    have htd : cl = cl.take m ++ (j, oj) :: cl.drop (m + 1) := by rw [← hdrop, List.take_append_drop]
    rw [htd] at hpw
    obtain ⟨pw1, pw2, pw3⟩ := List.pairwise_append.1 hpw
    have pl1 : ∀ i o, (i, o) ∈ cl.take m → i < j := fun i o hm => pw3 (i, o) hm (j, oj) List.mem_cons_self
    have pl2 : ∀ i o, (i, o) ∈ cl.drop (m + 1) → j < i := fun i o hm => (List.pairwise_cons.1 pw2).1 (i, o) hm
    have inCl : ∀ p, p ∈ cl.take m → p ∈ cl := fun p hp => List.mem_of_mem_take hp
    have inCd : ∀ p, p ∈ cl.drop (m + 1) → p ∈ cl := fun p hp => List.mem_of_mem_drop hp
    have hslen : st.slots.length = sl0.length := by rw [ht1.keep.1]; exact hlen1
    have hlook : ∀ t ∈ oj.looksAt ops, Rel2 w B η (st.slots.getD t .any) (a.tmps.getD t undef) ∧ FreshV n0 (ex (st.slots.getD t .any)) (a.tmps.getD t undef) := fun t ht => by
      by_cases hw : ∃ (i : Nat) (oi : Oper), ops[i]? = some oi ∧ oi.dst = some t
      · obtain ⟨i, oi, hoi, hd⟩ := hw
        have uniq : ∀ i' o', ops[i']? = some o' → o'.dst = some t → i' = i := fun i' o' h h' => once' honce (show (ops[i']?).bind (·.dst) = some t by rw [h]; exact h') (show (ops[i]?).bind (·.dst) = some t by rw [hoi]; exact hd)
        obtain ⟨bi, hbi⟩ := hfsj i (Array.getElem?_eq_some_iff.1 hoi).1
        have notin : ¬ i < j → ∀ p ∈ cl.take m, p.2.dst ≠ some t := fun hlt p hp hd' => by
          have := uniq p.1 p.2 ((inC p.1 p.2).1 (inCl p hp)).1 hd'
          have h3 := pl1 p.1 p.2 hp
          omega
        have initial : listed.getD i false = false → fs[i]? = some false → ¬ i < j → Rel2 w B η (st.slots.getD t .any) (a.tmps.getD t undef) ∧ FreshV n0 (ex (st.slots.getD t .any)) (a.tmps.getD t undef) := fun hun hf hlt => by
          rw [ht1.keep.2 t (notin hlt)]
          show Rel2 w B η (sl1.getD t .any) _ ∧ FreshV n0 (ex (sl1.getD t .any)) _
          rw [ini1 t (noF t i oi hoi hd hf)]
          exact (hslot t).2 (fun i' hd' => by
            obtain ⟨o', ho', hd'⟩ := Option.bind_eq_some_iff.1 hd'
            rw [uniq i' o' ho' hd']; exact hun)
        rcases wr t ht i oi hoi hd with h | ⟨hlt, hli⟩ | ⟨hlt, hun⟩
        · subst h; exact initial hjunF hbj (by omega)
        · have hE : st.slots.getD t .any = st2.slots.getD t .any := by
            refine (T2.keep (l := (j, oj) :: cl.drop (m + 1)) ⟨b, r, H', q2, q3, q4, q4', q5⟩).2 t (fun p hp hd' => ?_) |>.symm
            rcases List.mem_cons.1 hp with h | h
            · rw [h] at hd'
              have := uniq j oj hoj hd'
              omega
            · have h4 := uniq p.1 p.2 ((inC p.1 p.2).1 (inCd p h)).1 hd'
              have := pl2 p.1 p.2 h
              omega
          rw [hE]
          exact (hslot t).1 ⟨i, by rw [hoi]; exact hd, hli⟩
        · have hdp := depB_spec hdep hoi hoj hd ht (by omega)
          rw [hfsd j false hbj, if_neg (by simp), hfsd i bi hbi] at hdp
          refine initial hun ?_ (by omega)
          rcases hdp with h | h
          · rw [hbi, h]
          · omega
      · have := noW t hw
        rw [ht1.keep.2 t (fun p hp => this.2 p.1 p.2 (inCl p hp))]
        show Rel2 w B η (sl1.getD t .any) _ ∧ FreshV n0 (ex (sl1.getD t .any)) _
        rw [ini1 t this.1]
        exact (hslot t).2 (hnoT t hw)
    refine fin ⟨setV st.slots oj.dst r, H'⟩ st.slots b r (m + 1) hslen q2 hlook (fun hb he => q3 hb n0 Bx w B η a.eval (fun f => rfl) hinv he) (fun hb => ⟨(q4 hb).1, (q4 hb).2⟩) ?_ q5 hmlt (fun m' p hp => ?_) (fun t hd htl => ?_)
    · rw [List.take_add_one, hm]
      exact T2.snoc ht1 ⟨b, r, H', q2, q3, q4, q4', rfl⟩
    · by_cases he : p.1 = j
      · have hpm : m' = m := by
          have hmc := List.mem_of_getElem? hp
          have h9 : p = (j, oj) := by
            have := ((inC p.1 p.2).1 hmc).1
            rw [he, hoj] at this
            injection this with this
            exact Prod.ext he this.symm
          rw [h9] at hp
          obtain ⟨g1, g2⟩ := List.getElem?_eq_some_iff.1 hp
          obtain ⟨g3, g4⟩ := List.getElem?_eq_some_iff.1 hm
          have hnd : cl.Nodup := by
            have hpw' := clR_pair ops.toList fs 0
            rw [← hcl] at hpw'
            exact hpw'.imp (fun hlt e => by rw [e] at hlt; exact Nat.lt_irrefl _ hlt)
          exact (List.getElem_inj hnd).1 (g2.trans g4.symm)
        subst hpm
        rw [he]
        simp [hjl]
      · rw [getD_set_ne false (Ne.symm he), hprog m' p hp]
        constructor
        · intro h; omega
        · intro h
          rcases Nat.lt_or_ge m' m with h' | h'
          · exact h'
          · have : m' = m := by omega
            subst this
            rw [hm] at hp
            injection hp with hp
            exact absurd (by rw [← hp]) he
    · have h6 := q5.keep.2 t (fun p hp hd' => by
        have := once' honce (show (ops[p.1]?).bind (·.dst) = some t by rw [((inC p.1 p.2).1 (inCd p hp)).1]; exact hd') (show (ops[j]?).bind (·.dst) = some t by rw [hoj]; exact hd)
        have h3 := pl2 p.1 p.2 hp
        omega)
      simp only at h6
      rw [h6, hd, setV_own (by rw [hslen]; exact htl)]
theorem draw_ok (hm : P.follows .mixedOrders = true) {id : Nat} {inl : FuncId → Bool} (hB : drawB inl ops = true) {st0 st2 : S2} {sl1 : List V}
    (h1 : T1 P ops (clR 0 ops.toList (frontsA inl ops)) st0.heap (flR 0 ops.toList (frontsA inl ops)) st0.slots sl1) (h2 : T2 P ops (lowN (clR 0 ops.toList (frontsA inl ops)) st0.heap) (clR 0 ops.toList (frontsA inl ops)) ⟨sl1, st0.heap⟩ st2)
    {n0 m0 : Nat} {Bx : List Nat} {ds : List Deferred} {a : Act} {w : World} {B : List Nat} {η : List Value} {Q : Exit → Act → World → Prop} (hs : SimK n0 Bx ds st0 a w B η)
    (hQ : ∀ a' w' B' η', SimK n0 Bx ds st2 a' w' B' η' → Goes n0 m0 w B η w' B' η' → Q .normal a' w') : (Code.region id ops true).wp P Q a w := by
  refine wp_region_any hm ?_
  have g0 : Gr w { w with drawn := w.drawn + 1 } := ⟨rfl, rfl, rfl, Nat.le_refl _, fun _ _ => rfl⟩
  have hB' := hB
  simp only [drawB, Bool.and_eq_true, beq_iff_eq] at hB'
  obtain ⟨⟨⟨⟨⟨⟨hsel, hback⟩, honce⟩, hdata⟩, hchain⟩, hdep⟩, hfsl⟩ := hB'
  have hcount : ((List.range ops.size).filter fun i => !(Array.replicate ops.size false).getD i false).length = ops.size := by
    rw [List.filter_eq_self.2 (fun i _ => by rw [getD_replicate_false]; rfl), List.length_range]
  have inv0 : HeadInv .any ops ops.size (Array.replicate ops.size false) :=
    ⟨by simp, fun j oj _ hl => (by rw [getD_replicate_false] at hl; cases hl), fun t ht1 ht2 => by omega⟩
  refine wpAny_inv (DInv P ops (clR 0 ops.toList (frontsA inl ops)) st0.slots sl1 st0.heap st2 n0 m0 Bx ds { w with drawn := w.drawn + 1 } B η) hback (dinv_step rfl rfl hsel hback honce hdata hchain hdep hfsl h1 h2) ?_ ops.size _ a _ hcount inv0 ?_
  · intro listed a' w' hi hall ⟨k, st, B', η', t1, t2, hk, hprog, hdef, hsz, hinv, hgo, hslot⟩
    have hkl : k = (clR 0 ops.toList (frontsA inl ops)).length := by
      rcases Nat.lt_or_ge k (clR 0 ops.toList (frontsA inl ops)).length with h | h
      · have h3 := hprog k _ (List.getElem?_eq_getElem h)
        have h4 := (clR_mem ops.toList (frontsA inl ops) 0 _ _).1 (List.getElem_mem h)
        have h5 : ((clR 0 ops.toList (frontsA inl ops))[k]).1 < ops.size := by
          have := (List.getElem?_eq_some_iff.1 h4.2.1).1
          simpa using this
        have := h3.1 (hall _ h5)
        omega
      · omega
    rw [hkl, List.drop_length] at t2
    have t2 : st2 = st := t2
    subst t2
    refine hQ a' w' B' η' ⟨hdef, hinv, ?_⟩ ⟨(On.gr g0).trans hgo.on (fun _ h => .inl h), fun b hb => hgo.hB b hb, hgo.hη, Below.trans (g0.mono hs.inv.base.1) hgo.below⟩
    have key : ∀ t, Rel2 w' B' η' (st2.slots.getD t .any) (a'.tmps.getD t undef) ∧ FreshV n0 (ex (st2.slots.getD t .any)) (a'.tmps.getD t undef) := fun t => by
      by_cases hw : ∃ (i : Nat) (oi : Oper), ops[i]? = some oi ∧ oi.dst = some t
      · obtain ⟨i, oi, hoi, hd⟩ := hw
        exact (hslot t).1 ⟨i, by rw [hoi]; exact hd, hall i (Array.getElem?_eq_some_iff.1 hoi).1⟩
      · have nf : ∀ p ∈ flR 0 ops.toList (frontsA inl ops), p.2.dst ≠ some t := fun p hp hd => hw ⟨p.1, p.2, by have := ((flR_mem ops.toList (frontsA inl ops) 0 p.1 p.2).1 hp).2.1; simpa using this, hd⟩
        have nc : ∀ p ∈ clR 0 ops.toList (frontsA inl ops), p.2.dst ≠ some t := fun p hp hd => hw ⟨p.1, p.2, by have := ((clR_mem ops.toList (frontsA inl ops) 0 p.1 p.2).1 hp).2.1; simpa using this, hd⟩
        rw [h2.keep.2 t nc]
        show Rel2 w' B' η' (sl1.getD t .any) _ ∧ FreshV n0 (ex (sl1.getD t .any)) _
        rw [h1.keep.2 t nf]
        exact (hslot t).2 (fun i hd => by
          obtain ⟨o, ho, hd⟩ := Option.bind_eq_some_iff.1 hd
          exact absurd ⟨i, o, ho, hd⟩ hw)
    refine ⟨?_, fun t => (key t).1, fun t => (key t).2⟩
    rw [hsz, h2.keep.1]
    exact h1.keep.1
  · refine ⟨0, ⟨sl1, st0.heap⟩, B, η, rfl, h2, Nat.zero_le _, fun m p hp => ⟨fun h => (by rw [getD_replicate_false] at h; cases h), fun h => by omega⟩, hs.defers, hs.slots.size.symm, hs.inv.gr g0, Goes.refl _ _ _ _ _, fun t => ⟨fun ⟨i, _, h⟩ => (by rw [getD_replicate_false] at h; cases h), fun _ => ⟨(hs.slots.rel t).gk (Gk.gr (n0 := n0) g0), hs.slots.fresh t⟩⟩⟩
end
end Go.Proofs.Ytpijcgohhjgdbaa
