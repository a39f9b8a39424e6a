/-
  A region that draws its order, walked once in the order of the text: each operation is shown for every world that has grown out of the first one, by what is known of the slots that it looks at. Nothing of the program.
-/
import Derived.Test.YtpijcgohhjgdbaaBase
import Derived.StillTail
namespace Go.Proofs.Ytpijcgohhjgdbaa
set_option maxRecDepth 100000
open Go.RowKit
set_option linter.unusedVariables false

/-- w' has grown out of w: what was there is as it was. -/
abbrev Gr (w w' : World) : Prop := Below w.heap.size w w'
theorem Gr.refl (w : World) : Gr w w := Below.refl _ _
theorem Gr.trans {a b c : World} (h : Gr a b) (k : Gr b c) : Gr a c := Below.trans h (k.mono h.size)

theorem alloc_size (w : World) (o : Obj) : (w.alloc o).heap.size = w.heap.size + 1 := by simp
theorem drew_size (w : World) : w.drew.heap.size = w.heap.size := rfl
theorem setCell_size (w : World) (p : Addr) (u : Value) : (w.setCell p u).heap.size = w.heap.size := by simp
theorem gr_alloc {a b : World} (h : Gr a b) (o : Obj) : Gr a (b.alloc o) := Below.alloc h h.size o
theorem gr_drewN {a b : World} (h : Gr a b) (n : Nat) : Gr a (b.drewN n) := below_drewN h n
theorem gr_drew {a b : World} (h : Gr a b) : Gr a b.drew := Below.drew h
theorem gr_set {a b : World} (h : Gr a b) {p : Addr} (hp : a.heap.size ≤ p.block) (u : Value) : Gr a (b.setCell p u) := Below.setCell h hp u
theorem bcell {W w1 : World} (hb : Below W.heap.size W w1) : (∀ b o, b < W.heap.size → w1.cell? ⟨b, o, none⟩ = W.cell? ⟨b, o, none⟩) ∧ (∀ b o, b < W.heap.size → w1.frozen? ⟨b, o, none⟩ = W.frozen? ⟨b, o, none⟩) :=
  ⟨fun b o h => hb.cell (p := ⟨b, o, none⟩) h, fun b o h => hb.frozen (p := ⟨b, o, none⟩) h⟩

theorem acell {W w1 : World} (hb : Below W.heap.size W w1) : ∀ p : Addr, p.block < W.heap.size → w1.cell? p = W.cell? p := fun p h => hb.cell h
theorem name_world {P : Program} {c : Code} {Q : Exit → Act → World → Prop} {a : Act} {W : World} (h : ∀ W', W' = W → c.wp P Q a W') : c.wp P Q a W := h W rfl

theorem name_post {P : Program} {fn : Func} {R : Ending → World → Prop} {ex : Exit} {a : Act} {W : World} (h : ∀ W', W' = W → bodyPost P fn R ex a W') : bodyPost P fn R ex a W := h W rfl

/-- What is known of a slot. -/
inductive Slot where
  | is (v : Value)
  | sat (R : Value → World → Prop)
def Slot.Has : Slot → Value → World → Prop
  | .is x, v, _ => v = x
  | .sat R, v, w => R v w
/-- A way in which the world may go on. -/
structure Way (L : World → World → Prop) : Prop where
  refl : ∀ w, L w w
  trans : ∀ a b c, L a b → L b c → L a c
  draw : ∀ w : World, L w { w with drawn := w.drawn + 1 }
theorem way_gr : Way Gr := ⟨Gr.refl, fun _ _ _ h k => Gr.trans h k, fun _ => ⟨rfl, rfl, rfl, Nat.le_refl _, fun _ _ => rfl⟩⟩
/-- It stays as the world goes on. -/
def Slot.Kept (L : World → World → Prop) (s : Slot) : Prop := ∀ v w w', L w w' → s.Has v w → s.Has v w'
theorem Slot.kept_is (L : World → World → Prop) (v : Value) : (Slot.is v).Kept L := fun _ _ _ _ h => h

def fillS (ys : Nat → Value) : List Slot → Nat → List Value
  | [], _ => []
  | .is x :: σ, k => x :: fillS ys σ (k + 1)
  | .sat _ :: σ, k => ys k :: fillS ys σ (k + 1)
theorem fillS_length (ys : Nat → Value) : ∀ (σ : List Slot) (k : Nat), (fillS ys σ k).length = σ.length
  | [], _ => rfl
  | .is _ :: σ, k => by simp [fillS, fillS_length ys σ]
  | .sat _ :: σ, k => by simp [fillS, fillS_length ys σ]
theorem fillS_at (ys : Nat → Value) : ∀ (σ : List Slot) (k t : Nat), (fillS ys σ k)[t]? = (σ[t]?).map fun | .is x => x | .sat _ => ys (k + t)
  | [], _, _ => by simp [fillS]
  | .is _ :: σ, k, 0 => by simp [fillS]
  | .sat _ :: σ, k, 0 => by simp [fillS]
  | .is _ :: σ, k, t + 1 => by simp [fillS, fillS_at ys σ (k + 1) t, Nat.add_assoc, Nat.add_comm 1 t]
  | .sat _ :: σ, k, t + 1 => by simp [fillS, fillS_at ys σ (k + 1) t, Nat.add_assoc, Nat.add_comm 1 t]

section
variable {P : Program} {L : World → World → Prop} {ops : Array Oper} {W : World} {ds : List Deferred}
/-- The state of slots, the open ones filled. -/
def actS (ds : List Deferred) (σ : List Slot) (ys : Nat → Value) : Act := ⟨(fillS ys σ 0).toArray, ds⟩
def putS (σ : List Slot) (d : Option Tmp) (R : Slot) : List Slot := match d with | some d => σ.set d R | none => σ
theorem putS_length (σ : List Slot) (d : Option Tmp) (R : Slot) : (putS σ d R).length = σ.length := by cases d <;> simp [putS]

/-- What an operation leaves in its temporary, and the world behind it. -/
def Oper.val (P : Program) (ρ : Operand → Value) (o : Oper) (w : World) (N : Value → World → Prop) : Prop :=
  match (execOp ρ o).run P w with
  | .ok (.value v) w' => N v w'
  | .ok .skip w' => N undef w'
  | .ok (.enter f args) w' => Calls P f args w' fun e w'' => ∃ v, e = .returned v ∧ N v w''
  | _ => False
/-- One operation does what is said, in every world that has grown out of W. -/
def OpDoes (P : Program) (L : World → World → Prop) (ops : Array Oper) (W : World) (ds : List Deferred) (σ : List Slot) (o : Oper) (R : Slot) : Prop :=
  ∀ (ys : Nat → Value) (w : World) (N : Value → World → Prop), L W w →
    (∀ t ∈ o.looksAt ops, ∀ S, σ[t]? = some (Slot.sat S) → S (ys t) w) →
    (∀ v w', R.Has v w' → L w w' → N v w') →
    if Region.wanted o (yielded ops (actS ds σ ys).tmps) = true then Oper.val P (actS ds σ ys).eval o w N else N undef w

/-- What is known of the world by an operation that has no slot. -/
def addS (Φ : List Slot) (d : Option Tmp) (R : Slot) : List Slot := match d with | some _ => Φ | none => R :: Φ
def wpF (P : Program) (L : World → World → Prop) (ops : Array Oper) (W : World) (ds : List Deferred) (Kf : List Slot → List Slot → Prop) : List Oper → List Slot → List Slot → Prop
  | [], σ, Φ => Kf σ Φ
  | o :: rest, σ, Φ => ∃ R : Slot, R.Kept L ∧ OpDoes P L ops W ds σ o R ∧ wpF P L ops W ds Kf rest (putS σ o.dst R) (addS Φ o.dst R)

/-! ### What the text itself must be like -/
def ancB (ops : Array Oper) : Nat → Nat → Nat → Bool
  | 0, _, _ => false
  | f + 1, j, i => match ops[j]? with
    | none => false
    | some o => o.after.any fun e => Region.binds .any e && (e.on == i || ancB ops f e.on i)
/-- j looks at a slot that i writes: i stands ahead, and j waits for it; or it stands behind, and waits for j. -/
def dataB (ops : Array Oper) (n : Nat) : Bool :=
  (List.range n).all fun j => (List.range n).all fun i => match ops[i]?, ops[j]? with
    | some oi, some oj => (match oi.dst with
      | some t => !(oj.looksAt ops).contains t || i == j || (decide (i < j) && Region.waitsFor .any ops j i) || (decide (j < i) && ancB ops ops.size i j)
      | none => true)
    | _, _ => true
def onceB (ops : Array Oper) (n : Nat) : Bool :=
  (List.range n).all fun j => (List.range n).all fun i => i == j || match ops[i]?, ops[j]? with
    | some oi, some oj => (match oi.dst with | some t => oj.dst != some t | none => true)
    | _, _ => true
def backB (ops : Array Oper) : Bool := (List.range ops.size).all fun j => match ops[j]? with | some o => o.after.all fun e => !Region.binds .any e || decide (e.on < j) | none => true
def headOf (m n : Nat) : Array Bool := ((List.range m).map fun i => decide (i < n)).toArray
def textB (ops : Array Oper) (n : Nat) : Bool :=
  Region.noSelect ops && decide (n ≤ ops.size) && backB ops && onceB ops n && dataB ops n &&
  (decide (n = ops.size) || (Region.sinkB .any ops n && Region.chainB .any ops n)) && Region.seqB .any ops (ops.size - n) n (headOf ops.size n)

theorem ancB_spec {listed : Array Bool} (hc : ∀ j oj, ops[j]? = some oj → listed.getD j false = true → ∀ e ∈ oj.after, Region.binds .any e = true → listed.getD e.on false = true) :
    ∀ (f j i : Nat), ancB ops f j i = true → listed.getD j false = true → listed.getD i false = true
  | 0, _, _, h, _ => by cases h
  | f + 1, j, i, h, hl => by
    unfold ancB at h
    split at h
    · cases h
    · rename_i o ho
      obtain ⟨e, he, hb⟩ := Array.any_eq_true'.1 h
      simp only [Bool.and_eq_true, Bool.or_eq_true, beq_iff_eq] at hb
      have h1 := hc j o ho hl e he hb.1
      rcases hb.2 with rfl | h2
      · exact h1
      · exact ancB_spec hc f e.on i h2 h1

/-- The slots behind the first k operations, by what each of them leaves. -/
def stateS (ops : Array Oper) (σ0 : List Slot) (Rs : Nat → Slot) : Nat → List Slot
  | 0 => σ0
  | k + 1 => putS (stateS ops σ0 Rs k) ((ops[k]?).bind (·.dst)) (Rs k)
theorem stateS_length (σ0 : List Slot) (Rs : Nat → Slot) : ∀ k, (stateS ops σ0 Rs k).length = σ0.length
  | 0 => rfl
  | k + 1 => by simp [stateS, putS_length, stateS_length σ0 Rs k]
theorem stateS_none (σ0 : List Slot) (Rs : Nat → Slot) {t : Tmp} : ∀ k, (∀ i < k, (ops[i]?).bind (·.dst) ≠ some t) → (stateS ops σ0 Rs k)[t]? = σ0[t]?
  | 0, _ => rfl
  | k + 1, h => by
    have ih := stateS_none σ0 Rs k (fun i hi => h i (by omega))
    have hk := h k (by omega)
    unfold stateS putS
    cases hd : (ops[k]?).bind (·.dst) with
    | none => exact ih
    | some d =>
      have hne : d ≠ t := fun e => hk (by rw [hd, e])
      simp only [List.getElem?_set_ne hne]; exact ih
theorem stateS_some (σ0 : List Slot) (Rs : Nat → Slot) {t : Tmp} (ht : t < σ0.length) {i : Nat} (hi : (ops[i]?).bind (·.dst) = some t) :
    ∀ k, i < k → (∀ j, i < j → j < k → (ops[j]?).bind (·.dst) ≠ some t) → (stateS ops σ0 Rs k)[t]? = some (Rs i)
  | 0, h, _ => by omega
  | k + 1, h, hu => by
    unfold stateS putS
    by_cases hik : i = k
    · subst hik
      rw [hi]
      simp only
      rw [List.getElem?_set_self (by rw [stateS_length]; exact ht)]
    · have ih := stateS_some σ0 Rs ht hi k (by omega) (fun j h1 h2 => hu j h1 (by omega))
      have hk := hu k (by omega) (by omega)
      cases hd : (ops[k]?).bind (·.dst) with
      | none => exact ih
      | some d =>
        have hne : d ≠ t := fun e => hk (by rw [hd, e])
        simp only [List.getElem?_set_ne hne]; exact ih

/-- What the operations without a slot leave, the first k of them. -/
def factS (ops : Array Oper) (Rs : Nat → Slot) : Nat → List Slot
  | 0 => []
  | k + 1 => match ops[k]? with | some o => addS (factS ops Rs k) o.dst (Rs k) | none => factS ops Rs k
theorem factS_mem {Rs : Nat → Slot} : ∀ k, ∀ R ∈ factS ops Rs k, ∃ i, i < k ∧ R = Rs i ∧ ∃ o, ops[i]? = some o ∧ o.dst = none
  | 0, R, h => by cases h
  | k + 1, R, h => by
    unfold factS at h
    cases ho : ops[k]? with
    | none =>
      rw [ho] at h
      obtain ⟨i, h1, h2⟩ := factS_mem k R h
      exact ⟨i, by omega, h2⟩
    | some o =>
      rw [ho] at h
      simp only [addS] at h
      cases hd : o.dst with
      | some d =>
        rw [hd] at h
        obtain ⟨i, h1, h2⟩ := factS_mem k R h
        exact ⟨i, by omega, h2⟩
      | none =>
        rw [hd] at h
        rcases List.mem_cons.1 h with h | h
        · exact ⟨k, by omega, h, o, ho, hd⟩
        · obtain ⟨i, h1, h2⟩ := factS_mem k R h
          exact ⟨i, by omega, h2⟩
theorem wpF_unfold {Kf : List Slot → List Slot → Prop} {σ0 : List Slot} : ∀ (l : List Oper) (k : Nat) (σ Φ : List Slot) (Rs0 : Nat → Slot), (∀ j, j < l.length → l[j]? = ops[k + j]?) → stateS ops σ0 Rs0 k = σ → factS ops Rs0 k = Φ → wpF P L ops W ds Kf l σ Φ →
    ∃ Rs : Nat → Slot, (∀ i < k, Rs i = Rs0 i) ∧ (∀ i o, k ≤ i → i < k + l.length → ops[i]? = some o → (Rs i).Kept L ∧ OpDoes P L ops W ds (stateS ops σ0 Rs i) o (Rs i)) ∧ Kf (stateS ops σ0 Rs (k + l.length)) (factS ops Rs (k + l.length))
  | [], k, σ, Φ, Rs0, _, hσ, hΦ, h => ⟨Rs0, fun _ _ => rfl, fun i o h1 h2 => by simp at h2; omega, by simp only [List.length_nil, Nat.add_zero, hσ, hΦ]; exact h⟩
  | o :: l, k, σ, Φ, Rs0, hl, hσ, hΦ, h => by
    obtain ⟨R, hk, hd, hr⟩ := h
    have h0 : ops[k]? = some o := by simpa using (hl 0 (by simp)).symm
    have same : ∀ (A B : Nat → Slot) (m : Nat), (∀ i < m, A i = B i) → stateS ops σ0 A m = stateS ops σ0 B m := by
      intro A B m
      induction m with
      | zero => intro _; rfl
      | succ m ih => intro hab; simp only [stateS]; rw [ih (fun i hi => hab i (by omega)), hab m (by omega)]
    have sameF : ∀ (A B : Nat → Slot) (m : Nat), (∀ i < m, A i = B i) → factS ops A m = factS ops B m := by
      intro A B m
      induction m with
      | zero => intro _; rfl
      | succ m ih => intro hab; simp only [factS]; rw [ih (fun i hi => hab i (by omega)), hab m (by omega)]
    have hσ1 : stateS ops σ0 (fun i => if i = k then R else Rs0 i) (k + 1) = putS σ o.dst R := by
      simp only [stateS, h0, Option.bind_some, if_true]
      rw [← hσ, same _ Rs0 k (fun i hi => by simp [Nat.ne_of_lt hi])]
    have hΦ1 : factS ops (fun i => if i = k then R else Rs0 i) (k + 1) = addS Φ o.dst R := by
      simp only [factS, h0, if_true]
      rw [← hΦ, sameF _ Rs0 k (fun i hi => by simp [Nat.ne_of_lt hi])]
    obtain ⟨Rs, h1, h2, h3⟩ := wpF_unfold l (k + 1) _ _ _ (fun j hj => by have := hl (j + 1) (by simp; omega); simpa [Nat.add_assoc, Nat.add_comm 1 j] using this) hσ1 hΦ1 hr
    refine ⟨Rs, fun i hi => by rw [h1 i (by omega)]; simp [Nat.ne_of_lt hi], fun i o' hi1 hi2 ho' => ?_, by simpa [Nat.add_assoc, Nat.add_comm 1] using h3⟩
    by_cases hik : i = k
    · subst hik
      have : o' = o := by rw [h0] at ho'; exact (Option.some.inj ho').symm
      subst this
      have hR : Rs i = R := by rw [h1 i (by omega)]; simp
      rw [hR, same Rs Rs0 i (fun j hj => by rw [h1 j (by omega)]; simp [Nat.ne_of_lt hj]), hσ]
      exact ⟨hk, hd⟩
    · exact h2 i o' (by omega) (by simp only [List.length_cons] at hi2; omega) ho'

/-- What is known, whichever of the operations have come up. -/
structure InvS (L : World → World → Prop) (ops : Array Oper) (n : Nat) (W : World) (ds : List Deferred) (σ0 : List Slot) (Rs : Nat → Slot) (listed : Array Bool) (a : Act) (w : World) : Prop where
  defers : a.defers = ds
  size : a.tmps.size = σ0.length
  grown : L W w
  done : ∀ t x i, a.tmps[t]? = some x → i < n → (ops[i]?).bind (·.dst) = some t → listed.getD i false = true → (Rs i).Has x w
  bare : ∀ i o, i < n → ops[i]? = some o → o.dst = none → listed.getD i false = true → ∃ v, (Rs i).Has v w
  open_ : ∀ t x S, a.tmps[t]? = some x → (∀ i < n, (ops[i]?).bind (·.dst) = some t → listed.getD i false = false) → σ0[t]? = some S → S.Has x w

theorem onceB_spec {n : Nat} (h : onceB ops n = true) {i j : Nat} {t : Tmp} (hi : i < n) (hj : j < n) (h1 : (ops[i]?).bind (·.dst) = some t) (h2 : (ops[j]?).bind (·.dst) = some t) : i = j := by
  have := List.all_eq_true.1 (List.all_eq_true.1 h j (List.mem_range.2 hj)) i (List.mem_range.2 hi)
  obtain ⟨oi, hoi, hdi⟩ := Option.bind_eq_some_iff.1 h1
  obtain ⟨oj, hoj, hdj⟩ := Option.bind_eq_some_iff.1 h2
  simp only [hoi, hoj, hdi, hdj, Bool.or_eq_true, beq_iff_eq] at this
  rcases this with h | h
  · exact h
  · simp at h
theorem dataB_spec {n : Nat} (h : dataB ops n = true) {i j : Nat} {t : Tmp} {oj : Oper} (hi : i < n) (hj : j < n) (h1 : (ops[i]?).bind (·.dst) = some t) (h2 : ops[j]? = some oj) (hl : t ∈ oj.looksAt ops) :
    i = j ∨ (i < j ∧ Region.waitsFor .any ops j i = true) ∨ (j < i ∧ ancB ops ops.size i j = true) := by
  have := List.all_eq_true.1 (List.all_eq_true.1 h j (List.mem_range.2 hj)) i (List.mem_range.2 hi)
  obtain ⟨oi, hoi, hdi⟩ := Option.bind_eq_some_iff.1 h1
  simp only [hoi, h2, hdi, Bool.or_eq_true, beq_iff_eq, Bool.and_eq_true, decide_eq_true_eq, Bool.not_eq_true', List.contains_eq_mem, decide_eq_false_iff_not] at this
  rcases this with ((h | h) | h) | h
  · exact absurd hl h
  · exact .inl h
  · exact .inr (.inl h)
  · exact .inr (.inr h)

theorem invS_step (way : Way L) {n : Nat} {σ0 : List Slot} {Rs : Nat → Slot} {Q : Exit → Act → World → Prop} (hsel : Region.noSelect ops = true) (honce : onceB ops n = true) (hdata : dataB ops n = true)
    (hdo : ∀ i o, i < n → ops[i]? = some o → (Rs i).Kept L ∧ OpDoes P L ops W ds (stateS ops σ0 Rs i) o (Rs i)) (h0k : ∀ S ∈ σ0, S.Kept L)
    {listed : Array Bool} {a : Act} {w : World} (hcl : ∀ j oj, ops[j]? = some oj → listed.getD j false = true → ∀ e ∈ oj.after, Region.binds .any e = true → listed.getD e.on false = true)
    (hls : listed.size = ops.size) (inv : InvS L ops n W ds σ0 Rs listed a w) {j : Nat} (hj : j ∈ Region.ready .any ops listed) (hjn : j < n) {K : Act → World → Prop}
    (hK : ∀ a' w', InvS L ops n W ds σ0 Rs (listed.setIfInBounds j true) a' w' → K a' w') : wpOp P ops Q j K a w := by
  obtain ⟨hjun, oj, hoj, hall⟩ := mem_ready.1 hj
  have hjs : j < ops.size := (Array.getElem?_eq_some_iff.1 hoj).1
  have hjunF : listed.getD j false = false := by rw [← hls] at hjs; simp [hjs] at hjun ⊢; exact hjun
  obtain ⟨hkept, hdoes⟩ := hdo j oj hjn hoj
  obtain ⟨ys, hys⟩ : ∃ ys : Nat → Value, ys = fun t => a.tmps.getD t undef := ⟨_, rfl⟩
  have hlen : (stateS ops σ0 Rs j).length = a.tmps.size := by rw [stateS_length, inv.size]
  -- the slots that it looks at are as said
  have hlook : ∀ t ∈ oj.looksAt ops, ∀ x, a.tmps[t]? = some x → ∃ S, (stateS ops σ0 Rs j)[t]? = some S ∧ S.Has x w := by
    intro t ht x hx
    have htl : t < σ0.length := by rw [← inv.size]; exact (Array.getElem?_eq_some_iff.1 hx).1
    by_cases hw : ∃ i, i < n ∧ (ops[i]?).bind (·.dst) = some t
    · obtain ⟨i, hin, hdi⟩ := hw
      rcases dataB_spec hdata hin hjn hdi hoj ht with h | ⟨h1, h2⟩ | ⟨h1, h2⟩
      · subst h
        refine ⟨_, ?_, inv.open_ t x _ hx (fun k hk hdk => by rw [onceB_spec honce hk hin hdk hdi]; exact hjunF) (List.getElem?_eq_getElem htl)⟩
        rw [stateS_none σ0 Rs i (fun k hk hdk => by have := onceB_spec honce (by omega) hin hdk hdi; omega), List.getElem?_eq_getElem htl]
      · obtain ⟨o', ho', e, he, hb, hon⟩ := Region.waitsFor_spec h2
        have : o' = oj := by rw [hoj] at ho'; exact (Option.some.inj ho').symm
        subst this
        have hli : listed.getD i false = true := by rw [← hon]; exact hall e he hb
        exact ⟨_, stateS_some σ0 Rs htl hdi j h1 (fun k hk1 hk2 hdk => by have := onceB_spec honce (by omega) hin hdk hdi; omega), inv.done t x i hx hin hdi hli⟩
      · have hiun : listed.getD i false = false := by
          cases hli : listed.getD i false with
          | false => rfl
          | true => have := ancB_spec hcl _ i j h2 hli; rw [hjunF] at this; cases this
        refine ⟨_, ?_, inv.open_ t x _ hx (fun k hk hdk => by rw [onceB_spec honce hk hin hdk hdi]; exact hiun) (List.getElem?_eq_getElem htl)⟩
        rw [stateS_none σ0 Rs j (fun k hk hdk => by have := onceB_spec honce (by omega) hin hdk hdi; omega), List.getElem?_eq_getElem htl]
    · refine ⟨_, ?_, inv.open_ t x _ hx (fun k hk hdk => absurd ⟨k, hk, hdk⟩ hw) (List.getElem?_eq_getElem htl)⟩
      rw [stateS_none σ0 Rs j (fun k hk hdk => hw ⟨k, by omega, hdk⟩), List.getElem?_eq_getElem htl]
  have hsame : ∀ t ∈ oj.looksAt ops, (actS ds (stateS ops σ0 Rs j) ys).tmps[t]? = a.tmps[t]? := by
    intro t ht
    have e1 : (actS ds (stateS ops σ0 Rs j) ys).tmps[t]? = ((stateS ops σ0 Rs j)[t]?).map fun | .is x => x | .sat _ => ys (0 + t) := by
      unfold actS; simp only [List.getElem?_toArray]; exact fillS_at ys _ 0 t
    rw [e1]
    cases hx : a.tmps[t]? with
    | none =>
      have : a.tmps.size ≤ t := Array.getElem?_eq_none_iff.1 hx
      rw [List.getElem?_eq_none (by rw [hlen]; exact this)]; rfl
    | some x =>
      obtain ⟨S, hS, hh⟩ := hlook t ht x hx
      rw [hS]
      cases S with
      | is y => have hxy : x = y := hh; subst hxy; rfl
      | sat R => simp [hys, hx]
  have heval : ∀ x ∈ oj.op.operands, (actS ds (stateS ops σ0 Rs j) ys).eval x = a.eval x := by
    intro x hx
    cases x with
    | tmp t =>
      have := hsame t (List.mem_append_left _ (List.mem_filterMap.2 ⟨.tmp t, by simpa using hx, rfl⟩))
      simp only [Act.eval, Array.getD_eq_getD_getElem?, this]
    | _ => rfl
  have hex : execOp (actS ds (stateS ops σ0 Rs j) ys).eval oj = execOp a.eval oj := execOp_congr oj (fun cs b => Region.noSelect_spec hsel j oj cs b hoj) heval
  have hwant : Region.wanted oj (yielded ops (actS ds (stateS ops σ0 Rs j) ys).tmps) = Region.wanted oj (yielded ops a.tmps) := by
    unfold Region.wanted
    cases hg : oj.guard with
    | none => rfl
    | some gw =>
      obtain ⟨g, want⟩ := gw
      have hy : yielded ops (actS ds (stateS ops σ0 Rs j) ys).tmps g = yielded ops a.tmps g := by
        unfold yielded
        cases ht : (ops[g]?).bind (·.dst) with
        | none => rfl
        | some t =>
          have := hsame t (List.mem_append_right _ (by simp [hg, ht]))
          simp [this]
      simp only [hy]
  -- what it leaves
  have hput : ∀ v w', (Rs j).Has v w' → L w w' → K (a.put oj.dst v) w' := by
    intro v w' hv hgw
    refine hK _ _ ⟨?_, ?_, way.trans _ _ _ inv.grown hgw, ?_, ?_, ?_⟩
    · cases oj.dst <;> exact inv.defers
    · cases hd : oj.dst <;> simp [Act.put, inv.size]
    · intro t x i hx hin hdi hli
      by_cases hij : i = j
      · subst hij
        rw [hoj] at hdi
        have hdi' : oj.dst = some t := hdi
        rw [hdi'] at hx
        have : t < a.tmps.size := by
          have := (Array.getElem?_eq_some_iff.1 hx).1
          simpa [Act.put] using this
        simp only [Act.put, Array.getElem?_setIfInBounds_self_of_lt this, Option.some.injEq] at hx
        subst hx; exact hv
      · have hx' : a.tmps[t]? = some x := by
          cases hd : oj.dst with
          | none => rw [hd] at hx; exact hx
          | some d =>
            have hne : d ≠ t := fun e => hij (onceB_spec honce hin hjn hdi (by rw [hoj]; subst e; exact hd))
            rw [hd] at hx
            simpa [Act.put, Array.getElem?_setIfInBounds_ne hne] using hx
        rw [getD_set_ne false (Ne.symm hij)] at hli
        exact (by obtain ⟨o, ho, _⟩ := Option.bind_eq_some_iff.1 hdi; exact (hdo i o hin ho).1 : (Rs i).Kept L) x w w' hgw (inv.done t x i hx' hin hdi hli)
    · intro i o hin ho hd hli
      by_cases hij : i = j
      · subst hij; exact ⟨v, hv⟩
      · rw [getD_set_ne false (Ne.symm hij)] at hli
        obtain ⟨u, hu⟩ := inv.bare i o hin ho hd hli
        exact ⟨u, (hdo i o hin ho).1 u w w' hgw hu⟩
    · intro t x S hx hno hS
      have hx' : a.tmps[t]? = some x := by
        cases hd : oj.dst with
        | none => rw [hd] at hx; exact hx
        | some d =>
          have hne : d ≠ t := fun e => by
            have := hno j hjn (by rw [hoj]; subst e; exact hd)
            rw [← hls] at hjs
            simp [hjs] at this
          rw [hd] at hx
          simpa [Act.put, Array.getElem?_setIfInBounds_ne hne] using hx
      refine h0k S (List.mem_of_getElem? hS) x w w' hgw (inv.open_ t x S hx' (fun i hin hdi => ?_) hS)
      have := hno i hin hdi
      by_cases hij : i = j
      · subst hij; exact hjunF
      · rwa [getD_set_ne false (Ne.symm hij)] at this
  have H := hdoes ys w (fun v w' => K (a.put oj.dst v) w') inv.grown
    (fun t ht S hS => by
      have htl : t < a.tmps.size := by rw [← hlen]; exact (List.getElem?_eq_some_iff.1 hS).1
      obtain ⟨S', h1, h2⟩ := hlook t ht _ (Array.getElem?_eq_getElem htl)
      rw [hS] at h1
      injection h1 with h1
      subst h1
      have : ys t = a.tmps[t] := by rw [hys]; simp [htl]
      rw [this]; exact h2) hput
  unfold wpOp
  simp only [hoj]
  rw [hwant] at H
  split
  · rename_i hw
    simp only [hw, if_true] at H
    refine .inl ?_
    unfold Oper.val at H
    unfold Oper.wp
    rw [hex] at H
    generalize (execOp a.eval oj).run P w = r at *
    cases r with
    | ok nx w' =>
      cases nx <;> simp only [Oper.upon] at H ⊢
      case value u => exact H
      case skip => exact H
      case enter f args => exact Calls.mono H fun e w'' ⟨v, he, hk⟩ => by subst he; exact hk
    | halt x w' => simp only at H
  · rename_i hw
    simp only [hw] at H
    exact H

theorem headOf_at (m n i : Nat) : (headOf m n)[i]? = if i < m then some (decide (i < n)) else none := by
  unfold headOf
  simp only [List.getElem?_toArray, List.getElem?_map]
  by_cases h : i < m
  · rw [List.getElem?_range h]; simp [h]
  · rw [List.getElem?_eq_none (by simp; omega)]; simp [h]

theorem wpAny_facts (way : Way L) {n : Nat} {σ0 : List Slot} {Rs : Nat → Slot} {Q : Exit → Act → World → Prop} (hsel : Region.noSelect ops = true) (honce : onceB ops n = true) (hdata : dataB ops n = true) (hback : backB ops = true)
    (hn : n ≤ ops.size) (htail : n = ops.size ∨ (Region.sinkB .any ops n = true ∧ Region.chainB .any ops n = true))
    (hdo : ∀ i o, i < n → ops[i]? = some o → (Rs i).Kept L ∧ OpDoes P L ops W ds (stateS ops σ0 Rs i) o (Rs i)) (h0k : ∀ S ∈ σ0, S.Kept L)
    (hQ : ∀ a w, InvS L ops n W ds σ0 Rs (headOf ops.size n) a w → wpAny P .any ops Q (ops.size - n) (headOf ops.size n) a w) :
    ∀ (f : Nat) (listed : Array Bool) (a : Act) (w : World), ((List.range n).filter fun i => !listed.getD i false).length = f → HeadInv .any ops n listed → InvS L ops n W ds σ0 Rs listed a w →
      wpAny P .any ops Q (f + (ops.size - n)) listed a w
  | 0, listed, a, w, hf, hi, inv => by
    have hall : ∀ i, i < n → listed.getD i false = true := fun i hin => by
      cases hl : listed.getD i false with
      | true => rfl
      | false =>
        have : i ∈ (List.range n).filter fun i => !listed.getD i false := List.mem_filter.2 ⟨List.mem_range.2 hin, by rw [hl]; rfl⟩
        rw [List.length_eq_zero_iff.1 hf] at this; cases this
    have he : listed = headOf ops.size n := by
      apply Array.ext_getElem?
      intro i
      rw [headOf_at]
      by_cases his : i < ops.size
      · rw [if_pos his]
        have hil : i < listed.size := by rw [hi.size]; exact his
        rw [Array.getElem?_eq_getElem hil]
        by_cases hin : i < n
        · have := hall i hin
          simp [hil] at this
          simp [hin, this]
        · have := hi.tail i (by omega) his
          simp [hil] at this
          simp [hin, this]
      · rw [if_neg his, Array.getElem?_eq_none (by rw [hi.size]; omega)]
    subst he
    rw [Nat.zero_add]
    exact hQ a w inv
  | f + 1, listed, a, w, hf, hi, inv => by
    rw [show f + 1 + (ops.size - n) = (f + (ops.size - n)) + 1 by omega]
    -- the first that has not come up may come up
    have hex : ∃ i, i < n ∧ listed.getD i false = false := by
      cases hfil : (List.range n).filter fun i => !listed.getD i false with
      | nil => rw [hfil] at hf; cases hf
      | cons x xs =>
        have : x ∈ (List.range n).filter fun i => !listed.getD i false := by rw [hfil]; exact List.mem_cons_self
        obtain ⟨h1, h2⟩ := List.mem_filter.1 this
        exact ⟨x, List.mem_range.1 h1, by simpa using h2⟩
    have hready : ∃ i, i ∈ Region.ready .any ops listed := by
      obtain ⟨i0, hin0, hun0⟩ := hex
      revert hin0 hun0
      refine Nat.strongRecOn i0 fun i ih hin hun => ?_
      · have his : i < ops.size := by omega
        by_cases hall : ∀ e ∈ ops[i].after, Region.binds .any e = true → listed.getD e.on false = true
        · refine ⟨i, mem_ready.2 ⟨?_, ops[i], Array.getElem?_eq_getElem his, hall⟩⟩
          have hil : i < listed.size := by rw [hi.size]; exact his
          simp [hil] at hun ⊢; exact hun
        · have : ∃ e ∈ ops[i].after, Region.binds .any e = true ∧ listed.getD e.on false = false := by
            apply Classical.byContradiction
            intro hc
            apply hall
            intro e he hb
            cases hl : listed.getD e.on false with
            | true => rfl
            | false => exact absurd ⟨e, he, hb, hl⟩ hc
          obtain ⟨e, he, hb, hl⟩ := this
          have h1 := List.all_eq_true.1 hback i (List.mem_range.2 his)
          simp only [Array.getElem?_eq_getElem his] at h1
          have h2 := Array.all_eq_true_iff_forall_mem.1 h1 e he
          simp only [hb, Bool.not_true, Bool.false_or, decide_eq_true_eq] at h2
          exact ih e.on h2 (by omega) hl
    refine ⟨fun h0 => by obtain ⟨i, hi2⟩ := hready; rw [h0] at hi2; exact (List.not_mem_nil hi2).elim, fun j hj => ?_⟩
    have hjn : j < n := by
      rcases htail with he | ⟨hs, hc⟩
      · obtain ⟨_, o, ho, _⟩ := mem_ready.1 hj
        have := (Array.getElem?_eq_some_iff.1 ho).1
        omega
      · rcases Nat.lt_or_ge j n with h | h
        · exact h
        · obtain ⟨i, hin, hun⟩ := hex
          have hjs : j < ops.size := by obtain ⟨_, o, ho, _⟩ := mem_ready.1 hj; exact (Array.getElem?_eq_some_iff.1 ho).1
          exact absurd hj (tail_waits hs hc (by omega) hi _ i rfl hin (by
            have hil : i < listed.size := by rw [hi.size]; omega
            simp [hil] at hun ⊢; exact hun) j h)
    refine invS_step way hsel honce hdata hdo h0k hi.closed hi.size inv hj hjn (fun a' w' inv' => wpAny_facts way hsel honce hdata hback hn htail hdo h0k hQ f _ a' w' ?_ (hi.set hj hjn) inv')
    have hjl : j < listed.size := by rw [hi.size]; omega
    have hjun : listed.getD j false = false := by
      have := (mem_ready.1 hj).1
      simp [hjl] at this ⊢; exact this
    -- one less is left
    have : ∀ (l : List Nat), l.Nodup → j ∈ l → (l.filter fun i => !(listed.setIfInBounds j true).getD i false).length + 1 = (l.filter fun i => !listed.getD i false).length := by
      intro l
      induction l with
      | nil => intro _ h; cases h
      | cons x l ih =>
        intro hnd hm
        obtain ⟨hx, hnd'⟩ := List.nodup_cons.1 hnd
        rcases List.mem_cons.1 hm with rfl | hm'
        · have e1 : (listed.setIfInBounds j true).getD j false = true := by simp [hjl]
          have e2 : (l.filter fun i => !(listed.setIfInBounds j true).getD i false) = l.filter fun i => !listed.getD i false :=
            List.filter_congr fun i hi' => by rw [getD_set_ne false (fun e => hx (by rw [e]; exact hi'))]
          rw [List.filter_cons_of_neg (by rw [e1]; simp), List.filter_cons_of_pos (by rw [hjun]; rfl), e2, List.length_cons]
        · have hne : j ≠ x := fun e => hx (by rw [← e]; exact hm')
          have ih' := ih hnd' hm'
          by_cases hlx : listed.getD x false = true
          · rw [List.filter_cons_of_neg (by rw [getD_set_ne false hne, hlx]; simp), List.filter_cons_of_neg (by rw [hlx]; simp)]; exact ih'
          · have hlx' : listed.getD x false = false := by simpa using hlx
            rw [List.filter_cons_of_pos (by rw [getD_set_ne false hne, hlx']; rfl), List.filter_cons_of_pos (by rw [hlx']; rfl), List.length_cons, List.length_cons]; omega
    have h := this (List.range n) List.nodup_range (List.mem_range.2 hjn)
    omega

/-- Is the operation wanted? Told by what is known of the slots. -/
def wantS (ops : Array Oper) (σ : List Slot) (o : Oper) : Option Bool :=
  match o.guard with
  | none => some true
  | some (g, want) => match (ops[g]?).bind (·.dst) with
    | some d => match σ[d]? with
      | some (.is v) => match v with
        | .bool b => some (b == want)
        | _ => some false
      | _ => none
    | none => none
theorem wantS_spec {σ : List Slot} {o : Oper} {b : Bool} (h : wantS ops σ o = some b) (ys : Nat → Value) : Region.wanted o (yielded ops (actS ds σ ys).tmps) = b := by
  unfold wantS at h
  unfold Region.wanted
  cases hg : o.guard with
  | none => rw [hg] at h; exact Option.some.inj h
  | some gw =>
    obtain ⟨g, want⟩ := gw
    simp only [hg] at h ⊢
    cases hd : (ops[g]?).bind (·.dst) with
    | none => rw [hd] at h; cases h
    | some d =>
      simp only [hd] at h
      unfold yielded
      simp only [hd, Option.bind_some]
      have e : (actS ds σ ys).tmps[d]? = (σ[d]?).map fun | .is x => x | .sat _ => ys (0 + d) := by
        unfold actS; simp only [List.getElem?_toArray]; exact fillS_at ys _ 0 d
      rw [e]
      cases hs : σ[d]? with
      | none => rw [hs] at h; cases h
      | some S =>
        rw [hs] at h
        cases S with
        | sat R => cases h
        | is x =>
          cases x with
          | bool c =>
            simp only [Option.some.injEq] at h
            subst h
            simp only [Option.map_some]
            cases c <;> cases want <;> rfl
          | _ =>
            obtain rfl : false = b := by simpa using h
            rfl
/-- An operation that is wanted, and leaves a value that is known. -/
theorem wpF_val {Kf : List Slot → List Slot → Prop} {o : Oper} {rest : List Oper} {σ Φ : List Slot} {v : Value} (hw : wantS ops σ o = some true)
    (hd : ∀ (ys : Nat → Value) (w : World) (N : Value → World → Prop), L W w → (∀ w', L w w' → N v w') → Oper.val P (actS ds σ ys).eval o w N)
    (h : wpF P L ops W ds Kf rest (putS σ o.dst (.is v)) (addS Φ o.dst (.is v))) : wpF P L ops W ds Kf (o :: rest) σ Φ :=
  ⟨.is v, Slot.kept_is L v, fun ys w N hG _ hN => by rw [if_pos (wantS_spec hw ys)]; exact hd ys w N hG fun w' hg => hN v w' rfl hg, h⟩
/-- One that is not wanted. -/
theorem wpF_skip (way : Way L) {Kf : List Slot → List Slot → Prop} {o : Oper} {rest : List Oper} {σ Φ : List Slot} (hw : wantS ops σ o = some false)
    (h : wpF P L ops W ds Kf rest (putS σ o.dst (.is undef)) (addS Φ o.dst (.is undef))) : wpF P L ops W ds Kf (o :: rest) σ Φ :=
  ⟨.is undef, Slot.kept_is L _, fun ys w N _ _ hN => by rw [if_neg (by rw [wantS_spec hw ys]; exact Bool.false_ne_true)]; exact hN undef w rfl (way.refl _), h⟩
/-- One whose slot is open behind it, or that looks at an open slot. -/
theorem wpF_sat {Kf : List Slot → List Slot → Prop} {o : Oper} {rest : List Oper} {σ Φ : List Slot} (R : Slot) (hk : R.Kept L) (hw : wantS ops σ o = some true)
    (hd : ∀ (ys : Nat → Value) (w : World) (N : Value → World → Prop), L W w → (∀ t ∈ o.looksAt ops, ∀ S, σ[t]? = some (Slot.sat S) → S (ys t) w) → (∀ v w', R.Has v w' → L w w' → N v w') → Oper.val P (actS ds σ ys).eval o w N)
    (h : wpF P L ops W ds Kf rest (putS σ o.dst R) (addS Φ o.dst R)) : wpF P L ops W ds Kf (o :: rest) σ Φ :=
  ⟨R, hk, fun ys w N hG hF hN => by rw [if_pos (wantS_spec hw ys)]; exact hd ys w N hG hF hN, h⟩
attribute [go_sem] Oper.val

/-- The frame behind the region's head: what is known of each slot. -/
def EndS (L : World → World → Prop) (W : World) (ds : List Deferred) (σ Φ : List Slot) (T : Act → World → Prop) : Prop :=
  ∀ (ys : Nat → Value) (w : World), L W w → (∀ t S, σ[t]? = some (Slot.sat S) → S (ys t) w) → (∀ S ∈ Φ, ∃ v, S.Has v w) → T (actS ds σ ys) w

/-- A region that draws: its first n operations in the order of the text, each for every world that has grown; then the others, which come in one order. -/
theorem wp_region_way (way : Way L) {id : Nat} {Q : Exit → Act → World → Prop} {a : Act} {w : World} {l : List Oper} (n : Nat) (hm : P.follows .mixedOrders = true) (hB : textB l.toArray n = true)
    (h : wpF P L l.toArray w a.defers (fun σ Φ => EndS L w a.defers σ Φ fun a' w' => wpList P l.toArray Q (l.drop n) a' w') (l.take n) (a.tmps.toList.map Slot.is) []) : (Code.region id l.toArray true).wp P Q a w := by
  simp only [textB, Bool.and_eq_true, Bool.or_eq_true, decide_eq_true_eq] at hB
  obtain ⟨⟨⟨⟨⟨⟨hsel, hn⟩, hback⟩, honce⟩, hdata⟩, htail⟩, hseq⟩ := hB
  have hn' : n ≤ l.length := by simpa using hn
  have htl : (l.take n).length = n := by simp; omega
  have hdl : (l.drop n).length = l.toArray.size - n := by simp
  obtain ⟨Rs, _, hdo, hend⟩ := wpF_unfold (l.take n) 0 _ _ (fun _ => Slot.is undef) (fun j hj => by
    have hj' : j < n := by rw [htl] at hj; exact hj
    simp [hj']) rfl rfl h
  rw [Nat.zero_add, htl] at hdo hend
  refine wp_region_any hm ?_
  have inv0 : HeadInv .any l.toArray n (Array.replicate l.toArray.size false) :=
    ⟨by simp, fun j oj _ hl => (by rw [getD_replicate_false] at hl; cases hl), fun t _ ht => getD_in (by simpa using ht) (getD_replicate_false _ _)⟩
  have hcount : ((List.range n).filter fun i => !(Array.replicate l.toArray.size false).getD i false).length = n := by
    rw [List.filter_eq_self.2 (fun i _ => by rw [getD_replicate_false]; rfl), List.length_range]
  have H := wpAny_facts (P := P) (L := L) way (W := w) (ds := a.defers) (σ0 := a.tmps.toList.map Slot.is) (Rs := Rs) (Q := Q) hsel honce hdata hback hn htail
    (fun i o hi ho => hdo i o (Nat.zero_le _) hi ho) (fun S hS => by obtain ⟨v, _, rfl⟩ := List.mem_map.1 hS; exact Slot.kept_is L v)
    (fun a' w' inv => by
      have := wpAny_of_seq (md := .any) (P := P) (ops := l.toArray) (Q' := Q) (l.drop n) n (headOf l.toArray.size n) a' w' (fun j => by simp [List.getElem?_drop]) (by rw [hdl]; exact hseq) ?_
      · rwa [hdl] at this
      · have hsz : (stateS l.toArray (a.tmps.toList.map Slot.is) Rs n).length = a'.tmps.size := by rw [stateS_length, inv.size]
        have hk : ∀ t (ht : t < a'.tmps.size), ∃ S, (stateS l.toArray (a.tmps.toList.map Slot.is) Rs n)[t]? = some S ∧ S.Has a'.tmps[t] w' := by
          intro t ht
          have htl0 : t < (a.tmps.toList.map Slot.is).length := by rw [← inv.size]; exact ht
          by_cases hw : ∃ i, i < n ∧ (l.toArray[i]?).bind (·.dst) = some t
          · obtain ⟨i, hin, hdi⟩ := hw
            refine ⟨_, stateS_some _ Rs htl0 hdi n hin (fun k hk1 hk2 hdk => by have := onceB_spec honce hk2 hin hdk hdi; omega), inv.done t _ i (Array.getElem?_eq_getElem ht) hin hdi ?_⟩
            have his : i < l.length := by omega
            simp [headOf_at, hin, his]
          · refine ⟨_, ?_, inv.open_ t _ _ (Array.getElem?_eq_getElem ht) (fun k hk hdk => absurd ⟨k, hk, hdk⟩ hw) (List.getElem?_eq_getElem htl0)⟩
            rw [stateS_none _ Rs n (fun k hk hdk => hw ⟨k, hk, hdk⟩), List.getElem?_eq_getElem htl0]
        have ha : actS a.defers (stateS l.toArray (a.tmps.toList.map Slot.is) Rs n) (fun t => a'.tmps.getD t undef) = a' := by
          obtain ⟨tm, df⟩ := a'
          have hd := inv.defers
          simp only at hd hk hsz
          subst hd
          unfold actS
          congr 1
          apply Array.ext_getElem?
          intro t
          simp only [List.getElem?_toArray]
          rw [fillS_at]
          by_cases ht : t < tm.size
          · obtain ⟨S, hS, hh⟩ := hk t ht
            rw [hS]
            cases S with
            | is y => have : tm[t] = y := hh; simp [ht, this]
            | sat R => simp [ht]
          · rw [List.getElem?_eq_none (by rw [hsz]; omega), Array.getElem?_eq_none (by omega)]; rfl
        have := hend (fun t => a'.tmps.getD t undef) w' inv.grown (fun t S hS => by
          have ht : t < a'.tmps.size := by rw [← hsz]; exact (List.getElem?_eq_some_iff.1 hS).1
          obtain ⟨S', h1, h2⟩ := hk t ht
          rw [hS] at h1
          injection h1 with h1
          subst h1
          have h3 : S a'.tmps[t] w' := h2
          simpa [ht] using h3) (fun S hS => by
          obtain ⟨i, hin, rfl, o, ho, hd⟩ := factS_mem n S hS
          refine inv.bare i o hin ho hd ?_
          have his : i < l.length := by omega
          simp [headOf_at, hin, his])
        rwa [ha] at this)
    n (Array.replicate l.toArray.size false) a { w with drawn := w.drawn + 1 } hcount inv0
    ⟨rfl, by simp, way.draw _, fun t x i _ _ _ hl => (by rw [getD_replicate_false] at hl; cases hl), fun i o _ _ _ hl => (by rw [getD_replicate_false] at hl; cases hl), fun t x S hx _ hS => by
      rw [List.getElem?_map, Array.getElem?_toList, hx] at hS
      injection hS with hS
      subst hS; rfl⟩
  rw [show n + (l.toArray.size - n) = l.toArray.size by omega] at H
  exact H
theorem wpF_end {T : Act → World → Prop} {σ Φ : List Slot} (h : ∀ (ys : Nat → Value) (w : World), L W w → (∀ t S, σ[t]? = some (Slot.sat S) → S (ys t) w) → (∀ S ∈ Φ, ∃ v, S.Has v w) → T (actS ds σ ys) w) :
    wpF P L ops W ds (fun σ Φ => EndS L W ds σ Φ T) [] σ Φ := h
/-- Where nothing is written: the world grows. -/
theorem wp_region_facts {id : Nat} {Q : Exit → Act → World → Prop} {a : Act} {w : World} {l : List Oper} (n : Nat) (hm : P.follows .mixedOrders = true) (hB : textB l.toArray n = true)
    (h : wpF P Gr l.toArray w a.defers (fun σ Φ => EndS Gr w a.defers σ Φ fun a' w' => wpList P l.toArray Q (l.drop n) a' w') (l.take n) (a.tmps.toList.map Slot.is) []) : (Code.region id l.toArray true).wp P Q a w :=
  wp_region_way way_gr n hm hB h
/-- The whole region. -/
theorem wp_region_whole (way : Way L) {id : Nat} {Q : Exit → Act → World → Prop} {a : Act} {w : World} {l : List Oper} (hm : P.follows .mixedOrders = true) (hB : textB l.toArray l.length = true)
    (h : wpF P L l.toArray w a.defers (fun σ Φ => EndS L w a.defers σ Φ fun a' w' => wpList P l.toArray Q [] a' w') l (a.tmps.toList.map Slot.is) []) : (Code.region id l.toArray true).wp P Q a w := by
  refine wp_region_way way l.length hm hB ?_
  rw [List.take_length, List.drop_length]; exact h
theorem wp_region_all {id : Nat} {Q : Exit → Act → World → Prop} {a : Act} {w : World} {l : List Oper} (hm : P.follows .mixedOrders = true) (hB : textB l.toArray l.length = true)
    (h : wpF P Gr l.toArray w a.defers (fun σ Φ => EndS Gr w a.defers σ Φ fun a' w' => wpList P l.toArray Q [] a' w') l (a.tmps.toList.map Slot.is) []) : (Code.region id l.toArray true).wp P Q a w :=
  wp_region_whole way_gr hm hB h
end

/-! ### Where blocks of the call's own are written -/
/-- The world grows, but for blocks bs; what is said of cells there is as it was said, once it is so. -/
structure Gs (bs : List Nat) (ps : List (Addr × Value)) (w w' : World) : Prop where
  os : w'.os = w.os
  tape : w'.tape = w.tape
  output : w'.output = w.output
  size : w.heap.size ≤ w'.heap.size
  block : ∀ k, k < w.heap.size → k ∉ bs → w'.heap[k]? = w.heap[k]?
  frozen : ∀ p : Addr, p.block ∈ bs → p.block < w.heap.size → w'.frozen? p = w.frozen? p
  some_ : ∀ p : Addr, p.block ∈ bs → (∃ v, w.cell? p = some v) → ∃ v, w'.cell? p = some v
  said : ∀ p ∈ ps, w.cell? p.1 = some p.2 → w'.cell? p.1 = some p.2
theorem Gs.refl (bs : List Nat) (ps : List (Addr × Value)) (w : World) : Gs bs ps w w := ⟨rfl, rfl, rfl, Nat.le_refl _, fun _ _ _ => rfl, fun _ _ _ => rfl, fun _ _ h => h, fun _ _ h => h⟩
theorem Gs.trans {bs : List Nat} {ps : List (Addr × Value)} {a b c : World} (h : Gs bs ps a b) (k : Gs bs ps b c) : Gs bs ps a c :=
  ⟨k.os.trans h.os, k.tape.trans h.tape, k.output.trans h.output, Nat.le_trans h.size k.size, fun i hi hn => (k.block i (Nat.lt_of_lt_of_le hi h.size) hn).trans (h.block i hi hn),
   fun p hp hi => (k.frozen p hp (Nat.lt_of_lt_of_le hi h.size)).trans (h.frozen p hp hi), fun p hp he => k.some_ p hp (h.some_ p hp he), fun p hp he => k.said p hp (h.said p hp he)⟩
theorem way_gs (bs : List Nat) (ps : List (Addr × Value)) : Way (Gs bs ps) :=
  ⟨Gs.refl bs ps, fun _ _ _ h k => Gs.trans h k, fun _ => ⟨rfl, rfl, rfl, Nat.le_refl _, fun _ _ _ => rfl, fun _ _ _ => rfl, fun _ _ h => h, fun _ _ h => h⟩⟩
theorem cell_block_lt {w : World} {p : Addr} {v : Value} (h : w.cell? p = some v) : p.block < w.heap.size := by
  unfold World.cell? at h
  rcases Nat.lt_or_ge p.block w.heap.size with hl | hl
  · exact hl
  · rw [Array.getElem?_eq_none hl] at h; cases h
theorem Gr.gs {w w' : World} (h : Gr w w') (bs : List Nat) (ps : List (Addr × Value)) : Gs bs ps w w' :=
  ⟨h.os, h.tape, h.output, h.size, fun k hk _ => h.block k hk, fun p _ hp => h.frozen hp, fun p _ ⟨v, hv⟩ => ⟨v, (h.cell (cell_block_lt hv)).trans hv⟩, fun p _ hv => (h.cell (cell_block_lt hv)).trans hv⟩
theorem Gs.set {bs : List Nat} {ps : List (Addr × Value)} {w : World} {p : Addr} {u : Value} (hp : p.block ∈ bs) (hs : ∀ q ∈ ps, q.1 = p → q.2 = u) : Gs bs ps w (w.setCell p u) := by
  refine ⟨rfl, rfl, rfl, by simp, fun k _ hn => Below.heap_setCell _ _ _ _ (fun e => hn (by rw [e]; exact hp)), fun q _ _ => by simp, fun q _ ⟨v, hv⟩ => ?_, fun q hq hv => ?_⟩
  · by_cases he : q = p
    · subst he; exact ⟨u, World.cell?_setCell_same _ _ _ hv⟩
    · exact ⟨v, by rw [World.cell?_setCell_other _ _ _ _ (fun e => he e.symm)]; exact hv⟩
  · by_cases he : q.1 = p
    · rw [hs q hq he, he]; rw [he] at hv; exact World.cell?_setCell_same _ _ _ hv
    · rw [World.cell?_setCell_other _ _ _ _ (fun e => he e.symm)]; exact hv
theorem Gs.cell {bs : List Nat} {ps : List (Addr × Value)} {w w' : World} (h : Gs bs ps w w') {p : Addr} (hp : p.block < w.heap.size) (hn : p.block ∉ bs) : w'.cell? p = w.cell? p := World.cell?_of_block (w := w) (h.block _ hp hn)
theorem gcell {bs : List Nat} {ps : List (Addr × Value)} {W w : World} (h : Gs bs ps W w) : (∀ b o, b < W.heap.size → b ∉ bs → w.cell? ⟨b, o, none⟩ = W.cell? ⟨b, o, none⟩) ∧ (∀ b o, b < W.heap.size → w.frozen? ⟨b, o, none⟩ = W.frozen? ⟨b, o, none⟩) :=
  ⟨fun b o hb hn => h.cell (p := ⟨b, o, none⟩) hb hn, fun b o hb => by
    by_cases hm : b ∈ bs
    · exact h.frozen ⟨b, o, none⟩ hm hb
    · exact World.frozen?_of_block (w := W) (a := ⟨b, o, none⟩) (h.block b hb hm)⟩
/-- What is said of the cells is so. -/
def saidS (ps : List (Addr × Value)) : Slot := .sat fun _ w => ∀ q ∈ ps, w.cell? q.1 = some q.2
theorem kept_said (bs : List Nat) (ps : List (Addr × Value)) : (saidS ps).Kept (Gs bs ps) := fun _ _ _ h ha q hq => h.said q hq (ha q hq)
/-- Cells of one block, from k on. -/
def cellsAt (b : Nat) : Nat → List Value → List (Addr × Value)
  | _, [] => []
  | k, v :: vs => (⟨b, k, none⟩, v) :: cellsAt b (k + 1) vs
def setCells (w : World) (b : Nat) : Nat → List Value → World
  | _, [] => w
  | k, v :: vs => setCells (w.setCell ⟨b, k, none⟩ v) b (k + 1) vs
theorem cellsAt_mem {b : Nat} : ∀ {vs : List Value} {k : Nat} {q : Addr × Value}, q ∈ cellsAt b k vs → ∃ i, vs[i]? = some q.2 ∧ q.1 = ⟨b, k + i, none⟩
  | [], _, _, h => by cases h
  | v :: vs, k, q, h => by
    rcases List.mem_cons.1 h with rfl | h
    · exact ⟨0, rfl, rfl⟩
    · obtain ⟨i, h1, h2⟩ := cellsAt_mem h
      exact ⟨i + 1, by simpa using h1, by rw [h2]; congr 1; omega⟩
theorem setCells_other {b : Nat} {p : Addr} : ∀ (vs : List Value) (k : Nat) (w : World), (∀ i, i < vs.length → p ≠ ⟨b, k + i, none⟩) → (setCells w b k vs).cell? p = w.cell? p
  | [], _, _, _ => rfl
  | v :: vs, k, w, h => by
    show (setCells (w.setCell ⟨b, k, none⟩ v) b (k + 1) vs).cell? p = _
    rw [setCells_other vs (k + 1) _ (fun i hi => by have := h (i + 1) (by simp; omega); rwa [show k + 1 + i = k + (i + 1) by omega]), World.cell?_setCell_other _ _ _ _ (fun e => h 0 (by simp) (by rw [← e]; rfl))]
theorem setCells_at {b : Nat} : ∀ (vs : List Value) (k : Nat) (w : World), (∀ i, i < vs.length → ∃ x, w.cell? ⟨b, k + i, none⟩ = some x) → ∀ i v, vs[i]? = some v → (setCells w b k vs).cell? ⟨b, k + i, none⟩ = some v
  | [], _, _, _, i, v, h => by simp at h
  | u :: vs, k, w, hex, 0, v, h => by
    show (setCells (w.setCell ⟨b, k, none⟩ u) b (k + 1) vs).cell? _ = _
    rw [setCells_other vs (k + 1) _ (fun i _ e => by injection e; omega)]
    have : u = v := by simpa using h
    subst this
    obtain ⟨x, hx⟩ := hex 0 (by simp)
    exact World.cell?_setCell_same _ _ _ hx
  | u :: vs, k, w, hex, i + 1, v, h => by
    have := setCells_at vs (k + 1) (w.setCell ⟨b, k, none⟩ u) (fun j hj => by
      obtain ⟨x, hx⟩ := hex (j + 1) (by simp; omega)
      exact ⟨x, by rw [World.cell?_setCell_other _ _ _ _ (fun e => by injection e; omega)]; rw [show k + 1 + j = k + (j + 1) by omega]; exact hx⟩) i v (by simpa using h)
    rw [show k + (i + 1) = k + 1 + i by omega]; exact this
theorem setCells_said {b k : Nat} {vs : List Value} {w : World} (hex : ∀ i, i < vs.length → ∃ x, w.cell? ⟨b, k + i, none⟩ = some x) : ∀ q ∈ cellsAt b k vs, (setCells w b k vs).cell? q.1 = some q.2 := fun q hq => by
  obtain ⟨i, h1, h2⟩ := cellsAt_mem hq
  rw [h2]; exact setCells_at vs k w hex i q.2 h1
theorem setCells_way {bs : List Nat} {ps : List (Addr × Value)} {b : Nat} (hb : b ∈ bs) : ∀ (vs : List Value) (k : Nat) (w : World), (∀ q ∈ ps, ∀ i v, vs[i]? = some v → q.1 = ⟨b, k + i, none⟩ → q.2 = v) → Gs bs ps w (setCells w b k vs)
  | [], _, w, _ => Gs.refl _ _ _
  | v :: vs, k, w, h => Gs.trans (Gs.set (p := ⟨b, k, none⟩) (u := v) hb (fun q hq he => h q hq 0 v rfl he)) (setCells_way hb vs (k + 1) _ (fun q hq i u hu he => h q hq (i + 1) u (by simpa using hu) (by rw [he]; congr 1; omega)))
/-- A struct is stored where it belongs. -/
theorem setCells_own (b : Nat) (vs : List Value) (w : World) : Gs [b] (cellsAt b 0 vs) w (setCells w b 0 vs) :=
  setCells_way List.mem_cons_self vs 0 w fun q hq i v hv he => by
    obtain ⟨j, h1, h2⟩ := cellsAt_mem hq
    rw [h2] at he
    injection he with _ he
    have : j = i := by omega
    subst this
    rw [h1] at hv; exact Option.some.inj hv
theorem Gs.there {bs : List Nat} {ps : List (Addr × Value)} {W w : World} (h : Gs bs ps W w) {b n : Nat} (hb : b ∈ bs) (he : ∀ i, i < n → ∃ x, W.cell? ⟨b, 0 + i, none⟩ = some x) : ∀ i, i < n → ∃ x, w.cell? ⟨b, 0 + i, none⟩ = some x :=
  fun i hi => h.some_ ⟨b, 0 + i, none⟩ hb (he i hi)
/-- All that was there but the blocks bs. -/
theorem Gs.below {bs : List Nat} {ps : List (Addr × Value)} {w w' : World} (h : Gs bs ps w w') {B : Nat} (hB : B ≤ w.heap.size) (hn : ∀ b ∈ bs, B ≤ b) : Below B w w' :=
  ⟨h.os, h.tape, h.output, h.size, fun k hk => h.block k (by omega) (fun e => by have := hn k e; omega)⟩

/-! ### A struct in a block of the call's own -/
/-- Block B has the cells vs, that may be written. -/
structure StA (w : World) (B : Nat) (vs : List Value) : Prop where
  cell : ∀ i v, vs[i]? = some v → w.cell? ⟨B, i, none⟩ = some v
  free : ∀ i v, vs[i]? = some v → w.frozen? ⟨B, i, none⟩ = false
  lt : B < w.heap.size
theorem StA.gr {w w' : World} {B : Nat} {vs : List Value} (h : StA w B vs) (g : Gr w w') : StA w' B vs :=
  ⟨fun i v hv => (g.cell (p := ⟨B, i, none⟩) h.lt).trans (h.cell i v hv), fun i v hv => (g.frozen (p := ⟨B, i, none⟩) h.lt).trans (h.free i v hv), Nat.lt_of_lt_of_le h.lt g.size⟩
theorem StA.drewN {w : World} {B : Nat} {vs : List Value} (h : StA w B vs) (n : Nat) : StA (w.drewN n) B vs := h.gr (below_drewN (Gr.refl w) n)
theorem StA.set {w : World} {B : Nat} {vs us : List Value} (h : StA w B vs) (hl : us.length = vs.length) : StA (setCells w B 0 us) B us := by
  have hex : ∀ i, i < us.length → ∃ x, w.cell? ⟨B, 0 + i, none⟩ = some x := fun i hi => ⟨_, by rw [Nat.zero_add]; exact h.cell i _ (List.getElem?_eq_getElem (by omega))⟩
  have g := setCells_own B us w
  refine ⟨fun i v hv => by have := setCells_at us 0 w hex i v hv; rwa [Nat.zero_add] at this, fun i v hv => ?_, Nat.lt_of_lt_of_le h.lt g.size⟩
  have hi : i < us.length := (List.getElem?_eq_some_iff.1 hv).1
  rw [g.frozen ⟨B, i, none⟩ List.mem_cons_self h.lt]
  exact h.free i _ (List.getElem?_eq_getElem (by omega))
theorem setCells_below {w : World} {B C : Nat} (us : List Value) (hB : B ≤ C) (hC : C < w.heap.size) : Below B w (setCells w C 0 us) := (setCells_own C us w).below (by omega) (fun b hb => by rw [List.mem_singleton.1 hb]; exact hB)
theorem setCells_size (b : Nat) : ∀ (vs : List Value) (k : Nat) (w : World), (setCells w b k vs).heap.size = w.heap.size
  | [], _, _ => rfl
  | v :: vs, k, w => by
    show (setCells (w.setCell ⟨b, k, none⟩ v) b (k + 1) vs).heap.size = _
    rw [setCells_size b vs]; simp
theorem StA.set_other {w : World} {B C : Nat} {vs us : List Value} (h : StA w B vs) (hne : B ≠ C) : StA (setCells w C 0 us) B vs := by
  have g := setCells_own C us w
  have hb := g.block B h.lt (by simp [hne])
  exact ⟨fun i v hv => (World.cell?_of_block (w := w) (a := ⟨B, i, none⟩) hb).trans (h.cell i v hv), fun i v hv => (World.frozen?_of_block (w := w) (a := ⟨B, i, none⟩) hb).trans (h.free i v hv), Nat.lt_of_lt_of_le h.lt g.size⟩
theorem StA.new (w : World) (vs : List Value) (t : TypeId) : StA (w.alloc (.cells vs.toArray t)) w.heap.size vs := by
  refine ⟨fun i v hv => ?_, fun i v hv => ?_, by simp⟩
  · rw [World.cell?_alloc_at _ _ _ _ rfl]; simpa using hv
  · exact World.frozen?_alloc_at _ _ _ _ rfl
/-- A slot that points to a new block with the cells vs. -/
def freshS (W : World) (vs : List Value) : Slot := .sat fun v w => ∃ g, v = .pointer (some ⟨g, 0, none⟩) ∧ StA w g vs ∧ W.heap.size ≤ g
theorem freshS_kept (W : World) (vs : List Value) : (freshS W vs).Kept Gr := fun v w w' h ⟨g, h1, h2, h3⟩ => ⟨g, h1, h2.gr h, h3⟩
theorem freshS_new {W w : World} (hG : Gr W w) (vs : List Value) (t : TypeId) : (freshS W vs).Has (.pointer (some ⟨w.heap.size, 0, none⟩)) (w.alloc (.cells vs.toArray t)) := ⟨w.heap.size, rfl, StA.new w vs t, hG.size⟩
end Go.Proofs.Ytpijcgohhjgdbaa
