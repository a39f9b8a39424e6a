/-
  One operation, on plain values, that writes nothing: what it yields; and that it does so in every memory.
-/
import Derived.Test.YtpijcgohhjgdbaaEng1
import Derived.Deep.MidRow
namespace Go.Proofs.Ytpijcgohhjgdbaa
set_option maxRecDepth 100000
open Go.RowKit
set_option linter.unusedVariables false
set_option linter.unusedSimpArgs false

/-- A run that asks nothing of memory. -/
def pureRun (P : Program) {α : Type} : Sem α → Option α
  | .pure a => some a
  | .program k => pureRun P (k P)
  | .mark _ k => pureRun P k
  | _ => none
theorem pureRun_run {P : Program} {α : Type} {s : Sem α} {a : α} (h : pureRun P s = some a) (w : World) : s.run P w = .ok a w := by
  induction s with
  | pure b => simp only [pureRun, Option.some.injEq] at h; subst h; rfl
  | program k ih => exact ih P h
  | mark m k ih => exact ih h
  | _ => simp [pureRun] at h
theorem pureRun_bind {P : Program} {α β : Type} (s : Sem α) (f : α → Sem β) : pureRun P (s.bind f) = (pureRun P s).bind fun a => pureRun P (f a) := by
  induction s with
  | pure b => rfl
  | program k ih => exact ih P
  | mark m k ih => exact ih
  | _ => rfl
theorem pureRun_bind' {P : Program} {α β : Type} (s : Sem α) (f : α → Sem β) : pureRun P (s >>= f) = (pureRun P s).bind fun a => pureRun P (f a) := pureRun_bind s f
theorem pureRun_pure {P : Program} {α : Type} (a : α) : pureRun P (pure a : Sem α) = some a := rfl

def AV.isC : AV → Bool
  | .c _ => true
  | _ => false
def AV.val : AV → Value
  | .c v => v
  | _ => undef
theorem Rel.isC {w : World} {B : List Nat} {η : List Value} {x : AV} {v : Value} (h : Rel w B η x v) (hc : x.isC = true) : v = x.val := by
  cases h <;> simp_all [AV.isC, AV.val]
theorem Rel.ofC {w : World} {B : List Nat} {η : List Value} {v u : Value} (h : Rel w B η (.c v) u) : u = v := by cases h; rfl
/-- The cells of a value. -/
def AV.toL : AV → List AV
  | .agg l => l
  | .c (.agg cs) => cs.toList.map .c
  | x => [x]
theorem Rel.toL {w : World} {B : List Nat} {η : List Value} {x : AV} {v : Value} (h : Rel w B η x v) (hnt : ∀ l, x ≠ .tup l) : RelL w B η x.toL v.cells.toList := by
  cases h with
  | c v =>
    cases v with
    | agg cs => exact ⟨by simp [AV.toL, Value.cells], fun i y hy => by
        simp only [AV.toL, List.getElem?_map, Option.map_eq_some_iff] at hy
        obtain ⟨u, hu, rfl⟩ := hy
        exact ⟨u, by simpa [Value.cells] using hu, .c _ _⟩⟩
    | _ => exact RelL.cons (.c _ _) (RelL.nil _ _ _)
  | agg _ l cs us hs hu hr =>
    exact ⟨by simp [AV.toL, Value.cells, hs], fun i y hy => ⟨us i, by simpa [Value.cells] using hu i y hy, hr i y hy⟩⟩
  | tup => exact absurd rfl (hnt _)
  | sl _ l k A n c us hk hn hc hm hA hr => exact RelL.cons (.sl _ l k A n c us hk hn hc hm hA hr) (RelL.nil _ _ _)
  | fresh _ l k A n us hk hn h0 hm hA hr => exact RelL.cons (.fresh _ l k A n us hk hn h0 hm hA hr) (RelL.nil _ _ _)
  | emp _ A => exact RelL.cons (.emp _ A) (RelL.nil _ _ _)
  | adr _ l ad us ha hr => exact RelL.cons (.adr _ l ad us ha hr) (RelL.nil _ _ _)
  | box _ id off b h => exact RelL.cons (.box _ id off b h) (RelL.nil _ _ _)
  | own _ id a n c h => exact RelL.cons (.own _ id a n c h) (RelL.nil _ _ _)
  | oadr _ id off b o n c h => exact RelL.cons (.oadr _ id off b o n c h) (RelL.nil _ _ _)

/-- The operation is of values that stand as they are. -/
def evDef (P : Program) (ρ : Operand → AV) (o : Oper) : Option AV :=
  if o.op.operands.toList.all (fun x => (ρ x).isC) then
    match pureRun P (execOp (fun x => (ρ x).val) o) with
    | some (.value v) => some (.c v)
    | _ => none
  else none
def addOff : AV → Nat → Option AV
  | .box i o, n => some (.box i (o + n))
  | .oadr i o, n => some (.oadr i (o + n))
  | .adr l, n => some (.adr (l.drop n))
  | _, _ => none
/-- The cells from an address on. -/
def cellsA (H : List Ent) : AV → Option (List AV)
  | .adr l => some l
  | .box id off => match H[id]? with | some (.box cells _) => some (cells.drop off) | _ => none
  | .oadr id off => match H[id]? with | some (.own cells _ _) => some (cells.drop off) | _ => none
  | _ => none
def rowT (P : Program) (t : TypeId) : Option Bool := match P.underlying t with
  | some (.struct _) | some (.array _ _) => some true
  | some _ => some false
  | none => none
def loadA (P : Program) (H : List Ent) (t : TypeId) (x : AV) : Option AV :=
  match cellsA H x, rowT P t with
  | some l, some true => if P.cellsOf t ≤ l.length then some (.agg (l.take (P.cellsOf t))) else none
  | some l, some false => l.head?
  | _, _ => none
def partA (P : Program) (t : TypeId) (l : List AV) (off : Nat) : Option AV :=
  match rowT P t with
  | some true => if off + P.cellsOf t ≤ l.length then some (.agg ((l.drop off).take (P.cellsOf t))) else none
  | some false => l[off]?
  | none => none
def intA : AV → Option Int
  | .c (.int _ n) => some n
  | _ => none
def fieldP (P : Program) (s : TypeId) (f : Nat) : Option Field := match P.underlying s with
  | some (.struct fs) => fs[f]?
  | _ => none
/-- The bytes of cells. -/
def byteAV (b : UInt8) : AV := .c (bv b)
def toB : AV → Option UInt8
  | .c (.int .u8 n) => if 0 ≤ n ∧ n < 256 then some (UInt8.ofNat n.toNat) else none
  | _ => none
def toBs : List AV → Option (List UInt8)
  | [] => some []
  | x :: l => match toB x, toBs l with | some b, some bs => some (b :: bs) | _, _ => none
theorem toB_byte (b : UInt8) : toB (byteAV b) = some b := by
  have := b.toNat_lt
  simp [toB, byteAV, bv]; omega
theorem toBs_map (bs : List UInt8) : toBs (bs.map byteAV) = some bs := by
  induction bs with
  | nil => rfl
  | cons b bs ih => simp [toBs, toB_byte, ih]
theorem toB_eq {x : AV} {b : UInt8} (h : toB x = some b) : x = byteAV b := by
  unfold toB at h
  split at h
  · split at h
    · injection h with h
      subst h
      rename_i n hn
      simp only [byteAV, bv, AV.c.injEq, Value.int.injEq, true_and]
      rw [UInt8.toNat_ofNat']; omega
    · cases h
  · cases h
theorem toBs_eq {l : List AV} {bs : List UInt8} (h : toBs l = some bs) : l = bs.map byteAV := by
  induction l generalizing bs with
  | nil => simp [toBs] at h; subst h; rfl
  | cons x l ih =>
    simp only [toBs] at h
    split at h
    · rename_i b bs' h1 h2
      injection h with h; subst h
      rw [List.map_cons, ← ih h2, ← toB_eq h1]
    · cases h

section
variable {P : Program} {w : World} {B : List Nat} {η : List Value} {H : List Ent}
theorem rowT_isAgg {t : TypeId} {b : Bool} (h : rowT P t = some b) (w : World) : (isAgg t).run P w = .ok b w ∧ ∃ d, P.underlying t = some d ∧ d.isRow = b := by
  unfold rowT at h
  cases hu : P.underlying t with
  | none => rw [hu] at h; cases h
  | some d =>
    rw [hu] at h
    have hb : d.isRow = b := by cases d <;> simp_all [TypeDesc.isRow]
    refine ⟨?_, d, rfl, hb⟩
    unfold isAgg
    rw [Sem.run_bind, run_underlying hu w]
    subst hb
    cases d <;> rfl
theorem info_of {t : TypeId} {d : TypeDesc} (h : P.underlying t = some d) : ∃ i, P.info? t = some i ∧ i.size = P.cellsOf t := by
  unfold Program.underlying at h
  cases hi : P.info? t with
  | none => rw [hi] at h; cases h
  | some i => exact ⟨i, rfl, by simp [Program.cellsOf, hi]⟩
theorem run_sizeOf {t : TypeId} {i : TypeInfo} (h : P.info? t = some i) (w : World) : (sizeOf t).run P w = .ok i.size w := by
  simp [sizeOf, typeInfo, h]
theorem At.shift {ad : Addr} {len : Nat} {us : Nat → Value} (h : At w B ad len us) (n : Nat) : At w B (ad.add n) (len - n) (fun i => us (n + i)) :=
  ⟨by unfold Addr.add; split <;> simp [h.spot], by rw [block_of_add]; exact h.lt, by rw [block_of_add]; exact h.out, fun i hi => by
    have := h.cell (n + i) (by omega)
    rw [← this]
    congr 1
    obtain ⟨b, o, s⟩ := ad
    have hs : s = none := h.spot
    subst hs
    simp [Addr.add_mid, Nat.add_assoc]⟩
theorem addr_mk {ad : Addr} (h : ad.spot = none) : ad = ⟨ad.block, ad.off, none⟩ := by obtain ⟨b, o, s⟩ := ad; simp at h; subst h; rfl

/-- An address, and the cells from it on. -/
theorem cellsA_spec {n0 : Nat} {Bx : List Nat} (inv : Inv n0 Bx w B η H) {x : AV} {v : Value} {l : List AV} (hx : Rel w B η x v) (h : cellsA H x = some l) :
    ∃ b o us, v = .pointer (some ⟨b, o, none⟩) ∧ w.rangeAt b o us ∧ RelL w B η l us := by
  cases hx with
  | adr _ l' ad us ha hr =>
    simp only [cellsA, Option.some.injEq] at h; subst h
    obtain ⟨b, o, sp⟩ := ad
    obtain rfl : sp = none := ha.spot
    refine ⟨b, o, (List.range l'.length).map us, rfl, fun j v hj => ?_, by simp, fun i y hy => ?_⟩
    · have hj' : j < l'.length := by have := (List.getElem?_eq_some_iff.1 hj).1; simpa using this
      have := ha.cell j hj'
      rw [Addr.add_mid] at this
      rw [this]
      simp [hj'] at hj
      rw [hj]
    · have hi : i < l'.length := (List.getElem?_eq_some_iff.1 hy).1
      exact ⟨us i, by simp [hi], (hr i y hy).any⟩
  | box _ id off b hb =>
    simp only [cellsA] at h
    split at h
    · rename_i cells T hH
      injection h with h; subst h
      have he := inv.ent id _ hH
      have hg : η.getD id undef = .pointer (some ⟨b, 0, none⟩) := by simp [List.getD_eq_getElem?_getD, hb]
      rw [hg] at he
      obtain ⟨b', us, h1, h2, h3, h4, h5, h6⟩ := he
      obtain rfl : b = b' := by simpa using h1
      refine ⟨b, off, us.drop off, rfl, fun j v hj => ?_, h6.drop off⟩
      rw [List.getElem?_drop] at hj
      rw [cell_of_row w b _ us.toArray T (0, 0) h5]
      simpa using hj
    · cases h
  | oadr _ id off b o n c hb =>
    simp only [cellsA] at h
    split at h
    · rename_i cells E k hH
      injection h with h; subst h
      have he := inv.ent id _ hH
      have hg : η.getD id undef = .slice (some ⟨b, o, none⟩) n c := by simp [List.getD_eq_getElem?_getD, hb]
      rw [hg] at he
      obtain ⟨n', us, h1, h2, h3, h4⟩ := he
      obtain rfl := h1.len
      refine ⟨b, o + off, us.drop off, rfl, fun j v hj => ?_, h2.drop off⟩
      rw [List.getElem?_drop] at hj
      rw [Nat.add_assoc]
      exact h1.cells (off + j) v hj
    · cases h
  | _ => simp [cellsA] at h
end
end Go.Proofs.Ytpijcgohhjgdbaa
