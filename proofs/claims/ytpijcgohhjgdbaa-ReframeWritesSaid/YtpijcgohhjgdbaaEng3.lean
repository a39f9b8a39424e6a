/-
  One operation, on plain values: soundness, kind by kind.
-/
import Derived.Test.YtpijcgohhjgdbaaEng2
namespace Go.Proofs.Ytpijcgohhjgdbaa
set_option maxRecDepth 100000
open Go.RowKit
set_option linter.unusedVariables false
set_option linter.unusedSimpArgs false

/-- The operation yields r, and the world has only grown. -/
def OpOK (P : Program) (n0 : Nat) (w : World) (ρ : Operand → Value) (o : Oper) (B : List Nat) (η : List Value) (r : AV) : Prop :=
  ∀ N : Value → World → Prop, (∀ v w', Gk n0 B w w' → Rel w' B η r v → N v w') → Oper.val P ρ o w N

section
variable {P : Program} {n0 : Nat} {w : World} {B : List Nat} {η : List Value} {H : List Ent} {ρ : Operand → Value} {ρA : Operand → AV} {o : Oper}
theorem OpOK.of_run {r : AV} {v : Value} (h : (execOp ρ o).run P w = .ok (.value v) w) (hr : Rel w B η r v) : OpOK P n0 w ρ o B η r := by
  intro N hN
  unfold Oper.val
  rw [h]
  exact hN v w (Gk.refl _ _ w) hr
theorem evDef_ok (hs : ∀ cs b, o.op ≠ .select cs b) (he : ∀ x ∈ o.op.operands, Rel w B η (ρA x) (ρ x)) {r : AV} (h : evDef P ρA o = some r) : OpOK P n0 w ρ o B η r := by
  unfold evDef at h
  split at h
  · rename_i ha
    split at h
    · rename_i v hv
      injection h with h; subst h
      have : execOp ρ o = execOp (fun x => (ρA x).val) o := execOp_congr o hs (fun x hx => (he x hx).isC (List.all_eq_true.1 ha x (by simpa using hx)))
      exact .of_run (by rw [this]; exact pureRun_run hv w) (.c _ _)
    · cases h
  · cases h
theorem move_ok (he : ∀ x ∈ o.op.operands, Rel w B η (ρA x) (ρ x)) {x : Operand} (ho : o.op = .move x ∨ o.op = .assign x) : OpOK P n0 w ρ o B η (ρA x) := by
  refine .of_run (v := ρ x) ?_ (he x (by rcases ho with ho | ho <;> simp [ho, Op.operands]))
  rcases ho with ho | ho <;> simp [execOp, ho]
theorem pick_ok (he : ∀ x ∈ o.op.operands, Rel w B η (ρA x) (ρ x)) {c a b : Operand} {t : Bool} (ho : o.op = .pick c a b) (hc : ρA c = .c (.bool t)) : OpOK P n0 w ρ o B η (cond t (ρA a) (ρA b)) := by
  have h1 : ρ c = .bool t := by have := he c (by simp [ho, Op.operands]); rw [hc] at this; exact this.ofC
  cases t with
  | true => exact .of_run (v := ρ a) (by simp [execOp, ho, h1, asBool]) (he a (by simp [ho, Op.operands]))
  | false => exact .of_run (v := ρ b) (by simp [execOp, ho, h1, asBool]) (he b (by simp [ho, Op.operands]))
theorem nilCheck_ok (he : ∀ x ∈ o.op.operands, Rel w B η (ρA x) (ρ x)) {x : Operand} (ho : o.op = .nilCheck x) (hx : (∃ i n, ρA x = .box i n) ∨ (∃ l, ρA x = .adr l) ∨ (∃ i n, ρA x = .oadr i n)) : OpOK P n0 w ρ o B η (ρA x) := by
  have h := he x (by simp [ho, Op.operands])
  have : ∃ ad, ρ x = .pointer (some ad) := by
    generalize ρ x = v at h
    rcases hx with ⟨i, n, hx⟩ | ⟨l, hx⟩ | ⟨i, n, hx⟩ <;> rw [hx] at h <;> cases h <;> exact ⟨_, rfl⟩
  obtain ⟨ad, hv⟩ := this
  exact .of_run (v := ρ x) (by simp [execOp, ho, hv]) h
theorem addOff_spec {x r : AV} {v : Value} {n : Nat} (hx : Rel w B η x v) (h : addOff x n = some r) : ∃ ad, v = .pointer (some ad) ∧ Rel w B η r (.pointer (some (ad.add n))) := by
  cases hx with
  | adr _ l ad us ha hr =>
    simp only [addOff, Option.some.injEq] at h; subst h
    refine ⟨ad, rfl, .adr _ _ _ (fun i => us (n + i)) ?_ (fun i x hx => hr (n + i) x (by rw [List.getElem?_drop] at hx; exact hx))⟩
    rw [List.length_drop]; exact ha.shift n
  | box _ id off b hb =>
    simp only [addOff, Option.some.injEq] at h; subst h
    exact ⟨_, rfl, by rw [Addr.add_mid]; exact .box _ _ _ _ hb⟩
  | oadr _ id off b o m c hb =>
    simp only [addOff, Option.some.injEq] at h; subst h
    exact ⟨_, rfl, by rw [Addr.add_mid, Nat.add_assoc]; exact .oadr _ _ _ _ _ _ _ hb⟩
  | _ => simp [addOff] at h
theorem fieldP_spec {s : TypeId} {f : Nat} {fd : Field} (h : fieldP P s f = some fd) : ∃ fs, P.underlying s = some (.struct fs) ∧ fs[f]? = some fd := by
  unfold fieldP at h
  split at h
  · exact ⟨_, by assumption, h⟩
  · cases h
theorem cells_info {t : TypeId} (h : P.cellsOf t ≠ 0) : ∃ i, P.info? t = some i ∧ i.size = P.cellsOf t := by
  unfold Program.cellsOf at h ⊢
  cases hi : P.info? t with
  | none => rw [hi] at h; simp at h
  | some i => exact ⟨i, rfl, by simp⟩
theorem fieldAddr_ok (he : ∀ x ∈ o.op.operands, Rel w B η (ρA x) (ρ x)) {s : TypeId} {x : Operand} {f : Nat} {fd : Field} {r : AV} (ho : o.op = .fieldAddr s x f) (hf : fieldP P s f = some fd) (hc : P.cellsOf fd.type ≠ 0) (h : addOff (ρA x) fd.offset = some r) : OpOK P n0 w ρ o B η r := by
  obtain ⟨fs, hu, hfs⟩ := fieldP_spec hf
  obtain ⟨ad, hv, hr⟩ := addOff_spec (he x (by simp [ho, Op.operands])) h
  obtain ⟨i, hi, hs⟩ := cells_info hc
  refine .of_run (v := .pointer (some (ad.add fd.offset))) ?_ hr
  have hz : (fieldPlace ad fd).run P w = .ok (ad.add fd.offset) w := by
    unfold fieldPlace
    rw [Sem.run_bind, run_sizeOf hi]
    simp only [Result.andThen_ok]
    rw [if_neg (by rw [hs]; exact hc)]
    rfl
  simp [execOp, ho, Instr.fieldAt, Sem.run_bind, run_underlying hu, hfs, hv, Instr.sureAddr, hz]
theorem loadA_run {Bx : List Nat} (inv : Inv n0 Bx w B η H) {t : TypeId} {x r : AV} {v : Value} (hx : Rel w B η x v) (h : loadA P H t x = some r) : ∃ ad u, v = .pointer (some ad) ∧ (loadVar t ad).run P w = .ok u w ∧ Rel w B η r u := by
  unfold loadA at h
  split at h
  · rename_i l b hl hrow
    rename_i hb
    split at h
    · rename_i hle
      injection h with h; subst h
      obtain ⟨bl, of, us, hv, hus, hrel⟩ := cellsA_spec inv hx hl
      obtain ⟨_, d, hu, hd⟩ := rowT_isAgg hrow w
      obtain ⟨i, hi, hs⟩ := info_of hu
      have hlen : (us.take (P.cellsOf t)).length = P.cellsOf t := by rw [List.length_take, hrel.1]; omega
      have hrun := run_loadVar_mid (P := P) w bl of t (us.take (P.cellsOf t)) d (fun j v hj => hus j v (by rw [List.getElem?_take] at hj; split at hj; exact hj; cases hj)) hu hd (by rw [hi]; simp [hs, hlen])
      refine ⟨_, .agg (us.take (P.cellsOf t)).toArray, hv, hrun, ?_⟩
      have hr2 := hrel.take (P.cellsOf t)
      exact .agg _ _ _ (fun i => (us.take (P.cellsOf t)).getD i undef) (by simp [hr2.1]) (fun i y hy => by
        obtain ⟨u, h1, h2⟩ := hr2.2 i y hy
        simp [List.getD_eq_getElem?_getD, h1]) (fun i y hy => by
        obtain ⟨u, h1, h2⟩ := hr2.2 i y hy
        simpa [List.getD_eq_getElem?_getD, h1] using h2)
    · cases h
  · rename_i l hl hrow
    obtain ⟨bl, of, us, hv, hus, hrel⟩ := cellsA_spec inv hx hl
    obtain ⟨hagg, _⟩ := rowT_isAgg hrow w
    cases l with
    | nil => cases h
    | cons y l =>
      simp only [List.head?_cons, Option.some.injEq] at h; subst h
      obtain ⟨u, h1, h2⟩ := hrel.2 0 y rfl
      have hcell := hus 0 u h1
      rw [Nat.add_zero] at hcell
      refine ⟨_, u, hv, ?_, h2⟩
      simp [loadVar, Sem.run_bind, hagg, load, Sem.run, hcell]
  · cases h
theorem loadA_ok {Bx : List Nat} (inv : Inv n0 Bx w B η H) (he : ∀ x ∈ o.op.operands, Rel w B η (ρA x) (ρ x)) {t : TypeId} {x : Operand} {r : AV} (ho : o.op = .load t x) (h : loadA P H t (ρA x) = some r) : OpOK P n0 w ρ o B η r := by
  obtain ⟨ad, u, hv, hrun, hr⟩ := loadA_run (P := P) inv (he x (by simp [ho, Op.operands])) h
  exact .of_run (v := u) (by simp [execOp, ho, hv, Instr.loadAt, Instr.sureAddr, Sem.run_bind, hrun]) hr
theorem partA_run {t : TypeId} {l : List AV} {cs : Array Value} {off : Nat} {r : AV} (hl : RelL w B η l cs.toList) (h : partA P t l off = some r) : ∃ v, (part t cs off).run P w = .ok v w ∧ Rel w B η r v := by
  unfold partA at h
  split at h
  · rename_i hrow
    split at h
    · rename_i hle
      injection h with h; subst h
      obtain ⟨hagg, d, hu, hd⟩ := rowT_isAgg hrow w
      obtain ⟨i, hi, hs⟩ := info_of hu
      have hr2 := (hl.drop off).take (P.cellsOf t)
      have hcs : (cs.extract off (off + P.cellsOf t)).toList = (cs.toList.drop off).take (P.cellsOf t) := by
        rw [Array.toList_extract, List.extract_eq_take_drop]; simp
      refine ⟨.agg (cs.extract off (off + P.cellsOf t)), ?_, ?_⟩
      · simp [part, Sem.run_bind, hagg, run_sizeOf hi, hs]
      · exact .agg _ _ _ (fun i => ((cs.toList.drop off).take (P.cellsOf t)).getD i undef) (by rw [← Array.length_toList, hcs, hr2.1]) (fun i y hy => by
          obtain ⟨u, h1, h2⟩ := hr2.2 i y hy
          rw [← Array.getElem?_toList, hcs]
          simp [List.getD_eq_getElem?_getD, h1]) (fun i y hy => by
          obtain ⟨u, h1, h2⟩ := hr2.2 i y hy
          simpa [List.getD_eq_getElem?_getD, h1] using h2)
    · cases h
  · rename_i hrow
    obtain ⟨hagg, _⟩ := rowT_isAgg hrow w
    obtain ⟨u, h1, h2⟩ := hl.2 off r h
    refine ⟨u, ?_, h2⟩
    have : cs[off]? = some u := by simpa using h1
    simp [part, Sem.run_bind, hagg, this]
  · cases h
theorem Rel.aggL {l : List AV} {v : Value} (h : Rel w B η (.agg l) v) : ∃ cs, v = .agg cs ∧ RelL w B η l cs.toList := by
  cases h with
  | agg _ _ cs us hs hu hr => exact ⟨cs, rfl, by simp [hs], fun i x hx => ⟨us i, by simpa using hu i x hx, hr i x hx⟩⟩
theorem field_ok (he : ∀ x ∈ o.op.operands, Rel w B η (ρA x) (ρ x)) {s : TypeId} {x : Operand} {f : Nat} {fd : Field} {l : List AV} {r : AV} (ho : o.op = .field s x f) (hf : fieldP P s f = some fd) (hx : ρA x = .agg l) (h : partA P fd.type l fd.offset = some r) : OpOK P n0 w ρ o B η r := by
  obtain ⟨fs, hu, hfs⟩ := fieldP_spec hf
  have h0 := he x (by simp [ho, Op.operands])
  rw [hx] at h0
  obtain ⟨cs, hv, hl⟩ := h0.aggL
  obtain ⟨v, h1, h2⟩ := partA_run (P := P) hl h
  exact .of_run (v := v) (by simp [execOp, ho, Instr.field, Sem.run_bind, run_underlying hu, hfs, hv, asAgg, h1]) h2
theorem index_ok (he : ∀ x ∈ o.op.operands, Rel w B η (ρA x) (ρ x)) {t e : TypeId} {x i : Operand} {m : Nat} {k : IntKind} {n : Int} {l : List AV} {r : AV} (ho : o.op = .index t x i) (hu : P.underlying t = some (.array m e)) (hx : ρA x = .agg l) (hi : ρA i = .c (.int k n)) (h0 : 0 ≤ n ∧ n < m) (hc : P.cellsOf e ≠ 0) (h : partA P e l (n.toNat * P.cellsOf e) = some r) : OpOK P n0 w ρ o B η r := by
  have h1 := he x (by simp [ho, Op.operands])
  rw [hx] at h1
  obtain ⟨cs, hv, hl⟩ := h1.aggL
  have h2 := he i (by simp [ho, Op.operands])
  rw [hi] at h2
  have h2 := h2.ofC
  obtain ⟨v, h3, h4⟩ := partA_run (P := P) hl h
  obtain ⟨ii, hii, hs⟩ := cells_info hc
  refine .of_run (v := v) ?_ h4
  simp [execOp, ho, Instr.index, Sem.run_bind, run_underlying hu, hv, h2, asIntOf, h0, run_sizeOf hii, hs, h3]
theorem extract_ok (he : ∀ x ∈ o.op.operands, Rel w B η (ρA x) (ρ x)) {x : Operand} {i : Nat} {l : List AV} {r : AV} (ho : o.op = .extract x i) (hx : ρA x = .tup l) (h : l[i]? = some r) : OpOK P n0 w ρ o B η r := by
  have h1 := he x (by simp [ho, Op.operands])
  rw [hx] at h1
  generalize hv : ρ x = v at h1
  cases h1 with
  | tup _ _ cs us hs hu hr =>
    exact .of_run (v := us i) (by simp [execOp, ho, hv, Instr.extract, hu i r h]) (hr i r h)
end
end Go.Proofs.Ytpijcgohhjgdbaa
