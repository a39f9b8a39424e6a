/-
  Slices that are built; bytes as a text, a text as bytes; slices against nil.
-/
import Derived.Test.YtpijcgohhjgdbaaEng4c
namespace Go.Proofs.Ytpijcgohhjgdbaa
set_option maxRecDepth 100000
open Go.RowKit
set_option linter.unusedVariables false
set_option linter.unusedSimpArgs false

/-- What a slice is of: its elements' type, how many cells each has, and these at first. -/
def sliT (P : Program) (t : TypeId) : Option (TypeId × Nat × List Value) :=
  match P.underlying t with
  | some (.slice e) => (match P.info? e with
    | some i => (match i.zero with
      | some z => if z.cells.size = i.size ∧ 1 ≤ i.size then some (e, i.size, z.cells.toList) else none
      | none => none)
    | none => none)
  | _ => none
def repL (n : Nat) (z : List Value) : List Value := (List.replicate n z).flatten
def buildSlA (P : Program) (t : TypeId) (len : Nat) (parts : List (Nat × AV)) : Option AV :=
  match sliT P t with
  | some (_, k, z) => if len * k ≤ 16777216 then (match fillA (fun i => some (i * k, k)) ((repL len z).map .c) parts with
    | some l => if l.all AV.imm0 = true then some (.sl l k) else none
    | none => none) else none
  | none => none
section
variable {P : Program} {n0 : Nat} {w : World} {B : List Nat} {η : List Value} {H : List Ent} {ρ : Operand → Value} {ρA : Operand → AV} {o : Oper}
theorem sliT_spec {t e k : Nat} {z : List Value} (h : sliT P t = some (e, k, z)) : ∃ i zv, P.underlying t = some (.slice e) ∧ P.info? e = some i ∧ i.zero = some zv ∧ i.size = k ∧ zv.cells.toList = z ∧ z.length = k ∧ 1 ≤ k := by
  unfold sliT at h
  split at h
  · rename_i e' hu
    split at h
    · rename_i i hi
      split at h
      · rename_i zv hz
        split at h
        · rename_i hc
          injection h with h; injection h with h1 h2; injection h2 with h2 h3; subst h1 h2 h3
          exact ⟨i, zv, hu, hi, hz, rfl, rfl, by simpa using hc.1, hc.2⟩
        · cases h
      · cases h
    · cases h
  · cases h
theorem repL_length (n : Nat) (z : List Value) : (repL n z).length = n * z.length := by
  simp [repL, List.length_flatten]
theorem repL_get : ∀ (n : Nat) (z : List Value) (j : Nat), j < n * z.length → (repL n z)[j]? = z[j % z.length]?
  | 0, z, j, h => by simp at h
  | n + 1, z, j, h => by
    have e : repL (n + 1) z = z ++ repL n z := by simp [repL, List.replicate_succ]
    rw [e]
    rcases Nat.lt_or_ge j z.length with hj | hj
    · rw [List.getElem?_append_left hj, Nat.mod_eq_of_lt hj]
    · rw [List.getElem?_append_right hj, repL_get n z (j - z.length) (by rw [Nat.add_mul] at h; omega)]
      rw [Nat.mod_eq_sub_mod hj]
theorem made_repL (z : Array Value) (n : Nat) (hz : 0 < z.size) : (madeCells z (n * z.size)).toList = repL n z.toList := by
  apply List.ext_getElem?
  intro j
  rcases Nat.lt_or_ge j (n * z.size) with hj | hj
  · rw [repL_get n z.toList j (by simpa using hj)]
    have hm : j % z.size < z.size := Nat.mod_lt _ hz
    simp [madeCells, hj, hm]
  · rw [List.getElem?_eq_none (by simpa [size_madeCells] using hj), List.getElem?_eq_none (by rw [repL_length]; simpa using hj)]
theorem buildSl_raw (hlt : ∀ b ∈ B, b < w.heap.size) (he : ∀ x ∈ o.op.operands, Rel w B η (ρA x) (ρ x)) {t : TypeId} {len : Nat} {parts : Array (Nat × Operand)} {r : AV} (ho : o.op = .buildSlice t len parts) (hm : len ≤ maxLen) (h : buildSlA P t len (partsA ρA parts) = some r) (N : Value → World → Prop) (hN : ∀ v w', Gr w w' → Rel w' B η r v → (∀ ad n c, v = .slice (some ad) n c → w.heap.size ≤ ad.block) → (∃ A, v = .slice A len len) → N v w') : Oper.val P ρ o w N := by
  obtain ⟨hl, hp⟩ := parts_rel he (parts := parts) (fun p hp => by rw [ho]; simp [Op.operands]; exact ⟨p.1, by simpa using hp⟩)
  unfold buildSlA at h
  split at h
  · rename_i e k z hs
    obtain ⟨i, zv, hu, hi, hz, hsz, hzc, hzl, hk⟩ := sliT_spec hs
    split at h
    · rename_i hle
      split at h
      · rename_i l hfill
        split at h
        · rename_i himm
          injection h with h; subst h
          have hzs : zv.cells.size = k := by rw [← hzl, ← hzc]; simp
          have hbase : RelL w B η ((repL len z).map .c) (madeCells zv.cells (len * k)).toList := by
            have : (madeCells zv.cells (len * k)).toList = repL len z := by rw [← hzc, ← hzs]; exact made_repL _ _ (by omega)
            rw [this]; exact relL_c _
          obtain ⟨cs, h1, h2⟩ := fill_ok (place := fun i => some (i * k, k)) _ _ _ _ _ hbase hl hp hfill
          unfold Oper.val
          have hrun : (execOp ρ o).run P w = .ok (.value (.slice (some ⟨w.heap.size, 0, none⟩) len len)) (w.alloc (.cells cs e)) := by
            have h0 : len = 0 ∨ 0 < len := by omega
            simp only [execOp, ho, Instr.buildSlice, Sem.run_bind, run_underlying hu, Result.andThen_ok, run_sizeOf hi, hsz]
            rw [if_neg (by omega)]
            by_cases h00 : len * k = 0
            · have hm0 : (Array.range 0).map ((#[] : Array Value)[· % (#[] : Array Value).size]!) = madeCells zv.cells (len * k) := by rw [h00]; simp [madeCells]
              simp only [h00, if_true, Sem.run_bind, Sem.run_pure, Result.andThen_ok]
              rw [hm0, h1]
              rfl
            · have hm0 : (Array.range (len * k)).map (zv.cells[· % zv.cells.size]!) = madeCells zv.cells (len * k) := rfl
              have hzr : (zeroValue e).run P w = .ok zv w := by simp [zeroValue, typeInfo, hi, hz, Sem.run_bind]
              simp only [h00, if_false, Sem.run_bind, hzr, Sem.run_pure, Result.andThen_ok]
              rw [hm0, h1]
              rfl
          rw [hrun]
          have g : Gr w (w.alloc (.cells cs e)) := gr_alloc (Gr.refl w) _
          have hcl : cs.toList.length = len * k := by
            rw [h2.1]
            have : ∀ (parts : List (Nat × AV)) (cells l : List AV), fillA (fun i => some (i * k, k)) cells parts = some l → l.length = cells.length := by
              intro parts
              induction parts with
              | nil => intro cells l h; simp only [fillA, Option.some.injEq] at h; subst h; rfl
              | cons p rest ih =>
                obtain ⟨j, x⟩ := p
                intro cells l h
                simp only [fillA] at h
                split at h
                · rename_i hc
                  rw [ih _ _ h]
                  simp [putL]; omega
                · cases h
            rw [this _ _ _ hfill]; simp [repL_length, hzl]
          refine hN _ _ g (.sl _ _ _ _ _ _ (fun i => cs.toList.getD i undef) hk (by rw [← h2.1, hcl]) (Nat.le_refl _) hm (fun _ => ⟨_, rfl, rfl, by simp, fun hb => ?_, fun j hj => ?_⟩) (fun j x hx => ?_)) (fun ad n c hh => by injection hh with hh; injection hh with hh; subst hh; exact Nat.le_refl _) ⟨_, rfl⟩
          · have := hlt _ hb; simp at this
          · have hj' : j < cs.toList.length := by rw [h2.1]; exact hj
            rw [Addr.add_mid, Nat.zero_add, cell_of_row (w.alloc (.cells cs e)) w.heap.size j cs e (0, 0) (by show (w.heap.push _)[w.heap.size]? = _; simp)]
            rw [← Array.getElem?_toList, List.getElem?_eq_getElem hj', List.getD_eq_getElem?_getD, List.getElem?_eq_getElem hj', Option.getD_some]
          · obtain ⟨u, q1, q2⟩ := h2.2 j x hx
            rw [List.getD_eq_getElem?_getD, q1, Option.getD_some]
            exact ((q2.bare0 (List.all_eq_true.1 himm x (List.mem_of_getElem? hx))) : Rel w B [] x u).gr g
        · cases h
      · cases h
    · cases h
  · cases h
theorem buildSl_own (he : ∀ x ∈ o.op.operands, Rel w B η (ρA x) (ρ x)) {t : TypeId} {len k e : Nat} {z : List Value} {parts : Array (Nat × Operand)} {l : List AV} (ho : o.op = .buildSlice t len parts) (hs : sliT P t = some (e, k, z)) (hle : len * k ≤ 16777216) (hfill : fillA (fun i => some (i * k, k)) ((repL len z).map .c) (partsA ρA parts) = some l) (N : Value → World → Prop)
    (hN : ∀ cs : Array Value, Gr w (w.alloc (.cells cs e)) → cs.size = len * k → RelL w B η l cs.toList → N (.slice (some ⟨w.heap.size, 0, none⟩) len len) (w.alloc (.cells cs e))) : Oper.val P ρ o w N := by
  obtain ⟨hl, hp⟩ := parts_rel he (parts := parts) (fun p hp => by rw [ho]; simp [Op.operands]; exact ⟨p.1, by simpa using hp⟩)
  obtain ⟨i, zv, hu, hi, hz, hsz, hzc, hzl, hk⟩ := sliT_spec hs
  have hzs : zv.cells.size = k := by rw [← hzl, ← hzc]; simp
  have hbase : RelL w B η ((repL len z).map .c) (madeCells zv.cells (len * k)).toList := by
    have : (madeCells zv.cells (len * k)).toList = repL len z := by rw [← hzc, ← hzs]; exact made_repL _ _ (by omega)
    rw [this]; exact relL_c _
  obtain ⟨cs, h1, h2⟩ := fill_ok (place := fun i => some (i * k, k)) _ _ _ _ _ hbase hl hp hfill
  unfold Oper.val
  have hrun : (execOp ρ o).run P w = .ok (.value (.slice (some ⟨w.heap.size, 0, none⟩) len len)) (w.alloc (.cells cs e)) := by
    have h0 : len = 0 ∨ 0 < len := by omega
    simp only [execOp, ho, Instr.buildSlice, Sem.run_bind, run_underlying hu, Result.andThen_ok, run_sizeOf hi, hsz]
    rw [if_neg (by omega)]
    by_cases h00 : len * k = 0
    · have hm0 : (Array.range 0).map ((#[] : Array Value)[· % (#[] : Array Value).size]!) = madeCells zv.cells (len * k) := by rw [h00]; simp [madeCells]
      simp only [h00, if_true, Sem.run_bind, Sem.run_pure, Result.andThen_ok]
      rw [hm0, h1]
      rfl
    · have hm0 : (Array.range (len * k)).map (zv.cells[· % zv.cells.size]!) = madeCells zv.cells (len * k) := rfl
      have hzr : (zeroValue e).run P w = .ok zv w := by simp [zeroValue, typeInfo, hi, hz, Sem.run_bind]
      simp only [h00, if_false, Sem.run_bind, hzr, Sem.run_pure, Result.andThen_ok]
      rw [hm0, h1]
      rfl
  rw [hrun]
  have g : Gr w (w.alloc (.cells cs e)) := gr_alloc (Gr.refl w) _
  have hcl : cs.toList.length = len * k := by
    rw [h2.1]
    have : ∀ (parts : List (Nat × AV)) (cells l : List AV), fillA (fun i => some (i * k, k)) cells parts = some l → l.length = cells.length := by
      intro parts
      induction parts with
      | nil => intro cells l h; simp only [fillA, Option.some.injEq] at h; subst h; rfl
      | cons p rest ih =>
        obtain ⟨j, x⟩ := p
        intro cells l h
        simp only [fillA] at h
        split at h
        · rename_i hc
          rw [ih _ _ h]
          simp [putL]; omega
        · cases h
    rw [this _ _ _ hfill]; simp [repL_length, hzl]
  exact hN cs g (by simpa using hcl) h2
end
end Go.Proofs.Ytpijcgohhjgdbaa
