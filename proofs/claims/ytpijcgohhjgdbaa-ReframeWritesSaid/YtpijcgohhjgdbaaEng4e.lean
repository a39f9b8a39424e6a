/-
  Bytes as a text, a text as bytes; slices against nil.
-/
import Derived.Test.YtpijcgohhjgdbaaEng4d
import Derived.Test.YtpijcgohhjgdbaaFacts
namespace Go.Proofs.Ytpijcgohhjgdbaa
set_option maxRecDepth 100000
open Go.RowKit
set_option linter.unusedVariables false
set_option linter.unusedSimpArgs false

def bytesT (P : Program) (t : TypeId) : Option TypeId := match P.underlying t with
  | some (.slice e) => (match P.underlying e with | some (.int .u8) => some e | _ => none)
  | _ => none
def stringT (P : Program) (t : TypeId) : Bool := match P.underlying t with
  | some .string => true
  | _ => false
section
variable {P : Program} {n0 : Nat} {w : World} {B : List Nat} {η : List Value} {H : List Ent} {ρ : Operand → Value} {ρA : Operand → AV} {o : Oper}
theorem bytesT_spec {t e : TypeId} (h : bytesT P t = some e) : P.underlying t = some (.slice e) ∧ P.underlying e = some (.int .u8) := by
  unfold bytesT at h
  split at h
  · rename_i e' hu
    split at h
    · rename_i hk; injection h with h; subst h; exact ⟨hu, hk⟩
    · cases h
  · cases h
theorem stringT_spec {t : TypeId} (h : stringT P t = true) : P.underlying t = some .string := by
  unfold stringT at h
  split at h
  · assumption
  · cases h
theorem Rel.toRB {bs : List UInt8} {v : Value} (h : Rel w B η (.sl (bs.map byteAV) 1) v) : ∃ A n c, v = .slice A n c ∧ RB w A n bs ∧ n ≤ c ∧ c ≤ maxLen := by
  obtain ⟨A, n, c, us, hv, hk, hn, hc, hm, hA, hr⟩ := h.slL
  refine ⟨A, n, c, hv, ⟨by simpa using hn.symm, fun h0 => ?_⟩, hc, hm⟩
  obtain ⟨ad, h1, h2⟩ := hA h0
  refine ⟨ad, h1, h2.lt, fun j b hj => ?_⟩
  have hlt : j < bs.length := (List.getElem?_eq_some_iff.1 hj).1
  rw [h2.cell j (by simpa using hlt)]
  have := hr j (byteAV b) (by rw [List.getElem?_map, hj]; rfl)
  have := this.ofC
  rw [this]; rfl
theorem str_any {s d e : TypeId} (hs : P.underlying s = some (.slice e)) (he : P.underlying e = some (.int .u8)) (hd : P.underlying d = some .string) (A : Option Addr) (n c : Nat) (bs : List UInt8) (h : RB w A n bs) :
    (convert s d (.slice A n c)).run P w = .ok (.string ⟨bs.toArray⟩) w := by
  rcases A with _ | ad
  · have hn : n = 0 := by
      rcases Nat.eq_zero_or_pos n with h0 | h0
      · exact h0
      · obtain ⟨ad, h1, _⟩ := h.2 h0
        cases h1
    subst hn
    have hb : bs = [] := List.eq_nil_of_length_eq_zero h.1
    subst hb
    rw [run_convert_bytes_nil w _ _ hs he 0 c _ hd]
    rfl
  · have hl : (loadCells ad n).run P w = .ok ((bs.map fun b => (b.toNat : Int)).map (Value.int .u8)).toArray w := by
      have := run_loadCells_list (P := P) w ad ((bs.map fun b => (b.toNat : Int)).map (Value.int .u8)) (fun j v hj => by
        rw [List.map_map, List.getElem?_map] at hj
        cases hb : bs[j]? with
        | none => rw [hb] at hj; cases hj
        | some b =>
          rw [hb] at hj
          have hlt : j < bs.length := (List.getElem?_eq_some_iff.1 hb).1
          obtain ⟨ad', h1, _, hc⟩ := h.2 (by have := h.1; omega)
          injection h1 with h1
          subst h1
          injection hj with hj
          subst hj
          exact hc j b hb)
      simpa [h.1] using this
    rw [run_convert_bytes_string w _ _ _ _ n c hs he hd, run_bytesToString w _ n c _ hl, foldl_push_bytes]
    simp [ByteArray.empty, ByteArray.emptyWithCapacity, List.map_map, Function.comp_def]
    rfl
theorem toStr_ok (he : ∀ x ∈ o.op.operands, Rel w B η (ρA x) (ρ x)) {s d e : TypeId} {x : Operand} {l : List AV} {bs : List UInt8} (ho : o.op = .convert s d x) (hx : ρA x = .sl l 1) (hs : bytesT P s = some e) (hd : stringT P d = true) (hb : toBs l = some bs) : OpOK P n0 w ρ o B η (.c (.string ⟨bs.toArray⟩)) := by
  have h1 := he x (by simp [ho, Op.operands])
  rw [hx, toBs_eq hb] at h1
  obtain ⟨A, n, c, hv, hr, _, _⟩ := h1.toRB
  obtain ⟨q1, q2⟩ := bytesT_spec hs
  exact .of_run (v := .string ⟨bs.toArray⟩) (by simp only [execOp, ho, hv, Sem.run_bind, str_any q1 q2 (stringT_spec hd) A n c bs hr]; rfl) (.c _ _)
/-- A slice against nil. -/
def nilV (op : BinOp) : Option Bool := match op with
  | .eql => some false
  | .neq => some true
  | _ => none
theorem nil_ok (he : ∀ x ∈ o.op.operands, Rel w B η (ρA x) (ρ x)) {op : BinOp} {t t2 e k n' c' : Nat} {x y : Operand} {l : List AV} {b : Bool} (ho : o.op = .binOp op t x y t2) (hx : ρA x = .sl l k) (hy : ρA y = .c (.slice none n' c')) (hl : l ≠ []) (hu : P.underlying t = some (.slice e)) (h : nilV op = some b) : OpOK P n0 w ρ o B η (.c (.bool b)) := by
  have h1 := he x (by simp [ho, Op.operands])
  have h2 := he y (by simp [ho, Op.operands])
  rw [hx] at h1; rw [hy] at h2
  have h2 := h2.ofC
  obtain ⟨A, n, c, us, hv, hk, hn, hc, hm, hA, hr⟩ := h1.slL
  have hn0 : 0 < n := by
    have : 0 < l.length := List.length_pos_iff.2 hl
    exact Nat.pos_of_ne_zero fun h => by subst h; omega
  obtain ⟨ad, rfl, _⟩ := hA hn0
  have hg : (eqGuard op t x y (.slice (some ad) n c) (.slice none n' c')).run P w = .ok () w := by cases op <;> simp [eqGuard]
  refine .of_run (v := .bool b) ?_ (.c _ _)
  cases op <;> simp only [nilV, Option.some.injEq] at h <;> first
    | (subst h
       simp only [execOp, ho, hv, h2]
       rw [Sem.run_bind, Sem.run_bind, hg]
       simp only [Result.andThen_ok]
       first
         | (rw [Lib.run_eql_slice_nil w t e _ _ _ _ _ hu]; rfl)
         | (rw [run_neq_slice_nil_any w t e _ _ _ _ _ hu]; rfl))
    | (cases h; done)
theorem freeze_gk {b k : Nat} (hb : n0 ≤ b) (hB : b ∉ B) : Gk n0 B w (w.freeze ⟨b, k, none⟩ 1) := by
  refine ⟨rfl, rfl, rfl, by simp [World.freeze], fun i hi c e fr hc => ?_, fun i hi hj => ?_⟩
  · simp only [World.freeze, Nat.one_ne_zero, if_false, Array.getElem?_modify]
    by_cases hbi : b = i
    · subst hbi
      simp only [if_true, hc, Option.map_some]
      obtain ⟨lo, hi'⟩ := fr
      exact ⟨_, rfl⟩
    · simp only [hbi, if_false]; exact ⟨fr, hc⟩
  · simp only [World.freeze, Nat.one_ne_zero, if_false, Array.getElem?_modify]
    rw [if_neg (fun h => by subst h; exact hj.elim (fun h => by omega) hB)]
/-- Bytes of the call's own are marked as a text's. -/
theorem mark_ok (he : ∀ x ∈ o.op.operands, Rel w B η (ρA x) (ρ x)) {s e : TypeId} {x : Operand} {l : List AV} (ho : o.op = .convert s s x) (hx : ρA x = .sl l 1) (hs : bytesT P s = some e) (hl : l ≠ []) (hfr : ∀ ad n c, ρ x = .slice (some ad) n c → n0 ≤ ad.block) : OpOK P n0 w ρ o B η (.sl l 1) := by
  have h1 := he x (by simp [ho, Op.operands])
  rw [hx] at h1
  have h1' := h1
  obtain ⟨A, n, c, us, hv, hk, hn, hc, hm, hA, hr⟩ := h1.slL
  obtain ⟨q1, q2⟩ := bytesT_spec hs
  have hn0 : 0 < n := by
    have : 0 < l.length := List.length_pos_iff.2 hl
    omega
  obtain ⟨ad, hA1, hat⟩ := hA hn0
  subst hA1
  have hge := hfr ad n c hv
  intro N hN
  unfold Oper.val
  have hcell := hat.cell 0 (by omega)
  obtain ⟨b, of, sp⟩ := ad
  obtain rfl : sp = none := hat.spot
  rw [Addr.add_mid] at hcell
  have hsh : ∃ E m, w.shape? b = some (E, m) := by
    unfold World.cell? at hcell
    unfold World.shape?
    split at hcell
    · rename_i cc e' fr hcc
      simp only at hcc
      rw [hcc]; exact ⟨_, _, rfl⟩
    · cases hcell
  obtain ⟨E, m, hsh⟩ := hsh
  have hrun : (execOp ρ o).run P w = .ok (.value (.slice (some ⟨b, of, none⟩) n c)) (w.freeze ⟨b, m, none⟩ 1) := by
    simp [execOp, ho, hv, convert, Sem.run_bind, run_underlying q1, run_underlying q2, markStringish, shape, Sem.run, hsh, freeze]
  rw [hrun]
  have g : Gk n0 B w (w.freeze ⟨b, m, none⟩ 1) := freeze_gk hge hat.out
  rw [hv] at h1'
  exact hN _ _ g (h1'.gk g)
end
end Go.Proofs.Ytpijcgohhjgdbaa
