/-
  Stores, and append.
-/
import Derived.Test.YtpijcgohhjgdbaaEng6
namespace Go.Proofs.Ytpijcgohhjgdbaa
set_option maxRecDepth 100000
open Go.RowKit
set_option linter.unusedVariables false
set_option linter.unusedSimpArgs false

section
variable {P : Program} {w w' : World} {B : List Nat} {η : List Value} {H : List Ent} {ρ : Operand → Value} {ρA : Operand → AV} {o : Oper} {C : Con} {n0 : Nat} {Bx : List Nat}
theorem val_skip {N : Value → World → Prop} {wx : World} (h : (execOp ρ o).run P w = .ok .skip wx) (hN : N undef wx) : Oper.val P ρ o w N := by
  unfold Oper.val; rw [h]; exact hN
theorem storeBox_ok (inv : Inv n0 Bx w B η H) (he : ∀ x ∈ o.op.operands, Rel w B η (ρA x) (ρ x)) {T T' : TypeId} {a x : Operand} {id off : Nat} {cells l : List AV} (ho : o.op = .store T a x) (ha : ρA a = .box id off) (hH : H[id]? = some (.box cells T')) (hx : ρA x ≠ ρA x ∨ (ρA x).toL = l) (hnt : notTup (ρA x) = true)
    (hl : l.length = P.cellsOf T) (hp : 0 < P.cellsOf T) (hle : off + l.length ≤ cells.length) (h1 : l.all AV.one = true) : OpS P n0 Bx w ρ o B η (.c undef) (H.set id (.box (putL cells off l) T')) := by
  intro N hN
  have hx' : (ρA x).toL = l := hx.elim (fun h => absurd rfl h) (fun h => h)
  have hr := (he x (by simp [ho, Op.operands])).toL (fun l e => by rw [e] at hnt; cases hnt)
  rw [hx'] at hr
  have h2 := he a (by simp [ho, Op.operands])
  rw [ha] at h2
  generalize hva : ρ a = va at h2
  cases h2 with
  | box _ _ _ b hid =>
    have hent := inv.ent id _ hH
    rw [List.getD_eq_getElem?_getD, hid, Option.getD_some] at hent
    obtain ⟨b', us, e1, e2, e3, e4, e5, e6⟩ := hent
    obtain rfl : b = b' := by simpa using e1
    have hrun := run_storeAt_row (P := P) (T := T) (v := ρ x) (of := off) e5 (by rw [hr.1]; exact hl) hp (by rw [hr.1, e6.1]; exact hle) (hr.one h1)
    have hon : On B w (w.setRow b (putL us off (ρ x).cells.toList).toArray) := ⟨rfl, rfl, rfl, by simp, fun k _ hk => .of (setRow_other w b k _ (fun h => hk (by rw [h]; exact e3)))⟩
    obtain ⟨i1, i2, i3⟩ := inv.write (e' := .box (putL cells off l) T') (cs := (putL us off (ρ x).cells.toList).toArray) hH hid rfl rfl rfl
      ⟨b, _, rfl, e2, e3, e4, setRow_heap w b us.toArray _ T' (0, 0) e5, (e6.putL hr off).on hon (fun _ h => .inl h) (fun _ _ h => h)⟩
    exact val_skip (by simp [execOp, ho, hva, Sem.run_bind, hrun]) (hN undef _ B η i2 (fun _ h => .inl h) (fun _ _ h => h) i3 i1 (.c _ _) (fun h => by cases h))
theorem take_putL {α : Type} (cur us vs : List α) (off N : Nat) (h : cur.take N = us) (hle : off + vs.length ≤ us.length) : (putL cur off vs).take N = putL us off vs := by
  have hN : us.length ≤ N := by rw [← h]; simp; omega
  have hc : us.length ≤ cur.length := by rw [← h]; simp; omega
  unfold putL
  subst h
  apply List.ext_getElem?
  intro i
  simp only [List.getElem?_take, List.getElem?_append, List.length_append, List.length_take, List.getElem?_drop]
  simp only [List.length_take] at hle hN hc
  by_cases h1 : i < off
  · have : i < N := by omega
    simp only [this, if_true]
    rw [if_pos (by omega), if_pos (by omega), if_pos (by omega), if_pos (by omega)]
    (repeat (first | rw [if_pos (by omega)] | rw [if_neg (by omega)]))
  · by_cases h2 : i < off + vs.length
    · have : i < N := by omega
      simp only [this, if_true]
      rw [if_pos (by omega), if_neg (by omega), if_pos (by omega), if_neg (by omega)]
      congr 1
      omega
    · by_cases h3 : i < N
      · simp only [h3, if_true]
        rw [if_neg (by omega), if_neg (by omega)]
        have e1 : off + vs.length + (i - (min off cur.length + vs.length)) = i := by omega
        have e2 : off + vs.length + (i - (min off (min N cur.length) + vs.length)) = i := by omega
        rw [e1, e2, if_pos h3]
      · simp only [h3, if_false]
        rw [if_neg (by omega)]
        have e2 : off + vs.length + (i - (min off (min N cur.length) + vs.length)) = i := by omega
        rw [e2, if_neg h3]
theorem drop_putL {α : Type} (cur vs : List α) (o off : Nat) (h : o + off + vs.length ≤ cur.length) : (putL cur (o + off) vs).drop o = putL (cur.drop o) off vs := by
  unfold putL
  apply List.ext_getElem?
  intro i
  simp only [List.getElem?_drop, List.getElem?_append, List.length_append, List.length_take, List.getElem?_take, List.length_drop]
  by_cases h1 : i < off
  · (repeat (first | rw [if_pos (by omega)] | rw [if_neg (by omega)]))
  · by_cases h2 : i < off + vs.length
    · rw [if_pos (by omega), if_neg (by omega), if_pos (by omega), if_neg (by omega)]
      congr 1
      omega
    · rw [if_neg (by omega), if_neg (by omega)]
      congr 1
      omega
theorem storeOwn_ok (inv : Inv n0 Bx w B η H) (he : ∀ x ∈ o.op.operands, Rel w B η (ρA x) (ρ x)) {T E k : Nat} {a x : Operand} {id off : Nat} {cells l : List AV} (ho : o.op = .store T a x) (ha : ρA a = .oadr id off) (hH : H[id]? = some (.own cells E k)) (hx : (ρA x).toL = l) (hnt : notTup (ρA x) = true)
    (hl : l.length = P.cellsOf T) (hp : 0 < P.cellsOf T) (hle : off + l.length ≤ cells.length) (h1 : l.all AV.one = true) : OpS P n0 Bx w ρ o B η (.c undef) (H.set id (.own (putL cells off l) E k)) := by
  intro N hN
  have hr := (he x (by simp [ho, Op.operands])).toL (fun l e => by rw [e] at hnt; cases hnt)
  rw [hx] at hr
  have h2 := he a (by simp [ho, Op.operands])
  rw [ha] at h2
  generalize hva : ρ a = va at h2
  cases h2 with
  | oadr _ _ _ b oo n c hid =>
    have hent := inv.ent id _ hH
    rw [List.getD_eq_getElem?_getD, hid, Option.getD_some] at hent
    obtain ⟨n', us, e1, e2, e3, e4⟩ := hent
    obtain rfl := e1.len
    rcases e1.2 with ⟨hv0, _⟩ | ⟨g, o', cap, cur, hvv, hb, hg, hnc, hcm, hsz, htk⟩
    · cases hv0
    injection hvv with q1 q2 q3
    injection q1 with q1
    injection q1 with q1 q4
    subst q1 q3 q4
    have hcur : w.heap[b]? = some (.cells cur.toList.toArray E (0, 0)) := hg
    have hul : off + (ρ x).cells.toList.length ≤ us.length := by rw [hr.1, e2.1]; exact hle
    have hlen : oo + us.length ≤ cur.toList.length := by
      have h1 : us.length = n * k := e1.1
      have h2 : n * k ≤ c * k := Nat.mul_le_mul_right k hnc
      simp; omega
    have hrun := run_storeAt_row (P := P) (T := T) (v := ρ x) (of := oo + off) hcur (by rw [hr.1]; exact hl) hp (by omega) (hr.one h1)
    have hbB := (e4 b rfl).1
    have hon : On B w (w.setRow b (putL cur.toList (oo + off) (ρ x).cells.toList).toArray) := ⟨rfl, rfl, rfl, by simp, fun k _ hk => .of (setRow_other w b k _ (fun h => hk (by rw [h]; exact hbB)))⟩
    have hnew : (w.setRow b (putL cur.toList (oo + off) (ρ x).cells.toList).toArray).heap[b]? = some (.cells (putL cur.toList (oo + off) (ρ x).cells.toList).toArray E (0, 0)) := setRow_heap w b cur _ E (0, 0) hg
    have hpl : (putL cur.toList (oo + off) (ρ x).cells.toList).length = cur.toList.length := by unfold putL; simp at *; omega
    have hpu : (putL us off (ρ x).cells.toList).length = us.length := by unfold putL; simp at *; omega
    obtain ⟨i1, i2, i3⟩ := inv.write (e' := .own (putL cells off l) E k) (cs := (putL cur.toList (oo + off) (ρ x).cells.toList).toArray) hH hid rfl rfl rfl
      ⟨n, putL us off (ρ x).cells.toList, ⟨by rw [hpu]; exact e1.1, .inr ⟨b, oo, c, _, rfl, hb, hnew, hnc, hcm, by
        have : (putL cur.toList (oo + off) (ρ x).cells.toList).toArray.size = cur.size := by simpa using hpl
        omega, by
        rw [List.toList_toArray, drop_putL _ _ _ _ (by omega)]
        exact take_putL _ _ _ _ _ htk hul⟩⟩, (e2.putL hr off).on hon (fun _ h => .inl h) (fun _ _ h => h), e3, fun g hg => by simp [Value.ownBlock] at hg; subst hg; exact e4 _ rfl⟩
    exact val_skip (by simp [execOp, ho, hva, Sem.run_bind, hrun]) (hN undef _ B η i2 (fun _ h => .inl h) (fun _ _ h => h) i3 i1 (.c _ _) (fun h => by cases h))
end
end Go.Proofs.Ytpijcgohhjgdbaa
