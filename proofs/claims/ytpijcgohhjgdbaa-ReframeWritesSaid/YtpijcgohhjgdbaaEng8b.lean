/-
  A part of a slice of the call's own: it stands for the whole from then on.
-/
import Derived.Test.YtpijcgohhjgdbaaEng8
import Derived.Laws.MakeOwn
namespace Go.Proofs.Ytpijcgohhjgdbaa
set_option maxRecDepth 100000
open Go.RowKit
set_option linter.unusedVariables false
set_option linter.unusedSimpArgs false

section
variable {P : Program} {w w' : World} {B : List Nat} {η : List Value} {H : List Ent} {ρ : Operand → Value} {ρA : Operand → AV} {o : Oper} {C : Con} {n0 : Nat} {Bx : List Nat}
theorem Inv.move (inv : Inv n0 Bx w B η H) {id : Nat} {e e' : Ent} {v v' : Value} (hH : H[id]? = some e) (hl : e.live = true) (hv : η[id]? = some v) (he : EntOK n0 Bx w B (η ++ [v']) v' e') (hb : ∀ b, blkOf v' = some b → blkOf v = some b) : Inv n0 Bx w B (η ++ [v']) (H.set id .dead ++ [e']) := by
  have ik := inv.kill (.own id)
  have hk : killA H (.own id) = H.set id .dead := rfl
  rw [hk] at ik
  have klen : (H.set id Ent.dead).length = H.length := by simp
  have hg : η.getD id undef = v := by simp [List.getD_eq_getElem?_getD, hv]
  have hold : ∀ (j : Nat) (ej : Ent), (H.set id Ent.dead)[j]? = some ej → ej.live = true → H[j]? = some ej ∧ j ≠ id := by
    intro j ej h hlj
    rw [List.getElem?_set] at h
    split at h
    · split at h
      · injection h with h; subst h; cases hlj
      · cases h
    · rename_i hne; exact ⟨h, fun hh => hne hh.symm⟩
  refine ⟨by simp [inv.len], inv.base, inv.sub, inv.lt, fun j ej h => ?_, fun i j ei ej hij hi' hj hli hlj b hb' => ?_⟩
  · rcases Nat.lt_or_ge j H.length with hid | hid
    · rw [List.getElem?_append_left (by rw [klen]; exact hid)] at h
      rw [getD_push_old (by rw [inv.len]; exact hid)]
      exact EntOK.on (ik.ent j ej h) (Gr.refl w) (push_old η _)
    · rw [List.getElem?_append_right (by rw [klen]; exact hid)] at h
      have : j = H.length := by have := (List.getElem?_eq_some_iff.1 h).1; rw [klen] at this; simp at this; omega
      subst this
      simp [klen] at h; subst h
      rw [← inv.len, getD_push_new]
      exact he
  · have key : ∀ (i : Nat) (ei : Ent), (H.set id Ent.dead ++ [e'])[i]? = some ei → (i < H.length ∧ (H.set id Ent.dead)[i]? = some ei ∧ (η ++ [v']).getD i undef = η.getD i undef) ∨ (i = H.length ∧ (η ++ [v']).getD i undef = v') := by
      intro i ei h
      rcases Nat.lt_or_ge i H.length with hid | hid
      · exact .inl ⟨hid, by rwa [List.getElem?_append_left (by rw [klen]; exact hid)] at h, getD_push_old (by rw [inv.len]; exact hid)⟩
      · have : i = H.length := by
          rw [List.getElem?_append_right (by rw [klen]; exact hid)] at h
          have := (List.getElem?_eq_some_iff.1 h).1; rw [klen] at this; simp at this; omega
        subst this
        exact .inr ⟨rfl, by rw [← inv.len, getD_push_new]⟩
    rcases key i ei hi' with ⟨h1, h2, h3⟩ | ⟨h1, h3⟩ <;> rcases key j ej hj with ⟨k1, k2, k3⟩ | ⟨k1, k3⟩
    · rw [h3] at hb'; rw [k3]; exact ik.sep i j ei ej hij h2 k2 hli hlj b hb'
    · rw [h3] at hb'; rw [k3]
      intro hcc
      obtain ⟨q1, q2⟩ := hold i ei h2 hli
      exact inv.sep i id ei e q2 q1 hH hli hl b hb' (by rw [hg]; exact hb b hcc)
    · rw [h3] at hb'; rw [k3]
      obtain ⟨q1, q2⟩ := hold j ej k2 hlj
      exact inv.sep id j e ej (fun h => q2 h.symm) hH q1 hl hlj b (by rw [hg]; exact hb b hb')
    · omega
theorem drop_take_part {α : Type} (D us : List α) (N x y : Nat) (h : D.take N = us) (hxy : x + y ≤ us.length) : (D.drop x).take y = (us.drop x).take y := by
  subst h
  apply List.ext_getElem?
  intro i
  simp only [List.getElem?_take, List.getElem?_drop]
  simp only [List.length_take] at hxy
  by_cases hi : i < y
  · simp only [hi, if_true]
    rw [if_pos (by omega)]
  · simp only [hi, if_false]
theorem sliceOwn_ok (inv : Inv n0 Bx w B η H) (he : ∀ x ∈ o.op.operands, Rel w B η (ρA x) (ρ x)) {t e E : TypeId} {x : Operand} {lo hi : Option Operand} {id k a b : Nat} {cells : List AV} (ho : o.op = .slice t x lo hi none) (hu : P.underlying t = some (.slice e)) (hx : ρA x = .own id)
    (hH : H[id]? = some (.own cells E k)) (hk : k = P.cellsOf e) (hk1 : 1 ≤ k) (hlo : boundA ρA 0 lo = some a) (hhi : boundA ρA (cells.length / k) hi = some b) (hab : a ≤ b) (hb : b * k ≤ cells.length) :
    OpS P n0 Bx w ρ o B η (.own H.length) (H.set id .dead ++ [.own ((cells.drop (a * k)).take ((b - a) * k)) E k]) := by
  have hel : ∀ y, lo = some y → Rel w B η (ρA y) (ρ y) := fun y h => he y (by simp [ho, Op.operands, h])
  have heh : ∀ y, hi = some y → Rel w B η (ρA y) (ρ y) := fun y h => he y (by simp [ho, Op.operands, h])
  have h1 := he x (by simp [ho, Op.operands])
  rw [hx] at h1
  generalize hv : ρ x = v at h1
  cases h1 with
  | own _ _ A n c hid =>
  have hent := inv.ent id _ hH
  rw [List.getD_eq_getElem?_getD, hid, Option.getD_some] at hent
  obtain ⟨n', us, hown, hrel, _, hbl⟩ := hent
  obtain rfl := hown.len
  have hlen : cells.length = n * k := by rw [← hrel.1]; exact hown.1
  have hdiv : cells.length / k = n := by rw [hlen]; exact Nat.mul_div_cancel _ hk1
  rw [hdiv] at hhi
  have hbn : b ≤ n := Nat.le_of_mul_le_mul_right (by rw [← hlen]; exact hb) hk1
  obtain ⟨ii, hii, hs⟩ := cells_info (t := e) (P := P) (by omega)
  have hnc : n ≤ c := by
    rcases hown.2 with ⟨hvv, hn0⟩ | ⟨g, oo, cap, cur, hvv, hb', hg, hnc, hcm, hsz, htk⟩
    · omega
    · injection hvv with q1 q2 q3; omega
  have hrun : (execOp ρ o).run P w = .ok (.value (.slice (if c = a then A else A.map (·.add (a * k))) (b - a) (c - a))) w := by
    have hbounds : (Instr.sliceBounds true n c (lo.map ρ) (hi.map ρ) none).run P w = .ok (a, b, c) w := by
      have hb' : ∀ z : Int, b = z.toNat → 0 ≤ z → z ≤ (c : Int) := by omega
      have ha' : ∀ z : Int, a = z.toNat → 0 ≤ z → z ≤ (b : Int) := by omega
      rcases boundA_spec hel hlo with ⟨rfl, rfl⟩ | ⟨y, kk, z, rfl, hy, hz, hza⟩
      · rcases boundA_spec heh hhi with ⟨rfl, rfl⟩ | ⟨y2, kk2, z2, rfl, hy2, hz2, hzb⟩
        · simp [Instr.sliceBounds, Sem.run_bind]
        · subst hzb
          simp [Instr.sliceBounds, Sem.run_bind, hy2, run_sliceBound (P := P) ⟨hz2, hb' _ rfl hz2⟩]
      · subst hza
        rcases boundA_spec heh hhi with ⟨rfl, rfl⟩ | ⟨y2, kk2, z2, rfl, hy2, hz2, hzb⟩
        · simp [Instr.sliceBounds, Sem.run_bind, hy, run_sliceBound (P := P) ⟨hz, ha' _ rfl hz⟩]
        · subst hzb
          simp [Instr.sliceBounds, Sem.run_bind, hy, hy2, run_sliceBound (P := P) ⟨hz2, hb' _ rfl hz2⟩, run_sliceBound (P := P) ⟨hz, ha' _ rfl hz⟩]
    simp [execOp, ho, Instr.sliceAt, Instr.slice, Sem.run_bind, run_underlying hu, hv, hbounds, run_sizeOf hii, hs, hk]
  have hpart : ((us.drop (a * k)).take ((b - a) * k)).length = (b - a) * k := by
    rw [List.length_take, List.length_drop, hown.1, ← Nat.sub_mul]
    exact Nat.min_eq_left (Nat.mul_le_mul_right k (by omega))
  have hrel2 : RelL w B (η ++ [.slice (if c = a then A else A.map (·.add (a * k))) (b - a) (c - a)]) ((cells.drop (a * k)).take ((b - a) * k)) ((us.drop (a * k)).take ((b - a) * k)) := ((hrel.drop _).take _).on (On.refl _ _) (fun _ h => .inl h) (push_old η _)
  have hfit : a * k + (b - a) * k ≤ us.length := by
    rw [hown.1, ← Nat.add_mul]; exact Nat.mul_le_mul_right k (by omega)
  have hent' : EntOK n0 Bx w B (η ++ [.slice (if c = a then A else A.map (·.add (a * k))) (b - a) (c - a)]) (.slice (if c = a then A else A.map (·.add (a * k))) (b - a) (c - a)) (.own ((cells.drop (a * k)).take ((b - a) * k)) E k) := by
    refine ⟨b - a, _, ⟨hpart, ?_⟩, hrel2, hk1, fun g hg => hbl g ?_⟩
    · rcases hown.2 with ⟨hvv, hn0⟩ | ⟨g, oo, cap, cur, hvv, hb', hg, hnc', hcm, hsz, htk⟩
      · injection hvv with q1 q2 q3
        subst q1 q3
        left
        have : a = 0 := by omega
        subst this
        exact ⟨by simp; omega, by omega⟩
      · injection hvv with q1 q2 q3
        subst q1 q3
        right
        by_cases hca : c = a
        · rw [if_pos hca]
          refine ⟨g, oo, c - a, cur, rfl, hb', hg, by omega, by omega, ?_, ?_⟩
          · have : (c - a) * k = 0 := by rw [hca]; simp
            have : c * k ≥ 0 := Nat.zero_le _
            omega
          · have : (b - a) * k = 0 := by rw [show b - a = 0 by omega]; simp
            rw [this]; simp
        · rw [if_neg hca]
          refine ⟨g, oo + a * k, c - a, cur, by simp [Addr.add_mid], hb', hg, by omega, by omega, ?_, ?_⟩
          · have : a * k + (c - a) * k = c * k := by rw [← Nat.add_mul]; congr 1; omega
            omega
          · rw [← List.drop_drop]
            exact drop_take_part _ _ _ _ _ htk hfit
    · cases A with
      | none => simp [Value.ownBlock] at hg
      | some ad =>
        split at hg <;> simpa [Value.ownBlock, block_of_add] using hg
  have hinv := inv.move (v' := .slice (if c = a then A else A.map (·.add (a * k))) (b - a) (c - a)) hH rfl hid hent' (fun g hg => by
    cases A with
    | none => simp [blkOf] at hg
    | some ad => split at hg <;> simpa [blkOf, block_of_add] using hg)
  intro N hN
  unfold Oper.val
  rw [hrun]
  exact hN _ _ B _ (On.refl _ _) (fun _ h => .inl h) (push_old η _) (Below.refl _ _) hinv (.own _ _ _ _ _ (by rw [← inv.len, List.getElem?_append_right (Nat.le_refl _)]; simp)) (fun h => by cases h)
/-- Appended to a slice whose room is its length: all is new. -/
theorem appendF_ok (inv : Inv n0 Bx w B η H) (he : ∀ x ∈ o.op.operands, Rel w B η (ρA x) (ρ x)) {ρR : Operand → AV} (hR : ∀ x ∈ o.op.operands, Rel w B η (ρR x) (ρ x) ∧ FreshV n0 (ρR x) (ρ x)) {s x : Operand} {t E k by_ : Nat} {i : TypeInfo} {z : Value} {l0 l : List AV} (ho : o.op = .call ⟨.builtin .append, #[s, x], #[t, t]⟩)
    (ht : P.underlying t = some (.slice E)) (hi : P.info? E = some i) (hz : i.zero = some z) (hsz : i.size = k) (hby : i.bytes = by_) (hzs : z.cells.size = k) (hk : 1 ≤ k)
    (hd : ρR s = .fresh l0 k) (hs : srcA H k (ρA x) = some l) (hl : l ≠ []) (h1 : l.all AV.one = true) (hm : (l0.length + l.length) / k ≤ maxLen) (hb : (l0.length + l.length) / k * by_ ≤ 140737488355328) :
    OpS P n0 Bx w ρ o B η (.own H.length) (H ++ [.own (l0 ++ l) E k]) := by
  intro N hN
  have h0 := (hR s (by simp [ho, Op.operands, Call.operands])).1
  rw [hd] at h0
  obtain ⟨A0, n, us0, hvs, _, hn0, hA0n, hmx, hA0, hr0⟩ := h0.freshL
  obtain ⟨A, m, c, vs, hv, hn, hA, hr⟩ := srcA_spec (he x (by simp [ho, Op.operands, Call.operands])) hk hs
  have hlp : 0 < l.length := List.length_pos_iff.2 hl
  have hmp : 0 < m := Nat.pos_of_ne_zero fun h => by subst h; omega
  obtain ⟨ad, hA1, hat⟩ := hA hmp
  subst hA1
  have hdiv : (l0.length + l.length) / k = n + m := by rw [← hn0, ← hn, ← Nat.add_mul]; exact Nat.mul_div_cancel _ hk
  rw [hdiv] at hm hb
  have hnews : RelL w B η l ((List.range l.length).map vs) := ⟨by simp, fun i y hy => by
    have hlt : i < l.length := (List.getElem?_eq_some_iff.1 hy).1
    exact ⟨vs i, by simp [hlt], (hr i y hy).any⟩⟩
  have holds : RelL w B η l0 ((List.range l0.length).map us0) := ⟨by simp, fun i y hy => by
    have hlt : i < l0.length := (List.getElem?_eq_some_iff.1 hy).1
    exact ⟨us0 i, by simp [hlt], (hr0 i y hy).any⟩⟩
  have hcells : ∀ (j : Nat) u, ((List.range l.length).map vs)[j]? = some u → w.cell? (ad.add j) = some u := fun j u hj => by
    have hlt : j < l.length := by have := (List.getElem?_eq_some_iff.1 hj).1; simpa using this
    rw [hat.cell j hlt]
    simp [hlt] at hj
    rw [hj]
  have key : ∃ v' w', (Builtin.append_ #[t, t] o.type #[.slice A0 n n, .slice (some ad) m c]).run P w = .ok v' w' ∧ w'.ownsRow w.heap.size E k v' (n + m) ((List.range l0.length).map us0 ++ (List.range l.length).map vs) ∧ w.grownBy w' none := by
    cases A0 with
    | none =>
      have hz0 := hA0n rfl
      subst hz0
      have : l0 = [] := List.eq_nil_of_length_eq_zero (by rw [← hn0]; simp)
      subst this
      obtain ⟨v', w', q1, q2, q3, q4, q5⟩ := run_append_own_at (P := P) w w.heap.size t o.type E i z k by_ ht hi hz hsz hby hzs hk (.slice none 0 0) 0 [] (World.ownsRow_nil _ _ _ _) ad m c ((List.range l.length).map vs) (by simp [hn]) hcells (hnews.one h1) hm hb (Nat.le_refl _)
      exact ⟨v', w', q1, by simpa using q2, q3⟩
    | some a0 =>
      exact run_append_arg_grows (P := P) w t o.type E i z k by_ ht hi hz hsz hby hzs hk a0 n n ((List.range l0.length).map us0) (by simp [hn0]) (fun j u hj => by
        have hlt : j < l0.length := by have := (List.getElem?_eq_some_iff.1 hj).1; simpa using this
        have hnp : 0 < n := Nat.pos_of_ne_zero fun h => by subst h; omega
        obtain ⟨a1, q1, q2⟩ := hA0 hnp
        injection q1 with q1
        subst q1
        rw [q2.cell j hlt]
        simp [hlt] at hj
        rw [hj]) ad m c ((List.range l.length).map vs) (by simp [hn]) hcells (by omega) hm hb
  obtain ⟨v', w', q1, q2, q3⟩ := key
  have g : Gr w w' := ⟨q3.os, q3.tape, q3.output, q3.size, fun b hb => q3.block b hb (by simp)⟩
  obtain ⟨gg, cap, hv', hgb, hglt⟩ := q2.form (by omega)
  subst hv'
  have hB : ∀ y ∈ gg :: B, y ∈ B ∨ w.heap.size ≤ y := fun y hy => by rcases List.mem_cons.1 hy with rfl | h; exact .inr hgb; exact .inl h
  have hinv := inv.push (v := .slice (some ⟨gg, 0, none⟩) (n + m) cap) (e := .own (l0 ++ l) E k) g hgb hglt rfl ⟨n + m, _, .row q2 (by have := inv.base.1; omega), (holds.append hnews).on (.gr g) hB (push_old η _), hk, fun b hb => by
    simp [Value.ownBlock] at hb
    subst hb
    exact ⟨List.mem_cons_self, fun hbx => by have := (inv.sub _ hbx).2; have := inv.base.1; omega⟩⟩
  unfold Oper.val
  have hrun' : (execOp ρ o).run P w = .ok (.value (.slice (some ⟨gg, 0, none⟩) (n + m) cap)) w' := by
    simp only [execOp, ho, resolve, invoke, builtin, Sem.run_bind, Sem.run_pure, Result.andThen_ok, List.map_toArray, List.map_cons, List.map_nil, hv, hvs, q1]
  rw [hrun']
  exact hN _ _ _ _ (.gr g) hB (push_old η _) (g.mono inv.base.1) hinv (.own _ _ _ _ _ (by rw [← inv.len, List.getElem?_append_right (Nat.le_refl _)]; simp)) (fun h => by cases h)
/-- A slice that is built: the call's own. -/
theorem buildOwn_ok (inv : Inv n0 Bx w B η H) (he : ∀ x ∈ o.op.operands, Rel w B η (ρA x) (ρ x)) {t : TypeId} {len k e : Nat} {z : List Value} {parts : Array (Nat × Operand)} {l : List AV} (ho : o.op = .buildSlice t len parts) (hm : len ≤ maxLen) (hs : sliT P t = some (e, k, z)) (hle : len * k ≤ 16777216) (hfill : fillA (fun i => some (i * k, k)) ((repL len z).map .c) (partsA ρA parts) = some l) :
    OpS P n0 Bx w ρ o B η (.own H.length) (H ++ [.own l e k]) := by
  intro N hN
  refine buildSl_own he ho hs hle hfill N fun cs g hcs hrel => ?_
  obtain ⟨_, _, _, _, _, _, _, _, hk⟩ := sliT_spec hs
  have hsz : w.heap.size < (w.alloc (.cells cs e)).heap.size := by show w.heap.size < (w.heap.push _).size; simp
  have hat : (w.alloc (.cells cs e)).heap[w.heap.size]? = some (.cells cs e (0, 0)) := by show (w.heap.push _)[w.heap.size]? = _; simp
  have hB : ∀ b ∈ w.heap.size :: B, b ∈ B ∨ w.heap.size ≤ b := fun b hb => by rcases List.mem_cons.1 hb with rfl | h; exact .inr (Nat.le_refl _); exact .inl h
  refine hN _ _ (w.heap.size :: B) (η ++ [.slice (some ⟨w.heap.size, 0, none⟩) len len]) (.gr g) hB (push_old η _) ⟨g.os, g.tape, g.output, g.size, fun b hb => g.block b (by have := inv.base.1; omega)⟩ ?_ (.own _ _ _ _ _ (by rw [← inv.len, List.getElem?_append_right (Nat.le_refl _)]; simp)) (fun h => by cases h)
  refine inv.push g (Nat.le_refl _) hsz rfl ⟨len, cs.toList, ⟨by simpa using hcs, .inr ⟨w.heap.size, 0, len, cs, rfl, inv.base.1, hat, Nat.le_refl _, hm, by omega, by rw [List.drop_zero]; exact List.take_of_length_le (by simp [hcs])⟩⟩, hrel.on (.gr g) hB (push_old η _), hk, fun b hb => ?_⟩
  simp [Value.ownBlock] at hb
  subst hb
  exact ⟨List.mem_cons_self, fun hbx => by have := (inv.sub _ hbx).2; have := inv.base.1; omega⟩
/-- A slice that is made: the call's own. -/
theorem makeOwn_ok (inv : Inv n0 Bx w B η H) (he : ∀ x ∈ o.op.operands, Rel w B η (ρA x) (ρ x)) {t e k by_ : Nat} {z : List Value} {a b : Operand} {kl kc : IntKind} {l c : Int} {i : TypeInfo} (ho : o.op = .makeSlice t a b) (hs : sliT P t = some (e, k, z)) (hi : P.info? e = some i) (hby : i.bytes = by_)
    (ha : ρA a = .c (.int kl l)) (hb : ρA b = .c (.int kc c)) (h0 : 0 ≤ l) (hlc : l ≤ c) (hm : c.toNat ≤ maxLen) (hbytes : c.toNat * by_ ≤ 140737488355328) :
    OpS P n0 Bx w ρ o B η (.own H.length) (H ++ [.own ((repL l.toNat z).map .c) e k]) := by
  intro N hN
  have h1 := he a (by simp [ho, Op.operands])
  have h2 := he b (by simp [ho, Op.operands])
  rw [ha] at h1
  rw [hb] at h2
  have h1 := h1.ofC
  have h2 := h2.ofC
  obtain ⟨i', zv, hu, hi', hz, hsz, hzc, hzl, hk⟩ := sliT_spec hs
  rw [hi] at hi'
  injection hi' with hi'
  subst hi'
  have hb1 : (i.bytes : Int) * c ≤ 281474976710656 := by
    have h : ((c.toNat * by_ : Nat) : Int) ≤ 281474976710656 := by omega
    rw [Int.natCast_mul, Int.toNat_of_nonneg (by omega)] at h
    rw [hby, Int.mul_comm]; exact h
  have h63 : c ≤ 9223372036854775807 := by simp [maxLen] at hm; omega
  have hr := run_make (P := P) w t e i zv hu hi hz kl kc l c h0 hlc hb1 h63
  have hzs : zv.cells.size = k := by rw [← hzl, ← hzc]; simp
  have hcs : (madeCells zv.cells (c.toNat * i.size)).size = c.toNat * k := by rw [size_madeCells, hsz]
  have hlist : (madeCells zv.cells (c.toNat * i.size)).toList = repL c.toNat z := by rw [← hzc, hsz, ← hzs]; exact made_repL _ _ (by omega)
  generalize hcsq : madeCells zv.cells (c.toNat * i.size) = cs at hr hcs hlist
  have g : Gr w (w.alloc (.cells cs e)) := gr_alloc (Gr.refl w) _
  have hsz' : w.heap.size < (w.alloc (.cells cs e)).heap.size := by show w.heap.size < (w.heap.push _).size; simp
  have hat : (w.alloc (.cells cs e)).heap[w.heap.size]? = some (.cells cs e (0, 0)) := by show (w.heap.push _)[w.heap.size]? = _; simp
  have hB : ∀ b ∈ w.heap.size :: B, b ∈ B ∨ w.heap.size ≤ b := fun b hb => by rcases List.mem_cons.1 hb with rfl | h; exact .inr (Nat.le_refl _); exact .inl h
  have hlcn : l.toNat ≤ c.toNat := by omega
  have htake : (cs.toList.drop 0).take (l.toNat * k) = repL l.toNat z := by
    rw [List.drop_zero, hlist]
    obtain ⟨m, hme⟩ : ∃ m, c.toNat = l.toNat + m := ⟨c.toNat - l.toNat, by omega⟩
    have e2 : ∀ x y : Nat, repL (x + y) z = repL x z ++ repL y z := fun x y => by unfold repL; rw [← List.flatten_append, List.replicate_append_replicate]
    rw [hme, e2, ← hzl, ← repL_length]
    exact List.take_left
  unfold Oper.val
  have hrun : (execOp ρ o).run P w = .ok (.value (.slice (some ⟨w.heap.size, 0, none⟩) l.toNat c.toNat)) (w.alloc (.cells cs e)) := by
    simp [execOp, ho, h1, h2, Sem.run_bind, hr]
  rw [hrun]
  refine hN _ _ (w.heap.size :: B) (η ++ [.slice (some ⟨w.heap.size, 0, none⟩) l.toNat c.toNat]) (.gr g) hB (push_old η _) ⟨g.os, g.tape, g.output, g.size, fun b hb => g.block b (by have := inv.base.1; omega)⟩ ?_ (.own _ _ _ _ _ (by rw [← inv.len, List.getElem?_append_right (Nat.le_refl _)]; simp)) (fun h => by cases h)
  refine inv.push g (Nat.le_refl _) hsz' rfl ⟨l.toNat, repL l.toNat z, ⟨by rw [repL_length, hzl], .inr ⟨w.heap.size, 0, c.toNat, cs, rfl, inv.base.1, hat, hlcn, hm, by omega, htake⟩⟩, relL_c _, hk, fun b hb => ?_⟩
  simp [Value.ownBlock] at hb
  subst hb
  exact ⟨List.mem_cons_self, fun hbx => by have := (inv.sub _ hbx).2; have := inv.base.1; omega⟩
end
end Go.Proofs.Ytpijcgohhjgdbaa
