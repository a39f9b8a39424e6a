/-
  Parts of my own, one behind the other: Eng8b, Eng8z, K1, K2, K3, K3b, K4.
-/
import Derived.Test.YtfaocnboildjbaaDoorMrg1
import Derived.Laws.MakeOwn
import Derived.Lib.AppendStr
import Derived.DeepKeys
import Derived.Laws.StructEq
import Derived.Laws.Pointers
import Derived.LaidEqlPtr
import Derived.Stop.IfaceNil
import Derived.Laws.Entries
import Derived.Lib.ConvBytes
/-
  A part of a slice of the call's own: it stands for the whole from then on.
-/
namespace Go.Proofs.YtfaocnboildjbaaDoor
set_option maxRecDepth 100000
open Go.RowKit
set_option linter.unusedVariables false
set_option linter.unusedSimpArgs false

section
variable {P : Program} {w w' : World} {B : List Nat} {η : List Value} {H : List Ent} {ρ : Operand → Value} {ρA : Operand → AV} {o : Oper} {C : Con} {n0 : Nat} {Bx : List Nat}
theorem Inv.move (inv : Inv n0 Bx w B η H) {id : Nat} {e e' : Ent} {v v' : Value} (hH : H[id]? = some e) (hl : e.live = true) (hv : η[id]? = some v) (he : EntOK n0 Bx w B (η ++ [v']) v' e') (hb : ∀ b, blkOf v' = some b → blkOf v = some b) : Inv n0 Bx w B (η ++ [v']) (H.set id .dead ++ [e']) := by
  have ik := inv.kill (.own id)
  have hk : killA H (.own id) = H.set id .dead := rfl
  rw [hk] at ik
  have klen : (H.set id Ent.dead).length = H.length := by simp
  have hg : η.getD id undef = v := by simp [List.getD_eq_getElem?_getD, hv]
  have hold : ∀ (j : Nat) (ej : Ent), (H.set id Ent.dead)[j]? = some ej → ej.live = true → H[j]? = some ej ∧ j ≠ id := by
    intro j ej h hlj
    rw [List.getElem?_set] at h
    split at h
    · split at h
      · injection h with h; subst h; cases hlj
      · cases h
    · rename_i hne; exact ⟨h, fun hh => hne hh.symm⟩
  refine ⟨by simp [inv.len], inv.base, inv.sub, inv.lt, fun j ej h => ?_, fun i j ei ej hij hi' hj hli hlj b hb' => ?_⟩
  · rcases Nat.lt_or_ge j H.length with hid | hid
    · rw [List.getElem?_append_left (by rw [klen]; exact hid)] at h
      rw [getD_push_old (by rw [inv.len]; exact hid)]
      exact EntOK.on (ik.ent j ej h) (Gr.refl w) (push_old η _)
    · rw [List.getElem?_append_right (by rw [klen]; exact hid)] at h
      have : j = H.length := by have := (List.getElem?_eq_some_iff.1 h).1; rw [klen] at this; simp at this; omega
      subst this
      simp [klen] at h; subst h
      rw [← inv.len, getD_push_new]
      exact he
  · have key : ∀ (i : Nat) (ei : Ent), (H.set id Ent.dead ++ [e'])[i]? = some ei → (i < H.length ∧ (H.set id Ent.dead)[i]? = some ei ∧ (η ++ [v']).getD i undef = η.getD i undef) ∨ (i = H.length ∧ (η ++ [v']).getD i undef = v') := by
      intro i ei h
      rcases Nat.lt_or_ge i H.length with hid | hid
      · exact .inl ⟨hid, by rwa [List.getElem?_append_left (by rw [klen]; exact hid)] at h, getD_push_old (by rw [inv.len]; exact hid)⟩
      · have : i = H.length := by
          rw [List.getElem?_append_right (by rw [klen]; exact hid)] at h
          have := (List.getElem?_eq_some_iff.1 h).1; rw [klen] at this; simp at this; omega
        subst this
        exact .inr ⟨rfl, by rw [← inv.len, getD_push_new]⟩
    rcases key i ei hi' with ⟨h1, h2, h3⟩ | ⟨h1, h3⟩ <;> rcases key j ej hj with ⟨k1, k2, k3⟩ | ⟨k1, k3⟩
    · rw [h3] at hb'; rw [k3]; exact ik.sep i j ei ej hij h2 k2 hli hlj b hb'
    · rw [h3] at hb'; rw [k3]
      intro hcc
      obtain ⟨q1, q2⟩ := hold i ei h2 hli
      exact inv.sep i id ei e q2 q1 hH hli hl b hb' (by rw [hg]; exact hb b hcc)
    · rw [h3] at hb'; rw [k3]
      obtain ⟨q1, q2⟩ := hold j ej k2 hlj
      exact inv.sep id j e ej (fun h => q2 h.symm) hH q1 hl hlj b (by rw [hg]; exact hb b hb')
    · omega
theorem drop_take_part {α : Type} (D us : List α) (N x y : Nat) (h : D.take N = us) (hxy : x + y ≤ us.length) : (D.drop x).take y = (us.drop x).take y := by
  subst h
  apply List.ext_getElem?
  intro i
  simp only [List.getElem?_take, List.getElem?_drop]
  simp only [List.length_take] at hxy
  by_cases hi : i < y
  · simp only [hi, if_true]
    rw [if_pos (by omega)]
  · simp only [hi, if_false]
theorem sliceOwn_ok (inv : Inv n0 Bx w B η H) (he : ∀ x ∈ o.op.operands, Rel w B η (ρA x) (ρ x)) {t e E : TypeId} {x : Operand} {lo hi : Option Operand} {id k a b : Nat} {cells : List AV} (ho : o.op = .slice t x lo hi none) (hu : P.underlying t = some (.slice e)) (hx : ρA x = .own id)
    (hH : H[id]? = some (.own cells E k)) (hk : k = P.cellsOf e) (hk1 : 1 ≤ k) (hlo : boundA ρA 0 lo = some a) (hhi : boundA ρA (cells.length / k) hi = some b) (hab : a ≤ b) (hb : b * k ≤ cells.length) :
    OpS P n0 Bx w ρ o B η (.own H.length) (H.set id .dead ++ [.own ((cells.drop (a * k)).take ((b - a) * k)) E k]) := by
  have hel : ∀ y, lo = some y → Rel w B η (ρA y) (ρ y) := fun y h => he y (by simp [ho, Op.operands, h])
  have heh : ∀ y, hi = some y → Rel w B η (ρA y) (ρ y) := fun y h => he y (by simp [ho, Op.operands, h])
  have h1 := he x (by simp [ho, Op.operands])
  rw [hx] at h1
  generalize hv : ρ x = v at h1
  cases h1 with
  | own _ _ A n c hid =>
  have hent := inv.ent id _ hH
  rw [List.getD_eq_getElem?_getD, hid, Option.getD_some] at hent
  obtain ⟨n', us, hown, hrel, _, hbl⟩ := hent
  obtain rfl := hown.len
  have hlen : cells.length = n * k := by rw [← hrel.1]; exact hown.1
  have hdiv : cells.length / k = n := by rw [hlen]; exact Nat.mul_div_cancel _ hk1
  rw [hdiv] at hhi
  have hbn : b ≤ n := Nat.le_of_mul_le_mul_right (by rw [← hlen]; exact hb) hk1
  obtain ⟨ii, hii, hs⟩ := cells_info (t := e) (P := P) (by omega)
  have hnc : n ≤ c := by
    rcases hown.2 with ⟨hvv, hn0⟩ | ⟨g, oo, cap, cur, hvv, hb', hg, hnc, hcm, hsz, htk⟩
    · omega
    · injection hvv with q1 q2 q3; omega
  have hrun : (execOp ρ o).run P w = .ok (.value (.slice (if c = a then A else A.map (·.add (a * k))) (b - a) (c - a))) w := by
    have hbounds : (Instr.sliceBounds true n c (lo.map ρ) (hi.map ρ) none).run P w = .ok (a, b, c) w := by
      have hb' : ∀ z : Int, b = z.toNat → 0 ≤ z → z ≤ (c : Int) := by omega
      have ha' : ∀ z : Int, a = z.toNat → 0 ≤ z → z ≤ (b : Int) := by omega
      rcases boundA_spec hel hlo with ⟨rfl, rfl⟩ | ⟨y, kk, z, rfl, hy, hz, hza⟩
      · rcases boundA_spec heh hhi with ⟨rfl, rfl⟩ | ⟨y2, kk2, z2, rfl, hy2, hz2, hzb⟩
        · simp [Instr.sliceBounds, Sem.run_bind]
        · subst hzb
          simp [Instr.sliceBounds, Sem.run_bind, hy2, run_sliceBound (P := P) ⟨hz2, hb' _ rfl hz2⟩]
      · subst hza
        rcases boundA_spec heh hhi with ⟨rfl, rfl⟩ | ⟨y2, kk2, z2, rfl, hy2, hz2, hzb⟩
        · simp [Instr.sliceBounds, Sem.run_bind, hy, run_sliceBound (P := P) ⟨hz, ha' _ rfl hz⟩]
        · subst hzb
          simp [Instr.sliceBounds, Sem.run_bind, hy, hy2, run_sliceBound (P := P) ⟨hz2, hb' _ rfl hz2⟩, run_sliceBound (P := P) ⟨hz, ha' _ rfl hz⟩]
    simp [execOp, ho, Instr.sliceAt, Instr.slice, Sem.run_bind, run_underlying hu, hv, hbounds, run_sizeOf hii, hs, hk]
  have hpart : ((us.drop (a * k)).take ((b - a) * k)).length = (b - a) * k := by
    rw [List.length_take, List.length_drop, hown.1, ← Nat.sub_mul]
    exact Nat.min_eq_left (Nat.mul_le_mul_right k (by omega))
  have hrel2 : RelL w B (η ++ [.slice (if c = a then A else A.map (·.add (a * k))) (b - a) (c - a)]) ((cells.drop (a * k)).take ((b - a) * k)) ((us.drop (a * k)).take ((b - a) * k)) := ((hrel.drop _).take _).on (On.refl _ _) (fun _ h => .inl h) (push_old η _)
  have hfit : a * k + (b - a) * k ≤ us.length := by
    rw [hown.1, ← Nat.add_mul]; exact Nat.mul_le_mul_right k (by omega)
  have hent' : EntOK n0 Bx w B (η ++ [.slice (if c = a then A else A.map (·.add (a * k))) (b - a) (c - a)]) (.slice (if c = a then A else A.map (·.add (a * k))) (b - a) (c - a)) (.own ((cells.drop (a * k)).take ((b - a) * k)) E k) := by
    refine ⟨b - a, _, ⟨hpart, ?_⟩, hrel2, hk1, fun g hg => hbl g ?_⟩
    · rcases hown.2 with ⟨hvv, hn0⟩ | ⟨g, oo, cap, cur, hvv, hb', hg, hnc', hcm, hsz, htk⟩
      · injection hvv with q1 q2 q3
        subst q1 q3
        left
        have : a = 0 := by omega
        subst this
        exact ⟨by simp; omega, by omega⟩
      · injection hvv with q1 q2 q3
        subst q1 q3
        right
        by_cases hca : c = a
        · rw [if_pos hca]
          refine ⟨g, oo, c - a, cur, rfl, hb', hg, by omega, by omega, ?_, ?_⟩
          · have : (c - a) * k = 0 := by rw [hca]; simp
            have : c * k ≥ 0 := Nat.zero_le _
            omega
          · have : (b - a) * k = 0 := by rw [show b - a = 0 by omega]; simp
            rw [this]; simp
        · rw [if_neg hca]
          refine ⟨g, oo + a * k, c - a, cur, by simp [Addr.add_mid], hb', hg, by omega, by omega, ?_, ?_⟩
          · have : a * k + (c - a) * k = c * k := by rw [← Nat.add_mul]; congr 1; omega
            omega
          · rw [← List.drop_drop]
            exact drop_take_part _ _ _ _ _ htk hfit
    · cases A with
      | none => simp [Value.ownBlock] at hg
      | some ad =>
        split at hg <;> simpa [Value.ownBlock, block_of_add] using hg
  have hinv := inv.move (v' := .slice (if c = a then A else A.map (·.add (a * k))) (b - a) (c - a)) hH rfl hid hent' (fun g hg => by
    cases A with
    | none => simp [blkOf] at hg
    | some ad => split at hg <;> simpa [blkOf, block_of_add] using hg)
  intro N hN
  unfold Oper.val
  rw [hrun]
  exact hN _ _ B _ (On.refl _ _) (fun _ h => .inl h) (push_old η _) (Below.refl _ _) hinv (.own _ _ _ _ _ (by rw [← inv.len, List.getElem?_append_right (Nat.le_refl _)]; simp)) (fun h => by cases h)
/-- Appended to a slice whose room is its length: all is new. -/
theorem appendF_ok (inv : Inv n0 Bx w B η H) (he : ∀ x ∈ o.op.operands, Rel w B η (ρA x) (ρ x)) {ρR : Operand → AV} (hR : ∀ x ∈ o.op.operands, Rel w B η (ρR x) (ρ x) ∧ FreshV n0 (ρR x) (ρ x)) {s x : Operand} {t E k by_ : Nat} {i : TypeInfo} {z : Value} {l0 l : List AV} (ho : o.op = .call ⟨.builtin .append, #[s, x], #[t, t]⟩)
    (ht : P.underlying t = some (.slice E)) (hi : P.info? E = some i) (hz : i.zero = some z) (hsz : i.size = k) (hby : i.bytes = by_) (hzs : z.cells.size = k) (hk : 1 ≤ k)
    (hd : ρR s = .fresh l0 k) (hs : srcA H k (ρA x) = some l) (hl : l ≠ []) (h1 : l.all AV.one = true) (hm : (l0.length + l.length) / k ≤ maxLen) (hb : (l0.length + l.length) / k * by_ ≤ 140737488355328) :
    OpS P n0 Bx w ρ o B η (.own H.length) (H ++ [.own (l0 ++ l) E k]) := by
  intro N hN
  have h0 := (hR s (by simp [ho, Op.operands, Call.operands])).1
  rw [hd] at h0
  obtain ⟨A0, n, us0, hvs, _, hn0, hA0n, hmx, hA0, hr0⟩ := h0.freshL
  obtain ⟨A, m, c, vs, hv, hn, hA, hr⟩ := srcA_spec (he x (by simp [ho, Op.operands, Call.operands])) hk hs
  have hlp : 0 < l.length := List.length_pos_iff.2 hl
  have hmp : 0 < m := Nat.pos_of_ne_zero fun h => by subst h; omega
  obtain ⟨ad, hA1, hat⟩ := hA hmp
  subst hA1
  have hdiv : (l0.length + l.length) / k = n + m := by rw [← hn0, ← hn, ← Nat.add_mul]; exact Nat.mul_div_cancel _ hk
  rw [hdiv] at hm hb
  have hnews : RelL w B η l ((List.range l.length).map vs) := ⟨by simp, fun i y hy => by
    have hlt : i < l.length := (List.getElem?_eq_some_iff.1 hy).1
    exact ⟨vs i, by simp [hlt], (hr i y hy).any⟩⟩
  have holds : RelL w B η l0 ((List.range l0.length).map us0) := ⟨by simp, fun i y hy => by
    have hlt : i < l0.length := (List.getElem?_eq_some_iff.1 hy).1
    exact ⟨us0 i, by simp [hlt], (hr0 i y hy).any⟩⟩
  have hcells : ∀ (j : Nat) u, ((List.range l.length).map vs)[j]? = some u → w.cell? (ad.add j) = some u := fun j u hj => by
    have hlt : j < l.length := by have := (List.getElem?_eq_some_iff.1 hj).1; simpa using this
    rw [hat.cell j hlt]
    simp [hlt] at hj
    rw [hj]
  have key : ∃ v' w', (Builtin.append_ #[t, t] o.type #[.slice A0 n n, .slice (some ad) m c]).run P w = .ok v' w' ∧ w'.ownsRow w.heap.size E k v' (n + m) ((List.range l0.length).map us0 ++ (List.range l.length).map vs) ∧ w.grownBy w' none := by
    cases A0 with
    | none =>
      have hz0 := hA0n rfl
      subst hz0
      have : l0 = [] := List.eq_nil_of_length_eq_zero (by rw [← hn0]; simp)
      subst this
      obtain ⟨v', w', q1, q2, q3, q4, q5⟩ := run_append_own_at (P := P) w w.heap.size t o.type E i z k by_ ht hi hz hsz hby hzs hk (.slice none 0 0) 0 [] (World.ownsRow_nil _ _ _ _) ad m c ((List.range l.length).map vs) (by simp [hn]) hcells (hnews.one h1) hm hb (Nat.le_refl _)
      exact ⟨v', w', q1, by simpa using q2, q3⟩
    | some a0 =>
      exact run_append_arg_grows (P := P) w t o.type E i z k by_ ht hi hz hsz hby hzs hk a0 n n ((List.range l0.length).map us0) (by simp [hn0]) (fun j u hj => by
        have hlt : j < l0.length := by have := (List.getElem?_eq_some_iff.1 hj).1; simpa using this
        have hnp : 0 < n := Nat.pos_of_ne_zero fun h => by subst h; omega
        obtain ⟨a1, q1, q2⟩ := hA0 hnp
        injection q1 with q1
        subst q1
        rw [q2.cell j hlt]
        simp [hlt] at hj
        rw [hj]) ad m c ((List.range l.length).map vs) (by simp [hn]) hcells (by omega) hm hb
  obtain ⟨v', w', q1, q2, q3⟩ := key
  have g : Gr w w' := ⟨q3.os, q3.tape, q3.output, q3.size, fun b hb => q3.block b hb (by simp)⟩
  obtain ⟨gg, cap, hv', hgb, hglt⟩ := q2.form (by omega)
  subst hv'
  have hB : ∀ y ∈ gg :: B, y ∈ B ∨ w.heap.size ≤ y := fun y hy => by rcases List.mem_cons.1 hy with rfl | h; exact .inr hgb; exact .inl h
  have hinv := inv.push (v := .slice (some ⟨gg, 0, none⟩) (n + m) cap) (e := .own (l0 ++ l) E k) g hgb hglt rfl ⟨n + m, _, .row q2 (by have := inv.base.1; omega), (holds.append hnews).on (.gr g) hB (push_old η _), hk, fun b hb => by
    simp [Value.ownBlock] at hb
    subst hb
    exact ⟨List.mem_cons_self, fun hbx => by have := (inv.sub _ hbx).2; have := inv.base.1; omega⟩⟩
  unfold Oper.val
  have hrun' : (execOp ρ o).run P w = .ok (.value (.slice (some ⟨gg, 0, none⟩) (n + m) cap)) w' := by
    simp only [execOp, ho, resolve, invoke, builtin, Sem.run_bind, Sem.run_pure, Result.andThen_ok, List.map_toArray, List.map_cons, List.map_nil, hv, hvs, q1]
  rw [hrun']
  exact hN _ _ _ _ (.gr g) hB (push_old η _) (g.mono inv.base.1) hinv (.own _ _ _ _ _ (by rw [← inv.len, List.getElem?_append_right (Nat.le_refl _)]; simp)) (fun h => by cases h)
/-- A slice that is built: the call's own. -/
theorem buildOwn_ok (inv : Inv n0 Bx w B η H) (he : ∀ x ∈ o.op.operands, Rel w B η (ρA x) (ρ x)) {t : TypeId} {len k e : Nat} {z : List Value} {parts : Array (Nat × Operand)} {l : List AV} (ho : o.op = .buildSlice t len parts) (hm : len ≤ maxLen) (hs : sliT P t = some (e, k, z)) (hle : len * k ≤ 16777216) (hfill : fillA (fun i => some (i * k, k)) ((repL len z).map .c) (partsA ρA parts) = some l) :
    OpS P n0 Bx w ρ o B η (.own H.length) (H ++ [.own l e k]) := by
  intro N hN
  refine buildSl_own he ho hs hle hfill N fun cs g hcs hrel => ?_
  obtain ⟨_, _, _, _, _, _, _, _, hk⟩ := sliT_spec hs
  have hsz : w.heap.size < (w.alloc (.cells cs e)).heap.size := by show w.heap.size < (w.heap.push _).size; simp
  have hat : (w.alloc (.cells cs e)).heap[w.heap.size]? = some (.cells cs e (0, 0)) := by show (w.heap.push _)[w.heap.size]? = _; simp
  have hB : ∀ b ∈ w.heap.size :: B, b ∈ B ∨ w.heap.size ≤ b := fun b hb => by rcases List.mem_cons.1 hb with rfl | h; exact .inr (Nat.le_refl _); exact .inl h
  refine hN _ _ (w.heap.size :: B) (η ++ [.slice (some ⟨w.heap.size, 0, none⟩) len len]) (.gr g) hB (push_old η _) ⟨g.os, g.tape, g.output, g.size, fun b hb => g.block b (by have := inv.base.1; omega)⟩ ?_ (.own _ _ _ _ _ (by rw [← inv.len, List.getElem?_append_right (Nat.le_refl _)]; simp)) (fun h => by cases h)
  refine inv.push g (Nat.le_refl _) hsz rfl ⟨len, cs.toList, ⟨by simpa using hcs, .inr ⟨w.heap.size, 0, len, cs, rfl, inv.base.1, hat, Nat.le_refl _, hm, by omega, by rw [List.drop_zero]; exact List.take_of_length_le (by simp [hcs])⟩⟩, hrel.on (.gr g) hB (push_old η _), hk, fun b hb => ?_⟩
  simp [Value.ownBlock] at hb
  subst hb
  exact ⟨List.mem_cons_self, fun hbx => by have := (inv.sub _ hbx).2; have := inv.base.1; omega⟩
/-- A slice that is made: the call's own. -/
theorem makeOwn_ok (inv : Inv n0 Bx w B η H) (he : ∀ x ∈ o.op.operands, Rel w B η (ρA x) (ρ x)) {t e k by_ : Nat} {z : List Value} {a b : Operand} {kl kc : IntKind} {l c : Int} {i : TypeInfo} (ho : o.op = .makeSlice t a b) (hs : sliT P t = some (e, k, z)) (hi : P.info? e = some i) (hby : i.bytes = by_)
    (ha : ρA a = .c (.int kl l)) (hb : ρA b = .c (.int kc c)) (h0 : 0 ≤ l) (hlc : l ≤ c) (hm : c.toNat ≤ maxLen) (hbytes : c.toNat * by_ ≤ 140737488355328) :
    OpS P n0 Bx w ρ o B η (.own H.length) (H ++ [.own ((repL l.toNat z).map .c) e k]) := by
  intro N hN
  have h1 := he a (by simp [ho, Op.operands])
  have h2 := he b (by simp [ho, Op.operands])
  rw [ha] at h1
  rw [hb] at h2
  have h1 := h1.ofC
  have h2 := h2.ofC
  obtain ⟨i', zv, hu, hi', hz, hsz, hzc, hzl, hk⟩ := sliT_spec hs
  rw [hi] at hi'
  injection hi' with hi'
  subst hi'
  have hb1 : (i.bytes : Int) * c ≤ 281474976710656 := by
    have h : ((c.toNat * by_ : Nat) : Int) ≤ 281474976710656 := by omega
    rw [Int.natCast_mul, Int.toNat_of_nonneg (by omega)] at h
    rw [hby, Int.mul_comm]; exact h
  have h63 : c ≤ 9223372036854775807 := by simp [maxLen] at hm; omega
  have hr := run_make (P := P) w t e i zv hu hi hz kl kc l c h0 hlc hb1 h63
  have hzs : zv.cells.size = k := by rw [← hzl, ← hzc]; simp
  have hcs : (madeCells zv.cells (c.toNat * i.size)).size = c.toNat * k := by rw [size_madeCells, hsz]
  have hlist : (madeCells zv.cells (c.toNat * i.size)).toList = repL c.toNat z := by rw [← hzc, hsz, ← hzs]; exact made_repL _ _ (by omega)
  generalize hcsq : madeCells zv.cells (c.toNat * i.size) = cs at hr hcs hlist
  have g : Gr w (w.alloc (.cells cs e)) := gr_alloc (Gr.refl w) _
  have hsz' : w.heap.size < (w.alloc (.cells cs e)).heap.size := by show w.heap.size < (w.heap.push _).size; simp
  have hat : (w.alloc (.cells cs e)).heap[w.heap.size]? = some (.cells cs e (0, 0)) := by show (w.heap.push _)[w.heap.size]? = _; simp
  have hB : ∀ b ∈ w.heap.size :: B, b ∈ B ∨ w.heap.size ≤ b := fun b hb => by rcases List.mem_cons.1 hb with rfl | h; exact .inr (Nat.le_refl _); exact .inl h
  have hlcn : l.toNat ≤ c.toNat := by omega
  have htake : (cs.toList.drop 0).take (l.toNat * k) = repL l.toNat z := by
    rw [List.drop_zero, hlist]
    obtain ⟨m, hme⟩ : ∃ m, c.toNat = l.toNat + m := ⟨c.toNat - l.toNat, by omega⟩
    have e2 : ∀ x y : Nat, repL (x + y) z = repL x z ++ repL y z := fun x y => by unfold repL; rw [← List.flatten_append, List.replicate_append_replicate]
    rw [hme, e2, ← hzl, ← repL_length]
    exact List.take_left
  unfold Oper.val
  have hrun : (execOp ρ o).run P w = .ok (.value (.slice (some ⟨w.heap.size, 0, none⟩) l.toNat c.toNat)) (w.alloc (.cells cs e)) := by
    simp [execOp, ho, h1, h2, Sem.run_bind, hr]
  rw [hrun]
  refine hN _ _ (w.heap.size :: B) (η ++ [.slice (some ⟨w.heap.size, 0, none⟩) l.toNat c.toNat]) (.gr g) hB (push_old η _) ⟨g.os, g.tape, g.output, g.size, fun b hb => g.block b (by have := inv.base.1; omega)⟩ ?_ (.own _ _ _ _ _ (by rw [← inv.len, List.getElem?_append_right (Nat.le_refl _)]; simp)) (fun h => by cases h)
  refine inv.push g (Nat.le_refl _) hsz' rfl ⟨l.toNat, repL l.toNat z, ⟨by rw [repL_length, hzl], .inr ⟨w.heap.size, 0, c.toNat, cs, rfl, inv.base.1, hat, hlcn, hm, by omega, htake⟩⟩, relL_c _, hk, fun b hb => ?_⟩
  simp [Value.ownBlock] at hb
  subst hb
  exact ⟨List.mem_cons_self, fun hbx => by have := (inv.sub _ hbx).2; have := inv.base.1; omega⟩
end
end Go.Proofs.YtfaocnboildjbaaDoor
/-
  Zeros appended: append(s, make(.., n)...).
-/
namespace Go.Proofs.YtfaocnboildjbaaDoor
set_option maxRecDepth 100000
open Go.RowKit
set_option linter.unusedVariables false
set_option linter.unusedSimpArgs false

section
variable {P : Program} {w w' : World} {B : List Nat} {η : List Value} {H : List Ent} {ρ : Operand → Value} {ρA : Operand → AV} {o : Oper} {n0 : Nat} {Bx : List Nat}
theorem zeroCells_repL (c : Array Value) (n : Nat) (h : 0 < c.size) : (Builtin.zeroCells c n).toList = repL n c.toList := by
  apply List.ext_getElem?
  intro j
  rcases Nat.lt_or_ge j (n * c.size) with hj | hj
  · rw [repL_get n c.toList j (by simpa using hj)]
    have hm : j % c.size < c.size := Nat.mod_lt _ h
    simp [Builtin.zeroCells, hj, hm]
  · rw [List.getElem?_eq_none (by simpa [size_zeroCells] using hj), List.getElem?_eq_none (by rw [repL_length]; simpa using hj)]
theorem run_append_zero0 {base t tn ty e n : Nat} {kn kx : IntKind} {i : TypeInfo} {v : Value} {xs : List Value} (ht : P.underlying t = some (.slice e)) (htn : P.underlying tn = some (.int kn)) (hi : P.info? e = some i) (hown : OwnAt w base e i.size v n xs) :
    (Builtin.append_ #[t, tn] ty #[v, .int kx ((0 : Nat) : Int)]).run P w = .ok v w := by
  have hw : IntKind.i64.wrap (0 : Int) = 0 := by decide
  rcases hown.2 with ⟨rfl, rfl⟩ | ⟨g, oo, cap, cur, rfl, _, _, hnc, _⟩
  · simp [Builtin.append_, run_underlying ht, run_underlying htn, sizeOf, typeInfo, hi, asInt, asIntOf, hw]
  · simp [Builtin.append_, run_underlying ht, run_underlying htn, sizeOf, typeInfo, hi, asInt, asIntOf, hw, hnc, storeCells]
theorem run_append_zeros {base t tn ty E k by_ m : Nat} {kn kx : IntKind} {i : TypeInfo} {z : Value} (ht : P.underlying t = some (.slice E)) (htn : P.underlying tn = some (.int kn)) (hi : P.info? E = some i) (hz : i.zero = some z) (hsz : i.size = k) (hby : i.bytes = by_) (hzs : z.cells.size = k) (hk : 1 ≤ k)
    {v : Value} {n : Nat} {us : List Value} (hown : OwnAt w base E k v n us) (h1 : ∀ u ∈ (Builtin.zeroCells z.cells m).toList, u.oneCell' = true)
    (hm : 0 < m) (h63 : n + m ≤ maxLen) (hbytes : (n + m) * by_ ≤ 140737488355328) (hbase : base ≤ w.heap.size) :
    ∃ g o cap w', (Builtin.append_ #[t, tn] ty #[v, .int kx (m : Int)]).run P w = .ok (.slice (some ⟨g, o, none⟩) (n + m) cap) w' ∧ OwnAt w' base E k (.slice (some ⟨g, o, none⟩) (n + m) cap) (n + m) (us ++ (Builtin.zeroCells z.cells m).toList) ∧
      w.grownBy w' v.ownBlock ∧ (v.ownBlock = some g ∨ w.heap.size ≤ g) ∧ g < w'.heap.size := by
  subst hsz
  subst hby
  have hml : maxLen ≤ 9223372036854775807 := by decide
  have hw : IntKind.i64.wrap (m : Int) = m := by rw [IntKind.wrap_i64]; omega
  have hmb : m * i.bytes ≤ (n + m) * i.bytes := Nat.mul_le_mul_right _ (by omega)
  have h48i : ¬ (281474976710656 < (m : Int) * (i.bytes : Int)) := by
    rw [← Int.natCast_mul]
    omega
  have hneg : ¬ ((m : Int) < 0) := by omega
  have hm0 : m ≠ 0 := by omega
  have hns : ¬ (m * i.size = 0) := Nat.mul_ne_zero hm0 (by omega)
  have hm1 : ¬ (i.size = 0) := by omega
  have hzl : (Builtin.zeroCells z.cells m).size = m * i.size := by rw [size_zeroCells, hzs]
  have fin : ∀ (old : Nat), old < n + m → (Builtin.append_ #[t, tn] ty #[v, .int kx (m : Int)]).run P w = .ok (.slice (some ⟨w.heap.size, 0, none⟩) (n + m) (grownCap w (n + m) old E)) (w.drew.alloc (.cells (us.toArray ++ Builtin.zeroCells z.cells m ++ Builtin.zeroCells z.cells (grownCap w (n + m) old E - (n + m))) E)) →
      ∃ g o cap w', (Builtin.append_ #[t, tn] ty #[v, .int kx (m : Int)]).run P w = .ok (.slice (some ⟨g, o, none⟩) (n + m) cap) w' ∧ OwnAt w' base E i.size (.slice (some ⟨g, o, none⟩) (n + m) cap) (n + m) (us ++ (Builtin.zeroCells z.cells m).toList) ∧
      w.grownBy w' v.ownBlock ∧ (v.ownBlock = some g ∨ w.heap.size ≤ g) ∧ g < w'.heap.size := by
    intro old ho hr
    have hge := grownCap_ge w (n + m) old E
    have hcm : grownCap w (n + m) old E ≤ maxLen := grownCap_le_maxLen w (n + m) old E h63
    have hlen : (us ++ (Builtin.zeroCells z.cells m).toList).length = (n + m) * i.size := by rw [List.length_append, hown.1, Array.length_toList, hzl, Nat.add_mul]
    refine ⟨w.heap.size, 0, _, _, hr, ⟨hlen, .inr ⟨w.heap.size, 0, _, _, rfl, hbase, heap_alloc_new w.drew _, hge, hcm, ?_, ?_⟩⟩, ⟨rfl, rfl, rfl, by simp, fun b hb _ => by first | exact heap_alloc_old w.drew _ b hb | exact heap_alloc_old w.drew _ hb⟩, .inr (Nat.le_refl _), by simp⟩
    · simp only [Array.size_append, List.size_toArray, size_zeroCells, hzs, hown.1, ← Nat.add_mul]
      rw [Nat.zero_add]
      exact Nat.mul_le_mul_right _ (by omega)
    · simp only [Array.toList_append, List.append_assoc, List.drop_zero]
      rw [← List.append_assoc, ← hlen]
      exact List.take_left
  rcases hown.2 with ⟨hv, hn⟩ | ⟨g, o, cap, cur, hv, hb, hg, hnc, hcm, hsize, htk⟩
  · subst hv hn
    have hus : us = [] := List.eq_nil_of_length_eq_zero (by rw [hown.1]; simp)
    subst hus
    have h48' : ¬ (281474976710656 < Builtin.nextslicecap m 0 * i.bytes) := by rw [nextslicecap_zero hm]; omega
    have h63' : ¬ (9223372036854775807 < (m : Int)) := by omega
    refine fin 0 (by omega) ?_
    simp [Builtin.append_, run_underlying ht, run_underlying htn, sizeOf, typeInfo, zeroValue, hi, hz, asInt, asIntOf, hw, hm0, hm1, hneg, hns, h63', h48', h48i, Question.forced, run_firstCells_none, newRow, grownCap]
  · subst hv
    rcases Nat.lt_or_ge cap (n + m) with hgr | hroom
    · have hnr : ¬ (n + m ≤ cap) := by omega
      have h63' : ¬ (9223372036854775807 < ((n : Int) + (m : Int))) := by omega
      have h48' : ¬ (281474976710656 < Builtin.nextslicecap (n + m) cap * i.bytes) := by have := growslice_fits hgr hbytes; omega
      have hfo := run_firstCells_some (P := P) w.drew i.size n ⟨g, o, none⟩ n cap us hown.1 (fun j u hj => by
        rw [Addr.add_mid]
        have := hown.cells j u hj
        simpa using this)
      refine fin cap hgr ?_
      simp [Builtin.append_, run_underlying ht, run_underlying htn, sizeOf, typeInfo, zeroValue, hi, hz, asInt, asIntOf, hw, hnr, hm0, hm1, hneg, hns, h63', h48', h48i, Question.forced, hfo, newRow, grownCap]
    · obtain ⟨news, hnews⟩ : ∃ news, news = (Builtin.zeroCells z.cells m).toList := ⟨_, rfl⟩
      have hl : news.length = m * i.size := by rw [hnews, Array.length_toList, hzl]
      rw [← hnews] at h1 ⊢
      have hmul : (n + m) * i.size ≤ cap * i.size := Nat.mul_le_mul_right _ hroom
      have hnm : (n + m) * i.size = n * i.size + m * i.size := Nat.add_mul n m _
      have hfit : o + n * i.size + news.length ≤ cur.size := by omega
      have hst := run_storeCells_at (P := P) g (o + n * i.size) E news 0 cur w hg (by omega) h1
      simp only [Nat.add_zero] at hst
      have hput : cur.toList.take (o + n * i.size) ++ news ++ cur.toList.drop (o + n * i.size + news.length) = putL cur.toList (o + n * i.size) news := rfl
      rw [hput] at hst
      have hpl : (putL cur.toList (o + n * i.size) news).length = cur.toList.length := by unfold putL; simp; omega
      have hglt : g < w.heap.size := (Array.getElem?_eq_some_iff.1 hg).1
      refine ⟨g, o, cap, w.setRow g (putL cur.toList (o + n * i.size) news).toArray, ?_, ⟨by simp [hown.1, hl, hnm], .inr ⟨g, o, cap, _, rfl, hb, setRow_heap w g cur _ E (0, 0) hg, hroom, hcm, ?_, ?_⟩⟩, ⟨rfl, rfl, rfl, by simp, fun b hb' hne => setRow_other w g b _ (fun h => hne (by rw [h]; rfl))⟩, .inl rfl, by simpa using hglt⟩
      · simp [Builtin.append_, run_underlying ht, run_underlying htn, sizeOf, typeInfo, zeroValue, hi, hz, asInt, asIntOf, hw, hroom, hm0, hm1, hneg, hns, h48i, Addr.add_lit, ← hnews, hst]
      · have : (putL cur.toList (o + n * i.size) news).toArray.size = cur.size := by simpa using hpl
        omega
      · rw [List.toList_toArray, drop_putL _ _ _ _ (by simpa using hfit)]
        unfold putL
        rw [htk, List.append_assoc, List.take_append, hown.1]
        have hu : us.take ((n + m) * i.size) = us := List.take_of_length_le (by rw [hown.1]; omega)
        rw [hu, show (n + m) * i.size - n * i.size = news.length by omega, List.take_left]
/-- What is appended, whatever it is: by what the run comes to. -/
theorem appendG_ok (inv : Inv n0 Bx w B η H) (he : ∀ x ∈ o.op.operands, Rel w B η (ρA x) (ρ x)) {s x : Operand} {t tn E k m : Nat} {zs : List Value} {xv : Value} {cells : List AV} (ho : o.op = .call ⟨.builtin .append, #[s, x], #[t, tn]⟩)
    (hk : 1 ≤ k) (hd : dstA H E k (ρA s) = some cells) (hv : ρ x = xv) (hz0 : m = 0 → zs = [])
    (hrun0 : m = 0 → ∀ (v : Value) (n : Nat) (us : List Value), OwnAt w n0 E k v n us → (Builtin.append_ #[t, tn] o.type #[v, xv]).run P w = .ok v w)
    (hrunp : 0 < m → ∀ (v : Value) (n : Nat) (us : List Value), OwnAt w n0 E k v n us → n = cells.length / k → ∃ g og cap w', (Builtin.append_ #[t, tn] o.type #[v, xv]).run P w = .ok (.slice (some ⟨g, og, none⟩) (n + m) cap) w' ∧ OwnAt w' n0 E k (.slice (some ⟨g, og, none⟩) (n + m) cap) (n + m) (us ++ zs) ∧
      w.grownBy w' v.ownBlock ∧ (v.ownBlock = some g ∨ w.heap.size ≤ g) ∧ g < w'.heap.size) :
    OpS P n0 Bx w ρ o B η (.own H.length) (killA H (ρA s) ++ [.own (cells ++ zs.map .c) E k]) := by
  intro N hN
  obtain ⟨n, us, hown, hrel, hbl, hex⟩ := dstA_spec inv (he s (by simp [ho, Op.operands, Call.operands])) hk hd
  have hlc : cells.length = n * k := by rw [← hrel.1]; exact hown.1
  have ik := inv.kill (ρA s)
  have klen : (killA H (ρA s)).length = H.length := by unfold killA; split <;> simp
  have hold : ∀ (id : Nat) (e : Ent), (killA H (ρA s))[id]? = some e → e.live = true → H[id]? = some e ∧ ∀ b, (ρ s).ownBlock = some b → blkOf (η.getD id undef) ≠ some b := by
    intro id e h hl
    have hH : H[id]? = some e ∧ ρA s ≠ .own id := by
      unfold killA at h
      split at h
      · rename_i id' hid'
        rw [List.getElem?_set] at h
        split at h
        · split at h
          · injection h with h; subst h; cases hl
          · cases h
        · rename_i hne; exact ⟨h, fun hh => hne (by rw [hid'] at hh; injection hh)⟩
      · rename_i hnot
        exact ⟨h, fun hh => hnot id hh⟩
    refine ⟨hH.1, fun b hb hc => ?_⟩
    obtain ⟨id2, e2, h2, h3, h4, h5⟩ := hex b hb
    exact inv.sep id2 id e2 e (fun hh => hH.2 (by rw [h2, hh])) h3 hH.1 h4 hl b h5 hc
  rcases Nat.eq_zero_or_pos m with hm0 | hmp
  · have hl0 : zs = [] := hz0 hm0
    subst hm0
    rw [hl0] at hN
    have hrun0 := hrun0 rfl _ _ _ hown
    have hinv : Inv n0 Bx w B (η ++ [ρ s]) (killA H (ρA s) ++ [.own (cells ++ List.map AV.c []) E k]) := by
      refine ⟨by simp [klen, inv.len], inv.base, inv.sub, inv.lt, fun id e h => ?_, fun i j ei ej hij hi' hj hli hlj b hb' => ?_⟩
      · rcases Nat.lt_or_ge id H.length with hid | hid
        · rw [List.getElem?_append_left (by rw [klen]; exact hid)] at h
          rw [getD_push_old (by rw [inv.len]; exact hid)]
          exact EntOK.on (ik.ent id e h) (Gr.refl w) (push_old η _)
        · rw [List.getElem?_append_right (by rw [klen]; exact hid)] at h
          have : id = H.length := by have := (List.getElem?_eq_some_iff.1 h).1; rw [klen] at this; simp at this; omega
          subst this
          simp [klen] at h; subst h
          rw [← inv.len, getD_push_new]
          exact ⟨n, us, hown, by simpa using hrel.on (On.refl _ _) (fun _ h => .inl h) (push_old η _), hk, hbl⟩
      · have key : ∀ (i : Nat) (ei : Ent), (killA H (ρA s) ++ [Ent.own (cells ++ List.map AV.c []) E k])[i]? = some ei → (i < H.length ∧ (killA H (ρA s))[i]? = some ei ∧ (η ++ [ρ s]).getD i undef = η.getD i undef) ∨ (i = H.length ∧ (η ++ [ρ s]).getD i undef = ρ s) := by
          intro i ei h
          rcases Nat.lt_or_ge i H.length with hid | hid
          · exact .inl ⟨hid, by rwa [List.getElem?_append_left (by rw [klen]; exact hid)] at h, getD_push_old (by rw [inv.len]; exact hid)⟩
          · have : i = H.length := by
              rw [List.getElem?_append_right (by rw [klen]; exact hid)] at h
              have := (List.getElem?_eq_some_iff.1 h).1; rw [klen] at this; simp at this; omega
            subst this
            exact .inr ⟨rfl, by rw [← inv.len, getD_push_new]⟩
        have hos : ∀ b, blkOf (ρ s) = some b → (ρ s).ownBlock = some b := by
          intro b hb
          rcases hown.2 with ⟨hv0, _⟩ | ⟨g, oo, cap, cur, hv0, _⟩ <;> rw [hv0] at hb ⊢ <;> exact hb
        rcases key i ei hi' with ⟨h1, h2, h3⟩ | ⟨h1, h3⟩ <;> rcases key j ej hj with ⟨k1, k2, k3⟩ | ⟨k1, k3⟩
        · rw [h3] at hb'; rw [k3]; exact ik.sep i j ei ej hij h2 k2 hli hlj b hb'
        · rw [h3] at hb'; rw [k3]
          exact fun hcc => (hold i ei h2 hli).2 b (hos b hcc) hb'
        · rw [h3] at hb'; rw [k3]
          exact (hold j ej k2 hlj).2 b (hos b hb')
        · omega
    have hform : ∃ a nn cc, ρ s = .slice a nn cc := by
      rcases hown.2 with ⟨hv0, _⟩ | ⟨g, oo, cap, cur, hv0, _⟩ <;> rw [hv0] <;> exact ⟨_, _, _, rfl⟩
    obtain ⟨a0, nn, cc, hf⟩ := hform
    unfold Oper.val
    have hrun' : (execOp ρ o).run P w = .ok (.value (ρ s)) w := by
      simp only [execOp, ho, resolve, invoke, builtin, Sem.run_bind, Sem.run_pure, Result.andThen_ok, List.map_toArray, List.map_cons, List.map_nil, hv, hrun0]
    rw [hrun']
    exact hN _ _ _ _ (On.refl _ _) (fun _ h => .inl h) (push_old η _) (Below.refl _ _) hinv (by rw [hf]; exact .own _ _ _ _ _ (by rw [← inv.len, List.getElem?_append_right (Nat.le_refl _)]; simp)) (fun h => by cases h)
  have hdiv : cells.length / k = n := by rw [hlc]; exact Nat.mul_div_cancel _ hk
  have hnews : RelL w B η (zs.map .c) zs := relL_c _
  obtain ⟨g, og, cap, w', hrun, hown', hgrow, hg, hglt⟩ := hrunp hmp _ _ _ hown hdiv.symm
  have hng : n0 ≤ g := by
    rcases hown'.2 with ⟨hv0, _⟩ | ⟨g', o', cap', cur, hv0, hb', _⟩
    · cases hv0
    · injection hv0 with q1
      injection q1 with q1
      injection q1 with q1
      omega
  have hgB : g ∈ B ∨ w.heap.size ≤ g := hg.elim (fun h => .inl (hbl g h).1) (fun h => .inr h)
  have hon : On B w w' := ⟨hgrow.os, hgrow.tape, hgrow.output, hgrow.size, fun b hb hn => .of (hgrow.block b hb (fun h => hn (hbl b h.symm).1))⟩
  have hB : ∀ b ∈ g :: B, b ∈ B ∨ w.heap.size ≤ b := fun b hb => by rcases List.mem_cons.1 hb with rfl | h; exact hgB; exact .inl h
  have hbelow : Below n0 w w' := ⟨hgrow.os, hgrow.tape, hgrow.output, hgrow.size, fun b hb => hgrow.block b (by have := inv.base.1; omega) (fun h => by
    have hlt : n0 ≤ b := by
      rcases hown.2 with ⟨hv0, _⟩ | ⟨g', oo, cap', cur, hv0, hb', _⟩
      · rw [hv0] at h; cases h
      · rw [hv0] at h; simp [Value.ownBlock] at h; omega
    omega)⟩
  have hkeep : ∀ (id : Nat) (e : Ent), (killA H (ρA s))[id]? = some e → e.live = true → ∀ b, blkOf (η.getD id undef) = some b → w'.heap[b]? = w.heap[b]? ∧ b ≠ g := by
    intro id e h hl b hb
    obtain ⟨h1, h2⟩ := hold id e h hl
    have hlt := (EntOK.lt (inv.ent id e h1) hl b hb).1
    refine ⟨hgrow.block b hlt (fun hh => h2 b hh.symm hb), fun hh => ?_⟩
    subst hh
    rcases hg with h3 | h3
    · exact h2 b h3 hb
    · omega
  have hinv : Inv n0 Bx w' (g :: B) (η ++ [.slice (some ⟨g, og, none⟩) (n + m) cap]) (killA H (ρA s) ++ [.own (cells ++ zs.map .c) E k]) := by
    refine ⟨by simp [klen, inv.len], ⟨Nat.le_trans inv.base.1 hgrow.size, inv.base.2.on hon hB⟩, fun b hb => ⟨List.mem_cons_of_mem _ (inv.sub b hb).1, (inv.sub b hb).2⟩, fun b hb => ?_, fun id e h => ?_, fun i j ei ej hij hi' hj hli hlj b hb' => ?_⟩
    · rcases List.mem_cons.1 hb with rfl | h
      · exact hglt
      · exact Nat.lt_of_lt_of_le (inv.lt b h) hgrow.size
    · rcases Nat.lt_or_ge id H.length with hid | hid
      · rw [List.getElem?_append_left (by rw [klen]; exact hid)] at h
        rw [getD_push_old (by rw [inv.len]; exact hid)]
        exact EntOK.keep (ik.ent id e h) hon hB (fun _ h => List.mem_cons_of_mem _ h) (push_old η _) (fun hl b hb => (hkeep id e h hl b hb).1)
      · rw [List.getElem?_append_right (by rw [klen]; exact hid)] at h
        have : id = H.length := by have := (List.getElem?_eq_some_iff.1 h).1; rw [klen] at this; simp at this; omega
        subst this
        simp [klen] at h; subst h
        rw [← inv.len, getD_push_new]
        refine ⟨n + m, _, hown', (hrel.append hnews).on hon hB (push_old η _), hk, fun b hb => ?_⟩
        simp [Value.ownBlock] at hb
        subst hb
        refine ⟨List.mem_cons_self, fun hbx => ?_⟩
        have := (inv.sub _ hbx).2
        omega
    · have key : ∀ (i : Nat) (ei : Ent), (killA H (ρA s) ++ [Ent.own (cells ++ zs.map .c) E k])[i]? = some ei → (i < H.length ∧ (killA H (ρA s))[i]? = some ei ∧ (η ++ [Value.slice (some ⟨g, og, none⟩) (n + m) cap]).getD i undef = η.getD i undef) ∨ (i = H.length ∧ (η ++ [Value.slice (some ⟨g, og, none⟩) (n + m) cap]).getD i undef = Value.slice (some ⟨g, og, none⟩) (n + m) cap) := by
        intro i ei h
        rcases Nat.lt_or_ge i H.length with hid | hid
        · exact .inl ⟨hid, by rwa [List.getElem?_append_left (by rw [klen]; exact hid)] at h, getD_push_old (by rw [inv.len]; exact hid)⟩
        · have : i = H.length := by
            rw [List.getElem?_append_right (by rw [klen]; exact hid)] at h
            have := (List.getElem?_eq_some_iff.1 h).1; rw [klen] at this; simp at this; omega
          subst this
          exact .inr ⟨rfl, by rw [← inv.len, getD_push_new]⟩
      rcases key i ei hi' with ⟨h1, h2, h3⟩ | ⟨h1, h3⟩ <;> rcases key j ej hj with ⟨k1, k2, k3⟩ | ⟨k1, k3⟩
      · rw [h3] at hb'; rw [k3]; exact ik.sep i j ei ej hij h2 k2 hli hlj b hb'
      · rw [h3] at hb'; rw [k3]
        intro hcc
        have := (hkeep i ei h2 hli b hb').2
        simp [blkOf] at hcc
        omega
      · rw [h3] at hb'
        simp [blkOf] at hb'
        subst hb'
        rw [k3]
        intro hcc
        exact (hkeep j ej k2 hlj _ hcc).2 rfl
      · omega
  unfold Oper.val
  have hrun' : (execOp ρ o).run P w = .ok (.value (.slice (some ⟨g, og, none⟩) (n + m) cap)) w' := by
    simp only [execOp, ho, resolve, invoke, builtin, Sem.run_bind, Sem.run_pure, Result.andThen_ok, List.map_toArray, List.map_cons, List.map_nil, hv, hrun]
  rw [hrun']
  exact hN _ _ _ _ hon hB (push_old η _) hbelow hinv (.own _ _ _ _ _ (by rw [← inv.len, List.getElem?_append_right (Nat.le_refl _)]; simp)) (fun h => by cases h)
theorem appendZ_ok (inv : Inv n0 Bx w B η H) (he : ∀ x ∈ o.op.operands, Rel w B η (ρA x) (ρ x)) {s x : Operand} {t tn E k by_ m : Nat} {i : TypeInfo} {z : Value} {zs : List Value} {kn kx : IntKind} {cells : List AV} (ho : o.op = .call ⟨.builtin .append, #[s, x], #[t, tn]⟩)
    (ht : P.underlying t = some (.slice E)) (hi : P.info? E = some i) (hz : i.zero = some z) (hsz : i.size = k) (hby : i.bytes = by_) (hzs : z.cells.size = k) (hk : 1 ≤ k)
    (htn : P.underlying tn = some (.int kn)) (hd : dstA H E k (ρA s) = some cells) (hx : ρA x = .c (.int kx (m : Int))) (hzl : (Builtin.zeroCells z.cells m).toList = zs) (h1 : ∀ u ∈ zs, u.oneCell' = true) (hm : cells.length / k + m ≤ maxLen) (hb : (cells.length / k + m) * by_ ≤ 140737488355328) :
    OpS P n0 Bx w ρ o B η (.own H.length) (killA H (ρA s) ++ [.own (cells ++ zs.map .c) E k]) := by
  have hv : ρ x = .int kx (m : Int) := by
    have := he x (by simp [ho, Op.operands, Call.operands])
    rw [hx] at this
    exact this.ofC
  refine appendG_ok inv he ho hk hd hv (m := m) (fun hm0 => by rw [← hzl, hm0]; simp [Builtin.zeroCells]) (fun hm0 v n us hown => ?_) (fun hmp v n us hown hn => ?_)
  · subst hm0
    exact run_append_zero0 ht htn hi (by rw [hsz]; exact hown)
  · have := run_append_zeros (P := P) (w := w) (ty := o.type) (kx := kx) ht htn hi hz hsz hby hzs hk hown (m := m) (by rw [hzl]; exact h1) hmp (by rw [hn]; exact hm) (by rw [hn]; exact hb) inv.base.1
    rw [hzl] at this
    exact this
/-! ### A text appended to bytes -/
theorem run_append_str0 {base t tn ty e n : Nat} {i : TypeInfo} {v : Value} {xs : List Value} {s : ByteArray} (ht : P.underlying t = some (.slice e)) (htn : P.underlying tn = some .string) (hi : P.info? e = some i) (hown : OwnAt w base e i.size v n xs) (hs : s.size = 0) :
    (Builtin.append_ #[t, tn] ty #[v, .string s]).run P w = .ok v w := by
  have hsc : Lib.strCells s = [] := List.eq_nil_of_length_eq_zero (by rw [Lib.strCells_length]; exact hs)
  have hf := Lib.run_firstCells_string (P := P) w i.size s
  rw [hs, hsc] at hf
  rcases hown.2 with ⟨rfl, rfl⟩ | ⟨g, oo, cap, cur, rfl, _, _, hnc, _⟩
  · simp [Builtin.append_, run_underlying ht, run_underlying htn, sizeOf, typeInfo, hi, Builtin.lenOf, hs, hf]
  · simp [Builtin.append_, run_underlying ht, run_underlying htn, sizeOf, typeInfo, hi, Builtin.lenOf, hs, hf, hnc, storeCells]
theorem run_append_str {base t tn ty E by_ : Nat} {i : TypeInfo} {z : Value} {s : ByteArray} (ht : P.underlying t = some (.slice E)) (htn : P.underlying tn = some .string) (hi : P.info? E = some i) (hz : i.zero = some z) (hsz : i.size = 1) (hby : i.bytes = by_) (hzs : z.cells.size = 1)
    {v : Value} {n : Nat} {us : List Value} (hown : OwnAt w base E 1 v n us)
    (hm : 0 < s.size) (h63 : n + s.size ≤ maxLen) (hbytes : (n + s.size) * by_ ≤ 140737488355328) (hbase : base ≤ w.heap.size) :
    ∃ g o cap w', (Builtin.append_ #[t, tn] ty #[v, .string s]).run P w = .ok (.slice (some ⟨g, o, none⟩) (n + s.size) cap) w' ∧ OwnAt w' base E 1 (.slice (some ⟨g, o, none⟩) (n + s.size) cap) (n + s.size) (us ++ Lib.strCells s) ∧
      w.grownBy w' v.ownBlock ∧ (v.ownBlock = some g ∨ w.heap.size ≤ g) ∧ g < w'.heap.size := by
  have hml : maxLen ≤ 9223372036854775807 := by decide
  have hsl := Lib.strCells_length s
  have fin : ∀ (old : Nat), old < n + s.size → (Builtin.append_ #[t, tn] ty #[v, .string s]).run P w = .ok (.slice (some ⟨w.heap.size, 0, none⟩) (n + s.size) (grownCap w (n + s.size) old E)) (w.drew.alloc (.cells (us.toArray ++ (Lib.strCells s).toArray ++ Builtin.zeroCells z.cells (grownCap w (n + s.size) old E - (n + s.size))) E)) →
      ∃ g o cap w', (Builtin.append_ #[t, tn] ty #[v, .string s]).run P w = .ok (.slice (some ⟨g, o, none⟩) (n + s.size) cap) w' ∧ OwnAt w' base E 1 (.slice (some ⟨g, o, none⟩) (n + s.size) cap) (n + s.size) (us ++ Lib.strCells s) ∧
      w.grownBy w' v.ownBlock ∧ (v.ownBlock = some g ∨ w.heap.size ≤ g) ∧ g < w'.heap.size := by
    intro old ho hr
    have hge := grownCap_ge w (n + s.size) old E
    have hcm : grownCap w (n + s.size) old E ≤ maxLen := grownCap_le_maxLen w (n + s.size) old E h63
    have hul := hown.1
    have hlen : (us ++ Lib.strCells s).length = (n + s.size) * 1 := by rw [List.length_append, hul, hsl]; omega
    refine ⟨w.heap.size, 0, _, _, hr, ⟨hlen, .inr ⟨w.heap.size, 0, _, _, rfl, hbase, heap_alloc_new w.drew _, hge, hcm, ?_, ?_⟩⟩, ⟨rfl, rfl, rfl, by simp, fun b hb _ => by first | exact heap_alloc_old w.drew _ b hb | exact heap_alloc_old w.drew _ hb⟩, .inr (Nat.le_refl _), by simp⟩
    · simp only [Array.size_append, List.size_toArray, size_zeroCells, hzs, hul, hsl]
      omega
    · simp only [Array.toList_append, List.append_assoc, List.drop_zero]
      rw [← List.append_assoc, ← hlen]
      exact List.take_left
  rcases hown.2 with ⟨hv, hn⟩ | ⟨g, o, cap, cur, hv, hb, hg, hnc, hcm, hsize, htk⟩
  · subst hv hn
    have hus : us = [] := List.eq_nil_of_length_eq_zero (by have := hown.1; omega)
    subst hus
    have hf := Lib.run_firstCells_string (P := P) w.drew 1 s
    have e0 : (0 + s.size) * by_ = s.size * by_ := by rw [Nat.zero_add]
    have h48' : ¬ (281474976710656 < Builtin.nextslicecap s.size 0 * i.bytes) := by rw [nextslicecap_zero hm, hby]; omega
    have h63' : ¬ (9223372036854775807 < (s.size : Int)) := by omega
    have hm0 : ¬ (s.size = 0) := by omega
    refine fin 0 (by omega) ?_
    simp [Builtin.append_, run_underlying ht, run_underlying htn, sizeOf, typeInfo, zeroValue, hi, hz, hsz, Builtin.lenOf, hm0, h63', h48', Question.forced, hf, run_firstCells_none, newRow, grownCap]
  · subst hv
    rcases Nat.lt_or_ge cap (n + s.size) with hgr | hroom
    · have hgrow := growslice_fits hgr hbytes
      have hfo : ∀ (j : Nat) (u : Value), us[j]? = some u → w.cell? ((⟨g, o, none⟩ : Addr).add j) = some u := fun j u hj => by rw [Addr.add_mid]; exact hown.cells j u hj
      exact fin cap hgr (Lib.run_append_grow_string (P := P) w t tn ty E i z ht htn hi hz ⟨g, o, none⟩ n cap us (by rw [hsz]; exact hown.1) hfo s hgr (by omega) (by rw [hby]; omega))
    · have hmul : (n + s.size) * 1 ≤ cap * 1 := Nat.mul_le_mul_right 1 hroom
      have hfit : o + n + (Lib.strCells s).length ≤ cur.size := by rw [hsl]; omega
      have hst := run_storeCells_at (P := P) g (o + n) E (Lib.strCells s) 0 cur w hg (by omega) (Lib.strCells_oneCell s)
      simp only [Nat.add_zero] at hst
      have hf := Lib.run_firstCells_string (P := P) w 1 s
      have hput : cur.toList.take (o + n) ++ Lib.strCells s ++ cur.toList.drop (o + n + (Lib.strCells s).length) = putL cur.toList (o + n) (Lib.strCells s) := rfl
      rw [hput] at hst
      have hpl : (putL cur.toList (o + n) (Lib.strCells s)).length = cur.toList.length := by unfold putL; simp; omega
      have hglt : g < w.heap.size := (Array.getElem?_eq_some_iff.1 hg).1
      have hul := hown.1
      refine ⟨g, o, cap, w.setRow g (putL cur.toList (o + n) (Lib.strCells s)).toArray, ?_, ⟨by rw [List.length_append, hul, hsl]; omega, .inr ⟨g, o, cap, _, rfl, hb, setRow_heap w g cur _ E (0, 0) hg, hroom, hcm, ?_, ?_⟩⟩, ⟨rfl, rfl, rfl, by simp, fun b hb' hne => setRow_other w g b _ (fun h => hne (by rw [h]; rfl))⟩, .inl rfl, by simpa using hglt⟩
      · simp [Builtin.append_, run_underlying ht, run_underlying htn, sizeOf, typeInfo, hi, hsz, Builtin.lenOf, hroom, hf, Addr.add_lit, hst]
      · have : (putL cur.toList (o + n) (Lib.strCells s)).toArray.size = cur.size := by simpa using hpl
        omega
      · have hd := drop_putL cur.toList (Lib.strCells s) (o + n) o
        rw [List.toList_toArray]
        have e1 : (putL cur.toList (o + n * 1) (Lib.strCells s)).drop o = putL (cur.toList.drop o) (n * 1) (Lib.strCells s) := drop_putL _ _ _ _ (by rw [Nat.mul_one]; simpa using hfit)
        rw [Nat.mul_one] at e1
        rw [e1]
        unfold putL
        rw [Nat.mul_one] at htk
        rw [htk, Nat.mul_one, List.append_assoc, List.take_append, hul]
        have hu : us.take (n + s.size) = us := List.take_of_length_le (by rw [hul]; omega)
        rw [hu, show n + s.size - n * 1 = (Lib.strCells s).length by rw [hsl]; omega, List.take_left]
theorem appendS_ok (inv : Inv n0 Bx w B η H) (he : ∀ x ∈ o.op.operands, Rel w B η (ρA x) (ρ x)) {s x : Operand} {t tn E by_ : Nat} {i : TypeInfo} {z : Value} {bs : ByteArray} {cells : List AV} (ho : o.op = .call ⟨.builtin .append, #[s, x], #[t, tn]⟩)
    (ht : P.underlying t = some (.slice E)) (hi : P.info? E = some i) (hz : i.zero = some z) (hsz : i.size = 1) (hby : i.bytes = by_) (hzs : z.cells.size = 1)
    (htn : P.underlying tn = some .string) (hd : dstA H E 1 (ρA s) = some cells) (hx : ρA x = .c (.string bs)) (hm : cells.length + bs.size ≤ maxLen) (hb : (cells.length + bs.size) * by_ ≤ 140737488355328) :
    OpS P n0 Bx w ρ o B η (.own H.length) (killA H (ρA s) ++ [.own (cells ++ (Lib.strCells bs).map .c) E 1]) := by
  have hv : ρ x = .string bs := by
    have := he x (by simp [ho, Op.operands, Call.operands])
    rw [hx] at this
    exact this.ofC
  refine appendG_ok inv he ho (Nat.le_refl 1) hd hv (m := bs.size) (fun hm0 => List.eq_nil_of_length_eq_zero (by rw [Lib.strCells_length]; exact hm0)) (fun hm0 v n us hown => ?_) (fun hmp v n us hown hn => ?_)
  · exact run_append_str0 ht htn hi (by rw [hsz]; exact hown) hm0
  · rw [Nat.div_one] at hn
    exact run_append_str (P := P) (w := w) (ty := o.type) ht htn hi hz hsz hby hzs hown hmp (by rw [hn]; exact hm) (by rw [hn]; exact hb) inv.base.1
/-! ### What is appended to stays readable -/
theorem run_append_keep {base t ty E k by_ : Nat} {i : TypeInfo} {z : Value} (ht : P.underlying t = some (.slice E)) (hi : P.info? E = some i) (hz : i.zero = some z) (hsz : i.size = k) (hby : i.bytes = by_) (hzs : z.cells.size = k) (hk : 1 ≤ k)
    {v : Value} {n : Nat} {us : List Value} (hown : OwnAt w base E k v n us) (ad : Addr) (m c : Nat) (news : List Value) (hl : news.length = m * k) (hnews : ∀ (j : Nat) u, news[j]? = some u → w.cell? (ad.add j) = some u) (h1 : ∀ u ∈ news, u.oneCell' = true)
    (hm : 0 < m) (h63 : n + m ≤ maxLen) (hbytes : (n + m) * by_ ≤ 140737488355328) (hbase : base ≤ w.heap.size) :
    ∃ g o cap w', (Builtin.append_ #[t, t] ty #[v, .slice (some ad) m c]).run P w = .ok (.slice (some ⟨g, o, none⟩) (n + m) cap) w' ∧ OwnAt w' base E k (.slice (some ⟨g, o, none⟩) (n + m) cap) (n + m) (us ++ news) ∧
      w.grownBy w' v.ownBlock ∧ (v.ownBlock = some g ∨ w.heap.size ≤ g) ∧ g < w'.heap.size ∧ OwnAt w' base E k v n us := by
  have fresh : ∀ v' w', (Builtin.append_ #[t, t] ty #[v, .slice (some ad) m c]).run P w = .ok v' w' → w'.ownsRow w.heap.size E k v' (n + m) (us ++ news) → w.grownBy w' none → ∃ g o cap w', (Builtin.append_ #[t, t] ty #[v, .slice (some ad) m c]).run P w = .ok (.slice (some ⟨g, o, none⟩) (n + m) cap) w' ∧ OwnAt w' base E k (.slice (some ⟨g, o, none⟩) (n + m) cap) (n + m) (us ++ news) ∧ w.grownBy w' v.ownBlock ∧ (v.ownBlock = some g ∨ w.heap.size ≤ g) ∧ g < w'.heap.size ∧ OwnAt w' base E k v n us := by
    intro v' w' hr h2 h3
    obtain ⟨g, cap, hv', hbg, hlt⟩ := h2.form (by omega)
    subst hv'
    refine ⟨g, 0, cap, w', hr, .row h2 hbase, ⟨h3.os, h3.tape, h3.output, h3.size, fun b hb _ => h3.block b hb (by simp)⟩, .inr hbg, hlt, hown.1, ?_⟩
    rcases hown.2 with hn | ⟨g2, o2, cap2, cur, hv, hb, hg, rest⟩
    · exact .inl hn
    · exact .inr ⟨g2, o2, cap2, cur, hv, hb, by rw [h3.block g2 (Array.getElem?_eq_some_iff.1 hg).1 (by simp)]; exact hg, rest⟩
  rcases hown.2 with ⟨hv, hn⟩ | ⟨g, o, cap, cur, hv, hb, hg, hnc, hcm, hsize, htk⟩
  · obtain ⟨g, o, cap, w', r1, r2, r3, r4, r5⟩ := run_append_at (P := P) (ty := ty) ht hi hz hsz hby hzs hk hown ad m c news hl hnews h1 hm h63 hbytes hbase
    exact ⟨g, o, cap, w', r1, r2, r3, r4, r5, hown.1, .inl ⟨hv, hn⟩⟩
  · subst hv
    rcases Nat.lt_or_ge cap (n + m) with hgr | hroom
    · obtain ⟨v', w', hr, h2, h3⟩ := run_append_arg_grows (P := P) w t ty E i z k by_ ht hi hz hsz hby hzs hk ⟨g, o, none⟩ n cap us hown.1 (fun j u hj => by rw [Addr.add_mid]; exact hown.cells j u hj) ad m c news hl hnews hgr h63 hbytes
      exact fresh v' w' hr h2 h3
    · have hmul : (n + m) * k ≤ cap * k := Nat.mul_le_mul_right k hroom
      have hnm : (n + m) * k = n * k + m * k := Nat.add_mul n m k
      have hfit : o + n * k + news.length ≤ cur.size := by omega
      have hst := run_storeCells_at (P := P) g (o + n * k) E news 0 cur w hg (by omega) h1
      simp only [Nat.add_zero] at hst
      have hfc := run_firstCells_some (P := P) w k m ad m c news hl hnews
      have hput : cur.toList.take (o + n * k) ++ news ++ cur.toList.drop (o + n * k + news.length) = putL cur.toList (o + n * k) news := rfl
      rw [hput] at hst
      have hpl : (putL cur.toList (o + n * k) news).length = cur.toList.length := by unfold putL; simp; omega
      have hglt : g < w.heap.size := (Array.getElem?_eq_some_iff.1 hg).1
      have hsz' : (putL cur.toList (o + n * k) news).toArray.size = cur.size := by simpa using hpl
      have htk2 : ((putL cur.toList (o + n * k) news).toArray.toList.drop o).take ((n + m) * k) = us ++ news := by
        rw [List.toList_toArray, drop_putL _ _ _ _ (by simpa using hfit)]
        unfold putL
        rw [htk, List.append_assoc, List.take_append, hown.1]
        have hu : us.take ((n + m) * k) = us := List.take_of_length_le (by rw [hown.1]; omega)
        rw [hu, show (n + m) * k - n * k = news.length by omega, List.take_left]
      refine ⟨g, o, cap, w.setRow g (putL cur.toList (o + n * k) news).toArray, ?_, ⟨by simp [hown.1, hl, hnm], .inr ⟨g, o, cap, _, rfl, hb, setRow_heap w g cur _ E (0, 0) hg, hroom, hcm, by omega, htk2⟩⟩, ⟨rfl, rfl, rfl, by simp, fun b hb' hne => setRow_other w g b _ (fun h => hne (by rw [h]; rfl))⟩, .inl rfl, by simpa using hglt, hown.1, .inr ⟨g, o, cap, _, rfl, hb, setRow_heap w g cur _ E (0, 0) hg, hnc, hcm, by omega, ?_⟩⟩
      · simp [Builtin.append_, run_underlying ht, sizeOf, typeInfo, hi, hsz, Builtin.lenOf, hroom, hfc, Addr.add_lit, hst]
      · have : ((putL cur.toList (o + n * k) news).toArray.toList.drop o).take (n * k) = (((putL cur.toList (o + n * k) news).toArray.toList.drop o).take ((n + m) * k)).take (n * k) := by rw [List.take_take, Nat.min_eq_left (by omega)]
        rw [this, htk2, ← hown.1, List.take_left]
theorem append_keep (inv : Inv n0 Bx w B η H) {s x : Operand} {t E k by_ id : Nat} {i : TypeInfo} {z : Value} {cells l : List AV} (ho : o.op = .call ⟨.builtin .append, #[s, x], #[t, t]⟩)
    (hse : Rel w B η (.own id) (ρ s)) (hxe : Rel w B η (ρA x) (ρ x))
    (ht : P.underlying t = some (.slice E)) (hi : P.info? E = some i) (hz : i.zero = some z) (hsz : i.size = k) (hby : i.bytes = by_) (hzs : z.cells.size = k) (hk : 1 ≤ k)
    (hH : H[id]? = some (.own cells E k)) (hs : srcA H k (ρA x) = some l) (h1 : l.all AV.one = true) (himm : (cells ++ l).all AV.imm0 = true) (hm : (cells.length + l.length) / k ≤ maxLen) (hb : (cells.length + l.length) / k * by_ ≤ 140737488355328) :
    ∃ v' w', (execOp ρ o).run P w = .ok (.value v') w' ∧ On B w w' ∧ Below n0 w w' ∧ Inv n0 Bx w' B η H ∧ ∀ (B' : List Nat) (η' : List Value), (∀ b ∈ B', b ∈ B) → (∀ b, blkOf (η.getD id undef) = some b → b ∉ B') → Rel w' B' η' (.sl (cells ++ l) k) v' := by
  cases hse' : ρ s with
  | slice a0 nn0 cc0 =>
    rw [hse'] at hse
    cases hse with
    | own _ _ _ _ _ hid =>
    have hent := inv.ent id _ hH
    have hg0 : η.getD id undef = .slice a0 nn0 cc0 := by simp [List.getD_eq_getElem?_getD, hid]
    rw [hg0] at hent
    rw [hg0]
    obtain ⟨n, us, hown, hrel, _, hbl⟩ := hent
    obtain rfl := hown.len
    obtain ⟨A, m, c, vs, hv, hn, hA, hr⟩ := srcA_spec hxe hk hs
    have hlc : cells.length = nn0 * k := by rw [← hrel.1]; exact hown.1
    have hos : ∀ b, (Value.slice a0 nn0 cc0).ownBlock = some b → blkOf (.slice a0 nn0 cc0) = some b := fun b hb => by
      rcases hown.2 with ⟨hv0, _⟩ | ⟨g, oo, cap, cur, hv0, _⟩ <;> rw [hv0] at hb ⊢ <;> exact hb
    have hrow : ∀ {w' : World} {v' : Value} {n' : Nat} {us' : List Value} {cs : List AV} {η2 : List Value}, OwnAt w' n0 E k v' n' us' → RelL w' B η2 cs us' → cs.all AV.imm0 = true → ∀ (B' : List Nat) (η' : List Value), (∀ b ∈ B', b ∈ B) → (∀ b, v'.ownBlock = some b → b ∉ B') → Rel w' B' η' (.sl cs k) v' := by
      intro w' v' n' us' cs η2 ho' hr' hi' B' η' hB' hb'
      have hlen : n' * k = cs.length := by rw [← hr'.1]; exact ho'.1.symm
      have hrel' : ∀ i x, cs[i]? = some x → Rel w' B' [] x (us'.getD i undef) := fun i x hx => by
        obtain ⟨u, q1, q2⟩ := hr'.2 i x hx
        rw [List.getD_eq_getElem?_getD, q1, Option.getD_some]
        exact ((q2.bare0 (List.all_eq_true.1 hi' x (List.mem_of_getElem? hx))) : Rel w' B [] x u).on (On.refl B w') (fun b hb => .inl (hB' b hb)) (fun _ _ h => h)
      rcases ho'.2 with ⟨hv0, hn0⟩ | ⟨g, oo, cap, cur, hv0, hbb, hgg, hnc, hcm, hsz', htk⟩
      · subst hv0 hn0
        exact .sl _ _ _ _ _ _ _ hk hlen (Nat.le_refl _) (Nat.zero_le _) (fun h0 => absurd h0 (by omega)) hrel'
      · subst hv0
        refine .sl _ _ _ _ _ _ _ hk hlen hnc hcm (fun h0 => ⟨_, rfl, rfl, (Array.getElem?_eq_some_iff.1 hgg).1, hb' g rfl, fun i hi => ?_⟩) hrel'
        have hi'' : i < us'.length := by rw [hr'.1]; exact hi
        rw [Addr.add_mid, ho'.cells i _ (List.getElem?_eq_getElem hi''), List.getD_eq_getElem?_getD, List.getElem?_eq_getElem hi'', Option.getD_some]
    rcases Nat.eq_zero_or_pos m with hm0 | hmp
    · have hl0 : l = [] := List.eq_nil_of_length_eq_zero (by rw [← hn, hm0]; simp)
      subst hl0
      have hrun0 := run_append_none (P := P) (w := w) (ty := o.type) (A := A) (c := c) ht hi (by rw [hsz]; exact hown) hm0
      refine ⟨.slice a0 nn0 cc0, w, ?_, On.refl _ _, Below.refl _ _, inv, fun B' η' hB' hb' => ?_⟩
      · simp only [execOp, ho, resolve, invoke, builtin, Sem.run_bind, Sem.run_pure, Result.andThen_ok, List.map_toArray, List.map_cons, List.map_nil, hv, hse', hrun0]
      · rw [List.append_nil] at himm ⊢
        exact hrow hown hrel himm B' η' hB' (fun b hb => hb' b (hos b hb))
    · obtain ⟨ad, hA1, hat⟩ := hA hmp
      subst hA1
      have hnews : RelL w B η l ((List.range l.length).map vs) := ⟨by simp, fun i y hy => by
        have hlt : i < l.length := (List.getElem?_eq_some_iff.1 hy).1
        exact ⟨vs i, by simp [hlt], (hr i y hy).any⟩⟩
      have hdiv : (cells.length + l.length) / k = nn0 + m := by rw [hlc, ← hn, ← Nat.add_mul]; exact Nat.mul_div_cancel _ hk
      rw [hdiv] at hm hb
      obtain ⟨g, og, cap, w', hrun, hown', hgrow, hg, hglt, hkeep⟩ := run_append_keep (P := P) (ty := o.type) ht hi hz hsz hby hzs hk hown ad m c ((List.range l.length).map vs)
        (by simp [hn]) (fun j u hj => by
          have hlt : j < l.length := by have := (List.getElem?_eq_some_iff.1 hj).1; simpa using this
          rw [hat.cell j hlt]
          simp [hlt] at hj
          rw [hj]) (hnews.one h1) hmp hm hb inv.base.1
      have hon : On B w w' := ⟨hgrow.os, hgrow.tape, hgrow.output, hgrow.size, fun b hb hn => .of (hgrow.block b hb (fun h => hn (hbl b h.symm).1))⟩
      have hbelow : Below n0 w w' := ⟨hgrow.os, hgrow.tape, hgrow.output, hgrow.size, fun b hb => hgrow.block b (by have := inv.base.1; omega) (fun h => by
        have hlt : n0 ≤ b := by
          rcases hown.2 with ⟨hv0, _⟩ | ⟨g', oo, cap', cur, hv0, hb', _⟩
          · rw [hv0] at h; cases h
          · rw [hv0] at h; simp [Value.ownBlock] at h; omega
        omega)⟩
      refine ⟨.slice (some ⟨g, og, none⟩) (nn0 + m) cap, w', ?_, hon, hbelow, ?_, fun B' η' hB' hb' => ?_⟩
      · simp only [execOp, ho, resolve, invoke, builtin, Sem.run_bind, Sem.run_pure, Result.andThen_ok, List.map_toArray, List.map_cons, List.map_nil, hv, hse', hrun]
      · refine ⟨inv.len, ⟨Nat.le_trans inv.base.1 hgrow.size, inv.base.2.on hon (fun _ h => .inl h)⟩, inv.sub, fun b hb => Nat.lt_of_lt_of_le (inv.lt b hb) hgrow.size, fun j e he => ?_, inv.sep⟩
        by_cases hj : j = id
        · subst hj
          rw [hH] at he
          injection he with he
          subst he
          rw [hg0]
          exact ⟨nn0, us, hkeep, hrel.on hon (fun _ h => .inl h) (fun _ _ h => h), hk, hbl⟩
        · refine EntOK.keep (inv.ent j e he) hon (fun _ h => .inl h) (fun _ h => h) (fun _ _ h => h) (fun hl b hb => ?_)
          have hlt := (EntOK.lt (inv.ent j e he) hl b hb).1
          refine hgrow.block b hlt (fun h => ?_)
          have := inv.sep id j _ e (fun h => hj h.symm) hH he rfl hl b (by rw [hg0]; exact hos b h.symm)
          exact this hb
      · refine hrow hown' ((hrel.append hnews).on hon (fun _ h => .inl h) (fun _ _ h => h)) himm B' η' hB' (fun b hb hc => ?_)
        simp [Value.ownBlock] at hb
        subst hb
        rcases hg with h | h
        · exact hb' _ (hos _ h) hc
        · have := inv.lt _ (hB' _ hc)
          omega
  | _ => rw [hse'] at hse; cases hse
end
end Go.Proofs.YtfaocnboildjbaaDoor
/-
  Typed plain data: what a value of the program says, as a value of Lean's own types; and what it stands for.
-/
namespace Go.Proofs.YtfaocnboildjbaaDoor
set_option maxRecDepth 100000
open Go.RowKit
set_option linter.unusedVariables false
set_option linter.unusedSimpArgs false

structure Arr (α : Type) (n : Nat) where
  l : List α
  h : l.length = n
/-- Types of plain data. -/
inductive Td where
  | int (k : IntKind)
  | bool
  | str
  | sl (d : Td)
  | arr (n : Nat) (d : Td)
  | pair (d e : Td)
  deriving DecidableEq
@[reducible] def T : Td → Type
  | .int _ => Int
  | .bool => Bool
  | .str => List UInt8
  | .sl d => List (T d)
  | .arr n d => Arr (T d) n
  | .pair d e => T d × T e
/-- How many cells. -/
def wd : Td → Nat
  | .arr n d => n * wd d
  | .pair d e => wd d + wd e
  | _ => 1
def cells : (d : Td) → T d → List AV
  | .int k, n => [.c (.int k n)]
  | .bool, b => [.c (.bool b)]
  | .str, s => [.c (.string ⟨s.toArray⟩)]
  | .sl d, l => [.sl (l.flatMap (cells d)) (wd d)]
  | .arr n d, a => a.l.flatMap (cells d)
  | .pair d e, x => cells d x.1 ++ cells e x.2
theorem flatMap_length {α β : Type} (f : α → List β) (k : Nat) : ∀ (l : List α), (∀ x, (f x).length = k) → (l.flatMap f).length = l.length * k
  | [], _ => by simp
  | x :: l, h => by simp only [List.flatMap_cons, List.length_append, h x, flatMap_length f k l h, List.length_cons]; rw [Nat.add_mul]; omega
theorem cells_length : ∀ (d : Td) (x : T d), (cells d x).length = wd d
  | .int _, _ => rfl
  | .bool, _ => rfl
  | .str, _ => rfl
  | .sl _, _ => rfl
  | .arr n d, a => by
    have := flatMap_length (cells d) (wd d) a.l (cells_length d)
    rw [a.h] at this
    exact this
  | .pair d e, x => by simp [cells, wd, cells_length d x.1, cells_length e x.2]
theorem cells_imm : ∀ (d : Td) (x : T d), (cells d x).all AV.imm0 = true
  | .int _, _ => rfl
  | .bool, _ => rfl
  | .str, _ => rfl
  | .sl _, _ => rfl
  | .arr n d, a => by
    simp only [cells, List.all_flatMap, List.all_eq_true]
    exact fun x _ => List.all_eq_true.1 (cells_imm d x)
  | .pair d e, x => by simp [cells, List.all_append, cells_imm d x.1, cells_imm e x.2]
theorem cells_one : ∀ (d : Td) (x : T d), (cells d x).all AV.one = true
  | .int _, _ => rfl
  | .bool, _ => rfl
  | .str, _ => rfl
  | .sl _, _ => rfl
  | .arr n d, a => by
    simp only [cells, List.all_flatMap, List.all_eq_true]
    exact fun x _ => List.all_eq_true.1 (cells_one d x)
  | .pair d e, x => by simp [cells, List.all_append, cells_one d x.1, cells_one e x.2]
/-- The cells of a row. -/
def flat (d : Td) (l : List (T d)) : List AV := l.flatMap (cells d)
theorem flat_length (d : Td) (l : List (T d)) : (flat d l).length = l.length * wd d := flatMap_length _ _ _ (cells_length d)
theorem flat_append (d : Td) (l m : List (T d)) : flat d (l ++ m) = flat d l ++ flat d m := List.flatMap_append
theorem flat_cons (d : Td) (x : T d) (l : List (T d)) : flat d (x :: l) = cells d x ++ flat d l := rfl
theorem flat_imm (d : Td) (l : List (T d)) : (flat d l).all AV.imm0 = true := by
  simp only [flat, List.all_flatMap, List.all_eq_true]
  exact fun x _ => List.all_eq_true.1 (cells_imm d x)
theorem flat_one (d : Td) (l : List (T d)) : (flat d l).all AV.one = true := by
  simp only [flat, List.all_flatMap, List.all_eq_true]
  exact fun x _ => List.all_eq_true.1 (cells_one d x)
theorem flat_drop (d : Td) : ∀ (l : List (T d)) (n : Nat), flat d (l.drop n) = (flat d l).drop (n * wd d)
  | l, 0 => by simp
  | [], n + 1 => by simp [flat]
  | x :: l, n + 1 => by
    rw [List.drop_succ_cons, flat_drop d l n, flat_cons, List.drop_append, cells_length]
    have e1 : (n + 1) * wd d - wd d = n * wd d := by rw [Nat.add_mul]; omega
    have e2 : (cells d x).drop ((n + 1) * wd d) = [] := List.drop_eq_nil_of_le (by rw [cells_length, Nat.add_mul]; omega)
    rw [e1, e2, List.nil_append]
theorem flat_take (d : Td) : ∀ (l : List (T d)) (n : Nat), flat d (l.take n) = (flat d l).take (n * wd d)
  | l, 0 => by simp [flat]
  | [], n + 1 => by simp [flat]
  | x :: l, n + 1 => by
    rw [List.take_succ_cons, flat_cons, flat_take d l n, flat_cons, List.take_append, cells_length]
    have e1 : (n + 1) * wd d - wd d = n * wd d := by rw [Nat.add_mul]; omega
    have e2 : (cells d x).take ((n + 1) * wd d) = cells d x := List.take_of_length_le (by rw [cells_length, Nat.add_mul]; omega)
    rw [e1, e2]
theorem flat_at (d : Td) (l : List (T d)) (i : Nat) (x : T d) (h : l[i]? = some x) : ((flat d l).drop (i * wd d)).take (wd d) = cells d x := by
  have hi : i < l.length := (List.getElem?_eq_some_iff.1 h).1
  rw [← flat_drop, List.drop_eq_getElem_cons hi, flat_cons]
  rw [List.getElem?_eq_getElem hi] at h
  injection h with h
  rw [h, List.take_append_of_le_length (by rw [cells_length]; exact Nat.le_refl _), List.take_of_length_le (by rw [cells_length]; exact Nat.le_refl _)]
theorem flat_set (d : Td) (l : List (T d)) (i : Nat) (x : T d) (h : i < l.length) : flat d (l.set i x) = putL (flat d l) (i * wd d) (cells d x) := by
  unfold putL
  rw [List.set_eq_take_append_cons_drop, if_pos h, flat_append, flat_cons, flat_take, flat_drop, cells_length, List.append_assoc]
  congr 3
  rw [Nat.add_mul]; omega

/-- A value. -/
inductive V where
  | any
  | c (v : Value)
  | str (s : List UInt8)
  | agg (l : List V)
  | arr (d : Td) (n : Nat) (a : Arr (T d) n)
  | tup (l : List V)
  | lst (d : Td) (l : List (T d))
  | fre (d : Td) (l : List (T d))
  | emp
  | adr (l : List V)
  | box (id off : Nat)
  | boxi (id off : Nat) (d : Td) (n : Nat) (i o : Nat)
  | own (id : Nat)
  | oadr (id : Nat) (d : Td) (i o : Nat)
  | clo (f : FuncId) (caps : List V)
  | bsl (id n : Nat)
  | nn
  deriving Inhabited
/-- The cells of a part. -/
def segA : V → List AV
  | .c v => [.c v]
  | .str s => [.c (.string ⟨s.toArray⟩)]
  | .arr d n a => flat d a.l
  | .lst d l => [.sl (flat d l) (wd d)]
  | .fre d l => [.sl (flat d l) (wd d)]
  | .emp => [.emp]
  | .box id off => [.box id off]
  | .own id => [.own id]
  | .nn => [.nn]
  | _ => []
def segsA (l : List V) : List AV := l.flatMap segA
def ex0 : V → AV
  | .c v => .c v
  | .str s => .c (.string ⟨s.toArray⟩)
  | .agg l => .agg (segsA l)
  | .arr d n a => .agg (flat d a.l)
  | .lst d l => .sl (flat d l) (wd d)
  | .fre d l => .fresh (flat d l) (wd d)
  | .emp => .emp
  | .adr l => .adr (segsA l)
  | .box id off => .box id off
  | .boxi id off d n i o => .box id (off + i * wd d + o)
  | .own id => .own id
  | .oadr id d i o => .oadr id (i * wd d + o)
  | .nn => .nn
  | _ => .c undef
def ex : V → AV
  | .tup l => .tup (l.map ex0)
  | x => ex0 x
/-- Something is known of it, in plain words. -/
def V.plain : V → Bool
  | .any => false
  | .clo _ _ => false
  | .bsl _ _ => false
  | _ => true
/-- It may be held by a closure. -/
def V.cap : V → Bool
  | .any | .clo _ _ | .bsl _ _ | .fre _ _ => false
  | _ => true
theorem V.cap_plain {x : V} (h : x.cap = true) : x.plain = true := by cases x <;> first | rfl | cases h
theorem segsA_nil : segsA [] = [] := rfl
theorem segsA_cons (x : V) (l : List V) : segsA (x :: l) = segA x ++ segsA l := rfl
theorem segsA_append (l m : List V) : segsA (l ++ m) = segsA l ++ segsA m := List.flatMap_append
/-- The parts of data. -/
def enc : (d : Td) → T d → List V
  | .int k, n => [.c (.int k n)]
  | .bool, b => [.c (.bool b)]
  | .str, s => [.str s]
  | .sl d, l => [.lst d l]
  | .arr n d, a => [.arr d n a]
  | .pair d e, x => enc d x.1 ++ enc e x.2
theorem segsA_enc : ∀ (d : Td) (x : T d), segsA (enc d x) = cells d x
  | .int _, _ => rfl
  | .bool, _ => rfl
  | .str, _ => rfl
  | .sl _, _ => rfl
  | .arr n d, a => by simp [enc, segsA, segA, cells, flat]
  | .pair d e, x => by simp only [enc, segsA_append, segsA_enc d x.1, segsA_enc e x.2, cells]

/-- What an evaluation comes to: data, nothing, or what hangs on open data. -/
inductive Tree (R : Type) : Type 1 where
  | done (r : R)
  | fail
  | tail (m : Option R)
  | ite (b : Bool) (x y : Tree R)
  | bind {α : Type} (m : Option α) (k : α → Tree R)
  | cases {α β : Type} (o : Sum α β) (f : α → Tree R) (g : β → Tree R)
def Tree.run {R : Type} : Tree R → Option R
  | .done r => some r
  | .fail => none
  | .tail m => m
  | .ite b x y => cond b x.run y.run
  | .bind m k => m.bind fun a => (k a).run
  | .cases o f g => match o with
    | .inl a => (f a).run
    | .inr b => (g b).run
theorem Tree.run_ite {R : Type} {b : Bool} {x y : Tree R} {r : R} (h : (Tree.ite b x y).run = some r) : (b = true ∧ x.run = some r) ∨ (b = false ∧ y.run = some r) := by
  cases b
  · exact .inr ⟨rfl, h⟩
  · exact .inl ⟨rfl, h⟩
theorem Tree.run_bind {R α : Type} {m : Option α} {k : α → Tree R} {r : R} (h : (Tree.bind m k).run = some r) : ∃ a, m = some a ∧ (k a).run = some r := by
  cases m with
  | none => cases h
  | some a => exact ⟨a, rfl, h⟩

/-! ### Data out of parts -/
def dflt : (d : Td) → T d
  | .int _ => (0 : Int)
  | .bool => false
  | .str => ([] : List UInt8)
  | .sl d => ([] : List (T d))
  | .arr n d => ⟨List.replicate n (dflt d), by simp⟩
  | .pair d e => (dflt d, dflt e)
def Arr.nil {α : Type} : Arr α 0 := ⟨[], rfl⟩
def Arr.cons {α : Type} {n : Nat} (x : α) (a : Arr α n) : Arr α (n + 1) := ⟨x :: a.l, by simp [a.h]⟩
def Arr.set {α : Type} {n : Nat} (a : Arr α n) (i : Nat) (x : α) : Arr α n := ⟨a.l.set i x, by simp [a.h]⟩
/-- Data of one type as data of another one, if these are the same. -/
def castK {R : Type} (d d' : Td) (F : Td → Type) (x : F d) (k : F d' → Tree R) : Tree R :=
  match decEq d d' with
  | isTrue h => @Eq.rec Td d (fun d' _ => (F d' → Tree R) → Tree R) (fun k => k x) d' h k
  | isFalse _ => .fail
def castN {R α : Type} (n n' : Nat) (a : Arr α n) (k : Arr α n' → Tree R) : Tree R :=
  match decEq n n' with
  | isTrue h => @Eq.rec Nat n (fun n' _ => (Arr α n' → Tree R) → Tree R) (fun k => k a) n' h k
  | isFalse _ => .fail
def decN {R α : Type} (f : List V → (α → List V → Tree R) → Tree R) : (n : Nat) → List V → (Arr α n → List V → Tree R) → Tree R
  | 0, segs, k => k .nil segs
  | n + 1, segs, k => f segs fun x r => decN f n r fun a r' => k (.cons x a) r'
def decK {R : Type} : (d : Td) → List V → (T d → List V → Tree R) → Tree R
  | .int k, segs, f => match segs with
    | .c (.int k' n) :: r => if k = k' then f n r else .fail
    | _ => .fail
  | .bool, segs, f => match segs with
    | .c (.bool b) :: r => f b r
    | _ => .fail
  | .str, segs, f => match segs with
    | .str s :: r => f s r
    | _ => .fail
  | .sl d, segs, f => match segs with
    | .lst d' l :: r => castK d' d (fun d => List (T d)) l fun l => f l r
    | .fre d' l :: r => castK d' d (fun d => List (T d)) l fun l => f l r
    | .c (.slice none 0 0) :: r => if 1 ≤ wd d then f [] r else .fail
    | .emp :: r => if 1 ≤ wd d then f [] r else .fail
    | _ => .fail
  | .arr n d, segs, f => match segs with
    | .arr d' n' a :: r => if n' = n ∧ d' = d then castN n' n a fun a => castK d' d (fun d => Arr (T d) n) a fun a => f a r else decN (decK d) n segs f
    | segs => decN (decK d) n segs f
  | .pair d e, segs, f => decK d segs fun x r => decK e r fun y r' => f (x, y) r'
/-- What stands for l stands for m. -/
def Wk (l m : List AV) : Prop := ∀ (w : World) (B : List Nat) (η us : List Value), RelL w B η l us → RelL w B η m us
theorem Wk.refl (l : List AV) : Wk l l := fun _ _ _ _ h => h
theorem Wk.trans {a b c : List AV} (h : Wk a b) (k : Wk b c) : Wk a c := fun w B η us hu => k w B η us (h w B η us hu)
theorem RelL.split {w : World} {B : List Nat} {η us : List Value} {l m : List AV} (h : RelL w B η (l ++ m) us) : RelL w B η l (us.take l.length) ∧ RelL w B η m (us.drop l.length) := by
  have h1 := h.take l.length
  have h2 := h.drop l.length
  rw [List.take_left] at h1
  rw [List.drop_left] at h2
  exact ⟨h1, h2⟩
theorem Wk.app {a b c d : List AV} (h : Wk a b) (k : Wk c d) : Wk (a ++ c) (b ++ d) := fun w B η us hu => by
  obtain ⟨h1, h2⟩ := hu.split
  have := (h w B η _ h1).append (k w B η _ h2)
  rwa [List.take_append_drop] at this
theorem Wk.one {x y : AV} (h : ∀ (w : World) (B : List Nat) (η : List Value) (v : Value), Rel w B η x v → Rel w B η y v) : Wk [x] [y] := fun w B η us hu => by
  match us, hu with
  | [], hu => have := hu.1; simp at this
  | [u], hu =>
    obtain ⟨u', h1, h2⟩ := hu.2 0 x rfl
    simp at h1; subst h1
    exact RelL.cons (h _ _ _ _ h2) (RelL.nil _ _ _)
  | _ :: _ :: _, hu => have := hu.1; simp at this
theorem rel_nil_sl {w : World} {B : List Nat} {η : List Value} {v : Value} {k : Nat} (hk : 1 ≤ k) (h : Rel w B η (.c (.slice none 0 0)) v) : Rel w B η (.sl [] k) v := by
  cases h
  exact .sl _ _ _ _ _ _ (fun _ => undef) hk (by simp) (Nat.le_refl _) (Nat.zero_le _) (fun h => absurd h (by omega)) (fun i x hx => by simp at hx)
theorem rel_emp_sl {w : World} {B : List Nat} {η : List Value} {v : Value} {k : Nat} (hk : 1 ≤ k) (h : Rel w B η .emp v) : Rel w B η (.sl [] k) v := by
  cases h
  exact .sl _ _ _ _ _ _ (fun _ => undef) hk (by simp) (Nat.le_refl _) (Nat.zero_le _) (fun h => absurd h (by omega)) (fun i x hx => by simp at hx)
theorem castK_run {R : Type} {d d' : Td} {F : Td → Type} {x : F d} {k : F d' → Tree R} {r : R} (h : (castK d d' F x k).run = some r) : ∃ e : d = d', (k (e ▸ x)).run = some r := by
  unfold castK at h
  split at h
  · rename_i e _; subst e; exact ⟨rfl, h⟩
  · cases h
theorem castN_run {R α : Type} {n n' : Nat} {a : Arr α n} {k : Arr α n' → Tree R} {r : R} (h : (castN n n' a k).run = some r) : ∃ e : n = n', (k (e ▸ a)).run = some r := by
  unfold castN at h
  split at h
  · rename_i e _; subst e; exact ⟨rfl, h⟩
  · cases h
theorem decN_ok {R : Type} {d : Td} {f : List V → (T d → List V → Tree R) → Tree R} (hf : ∀ segs k r, (f segs k).run = some r → ∃ x rest, (k x rest).run = some r ∧ Wk (segsA segs) (cells d x ++ segsA rest)) :
    ∀ (n : Nat) (segs : List V) (k : Arr (T d) n → List V → Tree R) (r : R), (decN f n segs k).run = some r → ∃ a rest, (k a rest).run = some r ∧ Wk (segsA segs) (flat d a.l ++ segsA rest)
  | 0, segs, k, r, h => ⟨.nil, segs, h, Wk.refl _⟩
  | n + 1, segs, k, r, h => by
    obtain ⟨x, rest, h1, h2⟩ := hf _ _ _ h
    obtain ⟨a, rest', h3, h4⟩ := decN_ok hf n _ _ _ h1
    refine ⟨_, rest', h3, h2.trans ?_⟩
    simp only [Arr.cons, flat_cons, List.append_assoc]
    exact (Wk.refl _).app h4
theorem decK_ok {R : Type} : ∀ (d : Td) (segs : List V) (k : T d → List V → Tree R) (r : R), (decK d segs k).run = some r → ∃ x rest, (k x rest).run = some r ∧ Wk (segsA segs) (cells d x ++ segsA rest)
  | .int kk, segs, k, r, h => by
    unfold decK at h
    split at h
    · split at h
      · rename_i hk; subst hk; exact ⟨_, _, h, Wk.refl _⟩
      · cases h
    · cases h
  | .bool, segs, k, r, h => by
    unfold decK at h
    split at h
    · exact ⟨_, _, h, Wk.refl _⟩
    · cases h
  | .str, segs, k, r, h => by
    unfold decK at h
    split at h
    · exact ⟨_, _, h, Wk.refl _⟩
    · cases h
  | .sl d, segs, k, r, h => by
    unfold decK at h
    split at h
    · obtain ⟨e, h⟩ := castK_run h
      subst e
      exact ⟨_, _, h, Wk.refl _⟩
    · obtain ⟨e, h⟩ := castK_run h
      subst e
      exact ⟨_, _, h, Wk.refl _⟩
    · split at h
      · rename_i hk
        exact ⟨_, _, h, (Wk.one fun w B η v hv => rel_nil_sl hk hv).app (Wk.refl _)⟩
      · cases h
    · split at h
      · rename_i hk
        exact ⟨_, _, h, (Wk.one fun w B η v hv => rel_emp_sl hk hv).app (Wk.refl _)⟩
      · cases h
    · cases h
  | .arr n d, segs, k, r, h => by
    unfold decK at h
    split at h
    · split at h
      · obtain ⟨e, h⟩ := castN_run h
        subst e
        obtain ⟨e, h⟩ := castK_run h
        subst e
        exact ⟨_, _, h, Wk.refl _⟩
      · exact decN_ok (decK_ok d) n _ k r h
    · exact decN_ok (decK_ok d) n segs k r h
  | .pair d e, segs, k, r, h => by
    unfold decK at h
    obtain ⟨x, rest, h1, h2⟩ := decK_ok d _ _ _ h
    obtain ⟨y, rest', h3, h4⟩ := decK_ok e _ _ _ h1
    refine ⟨_, rest', h3, h2.trans ?_⟩
    simp only [cells, List.append_assoc]
    exact (Wk.refl _).app h4
end Go.Proofs.YtfaocnboildjbaaDoor
/-
  Parts of values; what is read as a row.
-/
namespace Go.Proofs.YtfaocnboildjbaaDoor
set_option maxRecDepth 100000
open Go.RowKit
set_option linter.unusedVariables false
set_option linter.unusedSimpArgs false

/-- How many cells a part has. -/
def wV : V → Nat
  | .arr d n _ => n * wd d
  | .c _ | .str _ | .lst _ _ | .fre _ _ | .emp | .box _ _ | .own _ | .nn => 1
  | _ => 0
theorem wV_eq (x : V) : (segA x).length = wV x := by
  cases x <;> first | rfl | skip
  rename_i d n a
  simp only [segA, wV, flat_length, a.h]
def wL : List V → Nat
  | [] => 0
  | x :: l => wV x + wL l
theorem wL_eq : ∀ l : List V, (segsA l).length = wL l
  | [] => rfl
  | x :: l => by rw [segsA_cons, List.length_append, wV_eq, wL_eq l]; rfl
/-- An array, element by element. -/
def expl (d : Td) (l : List (T d)) : Nat → Nat → List V
  | _, 0 => []
  | i, n + 1 => enc d (l.getD i (dflt d)) ++ expl d l (i + 1) n
theorem expl_eq (d : Td) (l : List (T d)) : ∀ n i, i + n = l.length → segsA (expl d l i n) = flat d (l.drop i)
  | 0, i, h => by rw [List.drop_of_length_le (by omega)]; rfl
  | n + 1, i, h => by
    have hi : i < l.length := by omega
    rw [expl, segsA_append, segsA_enc, expl_eq d l n (i + 1) (by omega), List.drop_eq_getElem_cons hi, flat_cons, List.getD_eq_getElem?_getD, List.getElem?_eq_getElem hi, Option.getD_some]
def explA (d : Td) (n : Nat) (a : Arr (T d) n) : List V := expl d a.l 0 n
theorem explA_eq (d : Td) (n : Nat) (a : Arr (T d) n) : segsA (explA d n a) = flat d a.l := by
  have := expl_eq d a.l n 0 (by simp [a.h])
  rw [List.drop_zero] at this
  exact this
/-- Without the first n cells. -/
def dropV : Nat → List V → Nat → Option (List V)
  | 0, _, _ => none
  | f + 1, segs, n => if n = 0 then some segs else match segs with
    | [] => none
    | s :: r => if wV s ≤ n then dropV f r (n - wV s) else match s with
      | .arr d m a => dropV f (explA d m a ++ r) n
      | _ => none
/-- The first n cells. -/
def takeV : Nat → List V → Nat → Option (List V)
  | 0, _, _ => none
  | f + 1, segs, n => if n = 0 then some [] else match segs with
    | [] => none
    | s :: r => if wV s ≤ n then (match takeV f r (n - wV s) with | some t => some (s :: t) | none => none) else match s with
      | .arr d m a => takeV f (explA d m a ++ r) n
      | _ => none
theorem dropV_ok : ∀ (f : Nat) (segs : List V) (n : Nat) (t : List V), dropV f segs n = some t → segsA t = (segsA segs).drop n ∧ n ≤ (segsA segs).length
  | 0, _, _, _, h => by cases h
  | f + 1, segs, n, t, h => by
    unfold dropV at h
    split at h
    · rename_i hn; subst hn; injection h with h; subst h; simp
    · split at h
      · cases h
      · rename_i s r
        split at h
        · rename_i hle
          obtain ⟨h1, h2⟩ := dropV_ok f r _ t h
          rw [segsA_cons, List.drop_append, List.drop_eq_nil_of_le (by rw [wV_eq]; exact hle), List.nil_append, wV_eq, h1, List.length_append, wV_eq]
          exact ⟨rfl, by omega⟩
        · split at h
          · rename_i d m a _
            obtain ⟨h1, h2⟩ := dropV_ok f _ _ t h
            rw [segsA_append, explA_eq] at h1 h2
            exact ⟨h1, h2⟩
          · cases h
theorem takeV_ok : ∀ (f : Nat) (segs : List V) (n : Nat) (t : List V), takeV f segs n = some t → segsA t = (segsA segs).take n ∧ n ≤ (segsA segs).length
  | 0, _, _, _, h => by cases h
  | f + 1, segs, n, t, h => by
    unfold takeV at h
    split at h
    · rename_i hn; subst hn; injection h with h; subst h; simp [segsA_nil]
    · split at h
      · cases h
      · rename_i s r
        split at h
        · rename_i hle
          split at h
          · rename_i t' ht
            injection h with h; subst h
            obtain ⟨h1, h2⟩ := takeV_ok f r _ _ ht
            rw [segsA_cons, segsA_cons, List.take_append, List.take_of_length_le (by rw [wV_eq]; exact hle), wV_eq, h1, List.length_append, wV_eq]
            exact ⟨rfl, by omega⟩
          · cases h
        · split at h
          · rename_i d m a _
            obtain ⟨h1, h2⟩ := takeV_ok f _ _ t h
            rw [segsA_append, explA_eq] at h1 h2
            exact ⟨h1, h2⟩
          · cases h
/-- A part of one cell, as a value. -/
def scal : V → Option V
  | .c v => some (.c v)
  | .str s => some (.str s)
  | .lst d l => some (.lst d l)
  | .emp => some .emp
  | .box i o => some (.box i o)
  | .own i => some (.own i)
  | .nn => some .nn
  | .arr d n a => match explA d n a with
    | [.c v] => some (.c v)
    | [.str s] => some (.str s)
    | [.lst d l] => some (.lst d l)
    | _ => none
  | _ => none
theorem scal_ok {x y : V} (h : scal x = some y) : segA x = [ex y] ∧ y.plain = true ∧ (∀ l k, ex y ≠ .fresh l k) ∧ (∀ l, ex y ≠ .tup l) := by
  unfold scal at h
  split at h
  all_goals first | (injection h with h; subst h; exact ⟨rfl, rfl, fun _ _ h => by simp [ex, ex0] at h, fun _ h => by simp [ex, ex0] at h⟩) | skip
  · rename_i d n a
    have he := explA_eq d n a
    split at h
    all_goals first | (rename_i hx; rw [hx] at he; injection h with h; subst h; refine ⟨?_, rfl, fun _ _ h => by simp [ex, ex0] at h, fun _ h => by simp [ex, ex0] at h⟩; simp only [segA]; rw [← he]; rfl) | cases h
  · cases h
abbrev big : Nat := 5000
def partV (P : Program) (t : TypeId) (segs : List V) (off : Nat) : Option V :=
  match dropV big segs off with
  | some r => match rowT P t with
    | some true => (match takeV big r (P.cellsOf t) with | some l => some (.agg l) | none => none)
    | some false => (match takeV big r 1 with | some [x] => scal x | _ => none)
    | none => none
  | none => none
theorem partV_ok {P : Program} {t : TypeId} {segs : List V} {off : Nat} {r : V} (h : partV P t segs off = some r) : partA P t (segsA segs) off = some (ex r) ∧ r.plain = true ∧ (∀ l k, ex r ≠ .fresh l k) := by
  unfold partV at h
  split at h
  · rename_i rr hd
    obtain ⟨h1, h2⟩ := dropV_ok _ _ _ _ hd
    split at h
    · rename_i hrow
      split at h
      · rename_i l hl
        injection h with h; subst h
        obtain ⟨h3, h4⟩ := takeV_ok _ _ _ _ hl
        refine ⟨?_, rfl, fun _ _ h => by simp [ex, ex0] at h⟩
        simp only [partA, hrow, ex, ex0]
        rw [h1, List.length_drop] at h4
        rw [if_pos (by omega), h3, h1]
      · cases h
    · rename_i hrow
      split at h
      · rename_i x hl
        obtain ⟨h3, h4⟩ := takeV_ok _ _ _ _ hl
        obtain ⟨h5, h6, h7, _⟩ := scal_ok h
        refine ⟨?_, h6, h7⟩
        simp only [partA, hrow]
        rw [segsA_cons, segsA_nil, List.append_nil, h5, h1] at h3
        have := congrArg (·[0]?) h3
        simp at this
        exact this.symm
      · cases h
    · cases h
  · cases h
/-- Parts from off on are these. -/
def putV (segs : List V) (off : Nat) (new : List V) : Option (List V) :=
  match takeV big segs off, dropV big segs (off + wL new) with
  | some p, some q => some (p ++ new ++ q)
  | _, _ => none
theorem putV_ok {segs new r : List V} {off : Nat} (h : putV segs off new = some r) : segsA r = putL (segsA segs) off (segsA new) ∧ off + (segsA new).length ≤ (segsA segs).length := by
  unfold putV at h
  split at h
  · rename_i p q h1 h2
    injection h with h; subst h
    obtain ⟨a1, a2⟩ := takeV_ok _ _ _ _ h1
    obtain ⟨b1, b2⟩ := dropV_ok _ _ _ _ h2
    rw [← wL_eq] at b1 b2
    rw [segsA_append, segsA_append, a1, b1]
    exact ⟨rfl, b2⟩
  · cases h
def constV : Value → V
  | .string s => .str s.data.toList
  | v => .c v
theorem constV_ex (v : Value) : ex (constV v) = .c v := by
  cases v <;> first | rfl | skip
theorem constV_seg (v : Value) : segA (constV v) = [.c v] := by
  cases v <;> first | rfl | skip
theorem constV_plain (v : Value) : (constV v).plain = true := by cases v <;> rfl
theorem segsA_const (l : List Value) : segsA (l.map constV) = l.map .c := by
  induction l with
  | nil => rfl
  | cons v l ih => rw [List.map_cons, segsA_cons, constV_seg, ih]; rfl
/-- A value, in parts. -/
def toSegs : V → Option (List V)
  | .c (.agg cs) => some (cs.toList.map constV)
  | .c v => some [.c v]
  | .str s => some [.str s]
  | .agg l => some l
  | .arr d n a => some [.arr d n a]
  | .lst d l => some [.lst d l]
  | .fre d l => some [.lst d l]
  | .emp => some [.emp]
  | .box i o => some [.box i o]
  | .own i => some [.own i]
  | .nn => some [.nn]
  | _ => none
def eu (x : V) : AV := unf (ex x)
theorem toSegs_ok {x : V} {l : List V} (h : toSegs x = some l) : (eu x).toL = segsA l ∧ notTup (eu x) = true ∧ x.plain = true := by
  unfold toSegs at h
  split at h
  all_goals first
    | (injection h with h; subst h; refine ⟨?_, rfl, rfl⟩; simp [eu, ex, ex0, unf, AV.toL, segsA, segA]; done)
    | (injection h with h; subst h; refine ⟨?_, rfl, rfl⟩; simp only [eu, ex, ex0, unf, AV.toL, segsA_const]; done)
    | (injection h with h; subst h; refine ⟨?_, rfl, rfl⟩; rename_i v hv; cases v <;> first | rfl | exact absurd rfl (hv _))
    | cases h
/-- What is read as a row of e's. -/
def tdOf (P : Program) : Nat → TypeId → Option Td
  | 0, _ => none
  | n + 1, t => match P.underlying t with
    | some (.int k) => some (.int k)
    | some .bool => some .bool
    | some .string => some .str
    | some (.slice e) => (match tdOf P n e with | some d => some (.sl d) | none => none)
    | some (.array m e) => (match tdOf P n e with | some d => some (.arr m d) | none => none)
    | some (.struct fs) => tdFs (tdOf P n) fs.toList
    | _ => none
where tdFs (f : TypeId → Option Td) : List Field → Option Td
  | [] => none
  | [a] => f a.type
  | a :: as' => match f a.type, tdFs f as' with
    | some d, some e => some (.pair d e)
    | _, _ => none
def viewL (P : Program) (e : TypeId) : V → Option (Sigma fun d => List (T d))
  | .lst d l => some ⟨d, l⟩
  | .fre d l => some ⟨d, l⟩
  | .emp => (match tdOf P 12 e with | some d => if 1 ≤ wd d then some ⟨d, []⟩ else none | none => none)
  | .c (.slice none 0 0) => (match tdOf P 12 e with | some d => if 1 ≤ wd d then some ⟨d, []⟩ else none | none => none)
  | _ => none
theorem viewL_ok {P : Program} {e : TypeId} {x : V} {s : Sigma fun d => List (T d)} (h : viewL P e x = some s) {w : World} {B : List Nat} {η : List Value} {v : Value} (hr : Rel w B η (ex x) v) : Rel w B η (.sl (flat s.1 s.2) (wd s.1)) v := by
  unfold viewL at h
  split at h
  · injection h with h; subst h; exact hr
  · injection h with h; subst h; exact hr.unf
  · split at h
    · split at h
      · rename_i hw; injection h with h; subst h; exact rel_emp_sl hw hr
      · cases h
    · cases h
  · split at h
    · split at h
      · rename_i hw; injection h with h; subst h; exact rel_nil_sl hw hr
      · cases h
    · cases h
  · cases h
theorem viewL_plain {P : Program} {e : TypeId} {x : V} {s : Sigma fun d => List (T d)} (h : viewL P e x = some s) : x.plain = true := by
  unfold viewL at h
  split at h <;> first | rfl | cases h

/-! ### Values, as they stand in memory -/
def Rel2 (w : World) (B : List Nat) (η : List Value) (x : V) (v : Value) : Prop :=
  match x with
  | .any => True
  | .clo f caps => ∃ vs : List Value, v = .func (.func f) #[] vs.toArray ∧ vs.length = caps.length ∧ ∀ (i : Nat) c, caps[i]? = some c → ∃ u, vs[i]? = some u ∧ c.cap = true ∧ Rel w B η (ex c) u
  | .bsl id n => ∃ b, η[id]? = some (.pointer (some ⟨b, 0, none⟩)) ∧ v = .slice (some ⟨b, 0, none⟩) n n
  | x => Rel w B η (ex x) v
section
variable {w w' : World} {B B' : List Nat} {η η' : List Value}
theorem Rel2.get {x : V} {v : Value} (h : Rel2 w B η x v) (hp : x.plain = true) : Rel w B η (ex x) v := by
  cases x <;> first | exact h | cases hp
theorem Rel2.of {x : V} {v : Value} (hp : x.plain = true) (h : Rel w B η (ex x) v) : Rel2 w B η x v := by
  cases x <;> first | exact h | cases hp
theorem Rel2.on {x : V} {v : Value} (h : Rel2 w B η x v) (g : On B w w') (hB : ∀ b ∈ B', b ∈ B ∨ w.heap.size ≤ b) (he : ∀ (id : Nat) v, η[id]? = some v → η'[id]? = some v) : Rel2 w' B' η' x v := by
  cases x with
  | any => trivial
  | clo f caps =>
    obtain ⟨vs, h1, h2, h3⟩ := h
    exact ⟨vs, h1, h2, fun i c hc => by obtain ⟨u, a, b, c⟩ := h3 i c hc; exact ⟨u, a, b, c.on g hB he⟩⟩
  | bsl id n => obtain ⟨b, h1, h2⟩ := h; exact ⟨b, he _ _ h1, h2⟩
  | _ => exact Rel.on h g hB he
theorem Rel2.gk {n0 : Nat} {x : V} {v : Value} (h : Rel2 w B η x v) (g : Gk n0 B w w') : Rel2 w' B η x v := h.on g.on (fun _ hb => .inl hb) (fun _ _ h => h)
end
/-- What stands in a block of the call's own. -/
inductive E2 where
  | dead
  | box (l : List V) (T : TypeId)
  | own (d : Td) (l : List (T d)) (E : TypeId)
  | itr (s : List UInt8) (pos : Int)
  deriving Inhabited
def exE : E2 → Ent
  | .dead => .dead
  | .box l T => .box (segsA l) T
  | .own d l E => .own (flat d l) E (wd d)
  | .itr s pos => .itr ⟨s.toArray⟩ pos.toNat
/-- What an operation that writes nothing does, in every memory. -/
def OpK (P : Program) (n0 : Nat) (w : World) (ρ : Operand → Value) (o : Oper) (B : List Nat) (η : List Value) (r : V) : Prop :=
  ∀ N : Value → World → Prop, (∀ v w', Gk n0 B w w' → Rel2 w' B η r v → FreshV n0 (ex r) v → N v w') → Oper.val P ρ o w N
def Does (P : Program) (H : List E2) (ρ : Operand → V) (o : Oper) (r : V) : Prop :=
  ∀ (n0 : Nat) (Bx : List Nat) (w : World) (B : List Nat) (η : List Value) (ρv : Operand → Value), Inv n0 Bx w B η (H.map exE) → (∀ x ∈ o.op.operands, Rel2 w B η (ρ x) (ρv x) ∧ FreshV n0 (ex (ρ x)) (ρv x)) → OpK P n0 w ρv o B η r
theorem OpK.of {P : Program} {n0 : Nat} {w : World} {ρ : Operand → Value} {o : Oper} {B : List Nat} {η : List Value} {r : V} (hp : r.plain = true) (hf : ∀ l k, ex r ≠ .fresh l k) (h : OpOK P n0 w ρ o B η (ex r)) : OpK P n0 w ρ o B η r := fun N hN =>
  h N fun v w' g hr => hN v w' g (Rel2.of hp hr) (fun hfr => by generalize ex r = y at hf hfr; cases y <;> first | exact absurd rfl (hf _ _) | cases hfr)
end Go.Proofs.YtfaocnboildjbaaDoor
/-
  Operations that write nothing, on typed values: what they yield, and that they do. First: loads, fields, indexes, slices.
-/
namespace Go.Proofs.YtfaocnboildjbaaDoor
set_option maxRecDepth 100000
open Go.RowKit
set_option linter.unusedVariables false
set_option linter.unusedSimpArgs false

def getI {α : Type} (l : List α) (z : Int) : Option α := if 0 ≤ z then l[z.toNat]? else none
def takeI {α : Type} (l : List α) (z : Int) : Option (List α) := if 0 ≤ z ∧ z ≤ l.length then some (l.take z.toNat) else none
def dropI {α : Type} (l : List α) (z : Int) : Option (List α) := if 0 ≤ z ∧ z ≤ l.length then some (l.drop z.toNat) else none
def subI {α : Type} (l : List α) (a b : Int) : Option (List α) := if 0 ≤ a ∧ a ≤ b ∧ b ≤ l.length then some ((l.drop a.toNat).take (b.toNat - a.toNat)) else none
def setI {α : Type} (l : List α) (z : Int) (x : α) : Option (List α) := if 0 ≤ z ∧ z < l.length then some (l.set z.toNat x) else none
theorem getI_eq {α : Type} {l : List α} {z : Int} {x : α} (h : getI l z = some x) : 0 ≤ z ∧ l[z.toNat]? = some x ∧ z.toNat < l.length := by
  unfold getI at h
  split at h
  · exact ⟨by assumption, h, (List.getElem?_eq_some_iff.1 h).1⟩
  · cases h

/-- The cells from an address on. -/
def readK {R : Type} (H : List E2) (x : V) (k : List V → Tree R) : Tree R :=
  match x with
  | .adr l => k l
  | .box id off => (match H[id]? with
    | some (.box l _) => (match dropV big l off with | some s => k s | none => .fail)
    | _ => .fail)
  | .boxi id off d n i o => (match H[id]? with
    | some (.box l _) => (match dropV big l off with
      | some (.arr d' n' a :: _) => castK d' d (fun d => Arr (T d) n') a fun a => .bind (a.l[i]?) fun e => match dropV big (enc d e) o with | some s => k s | none => .fail
      | _ => .fail)
    | _ => .fail)
  | .oadr id d i o => (match H[id]? with
    | some (.own d' l _) => castK d' d (fun d => List (T d)) l fun l => .bind (l[i]?) fun e => match dropV big (enc d e) o with | some s => k s | none => .fail
    | _ => .fail)
  | _ => .fail
def addOffK {R : Type} (x : V) (n : Nat) (k : V → Tree R) : Tree R :=
  match x with
  | .box id o => k (.box id (o + n))
  | .boxi id off d m i o => k (.boxi id off d m i (o + n))
  | .oadr id d i o => k (.oadr id d i (o + n))
  | .adr l => (match dropV big l n with | some s => k (.adr s) | none => .fail)
  | _ => .fail
def nilCheckK {R : Type} (x : V) (k : V → Tree R) : Tree R :=
  match x with
  | .box id o => k (.box id o)
  | .boxi id off d m i o => k (.boxi id off d m i o)
  | .oadr id d i o => k (.oadr id d i o)
  | .adr l => k (.adr l)
  | _ => .fail
def fieldAddrK {R : Type} (P : Program) (s : TypeId) (f : Nat) (x : V) (k : V → Tree R) : Tree R :=
  match fieldTO P s f with
  | some (ty, off) => if P.cellsOf ty = 0 then .fail else addOffK x off k
  | none => .fail
def loadK {R : Type} (P : Program) (H : List E2) (t : TypeId) (x : V) (k : V → Tree R) : Tree R :=
  readK H x fun segs => match partV P t segs 0 with | some r => k r | none => .fail
def fieldK {R : Type} (P : Program) (s : TypeId) (f : Nat) (x : V) (k : V → Tree R) : Tree R :=
  match x, fieldTO P s f with
  | .agg l, some (ty, off) => (match partV P ty l off with | some r => k r | none => .fail)
  | _, _ => .fail
def indexK {R : Type} (P : Program) (t : TypeId) (x i : V) (k : V → Tree R) : Tree R :=
  match arrT P t, i with
  | some (m, e), .c (.int _ z) => if P.cellsOf e = 0 then .fail else (match x with
    | .agg [.arr d n a] => if n = m ∧ wd d = P.cellsOf e then .bind (getI a.l z) fun el => match partV P e (enc d el) 0 with | some r => k r | none => .fail else .fail
    | .agg l => .ite (decide (0 ≤ z ∧ z < m)) (match partV P e l (z.toNat * P.cellsOf e) with | some r => k r | none => .fail) .fail
    | _ => .fail)
  | _, _ => .fail
def indexAddrK {R : Type} (P : Program) (H : List E2) (t : TypeId) (x i : V) (k : V → Tree R) : Tree R :=
  match elemT P t, arrT P t, i with
  | some e, _, .c (.int _ z) => (match x with
    | .own id => (match H[id]? with
      | some (.own d l _) => if wd d = P.cellsOf e then .ite (decide (0 ≤ z ∧ z < l.length)) (k (.oadr id d z.toNat 0)) .fail else .fail
      | _ => .fail)
    | x => (match viewL P e x with
      | some ⟨d, l⟩ => if wd d = P.cellsOf e ∧ 1 ≤ wd d then .bind (getI l z) fun el => k (.adr (enc d el)) else .fail
      | none => .fail))
  | none, some (m, e), .c (.int _ z) => if P.cellsOf e = 0 then .fail else (match x with
    | .box id off => (match H[id]? with
      | some (.box l _) => (match dropV big l off with
        | some (.arr d n a :: _) => if wd d = P.cellsOf e ∧ n = m then .ite (decide (0 ≤ z ∧ z < m)) (k (.boxi id off d n z.toNat 0)) .fail else .fail
        | _ => .ite (decide (0 ≤ z ∧ z < m)) (k (.box id (off + z.toNat * P.cellsOf e))) .fail)
      | _ => .fail)
    | .adr (.arr d n a :: _) => if wd d = P.cellsOf e ∧ n = m then .bind (getI a.l z) fun el => k (.adr (enc d el)) else .fail
    | .adr l => .ite (decide (0 ≤ z ∧ z < m)) (match dropV big l (z.toNat * P.cellsOf e) with | some s => k (.adr s) | none => .fail) .fail
    | _ => .fail)
  | _, _, _ => .fail
def extractK {R : Type} (x : V) (i : Nat) (k : V → Tree R) : Tree R :=
  match x with
  | .tup l => (match l[i]? with
    | some (.c v) => k (.c v)
    | some (.str s) => k (.str s)
    | some (.agg l) => k (.agg l)
    | some (.lst d l) => k (.lst d l)
    | some (.own i) => k (.own i)
    | some (.box i o) => k (.box i o)
    | some .emp => k .emp
    | some .nn => k .nn
    | _ => .fail)
  | _ => .fail
def intK {R : Type} (x : V) (k : Int → Tree R) : Tree R := match x with | .c (.int _ z) => k z | _ => .fail
def sliceK {R : Type} (P : Program) (ρ : Operand → V) (t : TypeId) (x : V) (lo hi : Option Operand) (k : V → Tree R) : Tree R :=
  match elemT P t with
  | some e => (match viewL P e x with
    | some ⟨d, l⟩ => if wd d = P.cellsOf e ∧ 1 ≤ wd d then (match lo, hi with
      | none, none => k (.lst d l)
      | some lo, none => intK (ρ lo) fun a => .bind (dropI l a) fun m => k (.lst d m)
      | none, some hi => intK (ρ hi) fun b => .bind (takeI l b) fun m => k (.lst d m)
      | some lo, some hi => intK (ρ lo) fun a => intK (ρ hi) fun b => .bind (subI l a b) fun m => k (.lst d m)) else .fail
    | none => .fail)
  | none => .fail
def slice3K {R : Type} (P : Program) (t : TypeId) (x hi mx : V) (k : V → Tree R) : Tree R :=
  match elemT P t, hi, mx with
  | some e, .c (.int _ 0), .c (.int _ 0) => if P.cellsOf e = 0 then .fail else (match x with
    | .c (.slice (some _) 0 _) => k .emp
    | x => (match viewL P e x with | some _ => k .emp | none => .fail))
  | _, _, _ => .fail
section
variable {P : Program} {H : List E2} {ρ : Operand → V} {o : Oper} {R : Type}
/-- All that it looks at is known. -/
def Plain (ρ : Operand → V) (o : Oper) : Prop := ∀ x ∈ o.op.operands, (ρ x).plain = true
theorem he_of {w : World} {B : List Nat} {η : List Value} {n0 : Nat} {ρv : Operand → Value} (hp : Plain ρ o) (h : ∀ x ∈ o.op.operands, Rel2 w B η (ρ x) (ρv x) ∧ FreshV n0 (ex (ρ x)) (ρv x)) : ∀ x ∈ o.op.operands, Rel w B η (ex (ρ x)) (ρv x) := fun x hx => (h x hx).1.get (hp x hx)
theorem heu_of {w : World} {B : List Nat} {η : List Value} {n0 : Nat} {ρv : Operand → Value} (hp : Plain ρ o) (h : ∀ x ∈ o.op.operands, Rel2 w B η (ρ x) (ρv x) ∧ FreshV n0 (ex (ρ x)) (ρv x)) : ∀ x ∈ o.op.operands, Rel w B η (eu (ρ x)) (ρv x) := fun x hx => (he_of hp h x hx).unf
def eL (P : Program) (e : TypeId) (x : V) : AV := match viewL P e x with
  | some s => .sl (flat s.1 s.2) (wd s.1)
  | none => ex x
theorem heL_of {w : World} {B : List Nat} {η : List Value} {n0 : Nat} {ρv : Operand → Value} (e : TypeId) (hp : Plain ρ o) (h : ∀ x ∈ o.op.operands, Rel2 w B η (ρ x) (ρv x) ∧ FreshV n0 (ex (ρ x)) (ρv x)) : ∀ x ∈ o.op.operands, Rel w B η (eL P e (ρ x)) (ρv x) := fun x hx => by
  have h1 := he_of hp h x hx
  unfold eL
  split
  · rename_i s hs; exact viewL_ok hs h1
  · exact h1
theorem eL_int {e : TypeId} {k : IntKind} {z : Int} : eL P e (.c (.int k z)) = .c (.int k z) := rfl
theorem eL_view {e : TypeId} {x : V} {s : Sigma fun d => List (T d)} (h : viewL P e x = some s) : eL P e x = .sl (flat s.1 s.2) (wd s.1) := by unfold eL; rw [h]
theorem Rel.adr_pre {w : World} {B : List Nat} {η : List Value} {a b : List AV} {v : Value} (h : Rel w B η (.adr (a ++ b)) v) : Rel w B η (.adr a) v := by
  cases h with
  | adr _ _ ad us ha hr => exact .adr _ _ ad us ⟨ha.spot, ha.lt, ha.out, fun i hi => ha.cell i (by rw [List.length_append]; omega)⟩ (fun i x hx => hr i x (by
      rw [List.getElem?_append_left (List.getElem?_eq_some_iff.1 hx).1]; exact hx))
theorem OpOK.mono {n0 : Nat} {w : World} {B : List Nat} {η : List Value} {ρv : Operand → Value} {r r' : AV} (h : OpOK P n0 w ρv o B η r) (hr : ∀ w' v, Rel w' B η r v → Rel w' B η r' v) : OpOK P n0 w ρv o B η r' := fun N hN => h N fun v w' g hv => hN v w' g (hr _ _ hv)
theorem partA_pre {t : TypeId} {a b : List AV} {off : Nat} {r : AV} (h : partA P t a off = some r) : partA P t (a ++ b) off = some r := by
  unfold partA at h ⊢
  split at h
  · rename_i hrow
    split at h
    · rename_i hle
      injection h with h; subst h
      rw [if_pos (by rw [List.length_append]; omega), List.drop_append_of_le_length (by omega), List.take_append_of_le_length (by rw [List.length_drop]; omega)]
    · cases h
  · rename_i hrow
    rw [List.getElem?_append_left (List.getElem?_eq_some_iff.1 h).1]; exact h
  · cases h
theorem loadA_part {H : List Ent} {t : TypeId} {x r : AV} {l : List AV} (hc : cellsA H x = some l) (h : partA P t l 0 = some r) : loadA P H t x = some r := by
  unfold loadA
  rw [hc]
  unfold partA at h
  cases hrow : rowT P t with
  | none => rw [hrow] at h; cases h
  | some b =>
    rw [hrow] at h
    cases b with
    | true =>
      simp only [Nat.zero_add, List.drop_zero] at h ⊢
      exact h
    | false =>
      simp only at h ⊢
      rw [List.head?_eq_getElem?]; exact h
theorem exH {id : Nat} {e : E2} (h : H[id]? = some e) : (H.map exE)[id]? = some (exE e) := by rw [List.getElem?_map, h]; rfl
theorem flat_drop_at {d : Td} {l : List (T d)} {i : Nat} {x : T d} (h : l[i]? = some x) : (flat d l).drop (i * wd d) = cells d x ++ flat d (l.drop (i + 1)) := by
  have hi : i < l.length := (List.getElem?_eq_some_iff.1 h).1
  rw [← flat_drop, List.drop_eq_getElem_cons hi, flat_cons]
  rw [List.getElem?_eq_getElem hi] at h
  injection h with h
  rw [h]
theorem readK_ok {x : V} {k : List V → Tree R} {r : R} (h : (readK H x k).run = some r) : ∃ segs rest l, (k segs).run = some r ∧ cellsA (H.map exE) (ex x) = some l ∧ l = segsA segs ++ rest := by
  unfold readK at h
  split at h
  · exact ⟨_, [], _, h, rfl, by simp⟩
  · rename_i id off
    split at h
    · rename_i l T' hH
      split at h
      · rename_i s hs
        obtain ⟨h1, h2⟩ := dropV_ok _ _ _ _ hs
        refine ⟨s, [], (segsA l).drop off, h, ?_, by rw [h1]; simp⟩
        simp only [ex, ex0, cellsA, exH hH, exE]
      · cases h
    · cases h
  · rename_i id off d n i oo
    split at h
    · rename_i l T' hH
      split at h
      · rename_i d' n' a rr hs
        obtain ⟨e, h⟩ := castK_run h
        subst e
        obtain ⟨el, hel, h⟩ := Tree.run_bind h
        split at h
        · rename_i s hss
          obtain ⟨h1, h2⟩ := dropV_ok _ _ _ _ hs
          obtain ⟨h3, h4⟩ := dropV_ok _ _ _ _ hss
          rw [segsA_enc] at h3 h4
          have key : (segsA l).drop (off + i * wd d' + oo) = segsA s ++ (flat d' (a.l.drop (i + 1)) ++ segsA rr) := by
            rw [Nat.add_assoc, ← List.drop_drop, ← h1, segsA_cons]
            simp only [segA]
            have hi : i < a.l.length := (List.getElem?_eq_some_iff.1 hel).1
            have hle : i * wd d' + wd d' ≤ (flat d' a.l).length := by rw [flat_length, ← Nat.succ_mul]; exact Nat.mul_le_mul_right _ hi
            have hol : oo ≤ wd d' := by rw [cells_length] at h4; exact h4
            rw [List.drop_append_of_le_length (by omega), ← List.drop_drop, flat_drop_at hel, List.drop_append_of_le_length h4, ← h3, List.append_assoc]
          refine ⟨s, _, _, h, ?_, key⟩
          simp only [ex, ex0, cellsA, exH hH, exE]
        · cases h
      · cases h
    · cases h
  · rename_i id d i oo
    split at h
    · rename_i d' l E hH
      obtain ⟨e, h⟩ := castK_run h
      subst e
      obtain ⟨el, hel, h⟩ := Tree.run_bind h
      split at h
      · rename_i s hss
        obtain ⟨h3, h4⟩ := dropV_ok _ _ _ _ hss
        rw [segsA_enc] at h3 h4
        have key : (flat d' l).drop (i * wd d' + oo) = segsA s ++ flat d' (l.drop (i + 1)) := by
          rw [← List.drop_drop, flat_drop_at hel, List.drop_append_of_le_length h4, ← h3]
        refine ⟨s, _, _, h, ?_, key⟩
        simp only [ex, ex0, cellsA, exH hH, exE]
      · cases h
    · cases h
  · cases h
theorem loadK_ok {t : TypeId} {x : Operand} {k : V → Tree R} {res : R} (hp : Plain ρ o) (ho : o.op = .load t x) (h : (loadK P H t (ρ x) k).run = some res) : ∃ r, (k r).run = some res ∧ Does P H ρ o r := by
  obtain ⟨segs, rest, l, h1, h2, h3⟩ := readK_ok h
  split at h1
  · rename_i r hr
    obtain ⟨h4, h5, h6⟩ := partV_ok hr
    refine ⟨r, h1, fun n0 Bx w B η ρv inv he => .of h5 h6 (loadA_ok inv (ρA := fun y => ex (ρ y)) (he_of hp he) ho (loadA_part h2 (by rw [h3]; exact partA_pre h4)))⟩
  · cases h1
theorem addOffK_ok {x : V} {n : Nat} {k : V → Tree R} {res : R} (h : (addOffK x n k).run = some res) : ∃ r, (k r).run = some res ∧ addOff (ex x) n = some (ex r) ∧ r.plain = true ∧ ∀ l k, ex r ≠ .fresh l k := by
  unfold addOffK at h
  split at h
  · exact ⟨_, h, rfl, rfl, fun _ _ h => by simp [ex, ex0] at h⟩
  · exact ⟨_, h, by simp [ex, ex0, addOff, Nat.add_assoc], rfl, fun _ _ h => by simp [ex, ex0] at h⟩
  · exact ⟨_, h, by simp [ex, ex0, addOff, Nat.add_assoc], rfl, fun _ _ h => by simp [ex, ex0] at h⟩
  · split at h
    · rename_i s hs
      obtain ⟨h1, h2⟩ := dropV_ok _ _ _ _ hs
      exact ⟨_, h, by simp [ex, ex0, addOff, h1], rfl, fun _ _ h => by simp [ex, ex0] at h⟩
    · cases h
  · cases h
theorem fieldAddrK_okA {s : TypeId} {f : Nat} {x : Operand} {k : V → Tree R} {res : R} (hp : Plain ρ o) (ho : o.op = .fieldAddr s x f) (h : (fieldAddrK P s f (ρ x) k).run = some res) : ∃ r, (k r).run = some res ∧ ∀ H : List E2, Does P H ρ o r := by
  unfold fieldAddrK at h
  split at h
  · rename_i ty off hfd
    obtain ⟨fd, hfd2, rfl, rfl⟩ := fieldTO_spec hfd
    split at h
    · cases h
    · rename_i hc
      obtain ⟨r, h1, h2, h3, h4⟩ := addOffK_ok h
      exact ⟨r, h1, fun H n0 Bx w B η ρv inv he => .of h3 h4 (fieldAddr_ok (ρA := fun y => ex (ρ y)) (he_of hp he) ho hfd2 hc h2)⟩
  · cases h
theorem fieldAddrK_ok {s : TypeId} {f : Nat} {x : Operand} {k : V → Tree R} {res : R} (hp : Plain ρ o) (ho : o.op = .fieldAddr s x f) (h : (fieldAddrK P s f (ρ x) k).run = some res) : ∃ r, (k r).run = some res ∧ Does P H ρ o r := by
  obtain ⟨r, h1, h2⟩ := fieldAddrK_okA hp ho h
  exact ⟨r, h1, h2 H⟩
theorem nilCheckK_okA {x : Operand} {k : V → Tree R} {res : R} (hp : Plain ρ o) (ho : o.op = .nilCheck x) (h : (nilCheckK (ρ x) k).run = some res) : ∃ r, (k r).run = some res ∧ ∀ H : List E2, Does P H ρ o r := by
  have key : ∀ r, ρ x = r → r.plain = true → (∀ l k, ex r ≠ .fresh l k) → ((∃ i n, ex r = .box i n) ∨ (∃ l, ex r = .adr l) ∨ (∃ i n, ex r = .oadr i n)) → ∀ H : List E2, Does P H ρ o r := fun r hr h1 h2 h3 H n0 Bx w B η ρv inv he => by
    subst hr
    exact .of h1 h2 (nilCheck_ok (ρA := fun y => ex (ρ y)) (he_of hp he) ho h3)
  unfold nilCheckK at h
  split at h
  · rename_i hx; exact ⟨_, h, key _ hx rfl (fun _ _ h => by simp [ex, ex0] at h) (.inl ⟨_, _, rfl⟩)⟩
  · rename_i hx; exact ⟨_, h, key _ hx rfl (fun _ _ h => by simp [ex, ex0] at h) (.inl ⟨_, _, rfl⟩)⟩
  · rename_i hx; exact ⟨_, h, key _ hx rfl (fun _ _ h => by simp [ex, ex0] at h) (.inr (.inr ⟨_, _, rfl⟩))⟩
  · rename_i hx; exact ⟨_, h, key _ hx rfl (fun _ _ h => by simp [ex, ex0] at h) (.inr (.inl ⟨_, rfl⟩))⟩
  · cases h
theorem nilCheckK_ok {x : Operand} {k : V → Tree R} {res : R} (hp : Plain ρ o) (ho : o.op = .nilCheck x) (h : (nilCheckK (ρ x) k).run = some res) : ∃ r, (k r).run = some res ∧ Does P H ρ o r := by
  obtain ⟨r, h1, h2⟩ := nilCheckK_okA (P := P) hp ho h
  exact ⟨r, h1, h2 H⟩
theorem fieldK_ok {s : TypeId} {f : Nat} {x : Operand} {k : V → Tree R} {res : R} (hp : Plain ρ o) (ho : o.op = .field s x f) (h : (fieldK P s f (ρ x) k).run = some res) : ∃ r, (k r).run = some res ∧ Does P H ρ o r := by
  unfold fieldK at h
  split at h
  · rename_i l ty off hx hfd
    obtain ⟨fd, hfd2, rfl, rfl⟩ := fieldTO_spec hfd
    split at h
    · rename_i r hr
      obtain ⟨h4, h5, h6⟩ := partV_ok hr
      exact ⟨r, h, fun n0 Bx w B η ρv inv he => .of h5 h6 (field_ok (ρA := fun y => ex (ρ y)) (he_of hp he) ho hfd2 (by rw [hx]; rfl) h4)⟩
    · cases h
  · cases h
theorem indexK_ok {t : TypeId} {x i : Operand} {k : V → Tree R} {res : R} (hp : Plain ρ o) (ho : o.op = .index t x i) (h : (indexK P t (ρ x) (ρ i) k).run = some res) : ∃ r, (k r).run = some res ∧ Does P H ρ o r := by
  unfold indexK at h
  split at h
  · rename_i m e kk z hat hi
    split at h
    · cases h
    · rename_i hc
      split at h
      · rename_i d n a hx
        split at h
        · rename_i hnm
          obtain ⟨rfl, hwd⟩ := hnm
          obtain ⟨el, hel, h⟩ := Tree.run_bind h
          obtain ⟨g0, g1, g2⟩ := getI_eq hel
          split at h
          · rename_i r hr
            obtain ⟨h4, h5, h6⟩ := partV_ok hr
            rw [a.h] at g2
            refine ⟨r, h, fun n0 Bx w B η ρv inv he => .of h5 h6 (index_ok (ρA := fun y => ex (ρ y)) (he_of hp he) ho (arrT_spec hat) (by rw [hx]; rfl) (by rw [hi]; rfl) ⟨g0, by omega⟩ hc ?_)⟩
            have e1 : segsA [V.arr d n a] = flat d a.l := by simp [segsA, segA]
            rw [e1]
            rw [segsA_enc] at h4
            have hd := flat_drop_at g1
            unfold partA at h4 ⊢
            rw [hwd] at hd
            have hlen : (flat d a.l).length = a.l.length * wd d := flat_length d a.l
            split at h4
            · rename_i hrow
              split at h4
              · rename_i hle
                rw [if_pos (by have := congrArg List.length hd; rw [List.length_drop, List.length_append] at this; omega), hd, List.take_append_of_le_length (by omega)]
                simpa using h4
              · cases h4
            · rename_i hrow
              have := congrArg (·[0]?) hd
              simp only [List.getElem?_drop, Nat.add_zero] at this
              rw [this, List.getElem?_append_left (List.getElem?_eq_some_iff.1 h4).1]
              exact h4
            · cases h4
          · cases h
        · cases h
      · rename_i l hx
        rcases Tree.run_ite h with ⟨hb, h⟩ | ⟨_, h⟩
        · have hz := of_decide_eq_true hb
          split at h
          · rename_i r hr
            obtain ⟨h4, h5, h6⟩ := partV_ok hr
            exact ⟨r, h, fun n0 Bx w B η ρv inv he => .of h5 h6 (index_ok (ρA := fun y => ex (ρ y)) (he_of hp he) ho (arrT_spec hat) (by rw [hx]; rfl) (by rw [hi]; rfl) hz hc h4)⟩
          · cases h
        · cases h
      · cases h
  · cases h
theorem indexAddrK_ok {t : TypeId} {x i : Operand} {k : V → Tree R} {res : R} (hp : Plain ρ o) (ho : o.op = .indexAddr t x i) (h : (indexAddrK P H t (ρ x) (ρ i) k).run = some res) : ∃ r, (k r).run = some res ∧ Does P H ρ o r := by
  unfold indexAddrK at h
  split at h
  · rename_i e kk z het hi
    split at h
    · rename_i id hx
      split at h
      · rename_i d l E hH
        split at h
        · rename_i hwd
          rcases Tree.run_ite h with ⟨hb, h⟩ | ⟨_, h⟩
          · have hz := of_decide_eq_true hb
            refine ⟨_, h, fun n0 Bx w B η ρv inv he => .of rfl (fun _ _ h => by simp [ex, ex0] at h) ?_⟩
            have hid := exH hH
            have hent := inv.ent id _ hid
            obtain ⟨n', us, hown, hrel, hk1, hbl⟩ := hent
            exact indexOwn_ok (ρA := fun y => ex (ρ y)) inv (he_of hp he) ho (elemT_spec het) (by simp only [hx]; rfl) (by simp only [hi]; rfl) hid ⟨hz.1, by
              rw [flat_length]
              exact Nat.mul_lt_mul_of_pos_right (by omega) (by omega)⟩ hwd
          · cases h
        · cases h
      · cases h
    · split at h
      · rename_i d l hv
        split at h
        · rename_i hwd
          obtain ⟨el, hel, h⟩ := Tree.run_bind h
          obtain ⟨g0, g1, g2⟩ := getI_eq hel
          refine ⟨_, h, fun n0 Bx w B η ρv inv he => .of rfl (fun _ _ h => by simp [ex, ex0] at h) (OpOK.mono (indexSl_ok (ρA := fun y => eL P e (ρ y)) (heL_of e hp he) ho (elemT_spec het) (eL_view hv) (show eL P e (ρ i) = .c (.int kk z) by rw [hi]; rfl) ⟨g0, by
            rw [flat_length]; exact Nat.mul_lt_mul_of_pos_right g2 hwd.2⟩ hwd.1) fun w' v hv' => ?_)⟩
          rw [flat_drop_at g1] at hv'
          simp only [ex, ex0, segsA_enc]
          exact hv'.adr_pre
        · cases h
      · cases h
  · rename_i m e kk z hnoel hat hi
    split at h
    · cases h
    · rename_i hc
      split at h
      · rename_i id off hx
        split at h
        · rename_i l T' hH
          split at h
          · rename_i d n a rr hs
            split at h
            · rename_i hwd
              rcases Tree.run_ite h with ⟨hb, h⟩ | ⟨_, h⟩
              · have hz := of_decide_eq_true hb
                exact ⟨_, h, fun n0 Bx w B η ρv inv he => .of rfl (fun _ _ h => by simp [ex, ex0] at h) (indexArr_ok (ρA := fun y => ex (ρ y)) (he_of hp he) ho (arrT_spec hat) (by simp only [hi]; rfl) hz hc (by simp [hx, ex, ex0, addOff, hwd.1]))⟩
              · cases h
            · cases h
          · rcases Tree.run_ite h with ⟨hb, h⟩ | ⟨_, h⟩
            · have hz := of_decide_eq_true hb
              exact ⟨_, h, fun n0 Bx w B η ρv inv he => .of rfl (fun _ _ h => by simp [ex, ex0] at h) (indexArr_ok (ρA := fun y => ex (ρ y)) (he_of hp he) ho (arrT_spec hat) (by simp only [hi]; rfl) hz hc (by simp [hx, ex, ex0, addOff]))⟩
            · cases h
        · cases h
      · rename_i d n a rr hx
        split at h
        · rename_i hwd
          obtain ⟨el, hel, h⟩ := Tree.run_bind h
          obtain ⟨g0, g1, g2⟩ := getI_eq hel
          rw [a.h] at g2
          refine ⟨_, h, fun n0 Bx w B η ρv inv he => .of rfl (fun _ _ h => by simp [ex, ex0] at h) (OpOK.mono (r := .adr ((segsA (V.arr d n a :: rr)).drop (z.toNat * P.cellsOf e))) (indexArr_ok (ρA := fun y => ex (ρ y)) (he_of hp he) ho (arrT_spec hat) (by simp only [hi]; rfl) ⟨g0, by omega⟩ hc (by simp only [hx]; rfl)) fun w' v hv' => ?_)⟩
          have hle : z.toNat * wd d ≤ (flat d a.l).length := by rw [flat_length, a.h]; exact Nat.mul_le_mul_right _ (by omega)
          rw [segsA_cons, ← hwd.1] at hv'
          simp only [segA] at hv'
          rw [List.drop_append_of_le_length hle, flat_drop_at g1, List.append_assoc] at hv'
          simp only [ex, ex0, segsA_enc]
          exact hv'.adr_pre
        · cases h
      · rename_i l hnot hx
        rcases Tree.run_ite h with ⟨hb, h⟩ | ⟨_, h⟩
        · have hz := of_decide_eq_true hb
          split at h
          · rename_i s hs
            obtain ⟨h1, h2⟩ := dropV_ok _ _ _ _ hs
            exact ⟨_, h, fun n0 Bx w B η ρv inv he => .of rfl (fun _ _ h => by simp [ex, ex0] at h) (indexArr_ok (ρA := fun y => ex (ρ y)) (he_of hp he) ho (arrT_spec hat) (by simp only [hi]; rfl) hz hc (by simp [hx, ex, ex0, addOff, h1]))⟩
          · cases h
        · cases h
      · cases h
  · cases h
theorem extractK_ok {x : Operand} {i : Nat} {k : V → Tree R} {res : R} (hp : Plain ρ o) (ho : o.op = .extract x i) (h : (extractK (ρ x) i k).run = some res) : ∃ r, (k r).run = some res ∧ Does P H ρ o r := by
  unfold extractK at h
  split at h
  · rename_i l hx
    have key : ∀ r, l[i]? = some r → ex0 r = ex r → r.plain = true → (∀ l k, ex r ≠ .fresh l k) → Does P H ρ o r := fun r hr h0 h1 h2 n0 Bx w B η ρv inv he =>
      .of h1 h2 (extract_ok (ρA := fun y => ex (ρ y)) (he_of hp he) ho (l := l.map ex0) (by simp only [hx]; rfl) (by rw [List.getElem?_map, hr, Option.map_some, h0]))
    split at h
    all_goals first | cases h | (rename_i hr; exact ⟨_, h, key _ hr rfl rfl (fun _ _ h => by simp [ex, ex0] at h)⟩)
  · cases h
theorem intK_run {x : V} {k : Int → Tree R} {res : R} (h : (intK x k).run = some res) : ∃ kk z, x = .c (.int kk z) ∧ (k z).run = some res := by
  unfold intK at h
  split at h
  · exact ⟨_, _, rfl, h⟩
  · cases h
theorem sliceK_ok {t : TypeId} {x : Operand} {lo hi : Option Operand} {k : V → Tree R} {res : R} (hp : Plain ρ o) (ho : o.op = .slice t x lo hi none) (h : (sliceK P ρ t (ρ x) lo hi k).run = some res) : ∃ r, (k r).run = some res ∧ Does P H ρ o r := by
  unfold sliceK at h
  split at h
  · rename_i e het
    split at h
    · rename_i d l hv
      split at h
      · rename_i hwd
        have hdiv : (flat d l).length / wd d = l.length := by rw [flat_length]; exact Nat.mul_div_cancel _ (by omega)
        have key : ∀ (a b : Nat), boundA (fun y => eL P e (ρ y)) 0 lo = some a → boundA (fun y => eL P e (ρ y)) l.length hi = some b → a ≤ b → b ≤ l.length → Does P H ρ o (.lst d ((l.drop a).take (b - a))) := fun a b ha hb hab hbl n0 Bx w B η ρv inv he => by
          refine .of rfl (fun _ _ h => by simp [ex, ex0] at h) ?_
          have := slice_ok (P := P) (ρA := fun y => eL P e (ρ y)) (n0 := n0) (heL_of e hp he) ho (elemT_spec het) (eL_view hv) hwd.1 ha (by rw [hdiv]; exact hb) hab (by rw [flat_length]; exact Nat.mul_le_mul_right _ hbl)
          simp only [ex, ex0, flat_take, flat_drop]
          exact this
        split at h
        · have := key 0 l.length rfl rfl (Nat.zero_le _) (Nat.le_refl _)
          simp only [List.drop_zero, Nat.sub_zero, List.take_length] at this
          exact ⟨_, h, this⟩
        · obtain ⟨kk, z, hz, h⟩ := intK_run h
          obtain ⟨m, hm, h⟩ := Tree.run_bind h
          unfold dropI at hm
          split at hm
          · rename_i hc
            injection hm with hm; subst hm
            have := key z.toNat l.length (by simp [boundA, hz, eL_int, hc.1]) rfl (by omega) (Nat.le_refl _)
            rw [List.take_of_length_le (by rw [List.length_drop]; exact Nat.le_refl _)] at this
            exact ⟨_, h, this⟩
          · cases hm
        · obtain ⟨kk, z, hz, h⟩ := intK_run h
          obtain ⟨m, hm, h⟩ := Tree.run_bind h
          unfold takeI at hm
          split at hm
          · rename_i hc
            injection hm with hm; subst hm
            have := key 0 z.toNat rfl (by simp [boundA, hz, eL_int, hc.1]) (Nat.zero_le _) (by omega)
            rw [List.drop_zero, Nat.sub_zero] at this
            exact ⟨_, h, this⟩
          · cases hm
        · obtain ⟨kk, z, hz, h⟩ := intK_run h
          obtain ⟨kk2, z2, hz2, h⟩ := intK_run h
          obtain ⟨m, hm, h⟩ := Tree.run_bind h
          unfold subI at hm
          split at hm
          · rename_i hc
            injection hm with hm; subst hm
            exact ⟨_, h, key z.toNat z2.toNat (by simp [boundA, hz, eL_int, hc.1]) (by simp [boundA, hz2, eL_int]; omega) (by omega) (by omega)⟩
          · cases hm
      · cases h
    · cases h
  · cases h
theorem slice3K_ok {t : TypeId} {x hi mx : Operand} {k : V → Tree R} {res : R} (hp : Plain ρ o) (ho : o.op = .slice t x none (some hi) (some mx)) (h : (slice3K P t (ρ x) (ρ hi) (ρ mx) k).run = some res) : ∃ r, (k r).run = some res ∧ Does P H ρ o r := by
  unfold slice3K at h
  split at h
  · rename_i e k1 k2 het hhi hmx
    split at h
    · cases h
    · rename_i hc
      split at h
      · rename_i A0 c0 hx
        exact ⟨_, h, fun n0 Bx w B η ρv inv he => .of rfl (fun _ _ h => by simp [ex, ex0] at h) (slice3c_ok (ρA := fun y => ex (ρ y)) (A := A0) (c := c0) (he_of hp he) ho (elemT_spec het) (by simp only [hx]; rfl) hc (by simp only [hhi]; rfl) (by simp only [hmx]; rfl))⟩
      split at h
      · rename_i s hv
        exact ⟨_, h, fun n0 Bx w B η ρv inv he => .of rfl (fun _ _ h => by simp [ex, ex0] at h) (slice3_ok (ρA := fun y => eL P e (ρ y)) (heL_of e hp he) ho (elemT_spec het) (eL_view hv) hc (show eL P e (ρ hi) = .c (.int k1 0) by rw [hhi]; rfl) (show eL P e (ρ mx) = .c (.int k2 0) by rw [hmx]; rfl))⟩
      · cases h
  · cases h
end
end Go.Proofs.YtfaocnboildjbaaDoor
/-
  More operations that write nothing: structs and arrays that are compared, parts of arrays and of texts, arrays out of slices, pointers that are compared.
-/
namespace Go.Proofs.YtfaocnboildjbaaDoor
set_option maxRecDepth 100000
open Go.RowKit
set_option linter.unusedVariables false
set_option linter.unusedSimpArgs false

mutual
/-- A type of the program is laid out as a code of types. -/
def layT' (P : Program) : Nat → TypeId → Td → Bool
  | 0, _, _ => false
  | n + 1, t, d => P.cellsOf t == wd d && (match P.underlying t, d with
    | some (.int k), .int k' => decide (k = k')
    | some .bool, .bool => true
    | some .string, .str => true
    | some (.slice e), .sl d => decide (1 ≤ wd d) && layT' P n e d
    | some (.array m e), .arr m' d => m == m' && layT' P n e d
    | some (.struct fs), d => layFs P n fs.toList 0 d
    | _, _ => false)
def layFs (P : Program) : Nat → List Field → Nat → Td → Bool
  | 0, _, _, _ => false
  | n + 1, fs, o, d => match fs with
    | [] => false
    | [f] => f.offset == o && layT' P n f.type d
    | f :: g :: fs => (match d with
      | .pair d e => f.offset == o && layT' P n f.type d && layFs P n (g :: fs) (o + wd d) e
      | _ => false)
end
theorem layT_cells {P : Program} {n : Nat} {t : TypeId} {d : Td} (h : layT' P n t d = true) : P.cellsOf t = wd d := by
  cases n with
  | zero => simp [layT'] at h
  | succ n => simp only [layT', Bool.and_eq_true, beq_iff_eq] at h; exact h.1
def isAgg : V → Bool
  | .agg _ | .arr _ _ _ | .c (.agg _) => true
  | _ => false
theorem isAgg_true {x : V} (h : isAgg x = true) : (∃ l, x = .agg l) ∨ (∃ d n a, x = .arr d n a) ∨ ∃ cs, x = .c (.agg cs) := by
  unfold isAgg at h
  split at h
  · exact .inl ⟨_, rfl⟩
  · exact .inr (.inl ⟨_, _, _, rfl⟩)
  · exact .inr (.inr ⟨_, rfl⟩)
  · cases h

/-! ### Data that can be compared -/
theorem Arr.ext' {α : Type} {n : Nat} {a b : Arr α n} (h : a.l = b.l) : a = b := by cases a; cases b; cases h; rfl
instance decArr {α : Type} {n : Nat} [DecidableEq α] : DecidableEq (Arr α n) := fun a b => decidable_of_iff (a.l = b.l) ⟨Arr.ext', fun h => congrArg _ h⟩
def decT : (d : Td) → DecidableEq (T d)
  | .int _ => Int.instDecidableEq
  | .bool => instDecidableEqBool
  | .str => instDecidableEqList
  | .sl d => @instDecidableEqList _ (decT d)
  | .arr n d => @decArr _ n (decT d)
  | .pair d e => @instDecidableEqProd _ _ (decT d) (decT e)
def eqD : Td → Bool
  | .int _ | .bool | .str => true
  | .sl _ => false
  | .arr _ d => eqD d
  | .pair d e => eqD d && eqD e
/-- Numbers are in their kinds' ranges, texts are a machine's. -/
def wfB : (d : Td) → T d → Bool
  | .int k, n => (Lit.int k n).wf
  | .bool, _ => true
  | .str, s => decide (s.length ≤ maxLen)
  | .sl _, _ => true
  | .arr n d, a => a.l.all (wfB d)
  | .pair d e, x => wfB d x.1 && wfB e x.2
def lits : (d : Td) → T d → List Lit
  | .int k, n => [.int k n]
  | .bool, b => [.bool b]
  | .str, s => [.string s]
  | .sl _, _ => []
  | .arr n d, a => a.l.flatMap (lits d)
  | .pair d e, x => lits d x.1 ++ lits e x.2
def valsD : (d : Td) → T d → List Value
  | .int k, n => [.int k n]
  | .bool, b => [.bool b]
  | .str, s => [.string ⟨s.toArray⟩]
  | .sl _, _ => []
  | .arr n d, a => a.l.flatMap (valsD d)
  | .pair d e, x => valsD d x.1 ++ valsD e x.2
theorem cells_vals : ∀ (d : Td) (x : T d), eqD d = true → cells d x = (valsD d x).map .c
  | .int _, _, _ => rfl
  | .bool, _, _ => rfl
  | .str, _, _ => rfl
  | .sl _, _, h => by cases h
  | .arr n d, a, h => by
    simp only [cells, valsD, List.map_flatMap]
    exact congrArg (fun f => List.flatMap f a.l) (funext fun x => cells_vals d x h)
  | .pair d e, x, h => by
    simp only [eqD, Bool.and_eq_true] at h
    simp only [cells, valsD, List.map_append, cells_vals d x.1 h.1, cells_vals e x.2 h.2]
theorem vals_length (d : Td) (x : T d) (h : eqD d = true) : (valsD d x).length = wd d := by
  have := congrArg List.length (cells_vals d x h)
  rw [cells_length, List.length_map] at this
  exact this.symm
theorem lits_length : ∀ (d : Td) (x y : T d), eqD d = true → (lits d x).length = (lits d y).length
  | .int _, _, _, _ => rfl
  | .bool, _, _, _ => rfl
  | .str, _, _, _ => rfl
  | .sl _, _, _, h => by cases h
  | .arr n d, a, b, h => by
    obtain ⟨la, ha⟩ := a
    obtain ⟨lb, hb⟩ := b
    simp only [lits]
    have hlen : la.length = lb.length := by rw [ha, hb]
    clear ha hb
    induction la generalizing lb with
    | nil => cases lb with | nil => rfl | cons _ _ => simp at hlen
    | cons x la ih => cases lb with
      | nil => simp at hlen
      | cons y lb =>
        simp only [List.flatMap_cons, List.length_append]
        rw [lits_length d x y h, ih lb (by simpa using hlen)]
  | .pair d e, x, y, h => by
    simp only [eqD, Bool.and_eq_true] at h
    simp only [lits, List.length_append, lits_length d x.1 y.1 h.1, lits_length e x.2 y.2 h.2]
theorem lits_inj : ∀ (d : Td) (x y : T d), eqD d = true → lits d x = lits d y → x = y
  | .int _, _, _, _, h => by simp only [lits, List.cons.injEq, Lit.int.injEq, and_true, true_and] at h; exact h
  | .bool, _, _, _, h => by simp only [lits, List.cons.injEq, Lit.bool.injEq, and_true] at h; exact h
  | .str, _, _, _, h => by simp only [lits, List.cons.injEq, Lit.string.injEq, and_true] at h; exact h
  | .sl _, _, _, h, _ => by cases h
  | .arr n d, a, b, h, he => by
    obtain ⟨la, ha⟩ := a
    obtain ⟨lb, hb⟩ := b
    simp only [lits] at he
    have hlen : la.length = lb.length := by rw [ha, hb]
    have : la = lb := by
      clear ha hb
      induction la generalizing lb with
      | nil => cases lb with | nil => rfl | cons _ _ => simp at hlen
      | cons x la ih => cases lb with
        | nil => simp at hlen
        | cons y lb =>
          simp only [List.flatMap_cons] at he
          obtain ⟨h1, h2⟩ := List.append_inj he (lits_length d x y h)
          rw [lits_inj d x y h h1, ih lb h2 (by simpa using hlen)]
    exact Arr.ext' this
  | .pair d e, x, y, h, he => by
    simp only [eqD, Bool.and_eq_true] at h
    simp only [lits] at he
    obtain ⟨h1, h2⟩ := List.append_inj he (lits_length d x.1 y.1 h.1)
    exact Prod.ext (lits_inj d _ _ h.1 h1) (lits_inj e _ _ h.2 h2)
section
variable {P : Program}
theorem flat_vals (d : Td) (hd : eqD d = true) (l : List (T d)) (i : Nat) (x : T d) (h : l[i]? = some x) : ((l.flatMap (valsD d)).drop (i * wd d)).take (wd d) = valsD d x := by
  have hf := flat_at d l i x h
  have hall : flat d l = (l.flatMap (valsD d)).map .c := by
    simp only [flat, List.map_flatMap]
    exact congrArg (fun f => List.flatMap f l) (funext fun x => cells_vals d x hd)
  rw [hall, ← List.map_drop, ← List.map_take, cells_vals d x hd] at hf
  have hinj : ∀ a b : List Value, a.map AV.c = b.map AV.c → a = b := fun a b h => by
    have := congrArg (List.map fun | AV.c v => v | _ => undef) h
    simpa [List.map_map, Function.comp_def] using this
  exact hinj _ _ hf
mutual
theorem lits_ok : ∀ (n : Nat) (t : TypeId) (d : Td), layT' P n t d = true → ∀ (q : Nat), P.keyTypeAt q t = true → eqD d = true → ∀ (x : T d), wfB d x = true → ∀ m, n ≤ m → P.keyLits m t (valsD d x) = some (lits d x)
  | 0, t, d, h => by simp [layT'] at h
  | n + 1, t, d, h => by
    intro q hq he x hw m hm
    obtain ⟨m, rfl⟩ : ∃ m', m = m' + 1 := ⟨m - 1, by omega⟩
    have hc := layT_cells h
    simp only [layT', Bool.and_eq_true, beq_iff_eq] at h
    replace h := h.2
    cases q with
    | zero => simp [Program.keyTypeAt] at hq
    | succ q =>
    split at h
    · rename_i k k' hu
      have := of_decide_eq_true h
      subst this
      have hw : (Lit.int k x).wf = true := hw
      simp only [Program.keyLits, hu, valsD, lits]
      simp [hw]
    · rename_i hu
      simp only [Program.keyLits, hu, valsD, lits]
    · rename_i hu
      have hw := of_decide_eq_true hw
      have hsz : (ByteArray.mk x.toArray).size = x.length := by show x.toArray.size = _; simp
      simp only [Program.keyLits, hu, valsD, lits]
      rw [if_pos (by rw [hsz]; exact hw)]
    · cases he
    · rename_i k e k' d' hu
      simp only [Bool.and_eq_true, beq_iff_eq] at h
      obtain ⟨rfl, h⟩ := h
      have hce := layT_cells h
      simp only [Program.keyTypeAt, hu] at hq
      have hw : x.l.all (wfB d') = true := hw
      simp only [Program.keyLits, hu, lits]
      rw [if_pos (by rw [vals_length _ _ he, hc])]
      have : (List.range k).mapM (fun i => P.keyLits m e (((valsD (.arr k d') x).drop (i * P.cellsOf e)).take (P.cellsOf e))) = some (x.l.map (lits d')) := by
        have key : ∀ (j i : Nat) (l : List (T d')), (∀ y ∈ l, y ∈ x.l) → x.l.drop i = l → j = l.length → (List.range' i j).mapM (fun i => P.keyLits m e (((valsD (.arr k d') x).drop (i * P.cellsOf e)).take (P.cellsOf e))) = some (l.map (lits d')) := by
          intro j
          induction j with
          | zero => intro i l hl hd hj; cases l with | nil => rfl | cons _ _ => simp at hj
          | succ j ih =>
            intro i l hl hd hj
            cases l with
            | nil => simp at hj
            | cons y l =>
              have hi : x.l[i]? = some y := by
                have := congrArg (·[0]?) hd
                simpa using this
              have h1 : P.keyLits m e (((valsD (.arr k d') x).drop (i * P.cellsOf e)).take (P.cellsOf e)) = some (lits d' y) := by
                rw [hce]
                rw [show valsD (.arr k d') x = x.l.flatMap (valsD d') from rfl, flat_vals d' he x.l i y hi]
                exact lits_ok n e d' h q hq he y (List.all_eq_true.1 hw y (hl y List.mem_cons_self)) m (by omega)
              have h2 : x.l.drop (i + 1) = l := by rw [← List.drop_drop, hd]; rfl
              rw [List.range'_succ, List.mapM_cons, h1, ih (i + 1) l (fun z hz => hl z (List.mem_cons_of_mem _ hz)) h2 (by simpa using hj)]
              rfl
        rw [List.range_eq_range']
        exact key k 0 x.l (fun y hy => hy) rfl x.h.symm
      rw [this]
      simp [List.flatMap]
    · rename_i d x1 d1 fs hu
      simp only [Program.keyTypeAt, hu, Bool.and_eq_true, Bool.not_eq_true'] at hq
      have hfq : ∀ f ∈ fs.toList, f.name ≠ "_" ∧ P.keyTypeAt q f.type = true := fun f hf => by
        have := Array.all_eq_true_iff_forall_mem.1 hq.1.1 f (Array.mem_toList_iff.1 hf)
        simp only [Bool.and_eq_true, bne_iff_ne, ne_eq] at this
        exact this
      obtain ⟨ls, h1, h2⟩ := fs_ok n fs.toList 0 d h q hfq he x hw m (by omega) [] rfl
      simp only [List.nil_append] at h1
      have hnm : fs.all (·.name != "_") = true := Array.all_eq_true_iff_forall_mem.2 fun f hf => by
        simp only [bne_iff_ne, ne_eq]
        exact (hfq f (Array.mem_toList_iff.2 hf)).1
      have hl := vals_length d x he
      unfold Program.keyLits
      simp only [hu]
      have hgo : (if (valsD d x).length = P.cellsOf t ∧ fs.all (·.name != "_") = true then (fs.toList.mapM fun f => P.keyLits m f.type (((valsD d x).drop f.offset).take (P.cellsOf f.type))).map List.flatten else none) = some (lits d x) := by
        rw [if_pos ⟨by rw [hl, hc], hnm⟩, h1, ← h2]
        rfl
      generalize valsD d x = vs at hgo ⊢
      exact hgo
    · cases h
theorem fs_ok : ∀ (n : Nat) (fs : List Field) (o : Nat) (d : Td), layFs P n fs o d = true → ∀ (q : Nat), (∀ f ∈ fs, f.name ≠ "_" ∧ P.keyTypeAt q f.type = true) → eqD d = true → ∀ (x : T d), wfB d x = true → ∀ m, n ≤ m → ∀ (pre : List Value), pre.length = o →
    ∃ ls, fs.mapM (fun f => P.keyLits m f.type (((pre ++ valsD d x).drop f.offset).take (P.cellsOf f.type))) = some ls ∧ ls.flatten = lits d x
  | 0, fs, o, d, h => by simp [layFs] at h
  | n + 1, [], o, d, h => by simp [layFs] at h
  | n + 1, [f], o, d, h => by
    intro q hq he x hw m hm pre hpre
    simp only [layFs, Bool.and_eq_true, beq_iff_eq] at h
    obtain ⟨ho, h⟩ := h
    have h1 := lits_ok n f.type d h q (hq f List.mem_cons_self).2 he x hw m (by omega)
    refine ⟨[lits d x], ?_, by simp⟩
    rw [List.mapM_cons, List.mapM_nil, ho, ← hpre, List.drop_left, layT_cells h, List.take_of_length_le (by rw [vals_length d x he]; exact Nat.le_refl _), h1]
    rfl
  | n + 1, f :: g :: fs, o, d, h => by
    intro q hq he x hw m hm pre hpre
    simp only [layFs] at h
    split at h
    · rename_i d e
      simp only [Bool.and_eq_true, beq_iff_eq] at h
      obtain ⟨⟨ho, h⟩, h'⟩ := h
      simp only [eqD, Bool.and_eq_true] at he
      simp only [wfB, Bool.and_eq_true] at hw
      have h1 := lits_ok n f.type d h q (hq f List.mem_cons_self).2 he.1 x.1 hw.1 m (by omega)
      obtain ⟨ls, h2, h3⟩ := fs_ok n (g :: fs) _ e h' q (fun f hf => hq f (List.mem_cons_of_mem _ hf)) he.2 x.2 hw.2 m (by omega) (pre ++ valsD d x.1) (by rw [List.length_append, hpre, vals_length d x.1 he.1])
      refine ⟨lits d x.1 :: ls, ?_, by simp [lits, h3]⟩
      rw [List.append_assoc] at h2
      rw [List.mapM_cons]
      simp only [valsD]
      rw [ho, ← hpre, List.drop_left, layT_cells h, List.take_append_of_le_length (by rw [vals_length d x.1 he.1]; exact Nat.le_refl _), List.take_of_length_le (by rw [vals_length d x.1 he.1]; exact Nat.le_refl _), h1, h2]
      rfl
    · cases h
end
theorem relL_cEq {w : World} {B : List Nat} {η : List Value} {vs us : List Value} (h : RelL w B η (vs.map .c) us) : us = vs := by
  apply List.ext_getElem?
  intro i
  rcases Nat.lt_or_ge i vs.length with hi | hi
  · obtain ⟨u, h1, h2⟩ := h.2 i (.c vs[i]) (by rw [List.getElem?_map, List.getElem?_eq_getElem hi]; rfl)
    rw [h1, List.getElem?_eq_getElem hi, Rel.ofC h2]
  · have := h.1
    rw [List.length_map] at this
    rw [List.getElem?_eq_none hi, List.getElem?_eq_none (by omega)]
end
section
variable {P : Program} {H : List E2} {ρ : Operand → V} {o : Oper} {R : Type}
def eqTypeB (P : Program) (t : TypeId) (d : Td) : Bool := eqD d && layT' P 24 t d && P.keyTypeAt 24 t && !P.eqGuardType P.depth t && (match P.underlying t with | some (.struct _) | some (.array _ _) => true | _ => false)
/-- Are two structs, two arrays the same? -/
def aggEqK (P : Program) (op : BinOp) (t : TypeId) (x y : V) (k : V → Tree R) : Tree R :=
  match tdOf P 12 t with
  | some d => if eqTypeB P t d = true ∧ isAgg x = true ∧ isAgg y = true then (match toSegs x, toSegs y with
    | some sx, some sy => decK d sx fun a r => decK d sy fun b r' => if wL r = 0 ∧ wL r' = 0 then (match op with
      | .eql => .ite (wfB d a && wfB d b) (k (.c (.bool (@decide (a = b) (decT d a b))))) .fail
      | .neq => .ite (wfB d a && wfB d b) (k (.c (.bool (!(@decide (a = b) (decT d a b)))))) .fail
      | _ => .fail) else .fail
    | _, _ => .fail) else .fail
  | none => .fail
theorem dec_relL {d : Td} {x : V} {segs : List V} {w : World} {B : List Nat} {η : List Value} {v : Value} {a : T d} {r : List V} (hs : toSegs x = some segs) (hw : Wk (segsA segs) (cells d a ++ segsA r)) (hr : wL r = 0) (hv : Rel w B η (eu x) v) : RelL w B η (cells d a) v.cells.toList := by
  obtain ⟨s1, s2, s3⟩ := toSegs_ok hs
  have hr0 : segsA r = [] := List.eq_nil_of_length_eq_zero (by rw [wL_eq]; exact hr)
  rw [hr0, List.append_nil] at hw
  have hL := hv.toL (fun l e => by rw [e] at s2; cases s2)
  rw [s1] at hL
  exact hw w B η _ hL
theorem isAgg_val {x : V} {w : World} {B : List Nat} {η : List Value} {v : Value} (h : isAgg x = true) (hv : Rel w B η (ex x) v) : ∃ cs, v = .agg cs := by
  rcases isAgg_true h with ⟨l, rfl⟩ | ⟨d', n', a', rfl⟩ | ⟨cs, rfl⟩
  · obtain ⟨cs, e, _⟩ := Rel.aggL hv; exact ⟨cs, e⟩
  · obtain ⟨cs, e, _⟩ := Rel.aggL hv; exact ⟨cs, e⟩
  · exact ⟨cs, Rel.ofC hv⟩
theorem equalIn_td {t : TypeId} {d : Td} (hb : eqTypeB P t d = true) {a b : T d} (ha : wfB d a = true) (hb' : wfB d b = true) {xs ys : Array Value} (hx : xs.toList = valsD d a) (hy : ys.toList = valsD d b) (w : World) : (Op.equalIn 10000 t (.agg xs) (.agg ys)).run P w = .ok (@decide (a = b) (decT d a b)) w := by
  simp only [eqTypeB, Bool.and_eq_true] at hb
  obtain ⟨⟨⟨⟨he, hl⟩, hk⟩, _⟩, hrow⟩ := hb
  have hform : ∀ (cs : Array Value) (z : T d), cs.toList = valsD d z → (Value.agg cs).formed P t = true := fun cs z hc => by
    have hsz : cs.size = P.cellsOf t := by rw [← Array.length_toList, hc, vals_length d z he, layT_cells hl]
    unfold Value.formed
    split at hrow
    · rename_i hu; simp [hu, hsz]
    · rename_i hu; simp [hu, hsz]
    · cases hrow
  obtain ⟨r, h1, h2⟩ := run_equalIn_deep (P := P) 9976 24 t hk w 24 24 (.agg xs) (.agg ys) (lits d a) (lits d b) (hform xs a hx) (hform ys b hy)
    (by simp only [Value.cells, hx]; exact lits_ok 24 t d hl 24 hk he a ha 24 (Nat.le_refl _)) (by simp only [Value.cells, hy]; exact lits_ok 24 t d hl 24 hk he b hb' 24 (Nat.le_refl _))
  rw [show 9976 + 24 = 10000 from rfl] at h1
  rw [h1]
  congr 1
  cases r with
  | true => exact (@decide_eq_true _ (decT d a b) (lits_inj d a b he (h2.1 rfl))).symm
  | false => exact (@decide_eq_false _ (decT d a b) (fun h => by have := h2.2 (by rw [h]); cases this)).symm
theorem aggEqK_ok {op : BinOp} {t t2 : TypeId} {x y : Operand} {k : V → Tree R} {res : R} (hp : Plain ρ o) (ho : o.op = .binOp op t x y t2) (h : (aggEqK P op t (ρ x) (ρ y) k).run = some res) : ∃ r, (k r).run = some res ∧ Does P H ρ o r := by
  unfold aggEqK at h
  split at h
  · rename_i d htd
    split at h
    · rename_i hc
      obtain ⟨hb, ax, ay⟩ := hc
      split at h
      · rename_i sx sy hsx hsy
        obtain ⟨a, r, h1, wa⟩ := decK_ok _ _ _ _ h
        obtain ⟨b, r', h2, wb⟩ := decK_ok _ _ _ _ h1
        split at h2
        · rename_i hr
          have main : ∀ (n0 : Nat) (Bx : List Nat) (w : World) (B : List Nat) (η : List Value) (ρv : Operand → Value), Inv n0 Bx w B η (H.map exE) → (∀ x ∈ o.op.operands, Rel2 w B η (ρ x) (ρv x) ∧ FreshV n0 (ex (ρ x)) (ρv x)) → wfB d a = true → wfB d b = true → ∃ xs ys, ρv x = .agg xs ∧ ρv y = .agg ys ∧ (Op.equalIn 10000 t (.agg xs) (.agg ys)).run P w = .ok (@decide (a = b) (decT d a b)) w := by
            intro n0 Bx w B η ρv inv he wa1 wb1
            have he1 : eqD d = true := by simp only [eqTypeB, Bool.and_eq_true] at hb; exact hb.1.1.1.1
            have hx := he_of hp he x (by simp [ho, Op.operands])
            have hy := he_of hp he y (by simp [ho, Op.operands])
            obtain ⟨xs, ex1⟩ := isAgg_val ax hx
            obtain ⟨ys, ey1⟩ := isAgg_val ay hy
            have lx := dec_relL hsx wa hr.1 (heu_of hp he x (by simp [ho, Op.operands]))
            have ly := dec_relL hsy wb hr.2 (heu_of hp he y (by simp [ho, Op.operands]))
            rw [cells_vals d a he1, ex1] at lx
            rw [cells_vals d b he1, ey1] at ly
            exact ⟨xs, ys, ex1, ey1, equalIn_td hb wa1 wb1 (relL_cEq lx) (relL_cEq ly) w⟩
          have hg : P.eqGuardType P.depth t = false := by simp only [eqTypeB, Bool.and_eq_true, Bool.not_eq_true'] at hb; exact hb.1.2
          split at h2
          · rcases Tree.run_ite h2 with ⟨hw, h3⟩ | ⟨_, h3⟩
            · simp only [Bool.and_eq_true] at hw
              refine ⟨_, h3, fun n0 Bx w B η ρv inv he => .of rfl (fun _ _ h => by simp [ex, ex0] at h) ?_⟩
              obtain ⟨xs, ys, e1, e2, e3⟩ := main n0 Bx w B η ρv inv he hw.1 hw.2
              refine .of_run (v := .bool (@decide (a = b) (decT d a b))) ?_ (.c _ _)
              simp only [execOp, ho, e1, e2, Sem.run_bind, run_eqGuard_agg w _ t x y xs ys hg, Result.andThen_ok, run_eql_struct, e3]
              rfl
            · cases h3
          · rcases Tree.run_ite h2 with ⟨hw, h3⟩ | ⟨_, h3⟩
            · simp only [Bool.and_eq_true] at hw
              refine ⟨_, h3, fun n0 Bx w B η ρv inv he => .of rfl (fun _ _ h => by simp [ex, ex0] at h) ?_⟩
              obtain ⟨xs, ys, e1, e2, e3⟩ := main n0 Bx w B η ρv inv he hw.1 hw.2
              refine .of_run (v := .bool (!(@decide (a = b) (decT d a b)))) ?_ (.c _ _)
              simp only [execOp, ho, e1, e2, Sem.run_bind, run_eqGuard_agg w _ t x y xs ys hg, Result.andThen_ok, run_neq_struct, e3]
              rfl
            · cases h3
          · cases h2
        · cases h2
      · cases h
    · cases h
  · cases h

/-! ### Pointers -/
def ptrT (P : Program) (t : TypeId) : Option TypeId := match P.underlying t with
  | some (.pointer e) => some e
  | _ => none
theorem ptrT_spec {t e : TypeId} (h : ptrT P t = some e) : P.underlying t = some (.pointer e) := by
  unfold ptrT at h
  split at h
  · rename_i hu; injection h with h; subst h; exact hu
  · cases h
/-- An interface's value against nil. -/
def niK (P : Program) (op : BinOp) (t : TypeId) (x y : V) (k : V → Tree R) : Tree R :=
  match x, y with
  | .nn, .c .nilIface => (match P.isIface t, op with
    | true, .eql => k (.c (.bool false))
    | true, .neq => k (.c (.bool true))
    | _, _ => .fail)
  | .c .nilIface, .c .nilIface => (match P.isIface t, op with
    | true, .eql => k (.c (.bool true))
    | true, .neq => k (.c (.bool false))
    | _, _ => .fail)
  | _, _ => .fail
theorem niK_ok {op : BinOp} {t t2 : TypeId} {x y : Operand} {k : V → Tree R} {res : R} (hp : Plain ρ o) (ho : o.op = .binOp op t x y t2) (hy0 : y = .const .nilIface) (h : (niK P op t (ρ x) (ρ y) k).run = some res) : ∃ r, (k r).run = some res ∧ Does P H ρ o r := by
  subst hy0
  have hinx : x ∈ o.op.operands := by simp [ho, Op.operands]
  have hiny : (.const .nilIface : Operand) ∈ o.op.operands := by simp [ho, Op.operands]
  unfold niK at h
  split at h
  · rename_i hx hy
    have key : ∀ (b : Bool), P.isIface t = true → ((op = .eql ∧ b = false) ∨ (op = .neq ∧ b = true)) → Does P H ρ o (.c (.bool b)) := fun b hu hb n0 Bx w B η ρv inv he => by
      refine .of rfl (fun _ _ h => by simp [ex, ex0] at h) ?_
      have h1 := he_of hp he x hinx
      have h2 := he_of hp he _ hiny
      rw [hx] at h1; rw [hy] at h2
      have h2 := Rel.ofC h2
      have h1' : ∃ tx vx, ρv x = .iface tx vx := by generalize ρv x = v at h1; cases h1; exact ⟨_, _, rfl⟩
      obtain ⟨tx, vx, h1'⟩ := h1'
      refine .of_run (v := .bool b) ?_ (.c _ _)
      rcases hb with ⟨rfl, rfl⟩ | ⟨rfl, rfl⟩
      · simp [execOp, ho, h1', h2, Sem.run_bind, eqGuard, run_eql_iface_nil w t hu]
      · simp [execOp, ho, h1', h2, Sem.run_bind, eqGuard, run_neq_iface_nil w t hu]
    split at h
    · rename_i hu; exact ⟨_, h, key _ hu (.inl ⟨rfl, rfl⟩)⟩
    · rename_i hu; exact ⟨_, h, key _ hu (.inr ⟨rfl, rfl⟩)⟩
    · cases h
  · rename_i hx hy
    have key : ∀ (b : Bool), P.isIface t = true → ((op = .eql ∧ b = true) ∨ (op = .neq ∧ b = false)) → Does P H ρ o (.c (.bool b)) := fun b hu hb n0 Bx w B η ρv inv he => by
      refine .of rfl (fun _ _ h => by simp [ex, ex0] at h) ?_
      have h1 := he_of hp he x hinx
      have h2 := he_of hp he _ hiny
      rw [hx] at h1; rw [hy] at h2
      have h1 := Rel.ofC h1
      have h2 := Rel.ofC h2
      refine .of_run (v := .bool b) ?_ (.c _ _)
      rcases hb with ⟨rfl, rfl⟩ | ⟨rfl, rfl⟩
      · simp [execOp, ho, h1, h2, Sem.run_bind, eqGuard_nil_constR, run_eql_nil_nil_at w t hu]
      · simp [execOp, ho, h1, h2, Sem.run_bind, eqGuard_nil_constR, run_neq_nil_nil_at w t hu]
    split at h
    · rename_i hu; exact ⟨_, h, key _ hu (.inl ⟨rfl, rfl⟩)⟩
    · rename_i hu; exact ⟨_, h, key _ hu (.inr ⟨rfl, rfl⟩)⟩
    · cases h
  · cases h
/-- Whether a pointer is none, and texts. -/
def binK2 (P : Program) (op : BinOp) (t : TypeId) (x y : V) (k : V → Tree R) : Tree R :=
  match x, y with
  | .box _ _, .c (.pointer none) => (match ptrT P t, op with
    | some _, .eql => k (.c (.bool false))
    | some _, .neq => k (.c (.bool true))
    | _, _ => .fail)
  | .c (.pointer none), .c (.pointer none) => (match ptrT P t, op with
    | some _, .eql => k (.c (.bool true))
    | some _, .neq => k (.c (.bool false))
    | _, _ => .fail)
  | .str a, .str b => (match op with
    | .add => .ite (decide (a.length + b.length ≤ maxLen)) (k (.str (a ++ b))) .fail
    | _ => .fail)
  | .c (.string a), .str b => (match op with
    | .add => .ite (decide (a.data.toList.length + b.length ≤ maxLen)) (k (.str (a.data.toList ++ b))) .fail
    | _ => .fail)
  | .str a, .c (.string b) => (match op with
    | .add => .ite (decide (a.length + b.data.toList.length ≤ maxLen)) (k (.str (a ++ b.data.toList))) .fail
    | _ => .fail)
  | x, y => aggEqK P op t x y k
theorem cat_ok {n0 : Nat} {w : World} {B : List Nat} {η : List Value} {ρv : Operand → Value} {t t' : TypeId} {x y : Operand} {a b : List UInt8} (ho : o.op = .binOp .add t x y t') (h1 : ρv x = .string ⟨a.toArray⟩) (h2 : ρv y = .string ⟨b.toArray⟩) (hb : a.length + b.length ≤ maxLen) : OpOK P n0 w ρv o B η (.c (.string ⟨(a ++ b).toArray⟩)) := by
  have hs1 : (ByteArray.mk a.toArray).size = a.length := by show a.toArray.size = _; simp
  have hs2 : (ByteArray.mk b.toArray).size = b.length := by show b.toArray.size = _; simp
  have hcat : (ByteArray.mk a.toArray) ++ (ByteArray.mk b.toArray) = ⟨(a ++ b).toArray⟩ := by
    apply ByteArray.ext
    rw [ByteArray.data_append]
    apply Array.ext'
    simp
  have hlim : ¬ (((a.length + b.length : Nat) : Int) > IntKind.i64.max) := by
    have : (maxLen : Int) ≤ IntKind.i64.max := by decide
    omega
  refine .of_run (v := .string ⟨(a ++ b).toArray⟩) ?_ (.c _ _)
  simp only [execOp, ho, h1, h2, Sem.run_bind]
  simp only [eqGuard, binOp, Op.stringOp, hs1, hs2, hcat]
  rw [if_neg hlim]
  rfl
theorem binK2_ok {op : BinOp} {t t2 : TypeId} {x y : Operand} {k : V → Tree R} {res : R} (hp : Plain ρ o) (ho : o.op = .binOp op t x y t2) (h : (binK2 P op t (ρ x) (ρ y) k).run = some res) : ∃ r, (k r).run = some res ∧ Does P H ρ o r := by
  have hinx : x ∈ o.op.operands := by simp [ho, Op.operands]
  have hiny : y ∈ o.op.operands := by simp [ho, Op.operands]
  unfold binK2 at h
  split at h
  · rename_i id off hx hy
    have key : ∀ (b : Bool) (e : TypeId), P.underlying t = some (.pointer e) → ((op = .eql ∧ b = false) ∨ (op = .neq ∧ b = true)) → Does P H ρ o (.c (.bool b)) := fun b e hu hb n0 Bx w B η ρv inv he => by
      refine .of rfl (fun _ _ h => by simp [ex, ex0] at h) ?_
      have h1 := he_of hp he x hinx
      have h2 := he_of hp he y hiny
      rw [hx] at h1; rw [hy] at h2
      have h2 := Rel.ofC h2
      have h1' : ∃ q, ρv x = .pointer (some q) := by generalize ρv x = v at h1; cases h1; exact ⟨_, rfl⟩
      obtain ⟨q, h1'⟩ := h1'
      have hu' : P.underlying t = some (.pointer (P.pointee t)) := by simp [Program.pointee, hu]
      refine .of_run (v := .bool b) ?_ (.c _ _)
      rcases hb with ⟨rfl, rfl⟩ | ⟨rfl, rfl⟩
      · simp [execOp, ho, h1', h2, Sem.run_bind, eqGuard, run_eql_pointer_nil w t (some q) hu']
      · simp [execOp, ho, h1', h2, Sem.run_bind, eqGuard, run_neq_pointer_nil w t (some q) hu']
    split at h
    · rename_i e he; exact ⟨_, h, key _ _ (ptrT_spec he) (.inl ⟨rfl, rfl⟩)⟩
    · rename_i e he; exact ⟨_, h, key _ _ (ptrT_spec he) (.inr ⟨rfl, rfl⟩)⟩
    · cases h
  · rename_i hx hy
    have key : ∀ (b : Bool) (e : TypeId), P.underlying t = some (.pointer e) → ((op = .eql ∧ b = true) ∨ (op = .neq ∧ b = false)) → Does P H ρ o (.c (.bool b)) := fun b e hu hb n0 Bx w B η ρv inv he => by
      refine .of rfl (fun _ _ h => by simp [ex, ex0] at h) ?_
      have h1 := he_of hp he x hinx
      have h2 := he_of hp he y hiny
      rw [hx] at h1; rw [hy] at h2
      have h1 := Rel.ofC h1
      have h2 := Rel.ofC h2
      have hu' : P.underlying t = some (.pointer (P.pointee t)) := by simp [Program.pointee, hu]
      refine .of_run (v := .bool b) ?_ (.c _ _)
      rcases hb with ⟨rfl, rfl⟩ | ⟨rfl, rfl⟩
      · simp [execOp, ho, h1, h2, Sem.run_bind, eqGuard, run_eql_pointer_nil w t none hu']
      · simp [execOp, ho, h1, h2, Sem.run_bind, eqGuard, run_neq_pointer_nil w t none hu']
    split at h
    · rename_i e he; exact ⟨_, h, key _ _ (ptrT_spec he) (.inl ⟨rfl, rfl⟩)⟩
    · rename_i e he; exact ⟨_, h, key _ _ (ptrT_spec he) (.inr ⟨rfl, rfl⟩)⟩
    · cases h
  · rename_i a b hx hy
    split at h
    · rcases Tree.run_ite h with ⟨hb, h⟩ | ⟨_, h⟩
      · have hb := of_decide_eq_true hb
        refine ⟨_, h, fun n0 Bx w B η ρv inv he => .of rfl (fun _ _ h => by simp [ex, ex0] at h) ?_⟩
        have h1 := he_of hp he x hinx
        have h2 := he_of hp he y hiny
        rw [hx] at h1; rw [hy] at h2
        exact cat_ok ho (Rel.ofC h1) (Rel.ofC h2) hb
      · cases h
    · cases h
  · rename_i a b hx hy
    split at h
    · rcases Tree.run_ite h with ⟨hb, h⟩ | ⟨_, h⟩
      · have hb := of_decide_eq_true hb
        refine ⟨_, h, fun n0 Bx w B η ρv inv he => .of rfl (fun _ _ h => by simp [ex, ex0] at h) ?_⟩
        have h1 := he_of hp he x hinx
        have h2 := he_of hp he y hiny
        rw [hx] at h1; rw [hy] at h2
        exact cat_ok ho (by rw [Rel.ofC h1]) (Rel.ofC h2) hb
      · cases h
    · cases h
  · rename_i a b hx hy
    split at h
    · rcases Tree.run_ite h with ⟨hb, h⟩ | ⟨_, h⟩
      · have hb := of_decide_eq_true hb
        refine ⟨_, h, fun n0 Bx w B η ρv inv he => .of rfl (fun _ _ h => by simp [ex, ex0] at h) ?_⟩
        have h1 := he_of hp he x hinx
        have h2 := he_of hp he y hiny
        rw [hx] at h1; rw [hy] at h2
        exact cat_ok ho (Rel.ofC h1) (by rw [Rel.ofC h2]) hb
      · cases h
    · cases h
  · exact aggEqK_ok hp ho h

/-! ### Parts of arrays and texts -/
theorem slice_arr_ok {n0 : Nat} {w : World} {B : List Nat} {η : List Value} {ρv : Operand → Value} {ρA : Operand → AV} (he : ∀ x ∈ o.op.operands, Rel w B η (ρA x) (ρv x)) {t e : TypeId} {x : Operand} {lo hi : Option Operand} {l : List AV} {m k a b : Nat} (ho : o.op = .slice t x lo hi none) (hu : P.underlying t = some (.array m e)) (hx : ρA x = .adr l) (hm : m ≤ maxLen)
    (hk : k = P.cellsOf e) (hk1 : 1 ≤ k) (hml : m * k ≤ l.length) (hlo : boundA ρA 0 lo = some a) (hhi : boundA ρA m hi = some b) (hab : a ≤ b) (hb : b ≤ m) : OpOK P n0 w ρv o B η (.sl ((l.drop (a * k)).take ((b - a) * k)) k) := by
  have hel : ∀ y, lo = some y → Rel w B η (ρA y) (ρv y) := fun y h => he y (by simp [ho, Op.operands, h])
  have heh : ∀ y, hi = some y → Rel w B η (ρA y) (ρv y) := fun y h => he y (by simp [ho, Op.operands, h])
  have h1 := he x (by simp [ho, Op.operands])
  rw [hx] at h1
  have h1' : ∃ ad us, ρv x = .pointer (some ad) ∧ At w B ad l.length us ∧ ∀ i y, l[i]? = some y → Rel w B [] y (us i) := by
    generalize ρv x = v at h1
    cases h1 with
    | adr _ _ ad us ha hr => exact ⟨ad, us, rfl, ha, hr⟩
  obtain ⟨ad, us, hv, hat, hr⟩ := h1'
  obtain ⟨ii, hii, hs⟩ := cells_info (t := e) (P := P) (by omega)
  refine .of_run (v := .slice (some (if m = a then ad else ad.add (a * k))) (b - a) (m - a)) ?_ ?_
  · have hbounds : (Instr.sliceBounds false m m (lo.map ρv) (hi.map ρv) none).run P w = .ok (a, b, m) w := by
      have hb' : ∀ z : Int, b = z.toNat → 0 ≤ z → z ≤ (m : Int) := by omega
      have ha' : ∀ z : Int, a = z.toNat → 0 ≤ z → z ≤ (b : Int) := by omega
      rcases boundA_spec hel hlo with ⟨rfl, rfl⟩ | ⟨y, kk, z, rfl, hy, hz, hza⟩
      · rcases boundA_spec heh hhi with ⟨rfl, rfl⟩ | ⟨y2, kk2, z2, rfl, hy2, hz2, hzb⟩
        · simp [Instr.sliceBounds, Sem.run_bind]
        · subst hzb
          simp [Instr.sliceBounds, Sem.run_bind, hy2, run_sliceBound (P := P) ⟨hz2, hb' _ rfl hz2⟩]
      · subst hza
        rcases boundA_spec heh hhi with ⟨rfl, rfl⟩ | ⟨y2, kk2, z2, rfl, hy2, hz2, hzb⟩
        · simp [Instr.sliceBounds, Sem.run_bind, hy, run_sliceBound (P := P) ⟨hz, ha' _ rfl hz⟩]
        · subst hzb
          simp [Instr.sliceBounds, Sem.run_bind, hy, hy2, run_sliceBound (P := P) ⟨hz2, hb' _ rfl hz2⟩, run_sliceBound (P := P) ⟨hz, ha' _ rfl hz⟩]
    simp [execOp, ho, Instr.sliceAt, Instr.sureAddr, Sem.run_bind, run_underlying hu, hv, hbounds, run_sizeOf hii, hs, hk]
  · have hlen : ((l.drop (a * k)).take ((b - a) * k)).length = (b - a) * k := by
      rw [List.length_take, List.length_drop]
      refine Nat.min_eq_left ?_
      have : (b - a) * k + a * k ≤ l.length := by rw [← Nat.add_mul]; exact Nat.le_trans (Nat.mul_le_mul_right k (by omega)) hml
      omega
    refine .sl _ _ _ _ _ _ (fun i => us (a * k + i)) hk1 hlen.symm (by omega) (by omega) (fun h0 => ?_) (fun i y hy => ?_)
    · rw [if_neg (by omega)]
      refine ⟨_, rfl, ?_⟩
      have := hat.shift (a * k)
      exact ⟨this.spot, this.lt, this.out, fun i hi => this.cell i (by
        rw [hlen] at hi
        have : (b - a) * k + a * k ≤ l.length := by rw [← Nat.add_mul]; exact Nat.le_trans (Nat.mul_le_mul_right k (by omega)) hml
        omega)⟩
    · rw [List.getElem?_take] at hy
      split at hy
      · rw [List.getElem?_drop] at hy; exact hr _ y hy
      · cases hy
def sliceArrK (P : Program) (ρ : Operand → V) (m : Nat) (e : TypeId) (x : V) (lo hi : Option Operand) (k : V → Tree R) : Tree R :=
  match x with
  | .adr (.arr d n a :: _) => if n = m ∧ wd d = P.cellsOf e ∧ 1 ≤ wd d ∧ m ≤ maxLen then (match lo, hi with
      | none, none => k (.lst d a.l)
      | some lo, none => intK (ρ lo) fun z => .bind (dropI a.l z) fun s => k (.lst d s)
      | none, some hi => intK (ρ hi) fun z => .bind (takeI a.l z) fun s => k (.lst d s)
      | some lo, some hi => intK (ρ lo) fun z => intK (ρ hi) fun z2 => .bind (subI a.l z z2) fun s => k (.lst d s)) else .fail
  | .box id 0 => (match lo, hi with
      | none, none => if 1 ≤ P.cellsOf e then k (.bsl id m) else .fail
      | _, _ => .fail)
  | _ => .fail
/-- A whole array of a box. -/
theorem sliceBox_ok {t e : TypeId} {m id : Nat} {x : Operand} (hp : Plain ρ o) (ho : o.op = .slice t x none none none) (hu : P.underlying t = some (.array m e)) (hx : ρ x = .box id 0) (hc : 1 ≤ P.cellsOf e) (H : List E2) : Does P H ρ o (.bsl id m) := by
  intro n0 Bx w B η ρv inv he N hN
  have hx0 := he_of hp he x (by simp [ho, Op.operands])
  rw [hx] at hx0
  have hx0 : Rel w B η (.box id 0) (ρv x) := hx0
  have hx1 : ∃ b, ρv x = .pointer (some ⟨b, 0, none⟩) ∧ η[id]? = some (.pointer (some ⟨b, 0, none⟩)) := by
    generalize ρv x = v at hx0
    cases hx0 with
    | box _ _ _ b hid => exact ⟨b, rfl, hid⟩
  obtain ⟨b, hv, hid⟩ := hx1
  obtain ⟨ii, hii, hs⟩ := cells_info (t := e) (P := P) (by omega)
  have hbounds : (Instr.sliceBounds false m m none none none).run P w = .ok (0, m, m) w := by simp [Instr.sliceBounds, Sem.run_bind]
  have hadd : (⟨b, 0, none⟩ : Addr).add 0 = ⟨b, 0, none⟩ := by rw [Addr.add_mid]
  unfold Oper.val
  have hrun : (execOp ρv o).run P w = .ok (.value (.slice (some ⟨b, 0, none⟩) m m)) w := by
    simp [execOp, ho, Instr.sliceAt, Instr.sureAddr, Sem.run_bind, run_underlying hu, hv, hbounds, run_sizeOf hii, hs, hadd]
  rw [hrun]
  exact hN _ _ (Gk.refl _ _ w) ⟨b, hid, rfl⟩ (fun h => by cases h)
theorem sliceArrK_ok {t e : TypeId} {m : Nat} {x : Operand} {lo hi : Option Operand} {k : V → Tree R} {res : R} (hp : Plain ρ o) (ho : o.op = .slice t x lo hi none) (hu : P.underlying t = some (.array m e)) (h : (sliceArrK P ρ m e (ρ x) lo hi k).run = some res) : ∃ r, (k r).run = some res ∧ Does P H ρ o r := by
  unfold sliceArrK at h
  split at h
  · rename_i d n arr rest hx
    split at h
    · rename_i hc
      obtain ⟨rfl, hwd, hw1, hm⟩ := hc
      have hal := arr.h
      have key : ∀ (a b : Nat), boundA (fun y => ex (ρ y)) 0 lo = some a → boundA (fun y => ex (ρ y)) n hi = some b → a ≤ b → b ≤ n → Does P H ρ o (.lst d ((arr.l.drop a).take (b - a))) := fun a b ha hb hab hbl n0 Bx w B η ρv inv he => by
        refine .of rfl (fun _ _ h => by simp [ex, ex0] at h) ?_
        have hfl : (flat d arr.l).length = n * wd d := by rw [flat_length, hal]
        have := slice_arr_ok (P := P) (ρA := fun y => ex (ρ y)) (n0 := n0) (he_of hp he) ho hu (l := flat d arr.l ++ segsA rest) (by rw [hx]; simp [ex, ex0, segsA_cons, segA]) hm hwd hw1 (by rw [List.length_append, hfl]; omega) ha hb hab hbl
        rw [List.drop_append_of_le_length (by rw [hfl]; exact Nat.mul_le_mul_right _ (by omega)), List.take_append_of_le_length (by rw [List.length_drop, hfl, ← Nat.sub_mul]; exact Nat.mul_le_mul_right _ (by omega))] at this
        simp only [ex, ex0, flat_take, flat_drop]
        exact this
      have exi : ∀ (y : Operand) kk z, ρ y = .c (.int kk z) → ex (ρ y) = .c (.int kk z) := fun y kk z h => by rw [h]; rfl
      split at h
      · have := key 0 n rfl rfl (Nat.zero_le _) (Nat.le_refl _)
        rw [List.drop_zero, Nat.sub_zero, List.take_of_length_le (by rw [hal]; exact Nat.le_refl _)] at this
        exact ⟨_, h, this⟩
      · obtain ⟨kk, z, hz, h⟩ := intK_run h
        obtain ⟨s, hs, h⟩ := Tree.run_bind h
        unfold dropI at hs
        split at hs
        · rename_i hc
          injection hs with hs; subst hs
          have := key z.toNat n (by simp [boundA, exi _ _ _ hz, hc.1]) rfl (by omega) (Nat.le_refl _)
          rw [List.take_of_length_le (by rw [List.length_drop, hal]; exact Nat.le_refl _)] at this
          exact ⟨_, h, this⟩
        · cases hs
      · obtain ⟨kk, z, hz, h⟩ := intK_run h
        obtain ⟨s, hs, h⟩ := Tree.run_bind h
        unfold takeI at hs
        split at hs
        · rename_i hc
          injection hs with hs; subst hs
          have := key 0 z.toNat rfl (by simp [boundA, exi _ _ _ hz, hc.1]) (Nat.zero_le _) (by omega)
          rw [List.drop_zero, Nat.sub_zero] at this
          exact ⟨_, h, this⟩
        · cases hs
      · obtain ⟨kk, z, hz, h⟩ := intK_run h
        obtain ⟨kk2, z2, hz2, h⟩ := intK_run h
        obtain ⟨s, hs, h⟩ := Tree.run_bind h
        unfold subI at hs
        split at hs
        · rename_i hc
          injection hs with hs; subst hs
          exact ⟨_, h, key z.toNat z2.toNat (by simp [boundA, exi _ _ _ hz, hc.1]) (by simp [boundA, exi _ _ _ hz2]; omega) (by omega) (by omega)⟩
        · cases hs
    · cases h
  · rename_i id hx
    split at h
    · split at h
      · rename_i hc
        exact ⟨_, h, sliceBox_ok hp ho hu hx hc _⟩
      · cases h
    · cases h
  · cases h
def strSliceK (ρ : Operand → V) (s : List UInt8) (lo hi : Option Operand) (k : V → Tree R) : Tree R :=
  match lo, hi with
  | none, none => k (.str s)
  | some lo, none => intK (ρ lo) fun z => .bind (dropI s z) fun s => k (.str s)
  | none, some hi => intK (ρ hi) fun z => .bind (takeI s z) fun s => k (.str s)
  | some lo, some hi => intK (ρ lo) fun z => intK (ρ hi) fun z2 => .bind (subI s z z2) fun s => k (.str s)
theorem strSlice_ok {n0 : Nat} {w : World} {B : List Nat} {η : List Value} {ρv : Operand → Value} {ρA : Operand → AV} (he : ∀ x ∈ o.op.operands, Rel w B η (ρA x) (ρv x)) {t : TypeId} {x : Operand} {lo hi : Option Operand} {s : List UInt8} {a b : Nat} (ho : o.op = .slice t x lo hi none) (hu : P.underlying t = some .string) (hx : ρA x = .c (.string ⟨s.toArray⟩))
    (hlo : boundA ρA 0 lo = some a) (hhi : boundA ρA s.length hi = some b) (hab : a ≤ b) (hb : b ≤ s.length) : OpOK P n0 w ρv o B η (.c (.string ⟨((s.drop a).take (b - a)).toArray⟩)) := by
  have hel : ∀ y, lo = some y → Rel w B η (ρA y) (ρv y) := fun y h => he y (by simp [ho, Op.operands, h])
  have heh : ∀ y, hi = some y → Rel w B η (ρA y) (ρv y) := fun y h => he y (by simp [ho, Op.operands, h])
  have h1 := he x (by simp [ho, Op.operands])
  rw [hx] at h1
  have hv := Rel.ofC h1
  have hsz : (ByteArray.mk s.toArray).size = s.length := by show s.toArray.size = _; simp
  have hext : (ByteArray.mk s.toArray).extract a b = ⟨((s.drop a).take (b - a)).toArray⟩ := by
    apply ByteArray.ext
    rw [ByteArray.data_extract]
    apply Array.ext'
    simp [List.extract]
  refine .of_run (v := .string ⟨((s.drop a).take (b - a)).toArray⟩) ?_ (.c _ _)
  have hbounds : (Instr.sliceBounds false s.length s.length (lo.map ρv) (hi.map ρv) none).run P w = .ok (a, b, s.length) w := by
    have hb' : ∀ z : Int, b = z.toNat → 0 ≤ z → z ≤ (s.length : Int) := by omega
    have ha' : ∀ z : Int, a = z.toNat → 0 ≤ z → z ≤ (b : Int) := by omega
    rcases boundA_spec hel hlo with ⟨rfl, rfl⟩ | ⟨y, kk, z, rfl, hy, hz, hza⟩
    · rcases boundA_spec heh hhi with ⟨rfl, rfl⟩ | ⟨y2, kk2, z2, rfl, hy2, hz2, hzb⟩
      · simp [Instr.sliceBounds, Sem.run_bind]
      · subst hzb
        simp [Instr.sliceBounds, Sem.run_bind, hy2, run_sliceBound (P := P) ⟨hz2, hb' _ rfl hz2⟩]
    · subst hza
      rcases boundA_spec heh hhi with ⟨rfl, rfl⟩ | ⟨y2, kk2, z2, rfl, hy2, hz2, hzb⟩
      · simp [Instr.sliceBounds, Sem.run_bind, hy, run_sliceBound (P := P) ⟨hz, ha' _ rfl hz⟩]
      · subst hzb
        simp [Instr.sliceBounds, Sem.run_bind, hy, hy2, run_sliceBound (P := P) ⟨hz2, hb' _ rfl hz2⟩, run_sliceBound (P := P) ⟨hz, ha' _ rfl hz⟩]
  simp [execOp, ho, Instr.sliceAt, Instr.slice, Sem.run_bind, run_underlying hu, hv, hsz, hbounds, hext]
theorem strSliceK_ok {t : TypeId} {x : Operand} {lo hi : Option Operand} {s : List UInt8} {k : V → Tree R} {res : R} (hp : Plain ρ o) (ho : o.op = .slice t x lo hi none) (hu : P.underlying t = some .string) (hx : ρ x = .str s) (h : (strSliceK ρ s lo hi k).run = some res) : ∃ r, (k r).run = some res ∧ Does P H ρ o r := by
  have key : ∀ (a b : Nat), boundA (fun y => ex (ρ y)) 0 lo = some a → boundA (fun y => ex (ρ y)) s.length hi = some b → a ≤ b → b ≤ s.length → Does P H ρ o (.str ((s.drop a).take (b - a))) := fun a b ha hb hab hbl n0 Bx w B η ρv inv he => by
    refine .of rfl (fun _ _ h => by simp [ex, ex0] at h) ?_
    exact strSlice_ok (P := P) (ρA := fun y => ex (ρ y)) (n0 := n0) (he_of hp he) ho hu (by rw [hx]; rfl) ha hb hab hbl
  have exi : ∀ (y : Operand) kk z, ρ y = .c (.int kk z) → ex (ρ y) = .c (.int kk z) := fun y kk z h => by rw [h]; rfl
  unfold strSliceK at h
  split at h
  · have := key 0 s.length rfl rfl (Nat.zero_le _) (Nat.le_refl _)
    simp only [List.drop_zero, Nat.sub_zero, List.take_length] at this
    exact ⟨_, h, this⟩
  · obtain ⟨kk, z, hz, h⟩ := intK_run h
    obtain ⟨s', hs, h⟩ := Tree.run_bind h
    unfold dropI at hs
    split at hs
    · rename_i hc
      injection hs with hs; subst hs
      have := key z.toNat s.length (by simp [boundA, exi _ _ _ hz, hc.1]) rfl (by omega) (Nat.le_refl _)
      rw [List.take_of_length_le (by rw [List.length_drop]; exact Nat.le_refl _)] at this
      exact ⟨_, h, this⟩
    · cases hs
  · obtain ⟨kk, z, hz, h⟩ := intK_run h
    obtain ⟨s', hs, h⟩ := Tree.run_bind h
    unfold takeI at hs
    split at hs
    · rename_i hc
      injection hs with hs; subst hs
      have := key 0 z.toNat rfl (by simp [boundA, exi _ _ _ hz, hc.1]) (Nat.zero_le _) (by omega)
      rw [List.drop_zero, Nat.sub_zero] at this
      exact ⟨_, h, this⟩
    · cases hs
  · obtain ⟨kk, z, hz, h⟩ := intK_run h
    obtain ⟨kk2, z2, hz2, h⟩ := intK_run h
    obtain ⟨s', hs, h⟩ := Tree.run_bind h
    unfold subI at hs
    split at hs
    · rename_i hc
      injection hs with hs; subst hs
      exact ⟨_, h, key z.toNat z2.toNat (by simp [boundA, exi _ _ _ hz, hc.1]) (by simp [boundA, exi _ _ _ hz2]; omega) (by omega) (by omega)⟩
    · cases hs
/-- An array out of a slice. -/
def toArr {α : Type} (n : Nat) (l : List α) : Option (Arr α n) := if h : n ≤ l.length then some ⟨l.take n, by rw [List.length_take]; omega⟩ else none
def arrPtrK (P : Program) (t : TypeId) (x : V) (k : V → Tree R) : Tree R :=
  match arrT P t with
  | some (m, e) => (match viewL P e x with
    | some ⟨d, l⟩ => if wd d = P.cellsOf e ∧ 1 ≤ wd d ∧ 1 ≤ m then .bind (toArr m l) fun a => k (.adr [.arr d m a]) else .fail
    | none => .fail)
  | none => .fail
theorem arrPtrK_ok {t : TypeId} {x : Operand} {k : V → Tree R} {res : R} (hp : Plain ρ o) (ho : o.op = .sliceToArrayPointer t x) (h : (arrPtrK P t (ρ x) k).run = some res) : ∃ r, (k r).run = some res ∧ Does P H ρ o r := by
  unfold arrPtrK at h
  split at h
  · rename_i m e hat
    split at h
    · rename_i d l hv
      split at h
      · rename_i hc
        obtain ⟨hwd, hw1, hm1⟩ := hc
        obtain ⟨a, ha, h⟩ := Tree.run_bind h
        unfold toArr at ha
        split at ha
        · rename_i hml
          injection ha with ha; subst ha
          refine ⟨_, h, fun n0 Bx w B η ρv inv he => .of rfl (fun _ _ h => by simp [ex, ex0] at h) ?_⟩
          have h1 := viewL_ok hv (he_of hp he x (by simp [ho, Op.operands]))
          obtain ⟨A, n, c, us, hvv, hk1, hn, hc, hm, hA, hr⟩ := h1.slL
          have hn' : n = l.length := by
            rw [flat_length] at hn
            exact Nat.eq_of_mul_eq_mul_right (by omega) hn
          subst hn'
          obtain ⟨ad, rfl, hat'⟩ := hA (by omega)
          refine .of_run (v := .pointer (some ad)) ?_ ?_
          · simp [execOp, ho, Instr.arrayAt, Sem.run_bind, run_underlying (arrT_spec hat), hvv]
            intro hlt; omega
          · have hlen : (flat d (l.take m)).length = m * wd d := by rw [flat_length, List.length_take, Nat.min_eq_left hml]
            have e1 : ex (.adr [.arr d m ⟨l.take m, by rw [List.length_take]; omega⟩]) = .adr (flat d (l.take m)) := by simp [ex, ex0, segsA, segA]
            rw [e1]
            refine .adr _ _ ad us ⟨hat'.spot, hat'.lt, hat'.out, fun i hi => hat'.cell i ?_⟩ (fun i y hy => hr i y ?_)
            · rw [hlen] at hi
              rw [flat_length]
              exact Nat.lt_of_lt_of_le hi (Nat.mul_le_mul_right _ hml)
            · rw [flat_take, List.getElem?_take] at hy
              split at hy
              · exact hy
              · cases hy
        · cases ha
      · cases h
    · cases h
  · cases h
/-- A byte of a text. -/
def strIndexK (s : List UInt8) (i : V) (k : V → Tree R) : Tree R := intK i fun z => .bind (getI s z) fun b => k (.c (.int .u8 b.toNat))
theorem strIndexK_ok {t : TypeId} {x i : Operand} {s : List UInt8} {k : V → Tree R} {res : R} (hp : Plain ρ o) (ho : o.op = .index t x i) (hu : P.underlying t = some .string) (hx : ρ x = .str s) (h : (strIndexK s (ρ i) k).run = some res) : ∃ r, (k r).run = some res ∧ Does P H ρ o r := by
  unfold strIndexK at h
  obtain ⟨kk, z, hz, h⟩ := intK_run h
  obtain ⟨b, hb, h⟩ := Tree.run_bind h
  obtain ⟨g0, g1, g2⟩ := getI_eq hb
  refine ⟨_, h, fun n0 Bx w B η ρv inv he => .of rfl (fun _ _ h => by simp [ex, ex0] at h) ?_⟩
  have h1 := he_of hp he x (by simp [ho, Op.operands])
  have h2 := he_of hp he i (by simp [ho, Op.operands])
  rw [hx] at h1; rw [hz] at h2
  have h1 := Rel.ofC h1
  have h2 := Rel.ofC h2
  refine .of_run (v := .int .u8 b.toNat) ?_ (.c _ _)
  have hget : (ByteArray.mk s.toArray)[z.toNat]? = some b := by
    show (if h : z.toNat < (ByteArray.mk s.toArray).size then some ((ByteArray.mk s.toArray)[z.toNat]) else none) = some b
    have hsz : (ByteArray.mk s.toArray).size = s.length := by show s.toArray.size = _; simp
    rw [dif_pos (by rw [hsz]; exact g2)]
    have : (ByteArray.mk s.toArray)[z.toNat]'(by rw [hsz]; exact g2) = s[z.toNat] := by
      show s.toArray[z.toNat] = _
      simp
    rw [this]
    rw [List.getElem?_eq_getElem g2] at g1
    exact g1
  simp [execOp, ho, Instr.index, asIntOf, Sem.run_bind, run_underlying hu, h1, h2, g0, hget]
end
def rowI (P : Program) (e : TypeId) : Option (Nat × Nat) := match P.info? e with
  | some i => (match i.zero with
    | some z => if z.cells.size = i.size ∧ 1 ≤ i.size then some (i.size, i.bytes) else none
    | none => none)
  | none => none
theorem rowI_spec {P : Program} {e k b : Nat} (h : rowI P e = some (k, b)) : ∃ i z, P.info? e = some i ∧ i.zero = some z ∧ i.size = k ∧ i.bytes = b ∧ z.cells.size = k ∧ 1 ≤ k := by
  unfold rowI at h
  split at h
  · rename_i i hi
    split at h
    · rename_i z hz
      split at h
      · rename_i hc
        injection h with h; injection h with h1 h2; subst h1 h2
        exact ⟨i, z, hi, hz, rfl, rfl, hc.1, hc.2⟩
      · cases h
    · cases h
  · cases h
section
variable {P : Program} {H : List E2} {ρ : Operand → V} {o : Oper} {R : Type}
/-- A slice that is made, and that nobody writes. -/
def makeImmK (P : Program) (t : TypeId) (a b : V) (k : V → Tree R) : Tree R :=
  match sliT P t with
  | some (e, w, z) => (match rowI P e, tdOf P 12 e with
    | some (_, by_), some d => if wd d = w ∧ 1 ≤ w then intK a fun l => intK b fun c => .ite (decide (0 ≤ l ∧ l ≤ c ∧ c.toNat ≤ maxLen ∧ c.toNat * by_ ≤ 140737488355328))
        (decK d (z.map constV) fun zd r => if wL r = 0 then k (.lst d (List.replicate l.toNat zd)) else .fail) .fail else .fail
    | _, _ => .fail)
  | none => .fail
theorem wk_rep {d : Td} {z : List Value} {zd : T d} (h : Wk (z.map .c) (cells d zd)) : ∀ n, Wk ((repL n z).map .c) (flat d (List.replicate n zd))
  | 0 => Wk.refl _
  | n + 1 => by
    have e1 : repL (n + 1) z = z ++ repL n z := by simp [repL, List.replicate_succ]
    rw [e1, List.map_append, List.replicate_succ, flat_cons]
    exact h.app (wk_rep h n)
theorem rel_sl_wk {w : World} {B : List Nat} {η : List Value} {l m : List AV} {k : Nat} {v : Value} (hw : Wk l m) (h : Rel w B η (.sl l k) v) : Rel w B η (.sl m k) v := by
  cases h with
  | sl _ _ _ A n c us hk hn hc hm hA hr =>
    have hl : RelL w B [] l ((List.range l.length).map us) := ⟨by simp, fun i y hy => ⟨us i, by simp [(List.getElem?_eq_some_iff.1 hy).1], hr i y hy⟩⟩
    have hm' := hw w B [] _ hl
    have hlen : m.length = l.length := by have := hm'.1; simpa using this.symm
    refine .sl _ _ _ A n c us hk (by rw [hlen]; exact hn) hc hm (fun h0 => by obtain ⟨ad, q1, q2⟩ := hA h0; exact ⟨ad, q1, by rw [hlen]; exact q2⟩) (fun i x hx => ?_)
    obtain ⟨u, q1, q2⟩ := hm'.2 i x hx
    have hi : i < l.length := by rw [← hlen]; exact (List.getElem?_eq_some_iff.1 hx).1
    simp [hi] at q1
    rw [q1]; exact q2
theorem makeImm_ok {n0 : Nat} {w : World} {B : List Nat} {η : List Value} {ρv : Operand → Value} {ρA : Operand → AV} (hlt : ∀ b ∈ B, b < w.heap.size) (he : ∀ x ∈ o.op.operands, Rel w B η (ρA x) (ρv x)) {t e k by_ : Nat} {z : List Value} {a b : Operand} {kl kc : IntKind} {l c : Int} {i : TypeInfo} (ho : o.op = .makeSlice t a b) (hs : sliT P t = some (e, k, z)) (hi : P.info? e = some i) (hby : i.bytes = by_)
    (ha : ρA a = .c (.int kl l)) (hb : ρA b = .c (.int kc c)) (h0 : 0 ≤ l) (hlc : l ≤ c) (hm : c.toNat ≤ maxLen) (hbytes : c.toNat * by_ ≤ 140737488355328) (hk1 : 1 ≤ k) :
    OpOK P n0 w ρv o B η (.sl ((repL l.toNat z).map .c) k) := by
  intro N hN
  have h1 := he a (by simp [ho, Op.operands])
  have h2 := he b (by simp [ho, Op.operands])
  rw [ha] at h1
  rw [hb] at h2
  have h1 := h1.ofC
  have h2 := h2.ofC
  obtain ⟨i', zv, hu, hi', hz, hsz, hzc, hzl, hk⟩ := sliT_spec hs
  rw [hi] at hi'
  injection hi' with hi'
  subst hi'
  have hb1 : (i.bytes : Int) * c ≤ 281474976710656 := by
    have h : ((c.toNat * by_ : Nat) : Int) ≤ 281474976710656 := by omega
    rw [Int.natCast_mul, Int.toNat_of_nonneg (by omega)] at h
    rw [hby, Int.mul_comm]; exact h
  have h63 : c ≤ 9223372036854775807 := by simp [maxLen] at hm; omega
  have hr := run_make (P := P) w t e i zv hu hi hz kl kc l c h0 hlc hb1 h63
  have hzs : zv.cells.size = k := by rw [← hzl, ← hzc]; simp
  have hcs : (madeCells zv.cells (c.toNat * i.size)).size = c.toNat * k := by rw [size_madeCells, hsz]
  have hlist : (madeCells zv.cells (c.toNat * i.size)).toList = repL c.toNat z := by rw [← hzc, hsz, ← hzs]; exact made_repL _ _ (by omega)
  generalize hcsq : madeCells zv.cells (c.toNat * i.size) = cs at hr hcs hlist
  have g : Gr w (w.alloc (.cells cs e)) := gr_alloc (Gr.refl w) _
  have hlcn : l.toNat ≤ c.toNat := by omega
  have htake : cs.toList.take (l.toNat * k) = repL l.toNat z := by
    rw [hlist]
    obtain ⟨m, hme⟩ : ∃ m, c.toNat = l.toNat + m := ⟨c.toNat - l.toNat, by omega⟩
    have e2 : ∀ x y : Nat, repL (x + y) z = repL x z ++ repL y z := fun x y => by unfold repL; rw [← List.flatten_append, List.replicate_append_replicate]
    rw [hme, e2, ← hzl, ← repL_length]
    exact List.take_left
  unfold Oper.val
  have hrun : (execOp ρv o).run P w = .ok (.value (.slice (some ⟨w.heap.size, 0, none⟩) l.toNat c.toNat)) (w.alloc (.cells cs e)) := by
    simp [execOp, ho, h1, h2, Sem.run_bind, hr]
  rw [hrun]
  have hlen : ((repL l.toNat z).map AV.c).length = l.toNat * k := by rw [List.length_map, repL_length, hzl]
  refine hN _ _ (.gr g) (.sl _ _ _ _ _ _ (fun i => cs.toList.getD i undef) hk1 hlen.symm hlcn hm (fun _ => ⟨_, rfl, rfl, by simp, fun hb => ?_, fun j hj => ?_⟩) (fun j x hx => ?_))
  · have := hlt _ hb; simp at this
  · have hj' : j < cs.toList.length := by
      rw [hlen] at hj
      rw [Array.length_toList, hcs]
      exact Nat.lt_of_lt_of_le hj (Nat.mul_le_mul_right k hlcn)
    rw [Addr.add_mid, Nat.zero_add, cell_of_row (w.alloc (.cells cs e)) w.heap.size j cs e (0, 0) (by show (w.heap.push _)[w.heap.size]? = _; simp)]
    rw [← Array.getElem?_toList, List.getElem?_eq_getElem hj', List.getD_eq_getElem?_getD, List.getElem?_eq_getElem hj', Option.getD_some]
  · rw [List.getElem?_map, Option.map_eq_some_iff] at hx
    obtain ⟨u, hu, rfl⟩ := hx
    have hj : j < l.toNat * k := by have := (List.getElem?_eq_some_iff.1 hu).1; rw [repL_length, hzl] at this; exact this
    have : cs.toList[j]? = some u := by rw [← htake, List.getElem?_take, if_pos hj] at hu; exact hu
    rw [List.getD_eq_getElem?_getD, this, Option.getD_some]
    exact .c _ _
theorem makeImmK_ok {t : TypeId} {a b : Operand} {k : V → Tree R} {res : R} (hp : Plain ρ o) (ho : o.op = .makeSlice t a b) (h : (makeImmK P t (ρ a) (ρ b) k).run = some res) : ∃ r, (k r).run = some res ∧ Does P H ρ o r := by
  unfold makeImmK at h
  split at h
  · rename_i e kw z hsl
    split at h
    · rename_i kw2 by_ d hrow htd
      obtain ⟨ti, zz, q1, q2, q3, q4, q5, q6⟩ := rowI_spec hrow
      split at h
      · rename_i hwd
        obtain ⟨kl, l, ha, h⟩ := intK_run h
        obtain ⟨kc, c, hb, h⟩ := intK_run h
        rcases Tree.run_ite h with ⟨hc, h⟩ | ⟨_, h⟩
        · obtain ⟨c1, c2, c3, c4⟩ := of_decide_eq_true hc
          obtain ⟨zd, rest, h1, h2⟩ := decK_ok d _ _ _ h
          split at h1
          · rename_i hrest
            have hr0 : segsA rest = [] := List.eq_nil_of_length_eq_zero (by rw [wL_eq]; exact hrest)
            rw [hr0, List.append_nil, segsA_const] at h2
            refine ⟨_, h1, fun n0 Bx w B η ρv inv he => .of rfl (fun _ _ h => by simp [ex, ex0] at h) ?_⟩
            have := makeImm_ok (P := P) (n0 := n0) (ρA := fun y => ex (ρ y)) inv.lt (he_of hp he) ho hsl q1 q4 (by simp only [ha]; rfl) (by simp only [hb]; rfl) c1 c2 c3 c4 hwd.2
            refine this.mono fun w' v hv => ?_
            have := rel_sl_wk (wk_rep h2 l.toNat) hv
            simp only [ex, ex0, hwd.1]
            exact this
          · cases h1
        · cases h
      · cases h
    · cases h
  · cases h
end
end Go.Proofs.YtfaocnboildjbaaDoor
/-
  Operations that write nothing, on typed values: numbers, texts, structs and slices that are built; and all of them.
-/
namespace Go.Proofs.YtfaocnboildjbaaDoor
set_option maxRecDepth 100000
open Go.RowKit
set_option linter.unusedVariables false
set_option linter.unusedSimpArgs false

/-- The bytes of numbers. -/
def toBy : List Int → Option (List UInt8)
  | [] => some []
  | n :: l => if 0 ≤ n ∧ n < 256 then (match toBy l with | some bs => some (UInt8.ofNat n.toNat :: bs) | none => none) else none
/-- The numbers of bytes. -/
def ofBy (s : List UInt8) : List Int := s.map fun b => (b.toNat : Int)
theorem toBy_eq : ∀ {l : List Int} {bs : List UInt8}, toBy l = some bs → toBs (flat (.int .u8) l) = some bs
  | [], bs, h => by simp only [toBy, Option.some.injEq] at h; subst h; rfl
  | n :: l, bs, h => by
    unfold toBy at h
    split at h
    · rename_i hc
      split at h
      · rename_i bs' hb
        injection h with h; subst h
        rw [flat_cons]
        simp only [cells, List.cons_append, List.nil_append, toBs, toB, hc, and_self, if_true, toBy_eq hb]
      · cases h
    · cases h
def lenK {R : Type} (P : Program) (H : List E2) (t : TypeId) (x : V) (k : V → Tree R) : Tree R :=
  match x with
  | .str s => if stringT P t = true then k (.c (.int .i64 s.length)) else .fail
  | .own id => (match elemT P t, H[id]? with
    | some _, some (.own d l _) => if 1 ≤ wd d then k (.c (.int .i64 l.length)) else .fail
    | _, _ => .fail)
  | x => (match elemT P t with
    | some e => (match viewL P e x with
      | some ⟨d, l⟩ => if 1 ≤ wd d then k (.c (.int .i64 l.length)) else .fail
      | none => .fail)
    | none => .fail)
def intK2 {R : Type} (op : BinOp) (k1 k2 : IntKind) (a b : Int) (k : V → Tree R) : Tree R :=
  match op with
  | .shl => .ite (decide (0 ≤ b)) (k (.c (.int k1 (k1.wrap (a * 2 ^ min b.toNat k1.bits))))) .fail
  | .shr => .ite (decide (0 ≤ b)) (k (.c (.int k1 (a.fdiv (2 ^ min b.toNat k1.bits))))) .fail
  | .quo => if k1 = k2 then .ite (decide (b = 0)) .fail (k (.c (.int k1 (k1.wrap (a.tdiv b))))) else .fail
  | .rem => if k1 = k2 then .ite (decide (b = 0)) .fail (k (.c (.int k1 (a.tmod b)))) else .fail
  | op => if k1 = k2 then (match intV op k1 a b with | some v => k (.c v) | none => .fail) else .fail
def binK {R : Type} (P : Program) (op : BinOp) (t : TypeId) (x y : V) (k : V → Tree R) : Tree R :=
  match x, y with
  | .c (.int k1 a), .c (.int k2 b) => intK2 op k1 k2 a b k
  | .c (.bool a), .c (.bool b) => if boolT P t = true then (match op with
    | .eql => k (.c (.bool (a == b)))
    | .neq => k (.c (.bool (!(a == b))))
    | _ => .fail) else .fail
  | .str a, .str b => (match op with
    | .eql => k (.c (.bool (decide (a = b))))
    | .neq => k (.c (.bool (!decide (a = b))))
    | op => binK2 P op t (.str a) (.str b) k)
  | .c (.slice none _ _), .c (.slice none _ _) => if sliB P t = true then (match op with
    | .eql => k (.c (.bool true))
    | .neq => k (.c (.bool false))
    | _ => .fail) else .fail
  | .c (.slice (some _) _ _), .c (.slice none _ _) => if sliB P t = true then (match op with
    | .eql => k (.c (.bool false))
    | .neq => k (.c (.bool true))
    | _ => .fail) else .fail
  | .lst d l, .c (.slice none _ _) => (match elemT P t, nilV op with | some _, some b => .ite l.isEmpty .fail (k (.c (.bool b))) | _, _ => .fail)
  | .fre d l, .c (.slice none _ _) => (match elemT P t, nilV op with | some _, some b => .ite l.isEmpty .fail (k (.c (.bool b))) | _, _ => .fail)
  | x, y => binK2 P op t x y k
def unK {R : Type} (op : UnOp) (x : V) (k : V → Tree R) : Tree R :=
  match op, x with
  | .not, .c (.bool b) => k (.c (.bool (!b)))
  | .neg, .c (.int kk n) => k (.c (.int kk (kk.wrap (0 - n))))
  | .xor, .c (.int kk n) => k (.c (.int kk (bits .xor kk (if kk.signed then -1 else kk.max) n)))
  | _, _ => .fail
def roomB (n by_ : Nat) : Bool := decide (n ≤ maxLen ∧ n * by_ ≤ 140737488355328)
/-- A text's bytes as numbers. -/
def ofB (bs : List UInt8) : List Int := bs.map fun b => (b.toNat : Int)
theorem ofB_length (bs : List UInt8) : (ofB bs).length = bs.length := by simp [ofB]
theorem ofB_cells (bs : List UInt8) : flat (.int .u8) (ofB bs) = (Lib.strCells ⟨bs.toArray⟩).map .c := by
  induction bs with
  | nil => rfl
  | cons b bs ih =>
    show [AV.c (.int .u8 (b.toNat : Int))] ++ flat (.int .u8) (ofB bs) = _
    rw [ih]
    simp [Lib.strCells]
def convK {R : Type} (P : Program) (s d : TypeId) (x : V) (k : V → Tree R) : Tree R :=
  match x with
  | .c (.int _ n) => (match kindT P d, kindT P s with | some kd, some _ => k (.c (.int kd (kd.wrap n))) | _, _ => .fail)
  | .str bs => if stringT P s = true ∧ stringT P d = true then k (.str bs) else (match bytesT P d with
    | some _ => if stringT P s = true then .ite (roomB bs.length 1) (k (.lst (.int .u8) (ofB bs))) .fail else .fail
    | none => .fail)
  | x => (match bytesT P s with
    | some e => (match viewL P e x with
      | some ⟨dd, l⟩ => castK dd (.int .u8) (fun d => List (T d)) l fun l =>
        if s = d then (match x with | .fre _ _ => .ite l.isEmpty .fail (k (.lst (.int .u8) l)) | _ => .fail)
        else if stringT P d = true then .bind (toBy l) fun bs => k (.str bs) else .fail
      | none => .fail)
    | none => .fail)
def fillV (place : Nat → Option (Nat × Nat)) (segs : List V) : List (Nat × V) → Option (List V)
  | [] => some segs
  | (i, x) :: rest => match place i with
    | none => none
    | some (off, size) => match toSegs x with
      | some s => if wL s = size then (match putV segs off s with | some segs' => fillV place segs' rest | none => none) else none
      | none => none
/-- Arrays among parts, each as one. -/
def packV : Td → List V → List V × List V
  | .arr n d, segs => match segs with
    | .arr d' n' a :: r => ([.arr d' n' a], r)
    | segs => match (decN (decK d) n segs fun a r => Tree.done (a, r)).run with
      | some (a, r) => ([.arr d n a], r)
      | none => (segs, [])
  | .pair d e, segs => match packV d segs with
    | (p, r) => match packV e r with
      | (q, r') => (p ++ q, r')
  | _, segs => match segs with
    | [] => ([], [])
    | x :: r => ([x], r)
def packT (P : Program) (t : TypeId) (segs : List V) : List V := match tdOf P 12 t with
  | some d => match packV d segs with | (p, r) => p ++ r
  | none => segs
def partsV (ρ : Operand → V) (parts : Array (Nat × Operand)) : List (Nat × V) := parts.toList.map fun p => (p.1, ρ p.2)
def buildK {R : Type} (P : Program) (ρ : Operand → V) (t : TypeId) (parts : Array (Nat × Operand)) (k : V → Tree R) : Tree R :=
  match layP P t with
  | some (z, places) => (match fillV (places[·]?) (z.map constV) (partsV ρ parts) with | some l => k (.agg (packT P t l)) | none => .fail)
  | none => match layE P t with
    | some (z, size) => (match fillV (fun i => some (i * size, size)) (z.map constV) (partsV ρ parts) with | some l => k (.agg (packT P t l)) | none => .fail)
    | none => .fail
/-- It speaks of nothing that the call itself writes. -/
def immV : V → Bool
  | .c _ | .str _ | .lst _ _ | .arr _ _ _ | .emp | .nn => true
  | _ => false
def buildSlK {R : Type} (P : Program) (ρ : Operand → V) (t : TypeId) (len : Nat) (parts : Array (Nat × Operand)) (k : V → Tree R) : Tree R :=
  match sliT P t with
  | some (e, w, z) => if len * w ≤ 16777216 ∧ len ≤ maxLen then (match fillV (fun i => some (i * w, w)) ((repL len z).map constV) (partsV ρ parts) with
    | some l => if l.all immV = true then (if len = 0 then k .emp else match tdOf P 12 e with
      | some d => if wd d = w then decN (decK d) len l fun a r => if wL r = 0 then k (.fre d a.l) else .fail else .fail
      | none => .fail) else .fail
    | none => .fail) else .fail
  | none => .fail
section
variable {P : Program} {H : List E2} {ρ : Operand → V} {o : Oper} {R : Type}
theorem lenS_ok {n0 : Nat} {w : World} {B : List Nat} {η : List Value} {ρv : Operand → Value} {x : Operand} {ts : Array TypeId} {t : TypeId} {s : List UInt8} (hr : Rel w B η (.c (.string ⟨s.toArray⟩)) (ρv x)) (ho : o.op = .call ⟨.builtin .len, #[x], ts⟩) (ht : ts[0]? = some t) (hu : P.underlying t = some .string) : OpOK P n0 w ρv o B η (.c (.int .i64 s.length)) := by
  have hv := hr.ofC
  refine .of_run (v := .int .i64 s.length) ?_ (.c _ _)
  have hsz : (ByteArray.mk s.toArray).size = s.length := by show s.toArray.size = _; simp
  simp [execOp, ho, resolve, invoke, builtin, Builtin.len_, Sem.run_bind, hv, ht, run_underlying hu, goInt, hsz]
theorem lenK_ok {x : Operand} {ts : Array TypeId} {t : TypeId} {k : V → Tree R} {res : R} (hp : Plain ρ o) (ho : o.op = .call ⟨.builtin .len, #[x], ts⟩) (ht : ts[0]? = some t) (h : (lenK P H t (ρ x) k).run = some res) : ∃ r, (k r).run = some res ∧ Does P H ρ o r := by
  have hin : x ∈ o.op.operands := by simp [ho, Op.operands, Call.operands]
  unfold lenK at h
  split at h
  · rename_i s hx
    split at h
    · rename_i hs
      exact ⟨_, h, fun n0 Bx w B η ρv inv he => .of rfl (fun _ _ h => by simp [ex, ex0] at h) (lenS_ok (by have := he_of hp he x hin; rw [hx] at this; exact this) ho ht (stringT_spec hs))⟩
    · cases h
  · rename_i id hx
    split at h
    · rename_i e d l E het hH
      split at h
      · rename_i hw
        refine ⟨_, h, fun n0 Bx w B η ρv inv he => .of rfl (fun _ _ h => by simp [ex, ex0] at h) ?_⟩
        have := lenOwn_ok (ρA := fun y => ex (ρ y)) inv (he_of hp he) ho ht (elemT_spec het) (by simp only [hx]; rfl) (exH hH)
        rw [flat_length, Nat.mul_div_cancel _ (by omega)] at this
        exact this
      · cases h
    · cases h
  · split at h
    · rename_i e het
      split at h
      · rename_i d l hv
        split at h
        · rename_i hw
          refine ⟨_, h, fun n0 Bx w B η ρv inv he => .of rfl (fun _ _ h => by simp [ex, ex0] at h) ?_⟩
          have := len_ok (ρA := fun y => eL P e (ρ y)) (n0 := n0) (heL_of e hp he) ho ht (elemT_spec het) (eL_view hv)
          simp only [flat_length] at this
          rw [Nat.mul_div_cancel _ (by omega)] at this
          exact this
        · cases h
      · cases h
    · cases h
theorem flat_ne {d : Td} {l : List (T d)} (hw : 1 ≤ wd d) (hl : l.isEmpty = false) : flat d l ≠ [] := fun h0 => by
  have := congrArg List.length h0
  rw [flat_length] at this
  cases l with
  | nil => cases hl
  | cons a l => simp only [List.length_cons, List.length_nil, Nat.add_mul] at this; omega
theorem does_c {r : Value} (hp : Plain ρ o) (h : ∀ (n0 : Nat) (w : World) (B : List Nat) (η : List Value) (ρv : Operand → Value), (∀ x ∈ o.op.operands, Rel w B η (ex (ρ x)) (ρv x)) → OpOK P n0 w ρv o B η (.c r)) : Does P H ρ o (.c r) := fun n0 Bx w B η ρv inv he => .of rfl (fun _ _ h => by simp [ex, ex0] at h) (h n0 w B η ρv (he_of hp he))
theorem binK_ok {op : BinOp} {t t2 : TypeId} {x y : Operand} {k : V → Tree R} {res : R} (hp : Plain ρ o) (ho : o.op = .binOp op t x y t2) (h : (binK P op t (ρ x) (ρ y) k).run = some res) : ∃ r, (k r).run = some res ∧ Does P H ρ o r := by
  have key : ∀ (a b v : Value), ex (ρ x) = .c a → ex (ρ y) = .c b → binV P op t a b = some v → Does P H ρ o (.c v) := fun a b v hx hy hv =>
    does_c hp fun n0 w B η ρv he => bin_ok (ρA := fun y => ex (ρ y)) he ho hx hy hv
  have nil : ∀ (d : Td) (l : List (T d)) (n c : Nat) (b : Bool) (e : TypeId), (ρ x = .lst d l ∨ ρ x = .fre d l) → ρ y = .c (.slice none n c) → elemT P t = some e → nilV op = some b → l.isEmpty = false → 1 ≤ wd d → Does P H ρ o (.c (.bool b)) := fun d l n c b e hx hy he hb hl hw n0 Bx w B η ρv inv hh => by
    refine .of rfl (fun _ _ h => by simp [ex, ex0] at h) ?_
    exact nil_ok (ρA := fun y => eu (ρ y)) (l := flat d l) (k := wd d) (heu_of hp hh) ho (by rcases hx with hx | hx <;> simp only [hx] <;> rfl) (by simp only [hy]; rfl) (fun h0 => by
      have := congrArg List.length h0
      rw [flat_length] at this
      cases l with
      | nil => cases hl
      | cons a l => simp only [List.length_cons, List.length_nil, Nat.add_mul] at this; omega) (elemT_spec he) hb
  unfold binK at h
  split at h
  · rename_i k1 a k2 b hx hy
    have kk := fun v => key (.int k1 a) (.int k2 b) v (by simp only [hx]; rfl) (by simp only [hy]; rfl)
    unfold intK2 at h
    split at h
    · rcases Tree.run_ite h with ⟨hb, h⟩ | ⟨_, h⟩
      · exact ⟨_, h, kk _ (by simp only [binV]; rw [if_pos (of_decide_eq_true hb)])⟩
      · cases h
    · rcases Tree.run_ite h with ⟨hb, h⟩ | ⟨_, h⟩
      · exact ⟨_, h, kk _ (by simp only [binV]; rw [if_pos (of_decide_eq_true hb)])⟩
      · cases h
    · split at h
      · rename_i hkk
        rcases Tree.run_ite h with ⟨_, h⟩ | ⟨hb, h⟩
        · cases h
        · exact ⟨_, h, kk _ (by simp only [binV, intV]; rw [if_pos hkk, if_neg (of_decide_eq_false hb)])⟩
      · cases h
    · split at h
      · rename_i hkk
        rcases Tree.run_ite h with ⟨_, h⟩ | ⟨hb, h⟩
        · cases h
        · exact ⟨_, h, kk _ (by simp only [binV, intV]; rw [if_pos hkk, if_neg (of_decide_eq_false hb)])⟩
      · cases h
    · split at h
      · rename_i hkk
        split at h
        · rename_i n1 n2 n3 n4 _ v hv
          exact ⟨_, h, kk _ (by
            cases op <;> first | exact absurd rfl n1 | exact absurd rfl n2 | (simp only [binV]; rw [if_pos hkk]; exact hv))⟩
        · cases h
      · cases h
  · rename_i a b hx hy
    have kk := fun v => key (.bool a) (.bool b) v (by simp only [hx]; rfl) (by simp only [hy]; rfl)
    split at h
    · rename_i hb
      split at h
      · exact ⟨_, h, kk _ (by simp only [binV]; rw [if_pos hb])⟩
      · exact ⟨_, h, kk _ (by simp only [binV]; rw [if_pos hb])⟩
      · cases h
    · cases h
  · rename_i a b hx hy
    have kk := fun v => key (.string ⟨a.toArray⟩) (.string ⟨b.toArray⟩) v (by simp only [hx]; rfl) (by simp only [hy]; rfl)
    split at h
    · exact ⟨_, h, kk _ (by simp [binV, strV])⟩
    · exact ⟨_, h, kk _ (by simp [binV, strV])⟩
    · exact binK2_ok hp ho (by rw [hx, hy]; exact h)
  · rename_i n c n' c' hx hy
    have kk := fun v => key (.slice none n c) (.slice none n' c') v (by simp only [hx]; rfl) (by simp only [hy]; rfl)
    split at h
    · rename_i hb
      split at h
      · exact ⟨_, h, kk _ (by simp only [binV]; rw [if_pos hb])⟩
      · exact ⟨_, h, kk _ (by simp only [binV]; rw [if_pos hb])⟩
      · cases h
    · cases h
  · rename_i A0 n c n' c' hx hy
    have kk := fun v => key (.slice (some A0) n c) (.slice none n' c') v (by simp only [hx]; rfl) (by simp only [hy]; rfl)
    split at h
    · rename_i hb
      split at h
      · exact ⟨_, h, kk _ (by simp only [binV]; rw [if_pos hb])⟩
      · exact ⟨_, h, kk _ (by simp only [binV]; rw [if_pos hb])⟩
      · cases h
    · cases h
  · rename_i d l n c hx hy
    split at h
    · rename_i e b he hb
      rcases Tree.run_ite h with ⟨_, h⟩ | ⟨hl, h⟩
      · cases h
      · refine ⟨_, h, fun n0 Bx w B η ρv inv hh => nil d l n c b e (.inl hx) hy he hb hl ?_ n0 Bx w B η ρv inv hh⟩
        have := he_of hp hh x (by simp [ho, Op.operands])
        rw [hx] at this
        obtain ⟨_, _, _, _, _, h1, _⟩ := Rel.slL this
        exact h1
    · cases h
  · rename_i d l n c hx hy
    split at h
    · rename_i e b he hb
      rcases Tree.run_ite h with ⟨_, h⟩ | ⟨hl, h⟩
      · cases h
      · refine ⟨_, h, fun n0 Bx w B η ρv inv hh => nil d l n c b e (.inr hx) hy he hb hl ?_ n0 Bx w B η ρv inv hh⟩
        have := heu_of hp hh x (by simp [ho, Op.operands])
        rw [hx] at this
        obtain ⟨_, _, _, _, _, h1, _⟩ := Rel.slL this
        exact h1
    · cases h
  · exact binK2_ok hp ho h
theorem unK_ok {op : UnOp} {t : TypeId} {x : Operand} {k : V → Tree R} {res : R} (hp : Plain ρ o) (ho : o.op = .unOp op t x) (h : (unK op (ρ x) k).run = some res) : ∃ r, (k r).run = some res ∧ Does P H ρ o r := by
  unfold unK at h
  split at h
  · rename_i b hx
    exact ⟨_, h, does_c hp fun n0 w B η ρv he => un_ok (ρA := fun y => ex (ρ y)) he ho (by simp only [hx]; rfl) rfl⟩
  · rename_i kk n hx
    exact ⟨_, h, does_c hp fun n0 w B η ρv he => un_ok (ρA := fun y => ex (ρ y)) he ho (by simp only [hx]; rfl) rfl⟩
  · rename_i kk n hx
    refine ⟨_, h, does_c hp fun n0 w B η ρv he => ?_⟩
    have h1 := he x (by simp [ho, Op.operands])
    rw [hx] at h1
    have h2 := Rel.ofC h1
    refine .of_run (v := .int kk (bits .xor kk (if kk.signed then -1 else kk.max) n)) ?_ (.c _ _)
    simp [execOp, ho, h2, Op.unary, Op.intBits, bits, Sem.run_bind]
  · cases h
theorem convS_ok {n0 : Nat} {w : World} {B : List Nat} {η : List Value} {ρv : Operand → Value} {s d : TypeId} {x : Operand} {bs : List UInt8} (hr : Rel w B η (.c (.string ⟨bs.toArray⟩)) (ρv x)) (ho : o.op = .convert s d x) (hs : P.underlying s = some .string) (hd : P.underlying d = some .string) : OpOK P n0 w ρv o B η (.c (.string ⟨bs.toArray⟩)) := by
  have hv := hr.ofC
  refine .of_run (v := .string ⟨bs.toArray⟩) ?_ (.c _ _)
  simp [execOp, ho, convert, Sem.run_bind, hv, run_underlying hs, run_underlying hd]
/-- Bytes made of a text. -/
theorem convB_ok {n0 : Nat} {w : World} {B : List Nat} {η : List Value} {ρv : Operand → Value} {s d e : TypeId} {x : Operand} {bs : List UInt8} (hB : ∀ b ∈ B, b < w.heap.size) (hr : Rel w B η (.c (.string ⟨bs.toArray⟩)) (ρv x)) (ho : o.op = .convert s d x) (hs : P.underlying s = some .string) (hd : bytesT P d = some e) (hroom : roomB bs.length 1 = true) : OpOK P n0 w ρv o B η (.sl (flat (.int .u8) (ofB bs)) 1) := by
  have hv := hr.ofC
  obtain ⟨q1, q2⟩ := bytesT_spec hd
  have hm : bs.length ≤ maxLen := (of_decide_eq_true hroom).1
  have hsz : (ByteArray.mk bs.toArray).size = bs.length := by show bs.toArray.size = _; simp
  have hcm : grownCap w (ByteArray.mk bs.toArray).size 0 e ≤ maxLen := grownCap_le_maxLen w _ 0 e (by rw [hsz]; exact hm)
  have hge := grownCap_ge w (ByteArray.mk bs.toArray).size 0 e
  intro N hN
  have hrun : (execOp ρv o).run P w = .ok (.value (.slice (some ⟨w.heap.size, 0, none⟩) (ByteArray.mk bs.toArray).size (grownCap w (ByteArray.mk bs.toArray).size 0 e))) (Lib.bytesWorld w e ⟨bs.toArray⟩) := by
    simp [execOp, ho, Sem.run_bind, hv, Lib.run_convert_string_bytes (P := P) w s d e _ hs q1 q2]
  unfold Oper.val
  rw [hrun]
  have hold := Lib.bytesWorld_at_old w e ⟨bs.toArray⟩
  have hsize := Lib.bytesWorld_size w e ⟨bs.toArray⟩
  refine hN _ _ ⟨rfl, rfl, rfl, by rw [hsize]; omega, fun b hb => .of (hold b hb), fun b hb _ => hold b hb⟩ ?_
  rw [ofB_cells]
  refine .sl _ _ _ _ _ _ (fun i => (Lib.strCells ⟨bs.toArray⟩).getD i undef) (Nat.le_refl 1) (by rw [List.length_map, Lib.strCells_length]; omega) hge hcm (fun h0 => ⟨_, rfl, rfl, by rw [hsize]; exact Nat.lt_succ_self _, fun h => ?_, fun i hi => ?_⟩) (fun i x hx => ?_)
  · exact absurd (hB _ h) (Nat.lt_irrefl _)
  · rw [List.length_map, Lib.strCells_length] at hi
    have e1 : (Addr.mk w.heap.size 0 none).add i = ⟨w.heap.size, i, none⟩ := by unfold Addr.add; simp; omega
    rw [e1, Lib.bytesWorld_cell w e _ i hi]
    have hi' : i < (ByteArray.mk bs.toArray).data.toList.length := by simpa [hsz] using hi
    simp only [Lib.strCells, List.getD_eq_getElem?_getD, List.getElem?_map, List.getElem?_eq_getElem hi', Option.map_some, Option.getD_some]
  · rw [List.getElem?_map] at hx
    cases hg : (Lib.strCells ⟨bs.toArray⟩)[i]? with
    | none => rw [hg] at hx; cases hx
    | some u =>
      rw [hg] at hx
      injection hx with hx
      subst hx
      have : (Lib.strCells ⟨bs.toArray⟩).getD i undef = u := by rw [List.getD_eq_getElem?_getD, hg]; rfl
      rw [this]
      exact .c _ _
theorem convK_ok {s d : TypeId} {x : Operand} {k : V → Tree R} {res : R} (hp : Plain ρ o) (ho : o.op = .convert s d x) (h : (convK P s d (ρ x) k).run = some res) : ∃ r, (k r).run = some res ∧ Does P H ρ o r := by
  have hin : x ∈ o.op.operands := by simp [ho, Op.operands]
  unfold convK at h
  split at h
  · rename_i kk n hx
    split at h
    · rename_i kd ks hd hs
      exact ⟨_, h, does_c hp fun n0 w B η ρv he => conv_ok (ρA := fun y => ex (ρ y)) he ho (by simp only [hx]; rfl) (by simp only [convV, hd, hs])⟩
    · cases h
  · rename_i bs hx
    split at h
    · rename_i hs
      exact ⟨_, h, fun n0 Bx w B η ρv inv he => .of rfl (fun _ _ h => by simp [ex, ex0] at h) (convS_ok (by have := he_of hp he x hin; rw [hx] at this; exact this) ho (stringT_spec hs.1) (stringT_spec hs.2))⟩
    · split at h
      · rename_i e hb
        split at h
        · rename_i hs
          rcases Tree.run_ite h with ⟨hroom, h⟩ | ⟨_, h⟩
          · exact ⟨_, h, fun n0 Bx w B η ρv inv he => .of rfl (fun _ _ h => by simp [ex, ex0] at h) (convB_ok inv.lt (by have := he_of hp he x hin; rw [hx] at this; exact this) ho (stringT_spec hs) hb hroom)⟩
          · cases h
        · cases h
      · cases h
  · split at h
    · rename_i e hb
      split at h
      · rename_i dd l hv
        obtain ⟨e1, h1⟩ := castK_run h
        clear h
        subst e1
        have h := h1; clear h1
        simp only at h
        split at h
        · rename_i hsd
          subst hsd
          split at h
          · rename_i d2 l2 _ hx
            rcases Tree.run_ite h with ⟨_, h⟩ | ⟨hl, h⟩
            · cases h
            · rw [hx] at hv
              simp only [viewL, Option.some.injEq, Sigma.mk.injEq] at hv
              obtain ⟨rfl, hv⟩ := hv
              have hv := eq_of_heq hv
              subst hv
              refine ⟨_, h, fun n0 Bx w B η ρv inv he => .of rfl (fun _ _ h => by simp [ex, ex0] at h) ?_⟩
              exact mark_ok (ρA := fun y => eu (ρ y)) (heu_of hp he) ho (by simp only [hx]; rfl) hb (fun h0 => flat_ne (d := .int .u8) (Nat.le_refl 1) hl h0) (fun ad n c hv => (he x hin).2 (by rw [hx]; rfl) ad n c hv)
          · cases h
        · split at h
          · rename_i hd
            obtain ⟨bs, hbs, h⟩ := Tree.run_bind h
            refine ⟨_, h, fun n0 Bx w B η ρv inv he => .of rfl (fun _ _ h => by simp [ex, ex0] at h) ?_⟩
            exact toStr_ok (ρA := fun y => eL P e (ρ y)) (heL_of e hp he) ho (eL_view hv) hb hd (toBy_eq hbs)
          · cases h
      · cases h
    · cases h
theorem fillV_ok {place : Nat → Option (Nat × Nat)} : ∀ (parts : List (Nat × V)) (segs r : List V), fillV place segs parts = some r → fillA place (segsA segs) (parts.map fun p => (p.1, eu p.2)) = some (segsA r)
  | [], segs, r, h => by simp only [fillV, Option.some.injEq] at h; subst h; rfl
  | (i, x) :: rest, segs, r, h => by
    unfold fillV at h
    split at h
    · cases h
    · rename_i off size hpl
      split at h
      · rename_i s hs
        split at h
        · rename_i hw
          split at h
          · rename_i segs' hput
            obtain ⟨h1, h2, h3⟩ := toSegs_ok hs
            obtain ⟨h4, h5⟩ := putV_ok hput
            have ih := fillV_ok rest segs' r h
            simp only [List.map_cons, fillA, hpl]
            rw [if_pos ⟨h2, by rw [h1, wL_eq, hw], by rw [h1]; exact h5⟩, h1, ← h4]
            exact ih
          · cases h
        · cases h
      · cases h
theorem packV_ok : ∀ (d : Td) (segs : List V), Wk (segsA segs) (segsA (packV d segs).1 ++ segsA (packV d segs).2)
  | .arr n d, segs => by
    unfold packV
    split
    · rw [segsA_cons, segsA_cons, segsA_nil, List.append_nil]; exact Wk.refl _
    · split
      · rename_i a r hr
        obtain ⟨a', rest, h1, h2⟩ := decN_ok (decK_ok d) n segs _ _ hr
        simp only [Tree.run, Option.some.injEq, Prod.mk.injEq] at h1
        obtain ⟨rfl, rfl⟩ := h1
        simpa [segsA, segA] using h2
      · simpa [segsA_nil] using Wk.refl _
  | .pair d e, segs => by
    unfold packV
    have h1 := packV_ok d segs
    split
    rename_i p r hpr
    rw [hpr] at h1
    have h2 := packV_ok e r
    split
    rename_i q r' hqr
    rw [hqr] at h2
    simp only [segsA_append, List.append_assoc]
    exact h1.trans ((Wk.refl _).app h2)
  | .int k, segs => by cases segs <;> simpa [packV, segsA_cons, segsA_nil] using Wk.refl _
  | .bool, segs => by cases segs <;> simpa [packV, segsA_cons, segsA_nil] using Wk.refl _
  | .str, segs => by cases segs <;> simpa [packV, segsA_cons, segsA_nil] using Wk.refl _
  | .sl d, segs => by cases segs <;> simpa [packV, segsA_cons, segsA_nil] using Wk.refl _
theorem packT_ok (t : TypeId) (segs : List V) : Wk (segsA segs) (segsA (packT P t segs)) := by
  unfold packT
  split
  · rename_i d _
    have := packV_ok d segs
    split
    rename_i p r hpr
    rw [hpr] at this
    rw [segsA_append]; exact this
  · exact Wk.refl _
theorem rel_agg_wk {w : World} {B : List Nat} {η : List Value} {l m : List AV} {v : Value} (hw : Wk l m) (h : Rel w B η (.agg l) v) : Rel w B η (.agg m) v := by
  obtain ⟨cs, rfl, hl⟩ := h.aggL
  exact (hw w B η _ hl).toAgg
theorem buildK_ok {t : TypeId} {parts : Array (Nat × Operand)} {k : V → Tree R} {res : R} (hp : Plain ρ o) (ho : o.op = .build t parts) (h : (buildK P ρ t parts k).run = some res) : ∃ r, (k r).run = some res ∧ Does P H ρ o r := by
  have hpm : (partsV ρ parts).map (fun p => (p.1, eu p.2)) = partsA (fun y => eu (ρ y)) parts := by simp [partsV, partsA, List.map_map, Function.comp_def]
  have key : ∀ l, buildA P t (partsA (fun y => eu (ρ y)) parts) = some (.agg (segsA l)) → Does P H ρ o (.agg (packT P t l)) := fun l hl n0 Bx w B η ρv inv he =>
    .of rfl (fun _ _ h => by simp [ex, ex0] at h) (OpOK.mono (build_ok (ρA := fun y => eu (ρ y)) (heu_of hp he) ho hl) fun w' v hv => rel_agg_wk (packT_ok t l) hv)
  unfold buildK at h
  split at h
  · rename_i z places hlay
    split at h
    · rename_i l hl
      refine ⟨_, h, key l ?_⟩
      have := fillV_ok _ _ _ hl
      rw [hpm, segsA_const] at this
      simp only [buildA, hlay, this]
    · cases h
  · rename_i hno
    split at h
    · rename_i z size hlay
      split at h
      · rename_i l hl
        refine ⟨_, h, key l ?_⟩
        have := fillV_ok _ _ _ hl
        rw [hpm, segsA_const] at this
        simp only [buildA, hno, hlay, this]
      · cases h
    · cases h
theorem immV_ok : ∀ (l : List V), l.all immV = true → (segsA l).all AV.imm0 = true
  | [], _ => rfl
  | x :: l, h => by
    simp only [List.all_cons, Bool.and_eq_true] at h
    rw [segsA_cons, List.all_append, immV_ok l h.2, Bool.and_true]
    have h1 := h.1
    cases x <;> first | rfl | cases h1 | skip
    rename_i d n a
    exact flat_imm d a.l
theorem rel_fresh_wk {w : World} {B : List Nat} {η : List Value} {l m : List AV} {k : Nat} {v : Value} (hw : Wk l m) (hlen : m.length = l.length) (h : Rel w B η (.fresh l k) v) : Rel w B η (.fresh m k) v := by
  cases h with
  | fresh _ _ _ A n us hk hn h0 hm hA hr =>
    have hl : RelL w B [] l ((List.range l.length).map us) := ⟨by simp, fun i y hy => ⟨us i, by simp [(List.getElem?_eq_some_iff.1 hy).1], hr i y hy⟩⟩
    have hm' := hw w B [] _ hl
    refine .fresh _ _ _ A n us hk (by rw [hlen]; exact hn) h0 hm (fun h0 => by obtain ⟨ad, q1, q2⟩ := hA h0; exact ⟨ad, q1, by rw [hlen]; exact q2⟩) (fun i x hx => ?_)
    obtain ⟨u, q1, q2⟩ := hm'.2 i x hx
    have hi : i < l.length := by rw [← hlen]; exact (List.getElem?_eq_some_iff.1 hx).1
    simp [hi] at q1
    rw [q1]; exact q2
theorem buildSlK_ok {t : TypeId} {len : Nat} {parts : Array (Nat × Operand)} {k : V → Tree R} {res : R} (hp : Plain ρ o) (ho : o.op = .buildSlice t len parts) (h : (buildSlK P ρ t len parts k).run = some res) : ∃ r, (k r).run = some res ∧ Does P H ρ o r := by
  have hpm : (partsV ρ parts).map (fun p => (p.1, eu p.2)) = partsA (fun y => eu (ρ y)) parts := by simp [partsV, partsA, List.map_map, Function.comp_def]
  unfold buildSlK at h
  split at h
  · rename_i e kw z hsl
    split at h
    · rename_i hlen
      split at h
      · rename_i l hl
        split at h
        · rename_i himm
          have hb : buildSlA P t len (partsA (fun y => eu (ρ y)) parts) = some (.sl (segsA l) kw) := by
            have := fillV_ok _ _ _ hl
            rw [hpm, segsA_const] at this
            simp only [buildSlA, hsl, this]
            rw [if_pos hlen.1, if_pos (immV_ok l himm)]
          split at h
          · rename_i h0
            exact ⟨_, h, fun n0 Bx w B η ρv inv he => fun N hN => buildSl_emp (ρA := fun y => eu (ρ y)) (n0 := n0) inv.lt (heu_of hp he) ho hlen.2 h0 hb N fun v w' g hr hf => hN v w' g hr hf⟩
          · split at h
            · rename_i d htd
              split at h
              · rename_i hwd
                obtain ⟨a, rest, h1, h2⟩ := decN_ok (decK_ok d) len l _ _ h
                split at h1
                · rename_i hrest
                  have hr0 : segsA rest = [] := List.eq_nil_of_length_eq_zero (by rw [wL_eq]; exact hrest)
                  rw [hr0, List.append_nil] at h2
                  refine ⟨_, h1, fun n0 Bx w B η ρv inv he => fun N hN => buildSl_fresh (ρA := fun y => eu (ρ y)) inv.lt inv.base.1 (heu_of hp he) ho hlen.2 hb N fun v w' g hr hf => hN v w' g ?_ hf⟩
                  have hll : (flat d a.l).length = (segsA l).length := by
                    have hrl : ∃ us, us.length = (segsA l).length ∧ RelL w' B [] (segsA l) us := by
                      cases hr with
                      | fresh _ _ _ A n us hk hn h0 hm hA hr => exact ⟨(List.range (segsA l).length).map us, by simp, by simp, fun i y hy => ⟨us i, by simp [(List.getElem?_eq_some_iff.1 hy).1], hr i y hy⟩⟩
                    obtain ⟨us, q1, q2⟩ := hrl
                    have := (h2 w' B [] us q2).1
                    omega
                  simp only [Rel2, ex, ex0, hwd]
                  exact rel_fresh_wk h2 hll hr
                · cases h1
              · cases h
            · cases h
        · cases h
      · cases h
    · cases h
  · cases h

/-! ### The lesser, the greater -/
def minI (a b : Int) : Int := if b < a then b else a
def maxI (a b : Int) : Int := if a < b then b else a
def minK (x y : V) (k : V → Tree R) : Tree R := match x, y with
  | .c (.int kk a), .c (.int _ b) => k (.c (.int kk (minI a b)))
  | _, _ => .fail
def maxK (x y : V) (k : V → Tree R) : Tree R := match x, y with
  | .c (.int kk a), .c (.int _ b) => k (.c (.int kk (maxI a b)))
  | _, _ => .fail
theorem minK_ok {x y : Operand} {ts : Array TypeId} {k : V → Tree R} {res : R} (hp : Plain ρ o) (ho : o.op = .call ⟨.builtin .min, #[x, y], ts⟩) (h : (minK (ρ x) (ρ y) k).run = some res) : ∃ r, (k r).run = some res ∧ Does P H ρ o r := by
  unfold minK at h
  split at h
  · rename_i kk a k2 b hx hy
    refine ⟨_, h, does_c hp fun n0 w B η ρv he => ?_⟩
    have h1 := he x (by simp [ho, Op.operands, Call.operands])
    have h2 := he y (by simp [ho, Op.operands, Call.operands])
    rw [hx] at h1; rw [hy] at h2
    have h1 := Rel.ofC h1
    have h2 := Rel.ofC h2
    refine .of_run (v := .int kk (minI a b)) ?_ (.c _ _)
    simp [execOp, ho, resolve, invoke, builtin, Builtin.min_, Builtin.min2, Sem.run_bind, h1, h2, minI]
  · cases h
theorem maxK_ok {x y : Operand} {ts : Array TypeId} {k : V → Tree R} {res : R} (hp : Plain ρ o) (ho : o.op = .call ⟨.builtin .max, #[x, y], ts⟩) (h : (maxK (ρ x) (ρ y) k).run = some res) : ∃ r, (k r).run = some res ∧ Does P H ρ o r := by
  unfold maxK at h
  split at h
  · rename_i kk a k2 b hx hy
    refine ⟨_, h, does_c hp fun n0 w B η ρv he => ?_⟩
    have h1 := he x (by simp [ho, Op.operands, Call.operands])
    have h2 := he y (by simp [ho, Op.operands, Call.operands])
    rw [hx] at h1; rw [hy] at h2
    have h1 := Rel.ofC h1
    have h2 := Rel.ofC h2
    refine .of_run (v := .int kk (maxI a b)) ?_ (.c _ _)
    simp [execOp, ho, resolve, invoke, builtin, Builtin.max_, Builtin.max2, Sem.run_bind, h1, h2, maxI]
  · cases h
/-! ### All of them -/
/-- What is not served. -/
def noOp (o : Op) : Option Unit := none
def pickK (c a b : V) (k : V → Tree R) : Tree R :=
  match c with
  | .c (.bool t) => (match a, b with
    | .c (.bool p), .c (.bool q) => k (.c (.bool (cond t p q)))
    | a, b => .ite t (k a) (k b))
  | _ => .fail
def evN1 (P : Program) (H : List E2) (ρ : Operand → V) (o : Op) (k : V → Tree R) : Tree R :=
  match o with
  | .nilCheck x => nilCheckK (ρ x) k
  | .fieldAddr s x f => fieldAddrK P s f (ρ x) k
  | .load t x => loadK P H t (ρ x) k
  | .field s x f => fieldK P s f (ρ x) k
  | .index t x i => (match ρ x with
    | .str s => if stringT P t = true then strIndexK s (ρ i) k else .fail
    | x => indexK P t x (ρ i) k)
  | .indexAddr t x i => indexAddrK P H t (ρ x) (ρ i) k
  | .extract x i => extractK (ρ x) i k
  | .slice t x lo hi none => (match arrT P t, ρ x with
    | some (m, e), x => sliceArrK P ρ m e x lo hi k
    | none, .str s => if stringT P t = true then strSliceK ρ s lo hi k else .fail
    | none, x => sliceK P ρ t x lo hi k)
  | .slice t x none (some hi) (some mx) => slice3K P t (ρ x) (ρ hi) (ρ mx) k
  | .call ⟨.builtin .len, ⟨[x]⟩, ts⟩ => (match ts[0]? with | some t => lenK P H t (ρ x) k | none => .fail)
  | .call ⟨.builtin .min, ⟨[x, y]⟩, _⟩ => minK (ρ x) (ρ y) k
  | .call ⟨.builtin .max, ⟨[x, y]⟩, _⟩ => maxK (ρ x) (ρ y) k
  | .binOp op t x (.const .nilIface) _ => niK P op t (ρ x) (ρ (.const .nilIface)) k
  | .binOp op t x y _ => binK P op t (ρ x) (ρ y) k
  | .unOp op _ x => unK op (ρ x) k
  | .convert s d x => convK P s d (ρ x) k
  | .build t parts => buildK P ρ t parts k
  | .buildSlice t len parts => buildSlK P ρ t len parts k
  | .sliceToArrayPointer t x => arrPtrK P t (ρ x) k
  | .makeSlice t a b => makeImmK P t (ρ a) (ρ b) k
  | o => .bind (noOp o) fun _ => .fail
def plainB (ρ : Operand → V) (o : Op) : Bool := o.operands.all fun x => (ρ x).plain
def evN (P : Program) (H : List E2) (ρ : Operand → V) (o : Op) (k : V → Tree R) : Tree R :=
  match o with
  | .move x => k (ρ x)
  | .assign x => k (ρ x)
  | .pick c a b => pickK (ρ c) (ρ a) (ρ b) k
  | .makeFunc (.func f) ⟨[]⟩ caps => if caps.toList.all (fun x => (ρ x).cap) then k (.clo f (caps.toList.map ρ)) else .fail
  | o => if plainB ρ o = true then evN1 P H ρ o k else .bind (noOp o) fun _ => .fail
theorem does_move {x : Operand} {r : V} (hop : ∀ (w : World) (ρv : Operand → Value), (execOp ρv o).run P w = .ok (.value (ρv x)) w) (hin : x ∈ o.op.operands) (hr : ρ x = r) : Does P H ρ o r := fun n0 Bx w B η ρv inv he N hN => by
  subst hr
  unfold Oper.val
  rw [hop]
  exact hN _ _ (Gk.refl _ _ w) (he x hin).1 (he x hin).2
theorem pickK_ok {c a b : Operand} {k : V → Tree R} {res : R} (ho : o.op = .pick c a b) (h : (pickK (ρ c) (ρ a) (ρ b) k).run = some res) : ∃ r, (k r).run = some res ∧ Does P H ρ o r := by
  unfold pickK at h
  split at h
  · rename_i t hc
    have key : ∀ (r : V), (cond t (ρ a) (ρ b)) = r → Does P H ρ o r := fun r hr n0 Bx w B η ρv inv he N hN => by
      have h1 := (he c (by simp [ho, Op.operands])).1
      rw [hc] at h1
      have h2 := Rel.ofC h1
      unfold Oper.val
      have hrun : (execOp ρv o).run P w = .ok (.value (cond t (ρv a) (ρv b))) w := by
        cases t <;> simp [execOp, ho, h2, asBool, Sem.run_bind]
      rw [hrun]
      subst hr
      cases t
      · exact hN _ _ (Gk.refl _ _ w) (he b (by simp [ho, Op.operands])).1 (he b (by simp [ho, Op.operands])).2
      · exact hN _ _ (Gk.refl _ _ w) (he a (by simp [ho, Op.operands])).1 (he a (by simp [ho, Op.operands])).2
    split at h
    · rename_i p q ha hb
      exact ⟨_, h, key _ (by rw [ha, hb]; cases t <;> rfl)⟩
    · rcases Tree.run_ite h with ⟨ht, h⟩ | ⟨ht, h⟩
      · subst ht; exact ⟨_, h, key _ rfl⟩
      · subst ht; exact ⟨_, h, key _ rfl⟩
  · cases h
theorem evN1_ok {k : V → Tree R} {res : R} (hp : Plain ρ o) (h : (evN1 P H ρ o.op k).run = some res) : ∃ r, (k r).run = some res ∧ Does P H ρ o r := by
  generalize ho : o.op = op at h
  unfold evN1 at h
  split at h
  · exact nilCheckK_ok hp ho h
  · exact fieldAddrK_ok hp ho h
  · exact loadK_ok hp ho h
  · exact fieldK_ok hp ho h
  · split at h
    · rename_i hx; split at h
      · rename_i hs; exact strIndexK_ok hp ho (stringT_spec hs) hx h
      · cases h
    · exact indexK_ok hp ho h
  · exact indexAddrK_ok hp ho h
  · exact extractK_ok hp ho h
  · split at h
    · rename_i hat; exact sliceArrK_ok hp ho (arrT_spec hat) h
    · rename_i hx; split at h
      · rename_i hs; exact strSliceK_ok hp ho (stringT_spec hs) hx h
      · cases h
    · exact sliceK_ok hp ho h
  · exact slice3K_ok hp ho h
  · split at h
    · rename_i ht; exact lenK_ok hp ho ht h
    · cases h
  · exact minK_ok hp ho h
  · exact maxK_ok hp ho h
  · exact niK_ok hp ho rfl h
  · exact binK_ok hp ho h
  · exact unK_ok hp ho h
  · exact convK_ok hp ho h
  · exact buildK_ok hp ho h
  · exact buildSlK_ok hp ho h
  · exact arrPtrK_ok hp ho h
  · exact makeImmK_ok hp ho h
  · cases h
theorem evN_ok {k : V → Tree R} {res : R} (h : (evN P H ρ o.op k).run = some res) : ∃ r, (k r).run = some res ∧ Does P H ρ o r := by
  generalize ho : o.op = op at h
  unfold evN at h
  split at h
  · exact ⟨_, h, does_move (x := by assumption) (fun w ρv => by simp [execOp, ho]) (by simp [ho, Op.operands]) rfl⟩
  · exact ⟨_, h, does_move (x := by assumption) (fun w ρv => by simp [execOp, ho]) (by simp [ho, Op.operands]) rfl⟩
  · exact pickK_ok ho h
  · rename_i f caps
    split at h
    · rename_i hc
      refine ⟨_, h, fun n0 Bx w B η ρv inv he N hN => ?_⟩
      unfold Oper.val
      have hrun : (execOp ρv o).run P w = .ok (.value (.func (.func f) #[] (caps.map ρv))) w := by
        simp [execOp, ho, Instr.makeFunc]
      have hcp : caps.map ρv = (caps.toList.map ρv).toArray := by apply Array.ext'; simp
      rw [hrun, hcp]
      refine hN _ _ (Gk.refl _ _ w) ⟨caps.toList.map ρv, by simp, by simp, fun i c hci => ?_⟩ (fun h => by simp [ex, ex0, isFresh] at h)
      rw [List.getElem?_map, Option.map_eq_some_iff] at hci
      obtain ⟨y, hy, rfl⟩ := hci
      have hm := List.mem_of_getElem? hy
      have hpl := List.all_eq_true.1 hc y hm
      exact ⟨ρv y, by rw [List.getElem?_map, hy]; rfl, hpl, (he y (by simp [ho, Op.operands]; simpa using hm)).1.get (V.cap_plain hpl)⟩
    · cases h
  · split at h
    · rename_i hp
      refine evN1_ok (fun x hx => ?_) (by rw [ho]; exact h)
      rw [ho] at hx
      exact Array.all_eq_true'.1 hp x hx
    · cases h
end
end Go.Proofs.YtfaocnboildjbaaDoor
