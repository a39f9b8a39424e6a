/-
  Zeros appended: append(s, make(.., n)...).
-/
import Derived.Test.YtpijcgohhjgdbaaEng8b
namespace Go.Proofs.Ytpijcgohhjgdbaa
set_option maxRecDepth 100000
open Go.RowKit
set_option linter.unusedVariables false
set_option linter.unusedSimpArgs false

section
variable {P : Program} {w w' : World} {B : List Nat} {η : List Value} {H : List Ent} {ρ : Operand → Value} {ρA : Operand → AV} {o : Oper} {n0 : Nat} {Bx : List Nat}
theorem zeroCells_repL (c : Array Value) (n : Nat) (h : 0 < c.size) : (Builtin.zeroCells c n).toList = repL n c.toList := by
  apply List.ext_getElem?
  intro j
  rcases Nat.lt_or_ge j (n * c.size) with hj | hj
  · rw [repL_get n c.toList j (by simpa using hj)]
    have hm : j % c.size < c.size := Nat.mod_lt _ h
    simp [Builtin.zeroCells, hj, hm]
  · rw [List.getElem?_eq_none (by simpa [size_zeroCells] using hj), List.getElem?_eq_none (by rw [repL_length]; simpa using hj)]
theorem run_append_zero0 {base t tn ty e n : Nat} {kn kx : IntKind} {i : TypeInfo} {v : Value} {xs : List Value} (ht : P.underlying t = some (.slice e)) (htn : P.underlying tn = some (.int kn)) (hi : P.info? e = some i) (hown : OwnAt w base e i.size v n xs) :
    (Builtin.append_ #[t, tn] ty #[v, .int kx ((0 : Nat) : Int)]).run P w = .ok v w := by
  have hw : IntKind.i64.wrap (0 : Int) = 0 := by decide
  rcases hown.2 with ⟨rfl, rfl⟩ | ⟨g, oo, cap, cur, rfl, _, _, hnc, _⟩
  · simp [Builtin.append_, run_underlying ht, run_underlying htn, sizeOf, typeInfo, hi, asInt, asIntOf, hw]
  · simp [Builtin.append_, run_underlying ht, run_underlying htn, sizeOf, typeInfo, hi, asInt, asIntOf, hw, hnc, storeCells]
theorem run_append_zeros {base t tn ty E k by_ m : Nat} {kn kx : IntKind} {i : TypeInfo} {z : Value} (ht : P.underlying t = some (.slice E)) (htn : P.underlying tn = some (.int kn)) (hi : P.info? E = some i) (hz : i.zero = some z) (hsz : i.size = k) (hby : i.bytes = by_) (hzs : z.cells.size = k) (hk : 1 ≤ k)
    {v : Value} {n : Nat} {us : List Value} (hown : OwnAt w base E k v n us) (h1 : ∀ u ∈ (Builtin.zeroCells z.cells m).toList, u.oneCell' = true)
    (hm : 0 < m) (h63 : n + m ≤ maxLen) (hbytes : (n + m) * by_ ≤ 140737488355328) (hbase : base ≤ w.heap.size) :
    ∃ g o cap w', (Builtin.append_ #[t, tn] ty #[v, .int kx (m : Int)]).run P w = .ok (.slice (some ⟨g, o, none⟩) (n + m) cap) w' ∧ OwnAt w' base E k (.slice (some ⟨g, o, none⟩) (n + m) cap) (n + m) (us ++ (Builtin.zeroCells z.cells m).toList) ∧
      w.grownBy w' v.ownBlock ∧ (v.ownBlock = some g ∨ w.heap.size ≤ g) ∧ g < w'.heap.size := by
  subst hsz
  subst hby
  have hml : maxLen ≤ 9223372036854775807 := by decide
  have hw : IntKind.i64.wrap (m : Int) = m := by rw [IntKind.wrap_i64]; omega
  have hmb : m * i.bytes ≤ (n + m) * i.bytes := Nat.mul_le_mul_right _ (by omega)
  have h48i : ¬ (281474976710656 < (m : Int) * (i.bytes : Int)) := by
    rw [← Int.natCast_mul]
    omega
  have hneg : ¬ ((m : Int) < 0) := by omega
  have hm0 : m ≠ 0 := by omega
  have hns : ¬ (m * i.size = 0) := Nat.mul_ne_zero hm0 (by omega)
  have hm1 : ¬ (i.size = 0) := by omega
  have hzl : (Builtin.zeroCells z.cells m).size = m * i.size := by rw [size_zeroCells, hzs]
  have fin : ∀ (old : Nat), old < n + m → (Builtin.append_ #[t, tn] ty #[v, .int kx (m : Int)]).run P w = .ok (.slice (some ⟨w.heap.size, 0, none⟩) (n + m) (grownCap w (n + m) old E)) (w.drew.alloc (.cells (us.toArray ++ Builtin.zeroCells z.cells m ++ Builtin.zeroCells z.cells (grownCap w (n + m) old E - (n + m))) E)) →
      ∃ g o cap w', (Builtin.append_ #[t, tn] ty #[v, .int kx (m : Int)]).run P w = .ok (.slice (some ⟨g, o, none⟩) (n + m) cap) w' ∧ OwnAt w' base E i.size (.slice (some ⟨g, o, none⟩) (n + m) cap) (n + m) (us ++ (Builtin.zeroCells z.cells m).toList) ∧
      w.grownBy w' v.ownBlock ∧ (v.ownBlock = some g ∨ w.heap.size ≤ g) ∧ g < w'.heap.size := by
    intro old ho hr
    have hge := grownCap_ge w (n + m) old E
    have hcm : grownCap w (n + m) old E ≤ maxLen := grownCap_le_maxLen w (n + m) old E h63
    have hlen : (us ++ (Builtin.zeroCells z.cells m).toList).length = (n + m) * i.size := by rw [List.length_append, hown.1, Array.length_toList, hzl, Nat.add_mul]
    refine ⟨w.heap.size, 0, _, _, hr, ⟨hlen, .inr ⟨w.heap.size, 0, _, _, rfl, hbase, heap_alloc_new w.drew _, hge, hcm, ?_, ?_⟩⟩, ⟨rfl, rfl, rfl, by simp, fun b hb _ => by first | exact heap_alloc_old w.drew _ b hb | exact heap_alloc_old w.drew _ hb⟩, .inr (Nat.le_refl _), by simp⟩
    · simp only [Array.size_append, List.size_toArray, size_zeroCells, hzs, hown.1, ← Nat.add_mul]
      rw [Nat.zero_add]
      exact Nat.mul_le_mul_right _ (by omega)
    · simp only [Array.toList_append, List.append_assoc, List.drop_zero]
      rw [← List.append_assoc, ← hlen]
      exact List.take_left
  rcases hown.2 with ⟨hv, hn⟩ | ⟨g, o, cap, cur, hv, hb, hg, hnc, hcm, hsize, htk⟩
  · subst hv hn
    have hus : us = [] := List.eq_nil_of_length_eq_zero (by rw [hown.1]; simp)
    subst hus
    have h48' : ¬ (281474976710656 < Builtin.nextslicecap m 0 * i.bytes) := by rw [nextslicecap_zero hm]; omega
    have h63' : ¬ (9223372036854775807 < (m : Int)) := by omega
    refine fin 0 (by omega) ?_
    simp [Builtin.append_, run_underlying ht, run_underlying htn, sizeOf, typeInfo, zeroValue, hi, hz, asInt, asIntOf, hw, hm0, hm1, hneg, hns, h63', h48', h48i, Question.forced, run_firstCells_none, newRow, grownCap]
  · subst hv
    rcases Nat.lt_or_ge cap (n + m) with hgr | hroom
    · have hnr : ¬ (n + m ≤ cap) := by omega
      have h63' : ¬ (9223372036854775807 < ((n : Int) + (m : Int))) := by omega
      have h48' : ¬ (281474976710656 < Builtin.nextslicecap (n + m) cap * i.bytes) := by have := growslice_fits hgr hbytes; omega
      have hfo := run_firstCells_some (P := P) w.drew i.size n ⟨g, o, none⟩ n cap us hown.1 (fun j u hj => by
        rw [Addr.add_mid]
        have := hown.cells j u hj
        simpa using this)
      refine fin cap hgr ?_
      simp [Builtin.append_, run_underlying ht, run_underlying htn, sizeOf, typeInfo, zeroValue, hi, hz, asInt, asIntOf, hw, hnr, hm0, hm1, hneg, hns, h63', h48', h48i, Question.forced, hfo, newRow, grownCap]
    · obtain ⟨news, hnews⟩ : ∃ news, news = (Builtin.zeroCells z.cells m).toList := ⟨_, rfl⟩
      have hl : news.length = m * i.size := by rw [hnews, Array.length_toList, hzl]
      rw [← hnews] at h1 ⊢
      have hmul : (n + m) * i.size ≤ cap * i.size := Nat.mul_le_mul_right _ hroom
      have hnm : (n + m) * i.size = n * i.size + m * i.size := Nat.add_mul n m _
      have hfit : o + n * i.size + news.length ≤ cur.size := by omega
      have hst := run_storeCells_at (P := P) g (o + n * i.size) E news 0 cur w hg (by omega) h1
      simp only [Nat.add_zero] at hst
      have hput : cur.toList.take (o + n * i.size) ++ news ++ cur.toList.drop (o + n * i.size + news.length) = putL cur.toList (o + n * i.size) news := rfl
      rw [hput] at hst
      have hpl : (putL cur.toList (o + n * i.size) news).length = cur.toList.length := by unfold putL; simp; omega
      have hglt : g < w.heap.size := (Array.getElem?_eq_some_iff.1 hg).1
      refine ⟨g, o, cap, w.setRow g (putL cur.toList (o + n * i.size) news).toArray, ?_, ⟨by simp [hown.1, hl, hnm], .inr ⟨g, o, cap, _, rfl, hb, setRow_heap w g cur _ E (0, 0) hg, hroom, hcm, ?_, ?_⟩⟩, ⟨rfl, rfl, rfl, by simp, fun b hb' hne => setRow_other w g b _ (fun h => hne (by rw [h]; rfl))⟩, .inl rfl, by simpa using hglt⟩
      · simp [Builtin.append_, run_underlying ht, run_underlying htn, sizeOf, typeInfo, zeroValue, hi, hz, asInt, asIntOf, hw, hroom, hm0, hm1, hneg, hns, h48i, Addr.add_lit, ← hnews, hst]
      · have : (putL cur.toList (o + n * i.size) news).toArray.size = cur.size := by simpa using hpl
        omega
      · rw [List.toList_toArray, drop_putL _ _ _ _ (by simpa using hfit)]
        unfold putL
        rw [htk, List.append_assoc, List.take_append, hown.1]
        have hu : us.take ((n + m) * i.size) = us := List.take_of_length_le (by rw [hown.1]; omega)
        rw [hu, show (n + m) * i.size - n * i.size = news.length by omega, List.take_left]
theorem appendZ_ok (inv : Inv n0 Bx w B η H) (he : ∀ x ∈ o.op.operands, Rel w B η (ρA x) (ρ x)) {s x : Operand} {t tn E k by_ m : Nat} {i : TypeInfo} {z : Value} {zs : List Value} {kn kx : IntKind} {cells : List AV} (ho : o.op = .call ⟨.builtin .append, #[s, x], #[t, tn]⟩)
    (ht : P.underlying t = some (.slice E)) (hi : P.info? E = some i) (hz : i.zero = some z) (hsz : i.size = k) (hby : i.bytes = by_) (hzs : z.cells.size = k) (hk : 1 ≤ k)
    (htn : P.underlying tn = some (.int kn)) (hd : dstA H E k (ρA s) = some cells) (hx : ρA x = .c (.int kx (m : Int))) (hzl : (Builtin.zeroCells z.cells m).toList = zs) (h1 : ∀ u ∈ zs, u.oneCell' = true) (hm : cells.length / k + m ≤ maxLen) (hb : (cells.length / k + m) * by_ ≤ 140737488355328) :
    OpS P n0 Bx w ρ o B η (.own H.length) (killA H (ρA s) ++ [.own (cells ++ zs.map .c) E k]) := by
  intro N hN
  obtain ⟨n, us, hown, hrel, hbl, hex⟩ := dstA_spec inv (he s (by simp [ho, Op.operands, Call.operands])) hk hd
  have hv : ρ x = .int kx (m : Int) := by
    have := he x (by simp [ho, Op.operands, Call.operands])
    rw [hx] at this
    exact this.ofC
  have hlc : cells.length = n * k := by rw [← hrel.1]; exact hown.1
  have ik := inv.kill (ρA s)
  have klen : (killA H (ρA s)).length = H.length := by unfold killA; split <;> simp
  have hold : ∀ (id : Nat) (e : Ent), (killA H (ρA s))[id]? = some e → e.live = true → H[id]? = some e ∧ ∀ b, (ρ s).ownBlock = some b → blkOf (η.getD id undef) ≠ some b := by
    intro id e h hl
    have hH : H[id]? = some e ∧ ρA s ≠ .own id := by
      unfold killA at h
      split at h
      · rename_i id' hid'
        rw [List.getElem?_set] at h
        split at h
        · split at h
          · injection h with h; subst h; cases hl
          · cases h
        · rename_i hne; exact ⟨h, fun hh => hne (by rw [hid'] at hh; injection hh)⟩
      · rename_i hnot
        exact ⟨h, fun hh => hnot id hh⟩
    refine ⟨hH.1, fun b hb hc => ?_⟩
    obtain ⟨id2, e2, h2, h3, h4, h5⟩ := hex b hb
    exact inv.sep id2 id e2 e (fun hh => hH.2 (by rw [h2, hh])) h3 hH.1 h4 hl b h5 hc
  rcases Nat.eq_zero_or_pos m with hm0 | hmp
  · have hl0 : zs = [] := by rw [← hzl, hm0]; simp [Builtin.zeroCells]
    subst hm0
    rw [hl0] at hN
    have hrun0 := run_append_zero0 (P := P) (w := w) (ty := o.type) (kx := kx) ht htn hi (by rw [hsz]; exact hown)
    have hinv : Inv n0 Bx w B (η ++ [ρ s]) (killA H (ρA s) ++ [.own (cells ++ List.map AV.c []) E k]) := by
      refine ⟨by simp [klen, inv.len], inv.base, inv.sub, inv.lt, fun id e h => ?_, fun i j ei ej hij hi' hj hli hlj b hb' => ?_⟩
      · rcases Nat.lt_or_ge id H.length with hid | hid
        · rw [List.getElem?_append_left (by rw [klen]; exact hid)] at h
          rw [getD_push_old (by rw [inv.len]; exact hid)]
          exact EntOK.on (ik.ent id e h) (Gr.refl w) (push_old η _)
        · rw [List.getElem?_append_right (by rw [klen]; exact hid)] at h
          have : id = H.length := by have := (List.getElem?_eq_some_iff.1 h).1; rw [klen] at this; simp at this; omega
          subst this
          simp [klen] at h; subst h
          rw [← inv.len, getD_push_new]
          exact ⟨n, us, hown, by simpa using hrel.on (On.refl _ _) (fun _ h => .inl h) (push_old η _), hk, hbl⟩
      · have key : ∀ (i : Nat) (ei : Ent), (killA H (ρA s) ++ [Ent.own (cells ++ List.map AV.c []) E k])[i]? = some ei → (i < H.length ∧ (killA H (ρA s))[i]? = some ei ∧ (η ++ [ρ s]).getD i undef = η.getD i undef) ∨ (i = H.length ∧ (η ++ [ρ s]).getD i undef = ρ s) := by
          intro i ei h
          rcases Nat.lt_or_ge i H.length with hid | hid
          · exact .inl ⟨hid, by rwa [List.getElem?_append_left (by rw [klen]; exact hid)] at h, getD_push_old (by rw [inv.len]; exact hid)⟩
          · have : i = H.length := by
              rw [List.getElem?_append_right (by rw [klen]; exact hid)] at h
              have := (List.getElem?_eq_some_iff.1 h).1; rw [klen] at this; simp at this; omega
            subst this
            exact .inr ⟨rfl, by rw [← inv.len, getD_push_new]⟩
        have hos : ∀ b, blkOf (ρ s) = some b → (ρ s).ownBlock = some b := by
          intro b hb
          rcases hown.2 with ⟨hv0, _⟩ | ⟨g, oo, cap, cur, hv0, _⟩ <;> rw [hv0] at hb ⊢ <;> exact hb
        rcases key i ei hi' with ⟨h1, h2, h3⟩ | ⟨h1, h3⟩ <;> rcases key j ej hj with ⟨k1, k2, k3⟩ | ⟨k1, k3⟩
        · rw [h3] at hb'; rw [k3]; exact ik.sep i j ei ej hij h2 k2 hli hlj b hb'
        · rw [h3] at hb'; rw [k3]
          exact fun hcc => (hold i ei h2 hli).2 b (hos b hcc) hb'
        · rw [h3] at hb'; rw [k3]
          exact (hold j ej k2 hlj).2 b (hos b hb')
        · omega
    have hform : ∃ a nn cc, ρ s = .slice a nn cc := by
      rcases hown.2 with ⟨hv0, _⟩ | ⟨g, oo, cap, cur, hv0, _⟩ <;> rw [hv0] <;> exact ⟨_, _, _, rfl⟩
    obtain ⟨a0, nn, cc, hf⟩ := hform
    unfold Oper.val
    have hrun' : (execOp ρ o).run P w = .ok (.value (ρ s)) w := by
      simp only [execOp, ho, resolve, invoke, builtin, Sem.run_bind, Sem.run_pure, Result.andThen_ok, List.map_toArray, List.map_cons, List.map_nil, hv, hrun0]
    rw [hrun']
    exact hN _ _ _ _ (On.refl _ _) (fun _ h => .inl h) (push_old η _) (Below.refl _ _) hinv (by rw [hf]; exact .own _ _ _ _ _ (by rw [← inv.len, List.getElem?_append_right (Nat.le_refl _)]; simp)) (fun h => by cases h)
  have hdiv : cells.length / k = n := by rw [hlc]; exact Nat.mul_div_cancel _ hk
  rw [hdiv] at hm hb
  have hnews : RelL w B η (zs.map .c) zs := relL_c _
  obtain ⟨g, og, cap, w', hrun, hown', hgrow, hg, hglt⟩ := run_append_zeros (P := P) (ty := o.type) (kx := kx) ht htn hi hz hsz hby hzs hk hown (m := m) (by rw [hzl]; exact h1) hmp hm hb inv.base.1
  rw [hzl] at hown'
  have hng : n0 ≤ g := by
    rcases hown'.2 with ⟨hv0, _⟩ | ⟨g', o', cap', cur, hv0, hb', _⟩
    · cases hv0
    · injection hv0 with q1
      injection q1 with q1
      injection q1 with q1
      omega
  have hgB : g ∈ B ∨ w.heap.size ≤ g := hg.elim (fun h => .inl (hbl g h).1) (fun h => .inr h)
  have hon : On B w w' := ⟨hgrow.os, hgrow.tape, hgrow.output, hgrow.size, fun b hb hn => .of (hgrow.block b hb (fun h => hn (hbl b h.symm).1))⟩
  have hB : ∀ b ∈ g :: B, b ∈ B ∨ w.heap.size ≤ b := fun b hb => by rcases List.mem_cons.1 hb with rfl | h; exact hgB; exact .inl h
  have hbelow : Below n0 w w' := ⟨hgrow.os, hgrow.tape, hgrow.output, hgrow.size, fun b hb => hgrow.block b (by have := inv.base.1; omega) (fun h => by
    have hlt : n0 ≤ b := by
      rcases hown.2 with ⟨hv0, _⟩ | ⟨g', oo, cap', cur, hv0, hb', _⟩
      · rw [hv0] at h; cases h
      · rw [hv0] at h; simp [Value.ownBlock] at h; omega
    omega)⟩
  have hkeep : ∀ (id : Nat) (e : Ent), (killA H (ρA s))[id]? = some e → e.live = true → ∀ b, blkOf (η.getD id undef) = some b → w'.heap[b]? = w.heap[b]? ∧ b ≠ g := by
    intro id e h hl b hb
    obtain ⟨h1, h2⟩ := hold id e h hl
    have hlt := (EntOK.lt (inv.ent id e h1) hl b hb).1
    refine ⟨hgrow.block b hlt (fun hh => h2 b hh.symm hb), fun hh => ?_⟩
    subst hh
    rcases hg with h3 | h3
    · exact h2 b h3 hb
    · omega
  have hinv : Inv n0 Bx w' (g :: B) (η ++ [.slice (some ⟨g, og, none⟩) (n + m) cap]) (killA H (ρA s) ++ [.own (cells ++ zs.map .c) E k]) := by
    refine ⟨by simp [klen, inv.len], ⟨Nat.le_trans inv.base.1 hgrow.size, inv.base.2.on hon hB⟩, fun b hb => ⟨List.mem_cons_of_mem _ (inv.sub b hb).1, (inv.sub b hb).2⟩, fun b hb => ?_, fun id e h => ?_, fun i j ei ej hij hi' hj hli hlj b hb' => ?_⟩
    · rcases List.mem_cons.1 hb with rfl | h
      · exact hglt
      · exact Nat.lt_of_lt_of_le (inv.lt b h) hgrow.size
    · rcases Nat.lt_or_ge id H.length with hid | hid
      · rw [List.getElem?_append_left (by rw [klen]; exact hid)] at h
        rw [getD_push_old (by rw [inv.len]; exact hid)]
        exact EntOK.keep (ik.ent id e h) hon hB (fun _ h => List.mem_cons_of_mem _ h) (push_old η _) (fun hl b hb => (hkeep id e h hl b hb).1)
      · rw [List.getElem?_append_right (by rw [klen]; exact hid)] at h
        have : id = H.length := by have := (List.getElem?_eq_some_iff.1 h).1; rw [klen] at this; simp at this; omega
        subst this
        simp [klen] at h; subst h
        rw [← inv.len, getD_push_new]
        refine ⟨n + m, _, hown', (hrel.append hnews).on hon hB (push_old η _), hk, fun b hb => ?_⟩
        simp [Value.ownBlock] at hb
        subst hb
        refine ⟨List.mem_cons_self, fun hbx => ?_⟩
        have := (inv.sub _ hbx).2
        omega
    · have key : ∀ (i : Nat) (ei : Ent), (killA H (ρA s) ++ [Ent.own (cells ++ zs.map .c) E k])[i]? = some ei → (i < H.length ∧ (killA H (ρA s))[i]? = some ei ∧ (η ++ [Value.slice (some ⟨g, og, none⟩) (n + m) cap]).getD i undef = η.getD i undef) ∨ (i = H.length ∧ (η ++ [Value.slice (some ⟨g, og, none⟩) (n + m) cap]).getD i undef = Value.slice (some ⟨g, og, none⟩) (n + m) cap) := by
        intro i ei h
        rcases Nat.lt_or_ge i H.length with hid | hid
        · exact .inl ⟨hid, by rwa [List.getElem?_append_left (by rw [klen]; exact hid)] at h, getD_push_old (by rw [inv.len]; exact hid)⟩
        · have : i = H.length := by
            rw [List.getElem?_append_right (by rw [klen]; exact hid)] at h
            have := (List.getElem?_eq_some_iff.1 h).1; rw [klen] at this; simp at this; omega
          subst this
          exact .inr ⟨rfl, by rw [← inv.len, getD_push_new]⟩
      rcases key i ei hi' with ⟨h1, h2, h3⟩ | ⟨h1, h3⟩ <;> rcases key j ej hj with ⟨k1, k2, k3⟩ | ⟨k1, k3⟩
      · rw [h3] at hb'; rw [k3]; exact ik.sep i j ei ej hij h2 k2 hli hlj b hb'
      · rw [h3] at hb'; rw [k3]
        intro hcc
        have := (hkeep i ei h2 hli b hb').2
        simp [blkOf] at hcc
        omega
      · rw [h3] at hb'
        simp [blkOf] at hb'
        subst hb'
        rw [k3]
        intro hcc
        exact (hkeep j ej k2 hlj _ hcc).2 rfl
      · omega
  unfold Oper.val
  have hrun' : (execOp ρ o).run P w = .ok (.value (.slice (some ⟨g, og, none⟩) (n + m) cap)) w' := by
    simp only [execOp, ho, resolve, invoke, builtin, Sem.run_bind, Sem.run_pure, Result.andThen_ok, List.map_toArray, List.map_cons, List.map_nil, hv, hrun]
  rw [hrun']
  exact hN _ _ _ _ hon hB (push_old η _) hbelow hinv (.own _ _ _ _ _ (by rw [← inv.len, List.getElem?_append_right (Nat.le_refl _)]; simp)) (fun h => by cases h)
/-! ### What is appended to stays readable -/
theorem run_append_keep {base t ty E k by_ : Nat} {i : TypeInfo} {z : Value} (ht : P.underlying t = some (.slice E)) (hi : P.info? E = some i) (hz : i.zero = some z) (hsz : i.size = k) (hby : i.bytes = by_) (hzs : z.cells.size = k) (hk : 1 ≤ k)
    {v : Value} {n : Nat} {us : List Value} (hown : OwnAt w base E k v n us) (ad : Addr) (m c : Nat) (news : List Value) (hl : news.length = m * k) (hnews : ∀ (j : Nat) u, news[j]? = some u → w.cell? (ad.add j) = some u) (h1 : ∀ u ∈ news, u.oneCell' = true)
    (hm : 0 < m) (h63 : n + m ≤ maxLen) (hbytes : (n + m) * by_ ≤ 140737488355328) (hbase : base ≤ w.heap.size) :
    ∃ g o cap w', (Builtin.append_ #[t, t] ty #[v, .slice (some ad) m c]).run P w = .ok (.slice (some ⟨g, o, none⟩) (n + m) cap) w' ∧ OwnAt w' base E k (.slice (some ⟨g, o, none⟩) (n + m) cap) (n + m) (us ++ news) ∧
      w.grownBy w' v.ownBlock ∧ (v.ownBlock = some g ∨ w.heap.size ≤ g) ∧ g < w'.heap.size ∧ OwnAt w' base E k v n us := by
  have fresh : ∀ v' w', (Builtin.append_ #[t, t] ty #[v, .slice (some ad) m c]).run P w = .ok v' w' → w'.ownsRow w.heap.size E k v' (n + m) (us ++ news) → w.grownBy w' none → ∃ g o cap w', (Builtin.append_ #[t, t] ty #[v, .slice (some ad) m c]).run P w = .ok (.slice (some ⟨g, o, none⟩) (n + m) cap) w' ∧ OwnAt w' base E k (.slice (some ⟨g, o, none⟩) (n + m) cap) (n + m) (us ++ news) ∧ w.grownBy w' v.ownBlock ∧ (v.ownBlock = some g ∨ w.heap.size ≤ g) ∧ g < w'.heap.size ∧ OwnAt w' base E k v n us := by
    intro v' w' hr h2 h3
    obtain ⟨g, cap, hv', hbg, hlt⟩ := h2.form (by omega)
    subst hv'
    refine ⟨g, 0, cap, w', hr, .row h2 hbase, ⟨h3.os, h3.tape, h3.output, h3.size, fun b hb _ => h3.block b hb (by simp)⟩, .inr hbg, hlt, hown.1, ?_⟩
    rcases hown.2 with hn | ⟨g2, o2, cap2, cur, hv, hb, hg, rest⟩
    · exact .inl hn
    · exact .inr ⟨g2, o2, cap2, cur, hv, hb, by rw [h3.block g2 (Array.getElem?_eq_some_iff.1 hg).1 (by simp)]; exact hg, rest⟩
  rcases hown.2 with ⟨hv, hn⟩ | ⟨g, o, cap, cur, hv, hb, hg, hnc, hcm, hsize, htk⟩
  · obtain ⟨g, o, cap, w', r1, r2, r3, r4, r5⟩ := run_append_at (P := P) (ty := ty) ht hi hz hsz hby hzs hk hown ad m c news hl hnews h1 hm h63 hbytes hbase
    exact ⟨g, o, cap, w', r1, r2, r3, r4, r5, hown.1, .inl ⟨hv, hn⟩⟩
  · subst hv
    rcases Nat.lt_or_ge cap (n + m) with hgr | hroom
    · obtain ⟨v', w', hr, h2, h3⟩ := run_append_arg_grows (P := P) w t ty E i z k by_ ht hi hz hsz hby hzs hk ⟨g, o, none⟩ n cap us hown.1 (fun j u hj => by rw [Addr.add_mid]; exact hown.cells j u hj) ad m c news hl hnews hgr h63 hbytes
      exact fresh v' w' hr h2 h3
    · have hmul : (n + m) * k ≤ cap * k := Nat.mul_le_mul_right k hroom
      have hnm : (n + m) * k = n * k + m * k := Nat.add_mul n m k
      have hfit : o + n * k + news.length ≤ cur.size := by omega
      have hst := run_storeCells_at (P := P) g (o + n * k) E news 0 cur w hg (by omega) h1
      simp only [Nat.add_zero] at hst
      have hfc := run_firstCells_some (P := P) w k m ad m c news hl hnews
      have hput : cur.toList.take (o + n * k) ++ news ++ cur.toList.drop (o + n * k + news.length) = putL cur.toList (o + n * k) news := rfl
      rw [hput] at hst
      have hpl : (putL cur.toList (o + n * k) news).length = cur.toList.length := by unfold putL; simp; omega
      have hglt : g < w.heap.size := (Array.getElem?_eq_some_iff.1 hg).1
      have hsz' : (putL cur.toList (o + n * k) news).toArray.size = cur.size := by simpa using hpl
      have htk2 : ((putL cur.toList (o + n * k) news).toArray.toList.drop o).take ((n + m) * k) = us ++ news := by
        rw [List.toList_toArray, drop_putL _ _ _ _ (by simpa using hfit)]
        unfold putL
        rw [htk, List.append_assoc, List.take_append, hown.1]
        have hu : us.take ((n + m) * k) = us := List.take_of_length_le (by rw [hown.1]; omega)
        rw [hu, show (n + m) * k - n * k = news.length by omega, List.take_left]
      refine ⟨g, o, cap, w.setRow g (putL cur.toList (o + n * k) news).toArray, ?_, ⟨by simp [hown.1, hl, hnm], .inr ⟨g, o, cap, _, rfl, hb, setRow_heap w g cur _ E (0, 0) hg, hroom, hcm, by omega, htk2⟩⟩, ⟨rfl, rfl, rfl, by simp, fun b hb' hne => setRow_other w g b _ (fun h => hne (by rw [h]; rfl))⟩, .inl rfl, by simpa using hglt, hown.1, .inr ⟨g, o, cap, _, rfl, hb, setRow_heap w g cur _ E (0, 0) hg, hnc, hcm, by omega, ?_⟩⟩
      · simp [Builtin.append_, run_underlying ht, sizeOf, typeInfo, hi, hsz, Builtin.lenOf, hroom, hfc, Addr.add_lit, hst]
      · have : ((putL cur.toList (o + n * k) news).toArray.toList.drop o).take (n * k) = (((putL cur.toList (o + n * k) news).toArray.toList.drop o).take ((n + m) * k)).take (n * k) := by rw [List.take_take, Nat.min_eq_left (by omega)]
        rw [this, htk2, ← hown.1, List.take_left]
theorem append_keep (inv : Inv n0 Bx w B η H) {s x : Operand} {t E k by_ id : Nat} {i : TypeInfo} {z : Value} {cells l : List AV} (ho : o.op = .call ⟨.builtin .append, #[s, x], #[t, t]⟩)
    (hse : Rel w B η (.own id) (ρ s)) (hxe : Rel w B η (ρA x) (ρ x))
    (ht : P.underlying t = some (.slice E)) (hi : P.info? E = some i) (hz : i.zero = some z) (hsz : i.size = k) (hby : i.bytes = by_) (hzs : z.cells.size = k) (hk : 1 ≤ k)
    (hH : H[id]? = some (.own cells E k)) (hs : srcA H k (ρA x) = some l) (h1 : l.all AV.one = true) (himm : (cells ++ l).all AV.imm0 = true) (hm : (cells.length + l.length) / k ≤ maxLen) (hb : (cells.length + l.length) / k * by_ ≤ 140737488355328) :
    ∃ v' w', (execOp ρ o).run P w = .ok (.value v') w' ∧ On B w w' ∧ Below n0 w w' ∧ Inv n0 Bx w' B η H ∧ ∀ (B' : List Nat) (η' : List Value), (∀ b ∈ B', b ∈ B) → (∀ b, blkOf (η.getD id undef) = some b → b ∉ B') → Rel w' B' η' (.sl (cells ++ l) k) v' := by
  cases hse' : ρ s with
  | slice a0 nn0 cc0 =>
    rw [hse'] at hse
    cases hse with
    | own _ _ _ _ _ hid =>
    have hent := inv.ent id _ hH
    have hg0 : η.getD id undef = .slice a0 nn0 cc0 := by simp [List.getD_eq_getElem?_getD, hid]
    rw [hg0] at hent
    rw [hg0]
    obtain ⟨n, us, hown, hrel, _, hbl⟩ := hent
    obtain rfl := hown.len
    obtain ⟨A, m, c, vs, hv, hn, hA, hr⟩ := srcA_spec hxe hk hs
    have hlc : cells.length = nn0 * k := by rw [← hrel.1]; exact hown.1
    have hos : ∀ b, (Value.slice a0 nn0 cc0).ownBlock = some b → blkOf (.slice a0 nn0 cc0) = some b := fun b hb => by
      rcases hown.2 with ⟨hv0, _⟩ | ⟨g, oo, cap, cur, hv0, _⟩ <;> rw [hv0] at hb ⊢ <;> exact hb
    have hrow : ∀ {w' : World} {v' : Value} {n' : Nat} {us' : List Value} {cs : List AV} {η2 : List Value}, OwnAt w' n0 E k v' n' us' → RelL w' B η2 cs us' → cs.all AV.imm0 = true → ∀ (B' : List Nat) (η' : List Value), (∀ b ∈ B', b ∈ B) → (∀ b, v'.ownBlock = some b → b ∉ B') → Rel w' B' η' (.sl cs k) v' := by
      intro w' v' n' us' cs η2 ho' hr' hi' B' η' hB' hb'
      have hlen : n' * k = cs.length := by rw [← hr'.1]; exact ho'.1.symm
      have hrel' : ∀ i x, cs[i]? = some x → Rel w' B' [] x (us'.getD i undef) := fun i x hx => by
        obtain ⟨u, q1, q2⟩ := hr'.2 i x hx
        rw [List.getD_eq_getElem?_getD, q1, Option.getD_some]
        exact ((q2.bare0 (List.all_eq_true.1 hi' x (List.mem_of_getElem? hx))) : Rel w' B [] x u).on (On.refl B w') (fun b hb => .inl (hB' b hb)) (fun _ _ h => h)
      rcases ho'.2 with ⟨hv0, hn0⟩ | ⟨g, oo, cap, cur, hv0, hbb, hgg, hnc, hcm, hsz', htk⟩
      · subst hv0 hn0
        exact .sl _ _ _ _ _ _ _ hk hlen (Nat.le_refl _) (Nat.zero_le _) (fun h0 => absurd h0 (by omega)) hrel'
      · subst hv0
        refine .sl _ _ _ _ _ _ _ hk hlen hnc hcm (fun h0 => ⟨_, rfl, rfl, (Array.getElem?_eq_some_iff.1 hgg).1, hb' g rfl, fun i hi => ?_⟩) hrel'
        have hi'' : i < us'.length := by rw [hr'.1]; exact hi
        rw [Addr.add_mid, ho'.cells i _ (List.getElem?_eq_getElem hi''), List.getD_eq_getElem?_getD, List.getElem?_eq_getElem hi'', Option.getD_some]
    rcases Nat.eq_zero_or_pos m with hm0 | hmp
    · have hl0 : l = [] := List.eq_nil_of_length_eq_zero (by rw [← hn, hm0]; simp)
      subst hl0
      have hrun0 := run_append_none (P := P) (w := w) (ty := o.type) (A := A) (c := c) ht hi (by rw [hsz]; exact hown) hm0
      refine ⟨.slice a0 nn0 cc0, w, ?_, On.refl _ _, Below.refl _ _, inv, fun B' η' hB' hb' => ?_⟩
      · simp only [execOp, ho, resolve, invoke, builtin, Sem.run_bind, Sem.run_pure, Result.andThen_ok, List.map_toArray, List.map_cons, List.map_nil, hv, hse', hrun0]
      · rw [List.append_nil] at himm ⊢
        exact hrow hown hrel himm B' η' hB' (fun b hb => hb' b (hos b hb))
    · obtain ⟨ad, hA1, hat⟩ := hA hmp
      subst hA1
      have hnews : RelL w B η l ((List.range l.length).map vs) := ⟨by simp, fun i y hy => by
        have hlt : i < l.length := (List.getElem?_eq_some_iff.1 hy).1
        exact ⟨vs i, by simp [hlt], (hr i y hy).any⟩⟩
      have hdiv : (cells.length + l.length) / k = nn0 + m := by rw [hlc, ← hn, ← Nat.add_mul]; exact Nat.mul_div_cancel _ hk
      rw [hdiv] at hm hb
      obtain ⟨g, og, cap, w', hrun, hown', hgrow, hg, hglt, hkeep⟩ := run_append_keep (P := P) (ty := o.type) ht hi hz hsz hby hzs hk hown ad m c ((List.range l.length).map vs)
        (by simp [hn]) (fun j u hj => by
          have hlt : j < l.length := by have := (List.getElem?_eq_some_iff.1 hj).1; simpa using this
          rw [hat.cell j hlt]
          simp [hlt] at hj
          rw [hj]) (hnews.one h1) hmp hm hb inv.base.1
      have hon : On B w w' := ⟨hgrow.os, hgrow.tape, hgrow.output, hgrow.size, fun b hb hn => .of (hgrow.block b hb (fun h => hn (hbl b h.symm).1))⟩
      have hbelow : Below n0 w w' := ⟨hgrow.os, hgrow.tape, hgrow.output, hgrow.size, fun b hb => hgrow.block b (by have := inv.base.1; omega) (fun h => by
        have hlt : n0 ≤ b := by
          rcases hown.2 with ⟨hv0, _⟩ | ⟨g', oo, cap', cur, hv0, hb', _⟩
          · rw [hv0] at h; cases h
          · rw [hv0] at h; simp [Value.ownBlock] at h; omega
        omega)⟩
      refine ⟨.slice (some ⟨g, og, none⟩) (nn0 + m) cap, w', ?_, hon, hbelow, ?_, fun B' η' hB' hb' => ?_⟩
      · simp only [execOp, ho, resolve, invoke, builtin, Sem.run_bind, Sem.run_pure, Result.andThen_ok, List.map_toArray, List.map_cons, List.map_nil, hv, hse', hrun]
      · refine ⟨inv.len, ⟨Nat.le_trans inv.base.1 hgrow.size, inv.base.2.on hon (fun _ h => .inl h)⟩, inv.sub, fun b hb => Nat.lt_of_lt_of_le (inv.lt b hb) hgrow.size, fun j e he => ?_, inv.sep⟩
        by_cases hj : j = id
        · subst hj
          rw [hH] at he
          injection he with he
          subst he
          rw [hg0]
          exact ⟨nn0, us, hkeep, hrel.on hon (fun _ h => .inl h) (fun _ _ h => h), hk, hbl⟩
        · refine EntOK.keep (inv.ent j e he) hon (fun _ h => .inl h) (fun _ h => h) (fun _ _ h => h) (fun hl b hb => ?_)
          have hlt := (EntOK.lt (inv.ent j e he) hl b hb).1
          refine hgrow.block b hlt (fun h => ?_)
          have := inv.sep id j _ e (fun h => hj h.symm) hH he rfl hl b (by rw [hg0]; exact hos b h.symm)
          exact this hb
      · refine hrow hown' ((hrel.append hnews).on hon (fun _ h => .inl h) (fun _ _ h => h)) himm B' η' hB' (fun b hb hc => ?_)
        simp [Value.ownBlock] at hb
        subst hb
        rcases hg with h | h
        · exact hb' _ (hos _ h) hc
        · have := inv.lt _ (hB' _ hc)
          omega
  | _ => rw [hse'] at hse; cases hse
end
end Go.Proofs.Ytpijcgohhjgdbaa
