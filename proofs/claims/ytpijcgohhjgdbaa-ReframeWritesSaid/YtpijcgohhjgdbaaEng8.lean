/-
  Append.
-/
import Derived.Test.YtpijcgohhjgdbaaEng7
import Derived.ArgAppend
namespace Go.Proofs.Ytpijcgohhjgdbaa
set_option maxRecDepth 100000
open Go.RowKit
set_option linter.unusedVariables false
set_option linter.unusedSimpArgs false

/-- What stands behind a slice that is appended: its cells, and their width. -/
def srcA (H : List Ent) (k : Nat) : AV → Option (List AV)
  | .sl l k' => if k' = k then some l else none
  | .emp => some []
  | .c (.slice none n c) => if n = 0 then some [] else none
  | .c (.slice (some _) 0 _) => some []
  | _ => none
/-- What is appended to: its cells. -/
def dstA (H : List Ent) (E k : Nat) : AV → Option (List AV)
  | .c (.slice none n c) => if n = 0 ∧ c = 0 then some [] else none
  | .own id => match H[id]? with | some (.own cells E' k') => if E' = E ∧ k' = k then some cells else none | _ => none
  | _ => none
def killA (H : List Ent) : AV → List Ent
  | .own id => H.set id .dead
  | _ => H
section
variable {P : Program} {w w' : World} {B : List Nat} {η : List Value} {H : List Ent} {ρ : Operand → Value} {ρA : Operand → AV} {o : Oper} {C : Con} {n0 : Nat} {Bx : List Nat}
theorem Inv.kill (inv : Inv n0 Bx w B η H) (x : AV) : Inv n0 Bx w B η (killA H x) := by
  unfold killA
  split
  · rename_i id
    refine ⟨by simp [inv.len], inv.base, inv.sub, inv.lt, fun i ei hi => ?_, fun i j ei ej hij hi hj hli hlj => ?_⟩
    · rw [List.getElem?_set] at hi
      split at hi
      · split at hi
        · injection hi with hi; subst hi; trivial
        · cases hi
      · exact inv.ent i ei hi
    · have key : ∀ (i : Nat) (ei : Ent), (H.set id .dead)[i]? = some ei → ei.live = true → H[i]? = some ei := by
        intro i ei h hl
        rw [List.getElem?_set] at h
        split at h
        · split at h
          · injection h with h; subst h; cases hl
          · cases h
        · exact h
      exact inv.sep i j ei ej hij (key i ei hi hli) (key j ej hj hlj) hli hlj
  · exact inv
theorem dstA_spec (inv : Inv n0 Bx w B η H) {x : AV} {v : Value} {E k : Nat} {cells : List AV} (hx : Rel w B η x v) (hk : 1 ≤ k) (h : dstA H E k x = some cells) :
    ∃ n us, OwnAt w n0 E k v n us ∧ RelL w B η cells us ∧ (∀ b, v.ownBlock = some b → b ∈ B ∧ b ∉ Bx) ∧ ∀ b, v.ownBlock = some b → ∃ id e, x = .own id ∧ H[id]? = some e ∧ e.live = true ∧ blkOf (η.getD id undef) = some b := by
  unfold dstA at h
  split at h
  · rename_i n c
    split at h
    · rename_i hnc
      injection h with h; subst h
      obtain ⟨rfl, rfl⟩ := hnc
      have := hx.ofC
      subst this
      exact ⟨0, [], OwnAt.nil w n0 E k, RelL.nil _ _ _, (fun b hb => by cases hb), (fun b hb => by cases hb)⟩
    · cases h
  · rename_i id
    split at h
    · rename_i cells' E' k' hH
      split at h
      · rename_i hc
        injection h with h; subst h
        obtain ⟨rfl, rfl⟩ := hc
        cases hx with
        | own _ _ a n c hid =>
          have hent := inv.ent id _ hH
          have hg : η.getD id undef = .slice a n c := by simp [List.getD_eq_getElem?_getD, hid]
          rw [hg] at hent
          obtain ⟨n', us, h1, h2, h3, h4⟩ := hent
          exact ⟨n', us, h1, h2, h4, fun b hb => ⟨id, _, rfl, hH, rfl, by
            rw [hg]
            cases a with
            | none => cases hb
            | some ad => exact hb⟩⟩
      · cases h
    · cases h
  · cases h
theorem srcA_spec {x : AV} {v : Value} {k : Nat} {l : List AV} (hx : Rel w B η x v) (hk : 1 ≤ k) (h : srcA H k x = some l) : ∃ A n c us, v = .slice A n c ∧ n * k = l.length ∧ (0 < n → ∃ ad, A = some ad ∧ At w B ad l.length us) ∧ ∀ i x, l[i]? = some x → Rel w B [] x (us i) := by
  unfold srcA at h
  split at h
  · split at h
    · rename_i hkk
      injection h with h; subst h hkk
      obtain ⟨A, n, c, us, hv, _, hn, _, _, hA, hr⟩ := hx.slL
      exact ⟨A, n, c, us, hv, hn, hA, hr⟩
    · cases h
  · injection h with h; subst h
    cases hx with
    | emp _ A => exact ⟨A, 0, 0, fun _ => undef, rfl, by simp, fun h => absurd h (by omega), fun i x hx => by simp at hx⟩
  · rename_i n c
    split at h
    · rename_i hn
      injection h with h; subst h hn
      have := hx.ofC
      exact ⟨none, 0, c, fun _ => undef, this, by simp, fun h => absurd h (by omega), fun i x hx => by simp at hx⟩
    · cases h
  · rename_i A0 c
    injection h with h; subst h
    exact ⟨some A0, 0, c, fun _ => undef, hx.ofC, by simp, fun h => absurd h (by omega), fun i x hx => by simp at hx⟩
  · cases h
theorem run_append_none {base t ty e n m c : Nat} {i : TypeInfo} {v : Value} {xs : List Value} {A : Option Addr} (ht : P.underlying t = some (.slice e)) (hi : P.info? e = some i) (hown : OwnAt w base e i.size v n xs) (hm : m = 0) :
    (Builtin.append_ #[t, t] ty #[v, .slice A m c]).run P w = .ok v w := by
  subst hm
  rcases hown.2 with ⟨rfl, rfl⟩ | ⟨g, oo, cap, cur, rfl, _, _, hnc, _⟩
  · cases A <;> simp [Builtin.append_, run_underlying ht, sizeOf, typeInfo, hi, Builtin.lenOf, Builtin.firstCells, loadCells, loadCellsFrom]
  · cases A <;> simp [Builtin.append_, run_underlying ht, sizeOf, typeInfo, hi, Builtin.lenOf, Builtin.firstCells, hnc, storeCells, loadCells, loadCellsFrom]
/-- Append to a slice of the call's own, at whatever place. -/
theorem run_append_at {base t ty E k by_ : Nat} {i : TypeInfo} {z : Value} (ht : P.underlying t = some (.slice E)) (hi : P.info? E = some i) (hz : i.zero = some z) (hsz : i.size = k) (hby : i.bytes = by_) (hzs : z.cells.size = k) (hk : 1 ≤ k)
    {v : Value} {n : Nat} {us : List Value} (hown : OwnAt w base E k v n us) (ad : Addr) (m c : Nat) (news : List Value) (hl : news.length = m * k) (hnews : ∀ (j : Nat) u, news[j]? = some u → w.cell? (ad.add j) = some u) (h1 : ∀ u ∈ news, u.oneCell' = true)
    (hm : 0 < m) (h63 : n + m ≤ maxLen) (hbytes : (n + m) * by_ ≤ 140737488355328) (hbase : base ≤ w.heap.size) :
    ∃ g o cap w', (Builtin.append_ #[t, t] ty #[v, .slice (some ad) m c]).run P w = .ok (.slice (some ⟨g, o, none⟩) (n + m) cap) w' ∧ OwnAt w' base E k (.slice (some ⟨g, o, none⟩) (n + m) cap) (n + m) (us ++ news) ∧
      w.grownBy w' v.ownBlock ∧ (v.ownBlock = some g ∨ w.heap.size ≤ g) ∧ g < w'.heap.size := by
  have fresh : ∀ v' w', (Builtin.append_ #[t, t] ty #[v, .slice (some ad) m c]).run P w = .ok v' w' → w'.ownsRow w.heap.size E k v' (n + m) (us ++ news) → w.grownBy w' none → ∃ g o cap w', (Builtin.append_ #[t, t] ty #[v, .slice (some ad) m c]).run P w = .ok (.slice (some ⟨g, o, none⟩) (n + m) cap) w' ∧ OwnAt w' base E k (.slice (some ⟨g, o, none⟩) (n + m) cap) (n + m) (us ++ news) ∧ w.grownBy w' v.ownBlock ∧ (v.ownBlock = some g ∨ w.heap.size ≤ g) ∧ g < w'.heap.size := by
    intro v' w' hr h2 h3
    obtain ⟨g, cap, hv', hbg, hlt⟩ := h2.form (by omega)
    subst hv'
    exact ⟨g, 0, cap, w', hr, .row h2 hbase, ⟨h3.os, h3.tape, h3.output, h3.size, fun b hb _ => h3.block b hb (by simp)⟩, .inr hbg, hlt⟩
  rcases hown.2 with ⟨hv, hn⟩ | ⟨g, o, cap, cur, hv, hb, hg, hnc, hcm, hsize, htk⟩
  · subst hv hn
    have hus : us = [] := List.eq_nil_of_length_eq_zero (by rw [hown.1]; simp)
    subst hus
    obtain ⟨v', w', hr, h2, h3, _, h5⟩ := run_append_own_at (P := P) w base t ty E i z k by_ ht hi hz hsz hby hzs hk _ 0 [] (World.ownsRow_nil _ _ _ _) ad m c news hl hnews h1 h63 hbytes hbase
    obtain ⟨g, cap, hv', hbg, hlt⟩ := h2.form (by omega)
    subst hv'
    exact ⟨g, 0, cap, w', hr, .row h2 (Nat.le_refl _), h3, by
      rcases h5 with h5 | h5
      · cases h5
      · exact .inr (Nat.le_of_eq (Option.some.inj h5).symm), hlt⟩
  · subst hv
    rcases Nat.lt_or_ge cap (n + m) with hgr | hroom
    · obtain ⟨v', w', hr, h2, h3⟩ := run_append_arg_grows (P := P) w t ty E i z k by_ ht hi hz hsz hby hzs hk ⟨g, o, none⟩ n cap us hown.1 (fun j u hj => by rw [Addr.add_mid]; exact hown.cells j u hj) ad m c news hl hnews hgr h63 hbytes
      exact fresh v' w' hr h2 h3
    · have hmul : (n + m) * k ≤ cap * k := Nat.mul_le_mul_right k hroom
      have hnm : (n + m) * k = n * k + m * k := Nat.add_mul n m k
      have hfit : o + n * k + news.length ≤ cur.size := by omega
      have hst := run_storeCells_at (P := P) g (o + n * k) E news 0 cur w hg (by omega) h1
      simp only [Nat.add_zero] at hst
      have hfc := run_firstCells_some (P := P) w k m ad m c news hl hnews
      have hput : cur.toList.take (o + n * k) ++ news ++ cur.toList.drop (o + n * k + news.length) = putL cur.toList (o + n * k) news := rfl
      rw [hput] at hst
      have hpl : (putL cur.toList (o + n * k) news).length = cur.toList.length := by unfold putL; simp; omega
      have hglt : g < w.heap.size := (Array.getElem?_eq_some_iff.1 hg).1
      refine ⟨g, o, cap, w.setRow g (putL cur.toList (o + n * k) news).toArray, ?_, ⟨by simp [hown.1, hl, hnm], .inr ⟨g, o, cap, _, rfl, hb, setRow_heap w g cur _ E (0, 0) hg, hroom, hcm, ?_, ?_⟩⟩, ⟨rfl, rfl, rfl, by simp, fun b hb' hne => setRow_other w g b _ (fun h => hne (by rw [h]; rfl))⟩, .inl rfl, by simpa using hglt⟩
      · simp [Builtin.append_, run_underlying ht, sizeOf, typeInfo, hi, hsz, Builtin.lenOf, hroom, hfc, Addr.add_lit, hst]
      · have : (putL cur.toList (o + n * k) news).toArray.size = cur.size := by simpa using hpl
        omega
      · rw [List.toList_toArray, drop_putL _ _ _ _ (by simpa using hfit)]
        unfold putL
        rw [htk, List.append_assoc, List.take_append, hown.1]
        have hu : us.take ((n + m) * k) = us := List.take_of_length_le (by rw [hown.1]; omega)
        rw [hu, show (n + m) * k - n * k = news.length by omega, List.take_left]
theorem append_ok (inv : Inv n0 Bx w B η H) (he : ∀ x ∈ o.op.operands, Rel w B η (ρA x) (ρ x)) {s x : Operand} {t E k by_ : Nat} {i : TypeInfo} {z : Value} {cells l : List AV} (ho : o.op = .call ⟨.builtin .append, #[s, x], #[t, t]⟩)
    (ht : P.underlying t = some (.slice E)) (hi : P.info? E = some i) (hz : i.zero = some z) (hsz : i.size = k) (hby : i.bytes = by_) (hzs : z.cells.size = k) (hk : 1 ≤ k)
    (hd : dstA H E k (ρA s) = some cells) (hs : srcA H k (ρA x) = some l) (h1 : l.all AV.one = true) (hm : (cells.length + l.length) / k ≤ maxLen) (hb : (cells.length + l.length) / k * by_ ≤ 140737488355328) :
    OpS P n0 Bx w ρ o B η (.own H.length) (killA H (ρA s) ++ [.own (cells ++ l) E k]) := by
  intro N hN
  obtain ⟨n, us, hown, hrel, hbl, hex⟩ := dstA_spec inv (he s (by simp [ho, Op.operands, Call.operands])) hk hd
  obtain ⟨A, m, c, vs, hv, hn, hA, hr⟩ := srcA_spec (he x (by simp [ho, Op.operands, Call.operands])) hk hs
  have hlc : cells.length = n * k := by rw [← hrel.1]; exact hown.1
  have ik := inv.kill (ρA s)
  have klen : (killA H (ρA s)).length = H.length := by unfold killA; split <;> simp
  have hold : ∀ (id : Nat) (e : Ent), (killA H (ρA s))[id]? = some e → e.live = true → H[id]? = some e ∧ ∀ b, (ρ s).ownBlock = some b → blkOf (η.getD id undef) ≠ some b := by
    intro id e h hl
    have hH : H[id]? = some e ∧ ρA s ≠ .own id := by
      unfold killA at h
      split at h
      · rename_i id' hid'
        rw [List.getElem?_set] at h
        split at h
        · split at h
          · injection h with h; subst h; cases hl
          · cases h
        · rename_i hne; exact ⟨h, fun hh => hne (by rw [hid'] at hh; injection hh)⟩
      · rename_i hnot
        exact ⟨h, fun hh => hnot id hh⟩
    refine ⟨hH.1, fun b hb hc => ?_⟩
    obtain ⟨id2, e2, h2, h3, h4, h5⟩ := hex b hb
    exact inv.sep id2 id e2 e (fun hh => hH.2 (by rw [h2, hh])) h3 hH.1 h4 hl b h5 hc
  rcases Nat.eq_zero_or_pos m with hm0 | hmp
  · have hl0 : l = [] := List.eq_nil_of_length_eq_zero (by rw [← hn, hm0]; simp)
    subst hl0
    have hrun0 := run_append_none (P := P) (w := w) (ty := o.type) (A := A) (c := c) ht hi (by rw [hsz]; exact hown) hm0
    have hinv : Inv n0 Bx w B (η ++ [ρ s]) (killA H (ρA s) ++ [.own (cells ++ []) E k]) := by
      refine ⟨by simp [klen, inv.len], inv.base, inv.sub, inv.lt, fun id e h => ?_, fun i j ei ej hij hi' hj hli hlj b hb' => ?_⟩
      · rcases Nat.lt_or_ge id H.length with hid | hid
        · rw [List.getElem?_append_left (by rw [klen]; exact hid)] at h
          rw [getD_push_old (by rw [inv.len]; exact hid)]
          exact EntOK.on (ik.ent id e h) (Gr.refl w) (push_old η _)
        · rw [List.getElem?_append_right (by rw [klen]; exact hid)] at h
          have : id = H.length := by have := (List.getElem?_eq_some_iff.1 h).1; rw [klen] at this; simp at this; omega
          subst this
          simp [klen] at h; subst h
          rw [← inv.len, getD_push_new]
          exact ⟨n, us, hown, by simpa using hrel.on (On.refl _ _) (fun _ h => .inl h) (push_old η _), hk, hbl⟩
      · have key : ∀ (i : Nat) (ei : Ent), (killA H (ρA s) ++ [Ent.own (cells ++ []) E k])[i]? = some ei → (i < H.length ∧ (killA H (ρA s))[i]? = some ei ∧ (η ++ [ρ s]).getD i undef = η.getD i undef) ∨ (i = H.length ∧ (η ++ [ρ s]).getD i undef = ρ s) := by
          intro i ei h
          rcases Nat.lt_or_ge i H.length with hid | hid
          · exact .inl ⟨hid, by rwa [List.getElem?_append_left (by rw [klen]; exact hid)] at h, getD_push_old (by rw [inv.len]; exact hid)⟩
          · have : i = H.length := by
              rw [List.getElem?_append_right (by rw [klen]; exact hid)] at h
              have := (List.getElem?_eq_some_iff.1 h).1; rw [klen] at this; simp at this; omega
            subst this
            exact .inr ⟨rfl, by rw [← inv.len, getD_push_new]⟩
        have hos : ∀ b, blkOf (ρ s) = some b → (ρ s).ownBlock = some b := by
          intro b hb
          rcases hown.2 with ⟨hv0, _⟩ | ⟨g, oo, cap, cur, hv0, _⟩ <;> rw [hv0] at hb ⊢ <;> exact hb
        rcases key i ei hi' with ⟨h1, h2, h3⟩ | ⟨h1, h3⟩ <;> rcases key j ej hj with ⟨k1, k2, k3⟩ | ⟨k1, k3⟩
        · rw [h3] at hb'; rw [k3]; exact ik.sep i j ei ej hij h2 k2 hli hlj b hb'
        · rw [h3] at hb'; rw [k3]
          exact fun hcc => (hold i ei h2 hli).2 b (hos b hcc) hb'
        · rw [h3] at hb'; rw [k3]
          exact (hold j ej k2 hlj).2 b (hos b hb')
        · omega
    have hform : ∃ a nn cc, ρ s = .slice a nn cc := by
      rcases hown.2 with ⟨hv0, _⟩ | ⟨g, oo, cap, cur, hv0, _⟩ <;> rw [hv0] <;> exact ⟨_, _, _, rfl⟩
    obtain ⟨a0, nn, cc, hf⟩ := hform
    unfold Oper.val
    have hrun' : (execOp ρ o).run P w = .ok (.value (ρ s)) w := by
      simp only [execOp, ho, resolve, invoke, builtin, Sem.run_bind, Sem.run_pure, Result.andThen_ok, List.map_toArray, List.map_cons, List.map_nil, hv, hrun0]
    rw [hrun']
    exact hN _ _ _ _ (On.refl _ _) (fun _ h => .inl h) (push_old η _) (Below.refl _ _) hinv (by rw [hf]; exact .own _ _ _ _ _ (by rw [← inv.len, List.getElem?_append_right (Nat.le_refl _)]; simp)) (fun h => by cases h)
  obtain ⟨ad, hA1, hat⟩ := hA hmp
  subst hA1
  have hnews : RelL w B η l ((List.range l.length).map vs) := ⟨by simp, fun i y hy => by
    have hlt : i < l.length := (List.getElem?_eq_some_iff.1 hy).1
    exact ⟨vs i, by simp [hlt], (hr i y hy).any⟩⟩
  have hdiv : (cells.length + l.length) / k = n + m := by rw [hlc, ← hn, ← Nat.add_mul]; exact Nat.mul_div_cancel _ hk
  rw [hdiv] at hm hb
  obtain ⟨g, og, cap, w', hrun, hown', hgrow, hg, hglt⟩ := run_append_at (P := P) (ty := o.type) ht hi hz hsz hby hzs hk hown ad m c ((List.range l.length).map vs)
    (by simp [hn]) (fun j u hj => by
      have hlt : j < l.length := by have := (List.getElem?_eq_some_iff.1 hj).1; simpa using this
      rw [hat.cell j hlt]
      simp [hlt] at hj
      rw [hj]) (hnews.one h1) hmp hm hb inv.base.1
  have hng : n0 ≤ g := by
    rcases hown'.2 with ⟨hv0, _⟩ | ⟨g', o', cap', cur, hv0, hb', _⟩
    · cases hv0
    · injection hv0 with q1
      injection q1 with q1
      injection q1 with q1
      omega
  have hgB : g ∈ B ∨ w.heap.size ≤ g := hg.elim (fun h => .inl (hbl g h).1) (fun h => .inr h)
  have hon : On B w w' := ⟨hgrow.os, hgrow.tape, hgrow.output, hgrow.size, fun b hb hn => .of (hgrow.block b hb (fun h => hn (hbl b h.symm).1))⟩
  have hB : ∀ b ∈ g :: B, b ∈ B ∨ w.heap.size ≤ b := fun b hb => by rcases List.mem_cons.1 hb with rfl | h; exact hgB; exact .inl h
  have hbelow : Below n0 w w' := ⟨hgrow.os, hgrow.tape, hgrow.output, hgrow.size, fun b hb => hgrow.block b (by have := inv.base.1; omega) (fun h => by
    have hlt : n0 ≤ b := by
      rcases hown.2 with ⟨hv0, _⟩ | ⟨g', oo, cap', cur, hv0, hb', _⟩
      · rw [hv0] at h; cases h
      · rw [hv0] at h; simp [Value.ownBlock] at h; omega
    omega)⟩
  have hkeep : ∀ (id : Nat) (e : Ent), (killA H (ρA s))[id]? = some e → e.live = true → ∀ b, blkOf (η.getD id undef) = some b → w'.heap[b]? = w.heap[b]? ∧ b ≠ g := by
    intro id e h hl b hb
    obtain ⟨h1, h2⟩ := hold id e h hl
    have hlt := (EntOK.lt (inv.ent id e h1) hl b hb).1
    refine ⟨hgrow.block b hlt (fun hh => h2 b hh.symm hb), fun hh => ?_⟩
    subst hh
    rcases hg with h3 | h3
    · exact h2 b h3 hb
    · omega
  have hinv : Inv n0 Bx w' (g :: B) (η ++ [.slice (some ⟨g, og, none⟩) (n + m) cap]) (killA H (ρA s) ++ [.own (cells ++ l) E k]) := by
    refine ⟨by simp [klen, inv.len], ⟨Nat.le_trans inv.base.1 hgrow.size, inv.base.2.on hon hB⟩, fun b hb => ⟨List.mem_cons_of_mem _ (inv.sub b hb).1, (inv.sub b hb).2⟩, fun b hb => ?_, fun id e h => ?_, fun i j ei ej hij hi' hj hli hlj b hb' => ?_⟩
    · rcases List.mem_cons.1 hb with rfl | h
      · exact hglt
      · exact Nat.lt_of_lt_of_le (inv.lt b h) hgrow.size
    · rcases Nat.lt_or_ge id H.length with hid | hid
      · rw [List.getElem?_append_left (by rw [klen]; exact hid)] at h
        rw [getD_push_old (by rw [inv.len]; exact hid)]
        exact EntOK.keep (ik.ent id e h) hon hB (fun _ h => List.mem_cons_of_mem _ h) (push_old η _) (fun hl b hb => (hkeep id e h hl b hb).1)
      · rw [List.getElem?_append_right (by rw [klen]; exact hid)] at h
        have : id = H.length := by have := (List.getElem?_eq_some_iff.1 h).1; rw [klen] at this; simp at this; omega
        subst this
        simp [klen] at h; subst h
        rw [← inv.len, getD_push_new]
        refine ⟨n + m, _, hown', (hrel.append hnews).on hon hB (push_old η _), hk, fun b hb => ?_⟩
        simp [Value.ownBlock] at hb
        subst hb
        refine ⟨List.mem_cons_self, fun hbx => ?_⟩
        have := (inv.sub _ hbx).2
        omega
    · have key : ∀ (i : Nat) (ei : Ent), (killA H (ρA s) ++ [Ent.own (cells ++ l) E k])[i]? = some ei → (i < H.length ∧ (killA H (ρA s))[i]? = some ei ∧ (η ++ [Value.slice (some ⟨g, og, none⟩) (n + m) cap]).getD i undef = η.getD i undef) ∨ (i = H.length ∧ (η ++ [Value.slice (some ⟨g, og, none⟩) (n + m) cap]).getD i undef = Value.slice (some ⟨g, og, none⟩) (n + m) cap) := by
        intro i ei h
        rcases Nat.lt_or_ge i H.length with hid | hid
        · exact .inl ⟨hid, by rwa [List.getElem?_append_left (by rw [klen]; exact hid)] at h, getD_push_old (by rw [inv.len]; exact hid)⟩
        · have : i = H.length := by
            rw [List.getElem?_append_right (by rw [klen]; exact hid)] at h
            have := (List.getElem?_eq_some_iff.1 h).1; rw [klen] at this; simp at this; omega
          subst this
          exact .inr ⟨rfl, by rw [← inv.len, getD_push_new]⟩
      rcases key i ei hi' with ⟨h1, h2, h3⟩ | ⟨h1, h3⟩ <;> rcases key j ej hj with ⟨k1, k2, k3⟩ | ⟨k1, k3⟩
      · rw [h3] at hb'; rw [k3]; exact ik.sep i j ei ej hij h2 k2 hli hlj b hb'
      · rw [h3] at hb'; rw [k3]
        intro hcc
        have := (hkeep i ei h2 hli b hb').2
        simp [blkOf] at hcc
        omega
      · rw [h3] at hb'
        simp [blkOf] at hb'
        subst hb'
        rw [k3]
        intro hcc
        exact (hkeep j ej k2 hlj _ hcc).2 rfl
      · omega
  unfold Oper.val
  have hrun' : (execOp ρ o).run P w = .ok (.value (.slice (some ⟨g, og, none⟩) (n + m) cap)) w' := by
    simp only [execOp, ho, resolve, invoke, builtin, Sem.run_bind, Sem.run_pure, Result.andThen_ok, List.map_toArray, List.map_cons, List.map_nil, hv, hrun]
  rw [hrun']
  exact hN _ _ _ _ hon hB (push_old η _) hbelow hinv (.own _ _ _ _ _ (by rw [← inv.len, List.getElem?_append_right (Nat.le_refl _)]; simp)) (fun h => by cases h)
/-- Appended to a slice that has no room: all is new. -/
theorem appendE_ok (inv : Inv n0 Bx w B η H) (he : ∀ x ∈ o.op.operands, Rel w B η (ρA x) (ρ x)) {s x : Operand} {t E k by_ : Nat} {i : TypeInfo} {z : Value} {l : List AV} (ho : o.op = .call ⟨.builtin .append, #[s, x], #[t, t]⟩)
    (ht : P.underlying t = some (.slice E)) (hi : P.info? E = some i) (hz : i.zero = some z) (hsz : i.size = k) (hby : i.bytes = by_) (hzs : z.cells.size = k) (hk : 1 ≤ k)
    (hd : ρA s = .emp) (hs : srcA H k (ρA x) = some l) (h1 : l.all AV.one = true) (h2 : l.all AV.imm0 = true) (hm : l.length / k ≤ maxLen) (hb : l.length / k * by_ ≤ 140737488355328) :
    OpOK P n0 w ρ o B η (.sl l k) := by
  have h0 := he s (by simp [ho, Op.operands, Call.operands])
  rw [hd] at h0
  obtain ⟨A, m, c, vs, hv, hn, hA, hr⟩ := srcA_spec (he x (by simp [ho, Op.operands, Call.operands])) hk hs
  have hdiv : l.length / k = m := by rw [← hn]; exact Nat.mul_div_cancel _ hk
  rw [hdiv] at hm hb
  generalize hvs : ρ s = v0 at h0
  cases h0 with
  | emp _ A0 =>
    rcases Nat.eq_zero_or_pos m with hm0 | hmp
    · have hl0 : l = [] := List.eq_nil_of_length_eq_zero (by rw [← hn, hm0]; simp)
      subst hl0
      subst hm0
      refine .of_run (v := .slice A0 0 0) ?_ (.sl _ _ _ _ _ _ (fun _ => undef) hk (by simp) (Nat.le_refl _) (Nat.zero_le _) (fun h => absurd h (by omega)) (fun i x hx => by simp at hx))
      have hrun0 : (Builtin.append_ #[t, t] o.type #[.slice A0 0 0, .slice A 0 c]).run P w = .ok (.slice A0 0 0) w := by
        cases A <;> cases A0 <;> simp [Builtin.append_, run_underlying ht, sizeOf, typeInfo, hi, Builtin.lenOf, Builtin.firstCells, storeCells, loadCells, loadCellsFrom]
      simp only [execOp, ho, resolve, invoke, builtin, Sem.run_bind, Sem.run_pure, Result.andThen_ok, List.map_toArray, List.map_cons, List.map_nil, hv, hvs, hrun0]
    · obtain ⟨ad, hA1, hat⟩ := hA hmp
      subst hA1
      have hnews : RelL w B [] l ((List.range l.length).map vs) := ⟨by simp, fun i y hy => by
        have hlt : i < l.length := (List.getElem?_eq_some_iff.1 hy).1
        exact ⟨vs i, by simp [hlt], hr i y hy⟩⟩
      have hcells : ∀ j u, ((List.range l.length).map vs)[j]? = some u → w.cell? (ad.add j) = some u := fun j u hj => by
        have hlt : j < l.length := by have := (List.getElem?_eq_some_iff.1 hj).1; simpa using this
        rw [hat.cell j hlt]
        simp [hlt] at hj
        rw [hj]
      have key : ∃ v' w', (Builtin.append_ #[t, t] o.type #[.slice A0 0 0, .slice (some ad) m c]).run P w = .ok v' w' ∧ w'.ownsRow w.heap.size E k v' m ((List.range l.length).map vs) ∧ w.grownBy w' none := by
        cases A0 with
        | none =>
          obtain ⟨v', w', q1, q2, q3, q4, q5⟩ := run_append_own_at (P := P) w w.heap.size t o.type E i z k by_ ht hi hz hsz hby hzs hk (.slice none 0 0) 0 [] (World.ownsRow_nil _ _ _ _) ad m c ((List.range l.length).map vs) (by simp [hn]) hcells (hnews.one h1) (by simpa using hm) (by simpa using hb) (Nat.le_refl _)
          exact ⟨v', w', q1, by simpa using q2, q3⟩
        | some a0 =>
          obtain ⟨v', w', q1, q2, q3⟩ := run_append_arg_grows (P := P) w t o.type E i z k by_ ht hi hz hsz hby hzs hk a0 0 0 [] (by simp) (fun j u h => by simp at h) ad m c ((List.range l.length).map vs) (by simp [hn]) hcells (by omega) (by simpa using hm) (by simpa using hb)
          exact ⟨v', w', q1, by simpa using q2, q3⟩
      obtain ⟨v', w', q1, q2, q3⟩ := key
      have g : Gr w w' := ⟨q3.os, q3.tape, q3.output, q3.size, fun b hb => q3.block b hb (by simp)⟩
      intro N hN
      unfold Oper.val
      have hrun' : (execOp ρ o).run P w = .ok (.value v') w' := by
        simp only [execOp, ho, resolve, invoke, builtin, Sem.run_bind, Sem.run_pure, Result.andThen_ok, List.map_toArray, List.map_cons, List.map_nil, hv, hvs, q1]
      rw [hrun']
      rcases q2.2 with ⟨hv0, hm0⟩ | ⟨gg, cap, cur, hv0, hbase, hg, hnc, hcm, hsz', htk⟩
      · omega
      · subst hv0
        refine hN _ _ (.gr g) (.sl _ _ _ _ _ _ vs hk hn hnc hcm (fun _ => ⟨_, rfl, rfl, (Array.getElem?_eq_some_iff.1 hg).1, fun hb => ?_, fun j hj => ?_⟩) (fun j x hx => (hr j x hx).gr g))
        · have := inv.lt _ hb; simp at this; omega
        · exact q2.cells (g := gg) rfl j _ (by simp [hj])
end
end Go.Proofs.Ytpijcgohhjgdbaa
