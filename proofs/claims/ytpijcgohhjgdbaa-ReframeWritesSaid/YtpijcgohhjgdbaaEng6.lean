/-
  Operations that make and write blocks of the call's own.
-/
import Derived.Test.YtpijcgohhjgdbaaEng5
import Derived.Laws.CopyRow
import Derived.Maps.AppendAt
namespace Go.Proofs.Ytpijcgohhjgdbaa
set_option maxRecDepth 100000
open Go.RowKit
set_option linter.unusedVariables false
set_option linter.unusedSimpArgs false

/-- It has one cell. -/
def AV.one : AV → Bool
  | .c v => v.oneCell'
  | .agg _ | .tup _ => false
  | _ => true
theorem Rel.one {w : World} {B : List Nat} {η : List Value} {x : AV} {v : Value} (h : Rel w B η x v) (hx : x.one = true) : v.oneCell' = true := by
  cases h with
  | c => exact hx
  | agg => cases hx
  | tup => cases hx
  | _ => rfl
theorem RelL.one {w : World} {B : List Nat} {η : List Value} {l : List AV} {us : List Value} (h : RelL w B η l us) (hl : l.all AV.one = true) : ∀ u ∈ us, u.oneCell' = true := by
  intro u hu
  obtain ⟨i, hi, rfl⟩ := List.getElem_of_mem hu
  obtain ⟨v, h1, h2⟩ := h.2 i (l[i]'(by rw [← h.1]; exact hi)) (List.getElem?_eq_getElem _)
  rw [List.getElem?_eq_getElem hi] at h1
  injection h1 with h1
  rw [h1]
  exact h2.one (List.all_eq_true.1 hl _ (List.getElem_mem _))
/-- What an operation does, also one that writes. -/
def OpS (P : Program) (n0 : Nat) (Bx : List Nat) (w : World) (ρ : Operand → Value) (o : Oper) (B : List Nat) (η : List Value) (r : AV) (H' : List Ent) : Prop :=
  ∀ N : Value → World → Prop, (∀ v w' B' η', On B w w' → (∀ b ∈ B', b ∈ B ∨ w.heap.size ≤ b) → (∀ (id : Nat) v, η[id]? = some v → η'[id]? = some v) → Below n0 w w' → Inv n0 Bx w' B' η' H' → Rel w' B' η' r v → FreshV n0 r v → N v w') → Oper.val P ρ o w N

section
variable {P : Program} {w w' : World} {B : List Nat} {η : List Value} {H : List Ent} {ρ : Operand → Value} {ρA : Operand → AV} {o : Oper} {C : Con} {n0 : Nat} {Bx : List Nat}
theorem OpOKF.s {r : AV} (inv : Inv n0 Bx w B η H) (h : OpOKF P n0 w ρ o B η r) : OpS P n0 Bx w ρ o B η r H := by
  intro N hN
  exact h N (fun v w' g hr hf => hN v w' B η g.on (fun _ h => .inl h) (fun _ _ h => h) (g.below inv.base.1) (inv.gk g) hr hf)
theorem push_old {α : Type} (l : List α) (x : α) : ∀ (i : Nat) v, l[i]? = some v → (l ++ [x])[i]? = some v := fun i v h => by
  have hi : i < l.length := (List.getElem?_eq_some_iff.1 h).1
  rw [List.getElem?_append_left hi]; exact h
theorem getD_push_old {l : List Value} {x d : Value} {i : Nat} (h : i < l.length) : (l ++ [x]).getD i d = l.getD i d := by
  rw [List.getD_eq_getElem?_getD, List.getD_eq_getElem?_getD, List.getElem?_append_left h]
theorem getD_push_new {l : List Value} {x d : Value} : (l ++ [x]).getD l.length d = x := by
  rw [List.getD_eq_getElem?_getD, List.getElem?_append_right (Nat.le_refl _)]; simp
/-- A new block comes. -/
theorem Inv.push (inv : Inv n0 Bx w B η H) (g : Gr w w') {b : Nat} {v : Value} {e : Ent} (hb : w.heap.size ≤ b) (hlt : b < w'.heap.size) (hv : blkOf v = some b) (he : EntOK n0 Bx w' (b :: B) (η ++ [v]) v e) : Inv n0 Bx w' (b :: B) (η ++ [v]) (H ++ [e]) := by
  have hB : ∀ x ∈ b :: B, x ∈ B ∨ w.heap.size ≤ x := fun x hx => by rcases List.mem_cons.1 hx with rfl | h; exact .inr hb; exact .inl h
  refine ⟨by simp [inv.len], ⟨Nat.le_trans inv.base.1 g.size, inv.base.2.on (.gr g) hB⟩, fun x hx => ⟨List.mem_cons_of_mem _ (inv.sub x hx).1, (inv.sub x hx).2⟩, fun x hx => ?_, fun id e' h => ?_, fun i j ei ej hij hi hj hli hlj c hc => ?_⟩
  · rcases List.mem_cons.1 hx with rfl | h
    · exact hlt
    · exact Nat.lt_of_lt_of_le (inv.lt x h) g.size
  · rcases Nat.lt_or_ge id H.length with hid | hid
    · rw [List.getElem?_append_left hid] at h
      rw [getD_push_old (by rw [inv.len]; exact hid)]
      exact EntOK.keep (inv.ent id e' h) (.gr g) hB (fun _ h => List.mem_cons_of_mem _ h) (push_old η v) (fun hl b hb => g.block b (EntOK.lt (inv.ent id e' h) hl b hb).1)
    · rw [List.getElem?_append_right hid] at h
      have : id = H.length := by have := (List.getElem?_eq_some_iff.1 h).1; simp at this; omega
      subst this
      simp at h; subst h
      rw [← inv.len, getD_push_new]; exact he
  · have key : ∀ (i : Nat) (ei : Ent), (H ++ [e])[i]? = some ei → (i < H.length ∧ H[i]? = some ei ∧ (η ++ [v]).getD i undef = η.getD i undef) ∨ (i = H.length ∧ (η ++ [v]).getD i undef = v) := by
      intro i ei h
      rcases Nat.lt_or_ge i H.length with hid | hid
      · exact .inl ⟨hid, by rwa [List.getElem?_append_left hid] at h, getD_push_old (by rw [inv.len]; exact hid)⟩
      · have : i = H.length := by
          rw [List.getElem?_append_right hid] at h
          have := (List.getElem?_eq_some_iff.1 h).1; simp at this; omega
        subst this
        exact .inr ⟨rfl, by rw [← inv.len, getD_push_new]⟩
    rcases key i ei hi with ⟨h1, h2, h3⟩ | ⟨h1, h3⟩ <;> rcases key j ej hj with ⟨k1, k2, k3⟩ | ⟨k1, k3⟩
    · rw [h3] at hc; rw [k3]; exact inv.sep i j ei ej hij h2 k2 hli hlj c hc
    · rw [h3] at hc; rw [k3, hv]
      have := (EntOK.lt (inv.ent i ei h2) hli c hc).1
      intro hcc; injection hcc with hcc; omega
    · rw [h3, hv] at hc; injection hc with hc; subst hc
      rw [k3]
      intro hcc
      have := (EntOK.lt (inv.ent j ej k2) hlj b hcc).1
      omega
    · omega
theorem alloc_block (w : World) (c : Array Value) (t : TypeId) : (w.alloc (.cells c t)).heap[w.heap.size]? = some (.cells c t (0, 0)) := by
  show (w.heap.push _)[w.heap.size]? = _
  simp
theorem box_push (inv : Inv n0 Bx w B η H) {l : List AV} {us : List Value} (hr : RelL w B η l us) (T : TypeId) : Inv n0 Bx (w.alloc (.cells us.toArray T)) (w.heap.size :: B) (η ++ [.pointer (some ⟨w.heap.size, 0, none⟩)]) (H ++ [.box l T]) := by
  have g := gr_alloc (Gr.refl w) (.cells us.toArray T)
  have hB : ∀ x ∈ w.heap.size :: B, x ∈ B ∨ w.heap.size ≤ x := fun x hx => by rcases List.mem_cons.1 hx with rfl | h; exact .inr (Nat.le_refl _); exact .inl h
  refine inv.push g (Nat.le_refl _) (by simp) rfl ⟨w.heap.size, us, rfl, inv.base.1, List.mem_cons_self, fun h => ?_, alloc_block w _ _, hr.on (.gr g) hB (push_old _ _)⟩
  have := (inv.sub _ h).2; have := inv.base.1; omega
theorem box_ok (inv : Inv n0 Bx w B η H) (he : ∀ x ∈ o.op.operands, Rel w B η (ρA x) (ρ x)) {T : TypeId} {x : Operand} (ho : o.op = .box T x) (hnt : notTup (ρA x) = true) : OpS P n0 Bx w ρ o B η (.box H.length 0) (H ++ [.box (ρA x).toL T]) := by
  intro N hN
  have hx := he x (by simp [ho, Op.operands])
  have hr := hx.toL (fun l e => by rw [e] at hnt; cases hnt)
  have g := gr_alloc (Gr.refl w) (.cells (ρ x).cells.toList.toArray T)
  have hB : ∀ y ∈ w.heap.size :: B, y ∈ B ∨ w.heap.size ≤ y := fun y hy => by rcases List.mem_cons.1 hy with rfl | h; exact .inr (Nat.le_refl _); exact .inl h
  have := hN (.pointer (some ⟨w.heap.size, 0, none⟩)) _ _ _ (.gr g) hB (push_old η _) (g.mono inv.base.1) (box_push inv hr T) (.box _ _ _ _ (by rw [← inv.len, List.getElem?_append_right (Nat.le_refl _)]; simp)) (fun h => by cases h)
  unfold Oper.val
  have hrun : (execOp ρ o).run P w = .ok (.value (.pointer (some ⟨w.heap.size, 0, none⟩))) (w.alloc (.cells (ρ x).cells.toList.toArray T)) := by
    simp only [execOp, ho]
    rfl
  rw [hrun]
  exact this
theorem alloc_ok (inv : Inv n0 Bx w B η H) {T : TypeId} {v : Value} (ho : o.op = .alloc T) (hz : pureRun P (zeroValue T) = some v) : OpS P n0 Bx w ρ o B η (.box H.length 0) (H ++ [.box (v.cells.toList.map .c) T]) := by
  intro N hN
  have hr : RelL w B η (v.cells.toList.map .c) v.cells.toList := ⟨by simp, fun i y hy => by
    rw [List.getElem?_map, Option.map_eq_some_iff] at hy
    obtain ⟨u, hu, rfl⟩ := hy
    exact ⟨u, hu, .c _ _⟩⟩
  have g := gr_alloc (Gr.refl w) (.cells v.cells.toList.toArray T)
  have hB : ∀ y ∈ w.heap.size :: B, y ∈ B ∨ w.heap.size ≤ y := fun y hy => by rcases List.mem_cons.1 hy with rfl | h; exact .inr (Nat.le_refl _); exact .inl h
  have := hN (.pointer (some ⟨w.heap.size, 0, none⟩)) _ _ _ (.gr g) hB (push_old η _) (g.mono inv.base.1) (box_push inv hr T) (.box _ _ _ _ (by rw [← inv.len, List.getElem?_append_right (Nat.le_refl _)]; simp)) (fun h => by cases h)
  unfold Oper.val
  have hrun : (execOp ρ o).run P w = .ok (.value (.pointer (some ⟨w.heap.size, 0, none⟩))) (w.alloc (.cells v.cells.toList.toArray T)) := by
    simp only [execOp, ho, Instr.alloc, Sem.run_bind, pureRun_run hz, Result.andThen_ok]
    rfl
  rw [hrun]
  exact this
/-- A block of the call's own is written. -/
theorem Inv.write (inv : Inv n0 Bx w B η H) {id b : Nat} {v : Value} {e e' : Ent} {cs : Array Value} (hH : H[id]? = some e) (hv : η[id]? = some v) (hl : e.live = true) (hb : blkOf v = some b) (hl' : e'.live = true) (he : EntOK n0 Bx (w.setRow b cs) B η v e') : Inv n0 Bx (w.setRow b cs) B η (H.set id e') ∧ On B w (w.setRow b cs) ∧ Below n0 w (w.setRow b cs) := by
  have hg : η.getD id undef = v := by simp [List.getD_eq_getElem?_getD, hv]
  have hlt := EntOK.lt (inv.ent id e hH) hl b (by rw [hg]; exact hb)
  have hon : On B w (w.setRow b cs) := ⟨rfl, rfl, rfl, by simp, fun k _ hk => .of (setRow_other w b k cs (fun h => hk (by rw [h]; exact hlt.2)))⟩
  have hn0 : n0 ≤ b := by
    have := inv.ent id e hH
    rw [hg] at this
    cases e with
    | dead => cases hl
    | box cells T => obtain ⟨b', us, h1, h2, _⟩ := this; rw [h1] at hb; simp [blkOf] at hb; omega
    | own cells E k =>
      obtain ⟨n, us, h1, _⟩ := this
      rcases h1.2 with ⟨hv', _⟩ | ⟨gg, oo, cap, cur, hv', hb', _⟩
      · rw [hv'] at hb; cases hb
      · rw [hv'] at hb; simp [blkOf] at hb; omega
    | itr s pos => obtain ⟨b', h1, h2, _⟩ := this; rw [h1] at hb; simp [blkOf] at hb; omega
  refine ⟨⟨by simp [inv.len], ⟨by simpa using inv.base.1, inv.base.2.on hon (fun _ h => .inl h)⟩, inv.sub, fun x hx => by simpa using inv.lt x hx, fun i ei hi => ?_, fun i j ei ej hij hi hj hli hlj c hc => ?_⟩, hon, ⟨rfl, rfl, rfl, by simp, fun k hk => setRow_other w b k cs (by omega)⟩⟩
  · rw [List.getElem?_set] at hi
    split at hi
    · rename_i hij
      subst hij
      split at hi
      · injection hi with hi; subst hi; rw [hg]; exact he
      · cases hi
    · rename_i hij
      exact EntOK.keep (inv.ent i ei hi) hon (fun _ h => .inl h) (fun _ h => h) (fun _ _ h => h) (fun hli k hk => setRow_other w b k cs (fun h => by
        subst h
        exact inv.sep id i e ei hij hH hi hl hli k (by rw [hg]; exact hb) hk))
  · have key : ∀ (i : Nat) (ei : Ent), (H.set id e')[i]? = some ei → ei.live = true → ∃ ei', H[i]? = some ei' ∧ ei'.live = true := by
      intro i ei h hlive
      rw [List.getElem?_set] at h
      split at h
      · rename_i hij; subst hij; exact ⟨e, hH, hl⟩
      · exact ⟨ei, h, hlive⟩
    obtain ⟨ei', h1, h2⟩ := key i ei hi hli
    obtain ⟨ej', k1, k2⟩ := key j ej hj hlj
    exact inv.sep i j ei' ej' hij h1 k1 h2 k2 c hc
theorem run_storeAt_row {b of : Nat} {T t : TypeId} {v : Value} {cur : List Value} (hg : w.heap[b]? = some (.cells cur.toArray t (0, 0))) (hs : v.cells.toList.length = P.cellsOf T) (hp : 0 < P.cellsOf T) (hle : of + v.cells.toList.length ≤ cur.length) (h1 : ∀ u ∈ v.cells.toList, u.oneCell' = true) :
    (Instr.storeAt T (.pointer (some ⟨b, of, none⟩)) v).run P w = .ok () (w.setRow b (putL cur of v.cells.toList).toArray) := by
  obtain ⟨i, hi, hsz⟩ := cells_info (P := P) (t := T) (by omega)
  have hst := run_storeCells_at (P := P) b of t v.cells.toList 0 cur.toArray w hg (by simpa using hle) h1
  simp only [Nat.add_zero] at hst
  have hne : v.cells.size = i.size := by rw [hsz, ← hs]; simp
  simp only [Instr.storeAt, Instr.sureAddr, storeVar, Sem.run_bind, Sem.run_pure, Result.andThen_ok, run_sizeOf hi, hne]
  rw [if_neg (by simp), hst]
  rfl
/-! ### Texts, sign by sign -/
theorem itr_push (inv : Inv n0 Bx w B η H) (s : ByteArray) (pos : Nat) : Inv n0 Bx (w.alloc (.stringIter s pos)) (w.heap.size :: B) (η ++ [.pointer (some ⟨w.heap.size, 0, none⟩)]) (H ++ [.itr s pos]) := by
  have g := gr_alloc (Gr.refl w) (.stringIter s pos)
  refine inv.push g (Nat.le_refl _) (by simp) rfl ⟨w.heap.size, rfl, inv.base.1, List.mem_cons_self, fun h => ?_, ?_⟩
  · have := (inv.sub _ h).2; have := inv.base.1; omega
  · show (w.heap.push _)[w.heap.size]? = _
    simp
theorem range_ok (inv : Inv n0 Bx w B η H) {T : TypeId} {x : Operand} {s : ByteArray} (ho : o.op = .range T x) (hu : P.underlying T = some .string) (hx : ρ x = .string s) : OpS P n0 Bx w ρ o B η (.box H.length 0) (H ++ [.itr s 0]) := by
  intro N hN
  have g := gr_alloc (Gr.refl w) (.stringIter s 0)
  have hB : ∀ y ∈ w.heap.size :: B, y ∈ B ∨ w.heap.size ≤ y := fun y hy => by rcases List.mem_cons.1 hy with rfl | h; exact .inr (Nat.le_refl _); exact .inl h
  have := hN (.pointer (some ⟨w.heap.size, 0, none⟩)) _ _ _ (.gr g) hB (push_old η _) (g.mono inv.base.1) (itr_push inv s 0) (.box _ _ _ _ (by rw [← inv.len, List.getElem?_append_right (Nat.le_refl _)]; simp)) (fun h => by cases h)
  unfold Oper.val
  have hrun : (execOp ρ o).run P w = .ok (.value (.pointer (some ⟨w.heap.size, 0, none⟩))) (w.alloc (.stringIter s 0)) := by
    simp only [execOp, ho, Instr.range, Sem.run_bind, run_underlying hu, Result.andThen_ok, hx]
    rfl
  rw [hrun]
  exact this
/-- Another thing stands in a block of the call's own. -/
theorem Inv.setItr (inv : Inv n0 Bx w B η H) {id b pos pos' : Nat} {s : ByteArray} (hH : H[id]? = some (.itr s pos)) (hv : η[id]? = some (.pointer (some ⟨b, 0, none⟩))) : Inv n0 Bx { w with heap := w.heap.setIfInBounds b (.stringIter s pos') } B η (H.set id (.itr s pos')) ∧ On B w { w with heap := w.heap.setIfInBounds b (.stringIter s pos') } ∧ Below n0 w { w with heap := w.heap.setIfInBounds b (.stringIter s pos') } ∧ w.heap[b]? = some (.stringIter s pos) := by
  have hg : η.getD id undef = .pointer (some ⟨b, 0, none⟩) := by simp [List.getD_eq_getElem?_getD, hv]
  have hent := inv.ent id _ hH
  rw [hg] at hent
  obtain ⟨b', h1, h2, h3, h4, h5⟩ := hent
  injection h1 with h1; injection h1 with h1; injection h1 with h1 _ _; subst h1
  have hlt := (Array.getElem?_eq_some_iff.1 h5).1
  have other : ∀ k, k ≠ b → ({ w with heap := w.heap.setIfInBounds b (.stringIter s pos') } : World).heap[k]? = w.heap[k]? := fun k hk => by
    show (w.heap.setIfInBounds b _)[k]? = _
    rw [Array.getElem?_setIfInBounds_ne (fun h => hk h.symm)]
  have hon : On B w { w with heap := w.heap.setIfInBounds b (.stringIter s pos') } := ⟨rfl, rfl, rfl, by simp, fun k _ hk => .of (other k (fun h => hk (by rw [h]; exact h3)))⟩
  refine ⟨⟨by simp [inv.len], ⟨by simpa using inv.base.1, inv.base.2.on hon (fun _ h => .inl h)⟩, inv.sub, fun x hx => by simpa using inv.lt x hx, fun i ei hi => ?_, fun i j ei ej hij hi hj hli hlj c hc => ?_⟩, hon, ⟨rfl, rfl, rfl, by simp, fun k hk => other k (by omega)⟩, h5⟩
  · rw [List.getElem?_set] at hi
    split at hi
    · rename_i hij
      subst hij
      split at hi
      · injection hi with hi; subst hi; rw [hg]
        exact ⟨b, rfl, h2, h3, h4, by show (w.heap.setIfInBounds b _)[b]? = _; simp [hlt]⟩
      · cases hi
    · rename_i hij
      exact EntOK.keep (inv.ent i ei hi) hon (fun _ h => .inl h) (fun _ h => h) (fun _ _ h => h) (fun hli k hk => other k (fun h => by
        subst h
        exact inv.sep id i (.itr s pos) ei hij hH hi rfl hli k (by rw [hg]; rfl) hk))
  · have key : ∀ (i : Nat) (ei : Ent), (H.set id (.itr s pos'))[i]? = some ei → ei.live = true → ∃ ei', H[i]? = some ei' ∧ ei'.live = true := by
      intro i ei h hlive
      rw [List.getElem?_set] at h
      split at h
      · rename_i hij; subst hij; exact ⟨_, hH, rfl⟩
      · exact ⟨ei, h, hlive⟩
    obtain ⟨ei', h1, h2⟩ := key i ei hi hli
    obtain ⟨ej', k1, k2⟩ := key j ej hj hlj
    exact inv.sep i j ei' ej' hij h1 k1 h2 k2 c hc
theorem rel_tup (l : List Value) : Rel w B η (.tup (l.map .c)) (.tuple l.toArray) := by
  refine .tup η _ _ (fun i => l.getD i undef) (by simp) (fun i x hx => ?_) (fun i x hx => ?_)
  · rw [List.getElem?_map, Option.map_eq_some_iff] at hx
    obtain ⟨u, hu, rfl⟩ := hx
    simp [List.getD_eq_getElem?_getD, hu]
  · rw [List.getElem?_map, Option.map_eq_some_iff] at hx
    obtain ⟨u, hu, rfl⟩ := hx
    rw [List.getD_eq_getElem?_getD, hu]
    exact .c _ _
theorem next_ok (inv : Inv n0 Bx w B η H) {x : Operand} {s : ByteArray} {id pos : Nat} (ho : o.op = .next x true) (hH : H[id]? = some (.itr s pos)) (hx : Rel w B η (.box id 0) (ρ x)) (hp : pos < s.size) :
    OpS P n0 Bx w ρ o B η (.tup ([Value.bool true, goInt pos, .int .i32 ((Utf8.decode s pos).1 : Nat)].map .c)) (H.set id (.itr s (pos + (Utf8.decode s pos).2))) := by
  intro N hN
  have : ∃ b, ρ x = .pointer (some ⟨b, 0, none⟩) ∧ η[id]? = some (.pointer (some ⟨b, 0, none⟩)) := by
    generalize ρ x = v at hx
    cases hx with
    | box _ _ _ b h => exact ⟨b, rfl, h⟩
  obtain ⟨b, e1, e2⟩ := this
  obtain ⟨i1, i2, i3, i4⟩ := inv.setItr (pos' := pos + (Utf8.decode s pos).2) hH e2
  have := hN (.tuple [Value.bool true, goInt pos, .int .i32 ((Utf8.decode s pos).1 : Nat)].toArray) _ B η i2 (fun _ h => .inl h) (fun _ _ h => h) i3 i1 (rel_tup _) (fun h => by cases h)
  unfold Oper.val
  have hrun : (execOp ρ o).run P w = .ok (.value (.tuple #[.bool true, goInt pos, .int .i32 ((Utf8.decode s pos).1 : Nat)])) { w with heap := w.heap.setIfInBounds b (.stringIter s (pos + (Utf8.decode s pos).2)) } := by
    have h1 : (getObj b).run P w = .ok (.stringIter s pos) w := by simp [getObj, Sem.run, i4]
    have h2 : ∀ ob, (setObj b ob).run P w = .ok () { w with heap := w.heap.setIfInBounds b ob } := fun ob => by simp [setObj, Sem.run, i4]
    simp only [execOp, ho, Instr.next, e1, Sem.run_bind, h1, Result.andThen_ok, hp, if_true, h2]
    rfl
  rw [hrun]
  exact this
theorem next_end (inv : Inv n0 Bx w B η H) {x : Operand} {s : ByteArray} {id pos : Nat} (ho : o.op = .next x true) (hH : H[id]? = some (.itr s pos)) (hx : Rel w B η (.box id 0) (ρ x)) (hp : ¬ pos < s.size) :
    OpS P n0 Bx w ρ o B η (.tup ([Value.bool false].map .c)) H := by
  intro N hN
  have : ∃ b, ρ x = .pointer (some ⟨b, 0, none⟩) ∧ η[id]? = some (.pointer (some ⟨b, 0, none⟩)) := by
    generalize ρ x = v at hx
    cases hx with
    | box _ _ _ b h => exact ⟨b, rfl, h⟩
  obtain ⟨b, e1, e2⟩ := this
  obtain ⟨i1, i2, i3, i4⟩ := inv.setItr (pos' := pos) hH e2
  have := hN (.tuple [Value.bool false].toArray) w B η (.gr (Gr.refl w)) (fun _ h => .inl h) (fun _ _ h => h) ⟨rfl, rfl, rfl, Nat.le_refl _, fun _ _ => rfl⟩ inv (rel_tup _) (fun h => by cases h)
  unfold Oper.val
  have hrun : (execOp ρ o).run P w = .ok (.value (.tuple #[.bool false])) w := by
    have h1 : (getObj b).run P w = .ok (.stringIter s pos) w := by simp [getObj, Sem.run, i4]
    simp only [execOp, ho, Instr.next, e1, Sem.run_bind, h1, Result.andThen_ok, hp, if_false]
    rfl
  rw [hrun]
  exact this
end
end Go.Proofs.Ytpijcgohhjgdbaa
