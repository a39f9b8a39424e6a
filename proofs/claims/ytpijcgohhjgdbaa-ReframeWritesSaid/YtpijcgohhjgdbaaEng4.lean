/-
  One operation, on plain values: addresses of elements, parts of slices, lengths, structs and slices that are built, calls.
-/
import Derived.Test.YtpijcgohhjgdbaaEng3
namespace Go.Proofs.Ytpijcgohhjgdbaa
set_option maxRecDepth 100000
open Go.RowKit
set_option linter.unusedVariables false
set_option linter.unusedSimpArgs false

section
variable {P : Program} {n0 : Nat} {w : World} {B : List Nat} {η : List Value} {H : List Ent} {ρ : Operand → Value} {ρA : Operand → AV} {o : Oper}
theorem Rel.slL {l : List AV} {k : Nat} {v : Value} (h : Rel w B η (.sl l k) v) : ∃ A n c us, v = .slice A n c ∧ 1 ≤ k ∧ n * k = l.length ∧ n ≤ c ∧ c ≤ maxLen ∧ (0 < n → ∃ ad, A = some ad ∧ At w B ad l.length us) ∧ ∀ i x, l[i]? = some x → Rel w B [] x (us i) := by
  cases h with
  | sl _ _ _ A n c us hk hn hc hm hA hr => exact ⟨A, n, c, us, rfl, hk, hn, hc, hm, hA, hr⟩
theorem mul_lt_of {a n k : Nat} (h : a * k < n * k) : a < n := Nat.lt_of_mul_lt_mul_right h
theorem indexSl_ok (he : ∀ x ∈ o.op.operands, Rel w B η (ρA x) (ρ x)) {t e : TypeId} {x i : Operand} {kk : IntKind} {z : Int} {l : List AV} {k : Nat} (ho : o.op = .indexAddr t x i) (hu : P.underlying t = some (.slice e)) (hx : ρA x = .sl l k) (hi : ρA i = .c (.int kk z))
    (h0 : 0 ≤ z ∧ z.toNat * k < l.length) (hk : k = P.cellsOf e) : OpOK P n0 w ρ o B η (.adr (l.drop (z.toNat * k))) := by
  have h1 := he x (by simp [ho, Op.operands])
  rw [hx] at h1
  obtain ⟨A, n, c, us, hv, hk1, hn, hc, hm, hA, hr⟩ := h1.slL
  have h2 := he i (by simp [ho, Op.operands])
  rw [hi] at h2
  have h2 := h2.ofC
  have hlt : z.toNat < n := mul_lt_of (by rw [hn]; exact h0.2)
  obtain ⟨ad, hA1, hA2⟩ := hA (by omega)
  subst hA1
  obtain ⟨ii, hii, hs⟩ := cells_info (t := e) (P := P) (by omega)
  refine .of_run (v := .pointer (some (ad.add (z.toNat * k)))) ?_ ?_
  · have hz : z < (n : Int) := by omega
    simp [execOp, ho, Instr.indexAt, Sem.run_bind, run_underlying hu, hv, h2, asIntOf, h0.1, hz, run_sizeOf hii, hs, hk]
  · refine .adr _ _ _ (fun i => us (z.toNat * k + i)) ?_ (fun i x hx => hr _ x (by rw [List.getElem?_drop] at hx; exact hx))
    rw [List.length_drop]; exact hA2.shift _
theorem indexOwn_ok {Bx : List Nat} (inv : Inv n0 Bx w B η H) (he : ∀ x ∈ o.op.operands, Rel w B η (ρA x) (ρ x)) {t e : TypeId} {x i : Operand} {kk : IntKind} {z : Int} {id : Nat} {cells : List AV} {E k : Nat} (ho : o.op = .indexAddr t x i) (hu : P.underlying t = some (.slice e)) (hx : ρA x = .own id) (hi : ρA i = .c (.int kk z))
    (hH : H[id]? = some (.own cells E k)) (h0 : 0 ≤ z ∧ z.toNat * k < cells.length) (hk : k = P.cellsOf e) : OpOK P n0 w ρ o B η (.oadr id (z.toNat * k)) := by
  have h1 := he x (by simp [ho, Op.operands])
  rw [hx] at h1
  have h2 := he i (by simp [ho, Op.operands])
  rw [hi] at h2
  have h2 := h2.ofC
  generalize hv : ρ x = v at h1
  cases h1 with
  | own _ _ a1 n1 c1 hid =>
  have hent := inv.ent id _ hH
  rw [List.getD_eq_getElem?_getD, hid, Option.getD_some] at hent
  obtain ⟨n, us, hown, hrel, hk1, hbl⟩ := hent
  have hlen : cells.length = n * k := by rw [← hrel.1]; exact hown.1
  have hlt : z.toNat < n := mul_lt_of (by rw [← hlen]; exact h0.2)
  rcases hown.2 with ⟨_, hn0⟩ | ⟨g, oo, cap, cur, hvv, hb, hg, hnc, hcm, hsz, htk⟩
  · omega
  injection hvv with q1 q2 q3
  subst q1 q2 q3
  obtain ⟨ii, hii, hs⟩ := cells_info (t := e) (P := P) (by omega)
  refine .of_run (v := .pointer (some ⟨g, oo + z.toNat * k, none⟩)) ?_ (.oadr _ _ _ _ _ _ _ hid)
  have hz : z < (n1 : Int) := by omega
  simp [execOp, ho, Instr.indexAt, Sem.run_bind, run_underlying hu, hv, h2, asIntOf, h0.1, hz, run_sizeOf hii, hs, hk, Addr.add_mid]
theorem indexArr_ok (he : ∀ x ∈ o.op.operands, Rel w B η (ρA x) (ρ x)) {t e : TypeId} {x i : Operand} {kk : IntKind} {z : Int} {m : Nat} {r : AV} (ho : o.op = .indexAddr t x i) (hu : P.underlying t = some (.array m e)) (hi : ρA i = .c (.int kk z))
    (h0 : 0 ≤ z ∧ z < m) (hk : P.cellsOf e ≠ 0) (h : addOff (ρA x) (z.toNat * P.cellsOf e) = some r) : OpOK P n0 w ρ o B η r := by
  obtain ⟨ad, hv, hr⟩ := addOff_spec (he x (by simp [ho, Op.operands])) h
  have h2 := he i (by simp [ho, Op.operands])
  rw [hi] at h2
  have h2 := h2.ofC
  obtain ⟨ii, hii, hs⟩ := cells_info hk
  refine .of_run (v := .pointer (some (ad.add (z.toNat * P.cellsOf e)))) ?_ hr
  simp [execOp, ho, Instr.indexAt, Instr.sureAddr, Sem.run_bind, run_underlying hu, hv, h2, asIntOf, h0.1, h0.2, run_sizeOf hii, hs]
theorem run_sliceBound {kk : IntKind} {z : Int} {y : Nat} {code : BoundsCode} (h : 0 ≤ z ∧ z ≤ y) (w : World) : (Instr.sliceBound (.int kk z) y code).run P w = .ok z.toNat w := by
  simp [Instr.sliceBound, asIntOf, Sem.run_bind, h]
/-- The bounds of a part: none is the whole. -/
def boundA (ρA : Operand → AV) (d : Nat) : Option Operand → Option Nat
  | none => some d
  | some x => match ρA x with
    | .c (.int _ z) => if 0 ≤ z then some z.toNat else none
    | _ => none
theorem boundA_spec {d r : Nat} {x : Option Operand} (he : ∀ y, x = some y → Rel w B η (ρA y) (ρ y)) (h : boundA ρA d x = some r) : (x = none ∧ r = d) ∨ ∃ y kk z, x = some y ∧ ρ y = .int kk z ∧ 0 ≤ z ∧ r = z.toNat := by
  unfold boundA at h
  split at h
  · injection h with h; exact .inl ⟨rfl, h.symm⟩
  · rename_i y
    split at h
    · rename_i kk z hy
      split at h
      · rename_i hz
        injection h with h
        have := he y rfl
        rw [hy] at this
        exact .inr ⟨y, kk, z, rfl, this.ofC, hz, h.symm⟩
      · cases h
    · cases h
theorem slice_ok (he : ∀ x ∈ o.op.operands, Rel w B η (ρA x) (ρ x)) {t e : TypeId} {x : Operand} {lo hi : Option Operand} {l : List AV} {k a b : Nat} (ho : o.op = .slice t x lo hi none) (hu : P.underlying t = some (.slice e)) (hx : ρA x = .sl l k)
    (hk : k = P.cellsOf e) (hlo : boundA ρA 0 lo = some a) (hhi : boundA ρA (l.length / k) hi = some b) (hab : a ≤ b) (hb : b * k ≤ l.length) : OpOK P n0 w ρ o B η (.sl ((l.drop (a * k)).take ((b - a) * k)) k) := by
  have hel : ∀ y, lo = some y → Rel w B η (ρA y) (ρ y) := fun y h => he y (by simp [ho, Op.operands, h])
  have heh : ∀ y, hi = some y → Rel w B η (ρA y) (ρ y) := fun y h => he y (by simp [ho, Op.operands, h])
  have h1 := he x (by simp [ho, Op.operands])
  rw [hx] at h1
  obtain ⟨A, n, c, us, hv, hk1, hn, hc, hm, hA, hr⟩ := h1.slL
  have hdiv : l.length / k = n := by rw [← hn]; exact Nat.mul_div_cancel _ hk1
  rw [hdiv] at hhi
  have hbn : b ≤ n := Nat.le_of_mul_le_mul_right (by rw [hn]; exact hb) hk1
  obtain ⟨ii, hii, hs⟩ := cells_info (t := e) (P := P) (by omega)
  refine .of_run (v := .slice (if c = a then A else A.map (·.add (a * k))) (b - a) (c - a)) ?_ ?_
  · have hbounds : (Instr.sliceBounds true n c (lo.map ρ) (hi.map ρ) none).run P w = .ok (a, b, c) w := by
      have hb' : ∀ z : Int, b = z.toNat → 0 ≤ z → z ≤ (c : Int) := by omega
      have ha' : ∀ z : Int, a = z.toNat → 0 ≤ z → z ≤ (b : Int) := by omega
      rcases boundA_spec hel hlo with ⟨rfl, rfl⟩ | ⟨y, kk, z, rfl, hy, hz, hza⟩
      · rcases boundA_spec heh hhi with ⟨rfl, rfl⟩ | ⟨y2, kk2, z2, rfl, hy2, hz2, hzb⟩
        · simp [Instr.sliceBounds, Sem.run_bind]
        · subst hzb
          simp [Instr.sliceBounds, Sem.run_bind, hy2, run_sliceBound (P := P) ⟨hz2, hb' _ rfl hz2⟩]
      · subst hza
        rcases boundA_spec heh hhi with ⟨rfl, rfl⟩ | ⟨y2, kk2, z2, rfl, hy2, hz2, hzb⟩
        · simp [Instr.sliceBounds, Sem.run_bind, hy, run_sliceBound (P := P) ⟨hz, ha' _ rfl hz⟩]
        · subst hzb
          simp [Instr.sliceBounds, Sem.run_bind, hy, hy2, run_sliceBound (P := P) ⟨hz2, hb' _ rfl hz2⟩, run_sliceBound (P := P) ⟨hz, ha' _ rfl hz⟩]
    simp [execOp, ho, Instr.sliceAt, Instr.slice, Sem.run_bind, run_underlying hu, hv, hbounds, run_sizeOf hii, hs, hk]
  · have hlen : ((l.drop (a * k)).take ((b - a) * k)).length = (b - a) * k := by
      rw [List.length_take, List.length_drop, ← hn, ← Nat.sub_mul]
      exact Nat.min_eq_left (Nat.mul_le_mul_right k (by omega))
    refine .sl _ _ _ _ _ _ (fun i => us (a * k + i)) hk1 hlen.symm (by omega) (by omega) (fun h0 => ?_) (fun i y hy => ?_)
    · obtain ⟨ad, rfl, hat⟩ := hA (by omega)
      rw [if_neg (by omega)]
      refine ⟨_, rfl, ?_⟩
      have := hat.shift (a * k)
      exact ⟨this.spot, this.lt, this.out, fun i hi => this.cell i (by
        rw [hlen] at hi
        have : (b - a) * k + a * k ≤ l.length := by rw [← Nat.add_mul, ← hn]; exact Nat.mul_le_mul_right k (by omega)
        omega)⟩
    · rw [List.getElem?_take] at hy
      split at hy
      · rw [List.getElem?_drop] at hy; exact hr _ y hy
      · cases hy
theorem slice3_ok (he : ∀ x ∈ o.op.operands, Rel w B η (ρA x) (ρ x)) {t e : TypeId} {x hi mx : Operand} {l : List AV} {k : Nat} {kh km : IntKind} (ho : o.op = .slice t x none (some hi) (some mx)) (hu : P.underlying t = some (.slice e)) (hx : ρA x = .sl l k) (hk : P.cellsOf e ≠ 0) (hhi : ρA hi = .c (.int kh 0)) (hmx : ρA mx = .c (.int km 0)) : OpOK P n0 w ρ o B η .emp := by
  have h1 := he x (by simp [ho, Op.operands])
  rw [hx] at h1
  obtain ⟨A, n, c, us, hv, hk1, hn, hc, hm, hA, hr⟩ := h1.slL
  have h2 := he hi (by simp [ho, Op.operands])
  rw [hhi] at h2
  have h2 := h2.ofC
  have h3 := he mx (by simp [ho, Op.operands])
  rw [hmx] at h3
  have h3 := h3.ofC
  obtain ⟨ii, hii, hs⟩ := cells_info (t := e) (P := P) hk
  refine .of_run (v := .slice A 0 0) ?_ (.emp _ _)
  have b1 : (Instr.sliceBound (.int km 0) c .slice3Acap).run P w = .ok 0 w := by
    have := run_sliceBound (P := P) (kk := km) (z := 0) (y := c) (code := .slice3Acap) ⟨by omega, by omega⟩ w
    simpa using this
  have b2 : (Instr.sliceBound (.int kh 0) 0 .slice3B).run P w = .ok 0 w := by
    have := run_sliceBound (P := P) (kk := kh) (z := 0) (y := 0) (code := .slice3B) ⟨by omega, by omega⟩ w
    simpa using this
  have hb : (Instr.sliceBounds true n c none (some (.int kh 0)) (some (.int km 0))).run P w = .ok (0, 0, 0) w := by
    simp [Instr.sliceBounds, Sem.run_bind, b1, b2]
  simp [execOp, ho, Instr.sliceAt, Instr.slice, Sem.run_bind, run_underlying hu, hv, h2, h3, hb, run_sizeOf hii]
theorem slice3c_ok (he : ∀ x ∈ o.op.operands, Rel w B η (ρA x) (ρ x)) {t e : TypeId} {x hi mx : Operand} {A : Addr} {c : Nat} {kh km : IntKind} (ho : o.op = .slice t x none (some hi) (some mx)) (hu : P.underlying t = some (.slice e)) (hx : ρA x = .c (.slice (some A) 0 c)) (hk : P.cellsOf e ≠ 0) (hhi : ρA hi = .c (.int kh 0)) (hmx : ρA mx = .c (.int km 0)) : OpOK P n0 w ρ o B η .emp := by
  have h1 := he x (by simp [ho, Op.operands])
  rw [hx] at h1
  have hv := h1.ofC
  have h2 := he hi (by simp [ho, Op.operands])
  rw [hhi] at h2
  have h2 := h2.ofC
  have h3 := he mx (by simp [ho, Op.operands])
  rw [hmx] at h3
  have h3 := h3.ofC
  obtain ⟨ii, hii, hs⟩ := cells_info (t := e) (P := P) hk
  refine .of_run (v := .slice (some A) 0 0) ?_ (.emp _ _)
  have b1 : (Instr.sliceBound (.int km 0) c .slice3Acap).run P w = .ok 0 w := by
    have := run_sliceBound (P := P) (kk := km) (z := 0) (y := c) (code := .slice3Acap) ⟨by omega, by omega⟩ w
    simpa using this
  have b2 : (Instr.sliceBound (.int kh 0) 0 .slice3B).run P w = .ok 0 w := by
    have := run_sliceBound (P := P) (kk := kh) (z := 0) (y := 0) (code := .slice3B) ⟨by omega, by omega⟩ w
    simpa using this
  have hb : (Instr.sliceBounds true 0 c none (some (.int kh 0)) (some (.int km 0))).run P w = .ok (0, 0, 0) w := by
    simp [Instr.sliceBounds, Sem.run_bind, b1, b2]
  simp [execOp, ho, Instr.sliceAt, Instr.slice, Sem.run_bind, run_underlying hu, hv, h2, h3, hb, run_sizeOf hii]
theorem lenE_ok (he : ∀ x ∈ o.op.operands, Rel w B η (ρA x) (ρ x)) {x : Operand} {ts : Array TypeId} {t e : TypeId} (ho : o.op = .call ⟨.builtin .len, #[x], ts⟩) (ht : ts[0]? = some t) (hu : P.underlying t = some (.slice e)) (hx : ρA x = .emp) : OpOK P n0 w ρ o B η (.c (.int .i64 0)) := by
  have h1 := he x (by simp [ho, Op.operands, Call.operands])
  rw [hx] at h1
  generalize hv : ρ x = v at h1
  cases h1 with
  | emp _ A =>
    refine .of_run (v := .int .i64 0) ?_ (.c _ _)
    simp [execOp, ho, resolve, invoke, builtin, Builtin.len_, Sem.run_bind, hv, ht, run_underlying hu, goInt]
theorem len_ok (he : ∀ x ∈ o.op.operands, Rel w B η (ρA x) (ρ x)) {x : Operand} {ts : Array TypeId} {t e : TypeId} {l : List AV} {k : Nat} (ho : o.op = .call ⟨.builtin .len, #[x], ts⟩) (ht : ts[0]? = some t) (hu : P.underlying t = some (.slice e)) (hx : ρA x = .sl l k) : OpOK P n0 w ρ o B η (.c (.int .i64 ((l.length / k : Nat) : Int))) := by
  have h1 := he x (by simp [ho, Op.operands, Call.operands])
  rw [hx] at h1
  obtain ⟨A, n, c, us, hv, hk1, hn, hc, hm, hA, hr⟩ := h1.slL
  have hdiv : l.length / k = n := by rw [← hn]; exact Nat.mul_div_cancel _ hk1
  rw [hdiv]
  refine .of_run (v := .int .i64 n) ?_ (.c _ _)
  simp [execOp, ho, resolve, invoke, builtin, Builtin.len_, Sem.run_bind, hv, ht, run_underlying hu, goInt]
theorem lenOwn_ok {Bx : List Nat} (inv : Inv n0 Bx w B η H) (he : ∀ x ∈ o.op.operands, Rel w B η (ρA x) (ρ x)) {x : Operand} {ts : Array TypeId} {t e id k E : Nat} {cells : List AV} (ho : o.op = .call ⟨.builtin .len, #[x], ts⟩) (ht : ts[0]? = some t) (hu : P.underlying t = some (.slice e)) (hx : ρA x = .own id) (hH : H[id]? = some (.own cells E k)) : OpOK P n0 w ρ o B η (.c (.int .i64 ((cells.length / k : Nat) : Int))) := by
  have h1 := he x (by simp [ho, Op.operands, Call.operands])
  rw [hx] at h1
  generalize hv : ρ x = v at h1
  cases h1 with
  | own _ _ A n c hid =>
  have hent := inv.ent id _ hH
  rw [List.getD_eq_getElem?_getD, hid, Option.getD_some] at hent
  obtain ⟨n', us, hown, hrel, hk1, hbl⟩ := hent
  obtain rfl := hown.len
  have hdiv : cells.length / k = n := by rw [← hrel.1, hown.1]; exact Nat.mul_div_cancel _ hk1
  rw [hdiv]
  refine .of_run (v := .int .i64 n) ?_ (.c _ _)
  simp [execOp, ho, resolve, invoke, builtin, Builtin.len_, Sem.run_bind, hv, ht, run_underlying hu, goInt]
/-- What functions do, as plain functions on plain values. -/
abbrev Con := FuncId → List AV → Option AV
structure ConOK (P : Program) (C : Con) : Prop where
  callable : ∀ f args r, C f args = some r → ∃ fn, P.funcs[f]? = some fn ∧ fn.name ≠ "runtime.NumGoroutine" ∧ fn.body ≠ none
  calls : ∀ f args r, C f args = some r → ∀ (w : World) (B : List Nat) (cargs : List Value), (∀ b ∈ B, b < w.heap.size) → RelL w B [] args cargs → Calls P f cargs.toArray w fun e w' => ∃ v, e = .returned v ∧ Gr w w' ∧ Rel w' B [] r v
def immA (ρA : Operand → AV) (args : List Operand) : Option (List AV) := if args.all (fun x => (ρA x).imm) then some (args.map ρA) else none
theorem call_ok {C : Con} (hC : ConOK P C) {Bx : List Nat} (inv : Inv n0 Bx w B η H) (he : ∀ x ∈ o.op.operands, Rel w B η (ρA x) (ρ x)) (hf0 : ∀ f, ρ (.func f) = .func (.func f) #[] #[]) {f : FuncId} {args : Array Operand} {ts : Array TypeId} {as : List AV} {r : AV}
    (ho : o.op = .call ⟨.value (.func f), args, ts⟩) (ha : immA ρA args.toList = some as) (h : C f as = some r) : OpOK P n0 w ρ o B η r := by
  unfold immA at ha
  split at ha
  · rename_i himm
    injection ha with ha; subst ha
    obtain ⟨fn, h1, h2, h3⟩ := hC.callable _ _ _ h
    have hrel : RelL w B [] (args.toList.map ρA) (args.toList.map ρ) := ⟨by simp, fun i x hx => by
      rw [List.getElem?_map, Option.map_eq_some_iff] at hx
      obtain ⟨y, hy, rfl⟩ := hx
      exact ⟨ρ y, by rw [List.getElem?_map, hy]; rfl, (he y (by have := List.mem_of_getElem? hy; simp [ho, Op.operands, Call.operands]; exact .inr (by simpa using this))).bare (List.all_eq_true.1 himm y (List.mem_of_getElem? hy))⟩⟩
    have hcall := hC.calls _ _ _ h w B _ inv.lt hrel
    intro N hN
    unfold Oper.val
    have hrun : (execOp ρ o).run P w = .ok (.enter f (args.map ρ)) w := by
      simp [execOp, ho, resolve, Deferred.ofValue, hf0, invoke, callFunc, Sem.run_bind, h1, h2, h3]
    rw [hrun]
    have hargs : (args.toList.map ρ).toArray = args.map ρ := by apply Array.ext'; simp
    rw [hargs] at hcall
    exact hcall.mono fun e w' ⟨v, h4, h5, h6⟩ => ⟨v, h4, hN v w' (.gr h5) h6.any⟩
  · cases ha
end
end Go.Proofs.Ytpijcgohhjgdbaa
