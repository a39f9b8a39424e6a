/-
  Regions, code, functions: run on plain values.
-/
import Derived.Test.YtpijcgohhjgdbaaEng4e
import Derived.Scope
import Derived.LoopN
namespace Go.Proofs.Ytpijcgohhjgdbaa
set_option maxRecDepth 100000
open Go.RowKit
set_option linter.unusedVariables false
set_option linter.unusedSimpArgs false

structure St where
  slots : List AV
  heap : List Ent
def unf : AV → AV
  | .fresh l k => .sl l k
  | x => x
def isFresh : AV → Bool
  | .fresh _ _ => true
  | _ => false
theorem Rel.unf {w : World} {B : List Nat} {η : List Value} {x : AV} {v : Value} (h : Rel w B η x v) : Rel w B η (unf x) v := by
  cases h with
  | fresh _ l k A n us hk hn h0 hm hA hr => exact .sl _ l k A n n us hk hn (Nat.le_refl _) hm hA hr
  | c => exact .c _ _
  | agg _ l cs us hs hu hr => exact .agg _ l cs us hs hu hr
  | tup _ l cs us hs hu hr => exact .tup _ l cs us hs hu hr
  | sl _ l k A n c us hk hn hc hm hA hr => exact .sl _ l k A n c us hk hn hc hm hA hr
  | adr _ l ad us ha hr => exact .adr _ l ad us ha hr
  | box _ id off b h => exact .box _ id off b h
  | own _ id a n c h => exact .own _ id a n c h
  | emp _ A => exact .emp _ A
  | oadr _ id off b o n c h => exact .oadr _ id off b o n c h
theorem unf_not (x : AV) : isFresh (unf x) = false := by cases x <;> rfl
def FreshV (n0 : Nat) (r : AV) (v : Value) : Prop := isFresh r = true → ∀ ad n c, v = .slice (some ad) n c → n0 ≤ ad.block
def opA (sl : List AV) : Operand → AV
  | .tmp t => unf (sl.getD t (.c undef))
  | .const v => .c v
  | .global g => .c (.pointer (some ⟨g, 0, none⟩))
  | .func f => .c (.func (.func f) #[] #[])
def rawA (sl : List AV) : Operand → AV
  | .tmp t => sl.getD t (.c undef)
  | .const v => .c v
  | .global g => .c (.pointer (some ⟨g, 0, none⟩))
  | .func f => .c (.func (.func f) #[] #[])
def elemT (P : Program) (t : TypeId) : Option TypeId := match P.underlying t with
  | some (.slice e) => some e
  | _ => none
theorem elemT_spec {P : Program} {t e : TypeId} (h : elemT P t = some e) : P.underlying t = some (.slice e) := by
  unfold elemT at h
  split at h
  · rename_i hu; injection h with h; subst h; exact hu
  · cases h
/-- An array's length, and its elements' type. -/
def arrT (P : Program) (t : TypeId) : Option (Nat × TypeId) := match P.underlying t with
  | some (.array m e) => some (m, e)
  | _ => none
theorem arrT_spec {P : Program} {t e : TypeId} {m : Nat} (h : arrT P t = some (m, e)) : P.underlying t = some (.array m e) := by
  unfold arrT at h
  split at h
  · rename_i hu; injection h with h; injection h with h1 h2; subst h1 h2; exact hu
  · cases h
def indexA (P : Program) (H : List Ent) (t : TypeId) (x i : AV) : Option AV :=
  match elemT P t, arrT P t, i with
  | some e, _, .c (.int _ z) => (match x with
    | .sl l k => if (0 ≤ z ∧ z.toNat * k < l.length) ∧ k = P.cellsOf e then some (.adr (l.drop (z.toNat * k))) else none
    | .own id => (match H[id]? with
      | some (.own cells _ k) => if (0 ≤ z ∧ z.toNat * k < cells.length) ∧ k = P.cellsOf e then some (.oadr id (z.toNat * k)) else none
      | _ => none)
    | _ => none)
  | none, some (m, e), .c (.int _ z) => if (0 ≤ z ∧ z < m) ∧ P.cellsOf e ≠ 0 then addOff x (z.toNat * P.cellsOf e) else none
  | _, _, _ => none
def elemAt (P : Program) (t : TypeId) (x i : AV) : Option AV :=
  match arrT P t, x, i with
  | some (m, e), .agg l, .c (.int _ z) => if (0 ≤ z ∧ z < m) ∧ P.cellsOf e ≠ 0 then partA P e l (z.toNat * P.cellsOf e) else none
  | _, _, _ => none
def sliceA (P : Program) (ρA : Operand → AV) (t : TypeId) (x : AV) (lo hi : Option Operand) : Option AV :=
  match elemT P t, x with
  | some e, .sl l k => (match boundA ρA 0 lo, boundA ρA (l.length / k) hi with
    | some a, some b => if k = P.cellsOf e ∧ a ≤ b ∧ b * k ≤ l.length then some (.sl ((l.drop (a * k)).take ((b - a) * k)) k) else none
    | _, _ => none)
  | _, _ => none
def slice3A (P : Program) (t : TypeId) (x hi mx : AV) : Option AV :=
  match elemT P t, x with
  | some e, .sl _ _ => (match hi, mx with
    | .c (.int _ a), .c (.int _ b) => if a = 0 ∧ b = 0 ∧ P.cellsOf e ≠ 0 then some .emp else none
    | _, _ => none)
  | _, _ => none
def callA (P : Program) (C : Con) (H : List Ent) (ρA : Operand → AV) (c : Call) : Option AV :=
  match c.callee, c.args.toList with
  | .value (.func f), xs => (match immA ρA xs with | some ys => C f ys | none => none)
  | .builtin .len, [x] => (match ρA x, c.argTypes[0]? with
    | .sl l k, some t => (match elemT P t with | some _ => some (.c (.int .i64 ((l.length / k : Nat) : Int))) | none => none)
    | .emp, some t => (match elemT P t with | some _ => some (.c (.int .i64 0)) | none => none)
    | .own id, some t => (match elemT P t, H[id]? with | some _, some (.own cells _ k) => some (.c (.int .i64 ((cells.length / k : Nat) : Int))) | _, _ => none)
    | _, _ => none)
  | _, _ => none
def fieldTO (P : Program) (s : TypeId) (f : Nat) : Option (TypeId × Nat) := match fieldP P s f with | some fd => some (fd.type, fd.offset) | none => none
theorem fieldTO_spec {P : Program} {s : TypeId} {f ty off : Nat} (h : fieldTO P s f = some (ty, off)) : ∃ fd, fieldP P s f = some fd ∧ fd.type = ty ∧ fd.offset = off := by
  unfold fieldTO at h
  split at h
  · rename_i fd hfd; injection h with h; injection h with h1 h2; exact ⟨fd, hfd, h1, h2⟩
  · cases h
def evSpec (P : Program) (C : Con) (H : List Ent) (ρA : Operand → AV) : Op → Option AV
  | .move x => some (ρA x)
  | .assign x => some (ρA x)
  | .pick c a b => match ρA c with | .c (.bool t) => some (cond t (ρA a) (ρA b)) | _ => none
  | .nilCheck x => match ρA x with | .box i n => some (.box i n) | .adr l => some (.adr l) | .oadr i n => some (.oadr i n) | _ => none
  | .fieldAddr s x f => match fieldTO P s f with | some (ty, off) => if P.cellsOf ty ≠ 0 then addOff (ρA x) off else none | none => none
  | .load t x => loadA P H t (ρA x)
  | .field s x f => match fieldTO P s f, (ρA x) with | some (ty, off), .agg l => partA P ty l off | _, _ => none
  | .index t x i => elemAt P t (ρA x) (ρA i)
  | .indexAddr t x i => indexA P H t (ρA x) (ρA i)
  | .extract x i => match ρA x with | .tup l => l[i]? | _ => none
  | .slice t x lo hi none => sliceA P ρA t (ρA x) lo hi
  | .slice t x none (some hi) (some mx) => slice3A P t (ρA x) (ρA hi) (ρA mx)
  | .call c => callA P C H ρA c
  | _ => none
def convA (P : Program) (ρA : Operand → AV) (fr : Operand → Bool) (s d : TypeId) (x : Operand) : Option AV :=
  match ρA x with
  | .c a => (match convV P s d a with | some v => some (.c v) | none => none)
  | .sl l k => if k = 1 then (match bytesT P s with
    | some _ => if s = d then (if fr x = true ∧ l.isEmpty = false then some (.sl l 1) else none) else (if stringT P d = true then (match toBs l with | some bs => some (.c (.string ⟨bs.toArray⟩)) | none => none) else none)
    | none => none) else none
  | _ => none
def binA (P : Program) (op : BinOp) (t : TypeId) (x y : AV) : Option AV :=
  match x, y with
  | .c a, .c b => (match binV P op t a b with | some v => some (.c v) | none => none)
  | .sl l _, .c (.slice none _ _) => (match elemT P t, nilV op with | some _, some b => if l.isEmpty = false then some (.c (.bool b)) else none | _, _ => none)
  | _, _ => none
def unA (op : UnOp) (x : AV) : Option AV :=
  match x with
  | .c a => (match unV op a with | some v => some (.c v) | none => none)
  | _ => none
/-- Operations that are told by kinds. -/
def evKind (P : Program) (ρA : Operand → AV) (fr : Operand → Bool) : Op → Option AV
  | .binOp op t x y _ => binA P op t (ρA x) (ρA y)
  | .unOp op _ x => unA op (ρA x)
  | .convert s d x => convA P ρA fr s d x
  | .build t parts => buildA P t (partsA ρA parts)
  | _ => none
def isSel : Op → Bool
  | .select _ _ => true
  | _ => false
def newSl (P : Program) (ρA : Operand → AV) : Op → Option AV
  | .buildSlice t len parts => if len ≤ maxLen then (match buildSlA P t len (partsA ρA parts) with | some (.sl l k) => if len = 0 then some .emp else some (.fresh l k) | _ => none) else none
  | _ => none
def sliceF (P : Program) (ρA : Operand → AV) (t : TypeId) (x : AV) (lo : Operand) : Option AV :=
  match elemT P t, x with
  | some e, .fresh l k => (match boundA ρA 0 (some lo) with
    | some a => if k = P.cellsOf e ∧ a * k ≤ l.length then some (.fresh (l.drop (a * k)) k) else none
    | none => none)
  | _, _ => none
/-- What stays fresh. -/
def keepR (P : Program) (ρA ρR : Operand → AV) : Op → Option AV
  | .move x => match ρR x with | .fresh l k => some (.fresh l k) | _ => none
  | .assign x => match ρR x with | .fresh l k => some (.fresh l k) | _ => none
  | .slice t x (some lo) none none => sliceF P ρA t (ρR x) lo
  | _ => none
def evP (P : Program) (C : Con) (H : List Ent) (ρA ρR : Operand → AV) (o : Oper) : Option AV :=
  match newSl P ρA o.op with
  | some r => some r
  | none => match keepR P ρA ρR o.op with
   | some r => some r
   | none => match evSpec P C H ρA o.op with
    | some r => some (unf r)
    | none => match evKind P ρA (fun x => isFresh (ρR x)) o.op with
      | some r => some (unf r)
      | none => if isSel o.op then none else match evDef P ρA o with
        | some r => some (unf r)
        | none => none
/-- The operation yields r; what is fresh lies in a block of the call's own. -/
def OpOKF (P : Program) (n0 : Nat) (w : World) (ρ : Operand → Value) (o : Oper) (B : List Nat) (η : List Value) (r : AV) : Prop :=
  ∀ N : Value → World → Prop, (∀ v w', Gk n0 B w w' → Rel w' B η r v → FreshV n0 r v → N v w') → Oper.val P ρ o w N

section
variable {P : Program} {n0 : Nat} {w : World} {B : List Nat} {η : List Value} {H : List Ent} {ρ : Operand → Value} {ρA ρR : Operand → AV} {fr : Operand → Bool} {o : Oper} {C : Con} {Bx : List Nat}
theorem OpOK.f {r : AV} (h : OpOK P n0 w ρ o B η r) : OpOKF P n0 w ρ o B η (unf r) := fun N hN => h N fun v w' g hr => hN v w' g hr.unf (fun hf => by rw [unf_not] at hf; cases hf)
theorem evSpec_ok (hC : ConOK P C) (inv : Inv n0 Bx w B η H) (he : ∀ x ∈ o.op.operands, Rel w B η (ρA x) (ρ x)) (hf0 : ∀ f, ρ (.func f) = .func (.func f) #[] #[]) {r : AV} (hs : evSpec P C H ρA o.op = some r) : OpOK P n0 w ρ o B η r := by
    generalize ho : o.op = op at hs
    unfold evSpec at hs
    split at hs
    · injection hs with hs; subst hs; exact move_ok he (.inl ho)
    · injection hs with hs; subst hs; exact move_ok he (.inr ho)
    · split at hs
      · rename_i hc; injection hs with hs; subst hs; exact pick_ok he ho hc
      · cases hs
    · split at hs
      · rename_i i n hx; injection hs with hs; subst hs; rw [← hx]; exact nilCheck_ok he ho (.inl ⟨i, n, hx⟩)
      · rename_i l hx; injection hs with hs; subst hs; rw [← hx]; exact nilCheck_ok he ho (.inr (.inl ⟨l, hx⟩))
      · rename_i i n hx; injection hs with hs; subst hs; rw [← hx]; exact nilCheck_ok he ho (.inr (.inr ⟨i, n, hx⟩))
      · cases hs
    · split at hs
      · rename_i ty off hfd
        obtain ⟨fd, hfd2, rfl, rfl⟩ := fieldTO_spec hfd
        split at hs
        · rename_i hc; exact fieldAddr_ok he ho hfd2 hc hs
        · cases hs
      · cases hs
    · exact loadA_ok inv he ho hs
    · split at hs
      · rename_i ty off l hfd hx
        obtain ⟨fd, hfd2, rfl, rfl⟩ := fieldTO_spec hfd
        exact field_ok he ho hfd2 hx hs
      · cases hs
    · unfold elemAt at hs
      split at hs
      · rename_i hu hx hi
        split at hs
        · rename_i hc; exact index_ok he ho (arrT_spec hu) hx hi hc.1 hc.2 hs
        · cases hs
      · cases hs
    · unfold indexA at hs
      split at hs
      · rename_i hu hi
        have hu := elemT_spec hu
        split at hs
        · rename_i hx
          split at hs
          · rename_i hc; injection hs with hs; subst hs; exact indexSl_ok he ho hu hx hi hc.1 hc.2
          · cases hs
        · rename_i hx
          split at hs
          · rename_i hH
            split at hs
            · rename_i hc; injection hs with hs; subst hs; exact indexOwn_ok inv he ho hu hx hi hH hc.1 hc.2
            · cases hs
          · cases hs
        · cases hs
      · rename_i hu hi
        split at hs
        · rename_i hc; exact indexArr_ok he ho (arrT_spec hu) hi hc.1 hc.2 hs
        · cases hs
      · cases hs
    · split at hs
      · rename_i hx; exact extract_ok he ho hx hs
      · cases hs
    · unfold sliceA at hs
      split at hs
      · rename_i hu hx
        split at hs
        · rename_i hlo hhi
          split at hs
          · rename_i hc; injection hs with hs; subst hs; exact slice_ok he ho (elemT_spec hu) hx hc.1 hlo hhi hc.2.1 hc.2.2
          · cases hs
        · cases hs
      · cases hs
    · unfold slice3A at hs
      split at hs
      · rename_i hu hx
        split at hs
        · rename_i hhi hmx
          split at hs
          · rename_i hc
            injection hs with hs; subst hs
            obtain ⟨rfl, rfl, hc⟩ := hc
            exact slice3_ok he ho (elemT_spec hu) hx hc hhi hmx
          · cases hs
        · cases hs
      · cases hs
    · rename_i c
      obtain ⟨cal, args, ts⟩ := c
      unfold callA at hs
      split at hs
      · rename_i hcal
        simp only at hcal hs
        subst hcal
        split at hs
        · rename_i ha; exact call_ok hC inv he hf0 ho ha hs
        · cases hs
      · rename_i hcal hargs
        simp only at hcal hargs hs
        subst hcal
        obtain ⟨args⟩ := args
        simp only at hargs
        subst hargs
        split at hs
        · rename_i hx ht
          split at hs
          · rename_i hu; injection hs with hs; subst hs; exact len_ok he ho ht (elemT_spec hu) hx
          · cases hs
        · rename_i hx ht
          split at hs
          · rename_i hu; injection hs with hs; subst hs; exact lenE_ok he ho ht (elemT_spec hu) hx
          · cases hs
        · rename_i hx ht
          split at hs
          · rename_i hu hH; injection hs with hs; subst hs; exact lenOwn_ok inv he ho ht (elemT_spec hu) hx hH
          · cases hs
        · cases hs
      · cases hs
    · cases hs
theorem evKind_ok (he : ∀ x ∈ o.op.operands, Rel w B η (ρA x) (ρ x)) (hfr : ∀ x ∈ o.op.operands, fr x = true → ∀ ad n c, ρ x = .slice (some ad) n c → n0 ≤ ad.block) {r : AV} (hs : evKind P ρA fr o.op = some r) : OpOK P n0 w ρ o B η r := by
  generalize ho : o.op = op at hs
  unfold evKind at hs
  split at hs
  · unfold binA at hs
    split at hs
    · rename_i hx hy
      split at hs
      · rename_i v hv; injection hs with hs; subst hs; exact bin_ok he ho hx hy hv
      · cases hs
    · rename_i hx hy
      split at hs
      · rename_i hu hb
        split at hs
        · rename_i hl; injection hs with hs; subst hs; exact nil_ok he ho hx hy (fun h => by rw [h] at hl; cases hl) (elemT_spec hu) hb
        · cases hs
      · cases hs
    · cases hs
  · unfold unA at hs
    split at hs
    · rename_i hx
      split at hs
      · rename_i v hv; injection hs with hs; subst hs; exact un_ok he ho hx hv
      · cases hs
    · cases hs
  · unfold convA at hs
    split at hs
    · rename_i hx
      split at hs
      · rename_i v hv; injection hs with hs; subst hs; exact conv_ok he ho hx hv
      · cases hs
    · rename_i l k hx
      split at hs
      · rename_i hk
        subst hk
        split at hs
        · rename_i e hb
          split at hs
          · rename_i hsd
            subst hsd
            split at hs
            · rename_i hc
              injection hs with hs; subst hs
              exact mark_ok he ho hx hb (fun h => by rw [h] at hc; exact absurd hc.2 (by simp)) (hfr _ (by simp [ho, Op.operands]) hc.1)
            · cases hs
          · split at hs
            · rename_i hd
              split at hs
              · rename_i bs hbs; injection hs with hs; subst hs; exact toStr_ok he ho hx hb hd hbs
              · cases hs
            · cases hs
        · cases hs
      · cases hs
    · cases hs
  · exact build_ok he ho hs
  · cases hs
theorem Rel.toFresh {l : List AV} {k n : Nat} {A : Option Addr} (h : Rel w B η (.sl l k) (.slice A n n)) : Rel w B η (.fresh l k) (.slice A n n) := by
  cases h with
  | sl _ l k A n c us hk hn hc hm hA hr => exact .fresh _ l k A n us hk hn (fun h => by
      subst h
      rcases Nat.eq_zero_or_pos n with h0 | h0
      · exact h0
      · obtain ⟨ad, h1, _⟩ := hA h0; cases h1) hm hA hr
theorem Rel.freshL {l : List AV} {k : Nat} {v : Value} (h : Rel w B η (.fresh l k) v) : ∃ A n us, v = .slice A n n ∧ 1 ≤ k ∧ n * k = l.length ∧ (A = none → n = 0) ∧ n ≤ maxLen ∧ (0 < n → ∃ ad, A = some ad ∧ At w B ad l.length us) ∧ ∀ i x, l[i]? = some x → Rel w B [] x (us i) := by
  cases h with
  | fresh _ _ _ A n us hk hn h0 hm hA hr => exact ⟨A, n, us, rfl, hk, hn, h0, hm, hA, hr⟩
theorem sliceF_ok (he : ∀ x ∈ o.op.operands, Rel w B η (ρA x) (ρ x)) (hR : ∀ x ∈ o.op.operands, Rel w B η (ρR x) (ρ x) ∧ FreshV n0 (ρR x) (ρ x)) {t e : TypeId} {x lo : Operand} {l : List AV} {k a : Nat} (ho : o.op = .slice t x (some lo) none none) (hu : P.underlying t = some (.slice e)) (hx : ρR x = .fresh l k)
    (hk : k = P.cellsOf e) (hlo : boundA ρA 0 (some lo) = some a) (hb : a * k ≤ l.length) : OpOKF P n0 w ρ o B η (.fresh (l.drop (a * k)) k) := by
  have h1 := hR x (by simp [ho, Op.operands])
  rw [hx] at h1
  obtain ⟨h1, hf⟩ := h1
  obtain ⟨A, n, us, hv, hk1, hn, h0, hm, hA, hr⟩ := h1.freshL
  have han : a ≤ n := Nat.le_of_mul_le_mul_right (by rw [hn]; exact hb) hk1
  obtain ⟨ii, hii, hs⟩ := cells_info (t := e) (P := P) (by omega)
  have hrun : (execOp ρ o).run P w = .ok (.value (.slice (if n = a then A else A.map (·.add (a * k))) (n - a) (n - a))) w := by
    have hbounds : (Instr.sliceBounds true n n (some (ρ lo)) none none).run P w = .ok (a, n, n) w := by
      rcases boundA_spec (fun y h => he y (by simp [ho, Op.operands, h])) hlo with ⟨h, _⟩ | ⟨y, kk, z, hy0, hy, hz, hza⟩
      · cases h
      · injection hy0 with hy0
        subst hy0 hza
        have hzn : z ≤ (n : Int) := by omega
        simp [Instr.sliceBounds, Sem.run_bind, hy, run_sliceBound (P := P) ⟨hz, hzn⟩]
    simp [execOp, ho, Instr.sliceAt, Instr.slice, Sem.run_bind, run_underlying hu, hv, hbounds, run_sizeOf hii, hs, hk]
  intro N hN
  unfold Oper.val
  rw [hrun]
  refine hN _ _ (Gk.refl _ _ w) (.fresh _ _ _ _ _ (fun i => us (a * k + i)) hk1 (by rw [List.length_drop, ← hn, Nat.sub_mul]) (fun h => ?_) (by omega) (fun hp => ?_) (fun i x hx => hr _ x (by rw [List.getElem?_drop] at hx; exact hx))) (fun _ ad m c hh => ?_)
  · cases A with
    | none => have := h0 rfl; omega
    | some ad => split at h <;> simp at h
  · obtain ⟨ad, rfl, hat⟩ := hA (by omega)
    rw [if_neg (by omega)]
    exact ⟨_, rfl, by rw [List.length_drop]; exact hat.shift (a * k)⟩
  · injection hh with hh
    cases A with
    | none => split at hh <;> simp at hh
    | some ad0 =>
      have := hf rfl ad0 n n hv
      split at hh
      · injection hh with hh; subst hh; exact this
      · simp at hh; subst hh; rw [block_of_add]; exact this
theorem buildSl_fresh (hlt : ∀ b ∈ B, b < w.heap.size) (hb : n0 ≤ w.heap.size) (he : ∀ x ∈ o.op.operands, Rel w B η (ρA x) (ρ x)) {t : TypeId} {len k : Nat} {l : List AV} {parts : Array (Nat × Operand)} (ho : o.op = .buildSlice t len parts) (hm : len ≤ maxLen) (h : buildSlA P t len (partsA ρA parts) = some (.sl l k)) : OpOKF P n0 w ρ o B η (.fresh l k) := fun N hN =>
  buildSl_raw hlt he ho hm h N fun v w' g hr hf hv0 => by
    obtain ⟨A, rfl⟩ := hv0
    exact hN _ w' (.gr g) hr.toFresh fun _ ad n c hv => Nat.le_trans hb (hf ad n c hv)
theorem buildSl_emp (hlt : ∀ b ∈ B, b < w.heap.size) (he : ∀ x ∈ o.op.operands, Rel w B η (ρA x) (ρ x)) {t : TypeId} {len k : Nat} {l : List AV} {parts : Array (Nat × Operand)} (ho : o.op = .buildSlice t len parts) (hm : len ≤ maxLen) (h0 : len = 0) (h : buildSlA P t len (partsA ρA parts) = some (.sl l k)) : OpOKF P n0 w ρ o B η .emp := fun N hN =>
  buildSl_raw hlt he ho hm h N fun v w' g hr hf hv => by
    obtain ⟨A, rfl⟩ := hv
    subst h0
    exact hN _ w' (.gr g) (.emp _ A) (fun h => by cases h)
theorem evP_ok (hC : ConOK P C) (inv : Inv n0 Bx w B η H) (he : ∀ x ∈ o.op.operands, Rel w B η (ρA x) (ρ x)) (hf0 : ∀ f, ρ (.func f) = .func (.func f) #[] #[]) (hR : ∀ x ∈ o.op.operands, Rel w B η (ρR x) (ρ x) ∧ FreshV n0 (ρR x) (ρ x)) {r : AV} (h : evP P C H ρA ρR o = some r) : OpOKF P n0 w ρ o B η r := by
  unfold evP at h
  split at h
  · rename_i r' hn
    injection h with h; subst h
    generalize ho : o.op = op at hn
    unfold newSl at hn
    split at hn
    · split at hn
      · rename_i hm
        split at hn
        · rename_i l k hb
          split at hn
          · rename_i h0; injection hn with hn; subst hn; exact buildSl_emp inv.lt he ho hm h0 hb
          · injection hn with hn; subst hn
            exact buildSl_fresh inv.lt inv.base.1 he ho hm hb
        · cases hn
      · cases hn
    · cases hn
  · split at h
    · rename_i r' hs
      injection h with h; subst h
      generalize ho : o.op = op at hs
      unfold keepR at hs
      split at hs
      · rename_i x
        split at hs
        · rename_i l k hx
          injection hs with hs; subst hs
          have h1 := hR x (by simp [ho, Op.operands])
          rw [hx] at h1
          intro N hN
          unfold Oper.val
          rw [show (execOp ρ o).run P w = .ok (.value (ρ x)) w by simp [execOp, ho]]
          exact hN _ _ (Gk.refl _ _ w) h1.1 h1.2
        · cases hs
      · rename_i x
        split at hs
        · rename_i l k hx
          injection hs with hs; subst hs
          have h1 := hR x (by simp [ho, Op.operands])
          rw [hx] at h1
          intro N hN
          unfold Oper.val
          rw [show (execOp ρ o).run P w = .ok (.value (ρ x)) w by simp [execOp, ho]]
          exact hN _ _ (Gk.refl _ _ w) h1.1 h1.2
        · cases hs
      · unfold sliceF at hs
        split at hs
        · rename_i hu hx
          split at hs
          · rename_i hlo
            split at hs
            · rename_i hc; injection hs with hs; subst hs; exact sliceF_ok he hR ho (elemT_spec hu) hx hc.1 hlo hc.2
            · cases hs
          · cases hs
        · cases hs
      · cases hs
    · split at h
      · rename_i r' hs; injection h with h; subst h; exact (evSpec_ok hC inv he hf0 hs).f
      · split at h
        · rename_i r' hs; injection h with h; subst h
          exact (evKind_ok he (fun x hx hf => (hR x hx).2 hf) hs).f
        · split at h
          · cases h
          · rename_i hsel
            split at h
            · rename_i r' hs; injection h with h; subst h
              exact (evDef_ok (fun cs b e => by rw [e] at hsel; exact hsel rfl) he hs).f
            · cases h
end

/-! ### Slots -/
structure SlotsOK (n0 : Nat) (w : World) (B : List Nat) (η : List Value) (sl : List AV) (tmps : Array Value) : Prop where
  size : sl.length = tmps.size
  rel : ∀ t, Rel w B η (sl.getD t (.c undef)) (tmps.getD t undef)
  fresh : ∀ t, FreshV n0 (sl.getD t (.c undef)) (tmps.getD t undef)
def setA (sl : List AV) (d : Option Tmp) (r : AV) : List AV := match d with | some t => sl.set t r | none => sl
theorem setA_length (sl : List AV) (d : Option Tmp) (r : AV) : (setA sl d r).length = sl.length := by cases d <;> simp [setA]
def wantA (ops : Array Oper) (sl : List AV) (o : Oper) : Option Bool :=
  match o.guard with
  | none => some true
  | some (g, want) => match (ops[g]?).bind (·.dst) with
    | some d => match sl[d]? with
      | some (.c v) => match v with
        | .bool b => some (b == want)
        | _ => some false
      | _ => none
    | none => none
section
variable {P : Program} {n0 : Nat} {w : World} {B : List Nat} {η : List Value} {H : List Ent} {sl : List AV} {a : Act} {C : Con} {Bx : List Nat}
theorem SlotsOK.op (h : SlotsOK n0 w B η sl a.tmps) (x : Operand) : Rel w B η (opA sl x) (a.eval x) := by
  cases x with
  | tmp t => exact (h.rel t).unf
  | const v => exact .c _ _
  | global g => exact .c _ _
  | func f => exact .c _ _
theorem SlotsOK.raw (h : SlotsOK n0 w B η sl a.tmps) (x : Operand) : Rel w B η (rawA sl x) (a.eval x) ∧ FreshV n0 (rawA sl x) (a.eval x) := by
  cases x with
  | tmp t => exact ⟨h.rel t, h.fresh t⟩
  | const v => exact ⟨.c _ _, fun h => by cases h⟩
  | global g => exact ⟨.c _ _, fun h => by cases h⟩
  | func f => exact ⟨.c _ _, fun h => by cases h⟩
theorem SlotsOK.put {r : AV} {v : Value} (h : SlotsOK n0 w B η sl a.tmps) (hr : Rel w B η r v) (hfv : FreshV n0 r v) (d : Option Tmp) : SlotsOK n0 w B η (setA sl d r) (a.put d v).tmps := by
  cases d with
  | none => exact h
  | some t =>
    have key : ∀ u, ((setA sl (some t) r).getD u (.c undef) = r ∧ (a.put (some t) v).tmps.getD u undef = v) ∨ ((setA sl (some t) r).getD u (.c undef) = sl.getD u (.c undef) ∧ (a.put (some t) v).tmps.getD u undef = a.tmps.getD u undef) := by
      intro u
      simp only [setA, Act.put, List.getD_eq_getElem?_getD, Array.getD_eq_getD_getElem?]
      rw [List.getElem?_set, Array.getElem?_setIfInBounds]
      by_cases htu : t = u
      · subst htu
        simp only [if_true]
        rw [h.size]
        by_cases hlt : t < a.tmps.size
        · simp [hlt]
        · right
          simp only [hlt, if_false]
          have e1 : sl[t]? = none := List.getElem?_eq_none (by rw [h.size]; exact Nat.le_of_not_lt hlt)
          have e2 : a.tmps[t]? = none := Array.getElem?_eq_none (Nat.le_of_not_lt hlt)
          rw [e1, e2]
          exact ⟨rfl, rfl⟩
      · simp [htu]
    refine ⟨by simp [setA, Act.put, h.size], fun u => ?_, fun u => ?_⟩
    · rcases key u with ⟨h1, h2⟩ | ⟨h1, h2⟩ <;> rw [h1, h2]
      · exact hr
      · exact h.rel u
    · rcases key u with ⟨h1, h2⟩ | ⟨h1, h2⟩ <;> rw [h1, h2]
      · exact hfv
      · exact h.fresh u
theorem SlotsOK.on {w' : World} {B' : List Nat} {η' : List Value} {tmps : Array Value} (h : SlotsOK n0 w B η sl tmps) (g : On B w w') (hB : ∀ b ∈ B', b ∈ B ∨ w.heap.size ≤ b) (he : ∀ (id : Nat) v, η[id]? = some v → η'[id]? = some v) : SlotsOK n0 w' B' η' sl tmps :=
  ⟨h.size, fun t => (h.rel t).on g hB he, h.fresh⟩
theorem wantA_spec {ops : Array Oper} {o : Oper} {b : Bool} (h : SlotsOK n0 w B η sl a.tmps) (hw : wantA ops sl o = some b) : Region.wanted o (yielded ops a.tmps) = b := by
  unfold wantA at hw
  unfold Region.wanted
  split at hw
  · rename_i hg; injection hw with hw; subst hw; simp [hg]
  · rename_i g want hg
    rw [hg]
    simp only
    unfold yielded
    split at hw
    · rename_i d hd
      split at hw
      · rename_i v hv
        have hr := h.rel d
        rw [List.getD_eq_getElem?_getD, hv, Option.getD_some] at hr
        have hlt : d < a.tmps.size := by rw [← h.size]; exact (List.getElem?_eq_some_iff.1 hv).1
        have hav : a.tmps[d]? = some v := by
          have := hr.ofC
          rw [Array.getD_eq_getD_getElem?, Array.getElem?_eq_getElem hlt, Option.getD_some] at this
          rw [Array.getElem?_eq_getElem hlt, this]
        simp only [hd, Option.bind_some, hav]
        split at hw
        · exact Option.some.inj hw
        · injection hw with hw; subst hw
          rename_i hnb
          cases v with
          | bool b => exact absurd rfl (hnb b)
          | _ => rfl
      · cases hw
    · cases hw
theorem val_wp {o : Oper} {K : Act → World → Prop} {Q : Exit → Act → World → Prop} (h : Oper.val P a.eval o w (fun v w' => K (a.put o.dst v) w')) : o.wp P a w K Q := by
  unfold Oper.val at h
  unfold Oper.wp
  generalize (execOp a.eval o).run P w = r at *
  cases r with
  | ok nx w' =>
    cases nx <;> simp only [Oper.upon] at h ⊢
    case value u => exact h
    case skip => exact h
    case enter f args => exact Calls.mono h fun e w'' ⟨v, he, hk⟩ => by subst he; exact hk
  | halt x w' => simp only at h
end
end Go.Proofs.Ytpijcgohhjgdbaa
