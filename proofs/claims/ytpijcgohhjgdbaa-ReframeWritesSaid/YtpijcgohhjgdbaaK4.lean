/-
  Operations that write nothing, on typed values: numbers, texts, structs and slices that are built; and all of them.
-/
import Derived.Test.YtpijcgohhjgdbaaK3b
namespace Go.Proofs.Ytpijcgohhjgdbaa
set_option maxRecDepth 100000
open Go.RowKit
set_option linter.unusedVariables false
set_option linter.unusedSimpArgs false

/-- The bytes of numbers. -/
def toBy : List Int → Option (List UInt8)
  | [] => some []
  | n :: l => if 0 ≤ n ∧ n < 256 then (match toBy l with | some bs => some (UInt8.ofNat n.toNat :: bs) | none => none) else none
/-- The numbers of bytes. -/
def ofBy (s : List UInt8) : List Int := s.map fun b => (b.toNat : Int)
theorem toBy_eq : ∀ {l : List Int} {bs : List UInt8}, toBy l = some bs → toBs (flat (.int .u8) l) = some bs
  | [], bs, h => by simp only [toBy, Option.some.injEq] at h; subst h; rfl
  | n :: l, bs, h => by
    unfold toBy at h
    split at h
    · rename_i hc
      split at h
      · rename_i bs' hb
        injection h with h; subst h
        rw [flat_cons]
        simp only [cells, List.cons_append, List.nil_append, toBs, toB, hc, and_self, if_true, toBy_eq hb]
      · cases h
    · cases h
def lenK {R : Type} (P : Program) (H : List E2) (t : TypeId) (x : V) (k : V → Tree R) : Tree R :=
  match x with
  | .str s => if stringT P t = true then k (.c (.int .i64 s.length)) else .fail
  | .own id => (match elemT P t, H[id]? with
    | some _, some (.own d l _) => if 1 ≤ wd d then k (.c (.int .i64 l.length)) else .fail
    | _, _ => .fail)
  | x => (match elemT P t with
    | some e => (match viewL P e x with
      | some ⟨d, l⟩ => if 1 ≤ wd d then k (.c (.int .i64 l.length)) else .fail
      | none => .fail)
    | none => .fail)
def intK2 {R : Type} (op : BinOp) (k1 k2 : IntKind) (a b : Int) (k : V → Tree R) : Tree R :=
  match op with
  | .shl => .ite (decide (0 ≤ b)) (k (.c (.int k1 (k1.wrap (a * 2 ^ min b.toNat k1.bits))))) .fail
  | .shr => .ite (decide (0 ≤ b)) (k (.c (.int k1 (a.fdiv (2 ^ min b.toNat k1.bits))))) .fail
  | .quo => if k1 = k2 then .ite (decide (b = 0)) .fail (k (.c (.int k1 (k1.wrap (a.tdiv b))))) else .fail
  | .rem => if k1 = k2 then .ite (decide (b = 0)) .fail (k (.c (.int k1 (a.tmod b)))) else .fail
  | op => if k1 = k2 then (match intV op k1 a b with | some v => k (.c v) | none => .fail) else .fail
def binK {R : Type} (P : Program) (op : BinOp) (t : TypeId) (x y : V) (k : V → Tree R) : Tree R :=
  match x, y with
  | .c (.int k1 a), .c (.int k2 b) => intK2 op k1 k2 a b k
  | .c (.bool a), .c (.bool b) => if boolT P t = true then (match op with
    | .eql => k (.c (.bool (a == b)))
    | .neq => k (.c (.bool (!(a == b))))
    | _ => .fail) else .fail
  | .str a, .str b => (match op with
    | .eql => k (.c (.bool (decide (a = b))))
    | .neq => k (.c (.bool (!decide (a = b))))
    | _ => .fail)
  | .c (.slice none _ _), .c (.slice none _ _) => if sliB P t = true then (match op with
    | .eql => k (.c (.bool true))
    | .neq => k (.c (.bool false))
    | _ => .fail) else .fail
  | .c (.slice (some _) _ _), .c (.slice none _ _) => if sliB P t = true then (match op with
    | .eql => k (.c (.bool false))
    | .neq => k (.c (.bool true))
    | _ => .fail) else .fail
  | .lst d l, .c (.slice none _ _) => (match elemT P t, nilV op with | some _, some b => .ite l.isEmpty .fail (k (.c (.bool b))) | _, _ => .fail)
  | .fre d l, .c (.slice none _ _) => (match elemT P t, nilV op with | some _, some b => .ite l.isEmpty .fail (k (.c (.bool b))) | _, _ => .fail)
  | x, y => binK2 P op t x y k
def unK {R : Type} (op : UnOp) (x : V) (k : V → Tree R) : Tree R :=
  match op, x with
  | .not, .c (.bool b) => k (.c (.bool (!b)))
  | .neg, .c (.int kk n) => k (.c (.int kk (kk.wrap (0 - n))))
  | .xor, .c (.int kk n) => k (.c (.int kk (bits .xor kk (if kk.signed then -1 else kk.max) n)))
  | _, _ => .fail
def convK {R : Type} (P : Program) (s d : TypeId) (x : V) (k : V → Tree R) : Tree R :=
  match x with
  | .c (.int _ n) => (match kindT P d, kindT P s with | some kd, some _ => k (.c (.int kd (kd.wrap n))) | _, _ => .fail)
  | .str bs => if stringT P s = true ∧ stringT P d = true then k (.str bs) else .fail
  | x => (match bytesT P s with
    | some e => (match viewL P e x with
      | some ⟨dd, l⟩ => castK dd (.int .u8) (fun d => List (T d)) l fun l =>
        if s = d then (match x with | .fre _ _ => .ite l.isEmpty .fail (k (.lst (.int .u8) l)) | _ => .fail)
        else if stringT P d = true then .bind (toBy l) fun bs => k (.str bs) else .fail
      | none => .fail)
    | none => .fail)
def fillV (place : Nat → Option (Nat × Nat)) (segs : List V) : List (Nat × V) → Option (List V)
  | [] => some segs
  | (i, x) :: rest => match place i with
    | none => none
    | some (off, size) => match toSegs x with
      | some s => if wL s = size then (match putV segs off s with | some segs' => fillV place segs' rest | none => none) else none
      | none => none
/-- Arrays among parts, each as one. -/
def packV : Td → List V → List V × List V
  | .arr n d, segs => match segs with
    | .arr d' n' a :: r => ([.arr d' n' a], r)
    | segs => match (decN (decK d) n segs fun a r => Tree.done (a, r)).run with
      | some (a, r) => ([.arr d n a], r)
      | none => (segs, [])
  | .pair d e, segs => match packV d segs with
    | (p, r) => match packV e r with
      | (q, r') => (p ++ q, r')
  | _, segs => match segs with
    | [] => ([], [])
    | x :: r => ([x], r)
def packT (P : Program) (t : TypeId) (segs : List V) : List V := match tdOf P 12 t with
  | some d => match packV d segs with | (p, r) => p ++ r
  | none => segs
def partsV (ρ : Operand → V) (parts : Array (Nat × Operand)) : List (Nat × V) := parts.toList.map fun p => (p.1, ρ p.2)
def buildK {R : Type} (P : Program) (ρ : Operand → V) (t : TypeId) (parts : Array (Nat × Operand)) (k : V → Tree R) : Tree R :=
  match layP P t with
  | some (z, places) => (match fillV (places[·]?) (z.map constV) (partsV ρ parts) with | some l => k (.agg (packT P t l)) | none => .fail)
  | none => match layE P t with
    | some (z, size) => (match fillV (fun i => some (i * size, size)) (z.map constV) (partsV ρ parts) with | some l => k (.agg (packT P t l)) | none => .fail)
    | none => .fail
/-- It speaks of nothing that the call itself writes. -/
def immV : V → Bool
  | .c _ | .str _ | .lst _ _ | .arr _ _ _ | .emp => true
  | _ => false
def buildSlK {R : Type} (P : Program) (ρ : Operand → V) (t : TypeId) (len : Nat) (parts : Array (Nat × Operand)) (k : V → Tree R) : Tree R :=
  match sliT P t with
  | some (e, w, z) => if len * w ≤ 16777216 ∧ len ≤ maxLen then (match fillV (fun i => some (i * w, w)) ((repL len z).map constV) (partsV ρ parts) with
    | some l => if l.all immV = true then (if len = 0 then k .emp else match tdOf P 12 e with
      | some d => if wd d = w then decN (decK d) len l fun a r => if wL r = 0 then k (.fre d a.l) else .fail else .fail
      | none => .fail) else .fail
    | none => .fail) else .fail
  | none => .fail
section
variable {P : Program} {H : List E2} {ρ : Operand → V} {o : Oper} {R : Type}
theorem lenS_ok {n0 : Nat} {w : World} {B : List Nat} {η : List Value} {ρv : Operand → Value} {x : Operand} {ts : Array TypeId} {t : TypeId} {s : List UInt8} (hr : Rel w B η (.c (.string ⟨s.toArray⟩)) (ρv x)) (ho : o.op = .call ⟨.builtin .len, #[x], ts⟩) (ht : ts[0]? = some t) (hu : P.underlying t = some .string) : OpOK P n0 w ρv o B η (.c (.int .i64 s.length)) := by
  have hv := hr.ofC
  refine .of_run (v := .int .i64 s.length) ?_ (.c _ _)
  have hsz : (ByteArray.mk s.toArray).size = s.length := by show s.toArray.size = _; simp
  simp [execOp, ho, resolve, invoke, builtin, Builtin.len_, Sem.run_bind, hv, ht, run_underlying hu, goInt, hsz]
theorem lenK_ok {x : Operand} {ts : Array TypeId} {t : TypeId} {k : V → Tree R} {res : R} (hp : Plain ρ o) (ho : o.op = .call ⟨.builtin .len, #[x], ts⟩) (ht : ts[0]? = some t) (h : (lenK P H t (ρ x) k).run = some res) : ∃ r, (k r).run = some res ∧ Does P H ρ o r := by
  have hin : x ∈ o.op.operands := by simp [ho, Op.operands, Call.operands]
  unfold lenK at h
  split at h
  · rename_i s hx
    split at h
    · rename_i hs
      exact ⟨_, h, fun n0 Bx w B η ρv inv he => .of rfl (fun _ _ h => by simp [ex, ex0] at h) (lenS_ok (by have := he_of hp he x hin; rw [hx] at this; exact this) ho ht (stringT_spec hs))⟩
    · cases h
  · rename_i id hx
    split at h
    · rename_i e d l E het hH
      split at h
      · rename_i hw
        refine ⟨_, h, fun n0 Bx w B η ρv inv he => .of rfl (fun _ _ h => by simp [ex, ex0] at h) ?_⟩
        have := lenOwn_ok (ρA := fun y => ex (ρ y)) inv (he_of hp he) ho ht (elemT_spec het) (by simp only [hx]; rfl) (exH hH)
        rw [flat_length, Nat.mul_div_cancel _ (by omega)] at this
        exact this
      · cases h
    · cases h
  · split at h
    · rename_i e het
      split at h
      · rename_i d l hv
        split at h
        · rename_i hw
          refine ⟨_, h, fun n0 Bx w B η ρv inv he => .of rfl (fun _ _ h => by simp [ex, ex0] at h) ?_⟩
          have := len_ok (ρA := fun y => eL P e (ρ y)) (n0 := n0) (heL_of e hp he) ho ht (elemT_spec het) (eL_view hv)
          simp only [flat_length] at this
          rw [Nat.mul_div_cancel _ (by omega)] at this
          exact this
        · cases h
      · cases h
    · cases h
theorem flat_ne {d : Td} {l : List (T d)} (hw : 1 ≤ wd d) (hl : l.isEmpty = false) : flat d l ≠ [] := fun h0 => by
  have := congrArg List.length h0
  rw [flat_length] at this
  cases l with
  | nil => cases hl
  | cons a l => simp only [List.length_cons, List.length_nil, Nat.add_mul] at this; omega
theorem does_c {r : Value} (hp : Plain ρ o) (h : ∀ (n0 : Nat) (w : World) (B : List Nat) (η : List Value) (ρv : Operand → Value), (∀ x ∈ o.op.operands, Rel w B η (ex (ρ x)) (ρv x)) → OpOK P n0 w ρv o B η (.c r)) : Does P H ρ o (.c r) := fun n0 Bx w B η ρv inv he => .of rfl (fun _ _ h => by simp [ex, ex0] at h) (h n0 w B η ρv (he_of hp he))
theorem binK_ok {op : BinOp} {t t2 : TypeId} {x y : Operand} {k : V → Tree R} {res : R} (hp : Plain ρ o) (ho : o.op = .binOp op t x y t2) (h : (binK P op t (ρ x) (ρ y) k).run = some res) : ∃ r, (k r).run = some res ∧ Does P H ρ o r := by
  have key : ∀ (a b v : Value), ex (ρ x) = .c a → ex (ρ y) = .c b → binV P op t a b = some v → Does P H ρ o (.c v) := fun a b v hx hy hv =>
    does_c hp fun n0 w B η ρv he => bin_ok (ρA := fun y => ex (ρ y)) he ho hx hy hv
  have nil : ∀ (d : Td) (l : List (T d)) (n c : Nat) (b : Bool) (e : TypeId), (ρ x = .lst d l ∨ ρ x = .fre d l) → ρ y = .c (.slice none n c) → elemT P t = some e → nilV op = some b → l.isEmpty = false → 1 ≤ wd d → Does P H ρ o (.c (.bool b)) := fun d l n c b e hx hy he hb hl hw n0 Bx w B η ρv inv hh => by
    refine .of rfl (fun _ _ h => by simp [ex, ex0] at h) ?_
    exact nil_ok (ρA := fun y => eu (ρ y)) (l := flat d l) (k := wd d) (heu_of hp hh) ho (by rcases hx with hx | hx <;> simp only [hx] <;> rfl) (by simp only [hy]; rfl) (fun h0 => by
      have := congrArg List.length h0
      rw [flat_length] at this
      cases l with
      | nil => cases hl
      | cons a l => simp only [List.length_cons, List.length_nil, Nat.add_mul] at this; omega) (elemT_spec he) hb
  unfold binK at h
  split at h
  · rename_i k1 a k2 b hx hy
    have kk := fun v => key (.int k1 a) (.int k2 b) v (by simp only [hx]; rfl) (by simp only [hy]; rfl)
    unfold intK2 at h
    split at h
    · rcases Tree.run_ite h with ⟨hb, h⟩ | ⟨_, h⟩
      · exact ⟨_, h, kk _ (by simp only [binV]; rw [if_pos (of_decide_eq_true hb)])⟩
      · cases h
    · rcases Tree.run_ite h with ⟨hb, h⟩ | ⟨_, h⟩
      · exact ⟨_, h, kk _ (by simp only [binV]; rw [if_pos (of_decide_eq_true hb)])⟩
      · cases h
    · split at h
      · rename_i hkk
        rcases Tree.run_ite h with ⟨_, h⟩ | ⟨hb, h⟩
        · cases h
        · exact ⟨_, h, kk _ (by simp only [binV, intV]; rw [if_pos hkk, if_neg (of_decide_eq_false hb)])⟩
      · cases h
    · split at h
      · rename_i hkk
        rcases Tree.run_ite h with ⟨_, h⟩ | ⟨hb, h⟩
        · cases h
        · exact ⟨_, h, kk _ (by simp only [binV, intV]; rw [if_pos hkk, if_neg (of_decide_eq_false hb)])⟩
      · cases h
    · split at h
      · rename_i hkk
        split at h
        · rename_i n1 n2 n3 n4 _ v hv
          exact ⟨_, h, kk _ (by
            cases op <;> first | exact absurd rfl n1 | exact absurd rfl n2 | (simp only [binV]; rw [if_pos hkk]; exact hv))⟩
        · cases h
      · cases h
  · rename_i a b hx hy
    have kk := fun v => key (.bool a) (.bool b) v (by simp only [hx]; rfl) (by simp only [hy]; rfl)
    split at h
    · rename_i hb
      split at h
      · exact ⟨_, h, kk _ (by simp only [binV]; rw [if_pos hb])⟩
      · exact ⟨_, h, kk _ (by simp only [binV]; rw [if_pos hb])⟩
      · cases h
    · cases h
  · rename_i a b hx hy
    have kk := fun v => key (.string ⟨a.toArray⟩) (.string ⟨b.toArray⟩) v (by simp only [hx]; rfl) (by simp only [hy]; rfl)
    split at h
    · exact ⟨_, h, kk _ (by simp [binV, strV])⟩
    · exact ⟨_, h, kk _ (by simp [binV, strV])⟩
    · cases h
  · rename_i n c n' c' hx hy
    have kk := fun v => key (.slice none n c) (.slice none n' c') v (by simp only [hx]; rfl) (by simp only [hy]; rfl)
    split at h
    · rename_i hb
      split at h
      · exact ⟨_, h, kk _ (by simp only [binV]; rw [if_pos hb])⟩
      · exact ⟨_, h, kk _ (by simp only [binV]; rw [if_pos hb])⟩
      · cases h
    · cases h
  · rename_i A0 n c n' c' hx hy
    have kk := fun v => key (.slice (some A0) n c) (.slice none n' c') v (by simp only [hx]; rfl) (by simp only [hy]; rfl)
    split at h
    · rename_i hb
      split at h
      · exact ⟨_, h, kk _ (by simp only [binV]; rw [if_pos hb])⟩
      · exact ⟨_, h, kk _ (by simp only [binV]; rw [if_pos hb])⟩
      · cases h
    · cases h
  · rename_i d l n c hx hy
    split at h
    · rename_i e b he hb
      rcases Tree.run_ite h with ⟨_, h⟩ | ⟨hl, h⟩
      · cases h
      · refine ⟨_, h, fun n0 Bx w B η ρv inv hh => nil d l n c b e (.inl hx) hy he hb hl ?_ n0 Bx w B η ρv inv hh⟩
        have := he_of hp hh x (by simp [ho, Op.operands])
        rw [hx] at this
        obtain ⟨_, _, _, _, _, h1, _⟩ := Rel.slL this
        exact h1
    · cases h
  · rename_i d l n c hx hy
    split at h
    · rename_i e b he hb
      rcases Tree.run_ite h with ⟨_, h⟩ | ⟨hl, h⟩
      · cases h
      · refine ⟨_, h, fun n0 Bx w B η ρv inv hh => nil d l n c b e (.inr hx) hy he hb hl ?_ n0 Bx w B η ρv inv hh⟩
        have := heu_of hp hh x (by simp [ho, Op.operands])
        rw [hx] at this
        obtain ⟨_, _, _, _, _, h1, _⟩ := Rel.slL this
        exact h1
    · cases h
  · exact binK2_ok hp ho h
theorem unK_ok {op : UnOp} {t : TypeId} {x : Operand} {k : V → Tree R} {res : R} (hp : Plain ρ o) (ho : o.op = .unOp op t x) (h : (unK op (ρ x) k).run = some res) : ∃ r, (k r).run = some res ∧ Does P H ρ o r := by
  unfold unK at h
  split at h
  · rename_i b hx
    exact ⟨_, h, does_c hp fun n0 w B η ρv he => un_ok (ρA := fun y => ex (ρ y)) he ho (by simp only [hx]; rfl) rfl⟩
  · rename_i kk n hx
    exact ⟨_, h, does_c hp fun n0 w B η ρv he => un_ok (ρA := fun y => ex (ρ y)) he ho (by simp only [hx]; rfl) rfl⟩
  · rename_i kk n hx
    refine ⟨_, h, does_c hp fun n0 w B η ρv he => ?_⟩
    have h1 := he x (by simp [ho, Op.operands])
    rw [hx] at h1
    have h2 := Rel.ofC h1
    refine .of_run (v := .int kk (bits .xor kk (if kk.signed then -1 else kk.max) n)) ?_ (.c _ _)
    simp [execOp, ho, h2, Op.unary, Op.intBits, bits, Sem.run_bind]
  · cases h
theorem convS_ok {n0 : Nat} {w : World} {B : List Nat} {η : List Value} {ρv : Operand → Value} {s d : TypeId} {x : Operand} {bs : List UInt8} (hr : Rel w B η (.c (.string ⟨bs.toArray⟩)) (ρv x)) (ho : o.op = .convert s d x) (hs : P.underlying s = some .string) (hd : P.underlying d = some .string) : OpOK P n0 w ρv o B η (.c (.string ⟨bs.toArray⟩)) := by
  have hv := hr.ofC
  refine .of_run (v := .string ⟨bs.toArray⟩) ?_ (.c _ _)
  simp [execOp, ho, convert, Sem.run_bind, hv, run_underlying hs, run_underlying hd]
theorem convK_ok {s d : TypeId} {x : Operand} {k : V → Tree R} {res : R} (hp : Plain ρ o) (ho : o.op = .convert s d x) (h : (convK P s d (ρ x) k).run = some res) : ∃ r, (k r).run = some res ∧ Does P H ρ o r := by
  have hin : x ∈ o.op.operands := by simp [ho, Op.operands]
  unfold convK at h
  split at h
  · rename_i kk n hx
    split at h
    · rename_i kd ks hd hs
      exact ⟨_, h, does_c hp fun n0 w B η ρv he => conv_ok (ρA := fun y => ex (ρ y)) he ho (by simp only [hx]; rfl) (by simp only [convV, hd, hs])⟩
    · cases h
  · rename_i bs hx
    split at h
    · rename_i hs
      exact ⟨_, h, fun n0 Bx w B η ρv inv he => .of rfl (fun _ _ h => by simp [ex, ex0] at h) (convS_ok (by have := he_of hp he x hin; rw [hx] at this; exact this) ho (stringT_spec hs.1) (stringT_spec hs.2))⟩
    · cases h
  · split at h
    · rename_i e hb
      split at h
      · rename_i dd l hv
        obtain ⟨e1, h1⟩ := castK_run h
        clear h
        subst e1
        have h := h1; clear h1
        simp only at h
        split at h
        · rename_i hsd
          subst hsd
          split at h
          · rename_i d2 l2 _ hx
            rcases Tree.run_ite h with ⟨_, h⟩ | ⟨hl, h⟩
            · cases h
            · rw [hx] at hv
              simp only [viewL, Option.some.injEq, Sigma.mk.injEq] at hv
              obtain ⟨rfl, hv⟩ := hv
              have hv := eq_of_heq hv
              subst hv
              refine ⟨_, h, fun n0 Bx w B η ρv inv he => .of rfl (fun _ _ h => by simp [ex, ex0] at h) ?_⟩
              exact mark_ok (ρA := fun y => eu (ρ y)) (heu_of hp he) ho (by simp only [hx]; rfl) hb (fun h0 => flat_ne (d := .int .u8) (Nat.le_refl 1) hl h0) (fun ad n c hv => (he x hin).2 (by rw [hx]; rfl) ad n c hv)
          · cases h
        · split at h
          · rename_i hd
            obtain ⟨bs, hbs, h⟩ := Tree.run_bind h
            refine ⟨_, h, fun n0 Bx w B η ρv inv he => .of rfl (fun _ _ h => by simp [ex, ex0] at h) ?_⟩
            exact toStr_ok (ρA := fun y => eL P e (ρ y)) (heL_of e hp he) ho (eL_view hv) hb hd (toBy_eq hbs)
          · cases h
      · cases h
    · cases h
theorem fillV_ok {place : Nat → Option (Nat × Nat)} : ∀ (parts : List (Nat × V)) (segs r : List V), fillV place segs parts = some r → fillA place (segsA segs) (parts.map fun p => (p.1, eu p.2)) = some (segsA r)
  | [], segs, r, h => by simp only [fillV, Option.some.injEq] at h; subst h; rfl
  | (i, x) :: rest, segs, r, h => by
    unfold fillV at h
    split at h
    · cases h
    · rename_i off size hpl
      split at h
      · rename_i s hs
        split at h
        · rename_i hw
          split at h
          · rename_i segs' hput
            obtain ⟨h1, h2, h3⟩ := toSegs_ok hs
            obtain ⟨h4, h5⟩ := putV_ok hput
            have ih := fillV_ok rest segs' r h
            simp only [List.map_cons, fillA, hpl]
            rw [if_pos ⟨h2, by rw [h1, wL_eq, hw], by rw [h1]; exact h5⟩, h1, ← h4]
            exact ih
          · cases h
        · cases h
      · cases h
theorem packV_ok : ∀ (d : Td) (segs : List V), Wk (segsA segs) (segsA (packV d segs).1 ++ segsA (packV d segs).2)
  | .arr n d, segs => by
    unfold packV
    split
    · rw [segsA_cons, segsA_cons, segsA_nil, List.append_nil]; exact Wk.refl _
    · split
      · rename_i a r hr
        obtain ⟨a', rest, h1, h2⟩ := decN_ok (decK_ok d) n segs _ _ hr
        simp only [Tree.run, Option.some.injEq, Prod.mk.injEq] at h1
        obtain ⟨rfl, rfl⟩ := h1
        simpa [segsA, segA] using h2
      · simpa [segsA_nil] using Wk.refl _
  | .pair d e, segs => by
    unfold packV
    have h1 := packV_ok d segs
    split
    rename_i p r hpr
    rw [hpr] at h1
    have h2 := packV_ok e r
    split
    rename_i q r' hqr
    rw [hqr] at h2
    simp only [segsA_append, List.append_assoc]
    exact h1.trans ((Wk.refl _).app h2)
  | .int k, segs => by cases segs <;> simpa [packV, segsA_cons, segsA_nil] using Wk.refl _
  | .bool, segs => by cases segs <;> simpa [packV, segsA_cons, segsA_nil] using Wk.refl _
  | .str, segs => by cases segs <;> simpa [packV, segsA_cons, segsA_nil] using Wk.refl _
  | .sl d, segs => by cases segs <;> simpa [packV, segsA_cons, segsA_nil] using Wk.refl _
theorem packT_ok (t : TypeId) (segs : List V) : Wk (segsA segs) (segsA (packT P t segs)) := by
  unfold packT
  split
  · rename_i d _
    have := packV_ok d segs
    split
    rename_i p r hpr
    rw [hpr] at this
    rw [segsA_append]; exact this
  · exact Wk.refl _
theorem rel_agg_wk {w : World} {B : List Nat} {η : List Value} {l m : List AV} {v : Value} (hw : Wk l m) (h : Rel w B η (.agg l) v) : Rel w B η (.agg m) v := by
  obtain ⟨cs, rfl, hl⟩ := h.aggL
  exact (hw w B η _ hl).toAgg
theorem buildK_ok {t : TypeId} {parts : Array (Nat × Operand)} {k : V → Tree R} {res : R} (hp : Plain ρ o) (ho : o.op = .build t parts) (h : (buildK P ρ t parts k).run = some res) : ∃ r, (k r).run = some res ∧ Does P H ρ o r := by
  have hpm : (partsV ρ parts).map (fun p => (p.1, eu p.2)) = partsA (fun y => eu (ρ y)) parts := by simp [partsV, partsA, List.map_map, Function.comp_def]
  have key : ∀ l, buildA P t (partsA (fun y => eu (ρ y)) parts) = some (.agg (segsA l)) → Does P H ρ o (.agg (packT P t l)) := fun l hl n0 Bx w B η ρv inv he =>
    .of rfl (fun _ _ h => by simp [ex, ex0] at h) (OpOK.mono (build_ok (ρA := fun y => eu (ρ y)) (heu_of hp he) ho hl) fun w' v hv => rel_agg_wk (packT_ok t l) hv)
  unfold buildK at h
  split at h
  · rename_i z places hlay
    split at h
    · rename_i l hl
      refine ⟨_, h, key l ?_⟩
      have := fillV_ok _ _ _ hl
      rw [hpm, segsA_const] at this
      simp only [buildA, hlay, this]
    · cases h
  · rename_i hno
    split at h
    · rename_i z size hlay
      split at h
      · rename_i l hl
        refine ⟨_, h, key l ?_⟩
        have := fillV_ok _ _ _ hl
        rw [hpm, segsA_const] at this
        simp only [buildA, hno, hlay, this]
      · cases h
    · cases h
theorem immV_ok : ∀ (l : List V), l.all immV = true → (segsA l).all AV.imm0 = true
  | [], _ => rfl
  | x :: l, h => by
    simp only [List.all_cons, Bool.and_eq_true] at h
    rw [segsA_cons, List.all_append, immV_ok l h.2, Bool.and_true]
    have h1 := h.1
    cases x <;> first | rfl | cases h1 | skip
    rename_i d n a
    exact flat_imm d a.l
theorem rel_fresh_wk {w : World} {B : List Nat} {η : List Value} {l m : List AV} {k : Nat} {v : Value} (hw : Wk l m) (hlen : m.length = l.length) (h : Rel w B η (.fresh l k) v) : Rel w B η (.fresh m k) v := by
  cases h with
  | fresh _ _ _ A n us hk hn h0 hm hA hr =>
    have hl : RelL w B [] l ((List.range l.length).map us) := ⟨by simp, fun i y hy => ⟨us i, by simp [(List.getElem?_eq_some_iff.1 hy).1], hr i y hy⟩⟩
    have hm' := hw w B [] _ hl
    refine .fresh _ _ _ A n us hk (by rw [hlen]; exact hn) h0 hm (fun h0 => by obtain ⟨ad, q1, q2⟩ := hA h0; exact ⟨ad, q1, by rw [hlen]; exact q2⟩) (fun i x hx => ?_)
    obtain ⟨u, q1, q2⟩ := hm'.2 i x hx
    have hi : i < l.length := by rw [← hlen]; exact (List.getElem?_eq_some_iff.1 hx).1
    simp [hi] at q1
    rw [q1]; exact q2
theorem buildSlK_ok {t : TypeId} {len : Nat} {parts : Array (Nat × Operand)} {k : V → Tree R} {res : R} (hp : Plain ρ o) (ho : o.op = .buildSlice t len parts) (h : (buildSlK P ρ t len parts k).run = some res) : ∃ r, (k r).run = some res ∧ Does P H ρ o r := by
  have hpm : (partsV ρ parts).map (fun p => (p.1, eu p.2)) = partsA (fun y => eu (ρ y)) parts := by simp [partsV, partsA, List.map_map, Function.comp_def]
  unfold buildSlK at h
  split at h
  · rename_i e kw z hsl
    split at h
    · rename_i hlen
      split at h
      · rename_i l hl
        split at h
        · rename_i himm
          have hb : buildSlA P t len (partsA (fun y => eu (ρ y)) parts) = some (.sl (segsA l) kw) := by
            have := fillV_ok _ _ _ hl
            rw [hpm, segsA_const] at this
            simp only [buildSlA, hsl, this]
            rw [if_pos hlen.1, if_pos (immV_ok l himm)]
          split at h
          · rename_i h0
            exact ⟨_, h, fun n0 Bx w B η ρv inv he => fun N hN => buildSl_emp (ρA := fun y => eu (ρ y)) (n0 := n0) inv.lt (heu_of hp he) ho hlen.2 h0 hb N fun v w' g hr hf => hN v w' g hr hf⟩
          · split at h
            · rename_i d htd
              split at h
              · rename_i hwd
                obtain ⟨a, rest, h1, h2⟩ := decN_ok (decK_ok d) len l _ _ h
                split at h1
                · rename_i hrest
                  have hr0 : segsA rest = [] := List.eq_nil_of_length_eq_zero (by rw [wL_eq]; exact hrest)
                  rw [hr0, List.append_nil] at h2
                  refine ⟨_, h1, fun n0 Bx w B η ρv inv he => fun N hN => buildSl_fresh (ρA := fun y => eu (ρ y)) inv.lt inv.base.1 (heu_of hp he) ho hlen.2 hb N fun v w' g hr hf => hN v w' g ?_ hf⟩
                  have hll : (flat d a.l).length = (segsA l).length := by
                    have hrl : ∃ us, us.length = (segsA l).length ∧ RelL w' B [] (segsA l) us := by
                      cases hr with
                      | fresh _ _ _ A n us hk hn h0 hm hA hr => exact ⟨(List.range (segsA l).length).map us, by simp, by simp, fun i y hy => ⟨us i, by simp [(List.getElem?_eq_some_iff.1 hy).1], hr i y hy⟩⟩
                    obtain ⟨us, q1, q2⟩ := hrl
                    have := (h2 w' B [] us q2).1
                    omega
                  simp only [Rel2, ex, ex0, hwd]
                  exact rel_fresh_wk h2 hll hr
                · cases h1
              · cases h
            · cases h
        · cases h
      · cases h
    · cases h
  · cases h

/-! ### The lesser, the greater -/
def minI (a b : Int) : Int := if b < a then b else a
def maxI (a b : Int) : Int := if a < b then b else a
def minK (x y : V) (k : V → Tree R) : Tree R := match x, y with
  | .c (.int kk a), .c (.int _ b) => k (.c (.int kk (minI a b)))
  | _, _ => .fail
def maxK (x y : V) (k : V → Tree R) : Tree R := match x, y with
  | .c (.int kk a), .c (.int _ b) => k (.c (.int kk (maxI a b)))
  | _, _ => .fail
theorem minK_ok {x y : Operand} {ts : Array TypeId} {k : V → Tree R} {res : R} (hp : Plain ρ o) (ho : o.op = .call ⟨.builtin .min, #[x, y], ts⟩) (h : (minK (ρ x) (ρ y) k).run = some res) : ∃ r, (k r).run = some res ∧ Does P H ρ o r := by
  unfold minK at h
  split at h
  · rename_i kk a k2 b hx hy
    refine ⟨_, h, does_c hp fun n0 w B η ρv he => ?_⟩
    have h1 := he x (by simp [ho, Op.operands, Call.operands])
    have h2 := he y (by simp [ho, Op.operands, Call.operands])
    rw [hx] at h1; rw [hy] at h2
    have h1 := Rel.ofC h1
    have h2 := Rel.ofC h2
    refine .of_run (v := .int kk (minI a b)) ?_ (.c _ _)
    simp [execOp, ho, resolve, invoke, builtin, Builtin.min_, Builtin.min2, Sem.run_bind, h1, h2, minI]
  · cases h
theorem maxK_ok {x y : Operand} {ts : Array TypeId} {k : V → Tree R} {res : R} (hp : Plain ρ o) (ho : o.op = .call ⟨.builtin .max, #[x, y], ts⟩) (h : (maxK (ρ x) (ρ y) k).run = some res) : ∃ r, (k r).run = some res ∧ Does P H ρ o r := by
  unfold maxK at h
  split at h
  · rename_i kk a k2 b hx hy
    refine ⟨_, h, does_c hp fun n0 w B η ρv he => ?_⟩
    have h1 := he x (by simp [ho, Op.operands, Call.operands])
    have h2 := he y (by simp [ho, Op.operands, Call.operands])
    rw [hx] at h1; rw [hy] at h2
    have h1 := Rel.ofC h1
    have h2 := Rel.ofC h2
    refine .of_run (v := .int kk (maxI a b)) ?_ (.c _ _)
    simp [execOp, ho, resolve, invoke, builtin, Builtin.max_, Builtin.max2, Sem.run_bind, h1, h2, maxI]
  · cases h
/-! ### All of them -/
/-- What is not served. -/
def noOp (o : Op) : Option Unit := none
def pickK (c a b : V) (k : V → Tree R) : Tree R :=
  match c with
  | .c (.bool t) => (match a, b with
    | .c (.bool p), .c (.bool q) => k (.c (.bool (cond t p q)))
    | a, b => .ite t (k a) (k b))
  | _ => .fail
def evN1 (P : Program) (H : List E2) (ρ : Operand → V) (o : Op) (k : V → Tree R) : Tree R :=
  match o with
  | .nilCheck x => nilCheckK (ρ x) k
  | .fieldAddr s x f => fieldAddrK P s f (ρ x) k
  | .load t x => loadK P H t (ρ x) k
  | .field s x f => fieldK P s f (ρ x) k
  | .index t x i => (match ρ x with
    | .str s => if stringT P t = true then strIndexK s (ρ i) k else .fail
    | x => indexK P t x (ρ i) k)
  | .indexAddr t x i => indexAddrK P H t (ρ x) (ρ i) k
  | .extract x i => extractK (ρ x) i k
  | .slice t x lo hi none => (match arrT P t, ρ x with
    | some (m, e), x => sliceArrK P ρ m e x lo hi k
    | none, .str s => if stringT P t = true then strSliceK ρ s lo hi k else .fail
    | none, x => sliceK P ρ t x lo hi k)
  | .slice t x none (some hi) (some mx) => slice3K P t (ρ x) (ρ hi) (ρ mx) k
  | .call ⟨.builtin .len, ⟨[x]⟩, ts⟩ => (match ts[0]? with | some t => lenK P H t (ρ x) k | none => .fail)
  | .call ⟨.builtin .min, ⟨[x, y]⟩, _⟩ => minK (ρ x) (ρ y) k
  | .call ⟨.builtin .max, ⟨[x, y]⟩, _⟩ => maxK (ρ x) (ρ y) k
  | .binOp op t x y _ => binK P op t (ρ x) (ρ y) k
  | .unOp op _ x => unK op (ρ x) k
  | .convert s d x => convK P s d (ρ x) k
  | .build t parts => buildK P ρ t parts k
  | .buildSlice t len parts => buildSlK P ρ t len parts k
  | .sliceToArrayPointer t x => arrPtrK P t (ρ x) k
  | .makeSlice t a b => makeImmK P t (ρ a) (ρ b) k
  | o => .bind (noOp o) fun _ => .fail
def plainB (ρ : Operand → V) (o : Op) : Bool := o.operands.all fun x => (ρ x).plain
def evN (P : Program) (H : List E2) (ρ : Operand → V) (o : Op) (k : V → Tree R) : Tree R :=
  match o with
  | .move x => k (ρ x)
  | .assign x => k (ρ x)
  | .pick c a b => pickK (ρ c) (ρ a) (ρ b) k
  | .makeFunc (.func f) ⟨[]⟩ caps => if caps.toList.all (fun x => (ρ x).cap) then k (.clo f (caps.toList.map ρ)) else .fail
  | o => if plainB ρ o = true then evN1 P H ρ o k else .bind (noOp o) fun _ => .fail
theorem does_move {x : Operand} {r : V} (hop : ∀ (w : World) (ρv : Operand → Value), (execOp ρv o).run P w = .ok (.value (ρv x)) w) (hin : x ∈ o.op.operands) (hr : ρ x = r) : Does P H ρ o r := fun n0 Bx w B η ρv inv he N hN => by
  subst hr
  unfold Oper.val
  rw [hop]
  exact hN _ _ (Gk.refl _ _ w) (he x hin).1 (he x hin).2
theorem pickK_ok {c a b : Operand} {k : V → Tree R} {res : R} (ho : o.op = .pick c a b) (h : (pickK (ρ c) (ρ a) (ρ b) k).run = some res) : ∃ r, (k r).run = some res ∧ Does P H ρ o r := by
  unfold pickK at h
  split at h
  · rename_i t hc
    have key : ∀ (r : V), (cond t (ρ a) (ρ b)) = r → Does P H ρ o r := fun r hr n0 Bx w B η ρv inv he N hN => by
      have h1 := (he c (by simp [ho, Op.operands])).1
      rw [hc] at h1
      have h2 := Rel.ofC h1
      unfold Oper.val
      have hrun : (execOp ρv o).run P w = .ok (.value (cond t (ρv a) (ρv b))) w := by
        cases t <;> simp [execOp, ho, h2, asBool, Sem.run_bind]
      rw [hrun]
      subst hr
      cases t
      · exact hN _ _ (Gk.refl _ _ w) (he b (by simp [ho, Op.operands])).1 (he b (by simp [ho, Op.operands])).2
      · exact hN _ _ (Gk.refl _ _ w) (he a (by simp [ho, Op.operands])).1 (he a (by simp [ho, Op.operands])).2
    split at h
    · rename_i p q ha hb
      exact ⟨_, h, key _ (by rw [ha, hb]; cases t <;> rfl)⟩
    · rcases Tree.run_ite h with ⟨ht, h⟩ | ⟨ht, h⟩
      · subst ht; exact ⟨_, h, key _ rfl⟩
      · subst ht; exact ⟨_, h, key _ rfl⟩
  · cases h
theorem evN1_ok {k : V → Tree R} {res : R} (hp : Plain ρ o) (h : (evN1 P H ρ o.op k).run = some res) : ∃ r, (k r).run = some res ∧ Does P H ρ o r := by
  generalize ho : o.op = op at h
  unfold evN1 at h
  split at h
  · exact nilCheckK_ok hp ho h
  · exact fieldAddrK_ok hp ho h
  · exact loadK_ok hp ho h
  · exact fieldK_ok hp ho h
  · split at h
    · rename_i hx; split at h
      · rename_i hs; exact strIndexK_ok hp ho (stringT_spec hs) hx h
      · cases h
    · exact indexK_ok hp ho h
  · exact indexAddrK_ok hp ho h
  · exact extractK_ok hp ho h
  · split at h
    · rename_i hat; exact sliceArrK_ok hp ho (arrT_spec hat) h
    · rename_i hx; split at h
      · rename_i hs; exact strSliceK_ok hp ho (stringT_spec hs) hx h
      · cases h
    · exact sliceK_ok hp ho h
  · exact slice3K_ok hp ho h
  · split at h
    · rename_i ht; exact lenK_ok hp ho ht h
    · cases h
  · exact minK_ok hp ho h
  · exact maxK_ok hp ho h
  · exact binK_ok hp ho h
  · exact unK_ok hp ho h
  · exact convK_ok hp ho h
  · exact buildK_ok hp ho h
  · exact buildSlK_ok hp ho h
  · exact arrPtrK_ok hp ho h
  · exact makeImmK_ok hp ho h
  · cases h
theorem evN_ok {k : V → Tree R} {res : R} (h : (evN P H ρ o.op k).run = some res) : ∃ r, (k r).run = some res ∧ Does P H ρ o r := by
  generalize ho : o.op = op at h
  unfold evN at h
  split at h
  · exact ⟨_, h, does_move (x := by assumption) (fun w ρv => by simp [execOp, ho]) (by simp [ho, Op.operands]) rfl⟩
  · exact ⟨_, h, does_move (x := by assumption) (fun w ρv => by simp [execOp, ho]) (by simp [ho, Op.operands]) rfl⟩
  · exact pickK_ok ho h
  · rename_i f caps
    split at h
    · rename_i hc
      refine ⟨_, h, fun n0 Bx w B η ρv inv he N hN => ?_⟩
      unfold Oper.val
      have hrun : (execOp ρv o).run P w = .ok (.value (.func (.func f) #[] (caps.map ρv))) w := by
        simp [execOp, ho, Instr.makeFunc]
      have hcp : caps.map ρv = (caps.toList.map ρv).toArray := by apply Array.ext'; simp
      rw [hrun, hcp]
      refine hN _ _ (Gk.refl _ _ w) ⟨caps.toList.map ρv, by simp, by simp, fun i c hci => ?_⟩ (fun h => by simp [ex, ex0, isFresh] at h)
      rw [List.getElem?_map, Option.map_eq_some_iff] at hci
      obtain ⟨y, hy, rfl⟩ := hci
      have hm := List.mem_of_getElem? hy
      have hpl := List.all_eq_true.1 hc y hm
      exact ⟨ρv y, by rw [List.getElem?_map, hy]; rfl, hpl, (he y (by simp [ho, Op.operands]; simpa using hm)).1.get (V.cap_plain hpl)⟩
    · cases h
  · split at h
    · rename_i hp
      refine evN1_ok (fun x hx => ?_) (by rw [ho]; exact h)
      rw [ho] at hx
      exact Array.all_eq_true'.1 hp x hx
    · cases h
end
end Go.Proofs.Ytpijcgohhjgdbaa
