/-
  Operations on numbers, bools and texts; structs and slices that are built.
-/
import Derived.Test.YtpijcgohhjgdbaaEng4
import Derived.Laws.Tables
import Derived.Laws.MakeOwn
import Derived.WalkSpells
namespace Go.Proofs.Ytpijcgohhjgdbaa
set_option maxRecDepth 100000
open Go.RowKit
set_option linter.unusedVariables false
set_option linter.unusedSimpArgs false

def intV (op : BinOp) (k : IntKind) (a b : Int) : Option Value :=
  match op with
  | .add => some (.int k (k.wrap (a + b)))
  | .sub => some (.int k (k.wrap (a - b)))
  | .mul => some (.int k (k.wrap (a * b)))
  | .quo => if b = 0 then none else some (.int k (k.wrap (a.tdiv b)))
  | .rem => if b = 0 then none else some (.int k (a.tmod b))
  | .and => some (.int k (bits .and k a b))
  | .or => some (.int k (bits .or k a b))
  | .xor => some (.int k (bits .xor k a b))
  | .andNot => some (.int k (bits .andNot k a b))
  | .eql => some (.bool (decide (a = b)))
  | .neq => some (.bool (!decide (a = b)))
  | .lss => some (.bool (decide (a < b)))
  | .leq => some (.bool (decide (a ≤ b)))
  | .gtr => some (.bool (decide (b < a)))
  | .geq => some (.bool (decide (b ≤ a)))
  | _ => none
def strV (op : BinOp) (x y : List UInt8) : Option Value :=
  match op with
  | .eql => some (.bool (decide (x = y)))
  | .neq => some (.bool (!decide (x = y)))
  | _ => none
/-- Is it a type of bools? of slices? -/
def boolT (P : Program) (t : TypeId) : Bool := match P.underlying t with
  | some .bool => true
  | _ => false
def sliB (P : Program) (t : TypeId) : Bool := match P.underlying t with
  | some (.slice _) => true
  | _ => false
def kindT (P : Program) (t : TypeId) : Option IntKind := match P.underlying t with
  | some (.int k) => some k
  | _ => none
def binV (P : Program) (op : BinOp) (t : TypeId) (x y : Value) : Option Value :=
  match x, y with
  | .int k a, .int k' b => (match op with
    | .shl => if 0 ≤ b then some (.int k (k.wrap (a * 2 ^ min b.toNat k.bits))) else none
    | .shr => if 0 ≤ b then some (.int k (a.fdiv (2 ^ min b.toNat k.bits))) else none
    | op => if k = k' then intV op k a b else none)
  | .bool a, .bool b => (match op with
    | .eql => if boolT P t = true then some (.bool (a == b)) else none
    | .neq => if boolT P t = true then some (.bool (!(a == b))) else none
    | _ => none)
  | .string a, .string b => strV op a.data.toList b.data.toList
  | .slice none _ _, .slice none _ _ => if sliB P t = true then (match op with
    | .eql => some (.bool true)
    | .neq => some (.bool false)
    | _ => none) else none
  | .slice (some _) _ _, .slice none _ _ => if sliB P t = true then (match op with
    | .eql => some (.bool false)
    | .neq => some (.bool true)
    | _ => none) else none
  | _, _ => none
def unV (op : UnOp) (x : Value) : Option Value :=
  match op, x with
  | .not, .bool b => some (.bool (!b))
  | .neg, .int k n => some (.int k (k.wrap (0 - n)))
  | _, _ => none
def convV (P : Program) (src dst : TypeId) (x : Value) : Option Value :=
  match x with
  | .int _ n => (match kindT P dst, kindT P src with | some k, some _ => some (.int k (k.wrap n)) | _, _ => none)
  | _ => none

section
variable {P : Program} {n0 : Nat} {w : World} {B : List Nat} {η : List Value} {H : List Ent} {ρ : Operand → Value} {ρA : Operand → AV} {o : Oper}
theorem intV_run {op : BinOp} {k : IntKind} {a b : Int} {v : Value} {t : TypeId} (h : intV op k a b = some v) (w : World) : (binOp op t (.int k a) (.int k b)).run P w = .ok v w := by
  cases op <;> simp only [intV] at h <;> first
    | (injection h with h; subst h; simp [binOp, Op.intArith, Op.intCmp, Op.intBits, bits]; done)
    | (split at h
       · cases h
       · rename_i hb; injection h with h; subst h; simp [binOp, Op.intDiv, hb]; done)
    | (injection h with h; subst h; simp [binOp, Op.intCmp]; rw [Bool.eq_iff_iff]; simp; done)
    | (cases h; done)
theorem guard_int {op : BinOp} {t : TypeId} {x y : Operand} {k k' : IntKind} {a b : Int} (w : World) : (eqGuard op t x y (.int k a) (.int k' b)).run P w = .ok () w := by
  cases op <;> simp [eqGuard]
theorem guard_bool {op : BinOp} {t : TypeId} {x y : Operand} {a b : Bool} (w : World) : (eqGuard op t x y (.bool a) (.bool b)).run P w = .ok () w := by
  cases op <;> simp [eqGuard]
theorem guard_str {op : BinOp} {t : TypeId} {x y : Operand} {a b : ByteArray} (w : World) : (eqGuard op t x y (.string a) (.string b)).run P w = .ok () w := by
  cases op <;> simp [eqGuard]
theorem str_eq (a b : ByteArray) : (a.toList == b.toList) = decide (a.data.toList = b.data.toList) := by
  rw [ByteArray.toList_eq, ByteArray.toList_eq, Bool.eq_iff_iff]
  simp
theorem binV_run {op : BinOp} {t : TypeId} {x y : Value} {v : Value} (h : binV P op t x y = some v) (px py : Operand) (w : World) : (do eqGuard op t px py x y; binOp op t x y : Sem Value).run P w = .ok v w := by
  unfold binV at h
  split at h
  · rename_i k a k' b
    rw [Sem.run_bind, guard_int]
    simp only [Result.andThen_ok]
    split at h
    · split at h
      · rename_i hb; injection h with h; subst h
        have : ¬ b < 0 := by omega
        simp [binOp, Op.shift, this]
      · cases h
    · split at h
      · rename_i hb; injection h with h; subst h
        have : ¬ b < 0 := by omega
        simp [binOp, Op.shift, this]
      · cases h
    · split at h
      · rename_i hk; subst hk; exact intV_run h w
      · cases h
  · rename_i a b
    rw [Sem.run_bind, guard_bool]
    simp only [Result.andThen_ok]
    have hu : boolT P t = true → P.underlying t = some .bool := fun hb => by
      unfold boolT at hb
      split at hb
      · assumption
      · cases hb
    split at h
    · split at h
      · rename_i hb; injection h with h; subst h
        exact run_eql_bool w t a b (hu hb)
      · cases h
    · split at h
      · rename_i hb; injection h with h; subst h
        exact run_neq_bool w t a b (hu hb)
      · cases h
    · cases h
  · rename_i a b
    rw [Sem.run_bind, guard_str]
    simp only [Result.andThen_ok]
    unfold strV at h
    split at h
    · injection h with h; subst h
      simp only [binOp, Op.stringOp, str_eq, Sem.run_pure]
    · injection h with h; subst h
      simp only [binOp, Op.stringOp, str_eq, Sem.run_pure]
    · cases h
  · rename_i n c n' c'
    split at h
    · rename_i hb
      obtain ⟨e, hu⟩ : ∃ e, P.underlying t = some (.slice e) := by
        unfold sliB at hb
        split at hb
        · exact ⟨_, by assumption⟩
        · cases hb
      have hg : (eqGuard op t px py (.slice none n c) (.slice none n' c')).run P w = .ok () w := by cases op <;> simp [eqGuard]
      rw [Sem.run_bind, hg]
      simp only [Result.andThen_ok]
      split at h
      · injection h with h; subst h
        rw [Lib.run_eql_slice_nil w t e _ _ _ _ _ hu]; rfl
      · injection h with h; subst h
        rw [run_neq_slice_nil_any w t e _ _ _ _ _ hu]; rfl
      · cases h
    · cases h
  · rename_i A0 n c n' c'
    split at h
    · rename_i hb
      obtain ⟨e, hu⟩ : ∃ e, P.underlying t = some (.slice e) := by
        unfold sliB at hb
        split at hb
        · exact ⟨_, by assumption⟩
        · cases hb
      have hg : (eqGuard op t px py (.slice (some A0) n c) (.slice none n' c')).run P w = .ok () w := by cases op <;> simp [eqGuard]
      rw [Sem.run_bind, hg]
      simp only [Result.andThen_ok]
      split at h
      · injection h with h; subst h
        rw [Lib.run_eql_slice_nil w t e _ _ _ _ _ hu]; rfl
      · injection h with h; subst h
        rw [run_neq_slice_nil_any w t e _ _ _ _ _ hu]; rfl
      · cases h
    · cases h
  · cases h
theorem bin_ok (he : ∀ x ∈ o.op.operands, Rel w B η (ρA x) (ρ x)) {op : BinOp} {t t2 : TypeId} {x y : Operand} {a b v : Value} (ho : o.op = .binOp op t x y t2) (hx : ρA x = .c a) (hy : ρA y = .c b) (h : binV P op t a b = some v) : OpOK P n0 w ρ o B η (.c v) := by
  have h1 := he x (by simp [ho, Op.operands])
  have h2 := he y (by simp [ho, Op.operands])
  rw [hx] at h1; rw [hy] at h2
  have h1 := h1.ofC
  have h2 := h2.ofC
  have := binV_run (P := P) h x y w
  exact .of_run (v := v) (by simp only [execOp, ho, h1, h2]; rw [Sem.run_bind]; rw [this]; rfl) (.c _ _)
theorem un_ok (he : ∀ x ∈ o.op.operands, Rel w B η (ρA x) (ρ x)) {op : UnOp} {t : TypeId} {x : Operand} {a v : Value} (ho : o.op = .unOp op t x) (hx : ρA x = .c a) (h : unV op a = some v) : OpOK P n0 w ρ o B η (.c v) := by
  have h1 := he x (by simp [ho, Op.operands])
  rw [hx] at h1
  have h1 := h1.ofC
  refine .of_run (v := v) ?_ (.c _ _)
  unfold unV at h
  split at h <;> first | (injection h with h; subst h; simp [execOp, ho, h1, Op.unary, Op.intArith]; done) | (cases h; done)
theorem kindT_spec {t : TypeId} {k : IntKind} (h : kindT P t = some k) : P.underlying t = some (.int k) := by
  unfold kindT at h
  split at h
  · rename_i hu; injection h with h; subst h; exact hu
  · cases h
theorem conv_ok (he : ∀ x ∈ o.op.operands, Rel w B η (ρA x) (ρ x)) {s d : TypeId} {x : Operand} {a v : Value} (ho : o.op = .convert s d x) (hx : ρA x = .c a) (h : convV P s d a = some v) : OpOK P n0 w ρ o B η (.c v) := by
  have h1 := he x (by simp [ho, Op.operands])
  rw [hx] at h1
  have h1 := h1.ofC
  refine .of_run (v := v) ?_ (.c _ _)
  unfold convV at h
  split at h
  · split at h
    · rename_i k k' hd hs
      injection h with h; subst h
      simp [execOp, ho, h1, convert, Sem.run_bind, run_underlying (kindT_spec hd), run_underlying (kindT_spec hs), Conv.intToInt]
    · cases h
  · cases h
end
end Go.Proofs.Ytpijcgohhjgdbaa
