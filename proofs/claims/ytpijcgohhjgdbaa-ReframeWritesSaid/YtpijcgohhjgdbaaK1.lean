/-
  Typed plain data: what a value of the program says, as a value of Lean's own types; and what it stands for.
-/
import Derived.Test.YtpijcgohhjgdbaaEng8z
namespace Go.Proofs.Ytpijcgohhjgdbaa
set_option maxRecDepth 100000
open Go.RowKit
set_option linter.unusedVariables false
set_option linter.unusedSimpArgs false

structure Arr (α : Type) (n : Nat) where
  l : List α
  h : l.length = n
/-- Types of plain data. -/
inductive Td where
  | int (k : IntKind)
  | bool
  | str
  | sl (d : Td)
  | arr (n : Nat) (d : Td)
  | pair (d e : Td)
  deriving DecidableEq
@[reducible] def T : Td → Type
  | .int _ => Int
  | .bool => Bool
  | .str => List UInt8
  | .sl d => List (T d)
  | .arr n d => Arr (T d) n
  | .pair d e => T d × T e
/-- How many cells. -/
def wd : Td → Nat
  | .arr n d => n * wd d
  | .pair d e => wd d + wd e
  | _ => 1
def cells : (d : Td) → T d → List AV
  | .int k, n => [.c (.int k n)]
  | .bool, b => [.c (.bool b)]
  | .str, s => [.c (.string ⟨s.toArray⟩)]
  | .sl d, l => [.sl (l.flatMap (cells d)) (wd d)]
  | .arr n d, a => a.l.flatMap (cells d)
  | .pair d e, x => cells d x.1 ++ cells e x.2
theorem flatMap_length {α β : Type} (f : α → List β) (k : Nat) : ∀ (l : List α), (∀ x, (f x).length = k) → (l.flatMap f).length = l.length * k
  | [], _ => by simp
  | x :: l, h => by simp only [List.flatMap_cons, List.length_append, h x, flatMap_length f k l h, List.length_cons]; rw [Nat.add_mul]; omega
theorem cells_length : ∀ (d : Td) (x : T d), (cells d x).length = wd d
  | .int _, _ => rfl
  | .bool, _ => rfl
  | .str, _ => rfl
  | .sl _, _ => rfl
  | .arr n d, a => by
    have := flatMap_length (cells d) (wd d) a.l (cells_length d)
    rw [a.h] at this
    exact this
  | .pair d e, x => by simp [cells, wd, cells_length d x.1, cells_length e x.2]
theorem cells_imm : ∀ (d : Td) (x : T d), (cells d x).all AV.imm0 = true
  | .int _, _ => rfl
  | .bool, _ => rfl
  | .str, _ => rfl
  | .sl _, _ => rfl
  | .arr n d, a => by
    simp only [cells, List.all_flatMap, List.all_eq_true]
    exact fun x _ => List.all_eq_true.1 (cells_imm d x)
  | .pair d e, x => by simp [cells, List.all_append, cells_imm d x.1, cells_imm e x.2]
theorem cells_one : ∀ (d : Td) (x : T d), (cells d x).all AV.one = true
  | .int _, _ => rfl
  | .bool, _ => rfl
  | .str, _ => rfl
  | .sl _, _ => rfl
  | .arr n d, a => by
    simp only [cells, List.all_flatMap, List.all_eq_true]
    exact fun x _ => List.all_eq_true.1 (cells_one d x)
  | .pair d e, x => by simp [cells, List.all_append, cells_one d x.1, cells_one e x.2]
/-- The cells of a row. -/
def flat (d : Td) (l : List (T d)) : List AV := l.flatMap (cells d)
theorem flat_length (d : Td) (l : List (T d)) : (flat d l).length = l.length * wd d := flatMap_length _ _ _ (cells_length d)
theorem flat_append (d : Td) (l m : List (T d)) : flat d (l ++ m) = flat d l ++ flat d m := List.flatMap_append
theorem flat_cons (d : Td) (x : T d) (l : List (T d)) : flat d (x :: l) = cells d x ++ flat d l := rfl
theorem flat_imm (d : Td) (l : List (T d)) : (flat d l).all AV.imm0 = true := by
  simp only [flat, List.all_flatMap, List.all_eq_true]
  exact fun x _ => List.all_eq_true.1 (cells_imm d x)
theorem flat_one (d : Td) (l : List (T d)) : (flat d l).all AV.one = true := by
  simp only [flat, List.all_flatMap, List.all_eq_true]
  exact fun x _ => List.all_eq_true.1 (cells_one d x)
theorem flat_drop (d : Td) : ∀ (l : List (T d)) (n : Nat), flat d (l.drop n) = (flat d l).drop (n * wd d)
  | l, 0 => by simp
  | [], n + 1 => by simp [flat]
  | x :: l, n + 1 => by
    rw [List.drop_succ_cons, flat_drop d l n, flat_cons, List.drop_append, cells_length]
    have e1 : (n + 1) * wd d - wd d = n * wd d := by rw [Nat.add_mul]; omega
    have e2 : (cells d x).drop ((n + 1) * wd d) = [] := List.drop_eq_nil_of_le (by rw [cells_length, Nat.add_mul]; omega)
    rw [e1, e2, List.nil_append]
theorem flat_take (d : Td) : ∀ (l : List (T d)) (n : Nat), flat d (l.take n) = (flat d l).take (n * wd d)
  | l, 0 => by simp [flat]
  | [], n + 1 => by simp [flat]
  | x :: l, n + 1 => by
    rw [List.take_succ_cons, flat_cons, flat_take d l n, flat_cons, List.take_append, cells_length]
    have e1 : (n + 1) * wd d - wd d = n * wd d := by rw [Nat.add_mul]; omega
    have e2 : (cells d x).take ((n + 1) * wd d) = cells d x := List.take_of_length_le (by rw [cells_length, Nat.add_mul]; omega)
    rw [e1, e2]
theorem flat_at (d : Td) (l : List (T d)) (i : Nat) (x : T d) (h : l[i]? = some x) : ((flat d l).drop (i * wd d)).take (wd d) = cells d x := by
  have hi : i < l.length := (List.getElem?_eq_some_iff.1 h).1
  rw [← flat_drop, List.drop_eq_getElem_cons hi, flat_cons]
  rw [List.getElem?_eq_getElem hi] at h
  injection h with h
  rw [h, List.take_append_of_le_length (by rw [cells_length]; exact Nat.le_refl _), List.take_of_length_le (by rw [cells_length]; exact Nat.le_refl _)]
theorem flat_set (d : Td) (l : List (T d)) (i : Nat) (x : T d) (h : i < l.length) : flat d (l.set i x) = putL (flat d l) (i * wd d) (cells d x) := by
  unfold putL
  rw [List.set_eq_take_append_cons_drop, if_pos h, flat_append, flat_cons, flat_take, flat_drop, cells_length, List.append_assoc]
  congr 3
  rw [Nat.add_mul]; omega

/-- A value. -/
inductive V where
  | any
  | c (v : Value)
  | str (s : List UInt8)
  | agg (l : List V)
  | arr (d : Td) (n : Nat) (a : Arr (T d) n)
  | tup (l : List V)
  | lst (d : Td) (l : List (T d))
  | fre (d : Td) (l : List (T d))
  | emp
  | adr (l : List V)
  | box (id off : Nat)
  | boxi (id off : Nat) (d : Td) (n : Nat) (i o : Nat)
  | own (id : Nat)
  | oadr (id : Nat) (d : Td) (i o : Nat)
  | clo (f : FuncId) (caps : List V)
  | bsl (id n : Nat)
  deriving Inhabited
/-- The cells of a part. -/
def segA : V → List AV
  | .c v => [.c v]
  | .str s => [.c (.string ⟨s.toArray⟩)]
  | .arr d n a => flat d a.l
  | .lst d l => [.sl (flat d l) (wd d)]
  | .fre d l => [.sl (flat d l) (wd d)]
  | .emp => [.emp]
  | .box id off => [.box id off]
  | .own id => [.own id]
  | _ => []
def segsA (l : List V) : List AV := l.flatMap segA
def ex0 : V → AV
  | .c v => .c v
  | .str s => .c (.string ⟨s.toArray⟩)
  | .agg l => .agg (segsA l)
  | .arr d n a => .agg (flat d a.l)
  | .lst d l => .sl (flat d l) (wd d)
  | .fre d l => .fresh (flat d l) (wd d)
  | .emp => .emp
  | .adr l => .adr (segsA l)
  | .box id off => .box id off
  | .boxi id off d n i o => .box id (off + i * wd d + o)
  | .own id => .own id
  | .oadr id d i o => .oadr id (i * wd d + o)
  | _ => .c undef
def ex : V → AV
  | .tup l => .tup (l.map ex0)
  | x => ex0 x
/-- Something is known of it, in plain words. -/
def V.plain : V → Bool
  | .any => false
  | .clo _ _ => false
  | .bsl _ _ => false
  | _ => true
/-- It may be held by a closure. -/
def V.cap : V → Bool
  | .any | .clo _ _ | .bsl _ _ | .fre _ _ => false
  | _ => true
theorem V.cap_plain {x : V} (h : x.cap = true) : x.plain = true := by cases x <;> first | rfl | cases h
theorem segsA_nil : segsA [] = [] := rfl
theorem segsA_cons (x : V) (l : List V) : segsA (x :: l) = segA x ++ segsA l := rfl
theorem segsA_append (l m : List V) : segsA (l ++ m) = segsA l ++ segsA m := List.flatMap_append
/-- The parts of data. -/
def enc : (d : Td) → T d → List V
  | .int k, n => [.c (.int k n)]
  | .bool, b => [.c (.bool b)]
  | .str, s => [.str s]
  | .sl d, l => [.lst d l]
  | .arr n d, a => [.arr d n a]
  | .pair d e, x => enc d x.1 ++ enc e x.2
theorem segsA_enc : ∀ (d : Td) (x : T d), segsA (enc d x) = cells d x
  | .int _, _ => rfl
  | .bool, _ => rfl
  | .str, _ => rfl
  | .sl _, _ => rfl
  | .arr n d, a => by simp [enc, segsA, segA, cells, flat]
  | .pair d e, x => by simp only [enc, segsA_append, segsA_enc d x.1, segsA_enc e x.2, cells]

/-- What an evaluation comes to: data, nothing, or what hangs on open data. -/
inductive Tree (R : Type) : Type 1 where
  | done (r : R)
  | fail
  | tail (m : Option R)
  | ite (b : Bool) (x y : Tree R)
  | bind {α : Type} (m : Option α) (k : α → Tree R)
  | cases {α β : Type} (o : Sum α β) (f : α → Tree R) (g : β → Tree R)
def Tree.run {R : Type} : Tree R → Option R
  | .done r => some r
  | .fail => none
  | .tail m => m
  | .ite b x y => cond b x.run y.run
  | .bind m k => m.bind fun a => (k a).run
  | .cases o f g => match o with
    | .inl a => (f a).run
    | .inr b => (g b).run
theorem Tree.run_ite {R : Type} {b : Bool} {x y : Tree R} {r : R} (h : (Tree.ite b x y).run = some r) : (b = true ∧ x.run = some r) ∨ (b = false ∧ y.run = some r) := by
  cases b
  · exact .inr ⟨rfl, h⟩
  · exact .inl ⟨rfl, h⟩
theorem Tree.run_bind {R α : Type} {m : Option α} {k : α → Tree R} {r : R} (h : (Tree.bind m k).run = some r) : ∃ a, m = some a ∧ (k a).run = some r := by
  cases m with
  | none => cases h
  | some a => exact ⟨a, rfl, h⟩

/-! ### Data out of parts -/
def dflt : (d : Td) → T d
  | .int _ => (0 : Int)
  | .bool => false
  | .str => ([] : List UInt8)
  | .sl d => ([] : List (T d))
  | .arr n d => ⟨List.replicate n (dflt d), by simp⟩
  | .pair d e => (dflt d, dflt e)
def Arr.nil {α : Type} : Arr α 0 := ⟨[], rfl⟩
def Arr.cons {α : Type} {n : Nat} (x : α) (a : Arr α n) : Arr α (n + 1) := ⟨x :: a.l, by simp [a.h]⟩
def Arr.set {α : Type} {n : Nat} (a : Arr α n) (i : Nat) (x : α) : Arr α n := ⟨a.l.set i x, by simp [a.h]⟩
/-- Data of one type as data of another one, if these are the same. -/
def castK {R : Type} (d d' : Td) (F : Td → Type) (x : F d) (k : F d' → Tree R) : Tree R :=
  match decEq d d' with
  | isTrue h => @Eq.rec Td d (fun d' _ => (F d' → Tree R) → Tree R) (fun k => k x) d' h k
  | isFalse _ => .fail
def castN {R α : Type} (n n' : Nat) (a : Arr α n) (k : Arr α n' → Tree R) : Tree R :=
  match decEq n n' with
  | isTrue h => @Eq.rec Nat n (fun n' _ => (Arr α n' → Tree R) → Tree R) (fun k => k a) n' h k
  | isFalse _ => .fail
def decN {R α : Type} (f : List V → (α → List V → Tree R) → Tree R) : (n : Nat) → List V → (Arr α n → List V → Tree R) → Tree R
  | 0, segs, k => k .nil segs
  | n + 1, segs, k => f segs fun x r => decN f n r fun a r' => k (.cons x a) r'
def decK {R : Type} : (d : Td) → List V → (T d → List V → Tree R) → Tree R
  | .int k, segs, f => match segs with
    | .c (.int k' n) :: r => if k = k' then f n r else .fail
    | _ => .fail
  | .bool, segs, f => match segs with
    | .c (.bool b) :: r => f b r
    | _ => .fail
  | .str, segs, f => match segs with
    | .str s :: r => f s r
    | _ => .fail
  | .sl d, segs, f => match segs with
    | .lst d' l :: r => castK d' d (fun d => List (T d)) l fun l => f l r
    | .fre d' l :: r => castK d' d (fun d => List (T d)) l fun l => f l r
    | .c (.slice none 0 0) :: r => if 1 ≤ wd d then f [] r else .fail
    | .emp :: r => if 1 ≤ wd d then f [] r else .fail
    | _ => .fail
  | .arr n d, segs, f => match segs with
    | .arr d' n' a :: r => if n' = n ∧ d' = d then castN n' n a fun a => castK d' d (fun d => Arr (T d) n) a fun a => f a r else decN (decK d) n segs f
    | segs => decN (decK d) n segs f
  | .pair d e, segs, f => decK d segs fun x r => decK e r fun y r' => f (x, y) r'
/-- What stands for l stands for m. -/
def Wk (l m : List AV) : Prop := ∀ (w : World) (B : List Nat) (η us : List Value), RelL w B η l us → RelL w B η m us
theorem Wk.refl (l : List AV) : Wk l l := fun _ _ _ _ h => h
theorem Wk.trans {a b c : List AV} (h : Wk a b) (k : Wk b c) : Wk a c := fun w B η us hu => k w B η us (h w B η us hu)
theorem RelL.split {w : World} {B : List Nat} {η us : List Value} {l m : List AV} (h : RelL w B η (l ++ m) us) : RelL w B η l (us.take l.length) ∧ RelL w B η m (us.drop l.length) := by
  have h1 := h.take l.length
  have h2 := h.drop l.length
  rw [List.take_left] at h1
  rw [List.drop_left] at h2
  exact ⟨h1, h2⟩
theorem Wk.app {a b c d : List AV} (h : Wk a b) (k : Wk c d) : Wk (a ++ c) (b ++ d) := fun w B η us hu => by
  obtain ⟨h1, h2⟩ := hu.split
  have := (h w B η _ h1).append (k w B η _ h2)
  rwa [List.take_append_drop] at this
theorem Wk.one {x y : AV} (h : ∀ (w : World) (B : List Nat) (η : List Value) (v : Value), Rel w B η x v → Rel w B η y v) : Wk [x] [y] := fun w B η us hu => by
  match us, hu with
  | [], hu => have := hu.1; simp at this
  | [u], hu =>
    obtain ⟨u', h1, h2⟩ := hu.2 0 x rfl
    simp at h1; subst h1
    exact RelL.cons (h _ _ _ _ h2) (RelL.nil _ _ _)
  | _ :: _ :: _, hu => have := hu.1; simp at this
theorem rel_nil_sl {w : World} {B : List Nat} {η : List Value} {v : Value} {k : Nat} (hk : 1 ≤ k) (h : Rel w B η (.c (.slice none 0 0)) v) : Rel w B η (.sl [] k) v := by
  cases h
  exact .sl _ _ _ _ _ _ (fun _ => undef) hk (by simp) (Nat.le_refl _) (Nat.zero_le _) (fun h => absurd h (by omega)) (fun i x hx => by simp at hx)
theorem rel_emp_sl {w : World} {B : List Nat} {η : List Value} {v : Value} {k : Nat} (hk : 1 ≤ k) (h : Rel w B η .emp v) : Rel w B η (.sl [] k) v := by
  cases h
  exact .sl _ _ _ _ _ _ (fun _ => undef) hk (by simp) (Nat.le_refl _) (Nat.zero_le _) (fun h => absurd h (by omega)) (fun i x hx => by simp at hx)
theorem castK_run {R : Type} {d d' : Td} {F : Td → Type} {x : F d} {k : F d' → Tree R} {r : R} (h : (castK d d' F x k).run = some r) : ∃ e : d = d', (k (e ▸ x)).run = some r := by
  unfold castK at h
  split at h
  · rename_i e _; subst e; exact ⟨rfl, h⟩
  · cases h
theorem castN_run {R α : Type} {n n' : Nat} {a : Arr α n} {k : Arr α n' → Tree R} {r : R} (h : (castN n n' a k).run = some r) : ∃ e : n = n', (k (e ▸ a)).run = some r := by
  unfold castN at h
  split at h
  · rename_i e _; subst e; exact ⟨rfl, h⟩
  · cases h
theorem decN_ok {R : Type} {d : Td} {f : List V → (T d → List V → Tree R) → Tree R} (hf : ∀ segs k r, (f segs k).run = some r → ∃ x rest, (k x rest).run = some r ∧ Wk (segsA segs) (cells d x ++ segsA rest)) :
    ∀ (n : Nat) (segs : List V) (k : Arr (T d) n → List V → Tree R) (r : R), (decN f n segs k).run = some r → ∃ a rest, (k a rest).run = some r ∧ Wk (segsA segs) (flat d a.l ++ segsA rest)
  | 0, segs, k, r, h => ⟨.nil, segs, h, Wk.refl _⟩
  | n + 1, segs, k, r, h => by
    obtain ⟨x, rest, h1, h2⟩ := hf _ _ _ h
    obtain ⟨a, rest', h3, h4⟩ := decN_ok hf n _ _ _ h1
    refine ⟨_, rest', h3, h2.trans ?_⟩
    simp only [Arr.cons, flat_cons, List.append_assoc]
    exact (Wk.refl _).app h4
theorem decK_ok {R : Type} : ∀ (d : Td) (segs : List V) (k : T d → List V → Tree R) (r : R), (decK d segs k).run = some r → ∃ x rest, (k x rest).run = some r ∧ Wk (segsA segs) (cells d x ++ segsA rest)
  | .int kk, segs, k, r, h => by
    unfold decK at h
    split at h
    · split at h
      · rename_i hk; subst hk; exact ⟨_, _, h, Wk.refl _⟩
      · cases h
    · cases h
  | .bool, segs, k, r, h => by
    unfold decK at h
    split at h
    · exact ⟨_, _, h, Wk.refl _⟩
    · cases h
  | .str, segs, k, r, h => by
    unfold decK at h
    split at h
    · exact ⟨_, _, h, Wk.refl _⟩
    · cases h
  | .sl d, segs, k, r, h => by
    unfold decK at h
    split at h
    · obtain ⟨e, h⟩ := castK_run h
      subst e
      exact ⟨_, _, h, Wk.refl _⟩
    · obtain ⟨e, h⟩ := castK_run h
      subst e
      exact ⟨_, _, h, Wk.refl _⟩
    · split at h
      · rename_i hk
        exact ⟨_, _, h, (Wk.one fun w B η v hv => rel_nil_sl hk hv).app (Wk.refl _)⟩
      · cases h
    · split at h
      · rename_i hk
        exact ⟨_, _, h, (Wk.one fun w B η v hv => rel_emp_sl hk hv).app (Wk.refl _)⟩
      · cases h
    · cases h
  | .arr n d, segs, k, r, h => by
    unfold decK at h
    split at h
    · split at h
      · obtain ⟨e, h⟩ := castN_run h
        subst e
        obtain ⟨e, h⟩ := castK_run h
        subst e
        exact ⟨_, _, h, Wk.refl _⟩
      · exact decN_ok (decK_ok d) n _ k r h
    · exact decN_ok (decK_ok d) n segs k r h
  | .pair d e, segs, k, r, h => by
    unfold decK at h
    obtain ⟨x, rest, h1, h2⟩ := decK_ok d _ _ _ h
    obtain ⟨y, rest', h3, h4⟩ := decK_ok e _ _ _ h1
    refine ⟨_, rest', h3, h2.trans ?_⟩
    simp only [cells, List.append_assoc]
    exact (Wk.refl _).app h4
end Go.Proofs.Ytpijcgohhjgdbaa
