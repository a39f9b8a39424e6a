/-
  Parts of my own, one behind the other: KD, GFst, U9C, GU9, Q9a, Q9b, Q9c, Q9d, Q9e, Q9f, Q9g, Q9k.
-/
import Derived.Test.YtlfmdaicfkglmaaDoorMrg4
/-
  Functions of the library that have no body: what the model says of them, on typed data.
-/
namespace Go.Proofs.YtlfmdaicfkglmaaDoor
set_option maxRecDepth 100000
open Go.RowKit
set_option linter.unusedVariables false
set_option linter.unusedSimpArgs false

/-- Where a byte stands first. -/
def idxB (s : List UInt8) (z : Int) : Int := match s.findIdx? (fun b => b == z.toNat.toUInt8) with
  | some i => (i : Int)
  | none => -1
section
variable {P : Program} {R : Type}
def ixK {R : Type} (args : List V) (k : V → Tree R) : Tree R := match args with
  | [.str s, .c (.int .u8 z)] => k (.c (.int .i64 (idxB s z)))
  | _ => .fail
theorem find_range (s : List UInt8) (p : UInt8 → Bool) : ∀ (n i : Nat), i + n = s.length → ((List.range' i n).find? fun j => p (s.getD j 0)) = ((s.drop i).findIdx? p).map (i + ·)
  | 0, i, h => by rw [List.drop_of_length_le (by omega)]; rfl
  | n + 1, i, h => by
    have hi : i < s.length := by omega
    rw [List.range'_succ, List.find?_cons, List.drop_eq_getElem_cons hi, List.findIdx?_cons, find_range s p n (i + 1) (by omega)]
    have e : s.getD i 0 = s[i] := by simp [List.getD_eq_getElem?_getD, hi]
    rw [e]
    cases p s[i] with
    | true => simp
    | false =>
      simp only [Bool.false_eq_true, if_false, Option.map_map]
      cases (s.drop (i + 1)).findIdx? p with
      | none => rfl
      | some j => simp; omega
theorem run_index {s : List UInt8} {z : Int} {w : World} : (Extern.BytealgIndexByte.indexByte #[.string ⟨s.toArray⟩, .int .u8 z]).run P w = .ok (.int .i64 (idxB s z)) w := by
  have hsz : (ByteArray.mk s.toArray).size = s.length := by show s.toArray.size = _; simp
  have hget : ∀ i, (ByteArray.mk s.toArray)[i]! = s.getD i 0 := fun i => by
    rcases Nat.lt_or_ge i s.length with hi | hi
    · rw [getElem!_pos (ByteArray.mk s.toArray) i (by rw [hsz]; exact hi), List.getD_eq_getElem?_getD, List.getElem?_eq_getElem hi]
      rfl
    · rw [getElem!_neg (ByteArray.mk s.toArray) i (by rw [hsz]; omega), List.getD_eq_getElem?_getD, List.getElem?_eq_none hi]
      rfl
  have e := find_range s (fun b => b == z.toNat.toUInt8) s.length 0 (by omega)
  rw [List.drop_zero] at e
  unfold idxB
  show Sem.run P (do
    let b ← Extern.Bytes.bytesOf (.string ⟨s.toArray⟩)
    let c ← Extern.Bytes.asByte (.int .u8 z)
    match (List.range b.size).find? fun i => b[i]! == c with
    | some i => pure (goInt i)
    | none => pure (goInt (-1))) w = _
  simp only [Extern.Bytes.bytesOf, Extern.Bytes.asByte, Sem.run_bind, Sem.run_pure, Result.andThen_ok, hsz, List.range_eq_range', hget]
  rw [e]
  cases s.findIdx? (fun b => b == z.toNat.toUInt8) with
  | none => rfl
  | some i => simp [goInt]
theorem ix_ok {f : FuncId} {fn : Func} (hf : P.funcs[f]? = some fn) (hb : fn.body.isNone = true) (hn : fn.name ≠ "runtime.NumGoroutine") (h1 : (Extern.findNext fn).isNone = true) (h2 : Extern.find fn = some Extern.BytealgIndexByte.indexByte) :
    ∀ args (k : V → Tree R) res, (ixK args k).run = some res → ∃ r, (k r).run = some res ∧ r.plain = true ∧ (∀ l k, ex r ≠ .fresh l k) ∧ CallsV P f args r := by
  intro args k res h
  unfold ixK at h
  split at h
  · rename_i s z
    refine ⟨_, h, rfl, (fun l k h => by cases h), fun w B cargs hB hgl hlen hrel N hN => ?_⟩
    obtain ⟨v0, e0, r0⟩ := hrel 0 _ rfl
    obtain ⟨v1, e1, r1⟩ := hrel 1 _ rfl
    have hc : cargs = [v0, v1] := by
      match cargs, hlen, e0, e1 with
      | [a, b], _, e0, e1 => simp at e0 e1; rw [e0, e1]
    have q0 := Rel.ofC r0
    have q1 := Rel.ofC r1
    subst q0 q1 hc
    unfold EntersV
    have h1' : Extern.findNext fn = none := Option.isNone_iff_eq_none.1 h1
    have hb' : fn.body = none := Option.isNone_iff_eq_none.1 hb
    have hm : Sem.run P (mark (.extern f)) w = .ok () w := rfl
    have hrun : (callFunc f [Value.string ⟨s.toArray⟩, Value.int .u8 z].toArray).run P w = .ok (.value (.int .i64 (idxB s z))) w := by
      simp [callFunc, Sem.run_bind, hf, hn, hb', hm, h1', h2, run_index]
    rw [hrun]
    exact hN _ _ (Gr.refl _) (.c _ _)
  · cases h
/-- A function more, that has no body. -/
theorem EnvOK.addExt {Γ : (R : Type) → Env R} (hΓ : EnvOK P (Γ R)) {f : FuncId} {F : (R : Type) → List V → (V → Tree R) → Tree R} (h : ∀ args (k : V → Tree R) res, (F R args k).run = some res → ∃ r, (k r).run = some res ∧ r.plain = true ∧ (∀ l k, ex r ≠ .fresh l k) ∧ CallsV P f args r) : EnvOK P (Env.addFn Γ f F R) := by
  refine ⟨⟨fun f' args k res hc => ?_⟩, hΓ.inl, hΓ.lp, hΓ.cln⟩
  simp only [Env.addFn] at hc
  split at hc
  · rename_i hff
    subst hff
    exact h args k res hc
  · exact hΓ.fns.ok f' args k res hc
end
end Go.Proofs.YtlfmdaicfkglmaaDoor
/-
  Functions of the program as plain functions on typed data, and that they are so. Printed by a program of mine.
-/
namespace Go.Proofs.YtlfmdaicfkglmaaDoor.Fst
open Go.RowKit Go.Proofs.YtlfmdaicfkglmaaDoor
set_option linter.unusedVariables false
set_option maxRecDepth 100000
theorem hmx : Go.Proofs.Tryd.prog.follows .mixedOrders = true := by kernel_rfl
noncomputable def Ev0 (N : Nat) : (R : Type) → Env R := Env.addInl env0 []
theorem Ev0_ok (N : Nat) (R : Type) : EnvOK Go.Proofs.Tryd.prog (Ev0 N R) := EnvOK.addInl (env0_ok R) (by kernel_rfl)
noncomputable def octs_place (N : Nat) (i0 : Int) (width1 : Int) (little2 : Bool) : Option (Int) :=
 bif little2 then
  some (i0)
 else
  some ((Go.IntKind.wrap .i64 ((Go.IntKind.wrap .i64 (width1 - (1 : Int))) - i0)))
theorem octs_place_S (N : Nat) (i0 : Int) (width1 : Int) (little2 : Bool) : (runK Go.Proofs.Tryd.prog (Ev0 N) 400 27 [(.int .i64), (.int .i64), .bool] [(.int .i64)] (i0, width1, little2, ())).run = octs_place N i0 width1 little2 := by kernel_rfl
noncomputable def Ev1 (N : Nat) : (R : Type) → Env R := Env.addFn (Ev0 N) 27 (fun R => fnK [(.int .i64), (.int .i64), .bool] [(.int .i64)] (fun c => octs_place N c.1 c.2.1 c.2.2.1))
theorem Ev1_ok (N : Nat) (R : Type) : EnvOK Go.Proofs.Tryd.prog (Ev1 N R) := EnvOK.addFn hmx (Ev0_ok N R) (Ev0_ok N _) (by kernel_rfl) (fun c => octs_place_S N c.1 c.2.1 c.2.2.1)
noncomputable def octs_Get_L5_I : LI := ⟨37, 0, [], ⟨[(0, .ty (.sl (.int .u8))), (1, .ty .bool), (6, .ty (.int .u64)), (17, .ty (.int .i64)), (18, .ty (.int .i64))], []⟩, [(.exit 0, ⟨[(6, .ty (.int .u64))], []⟩)]⟩
noncomputable def octs_Get_L5 (N : Nat) (X : (((List (Int)) × ((Bool) × ((Int) × ((Int) × ((Int) × Unit))))) × Unit) → Option ((((Int) × Unit) × Unit))) (b0 : List (Int)) (little1 : Bool) (n6 : Int) (x17 : Int) (x18 : Int) : Option ((((Int) × Unit) × Unit)) :=
 bif (decide (x18 < x17)) then
  Option.bind (@octs_place N x18 (((List.length b0) : Nat) : Int) little1) fun (v7 : Int) =>
  Option.bind (getI b0 v7) fun (v8 : Int) =>
  bif (decide ((0 : Int) ≤ (Go.IntKind.wrap .i64 ((8 : Int) * x18)))) then
   (X ((b0, (little1, ((@Go.bits @Go.BinOp.or @Go.IntKind.u64 n6 (Go.IntKind.wrap .u64 ((Go.IntKind.wrap .u64 v8) * (@HPow.hPow Int Nat Int (@instHPow Int Nat (@instPowNat Int @Int.instNatPow)) (2 : Int) (@Min.min Nat @instMinNat (Int.toNat (Go.IntKind.wrap .i64 ((8 : Int) * x18))) (@Go.IntKind.bits @Go.IntKind.u64)))))), (x17, ((Go.IntKind.wrap .i64 (x18 + (1 : Int))), @Unit.unit))))), @Unit.unit))
  else
   none
 else
  some (((n6, @Unit.unit), @Unit.unit))
noncomputable def octs_Get_L5_R (N : Nat) (c : (((List (Int)) × ((Bool) × ((Int) × ((Int) × ((Int) × Unit))))) × Unit)) : Option ((((Int) × Unit) × Unit)) := gl (fun X c => octs_Get_L5 N X c.1.1 c.1.2.1 c.1.2.2.1 c.1.2.2.2.1 c.1.2.2.2.2.1) N c
theorem octs_Get_L5_S (N : Nat) (X : (((List (Int)) × ((Bool) × ((Int) × ((Int) × ((Int) × Unit))))) × Unit) → Option ((((Int) × Unit) × Unit))) (b0 : List (Int)) (little1 : Bool) (n6 : Int) (x17 : Int) (x18 : Int) : (roundK Go.Proofs.Tryd.prog (Ev1 N) 400 [34] octs_Get_L5_I (loopAt Go.Proofs.Tryd.prog [34] 5) X ((b0, little1, n6, x17, x18, ()), ())).run = octs_Get_L5 N X b0 little1 n6 x17 x18 := by kernel_rfl
noncomputable def Ev2 (N : Nat) : (R : Type) → Env R := Env.addLp (Ev1 N) [34] 0 5 (fun R => lpK Go.Proofs.Tryd.prog octs_Get_L5_I (fun X c => octs_Get_L5 N X c.1.1 c.1.2.1 c.1.2.2.1 c.1.2.2.2.1 c.1.2.2.2.2.1) N)
theorem Ev2_ok (N : Nat) (R : Type) : EnvOK Go.Proofs.Tryd.prog (Ev2 N R) := EnvOK.addLp (Ev1_ok N R) (by kernel_rfl) (lpK_ok (li := octs_Get_L5_I) (G := fun X c => octs_Get_L5 N X c.1.1 c.1.2.1 c.1.2.2.1 c.1.2.2.2.1 c.1.2.2.2.2.1) hmx (Ev1_ok N _) (by kernel_rfl) loopAt_sub (fun (X : CT octs_Get_L5_I.sh → Option (OT octs_Get_L5_I.outs)) (c : CT octs_Get_L5_I.sh) => octs_Get_L5_S N X c.1.1 c.1.2.1 c.1.2.2.1 c.1.2.2.2.1 c.1.2.2.2.2.1) N)
noncomputable def octs_Get (N : Nat) (b0 : List (Int)) (little1 : Bool) : Option ((Int) × Int) :=
 bif (decide ((((List.length b0) : Nat) : Int) < (1 : Int))) then
  some (((0 : Int), (1 : Int)))
 else
  bif (@cond Bool @Bool.false @Bool.true (decide ((8 : Int) < (((List.length b0) : Nat) : Int)))) then
   some (((0 : Int), (1 : Int)))
  else
   Option.bind (octs_Get_L5_R N ((b0, (little1, ((0 : Int), ((((List.length b0) : Nat) : Int), ((0 : Int), @Unit.unit))))), @Unit.unit)) fun (v3 : ((Int × Unit) × Unit)) =>
   some ((v3.1.1, (0 : Int)))
theorem octs_Get_S (N : Nat) (b0 : List (Int)) (little1 : Bool) : (runK Go.Proofs.Tryd.prog (Ev2 N) 400 34 [(.sl (.int .u8)), .bool] [(.int .u64), (.int .i64)] (b0, little1, ())).run = octs_Get N b0 little1 := by kernel_rfl
theorem octs_Get_C (N : Nat) (b0 : List (Int)) (little1 : Bool) (y : (Int) × Int) (h : octs_Get N b0 little1 = some y) : CallsK Go.Proofs.Tryd.prog 34 (valA [(.sl (.int .u8)), .bool] (b0, little1, ())) (tupV (valR [(.int .u64), (.int .i64)] y)) := runK_ok hmx (Ev2_ok N _) (okFn_ok (by kernel_rfl)) (by rw [octs_Get_S]; exact h)
noncomputable def Ev3 (N : Nat) : (R : Type) → Env R := Env.addFn (Ev2 N) 34 (fun R => fnK [(.sl (.int .u8)), .bool] [(.int .u64), (.int .i64)] (fun c => octs_Get N c.1 c.2.1))
theorem Ev3_ok (N : Nat) (R : Type) : EnvOK Go.Proofs.Tryd.prog (Ev3 N R) := EnvOK.addFn hmx (Ev2_ok N R) (Ev2_ok N _) (by kernel_rfl) (fun c => octs_Get_S N c.1 c.2.1)
noncomputable def utf16_unit (N : Nat) (b0 : List (Int)) : Option (Int) :=
 Option.bind (takeI b0 (2 : Int)) fun (v2 : (List Int)) =>
 Option.bind (@octs_Get N v2 @Bool.true) fun (v3 : (Int × Int)) =>
 some ((Go.IntKind.wrap .i32 v3.1))
theorem utf16_unit_S (N : Nat) (b0 : List (Int)) : (runK Go.Proofs.Tryd.prog (Ev3 N) 400 30 [(.sl (.int .u8))] [(.int .i32)] (b0, ())).run = utf16_unit N b0 := by kernel_rfl
theorem utf16_unit_C (N : Nat) (b0 : List (Int)) (y : Int) (h : utf16_unit N b0 = some y) : CallsK Go.Proofs.Tryd.prog 30 (valA [(.sl (.int .u8))] (b0, ())) (tupV (valR [(.int .i32)] y)) := runK_ok hmx (Ev3_ok N _) (okFn_ok (by kernel_rfl)) (by rw [utf16_unit_S]; exact h)
noncomputable def Ev4 (N : Nat) : (R : Type) → Env R := Env.addFn (Ev3 N) 30 (fun R => fnK [(.sl (.int .u8))] [(.int .i32)] (fun c => utf16_unit N c.1))
theorem Ev4_ok (N : Nat) (R : Type) : EnvOK Go.Proofs.Tryd.prog (Ev4 N R) := EnvOK.addFn hmx (Ev3_ok N R) (Ev3_ok N _) (by kernel_rfl) (fun c => utf16_unit_S N c.1)
noncomputable def utf16_first (N : Nat) (b0 : List (Int)) : Option ((Int) × Int) :=
 Option.bind (@utf16_unit N b0) fun (v2 : Int) =>
 bif (decide (v2 < (55296 : Int))) then
  some ((v2, (1 : Int)))
 else
  bif (@cond Bool @Bool.false @Bool.true (decide ((57344 : Int) ≤ v2))) then
   some ((v2, (1 : Int)))
  else
   bif (decide ((56320 : Int) ≤ v2)) then
    some (((0 : Int), (0 : Int)))
   else
    bif (@cond Bool @Bool.false @Bool.true (decide ((((List.length b0) : Nat) : Int) < (4 : Int)))) then
     some (((0 : Int), (0 : Int)))
    else
     Option.bind (dropI b0 (2 : Int)) fun (v3 : (List Int)) =>
     Option.bind (@utf16_unit N v3) fun (v4 : Int) =>
     bif (decide (v4 < (56320 : Int))) then
      some (((0 : Int), (0 : Int)))
     else
      bif (@cond Bool @Bool.false @Bool.true (decide ((57344 : Int) ≤ v4))) then
       some (((0 : Int), (0 : Int)))
      else
       some (((Go.IntKind.wrap .i32 ((Go.IntKind.wrap .i32 ((Go.IntKind.wrap .i32 ((65536 : Int) + (Go.IntKind.wrap .i32 ((Go.IntKind.wrap .i32 (v2 - (55296 : Int))) * (@HPow.hPow Int Nat Int (@instHPow Int Nat (@instPowNat Int @Int.instNatPow)) (2 : Int) (@Min.min Nat @instMinNat (Int.toNat (10 : Int)) (@Go.IntKind.bits @Go.IntKind.i32))))))) + v4)) - (56320 : Int))), (2 : Int)))
theorem utf16_first_S (N : Nat) (b0 : List (Int)) : (runK Go.Proofs.Tryd.prog (Ev4 N) 400 23 [(.sl (.int .u8))] [(.int .i32), (.int .i64)] (b0, ())).run = utf16_first N b0 := by kernel_rfl
theorem utf16_first_C (N : Nat) (b0 : List (Int)) (y : (Int) × Int) (h : utf16_first N b0 = some y) : CallsK Go.Proofs.Tryd.prog 23 (valA [(.sl (.int .u8))] (b0, ())) (tupV (valR [(.int .i32), (.int .i64)] y)) := runK_ok hmx (Ev4_ok N _) (okFn_ok (by kernel_rfl)) (by rw [utf16_first_S]; exact h)
noncomputable def Ev5 (N : Nat) : (R : Type) → Env R := Env.addFn (Ev4 N) 23 (fun R => fnK [(.sl (.int .u8))] [(.int .i32), (.int .i64)] (fun c => utf16_first N c.1))
theorem Ev5_ok (N : Nat) (R : Type) : EnvOK Go.Proofs.Tryd.prog (Ev5 N R) := EnvOK.addFn hmx (Ev4_ok N R) (Ev4_ok N _) (by kernel_rfl) (fun c => utf16_first_S N c.1)
end Go.Proofs.YtlfmdaicfkglmaaDoor.Fst
/-
  utf16.Parse as a plain function on typed data, and that it is so.
-/
namespace Go.Proofs.YtlfmdaicfkglmaaDoor
set_option maxRecDepth 100000
open Go.RowKit
set_option linter.unusedVariables false

set_option maxRecDepth 100000 in
set_option maxHeartbeats 3200000 in
theorem odd_walk (w : World) (ad : Option Addr) (n c : Nat) (ho : n % 2 = 1) :
    Calls Tryd.prog 16 #[.slice ad n c] w fun e w' => e = .returned (.tuple #[.string ⟨#[]⟩, .int .i64 4]) ∧ Below w.heap.size w w' := by
  have h1 : ¬ ((n : Int) % 2 = 0) := by omega
  have h2 : ((n : Int).tmod 2) = 1 := by rw [Int.tmod_eq_emod_of_nonneg (by omega)]; omega
  go_enter Tryd.func16, Tryd.ntmps16
  go_wp2
  go_ret2
  exact ⟨rfl, Below.refl _ _⟩
theorem flatB (l : List Int) : flat (.int .u8) l = l.map fun n => AV.c (.int .u8 n) := flat_u8 l
theorem rel_drop {w wr : World} {B : List Nat} {l : List Int} {a : Addr} {n c i : Nat} (h : Rel w B [] (.sl (flat (.int .u8) l) 1) (.slice (some a) n c)) (hn : n = l.length) (hi : i < n) (g : Gr w wr) : Rel wr B [] (.sl (flat (.int .u8) (l.drop i)) 1) (.slice (some (a.add i)) (n - i) (c - i)) := by
  cases h with
  | sl _ l' k A n' c' us hk hn' hc hm hA hr =>
    obtain ⟨ad, e, hat⟩ := hA (by omega)
    injection e with e
    subst e
    have hat' := hat.on (.gr g) (fun _ h => .inl h)
    have hlen : (flat (.int .u8) l).length = l.length := by rw [flatB]; simp
    have hlen2 : (flat (.int .u8) (l.drop i)).length = l.length - i := by rw [flatB]; simp
    obtain ⟨bk, of, sp⟩ := a
    obtain rfl : sp = none := hat'.spot
    have hmk : ∀ j, (Addr.mk bk of none).add j = ⟨bk, of + j, none⟩ := fun j => by
      unfold Addr.add
      by_cases hj : j = 0
      · subst hj; rfl
      · rw [if_neg hj]
    have hadd : ∀ j, ((Addr.mk bk of none).add i).add j = (Addr.mk bk of none).add (i + j) := fun j => by
      rw [hmk, hmk]
      unfold Addr.add
      by_cases hj : j = 0
      · subst hj; rfl
      · rw [if_neg hj, Nat.add_assoc]
    refine .sl _ _ _ _ _ _ (fun j => us (i + j)) (by omega) (by rw [hlen2]; omega) (by omega) (by omega) (fun _ => ⟨_, rfl, ?_, ?_, ?_, fun j hj => ?_⟩) (fun j x hx => ?_)
    · rw [hmk]
    · rw [block_of_add]; exact hat'.lt
    · rw [block_of_add]; exact hat'.out
    · rw [hadd]; exact hat'.cell (i + j) (by omega)
    · have hx' : (flat (.int .u8) l)[i + j]? = some x := by
        rw [flatB] at hx ⊢
        rw [List.map_drop, List.getElem?_drop] at hx
        exact hx
      exact (hr (i + j) x hx').gr g
theorem rel_tup2 {w : World} {B : List Nat} {x y : Value} {v : Value} (h : Rel w B [] (.tup [.c x, .c y]) v) : v = .tuple #[x, y] := by
  cases h with
  | tup _ _ cs us hs hu hr =>
    have h0 := hu 0 _ rfl
    have h1 := hu 1 _ rfl
    have r0 := Rel.ofC (hr 0 _ rfl)
    have r1 := Rel.ofC (hr 1 _ rfl)
    rw [r0] at h0
    rw [r1] at h1
    congr 1
    apply Array.ext
    · rw [hs]; rfl
    · intro i hi1 hi2
      have hi : i = 0 ∨ i = 1 := by simp at hi2; omega
      rcases hi with rfl | rfl
      · rw [Array.getElem?_eq_getElem hi1] at h0
        exact Option.some.inj h0
      · rw [Array.getElem?_eq_getElem hi1] at h1
        exact Option.some.inj h1
/-- The text of bytes. -/
noncomputable def utf16_Parse (N : Nat) (b : List Int) : Option (List UInt8 × Int) :=
  if b.length ≤ 1000000 then (if b.length % 2 = 0 then parR (Fst.utf16_first N) (b.length + 1) b 0 [] else some ([], 4)) else none
theorem parse_C (N : Nat) (b : List Int) (y : List UInt8 × Int) (h : utf16_Parse N b = some y) : CallsK Tryd.prog 16 [.lst (.int .u8) b] (.tup [.str y.1, .c (.int .i64 y.2)]) := by
  intro w B cargs hB hgl hlen hrel
  obtain ⟨v0, e0, r0⟩ := hrel 0 _ rfl
  have hc : cargs = [v0] := by
    match cargs, hlen, e0 with
    | [a], _, e0 => simp at e0; rw [e0]
  subst hc
  have r0' : Rel w B [] (.sl (flat (.int .u8) b) 1) v0 := r0
  unfold utf16_Parse at h
  split at h
  case isFalse => cases h
  rename_i hl
  have fin : ∀ (e : Ending) (w' : World), (e = .returned (.tuple #[.string ⟨y.1.toArray⟩, .int .i64 y.2]) ∧ Below w.heap.size w w') → ∃ v, e = .returned v ∧ Gr w w' ∧ Rel w' B [] (ex (.tup [.str y.1, .c (.int .i64 y.2)])) v := by
    rintro e w' ⟨rfl, hb⟩
    refine ⟨_, rfl, hb, ?_⟩
    exact .tup _ _ _ (fun i => (#[Value.string ⟨y.1.toArray⟩, Value.int .i64 y.2] : Array Value).getD i undef) rfl (fun i x hx => by
      match i, hx with
      | 0, _ => rfl
      | 1, _ => rfl
      | i + 2, hx => simp at hx) (fun i x hx => by
      match i, hx with
      | 0, hx => simp at hx; subst hx; exact .c _ _
      | 1, hx => simp at hx; subst hx; exact .c _ _
      | i + 2, hx => simp at hx)
  obtain ⟨A, n, c, rfl, hn, hc, hm, hA⟩ : ∃ A n c, v0 = .slice A n c ∧ n = b.length ∧ n ≤ c ∧ c ≤ maxLen ∧ (0 < n → ∃ ad, A = some ad) := by
    generalize v0 = v at r0'
    cases r0' with
    | sl _ l' k A n c us hk hn' hc hm hA hr =>
      refine ⟨A, n, c, rfl, ?_, hc, hm, fun h => ?_⟩
      · rw [flatB] at hn'; simpa using hn'
      · obtain ⟨ad, e, _⟩ := hA h; exact ⟨ad, e⟩
  split at h
  · rename_i hev
    subst hn
    exact (par_walk (Fst.utf16_first N) b hl hev w A c hc hm hA (fun wr i a su hA' hi hb hf => by
      subst hA'
      have hcall := Fst.utf16_first_C N (b.drop i) su hf wr B [.slice (some (a.add i)) (b.length - i) (c - i)] (fun x hx => Nat.lt_of_lt_of_le (hB x hx) hb.size) (hgl.on (.gr hb) (fun _ h => .inl h)) rfl (fun j x hx => by
        match j, hx with
        | 0, hx => simp [valA] at hx; subst hx; exact ⟨_, rfl, rel_drop r0' rfl hi hb⟩
        | j + 1, hx => simp [valA] at hx)
      refine hcall.mono ?_
      rintro e w' ⟨v, rfl, g, hr⟩
      have hr' : Rel w' B [] (.tup [.c (.int .i32 su.1), .c (.int .i64 su.2)]) v := hr
      rw [rel_tup2 hr']
      exact ⟨rfl, g⟩) y h).mono (fun e w' hh => fin e w' hh)
  · rename_i hev
    injection h with h
    subst h
    exact (odd_walk w A n c (by omega)).mono (fun e w' hh => fin e w' hh)
noncomputable def parK {R : Type} (args : List V) (k : V → Tree R) : Tree R := match args with
  | [.lst (.int .u8) l] => .bind (utf16_Parse 200000 l) fun y => k (.tup [.str y.1, .c (.int .i64 y.2)])
  | _ => .fail
theorem par_ok {R : Type} : ∀ args (k : V → Tree R) res, (parK args k).run = some res → ∃ r, (k r).run = some res ∧ r.plain = true ∧ (∀ l k, ex r ≠ .fresh l k) ∧ CallsV Tryd.prog 16 args r := by
  intro args k res h
  unfold parK at h
  split at h
  · rename_i l
    obtain ⟨y, hy, h⟩ := Tree.run_bind h
    exact ⟨_, h, rfl, (fun l k h => by cases h), (parse_C _ _ _ hy).toV ⟨_, Tryd.func16, by decide +kernel, fun h => by
        have h2 : (Tryd.f16).body.isSome = true := by kernel_rfl
        rw [h] at h2
        cases h2⟩⟩
  · cases h
end Go.Proofs.YtlfmdaicfkglmaaDoor
/-
  Functions of the program as plain functions on typed data, and that they are so. Printed by a program of mine.
-/
namespace Go.Proofs.YtlfmdaicfkglmaaDoor
open Go.RowKit
set_option linter.unusedVariables false
set_option maxRecDepth 100000
theorem hmx : Go.Proofs.Tryd.prog.follows .mixedOrders = true := by kernel_rfl
noncomputable def Ev0 (N : Nat) : (R : Type) → Env R := Env.addInl env0 []
theorem Ev0_ok (N : Nat) (R : Type) : EnvOK Go.Proofs.Tryd.prog (Ev0 N R) := EnvOK.addInl (env0_ok R) (by kernel_rfl)
noncomputable def unicode_utf8_word_string (N : Nat) (s0 : List UInt8) : Option (Int) :=
 Option.bind (getI s0 (0 : Int)) fun (v2 : UInt8) =>
 Option.bind (getI s0 (1 : Int)) fun (v3 : UInt8) =>
 Option.bind (getI s0 (2 : Int)) fun (v4 : UInt8) =>
 Option.bind (getI s0 (3 : Int)) fun (v5 : UInt8) =>
 Option.bind (getI s0 (4 : Int)) fun (v6 : UInt8) =>
 Option.bind (getI s0 (5 : Int)) fun (v7 : UInt8) =>
 Option.bind (getI s0 (6 : Int)) fun (v8 : UInt8) =>
 Option.bind (getI s0 (7 : Int)) fun (v9 : UInt8) =>
 some ((@Go.bits @Go.BinOp.or @Go.IntKind.u64 (@Go.bits @Go.BinOp.or @Go.IntKind.u64 (@Go.bits @Go.BinOp.or @Go.IntKind.u64 (@Go.bits @Go.BinOp.or @Go.IntKind.u64 (@Go.bits @Go.BinOp.or @Go.IntKind.u64 (@Go.bits @Go.BinOp.or @Go.IntKind.u64 (@Go.bits @Go.BinOp.or @Go.IntKind.u64 (Go.IntKind.wrap .u64 (((@UInt8.toNat v2) : Nat) : Int)) (Go.IntKind.wrap .u64 ((Go.IntKind.wrap .u64 (((@UInt8.toNat v3) : Nat) : Int)) * (@HPow.hPow Int Nat Int (@instHPow Int Nat (@instPowNat Int @Int.instNatPow)) (2 : Int) (@Min.min Nat @instMinNat (Int.toNat (8 : Int)) (@Go.IntKind.bits @Go.IntKind.u64)))))) (Go.IntKind.wrap .u64 ((Go.IntKind.wrap .u64 (((@UInt8.toNat v4) : Nat) : Int)) * (@HPow.hPow Int Nat Int (@instHPow Int Nat (@instPowNat Int @Int.instNatPow)) (2 : Int) (@Min.min Nat @instMinNat (Int.toNat (16 : Int)) (@Go.IntKind.bits @Go.IntKind.u64)))))) (Go.IntKind.wrap .u64 ((Go.IntKind.wrap .u64 (((@UInt8.toNat v5) : Nat) : Int)) * (@HPow.hPow Int Nat Int (@instHPow Int Nat (@instPowNat Int @Int.instNatPow)) (2 : Int) (@Min.min Nat @instMinNat (Int.toNat (24 : Int)) (@Go.IntKind.bits @Go.IntKind.u64)))))) (Go.IntKind.wrap .u64 ((Go.IntKind.wrap .u64 (((@UInt8.toNat v6) : Nat) : Int)) * (@HPow.hPow Int Nat Int (@instHPow Int Nat (@instPowNat Int @Int.instNatPow)) (2 : Int) (@Min.min Nat @instMinNat (Int.toNat (32 : Int)) (@Go.IntKind.bits @Go.IntKind.u64)))))) (Go.IntKind.wrap .u64 ((Go.IntKind.wrap .u64 (((@UInt8.toNat v7) : Nat) : Int)) * (@HPow.hPow Int Nat Int (@instHPow Int Nat (@instPowNat Int @Int.instNatPow)) (2 : Int) (@Min.min Nat @instMinNat (Int.toNat (40 : Int)) (@Go.IntKind.bits @Go.IntKind.u64)))))) (Go.IntKind.wrap .u64 ((Go.IntKind.wrap .u64 (((@UInt8.toNat v8) : Nat) : Int)) * (@HPow.hPow Int Nat Int (@instHPow Int Nat (@instPowNat Int @Int.instNatPow)) (2 : Int) (@Min.min Nat @instMinNat (Int.toNat (48 : Int)) (@Go.IntKind.bits @Go.IntKind.u64)))))) (Go.IntKind.wrap .u64 ((Go.IntKind.wrap .u64 (((@UInt8.toNat v9) : Nat) : Int)) * (@HPow.hPow Int Nat Int (@instHPow Int Nat (@instPowNat Int @Int.instNatPow)) (2 : Int) (@Min.min Nat @instMinNat (Int.toNat (56 : Int)) (@Go.IntKind.bits @Go.IntKind.u64)))))))
theorem unicode_utf8_word_string_S (N : Nat) (s0 : List UInt8) : (runK Go.Proofs.Tryd.prog (Ev0 N) 400 29 [.str] [(.int .u64)] (s0, ())).run = unicode_utf8_word_string N s0 := by kernel_rfl
theorem unicode_utf8_word_string_C (N : Nat) (s0 : List UInt8) (y : Int) (h : unicode_utf8_word_string N s0 = some y) : CallsK Go.Proofs.Tryd.prog 29 (valA [.str] (s0, ())) (tupV (valR [(.int .u64)] y)) := runK_ok hmx (Ev0_ok N _) (okFn_ok (by kernel_rfl)) (by rw [unicode_utf8_word_string_S]; exact h)
noncomputable def Ev1 (N : Nat) : (R : Type) → Env R := Env.addFn (Ev0 N) 29 (fun R => fnK [.str] [(.int .u64)] (fun c => unicode_utf8_word_string N c.1))
theorem Ev1_ok (N : Nat) (R : Type) : EnvOK Go.Proofs.Tryd.prog (Ev1 N R) := EnvOK.addFn hmx (Ev0_ok N R) (Ev0_ok N _) (by kernel_rfl) (fun c => unicode_utf8_word_string_S N c.1)
noncomputable def unicode_utf8_ValidString_L9_I : LI := ⟨169, 0, [], ⟨[(0, .ty .str)], []⟩, [(.exit 2, ⟨[(0, .ty .str)], []⟩)]⟩
noncomputable def unicode_utf8_ValidString_L9 (N : Nat) (X : (((List UInt8) × Unit) × Unit) → Option ((((List UInt8) × Unit) × Unit))) (s0 : List UInt8) : Option ((((List UInt8) × Unit) × Unit)) :=
 bif (decide ((32 : Int) < (((List.length s0) : Nat) : Int))) then
  Option.bind (@unicode_utf8_word_string N s0) fun (v3 : Int) =>
  Option.bind (dropI s0 (8 : Int)) fun (v4 : (List UInt8)) =>
  Option.bind (@unicode_utf8_word_string N v4) fun (v5 : Int) =>
  Option.bind (dropI s0 (16 : Int)) fun (v6 : (List UInt8)) =>
  Option.bind (@unicode_utf8_word_string N v6) fun (v7 : Int) =>
  Option.bind (dropI s0 (24 : Int)) fun (v8 : (List UInt8)) =>
  Option.bind (@unicode_utf8_word_string N v8) fun (v9 : Int) =>
  bif (@cond Bool @Bool.true (decide ((@Go.bits @Go.BinOp.and @Go.IntKind.u64 (@Go.bits @Go.BinOp.or @Go.IntKind.u64 (@Go.bits @Go.BinOp.or @Go.IntKind.u64 v3 v5) (@Go.bits @Go.BinOp.or @Go.IntKind.u64 v7 v9)) (9259542123273814144 : Int)) = (0 : Int))) @Bool.false) then
   Option.bind (dropI s0 (32 : Int)) fun (v10 : (List UInt8)) =>
   (X ((v10, @Unit.unit), @Unit.unit))
  else
   some (((s0, @Unit.unit), @Unit.unit))
 else
  some (((s0, @Unit.unit), @Unit.unit))
noncomputable def unicode_utf8_ValidString_L9_R (N : Nat) (c : (((List UInt8) × Unit) × Unit)) : Option ((((List UInt8) × Unit) × Unit)) := gl (fun X c => unicode_utf8_ValidString_L9 N X c.1.1) N c
theorem unicode_utf8_ValidString_L9_S (N : Nat) (X : (((List UInt8) × Unit) × Unit) → Option ((((List UInt8) × Unit) × Unit))) (s0 : List UInt8) : (roundK Go.Proofs.Tryd.prog (Ev1 N) 400 [21] unicode_utf8_ValidString_L9_I (loopAt Go.Proofs.Tryd.prog [21] 9) X ((s0, ()), ())).run = unicode_utf8_ValidString_L9 N X s0 := by kernel_rfl
noncomputable def Ev2 (N : Nat) : (R : Type) → Env R := Env.addLp (Ev1 N) [21] 0 9 (fun R => lpK Go.Proofs.Tryd.prog unicode_utf8_ValidString_L9_I (fun X c => unicode_utf8_ValidString_L9 N X c.1.1) N)
theorem Ev2_ok (N : Nat) (R : Type) : EnvOK Go.Proofs.Tryd.prog (Ev2 N R) := EnvOK.addLp (Ev1_ok N R) (by kernel_rfl) (lpK_ok (li := unicode_utf8_ValidString_L9_I) (G := fun X c => unicode_utf8_ValidString_L9 N X c.1.1) hmx (Ev1_ok N _) (by kernel_rfl) loopAt_sub (fun (X : CT unicode_utf8_ValidString_L9_I.sh → Option (OT unicode_utf8_ValidString_L9_I.outs)) (c : CT unicode_utf8_ValidString_L9_I.sh) => unicode_utf8_ValidString_L9_S N X c.1.1) N)
noncomputable def unicode_utf8_ValidString_L1_I : LI := ⟨169, 0, [], ⟨[(0, .ty .str)], []⟩, [(.ret, ⟨[(2, .ty .bool)], []⟩), (.exit 0, ⟨[], []⟩)]⟩
noncomputable def unicode_utf8_ValidString_L1 (N : Nat) (X : (((List UInt8) × Unit) × Unit) → Option (((((Bool) × Unit) × Unit) ⊕ (Unit × Unit)))) (s0 : List UInt8) : Option (((((Bool) × Unit) × Unit) ⊕ (Unit × Unit))) :=
 bif (decide ((0 : Int) < (((List.length s0) : Nat) : Int))) then
  Option.bind (getI s0 (0 : Int)) fun (v3 : UInt8) =>
  bif (decide ((((@UInt8.toNat v3) : Nat) : Int) < (128 : Int))) then
   Option.bind (dropI s0 (1 : Int)) fun (v4 : (List UInt8)) =>
   bif (decide ((8 : Int) < (((List.length v4) : Nat) : Int))) then
    Option.bind (@unicode_utf8_word_string N v4) fun (v5 : Int) =>
    bif (@cond Bool @Bool.true (decide ((@Go.bits @Go.BinOp.and @Go.IntKind.u64 v5 (9259542123273814144 : Int)) = (0 : Int))) @Bool.false) then
     Option.bind (dropI v4 (8 : Int)) fun (v6 : (List UInt8)) =>
     bif (decide ((16 : Int) < (((List.length v6) : Nat) : Int))) then
      Option.bind (@unicode_utf8_word_string N v6) fun (v7 : Int) =>
      Option.bind (dropI v6 (8 : Int)) fun (v8 : (List UInt8)) =>
      Option.bind (@unicode_utf8_word_string N v8) fun (v9 : Int) =>
      bif (@cond Bool @Bool.true (decide ((@Go.bits @Go.BinOp.and @Go.IntKind.u64 (@Go.bits @Go.BinOp.or @Go.IntKind.u64 v7 v9) (9259542123273814144 : Int)) = (0 : Int))) @Bool.false) then
       Option.bind (dropI v6 (16 : Int)) fun (v10 : (List UInt8)) =>
       Option.bind (unicode_utf8_ValidString_L9_R N ((v10, @Unit.unit), @Unit.unit)) fun (v11 : (((List UInt8) × Unit) × Unit)) =>
       (X ((v11.1.1, @Unit.unit), @Unit.unit))
      else
       (X ((v6, @Unit.unit), @Unit.unit))
     else
      (X ((v6, @Unit.unit), @Unit.unit))
    else
     (X ((v4, @Unit.unit), @Unit.unit))
   else
    (X ((v4, @Unit.unit), @Unit.unit))
  else
   Option.bind (getI (@List.cons Int (@OfNat.ofNat Int (240 : Nat) (@instOfNat (240 : Nat))) (@List.cons Int (@OfNat.ofNat Int (240 : Nat) (@instOfNat (240 : Nat))) (@List.cons Int (@OfNat.ofNat Int (240 : Nat) (@instOfNat (240 : Nat))) (@List.cons Int (@OfNat.ofNat Int (240 : Nat) (@instOfNat (240 : Nat))) (@List.cons Int (@OfNat.ofNat Int (240 : Nat) (@instOfNat (240 : Nat))) (@List.cons Int (@OfNat.ofNat Int (240 : Nat) (@instOfNat (240 : Nat))) (@List.cons Int (@OfNat.ofNat Int (240 : Nat) (@instOfNat (240 : Nat))) (@List.cons Int (@OfNat.ofNat Int (240 : Nat) (@instOfNat (240 : Nat))) (@List.cons Int (@OfNat.ofNat Int (240 : Nat) (@instOfNat (240 : Nat))) (@List.cons Int (@OfNat.ofNat Int (240 : Nat) (@instOfNat (240 : Nat))) (@List.cons Int (@OfNat.ofNat Int (240 : Nat) (@instOfNat (240 : Nat))) (@List.cons Int (@OfNat.ofNat Int (240 : Nat) (@instOfNat (240 : Nat))) (@List.cons Int (@OfNat.ofNat Int (240 : Nat) (@instOfNat (240 : Nat))) (@List.cons Int (@OfNat.ofNat Int (240 : Nat) (@instOfNat (240 : Nat))) (@List.cons Int (@OfNat.ofNat Int (240 : Nat) (@instOfNat (240 : Nat))) (@List.cons Int (@OfNat.ofNat Int (240 : Nat) (@instOfNat (240 : Nat))) (@List.cons Int (@OfNat.ofNat Int (240 : Nat) (@instOfNat (240 : Nat))) (@List.cons Int (@OfNat.ofNat Int (240 : Nat) (@instOfNat (240 : Nat))) (@List.cons Int (@OfNat.ofNat Int (240 : Nat) (@instOfNat (240 : Nat))) (@List.cons Int (@OfNat.ofNat Int (240 : Nat) (@instOfNat (240 : Nat))) (@List.cons Int (@OfNat.ofNat Int (240 : Nat) (@instOfNat (240 : Nat))) (@List.cons Int (@OfNat.ofNat Int (240 : Nat) (@instOfNat (240 : Nat))) (@List.cons Int (@OfNat.ofNat Int (240 : Nat) (@instOfNat (240 : Nat))) (@List.cons Int (@OfNat.ofNat Int (240 : Nat) (@instOfNat (240 : Nat))) (@List.cons Int (@OfNat.ofNat Int (240 : Nat) (@instOfNat (240 : Nat))) (@List.cons Int (@OfNat.ofNat Int (240 : Nat) (@instOfNat (240 : Nat))) (@List.cons Int (@OfNat.ofNat Int (240 : Nat) (@instOfNat (240 : Nat))) (@List.cons Int (@OfNat.ofNat Int (240 : Nat) (@instOfNat (240 : Nat))) (@List.cons Int (@OfNat.ofNat Int (240 : Nat) (@instOfNat (240 : Nat))) (@List.cons Int (@OfNat.ofNat Int (240 : Nat) (@instOfNat (240 : Nat))) (@List.cons Int (@OfNat.ofNat Int (240 : Nat) (@instOfNat (240 : Nat))) (@List.cons Int (@OfNat.ofNat Int (240 : Nat) (@instOfNat (240 : Nat))) (@List.cons Int (@OfNat.ofNat Int (240 : Nat) (@instOfNat (240 : Nat))) (@List.cons Int (@OfNat.ofNat Int (240 : Nat) (@instOfNat (240 : Nat))) (@List.cons Int (@OfNat.ofNat Int (240 : Nat) (@instOfNat (240 : Nat))) (@List.cons Int (@OfNat.ofNat Int (240 : Nat) (@instOfNat (240 : Nat))) (@List.cons Int (@OfNat.ofNat Int (240 : Nat) (@instOfNat (240 : Nat))) (@List.cons Int (@OfNat.ofNat Int (240 : Nat) (@instOfNat (240 : Nat))) (@List.cons Int (@OfNat.ofNat Int (240 : Nat) (@instOfNat (240 : Nat))) (@List.cons Int (@OfNat.ofNat Int (240 : Nat) (@instOfNat (240 : Nat))) (@List.cons Int (@OfNat.ofNat Int (240 : Nat) (@instOfNat (240 : Nat))) (@List.cons Int (@OfNat.ofNat Int (240 : Nat) (@instOfNat (240 : Nat))) (@List.cons Int (@OfNat.ofNat Int (240 : Nat) (@instOfNat (240 : Nat))) (@List.cons Int (@OfNat.ofNat Int (240 : Nat) (@instOfNat (240 : Nat))) (@List.cons Int (@OfNat.ofNat Int (240 : Nat) (@instOfNat (240 : Nat))) (@List.cons Int (@OfNat.ofNat Int (240 : Nat) (@instOfNat (240 : Nat))) (@List.cons Int (@OfNat.ofNat Int (240 : Nat) (@instOfNat (240 : Nat))) (@List.cons Int (@OfNat.ofNat Int (240 : Nat) (@instOfNat (240 : Nat))) (@List.cons Int (@OfNat.ofNat Int (240 : Nat) (@instOfNat (240 : Nat))) (@List.cons Int (@OfNat.ofNat Int (240 : Nat) (@instOfNat (240 : Nat))) (@List.cons Int (@OfNat.ofNat Int (240 : Nat) (@instOfNat (240 : Nat))) (@List.cons Int (@OfNat.ofNat Int (240 : Nat) (@instOfNat (240 : Nat))) (@List.cons Int (@OfNat.ofNat Int (240 : Nat) (@instOfNat (240 : Nat))) (@List.cons Int (@OfNat.ofNat Int (240 : Nat) (@instOfNat (240 : Nat))) (@List.cons Int (@OfNat.ofNat Int (240 : Nat) (@instOfNat (240 : Nat))) (@List.cons Int (@OfNat.ofNat Int (240 : Nat) (@instOfNat (240 : Nat))) (@List.cons Int (@OfNat.ofNat Int (240 : Nat) (@instOfNat (240 : Nat))) (@List.cons Int (@OfNat.ofNat Int (240 : Nat) (@instOfNat (240 : Nat))) (@List.cons Int (@OfNat.ofNat Int (240 : Nat) (@instOfNat (240 : Nat))) (@List.cons Int (@OfNat.ofNat Int (240 : Nat) (@instOfNat (240 : Nat))) (@List.cons Int (@OfNat.ofNat Int (240 : Nat) (@instOfNat (240 : Nat))) (@List.cons Int (@OfNat.ofNat Int (240 : Nat) (@instOfNat (240 : Nat))) (@List.cons Int (@OfNat.ofNat Int (240 : Nat) (@instOfNat (240 : Nat))) (@List.cons Int (@OfNat.ofNat Int (240 : Nat) (@instOfNat (240 : Nat))) (@List.cons Int (@OfNat.ofNat Int (240 : Nat) (@instOfNat (240 : Nat))) (@List.cons Int (@OfNat.ofNat Int (240 : Nat) (@instOfNat (240 : Nat))) (@List.cons Int (@OfNat.ofNat Int (240 : Nat) (@instOfNat (240 : Nat))) (@List.cons Int (@OfNat.ofNat Int (240 : Nat) (@instOfNat (240 : Nat))) (@List.cons Int (@OfNat.ofNat Int (240 : Nat) (@instOfNat (240 : Nat))) (@List.cons Int (@OfNat.ofNat Int (240 : Nat) (@instOfNat (240 : Nat))) (@List.cons Int (@OfNat.ofNat Int (240 : Nat) (@instOfNat (240 : Nat))) (@List.cons Int (@OfNat.ofNat Int (240 : Nat) (@instOfNat (240 : Nat))) (@List.cons Int (@OfNat.ofNat Int (240 : Nat) (@instOfNat (240 : Nat))) (@List.cons Int (@OfNat.ofNat Int (240 : Nat) (@instOfNat (240 : Nat))) (@List.cons Int (@OfNat.ofNat Int (240 : Nat) (@instOfNat (240 : Nat))) (@List.cons Int (@OfNat.ofNat Int (240 : Nat) (@instOfNat (240 : Nat))) (@List.cons Int (@OfNat.ofNat Int (240 : Nat) (@instOfNat (240 : Nat))) (@List.cons Int (@OfNat.ofNat Int (240 : Nat) (@instOfNat (240 : Nat))) (@List.cons Int (@OfNat.ofNat Int (240 : Nat) (@instOfNat (240 : Nat))) (@List.cons Int (@OfNat.ofNat Int (240 : Nat) (@instOfNat (240 : Nat))) (@List.cons Int (@OfNat.ofNat Int (240 : Nat) (@instOfNat (240 : Nat))) (@List.cons Int (@OfNat.ofNat Int (240 : Nat) (@instOfNat (240 : Nat))) (@List.cons Int (@OfNat.ofNat Int (240 : Nat) (@instOfNat (240 : Nat))) (@List.cons Int (@OfNat.ofNat Int (240 : Nat) (@instOfNat (240 : Nat))) (@List.cons Int (@OfNat.ofNat Int (240 : Nat) (@instOfNat (240 : Nat))) (@List.cons Int (@OfNat.ofNat Int (240 : Nat) (@instOfNat (240 : Nat))) (@List.cons Int (@OfNat.ofNat Int (240 : Nat) (@instOfNat (240 : Nat))) (@List.cons Int (@OfNat.ofNat Int (240 : Nat) (@instOfNat (240 : Nat))) (@List.cons Int (@OfNat.ofNat Int (240 : Nat) (@instOfNat (240 : Nat))) (@List.cons Int (@OfNat.ofNat Int (240 : Nat) (@instOfNat (240 : Nat))) (@List.cons Int (@OfNat.ofNat Int (240 : Nat) (@instOfNat (240 : Nat))) (@List.cons Int (@OfNat.ofNat Int (240 : Nat) (@instOfNat (240 : Nat))) (@List.cons Int (@OfNat.ofNat Int (240 : Nat) (@instOfNat (240 : Nat))) (@List.cons Int (@OfNat.ofNat Int (240 : Nat) (@instOfNat (240 : Nat))) (@List.cons Int (@OfNat.ofNat Int (240 : Nat) (@instOfNat (240 : Nat))) (@List.cons Int (@OfNat.ofNat Int (240 : Nat) (@instOfNat (240 : Nat))) (@List.cons Int (@OfNat.ofNat Int (240 : Nat) (@instOfNat (240 : Nat))) (@List.cons Int (@OfNat.ofNat Int (240 : Nat) (@instOfNat (240 : Nat))) (@List.cons Int (@OfNat.ofNat Int (240 : Nat) (@instOfNat (240 : Nat))) (@List.cons Int (@OfNat.ofNat Int (240 : Nat) (@instOfNat (240 : Nat))) (@List.cons Int (@OfNat.ofNat Int (240 : Nat) (@instOfNat (240 : Nat))) (@List.cons Int (@OfNat.ofNat Int (240 : Nat) (@instOfNat (240 : Nat))) (@List.cons Int (@OfNat.ofNat Int (240 : Nat) (@instOfNat (240 : Nat))) (@List.cons Int (@OfNat.ofNat Int (240 : Nat) (@instOfNat (240 : Nat))) (@List.cons Int (@OfNat.ofNat Int (240 : Nat) (@instOfNat (240 : Nat))) (@List.cons Int (@OfNat.ofNat Int (240 : Nat) (@instOfNat (240 : Nat))) (@List.cons Int (@OfNat.ofNat Int (240 : Nat) (@instOfNat (240 : Nat))) (@List.cons Int (@OfNat.ofNat Int (240 : Nat) (@instOfNat (240 : Nat))) (@List.cons Int (@OfNat.ofNat Int (240 : Nat) (@instOfNat (240 : Nat))) (@List.cons Int (@OfNat.ofNat Int (240 : Nat) (@instOfNat (240 : Nat))) (@List.cons Int (@OfNat.ofNat Int (240 : Nat) (@instOfNat (240 : Nat))) (@List.cons Int (@OfNat.ofNat Int (240 : Nat) (@instOfNat (240 : Nat))) (@List.cons Int (@OfNat.ofNat Int (240 : Nat) (@instOfNat (240 : Nat))) (@List.cons Int (@OfNat.ofNat Int (240 : Nat) (@instOfNat (240 : Nat))) (@List.cons Int (@OfNat.ofNat Int (240 : Nat) (@instOfNat (240 : Nat))) (@List.cons Int (@OfNat.ofNat Int (240 : Nat) (@instOfNat (240 : Nat))) (@List.cons Int (@OfNat.ofNat Int (240 : Nat) (@instOfNat (240 : Nat))) (@List.cons Int (@OfNat.ofNat Int (240 : Nat) (@instOfNat (240 : Nat))) (@List.cons Int (@OfNat.ofNat Int (240 : Nat) (@instOfNat (240 : Nat))) (@List.cons Int (@OfNat.ofNat Int (240 : Nat) (@instOfNat (240 : Nat))) (@List.cons Int (@OfNat.ofNat Int (240 : Nat) (@instOfNat (240 : Nat))) (@List.cons Int (@OfNat.ofNat Int (240 : Nat) (@instOfNat (240 : Nat))) (@List.cons Int (@OfNat.ofNat Int (240 : Nat) (@instOfNat (240 : Nat))) (@List.cons Int (@OfNat.ofNat Int (240 : Nat) (@instOfNat (240 : Nat))) (@List.cons Int (@OfNat.ofNat Int (240 : Nat) (@instOfNat (240 : Nat))) (@List.cons Int (@OfNat.ofNat Int (240 : Nat) (@instOfNat (240 : Nat))) (@List.cons Int (@OfNat.ofNat Int (240 : Nat) (@instOfNat (240 : Nat))) (@List.cons Int (@OfNat.ofNat Int (240 : Nat) (@instOfNat (240 : Nat))) (@List.cons Int (@OfNat.ofNat Int (241 : Nat) (@instOfNat (241 : Nat))) (@List.cons Int (@OfNat.ofNat Int (241 : Nat) (@instOfNat (241 : Nat))) (@List.cons Int (@OfNat.ofNat Int (241 : Nat) (@instOfNat (241 : Nat))) (@List.cons Int (@OfNat.ofNat Int (241 : Nat) (@instOfNat (241 : Nat))) (@List.cons Int (@OfNat.ofNat Int (241 : Nat) (@instOfNat (241 : Nat))) (@List.cons Int (@OfNat.ofNat Int (241 : Nat) (@instOfNat (241 : Nat))) (@List.cons Int (@OfNat.ofNat Int (241 : Nat) (@instOfNat (241 : Nat))) (@List.cons Int (@OfNat.ofNat Int (241 : Nat) (@instOfNat (241 : Nat))) (@List.cons Int (@OfNat.ofNat Int (241 : Nat) (@instOfNat (241 : Nat))) (@List.cons Int (@OfNat.ofNat Int (241 : Nat) (@instOfNat (241 : Nat))) (@List.cons Int (@OfNat.ofNat Int (241 : Nat) (@instOfNat (241 : Nat))) (@List.cons Int (@OfNat.ofNat Int (241 : Nat) (@instOfNat (241 : Nat))) (@List.cons Int (@OfNat.ofNat Int (241 : Nat) (@instOfNat (241 : Nat))) (@List.cons Int (@OfNat.ofNat Int (241 : Nat) (@instOfNat (241 : Nat))) (@List.cons Int (@OfNat.ofNat Int (241 : Nat) (@instOfNat (241 : Nat))) (@List.cons Int (@OfNat.ofNat Int (241 : Nat) (@instOfNat (241 : Nat))) (@List.cons Int (@OfNat.ofNat Int (241 : Nat) (@instOfNat (241 : Nat))) (@List.cons Int (@OfNat.ofNat Int (241 : Nat) (@instOfNat (241 : Nat))) (@List.cons Int (@OfNat.ofNat Int (241 : Nat) (@instOfNat (241 : Nat))) (@List.cons Int (@OfNat.ofNat Int (241 : Nat) (@instOfNat (241 : Nat))) (@List.cons Int (@OfNat.ofNat Int (241 : Nat) (@instOfNat (241 : Nat))) (@List.cons Int (@OfNat.ofNat Int (241 : Nat) (@instOfNat (241 : Nat))) (@List.cons Int (@OfNat.ofNat Int (241 : Nat) (@instOfNat (241 : Nat))) (@List.cons Int (@OfNat.ofNat Int (241 : Nat) (@instOfNat (241 : Nat))) (@List.cons Int (@OfNat.ofNat Int (241 : Nat) (@instOfNat (241 : Nat))) (@List.cons Int (@OfNat.ofNat Int (241 : Nat) (@instOfNat (241 : Nat))) (@List.cons Int (@OfNat.ofNat Int (241 : Nat) (@instOfNat (241 : Nat))) (@List.cons Int (@OfNat.ofNat Int (241 : Nat) (@instOfNat (241 : Nat))) (@List.cons Int (@OfNat.ofNat Int (241 : Nat) (@instOfNat (241 : Nat))) (@List.cons Int (@OfNat.ofNat Int (241 : Nat) (@instOfNat (241 : Nat))) (@List.cons Int (@OfNat.ofNat Int (241 : Nat) (@instOfNat (241 : Nat))) (@List.cons Int (@OfNat.ofNat Int (241 : Nat) (@instOfNat (241 : Nat))) (@List.cons Int (@OfNat.ofNat Int (241 : Nat) (@instOfNat (241 : Nat))) (@List.cons Int (@OfNat.ofNat Int (241 : Nat) (@instOfNat (241 : Nat))) (@List.cons Int (@OfNat.ofNat Int (241 : Nat) (@instOfNat (241 : Nat))) (@List.cons Int (@OfNat.ofNat Int (241 : Nat) (@instOfNat (241 : Nat))) (@List.cons Int (@OfNat.ofNat Int (241 : Nat) (@instOfNat (241 : Nat))) (@List.cons Int (@OfNat.ofNat Int (241 : Nat) (@instOfNat (241 : Nat))) (@List.cons Int (@OfNat.ofNat Int (241 : Nat) (@instOfNat (241 : Nat))) (@List.cons Int (@OfNat.ofNat Int (241 : Nat) (@instOfNat (241 : Nat))) (@List.cons Int (@OfNat.ofNat Int (241 : Nat) (@instOfNat (241 : Nat))) (@List.cons Int (@OfNat.ofNat Int (241 : Nat) (@instOfNat (241 : Nat))) (@List.cons Int (@OfNat.ofNat Int (241 : Nat) (@instOfNat (241 : Nat))) (@List.cons Int (@OfNat.ofNat Int (241 : Nat) (@instOfNat (241 : Nat))) (@List.cons Int (@OfNat.ofNat Int (241 : Nat) (@instOfNat (241 : Nat))) (@List.cons Int (@OfNat.ofNat Int (241 : Nat) (@instOfNat (241 : Nat))) (@List.cons Int (@OfNat.ofNat Int (241 : Nat) (@instOfNat (241 : Nat))) (@List.cons Int (@OfNat.ofNat Int (241 : Nat) (@instOfNat (241 : Nat))) (@List.cons Int (@OfNat.ofNat Int (241 : Nat) (@instOfNat (241 : Nat))) (@List.cons Int (@OfNat.ofNat Int (241 : Nat) (@instOfNat (241 : Nat))) (@List.cons Int (@OfNat.ofNat Int (241 : Nat) (@instOfNat (241 : Nat))) (@List.cons Int (@OfNat.ofNat Int (241 : Nat) (@instOfNat (241 : Nat))) (@List.cons Int (@OfNat.ofNat Int (241 : Nat) (@instOfNat (241 : Nat))) (@List.cons Int (@OfNat.ofNat Int (241 : Nat) (@instOfNat (241 : Nat))) (@List.cons Int (@OfNat.ofNat Int (241 : Nat) (@instOfNat (241 : Nat))) (@List.cons Int (@OfNat.ofNat Int (241 : Nat) (@instOfNat (241 : Nat))) (@List.cons Int (@OfNat.ofNat Int (241 : Nat) (@instOfNat (241 : Nat))) (@List.cons Int (@OfNat.ofNat Int (241 : Nat) (@instOfNat (241 : Nat))) (@List.cons Int (@OfNat.ofNat Int (241 : Nat) (@instOfNat (241 : Nat))) (@List.cons Int (@OfNat.ofNat Int (241 : Nat) (@instOfNat (241 : Nat))) (@List.cons Int (@OfNat.ofNat Int (241 : Nat) (@instOfNat (241 : Nat))) (@List.cons Int (@OfNat.ofNat Int (241 : Nat) (@instOfNat (241 : Nat))) (@List.cons Int (@OfNat.ofNat Int (241 : Nat) (@instOfNat (241 : Nat))) (@List.cons Int (@OfNat.ofNat Int (241 : Nat) (@instOfNat (241 : Nat))) (@List.cons Int (@OfNat.ofNat Int (241 : Nat) (@instOfNat (241 : Nat))) (@List.cons Int (@OfNat.ofNat Int (241 : Nat) (@instOfNat (241 : Nat))) (@List.cons Int (@OfNat.ofNat Int (2 : Nat) (@instOfNat (2 : Nat))) (@List.cons Int (@OfNat.ofNat Int (2 : Nat) (@instOfNat (2 : Nat))) (@List.cons Int (@OfNat.ofNat Int (2 : Nat) (@instOfNat (2 : Nat))) (@List.cons Int (@OfNat.ofNat Int (2 : Nat) (@instOfNat (2 : Nat))) (@List.cons Int (@OfNat.ofNat Int (2 : Nat) (@instOfNat (2 : Nat))) (@List.cons Int (@OfNat.ofNat Int (2 : Nat) (@instOfNat (2 : Nat))) (@List.cons Int (@OfNat.ofNat Int (2 : Nat) (@instOfNat (2 : Nat))) (@List.cons Int (@OfNat.ofNat Int (2 : Nat) (@instOfNat (2 : Nat))) (@List.cons Int (@OfNat.ofNat Int (2 : Nat) (@instOfNat (2 : Nat))) (@List.cons Int (@OfNat.ofNat Int (2 : Nat) (@instOfNat (2 : Nat))) (@List.cons Int (@OfNat.ofNat Int (2 : Nat) (@instOfNat (2 : Nat))) (@List.cons Int (@OfNat.ofNat Int (2 : Nat) (@instOfNat (2 : Nat))) (@List.cons Int (@OfNat.ofNat Int (2 : Nat) (@instOfNat (2 : Nat))) (@List.cons Int (@OfNat.ofNat Int (2 : Nat) (@instOfNat (2 : Nat))) (@List.cons Int (@OfNat.ofNat Int (2 : Nat) (@instOfNat (2 : Nat))) (@List.cons Int (@OfNat.ofNat Int (2 : Nat) (@instOfNat (2 : Nat))) (@List.cons Int (@OfNat.ofNat Int (2 : Nat) (@instOfNat (2 : Nat))) (@List.cons Int (@OfNat.ofNat Int (2 : Nat) (@instOfNat (2 : Nat))) (@List.cons Int (@OfNat.ofNat Int (2 : Nat) (@instOfNat (2 : Nat))) (@List.cons Int (@OfNat.ofNat Int (2 : Nat) (@instOfNat (2 : Nat))) (@List.cons Int (@OfNat.ofNat Int (2 : Nat) (@instOfNat (2 : Nat))) (@List.cons Int (@OfNat.ofNat Int (2 : Nat) (@instOfNat (2 : Nat))) (@List.cons Int (@OfNat.ofNat Int (2 : Nat) (@instOfNat (2 : Nat))) (@List.cons Int (@OfNat.ofNat Int (2 : Nat) (@instOfNat (2 : Nat))) (@List.cons Int (@OfNat.ofNat Int (2 : Nat) (@instOfNat (2 : Nat))) (@List.cons Int (@OfNat.ofNat Int (2 : Nat) (@instOfNat (2 : Nat))) (@List.cons Int (@OfNat.ofNat Int (2 : Nat) (@instOfNat (2 : Nat))) (@List.cons Int (@OfNat.ofNat Int (2 : Nat) (@instOfNat (2 : Nat))) (@List.cons Int (@OfNat.ofNat Int (2 : Nat) (@instOfNat (2 : Nat))) (@List.cons Int (@OfNat.ofNat Int (2 : Nat) (@instOfNat (2 : Nat))) (@List.cons Int (@OfNat.ofNat Int (19 : Nat) (@instOfNat (19 : Nat))) (@List.cons Int (@OfNat.ofNat Int (3 : Nat) (@instOfNat (3 : Nat))) (@List.cons Int (@OfNat.ofNat Int (3 : Nat) (@instOfNat (3 : Nat))) (@List.cons Int (@OfNat.ofNat Int (3 : Nat) (@instOfNat (3 : Nat))) (@List.cons Int (@OfNat.ofNat Int (3 : Nat) (@instOfNat (3 : Nat))) (@List.cons Int (@OfNat.ofNat Int (3 : Nat) (@instOfNat (3 : Nat))) (@List.cons Int (@OfNat.ofNat Int (3 : Nat) (@instOfNat (3 : Nat))) (@List.cons Int (@OfNat.ofNat Int (3 : Nat) (@instOfNat (3 : Nat))) (@List.cons Int (@OfNat.ofNat Int (3 : Nat) (@instOfNat (3 : Nat))) (@List.cons Int (@OfNat.ofNat Int (3 : Nat) (@instOfNat (3 : Nat))) (@List.cons Int (@OfNat.ofNat Int (3 : Nat) (@instOfNat (3 : Nat))) (@List.cons Int (@OfNat.ofNat Int (3 : Nat) (@instOfNat (3 : Nat))) (@List.cons Int (@OfNat.ofNat Int (3 : Nat) (@instOfNat (3 : Nat))) (@List.cons Int (@OfNat.ofNat Int (35 : Nat) (@instOfNat (35 : Nat))) (@List.cons Int (@OfNat.ofNat Int (3 : Nat) (@instOfNat (3 : Nat))) (@List.cons Int (@OfNat.ofNat Int (3 : Nat) (@instOfNat (3 : Nat))) (@List.cons Int (@OfNat.ofNat Int (52 : Nat) (@instOfNat (52 : Nat))) (@List.cons Int (@OfNat.ofNat Int (4 : Nat) (@instOfNat (4 : Nat))) (@List.cons Int (@OfNat.ofNat Int (4 : Nat) (@instOfNat (4 : Nat))) (@List.cons Int (@OfNat.ofNat Int (4 : Nat) (@instOfNat (4 : Nat))) (@List.cons Int (@OfNat.ofNat Int (68 : Nat) (@instOfNat (68 : Nat))) (@List.cons Int (@OfNat.ofNat Int (241 : Nat) (@instOfNat (241 : Nat))) (@List.cons Int (@OfNat.ofNat Int (241 : Nat) (@instOfNat (241 : Nat))) (@List.cons Int (@OfNat.ofNat Int (241 : Nat) (@instOfNat (241 : Nat))) ([(@OfNat.ofNat Int (241 : Nat) (@instOfNat (241 : Nat))), (@OfNat.ofNat Int (241 : Nat) (@instOfNat (241 : Nat))), (@OfNat.ofNat Int (241 : Nat) (@instOfNat (241 : Nat))), (@OfNat.ofNat Int (241 : Nat) (@instOfNat (241 : Nat))), (@OfNat.ofNat Int (241 : Nat) (@instOfNat (241 : Nat))), (@OfNat.ofNat Int (241 : Nat) (@instOfNat (241 : Nat))), (@OfNat.ofNat Int (241 : Nat) (@instOfNat (241 : Nat))), (@OfNat.ofNat Int (241 : Nat) (@instOfNat (241 : Nat)))] : List (Int)))))))))))))))))))))))))))))))))))))))))))))))))))))))))))))))))))))))))))))))))))))))))))))))))))))))))))))))))))))))))))))))))))))))))))))))))))))))))))))))))))))))))))))))))))))))))))))))))))))))))))))))))))))))))))))))))))))))))))))))))))))))))) (((@UInt8.toNat v3) : Nat) : Int)) fun (v4 : Int) =>
   Option.bind (getI ([((@OfNat.ofNat Int (128 : Nat) (@instOfNat (128 : Nat))), (@OfNat.ofNat Int (191 : Nat) (@instOfNat (191 : Nat)))), ((@OfNat.ofNat Int (160 : Nat) (@instOfNat (160 : Nat))), (@OfNat.ofNat Int (191 : Nat) (@instOfNat (191 : Nat)))), ((@OfNat.ofNat Int (128 : Nat) (@instOfNat (128 : Nat))), (@OfNat.ofNat Int (159 : Nat) (@instOfNat (159 : Nat)))), ((@OfNat.ofNat Int (144 : Nat) (@instOfNat (144 : Nat))), (@OfNat.ofNat Int (191 : Nat) (@instOfNat (191 : Nat)))), ((@OfNat.ofNat Int (128 : Nat) (@instOfNat (128 : Nat))), (@OfNat.ofNat Int (143 : Nat) (@instOfNat (143 : Nat)))), ((@OfNat.ofNat Int (0 : Nat) (@instOfNat (0 : Nat))), (@OfNat.ofNat Int (0 : Nat) (@instOfNat (0 : Nat)))), ((@OfNat.ofNat Int (0 : Nat) (@instOfNat (0 : Nat))), (@OfNat.ofNat Int (0 : Nat) (@instOfNat (0 : Nat)))), ((@OfNat.ofNat Int (0 : Nat) (@instOfNat (0 : Nat))), (@OfNat.ofNat Int (0 : Nat) (@instOfNat (0 : Nat)))), ((@OfNat.ofNat Int (0 : Nat) (@instOfNat (0 : Nat))), (@OfNat.ofNat Int (0 : Nat) (@instOfNat (0 : Nat)))), ((@OfNat.ofNat Int (0 : Nat) (@instOfNat (0 : Nat))), (@OfNat.ofNat Int (0 : Nat) (@instOfNat (0 : Nat)))), ((@OfNat.ofNat Int (0 : Nat) (@instOfNat (0 : Nat))), (@OfNat.ofNat Int (0 : Nat) (@instOfNat (0 : Nat)))), ((@OfNat.ofNat Int (0 : Nat) (@instOfNat (0 : Nat))), (@OfNat.ofNat Int (0 : Nat) (@instOfNat (0 : Nat)))), ((@OfNat.ofNat Int (0 : Nat) (@instOfNat (0 : Nat))), (@OfNat.ofNat Int (0 : Nat) (@instOfNat (0 : Nat)))), ((@OfNat.ofNat Int (0 : Nat) (@instOfNat (0 : Nat))), (@OfNat.ofNat Int (0 : Nat) (@instOfNat (0 : Nat)))), ((@OfNat.ofNat Int (0 : Nat) (@instOfNat (0 : Nat))), (@OfNat.ofNat Int (0 : Nat) (@instOfNat (0 : Nat)))), ((@OfNat.ofNat Int (0 : Nat) (@instOfNat (0 : Nat))), (@OfNat.ofNat Int (0 : Nat) (@instOfNat (0 : Nat))))] : List ((Int × Int))) (@Int.fdiv v4 (@HPow.hPow Int Nat Int (@instHPow Int Nat (@instPowNat Int @Int.instNatPow)) (2 : Int) (@Min.min Nat @instMinNat (Int.toNat (4 : Int)) (@Go.IntKind.bits @Go.IntKind.u8))))) fun (v5 : (Int × Int)) =>
   bif (decide ((Go.IntKind.wrap .i64 (@Go.bits @Go.BinOp.and @Go.IntKind.u8 v4 (7 : Int))) = (2 : Int))) then
    bif (decide ((((List.length s0) : Nat) : Int) < (2 : Int))) then
     some ((.inl ((@Bool.false, @Unit.unit), @Unit.unit)))
    else
     Option.bind (getI s0 (1 : Int)) fun (v6 : UInt8) =>
     bif (@cond Bool @Bool.false @Bool.true (decide ((((@UInt8.toNat v6) : Nat) : Int) < v5.1))) then
      some ((.inl ((@Bool.false, @Unit.unit), @Unit.unit)))
     else
      Option.bind (getI s0 (1 : Int)) fun (v7 : UInt8) =>
      bif (@cond Bool @Bool.false @Bool.true (decide (v5.2 < (((@UInt8.toNat v7) : Nat) : Int)))) then
       some ((.inl ((@Bool.false, @Unit.unit), @Unit.unit)))
      else
       Option.bind (dropI s0 (2 : Int)) fun (v8 : (List UInt8)) =>
       (X ((v8, @Unit.unit), @Unit.unit))
   else
    bif (decide ((Go.IntKind.wrap .i64 (@Go.bits @Go.BinOp.and @Go.IntKind.u8 v4 (7 : Int))) = (3 : Int))) then
     bif (decide ((((List.length s0) : Nat) : Int) < (3 : Int))) then
      some ((.inl ((@Bool.false, @Unit.unit), @Unit.unit)))
     else
      Option.bind (getI s0 (1 : Int)) fun (v6 : UInt8) =>
      bif (@cond Bool @Bool.false @Bool.true (decide ((((@UInt8.toNat v6) : Nat) : Int) < v5.1))) then
       some ((.inl ((@Bool.false, @Unit.unit), @Unit.unit)))
      else
       Option.bind (getI s0 (1 : Int)) fun (v7 : UInt8) =>
       bif (@cond Bool @Bool.false @Bool.true (decide (v5.2 < (((@UInt8.toNat v7) : Nat) : Int)))) then
        some ((.inl ((@Bool.false, @Unit.unit), @Unit.unit)))
       else
        Option.bind (getI s0 (2 : Int)) fun (v8 : UInt8) =>
        bif (@cond Bool @Bool.false @Bool.true (decide ((((@UInt8.toNat v8) : Nat) : Int) < (128 : Int)))) then
         some ((.inl ((@Bool.false, @Unit.unit), @Unit.unit)))
        else
         Option.bind (getI s0 (2 : Int)) fun (v9 : UInt8) =>
         bif (@cond Bool @Bool.false @Bool.true (decide ((191 : Int) < (((@UInt8.toNat v9) : Nat) : Int)))) then
          some ((.inl ((@Bool.false, @Unit.unit), @Unit.unit)))
         else
          Option.bind (dropI s0 (3 : Int)) fun (v10 : (List UInt8)) =>
          (X ((v10, @Unit.unit), @Unit.unit))
    else
     bif (decide ((Go.IntKind.wrap .i64 (@Go.bits @Go.BinOp.and @Go.IntKind.u8 v4 (7 : Int))) = (4 : Int))) then
      bif (decide ((((List.length s0) : Nat) : Int) < (4 : Int))) then
       some ((.inl ((@Bool.false, @Unit.unit), @Unit.unit)))
      else
       Option.bind (getI s0 (1 : Int)) fun (v6 : UInt8) =>
       bif (@cond Bool @Bool.false @Bool.true (decide ((((@UInt8.toNat v6) : Nat) : Int) < v5.1))) then
        some ((.inl ((@Bool.false, @Unit.unit), @Unit.unit)))
       else
        Option.bind (getI s0 (1 : Int)) fun (v7 : UInt8) =>
        bif (@cond Bool @Bool.false @Bool.true (decide (v5.2 < (((@UInt8.toNat v7) : Nat) : Int)))) then
         some ((.inl ((@Bool.false, @Unit.unit), @Unit.unit)))
        else
         Option.bind (getI s0 (2 : Int)) fun (v8 : UInt8) =>
         bif (@cond Bool @Bool.false @Bool.true (decide ((((@UInt8.toNat v8) : Nat) : Int) < (128 : Int)))) then
          some ((.inl ((@Bool.false, @Unit.unit), @Unit.unit)))
         else
          Option.bind (getI s0 (2 : Int)) fun (v9 : UInt8) =>
          bif (@cond Bool @Bool.false @Bool.true (decide ((191 : Int) < (((@UInt8.toNat v9) : Nat) : Int)))) then
           some ((.inl ((@Bool.false, @Unit.unit), @Unit.unit)))
          else
           Option.bind (getI s0 (3 : Int)) fun (v10 : UInt8) =>
           bif (@cond Bool @Bool.false @Bool.true (decide ((((@UInt8.toNat v10) : Nat) : Int) < (128 : Int)))) then
            some ((.inl ((@Bool.false, @Unit.unit), @Unit.unit)))
           else
            Option.bind (getI s0 (3 : Int)) fun (v11 : UInt8) =>
            bif (@cond Bool @Bool.false @Bool.true (decide ((191 : Int) < (((@UInt8.toNat v11) : Nat) : Int)))) then
             some ((.inl ((@Bool.false, @Unit.unit), @Unit.unit)))
            else
             Option.bind (dropI s0 (4 : Int)) fun (v12 : (List UInt8)) =>
             (X ((v12, @Unit.unit), @Unit.unit))
     else
      some ((.inl ((@Bool.false, @Unit.unit), @Unit.unit)))
 else
  some ((.inr (@Unit.unit, @Unit.unit)))
noncomputable def unicode_utf8_ValidString_L1_R (N : Nat) (c : (((List UInt8) × Unit) × Unit)) : Option (((((Bool) × Unit) × Unit) ⊕ (Unit × Unit))) := gl (fun X c => unicode_utf8_ValidString_L1 N X c.1.1) N c
theorem unicode_utf8_ValidString_L1_S (N : Nat) (X : (((List UInt8) × Unit) × Unit) → Option (((((Bool) × Unit) × Unit) ⊕ (Unit × Unit)))) (s0 : List UInt8) : (roundK Go.Proofs.Tryd.prog (Ev2 N) 400 [21] unicode_utf8_ValidString_L1_I (loopAt Go.Proofs.Tryd.prog [21] 1) X ((s0, ()), ())).run = unicode_utf8_ValidString_L1 N X s0 := by kernel_rfl
noncomputable def Ev3 (N : Nat) : (R : Type) → Env R := Env.addLp (Ev2 N) [21] 0 1 (fun R => lpK Go.Proofs.Tryd.prog unicode_utf8_ValidString_L1_I (fun X c => unicode_utf8_ValidString_L1 N X c.1.1) N)
theorem Ev3_ok (N : Nat) (R : Type) : EnvOK Go.Proofs.Tryd.prog (Ev3 N R) := EnvOK.addLp (Ev2_ok N R) (by kernel_rfl) (lpK_ok (li := unicode_utf8_ValidString_L1_I) (G := fun X c => unicode_utf8_ValidString_L1 N X c.1.1) hmx (Ev2_ok N _) (by kernel_rfl) loopAt_sub (fun (X : CT unicode_utf8_ValidString_L1_I.sh → Option (OT unicode_utf8_ValidString_L1_I.outs)) (c : CT unicode_utf8_ValidString_L1_I.sh) => unicode_utf8_ValidString_L1_S N X c.1.1) N)
noncomputable def unicode_utf8_ValidString (N : Nat) (s0 : List UInt8) : Option (Bool) :=
 Option.bind (unicode_utf8_ValidString_L1_R N ((s0, @Unit.unit), @Unit.unit)) fun (v2 : (((Bool × Unit) × Unit) ⊕ (Unit × Unit))) =>
 Sum.elim
  (fun (v3 : ((Bool × Unit) × Unit)) =>
  some (v3.1.1))
  (fun (v3 : (Unit × Unit)) =>
  some (@Bool.true)) v2
theorem unicode_utf8_ValidString_S (N : Nat) (s0 : List UInt8) : (runK Go.Proofs.Tryd.prog (Ev3 N) 400 21 [.str] [.bool] (s0, ())).run = unicode_utf8_ValidString N s0 := by kernel_rfl
theorem unicode_utf8_ValidString_C (N : Nat) (s0 : List UInt8) (y : Bool) (h : unicode_utf8_ValidString N s0 = some y) : CallsK Go.Proofs.Tryd.prog 21 (valA [.str] (s0, ())) (tupV (valR [.bool] y)) := runK_ok hmx (Ev3_ok N _) (okFn_ok (by kernel_rfl)) (by rw [unicode_utf8_ValidString_S]; exact h)
noncomputable def Ev4 (N : Nat) : (R : Type) → Env R := Env.addFn (Ev3 N) 21 (fun R => fnK [.str] [.bool] (fun c => unicode_utf8_ValidString N c.1))
theorem Ev4_ok (N : Nat) (R : Type) : EnvOK Go.Proofs.Tryd.prog (Ev4 N R) := EnvOK.addFn hmx (Ev3_ok N R) (Ev3_ok N _) (by kernel_rfl) (fun c => unicode_utf8_ValidString_S N c.1)
noncomputable def unicode_utf8_RuneCountInString_L2_I : LI := ⟨10, 0, [], ⟨[(2, .ty (.int .i64)), (4, .lit (.box 0 0))], [.itr]⟩, [(.exit 0, ⟨[(2, .ty (.int .i64))], []⟩)]⟩
noncomputable def unicode_utf8_RuneCountInString_L2 (N : Nat) (X : (((Int) × Unit) × ((List UInt8) × ((Int) × Unit))) → Option ((((Int) × Unit) × Unit))) (n2 : Int) (h0 : List UInt8) (h1 : Int) : Option ((((Int) × Unit) × Unit)) :=
 bif (decide ((Int.toNat h1) < (List.length h0))) then
  (X (((Go.IntKind.wrap .i64 (n2 + (1 : Int))), @Unit.unit), (h0, (((((Int.toNat h1) : Nat) : Int) + (@rdec h0 h1).2), @Unit.unit))))
 else
  some (((n2, @Unit.unit), @Unit.unit))
noncomputable def unicode_utf8_RuneCountInString_L2_R (N : Nat) (c : (((Int) × Unit) × ((List UInt8) × ((Int) × Unit)))) : Option ((((Int) × Unit) × Unit)) := gl (fun X c => unicode_utf8_RuneCountInString_L2 N X c.1.1 c.2.1 c.2.2.1) N c
theorem unicode_utf8_RuneCountInString_L2_S (N : Nat) (X : (((Int) × Unit) × ((List UInt8) × ((Int) × Unit))) → Option ((((Int) × Unit) × Unit))) (n2 : Int) (h0 : List UInt8) (h1 : Int) : (roundK Go.Proofs.Tryd.prog (Ev4 N) 400 [22] unicode_utf8_RuneCountInString_L2_I (loopAt Go.Proofs.Tryd.prog [22] 2) X ((n2, ()), (h0, h1, ()))).run = unicode_utf8_RuneCountInString_L2 N X n2 h0 h1 := by kernel_rfl
noncomputable def Ev5 (N : Nat) : (R : Type) → Env R := Env.addLp (Ev4 N) [22] 0 2 (fun R => lpK Go.Proofs.Tryd.prog unicode_utf8_RuneCountInString_L2_I (fun X c => unicode_utf8_RuneCountInString_L2 N X c.1.1 c.2.1 c.2.2.1) N)
theorem Ev5_ok (N : Nat) (R : Type) : EnvOK Go.Proofs.Tryd.prog (Ev5 N R) := EnvOK.addLp (Ev4_ok N R) (by kernel_rfl) (lpK_ok (li := unicode_utf8_RuneCountInString_L2_I) (G := fun X c => unicode_utf8_RuneCountInString_L2 N X c.1.1 c.2.1 c.2.2.1) hmx (Ev4_ok N _) (by kernel_rfl) loopAt_sub (fun (X : CT unicode_utf8_RuneCountInString_L2_I.sh → Option (OT unicode_utf8_RuneCountInString_L2_I.outs)) (c : CT unicode_utf8_RuneCountInString_L2_I.sh) => unicode_utf8_RuneCountInString_L2_S N X c.1.1 c.2.1 c.2.2.1) N)
noncomputable def unicode_utf8_RuneCountInString (N : Nat) (s0 : List UInt8) : Option (Int) :=
 Option.bind (unicode_utf8_RuneCountInString_L2_R N (((0 : Int), @Unit.unit), (s0, ((0 : Int), @Unit.unit)))) fun (v2 : ((Int × Unit) × Unit)) =>
 some (v2.1.1)
theorem unicode_utf8_RuneCountInString_S (N : Nat) (s0 : List UInt8) : (runK Go.Proofs.Tryd.prog (Ev5 N) 400 22 [.str] [(.int .i64)] (s0, ())).run = unicode_utf8_RuneCountInString N s0 := by kernel_rfl
theorem unicode_utf8_RuneCountInString_C (N : Nat) (s0 : List UInt8) (y : Int) (h : unicode_utf8_RuneCountInString N s0 = some y) : CallsK Go.Proofs.Tryd.prog 22 (valA [.str] (s0, ())) (tupV (valR [(.int .i64)] y)) := runK_ok hmx (Ev5_ok N _) (okFn_ok (by kernel_rfl)) (by rw [unicode_utf8_RuneCountInString_S]; exact h)
noncomputable def Ev6 (N : Nat) : (R : Type) → Env R := Env.addFn (Ev5 N) 22 (fun R => fnK [.str] [(.int .i64)] (fun c => unicode_utf8_RuneCountInString N c.1))
theorem Ev6_ok (N : Nat) (R : Type) : EnvOK Go.Proofs.Tryd.prog (Ev6 N R) := EnvOK.addFn hmx (Ev5_ok N R) (Ev5_ok N _) (by kernel_rfl) (fun c => unicode_utf8_RuneCountInString_S N c.1)
noncomputable def utf16_Count (N : Nat) (s0 : List UInt8) : Option (Int) :=
 Option.bind (@unicode_utf8_ValidString N s0) fun (v2 : Bool) =>
 bif (!v2) then
  some ((0 : Int))
 else
  Option.bind (@unicode_utf8_RuneCountInString N s0) fun (v3 : Int) =>
  some (v3)
theorem utf16_Count_S (N : Nat) (s0 : List UInt8) : (runK Go.Proofs.Tryd.prog (Ev6 N) 400 12 [.str] [(.int .i64)] (s0, ())).run = utf16_Count N s0 := by kernel_rfl
theorem utf16_Count_C (N : Nat) (s0 : List UInt8) (y : Int) (h : utf16_Count N s0 = some y) : CallsK Go.Proofs.Tryd.prog 12 (valA [.str] (s0, ())) (tupV (valR [(.int .i64)] y)) := runK_ok hmx (Ev6_ok N _) (okFn_ok (by kernel_rfl)) (by rw [utf16_Count_S]; exact h)
noncomputable def Ev7 (N : Nat) : (R : Type) → Env R := Env.addFn (Ev6 N) 12 (fun R => fnK [.str] [(.int .i64)] (fun c => utf16_Count N c.1))
theorem Ev7_ok (N : Nat) (R : Type) : EnvOK Go.Proofs.Tryd.prog (Ev7 N R) := EnvOK.addFn hmx (Ev6_ok N R) (Ev6_ok N _) (by kernel_rfl) (fun c => utf16_Count_S N c.1)
noncomputable def utf16_May (N : Nat) (s0 : List UInt8) : Option (Int) :=
 Option.bind (@unicode_utf8_ValidString N s0) fun (v2 : Bool) =>
 bif (!v2) then
  some ((3 : Int))
 else
  Option.bind (@utf16_Count N s0) fun (v3 : Int) =>
  bif (decide ((64 : Int) < v3)) then
   some ((8 : Int))
  else
   some ((0 : Int))
theorem utf16_May_S (N : Nat) (s0 : List UInt8) : (runK Go.Proofs.Tryd.prog (Ev7 N) 400 14 [.str] [(.int .i64)] (s0, ())).run = utf16_May N s0 := by kernel_rfl
theorem utf16_May_C (N : Nat) (s0 : List UInt8) (y : Int) (h : utf16_May N s0 = some y) : CallsK Go.Proofs.Tryd.prog 14 (valA [.str] (s0, ())) (tupV (valR [(.int .i64)] y)) := runK_ok hmx (Ev7_ok N _) (okFn_ok (by kernel_rfl)) (by rw [utf16_May_S]; exact h)
noncomputable def Ev8 (N : Nat) : (R : Type) → Env R := Env.addFn (Ev7 N) 14 (fun R => fnK [.str] [(.int .i64)] (fun c => utf16_May N c.1))
theorem Ev8_ok (N : Nat) (R : Type) : EnvOK Go.Proofs.Tryd.prog (Ev8 N R) := EnvOK.addFn hmx (Ev7_ok N R) (Ev7_ok N _) (by kernel_rfl) (fun c => utf16_May_S N c.1)
noncomputable def Ev9 (N : Nat) : (R : Type) → Env R := Env.addMv (Ev8 N) [(9, 8), (9, 10)]
theorem Ev9_ok (N : Nat) (R : Type) : EnvOK Go.Proofs.Tryd.prog (Ev9 N R) := EnvOK.addMv (Ev8_ok N R) [(9, 8), (9, 10)]
noncomputable def utf16_Units_L5_I : LI := ⟨36, 0, [(3, 35)], ⟨[(3, .lit (.own 0)), (11, .lit (.box 1 0))], [.own (.int .u16) 35, .itr]⟩, [(.exit 0, ⟨[(3, .lit (.own 0))], [.own (.int .u16) 35]⟩)]⟩
noncomputable def utf16_Units_L5 (N : Nat) (X : (Unit × ((List (Int)) × ((List UInt8) × ((Int) × Unit)))) → Option ((Unit × ((List (Int)) × Unit)))) (h0 : List (Int)) (h1 : List UInt8) (h2 : Int) : Option ((Unit × ((List (Int)) × Unit))) :=
 bif (decide ((Int.toNat h2) < (List.length h1))) then
  bif (decide ((@rdec h1 h2).1 < (65536 : Int))) then
   bif (roomB ((List.length h0) + (List.length ([(Go.IntKind.wrap .u16 (@rdec h1 h2).1)] : List (Int)))) 2) then
    (X (@Unit.unit, ((h0 ++ ([(Go.IntKind.wrap .u16 (@rdec h1 h2).1)] : List (Int))), (h1, (((((Int.toNat h2) : Nat) : Int) + (@rdec h1 h2).2), @Unit.unit)))))
   else
    none
  else
   bif (roomB ((List.length h0) + (List.length ([(Go.IntKind.wrap .u16 (Go.IntKind.wrap .i32 ((55296 : Int) + (@Int.fdiv (Go.IntKind.wrap .i32 ((@rdec h1 h2).1 - (65536 : Int))) (@HPow.hPow Int Nat Int (@instHPow Int Nat (@instPowNat Int @Int.instNatPow)) (2 : Int) (@Min.min Nat @instMinNat (Int.toNat (10 : Int)) (@Go.IntKind.bits @Go.IntKind.i32))))))), (Go.IntKind.wrap .u16 (Go.IntKind.wrap .i32 ((56320 : Int) + (@Go.bits @Go.BinOp.and @Go.IntKind.i32 (Go.IntKind.wrap .i32 ((@rdec h1 h2).1 - (65536 : Int))) (1023 : Int)))))] : List (Int)))) 2) then
    (X (@Unit.unit, ((h0 ++ ([(Go.IntKind.wrap .u16 (Go.IntKind.wrap .i32 ((55296 : Int) + (@Int.fdiv (Go.IntKind.wrap .i32 ((@rdec h1 h2).1 - (65536 : Int))) (@HPow.hPow Int Nat Int (@instHPow Int Nat (@instPowNat Int @Int.instNatPow)) (2 : Int) (@Min.min Nat @instMinNat (Int.toNat (10 : Int)) (@Go.IntKind.bits @Go.IntKind.i32))))))), (Go.IntKind.wrap .u16 (Go.IntKind.wrap .i32 ((56320 : Int) + (@Go.bits @Go.BinOp.and @Go.IntKind.i32 (Go.IntKind.wrap .i32 ((@rdec h1 h2).1 - (65536 : Int))) (1023 : Int)))))] : List (Int))), (h1, (((((Int.toNat h2) : Nat) : Int) + (@rdec h1 h2).2), @Unit.unit)))))
   else
    none
 else
  some ((@Unit.unit, (h0, @Unit.unit)))
noncomputable def utf16_Units_L5_R (N : Nat) (c : (Unit × ((List (Int)) × ((List UInt8) × ((Int) × Unit))))) : Option ((Unit × ((List (Int)) × Unit))) := gl (fun X c => utf16_Units_L5 N X c.2.1 c.2.2.1 c.2.2.2.1) N c
theorem utf16_Units_L5_S (N : Nat) (X : (Unit × ((List (Int)) × ((List UInt8) × ((Int) × Unit)))) → Option ((Unit × ((List (Int)) × Unit)))) (h0 : List (Int)) (h1 : List UInt8) (h2 : Int) : (roundK Go.Proofs.Tryd.prog (Ev9 N) 400 [9] utf16_Units_L5_I (loopAt Go.Proofs.Tryd.prog [9] 5) X ((), (h0, h1, h2, ()))).run = utf16_Units_L5 N X h0 h1 h2 := by kernel_rfl
noncomputable def Ev10 (N : Nat) : (R : Type) → Env R := Env.addLp (Ev9 N) [9] 0 5 (fun R => lpK Go.Proofs.Tryd.prog utf16_Units_L5_I (fun X c => utf16_Units_L5 N X c.2.1 c.2.2.1 c.2.2.2.1) N)
theorem Ev10_ok (N : Nat) (R : Type) : EnvOK Go.Proofs.Tryd.prog (Ev10 N R) := EnvOK.addLp (Ev9_ok N R) (by kernel_rfl) (lpK_ok (li := utf16_Units_L5_I) (G := fun X c => utf16_Units_L5 N X c.2.1 c.2.2.1 c.2.2.2.1) hmx (Ev9_ok N _) (by kernel_rfl) loopAt_sub (fun (X : CT utf16_Units_L5_I.sh → Option (OT utf16_Units_L5_I.outs)) (c : CT utf16_Units_L5_I.sh) => utf16_Units_L5_S N X c.2.1 c.2.2.1 c.2.2.2.1) N)
noncomputable def utf16_Units (N : Nat) (s0 : List UInt8) : Option (List (Int)) :=
 Option.bind (@utf16_May N s0) fun (v2 : Int) =>
 bif (!(decide (v2 = (0 : Int)))) then
  some (([] : List (Int)))
 else
  Option.bind (utf16_Units_L5_R N (@Unit.unit, (([] : List (Int)), (s0, ((0 : Int), @Unit.unit))))) fun (v3 : (Unit × ((List Int) × Unit))) =>
  some (v3.2.1)
theorem utf16_Units_S (N : Nat) (s0 : List UInt8) : (runK Go.Proofs.Tryd.prog (Ev10 N) 400 9 [.str] [(.sl (.int .u16))] (s0, ())).run = utf16_Units N s0 := by kernel_rfl
theorem utf16_Units_C (N : Nat) (s0 : List UInt8) (y : List (Int)) (h : utf16_Units N s0 = some y) : CallsK Go.Proofs.Tryd.prog 9 (valA [.str] (s0, ())) (tupV (valR [(.sl (.int .u16))] y)) := runK_ok hmx (Ev10_ok N _) (okFn_ok (by kernel_rfl)) (by rw [utf16_Units_S]; exact h)
noncomputable def Ev11 (N : Nat) : (R : Type) → Env R := Env.addFn (Ev10 N) 9 (fun R => fnK [.str] [(.sl (.int .u16))] (fun c => utf16_Units N c.1))
theorem Ev11_ok (N : Nat) (R : Type) : EnvOK Go.Proofs.Tryd.prog (Ev11 N R) := EnvOK.addFn hmx (Ev10_ok N R) (Ev10_ok N _) (by kernel_rfl) (fun c => utf16_Units_S N c.1)
noncomputable def octs_place (N : Nat) (i0 : Int) (width1 : Int) (little2 : Bool) : Option (Int) :=
 bif little2 then
  some (i0)
 else
  some ((Go.IntKind.wrap .i64 ((Go.IntKind.wrap .i64 (width1 - (1 : Int))) - i0)))
theorem octs_place_S (N : Nat) (i0 : Int) (width1 : Int) (little2 : Bool) : (runK Go.Proofs.Tryd.prog (Ev11 N) 400 27 [(.int .i64), (.int .i64), .bool] [(.int .i64)] (i0, width1, little2, ())).run = octs_place N i0 width1 little2 := by kernel_rfl
noncomputable def Ev12 (N : Nat) : (R : Type) → Env R := Env.addFn (Ev11 N) 27 (fun R => fnK [(.int .i64), (.int .i64), .bool] [(.int .i64)] (fun c => octs_place N c.1 c.2.1 c.2.2.1))
theorem Ev12_ok (N : Nat) (R : Type) : EnvOK Go.Proofs.Tryd.prog (Ev12 N R) := EnvOK.addFn hmx (Ev11_ok N R) (Ev11_ok N _) (by kernel_rfl) (fun c => octs_place_S N c.1 c.2.1 c.2.2.1)
noncomputable def octs_Put_L5_I : LI := ⟨35, 0, [], ⟨[(0, .ty (.int .u64)), (1, .ty (.int .i64)), (2, .ty .bool), (8, .lit (.own 0)), (19, .ty (.int .i64)), (20, .ty (.int .i64))], [.own (.int .u8) 5]⟩, [(.exit 0, ⟨[(8, .lit (.own 0))], [.own (.int .u8) 5]⟩)]⟩
noncomputable def octs_Put_L5 (N : Nat) (X : (((Int) × ((Int) × ((Bool) × ((Int) × ((Int) × Unit))))) × ((List (Int)) × Unit)) → Option ((Unit × ((List (Int)) × Unit)))) (n0 : Int) (width1 : Int) (little2 : Bool) (x19 : Int) (x20 : Int) (h0 : List (Int)) : Option ((Unit × ((List (Int)) × Unit))) :=
 bif (decide (x20 < x19)) then
  Option.bind (@octs_place N x20 width1 little2) fun (v8 : Int) =>
  bif (decide ((0 : Int) ≤ v8 ∧ v8 < (((List.length h0) : Nat) : Int))) then
   Option.bind (@GetElem?.getElem? (List Int) Nat Int (fun (as9 : (List Int)) => (fun (i10 : Nat) => (@LT.lt Nat @instLTNat i10 (List.length as9)))) (@List.instGetElem?NatLtLength Int) h0 (Int.toNat v8)) fun (v9 : Int) =>
   (X (((@Int.fdiv n0 (@HPow.hPow Int Nat Int (@instHPow Int Nat (@instPowNat Int @Int.instNatPow)) (2 : Int) (@Min.min Nat @instMinNat (Int.toNat (8 : Int)) (@Go.IntKind.bits @Go.IntKind.u64)))), (width1, (little2, (x19, ((Go.IntKind.wrap .i64 (x20 + (1 : Int))), @Unit.unit))))), ((@List.set Int h0 (Int.toNat v8) (Go.IntKind.wrap .u8 n0)), @Unit.unit)))
  else
   none
 else
  some ((@Unit.unit, (h0, @Unit.unit)))
noncomputable def octs_Put_L5_R (N : Nat) (c : (((Int) × ((Int) × ((Bool) × ((Int) × ((Int) × Unit))))) × ((List (Int)) × Unit))) : Option ((Unit × ((List (Int)) × Unit))) := gl (fun X c => octs_Put_L5 N X c.1.1 c.1.2.1 c.1.2.2.1 c.1.2.2.2.1 c.1.2.2.2.2.1 c.2.1) N c
theorem octs_Put_L5_S (N : Nat) (X : (((Int) × ((Int) × ((Bool) × ((Int) × ((Int) × Unit))))) × ((List (Int)) × Unit)) → Option ((Unit × ((List (Int)) × Unit)))) (n0 : Int) (width1 : Int) (little2 : Bool) (x19 : Int) (x20 : Int) (h0 : List (Int)) : (roundK Go.Proofs.Tryd.prog (Ev12 N) 400 [19] octs_Put_L5_I (loopAt Go.Proofs.Tryd.prog [19] 5) X ((n0, width1, little2, x19, x20, ()), (h0, ()))).run = octs_Put_L5 N X n0 width1 little2 x19 x20 h0 := by kernel_rfl
noncomputable def Ev13 (N : Nat) : (R : Type) → Env R := Env.addLp (Ev12 N) [19] 0 5 (fun R => lpK Go.Proofs.Tryd.prog octs_Put_L5_I (fun X c => octs_Put_L5 N X c.1.1 c.1.2.1 c.1.2.2.1 c.1.2.2.2.1 c.1.2.2.2.2.1 c.2.1) N)
theorem Ev13_ok (N : Nat) (R : Type) : EnvOK Go.Proofs.Tryd.prog (Ev13 N R) := EnvOK.addLp (Ev12_ok N R) (by kernel_rfl) (lpK_ok (li := octs_Put_L5_I) (G := fun X c => octs_Put_L5 N X c.1.1 c.1.2.1 c.1.2.2.1 c.1.2.2.2.1 c.1.2.2.2.2.1 c.2.1) hmx (Ev12_ok N _) (by kernel_rfl) loopAt_sub (fun (X : CT octs_Put_L5_I.sh → Option (OT octs_Put_L5_I.outs)) (c : CT octs_Put_L5_I.sh) => octs_Put_L5_S N X c.1.1 c.1.2.1 c.1.2.2.1 c.1.2.2.2.1 c.1.2.2.2.2.1 c.2.1) N)
noncomputable def octs_Put (N : Nat) (n0 : Int) (width1 : Int) (little2 : Bool) : Option ((List (Int)) × Int) :=
 bif (decide (width1 < (1 : Int))) then
  some ((([] : List (Int)), (1 : Int)))
 else
  bif (@cond Bool @Bool.false @Bool.true (decide ((8 : Int) < width1))) then
   some ((([] : List (Int)), (1 : Int)))
  else
   bif ((decide ((0 : Int) ≤ width1 ∧ width1 ≤ width1)) && (roomB (Int.toNat width1) 1)) then
    Option.bind (octs_Put_L5_R N ((n0, (width1, (little2, ((((List.length (@List.replicate Int (Int.toNat width1) (0 : Int))) : Nat) : Int), ((0 : Int), @Unit.unit))))), ((@List.replicate Int (Int.toNat width1) (0 : Int)), @Unit.unit))) fun (v4 : (Unit × ((List Int) × Unit))) =>
    some ((v4.2.1, (0 : Int)))
   else
    none
theorem octs_Put_S (N : Nat) (n0 : Int) (width1 : Int) (little2 : Bool) : (runK Go.Proofs.Tryd.prog (Ev13 N) 400 19 [(.int .u64), (.int .i64), .bool] [(.sl (.int .u8)), (.int .i64)] (n0, width1, little2, ())).run = octs_Put N n0 width1 little2 := by kernel_rfl
noncomputable def Ev14 (N : Nat) : (R : Type) → Env R := Env.addFn (Ev13 N) 19 (fun R => fnK [(.int .u64), (.int .i64), .bool] [(.sl (.int .u8)), (.int .i64)] (fun c => octs_Put N c.1 c.2.1 c.2.2.1))
theorem Ev14_ok (N : Nat) (R : Type) : EnvOK Go.Proofs.Tryd.prog (Ev14 N R) := EnvOK.addFn hmx (Ev13_ok N R) (Ev13_ok N _) (by kernel_rfl) (fun c => octs_Put_S N c.1 c.2.1 c.2.2.1)
noncomputable def utf16_Lay_L6_I : LI := ⟨33, 0, [(5, 5)], ⟨[(5, .lit (.own 0)), (16, .ty (.sl (.int .u16))), (17, .ty (.int .i64)), (18, .ty (.int .i64))], [.own (.int .u8) 5]⟩, [(.exit 0, ⟨[(5, .lit (.own 0))], [.own (.int .u8) 5]⟩)]⟩
noncomputable def utf16_Lay_L6 (N : Nat) (X : (((List (Int)) × ((Int) × ((Int) × Unit))) × ((List (Int)) × Unit)) → Option ((Unit × ((List (Int)) × Unit)))) (x16 : List (Int)) (x17 : Int) (x18 : Int) (h0 : List (Int)) : Option ((Unit × ((List (Int)) × Unit))) :=
 bif (decide (x18 < x17)) then
  Option.bind (getI x16 x18) fun (v6 : Int) =>
  Option.bind (@octs_Put N (Go.IntKind.wrap .u64 v6) (2 : Int) @Bool.true) fun (v7 : ((List Int) × Int)) =>
  bif (roomB ((List.length h0) + (List.length v7.1)) 1) then
   (X ((x16, (x17, ((Go.IntKind.wrap .i64 (x18 + (1 : Int))), @Unit.unit))), ((h0 ++ v7.1), @Unit.unit)))
  else
   none
 else
  some ((@Unit.unit, (h0, @Unit.unit)))
noncomputable def utf16_Lay_L6_R (N : Nat) (c : (((List (Int)) × ((Int) × ((Int) × Unit))) × ((List (Int)) × Unit))) : Option ((Unit × ((List (Int)) × Unit))) := gl (fun X c => utf16_Lay_L6 N X c.1.1 c.1.2.1 c.1.2.2.1 c.2.1) N c
theorem utf16_Lay_L6_S (N : Nat) (X : (((List (Int)) × ((Int) × ((Int) × Unit))) × ((List (Int)) × Unit)) → Option ((Unit × ((List (Int)) × Unit)))) (x16 : List (Int)) (x17 : Int) (x18 : Int) (h0 : List (Int)) : (roundK Go.Proofs.Tryd.prog (Ev14 N) 400 [7] utf16_Lay_L6_I (loopAt Go.Proofs.Tryd.prog [7] 6) X ((x16, x17, x18, ()), (h0, ()))).run = utf16_Lay_L6 N X x16 x17 x18 h0 := by kernel_rfl
noncomputable def Ev15 (N : Nat) : (R : Type) → Env R := Env.addLp (Ev14 N) [7] 0 6 (fun R => lpK Go.Proofs.Tryd.prog utf16_Lay_L6_I (fun X c => utf16_Lay_L6 N X c.1.1 c.1.2.1 c.1.2.2.1 c.2.1) N)
theorem Ev15_ok (N : Nat) (R : Type) : EnvOK Go.Proofs.Tryd.prog (Ev15 N R) := EnvOK.addLp (Ev14_ok N R) (by kernel_rfl) (lpK_ok (li := utf16_Lay_L6_I) (G := fun X c => utf16_Lay_L6 N X c.1.1 c.1.2.1 c.1.2.2.1 c.2.1) hmx (Ev14_ok N _) (by kernel_rfl) loopAt_sub (fun (X : CT utf16_Lay_L6_I.sh → Option (OT utf16_Lay_L6_I.outs)) (c : CT utf16_Lay_L6_I.sh) => utf16_Lay_L6_S N X c.1.1 c.1.2.1 c.1.2.2.1 c.2.1) N)
noncomputable def utf16_Lay (N : Nat) (s0 : List UInt8) : Option ((List (Int)) × Int) :=
 Option.bind (@utf16_May N s0) fun (v2 : Int) =>
 bif (!(decide (v2 = (0 : Int)))) then
  some ((([] : List (Int)), v2))
 else
  Option.bind (@utf16_Units N s0) fun (v3 : (List Int)) =>
  Option.bind (utf16_Lay_L6_R N ((v3, ((((List.length v3) : Nat) : Int), ((0 : Int), @Unit.unit))), (([] : List (Int)), @Unit.unit))) fun (v4 : (Unit × ((List Int) × Unit))) =>
  some ((v4.2.1, (0 : Int)))
theorem utf16_Lay_S (N : Nat) (s0 : List UInt8) : (runK Go.Proofs.Tryd.prog (Ev15 N) 400 7 [.str] [(.sl (.int .u8)), (.int .i64)] (s0, ())).run = utf16_Lay N s0 := by kernel_rfl
theorem utf16_Lay_C (N : Nat) (s0 : List UInt8) (y : (List (Int)) × Int) (h : utf16_Lay N s0 = some y) : CallsK Go.Proofs.Tryd.prog 7 (valA [.str] (s0, ())) (tupV (valR [(.sl (.int .u8)), (.int .i64)] y)) := runK_ok hmx (Ev15_ok N _) (okFn_ok (by kernel_rfl)) (by rw [utf16_Lay_S]; exact h)
noncomputable def Ev16 (N : Nat) : (R : Type) → Env R := Env.addFn (Ev15 N) 7 (fun R => fnK [.str] [(.sl (.int .u8)), (.int .i64)] (fun c => utf16_Lay N c.1))
theorem Ev16_ok (N : Nat) (R : Type) : EnvOK Go.Proofs.Tryd.prog (Ev16 N R) := EnvOK.addFn hmx (Ev15_ok N R) (Ev15_ok N _) (by kernel_rfl) (fun c => utf16_Lay_S N c.1)
noncomputable def bytealg_LastIndexByteString_L2_I : LI := ⟨19, 0, [], ⟨[(0, .ty .str), (1, .ty (.int .u8)), (5, .ty (.int .i64))], []⟩, [(.ret, ⟨[(4, .ty (.int .i64))], []⟩), (.exit 0, ⟨[], []⟩)]⟩
noncomputable def bytealg_LastIndexByteString_L2 (N : Nat) (X : (((List UInt8) × ((Int) × ((Int) × Unit))) × Unit) → Option (((((Int) × Unit) × Unit) ⊕ (Unit × Unit)))) (s0 : List UInt8) (c1 : Int) (i5 : Int) : Option (((((Int) × Unit) × Unit) ⊕ (Unit × Unit))) :=
 bif (decide ((0 : Int) ≤ i5)) then
  Option.bind (getI s0 i5) fun (v5 : UInt8) =>
  bif (decide ((((@UInt8.toNat v5) : Nat) : Int) = c1)) then
   some ((.inl ((i5, @Unit.unit), @Unit.unit)))
  else
   (X ((s0, (c1, ((Go.IntKind.wrap .i64 (i5 - (1 : Int))), @Unit.unit))), @Unit.unit))
 else
  some ((.inr (@Unit.unit, @Unit.unit)))
noncomputable def bytealg_LastIndexByteString_L2_R (N : Nat) (c : (((List UInt8) × ((Int) × ((Int) × Unit))) × Unit)) : Option (((((Int) × Unit) × Unit) ⊕ (Unit × Unit))) := gl (fun X c => bytealg_LastIndexByteString_L2 N X c.1.1 c.1.2.1 c.1.2.2.1) N c
theorem bytealg_LastIndexByteString_L2_S (N : Nat) (X : (((List UInt8) × ((Int) × ((Int) × Unit))) × Unit) → Option (((((Int) × Unit) × Unit) ⊕ (Unit × Unit)))) (s0 : List UInt8) (c1 : Int) (i5 : Int) : (roundK Go.Proofs.Tryd.prog (Ev16 N) 400 [33] bytealg_LastIndexByteString_L2_I (loopAt Go.Proofs.Tryd.prog [33] 2) X ((s0, c1, i5, ()), ())).run = bytealg_LastIndexByteString_L2 N X s0 c1 i5 := by kernel_rfl
noncomputable def Ev17 (N : Nat) : (R : Type) → Env R := Env.addLp (Ev16 N) [33] 0 2 (fun R => lpK Go.Proofs.Tryd.prog bytealg_LastIndexByteString_L2_I (fun X c => bytealg_LastIndexByteString_L2 N X c.1.1 c.1.2.1 c.1.2.2.1) N)
theorem Ev17_ok (N : Nat) (R : Type) : EnvOK Go.Proofs.Tryd.prog (Ev17 N R) := EnvOK.addLp (Ev16_ok N R) (by kernel_rfl) (lpK_ok (li := bytealg_LastIndexByteString_L2_I) (G := fun X c => bytealg_LastIndexByteString_L2 N X c.1.1 c.1.2.1 c.1.2.2.1) hmx (Ev16_ok N _) (by kernel_rfl) loopAt_sub (fun (X : CT bytealg_LastIndexByteString_L2_I.sh → Option (OT bytealg_LastIndexByteString_L2_I.outs)) (c : CT bytealg_LastIndexByteString_L2_I.sh) => bytealg_LastIndexByteString_L2_S N X c.1.1 c.1.2.1 c.1.2.2.1) N)
noncomputable def bytealg_LastIndexByteString (N : Nat) (s0 : List UInt8) (c1 : Int) : Option (Int) :=
 Option.bind (bytealg_LastIndexByteString_L2_R N ((s0, (c1, ((Go.IntKind.wrap .i64 ((((List.length s0) : Nat) : Int) - (1 : Int))), @Unit.unit))), @Unit.unit)) fun (v3 : (((Int × Unit) × Unit) ⊕ (Unit × Unit))) =>
 Sum.elim
  (fun (v4 : ((Int × Unit) × Unit)) =>
  some (v4.1.1))
  (fun (v4 : (Unit × Unit)) =>
  some ((-1 : Int))) v3
theorem bytealg_LastIndexByteString_S (N : Nat) (s0 : List UInt8) (c1 : Int) : (runK Go.Proofs.Tryd.prog (Ev17 N) 400 33 [.str, (.int .u8)] [(.int .i64)] (s0, c1, ())).run = bytealg_LastIndexByteString N s0 c1 := by kernel_rfl
noncomputable def Ev18 (N : Nat) : (R : Type) → Env R := Env.addFn (Ev17 N) 33 (fun R => fnK [.str, (.int .u8)] [(.int .i64)] (fun c => bytealg_LastIndexByteString N c.1 c.2.1))
theorem Ev18_ok (N : Nat) (R : Type) : EnvOK Go.Proofs.Tryd.prog (Ev18 N R) := EnvOK.addFn hmx (Ev17_ok N R) (Ev17_ok N _) (by kernel_rfl) (fun c => bytealg_LastIndexByteString_S N c.1 c.2.1)
noncomputable def strings_LastIndexByte (N : Nat) (s0 : List UInt8) (c1 : Int) : Option (Int) :=
 Option.bind (@bytealg_LastIndexByteString N s0 c1) fun (v3 : Int) =>
 some (v3)
theorem strings_LastIndexByte_S (N : Nat) (s0 : List UInt8) (c1 : Int) : (runK Go.Proofs.Tryd.prog (Ev18 N) 400 26 [.str, (.int .u8)] [(.int .i64)] (s0, c1, ())).run = strings_LastIndexByte N s0 c1 := by kernel_rfl
noncomputable def Ev19 (N : Nat) : (R : Type) → Env R := Env.addFn (Ev18 N) 26 (fun R => fnK [.str, (.int .u8)] [(.int .i64)] (fun c => strings_LastIndexByte N c.1 c.2.1))
theorem Ev19_ok (N : Nat) (R : Type) : EnvOK Go.Proofs.Tryd.prog (Ev19 N R) := EnvOK.addFn hmx (Ev18_ok N R) (Ev18_ok N _) (by kernel_rfl) (fun c => strings_LastIndexByte_S N c.1 c.2.1)
noncomputable def utf16_Bare (N : Nat) (name0 : List UInt8) : Option (List UInt8) :=
 Option.bind (@strings_LastIndexByte N name0 (92 : Int)) fun (v2 : Int) =>
 Option.bind (dropI name0 (Go.IntKind.wrap .i64 (v2 + (1 : Int)))) fun (v3 : (List UInt8)) =>
 some (v3)
theorem utf16_Bare_S (N : Nat) (name0 : List UInt8) : (runK Go.Proofs.Tryd.prog (Ev19 N) 400 17 [.str] [.str] (name0, ())).run = utf16_Bare N name0 := by kernel_rfl
theorem utf16_Bare_C (N : Nat) (name0 : List UInt8) (y : List UInt8) (h : utf16_Bare N name0 = some y) : CallsK Go.Proofs.Tryd.prog 17 (valA [.str] (name0, ())) (tupV (valR [.str] y)) := runK_ok hmx (Ev19_ok N _) (okFn_ok (by kernel_rfl)) (by rw [utf16_Bare_S]; exact h)
noncomputable def Ev20 (N : Nat) : (R : Type) → Env R := Env.addFn (Ev19 N) 17 (fun R => fnK [.str] [.str] (fun c => utf16_Bare N c.1))
theorem Ev20_ok (N : Nat) (R : Type) : EnvOK Go.Proofs.Tryd.prog (Ev20 N R) := EnvOK.addFn hmx (Ev19_ok N R) (Ev19_ok N _) (by kernel_rfl) (fun c => utf16_Bare_S N c.1)
noncomputable def utf16_Ascii_L2_I : LI := ⟨19, 0, [], ⟨[(6, .ty (.sl (.int .u8))), (7, .ty (.int .i64)), (8, .ty (.int .i64))], []⟩, [(.ret, ⟨[(2, .ty .bool)], []⟩), (.exit 0, ⟨[], []⟩)]⟩
noncomputable def utf16_Ascii_L2 (N : Nat) (X : (((List (Int)) × ((Int) × ((Int) × Unit))) × Unit) → Option (((((Bool) × Unit) × Unit) ⊕ (Unit × Unit)))) (x6 : List (Int)) (x7 : Int) (x8 : Int) : Option (((((Bool) × Unit) × Unit) ⊕ (Unit × Unit))) :=
 bif (decide (x8 < x7)) then
  Option.bind (getI x6 x8) fun (v5 : Int) =>
  bif (decide (v5 < (32 : Int))) then
   some ((.inl ((@Bool.false, @Unit.unit), @Unit.unit)))
  else
   bif (@cond Bool @Bool.false @Bool.true (decide ((126 : Int) < v5))) then
    some ((.inl ((@Bool.false, @Unit.unit), @Unit.unit)))
   else
    (X ((x6, (x7, ((Go.IntKind.wrap .i64 (x8 + (1 : Int))), @Unit.unit))), @Unit.unit))
 else
  some ((.inr (@Unit.unit, @Unit.unit)))
noncomputable def utf16_Ascii_L2_R (N : Nat) (c : (((List (Int)) × ((Int) × ((Int) × Unit))) × Unit)) : Option (((((Bool) × Unit) × Unit) ⊕ (Unit × Unit))) := gl (fun X c => utf16_Ascii_L2 N X c.1.1 c.1.2.1 c.1.2.2.1) N c
theorem utf16_Ascii_L2_S (N : Nat) (X : (((List (Int)) × ((Int) × ((Int) × Unit))) × Unit) → Option (((((Bool) × Unit) × Unit) ⊕ (Unit × Unit)))) (x6 : List (Int)) (x7 : Int) (x8 : Int) : (roundK Go.Proofs.Tryd.prog (Ev20 N) 400 [18] utf16_Ascii_L2_I (loopAt Go.Proofs.Tryd.prog [18] 2) X ((x6, x7, x8, ()), ())).run = utf16_Ascii_L2 N X x6 x7 x8 := by kernel_rfl
noncomputable def Ev21 (N : Nat) : (R : Type) → Env R := Env.addLp (Ev20 N) [18] 0 2 (fun R => lpK Go.Proofs.Tryd.prog utf16_Ascii_L2_I (fun X c => utf16_Ascii_L2 N X c.1.1 c.1.2.1 c.1.2.2.1) N)
theorem Ev21_ok (N : Nat) (R : Type) : EnvOK Go.Proofs.Tryd.prog (Ev21 N R) := EnvOK.addLp (Ev20_ok N R) (by kernel_rfl) (lpK_ok (li := utf16_Ascii_L2_I) (G := fun X c => utf16_Ascii_L2 N X c.1.1 c.1.2.1 c.1.2.2.1) hmx (Ev20_ok N _) (by kernel_rfl) loopAt_sub (fun (X : CT utf16_Ascii_L2_I.sh → Option (OT utf16_Ascii_L2_I.outs)) (c : CT utf16_Ascii_L2_I.sh) => utf16_Ascii_L2_S N X c.1.1 c.1.2.1 c.1.2.2.1) N)
noncomputable def utf16_Ascii (N : Nat) (s0 : List UInt8) : Option (Bool) :=
 bif (roomB (List.length s0) 1) then
  Option.bind (utf16_Ascii_L2_R N (((@ofB s0), ((((List.length (@ofB s0)) : Nat) : Int), ((0 : Int), @Unit.unit))), @Unit.unit)) fun (v2 : (((Bool × Unit) × Unit) ⊕ (Unit × Unit))) =>
  Sum.elim
   (fun (v3 : ((Bool × Unit) × Unit)) =>
   some (v3.1.1))
   (fun (v3 : (Unit × Unit)) =>
   some (@Bool.true)) v2
 else
  none
theorem utf16_Ascii_S (N : Nat) (s0 : List UInt8) : (runK Go.Proofs.Tryd.prog (Ev21 N) 400 18 [.str] [.bool] (s0, ())).run = utf16_Ascii N s0 := by kernel_rfl
theorem utf16_Ascii_C (N : Nat) (s0 : List UInt8) (y : Bool) (h : utf16_Ascii N s0 = some y) : CallsK Go.Proofs.Tryd.prog 18 (valA [.str] (s0, ())) (tupV (valR [.bool] y)) := runK_ok hmx (Ev21_ok N _) (okFn_ok (by kernel_rfl)) (by rw [utf16_Ascii_S]; exact h)
noncomputable def Ev22 (N : Nat) : (R : Type) → Env R := Env.addFn (Ev21 N) 18 (fun R => fnK [.str] [.bool] (fun c => utf16_Ascii N c.1))
theorem Ev22_ok (N : Nat) (R : Type) : EnvOK Go.Proofs.Tryd.prog (Ev22 N R) := EnvOK.addFn hmx (Ev21_ok N R) (Ev21_ok N _) (by kernel_rfl) (fun c => utf16_Ascii_S N c.1)
noncomputable def Ev23 (N : Nat) : (R : Type) → Env R := Env.addFn (Ev22 N) 16 (fun R => parK)
theorem Ev23_ok (N : Nat) (R : Type) : EnvOK Go.Proofs.Tryd.prog (Ev23 N R) := EnvOK.addExt (Ev22_ok N R) par_ok
noncomputable def Ev24 (N : Nat) : (R : Type) → Env R := Env.addMv (Ev23 N) [(11, 7)]
theorem Ev24_ok (N : Nat) (R : Type) : EnvOK Go.Proofs.Tryd.prog (Ev24 N R) := EnvOK.addMv (Ev23_ok N R) [(11, 7)]
noncomputable def ref09_more (N : Nat) (s0 : List UInt8) (i1 : Int) : Option ((Int) × Bool) :=
 bif (decide ((((List.length s0) : Nat) : Int) ≤ i1)) then
  some (((0 : Int), @Bool.false))
 else
  Option.bind (getI s0 i1) fun (v3 : UInt8) =>
  bif (@cond Bool @Bool.false @Bool.true (decide ((((@UInt8.toNat v3) : Nat) : Int) < (128 : Int)))) then
   some (((0 : Int), @Bool.false))
  else
   Option.bind (getI s0 i1) fun (v4 : UInt8) =>
   bif (@cond Bool @Bool.false @Bool.true (decide ((191 : Int) < (((@UInt8.toNat v4) : Nat) : Int)))) then
    some (((0 : Int), @Bool.false))
   else
    Option.bind (getI s0 i1) fun (v5 : UInt8) =>
    some (((Go.IntKind.wrap .i64 ((Go.IntKind.wrap .i64 (((@UInt8.toNat v5) : Nat) : Int)) - (128 : Int))), @Bool.true))
theorem ref09_more_S (N : Nat) (s0 : List UInt8) (i1 : Int) : (runK Go.Proofs.Tryd.prog (Ev24 N) 400 28 [.str, (.int .i64)] [(.int .i64), .bool] (s0, i1, ())).run = ref09_more N s0 i1 := by kernel_rfl
noncomputable def Ev25 (N : Nat) : (R : Type) → Env R := Env.addFn (Ev24 N) 28 (fun R => fnK [.str, (.int .i64)] [(.int .i64), .bool] (fun c => ref09_more N c.1 c.2.1))
theorem Ev25_ok (N : Nat) (R : Type) : EnvOK Go.Proofs.Tryd.prog (Ev25 N R) := EnvOK.addFn hmx (Ev24_ok N R) (Ev24_ok N _) (by kernel_rfl) (fun c => ref09_more_S N c.1 c.2.1)
noncomputable def ref09_sign_L13_I : LI := ⟨85, 0, [], ⟨[(0, .ty .str), (1, .ty (.int .i64)), (7, .ty (.int .i64)), (8, .ty (.int .i64)), (9, .ty (.int .i64)), (10, .ty (.int .i64))], []⟩, [(.ret, ⟨[(4, .ty (.int .i64)), (5, .ty (.int .i64))], []⟩), (.exit 1, ⟨[(7, .ty (.int .i64)), (8, .ty (.int .i64)), (9, .ty (.int .i64))], []⟩)]⟩
noncomputable def ref09_sign_L13 (N : Nat) (X : (((List UInt8) × ((Int) × ((Int) × ((Int) × ((Int) × ((Int) × Unit)))))) × Unit) → Option (((((Int) × ((Int) × Unit)) × Unit) ⊕ (((Int) × ((Int) × ((Int) × Unit))) × Unit)))) (s0 : List UInt8) (i1 : Int) (need7 : Int) (n8 : Int) (least9 : Int) (k10 : Int) : Option (((((Int) × ((Int) × Unit)) × Unit) ⊕ (((Int) × ((Int) × ((Int) × Unit))) × Unit))) :=
 bif (decide (k10 ≤ need7)) then
  Option.bind (@ref09_more N s0 (Go.IntKind.wrap .i64 (i1 + k10))) fun (v8 : (Int × Bool)) =>
  bif (!v8.2) then
   some ((.inl (((0 : Int), ((0 : Int), @Unit.unit)), @Unit.unit)))
  else
   (X ((s0, (i1, (need7, ((Go.IntKind.wrap .i64 ((Go.IntKind.wrap .i64 ((64 : Int) * n8)) + v8.1)), (least9, ((Go.IntKind.wrap .i64 (k10 + (1 : Int))), @Unit.unit)))))), @Unit.unit))
 else
  some ((.inr ((need7, (n8, (least9, @Unit.unit))), @Unit.unit)))
noncomputable def ref09_sign_L13_R (N : Nat) (c : (((List UInt8) × ((Int) × ((Int) × ((Int) × ((Int) × ((Int) × Unit)))))) × Unit)) : Option (((((Int) × ((Int) × Unit)) × Unit) ⊕ (((Int) × ((Int) × ((Int) × Unit))) × Unit))) := gl (fun X c => ref09_sign_L13 N X c.1.1 c.1.2.1 c.1.2.2.1 c.1.2.2.2.1 c.1.2.2.2.2.1 c.1.2.2.2.2.2.1) N c
theorem ref09_sign_L13_S (N : Nat) (X : (((List UInt8) × ((Int) × ((Int) × ((Int) × ((Int) × ((Int) × Unit)))))) × Unit) → Option (((((Int) × ((Int) × Unit)) × Unit) ⊕ (((Int) × ((Int) × ((Int) × Unit))) × Unit)))) (s0 : List UInt8) (i1 : Int) (need7 : Int) (n8 : Int) (least9 : Int) (k10 : Int) : (roundK Go.Proofs.Tryd.prog (Ev25 N) 400 [20] ref09_sign_L13_I (loopAt Go.Proofs.Tryd.prog [20] 13) X ((s0, i1, need7, n8, least9, k10, ()), ())).run = ref09_sign_L13 N X s0 i1 need7 n8 least9 k10 := by kernel_rfl
noncomputable def Ev26 (N : Nat) : (R : Type) → Env R := Env.addLp (Ev25 N) [20] 0 13 (fun R => lpK Go.Proofs.Tryd.prog ref09_sign_L13_I (fun X c => ref09_sign_L13 N X c.1.1 c.1.2.1 c.1.2.2.1 c.1.2.2.2.1 c.1.2.2.2.2.1 c.1.2.2.2.2.2.1) N)
theorem Ev26_ok (N : Nat) (R : Type) : EnvOK Go.Proofs.Tryd.prog (Ev26 N R) := EnvOK.addLp (Ev25_ok N R) (by kernel_rfl) (lpK_ok (li := ref09_sign_L13_I) (G := fun X c => ref09_sign_L13 N X c.1.1 c.1.2.1 c.1.2.2.1 c.1.2.2.2.1 c.1.2.2.2.2.1 c.1.2.2.2.2.2.1) hmx (Ev25_ok N _) (by kernel_rfl) loopAt_sub (fun (X : CT ref09_sign_L13_I.sh → Option (OT ref09_sign_L13_I.outs)) (c : CT ref09_sign_L13_I.sh) => ref09_sign_L13_S N X c.1.1 c.1.2.1 c.1.2.2.1 c.1.2.2.2.1 c.1.2.2.2.2.1 c.1.2.2.2.2.2.1) N)
noncomputable def ref09_sign (N : Nat) (s0 : List UInt8) (i1 : Int) : Option ((Int) × Int) :=
 Option.bind (getI s0 i1) fun (v3 : UInt8) =>
 bif (decide ((Go.IntKind.wrap .i64 (((@UInt8.toNat v3) : Nat) : Int)) < (128 : Int))) then
  some (((Go.IntKind.wrap .i64 (((@UInt8.toNat v3) : Nat) : Int)), (1 : Int)))
 else
  bif (decide ((192 : Int) ≤ (Go.IntKind.wrap .i64 (((@UInt8.toNat v3) : Nat) : Int)))) then
   bif (@cond Bool @Bool.true (decide ((Go.IntKind.wrap .i64 (((@UInt8.toNat v3) : Nat) : Int)) < (224 : Int))) @Bool.false) then
    Option.bind (ref09_sign_L13_R N ((s0, (i1, ((1 : Int), ((Go.IntKind.wrap .i64 ((Go.IntKind.wrap .i64 (((@UInt8.toNat v3) : Nat) : Int)) - (192 : Int))), ((128 : Int), ((1 : Int), @Unit.unit)))))), @Unit.unit)) fun (v4 : (((Int × (Int × Unit)) × Unit) ⊕ ((Int × (Int × (Int × Unit))) × Unit))) =>
    Sum.elim
     (fun (v5 : ((Int × (Int × Unit)) × Unit)) =>
     some ((v5.1.1, v5.1.2.1)))
     (fun (v5 : ((Int × (Int × (Int × Unit))) × Unit)) =>
     bif (decide (v5.1.2.1 < v5.1.2.2.1)) then
      some (((0 : Int), (0 : Int)))
     else
      bif (@cond Bool @Bool.false @Bool.true (decide ((1114111 : Int) < v5.1.2.1))) then
       some (((0 : Int), (0 : Int)))
      else
       bif (decide ((55296 : Int) ≤ v5.1.2.1)) then
        bif (@cond Bool @Bool.false @Bool.true (@cond Bool @Bool.true (decide (v5.1.2.1 ≤ (57343 : Int))) @Bool.false)) then
         some (((0 : Int), (0 : Int)))
        else
         some ((v5.1.2.1, (Go.IntKind.wrap .i64 (v5.1.1 + (1 : Int)))))
       else
        some ((v5.1.2.1, (Go.IntKind.wrap .i64 (v5.1.1 + (1 : Int)))))) v4
   else
    bif (decide ((224 : Int) ≤ (Go.IntKind.wrap .i64 (((@UInt8.toNat v3) : Nat) : Int)))) then
     bif (@cond Bool @Bool.true (decide ((Go.IntKind.wrap .i64 (((@UInt8.toNat v3) : Nat) : Int)) < (240 : Int))) @Bool.false) then
      Option.bind (ref09_sign_L13_R N ((s0, (i1, ((2 : Int), ((Go.IntKind.wrap .i64 ((Go.IntKind.wrap .i64 (((@UInt8.toNat v3) : Nat) : Int)) - (224 : Int))), ((2048 : Int), ((1 : Int), @Unit.unit)))))), @Unit.unit)) fun (v4 : (((Int × (Int × Unit)) × Unit) ⊕ ((Int × (Int × (Int × Unit))) × Unit))) =>
      Sum.elim
       (fun (v5 : ((Int × (Int × Unit)) × Unit)) =>
       some ((v5.1.1, v5.1.2.1)))
       (fun (v5 : ((Int × (Int × (Int × Unit))) × Unit)) =>
       bif (decide (v5.1.2.1 < v5.1.2.2.1)) then
        some (((0 : Int), (0 : Int)))
       else
        bif (@cond Bool @Bool.false @Bool.true (decide ((1114111 : Int) < v5.1.2.1))) then
         some (((0 : Int), (0 : Int)))
        else
         bif (decide ((55296 : Int) ≤ v5.1.2.1)) then
          bif (@cond Bool @Bool.false @Bool.true (@cond Bool @Bool.true (decide (v5.1.2.1 ≤ (57343 : Int))) @Bool.false)) then
           some (((0 : Int), (0 : Int)))
          else
           some ((v5.1.2.1, (Go.IntKind.wrap .i64 (v5.1.1 + (1 : Int)))))
         else
          some ((v5.1.2.1, (Go.IntKind.wrap .i64 (v5.1.1 + (1 : Int)))))) v4
     else
      bif (decide ((240 : Int) ≤ (Go.IntKind.wrap .i64 (((@UInt8.toNat v3) : Nat) : Int)))) then
       bif (@cond Bool @Bool.true (decide ((Go.IntKind.wrap .i64 (((@UInt8.toNat v3) : Nat) : Int)) < (248 : Int))) @Bool.false) then
        Option.bind (ref09_sign_L13_R N ((s0, (i1, ((3 : Int), ((Go.IntKind.wrap .i64 ((Go.IntKind.wrap .i64 (((@UInt8.toNat v3) : Nat) : Int)) - (240 : Int))), ((65536 : Int), ((1 : Int), @Unit.unit)))))), @Unit.unit)) fun (v4 : (((Int × (Int × Unit)) × Unit) ⊕ ((Int × (Int × (Int × Unit))) × Unit))) =>
        Sum.elim
         (fun (v5 : ((Int × (Int × Unit)) × Unit)) =>
         some ((v5.1.1, v5.1.2.1)))
         (fun (v5 : ((Int × (Int × (Int × Unit))) × Unit)) =>
         bif (decide (v5.1.2.1 < v5.1.2.2.1)) then
          some (((0 : Int), (0 : Int)))
         else
          bif (@cond Bool @Bool.false @Bool.true (decide ((1114111 : Int) < v5.1.2.1))) then
           some (((0 : Int), (0 : Int)))
          else
           bif (decide ((55296 : Int) ≤ v5.1.2.1)) then
            bif (@cond Bool @Bool.false @Bool.true (@cond Bool @Bool.true (decide (v5.1.2.1 ≤ (57343 : Int))) @Bool.false)) then
             some (((0 : Int), (0 : Int)))
            else
             some ((v5.1.2.1, (Go.IntKind.wrap .i64 (v5.1.1 + (1 : Int)))))
           else
            some ((v5.1.2.1, (Go.IntKind.wrap .i64 (v5.1.1 + (1 : Int)))))) v4
       else
        some (((0 : Int), (0 : Int)))
      else
       some (((0 : Int), (0 : Int)))
    else
     bif (decide ((240 : Int) ≤ (Go.IntKind.wrap .i64 (((@UInt8.toNat v3) : Nat) : Int)))) then
      bif (@cond Bool @Bool.true (decide ((Go.IntKind.wrap .i64 (((@UInt8.toNat v3) : Nat) : Int)) < (248 : Int))) @Bool.false) then
       Option.bind (ref09_sign_L13_R N ((s0, (i1, ((3 : Int), ((Go.IntKind.wrap .i64 ((Go.IntKind.wrap .i64 (((@UInt8.toNat v3) : Nat) : Int)) - (240 : Int))), ((65536 : Int), ((1 : Int), @Unit.unit)))))), @Unit.unit)) fun (v4 : (((Int × (Int × Unit)) × Unit) ⊕ ((Int × (Int × (Int × Unit))) × Unit))) =>
       Sum.elim
        (fun (v5 : ((Int × (Int × Unit)) × Unit)) =>
        some ((v5.1.1, v5.1.2.1)))
        (fun (v5 : ((Int × (Int × (Int × Unit))) × Unit)) =>
        bif (decide (v5.1.2.1 < v5.1.2.2.1)) then
         some (((0 : Int), (0 : Int)))
        else
         bif (@cond Bool @Bool.false @Bool.true (decide ((1114111 : Int) < v5.1.2.1))) then
          some (((0 : Int), (0 : Int)))
         else
          bif (decide ((55296 : Int) ≤ v5.1.2.1)) then
           bif (@cond Bool @Bool.false @Bool.true (@cond Bool @Bool.true (decide (v5.1.2.1 ≤ (57343 : Int))) @Bool.false)) then
            some (((0 : Int), (0 : Int)))
           else
            some ((v5.1.2.1, (Go.IntKind.wrap .i64 (v5.1.1 + (1 : Int)))))
          else
           some ((v5.1.2.1, (Go.IntKind.wrap .i64 (v5.1.1 + (1 : Int)))))) v4
      else
       some (((0 : Int), (0 : Int)))
     else
      some (((0 : Int), (0 : Int)))
  else
   bif (decide ((224 : Int) ≤ (Go.IntKind.wrap .i64 (((@UInt8.toNat v3) : Nat) : Int)))) then
    bif (@cond Bool @Bool.true (decide ((Go.IntKind.wrap .i64 (((@UInt8.toNat v3) : Nat) : Int)) < (240 : Int))) @Bool.false) then
     Option.bind (ref09_sign_L13_R N ((s0, (i1, ((2 : Int), ((Go.IntKind.wrap .i64 ((Go.IntKind.wrap .i64 (((@UInt8.toNat v3) : Nat) : Int)) - (224 : Int))), ((2048 : Int), ((1 : Int), @Unit.unit)))))), @Unit.unit)) fun (v4 : (((Int × (Int × Unit)) × Unit) ⊕ ((Int × (Int × (Int × Unit))) × Unit))) =>
     Sum.elim
      (fun (v5 : ((Int × (Int × Unit)) × Unit)) =>
      some ((v5.1.1, v5.1.2.1)))
      (fun (v5 : ((Int × (Int × (Int × Unit))) × Unit)) =>
      bif (decide (v5.1.2.1 < v5.1.2.2.1)) then
       some (((0 : Int), (0 : Int)))
      else
       bif (@cond Bool @Bool.false @Bool.true (decide ((1114111 : Int) < v5.1.2.1))) then
        some (((0 : Int), (0 : Int)))
       else
        bif (decide ((55296 : Int) ≤ v5.1.2.1)) then
         bif (@cond Bool @Bool.false @Bool.true (@cond Bool @Bool.true (decide (v5.1.2.1 ≤ (57343 : Int))) @Bool.false)) then
          some (((0 : Int), (0 : Int)))
         else
          some ((v5.1.2.1, (Go.IntKind.wrap .i64 (v5.1.1 + (1 : Int)))))
        else
         some ((v5.1.2.1, (Go.IntKind.wrap .i64 (v5.1.1 + (1 : Int)))))) v4
    else
     bif (decide ((240 : Int) ≤ (Go.IntKind.wrap .i64 (((@UInt8.toNat v3) : Nat) : Int)))) then
      bif (@cond Bool @Bool.true (decide ((Go.IntKind.wrap .i64 (((@UInt8.toNat v3) : Nat) : Int)) < (248 : Int))) @Bool.false) then
       Option.bind (ref09_sign_L13_R N ((s0, (i1, ((3 : Int), ((Go.IntKind.wrap .i64 ((Go.IntKind.wrap .i64 (((@UInt8.toNat v3) : Nat) : Int)) - (240 : Int))), ((65536 : Int), ((1 : Int), @Unit.unit)))))), @Unit.unit)) fun (v4 : (((Int × (Int × Unit)) × Unit) ⊕ ((Int × (Int × (Int × Unit))) × Unit))) =>
       Sum.elim
        (fun (v5 : ((Int × (Int × Unit)) × Unit)) =>
        some ((v5.1.1, v5.1.2.1)))
        (fun (v5 : ((Int × (Int × (Int × Unit))) × Unit)) =>
        bif (decide (v5.1.2.1 < v5.1.2.2.1)) then
         some (((0 : Int), (0 : Int)))
        else
         bif (@cond Bool @Bool.false @Bool.true (decide ((1114111 : Int) < v5.1.2.1))) then
          some (((0 : Int), (0 : Int)))
         else
          bif (decide ((55296 : Int) ≤ v5.1.2.1)) then
           bif (@cond Bool @Bool.false @Bool.true (@cond Bool @Bool.true (decide (v5.1.2.1 ≤ (57343 : Int))) @Bool.false)) then
            some (((0 : Int), (0 : Int)))
           else
            some ((v5.1.2.1, (Go.IntKind.wrap .i64 (v5.1.1 + (1 : Int)))))
          else
           some ((v5.1.2.1, (Go.IntKind.wrap .i64 (v5.1.1 + (1 : Int)))))) v4
      else
       some (((0 : Int), (0 : Int)))
     else
      some (((0 : Int), (0 : Int)))
   else
    bif (decide ((240 : Int) ≤ (Go.IntKind.wrap .i64 (((@UInt8.toNat v3) : Nat) : Int)))) then
     bif (@cond Bool @Bool.true (decide ((Go.IntKind.wrap .i64 (((@UInt8.toNat v3) : Nat) : Int)) < (248 : Int))) @Bool.false) then
      Option.bind (ref09_sign_L13_R N ((s0, (i1, ((3 : Int), ((Go.IntKind.wrap .i64 ((Go.IntKind.wrap .i64 (((@UInt8.toNat v3) : Nat) : Int)) - (240 : Int))), ((65536 : Int), ((1 : Int), @Unit.unit)))))), @Unit.unit)) fun (v4 : (((Int × (Int × Unit)) × Unit) ⊕ ((Int × (Int × (Int × Unit))) × Unit))) =>
      Sum.elim
       (fun (v5 : ((Int × (Int × Unit)) × Unit)) =>
       some ((v5.1.1, v5.1.2.1)))
       (fun (v5 : ((Int × (Int × (Int × Unit))) × Unit)) =>
       bif (decide (v5.1.2.1 < v5.1.2.2.1)) then
        some (((0 : Int), (0 : Int)))
       else
        bif (@cond Bool @Bool.false @Bool.true (decide ((1114111 : Int) < v5.1.2.1))) then
         some (((0 : Int), (0 : Int)))
        else
         bif (decide ((55296 : Int) ≤ v5.1.2.1)) then
          bif (@cond Bool @Bool.false @Bool.true (@cond Bool @Bool.true (decide (v5.1.2.1 ≤ (57343 : Int))) @Bool.false)) then
           some (((0 : Int), (0 : Int)))
          else
           some ((v5.1.2.1, (Go.IntKind.wrap .i64 (v5.1.1 + (1 : Int)))))
         else
          some ((v5.1.2.1, (Go.IntKind.wrap .i64 (v5.1.1 + (1 : Int)))))) v4
     else
      some (((0 : Int), (0 : Int)))
    else
     some (((0 : Int), (0 : Int)))
theorem ref09_sign_S (N : Nat) (s0 : List UInt8) (i1 : Int) : (runK Go.Proofs.Tryd.prog (Ev26 N) 400 20 [.str, (.int .i64)] [(.int .i64), (.int .i64)] (s0, i1, ())).run = ref09_sign N s0 i1 := by kernel_rfl
noncomputable def Ev27 (N : Nat) : (R : Type) → Env R := Env.addFn (Ev26 N) 20 (fun R => fnK [.str, (.int .i64)] [(.int .i64), (.int .i64)] (fun c => ref09_sign N c.1 c.2.1))
theorem Ev27_ok (N : Nat) (R : Type) : EnvOK Go.Proofs.Tryd.prog (Ev27 N R) := EnvOK.addFn hmx (Ev26_ok N R) (Ev26_ok N _) (by kernel_rfl) (fun c => ref09_sign_S N c.1 c.2.1)
noncomputable def ref09_Signs_L3_I : LI := ⟨28, 0, [(4, 3)], ⟨[(0, .ty .str), (4, .lit (.own 0)), (5, .ty (.int .i64))], [.own (.int .i64) 3]⟩, [(.ret, ⟨[(2, .ty (.sl (.int .i64))), (3, .ty .bool)], []⟩), (.exit 0, ⟨[(4, .lit (.own 0))], [.own (.int .i64) 3]⟩)]⟩
noncomputable def ref09_Signs_L3 (N : Nat) (X : (((List UInt8) × ((Int) × Unit)) × ((List (Int)) × Unit)) → Option (((((List (Int)) × ((Bool) × Unit)) × Unit) ⊕ (Unit × ((List (Int)) × Unit))))) (s0 : List UInt8) (i5 : Int) (h0 : List (Int)) : Option (((((List (Int)) × ((Bool) × Unit)) × Unit) ⊕ (Unit × ((List (Int)) × Unit)))) :=
 bif (decide (i5 < (((List.length s0) : Nat) : Int))) then
  Option.bind (@ref09_sign N s0 i5) fun (v5 : (Int × Int)) =>
  bif (decide (v5.2 = (0 : Int))) then
   some ((.inl ((([] : List (Int)), (@Bool.false, @Unit.unit)), @Unit.unit)))
  else
   bif (roomB ((List.length h0) + (List.length ([v5.1] : List (Int)))) 8) then
    (X ((s0, ((Go.IntKind.wrap .i64 (i5 + v5.2)), @Unit.unit)), ((h0 ++ ([v5.1] : List (Int))), @Unit.unit)))
   else
    none
 else
  some ((.inr (@Unit.unit, (h0, @Unit.unit))))
noncomputable def ref09_Signs_L3_R (N : Nat) (c : (((List UInt8) × ((Int) × Unit)) × ((List (Int)) × Unit))) : Option (((((List (Int)) × ((Bool) × Unit)) × Unit) ⊕ (Unit × ((List (Int)) × Unit)))) := gl (fun X c => ref09_Signs_L3 N X c.1.1 c.1.2.1 c.2.1) N c
theorem ref09_Signs_L3_S (N : Nat) (X : (((List UInt8) × ((Int) × Unit)) × ((List (Int)) × Unit)) → Option (((((List (Int)) × ((Bool) × Unit)) × Unit) ⊕ (Unit × ((List (Int)) × Unit))))) (s0 : List UInt8) (i5 : Int) (h0 : List (Int)) : (roundK Go.Proofs.Tryd.prog (Ev27 N) 400 [11] ref09_Signs_L3_I (loopAt Go.Proofs.Tryd.prog [11] 3) X ((s0, i5, ()), (h0, ()))).run = ref09_Signs_L3 N X s0 i5 h0 := by kernel_rfl
noncomputable def Ev28 (N : Nat) : (R : Type) → Env R := Env.addLp (Ev27 N) [11] 0 3 (fun R => lpK Go.Proofs.Tryd.prog ref09_Signs_L3_I (fun X c => ref09_Signs_L3 N X c.1.1 c.1.2.1 c.2.1) N)
theorem Ev28_ok (N : Nat) (R : Type) : EnvOK Go.Proofs.Tryd.prog (Ev28 N R) := EnvOK.addLp (Ev27_ok N R) (by kernel_rfl) (lpK_ok (li := ref09_Signs_L3_I) (G := fun X c => ref09_Signs_L3 N X c.1.1 c.1.2.1 c.2.1) hmx (Ev27_ok N _) (by kernel_rfl) loopAt_sub (fun (X : CT ref09_Signs_L3_I.sh → Option (OT ref09_Signs_L3_I.outs)) (c : CT ref09_Signs_L3_I.sh) => ref09_Signs_L3_S N X c.1.1 c.1.2.1 c.2.1) N)
noncomputable def ref09_Signs (N : Nat) (s0 : List UInt8) : Option ((List (Int)) × Bool) :=
 Option.bind (ref09_Signs_L3_R N ((s0, ((0 : Int), @Unit.unit)), (([] : List (Int)), @Unit.unit))) fun (v2 : ((((List Int) × (Bool × Unit)) × Unit) ⊕ (Unit × ((List Int) × Unit)))) =>
 Sum.elim
  (fun (v3 : (((List Int) × (Bool × Unit)) × Unit)) =>
  some ((v3.1.1, v3.1.2.1)))
  (fun (v3 : (Unit × ((List Int) × Unit))) =>
  some ((v3.2.1, @Bool.true))) v2
theorem ref09_Signs_S (N : Nat) (s0 : List UInt8) : (runK Go.Proofs.Tryd.prog (Ev28 N) 400 11 [.str] [(.sl (.int .i64)), .bool] (s0, ())).run = ref09_Signs N s0 := by kernel_rfl
theorem ref09_Signs_C (N : Nat) (s0 : List UInt8) (y : (List (Int)) × Bool) (h : ref09_Signs N s0 = some y) : CallsK Go.Proofs.Tryd.prog 11 (valA [.str] (s0, ())) (tupV (valR [(.sl (.int .i64)), .bool] y)) := runK_ok hmx (Ev28_ok N _) (okFn_ok (by kernel_rfl)) (by rw [ref09_Signs_S]; exact h)
noncomputable def Ev29 (N : Nat) : (R : Type) → Env R := Env.addFn (Ev28 N) 11 (fun R => fnK [.str] [(.sl (.int .i64)), .bool] (fun c => ref09_Signs N c.1))
theorem Ev29_ok (N : Nat) (R : Type) : EnvOK Go.Proofs.Tryd.prog (Ev29 N R) := EnvOK.addFn hmx (Ev28_ok N R) (Ev28_ok N _) (by kernel_rfl) (fun c => ref09_Signs_S N c.1)
noncomputable def ref09_May (N : Nat) (s0 : List UInt8) : Option (Int) :=
 Option.bind (@ref09_Signs N s0) fun (v2 : ((List Int) × Bool)) =>
 bif (!v2.2) then
  some ((3 : Int))
 else
  bif (decide ((64 : Int) < (((List.length v2.1) : Nat) : Int))) then
   some ((8 : Int))
  else
   some ((0 : Int))
theorem ref09_May_S (N : Nat) (s0 : List UInt8) : (runK Go.Proofs.Tryd.prog (Ev29 N) 400 15 [.str] [(.int .i64)] (s0, ())).run = ref09_May N s0 := by kernel_rfl
theorem ref09_May_C (N : Nat) (s0 : List UInt8) (y : Int) (h : ref09_May N s0 = some y) : CallsK Go.Proofs.Tryd.prog 15 (valA [.str] (s0, ())) (tupV (valR [(.int .i64)] y)) := runK_ok hmx (Ev29_ok N _) (okFn_ok (by kernel_rfl)) (by rw [ref09_May_S]; exact h)
noncomputable def Ev30 (N : Nat) : (R : Type) → Env R := Env.addFn (Ev29 N) 15 (fun R => fnK [.str] [(.int .i64)] (fun c => ref09_May N c.1))
theorem Ev30_ok (N : Nat) (R : Type) : EnvOK Go.Proofs.Tryd.prog (Ev30 N R) := EnvOK.addFn hmx (Ev29_ok N R) (Ev29_ok N _) (by kernel_rfl) (fun c => ref09_May_S N c.1)
noncomputable def Ev31 (N : Nat) : (R : Type) → Env R := Env.addMv (Ev30 N) [(10, 9), (10, 11)]
theorem Ev31_ok (N : Nat) (R : Type) : EnvOK Go.Proofs.Tryd.prog (Ev31 N R) := EnvOK.addMv (Ev30_ok N R) [(10, 9), (10, 11)]
noncomputable def ref09_Units_L6_I : LI := ⟨52, 0, [(5, 35)], ⟨[(3, .ty (.sl (.int .i64))), (5, .lit (.own 0)), (6, .ty (.int .i64))], [.own (.int .u16) 35]⟩, [(.exit 0, ⟨[(5, .lit (.own 0))], [.own (.int .u16) 35]⟩)]⟩
noncomputable def ref09_Units_L6 (N : Nat) (X : (((List (Int)) × ((Int) × Unit)) × ((List (Int)) × Unit)) → Option ((Unit × ((List (Int)) × Unit)))) (l3 : List (Int)) (i6 : Int) (h0 : List (Int)) : Option ((Unit × ((List (Int)) × Unit))) :=
 bif (decide (i6 < (((List.length l3) : Nat) : Int))) then
  Option.bind (getI l3 i6) fun (v5 : Int) =>
  bif (decide (v5 < (65536 : Int))) then
   Option.bind (getI l3 i6) fun (v6 : Int) =>
   bif (roomB ((List.length h0) + (List.length ([(Go.IntKind.wrap .u16 v6)] : List (Int)))) 2) then
    (X ((l3, ((Go.IntKind.wrap .i64 (i6 + (1 : Int))), @Unit.unit)), ((h0 ++ ([(Go.IntKind.wrap .u16 v6)] : List (Int))), @Unit.unit)))
   else
    none
  else
   Option.bind (getI l3 i6) fun (v6 : Int) =>
   bif (roomB ((List.length h0) + (List.length ([(Go.IntKind.wrap .u16 (Go.IntKind.wrap .i64 ((55296 : Int) + (Go.IntKind.wrap .i64 (@Int.tdiv (Go.IntKind.wrap .i64 (v6 - (65536 : Int))) (1024 : Int)))))), (Go.IntKind.wrap .u16 (Go.IntKind.wrap .i64 ((56320 : Int) + (@Int.tmod (Go.IntKind.wrap .i64 (v6 - (65536 : Int))) (1024 : Int)))))] : List (Int)))) 2) then
    (X ((l3, ((Go.IntKind.wrap .i64 (i6 + (1 : Int))), @Unit.unit)), ((h0 ++ ([(Go.IntKind.wrap .u16 (Go.IntKind.wrap .i64 ((55296 : Int) + (Go.IntKind.wrap .i64 (@Int.tdiv (Go.IntKind.wrap .i64 (v6 - (65536 : Int))) (1024 : Int)))))), (Go.IntKind.wrap .u16 (Go.IntKind.wrap .i64 ((56320 : Int) + (@Int.tmod (Go.IntKind.wrap .i64 (v6 - (65536 : Int))) (1024 : Int)))))] : List (Int))), @Unit.unit)))
   else
    none
 else
  some ((@Unit.unit, (h0, @Unit.unit)))
noncomputable def ref09_Units_L6_R (N : Nat) (c : (((List (Int)) × ((Int) × Unit)) × ((List (Int)) × Unit))) : Option ((Unit × ((List (Int)) × Unit))) := gl (fun X c => ref09_Units_L6 N X c.1.1 c.1.2.1 c.2.1) N c
theorem ref09_Units_L6_S (N : Nat) (X : (((List (Int)) × ((Int) × Unit)) × ((List (Int)) × Unit)) → Option ((Unit × ((List (Int)) × Unit)))) (l3 : List (Int)) (i6 : Int) (h0 : List (Int)) : (roundK Go.Proofs.Tryd.prog (Ev31 N) 400 [10] ref09_Units_L6_I (loopAt Go.Proofs.Tryd.prog [10] 6) X ((l3, i6, ()), (h0, ()))).run = ref09_Units_L6 N X l3 i6 h0 := by kernel_rfl
noncomputable def Ev32 (N : Nat) : (R : Type) → Env R := Env.addLp (Ev31 N) [10] 0 6 (fun R => lpK Go.Proofs.Tryd.prog ref09_Units_L6_I (fun X c => ref09_Units_L6 N X c.1.1 c.1.2.1 c.2.1) N)
theorem Ev32_ok (N : Nat) (R : Type) : EnvOK Go.Proofs.Tryd.prog (Ev32 N R) := EnvOK.addLp (Ev31_ok N R) (by kernel_rfl) (lpK_ok (li := ref09_Units_L6_I) (G := fun X c => ref09_Units_L6 N X c.1.1 c.1.2.1 c.2.1) hmx (Ev31_ok N _) (by kernel_rfl) loopAt_sub (fun (X : CT ref09_Units_L6_I.sh → Option (OT ref09_Units_L6_I.outs)) (c : CT ref09_Units_L6_I.sh) => ref09_Units_L6_S N X c.1.1 c.1.2.1 c.2.1) N)
noncomputable def ref09_Units (N : Nat) (s0 : List UInt8) : Option (List (Int)) :=
 Option.bind (@ref09_May N s0) fun (v2 : Int) =>
 bif (!(decide (v2 = (0 : Int)))) then
  some (([] : List (Int)))
 else
  Option.bind (@ref09_Signs N s0) fun (v3 : ((List Int) × Bool)) =>
  Option.bind (ref09_Units_L6_R N ((v3.1, ((0 : Int), @Unit.unit)), (([] : List (Int)), @Unit.unit))) fun (v4 : (Unit × ((List Int) × Unit))) =>
  some (v4.2.1)
theorem ref09_Units_S (N : Nat) (s0 : List UInt8) : (runK Go.Proofs.Tryd.prog (Ev32 N) 400 10 [.str] [(.sl (.int .u16))] (s0, ())).run = ref09_Units N s0 := by kernel_rfl
theorem ref09_Units_C (N : Nat) (s0 : List UInt8) (y : List (Int)) (h : ref09_Units N s0 = some y) : CallsK Go.Proofs.Tryd.prog 10 (valA [.str] (s0, ())) (tupV (valR [(.sl (.int .u16))] y)) := runK_ok hmx (Ev32_ok N _) (okFn_ok (by kernel_rfl)) (by rw [ref09_Units_S]; exact h)
noncomputable def Ev33 (N : Nat) : (R : Type) → Env R := Env.addFn (Ev32 N) 10 (fun R => fnK [.str] [(.sl (.int .u16))] (fun c => ref09_Units N c.1))
theorem Ev33_ok (N : Nat) (R : Type) : EnvOK Go.Proofs.Tryd.prog (Ev33 N R) := EnvOK.addFn hmx (Ev32_ok N R) (Ev32_ok N _) (by kernel_rfl) (fun c => ref09_Units_S N c.1)
noncomputable def Ev34 (N : Nat) : (R : Type) → Env R := Env.addMv (Ev33 N) [(8, 9)]
theorem Ev34_ok (N : Nat) (R : Type) : EnvOK Go.Proofs.Tryd.prog (Ev34 N R) := EnvOK.addMv (Ev33_ok N R) [(8, 9)]
noncomputable def ref09_Lay_L7_I : LI := ⟨37, 0, [(5, 5)], ⟨[(5, .lit (.own 0)), (6, .ty (.sl (.int .u16))), (7, .ty (.int .i64))], [.own (.int .u8) 5]⟩, [(.exit 0, ⟨[(5, .lit (.own 0))], [.own (.int .u8) 5]⟩)]⟩
noncomputable def ref09_Lay_L7 (N : Nat) (X : (((List (Int)) × ((Int) × Unit)) × ((List (Int)) × Unit)) → Option ((Unit × ((List (Int)) × Unit)))) (u6 : List (Int)) (i7 : Int) (h0 : List (Int)) : Option ((Unit × ((List (Int)) × Unit))) :=
 bif (decide (i7 < (((List.length u6) : Nat) : Int))) then
  Option.bind (getI u6 i7) fun (v5 : Int) =>
  Option.bind (getI u6 i7) fun (v6 : Int) =>
  bif (roomB ((List.length h0) + (List.length ([(Go.IntKind.wrap .u8 (@Int.tmod v5 (256 : Int))), (Go.IntKind.wrap .u8 (Go.IntKind.wrap .u16 (@Int.tdiv v6 (256 : Int))))] : List (Int)))) 1) then
   (X ((u6, ((Go.IntKind.wrap .i64 (i7 + (1 : Int))), @Unit.unit)), ((h0 ++ ([(Go.IntKind.wrap .u8 (@Int.tmod v5 (256 : Int))), (Go.IntKind.wrap .u8 (Go.IntKind.wrap .u16 (@Int.tdiv v6 (256 : Int))))] : List (Int))), @Unit.unit)))
  else
   none
 else
  some ((@Unit.unit, (h0, @Unit.unit)))
noncomputable def ref09_Lay_L7_R (N : Nat) (c : (((List (Int)) × ((Int) × Unit)) × ((List (Int)) × Unit))) : Option ((Unit × ((List (Int)) × Unit))) := gl (fun X c => ref09_Lay_L7 N X c.1.1 c.1.2.1 c.2.1) N c
theorem ref09_Lay_L7_S (N : Nat) (X : (((List (Int)) × ((Int) × Unit)) × ((List (Int)) × Unit)) → Option ((Unit × ((List (Int)) × Unit)))) (u6 : List (Int)) (i7 : Int) (h0 : List (Int)) : (roundK Go.Proofs.Tryd.prog (Ev34 N) 400 [8] ref09_Lay_L7_I (loopAt Go.Proofs.Tryd.prog [8] 7) X ((u6, i7, ()), (h0, ()))).run = ref09_Lay_L7 N X u6 i7 h0 := by kernel_rfl
noncomputable def Ev35 (N : Nat) : (R : Type) → Env R := Env.addLp (Ev34 N) [8] 0 7 (fun R => lpK Go.Proofs.Tryd.prog ref09_Lay_L7_I (fun X c => ref09_Lay_L7 N X c.1.1 c.1.2.1 c.2.1) N)
theorem Ev35_ok (N : Nat) (R : Type) : EnvOK Go.Proofs.Tryd.prog (Ev35 N R) := EnvOK.addLp (Ev34_ok N R) (by kernel_rfl) (lpK_ok (li := ref09_Lay_L7_I) (G := fun X c => ref09_Lay_L7 N X c.1.1 c.1.2.1 c.2.1) hmx (Ev34_ok N _) (by kernel_rfl) loopAt_sub (fun (X : CT ref09_Lay_L7_I.sh → Option (OT ref09_Lay_L7_I.outs)) (c : CT ref09_Lay_L7_I.sh) => ref09_Lay_L7_S N X c.1.1 c.1.2.1 c.2.1) N)
noncomputable def ref09_Lay (N : Nat) (s0 : List UInt8) : Option ((List (Int)) × Int) :=
 Option.bind (@ref09_May N s0) fun (v2 : Int) =>
 bif (!(decide (v2 = (0 : Int)))) then
  some ((([] : List (Int)), v2))
 else
  Option.bind (@ref09_Units N s0) fun (v3 : (List Int)) =>
  Option.bind (ref09_Lay_L7_R N ((v3, ((0 : Int), @Unit.unit)), (([] : List (Int)), @Unit.unit))) fun (v4 : (Unit × ((List Int) × Unit))) =>
  some ((v4.2.1, (0 : Int)))
theorem ref09_Lay_S (N : Nat) (s0 : List UInt8) : (runK Go.Proofs.Tryd.prog (Ev35 N) 400 8 [.str] [(.sl (.int .u8)), (.int .i64)] (s0, ())).run = ref09_Lay N s0 := by kernel_rfl
theorem ref09_Lay_C (N : Nat) (s0 : List UInt8) (y : (List (Int)) × Int) (h : ref09_Lay N s0 = some y) : CallsK Go.Proofs.Tryd.prog 8 (valA [.str] (s0, ())) (tupV (valR [(.sl (.int .u8)), (.int .i64)] y)) := runK_ok hmx (Ev35_ok N _) (okFn_ok (by kernel_rfl)) (by rw [ref09_Lay_S]; exact h)
noncomputable def Ev36 (N : Nat) : (R : Type) → Env R := Env.addFn (Ev35 N) 8 (fun R => fnK [.str] [(.sl (.int .u8)), (.int .i64)] (fun c => ref09_Lay N c.1))
theorem Ev36_ok (N : Nat) (R : Type) : EnvOK Go.Proofs.Tryd.prog (Ev36 N R) := EnvOK.addFn hmx (Ev35_ok N R) (Ev35_ok N _) (by kernel_rfl) (fun c => ref09_Lay_S N c.1)
noncomputable def ref01_Same_L4_I : LI := ⟨26, 0, [], ⟨[(0, .ty (.sl (.int .u8))), (1, .ty (.sl (.int .u8))), (5, .ty (.int .i64))], []⟩, [(.ret, ⟨[(4, .ty .bool)], []⟩), (.exit 0, ⟨[], []⟩)]⟩
noncomputable def ref01_Same_L4 (N : Nat) (X : (((List (Int)) × ((List (Int)) × ((Int) × Unit))) × Unit) → Option (((((Bool) × Unit) × Unit) ⊕ (Unit × Unit)))) (a0 : List (Int)) (b1 : List (Int)) (i5 : Int) : Option (((((Bool) × Unit) × Unit) ⊕ (Unit × Unit))) :=
 bif (decide (i5 < (((List.length a0) : Nat) : Int))) then
  Option.bind (getI a0 i5) fun (v5 : Int) =>
  Option.bind (getI b1 i5) fun (v6 : Int) =>
  bif (!(decide (v5 = v6))) then
   some ((.inl ((@Bool.false, @Unit.unit), @Unit.unit)))
  else
   (X ((a0, (b1, ((Go.IntKind.wrap .i64 (i5 + (1 : Int))), @Unit.unit))), @Unit.unit))
 else
  some ((.inr (@Unit.unit, @Unit.unit)))
noncomputable def ref01_Same_L4_R (N : Nat) (c : (((List (Int)) × ((List (Int)) × ((Int) × Unit))) × Unit)) : Option (((((Bool) × Unit) × Unit) ⊕ (Unit × Unit))) := gl (fun X c => ref01_Same_L4 N X c.1.1 c.1.2.1 c.1.2.2.1) N c
theorem ref01_Same_L4_S (N : Nat) (X : (((List (Int)) × ((List (Int)) × ((Int) × Unit))) × Unit) → Option (((((Bool) × Unit) × Unit) ⊕ (Unit × Unit)))) (a0 : List (Int)) (b1 : List (Int)) (i5 : Int) : (roundK Go.Proofs.Tryd.prog (Ev36 N) 400 [13] ref01_Same_L4_I (loopAt Go.Proofs.Tryd.prog [13] 4) X ((a0, b1, i5, ()), ())).run = ref01_Same_L4 N X a0 b1 i5 := by kernel_rfl
noncomputable def Ev37 (N : Nat) : (R : Type) → Env R := Env.addLp (Ev36 N) [13] 0 4 (fun R => lpK Go.Proofs.Tryd.prog ref01_Same_L4_I (fun X c => ref01_Same_L4 N X c.1.1 c.1.2.1 c.1.2.2.1) N)
theorem Ev37_ok (N : Nat) (R : Type) : EnvOK Go.Proofs.Tryd.prog (Ev37 N R) := EnvOK.addLp (Ev36_ok N R) (by kernel_rfl) (lpK_ok (li := ref01_Same_L4_I) (G := fun X c => ref01_Same_L4 N X c.1.1 c.1.2.1 c.1.2.2.1) hmx (Ev36_ok N _) (by kernel_rfl) loopAt_sub (fun (X : CT ref01_Same_L4_I.sh → Option (OT ref01_Same_L4_I.outs)) (c : CT ref01_Same_L4_I.sh) => ref01_Same_L4_S N X c.1.1 c.1.2.1 c.1.2.2.1) N)
noncomputable def ref01_Same (N : Nat) (a0 : List (Int)) (b1 : List (Int)) : Option (Bool) :=
 bif (!(decide ((((List.length a0) : Nat) : Int) = (((List.length b1) : Nat) : Int)))) then
  some (@Bool.false)
 else
  Option.bind (ref01_Same_L4_R N ((a0, (b1, ((0 : Int), @Unit.unit))), @Unit.unit)) fun (v3 : (((Bool × Unit) × Unit) ⊕ (Unit × Unit))) =>
  Sum.elim
   (fun (v4 : ((Bool × Unit) × Unit)) =>
   some (v4.1.1))
   (fun (v4 : (Unit × Unit)) =>
   some (@Bool.true)) v3
theorem ref01_Same_S (N : Nat) (a0 : List (Int)) (b1 : List (Int)) : (runK Go.Proofs.Tryd.prog (Ev37 N) 400 13 [(.sl (.int .u8)), (.sl (.int .u8))] [.bool] (a0, b1, ())).run = ref01_Same N a0 b1 := by kernel_rfl
theorem ref01_Same_C (N : Nat) (a0 : List (Int)) (b1 : List (Int)) (y : Bool) (h : ref01_Same N a0 b1 = some y) : CallsK Go.Proofs.Tryd.prog 13 (valA [(.sl (.int .u8)), (.sl (.int .u8))] (a0, b1, ())) (tupV (valR [.bool] y)) := runK_ok hmx (Ev37_ok N _) (okFn_ok (by kernel_rfl)) (by rw [ref01_Same_S]; exact h)
noncomputable def Ev38 (N : Nat) : (R : Type) → Env R := Env.addFn (Ev37 N) 13 (fun R => fnK [(.sl (.int .u8)), (.sl (.int .u8))] [.bool] (fun c => ref01_Same N c.1 c.2.1))
theorem Ev38_ok (N : Nat) (R : Type) : EnvOK Go.Proofs.Tryd.prog (Ev38 N R) := EnvOK.addFn hmx (Ev37_ok N R) (Ev37_ok N _) (by kernel_rfl) (fun c => ref01_Same_S N c.1 c.2.1)
noncomputable def law09_alive (N : Nat) : Option (Bool) :=
 Option.bind (@utf16_Lay N (@Array.toList UInt8 (@List.toArray UInt8 ([(@OfNat.ofNat UInt8 (97 : Nat) (@UInt8.instOfNat (97 : Nat)))] : List (UInt8))))) fun (v1 : ((List Int) × Int)) =>
 Option.bind (@utf16_Parse (200000 : Nat) v1.1) fun (v2 : ((List UInt8) × Int)) =>
 Option.bind (@toBy v1.1) fun (v3 : (List UInt8)) =>
 bif (decide (v3 = (@Array.toList UInt8 (@List.toArray UInt8 ([(@OfNat.ofNat UInt8 (97 : Nat) (@UInt8.instOfNat (97 : Nat))), (@OfNat.ofNat UInt8 (0 : Nat) (@UInt8.instOfNat (0 : Nat)))] : List (UInt8)))))) then
  bif (@cond Bool @Bool.true (decide (v1.2 = (0 : Int))) @Bool.false) then
   bif (@cond Bool @Bool.true (decide (v2.1 = (@Array.toList UInt8 (@List.toArray UInt8 ([(@OfNat.ofNat UInt8 (97 : Nat) (@UInt8.instOfNat (97 : Nat)))] : List (UInt8)))))) @Bool.false) then
    bif (@cond Bool @Bool.true (decide (v2.2 = (0 : Int))) @Bool.false) then
     Option.bind (@utf16_Bare N (@Array.toList UInt8 (@List.toArray UInt8 ([(@OfNat.ofNat UInt8 (100 : Nat) (@UInt8.instOfNat (100 : Nat))), (@OfNat.ofNat UInt8 (92 : Nat) (@UInt8.instOfNat (92 : Nat))), (@OfNat.ofNat UInt8 (117 : Nat) (@UInt8.instOfNat (117 : Nat)))] : List (UInt8))))) fun (v4 : (List UInt8)) =>
     bif (@cond Bool @Bool.true (decide (v4 = (@Array.toList UInt8 (@List.toArray UInt8 ([(@OfNat.ofNat UInt8 (117 : Nat) (@UInt8.instOfNat (117 : Nat)))] : List (UInt8)))))) @Bool.false) then
      Option.bind (@utf16_Count N (@Array.toList UInt8 (@List.toArray UInt8 ([(@OfNat.ofNat UInt8 (97 : Nat) (@UInt8.instOfNat (97 : Nat))), (@OfNat.ofNat UInt8 (98 : Nat) (@UInt8.instOfNat (98 : Nat)))] : List (UInt8))))) fun (v5 : Int) =>
      bif (@cond Bool @Bool.true (decide (v5 = (2 : Int))) @Bool.false) then
       Option.bind (@utf16_Ascii N (@Array.toList UInt8 (@List.toArray UInt8 ([(@OfNat.ofNat UInt8 (126 : Nat) (@UInt8.instOfNat (126 : Nat)))] : List (UInt8))))) fun (v6 : Bool) =>
       bif (@cond Bool @Bool.true v6 @Bool.false) then
        Option.bind (@utf16_May N (@Array.toList UInt8 (@List.toArray UInt8 ([(@OfNat.ofNat UInt8 (255 : Nat) (@UInt8.instOfNat (255 : Nat)))] : List (UInt8))))) fun (v7 : Int) =>
        some ((@cond Bool @Bool.true (decide (v7 = (3 : Int))) @Bool.false))
       else
        some (@Bool.false)
      else
       some (@Bool.false)
     else
      some (@Bool.false)
    else
     some (@Bool.false)
   else
    some (@Bool.false)
  else
   some (@Bool.false)
 else
  some (@Bool.false)
theorem law09_alive_S (N : Nat) : (runK Go.Proofs.Tryd.prog (Ev38 N) 400 6 [] [.bool] ()).run = law09_alive N  := by kernel_rfl
theorem law09_alive_C (N : Nat) (y : Bool) (h : law09_alive N  = some y) : CallsK Go.Proofs.Tryd.prog 6 (valA [] ()) (tupV (valR [.bool] y)) := runK_ok hmx (Ev38_ok N _) (okFn_ok (by kernel_rfl)) (by rw [law09_alive_S]; exact h)
noncomputable def Ev39 (N : Nat) : (R : Type) → Env R := Env.addFn (Ev38 N) 6 (fun R => fnK [] [.bool] (fun c => law09_alive N ))
theorem Ev39_ok (N : Nat) (R : Type) : EnvOK Go.Proofs.Tryd.prog (Ev39 N R) := EnvOK.addFn hmx (Ev38_ok N R) (Ev38_ok N _) (by kernel_rfl) (fun c => law09_alive_S N )
noncomputable def law09_Utf16Lays_L10_I : LI := ⟨92, 0, [], ⟨[(0, .ty .str), (3, .ty (.sl (.int .u8))), (4, .ty (.int .i64)), (5, .ty (.sl (.int .u8))), (6, .ty (.int .i64)), (7, .ty (.sl (.int .u16))), (8, .ty (.sl (.int .u16))), (60, .ty (.int .i64)), (61, .ty (.int .i64))], []⟩, [(.ret, ⟨[(2, .ty .bool)], []⟩), (.exit 0, ⟨[(0, .ty .str), (3, .ty (.sl (.int .u8))), (4, .ty (.int .i64)), (5, .ty (.sl (.int .u8))), (6, .ty (.int .i64))], []⟩)]⟩
noncomputable def law09_Utf16Lays_L10 (N : Nat) (X : (((List UInt8) × ((List (Int)) × ((Int) × ((List (Int)) × ((Int) × ((List (Int)) × ((List (Int)) × ((Int) × ((Int) × Unit))))))))) × Unit) → Option (((((Bool) × Unit) × Unit) ⊕ (((List UInt8) × ((List (Int)) × ((Int) × ((List (Int)) × ((Int) × Unit))))) × Unit)))) (s0 : List UInt8) (a3 : List (Int)) (e4 : Int) (b5 : List (Int)) (f6 : Int) (u7 : List (Int)) (v8 : List (Int)) (x60 : Int) (x61 : Int) : Option (((((Bool) × Unit) × Unit) ⊕ (((List UInt8) × ((List (Int)) × ((Int) × ((List (Int)) × ((Int) × Unit))))) × Unit))) :=
 bif (decide (x61 < x60)) then
  Option.bind (getI u7 x61) fun (v11 : Int) =>
  Option.bind (getI v8 x61) fun (v12 : Int) =>
  bif (!(decide (v11 = v12))) then
   some ((.inl ((@Bool.false, @Unit.unit), @Unit.unit)))
  else
   (X ((s0, (a3, (e4, (b5, (f6, (u7, (v8, (x60, ((Go.IntKind.wrap .i64 (x61 + (1 : Int))), @Unit.unit))))))))), @Unit.unit))
 else
  some ((.inr ((s0, (a3, (e4, (b5, (f6, @Unit.unit))))), @Unit.unit)))
noncomputable def law09_Utf16Lays_L10_R (N : Nat) (c : (((List UInt8) × ((List (Int)) × ((Int) × ((List (Int)) × ((Int) × ((List (Int)) × ((List (Int)) × ((Int) × ((Int) × Unit))))))))) × Unit)) : Option (((((Bool) × Unit) × Unit) ⊕ (((List UInt8) × ((List (Int)) × ((Int) × ((List (Int)) × ((Int) × Unit))))) × Unit))) := gl (fun X c => law09_Utf16Lays_L10 N X c.1.1 c.1.2.1 c.1.2.2.1 c.1.2.2.2.1 c.1.2.2.2.2.1 c.1.2.2.2.2.2.1 c.1.2.2.2.2.2.2.1 c.1.2.2.2.2.2.2.2.1 c.1.2.2.2.2.2.2.2.2.1) N c
theorem law09_Utf16Lays_L10_S (N : Nat) (X : (((List UInt8) × ((List (Int)) × ((Int) × ((List (Int)) × ((Int) × ((List (Int)) × ((List (Int)) × ((Int) × ((Int) × Unit))))))))) × Unit) → Option (((((Bool) × Unit) × Unit) ⊕ (((List UInt8) × ((List (Int)) × ((Int) × ((List (Int)) × ((Int) × Unit))))) × Unit)))) (s0 : List UInt8) (a3 : List (Int)) (e4 : Int) (b5 : List (Int)) (f6 : Int) (u7 : List (Int)) (v8 : List (Int)) (x60 : Int) (x61 : Int) : (roundK Go.Proofs.Tryd.prog (Ev39 N) 400 [3] law09_Utf16Lays_L10_I (loopAt Go.Proofs.Tryd.prog [3] 10) X ((s0, a3, e4, b5, f6, u7, v8, x60, x61, ()), ())).run = law09_Utf16Lays_L10 N X s0 a3 e4 b5 f6 u7 v8 x60 x61 := by kernel_rfl
noncomputable def Ev40 (N : Nat) : (R : Type) → Env R := Env.addLp (Ev39 N) [3] 0 10 (fun R => lpK Go.Proofs.Tryd.prog law09_Utf16Lays_L10_I (fun X c => law09_Utf16Lays_L10 N X c.1.1 c.1.2.1 c.1.2.2.1 c.1.2.2.2.1 c.1.2.2.2.2.1 c.1.2.2.2.2.2.1 c.1.2.2.2.2.2.2.1 c.1.2.2.2.2.2.2.2.1 c.1.2.2.2.2.2.2.2.2.1) N)
theorem Ev40_ok (N : Nat) (R : Type) : EnvOK Go.Proofs.Tryd.prog (Ev40 N R) := EnvOK.addLp (Ev39_ok N R) (by kernel_rfl) (lpK_ok (li := law09_Utf16Lays_L10_I) (G := fun X c => law09_Utf16Lays_L10 N X c.1.1 c.1.2.1 c.1.2.2.1 c.1.2.2.2.1 c.1.2.2.2.2.1 c.1.2.2.2.2.2.1 c.1.2.2.2.2.2.2.1 c.1.2.2.2.2.2.2.2.1 c.1.2.2.2.2.2.2.2.2.1) hmx (Ev39_ok N _) (by kernel_rfl) loopAt_sub (fun (X : CT law09_Utf16Lays_L10_I.sh → Option (OT law09_Utf16Lays_L10_I.outs)) (c : CT law09_Utf16Lays_L10_I.sh) => law09_Utf16Lays_L10_S N X c.1.1 c.1.2.1 c.1.2.2.1 c.1.2.2.2.1 c.1.2.2.2.2.1 c.1.2.2.2.2.2.1 c.1.2.2.2.2.2.2.1 c.1.2.2.2.2.2.2.2.1 c.1.2.2.2.2.2.2.2.2.1) N)
noncomputable def law09_Utf16Lays (N : Nat) (s0 : List UInt8) : Option (Bool) :=
 bif (decide ((600 : Int) < (((List.length s0) : Nat) : Int))) then
  Option.bind (@law09_alive N) fun (v2 : Bool) =>
  some (v2)
 else
  Option.bind (@utf16_Lay N s0) fun (v2 : ((List Int) × Int)) =>
  Option.bind (@ref09_Lay N s0) fun (v3 : ((List Int) × Int)) =>
  Option.bind (@utf16_Units N s0) fun (v4 : (List Int)) =>
  Option.bind (@ref09_Units N s0) fun (v5 : (List Int)) =>
  Option.bind (@ref09_Signs N s0) fun (v6 : ((List Int) × Bool)) =>
  bif (!(decide ((((List.length v4) : Nat) : Int) = (((List.length v5) : Nat) : Int)))) then
   some (@Bool.false)
  else
   bif (!v6.2) then
    Option.bind (@utf16_Count N s0) fun (v7 : Int) =>
    bif (@cond Bool @Bool.false @Bool.true (@cond Bool @Bool.true (!(decide (v7 = (0 : Int)))) @Bool.false)) then
     some (@Bool.false)
    else
     bif v6.2 then
      Option.bind (@utf16_Count N s0) fun (v8 : Int) =>
      bif (@cond Bool @Bool.false @Bool.true (@cond Bool @Bool.true (!(decide (v8 = (((List.length v6.1) : Nat) : Int)))) @Bool.false)) then
       some (@Bool.false)
      else
       Option.bind (law09_Utf16Lays_L10_R N ((s0, (v2.1, (v2.2, (v3.1, (v3.2, (v4, (v5, ((((List.length v4) : Nat) : Int), ((0 : Int), @Unit.unit))))))))), @Unit.unit)) fun (v9 : (((Bool × Unit) × Unit) ⊕ (((List UInt8) × ((List Int) × (Int × ((List Int) × (Int × Unit))))) × Unit))) =>
       Sum.elim
        (fun (v10 : ((Bool × Unit) × Unit)) =>
        some (v10.1.1))
        (fun (v10 : (((List UInt8) × ((List Int) × (Int × ((List Int) × (Int × Unit))))) × Unit)) =>
        Option.bind (@ref01_Same N v10.1.2.1 v10.1.2.2.2.1) fun (v11 : Bool) =>
        bif v11 then
         bif (@cond Bool @Bool.true (decide (v10.1.2.2.1 = v10.1.2.2.2.2.1)) @Bool.false) then
          Option.bind (@utf16_May N v10.1.1) fun (v12 : Int) =>
          Option.bind (@ref09_May N v10.1.1) fun (v13 : Int) =>
          bif (@cond Bool @Bool.true (decide (v12 = v13)) @Bool.false) then
           Option.bind (@law09_alive N) fun (v14 : Bool) =>
           some ((@cond Bool @Bool.true v14 @Bool.false))
          else
           some (@Bool.false)
         else
          some (@Bool.false)
        else
         some (@Bool.false)) v9
     else
      Option.bind (law09_Utf16Lays_L10_R N ((s0, (v2.1, (v2.2, (v3.1, (v3.2, (v4, (v5, ((((List.length v4) : Nat) : Int), ((0 : Int), @Unit.unit))))))))), @Unit.unit)) fun (v8 : (((Bool × Unit) × Unit) ⊕ (((List UInt8) × ((List Int) × (Int × ((List Int) × (Int × Unit))))) × Unit))) =>
      Sum.elim
       (fun (v9 : ((Bool × Unit) × Unit)) =>
       some (v9.1.1))
       (fun (v9 : (((List UInt8) × ((List Int) × (Int × ((List Int) × (Int × Unit))))) × Unit)) =>
       Option.bind (@ref01_Same N v9.1.2.1 v9.1.2.2.2.1) fun (v10 : Bool) =>
       bif v10 then
        bif (@cond Bool @Bool.true (decide (v9.1.2.2.1 = v9.1.2.2.2.2.1)) @Bool.false) then
         Option.bind (@utf16_May N v9.1.1) fun (v11 : Int) =>
         Option.bind (@ref09_May N v9.1.1) fun (v12 : Int) =>
         bif (@cond Bool @Bool.true (decide (v11 = v12)) @Bool.false) then
          Option.bind (@law09_alive N) fun (v13 : Bool) =>
          some ((@cond Bool @Bool.true v13 @Bool.false))
         else
          some (@Bool.false)
        else
         some (@Bool.false)
       else
        some (@Bool.false)) v8
   else
    bif v6.2 then
     Option.bind (@utf16_Count N s0) fun (v7 : Int) =>
     bif (@cond Bool @Bool.false @Bool.true (@cond Bool @Bool.true (!(decide (v7 = (((List.length v6.1) : Nat) : Int)))) @Bool.false)) then
      some (@Bool.false)
     else
      Option.bind (law09_Utf16Lays_L10_R N ((s0, (v2.1, (v2.2, (v3.1, (v3.2, (v4, (v5, ((((List.length v4) : Nat) : Int), ((0 : Int), @Unit.unit))))))))), @Unit.unit)) fun (v8 : (((Bool × Unit) × Unit) ⊕ (((List UInt8) × ((List Int) × (Int × ((List Int) × (Int × Unit))))) × Unit))) =>
      Sum.elim
       (fun (v9 : ((Bool × Unit) × Unit)) =>
       some (v9.1.1))
       (fun (v9 : (((List UInt8) × ((List Int) × (Int × ((List Int) × (Int × Unit))))) × Unit)) =>
       Option.bind (@ref01_Same N v9.1.2.1 v9.1.2.2.2.1) fun (v10 : Bool) =>
       bif v10 then
        bif (@cond Bool @Bool.true (decide (v9.1.2.2.1 = v9.1.2.2.2.2.1)) @Bool.false) then
         Option.bind (@utf16_May N v9.1.1) fun (v11 : Int) =>
         Option.bind (@ref09_May N v9.1.1) fun (v12 : Int) =>
         bif (@cond Bool @Bool.true (decide (v11 = v12)) @Bool.false) then
          Option.bind (@law09_alive N) fun (v13 : Bool) =>
          some ((@cond Bool @Bool.true v13 @Bool.false))
         else
          some (@Bool.false)
        else
         some (@Bool.false)
       else
        some (@Bool.false)) v8
    else
     Option.bind (law09_Utf16Lays_L10_R N ((s0, (v2.1, (v2.2, (v3.1, (v3.2, (v4, (v5, ((((List.length v4) : Nat) : Int), ((0 : Int), @Unit.unit))))))))), @Unit.unit)) fun (v7 : (((Bool × Unit) × Unit) ⊕ (((List UInt8) × ((List Int) × (Int × ((List Int) × (Int × Unit))))) × Unit))) =>
     Sum.elim
      (fun (v8 : ((Bool × Unit) × Unit)) =>
      some (v8.1.1))
      (fun (v8 : (((List UInt8) × ((List Int) × (Int × ((List Int) × (Int × Unit))))) × Unit)) =>
      Option.bind (@ref01_Same N v8.1.2.1 v8.1.2.2.2.1) fun (v9 : Bool) =>
      bif v9 then
       bif (@cond Bool @Bool.true (decide (v8.1.2.2.1 = v8.1.2.2.2.2.1)) @Bool.false) then
        Option.bind (@utf16_May N v8.1.1) fun (v10 : Int) =>
        Option.bind (@ref09_May N v8.1.1) fun (v11 : Int) =>
        bif (@cond Bool @Bool.true (decide (v10 = v11)) @Bool.false) then
         Option.bind (@law09_alive N) fun (v12 : Bool) =>
         some ((@cond Bool @Bool.true v12 @Bool.false))
        else
         some (@Bool.false)
       else
        some (@Bool.false)
      else
       some (@Bool.false)) v7
theorem law09_Utf16Lays_S (N : Nat) (s0 : List UInt8) : (runK Go.Proofs.Tryd.prog (Ev40 N) 400 3 [.str] [.bool] (s0, ())).run = law09_Utf16Lays N s0 := by kernel_rfl
theorem law09_Utf16Lays_C (N : Nat) (s0 : List UInt8) (y : Bool) (h : law09_Utf16Lays N s0 = some y) : CallsK Go.Proofs.Tryd.prog 3 (valA [.str] (s0, ())) (tupV (valR [.bool] y)) := runK_ok hmx (Ev40_ok N _) (okFn_ok (by kernel_rfl)) (by rw [law09_Utf16Lays_S]; exact h)
noncomputable def Ev41 (N : Nat) : (R : Type) → Env R := Env.addFn (Ev40 N) 3 (fun R => fnK [.str] [.bool] (fun c => law09_Utf16Lays N c.1))
theorem Ev41_ok (N : Nat) (R : Type) : EnvOK Go.Proofs.Tryd.prog (Ev41 N R) := EnvOK.addFn hmx (Ev40_ok N R) (Ev40_ok N _) (by kernel_rfl) (fun c => law09_Utf16Lays_S N c.1)
noncomputable def law09_Utf16Back (N : Nat) (s0 : List UInt8) (b1 : List (Int)) : Option (Bool) :=
 bif (decide ((600 : Int) < (((List.length s0) : Nat) : Int))) then
  Option.bind (@law09_alive N) fun (v3 : Bool) =>
  some (v3)
 else
  bif (@cond Bool @Bool.false @Bool.true (decide ((600 : Int) < (((List.length b1) : Nat) : Int)))) then
   Option.bind (@law09_alive N) fun (v3 : Bool) =>
   some (v3)
  else
   Option.bind (@utf16_Lay N s0) fun (v3 : ((List Int) × Int)) =>
   bif (decide (v3.2 = (0 : Int))) then
    Option.bind (@utf16_Parse (200000 : Nat) v3.1) fun (v4 : ((List UInt8) × Int)) =>
    bif (!(decide (v4.1 = s0))) then
     some (@Bool.false)
    else
     bif (@cond Bool @Bool.false @Bool.true (!(decide (v4.2 = (0 : Int))))) then
      some (@Bool.false)
     else
      Option.bind (@utf16_Parse (200000 : Nat) b1) fun (v5 : ((List UInt8) × Int)) =>
      bif (!(decide (v5.2 = (0 : Int)))) then
       bif (decide (v5.1 = (@Array.toList UInt8 (@List.toArray UInt8 ([] : List (UInt8)))))) then
        Option.bind (@law09_alive N) fun (v6 : Bool) =>
        some ((@cond Bool @Bool.true v6 @Bool.false))
       else
        some (@Bool.false)
      else
       Option.bind (@utf16_Lay N v5.1) fun (v6 : ((List Int) × Int)) =>
       bif (decide (v6.2 = (0 : Int))) then
        Option.bind (@ref01_Same N v6.1 b1) fun (v7 : Bool) =>
        bif (@cond Bool @Bool.true v7 @Bool.false) then
         Option.bind (@law09_alive N) fun (v8 : Bool) =>
         some ((@cond Bool @Bool.true v8 @Bool.false))
        else
         some (@Bool.false)
       else
        some (@Bool.false)
   else
    Option.bind (@utf16_Parse (200000 : Nat) b1) fun (v4 : ((List UInt8) × Int)) =>
    bif (!(decide (v4.2 = (0 : Int)))) then
     bif (decide (v4.1 = (@Array.toList UInt8 (@List.toArray UInt8 ([] : List (UInt8)))))) then
      Option.bind (@law09_alive N) fun (v5 : Bool) =>
      some ((@cond Bool @Bool.true v5 @Bool.false))
     else
      some (@Bool.false)
    else
     Option.bind (@utf16_Lay N v4.1) fun (v5 : ((List Int) × Int)) =>
     bif (decide (v5.2 = (0 : Int))) then
      Option.bind (@ref01_Same N v5.1 b1) fun (v6 : Bool) =>
      bif (@cond Bool @Bool.true v6 @Bool.false) then
       Option.bind (@law09_alive N) fun (v7 : Bool) =>
       some ((@cond Bool @Bool.true v7 @Bool.false))
      else
       some (@Bool.false)
     else
      some (@Bool.false)
theorem law09_Utf16Back_S (N : Nat) (s0 : List UInt8) (b1 : List (Int)) : (runK Go.Proofs.Tryd.prog (Ev41 N) 400 4 [.str, (.sl (.int .u8))] [.bool] (s0, b1, ())).run = law09_Utf16Back N s0 b1 := by kernel_rfl
theorem law09_Utf16Back_C (N : Nat) (s0 : List UInt8) (b1 : List (Int)) (y : Bool) (h : law09_Utf16Back N s0 b1 = some y) : CallsK Go.Proofs.Tryd.prog 4 (valA [.str, (.sl (.int .u8))] (s0, b1, ())) (tupV (valR [.bool] y)) := runK_ok hmx (Ev41_ok N _) (okFn_ok (by kernel_rfl)) (by rw [law09_Utf16Back_S]; exact h)
noncomputable def Ev42 (N : Nat) : (R : Type) → Env R := Env.addFn (Ev41 N) 4 (fun R => fnK [.str, (.sl (.int .u8))] [.bool] (fun c => law09_Utf16Back N c.1 c.2.1))
theorem Ev42_ok (N : Nat) (R : Type) : EnvOK Go.Proofs.Tryd.prog (Ev42 N R) := EnvOK.addFn hmx (Ev41_ok N R) (Ev41_ok N _) (by kernel_rfl) (fun c => law09_Utf16Back_S N c.1 c.2.1)
noncomputable def law09_Utf16Units_L10_I : LI := ⟨91, 0, [], ⟨[(3, .ty (.sl (.int .u16))), (4, .ty (.int .i64)), (5, .ty (.sl (.int .u8))), (47, .ty (.sl (.int .u16))), (48, .ty (.int .i64)), (49, .ty (.int .i64))], []⟩, [(.ret, ⟨[(2, .ty .bool)], []⟩), (.exit 0, ⟨[(3, .ty (.sl (.int .u16))), (4, .ty (.int .i64))], []⟩)]⟩
noncomputable def law09_Utf16Units_L10 (N : Nat) (X : (((List (Int)) × ((Int) × ((List (Int)) × ((List (Int)) × ((Int) × ((Int) × Unit)))))) × Unit) → Option (((((Bool) × Unit) × Unit) ⊕ (((List (Int)) × ((Int) × Unit)) × Unit)))) (u3 : List (Int)) (n4 : Int) (b5 : List (Int)) (x47 : List (Int)) (x48 : Int) (x49 : Int) : Option (((((Bool) × Unit) × Unit) ⊕ (((List (Int)) × ((Int) × Unit)) × Unit))) :=
 bif (decide (x49 < x48)) then
  Option.bind (getI x47 x49) fun (v8 : Int) =>
  Option.bind (getI b5 (Go.IntKind.wrap .i64 ((2 : Int) * x49))) fun (v9 : Int) =>
  Option.bind (getI b5 (Go.IntKind.wrap .i64 ((Go.IntKind.wrap .i64 ((2 : Int) * x49)) + (1 : Int)))) fun (v10 : Int) =>
  bif (!(decide ((Go.IntKind.wrap .i64 ((Go.IntKind.wrap .i64 v9) + (Go.IntKind.wrap .i64 ((256 : Int) * (Go.IntKind.wrap .i64 v10))))) = (Go.IntKind.wrap .i64 v8)))) then
   some ((.inl ((@Bool.false, @Unit.unit), @Unit.unit)))
  else
   (X ((u3, (n4, (b5, (x47, (x48, ((Go.IntKind.wrap .i64 (x49 + (1 : Int))), @Unit.unit)))))), @Unit.unit))
 else
  some ((.inr ((u3, (n4, @Unit.unit)), @Unit.unit)))
noncomputable def law09_Utf16Units_L10_R (N : Nat) (c : (((List (Int)) × ((Int) × ((List (Int)) × ((List (Int)) × ((Int) × ((Int) × Unit)))))) × Unit)) : Option (((((Bool) × Unit) × Unit) ⊕ (((List (Int)) × ((Int) × Unit)) × Unit))) := gl (fun X c => law09_Utf16Units_L10 N X c.1.1 c.1.2.1 c.1.2.2.1 c.1.2.2.2.1 c.1.2.2.2.2.1 c.1.2.2.2.2.2.1) N c
theorem law09_Utf16Units_L10_S (N : Nat) (X : (((List (Int)) × ((Int) × ((List (Int)) × ((List (Int)) × ((Int) × ((Int) × Unit)))))) × Unit) → Option (((((Bool) × Unit) × Unit) ⊕ (((List (Int)) × ((Int) × Unit)) × Unit)))) (u3 : List (Int)) (n4 : Int) (b5 : List (Int)) (x47 : List (Int)) (x48 : Int) (x49 : Int) : (roundK Go.Proofs.Tryd.prog (Ev42 N) 400 [5] law09_Utf16Units_L10_I (loopAt Go.Proofs.Tryd.prog [5] 10) X ((u3, n4, b5, x47, x48, x49, ()), ())).run = law09_Utf16Units_L10 N X u3 n4 b5 x47 x48 x49 := by kernel_rfl
noncomputable def Ev43 (N : Nat) : (R : Type) → Env R := Env.addLp (Ev42 N) [5] 0 10 (fun R => lpK Go.Proofs.Tryd.prog law09_Utf16Units_L10_I (fun X c => law09_Utf16Units_L10 N X c.1.1 c.1.2.1 c.1.2.2.1 c.1.2.2.2.1 c.1.2.2.2.2.1 c.1.2.2.2.2.2.1) N)
theorem Ev43_ok (N : Nat) (R : Type) : EnvOK Go.Proofs.Tryd.prog (Ev43 N R) := EnvOK.addLp (Ev42_ok N R) (by kernel_rfl) (lpK_ok (li := law09_Utf16Units_L10_I) (G := fun X c => law09_Utf16Units_L10 N X c.1.1 c.1.2.1 c.1.2.2.1 c.1.2.2.2.1 c.1.2.2.2.2.1 c.1.2.2.2.2.2.1) hmx (Ev42_ok N _) (by kernel_rfl) loopAt_sub (fun (X : CT law09_Utf16Units_L10_I.sh → Option (OT law09_Utf16Units_L10_I.outs)) (c : CT law09_Utf16Units_L10_I.sh) => law09_Utf16Units_L10_S N X c.1.1 c.1.2.1 c.1.2.2.1 c.1.2.2.2.1 c.1.2.2.2.2.1 c.1.2.2.2.2.2.1) N)
noncomputable def law09_Utf16Units (N : Nat) (s0 : List UInt8) : Option (Bool) :=
 bif (decide ((600 : Int) < (((List.length s0) : Nat) : Int))) then
  Option.bind (@law09_alive N) fun (v2 : Bool) =>
  some (v2)
 else
  Option.bind (@utf16_Units N s0) fun (v2 : (List Int)) =>
  Option.bind (@utf16_Count N s0) fun (v3 : Int) =>
  Option.bind (@utf16_Lay N s0) fun (v4 : ((List Int) × Int)) =>
  bif (!(decide (v4.2 = (0 : Int)))) then
   bif (decide ((((List.length v2) : Nat) : Int) = (0 : Int))) then
    bif (@cond Bool @Bool.true (decide ((((List.length v4.1) : Nat) : Int) = (0 : Int))) @Bool.false) then
     Option.bind (@utf16_May N s0) fun (v5 : Int) =>
     bif (@cond Bool @Bool.true (decide (v5 = v4.2)) @Bool.false) then
      Option.bind (@law09_alive N) fun (v6 : Bool) =>
      some ((@cond Bool @Bool.true v6 @Bool.false))
     else
      some (@Bool.false)
    else
     some (@Bool.false)
   else
    some (@Bool.false)
  else
   bif (!(decide ((((List.length v4.1) : Nat) : Int) = (Go.IntKind.wrap .i64 ((2 : Int) * (((List.length v2) : Nat) : Int)))))) then
    some (@Bool.false)
   else
    Option.bind (law09_Utf16Units_L10_R N ((v2, (v3, (v4.1, (v2, ((((List.length v2) : Nat) : Int), ((0 : Int), @Unit.unit)))))), @Unit.unit)) fun (v5 : (((Bool × Unit) × Unit) ⊕ (((List Int) × (Int × Unit)) × Unit))) =>
    Sum.elim
     (fun (v6 : ((Bool × Unit) × Unit)) =>
     some (v6.1.1))
     (fun (v6 : (((List Int) × (Int × Unit)) × Unit)) =>
     bif (decide (v6.1.2.1 ≤ (((List.length v6.1.1) : Nat) : Int))) then
      bif (@cond Bool @Bool.true (decide ((((List.length v6.1.1) : Nat) : Int) ≤ (Go.IntKind.wrap .i64 ((2 : Int) * v6.1.2.1)))) @Bool.false) then
       bif (@cond Bool @Bool.true (decide (v6.1.2.1 ≤ (64 : Int))) @Bool.false) then
        Option.bind (@law09_alive N) fun (v7 : Bool) =>
        some ((@cond Bool @Bool.true v7 @Bool.false))
       else
        some (@Bool.false)
      else
       some (@Bool.false)
     else
      some (@Bool.false)) v5
theorem law09_Utf16Units_S (N : Nat) (s0 : List UInt8) : (runK Go.Proofs.Tryd.prog (Ev43 N) 400 5 [.str] [.bool] (s0, ())).run = law09_Utf16Units N s0 := by kernel_rfl
theorem law09_Utf16Units_C (N : Nat) (s0 : List UInt8) (y : Bool) (h : law09_Utf16Units N s0 = some y) : CallsK Go.Proofs.Tryd.prog 5 (valA [.str] (s0, ())) (tupV (valR [.bool] y)) := runK_ok hmx (Ev43_ok N _) (okFn_ok (by kernel_rfl)) (by rw [law09_Utf16Units_S]; exact h)
noncomputable def Ev44 (N : Nat) : (R : Type) → Env R := Env.addFn (Ev43 N) 5 (fun R => fnK [.str] [.bool] (fun c => law09_Utf16Units N c.1))
theorem Ev44_ok (N : Nat) (R : Type) : EnvOK Go.Proofs.Tryd.prog (Ev44 N R) := EnvOK.addFn hmx (Ev43_ok N R) (Ev43_ok N _) (by kernel_rfl) (fun c => law09_Utf16Units_S N c.1)
end Go.Proofs.YtlfmdaicfkglmaaDoor
/-
  Signs of texts: the first sign of bytes; what the document and the model of runes say of it.
-/
namespace Go.Proofs.YtlfmdaicfkglmaaDoor
set_option maxRecDepth 100000
open Go.RowKit
set_option linter.unusedVariables false
set_option linter.unusedSimpArgs false
set_option maxRecDepth 100000

/-- A byte that goes on. -/
def cb (b : UInt8) : Bool := decide (128 ≤ b.toNat ∧ b.toNat < 192)
def n2 (a b : UInt8) : Nat := (a.toNat - 192) * 64 + (b.toNat - 128)
def n3 (a b c : UInt8) : Nat := (a.toNat - 224) * 4096 + (b.toNat - 128) * 64 + (c.toNat - 128)
def n4 (a b c d : UInt8) : Nat := (a.toNat - 240) * 262144 + (b.toNat - 128) * 4096 + (c.toNat - 128) * 64 + (d.toNat - 128)
/-- The first sign, and how many bytes it has: none, if it is not right. -/
def sg : List UInt8 → Nat × Nat
  | [] => (0, 0)
  | b0 :: r =>
    if b0.toNat < 128 then (b0.toNat, 1)
    else if 192 ≤ b0.toNat ∧ b0.toNat < 224 then (match r with
      | b1 :: _ => if cb b1 = true ∧ 128 ≤ n2 b0 b1 then (n2 b0 b1, 2) else (0, 0)
      | _ => (0, 0))
    else if 224 ≤ b0.toNat ∧ b0.toNat < 240 then (match r with
      | b1 :: b2 :: _ => if cb b1 = true ∧ cb b2 = true ∧ 2048 ≤ n3 b0 b1 b2 ∧ ¬ (55296 ≤ n3 b0 b1 b2 ∧ n3 b0 b1 b2 ≤ 57343) then (n3 b0 b1 b2, 3) else (0, 0)
      | _ => (0, 0))
    else if 240 ≤ b0.toNat ∧ b0.toNat < 248 then (match r with
      | b1 :: b2 :: b3 :: _ => if cb b1 = true ∧ cb b2 = true ∧ cb b3 = true ∧ 65536 ≤ n4 b0 b1 b2 b3 ∧ n4 b0 b1 b2 b3 ≤ 1114111 then (n4 b0 b1 b2 b3, 4) else (0, 0)
      | _ => (0, 0))
    else (0, 0)
theorem u8_lt (b : UInt8) : b.toNat < 256 := b.toNat_lt
theorem cb_iff {b : UInt8} : cb b = true ↔ 128 ≤ b.toNat ∧ b.toNat < 192 := by simp [cb]
theorem cb_not {b : UInt8} : cb b = false ↔ ¬ (128 ≤ b.toNat ∧ b.toNat < 192) := by simp [cb]
section
variable {N : Nat}
theorem more_ok (s : List UInt8) (j : Nat) : ref09_more N s (j : Int) = some (match s[j]? with
    | some b => if cb b = true then (((b.toNat - 128 : Nat) : Int), true) else (0, false)
    | none => (0, false)) := by
  cases h : s[j]? with
  | none =>
    have hl : (s.length : Int) ≤ (j : Int) := by have := List.getElem?_eq_none_iff.1 h; omega
    simp [ref09_more, hl]
  | some b =>
    obtain ⟨hj, hb⟩ := List.getElem?_eq_some_iff.1 h
    have hl : ¬ (s.length : Int) ≤ (j : Int) := by omega
    have hg : getI s (j : Int) = some b := by rw [getI_nat, h]
    have hlt := u8_lt b
    cases hc : cb b with
    | true =>
      rw [cb_iff] at hc
      have c1 : ¬ (b.toNat : Int) < 128 := by omega
      have c2 : ¬ (191 : Int) < (b.toNat : Int) := by omega
      have e1 : Go.IntKind.wrap .i64 (b.toNat : Int) = (b.toNat : Int) := wrap64 (by omega) (by omega)
      have e2 : Go.IntKind.wrap .i64 ((b.toNat : Int) - 128) = ((b.toNat - 128 : Nat) : Int) := by rw [wrap64 (by omega) (by omega)]; omega
      have hc2 := cb_iff.2 hc
      simp [ref09_more, hl, hg, c1, c2, e1, e2, hc2]
    | false =>
      have hcf := hc
      rw [cb_not] at hc
      by_cases c1 : (b.toNat : Int) < 128
      · simp [ref09_more, hl, hg, c1, hcf]
      · have c2 : (191 : Int) < (b.toNat : Int) := by omega
        simp [ref09_more, hl, hg, c1, c2, hcf]
theorem round_ok (X) (s : List UInt8) (i need n k : Nat) (least : Int) (h1 : i < 1000000000) (h2 : n < 1000000000) (h3 : k < 10) : ref09_sign_L13 N X s (i : Int) (need : Int) (n : Int) least (k : Int) =
    if k ≤ need then (match s[i + k]? with
      | some b => if cb b = true then X ((s, ((i : Int), ((need : Int), (((64 * n + (b.toNat - 128) : Nat) : Int), (least, (((k + 1 : Nat) : Int), ())))))), ()) else some (.inl ((0, (0, ())), ()))
      | none => some (.inl ((0, (0, ())), ())))
    else some (.inr (((need : Int), ((n : Int), (least, ()))), ())) := by
  have e0 : Go.IntKind.wrap .i64 ((i : Int) + (k : Int)) = ((i + k : Nat) : Int) := by rw [wrap64 (by omega) (by omega)]; omega
  have e1 : Go.IntKind.wrap .i64 ((k : Int) + 1) = ((k + 1 : Nat) : Int) := by rw [wrap64 (by omega) (by omega)]; omega
  have e2 : Go.IntKind.wrap .i64 (64 * (n : Int)) = ((64 * n : Nat) : Int) := by rw [wrap64 (by omega) (by omega)]; omega
  unfold ref09_sign_L13
  rw [e0, more_ok]
  by_cases hk : k ≤ need
  · have c1 : (k : Int) ≤ (need : Int) := by omega
    rw [if_pos hk]
    simp only [c1, decide_true, cond_true, Option.bind_some]
    cases h : s[i + k]? with
    | none => simp
    | some b =>
      have hlt := u8_lt b
      cases hc : cb b with
      | false => simp [hc]
      | true =>
        have e3 : Go.IntKind.wrap .i64 (((64 * n : Nat) : Int) + ((b.toNat - 128 : Nat) : Int)) = ((64 * n + (b.toNat - 128) : Nat) : Int) := by rw [wrap64 (by omega) (by omega)]; omega
        simp only [hc, if_true, Bool.not_true, cond_false, e1, e2, e3]
  · have c1 : ¬ (k : Int) ≤ (need : Int) := by omega
    rw [if_neg hk]
    simp only [c1, decide_false, cond_false]
/-- Bytes that go on, so many. -/
def contS : Nat → List UInt8 → Nat → Option Nat
  | 0, _, n => some n
  | _ + 1, [], _ => none
  | k + 1, b :: r, n => if cb b = true then contS k r (64 * n + (b.toNat - 128)) else none
theorem loop_ok (s : List UInt8) (i need : Nat) (least : Int) (h1 : i < 1000000000) (hn : need ≤ 3) : ∀ (left k M n : Nat), k + left = need + 1 → 1 ≤ k → left < M → n < 64 ^ k →
    gl (fun X c => ref09_sign_L13 N X c.1.1 c.1.2.1 c.1.2.2.1 c.1.2.2.2.1 c.1.2.2.2.2.1 c.1.2.2.2.2.2.1) M ((s, ((i : Int), ((need : Int), ((n : Int), (least, ((k : Int), ())))))), ()) =
      some (match contS left (s.drop (i + k)) n with
        | some m => .inr (((need : Int), ((m : Int), (least, ()))), ())
        | none => .inl ((0, (0, ())), ()))
  | 0, k, M + 1, n, hk, hk1, hM, hn2 => by
    have hb : (64 : Nat) ^ k ≤ 64 ^ 4 := Nat.pow_le_pow_right (by decide) (by omega)
    have hb4 : (64 : Nat) ^ 4 = 16777216 := by decide
    rw [gl_succ, round_ok _ s i need n k least h1 (by omega) (by omega), if_neg (by omega)]
    rfl
  | left + 1, k, M + 1, n, hk, hk1, hM, hn2 => by
    have hb : (64 : Nat) ^ k ≤ 64 ^ 4 := Nat.pow_le_pow_right (by decide) (by omega)
    have hb4 : (64 : Nat) ^ 4 = 16777216 := by decide
    rw [gl_succ, round_ok _ s i need n k least h1 (by omega) (by omega), if_pos (by omega)]
    cases h : s[i + k]? with
    | none =>
      have := List.getElem?_eq_none_iff.1 h
      rw [List.drop_eq_nil_of_le this]
      rfl
    | some b =>
      obtain ⟨hj, hbb⟩ := List.getElem?_eq_some_iff.1 h
      rw [List.drop_eq_getElem_cons hj, hbb]
      have hlt := u8_lt b
      simp only [contS]
      cases hc : cb b with
      | false => rfl
      | true =>
        rw [cb_iff] at hc
        have hp : 64 ^ (k + 1) = 64 * 64 ^ k := by rw [Nat.pow_succ]; omega
        have ih := loop_ok s i need least h1 hn left (k + 1) M (64 * n + (b.toNat - 128)) (by omega) (by omega) (by omega) (by rw [hp]; omega)
        simp only [if_true]
        exact ih
theorem sign_ok (hN : 10 ≤ N) (s : List UInt8) (i : Nat) (hi : i < s.length) (hb : s.length < 1000000000) : ref09_sign N s (i : Int) = some (((sg (s.drop i)).1 : Int), ((sg (s.drop i)).2 : Int)) := by
  have hd := List.drop_eq_getElem_cons hi
  obtain ⟨b0, hb0⟩ : ∃ b, b = s[i] := ⟨_, rfl⟩
  obtain ⟨r, hr⟩ : ∃ r, r = s.drop (i + 1) := ⟨_, rfl⟩
  rw [← hb0, ← hr] at hd
  have hg : getI s (i : Int) = some b0 := by rw [getI_lt s i hi, hb0]
  have hlt := u8_lt b0
  have w0 : Go.IntKind.wrap .i64 (b0.toNat : Int) = b0.toNat := wrap64 (by omega) (by omega)
  have L : ∀ (need n : Nat) (least : Int), 1 ≤ need → need ≤ 3 → n < 64 → ref09_sign_L13_R N ((s, ((i : Int), ((need : Int), ((n : Int), (least, ((1 : Int), ())))))), ()) =
      some (match contS need r n with
        | some m => .inr (((need : Int), ((m : Int), (least, ()))), ())
        | none => .inl ((0, (0, ())), ())) := fun need n least h1 h2 h3 => by
    have := loop_ok (N := N) s i need least (by omega) h2 need 1 N n (by omega) (by omega) (by omega) (by omega)
    rw [hr]
    exact this
  rw [hd]
  unfold ref09_sign
  rw [hg]
  simp only [Option.bind_some, w0]
  by_cases c1 : b0.toNat < 128
  · have d1 : (b0.toNat : Int) < 128 := by omega
    simp [sg, c1, d1]
  have d1 : ¬ (b0.toNat : Int) < 128 := by omega
  by_cases c2 : 192 ≤ b0.toNat ∧ b0.toNat < 224
  · have d2 : (192 : Int) ≤ (b0.toNat : Int) := by omega
    have d3 : (b0.toNat : Int) < 224 := by omega
    have e1 : Go.IntKind.wrap .i64 ((b0.toNat : Int) - 192) = ((b0.toNat - 192 : Nat) : Int) := by rw [wrap64 (by omega) (by omega)]; omega
    have l := L 1 (b0.toNat - 192) 128 (by omega) (by omega) (by omega)
    simp only [d1, d2, d3, decide_true, decide_false, cond_true, cond_false, e1]
    have l' : ref09_sign_L13_R N ((s, ((i : Int), ((1 : Int), (((b0.toNat - 192 : Nat) : Int), ((128 : Int), ((1 : Int), ())))))), ()) = _ := l
    rw [l']
    simp only [sg, c1, if_false, c2, and_self, if_true]
    cases r with
    | nil => simp [contS]
    | cons b1 r =>
      have hlt1 := u8_lt b1
      cases hc : cb b1 with
      | false => simp [contS, hc]
      | true =>
        have hc' := cb_iff.1 hc
        have e2 : 64 * (b0.toNat - 192) + (b1.toNat - 128) = n2 b0 b1 := by unfold n2; omega
        have hn : n2 b0 b1 < 2048 := by unfold n2; omega
        simp only [contS, hc, if_true, e2, Option.bind_some, Sum.elim_inr]
        have q1 : ¬ (1114111 : Int) < (n2 b0 b1 : Int) := by omega
        have q2 : ¬ (55296 : Int) ≤ (n2 b0 b1 : Int) := by omega
        by_cases q3 : 128 ≤ n2 b0 b1
        · have q4 : ¬ (n2 b0 b1 : Int) < 128 := by omega
          simp [q1, q2, q3, q4, wrap64]
        · have q4 : (n2 b0 b1 : Int) < 128 := by omega
          simp [q3, q4]
  by_cases c3 : 224 ≤ b0.toNat ∧ b0.toNat < 240
  · have d2 : (192 : Int) ≤ (b0.toNat : Int) := by omega
    have d3 : ¬ (b0.toNat : Int) < 224 := by omega
    have d4 : (224 : Int) ≤ (b0.toNat : Int) := by omega
    have d5 : (b0.toNat : Int) < 240 := by omega
    have e1 : Go.IntKind.wrap .i64 ((b0.toNat : Int) - 224) = ((b0.toNat - 224 : Nat) : Int) := by rw [wrap64 (by omega) (by omega)]; omega
    have l := L 2 (b0.toNat - 224) 2048 (by omega) (by omega) (by omega)
    simp only [d1, d2, d3, d4, d5, decide_true, decide_false, cond_true, cond_false, e1]
    have l' : ref09_sign_L13_R N ((s, ((i : Int), ((2 : Int), (((b0.toNat - 224 : Nat) : Int), ((2048 : Int), ((1 : Int), ())))))), ()) = _ := l
    rw [l']
    simp only [sg, c1, if_false, c2, c3, and_self, if_true]
    match r with
    | [] => simp [contS]
    | [b1] => cases hc : cb b1 <;> simp [contS, hc]
    | b1 :: b2 :: r =>
      have hlt1 := u8_lt b1
      have hlt2 := u8_lt b2
      cases hc : cb b1 with
      | false => simp [contS, hc]
      | true =>
        cases hc2 : cb b2 with
        | false => simp [contS, hc, hc2]
        | true =>
          have hc' := cb_iff.1 hc
          have hc2' := cb_iff.1 hc2
          have e2 : 64 * (64 * (b0.toNat - 224) + (b1.toNat - 128)) + (b2.toNat - 128) = n3 b0 b1 b2 := by unfold n3; omega
          have hn : n3 b0 b1 b2 < 65536 := by unfold n3; omega
          simp only [contS, hc, hc2, if_true, e2, Option.bind_some, Sum.elim_inr]
          have q1 : ¬ (1114111 : Int) < (n3 b0 b1 b2 : Int) := by omega
          by_cases q3 : 2048 ≤ n3 b0 b1 b2
          · have q4 : ¬ (n3 b0 b1 b2 : Int) < 2048 := by omega
            by_cases q5 : 55296 ≤ n3 b0 b1 b2
            · have q6 : (55296 : Int) ≤ (n3 b0 b1 b2 : Int) := by omega
              by_cases q7 : n3 b0 b1 b2 ≤ 57343
              · have q8 : (n3 b0 b1 b2 : Int) ≤ 57343 := by omega
                simp [q1, q3, q4, q5, q6, q7, q8]
              · have q8 : ¬ (n3 b0 b1 b2 : Int) ≤ 57343 := by omega
                simp [q1, q3, q4, q5, q6, q7, q8, wrap64]
            · have q6 : ¬ (55296 : Int) ≤ (n3 b0 b1 b2 : Int) := by omega
              simp [q1, q3, q4, q5, q6, wrap64]
          · have q4 : (n3 b0 b1 b2 : Int) < 2048 := by omega
            simp [q3, q4]
  have hne : ¬ ((192 : Int) ≤ (b0.toNat : Int) ∧ (b0.toNat : Int) < 224) := by omega
  have hne2 : ¬ ((224 : Int) ≤ (b0.toNat : Int) ∧ (b0.toNat : Int) < 240) := by omega
  by_cases c4 : 240 ≤ b0.toNat ∧ b0.toNat < 248
  · have d2 : (192 : Int) ≤ (b0.toNat : Int) := by omega
    have d3 : ¬ (b0.toNat : Int) < 224 := by omega
    have d4 : (224 : Int) ≤ (b0.toNat : Int) := by omega
    have d5 : ¬ (b0.toNat : Int) < 240 := by omega
    have d6 : (240 : Int) ≤ (b0.toNat : Int) := by omega
    have d7 : (b0.toNat : Int) < 248 := by omega
    have e1 : Go.IntKind.wrap .i64 ((b0.toNat : Int) - 240) = ((b0.toNat - 240 : Nat) : Int) := by rw [wrap64 (by omega) (by omega)]; omega
    have l := L 3 (b0.toNat - 240) 65536 (by omega) (by omega) (by omega)
    simp only [d1, d2, d3, d4, d5, d6, d7, decide_true, decide_false, cond_true, cond_false, e1]
    have l' : ref09_sign_L13_R N ((s, ((i : Int), ((3 : Int), (((b0.toNat - 240 : Nat) : Int), ((65536 : Int), ((1 : Int), ())))))), ()) = _ := l
    rw [l']
    simp only [sg, c1, if_false, c2, c3, c4, and_self, if_true]
    match r with
    | [] => simp [contS]
    | [b1] => cases hc : cb b1 <;> simp [contS, hc]
    | [b1, b2] => cases hc : cb b1 <;> cases hc2 : cb b2 <;> simp [contS, hc, hc2]
    | b1 :: b2 :: b3 :: r =>
      have hlt1 := u8_lt b1
      have hlt2 := u8_lt b2
      have hlt3 := u8_lt b3
      cases hc : cb b1 with
      | false => simp [contS, hc]
      | true =>
        cases hc2 : cb b2 with
        | false => simp [contS, hc, hc2]
        | true =>
          cases hc3 : cb b3 with
          | false => simp [contS, hc, hc2, hc3]
          | true =>
            have hc' := cb_iff.1 hc
            have hc2' := cb_iff.1 hc2
            have hc3' := cb_iff.1 hc3
            have e2 : 64 * (64 * (64 * (b0.toNat - 240) + (b1.toNat - 128)) + (b2.toNat - 128)) + (b3.toNat - 128) = n4 b0 b1 b2 b3 := by unfold n4; omega
            simp only [contS, hc, hc2, hc3, if_true, e2, Option.bind_some, Sum.elim_inr]
            by_cases q3 : 65536 ≤ n4 b0 b1 b2 b3
            · have q4 : ¬ (n4 b0 b1 b2 b3 : Int) < 65536 := by omega
              have q6 : (55296 : Int) ≤ (n4 b0 b1 b2 b3 : Int) := by omega
              have q8 : ¬ (n4 b0 b1 b2 b3 : Int) ≤ 57343 := by omega
              by_cases q1 : n4 b0 b1 b2 b3 ≤ 1114111
              · have q2 : ¬ (1114111 : Int) < (n4 b0 b1 b2 b3 : Int) := by omega
                simp [q1, q2, q3, q4, q6, q8, wrap64]
              · have q2 : (1114111 : Int) < (n4 b0 b1 b2 b3 : Int) := by omega
                simp [q1, q2, q3, q4]
            · have q4 : (n4 b0 b1 b2 b3 : Int) < 65536 := by omega
              simp [q3, q4]
  simp only [sg, c1, if_false, c2, c3, c4]
  by_cases d2 : (192 : Int) ≤ (b0.toNat : Int)
  · have d3 : ¬ (b0.toNat : Int) < 224 := by omega
    have d4 : (224 : Int) ≤ (b0.toNat : Int) := by omega
    have d5 : ¬ (b0.toNat : Int) < 240 := by omega
    have d6 : (240 : Int) ≤ (b0.toNat : Int) := by omega
    have d7 : ¬ (b0.toNat : Int) < 248 := by omega
    simp [d1, d2, d3, d4, d5, d6, d7]
  · have d4 : ¬ (224 : Int) ≤ (b0.toNat : Int) := by omega
    have d6 : ¬ (240 : Int) ≤ (b0.toNat : Int) := by omega
    simp [d1, d2, d4, d6]
end
end Go.Proofs.YtlfmdaicfkglmaaDoor
/-
  Signs of texts: all of them; runes; words of eight bytes.
-/
namespace Go.Proofs.YtlfmdaicfkglmaaDoor
set_option maxRecDepth 100000
open Go.RowKit
set_option linter.unusedVariables false
set_option linter.unusedSimpArgs false
set_option maxRecDepth 100000

theorem sg_both : ∀ l : List UInt8, (sg l).2 ≤ l.length ∧ (sg l).1 ≤ 1114111
  | [] => by simp [sg]
  | b0 :: r => by
    have hlt := u8_lt b0
    by_cases c1 : b0.toNat < 128
    · simp only [sg, c1, if_true, List.length_cons]; omega
    by_cases c2 : 192 ≤ b0.toNat ∧ b0.toNat < 224
    · simp only [sg, c1, c2, and_self, if_true, if_false]
      match r with
      | [] => simp
      | b1 :: r =>
        have := u8_lt b1
        simp only
        split
        · unfold n2; simp only [List.length_cons]; omega
        · simp
    by_cases c3 : 224 ≤ b0.toNat ∧ b0.toNat < 240
    · simp only [sg, c1, c2, c3, and_self, if_true, if_false]
      match r with
      | [] => simp
      | [b1] => simp
      | b1 :: b2 :: r =>
        have := u8_lt b1
        have := u8_lt b2
        simp only
        split
        · unfold n3; simp only [List.length_cons]; omega
        · simp
    by_cases c4 : 240 ≤ b0.toNat ∧ b0.toNat < 248
    · simp only [sg, c1, c2, c3, c4, and_self, if_true, if_false]
      match r with
      | [] => simp
      | [b1] => simp
      | [b1, b2] => simp
      | b1 :: b2 :: b3 :: r =>
        simp only
        split
        · rename_i h; simp only [List.length_cons]; omega
        · simp
    simp [sg, c1, c2, c3, c4]
theorem sg_le (l : List UInt8) : (sg l).2 ≤ l.length := (sg_both l).1
theorem sg_bound (l : List UInt8) : (sg l).1 ≤ 1114111 := (sg_both l).2
/-- All signs of bytes; none, if one of them is not right. -/
def sgs (l : List UInt8) : Option (List Nat) :=
  if h : l = [] then some [] else if hw : (sg l).2 = 0 then none else (sgs (l.drop (sg l).2)).map ((sg l).1 :: ·)
termination_by l.length
decreasing_by
  have : l.length ≠ 0 := fun h0 => h (List.eq_nil_of_length_eq_zero h0)
  simp only [List.length_drop]; omega
theorem sgs_nil : sgs [] = some [] := by rw [sgs]; simp
theorem sgs_bad {l : List UInt8} (h : l ≠ []) (hw : (sg l).2 = 0) : sgs l = none := by rw [sgs]; simp [h, hw]
theorem sgs_go {l : List UInt8} (h : l ≠ []) (hw : (sg l).2 ≠ 0) : sgs l = (sgs (l.drop (sg l).2)).map ((sg l).1 :: ·) := by rw [sgs]; simp [h, hw]
theorem sgs_bound : ∀ (n : Nat) (l : List UInt8) (m : List Nat), l.length ≤ n → sgs l = some m → (∀ x ∈ m, x ≤ 1114111) ∧ m.length ≤ l.length
  | n, [], m, _, h => by rw [sgs_nil] at h; injection h with h; subst h; simp
  | 0, b :: l, m, hn, h => by simp at hn
  | n + 1, b :: l, m, hn, h => by
    by_cases hw : (sg (b :: l)).2 = 0
    · rw [sgs_bad (by simp) hw] at h; cases h
    · rw [sgs_go (by simp) hw, Option.map_eq_some_iff] at h
      obtain ⟨m', h1, rfl⟩ := h
      have hd : ((b :: l).drop (sg (b :: l)).2).length ≤ n := by rw [List.length_drop]; omega
      obtain ⟨i1, i2⟩ := sgs_bound n _ m' hd h1
      refine ⟨fun x hx => ?_, ?_⟩
      · rcases List.mem_cons.1 hx with rfl | hx
        · exact sg_bound _
        · exact i1 x hx
      · have := sg_le (b :: l)
        rw [List.length_drop] at i2
        rw [List.length_cons]
        omega

/-! ### Runes -/
theorem cb64 (b : UInt8) : (b.toNat / 64 == 2) = cb b := by
  rw [Bool.eq_iff_iff]
  simp only [beq_iff_eq, cb, decide_eq_true_eq]
  omega
theorem bget (s : List UInt8) (j : Nat) : (ByteArray.mk s.toArray).get! j = s.getD j default := by
  show s.toArray[j]! = _
  rw [List.getElem!_toArray, List.getElem!_eq_getElem?_getD, List.getD_eq_getElem?_getD]
theorem rdec_ok (s : List UInt8) (i : Nat) (hi : i < s.length) : rdec s (i : Int) = if (sg (s.drop i)).2 = 0 then (65533, 1) else (((sg (s.drop i)).1 : Int), ((sg (s.drop i)).2 : Int)) := by
  have hd := List.drop_eq_getElem_cons hi
  obtain ⟨b0, hb0⟩ : ∃ b, b = s[i] := ⟨_, rfl⟩
  obtain ⟨r, hr⟩ : ∃ r, r = s.drop (i + 1) := ⟨_, rfl⟩
  rw [← hb0, ← hr] at hd
  have hlt := u8_lt b0
  have hsz : (ByteArray.mk s.toArray).size = s.length := by show s.toArray.size = _; simp
  have at0 : s.getD i default = b0 := by rw [List.getD_eq_getElem?_getD, List.getElem?_eq_getElem hi, Option.getD_some, hb0]
  have g : ∀ k, s[i + (k + 1)]? = r[k]? := fun k => by rw [hr, List.getElem?_drop]; congr 1; omega
  have ats : ∀ k b, r[k]? = some b → s.getD (i + (k + 1)) default = b ∧ decide (i + (k + 1) < s.length) = true := fun k b h => by
    have h1 := g k
    rw [h] at h1
    exact ⟨by rw [List.getD_eq_getElem?_getD, h1]; rfl, decide_eq_true (List.getElem?_eq_some_iff.1 h1).1⟩
  have atn : ∀ k, r[k]? = none → decide (i + (k + 1) < s.length) = false := fun k h => by
    have h1 := g k
    rw [h] at h1
    exact decide_eq_false (by have := List.getElem?_eq_none_iff.1 h1; omega)
  rw [hd]
  unfold rdec Utf8.decode
  simp only [Int.toNat_natCast, hsz, bget, Nat.add_zero, at0, cb64]
  have m2 : (b0.toNat / 32 == 6) = decide (192 ≤ b0.toNat ∧ b0.toNat < 224) := by rw [Bool.eq_iff_iff]; simp only [beq_iff_eq, decide_eq_true_eq]; omega
  have m3 : (b0.toNat / 16 == 14) = decide (224 ≤ b0.toNat ∧ b0.toNat < 240) := by rw [Bool.eq_iff_iff]; simp only [beq_iff_eq, decide_eq_true_eq]; omega
  have m4 : (b0.toNat / 8 == 30) = decide (240 ≤ b0.toNat ∧ b0.toNat < 248) := by rw [Bool.eq_iff_iff]; simp only [beq_iff_eq, decide_eq_true_eq]; omega
  simp only [m2, m3, m4]
  by_cases c1 : b0.toNat < 128
  · simp [sg, c1]
  simp only [c1, if_false]
  by_cases c2 : 192 ≤ b0.toNat ∧ b0.toNat < 224
  · have c3 : ¬ (224 ≤ b0.toNat ∧ b0.toNat < 240) := by omega
    have c4 : ¬ (240 ≤ b0.toNat ∧ b0.toNat < 248) := by omega
    simp only [sg, c1, if_false, c2, c3, c4, and_self, decide_true, decide_false, Bool.true_and, Bool.false_and, if_true, Bool.false_eq_true]
    match r, ats, atn with
    | [], ats, atn =>
      simp [atn 0 rfl, Utf8.runeError]
    | b1 :: r, ats, atn =>
      obtain ⟨a1, a2⟩ := ats 0 b1 rfl
      simp only [Nat.zero_add] at a1 a2
      have hlt1 := u8_lt b1
      simp only [a1, a2, Bool.true_and]
      cases hc : cb b1 with
      | false => simp [Utf8.runeError]
      | true =>
        have hc' := cb_iff.1 hc
        have e2 : b0.toNat % 32 * 64 + b1.toNat % 64 = n2 b0 b1 := by unfold n2; omega
        simp only [if_true, e2, true_and, ge_iff_le]
        by_cases q3 : 128 ≤ n2 b0 b1 <;> simp [q3, Utf8.runeError]
  by_cases c3 : 224 ≤ b0.toNat ∧ b0.toNat < 240
  · have c4 : ¬ (240 ≤ b0.toNat ∧ b0.toNat < 248) := by omega
    simp only [sg, c1, if_false, c2, c3, c4, and_self, decide_true, decide_false, Bool.true_and, Bool.false_and, if_true, Bool.false_eq_true]
    match r, ats, atn with
    | [], ats, atn => simp [atn 0 rfl, Utf8.runeError]
    | [b1], ats, atn =>
      have h2 := atn 1 rfl
      simp only [Nat.reduceAdd] at h2
      simp [h2, Utf8.runeError]
    | b1 :: b2 :: r, ats, atn =>
      obtain ⟨a1, a2⟩ := ats 0 b1 rfl
      obtain ⟨a3, a4⟩ := ats 1 b2 rfl
      simp only [Nat.zero_add, Nat.reduceAdd] at a1 a2 a3 a4
      have hlt1 := u8_lt b1
      have hlt2 := u8_lt b2
      simp only [a1, a2, a3, a4, Bool.true_and]
      cases hc : cb b1 with
      | false => simp [Utf8.runeError]
      | true =>
        cases hc2 : cb b2 with
        | false => simp [Utf8.runeError]
        | true =>
          have hc' := cb_iff.1 hc
          have hc2' := cb_iff.1 hc2
          have e2 : b0.toNat % 16 * 4096 + b1.toNat % 64 * 64 + b2.toNat % 64 = n3 b0 b1 b2 := by unfold n3; omega
          have hn : n3 b0 b1 b2 < 65536 := by unfold n3; omega
          have hv : Utf8.valid ((n3 b0 b1 b2 : Nat) : Int) = decide (¬ (55296 ≤ n3 b0 b1 b2 ∧ n3 b0 b1 b2 ≤ 57343)) := by
            rw [Bool.eq_iff_iff]
            simp only [Utf8.valid, Bool.or_eq_true, Bool.and_eq_true, decide_eq_true_eq]
            omega
          simp only [if_true, e2, true_and, ge_iff_le, Bool.and_self, hv]
          by_cases q3 : 2048 ≤ n3 b0 b1 b2
          · by_cases q5 : 55296 ≤ n3 b0 b1 b2 ∧ n3 b0 b1 b2 ≤ 57343
            · simp [q3, q5, Utf8.runeError]
            · simp only [q3, q5, decide_true, decide_false, not_false_eq_true, Bool.true_and, if_true, and_self]; simp
          · simp [q3, Utf8.runeError]
  by_cases c4 : 240 ≤ b0.toNat ∧ b0.toNat < 248
  · simp only [sg, c1, if_false, c2, c3, c4, and_self, decide_true, decide_false, Bool.true_and, Bool.false_and, if_true, Bool.false_eq_true]
    match r, ats, atn with
    | [], ats, atn => simp [atn 0 rfl, Utf8.runeError]
    | [b1], ats, atn =>
      have h2 := atn 1 rfl
      simp only [Nat.reduceAdd] at h2
      simp [h2, Utf8.runeError]
    | [b1, b2], ats, atn =>
      have h2 := atn 2 rfl
      simp only [Nat.reduceAdd] at h2
      simp [h2, Utf8.runeError]
    | b1 :: b2 :: b3 :: r, ats, atn =>
      obtain ⟨a1, a2⟩ := ats 0 b1 rfl
      obtain ⟨a3, a4⟩ := ats 1 b2 rfl
      obtain ⟨a5, a6⟩ := ats 2 b3 rfl
      simp only [Nat.zero_add, Nat.reduceAdd] at a1 a2 a3 a4 a5 a6
      have hlt1 := u8_lt b1
      have hlt2 := u8_lt b2
      have hlt3 := u8_lt b3
      simp only [a1, a2, a3, a4, a5, a6, Bool.true_and]
      cases hc : cb b1 with
      | false => simp [Utf8.runeError]
      | true =>
        cases hc2 : cb b2 with
        | false => simp [Utf8.runeError]
        | true =>
          cases hc3 : cb b3 with
          | false => simp [Utf8.runeError]
          | true =>
            have hc' := cb_iff.1 hc
            have hc2' := cb_iff.1 hc2
            have hc3' := cb_iff.1 hc3
            have e2 : b0.toNat % 8 * 262144 + b1.toNat % 64 * 4096 + b2.toNat % 64 * 64 + b3.toNat % 64 = n4 b0 b1 b2 b3 := by unfold n4; omega
            simp only [if_true, e2, true_and, ge_iff_le, Bool.and_self]
            by_cases q3 : 65536 ≤ n4 b0 b1 b2 b3
            · have hv : Utf8.valid ((n4 b0 b1 b2 b3 : Nat) : Int) = decide (n4 b0 b1 b2 b3 ≤ 1114111) := by
                rw [Bool.eq_iff_iff]
                simp only [Utf8.valid, Bool.or_eq_true, Bool.and_eq_true, decide_eq_true_eq]
                omega
              rw [hv]
              by_cases q5 : n4 b0 b1 b2 b3 ≤ 1114111 <;> simp [q3, q5, Utf8.runeError]
            · simp [q3, Utf8.runeError]
  simp [sg, c1, c2, c3, c4, Utf8.runeError]
/-- Bytes below 128 are signs. -/
theorem sg_low {b : UInt8} {l : List UInt8} (h : b.toNat < 128) : sg (b :: l) = (b.toNat, 1) := by simp [sg, h]
theorem sgs_low : ∀ (k : Nat) (l : List UInt8), k ≤ l.length → (∀ j b, j < k → l[j]? = some b → b.toNat < 128) → (sgs (l.drop k)).isSome = (sgs l).isSome
  | 0, l, _, _ => by simp
  | k + 1, [], hk, _ => by simp at hk
  | k + 1, b :: l, hk, h => by
    have hb := h 0 b (by omega) rfl
    rw [List.drop_succ_cons, sgs_low k l (by simpa using hk) (fun j c hj hc => h (j + 1) c (by omega) (by simpa using hc)), sgs_go (l := b :: l) (by simp) (by rw [sg_low hb]; simp), sg_low hb]
    simp
end Go.Proofs.YtlfmdaicfkglmaaDoor
/-
  Which texts are right: the library's look at them, and what the signs say.
-/
namespace Go.Proofs.YtlfmdaicfkglmaaDoor
set_option maxRecDepth 100000
open Go.RowKit
set_option linter.unusedVariables false
set_option linter.unusedSimpArgs false
set_option maxRecDepth 100000

/-! ### Words of eight bytes -/
theorem q64_and (a b : Nat) (ha : a < 18446744073709551616) (hb : b < 18446744073709551616) : bits .and .u64 (a : Int) (b : Int) = ((a &&& b : Nat) : Int) := by
  have hx : a &&& b < 2 ^ 64 := Nat.and_lt_two_pow (n := 64) a (by omega)
  show IntKind.u64.wrap ((BitVec.ofInt 64 (a : Int) &&& BitVec.ofInt 64 (b : Int)).toNat : Int) = _
  rw [BitVec.toNat_and, q64_of a ha, q64_of b hb, IntKind.wrap_u64]
  omega
theorem sh64 (b : UInt8) (k : Nat) (hk : k ≤ 56) : Go.IntKind.wrap .u64 (Go.IntKind.wrap .u64 (b.toNat : Int) * 2 ^ k) = ((b.toNat <<< k : Nat) : Int) := by
  have hlt := u8_lt b
  have h1 : Go.IntKind.wrap .u64 (b.toNat : Int) = b.toNat := wrapU64 (by omega) (by omega)
  have h2 : b.toNat * 2 ^ k < 18446744073709551616 := by
    have : (2 : Nat) ^ k ≤ 2 ^ 56 := Nat.pow_le_pow_right (by decide) hk
    calc b.toNat * 2 ^ k ≤ 255 * 2 ^ 56 := Nat.mul_le_mul (by omega) this
      _ < _ := by decide
  rw [h1, Nat.shiftLeft_eq]
  have e : ((b.toNat : Int) * 2 ^ k) = ((b.toNat * 2 ^ k : Nat) : Int) := by simp
  rw [e]
  exact wrapU64 (by omega) (by omega)
theorem sh_lt (b : UInt8) (k : Nat) (hk : k ≤ 56) : b.toNat <<< k < 18446744073709551616 := by
  have hlt := u8_lt b
  have : (2 : Nat) ^ k ≤ 2 ^ 56 := Nat.pow_le_pow_right (by decide) hk
  rw [Nat.shiftLeft_eq]
  calc b.toNat * 2 ^ k ≤ 255 * 2 ^ 56 := Nat.mul_le_mul (by omega) this
    _ < _ := by decide
theorem or_lt64 {a b : Nat} (ha : a < 18446744073709551616) (hb : b < 18446744073709551616) : a ||| b < 18446744073709551616 := Nat.or_lt_two_pow (n := 64) ha hb
def w8 (a b c d e f g h : UInt8) : Nat := (((((((a.toNat ||| b.toNat <<< 8) ||| c.toNat <<< 16) ||| d.toNat <<< 24) ||| e.toNat <<< 32) ||| f.toNat <<< 40) ||| g.toNat <<< 48) ||| h.toNat <<< 56)
theorem w8_lt (a b c d e f g h : UInt8) : w8 a b c d e f g h < 18446744073709551616 := by
  have ha : a.toNat < 18446744073709551616 := by have := u8_lt a; omega
  exact or_lt64 (or_lt64 (or_lt64 (or_lt64 (or_lt64 (or_lt64 (or_lt64 ha (sh_lt b 8 (by decide))) (sh_lt c 16 (by decide))) (sh_lt d 24 (by decide))) (sh_lt e 32 (by decide))) (sh_lt f 40 (by decide))) (sh_lt g 48 (by decide))) (sh_lt h 56 (by decide))
theorem hi_bit (b : UInt8) (n : Nat) (h : 8 ≤ n) : b.toNat.testBit n = false := Nat.testBit_lt_two_pow (Nat.lt_of_lt_of_le (u8_lt b) (by have : (2 : Nat) ^ 8 ≤ 2 ^ n := Nat.pow_le_pow_right (by decide) h; exact this))
theorem w8_bits (a b c d e f g h : UInt8) :
    (w8 a b c d e f g h).testBit 7 = a.toNat.testBit 7 ∧ (w8 a b c d e f g h).testBit 15 = b.toNat.testBit 7 ∧ (w8 a b c d e f g h).testBit 23 = c.toNat.testBit 7 ∧ (w8 a b c d e f g h).testBit 31 = d.toNat.testBit 7 ∧ (w8 a b c d e f g h).testBit 39 = e.toNat.testBit 7 ∧ (w8 a b c d e f g h).testBit 47 = f.toNat.testBit 7 ∧ (w8 a b c d e f g h).testBit 55 = g.toNat.testBit 7 ∧ (w8 a b c d e f g h).testBit 63 = h.toNat.testBit 7 := by
  have z : ∀ (x : UInt8) (n : Nat), 8 ≤ n → x.toNat.testBit n = false := hi_bit
  refine ⟨?_, ?_, ?_, ?_, ?_, ?_, ?_, ?_⟩ <;> simp [w8, Nat.testBit_or, Nat.testBit_shiftLeft, z]
theorem low_of {x : UInt8} (h : x.toNat.testBit 7 = false) : x.toNat < 128 := by
  have hlt := u8_lt x
  rw [Nat.testBit_eq_decide_div_mod_eq] at h
  simp at h
  omega
def hiM : Nat := 9259542123273814144
theorem hi_zero {w : Nat} (h : w &&& hiM = 0) : w.testBit 7 = false ∧ w.testBit 15 = false ∧ w.testBit 23 = false ∧ w.testBit 31 = false ∧ w.testBit 39 = false ∧ w.testBit 47 = false ∧ w.testBit 55 = false ∧ w.testBit 63 = false := by
  have key : ∀ i, hiM.testBit i = true → w.testBit i = false := fun i hi => by
    have h1 : (w &&& hiM).testBit i = false := by rw [h]; simp
    rw [Nat.testBit_and, hi, Bool.and_true] at h1
    exact h1
  exact ⟨key 7 (by decide), key 15 (by decide), key 23 (by decide), key 31 (by decide), key 39 (by decide), key 47 (by decide), key 55 (by decide), key 63 (by decide)⟩
/-- Its first eight bytes are below 128. -/
def low8 (s : List UInt8) : Prop := ∀ j b, j < 8 → s[j]? = some b → b.toNat < 128
section
variable {N : Nat}
theorem word_ok (s : List UInt8) (h : 8 ≤ s.length) : ∃ w : Nat, w < 18446744073709551616 ∧ unicode_utf8_word_string N s = some (w : Int) ∧ (w &&& hiM = 0 → low8 s) := by
  match s, h with
  | a :: b :: c :: d :: e :: f :: g :: k :: r, _ =>
    refine ⟨w8 a b c d e f g k, w8_lt _ _ _ _ _ _ _ _, ?_, fun hz => ?_⟩
    · have ga : getI (a :: b :: c :: d :: e :: f :: g :: k :: r) (0 : Int) = some a := rfl
      have gb : getI (a :: b :: c :: d :: e :: f :: g :: k :: r) (1 : Int) = some b := rfl
      have gc : getI (a :: b :: c :: d :: e :: f :: g :: k :: r) (2 : Int) = some c := rfl
      have gd : getI (a :: b :: c :: d :: e :: f :: g :: k :: r) (3 : Int) = some d := rfl
      have ge : getI (a :: b :: c :: d :: e :: f :: g :: k :: r) (4 : Int) = some e := rfl
      have gf : getI (a :: b :: c :: d :: e :: f :: g :: k :: r) (5 : Int) = some f := rfl
      have gg : getI (a :: b :: c :: d :: e :: f :: g :: k :: r) (6 : Int) = some g := rfl
      have gk : getI (a :: b :: c :: d :: e :: f :: g :: k :: r) (7 : Int) = some k := rfl
      have ha : a.toNat < 18446744073709551616 := by have := u8_lt a; omega
      have e0 : Go.IntKind.wrap .u64 (a.toNat : Int) = a.toNat := wrapU64 (by omega) (by omega)
      have m8 : min (Int.toNat 8) (IntKind.bits IntKind.u64) = 8 := by decide
      have m16 : min (Int.toNat 16) (IntKind.bits IntKind.u64) = 16 := by decide
      have m24 : min (Int.toNat 24) (IntKind.bits IntKind.u64) = 24 := by decide
      have m32 : min (Int.toNat 32) (IntKind.bits IntKind.u64) = 32 := by decide
      have m40 : min (Int.toNat 40) (IntKind.bits IntKind.u64) = 40 := by decide
      have m48 : min (Int.toNat 48) (IntKind.bits IntKind.u64) = 48 := by decide
      have m56 : min (Int.toNat 56) (IntKind.bits IntKind.u64) = 56 := by decide
      simp only [unicode_utf8_word_string, ga, gb, gc, gd, ge, gf, gg, gk, Option.bind_some, e0, m8, m16, m24, m32, m40, m48, m56, sh64 b 8 (by decide), sh64 c 16 (by decide), sh64 d 24 (by decide), sh64 e 32 (by decide), sh64 f 40 (by decide), sh64 g 48 (by decide), sh64 k 56 (by decide)]
      have l1 := or_lt64 ha (sh_lt b 8 (by decide))
      have l2 := or_lt64 l1 (sh_lt c 16 (by decide))
      have l3 := or_lt64 l2 (sh_lt d 24 (by decide))
      have l4 := or_lt64 l3 (sh_lt e 32 (by decide))
      have l5 := or_lt64 l4 (sh_lt f 40 (by decide))
      have l6 := or_lt64 l5 (sh_lt g 48 (by decide))
      rw [q64_or _ _ ha (sh_lt b 8 (by decide)), q64_or _ _ l1 (sh_lt c 16 (by decide)), q64_or _ _ l2 (sh_lt d 24 (by decide)), q64_or _ _ l3 (sh_lt e 32 (by decide)), q64_or _ _ l4 (sh_lt f 40 (by decide)), q64_or _ _ l5 (sh_lt g 48 (by decide)), q64_or _ _ l6 (sh_lt k 56 (by decide))]
      rfl
    · obtain ⟨b1, b2, b3, b4, b5, b6, b7, b8⟩ := w8_bits a b c d e f g k
      obtain ⟨z1, z2, z3, z4, z5, z6, z7, z8⟩ := hi_zero hz
      rw [z1] at b1; rw [z2] at b2; rw [z3] at b3; rw [z4] at b4; rw [z5] at b5; rw [z6] at b6; rw [z7] at b7; rw [z8] at b8
      intro j x hj hx
      have : j = 0 ∨ j = 1 ∨ j = 2 ∨ j = 3 ∨ j = 4 ∨ j = 5 ∨ j = 6 ∨ j = 7 := by omega
      rcases this with rfl | rfl | rfl | rfl | rfl | rfl | rfl | rfl <;> (simp at hx; subst hx; first | exact low_of b1.symm | exact low_of b2.symm | exact low_of b3.symm | exact low_of b4.symm | exact low_of b5.symm | exact low_of b6.symm | exact low_of b7.symm | exact low_of b8.symm)
theorem low8_drop {s : List UInt8} (h : 8 ≤ s.length) (hl : low8 s) : (sgs (s.drop 8)).isSome = (sgs s).isSome := sgs_low 8 s h hl
theorem or_zero {a b : Nat} (h : (a ||| b) &&& hiM = 0) : a &&& hiM = 0 ∧ b &&& hiM = 0 := by
  constructor
  · apply Nat.eq_of_testBit_eq
    intro i
    have h1 : ((a ||| b) &&& hiM).testBit i = false := by rw [h]; simp
    rw [Nat.testBit_and, Nat.testBit_or] at h1
    rw [Nat.testBit_and, Nat.zero_testBit]
    revert h1; cases a.testBit i <;> cases b.testBit i <;> cases hiM.testBit i <;> simp
  · apply Nat.eq_of_testBit_eq
    intro i
    have h1 : ((a ||| b) &&& hiM).testBit i = false := by rw [h]; simp
    rw [Nat.testBit_and, Nat.testBit_or] at h1
    rw [Nat.testBit_and, Nat.zero_testBit]
    revert h1; cases a.testBit i <;> cases b.testBit i <;> cases hiM.testBit i <;> simp
theorem dropI8 (s : List UInt8) (k : Nat) (h : k ≤ s.length) : dropI s ((k : Nat) : Int) = some (s.drop k) := dropI_nat s rfl h
theorem and_hi (w : Nat) (h : w < 18446744073709551616) : bits .and .u64 (w : Int) (9259542123273814144 : Int) = ((w &&& hiM : Nat) : Int) := q64_and w hiM h (by decide)
theorem loop9 : ∀ (n M : Nat) (s : List UInt8), s.length ≤ n → n < M → ∃ t : List UInt8, gl (fun X c => unicode_utf8_ValidString_L9 N X c.1.1) M ((s, ()), ()) = some ((t, ()), ()) ∧ t.length ≤ s.length ∧ (sgs t).isSome = (sgs s).isSome
  | n, 0, s, _, h => by omega
  | n, M + 1, s, hn, hM => by
    rw [gl_succ]
    by_cases hl : 32 < s.length
    · have c1 : (32 : Int) < (s.length : Int) := by omega
      obtain ⟨w1, a1, a2, a3⟩ := word_ok (N := N) s (by omega)
      obtain ⟨w2, b1, b2, b3⟩ := word_ok (N := N) (s.drop 8) (by rw [List.length_drop]; omega)
      obtain ⟨w3, d1, d2, d3⟩ := word_ok (N := N) (s.drop 16) (by rw [List.length_drop]; omega)
      obtain ⟨w4, e1, e2, e3⟩ := word_ok (N := N) (s.drop 24) (by rw [List.length_drop]; omega)
      have f1 : dropI s (8 : Int) = some (s.drop 8) := dropI8 s 8 (by omega)
      have f2 : dropI s (16 : Int) = some (s.drop 16) := dropI8 s 16 (by omega)
      have f3 : dropI s (24 : Int) = some (s.drop 24) := dropI8 s 24 (by omega)
      have f4 : dropI s (32 : Int) = some (s.drop 32) := dropI8 s 32 (by omega)
      have l1 := or_lt64 a1 b1
      have l2 := or_lt64 d1 e1
      have l3 := or_lt64 l1 l2
      simp only [unicode_utf8_ValidString_L9, c1, decide_true, cond_true, a2, Option.bind_some, f1, b2, f2, d2, f3, e2, f4, q64_or _ _ a1 b1, q64_or _ _ d1 e1, q64_or _ _ l1 l2, and_hi _ l3]
      by_cases hz : ((w1 ||| w2) ||| (w3 ||| w4)) &&& hiM = 0
      · obtain ⟨z1, z2⟩ := or_zero hz
        obtain ⟨z3, z4⟩ := or_zero z1
        obtain ⟨z5, z6⟩ := or_zero z2
        have k1 := low8_drop (by omega) (a3 z3)
        have k2 := low8_drop (by rw [List.length_drop]; omega) (b3 z4)
        have k3 := low8_drop (by rw [List.length_drop]; omega) (d3 z5)
        have k4 := low8_drop (by rw [List.length_drop]; omega) (e3 z6)
        simp only [List.drop_drop, Nat.reduceAdd] at k1 k2 k3 k4
        have ih := loop9 (n - 32) M (s.drop 32) (by rw [List.length_drop]; omega) (by omega)
        obtain ⟨t, t1, t2, t3⟩ := ih
        refine ⟨t, ?_, by rw [List.length_drop] at t2; omega, by rw [t3, k4, k3, k2, k1]⟩
        simp only [hz, Int.natCast_zero, decide_true, cond_true]
        exact t1
      · have hz' : ¬ ((((w1 ||| w2) ||| (w3 ||| w4)) &&& hiM : Nat) : Int) = 0 := by omega
        refine ⟨s, ?_, Nat.le_refl _, rfl⟩
        simp only [hz', decide_false, cond_false]
    · have c1 : ¬ (32 : Int) < (s.length : Int) := by omega
      refine ⟨s, ?_, Nat.le_refl _, rfl⟩
      simp only [unicode_utf8_ValidString_L9, c1, decide_false, cond_false]
/-! ### The library's tables -/
def firstT : List Int := [240, 240, 240, 240, 240, 240, 240, 240, 240, 240, 240, 240, 240, 240, 240, 240, 240, 240, 240, 240, 240, 240, 240, 240, 240, 240, 240, 240, 240, 240, 240, 240, 240, 240, 240, 240, 240, 240, 240, 240, 240, 240, 240, 240, 240, 240, 240, 240, 240, 240, 240, 240, 240, 240, 240, 240, 240, 240, 240, 240, 240, 240, 240, 240, 240, 240, 240, 240, 240, 240, 240, 240, 240, 240, 240, 240, 240, 240, 240, 240, 240, 240, 240, 240, 240, 240, 240, 240, 240, 240, 240, 240, 240, 240, 240, 240, 240, 240, 240, 240, 240, 240, 240, 240, 240, 240, 240, 240, 240, 240, 240, 240, 240, 240, 240, 240, 240, 240, 240, 240, 240, 240, 240, 240, 240, 240, 240, 240, 241, 241, 241, 241, 241, 241, 241, 241, 241, 241, 241, 241, 241, 241, 241, 241, 241, 241, 241, 241, 241, 241, 241, 241, 241, 241, 241, 241, 241, 241, 241, 241, 241, 241, 241, 241, 241, 241, 241, 241, 241, 241, 241, 241, 241, 241, 241, 241, 241, 241, 241, 241, 241, 241, 241, 241, 241, 241, 241, 241, 241, 241, 241, 241, 241, 241, 2, 2, 2, 2, 2, 2, 2, 2, 2, 2, 2, 2, 2, 2, 2, 2, 2, 2, 2, 2, 2, 2, 2, 2, 2, 2, 2, 2, 2, 2, 19, 3, 3, 3, 3, 3, 3, 3, 3, 3, 3, 3, 3, 35, 3, 3, 52, 4, 4, 4, 68, 241, 241, 241, 241, 241, 241, 241, 241, 241, 241, 241]
def accT : List (Int × Int) := [(128, 191), (160, 191), (128, 159), (144, 191), (128, 143), (0, 0), (0, 0), (0, 0), (0, 0), (0, 0), (0, 0), (0, 0), (0, 0), (0, 0), (0, 0), (0, 0)]
/-- What the tables say of a first byte. -/
def tabB (b : Nat) : Option (Int × Int × Int) := match getI firstT (b : Int) with
  | some x => (match getI accT (Int.fdiv x (2 ^ min (Int.toNat 4) (IntKind.bits IntKind.u8))) with
    | some (lo, hi) => some (Go.IntKind.wrap .i64 (bits .and .u8 x 7), lo, hi)
    | none => none)
  | none => none
def tabW (b : Nat) : Int × Int × Int :=
  if 194 ≤ b ∧ b < 224 then (2, 128, 191) else if b = 224 then (3, 160, 191) else if b = 237 then (3, 128, 159) else if 225 ≤ b ∧ b < 240 then (3, 128, 191)
  else if b = 240 then (4, 144, 191) else if 241 ≤ b ∧ b < 244 then (4, 128, 191) else if b = 244 then (4, 128, 143) else (1, 128, 191)
theorem tab_all : ∀ b : Fin 128, (match tabB (128 + b.val), tabW (128 + b.val) with | some (n, lo, hi), (n', lo', hi') => n == n' && (n == 1 || (lo == lo' && hi == hi')) | _, _ => false) = true := by decide +kernel
theorem tab_ok (b : UInt8) (h : 128 ≤ b.toNat) : ∃ x lo hi, getI firstT (b.toNat : Int) = some x ∧ getI accT (Int.fdiv x (2 ^ min (Int.toNat 4) (IntKind.bits IntKind.u8))) = some (lo, hi) ∧
    Go.IntKind.wrap .i64 (bits .and .u8 x 7) = (tabW b.toNat).1 ∧ ((tabW b.toNat).1 = 1 ∨ (lo = (tabW b.toNat).2.1 ∧ hi = (tabW b.toNat).2.2)) := by
  have hlt := u8_lt b
  have := tab_all ⟨b.toNat - 128, by omega⟩
  have e : 128 + (b.toNat - 128) = b.toNat := by omega
  simp only [e, tabB] at this
  split at this
  · rename_i n lo hi n' lo' hi' h1 h2
    split at h1
    · rename_i x hx
      split at h1
      · rename_i p lo1 hi1 hp
        injection h1 with h1
        injection h1 with h3 h4
        injection h4 with h4 h5
        subst h4 h5
        refine ⟨x, lo1, hi1, hx, hp, ?_, ?_⟩
        · rw [h2]
          simp only [Bool.and_eq_true, beq_iff_eq] at this
          rw [h3]; exact this.1
        · rw [h2]
          simp only [Bool.and_eq_true, Bool.or_eq_true, beq_iff_eq] at this
          rcases this.2 with h6 | h6
          · exact .inl (by rw [← this.1]; exact h6)
          · exact .inr h6
      · cases h1
    · cases h1
  · cases this
end
end Go.Proofs.YtlfmdaicfkglmaaDoor
/-
  Texts that are right, and how many signs they have: by the library, by the document.
-/
namespace Go.Proofs.YtlfmdaicfkglmaaDoor
set_option maxRecDepth 100000
open Go.RowKit
set_option linter.unusedVariables false
set_option linter.unusedSimpArgs false
set_option maxRecDepth 100000

theorem sgv2 (b0 : UInt8) (r : List UInt8) (h : 194 ≤ b0.toNat ∧ b0.toNat < 224) : (sg (b0 :: r)).2 = (match r with | b1 :: _ => if 128 ≤ b1.toNat ∧ b1.toNat ≤ 191 then 2 else 0 | _ => 0) := by
  have c1 : ¬ b0.toNat < 128 := by omega
  have c2 : 192 ≤ b0.toNat ∧ b0.toNat < 224 := by omega
  simp only [sg, c1, c2, and_self, if_true, if_false]
  match r with
  | [] => rfl
  | b1 :: r =>
    simp only
    by_cases hc : 128 ≤ b1.toNat ∧ b1.toNat ≤ 191
    · rw [if_pos hc, if_pos ⟨cb_iff.2 (by omega), by unfold n2; omega⟩]
    · rw [if_neg hc, if_neg (fun h => hc (by have := cb_iff.1 h.1; omega))]
theorem sgv3 (b0 : UInt8) (r : List UInt8) (h : 224 ≤ b0.toNat ∧ b0.toNat < 240) : (sg (b0 :: r)).2 = (match r with | b1 :: b2 :: _ => if ((tabW b0.toNat).2.1 ≤ b1.toNat ∧ (b1.toNat : Int) ≤ (tabW b0.toNat).2.2) ∧ 128 ≤ b2.toNat ∧ b2.toNat ≤ 191 then 3 else 0 | _ => 0) ∧ (tabW b0.toNat).1 = 3 := by
  have c1 : ¬ b0.toNat < 128 := by omega
  have c2 : ¬ (192 ≤ b0.toNat ∧ b0.toNat < 224) := by omega
  simp only [sg, c1, c2, h, and_self, if_true, if_false]
  have d1 : ¬ (194 ≤ b0.toNat ∧ b0.toNat < 224) := by omega
  have key : ∀ lo hi : Nat, ((lo = 160 ∧ hi = 191 ∧ b0.toNat = 224) ∨ (lo = 128 ∧ hi = 159 ∧ b0.toNat = 237) ∨ (lo = 128 ∧ hi = 191 ∧ b0.toNat ≠ 224 ∧ b0.toNat ≠ 237)) → (match r with
      | b1 :: b2 :: _ => if cb b1 = true ∧ cb b2 = true ∧ 2048 ≤ n3 b0 b1 b2 ∧ ¬ (55296 ≤ n3 b0 b1 b2 ∧ n3 b0 b1 b2 ≤ 57343) then (n3 b0 b1 b2, 3) else (0, 0)
      | _ => (0, 0)).2 = (match r with | b1 :: b2 :: _ => if ((lo : Int) ≤ b1.toNat ∧ (b1.toNat : Int) ≤ hi) ∧ 128 ≤ b2.toNat ∧ b2.toNat ≤ 191 then 3 else 0 | _ => 0) := by
    intro lo hi hlo
    match r with
    | [] => rfl
    | [b1] => rfl
    | b1 :: b2 :: r =>
      simp only
      by_cases hc : ((lo : Int) ≤ b1.toNat ∧ (b1.toNat : Int) ≤ hi) ∧ 128 ≤ b2.toNat ∧ b2.toNat ≤ 191
      · rw [if_pos hc, if_pos ⟨cb_iff.2 (by omega), cb_iff.2 (by omega), by unfold n3; omega, by unfold n3; omega⟩]
      · rw [if_neg hc, if_neg (fun h => hc (by have h1 := cb_iff.1 h.1; have h2 := cb_iff.1 h.2.1; have h3 := h.2.2; unfold n3 at h3; omega))]
  by_cases e1 : b0.toNat = 224
  · have t : tabW b0.toNat = (3, 160, 191) := by rw [e1]; rfl
    rw [t]; exact ⟨key 160 191 (by omega), rfl⟩
  by_cases e2 : b0.toNat = 237
  · have t : tabW b0.toNat = (3, 128, 159) := by rw [e2]; rfl
    rw [t]; exact ⟨key 128 159 (by omega), rfl⟩
  have t : tabW b0.toNat = (3, 128, 191) := by
    have c5 : 225 ≤ b0.toNat ∧ b0.toNat < 240 := by omega
    simp [tabW, d1, e1, e2, c5]
  rw [t]; exact ⟨key 128 191 (by omega), rfl⟩
theorem sgv4 (b0 : UInt8) (r : List UInt8) (h : 240 ≤ b0.toNat ∧ b0.toNat < 245) : (sg (b0 :: r)).2 = (match r with | b1 :: b2 :: b3 :: _ => if ((tabW b0.toNat).2.1 ≤ b1.toNat ∧ (b1.toNat : Int) ≤ (tabW b0.toNat).2.2) ∧ (128 ≤ b2.toNat ∧ b2.toNat ≤ 191) ∧ 128 ≤ b3.toNat ∧ b3.toNat ≤ 191 then 4 else 0 | _ => 0) ∧ (tabW b0.toNat).1 = 4 := by
  have c1 : ¬ b0.toNat < 128 := by omega
  have c2 : ¬ (192 ≤ b0.toNat ∧ b0.toNat < 224) := by omega
  have c3 : ¬ (224 ≤ b0.toNat ∧ b0.toNat < 240) := by omega
  have c4 : 240 ≤ b0.toNat ∧ b0.toNat < 248 := by omega
  simp only [sg, c1, c2, c3, c4, and_self, if_true, if_false]
  have d1 : ¬ (194 ≤ b0.toNat ∧ b0.toNat < 224) := by omega
  have d2 : ¬ (225 ≤ b0.toNat ∧ b0.toNat < 240) := by omega
  have d3 : ¬ b0.toNat = 224 := by omega
  have d4 : ¬ b0.toNat = 237 := by omega
  have key : ∀ lo hi : Nat, ((lo = 144 ∧ hi = 191 ∧ b0.toNat = 240) ∨ (lo = 128 ∧ hi = 143 ∧ b0.toNat = 244) ∨ (lo = 128 ∧ hi = 191 ∧ b0.toNat ≠ 240 ∧ b0.toNat ≠ 244)) → (match r with
      | b1 :: b2 :: b3 :: _ => if cb b1 = true ∧ cb b2 = true ∧ cb b3 = true ∧ 65536 ≤ n4 b0 b1 b2 b3 ∧ n4 b0 b1 b2 b3 ≤ 1114111 then (n4 b0 b1 b2 b3, 4) else (0, 0)
      | _ => (0, 0)).2 = (match r with | b1 :: b2 :: b3 :: _ => if ((lo : Int) ≤ b1.toNat ∧ (b1.toNat : Int) ≤ hi) ∧ (128 ≤ b2.toNat ∧ b2.toNat ≤ 191) ∧ 128 ≤ b3.toNat ∧ b3.toNat ≤ 191 then 4 else 0 | _ => 0) := by
    intro lo hi hlo
    match r with
    | [] => rfl
    | [b1] => rfl
    | [b1, b2] => rfl
    | b1 :: b2 :: b3 :: r =>
      simp only
      by_cases hc : ((lo : Int) ≤ b1.toNat ∧ (b1.toNat : Int) ≤ hi) ∧ (128 ≤ b2.toNat ∧ b2.toNat ≤ 191) ∧ 128 ≤ b3.toNat ∧ b3.toNat ≤ 191
      · rw [if_pos hc, if_pos ⟨cb_iff.2 (by omega), cb_iff.2 (by omega), cb_iff.2 (by omega), by unfold n4; omega, by unfold n4; omega⟩]
      · rw [if_neg hc, if_neg (fun h => hc (by have h1 := cb_iff.1 h.1; have h2 := cb_iff.1 h.2.1; have h4 := cb_iff.1 h.2.2.1; have h3 := h.2.2.2; unfold n4 at h3; omega))]
  by_cases e1 : b0.toNat = 240
  · have t : tabW b0.toNat = (4, 144, 191) := by rw [e1]; rfl
    rw [t]; exact ⟨key 144 191 (by omega), rfl⟩
  by_cases e2 : b0.toNat = 244
  · have t : tabW b0.toNat = (4, 128, 143) := by rw [e2]; rfl
    rw [t]; exact ⟨key 128 143 (by omega), rfl⟩
  have t : tabW b0.toNat = (4, 128, 191) := by
    have c5 : 241 ≤ b0.toNat ∧ b0.toNat < 244 := by omega
    simp [tabW, d1, d2, d3, d4, e1, e2, c5]
  rw [t]; exact ⟨key 128 191 (by omega), rfl⟩
theorem sgv0 (b0 : UInt8) (r : List UInt8) (h : 128 ≤ b0.toNat) (h' : b0.toNat < 194 ∨ 245 ≤ b0.toNat) : (sg (b0 :: r)).2 = 0 ∧ (tabW b0.toNat).1 = 1 := by
  have hlt := u8_lt b0
  have c1 : ¬ b0.toNat < 128 := by omega
  have c3 : ¬ (224 ≤ b0.toNat ∧ b0.toNat < 240) := by omega
  have d1 : ¬ (194 ≤ b0.toNat ∧ b0.toNat < 224) := by omega
  have d2 : ¬ (225 ≤ b0.toNat ∧ b0.toNat < 240) := by omega
  have d3 : ¬ b0.toNat = 224 := by omega
  have d4 : ¬ b0.toNat = 237 := by omega
  have d5 : ¬ b0.toNat = 240 := by omega
  have d6 : ¬ b0.toNat = 244 := by omega
  have d7 : ¬ (241 ≤ b0.toNat ∧ b0.toNat < 244) := by omega
  refine ⟨?_, by simp [tabW, d1, d2, d3, d4, d5, d6, d7]⟩
  by_cases c2 : 192 ≤ b0.toNat ∧ b0.toNat < 224
  · simp only [sg, c1, c2, and_self, if_true, if_false]
    match r with
    | [] => rfl
    | b1 :: r =>
      simp only
      rw [if_neg (fun h => by have h1 := cb_iff.1 h.1; have h3 := h.2; unfold n2 at h3; omega)]
  by_cases c4 : 240 ≤ b0.toNat ∧ b0.toNat < 248
  · simp only [sg, c1, c2, c3, c4, and_self, if_true, if_false]
    match r with
    | [] => rfl
    | [b1] => rfl
    | [b1, b2] => rfl
    | b1 :: b2 :: b3 :: r =>
      simp only
      rw [if_neg (fun h => by have h3 := h.2.2.2; unfold n4 at h3; omega)]
  simp [sg, c1, c2, c3, c4]
/-- A right sign goes: what is behind it is right, or not, as all is. -/
theorem sgs_step {l : List UInt8} {k : Nat} (hl : l ≠ []) (h : (sg l).2 = k) (hk : k ≠ 0) : (sgs (l.drop k)).isSome = (sgs l).isSome := by
  rw [sgs_go hl (by omega), h]; simp
section
variable {N : Nat}
abbrev VX := (((List UInt8) × Unit) × Unit) → Option (((((Bool) × Unit) × Unit) ⊕ (Unit × Unit)))
def VQ (v : Bool) : ((((Bool) × Unit) × Unit) ⊕ (Unit × Unit)) → Prop
  | .inl q => q.1.1 = v
  | .inr _ => true = v
theorem valid_step (X : VX) (s : List UInt8) (hN : s.length < N) : (∃ o, unicode_utf8_ValidString_L1 N X s = some o ∧ VQ (sgs s).isSome o) ∨ ∃ t : List UInt8, t.length < s.length ∧ (sgs t).isSome = (sgs s).isSome ∧ unicode_utf8_ValidString_L1 N X s = X ((t, ()), ()) := by
  match s, hN with
  | [], _ =>
    left
    exact ⟨_, rfl, by rw [sgs_nil]; rfl⟩
  | b0 :: r, hN =>
    have hlt := u8_lt b0
    have c0 : (0 : Int) < (((b0 :: r).length : Nat) : Int) := by rw [List.length_cons]; omega
    have g0 : getI (b0 :: r) (0 : Int) = some b0 := rfl
    by_cases hb : b0.toNat < 128
    · right
      have c1 : (b0.toNat : Int) < 128 := by omega
      have f1 : dropI (b0 :: r) (1 : Int) = some r := dropI8 (b0 :: r) 1 (by simp)
      have s1 : (sgs r).isSome = (sgs (b0 :: r)).isSome := sgs_step (l := b0 :: r) (k := 1) (by simp) (by rw [sg_low hb]) (by omega)
      by_cases l8 : 8 < r.length
      · have c2 : (8 : Int) < (r.length : Int) := by omega
        obtain ⟨w1, a1, a2, a3⟩ := word_ok (N := N) r (by omega)
        by_cases z1 : w1 &&& hiM = 0
        · have f2 : dropI r (8 : Int) = some (r.drop 8) := dropI8 r 8 (by omega)
          have s2 := low8_drop (by omega) (a3 z1)
          by_cases l16 : 16 < (r.drop 8).length
          · have c3 : (16 : Int) < ((r.drop 8).length : Int) := by omega
            have hlen : (r.drop 8).length = r.length - 8 := List.length_drop
            obtain ⟨w2, b1, b2, b3⟩ := word_ok (N := N) (r.drop 8) (by omega)
            have f3 : dropI (r.drop 8) (8 : Int) = some ((r.drop 8).drop 8) := dropI8 _ 8 (by omega)
            have f4 : dropI (r.drop 8) (16 : Int) = some ((r.drop 8).drop 16) := dropI8 _ 16 (by omega)
            obtain ⟨w3, d1, d2, d3⟩ := word_ok (N := N) ((r.drop 8).drop 8) (by rw [List.length_drop]; omega)
            have l1 := or_lt64 b1 d1
            by_cases z2 : (w2 ||| w3) &&& hiM = 0
            · obtain ⟨y1, y2⟩ := or_zero z2
              have s3 := low8_drop (by omega) (b3 y1)
              have s4 := low8_drop (by rw [List.length_drop]; omega) (d3 y2)
              simp only [List.drop_drop, Nat.reduceAdd] at s3 s4 d2 f3 f4
              obtain ⟨t, t1, t2, t3⟩ := loop9 (N := N) (r.drop 24).length N (r.drop 24) (Nat.le_refl _) (by rw [List.length_drop]; rw [List.length_cons] at hN; omega)
              have t1' : unicode_utf8_ValidString_L9_R N ((r.drop 24, ()), ()) = some ((t, ()), ()) := t1
              refine ⟨t, by rw [List.length_drop] at t2; rw [List.length_cons]; omega, by rw [t3, s4, s3, s2, s1], ?_⟩
              simp only [unicode_utf8_ValidString_L1, c0, g0, c1, f1, c2, a2, f2, c3, b2, f3, d2, f4, decide_true, cond_true, Option.bind_some, and_hi _ a1, z1, Int.natCast_zero, q64_or _ _ b1 d1, and_hi _ l1, z2]
              rw [t1']
              rfl
            · have z2' : ¬ ((((w2 ||| w3) &&& hiM : Nat) : Int)) = 0 := by omega
              refine ⟨r.drop 8, by rw [List.length_cons]; omega, by rw [s2, s1], ?_⟩
              simp only [unicode_utf8_ValidString_L1, c0, g0, c1, f1, c2, a2, f2, c3, b2, f3, d2, f4, decide_true, decide_false, cond_true, cond_false, Option.bind_some, and_hi _ a1, z1, Int.natCast_zero, q64_or _ _ b1 d1, and_hi _ l1, z2']
          · have c3 : ¬ (16 : Int) < ((r.drop 8).length : Int) := by omega
            refine ⟨r.drop 8, by rw [List.length_cons, List.length_drop]; omega, by rw [s2, s1], ?_⟩
            simp only [unicode_utf8_ValidString_L1, c0, g0, c1, f1, c2, a2, f2, c3, decide_true, decide_false, cond_true, cond_false, Option.bind_some, and_hi _ a1, z1, Int.natCast_zero]
        · have z1' : ¬ (((w1 &&& hiM : Nat) : Int)) = 0 := by omega
          refine ⟨r, by rw [List.length_cons]; omega, s1, ?_⟩
          simp only [unicode_utf8_ValidString_L1, c0, g0, c1, f1, c2, a2, decide_true, decide_false, cond_true, cond_false, Option.bind_some, and_hi _ a1, z1']
      · have c2 : ¬ (8 : Int) < (r.length : Int) := by omega
        refine ⟨r, by rw [List.length_cons]; omega, s1, ?_⟩
        simp only [unicode_utf8_ValidString_L1, c0, g0, c1, f1, c2, decide_true, decide_false, cond_true, cond_false, Option.bind_some]
    · have c1 : ¬ (b0.toNat : Int) < 128 := by omega
      obtain ⟨x, lo, hi, t1, t2, t3, t4⟩ := tab_ok b0 (by omega)
      unfold firstT at t1
      unfold accT at t2
      have bad : (sg (b0 :: r)).2 = 0 → (sgs (b0 :: r)).isSome = false := fun h => by rw [sgs_bad (by simp) h]; rfl
      obtain ⟨y, hy⟩ : ∃ y, y = unicode_utf8_ValidString_L1 N X (b0 :: r) := ⟨_, rfl⟩
      rw [← hy]
      simp only [unicode_utf8_ValidString_L1, c0, g0, c1, decide_true, decide_false, cond_true, cond_false, Option.bind_some] at hy
      rw [t1, Option.bind_some, t2, Option.bind_some, t3] at hy
      subst hy
      clear t1 t2
      by_cases k2 : 194 ≤ b0.toNat ∧ b0.toNat < 224
      · have tw : tabW b0.toNat = (2, 128, 191) := by simp [tabW, k2]
        have hs := sgv2 b0 r k2
        rw [tw] at t4
        obtain ⟨rfl, rfl⟩ : lo = 128 ∧ hi = 191 := t4.resolve_left (by decide)
        simp only [tw, decide_true, cond_true]
        match r, hs, bad with
        | [], hs, bad => left; exact ⟨_, rfl, by rw [bad hs]; rfl⟩
        | b1 :: r, hs, bad =>
          have e1 : ¬ (((b0 :: b1 :: r).length : Nat) : Int) < 2 := by simp only [List.length_cons]; omega
          have g1 : getI (b0 :: b1 :: r) (1 : Int) = some b1 := rfl
          simp only [e1, decide_false, cond_false, g1, Option.bind_some]
          by_cases q : 128 ≤ b1.toNat ∧ b1.toNat ≤ 191
          · right
            have q1 : ¬ (b1.toNat : Int) < 128 := by omega
            have q2 : ¬ (191 : Int) < (b1.toNat : Int) := by omega
            simp only [q, and_self, if_true] at hs
            have fd : dropI (b0 :: b1 :: r) (2 : Int) = some r := dropI8 (b0 :: b1 :: r) 2 (by simp)
            refine ⟨r, by simp only [List.length_cons]; omega, sgs_step (l := b0 :: b1 :: r) (k := 2) (by simp) hs (by omega), ?_⟩
            simp only [q1, q2, decide_false, cond_false, fd, Option.bind_some]
          · left
            simp only [q, if_false] at hs
            by_cases q1 : (b1.toNat : Int) < 128
            · exact ⟨.inl ((false, ()), ()), by simp only [q1, decide_true, cond_true], by rw [bad hs]; rfl⟩
            · have q2 : (191 : Int) < (b1.toNat : Int) := by omega
              exact ⟨.inl ((false, ()), ()), by simp only [q1, q2, decide_true, decide_false, cond_true, cond_false], by rw [bad hs]; rfl⟩
      by_cases k3 : 224 ≤ b0.toNat ∧ b0.toNat < 240
      · obtain ⟨hs, tw⟩ := sgv3 b0 r k3
        obtain ⟨rfl, rfl⟩ : lo = (tabW b0.toNat).2.1 ∧ hi = (tabW b0.toNat).2.2 := t4.resolve_left (by rw [tw]; decide)
        clear t4
        generalize (tabW b0.toNat).2.1 = lo at hs ⊢
        generalize (tabW b0.toNat).2.2 = hi at hs ⊢
        have n23 : ¬ (3 : Int) = 2 := by decide
        simp only [tw, n23, decide_true, decide_false, cond_true, cond_false]
        match r, hs, bad with
        | [], hs, bad => left; exact ⟨_, rfl, by rw [bad hs]; rfl⟩
        | [b1], hs, bad => left; exact ⟨_, rfl, by rw [bad hs]; rfl⟩
        | b1 :: b2 :: r, hs, bad =>
          have e1 : ¬ (((b0 :: b1 :: b2 :: r).length : Nat) : Int) < 3 := by simp only [List.length_cons]; omega
          have g1 : getI (b0 :: b1 :: b2 :: r) (1 : Int) = some b1 := rfl
          have g2 : getI (b0 :: b1 :: b2 :: r) (2 : Int) = some b2 := rfl
          simp only [e1, decide_false, cond_false, g1, g2, Option.bind_some]
          by_cases q : (lo ≤ (b1.toNat : Int) ∧ (b1.toNat : Int) ≤ hi) ∧ 128 ≤ b2.toNat ∧ b2.toNat ≤ 191
          · right
            have q1 : ¬ (b1.toNat : Int) < lo := by omega
            have q2 : ¬ hi < (b1.toNat : Int) := by omega
            have q3 : ¬ (b2.toNat : Int) < 128 := by omega
            have q4 : ¬ (191 : Int) < (b2.toNat : Int) := by omega
            simp only [q, and_self, if_true] at hs
            have fd : dropI (b0 :: b1 :: b2 :: r) (3 : Int) = some r := dropI8 (b0 :: b1 :: b2 :: r) 3 (by simp)
            refine ⟨r, by simp only [List.length_cons]; omega, sgs_step (l := b0 :: b1 :: b2 :: r) (k := 3) (by simp) hs (by omega), ?_⟩
            simp only [q1, q2, q3, q4, decide_false, cond_false, fd, Option.bind_some]
          · left
            simp only [q, if_false] at hs
            refine ⟨.inl ((false, ()), ()), ?_, by rw [bad hs]; rfl⟩
            by_cases q1 : (b1.toNat : Int) < lo
            · simp only [q1, decide_true, cond_true]
            by_cases q2 : hi < (b1.toNat : Int)
            · simp only [q1, q2, decide_true, decide_false, cond_true, cond_false]
            by_cases q3 : (b2.toNat : Int) < 128
            · simp only [q1, q2, q3, decide_true, decide_false, cond_true, cond_false]
            have q4 : (191 : Int) < (b2.toNat : Int) := by omega
            simp only [q1, q2, q3, q4, decide_true, decide_false, cond_true, cond_false]
      by_cases k4 : 240 ≤ b0.toNat ∧ b0.toNat < 245
      · obtain ⟨hs, tw⟩ := sgv4 b0 r k4
        obtain ⟨rfl, rfl⟩ : lo = (tabW b0.toNat).2.1 ∧ hi = (tabW b0.toNat).2.2 := t4.resolve_left (by rw [tw]; decide)
        clear t4
        generalize (tabW b0.toNat).2.1 = lo at hs ⊢
        generalize (tabW b0.toNat).2.2 = hi at hs ⊢
        have n24 : ¬ (4 : Int) = 2 := by decide
        have n34 : ¬ (4 : Int) = 3 := by decide
        simp only [tw, n24, n34, decide_true, decide_false, cond_true, cond_false]
        match r, hs, bad with
        | [], hs, bad => left; exact ⟨_, rfl, by rw [bad hs]; rfl⟩
        | [b1], hs, bad => left; exact ⟨_, rfl, by rw [bad hs]; rfl⟩
        | [b1, b2], hs, bad => left; exact ⟨_, rfl, by rw [bad hs]; rfl⟩
        | b1 :: b2 :: b3 :: r, hs, bad =>
          have e1 : ¬ (((b0 :: b1 :: b2 :: b3 :: r).length : Nat) : Int) < 4 := by simp only [List.length_cons]; omega
          have g1 : getI (b0 :: b1 :: b2 :: b3 :: r) (1 : Int) = some b1 := rfl
          have g2 : getI (b0 :: b1 :: b2 :: b3 :: r) (2 : Int) = some b2 := rfl
          have g3 : getI (b0 :: b1 :: b2 :: b3 :: r) (3 : Int) = some b3 := rfl
          simp only [e1, decide_false, cond_false, g1, g2, g3, Option.bind_some]
          by_cases q : (lo ≤ (b1.toNat : Int) ∧ (b1.toNat : Int) ≤ hi) ∧ (128 ≤ b2.toNat ∧ b2.toNat ≤ 191) ∧ 128 ≤ b3.toNat ∧ b3.toNat ≤ 191
          · right
            have q1 : ¬ (b1.toNat : Int) < lo := by omega
            have q2 : ¬ hi < (b1.toNat : Int) := by omega
            have q3 : ¬ (b2.toNat : Int) < 128 := by omega
            have q4 : ¬ (191 : Int) < (b2.toNat : Int) := by omega
            have q5 : ¬ (b3.toNat : Int) < 128 := by omega
            have q6 : ¬ (191 : Int) < (b3.toNat : Int) := by omega
            simp only [q, and_self, if_true] at hs
            have fd : dropI (b0 :: b1 :: b2 :: b3 :: r) (4 : Int) = some r := dropI8 (b0 :: b1 :: b2 :: b3 :: r) 4 (by simp)
            refine ⟨r, by simp only [List.length_cons]; omega, sgs_step (l := b0 :: b1 :: b2 :: b3 :: r) (k := 4) (by simp) hs (by omega), ?_⟩
            simp only [q1, q2, q3, q4, q5, q6, decide_false, cond_false, fd, Option.bind_some]
          · left
            simp only [q, if_false] at hs
            refine ⟨.inl ((false, ()), ()), ?_, by rw [bad hs]; rfl⟩
            by_cases q1 : (b1.toNat : Int) < lo
            · simp only [q1, decide_true, cond_true]
            by_cases q2 : hi < (b1.toNat : Int)
            · simp only [q1, q2, decide_true, decide_false, cond_true, cond_false]
            by_cases q3 : (b2.toNat : Int) < 128
            · simp only [q1, q2, q3, decide_true, decide_false, cond_true, cond_false]
            by_cases q4 : (191 : Int) < (b2.toNat : Int)
            · simp only [q1, q2, q3, q4, decide_true, decide_false, cond_true, cond_false]
            by_cases q5 : (b3.toNat : Int) < 128
            · simp only [q1, q2, q3, q4, q5, decide_true, decide_false, cond_true, cond_false]
            have q6 : (191 : Int) < (b3.toNat : Int) := by omega
            simp only [q1, q2, q3, q4, q5, q6, decide_true, decide_false, cond_true, cond_false]
      · left
        obtain ⟨hs, tw⟩ := sgv0 b0 r (by omega) (by omega)
        have n1 : ¬ (1 : Int) = 2 := by decide
        have n2 : ¬ (1 : Int) = 3 := by decide
        have n3 : ¬ (1 : Int) = 4 := by decide
        refine ⟨.inl ((false, ()), ()), ?_, by rw [bad hs]; rfl⟩
        simp only [tw, n1, n2, n3, decide_false, cond_false]
theorem valid_ok (s : List UInt8) (hN : s.length < N) : unicode_utf8_ValidString N s = some (sgs s).isSome := by
  obtain ⟨o, h1, h2⟩ := gl_inv (G := fun X c => unicode_utf8_ValidString_L1 N X c.1.1) (I := fun n c => c.1.1.length ≤ n ∧ n < N ∧ (sgs c.1.1).isSome = (sgs s).isSome) (Q := VQ (sgs s).isSome) (fun X n c hi => by
    obtain ⟨i1, i2, i3⟩ := hi
    rcases valid_step (N := N) X c.1.1 (by omega) with ⟨o, o1, o2⟩ | ⟨t, t1, t2, t3⟩
    · exact .inl ⟨o, o1, by rw [← i3]; exact o2⟩
    · exact .inr ⟨t.length, ((t, ()), ()), by omega, ⟨Nat.le_refl _, by omega, by rw [t2]; exact i3⟩, t3⟩) N s.length ((s, ()), ()) hN ⟨Nat.le_refl _, hN, rfl⟩
  have h1' : unicode_utf8_ValidString_L1_R N ((s, ()), ()) = some o := h1
  unfold unicode_utf8_ValidString
  rw [h1', Option.bind_some]
  match o, h2 with
  | .inl q, h2 => simp only [Sum.elim_inl]; rw [show q.1.1 = _ from h2]
  | .inr q, h2 => simp only [Sum.elim_inr]; rw [← show true = _ from h2]
end
end Go.Proofs.YtlfmdaicfkglmaaDoor
/-
  Texts as pairs of bytes: by the program, by the document.
-/
namespace Go.Proofs.YtlfmdaicfkglmaaDoor
set_option maxRecDepth 100000
open Go.RowKit
set_option linter.unusedVariables false
set_option linter.unusedSimpArgs false
set_option maxRecDepth 100000

theorem sgs_end {l : List UInt8} (h : sgs l = some []) : l = [] := by
  by_cases hl : l = []
  · exact hl
  by_cases hw : (sg l).2 = 0
  · rw [sgs_bad hl hw] at h; cases h
  · rw [sgs_go hl hw, Option.map_eq_some_iff] at h
    obtain ⟨m, _, h⟩ := h
    cases h
theorem sgs_inv {s : List UInt8} {p x : Nat} {l : List Nat} (h : sgs (s.drop p) = some (x :: l)) : p < s.length ∧ (sg (s.drop p)).1 = x ∧ (sg (s.drop p)).2 ≠ 0 ∧ p + (sg (s.drop p)).2 ≤ s.length ∧ sgs (s.drop (p + (sg (s.drop p)).2)) = some l := by
  by_cases hl : s.drop p = []
  · rw [hl, sgs_nil] at h; cases h
  have hp : p < s.length := by
    rcases Nat.lt_or_ge p s.length with h | h
    · exact h
    · exact absurd (List.drop_eq_nil_of_le h) hl
  by_cases hw : (sg (s.drop p)).2 = 0
  · rw [sgs_bad hl hw] at h; cases h
  · rw [sgs_go hl hw, Option.map_eq_some_iff] at h
    obtain ⟨m, h1, h⟩ := h
    injection h with h2 h3
    subst h3
    have := sg_le (s.drop p)
    rw [List.length_drop] at this
    rw [List.drop_drop] at h1
    exact ⟨hp, h2, hw, by omega, h1⟩
/-- The units of a sign. -/
def un1 (n : Nat) : List Int := if n < 65536 then [(n : Int)] else [((55296 + (n - 65536) / 1024 : Nat) : Int), ((56320 + (n - 65536) % 1024 : Nat) : Int)]
def uns (l : List Nat) : List Int := l.flatMap un1
theorem un1_ok {n : Nat} (h : n ≤ 1114111) : (∀ x ∈ un1 n, 0 ≤ x ∧ x < 65536) ∧ (un1 n).length ≤ 2 ∧ 1 ≤ (un1 n).length := by
  unfold un1
  split
  · refine ⟨fun x hx => ?_, by simp, by simp⟩
    simp at hx; omega
  · refine ⟨fun x hx => ?_, by simp, by simp⟩
    simp at hx; omega
theorem uns_ok : ∀ {l : List Nat}, (∀ x ∈ l, x ≤ 1114111) → (∀ x ∈ uns l, 0 ≤ x ∧ x < 65536) ∧ (uns l).length ≤ 2 * l.length ∧ l.length ≤ (uns l).length
  | [], _ => by simp [uns]
  | n :: l, h => by
    obtain ⟨a1, a2, a3⟩ := un1_ok (h n List.mem_cons_self)
    obtain ⟨b1, b2, b3⟩ := uns_ok (l := l) (fun x hx => h x (List.mem_cons_of_mem _ hx))
    have e : uns (n :: l) = un1 n ++ uns l := rfl
    rw [e]
    refine ⟨fun x hx => ?_, ?_, ?_⟩
    · rcases List.mem_append.1 hx with hx | hx
      · exact a1 x hx
      · exact b1 x hx
    · rw [List.length_append, List.length_cons]; omega
    · rw [List.length_append, List.length_cons]; omega
theorem q32_and (a : Nat) (ha : a < 2147483648) : bits .and .i32 (a : Int) (1023 : Int) = ((a % 1024 : Nat) : Int) := by
  show IntKind.i32.wrap ((BitVec.ofInt 32 (a : Int) &&& BitVec.ofInt 32 1023).toNat : Int) = _
  have h1 : (BitVec.ofInt 32 (a : Int)).toNat = a := by rw [BitVec.ofInt_natCast, BitVec.toNat_ofNat]; exact Nat.mod_eq_of_lt (by omega)
  have h2 : (BitVec.ofInt 32 (1023 : Int)).toNat = 1023 := by decide
  rw [BitVec.toNat_and, h1, h2, Nat.and_two_pow_sub_one_eq_mod a 10, IntKind.wrap_i32]
  omega
section
variable {N : Nat}
theorem count_loop (s : List UInt8) (hs : s.length < 1000000000) : ∀ (l : List Nat) (p n M : Nat), sgs (s.drop p) = some l → p ≤ s.length → l.length < M → n ≤ p →
    gl (fun X c => unicode_utf8_RuneCountInString_L2 N X c.1.1 c.2.1 c.2.2.1) M (((n : Int), ()), (s, ((p : Int), ()))) = some ((((n + l.length : Nat) : Int), ()), ())
  | [], p, n, M + 1, h, hp, hM, hn => by
    have h0 := sgs_end h
    have hl : ¬ p < s.length := by have := congrArg List.length h0; rw [List.length_drop] at this; simp at this; omega
    rw [gl_succ]
    simp only [unicode_utf8_RuneCountInString_L2, Int.toNat_natCast, hl, decide_false, cond_false, List.length_nil, Nat.add_zero]
  | x :: l, p, n, M + 1, h, hp, hM, hn => by
    obtain ⟨h1, h2, h3, h4, h5⟩ := sgs_inv h
    rw [gl_succ]
    have e1 : Go.IntKind.wrap .i64 ((n : Int) + 1) = ((n + 1 : Nat) : Int) := by rw [wrap64 (by omega) (by omega)]; omega
    have e2 : (p : Int) + ((sg (s.drop p)).2 : Int) = ((p + (sg (s.drop p)).2 : Nat) : Int) := by omega
    simp only [unicode_utf8_RuneCountInString_L2, Int.toNat_natCast, h1, decide_true, cond_true, rdec_ok s p h1, h3, if_false, e1, e2]
    refine (count_loop s hs l (p + (sg (s.drop p)).2) (n + 1) M h5 h4 (by simpa using hM) (by omega)).trans ?_
    rw [List.length_cons, show n + 1 + l.length = n + (l.length + 1) by omega]
theorem signs_loop (hN : 10 ≤ N) (s : List UInt8) (hs : s.length < 1000000) : ∀ (M p : Nat) (acc : List Int), s.length - p < M → p ≤ s.length → acc.length ≤ p →
    gl (fun X c => ref09_Signs_L3 N X c.1.1 c.1.2.1 c.2.1) M ((s, ((p : Int), ())), (acc, ())) = some (match sgs (s.drop p) with
      | some l => .inr ((), (acc ++ l.map fun n => ((n : Nat) : Int), ()))
      | none => .inl (([], (false, ())), ()))
  | 0, p, acc, h, _, _ => by omega
  | M + 1, p, acc, h, hp, ha => by
    rw [gl_succ]
    by_cases hl : p < s.length
    · have c1 : (p : Int) < (s.length : Int) := by omega
      have hne : s.drop p ≠ [] := fun h0 => by have := congrArg List.length h0; rw [List.length_drop] at this; simp at this; omega
      have hle := sg_le (s.drop p)
      rw [List.length_drop] at hle
      simp only [ref09_Signs_L3, c1, decide_true, cond_true, sign_ok hN s p hl (by omega), Option.bind_some]
      by_cases hw : (sg (s.drop p)).2 = 0
      · have hw' : ((sg (s.drop p)).2 : Int) = 0 := by omega
        rw [sgs_bad hne hw]
        simp only [hw', decide_true, cond_true]
      · have hw' : ¬ ((sg (s.drop p)).2 : Int) = 0 := by omega
        have e1 : Go.IntKind.wrap .i64 ((p : Int) + ((sg (s.drop p)).2 : Int)) = ((p + (sg (s.drop p)).2 : Nat) : Int) := by rw [wrap64 (by omega) (by omega)]; omega
        have r1 : roomB (acc.length + [((sg (s.drop p)).1 : Int)].length) 8 = true := roomB_of (by have := big_len; simp; omega) (by simp; omega)
        have ih := signs_loop hN s hs M (p + (sg (s.drop p)).2) (acc ++ [((sg (s.drop p)).1 : Int)]) (by omega) (by omega) (by simp; omega)
        rw [sgs_go hne hw, List.drop_drop]
        simp only [hw', decide_false, cond_false, e1, r1, cond_true]
        refine ih.trans ?_
        cases sgs (s.drop (p + (sg (s.drop p)).2)) with
        | none => rfl
        | some l => simp
    · have c1 : ¬ (p : Int) < (s.length : Int) := by omega
      rw [List.drop_eq_nil_of_le (by omega), sgs_nil]
      simp only [ref09_Signs_L3, c1, decide_false, cond_false, List.map_nil, List.append_nil]
theorem count_ok (s : List UInt8) (hs : s.length < 1000000) (hN : s.length < N) {l : List Nat} (h : sgs s = some l) : unicode_utf8_RuneCountInString N s = some (l.length : Int) := by
  have hl := (sgs_bound s.length s l (Nat.le_refl _) h).2
  have := count_loop (N := N) s (by omega) l 0 0 N (by simpa using h) (Nat.zero_le _) (by omega) (Nat.le_refl _)
  have h1 : unicode_utf8_RuneCountInString_L2_R N (((0 : Int), ()), (s, ((0 : Int), ()))) = some ((((0 + l.length : Nat) : Int), ()), ()) := this
  unfold unicode_utf8_RuneCountInString
  rw [h1, Option.bind_some]
  simp
theorem signs_ok (s : List UInt8) (hs : s.length < 1000000) (hN : s.length + 10 ≤ N) : ref09_Signs N s = some (match sgs s with
    | some l => (l.map fun n => ((n : Nat) : Int), true)
    | none => ([], false)) := by
  have := signs_loop (N := N) (by omega) s hs N 0 [] (by omega) (Nat.zero_le _) (by simp)
  have h1 : ref09_Signs_L3_R N ((s, ((0 : Int), ())), (([] : List Int), ())) = _ := this
  unfold ref09_Signs
  rw [h1, Option.bind_some, List.drop_zero]
  cases sgs s with
  | none => rfl
  | some l => simp
/-- What may be. -/
def mayN (s : List UInt8) : Int := match sgs s with
  | some l => if 64 < l.length then 8 else 0
  | none => 3
theorem may_ok (s : List UInt8) (hs : s.length < 1000000) (hN : s.length + 10 ≤ N) : utf16_May N s = some (mayN s) := by
  unfold utf16_May utf16_Count mayN
  rw [valid_ok s (by omega)]
  cases h : sgs s with
  | none => rfl
  | some l =>
    simp only [Option.bind_some, Option.isSome_some, Bool.not_true, cond_false, count_ok (N := N) s hs (by omega) h]
    by_cases hl : 64 < l.length
    · have hl' : (64 : Int) < (l.length : Int) := by omega
      simp only [hl', hl, decide_true, cond_true, if_true]
    · have hl' : ¬ (64 : Int) < (l.length : Int) := by omega
      simp only [hl', hl, decide_false, cond_false, if_false]
theorem rmay_ok (s : List UInt8) (hs : s.length < 1000000) (hN : s.length + 10 ≤ N) : ref09_May N s = some (mayN s) := by
  unfold ref09_May mayN
  rw [signs_ok s hs hN]
  cases h : sgs s with
  | none => rfl
  | some l =>
    simp only [Option.bind_some, Bool.not_true, cond_false, List.length_map]
    by_cases hl : 64 < l.length
    · have hl' : (64 : Int) < (l.length : Int) := by omega
      simp only [hl', hl, decide_true, cond_true, if_true]
    · have hl' : ¬ (64 : Int) < (l.length : Int) := by omega
      simp only [hl', hl, decide_false, cond_false, if_false]
theorem wrapU16 {x : Int} (h1 : 0 ≤ x) (h2 : x < 65536) : Go.IntKind.wrap .u16 x = x := by
  rw [IntKind.wrap_u16]; omega
theorem wrap32 {x : Int} (h1 : -2147483648 ≤ x) (h2 : x < 2147483648) : Go.IntKind.wrap .i32 x = x := by
  rw [IntKind.wrap_i32]; omega
theorem units_loop (s : List UInt8) (hs : s.length < 1000000) : ∀ (l : List Nat) (p M : Nat) (acc : List Int), sgs (s.drop p) = some l → p ≤ s.length → l.length < M → acc.length ≤ 2 * p →
    gl (fun X c => utf16_Units_L5 N X c.2.1 c.2.2.1 c.2.2.2.1) M ((), (acc, (s, ((p : Int), ())))) = some ((), (acc ++ uns l, ()))
  | [], p, M + 1, acc, h, hp, hM, ha => by
    have h0 := sgs_end h
    have hl : ¬ p < s.length := by have := congrArg List.length h0; rw [List.length_drop] at this; simp at this; omega
    rw [gl_succ]
    simp only [utf16_Units_L5, Int.toNat_natCast, hl, decide_false, cond_false, uns, List.flatMap_nil, List.append_nil]
  | x :: l, p, M + 1, acc, h, hp, hM, ha => by
    obtain ⟨h1, h2, h3, h4, h5⟩ := sgs_inv h
    have hb := sg_bound (s.drop p)
    rw [h2] at hb
    rw [gl_succ]
    have e2 : (p : Int) + ((sg (s.drop p)).2 : Int) = ((p + (sg (s.drop p)).2 : Nat) : Int) := by omega
    have hu : uns (x :: l) = un1 x ++ uns l := rfl
    obtain ⟨u1, u2, u3⟩ := un1_ok hb
    have ih := units_loop s hs l (p + (sg (s.drop p)).2) M (acc ++ un1 x) h5 h4 (by simpa using hM) (by rw [List.length_append]; omega)
    simp only [utf16_Units_L5, Int.toNat_natCast, h1, decide_true, cond_true, rdec_ok s p h1, h3, if_false, e2, h2]
    rw [hu, ← List.append_assoc]
    by_cases hx : x < 65536
    · have hx' : (x : Int) < 65536 := by omega
      have e3 : Go.IntKind.wrap .u16 (x : Int) = x := wrapU16 (by omega) (by omega)
      have r1 : roomB (acc.length + [(x : Int)].length) 2 = true := roomB_of (by have := big_len; simp; omega) (by simp; omega)
      have eu : un1 x = [(x : Int)] := by simp [un1, hx]
      simp only [hx', decide_true, cond_true, e3, r1]
      rw [eu] at ih ⊢
      exact ih
    · have hx' : ¬ (x : Int) < 65536 := by omega
      have e3 : Go.IntKind.wrap .i32 ((x : Int) - 65536) = ((x - 65536 : Nat) : Int) := by rw [wrap32 (by omega) (by omega)]; omega
      have e4 : (2 : Int) ^ min (Int.toNat 10) (IntKind.bits IntKind.i32) = 1024 := by decide
      have e5 : Int.fdiv ((x - 65536 : Nat) : Int) 1024 = (((x - 65536) / 1024 : Nat) : Int) := by rw [Int.fdiv_eq_ediv_of_nonneg _ (by decide)]; omega
      have e6 : Go.IntKind.wrap .i32 (55296 + (((x - 65536) / 1024 : Nat) : Int)) = ((55296 + (x - 65536) / 1024 : Nat) : Int) := by rw [wrap32 (by omega) (by omega)]; omega
      have e7 : Go.IntKind.wrap .u16 ((55296 + (x - 65536) / 1024 : Nat) : Int) = ((55296 + (x - 65536) / 1024 : Nat) : Int) := wrapU16 (by omega) (by omega)
      have e8 : bits .and .i32 ((x - 65536 : Nat) : Int) (1023 : Int) = (((x - 65536) % 1024 : Nat) : Int) := q32_and _ (by omega)
      have e9 : Go.IntKind.wrap .i32 (56320 + (((x - 65536) % 1024 : Nat) : Int)) = ((56320 + (x - 65536) % 1024 : Nat) : Int) := by rw [wrap32 (by omega) (by omega)]; omega
      have e10 : Go.IntKind.wrap .u16 ((56320 + (x - 65536) % 1024 : Nat) : Int) = ((56320 + (x - 65536) % 1024 : Nat) : Int) := wrapU16 (by omega) (by omega)
      have eu : un1 x = [((55296 + (x - 65536) / 1024 : Nat) : Int), ((56320 + (x - 65536) % 1024 : Nat) : Int)] := by simp [un1, hx]
      have r1 : roomB (acc.length + [((55296 + (x - 65536) / 1024 : Nat) : Int), ((56320 + (x - 65536) % 1024 : Nat) : Int)].length) 2 = true := roomB_of (by have := big_len; simp; omega) (by simp; omega)
      simp only [hx', decide_false, cond_false, e3, e4, e5, e6, e7, e8, e9, e10, r1, cond_true]
      rw [eu] at ih ⊢
      exact ih
theorem units_ok (s : List UInt8) (hs : s.length < 1000000) (hN : s.length + 10 ≤ N) : utf16_Units N s = some (match sgs s with | some l => if 64 < l.length then [] else uns l | none => []) := by
  unfold utf16_Units
  rw [may_ok s hs hN]
  unfold mayN
  cases h : sgs s with
  | none => rfl
  | some l =>
    have hl := (sgs_bound s.length s l (Nat.le_refl _) h).2
    by_cases h64 : 64 < l.length
    · simp only [h64, if_true]; rfl
    · simp only [h64, if_false, Option.bind_some]
      have := units_loop (N := N) s hs l 0 N [] (by simpa using h) (Nat.zero_le _) (by omega) (by simp)
      have h1 : utf16_Units_L5_R N ((), (([] : List Int), (s, ((0 : Int), ())))) = some ((), ([] ++ uns l, ())) := this
      simp only [h1, decide_true, Bool.not_true, cond_false, Option.bind_some, List.nil_append]
theorem runits_loop (l : List Nat) (hl : l.length < 1000000) (hx : ∀ x ∈ l, x ≤ 1114111) : ∀ (k i M : Nat) (acc : List Int), k + i = l.length → k < M → acc.length ≤ 2 * i →
    gl (fun X c => ref09_Units_L6 N X c.1.1 c.1.2.1 c.2.1) M (((l.map fun n => ((n : Nat) : Int)), ((i : Int), ())), (acc, ())) = some ((), (acc ++ uns (l.drop i), ()))
  | 0, i, M + 1, acc, hk, hM, ha => by
    have c1 : ¬ (i : Int) < ((l.map fun n => ((n : Nat) : Int)).length : Int) := by rw [List.length_map]; omega
    rw [gl_succ, List.drop_eq_nil_of_le (by omega)]
    simp only [ref09_Units_L6, c1, decide_false, cond_false, uns, List.flatMap_nil, List.append_nil]
  | k + 1, i, M + 1, acc, hk, hM, ha => by
    have hi : i < l.length := by omega
    have c1 : (i : Int) < ((l.map fun n => ((n : Nat) : Int)).length : Int) := by rw [List.length_map]; omega
    obtain ⟨x, hxe⟩ : ∃ x, x = l[i] := ⟨_, rfl⟩
    have hb : x ≤ 1114111 := by rw [hxe]; exact hx _ (List.getElem_mem hi)
    have g1 : getI (l.map fun n => ((n : Nat) : Int)) (i : Int) = some (x : Int) := by rw [getI_nat, List.getElem?_map, List.getElem?_eq_getElem hi, hxe]; rfl
    have e1 : Go.IntKind.wrap .i64 ((i : Int) + 1) = ((i + 1 : Nat) : Int) := by rw [wrap64 (by omega) (by omega)]; omega
    obtain ⟨u1, u2, u3⟩ := un1_ok hb
    have ih := runits_loop l hl hx k (i + 1) M (acc ++ un1 x) (by omega) (by omega) (by rw [List.length_append]; omega)
    have hu : uns (l.drop i) = un1 x ++ uns (l.drop (i + 1)) := by rw [List.drop_eq_getElem_cons hi, ← hxe]; rfl
    rw [gl_succ, hu, ← List.append_assoc]
    simp only [ref09_Units_L6, c1, decide_true, cond_true, g1, Option.bind_some, e1]
    by_cases hx : x < 65536
    · have hx' : (x : Int) < 65536 := by omega
      have e3 : Go.IntKind.wrap .u16 (x : Int) = x := wrapU16 (by omega) (by omega)
      have r1 : roomB (acc.length + [(x : Int)].length) 2 = true := roomB_of (by have := big_len; simp; omega) (by simp; omega)
      have eu : un1 x = [(x : Int)] := by simp [un1, hx]
      simp only [hx', decide_true, cond_true, e3, r1]
      rw [eu] at ih ⊢
      exact ih
    · have hx' : ¬ (x : Int) < 65536 := by omega
      have e3 : Go.IntKind.wrap .i64 ((x : Int) - 65536) = ((x - 65536 : Nat) : Int) := by rw [wrap64 (by omega) (by omega)]; omega
      have e5 : Int.tdiv ((x - 65536 : Nat) : Int) 1024 = (((x - 65536) / 1024 : Nat) : Int) := by rw [Int.tdiv_eq_ediv_of_nonneg (by omega)]; omega
      have e5' : Go.IntKind.wrap .i64 (((x - 65536) / 1024 : Nat) : Int) = (((x - 65536) / 1024 : Nat) : Int) := wrap64 (by omega) (by omega)
      have e6 : Go.IntKind.wrap .i64 (55296 + (((x - 65536) / 1024 : Nat) : Int)) = ((55296 + (x - 65536) / 1024 : Nat) : Int) := by rw [wrap64 (by omega) (by omega)]; omega
      have e7 : Go.IntKind.wrap .u16 ((55296 + (x - 65536) / 1024 : Nat) : Int) = ((55296 + (x - 65536) / 1024 : Nat) : Int) := wrapU16 (by omega) (by omega)
      have e8 : Int.tmod ((x - 65536 : Nat) : Int) 1024 = (((x - 65536) % 1024 : Nat) : Int) := by rw [Int.tmod_eq_emod_of_nonneg (by omega)]; omega
      have e9 : Go.IntKind.wrap .i64 (56320 + (((x - 65536) % 1024 : Nat) : Int)) = ((56320 + (x - 65536) % 1024 : Nat) : Int) := by rw [wrap64 (by omega) (by omega)]; omega
      have e10 : Go.IntKind.wrap .u16 ((56320 + (x - 65536) % 1024 : Nat) : Int) = ((56320 + (x - 65536) % 1024 : Nat) : Int) := wrapU16 (by omega) (by omega)
      have eu : un1 x = [((55296 + (x - 65536) / 1024 : Nat) : Int), ((56320 + (x - 65536) % 1024 : Nat) : Int)] := by simp [un1, hx]
      have r1 : roomB (acc.length + [((55296 + (x - 65536) / 1024 : Nat) : Int), ((56320 + (x - 65536) % 1024 : Nat) : Int)].length) 2 = true := roomB_of (by have := big_len; simp; omega) (by simp; omega)
      simp only [hx', decide_false, cond_false, e3, e5, e5', e6, e7, e8, e9, e10, r1, cond_true]
      rw [eu] at ih ⊢
      exact ih
theorem runits_ok (s : List UInt8) (hs : s.length < 1000000) (hN : s.length + 10 ≤ N) : ref09_Units N s = some (match sgs s with | some l => if 64 < l.length then [] else uns l | none => []) := by
  unfold ref09_Units
  rw [rmay_ok s hs hN, signs_ok s hs hN]
  unfold mayN
  cases h : sgs s with
  | none => rfl
  | some l =>
    obtain ⟨hx, hl⟩ := sgs_bound s.length s l (Nat.le_refl _) h
    by_cases h64 : 64 < l.length
    · simp only [h64, if_true]; rfl
    · simp only [h64, if_false, Option.bind_some]
      have := runits_loop (N := N) l (by omega) hx l.length 0 N [] (by omega) (by omega) (by simp)
      have h1 : ref09_Units_L6_R N (((l.map fun n => ((n : Nat) : Int)), ((0 : Int), ())), (([] : List Int), ())) = some ((), ([] ++ uns (l.drop 0), ())) := this
      simp only [h1, decide_true, Bool.not_true, cond_false, Option.bind_some, List.nil_append, List.drop_zero]
/-- Units as bytes. -/
def by2 (u : Int) : List Int := [u % 256, u / 256]
theorem put2l (n : Int) (h : 0 ≤ n ∧ n < 65536) (hN : 100 ≤ N) : octs_Put N (Go.IntKind.wrap .u64 n) 2 true = some (by2 n, 0) := by
  obtain ⟨M, rfl⟩ : ∃ M, N = M + 3 := ⟨N - 3, by omega⟩
  have w0 : Go.IntKind.wrap .u64 n = n := wrapU64 h.1 (by omega)
  rw [w0]
  show qOPut (M + 3) n 2 true = _
  have r1 : roomB (Int.toNat 2) 1 = true := by decide
  have r2 : List.replicate (Int.toNat 2) (0 : Int) = [0, 0] := rfl
  have w3 : Go.IntKind.wrap .i64 ((0 : Int) + 1) = 1 := by decide
  have w4 : Go.IntKind.wrap .i64 ((1 : Int) + 1) = 2 := by decide
  have e1 : (2 : Int) ^ min (Int.toNat 8) (IntKind.bits IntKind.u64) = 256 := by decide
  have d1 : Int.fdiv n 256 = n / 256 := Int.fdiv_eq_ediv_of_nonneg n (by decide)
  have d2 : Int.fdiv (n / 256) 256 = n / 256 / 256 := Int.fdiv_eq_ediv_of_nonneg _ (by decide)
  have w7 : Go.IntKind.wrap .u8 n = n % 256 := by rw [IntKind.wrap_u8]
  have w8 : Go.IntKind.wrap .u8 (n / 256) = n / 256 := by rw [IntKind.wrap_u8]; omega
  simp only [qOPut, qOPutL5R, gl, qOPutL5, qOplace, r1, r2, e1, cond_false, cond_true, Option.bind_some, w3, w4]
  simp [w3, w4, d1, d2, w7, w8, by2]
theorem lay_loop (hN : 100 ≤ N) (u : List Int) (hu : u.length < 1000000) (hx : ∀ x ∈ u, 0 ≤ x ∧ x < 65536) : ∀ (k i M : Nat) (acc : List Int), k + i = u.length → k < M → acc.length ≤ 2 * i →
    gl (fun X c => utf16_Lay_L6 N X c.1.1 c.1.2.1 c.1.2.2.1 c.2.1) M ((u, ((u.length : Int), ((i : Int), ()))), (acc, ())) = some ((), (acc ++ (u.drop i).flatMap by2, ()))
  | 0, i, M + 1, acc, hk, hM, ha => by
    have c1 : ¬ (i : Int) < (u.length : Int) := by omega
    rw [gl_succ, List.drop_eq_nil_of_le (by omega)]
    simp only [utf16_Lay_L6, c1, decide_false, cond_false, List.flatMap_nil, List.append_nil]
  | k + 1, i, M + 1, acc, hk, hM, ha => by
    have hi : i < u.length := by omega
    have c1 : (i : Int) < (u.length : Int) := by omega
    have g1 := getI_lt u i hi
    have e1 : Go.IntKind.wrap .i64 ((i : Int) + 1) = ((i + 1 : Nat) : Int) := by rw [wrap64 (by omega) (by omega)]; omega
    have p := put2l (N := N) u[i] (hx _ (List.getElem_mem hi)) hN
    have r1 : roomB (acc.length + (by2 u[i]).length) 1 = true := roomB_of (by have := big_len; simp [by2]; omega) (by simp [by2]; omega)
    have ih := lay_loop hN u hu hx k (i + 1) M (acc ++ by2 u[i]) (by omega) (by omega) (by rw [List.length_append]; simp [by2]; omega)
    rw [gl_succ, List.drop_eq_getElem_cons hi, List.flatMap_cons, ← List.append_assoc]
    simp only [utf16_Lay_L6, c1, decide_true, cond_true, g1, Option.bind_some, e1, p, r1]
    exact ih
theorem rlay_loop (u : List Int) (hu : u.length < 1000000) (hx : ∀ x ∈ u, 0 ≤ x ∧ x < 65536) : ∀ (k i M : Nat) (acc : List Int), k + i = u.length → k < M → acc.length ≤ 2 * i →
    gl (fun X c => ref09_Lay_L7 N X c.1.1 c.1.2.1 c.2.1) M ((u, ((i : Int), ())), (acc, ())) = some ((), (acc ++ (u.drop i).flatMap by2, ()))
  | 0, i, M + 1, acc, hk, hM, ha => by
    have c1 : ¬ (i : Int) < (u.length : Int) := by omega
    rw [gl_succ, List.drop_eq_nil_of_le (by omega)]
    simp only [ref09_Lay_L7, c1, decide_false, cond_false, List.flatMap_nil, List.append_nil]
  | k + 1, i, M + 1, acc, hk, hM, ha => by
    have hi : i < u.length := by omega
    have c1 : (i : Int) < (u.length : Int) := by omega
    have g1 := getI_lt u i hi
    have e1 : Go.IntKind.wrap .i64 ((i : Int) + 1) = ((i + 1 : Nat) : Int) := by rw [wrap64 (by omega) (by omega)]; omega
    have hb := hx _ (List.getElem_mem hi)
    have e2 : Go.IntKind.wrap .u8 (Int.tmod u[i] 256) = u[i] % 256 := by rw [Int.tmod_eq_emod_of_nonneg hb.1, IntKind.wrap_u8]; omega
    have e3 : Go.IntKind.wrap .u8 (Go.IntKind.wrap .u16 (Int.tdiv u[i] 256)) = u[i] / 256 := by rw [Int.tdiv_eq_ediv_of_nonneg hb.1, wrapU16 (by omega) (by omega), IntKind.wrap_u8]; omega
    have r1 : roomB (acc.length + ([u[i] % 256, u[i] / 256] : List Int).length) 1 = true := roomB_of (by have := big_len; simp; omega) (by simp; omega)
    have ih := rlay_loop u hu hx k (i + 1) M (acc ++ by2 u[i]) (by omega) (by omega) (by rw [List.length_append]; simp [by2]; omega)
    rw [gl_succ, List.drop_eq_getElem_cons hi, List.flatMap_cons, ← List.append_assoc]
    simp only [ref09_Lay_L7, c1, decide_true, cond_true, g1, Option.bind_some, e1, e2, e3, r1]
    exact ih
/-- A text's bytes, and the error. -/
def layN (s : List UInt8) : List Int × Int := match sgs s with
  | some l => if 64 < l.length then ([], 8) else ((uns l).flatMap by2, 0)
  | none => ([], 3)
theorem lay_ok (s : List UInt8) (hs : s.length < 10000) (hN : 2 * s.length + 100 ≤ N) : utf16_Lay N s = some (layN s) ∧ ref09_Lay N s = some (layN s) := by
  unfold utf16_Lay ref09_Lay
  rw [may_ok s (by omega) (by omega), rmay_ok s (by omega) (by omega), units_ok s (by omega) (by omega), runits_ok s (by omega) (by omega)]
  unfold mayN layN
  cases h : sgs s with
  | none => exact ⟨rfl, rfl⟩
  | some l =>
    obtain ⟨hx, hl⟩ := sgs_bound s.length s l (Nat.le_refl _) h
    obtain ⟨u1, u2, u3⟩ := uns_ok hx
    by_cases h64 : 64 < l.length
    · simp only [h64, if_true]; exact ⟨rfl, rfl⟩
    · simp only [h64, if_false, Option.bind_some, decide_true, Bool.not_true, cond_false]
      have a1 := lay_loop (N := N) (by omega) (uns l) (by omega) u1 (uns l).length 0 N [] (by omega) (by omega) (by simp)
      have a2 := rlay_loop (N := N) (uns l) (by omega) u1 (uns l).length 0 N [] (by omega) (by omega) (by simp)
      have b1 : utf16_Lay_L6_R N ((uns l, (((uns l).length : Int), ((0 : Int), ()))), (([] : List Int), ())) = some ((), ([] ++ ((uns l).drop 0).flatMap by2, ())) := a1
      have b2 : ref09_Lay_L7_R N ((uns l, ((0 : Int), ())), (([] : List Int), ())) = some ((), ([] ++ ((uns l).drop 0).flatMap by2, ())) := a2
      rw [b1, b2]
      simp
theorem layN_ok (s : List UInt8) : (layN s).1.length ≤ 256 ∧ AllB (layN s).1 := by
  unfold layN
  cases h : sgs s with
  | none => exact ⟨by simp, AllB.nil⟩
  | some l =>
    obtain ⟨hx, hl⟩ := sgs_bound s.length s l (Nat.le_refl _) h
    obtain ⟨u1, u2, u3⟩ := uns_ok hx
    by_cases h64 : 64 < l.length
    · simp only [h64, if_true]; exact ⟨by simp, AllB.nil⟩
    · simp only [h64, if_false]
      have key : ∀ u : List Int, (∀ x ∈ u, 0 ≤ x ∧ x < 65536) → (u.flatMap by2).length = 2 * u.length ∧ AllB (u.flatMap by2) := fun u => by
        induction u with
        | nil => intro _; exact ⟨rfl, AllB.nil⟩
        | cons x u ih =>
          intro hu
          obtain ⟨i1, i2⟩ := ih fun y hy => hu y (List.mem_cons_of_mem _ hy)
          have hx := hu x List.mem_cons_self
          rw [List.flatMap_cons]
          exact ⟨by rw [List.length_append, i1]; simp [by2]; omega, AllB.append (AllB.cons (by omega) (AllB.cons (by omega) AllB.nil)) i2⟩
      obtain ⟨k1, k2⟩ := key (uns l) u1
      exact ⟨by omega, k2⟩
end
end Go.Proofs.YtlfmdaicfkglmaaDoor
/-
  Layer 9, on plain data: the laws Utf16Lays, Utf16Units.
-/
namespace Go.Proofs.YtlfmdaicfkglmaaDoor
set_option maxRecDepth 100000
open Go.RowKit
set_option linter.unusedVariables false
set_option linter.unusedSimpArgs false
set_option maxRecDepth 100000

theorem alive09 : law09_alive 200000 = some true := by decide +kernel
def cntN (s : List UInt8) : Int := match sgs s with
  | some l => (l.length : Int)
  | none => 0
theorem cnt_ok (s : List UInt8) (hs : s.length ≤ 600) : utf16_Count 200000 s = some (cntN s) := by
  unfold utf16_Count cntN
  rw [valid_ok s (by omega)]
  cases h : sgs s with
  | none => rfl
  | some l => simp only [Option.bind_some, Option.isSome_some, Bool.not_true, cond_false, count_ok (N := 200000) s (by omega) (by omega) h]
def unsN (s : List UInt8) : List Int := match sgs s with
  | some l => if 64 < l.length then [] else uns l
  | none => []
theorem same_u (s : List UInt8) (a : List Int) (e : Int) (b : List Int) (f : Int) (u : List Int) (hu : u.length < 1000000) : law09_Utf16Lays_L10_R 200000 ((s, (a, (e, (b, (f, (u, (u, (((u.length : Nat) : Int), ((0 : Int), ()))))))))), ()) = some (.inr ((s, (a, (e, (b, (f, ()))))), ())) → True := fun _ => trivial
theorem loopLays (s : List UInt8) (a : List Int) (e : Int) (b : List Int) (f : Int) (u : List Int) (hu : u.length < 1000) : law09_Utf16Lays_L10_R 200000 ((s, (a, (e, (b, (f, (u, (u, (((u.length : Nat) : Int), ((0 : Int), ()))))))))), ()) = some (.inr ((s, (a, (e, (b, (f, ()))))), ())) := by
  refine gl_run (G := fun X c => law09_Utf16Lays_L10 200000 X c.1.1 c.1.2.1 c.1.2.2.1 c.1.2.2.2.1 c.1.2.2.2.2.1 c.1.2.2.2.2.2.1 c.1.2.2.2.2.2.2.1 c.1.2.2.2.2.2.2.2.1 c.1.2.2.2.2.2.2.2.2.1) (fun i => ((s, (a, (e, (b, (f, (u, (u, (((u.length : Nat) : Int), (((i : Nat) : Int), ()))))))))), ())) u.length _ (fun X i hi => ?_) (fun X => ?_) 200000 0 (Nat.zero_le _) (by omega)
  · have c1 : ((i : Int) < ((u.length : Nat) : Int)) := by omega
    have e3 : Go.IntKind.wrap .i64 ((i : Int) + 1) = ((i + 1 : Nat) : Int) := by rw [wrap64 (by omega) (by omega)]; omega
    simp only [law09_Utf16Lays_L10, c1, decide_true, cond_true, getI_lt u i hi, Option.bind_some, Bool.not_true, cond_false, e3]
  · have c1 : ¬ (((u.length : Nat) : Int) < ((u.length : Nat) : Int)) := by omega
    simp only [law09_Utf16Lays_L10, c1, decide_false, cond_false]
theorem unsN_len (s : List UInt8) (hs : s.length ≤ 600) : (unsN s).length < 1000 := by
  unfold unsN
  cases h : sgs s with
  | none => simp
  | some l =>
    obtain ⟨hx, hl⟩ := sgs_bound s.length s l (Nat.le_refl _) h
    obtain ⟨u1, u2, u3⟩ := uns_ok hx
    simp only
    split
    · simp
    · omega
theorem law_Utf16Lays (s : List UInt8) (w : wfT .str s) : law09_Utf16Lays 200000 s = some true := by
  unfold law09_Utf16Lays
  by_cases hl : (600 : Int) < (s.length : Int)
  · rw [decide_eq_true hl]
    simp only [cond_true, alive09, Option.bind_some]
  · obtain ⟨a1, a2⟩ := lay_ok (N := 200000) s (by omega) (by omega)
    obtain ⟨b1, b2⟩ := layN_ok s
    have u1 : utf16_Units 200000 s = some (unsN s) := units_ok (N := 200000) s (by omega) (by omega)
    have u2 : ref09_Units 200000 s = some (unsN s) := runits_ok (N := 200000) s (by omega) (by omega)
    have hc := cnt_ok s (by omega)
    have hss : ref01_Same 200000 (layN s).1 (layN s).1 = some true := by
      have := sameF_ok (N := 200000) (a := (layN s).1) (b := (layN s).1) (by omega) (by omega)
      rw [decide_eq_true rfl] at this
      exact this
    have hlp := loopLays s (layN s).1 (layN s).2 (layN s).1 (layN s).2 (unsN s) (unsN_len s (by omega))
    rw [decide_eq_false hl, a1, a2, u1, u2, signs_ok (N := 200000) s (by omega) (by omega)]
    simp only [cond_false, Option.bind_some, decide_true, Bool.not_true, hc, hlp, Sum.elim_inr, hss, cond_true, may_ok (N := 200000) s (by omega) (by omega), rmay_ok (N := 200000) s (by omega) (by omega), alive09]
    cases h : sgs s with
    | none => simp [cntN, h]
    | some l => simp [cntN, h]
theorem at2 : ∀ (u : List Int) (i : Nat) (h : i < u.length), (u.flatMap by2)[2 * i]? = some (u[i] % 256) ∧ (u.flatMap by2)[2 * i + 1]? = some (u[i] / 256)
  | [], i, h => by simp at h
  | x :: u, 0, h => by simp [by2]
  | x :: u, i + 1, h => by
    have h' : i < u.length := by simpa using h
    obtain ⟨h1, h2⟩ := at2 u i h'
    have e : ((x :: u).flatMap by2) = x % 256 :: x / 256 :: u.flatMap by2 := rfl
    rw [e]
    refine ⟨?_, ?_⟩
    · rw [show 2 * (i + 1) = (2 * i + 1) + 1 by omega, List.getElem?_cons_succ, List.getElem?_cons_succ, h1]; rfl
    · rw [show 2 * (i + 1) + 1 = (2 * i + 1 + 1) + 1 by omega, List.getElem?_cons_succ, List.getElem?_cons_succ, h2]; rfl
theorem loopUnits (u : List Int) (n : Int) (hu : u.length < 1000) (hx : ∀ x ∈ u, 0 ≤ x ∧ x < 65536) : law09_Utf16Units_L10_R 200000 ((u, (n, (u.flatMap by2, (u, (((u.length : Nat) : Int), ((0 : Int), ())))))), ()) = some (.inr ((u, (n, ())), ())) := by
  refine gl_run (G := fun X c => law09_Utf16Units_L10 200000 X c.1.1 c.1.2.1 c.1.2.2.1 c.1.2.2.2.1 c.1.2.2.2.2.1 c.1.2.2.2.2.2.1) (fun i => ((u, (n, (u.flatMap by2, (u, (((u.length : Nat) : Int), (((i : Nat) : Int), ())))))), ())) u.length _ (fun X i hi => ?_) (fun X => ?_) 200000 0 (Nat.zero_le _) (by omega)
  · have c1 : ((i : Int) < ((u.length : Nat) : Int)) := by omega
    have hb := hx u[i] (List.getElem_mem hi)
    have e1 : Go.IntKind.wrap .i64 ((2 : Int) * (i : Int)) = ((2 * i : Nat) : Int) := by rw [wrap64 (by omega) (by omega)]; omega
    have e2 : Go.IntKind.wrap .i64 (((2 * i : Nat) : Int) + 1) = ((2 * i + 1 : Nat) : Int) := by rw [wrap64 (by omega) (by omega)]; omega
    have e3 : Go.IntKind.wrap .i64 ((i : Int) + 1) = ((i + 1 : Nat) : Int) := by rw [wrap64 (by omega) (by omega)]; omega
    obtain ⟨p1, p2⟩ := at2 u i hi
    have g1 : getI (u.flatMap by2) ((2 * i : Nat) : Int) = some (u[i] % 256) := by rw [getI_nat, p1]
    have g2 : getI (u.flatMap by2) ((2 * i + 1 : Nat) : Int) = some (u[i] / 256) := by rw [getI_nat, p2]
    have e4 : Go.IntKind.wrap .i64 (Go.IntKind.wrap .i64 (u[i] % 256) + Go.IntKind.wrap .i64 ((256 : Int) * Go.IntKind.wrap .i64 (u[i] / 256))) = Go.IntKind.wrap .i64 u[i] := by
      rw [wrap64 (x := u[i] % 256) (by omega) (by omega), wrap64 (x := u[i] / 256) (by omega) (by omega), wrap64 (x := 256 * (u[i] / 256)) (by omega) (by omega)]
      congr 1; omega
    simp only [law09_Utf16Units_L10, c1, decide_true, cond_true, getI_lt u i hi, Option.bind_some, e1, e2, g1, g2, e4, Bool.not_true, cond_false, e3]
  · have c1 : ¬ (((u.length : Nat) : Int) < ((u.length : Nat) : Int)) := by omega
    simp only [law09_Utf16Units_L10, c1, decide_false, cond_false]
theorem flat2_len (u : List Int) : (u.flatMap by2).length = 2 * u.length := by
  induction u with
  | nil => rfl
  | cons x u ih => rw [List.flatMap_cons, List.length_append, ih, List.length_cons]; show 2 + _ = _; omega
theorem law_Utf16Units (s : List UInt8) (w : wfT .str s) : law09_Utf16Units 200000 s = some true := by
  unfold law09_Utf16Units
  by_cases hl : (600 : Int) < (s.length : Int)
  · rw [decide_eq_true hl]
    simp only [cond_true, alive09, Option.bind_some]
  · obtain ⟨a1, a2⟩ := lay_ok (N := 200000) s (by omega) (by omega)
    have u1 : utf16_Units 200000 s = some (unsN s) := units_ok (N := 200000) s (by omega) (by omega)
    have hc := cnt_ok s (by omega)
    have hm := may_ok (N := 200000) s (by omega) (by omega)
    have hu := unsN_len s (by omega)
    rw [decide_eq_false hl, a1, u1, hc]
    simp only [cond_false, Option.bind_some, hm]
    unfold layN unsN cntN mayN at *
    cases h : sgs s with
    | none => simp [alive09]
    | some l =>
      rw [h] at hu
      simp only at hu ⊢
      obtain ⟨hx, hl⟩ := sgs_bound s.length s l (Nat.le_refl _) h
      obtain ⟨q1, q2, q3⟩ := uns_ok hx
      by_cases h64 : 64 < l.length
      · simp only [h64, if_true]; simp [alive09]
      · simp only [h64, if_false] at hu ⊢
        have e1 : Go.IntKind.wrap .i64 ((2 : Int) * ((uns l).length : Int)) = (((uns l).flatMap by2).length : Int) := by rw [flat2_len, wrap64 (by omega) (by omega)]; omega
        have e2 : Go.IntKind.wrap .i64 ((2 : Int) * (l.length : Int)) = 2 * (l.length : Int) := wrap64 (by omega) (by omega)
        have c1 : ((l.length : Int) ≤ ((uns l).length : Int)) := by omega
        have c2 : (((uns l).length : Int) ≤ 2 * (l.length : Int)) := by omega
        have c3 : ((l.length : Int) ≤ 64) := by omega
        simp only [decide_true, Bool.not_true, cond_false, e1]
        refine (congrArg (fun o => Option.bind o _) (loopUnits (uns l) (l.length : Int) hu q1)).trans ?_
        simp only [Option.bind_some, Sum.elim_inr, c1, c2, c3, e2, decide_true, cond_true, alive09]
end Go.Proofs.YtlfmdaicfkglmaaDoor
/-
  Layer 9, on plain data: what is laid is parsed, what is parsed is laid; the law Utf16Back.
-/
namespace Go.Proofs.YtlfmdaicfkglmaaDoor
set_option maxRecDepth 100000
open Go.RowKit
set_option linter.unusedVariables false
set_option linter.unusedSimpArgs false
set_option maxRecDepth 100000

/-! ### Signs, and their bytes in UTF-8 -/
def okS (n : Nat) : Prop := n ≤ 1114111 ∧ ¬ (55296 ≤ n ∧ n ≤ 57343)
def encS (n : Nat) : List UInt8 := Lib.encodeRune (n : Int)
theorem u8n (n : Nat) (h : n < 256) : (((n : Int).toNat.toUInt8).toNat) = n := by
  rw [Int.toNat_natCast]
  show (UInt8.ofNat n).toNat = n
  rw [UInt8.toNat_ofNat']
  omega
theorem u8z (x : Int) (h0 : 0 ≤ x) (h1 : x < 256) : ((x.toNat.toUInt8).toNat : Int) = x := by
  show ((UInt8.ofNat x.toNat).toNat : Int) = x
  rw [UInt8.toNat_ofNat']
  omega
theorem u8e (b : UInt8) (x : Int) (h : (b.toNat : Int) = x) : x.toNat.toUInt8 = b := by
  apply UInt8.toNat_inj.1
  have := b.toNat_lt
  have h2 := u8z x (by omega) (by omega)
  omega
theorem sg_cons (b0 : UInt8) (r : List UInt8) : sg (b0 :: r) = (if b0.toNat < 128 then (b0.toNat, 1)
    else if 192 ≤ b0.toNat ∧ b0.toNat < 224 then (match r with
      | b1 :: _ => if cb b1 = true ∧ 128 ≤ n2 b0 b1 then (n2 b0 b1, 2) else (0, 0)
      | _ => (0, 0))
    else if 224 ≤ b0.toNat ∧ b0.toNat < 240 then (match r with
      | b1 :: b2 :: _ => if cb b1 = true ∧ cb b2 = true ∧ 2048 ≤ n3 b0 b1 b2 ∧ ¬ (55296 ≤ n3 b0 b1 b2 ∧ n3 b0 b1 b2 ≤ 57343) then (n3 b0 b1 b2, 3) else (0, 0)
      | _ => (0, 0))
    else if 240 ≤ b0.toNat ∧ b0.toNat < 248 then (match r with
      | b1 :: b2 :: b3 :: _ => if cb b1 = true ∧ cb b2 = true ∧ cb b3 = true ∧ 65536 ≤ n4 b0 b1 b2 b3 ∧ n4 b0 b1 b2 b3 ≤ 1114111 then (n4 b0 b1 b2 b3, 4) else (0, 0)
      | _ => (0, 0))
    else (0, 0)) := by unfold sg; rfl
theorem sg_take {l : List UInt8} (h : (sg l).2 ≠ 0) : l.take (sg l).2 = encS (sg l).1 ∧ okS (sg l).1 := by
  unfold encS Lib.encodeRune okS
  cases l with
  | nil => exact absurd rfl h
  | cons b0 r =>
    have l0 := b0.toNat_lt
    rw [sg_cons] at h ⊢
    split
    · rename_i c
      refine ⟨?_, by omega, by omega⟩
      rw [Lib.encodeRuneZ_one (by omega) (by omega)]
      simp [u8e b0 (b0.toNat : Int) rfl]
    · rename_i c
      rw [if_neg c] at h
      split
      · rename_i c2
        rw [if_pos c2] at h
        match r, h with
        | b1 :: r, h =>
          simp only at h ⊢
          split
          · rename_i c3
            have q1 := cb_iff.1 c3.1
            have l1 := b1.toNat_lt
            unfold n2 at c3 ⊢
            refine ⟨?_, by omega, by omega⟩
            rw [Lib.encodeRuneZ_two (by omega) (by omega)]
            simp only [List.map_cons, List.map_nil, List.take_succ_cons, List.take_zero]
            rw [u8e b0 _ (by omega), u8e b1 _ (by omega)]
          · rename_i c3; rw [if_neg c3] at h; exact absurd rfl h
        | [], h => exact absurd rfl h
      · rename_i c2
        rw [if_neg c2] at h
        split
        · rename_i c3
          rw [if_pos c3] at h
          match r, h with
          | b1 :: b2 :: r, h =>
            simp only at h ⊢
            split
            · rename_i c4
              have q1 := cb_iff.1 c4.1
              have q2 := cb_iff.1 c4.2.1
              have c5 := c4.2.2
              unfold n3 at c5 ⊢
              refine ⟨?_, by omega, by omega⟩
              rw [Lib.encodeRuneZ_three (by omega)]
              simp only [List.map_cons, List.map_nil, List.take_succ_cons, List.take_zero]
              rw [u8e b0 _ (by omega), u8e b1 _ (by omega), u8e b2 _ (by omega)]
            · rename_i c4; rw [if_neg c4] at h; exact absurd rfl h
          | [b1], h => exact absurd rfl h
          | [], h => exact absurd rfl h
        · rename_i c3
          rw [if_neg c3] at h
          split
          · rename_i c4
            rw [if_pos c4] at h
            match r, h with
            | b1 :: b2 :: b3 :: r, h =>
              simp only at h ⊢
              split
              · rename_i c5
                have q1 := cb_iff.1 c5.1
                have q2 := cb_iff.1 c5.2.1
                have q3 := cb_iff.1 c5.2.2.1
                have c6 := c5.2.2.2
                unfold n4 at c6 ⊢
                refine ⟨?_, by omega, by omega⟩
                rw [Lib.encodeRuneZ_four (by omega) (by omega)]
                simp only [List.map_cons, List.map_nil, List.take_succ_cons, List.take_zero]
                rw [u8e b0 _ (by omega), u8e b1 _ (by omega), u8e b2 _ (by omega), u8e b3 _ (by omega)]
              · rename_i c5; rw [if_neg c5] at h; exact absurd rfl h
            | [b1, b2], h => exact absurd rfl h
            | [b1], h => exact absurd rfl h
            | [], h => exact absurd rfl h
          · rename_i c4; rw [if_neg c4] at h; exact absurd rfl h
theorem sgs_enc : ∀ (n : Nat) (s : List UInt8) (L : List Nat), s.length ≤ n → sgs s = some L → s = L.flatMap encS ∧ ∀ x ∈ L, okS x
  | n, [], L, _, h => by rw [sgs_nil] at h; injection h with h; subst h; exact ⟨rfl, fun x hx => by cases hx⟩
  | 0, b :: s, L, hn, h => by simp at hn
  | n + 1, b :: s, L, hn, h => by
    have hne : (b :: s) ≠ [] := by simp
    by_cases hw : (sg (b :: s)).2 = 0
    · rw [sgs_bad hne hw] at h; cases h
    · rw [sgs_go hne hw, Option.map_eq_some_iff] at h
      obtain ⟨L', h1, rfl⟩ := h
      obtain ⟨t1, t2⟩ := sg_take hw
      obtain ⟨i1, i2⟩ := sgs_enc n _ L' (by rw [List.length_drop]; omega) h1
      refine ⟨?_, fun x hx => ?_⟩
      · rw [List.flatMap_cons, ← t1, ← i1, List.take_append_drop]
      · rcases List.mem_cons.1 hx with rfl | hx
        · exact t2
        · exact i2 x hx
theorem tn (x : Int) (n : Nat) (h : x = n) (h1 : n < 256) : (x.toNat.toUInt8).toNat = n := by
  subst h; exact u8n n h1
theorem sg_enc (n : Nat) (h : okS n) (r : List UInt8) : sg (encS n ++ r) = (n, (encS n).length) ∧ 1 ≤ (encS n).length ∧ (encS n).length ≤ 4 := by
  obtain ⟨h1, h2⟩ := h
  unfold encS Lib.encodeRune
  by_cases c1 : n ≤ 127
  · rw [Lib.encodeRuneZ_one (by omega) (by omega)]
    have e0 := tn (n : Int) n rfl (by omega)
    simp only [List.map_cons, List.map_nil, List.cons_append, List.nil_append, List.length_cons, List.length_nil]
    refine ⟨?_, by omega, by omega⟩
    rw [sg_cons, e0, if_pos (by omega)]
  · by_cases c2 : n ≤ 2047
    · rw [Lib.encodeRuneZ_two (by omega) (by omega)]
      have e0 := tn (192 + (n : Int) / 64) (192 + n / 64) (by omega) (by omega)
      have e1 := tn (128 + (n : Int) % 64) (128 + n % 64) (by omega) (by omega)
      simp only [List.map_cons, List.map_nil, List.cons_append, List.nil_append, List.length_cons, List.length_nil]
      refine ⟨?_, by omega, by omega⟩
      rw [sg_cons]
      have hn : n2 (192 + (n : Int) / 64).toNat.toUInt8 (128 + (n : Int) % 64).toNat.toUInt8 = n := by unfold n2; rw [e0, e1]; omega
      have k1 : cb (128 + (n : Int) % 64).toNat.toUInt8 = true := cb_iff.2 (by rw [e1]; omega)
      rw [if_neg (by rw [e0]; omega), if_pos (by rw [e0]; omega)]
      simp only [hn, k1]
      rw [if_pos ⟨trivial, by omega⟩]
    · by_cases c3 : n ≤ 65535
      · rw [Lib.encodeRuneZ_three (by omega)]
        have e0 := tn (224 + (n : Int) / 4096) (224 + n / 4096) (by omega) (by omega)
        have e1 := tn (128 + (n : Int) / 64 % 64) (128 + n / 64 % 64) (by omega) (by omega)
        have e2 := tn (128 + (n : Int) % 64) (128 + n % 64) (by omega) (by omega)
        simp only [List.map_cons, List.map_nil, List.cons_append, List.nil_append, List.length_cons, List.length_nil]
        refine ⟨?_, by omega, by omega⟩
        rw [sg_cons]
        have hn : n3 (224 + (n : Int) / 4096).toNat.toUInt8 (128 + (n : Int) / 64 % 64).toNat.toUInt8 (128 + (n : Int) % 64).toNat.toUInt8 = n := by unfold n3; rw [e0, e1, e2]; omega
        have k1 : cb (128 + (n : Int) / 64 % 64).toNat.toUInt8 = true := cb_iff.2 (by rw [e1]; omega)
        have k2 : cb (128 + (n : Int) % 64).toNat.toUInt8 = true := cb_iff.2 (by rw [e2]; omega)
        rw [if_neg (by rw [e0]; omega), if_neg (by rw [e0]; omega), if_pos (by rw [e0]; omega)]
        simp only [hn, k1, k2]
        rw [if_pos ⟨trivial, trivial, by omega, by omega⟩]
      · rw [Lib.encodeRuneZ_four (by omega) (by omega)]
        have e0 := tn (240 + (n : Int) / 262144) (240 + n / 262144) (by omega) (by omega)
        have e1 := tn (128 + (n : Int) / 4096 % 64) (128 + n / 4096 % 64) (by omega) (by omega)
        have e2 := tn (128 + (n : Int) / 64 % 64) (128 + n / 64 % 64) (by omega) (by omega)
        have e3 := tn (128 + (n : Int) % 64) (128 + n % 64) (by omega) (by omega)
        simp only [List.map_cons, List.map_nil, List.cons_append, List.nil_append, List.length_cons, List.length_nil]
        refine ⟨?_, by omega, by omega⟩
        rw [sg_cons]
        have hn : n4 (240 + (n : Int) / 262144).toNat.toUInt8 (128 + (n : Int) / 4096 % 64).toNat.toUInt8 (128 + (n : Int) / 64 % 64).toNat.toUInt8 (128 + (n : Int) % 64).toNat.toUInt8 = n := by unfold n4; rw [e0, e1, e2, e3]; omega
        have k1 : cb (128 + (n : Int) / 4096 % 64).toNat.toUInt8 = true := cb_iff.2 (by rw [e1]; omega)
        have k2 : cb (128 + (n : Int) / 64 % 64).toNat.toUInt8 = true := cb_iff.2 (by rw [e2]; omega)
        have k3 : cb (128 + (n : Int) % 64).toNat.toUInt8 = true := cb_iff.2 (by rw [e3]; omega)
        rw [if_neg (by rw [e0]; omega), if_neg (by rw [e0]; omega), if_neg (by rw [e0]; omega), if_pos (by rw [e0]; omega)]
        simp only [hn, k1, k2, k3]
        rw [if_pos ⟨trivial, trivial, trivial, by omega, by omega⟩]
theorem enc_sgs : ∀ (L : List Nat), (∀ x ∈ L, okS x) → sgs (L.flatMap encS) = some L
  | [], _ => sgs_nil
  | n :: L, h => by
    obtain ⟨h1, h2, h3⟩ := sg_enc n (h n List.mem_cons_self) (L.flatMap encS)
    have ih := enc_sgs L fun x hx => h x (List.mem_cons_of_mem _ hx)
    rw [List.flatMap_cons, sgs_go (fun e => by rw [List.append_eq_nil_iff] at e; rw [e.1] at h2; simp at h2) (by rw [h1]; simp only; omega), h1]
    simp only
    rw [List.drop_left, ih]
    rfl
/-! ### The first sign of bytes -/
section
variable {N : Nat}
theorem fget2 (x y : Int) (hx : 0 ≤ x ∧ x < 256) (hy : 0 ≤ y ∧ y < 256) (hN : 10 ≤ N) : Fst.octs_Get N [x, y] true = some (x + 256 * y, 0) := by
  obtain ⟨X, rfl⟩ : ∃ X : Nat, x = X := ⟨x.toNat, by omega⟩
  obtain ⟨Y, rfl⟩ : ∃ Y : Nat, y = Y := ⟨y.toNat, by omega⟩
  have s0 : Go.IntKind.wrap .u64 (Go.IntKind.wrap .u64 (X : Int) * 1) = (X : Int) := by rw [Int.mul_one, wrapU64 (x := (X : Int)) (by omega) (by omega), wrapU64 (by omega) (by omega)]
  have s1 : Go.IntKind.wrap .u64 (Go.IntKind.wrap .u64 (Y : Int) * 256) = ((256 * Y : Nat) : Int) := by rw [wrapU64 (x := (Y : Int)) (by omega) (by omega), wrapU64 (by omega) (by omega)]; omega
  have o0 : bits .or .u64 (0 : Int) (X : Int) = (X : Int) := by
    have := q64_or 0 X (by omega) (by omega)
    rw [Nat.zero_or] at this
    exact this
  have o1 : bits .or .u64 (X : Int) ((256 * Y : Nat) : Int) = (X : Int) + 256 * (Y : Int) := by
    rw [q64_or X (256 * Y) (by omega) (by omega), Nat.or_comm]
    have := Nat.two_pow_add_eq_or_of_lt (i := 8) (b := X) (by omega) Y
    rw [show (256 : Nat) = 2 ^ 8 from rfl, ← this]
    omega
  have g0 : getI [(X : Int), (Y : Int)] (((0 : Nat) : Int)) = some (X : Int) := rfl
  have g1 : getI [(X : Int), (Y : Int)] (((1 : Nat) : Int)) = some (Y : Int) := rfl
  have p0 : (2 : Int) ^ min (Int.toNat (Go.IntKind.wrap .i64 ((8 : Int) * ((0 : Nat) : Int)))) (IntKind.bits .u64) = 1 := by decide
  have p1 : (2 : Int) ^ min (Int.toNat (Go.IntKind.wrap .i64 ((8 : Int) * ((1 : Nat) : Int)))) (IntKind.bits .u64) = 256 := by decide
  have k0 : (0 : Int) ≤ Go.IntKind.wrap .i64 ((8 : Int) * ((0 : Nat) : Int)) := by decide
  have k1 : (0 : Int) ≤ Go.IntKind.wrap .i64 ((8 : Int) * ((1 : Nat) : Int)) := by decide
  have w0 : Go.IntKind.wrap .i64 ((((0 : Nat) : Int)) + 1) = ((1 : Nat) : Int) := by decide
  have w1 : Go.IntKind.wrap .i64 ((((1 : Nat) : Int)) + 1) = ((2 : Nat) : Int) := by decide
  have hloop : Fst.octs_Get_L5_R N (([(X : Int), (Y : Int)], (true, ((0 : Int), (((2 : Nat) : Int), ((0 : Int), ()))))), ()) = some (((((X : Int) + 256 * (Y : Int)), ()), ())) := by
    refine gl_run (G := fun X c => Fst.octs_Get_L5 N X c.1.1 c.1.2.1 c.1.2.2.1 c.1.2.2.2.1 c.1.2.2.2.2.1) (fun i => (([(X : Int), (Y : Int)], (true, ((if i = 0 then (0 : Int) else if i = 1 then (X : Int) else (X : Int) + 256 * (Y : Int)), (((2 : Nat) : Int), (((i : Nat) : Int), ()))))), ())) 2 _ (fun Z i hi => ?_) (fun Z => ?_) N 0 (Nat.zero_le _) (by omega)
    · have : i = 0 ∨ i = 1 := by omega
      rcases this with rfl | rfl
      · have c : (((0 : Nat) : Int) < ((2 : Nat) : Int)) := by decide
        simp only [Fst.octs_Get_L5, Fst.octs_place, c, decide_true, cond_true, Option.bind_some, g0, k0, p0, s0, if_true, o0, w0]
        rfl
      · have c : (((1 : Nat) : Int) < ((2 : Nat) : Int)) := by decide
        simp only [Fst.octs_Get_L5, Fst.octs_place, c, decide_true, cond_true, Option.bind_some, g1, k1, p1, s1, w1]
        refine Eq.trans (b := Z (([(X : Int), (Y : Int)], (true, (bits .or .u64 (X : Int) ((256 * Y : Nat) : Int), (((2 : Nat) : Int), (((2 : Nat) : Int), ()))))), ())) ?_ ?_
        · rfl
        · rw [o1]; rfl
    · have c : ¬ (((2 : Nat) : Int) < ((2 : Nat) : Int)) := by decide
      simp only [Fst.octs_Get_L5, c, decide_false, cond_false]
      rfl
  unfold Fst.octs_Get
  refine Eq.trans (b := Option.bind (Fst.octs_Get_L5_R N (([(X : Int), (Y : Int)], (true, ((0 : Int), (((2 : Nat) : Int), ((0 : Int), ()))))), ())) fun v3 => some (v3.1.1, (0 : Int))) rfl ?_
  rw [hloop]
  rfl
theorem funit (x y : Int) (r : List Int) (hx : 0 ≤ x ∧ x < 256) (hy : 0 ≤ y ∧ y < 256) (hN : 10 ≤ N) : Fst.utf16_unit N (x :: y :: r) = some (x + 256 * y) := by
  have t : takeI (x :: y :: r) (2 : Int) = some [x, y] := takeI_nat _ (i := 2) rfl (by simp)
  have w : Go.IntKind.wrap .i32 (x + 256 * y) = x + 256 * y := wrap32 (by omega) (by omega)
  unfold Fst.utf16_unit
  rw [t, Option.bind_some, fget2 x y hx hy hN, Option.bind_some, w]
/-- What the first sign of bytes is. -/
def fstS (b : List Int) : Int × Int := match b with
  | x :: y :: r =>
    if x + 256 * y < 55296 ∨ 57344 ≤ x + 256 * y then (x + 256 * y, 1)
    else if 56320 ≤ x + 256 * y then (0, 0)
    else (match r with
      | z :: u :: _ => if z + 256 * u < 56320 ∨ 57344 ≤ z + 256 * u then (0, 0) else (65536 + (x + 256 * y - 55296) * 1024 + (z + 256 * u) - 56320, 2)
      | _ => (0, 0))
  | _ => (0, 0)
theorem ffirst (b : List Int) (hb : AllB b) (hl : 2 ≤ b.length) (he : b.length % 2 = 0) (hm : b.length < 1000000) (hN : 10 ≤ N) : Fst.utf16_first N b = some (fstS b) := by
  match b, hl with
  | x :: y :: r, _ =>
    have hx := hb x (by simp)
    have hy := hb y (by simp)
    have hu := funit (N := N) x y r hx hy hN
    unfold Fst.utf16_first fstS
    rw [hu, Option.bind_some]
    simp only
    by_cases c1 : x + 256 * y < 55296
    · simp [c1]
    · by_cases c2 : 57344 ≤ x + 256 * y
      · simp [c1, c2]
      · by_cases c3 : 56320 ≤ x + 256 * y
        · simp [c1, c2, c3]
        · match r, he, hm, hb with
          | [], _, _, _ => simp [c1, c2, c3]
          | [z], he, _, _ => simp at he
          | z :: u :: r, _, hm, hb =>
            have hz := hb z (by simp)
            have hu' := hb u (by simp)
            have d : dropI (x :: y :: z :: u :: r) (2 : Int) = some (z :: u :: r) := dropI_nat _ (i := 2) rfl (by simp)
            have c4 : ¬ (((x :: y :: z :: u :: r).length : Int) < 4) := by simp only [List.length_cons]; omega
            have f2 := funit (N := N) z u r hz hu' hN
            have p : (2 : Int) ^ min (Int.toNat 10) (IntKind.bits .i32) = 1024 := by decide
            have e1 : Go.IntKind.wrap .i32 (x + 256 * y - 55296) = x + 256 * y - 55296 := wrap32 (by omega) (by omega)
            have e2 : Go.IntKind.wrap .i32 ((x + 256 * y - 55296) * 1024) = (x + 256 * y - 55296) * 1024 := wrap32 (by omega) (by omega)
            have e3 : Go.IntKind.wrap .i32 (65536 + (x + 256 * y - 55296) * 1024) = 65536 + (x + 256 * y - 55296) * 1024 := wrap32 (by omega) (by omega)
            have e4 : Go.IntKind.wrap .i32 (65536 + (x + 256 * y - 55296) * 1024 + (z + 256 * u)) = 65536 + (x + 256 * y - 55296) * 1024 + (z + 256 * u) := wrap32 (by omega) (by omega)
            rw [decide_eq_false c1, decide_eq_false c2, decide_eq_false c3, decide_eq_false c4, d, p, e1, e2, e3]
            simp only [cond_false, Option.bind_some, f2]
            by_cases c5 : z + 256 * u < 56320
            · simp [c1, c2, c3, c5]
            · by_cases c6 : 57344 ≤ z + 256 * u
              · simp [c1, c2, c3, c5, c6]
              · have e5 : Go.IntKind.wrap .i32 (65536 + (x + 256 * y - 55296) * 1024 + (z + 256 * u) - 56320) = 65536 + (x + 256 * y - 55296) * 1024 + (z + 256 * u) - 56320 := wrap32 (by omega) (by omega)
                rw [e4, e5]
                simp [c1, c2, c3, c5, c6]
end
end Go.Proofs.YtlfmdaicfkglmaaDoor
/-
  Layer 9, on plain data: what is laid is parsed; what is parsed is laid as the same: the law Utf16Back.
-/
namespace Go.Proofs.YtlfmdaicfkglmaaDoor
set_option maxRecDepth 100000
open Go.RowKit
set_option linter.unusedVariables false
set_option linter.unusedSimpArgs false
set_option maxRecDepth 100000

theorem toNat2 (m : Nat) : (2 * (m : Int)).toNat = 2 * m := by omega
theorem fst_un (n : Nat) (h : okS n) (r : List Int) : fstS ((un1 n).flatMap by2 ++ r) = ((n : Int), ((un1 n).length : Int)) := by
  obtain ⟨h1, h2⟩ := h
  unfold un1
  by_cases c : n < 65536
  · rw [if_pos c]
    show fstS ((n : Int) % 256 :: (n : Int) / 256 :: r) = _
    unfold fstS
    have e : (n : Int) % 256 + 256 * ((n : Int) / 256) = n := by omega
    simp only [e]
    rw [if_pos (by omega)]
    rfl
  · rw [if_neg c]
    obtain ⟨p, hp⟩ : ∃ p : Nat, p = 55296 + (n - 65536) / 1024 := ⟨_, rfl⟩
    obtain ⟨q, hq⟩ : ∃ q : Nat, q = 56320 + (n - 65536) % 1024 := ⟨_, rfl⟩
    rw [← hp, ← hq]
    show fstS ((p : Int) % 256 :: (p : Int) / 256 :: (q : Int) % 256 :: (q : Int) / 256 :: r) = _
    unfold fstS
    have e : (p : Int) % 256 + 256 * ((p : Int) / 256) = p := by omega
    have e' : (q : Int) % 256 + 256 * ((q : Int) / 256) = q := by omega
    simp only [e, e']
    rw [if_neg (by omega), if_neg (by omega), if_neg (by omega)]
    rw [Prod.mk.injEq]
    exact ⟨by omega, rfl⟩
theorem un_len (n : Nat) : (un1 n).length = 1 ∨ (un1 n).length = 2 := by
  unfold un1
  split
  · exact .inl rfl
  · exact .inr rfl
theorem flat2_app (a b : List Int) : (a ++ b).flatMap by2 = a.flatMap by2 ++ b.flatMap by2 := List.flatMap_append ..
theorem uns_cons (n : Nat) (L : List Nat) : uns (n :: L) = un1 n ++ uns L := rfl
theorem flat2_B (u : List Int) (hu : ∀ x ∈ u, 0 ≤ x ∧ x < 65536) : AllB (u.flatMap by2) := fun y hy => by
  obtain ⟨x, hx, hy⟩ := List.mem_flatMap.1 hy
  have := hu x hx
  simp only [by2, List.mem_cons, List.not_mem_nil, or_false] at hy
  rcases hy with rfl | rfl <;> omega
theorem okS_un {L : List Nat} (h : ∀ x ∈ L, okS x) : (∀ x ∈ uns L, 0 ≤ x ∧ x < 65536) ∧ (uns L).length ≤ 2 * L.length ∧ L.length ≤ (uns L).length := uns_ok fun x hx => (h x hx).1
theorem par_uns : ∀ (L : List Nat) (f k : Nat) (acc : List UInt8), (∀ x ∈ L, okS x) → L.length < f → k + L.length ≤ 64 → parR (Fst.utf16_first 200000) f ((uns L).flatMap by2) k acc = some (acc ++ L.flatMap encS, 0)
  | [], f + 1, k, acc, _, _, hk => by
    have : ¬ 64 < k := by simp at hk; omega
    show (if ([] : List Int).length = 0 then _ else _) = _
    rw [if_pos List.length_nil, if_neg this]
    simp
  | n :: L, f + 1, k, acc, h, hf, hk => by
    simp only [List.length_cons] at hf hk
    have hL : ∀ x ∈ L, okS x := fun x hx => h x (List.mem_cons_of_mem _ hx)
    have hn := h n List.mem_cons_self
    obtain ⟨u1, u2, u3⟩ := okS_un h
    have hlen := flat2_len (uns (n :: L))
    have hfst := ffirst (N := 200000) ((uns (n :: L)).flatMap by2) (flat2_B _ u1) (by simp only [List.length_cons] at u3; omega) (by omega) (by simp only [List.length_cons] at u2; omega) (by omega)
    have ih := par_uns L f (k + 1) (acc ++ encS n) hL (by omega) (by omega)
    rw [uns_cons, flat2_app, fst_un n hn] at hfst
    rw [uns_cons, flat2_app]
    have hul := un_len n
    have hne : ((un1 n).flatMap by2 ++ (uns L).flatMap by2).length ≠ 0 := by rw [List.length_append, flat2_len]; omega
    have hd : ((un1 n).flatMap by2 ++ (uns L).flatMap by2).drop (2 * ((un1 n).length : Int)).toNat = (uns L).flatMap by2 := by
      rw [show (2 * ((un1 n).length : Int)).toNat = ((un1 n).flatMap by2).length by rw [flat2_len, toNat2], List.drop_left]
    unfold parR
    rw [if_neg hne, hfst]
    simp only
    rw [if_neg (by omega), if_pos (by have := hn.1; omega), hd, if_pos (by omega)]
    rw [List.flatMap_cons, ← List.append_assoc]
    exact ih
theorem par_inv : ∀ (f : Nat) (b : List Int) (k : Nat) (acc : List UInt8), AllB b → b.length % 2 = 0 → b.length < f → b.length < 1000000 →
    ∃ y, parR (Fst.utf16_first 200000) f b k acc = some y ∧ ((y.1 = [] ∧ y.2 ≠ 0) ∨ ∃ L : List Nat, (∀ x ∈ L, okS x) ∧ b = (uns L).flatMap by2 ∧ y = (acc ++ L.flatMap encS, 0) ∧ k + L.length ≤ 64)
  | 0, b, k, acc, _, _, hf, _ => by omega
  | f + 1, [], k, acc, hB, he, hf, hm => by
    unfold parR
    rw [if_pos List.length_nil]
    by_cases h : 64 < k
    · rw [if_pos h]; exact ⟨_, rfl, .inl ⟨rfl, by decide⟩⟩
    · rw [if_neg h]; exact ⟨_, rfl, .inr ⟨[], (fun x hx => by cases hx), rfl, (by simp), (by simp only [List.length_nil]; omega)⟩⟩
  | f + 1, [x], k, acc, hB, he, hf, hm => by simp at he
  | f + 1, x :: y :: r, k, acc, hB, he, hf, hm => by
    have hx := hB x (by simp)
    have hy := hB y (by simp)
    have hr : AllB r := fun z hz => hB z (by simp [hz])
    simp only [List.length_cons] at he hf hm
    have hfst := ffirst (N := 200000) (x :: y :: r) hB (by simp) (by simp only [List.length_cons]; omega) (by simp only [List.length_cons]; omega) (by omega)
    -- one sign of so many units
    have step : ∀ (n : Nat) (rest : List Int), okS n → AllB rest → rest.length < f → rest.length < 1000000 → rest.length % 2 = 0 → x :: y :: r = (un1 n).flatMap by2 ++ rest → fstS (x :: y :: r) = ((n : Int), ((un1 n).length : Int)) →
        ∃ y', parR (Fst.utf16_first 200000) (f + 1) (x :: y :: r) k acc = some y' ∧ ((y'.1 = [] ∧ y'.2 ≠ 0) ∨ ∃ L : List Nat, (∀ x ∈ L, okS x) ∧ x :: y :: r = (uns L).flatMap by2 ∧ y' = (acc ++ L.flatMap encS, 0) ∧ k + L.length ≤ 64) := by
      intro n rest hn hB' hl1 hl2 hl3 heq hfs
      have hul := un_len n
      obtain ⟨y', h1, h2⟩ := par_inv f rest (k + 1) (if k < 64 then acc ++ encS n else acc) hB' hl3 hl1 hl2
      refine ⟨y', ?_, ?_⟩
      · clear h2
        have hd : (x :: y :: r).drop (2 * ((un1 n).length : Int)).toNat = rest := by
          rw [heq, show (2 * ((un1 n).length : Int)).toNat = ((un1 n).flatMap by2).length by rw [flat2_len, toNat2], List.drop_left]
        unfold parR
        rw [if_neg (by simp), hfst, hfs]
        simp only
        rw [if_neg (by omega), if_pos (by have := hn.1; omega), hd]
        exact h1
      · rcases h2 with h2 | ⟨L, q1, q2, q3, q4⟩
        · exact .inl h2
        · refine .inr ⟨n :: L, fun z hz => ?_, ?_, ?_, by simp only [List.length_cons]; omega⟩
          · rcases List.mem_cons.1 hz with rfl | hz
            · exact hn
            · exact q1 z hz
          · rw [uns_cons, flat2_app, ← q2]; exact heq
          · rw [q3, if_pos (by omega), List.flatMap_cons, List.append_assoc]
    have bad : fstS (x :: y :: r) = (0, 0) → ∃ y', parR (Fst.utf16_first 200000) (f + 1) (x :: y :: r) k acc = some y' ∧ ((y'.1 = [] ∧ y'.2 ≠ 0) ∨ ∃ L : List Nat, (∀ x ∈ L, okS x) ∧ x :: y :: r = (uns L).flatMap by2 ∧ y' = (acc ++ L.flatMap encS, 0) ∧ k + L.length ≤ 64) := by
      intro hfs
      refine ⟨([], 3), ?_, .inl ⟨rfl, by decide⟩⟩
      unfold parR
      rw [if_neg (by simp), hfst, hfs]
      simp
    by_cases c1 : x + 256 * y < 55296 ∨ 57344 ≤ x + 256 * y
    · have hn : un1 (x + 256 * y).toNat = [x + 256 * y] := by
        unfold un1
        rw [if_pos (by omega), List.cons.injEq]
        exact ⟨by omega, rfl⟩
      refine step (x + 256 * y).toNat r ⟨by omega, by omega⟩ hr (by omega) (by omega) (by omega) ?_ ?_
      · rw [hn]
        show x :: y :: r = (x + 256 * y) % 256 :: (x + 256 * y) / 256 :: r
        rw [show (x + 256 * y) % 256 = x by omega, show (x + 256 * y) / 256 = y by omega]
      · rw [hn]
        unfold fstS
        simp only
        rw [if_pos c1, Prod.mk.injEq]
        exact ⟨by omega, rfl⟩
    · by_cases c2 : 56320 ≤ x + 256 * y
      · refine bad ?_
        unfold fstS
        simp only
        rw [if_neg c1, if_pos c2]
      · match r, hr, he, hf, hm, bad, step with
        | [], _, _, _, _, bad, _ =>
          refine bad ?_
          unfold fstS
          simp only
          rw [if_neg c1, if_neg c2]
        | [z], _, he, _, _, _, _ => simp at he
        | z :: u :: r, hr, he, hf, hm, bad, step =>
          have hz := hr z (by simp)
          have hu := hr u (by simp)
          simp only [List.length_cons] at he hf hm
          by_cases c3 : z + 256 * u < 56320 ∨ 57344 ≤ z + 256 * u
          · refine bad ?_
            unfold fstS
            simp only
            rw [if_neg c1, if_neg c2, if_pos c3]
          · obtain ⟨n, hn⟩ : ∃ n : Nat, (n : Int) = 65536 + (x + 256 * y - 55296) * 1024 + (z + 256 * u) - 56320 := ⟨(65536 + (x + 256 * y - 55296) * 1024 + (z + 256 * u) - 56320).toNat, by omega⟩
            have hun : un1 n = [x + 256 * y, z + 256 * u] := by
              unfold un1
              rw [if_neg (by omega), List.cons.injEq, List.cons.injEq]
              exact ⟨by omega, by omega, rfl⟩
            refine step n r ⟨by omega, by omega⟩ (fun w hw => hr w (by simp [hw])) (by omega) (by omega) (by omega) ?_ ?_
            · rw [hun]
              show x :: y :: z :: u :: r = (x + 256 * y) % 256 :: (x + 256 * y) / 256 :: (z + 256 * u) % 256 :: (z + 256 * u) / 256 :: r
              rw [show (x + 256 * y) % 256 = x by omega, show (x + 256 * y) / 256 = y by omega, show (z + 256 * u) % 256 = z by omega, show (z + 256 * u) / 256 = u by omega]
            · rw [hun]
              unfold fstS
              simp only
              rw [if_neg c1, if_neg c2, if_neg c3, Prod.mk.injEq]
              exact ⟨hn.symm, rfl⟩
theorem flatE_len : ∀ (L : List Nat), (∀ x ∈ L, okS x) → (L.flatMap encS).length ≤ 4 * L.length
  | [], _ => by simp
  | n :: L, h => by
    have h1 := (sg_enc n (h n List.mem_cons_self) []).2.2
    have ih := flatE_len L fun x hx => h x (List.mem_cons_of_mem _ hx)
    rw [List.flatMap_cons, List.length_append, List.length_cons]
    omega
theorem parse_inv (b : List Int) (hb : AllB b) (hl : b.length ≤ 600) : ∃ y, utf16_Parse 200000 b = some y ∧ ((y.1 = [] ∧ y.2 ≠ 0) ∨ (y.2 = 0 ∧ layN y.1 = (b, 0) ∧ y.1.length ≤ 300)) := by
  unfold utf16_Parse
  rw [if_pos (by omega)]
  by_cases he : b.length % 2 = 0
  · rw [if_pos he]
    obtain ⟨y, h1, h2⟩ := par_inv (b.length + 1) b 0 [] hb he (by omega) (by omega)
    refine ⟨y, h1, ?_⟩
    rcases h2 with h2 | ⟨L, q1, q2, q3, q4⟩
    · exact .inl h2
    · refine .inr ⟨by rw [q3], ?_, ?_⟩
      · rw [q3]
        unfold layN
        simp only [List.nil_append, enc_sgs L q1]
        rw [if_neg (by omega), q2]
      · rw [q3]
        have := flatE_len L q1
        simp only [List.nil_append]
        omega
  · rw [if_neg he]
    exact ⟨_, rfl, .inl ⟨rfl, by decide⟩⟩
theorem parse_lay (s : List UInt8) (hs : s.length ≤ 600) (h : (layN s).2 = 0) : utf16_Parse 200000 (layN s).1 = some (s, 0) := by
  unfold layN at h ⊢
  cases hss : sgs s with
  | none => rw [hss] at h; cases h
  | some L =>
    rw [hss] at h
    simp only at h ⊢
    split at h
    · cases h
    · rename_i h64
      rw [if_neg h64]
      obtain ⟨e1, e2⟩ := sgs_enc s.length s L (Nat.le_refl _) hss
      obtain ⟨u1, u2, u3⟩ := okS_un e2
      have hl := flat2_len (uns L)
      unfold utf16_Parse
      simp only
      rw [if_pos (by omega), if_pos (by omega), par_uns L _ 0 [] e2 (by omega) (by omega)]
      simp only [List.nil_append, ← e1]
theorem law_Utf16Back (s : List UInt8) (b : List Int) (w1 : wfT .str s) (w2 : wfT (.sl (.int .u8)) b) : law09_Utf16Back 200000 s b = some true := by
  have hb : AllB b := wf_bytes w2
  unfold law09_Utf16Back
  by_cases hl : (600 : Int) < (s.length : Int)
  · rw [decide_eq_true hl]
    simp only [cond_true, alive09, Option.bind_some]
  · by_cases hl2 : (600 : Int) < (b.length : Int)
    · rw [decide_eq_false hl, decide_eq_true hl2]
      simp only [cond_true, cond_false, alive09, Option.bind_some]
    · obtain ⟨a1, _⟩ := lay_ok (N := 200000) s (by omega) (by omega)
      obtain ⟨y, y1, y2⟩ := parse_inv b hb (by omega)
      have hsame : ref01_Same 200000 b b = some true := by
        have := sameF_ok (N := 200000) (a := b) (b := b) (by omega) (by omega)
        rw [decide_eq_true rfl] at this
        exact this
      have hlay : y.1.length ≤ 300 → utf16_Lay 200000 y.1 = some (layN y.1) := fun h => (lay_ok (N := 200000) y.1 (by omega) (by omega)).1
      obtain ⟨t, e⟩ := y
      simp only at y2 hlay
      rw [decide_eq_false hl, decide_eq_false hl2, a1]
      simp only [cond_false, Option.bind_some]
      have tail : ∀ (z : List UInt8) , True := fun _ => trivial
      by_cases h0 : (layN s).2 = 0
      · have hp := parse_lay s (by omega) h0
        rw [decide_eq_true h0]
        simp only [cond_true, hp, Option.bind_some, decide_true, Bool.not_true, cond_false, y1]
        rcases y2 with ⟨q1, q2⟩ | ⟨q1, q2, q3⟩
        · have q1 : t = [] := q1
          subst q1
          simp [q2, alive09]
        · have q1 : e = 0 := q1
          subst q1
          simp [hlay q3, q2, hsame, alive09]
      · rw [decide_eq_false h0]
        simp only [cond_false, Option.bind_some, y1]
        rcases y2 with ⟨q1, q2⟩ | ⟨q1, q2, q3⟩
        · have q1 : t = [] := q1
          subst q1
          simp [q2, alive09]
        · have q1 : e = 0 := q1
          subst q1
          simp [hlay q3, q2, hsame, alive09]
end Go.Proofs.YtlfmdaicfkglmaaDoor
