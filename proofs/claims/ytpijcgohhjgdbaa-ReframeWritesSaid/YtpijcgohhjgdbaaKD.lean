/-
  Functions of the library that have no body: what the model says of them, on typed data.
-/
import Derived.Test.YtpijcgohhjgdbaaKC
namespace Go.Proofs.Ytpijcgohhjgdbaa
set_option maxRecDepth 100000
open Go.RowKit
set_option linter.unusedVariables false
set_option linter.unusedSimpArgs false

/-- Where a byte stands first. -/
def idxB (s : List UInt8) (z : Int) : Int := match s.findIdx? (fun b => b == z.toNat.toUInt8) with
  | some i => (i : Int)
  | none => -1
section
variable {P : Program} {R : Type}
def ixK {R : Type} (args : List V) (k : V → Tree R) : Tree R := match args with
  | [.str s, .c (.int .u8 z)] => k (.c (.int .i64 (idxB s z)))
  | _ => .fail
theorem find_range (s : List UInt8) (p : UInt8 → Bool) : ∀ (n i : Nat), i + n = s.length → ((List.range' i n).find? fun j => p (s.getD j 0)) = ((s.drop i).findIdx? p).map (i + ·)
  | 0, i, h => by rw [List.drop_of_length_le (by omega)]; rfl
  | n + 1, i, h => by
    have hi : i < s.length := by omega
    rw [List.range'_succ, List.find?_cons, List.drop_eq_getElem_cons hi, List.findIdx?_cons, find_range s p n (i + 1) (by omega)]
    have e : s.getD i 0 = s[i] := by simp [List.getD_eq_getElem?_getD, hi]
    rw [e]
    cases p s[i] with
    | true => simp
    | false =>
      simp only [Bool.false_eq_true, if_false, Option.map_map]
      cases (s.drop (i + 1)).findIdx? p with
      | none => rfl
      | some j => simp; omega
theorem run_index {s : List UInt8} {z : Int} {w : World} : (Extern.BytealgIndexByte.indexByte #[.string ⟨s.toArray⟩, .int .u8 z]).run P w = .ok (.int .i64 (idxB s z)) w := by
  have hsz : (ByteArray.mk s.toArray).size = s.length := by show s.toArray.size = _; simp
  have hget : ∀ i, (ByteArray.mk s.toArray)[i]! = s.getD i 0 := fun i => by
    rcases Nat.lt_or_ge i s.length with hi | hi
    · rw [getElem!_pos (ByteArray.mk s.toArray) i (by rw [hsz]; exact hi), List.getD_eq_getElem?_getD, List.getElem?_eq_getElem hi]
      rfl
    · rw [getElem!_neg (ByteArray.mk s.toArray) i (by rw [hsz]; omega), List.getD_eq_getElem?_getD, List.getElem?_eq_none hi]
      rfl
  have e := find_range s (fun b => b == z.toNat.toUInt8) s.length 0 (by omega)
  rw [List.drop_zero] at e
  unfold idxB
  show Sem.run P (do
    let b ← Extern.Bytes.bytesOf (.string ⟨s.toArray⟩)
    let c ← Extern.Bytes.asByte (.int .u8 z)
    match (List.range b.size).find? fun i => b[i]! == c with
    | some i => pure (goInt i)
    | none => pure (goInt (-1))) w = _
  simp only [Extern.Bytes.bytesOf, Extern.Bytes.asByte, Sem.run_bind, Sem.run_pure, Result.andThen_ok, hsz, List.range_eq_range', hget]
  rw [e]
  cases s.findIdx? (fun b => b == z.toNat.toUInt8) with
  | none => rfl
  | some i => simp [goInt]
theorem ix_ok {f : FuncId} {fn : Func} (hf : P.funcs[f]? = some fn) (hb : fn.body.isNone = true) (hn : fn.name ≠ "runtime.NumGoroutine") (h1 : (Extern.findNext fn).isNone = true) (h2 : Extern.find fn = some Extern.BytealgIndexByte.indexByte) :
    ∀ args (k : V → Tree R) res, (ixK args k).run = some res → ∃ r, (k r).run = some res ∧ r.plain = true ∧ (∀ l k, ex r ≠ .fresh l k) ∧ CallsV P f args r := by
  intro args k res h
  unfold ixK at h
  split at h
  · rename_i s z
    refine ⟨_, h, rfl, (fun l k h => by cases h), fun w B cargs hB hgl hlen hrel N hN => ?_⟩
    obtain ⟨v0, e0, r0⟩ := hrel 0 _ rfl
    obtain ⟨v1, e1, r1⟩ := hrel 1 _ rfl
    have hc : cargs = [v0, v1] := by
      match cargs, hlen, e0, e1 with
      | [a, b], _, e0, e1 => simp at e0 e1; rw [e0, e1]
    have q0 := Rel.ofC r0
    have q1 := Rel.ofC r1
    subst q0 q1 hc
    unfold EntersV
    have h1' : Extern.findNext fn = none := Option.isNone_iff_eq_none.1 h1
    have hb' : fn.body = none := Option.isNone_iff_eq_none.1 hb
    have hm : Sem.run P (mark (.extern f)) w = .ok () w := rfl
    have hrun : (callFunc f [Value.string ⟨s.toArray⟩, Value.int .u8 z].toArray).run P w = .ok (.value (.int .i64 (idxB s z))) w := by
      simp [callFunc, Sem.run_bind, hf, hn, hb', hm, h1', h2, run_index]
    rw [hrun]
    exact hN _ _ (Gr.refl _) (.c _ _)
  · cases h
/-- A function more, that has no body. -/
theorem EnvOK.addExt {Γ : (R : Type) → Env R} (hΓ : EnvOK P (Γ R)) {f : FuncId} {F : (R : Type) → List V → (V → Tree R) → Tree R} (h : ∀ args (k : V → Tree R) res, (F R args k).run = some res → ∃ r, (k r).run = some res ∧ r.plain = true ∧ (∀ l k, ex r ≠ .fresh l k) ∧ CallsV P f args r) : EnvOK P (Env.addFn Γ f F R) := by
  refine ⟨⟨fun f' args k res hc => ?_⟩, hΓ.inl, hΓ.lp, hΓ.cln⟩
  simp only [Env.addFn] at hc
  split at hc
  · rename_i hff
    subst hff
    exact h args k res hc
  · exact hΓ.fns.ok f' args k res hc
end
end Go.Proofs.Ytpijcgohhjgdbaa
