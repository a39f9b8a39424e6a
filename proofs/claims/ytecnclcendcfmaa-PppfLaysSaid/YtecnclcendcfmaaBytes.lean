/-
  What the library does with bytes: same ones, copies, what is ahead.
-/
import Derived.Test.YtecnclcendcfmaaFacts
import Derived.Test.YtecnclcendcfmaaRgn
import Derived.Lib.SlBytesConst
namespace Go.Proofs.Ytecnclcendcfmaa
set_option maxRecDepth 100000
open Go.RowKit
set_option linter.unusedVariables false
set_option linter.unusedSimpArgs false

set_option maxHeartbeats 400000 in
theorem bytes_equal (A B : Option Addr) (n m c d : Nat) (xs ys : List UInt8) (w : World) (hx : RB w A n xs) (hy : RB w B m ys) :
    Calls Try.prog 33 #[.slice A n c, .slice B m d] w fun e w' => e = .returned (.bool (decide (xs = ys))) ∧ w = w' := by
  have kx := str_bytes A n c xs w hx
  have ky := str_bytes B m d ys w hy
  go_enter Try.func33, Try.ntmps33
  go_wp2
  go_ret
  refine ⟨ret_bool ?_, rfl⟩
  rw [Bool.eq_iff_iff]; simp
/-- Bytes of the call's own are handed back; nothing that was there has turned. -/
def RetO (w : World) (bs : List UInt8) (e : Ending) (w' : World) : Prop :=
  ∃ v, e = .returned v ∧ OB w' w.heap.size v bs.length bs ∧ Gr w w'
theorem RetO.of {w w' : World} {v : Value} {n : Nat} {bs : List UInt8} (ho : OB w' w.heap.size v n bs) (hb : Gr w w') : RetO w bs (.returned v) w' :=
  ⟨v, rfl, by rw [ho.len]; exact ho, hb⟩
theorem RB.gr {w w' : World} {A : Option Addr} {n : Nat} {bs : List UInt8} (h : RB w A n bs) (g : Gr w w') : RB w' A n bs := h.below g
set_option maxHeartbeats 400000 in
theorem bytes_clone (A : Option Addr) (n c : Nat) (xs : List UInt8) (w : World) (hx : RB w A n xs) (hn : n ≤ 140737488355328) :
    Calls Try.prog 32 #[.slice A n c] w (RetO w xs) := by
  cases A with
  | none =>
    have hn0 : n = 0 := by
      rcases Nat.eq_zero_or_pos n with h | h
      · exact h
      · obtain ⟨_, h1, _⟩ := hx.2 h; cases h1
    subst hn0
    have hx0 : xs = [] := List.eq_nil_of_length_eq_zero hx.1
    subst hx0
    have ke := fun w => Lib.run_eql_slice_nil (P := Try.prog) w 34 5 none 0 c 0 0 Try.underlying34
    go_enter Try.func32, Try.ntmps32
    go_wp2
    go_ret
    exact ⟨_, rfl, OB.nil _ _, Gr.refl _⟩
  | some ad =>
    have ke := fun w => Lib.run_eql_slice_nil (P := Try.prog) w 34 5 (some ad) n c 0 0 Try.underlying34
    have hown : OB (w.alloc (.cells #[] 5)) w.heap.size (.slice (some ⟨w.heap.size, 0, none⟩) 0 0) 0 [] := by
      have := OB.made w w.heap.size 0 0 (Nat.le_refl _) (by simp [maxLen]) (Nat.le_refl _)
      rwa [show madeCells #[Value.int .u8 0] 0 = #[] from Array.eq_empty_of_size_eq_zero (by rw [size_madeCells])] at this
    have hr : RB (w.alloc (.cells #[] 5)) (some ad) n xs := hx.gr (gr_alloc (Gr.refl _) _)
    go_enter Try.func32, Try.ntmps32
    go_wp2_with (refine wpList_appb _ rfl (.tmp 5) (.tmp 6) rfl w.heap.size (.slice (some ⟨w.heap.size, 0, none⟩) 0 0) 0 [] rfl hown (some ad) n c xs rfl hr (by omega) (by simp) ?_; intro v' w1 ho hg hv)
    have G : Gr w w1 := (gr_alloc (Gr.refl _) _).grown hg (by simp) (fun k hk => by simp [Value.ownBlock] at hk; omega)
    go_ret
    rw [Nat.zero_add, List.nil_append] at ho
    exact RetO.of ho G
theorem StA.below {w w' : World} {B C : Nat} {vs : List Value} (h : StA w B vs) (hb : Below C w w') (hC : B < C) : StA w' B vs :=
  ⟨fun i v hv => (hb.cell (p := ⟨B, i, none⟩) hC).trans (h.cell i v hv), fun i v hv => (hb.frozen (p := ⟨B, i, none⟩) hC).trans (h.free i v hv), Nat.lt_of_lt_of_le h.lt hb.size⟩
/-- What stands in other blocks than C reads on when C is written. -/
theorem RB.set_block {w : World} {A : Option Addr} {n C : Nat} {bs : List UInt8} {us : List Value} (h : RB w A n bs) (hne : ∀ ad, A = some ad → 0 < n → ad.block ≠ C) : RB (setCells w C 0 us) A n bs :=
  ⟨h.1, fun hn => by
    obtain ⟨ad, e, hlt, hc⟩ := h.2 hn
    have g := setCells_own C us w
    exact ⟨ad, e, Nat.lt_of_lt_of_le hlt g.size, fun j b hj => (World.cell?_of_block (w := w) (a := ad.add j) (g.block _ (by rw [block_of_add]; exact hlt) (by rw [block_of_add]; simp [hne ad e hn]))).trans (hc j b hj)⟩⟩
theorem OB.set_block {w : World} {base n C : Nat} {v : Value} {bs : List UInt8} {us : List Value} (h : OB w base v n bs) (hC : C < base) (hl : C < w.heap.size) : OB (setCells w C 0 us) base v n bs := by
  have g := setCells_own C us w
  refine h.kept (row := some C) ⟨g.os, g.tape, g.output, g.size, fun k hk hne => g.block k hk (by simp; intro e; exact hne (by rw [e]))⟩ ?_
  cases hv : v.ownBlock with
  | none => exact .inl rfl
  | some k => exact .inr fun e => by have := (h.lt k hv).1; injection e with e; omega
/-- append to bytes of the call's own: what lies below stays. -/
theorem wpList_appk (w : World) {ops : Array Oper} {rest : List Oper} {o : Oper} {a : Act} {Q : Exit → Act → World → Prop} (hgd : o.guard = none) (s x : Operand)
    (ho : o.op = .call { callee := .builtin .append, args := #[s, x], argTypes := #[34, 34] })
    (base : Nat) (v : Value) (n : Nat) (bs : List UInt8) (hs : a.eval s = v) (hown : OB w base v n bs)
    (A : Option Addr) (m c : Nat) (news : List UInt8) (hx : a.eval x = .slice A m c) (hr : RB w A m news) (hb : n + m ≤ 140737488355328) (hbase : base ≤ w.heap.size)
    (h : ∀ v' w', OB w' base v' (n + m) (bs ++ news) → Below base w w' → wpList Try.prog ops Q rest (a.put o.dst v') w') : wpList Try.prog ops Q (o :: rest) a w :=
  wpList_appb w hgd s x ho base v n bs hs hown A m c news hx hr hb hbase fun v' w' h1 h2 _ => h v' w' h1 ((Below.refl base w).grown h2 hbase fun k hk => (hown.lt k hk).1)
theorem step_appk (w : World) {ops : Array Oper} {o : Oper} {a : Act} {K : Act → World → Prop} {Q : Exit → Act → World → Prop} {E : Prop} (hgd : o.guard = none) (s x : Operand)
    (ho : o.op = .call { callee := .builtin .append, args := #[s, x], argTypes := #[34, 34] })
    (base : Nat) (v : Value) (n : Nat) (bs : List UInt8) (hs : a.eval s = v) (hown : OB w base v n bs)
    (A : Option Addr) (m c : Nat) (news : List UInt8) (hx : a.eval x = .slice A m c) (hr : RB w A m news) (hb : n + m ≤ 140737488355328) (hbase : base ≤ w.heap.size)
    (h : ∀ v' w', OB w' base v' (n + m) (bs ++ news) → Below base w w' → K (a.put o.dst v') w') :
    if Region.wanted o (yielded ops a.tmps) = true then Oper.wp Try.prog o a w K Q else E :=
  step_appb w hgd s x ho base v n bs hs hown A m c news hx hr hb hbase fun v' w' h1 h2 _ => h v' w' h1 ((Below.refl base w).grown h2 hbase fun k hk => (hown.lt k hk).1)
/-- []byte of a constant. -/
theorem RB.litm (w : World) (bs : List UInt8) (fr : Nat × Nat) (t : TypeId) (g : Nat) (hg : g = w.heap.size) : RB (w.alloc (.cells (bs.map bv).toArray t fr)) (some ⟨g, 0, none⟩) bs.length bs := by
  subst hg
  refine ⟨rfl, fun _ => ⟨_, rfl, by simp, fun j b hj => ?_⟩⟩
  have : (⟨w.heap.size, 0, none⟩ : Addr).add j = ⟨w.heap.size, j, none⟩ := by unfold Addr.add; split <;> simp_all
  rw [this, World.cell?_alloc_mark]
  simp [hj, bv]
/-- bytes.HasPrefix, with a head of two. -/
theorem hasPrefix_two (A B : Option Addr) (n c d : Nat) (xs : List UInt8) (x y : UInt8) (w : World) (hx : RB w A n xs) (hy : RB w B 2 [x, y]) (hnc : n ≤ c) (hcm : c ≤ maxLen) :
    Calls Try.prog 38 #[.slice A n c, .slice B 2 d] w fun e w' => e = .returned (.bool (decide (xs.take 2 = [x, y]))) ∧ w = w' := by
  unfold maxLen at hcm
  by_cases hn : 2 ≤ n
  · have hlt : ¬ n < 2 := by omega
    have ht := hx.upto hn
    have hlx := Lib.hid hx.len
    go_enter Try.func38, Try.ntmps38
    go_wp2_with fail
    refine (bytes_equal A B 2 2 _ d _ _ _ ht hy).mono ?_
    rintro e w1 ⟨rfl, rfl⟩
    go_wp2
    go_ret
    exact ⟨rfl, rfl⟩
  · have hlt : n < 2 := by omega
    have hf : decide (xs.take 2 = [x, y]) = false := by
      have := hx.len
      simp only [decide_eq_false_iff_not]
      intro h
      have := congrArg List.length h
      simp at this; omega
    rw [hf]
    clear hf
    go_enter Try.func38, Try.ntmps38
    go_wp2
    go_ret
    exact ⟨rfl, rfl⟩
def strip2 (x y : UInt8) (xs : List UInt8) : List UInt8 := if xs.take 2 = [x, y] then xs.drop 2 else xs
/-- bytes.TrimPrefix, with a head of two: a piece of what came. -/
theorem trimPrefix_two (A B : Option Addr) (n c d : Nat) (xs : List UInt8) (x y : UInt8) (w : World) (hx : RB w A n xs) (hy : RB w B 2 [x, y]) (hnc : n ≤ c) (hcm : c ≤ maxLen) :
    Calls Try.prog 30 #[.slice A n c, .slice B 2 d] w fun e w' => ∃ A' n' c', e = .returned (.slice A' n' c') ∧ n' ≤ c' ∧ c' ≤ maxLen ∧ RB w A' n' (strip2 x y xs) ∧ w = w' := by
  have Hcm := Lib.hid hcm
  unfold maxLen at hcm
  by_cases h : xs.take 2 = [x, y]
  · have h2 : 2 ≤ n := by
      have := hx.len
      have := congrArg List.length h
      simp at this; omega
    have hd : decide (xs.take 2 = [x, y]) = true := by simpa using h
    have hp := hasPrefix_two A B n c d xs x y w hx hy hnc Hcm.out
    rw [hd] at hp
    have hs : strip2 x y xs = xs.drop 2 := by unfold strip2; rw [if_pos h]
    rw [hs]
    clear hd h hs
    have hfr := hx.from_ h2 hnc
    by_cases hc2 : c = 2
    · rw [if_pos hc2] at hfr
      have hn2 : n = 2 := by omega
      subst hc2 hn2
      go_enter Try.func30, Try.ntmps30
      go_wp2_with fail
      refine hp.mono ?_
      rintro e w1 ⟨rfl, rfl⟩
      go_wp2
      go_ret
      exact ⟨_, _, _, rfl, Nat.le_refl _, by simp [maxLen], hfr, rfl⟩
    · rw [if_neg hc2] at hfr
      have hc2' : ¬ ((c : Int) = 2) := by omega
      go_enter Try.func30, Try.ntmps30
      go_wp2_with fail
      refine hp.mono ?_
      rintro e w1 ⟨rfl, rfl⟩
      go_wp2
      go_ret
      exact ⟨_, n - 2, c - 2, rfl, by omega, by simp only [maxLen]; omega, hfr, rfl⟩
  · have hd : decide (xs.take 2 = [x, y]) = false := by simpa using h
    have hp := hasPrefix_two A B n c d xs x y w hx hy hnc Hcm.out
    rw [hd] at hp
    have hs : strip2 x y xs = xs := by unfold strip2; rw [if_neg h]
    rw [hs]
    clear hd h hs
    go_enter Try.func30, Try.ntmps30
    go_wp2_with fail
    refine hp.mono ?_
    rintro e w1 ⟨rfl, rfl⟩
    go_wp2
    go_ret
    exact ⟨A, n, c, rfl, hnc, Hcm.out, hx, rfl⟩
end Go.Proofs.Ytecnclcendcfmaa
