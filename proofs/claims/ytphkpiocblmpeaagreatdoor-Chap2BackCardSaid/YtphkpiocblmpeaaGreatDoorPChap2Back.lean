/-
  Proved: the tied card of the law Chap2Back of euphroe/euphroelaw11: it returns true for every input, and each argument reads behind the call as it read before; the program's tables, that the row lists, are tied to the program's text. No condition beside these.
-/
import Derived.Test.YtphkpiocblmpeaaGreatDoorMrg4
import Derived.Test.YtphkpiocblmpeaaGreatDoorMrg6
import Derived.Test.YtphkpiocblmpeaaGreatDoorTie
import Derived.Test.YtphkpiocblmpeaaGreatDoorCards
import Derived.Lay
namespace Go.Proofs.YtphkpiocblmpeaaGreatDoor.chap2Back
set_option maxRecDepth 100000
open Go.ChangeShapes Go.WideShapes Go.ChangeAt Go.RowKit Go.Proofs.YtphkpiocblmpeaaGreatDoor
open Go.ChangeMaps (open_string shut_string)
set_option linter.unusedVariables false

theorem star_err : "*" ++ "errors.errorString" = "*errors.errorString" := by decide
theorem row_err (u : TypeId) (h : Tryz.prog.typeName? 3 u = some "*errors.errorString") : u = 158 :=
  typeName_ptr_named (nm := "errors.errorString") (by rw [star_err]; kernel_rfl) (by kernel_rfl) (by decide) u (by rw [star_err]; exact h)
set_option maxRecDepth 100000 in
theorem glob_of {W : World} (h : laidMetH Tryz.prog Rows.chap2BackRow.laid W) (hsh : W.ShapedOpen Tryz.prog) : GlobOK W [] := by
  rw [MakeChecks.laidMetH_plain _ _ _ (by kernel_rfl)] at h
  have l0 := h
  have l1 := laidMet.tail l0
  have l2 := laidMet.tail l1
  have l3 := laidMet.tail l2
  have l4 := laidMet.tail l3
  have l5 := laidMet.tail l4
  have l6 := laidMet.tail l5
  have l7 := laidMet.tail l6
  have l8 := laidMet.tail l7
  have l9 := laidMet.tail l8
  obtain ⟨a4, s4, v4, -, -, -⟩ := laid_sentinel l4 (g := 2) (by kernel_rfl) (by kernel_rfl) Tryz.underlying64 row_err Tryz.underlying158 Tryz.underlying160 rfl rfl Tryz.underlying9 (by kernel_rfl) (by kernel_rfl)
  obtain ⟨a5, s5, v5, -, -, -⟩ := laid_sentinel l5 (g := 1) (by kernel_rfl) (by kernel_rfl) Tryz.underlying64 row_err Tryz.underlying158 Tryz.underlying160 rfl rfl Tryz.underlying9 (by kernel_rfl) (by kernel_rfl)
  obtain ⟨ps2, ⟨g2, t2, cs2, f2, p2, q2, hg2, ht2, hv2, hd2, _⟩, _, _⟩ := l2
  obtain rfl : g2 = 4 := Option.some.inj (hg2.symm.trans (show Tryz.prog.globalNamed "internal/strconv.uint64pow10" = some 4 by kernel_rfl))
  obtain rfl : t2 = 151 := Option.some.inj (ht2.symm.trans (show (Tryz.prog.globals[4]?).map (·.type) = some 151 by kernel_rfl))
  have r2 := laid_row (d := (.arr 20 (.int .u64))) hg2 (by kernel_rfl) rfl hv2 hd2
  obtain ⟨ps3, ⟨g3, t3, cs3, f3, p3, q3, hg3, ht3, hv3, hd3, _⟩, _, _⟩ := l3
  obtain rfl : g3 = 7 := Option.some.inj (hg3.symm.trans (show Tryz.prog.globalNamed "unicode/utf8.acceptRanges" = some 7 by kernel_rfl))
  obtain rfl : t3 = 168 := Option.some.inj (ht3.symm.trans (show (Tryz.prog.globals[7]?).map (·.type) = some 168 by kernel_rfl))
  have r3 := laid_cells (d := (.arr 16 (.pair (.int .u8) (.int .u8)))) hg3 ht3 (by kernel_rfl) rfl hv3 hd3 (fun h => absurd (congrArg List.length h) (by decide +kernel))
  obtain ⟨ps6, ⟨g6, t6, cs6, f6, p6, q6, hg6, ht6, hv6, hd6, _⟩, _, _⟩ := l6
  obtain rfl : g6 = 3 := Option.some.inj (hg6.symm.trans (show Tryz.prog.globalNamed "euphroe/md4.turns" = some 3 by kernel_rfl))
  obtain rfl : t6 = 142 := Option.some.inj (ht6.symm.trans (show (Tryz.prog.globals[3]?).map (·.type) = some 142 by kernel_rfl))
  have r6 := laid_cells (d := (.arr 3 (.arr 4 (.int .i64)))) hg6 ht6 (by kernel_rfl) rfl hv6 hd6 (fun h => absurd (congrArg List.length h) (by decide +kernel))
  obtain ⟨ps7, ⟨g7, t7, cs7, f7, p7, q7, hg7, ht7, hv7, hd7, _⟩, _, _⟩ := l7
  obtain rfl : g7 = 5 := Option.some.inj (hg7.symm.trans (show Tryz.prog.globalNamed "euphroe/md4.crossed" = some 5 by kernel_rfl))
  obtain rfl : t7 = 161 := Option.some.inj (ht7.symm.trans (show (Tryz.prog.globals[5]?).map (·.type) = some 161 by kernel_rfl))
  have r7 := laid_cells (d := (.arr 16 (.int .i64))) hg7 ht7 (by kernel_rfl) rfl hv7 hd7 (fun h => absurd (congrArg List.length h) (by decide +kernel))
  obtain ⟨ps8, ⟨g8, t8, cs8, f8, p8, q8, hg8, ht8, hv8, hd8, _⟩, _, _⟩ := l8
  obtain rfl : g8 = 8 := Option.some.inj (hg8.symm.trans (show Tryz.prog.globalNamed "euphroe/des.byOne" = some 8 by kernel_rfl))
  obtain rfl : t8 = 141 := Option.some.inj (ht8.symm.trans (show (Tryz.prog.globals[8]?).map (·.type) = some 141 by kernel_rfl))
  have r8 := laid_cells (d := (.arr 4 (.int .i64))) hg8 ht8 (by kernel_rfl) rfl hv8 hd8 (fun h => absurd (congrArg List.length h) (by decide +kernel))
  obtain ⟨ps9, ⟨g9, t9, cs9, f9, p9, q9, hg9, ht9, hv9, hd9, _⟩, _, _⟩ := l9
  obtain rfl : g9 = 6 := Option.some.inj (hg9.symm.trans (show Tryz.prog.globalNamed "unicode/utf8.first" = some 6 by kernel_rfl))
  obtain rfl : t9 = 165 := Option.some.inj (ht9.symm.trans (show (Tryz.prog.globals[6]?).map (·.type) = some 165 by kernel_rfl))
  have r9 := laid_cells (d := (.arr 256 (.int .u8))) hg9 ht9 (by kernel_rfl) rfl hv9 hd9 (fun h => absurd (congrArg List.length h) (by decide +kernel))
  refine ⟨fun g l hm => ?_, fun g hm => ?_, fun g hm => ?_, fun g l hm => ?_⟩
  · simp only [globs, List.mem_cons, List.not_mem_nil, or_false, Prod.mk.injEq] at hm
    rcases hm with ⟨rfl, rfl⟩ | ⟨rfl, rfl⟩ | ⟨rfl, rfl⟩ | ⟨rfl, rfl⟩ | ⟨rfl, rfl⟩
    · exact r3
    · exact r9
    · exact r6
    · exact r7
    · exact r8
  · simp only [globNN, List.mem_cons, List.not_mem_nil, or_false] at hm
    rcases hm with rfl | rfl
    · exact laid_nn (by kernel_rfl) v5
    · exact laid_nn (by kernel_rfl) v4
  · simp only [globNum, List.mem_cons, List.not_mem_nil, or_false] at hm
    subst hm
    exact num_of (Go.Proofs.cell_of_shapedOpen_int (zero := #[.int .i64 0]) (t := 3) hsh (of_decide_eq_true (by kernel_rfl)) (by kernel_rfl) rfl (by kernel_rfl) (by kernel_rfl) Tryz.underlying3)
  · simp only [globRows, List.mem_cons, List.not_mem_nil, or_false, Prod.mk.injEq] at hm
    rcases hm with ⟨rfl, rfl⟩
    · exact ⟨by simp, r2⟩
set_option maxRecDepth 100000 in
theorem lifted (os : Os) (started : os.Started) (H : Type) (enc : TypeId × Value → H) :
    ReturnsInHanded {} Tryz.checked os 4 .any (fun w args => (Rows.chap2BackSpec.pre enc Tryz.prog Tryz.f4 Rows.chap2BackRow.domain false w args ∧ laidMetH Tryz.prog Rows.chap2BackRow.laid w) ∧ sizedMet enc Tryz.prog Tryz.f4 (OpenSpec.ofChange Rows.chap2BackSpec) false w args) (Rows.chap2BackSpec.post enc Tryz.prog Tryz.f4 false true false false) := by
  refine handed_and_shaped (C := Tryz.checked) (X := fun w _ => laidMetH Tryz.prog Rows.chap2BackRow.laid w) (fun _ _ _ hh h => h.of_heap hh) own started (by kernel_rfl) Tryz.func4
    (ChangeSpec.witness_shaped (enc := enc) (C := Tryz.checked) (os := os) (X := fun w _ => laidMetH Tryz.prog Rows.chap2BackRow.laid w) false (World.laidAll Tryz.prog os Rows.chap2BackRow.laid) #[.agg (Array.replicate 16 (.int .u8 0)), .agg (Array.replicate 24 (.int .u8 0)), .agg #[.int .i64 0, .bool false, .int .u8 0, .int .u8 0, .int .u8 0, .int .u8 0, .int .u8 0, .int .u8 0, .int .u8 0, .int .u8 0, .int .u8 0, .int .u8 0, .int .u8 0, .int .u8 0, .int .u8 0, .int .u8 0, .int .u8 0, .int .u8 0, .string ⟨#[]⟩]] 8 (World.laidAll_os _ _ _) (World.shaped_of_ZipB (by kernel_rfl) (by kernel_rfl)) (by kernel_rfl) (by kernel_rfl) (by kernel_rfl) (by rw [MakeChecks.laidMetH_plain _ _ _ (by kernel_rfl)]; exact laidMet_laidAll _ (by kernel_rfl) (by kernel_rfl))) ?_
  intro W base args ds gs before hval0 hW _ hsh hL _
  have hval : ∀ (j : Nat) t v, Tryz.f4.params[j]? = some t → args[j]? = some v → Value.okWide Tryz.prog W .any base t v := hval0
  have hW' := hW
  obtain ⟨p, q, hA0, hV, rfl, hfz, hnd⟩ := hW
  have hA : DataW.TrodAll enc Tryz.prog W 0 (fun _ => true) true Tryz.f4.params.toList args.toList ds p := hA0
  rw [Tryz.params4] at hA hval
  obtain ⟨v0, vs0, d0, ds0, p0, q0, hargs, rfl, rfl, h0, r0⟩ := trodAll_cons hA
  obtain ⟨v1, vs1, d1, ds1, p1, q1, rfl, rfl, rfl, h1, r1⟩ := trodAll_cons r0
  obtain ⟨v2, vs2, d2, ds2, p2, q2, rfl, rfl, rfl, h2, r2⟩ := trodAll_cons r1
  obtain ⟨rfl, rfl, rfl⟩ := trodAll_nil r2
  obtain rfl : args = #[v0, v1, v2] := by cases args; simp_all
  obtain ⟨rfl, rfl⟩ := trodVars_none hV
  have k0 := h0
  have lt0 := lt_of_trod h0
  obtain ⟨a0, rel0, wf0⟩ := open_td (t := 22) (d := (.arr 16 (.int .u8))) (by kernel_rfl) (by kernel_rfl) (hval 0 22 v0 rfl rfl) h0
  have k1 := h1
  have lt1 := lt_of_trod h1
  obtain ⟨a1, rel1, wf1⟩ := open_td (t := 44) (d := (.arr 24 (.int .u8))) (by kernel_rfl) (by kernel_rfl) (hval 1 44 v1 rfl rfl) h1
  have k2 := h2
  have lt2 := lt_of_trod h2
  obtain ⟨a2, rel2, wf2⟩ := open_td (t := 24) (d := (.pair (.int .i64) (.pair .bool (.pair (.arr 16 (.int .u8)) .str)))) (by kernel_rfl) (by kernel_rfl) (hval 2 24 v2 rfl rfl) h2
  clear hA0 hval0
  refine (callsK_true (law11_Chap2Back_C 200000 a0 a1 a2 true (law_Chap2Back a0 a1 a2 wf0 wf1 wf2)) (RelL.cons rel0 (RelL.cons rel1 (RelL.cons rel2 (RelL.nil _ _ _)))) (glob_of hL hsh)).mono fun e W' ⟨he, bel⟩ => ?_
  subst he
  exact ⟨_, rfl, _, _, _, [], _, [], hW', trodAll_mk1 (shut_bool Tryz.underlying4 _), (trodAll_cons_mk (Below.trod laidOut (by kernel_rfl) (of_decide_eq_true (by kernel_rfl)) k0 bel lt0) (trodAll_cons_mk (Below.trod laidOut (by kernel_rfl) (of_decide_eq_true (by kernel_rfl)) k1 bel lt1) (trodAll_cons_mk (Below.trod laidOut (by kernel_rfl) (of_decide_eq_true (by kernel_rfl)) k2 bel lt2) trodAll_mk0))), rfl, bel.frame _, fun h => by cases h⟩

theorem over : Rows.chap2BackRow.holds Tryz.pinned (OpenSpec.ofChange Rows.chap2BackSpec) :=
  OpenClaim.holds_of_wide 4 Tryz.f4 rfl rfl rfl rfl rfl rfl rfl ⟨rfl, rfl, rfl, rfl, rfl⟩ rfl rfl rfl rfl rfl (by kernel_rfl) Tryz.func4 (by kernel_rfl)
    (of_decide_eq_true (by kernel_rfl)) (by unfold Func.isWrapper; first | (rw [if_pos (by decide +kernel)]; kernel_rfl) | (rw [if_neg (by decide +kernel)]; exact ⟨rfl, rfl⟩))
    (fun os started H enc _ => lifted os started H enc)

theorem proved : Rows.Chap2BackCardSaid :=
  Claim7.holds_tied_plain_at .later [] _ true _ true
    over (fun _ h => by cases h) (by kernel_rfl) (fun _ h => by cases h) chap2Back_row_tie rfl ⟨rfl, rfl⟩ (by kernel_rfl) rfl
    (fun f fn hf hfn => by
      obtain rfl : f = 4 := Option.some.inj ((show Tryz.prog.funcNamed "euphroe/euphroelaw11.Chap2Back" = some 4 by kernel_rfl).symm.trans hf) |>.symm
      obtain rfl : fn = Tryz.f4 := (Option.some.inj (Tryz.func4.symm.trans hfn)).symm
      exact ⟨by kernel_rfl, fun j t ht => by
        rw [Tryz.params4] at ht
        have hm : t ∈ [22, 44, 24] := by simpa using Array.mem_of_getElem? ht
        have hall : ([22, 44, 24].all fun u => !Tryz.prog.wantsStandIn u) = true := by kernel_rfl
        exact (show Tryz.prog.wantsStandIn t = false by simpa using List.all_eq_true.1 hall t hm)⟩)
    (by kernel_rfl)
#print axioms proved
end Go.Proofs.YtphkpiocblmpeaaGreatDoor.chap2Back

