/-
  Parts of my own, one behind the other: GMpp, QMM0, QMM1, QMM2, QMM3, QMM4, QMM5, QMS0, QMS1, QMS2, QMS3.
-/
import Derived.Test.YtdkklfegpjlklaaDoorMrg5
import Derived.Test.YtdkklfegpjlklaaDoorMrg4
/-
  Functions of the program as plain functions on typed data, and that they are so. Printed by a program of mine.
-/
namespace Go.Proofs.YtdkklfegpjlklaaDoor
open Go.RowKit
set_option linter.unusedVariables false
set_option maxRecDepth 100000
noncomputable def ref05_Block_L3_R (N : Nat) (c : (((Arr (Int) 5) × ((Arr (Int) 64) × ((Int) × Unit))) × ((Arr (Int) 5) × ((Arr (Int) 80) × Unit)))) : Option ((((Arr (Int) 5) × Unit) × ((Arr (Int) 5) × ((Arr (Int) 80) × Unit)))) := gl (fun X c => ref05_Block_L3 N X c.1.1 c.1.2.1 c.1.2.2.1 c.2.1 c.2.2.1) N c
theorem ref05_Block_L3_S (N : Nat) (X : (((Arr (Int) 5) × ((Arr (Int) 64) × ((Int) × Unit))) × ((Arr (Int) 5) × ((Arr (Int) 80) × Unit))) → Option ((((Arr (Int) 5) × Unit) × ((Arr (Int) 5) × ((Arr (Int) 80) × Unit))))) (s2 : Arr (Int) 5) (block3 : Arr (Int) 64) (i6 : Int) (h0 : Arr (Int) 5) (h1 : Arr (Int) 80) : (roundK Go.Proofs.Tryd.prog (Ev80 N) 400 [74] ref05_Block_L3_I (loopAt Go.Proofs.Tryd.prog [74] 3) X ((s2, block3, i6, ()), (h0, h1, ()))).run = ref05_Block_L3 N X s2 block3 i6 h0 h1 := by kernel_rfl
noncomputable def Ev81 (N : Nat) : (R : Type) → Env R := Env.addLp (Ev80 N) [74] 0 3 (fun R => lpK Go.Proofs.Tryd.prog ref05_Block_L3_I (fun X c => ref05_Block_L3 N X c.1.1 c.1.2.1 c.1.2.2.1 c.2.1 c.2.2.1) N)
theorem Ev81_ok (N : Nat) (R : Type) : EnvOK Go.Proofs.Tryd.prog (Ev81 N R) := EnvOK.addLp (Ev80_ok N R) (by kernel_rfl) (lpK_ok (li := ref05_Block_L3_I) (G := fun X c => ref05_Block_L3 N X c.1.1 c.1.2.1 c.1.2.2.1 c.2.1 c.2.2.1) hmx (Ev80_ok N _) (by kernel_rfl) loopAt_sub (fun (X : CT ref05_Block_L3_I.sh → Option (OT ref05_Block_L3_I.outs)) (c : CT ref05_Block_L3_I.sh) => ref05_Block_L3_S N X c.1.1 c.1.2.1 c.1.2.2.1 c.2.1 c.2.2.1) N)
noncomputable def ref05_mix (N : Nat) (i0 : Int) (b1 : Int) (c2 : Int) (d3 : Int) : Option (Int) :=
 bif (decide ((Go.IntKind.wrap .i64 (@Int.tdiv i0 (20 : Int))) = (0 : Int))) then
  some ((Go.IntKind.wrap .u32 ((@Go.bits @Go.BinOp.or @Go.IntKind.u32 (@Go.bits @Go.BinOp.and @Go.IntKind.u32 b1 c2) (@Go.bits @Go.BinOp.and @Go.IntKind.u32 (Go.IntKind.wrap .u32 ((4294967295 : Int) - b1)) d3)) + (1518500249 : Int))))
 else
  bif (decide ((Go.IntKind.wrap .i64 (@Int.tdiv i0 (20 : Int))) = (1 : Int))) then
   some ((Go.IntKind.wrap .u32 ((@Go.bits @Go.BinOp.xor @Go.IntKind.u32 (@Go.bits @Go.BinOp.xor @Go.IntKind.u32 b1 c2) d3) + (1859775393 : Int))))
  else
   bif (decide ((Go.IntKind.wrap .i64 (@Int.tdiv i0 (20 : Int))) = (2 : Int))) then
    some ((Go.IntKind.wrap .u32 ((@Go.bits @Go.BinOp.or @Go.IntKind.u32 (@Go.bits @Go.BinOp.or @Go.IntKind.u32 (@Go.bits @Go.BinOp.and @Go.IntKind.u32 b1 c2) (@Go.bits @Go.BinOp.and @Go.IntKind.u32 b1 d3)) (@Go.bits @Go.BinOp.and @Go.IntKind.u32 c2 d3)) + (2400959708 : Int))))
   else
    some ((Go.IntKind.wrap .u32 ((@Go.bits @Go.BinOp.xor @Go.IntKind.u32 (@Go.bits @Go.BinOp.xor @Go.IntKind.u32 b1 c2) d3) + (3395469782 : Int))))
theorem ref05_mix_S (N : Nat) (i0 : Int) (b1 : Int) (c2 : Int) (d3 : Int) : (runK Go.Proofs.Tryd.prog (Ev81 N) 400 84 [(.int .i64), (.int .u32), (.int .u32), (.int .u32)] [(.int .u32)] (i0, b1, c2, d3, ())).run = ref05_mix N i0 b1 c2 d3 := by kernel_rfl
noncomputable def Ev82 (N : Nat) : (R : Type) → Env R := Env.addFn (Ev81 N) 84 (fun R => fnK [(.int .i64), (.int .u32), (.int .u32), (.int .u32)] [(.int .u32)] (fun c => ref05_mix N c.1 c.2.1 c.2.2.1 c.2.2.2.1))
theorem Ev82_ok (N : Nat) (R : Type) : EnvOK Go.Proofs.Tryd.prog (Ev82 N R) := EnvOK.addFn hmx (Ev81_ok N R) (Ev81_ok N _) (by kernel_rfl) (fun c => ref05_mix_S N c.1 c.2.1 c.2.2.1 c.2.2.2.1)
noncomputable def ref05_Block_L10_I : LI := ⟨118, 0, [], ⟨[(2, .adr (.arr 5 (.int .u32))), (4, .lit (.box 0 0)), (5, .lit (.box 1 0)), (7, .lit (.box 2 0)), (8, .ty (.int .i64))], [.box 90 (.arr 5 (.int .u32)), .box 112 (.arr 80 (.int .u32)), .box 90 (.arr 5 (.int .u32))]⟩, [(.exit 2, ⟨[(2, .adr (.arr 5 (.int .u32))), (4, .lit (.box 0 0)), (7, .lit (.box 1 0))], [.box 90 (.arr 5 (.int .u32)), .box 90 (.arr 5 (.int .u32))]⟩)]⟩
noncomputable def ref05_Block_L10 (N : Nat) (X : (((Arr (Int) 5) × ((Int) × Unit)) × ((Arr (Int) 5) × ((Arr (Int) 80) × ((Arr (Int) 5) × Unit)))) → Option ((((Arr (Int) 5) × Unit) × ((Arr (Int) 5) × ((Arr (Int) 5) × Unit))))) (s2 : Arr (Int) 5) (i8 : Int) (h0 : Arr (Int) 5) (h1 : Arr (Int) 80) (h2 : Arr (Int) 5) : Option ((((Arr (Int) 5) × Unit) × ((Arr (Int) 5) × ((Arr (Int) 5) × Unit)))) :=
 bif (decide (i8 < (80 : Int))) then
  Option.bind (@GetElem?.getElem? (List Int) Nat Int (fun (as7 : (List Int)) => (fun (i8 : Nat) => (@LT.lt Nat @instLTNat i8 (List.length as7)))) (@List.instGetElem?NatLtLength Int) h2.l (Int.toNat (0 : Int))) fun (v7 : Int) =>
  Option.bind (@GetElem?.getElem? (List Int) Nat Int (fun (as8 : (List Int)) => (fun (i9 : Nat) => (@LT.lt Nat @instLTNat i9 (List.length as8)))) (@List.instGetElem?NatLtLength Int) h2.l (Int.toNat (1 : Int))) fun (v8 : Int) =>
  Option.bind (@GetElem?.getElem? (List Int) Nat Int (fun (as9 : (List Int)) => (fun (i10 : Nat) => (@LT.lt Nat @instLTNat i10 (List.length as9)))) (@List.instGetElem?NatLtLength Int) h2.l (Int.toNat (2 : Int))) fun (v9 : Int) =>
  Option.bind (@GetElem?.getElem? (List Int) Nat Int (fun (as10 : (List Int)) => (fun (i11 : Nat) => (@LT.lt Nat @instLTNat i11 (List.length as10)))) (@List.instGetElem?NatLtLength Int) h2.l (Int.toNat (3 : Int))) fun (v10 : Int) =>
  Option.bind (@ref05_mix N i8 v8 v9 v10) fun (v11 : Int) =>
  Option.bind (@GetElem?.getElem? (List Int) Nat Int (fun (as12 : (List Int)) => (fun (i13 : Nat) => (@LT.lt Nat @instLTNat i13 (List.length as12)))) (@List.instGetElem?NatLtLength Int) h2.l (Int.toNat (4 : Int))) fun (v12 : Int) =>
  bif (decide ((0 : Int) ≤ i8 ∧ i8 < (((80 : Nat) : Nat) : Int))) then
   Option.bind (@GetElem?.getElem? (List Int) Nat Int (fun (as13 : (List Int)) => (fun (i14 : Nat) => (@LT.lt Nat @instLTNat i14 (List.length as13)))) (@List.instGetElem?NatLtLength Int) h1.l (Int.toNat i8)) fun (v13 : Int) =>
   Option.bind (@GetElem?.getElem? (List Int) Nat Int (fun (as14 : (List Int)) => (fun (i15 : Nat) => (@LT.lt Nat @instLTNat i15 (List.length as14)))) (@List.instGetElem?NatLtLength Int) h2.l (Int.toNat (0 : Int))) fun (v14 : Int) =>
   Option.bind (@GetElem?.getElem? (List Int) Nat Int (fun (as15 : (List Int)) => (fun (i16 : Nat) => (@LT.lt Nat @instLTNat i16 (List.length as15)))) (@List.instGetElem?NatLtLength Int) h2.l (Int.toNat (1 : Int))) fun (v15 : Int) =>
   Option.bind (@GetElem?.getElem? (List Int) Nat Int (fun (as16 : (List Int)) => (fun (i17 : Nat) => (@LT.lt Nat @instLTNat i17 (List.length as16)))) (@List.instGetElem?NatLtLength Int) h2.l (Int.toNat (2 : Int))) fun (v16 : Int) =>
   Option.bind (@GetElem?.getElem? (List Int) Nat Int (fun (as17 : (List Int)) => (fun (i18 : Nat) => (@LT.lt Nat @instLTNat i18 (List.length as17)))) (@List.instGetElem?NatLtLength Int) h2.l (Int.toNat (3 : Int))) fun (v17 : Int) =>
   (X ((s2, ((Go.IntKind.wrap .i64 (i8 + (1 : Int))), @Unit.unit)), (h0, (h1, ((@Arr.cons Int (4 : Nat) (Go.IntKind.wrap .u32 ((Go.IntKind.wrap .u32 ((Go.IntKind.wrap .u32 ((@Go.bits @Go.BinOp.or @Go.IntKind.u32 (Go.IntKind.wrap .u32 (v7 * (@HPow.hPow Int Nat Int (@instHPow Int Nat (@instPowNat Int @Int.instNatPow)) (2 : Int) (@Min.min Nat @instMinNat (Int.toNat (5 : Int)) (@Go.IntKind.bits @Go.IntKind.u32))))) (@Int.fdiv v7 (@HPow.hPow Int Nat Int (@instHPow Int Nat (@instPowNat Int @Int.instNatPow)) (2 : Int) (@Min.min Nat @instMinNat (Int.toNat (Go.IntKind.wrap .i64 ((32 : Int) - (5 : Int)))) (@Go.IntKind.bits @Go.IntKind.u32))))) + v11)) + v12)) + v13)) (@Arr.cons Int (3 : Nat) v14 (@Arr.cons Int (2 : Nat) (@Go.bits @Go.BinOp.or @Go.IntKind.u32 (Go.IntKind.wrap .u32 (v15 * (@HPow.hPow Int Nat Int (@instHPow Int Nat (@instPowNat Int @Int.instNatPow)) (2 : Int) (@Min.min Nat @instMinNat (Int.toNat (30 : Int)) (@Go.IntKind.bits @Go.IntKind.u32))))) (@Int.fdiv v15 (@HPow.hPow Int Nat Int (@instHPow Int Nat (@instPowNat Int @Int.instNatPow)) (2 : Int) (@Min.min Nat @instMinNat (Int.toNat (Go.IntKind.wrap .i64 ((32 : Int) - (30 : Int)))) (@Go.IntKind.bits @Go.IntKind.u32))))) (@Arr.cons Int (1 : Nat) v16 (@Arr.cons Int (0 : Nat) v17 (@Arr.nil Int)))))), @Unit.unit)))))
  else
   none
 else
  some (((s2, @Unit.unit), (h0, (h2, @Unit.unit))))
noncomputable def ref05_Block_L10_R (N : Nat) (c : (((Arr (Int) 5) × ((Int) × Unit)) × ((Arr (Int) 5) × ((Arr (Int) 80) × ((Arr (Int) 5) × Unit))))) : Option ((((Arr (Int) 5) × Unit) × ((Arr (Int) 5) × ((Arr (Int) 5) × Unit)))) := gl (fun X c => ref05_Block_L10 N X c.1.1 c.1.2.1 c.2.1 c.2.2.1 c.2.2.2.1) N c
theorem ref05_Block_L10_S (N : Nat) (X : (((Arr (Int) 5) × ((Int) × Unit)) × ((Arr (Int) 5) × ((Arr (Int) 80) × ((Arr (Int) 5) × Unit)))) → Option ((((Arr (Int) 5) × Unit) × ((Arr (Int) 5) × ((Arr (Int) 5) × Unit))))) (s2 : Arr (Int) 5) (i8 : Int) (h0 : Arr (Int) 5) (h1 : Arr (Int) 80) (h2 : Arr (Int) 5) : (roundK Go.Proofs.Tryd.prog (Ev82 N) 400 [74] ref05_Block_L10_I (loopAt Go.Proofs.Tryd.prog [74] 10) X ((s2, i8, ()), (h0, h1, h2, ()))).run = ref05_Block_L10 N X s2 i8 h0 h1 h2 := by kernel_rfl
noncomputable def Ev83 (N : Nat) : (R : Type) → Env R := Env.addLp (Ev82 N) [74] 0 10 (fun R => lpK Go.Proofs.Tryd.prog ref05_Block_L10_I (fun X c => ref05_Block_L10 N X c.1.1 c.1.2.1 c.2.1 c.2.2.1 c.2.2.2.1) N)
theorem Ev83_ok (N : Nat) (R : Type) : EnvOK Go.Proofs.Tryd.prog (Ev83 N R) := EnvOK.addLp (Ev82_ok N R) (by kernel_rfl) (lpK_ok (li := ref05_Block_L10_I) (G := fun X c => ref05_Block_L10 N X c.1.1 c.1.2.1 c.2.1 c.2.2.1 c.2.2.2.1) hmx (Ev82_ok N _) (by kernel_rfl) loopAt_sub (fun (X : CT ref05_Block_L10_I.sh → Option (OT ref05_Block_L10_I.outs)) (c : CT ref05_Block_L10_I.sh) => ref05_Block_L10_S N X c.1.1 c.1.2.1 c.2.1 c.2.2.1 c.2.2.2.1) N)
noncomputable def ref05_Block_L15_I : LI := ⟨118, 0, [], ⟨[(2, .adr (.arr 5 (.int .u32))), (4, .lit (.box 0 0)), (7, .lit (.box 1 0)), (10, .ty (.int .i64))], [.box 90 (.arr 5 (.int .u32)), .box 90 (.arr 5 (.int .u32))]⟩, [(.exit 4, ⟨[(4, .lit (.box 0 0)), (7, .lit (.box 1 0))], [.box 90 (.arr 5 (.int .u32)), .box 90 (.arr 5 (.int .u32))]⟩)]⟩
noncomputable def ref05_Block_L15 (N : Nat) (X : (((Arr (Int) 5) × ((Int) × Unit)) × ((Arr (Int) 5) × ((Arr (Int) 5) × Unit))) → Option ((Unit × ((Arr (Int) 5) × ((Arr (Int) 5) × Unit))))) (s2 : Arr (Int) 5) (i10 : Int) (h0 : Arr (Int) 5) (h1 : Arr (Int) 5) : Option ((Unit × ((Arr (Int) 5) × ((Arr (Int) 5) × Unit)))) :=
 bif (decide (i10 < (5 : Int))) then
  bif (decide ((0 : Int) ≤ i10 ∧ i10 < (((5 : Nat) : Nat) : Int))) then
   Option.bind (@GetElem?.getElem? (List Int) Nat Int (fun (as6 : (List Int)) => (fun (i7 : Nat) => (@LT.lt Nat @instLTNat i7 (List.length as6)))) (@List.instGetElem?NatLtLength Int) h1.l (Int.toNat i10)) fun (v6 : Int) =>
   Option.bind (getI s2.l i10) fun (v7 : Int) =>
   bif (decide ((0 : Int) ≤ i10 ∧ i10 < (((5 : Nat) : Nat) : Int))) then
    Option.bind (@GetElem?.getElem? (List Int) Nat Int (fun (as8 : (List Int)) => (fun (i9 : Nat) => (@LT.lt Nat @instLTNat i9 (List.length as8)))) (@List.instGetElem?NatLtLength Int) h1.l (Int.toNat i10)) fun (v8 : Int) =>
    (X ((s2, ((Go.IntKind.wrap .i64 (i10 + (1 : Int))), @Unit.unit)), (h0, ((h1.set (Int.toNat i10) (Go.IntKind.wrap .u32 (v6 + v7))), @Unit.unit))))
   else
    none
  else
   none
 else
  some ((@Unit.unit, (h0, (h1, @Unit.unit))))
noncomputable def ref05_Block_L15_R (N : Nat) (c : (((Arr (Int) 5) × ((Int) × Unit)) × ((Arr (Int) 5) × ((Arr (Int) 5) × Unit)))) : Option ((Unit × ((Arr (Int) 5) × ((Arr (Int) 5) × Unit)))) := gl (fun X c => ref05_Block_L15 N X c.1.1 c.1.2.1 c.2.1 c.2.2.1) N c
theorem ref05_Block_L15_S (N : Nat) (X : (((Arr (Int) 5) × ((Int) × Unit)) × ((Arr (Int) 5) × ((Arr (Int) 5) × Unit))) → Option ((Unit × ((Arr (Int) 5) × ((Arr (Int) 5) × Unit))))) (s2 : Arr (Int) 5) (i10 : Int) (h0 : Arr (Int) 5) (h1 : Arr (Int) 5) : (roundK Go.Proofs.Tryd.prog (Ev83 N) 400 [74] ref05_Block_L15_I (loopAt Go.Proofs.Tryd.prog [74] 15) X ((s2, i10, ()), (h0, h1, ()))).run = ref05_Block_L15 N X s2 i10 h0 h1 := by kernel_rfl
noncomputable def Ev84 (N : Nat) : (R : Type) → Env R := Env.addLp (Ev83 N) [74] 0 15 (fun R => lpK Go.Proofs.Tryd.prog ref05_Block_L15_I (fun X c => ref05_Block_L15 N X c.1.1 c.1.2.1 c.2.1 c.2.2.1) N)
theorem Ev84_ok (N : Nat) (R : Type) : EnvOK Go.Proofs.Tryd.prog (Ev84 N R) := EnvOK.addLp (Ev83_ok N R) (by kernel_rfl) (lpK_ok (li := ref05_Block_L15_I) (G := fun X c => ref05_Block_L15 N X c.1.1 c.1.2.1 c.2.1 c.2.2.1) hmx (Ev83_ok N _) (by kernel_rfl) loopAt_sub (fun (X : CT ref05_Block_L15_I.sh → Option (OT ref05_Block_L15_I.outs)) (c : CT ref05_Block_L15_I.sh) => ref05_Block_L15_S N X c.1.1 c.1.2.1 c.2.1 c.2.2.1) N)
noncomputable def ref05_Block (N : Nat) (s0 : Arr (Int) 5) (block1 : Arr (Int) 64) : Option (Arr (Int) 5) :=
 Option.bind (ref05_Block_L3_R N ((s0, (block1, ((0 : Int), @Unit.unit))), ((@Arr.cons Int (4 : Nat) (0 : Int) (@Arr.cons Int (3 : Nat) (0 : Int) (@Arr.cons Int (2 : Nat) (0 : Int) (@Arr.cons Int (1 : Nat) (0 : Int) (@Arr.cons Int (0 : Nat) (0 : Int) (@Arr.nil Int)))))), ((@Arr.cons Int (79 : Nat) (0 : Int) (@Arr.cons Int (78 : Nat) (0 : Int) (@Arr.cons Int (77 : Nat) (0 : Int) (@Arr.cons Int (76 : Nat) (0 : Int) (@Arr.cons Int (75 : Nat) (0 : Int) (@Arr.cons Int (74 : Nat) (0 : Int) (@Arr.cons Int (73 : Nat) (0 : Int) (@Arr.cons Int (72 : Nat) (0 : Int) (@Arr.cons Int (71 : Nat) (0 : Int) (@Arr.cons Int (70 : Nat) (0 : Int) (@Arr.cons Int (69 : Nat) (0 : Int) (@Arr.cons Int (68 : Nat) (0 : Int) (@Arr.cons Int (67 : Nat) (0 : Int) (@Arr.cons Int (66 : Nat) (0 : Int) (@Arr.cons Int (65 : Nat) (0 : Int) (@Arr.cons Int (64 : Nat) (0 : Int) (@Arr.cons Int (63 : Nat) (0 : Int) (@Arr.cons Int (62 : Nat) (0 : Int) (@Arr.cons Int (61 : Nat) (0 : Int) (@Arr.cons Int (60 : Nat) (0 : Int) (@Arr.cons Int (59 : Nat) (0 : Int) (@Arr.cons Int (58 : Nat) (0 : Int) (@Arr.cons Int (57 : Nat) (0 : Int) (@Arr.cons Int (56 : Nat) (0 : Int) (@Arr.cons Int (55 : Nat) (0 : Int) (@Arr.cons Int (54 : Nat) (0 : Int) (@Arr.cons Int (53 : Nat) (0 : Int) (@Arr.cons Int (52 : Nat) (0 : Int) (@Arr.cons Int (51 : Nat) (0 : Int) (@Arr.cons Int (50 : Nat) (0 : Int) (@Arr.cons Int (49 : Nat) (0 : Int) (@Arr.cons Int (48 : Nat) (0 : Int) (@Arr.cons Int (47 : Nat) (0 : Int) (@Arr.cons Int (46 : Nat) (0 : Int) (@Arr.cons Int (45 : Nat) (0 : Int) (@Arr.cons Int (44 : Nat) (0 : Int) (@Arr.cons Int (43 : Nat) (0 : Int) (@Arr.cons Int (42 : Nat) (0 : Int) (@Arr.cons Int (41 : Nat) (0 : Int) (@Arr.cons Int (40 : Nat) (0 : Int) (@Arr.cons Int (39 : Nat) (0 : Int) (@Arr.cons Int (38 : Nat) (0 : Int) (@Arr.cons Int (37 : Nat) (0 : Int) (@Arr.cons Int (36 : Nat) (0 : Int) (@Arr.cons Int (35 : Nat) (0 : Int) (@Arr.cons Int (34 : Nat) (0 : Int) (@Arr.cons Int (33 : Nat) (0 : Int) (@Arr.cons Int (32 : Nat) (0 : Int) (@Arr.cons Int (31 : Nat) (0 : Int) (@Arr.cons Int (30 : Nat) (0 : Int) (@Arr.cons Int (29 : Nat) (0 : Int) (@Arr.cons Int (28 : Nat) (0 : Int) (@Arr.cons Int (27 : Nat) (0 : Int) (@Arr.cons Int (26 : Nat) (0 : Int) (@Arr.cons Int (25 : Nat) (0 : Int) (@Arr.cons Int (24 : Nat) (0 : Int) (@Arr.cons Int (23 : Nat) (0 : Int) (@Arr.cons Int (22 : Nat) (0 : Int) (@Arr.cons Int (21 : Nat) (0 : Int) (@Arr.cons Int (20 : Nat) (0 : Int) (@Arr.cons Int (19 : Nat) (0 : Int) (@Arr.cons Int (18 : Nat) (0 : Int) (@Arr.cons Int (17 : Nat) (0 : Int) (@Arr.cons Int (16 : Nat) (0 : Int) (@Arr.cons Int (15 : Nat) (0 : Int) (@Arr.cons Int (14 : Nat) (0 : Int) (@Arr.cons Int (13 : Nat) (0 : Int) (@Arr.cons Int (12 : Nat) (0 : Int) (@Arr.cons Int (11 : Nat) (0 : Int) (@Arr.cons Int (10 : Nat) (0 : Int) (@Arr.cons Int (9 : Nat) (0 : Int) (@Arr.cons Int (8 : Nat) (0 : Int) (@Arr.cons Int (7 : Nat) (0 : Int) (@Arr.cons Int (6 : Nat) (0 : Int) (@Arr.cons Int (5 : Nat) (0 : Int) (@Arr.cons Int (4 : Nat) (0 : Int) (@Arr.cons Int (3 : Nat) (0 : Int) (@Arr.cons Int (2 : Nat) (0 : Int) (@Arr.cons Int (1 : Nat) (0 : Int) (@Arr.cons Int (0 : Nat) (0 : Int) (@Arr.nil Int))))))))))))))))))))))))))))))))))))))))))))))))))))))))))))))))))))))))))))))))), @Unit.unit)))) fun (v3 : (((Arr Int 5) × Unit) × ((Arr Int 5) × ((Arr Int 80) × Unit)))) =>
 Option.bind (ref05_Block_L10_R N ((v3.1.1, ((0 : Int), @Unit.unit)), (v3.2.1, (v3.2.2.1, (v3.1.1, @Unit.unit))))) fun (v4 : (((Arr Int 5) × Unit) × ((Arr Int 5) × ((Arr Int 5) × Unit)))) =>
 Option.bind (ref05_Block_L15_R N ((v4.1.1, ((0 : Int), @Unit.unit)), (v4.2.1, (v4.2.2.1, @Unit.unit)))) fun (v5 : (Unit × ((Arr Int 5) × ((Arr Int 5) × Unit)))) =>
 some (v5.2.2.1)
theorem ref05_Block_S (N : Nat) (s0 : Arr (Int) 5) (block1 : Arr (Int) 64) : (runK Go.Proofs.Tryd.prog (Ev84 N) 400 74 [(.arr 5 (.int .u32)), (.arr 64 (.int .u8))] [(.arr 5 (.int .u32))] (s0, block1, ())).run = ref05_Block N s0 block1 := by kernel_rfl
noncomputable def Ev85 (N : Nat) : (R : Type) → Env R := Env.addFn (Ev84 N) 74 (fun R => fnK [(.arr 5 (.int .u32)), (.arr 64 (.int .u8))] [(.arr 5 (.int .u32))] (fun c => ref05_Block N c.1 c.2.1))
theorem Ev85_ok (N : Nat) (R : Type) : EnvOK Go.Proofs.Tryd.prog (Ev85 N R) := EnvOK.addFn hmx (Ev84_ok N R) (Ev84_ok N _) (by kernel_rfl) (fun c => ref05_Block_S N c.1 c.2.1)
noncomputable def ref05_Of_L4_I : LI := ⟨56, 0, [], ⟨[(2, .lit (.box 0 0)), (3, .lit (.own 1)), (4, .lit (.box 2 0)), (5, .ty (.int .i64))], [.box 66 (.arr 20 (.int .u8)), .own (.int .u8) 5, .box 90 (.arr 5 (.int .u32))]⟩, [(.exit 0, ⟨[(2, .lit (.box 0 0)), (4, .lit (.box 1 0))], [.box 66 (.arr 20 (.int .u8)), .box 90 (.arr 5 (.int .u32))]⟩)]⟩
noncomputable def ref05_Of_L4 (N : Nat) (X : (((Int) × Unit) × ((Arr (Int) 20) × ((List (Int)) × ((Arr (Int) 5) × Unit)))) → Option ((Unit × ((Arr (Int) 20) × ((Arr (Int) 5) × Unit))))) (x5 : Int) (h0 : Arr (Int) 20) (h1 : List (Int)) (h2 : Arr (Int) 5) : Option ((Unit × ((Arr (Int) 20) × ((Arr (Int) 5) × Unit)))) :=
 bif (decide (x5 < (((List.length h1) : Nat) : Int))) then
  Option.bind (ref05_Of_L8_R N ((x5, ((0 : Int), @Unit.unit)), (h0, (h1, (h2, ((@Arr.cons Int (63 : Nat) (0 : Int) (@Arr.cons Int (62 : Nat) (0 : Int) (@Arr.cons Int (61 : Nat) (0 : Int) (@Arr.cons Int (60 : Nat) (0 : Int) (@Arr.cons Int (59 : Nat) (0 : Int) (@Arr.cons Int (58 : Nat) (0 : Int) (@Arr.cons Int (57 : Nat) (0 : Int) (@Arr.cons Int (56 : Nat) (0 : Int) (@Arr.cons Int (55 : Nat) (0 : Int) (@Arr.cons Int (54 : Nat) (0 : Int) (@Arr.cons Int (53 : Nat) (0 : Int) (@Arr.cons Int (52 : Nat) (0 : Int) (@Arr.cons Int (51 : Nat) (0 : Int) (@Arr.cons Int (50 : Nat) (0 : Int) (@Arr.cons Int (49 : Nat) (0 : Int) (@Arr.cons Int (48 : Nat) (0 : Int) (@Arr.cons Int (47 : Nat) (0 : Int) (@Arr.cons Int (46 : Nat) (0 : Int) (@Arr.cons Int (45 : Nat) (0 : Int) (@Arr.cons Int (44 : Nat) (0 : Int) (@Arr.cons Int (43 : Nat) (0 : Int) (@Arr.cons Int (42 : Nat) (0 : Int) (@Arr.cons Int (41 : Nat) (0 : Int) (@Arr.cons Int (40 : Nat) (0 : Int) (@Arr.cons Int (39 : Nat) (0 : Int) (@Arr.cons Int (38 : Nat) (0 : Int) (@Arr.cons Int (37 : Nat) (0 : Int) (@Arr.cons Int (36 : Nat) (0 : Int) (@Arr.cons Int (35 : Nat) (0 : Int) (@Arr.cons Int (34 : Nat) (0 : Int) (@Arr.cons Int (33 : Nat) (0 : Int) (@Arr.cons Int (32 : Nat) (0 : Int) (@Arr.cons Int (31 : Nat) (0 : Int) (@Arr.cons Int (30 : Nat) (0 : Int) (@Arr.cons Int (29 : Nat) (0 : Int) (@Arr.cons Int (28 : Nat) (0 : Int) (@Arr.cons Int (27 : Nat) (0 : Int) (@Arr.cons Int (26 : Nat) (0 : Int) (@Arr.cons Int (25 : Nat) (0 : Int) (@Arr.cons Int (24 : Nat) (0 : Int) (@Arr.cons Int (23 : Nat) (0 : Int) (@Arr.cons Int (22 : Nat) (0 : Int) (@Arr.cons Int (21 : Nat) (0 : Int) (@Arr.cons Int (20 : Nat) (0 : Int) (@Arr.cons Int (19 : Nat) (0 : Int) (@Arr.cons Int (18 : Nat) (0 : Int) (@Arr.cons Int (17 : Nat) (0 : Int) (@Arr.cons Int (16 : Nat) (0 : Int) (@Arr.cons Int (15 : Nat) (0 : Int) (@Arr.cons Int (14 : Nat) (0 : Int) (@Arr.cons Int (13 : Nat) (0 : Int) (@Arr.cons Int (12 : Nat) (0 : Int) (@Arr.cons Int (11 : Nat) (0 : Int) (@Arr.cons Int (10 : Nat) (0 : Int) (@Arr.cons Int (9 : Nat) (0 : Int) (@Arr.cons Int (8 : Nat) (0 : Int) (@Arr.cons Int (7 : Nat) (0 : Int) (@Arr.cons Int (6 : Nat) (0 : Int) (@Arr.cons Int (5 : Nat) (0 : Int) (@Arr.cons Int (4 : Nat) (0 : Int) (@Arr.cons Int (3 : Nat) (0 : Int) (@Arr.cons Int (2 : Nat) (0 : Int) (@Arr.cons Int (1 : Nat) (0 : Int) (@Arr.cons Int (0 : Nat) (0 : Int) (@Arr.nil Int))))))))))))))))))))))))))))))))))))))))))))))))))))))))))))))))), @Unit.unit)))))) fun (v6 : ((Int × Unit) × ((Arr Int 20) × ((List Int) × ((Arr Int 5) × ((Arr Int 64) × Unit)))))) =>
  Option.bind (@ref05_Block N v6.2.2.2.1 v6.2.2.2.2.1) fun (v7 : (Arr Int 5)) =>
  (X (((Go.IntKind.wrap .i64 (v6.1.1 + (64 : Int))), @Unit.unit), (v6.2.1, (v6.2.2.1, (v7, @Unit.unit)))))
 else
  some ((@Unit.unit, (h0, (h2, @Unit.unit))))
noncomputable def ref05_Of_L4_R (N : Nat) (c : (((Int) × Unit) × ((Arr (Int) 20) × ((List (Int)) × ((Arr (Int) 5) × Unit))))) : Option ((Unit × ((Arr (Int) 20) × ((Arr (Int) 5) × Unit)))) := gl (fun X c => ref05_Of_L4 N X c.1.1 c.2.1 c.2.2.1 c.2.2.2.1) N c
theorem ref05_Of_L4_S (N : Nat) (X : (((Int) × Unit) × ((Arr (Int) 20) × ((List (Int)) × ((Arr (Int) 5) × Unit)))) → Option ((Unit × ((Arr (Int) 20) × ((Arr (Int) 5) × Unit))))) (x5 : Int) (h0 : Arr (Int) 20) (h1 : List (Int)) (h2 : Arr (Int) 5) : (roundK Go.Proofs.Tryd.prog (Ev85 N) 400 [54] ref05_Of_L4_I (loopAt Go.Proofs.Tryd.prog [54] 4) X ((x5, ()), (h0, h1, h2, ()))).run = ref05_Of_L4 N X x5 h0 h1 h2 := by kernel_rfl
noncomputable def Ev86 (N : Nat) : (R : Type) → Env R := Env.addLp (Ev85 N) [54] 0 4 (fun R => lpK Go.Proofs.Tryd.prog ref05_Of_L4_I (fun X c => ref05_Of_L4 N X c.1.1 c.2.1 c.2.2.1 c.2.2.2.1) N)
theorem Ev86_ok (N : Nat) (R : Type) : EnvOK Go.Proofs.Tryd.prog (Ev86 N R) := EnvOK.addLp (Ev85_ok N R) (by kernel_rfl) (lpK_ok (li := ref05_Of_L4_I) (G := fun X c => ref05_Of_L4 N X c.1.1 c.2.1 c.2.2.1 c.2.2.2.1) hmx (Ev85_ok N _) (by kernel_rfl) loopAt_sub (fun (X : CT ref05_Of_L4_I.sh → Option (OT ref05_Of_L4_I.outs)) (c : CT ref05_Of_L4_I.sh) => ref05_Of_L4_S N X c.1.1 c.2.1 c.2.2.1 c.2.2.2.1) N)
noncomputable def ref05_Of_L14_I : LI := ⟨56, 0, [], ⟨[(2, .lit (.box 0 0)), (4, .lit (.box 1 0)), (8, .lit (.box 2 0)), (9, .ty (.int .i64))], [.box 66 (.arr 20 (.int .u8)), .box 90 (.arr 5 (.int .u32)), .box 66 (.arr 20 (.int .u8))]⟩, [(.exit 4, ⟨[(2, .lit (.box 0 0)), (8, .lit (.box 1 0))], [.box 66 (.arr 20 (.int .u8)), .box 66 (.arr 20 (.int .u8))]⟩)]⟩
noncomputable def ref05_Of_L14 (N : Nat) (X : (((Int) × Unit) × ((Arr (Int) 20) × ((Arr (Int) 5) × ((Arr (Int) 20) × Unit)))) → Option ((Unit × ((Arr (Int) 20) × ((Arr (Int) 20) × Unit))))) (i9 : Int) (h0 : Arr (Int) 20) (h1 : Arr (Int) 5) (h2 : Arr (Int) 20) : Option ((Unit × ((Arr (Int) 20) × ((Arr (Int) 20) × Unit)))) :=
 bif (decide (i9 < (20 : Int))) then
  bif (decide ((0 : Int) ≤ (Go.IntKind.wrap .i64 (@Int.tdiv i9 (4 : Int))) ∧ (Go.IntKind.wrap .i64 (@Int.tdiv i9 (4 : Int))) < (((5 : Nat) : Nat) : Int))) then
   Option.bind (@GetElem?.getElem? (List Int) Nat Int (fun (as6 : (List Int)) => (fun (i7 : Nat) => (@LT.lt Nat @instLTNat i7 (List.length as6)))) (@List.instGetElem?NatLtLength Int) h1.l (Int.toNat (Go.IntKind.wrap .i64 (@Int.tdiv i9 (4 : Int))))) fun (v6 : Int) =>
   bif (decide ((0 : Int) ≤ (Go.IntKind.wrap .i64 ((24 : Int) - (Go.IntKind.wrap .i64 ((8 : Int) * (@Int.tmod i9 (4 : Int)))))))) then
    bif (decide ((0 : Int) ≤ i9 ∧ i9 < (((20 : Nat) : Nat) : Int))) then
     Option.bind (@GetElem?.getElem? (List Int) Nat Int (fun (as7 : (List Int)) => (fun (i8 : Nat) => (@LT.lt Nat @instLTNat i8 (List.length as7)))) (@List.instGetElem?NatLtLength Int) h2.l (Int.toNat i9)) fun (v7 : Int) =>
     (X (((Go.IntKind.wrap .i64 (i9 + (1 : Int))), @Unit.unit), (h0, (h1, ((h2.set (Int.toNat i9) (Go.IntKind.wrap .u8 (@Int.fdiv v6 (@HPow.hPow Int Nat Int (@instHPow Int Nat (@instPowNat Int @Int.instNatPow)) (2 : Int) (@Min.min Nat @instMinNat (Int.toNat (Go.IntKind.wrap .i64 ((24 : Int) - (Go.IntKind.wrap .i64 ((8 : Int) * (@Int.tmod i9 (4 : Int))))))) (@Go.IntKind.bits @Go.IntKind.u32)))))), @Unit.unit)))))
    else
     none
   else
    none
  else
   none
 else
  some ((@Unit.unit, (h0, (h2, @Unit.unit))))
noncomputable def ref05_Of_L14_R (N : Nat) (c : (((Int) × Unit) × ((Arr (Int) 20) × ((Arr (Int) 5) × ((Arr (Int) 20) × Unit))))) : Option ((Unit × ((Arr (Int) 20) × ((Arr (Int) 20) × Unit)))) := gl (fun X c => ref05_Of_L14 N X c.1.1 c.2.1 c.2.2.1 c.2.2.2.1) N c
theorem ref05_Of_L14_S (N : Nat) (X : (((Int) × Unit) × ((Arr (Int) 20) × ((Arr (Int) 5) × ((Arr (Int) 20) × Unit)))) → Option ((Unit × ((Arr (Int) 20) × ((Arr (Int) 20) × Unit))))) (i9 : Int) (h0 : Arr (Int) 20) (h1 : Arr (Int) 5) (h2 : Arr (Int) 20) : (roundK Go.Proofs.Tryd.prog (Ev86 N) 400 [54] ref05_Of_L14_I (loopAt Go.Proofs.Tryd.prog [54] 14) X ((i9, ()), (h0, h1, h2, ()))).run = ref05_Of_L14 N X i9 h0 h1 h2 := by kernel_rfl
noncomputable def Ev87 (N : Nat) : (R : Type) → Env R := Env.addLp (Ev86 N) [54] 0 14 (fun R => lpK Go.Proofs.Tryd.prog ref05_Of_L14_I (fun X c => ref05_Of_L14 N X c.1.1 c.2.1 c.2.2.1 c.2.2.2.1) N)
theorem Ev87_ok (N : Nat) (R : Type) : EnvOK Go.Proofs.Tryd.prog (Ev87 N R) := EnvOK.addLp (Ev86_ok N R) (by kernel_rfl) (lpK_ok (li := ref05_Of_L14_I) (G := fun X c => ref05_Of_L14 N X c.1.1 c.2.1 c.2.2.1 c.2.2.2.1) hmx (Ev86_ok N _) (by kernel_rfl) loopAt_sub (fun (X : CT ref05_Of_L14_I.sh → Option (OT ref05_Of_L14_I.outs)) (c : CT ref05_Of_L14_I.sh) => ref05_Of_L14_S N X c.1.1 c.2.1 c.2.2.1 c.2.2.2.1) N)
noncomputable def ref05_Of (N : Nat) (b0 : List (Int)) : Option (Arr (Int) 20) :=
 bif (roomB (List.length b0) 1) then
  Option.bind (@ref05_Tail N (Go.IntKind.wrap .u64 (((List.length b0) : Nat) : Int))) fun (v2 : (List Int)) =>
  bif (roomB ((List.length b0) + (List.length v2)) 1) then
   Option.bind (ref05_Of_L4_R N (((0 : Int), @Unit.unit), ((@Arr.cons Int (19 : Nat) (0 : Int) (@Arr.cons Int (18 : Nat) (0 : Int) (@Arr.cons Int (17 : Nat) (0 : Int) (@Arr.cons Int (16 : Nat) (0 : Int) (@Arr.cons Int (15 : Nat) (0 : Int) (@Arr.cons Int (14 : Nat) (0 : Int) (@Arr.cons Int (13 : Nat) (0 : Int) (@Arr.cons Int (12 : Nat) (0 : Int) (@Arr.cons Int (11 : Nat) (0 : Int) (@Arr.cons Int (10 : Nat) (0 : Int) (@Arr.cons Int (9 : Nat) (0 : Int) (@Arr.cons Int (8 : Nat) (0 : Int) (@Arr.cons Int (7 : Nat) (0 : Int) (@Arr.cons Int (6 : Nat) (0 : Int) (@Arr.cons Int (5 : Nat) (0 : Int) (@Arr.cons Int (4 : Nat) (0 : Int) (@Arr.cons Int (3 : Nat) (0 : Int) (@Arr.cons Int (2 : Nat) (0 : Int) (@Arr.cons Int (1 : Nat) (0 : Int) (@Arr.cons Int (0 : Nat) (0 : Int) (@Arr.nil Int))))))))))))))))))))), ((b0 ++ v2), ((@Arr.cons Int (4 : Nat) (1732584193 : Int) (@Arr.cons Int (3 : Nat) (4023233417 : Int) (@Arr.cons Int (2 : Nat) (2562383102 : Int) (@Arr.cons Int (1 : Nat) (271733878 : Int) (@Arr.cons Int (0 : Nat) (3285377520 : Int) (@Arr.nil Int)))))), @Unit.unit))))) fun (v3 : (Unit × ((Arr Int 20) × ((Arr Int 5) × Unit)))) =>
   Option.bind (ref05_Of_L14_R N (((0 : Int), @Unit.unit), (v3.2.1, (v3.2.2.1, ((@Arr.cons Int (19 : Nat) (0 : Int) (@Arr.cons Int (18 : Nat) (0 : Int) (@Arr.cons Int (17 : Nat) (0 : Int) (@Arr.cons Int (16 : Nat) (0 : Int) (@Arr.cons Int (15 : Nat) (0 : Int) (@Arr.cons Int (14 : Nat) (0 : Int) (@Arr.cons Int (13 : Nat) (0 : Int) (@Arr.cons Int (12 : Nat) (0 : Int) (@Arr.cons Int (11 : Nat) (0 : Int) (@Arr.cons Int (10 : Nat) (0 : Int) (@Arr.cons Int (9 : Nat) (0 : Int) (@Arr.cons Int (8 : Nat) (0 : Int) (@Arr.cons Int (7 : Nat) (0 : Int) (@Arr.cons Int (6 : Nat) (0 : Int) (@Arr.cons Int (5 : Nat) (0 : Int) (@Arr.cons Int (4 : Nat) (0 : Int) (@Arr.cons Int (3 : Nat) (0 : Int) (@Arr.cons Int (2 : Nat) (0 : Int) (@Arr.cons Int (1 : Nat) (0 : Int) (@Arr.cons Int (0 : Nat) (0 : Int) (@Arr.nil Int))))))))))))))))))))), @Unit.unit))))) fun (v4 : (Unit × ((Arr Int 20) × ((Arr Int 20) × Unit)))) =>
   some (v4.2.2.1)
  else
   none
 else
  none
theorem ref05_Of_S (N : Nat) (b0 : List (Int)) : (runK Go.Proofs.Tryd.prog (Ev87 N) 400 54 [(.sl (.int .u8))] [(.arr 20 (.int .u8))] (b0, ())).run = ref05_Of N b0 := by kernel_rfl
theorem ref05_Of_C (N : Nat) (b0 : List (Int)) (y : Arr (Int) 20) (h : ref05_Of N b0 = some y) : CallsK Go.Proofs.Tryd.prog 54 (valA [(.sl (.int .u8))] (b0, ())) (tupV (valR [(.arr 20 (.int .u8))] y)) := runK_ok hmx (Ev87_ok N _) (okFn_ok (by kernel_rfl)) (by rw [ref05_Of_S]; exact h)
noncomputable def Ev88 (N : Nat) : (R : Type) → Env R := Env.addFn (Ev87 N) 54 (fun R => fnK [(.sl (.int .u8))] [(.arr 20 (.int .u8))] (fun c => ref05_Of N c.1))
theorem Ev88_ok (N : Nat) (R : Type) : EnvOK Go.Proofs.Tryd.prog (Ev88 N R) := EnvOK.addFn hmx (Ev87_ok N R) (Ev87_ok N _) (by kernel_rfl) (fun c => ref05_Of_S N c.1)
noncomputable def unicode_utf8_word_string (N : Nat) (s0 : List UInt8) : Option (Int) :=
 Option.bind (getI s0 (0 : Int)) fun (v2 : UInt8) =>
 Option.bind (getI s0 (1 : Int)) fun (v3 : UInt8) =>
 Option.bind (getI s0 (2 : Int)) fun (v4 : UInt8) =>
 Option.bind (getI s0 (3 : Int)) fun (v5 : UInt8) =>
 Option.bind (getI s0 (4 : Int)) fun (v6 : UInt8) =>
 Option.bind (getI s0 (5 : Int)) fun (v7 : UInt8) =>
 Option.bind (getI s0 (6 : Int)) fun (v8 : UInt8) =>
 Option.bind (getI s0 (7 : Int)) fun (v9 : UInt8) =>
 some ((@Go.bits @Go.BinOp.or @Go.IntKind.u64 (@Go.bits @Go.BinOp.or @Go.IntKind.u64 (@Go.bits @Go.BinOp.or @Go.IntKind.u64 (@Go.bits @Go.BinOp.or @Go.IntKind.u64 (@Go.bits @Go.BinOp.or @Go.IntKind.u64 (@Go.bits @Go.BinOp.or @Go.IntKind.u64 (@Go.bits @Go.BinOp.or @Go.IntKind.u64 (Go.IntKind.wrap .u64 (((@UInt8.toNat v2) : Nat) : Int)) (Go.IntKind.wrap .u64 ((Go.IntKind.wrap .u64 (((@UInt8.toNat v3) : Nat) : Int)) * (@HPow.hPow Int Nat Int (@instHPow Int Nat (@instPowNat Int @Int.instNatPow)) (2 : Int) (@Min.min Nat @instMinNat (Int.toNat (8 : Int)) (@Go.IntKind.bits @Go.IntKind.u64)))))) (Go.IntKind.wrap .u64 ((Go.IntKind.wrap .u64 (((@UInt8.toNat v4) : Nat) : Int)) * (@HPow.hPow Int Nat Int (@instHPow Int Nat (@instPowNat Int @Int.instNatPow)) (2 : Int) (@Min.min Nat @instMinNat (Int.toNat (16 : Int)) (@Go.IntKind.bits @Go.IntKind.u64)))))) (Go.IntKind.wrap .u64 ((Go.IntKind.wrap .u64 (((@UInt8.toNat v5) : Nat) : Int)) * (@HPow.hPow Int Nat Int (@instHPow Int Nat (@instPowNat Int @Int.instNatPow)) (2 : Int) (@Min.min Nat @instMinNat (Int.toNat (24 : Int)) (@Go.IntKind.bits @Go.IntKind.u64)))))) (Go.IntKind.wrap .u64 ((Go.IntKind.wrap .u64 (((@UInt8.toNat v6) : Nat) : Int)) * (@HPow.hPow Int Nat Int (@instHPow Int Nat (@instPowNat Int @Int.instNatPow)) (2 : Int) (@Min.min Nat @instMinNat (Int.toNat (32 : Int)) (@Go.IntKind.bits @Go.IntKind.u64)))))) (Go.IntKind.wrap .u64 ((Go.IntKind.wrap .u64 (((@UInt8.toNat v7) : Nat) : Int)) * (@HPow.hPow Int Nat Int (@instHPow Int Nat (@instPowNat Int @Int.instNatPow)) (2 : Int) (@Min.min Nat @instMinNat (Int.toNat (40 : Int)) (@Go.IntKind.bits @Go.IntKind.u64)))))) (Go.IntKind.wrap .u64 ((Go.IntKind.wrap .u64 (((@UInt8.toNat v8) : Nat) : Int)) * (@HPow.hPow Int Nat Int (@instHPow Int Nat (@instPowNat Int @Int.instNatPow)) (2 : Int) (@Min.min Nat @instMinNat (Int.toNat (48 : Int)) (@Go.IntKind.bits @Go.IntKind.u64)))))) (Go.IntKind.wrap .u64 ((Go.IntKind.wrap .u64 (((@UInt8.toNat v9) : Nat) : Int)) * (@HPow.hPow Int Nat Int (@instHPow Int Nat (@instPowNat Int @Int.instNatPow)) (2 : Int) (@Min.min Nat @instMinNat (Int.toNat (56 : Int)) (@Go.IntKind.bits @Go.IntKind.u64)))))))
theorem unicode_utf8_word_string_S (N : Nat) (s0 : List UInt8) : (runK Go.Proofs.Tryd.prog (Ev88 N) 400 75 [.str] [(.int .u64)] (s0, ())).run = unicode_utf8_word_string N s0 := by kernel_rfl
theorem unicode_utf8_word_string_C (N : Nat) (s0 : List UInt8) (y : Int) (h : unicode_utf8_word_string N s0 = some y) : CallsK Go.Proofs.Tryd.prog 75 (valA [.str] (s0, ())) (tupV (valR [(.int .u64)] y)) := runK_ok hmx (Ev88_ok N _) (okFn_ok (by kernel_rfl)) (by rw [unicode_utf8_word_string_S]; exact h)
noncomputable def Ev89 (N : Nat) : (R : Type) → Env R := Env.addFn (Ev88 N) 75 (fun R => fnK [.str] [(.int .u64)] (fun c => unicode_utf8_word_string N c.1))
theorem Ev89_ok (N : Nat) (R : Type) : EnvOK Go.Proofs.Tryd.prog (Ev89 N R) := EnvOK.addFn hmx (Ev88_ok N R) (Ev88_ok N _) (by kernel_rfl) (fun c => unicode_utf8_word_string_S N c.1)
noncomputable def unicode_utf8_ValidString_L9_I : LI := ⟨169, 0, [], ⟨[(0, .ty .str)], []⟩, [(.exit 2, ⟨[(0, .ty .str)], []⟩)]⟩
noncomputable def unicode_utf8_ValidString_L9 (N : Nat) (X : (((List UInt8) × Unit) × Unit) → Option ((((List UInt8) × Unit) × Unit))) (s0 : List UInt8) : Option ((((List UInt8) × Unit) × Unit)) :=
 bif (decide ((32 : Int) < (((List.length s0) : Nat) : Int))) then
  Option.bind (@unicode_utf8_word_string N s0) fun (v3 : Int) =>
  Option.bind (dropI s0 (8 : Int)) fun (v4 : (List UInt8)) =>
  Option.bind (@unicode_utf8_word_string N v4) fun (v5 : Int) =>
  Option.bind (dropI s0 (16 : Int)) fun (v6 : (List UInt8)) =>
  Option.bind (@unicode_utf8_word_string N v6) fun (v7 : Int) =>
  Option.bind (dropI s0 (24 : Int)) fun (v8 : (List UInt8)) =>
  Option.bind (@unicode_utf8_word_string N v8) fun (v9 : Int) =>
  bif (@cond Bool @Bool.true (decide ((@Go.bits @Go.BinOp.and @Go.IntKind.u64 (@Go.bits @Go.BinOp.or @Go.IntKind.u64 (@Go.bits @Go.BinOp.or @Go.IntKind.u64 v3 v5) (@Go.bits @Go.BinOp.or @Go.IntKind.u64 v7 v9)) (9259542123273814144 : Int)) = (0 : Int))) @Bool.false) then
   Option.bind (dropI s0 (32 : Int)) fun (v10 : (List UInt8)) =>
   (X ((v10, @Unit.unit), @Unit.unit))
  else
   some (((s0, @Unit.unit), @Unit.unit))
 else
  some (((s0, @Unit.unit), @Unit.unit))
noncomputable def unicode_utf8_ValidString_L9_R (N : Nat) (c : (((List UInt8) × Unit) × Unit)) : Option ((((List UInt8) × Unit) × Unit)) := gl (fun X c => unicode_utf8_ValidString_L9 N X c.1.1) N c
theorem unicode_utf8_ValidString_L9_S (N : Nat) (X : (((List UInt8) × Unit) × Unit) → Option ((((List UInt8) × Unit) × Unit))) (s0 : List UInt8) : (roundK Go.Proofs.Tryd.prog (Ev89 N) 400 [55] unicode_utf8_ValidString_L9_I (loopAt Go.Proofs.Tryd.prog [55] 9) X ((s0, ()), ())).run = unicode_utf8_ValidString_L9 N X s0 := by kernel_rfl
noncomputable def Ev90 (N : Nat) : (R : Type) → Env R := Env.addLp (Ev89 N) [55] 0 9 (fun R => lpK Go.Proofs.Tryd.prog unicode_utf8_ValidString_L9_I (fun X c => unicode_utf8_ValidString_L9 N X c.1.1) N)
theorem Ev90_ok (N : Nat) (R : Type) : EnvOK Go.Proofs.Tryd.prog (Ev90 N R) := EnvOK.addLp (Ev89_ok N R) (by kernel_rfl) (lpK_ok (li := unicode_utf8_ValidString_L9_I) (G := fun X c => unicode_utf8_ValidString_L9 N X c.1.1) hmx (Ev89_ok N _) (by kernel_rfl) loopAt_sub (fun (X : CT unicode_utf8_ValidString_L9_I.sh → Option (OT unicode_utf8_ValidString_L9_I.outs)) (c : CT unicode_utf8_ValidString_L9_I.sh) => unicode_utf8_ValidString_L9_S N X c.1.1) N)
noncomputable def unicode_utf8_ValidString_L1_I : LI := ⟨169, 0, [], ⟨[(0, .ty .str)], []⟩, [(.ret, ⟨[(2, .ty .bool)], []⟩), (.exit 0, ⟨[], []⟩)]⟩
noncomputable def unicode_utf8_ValidString_L1 (N : Nat) (X : (((List UInt8) × Unit) × Unit) → Option (((((Bool) × Unit) × Unit) ⊕ (Unit × Unit)))) (s0 : List UInt8) : Option (((((Bool) × Unit) × Unit) ⊕ (Unit × Unit))) :=
 bif (decide ((0 : Int) < (((List.length s0) : Nat) : Int))) then
  Option.bind (getI s0 (0 : Int)) fun (v3 : UInt8) =>
  bif (decide ((((@UInt8.toNat v3) : Nat) : Int) < (128 : Int))) then
   Option.bind (dropI s0 (1 : Int)) fun (v4 : (List UInt8)) =>
   bif (decide ((8 : Int) < (((List.length v4) : Nat) : Int))) then
    Option.bind (@unicode_utf8_word_string N v4) fun (v5 : Int) =>
    bif (@cond Bool @Bool.true (decide ((@Go.bits @Go.BinOp.and @Go.IntKind.u64 v5 (9259542123273814144 : Int)) = (0 : Int))) @Bool.false) then
     Option.bind (dropI v4 (8 : Int)) fun (v6 : (List UInt8)) =>
     bif (decide ((16 : Int) < (((List.length v6) : Nat) : Int))) then
      Option.bind (@unicode_utf8_word_string N v6) fun (v7 : Int) =>
      Option.bind (dropI v6 (8 : Int)) fun (v8 : (List UInt8)) =>
      Option.bind (@unicode_utf8_word_string N v8) fun (v9 : Int) =>
      bif (@cond Bool @Bool.true (decide ((@Go.bits @Go.BinOp.and @Go.IntKind.u64 (@Go.bits @Go.BinOp.or @Go.IntKind.u64 v7 v9) (9259542123273814144 : Int)) = (0 : Int))) @Bool.false) then
       Option.bind (dropI v6 (16 : Int)) fun (v10 : (List UInt8)) =>
       Option.bind (unicode_utf8_ValidString_L9_R N ((v10, @Unit.unit), @Unit.unit)) fun (v11 : (((List UInt8) × Unit) × Unit)) =>
       (X ((v11.1.1, @Unit.unit), @Unit.unit))
      else
       (X ((v6, @Unit.unit), @Unit.unit))
     else
      (X ((v6, @Unit.unit), @Unit.unit))
    else
     (X ((v4, @Unit.unit), @Unit.unit))
   else
    (X ((v4, @Unit.unit), @Unit.unit))
  else
   Option.bind (getI (@List.cons Int (@OfNat.ofNat Int (240 : Nat) (@instOfNat (240 : Nat))) (@List.cons Int (@OfNat.ofNat Int (240 : Nat) (@instOfNat (240 : Nat))) (@List.cons Int (@OfNat.ofNat Int (240 : Nat) (@instOfNat (240 : Nat))) (@List.cons Int (@OfNat.ofNat Int (240 : Nat) (@instOfNat (240 : Nat))) (@List.cons Int (@OfNat.ofNat Int (240 : Nat) (@instOfNat (240 : Nat))) (@List.cons Int (@OfNat.ofNat Int (240 : Nat) (@instOfNat (240 : Nat))) (@List.cons Int (@OfNat.ofNat Int (240 : Nat) (@instOfNat (240 : Nat))) (@List.cons Int (@OfNat.ofNat Int (240 : Nat) (@instOfNat (240 : Nat))) (@List.cons Int (@OfNat.ofNat Int (240 : Nat) (@instOfNat (240 : Nat))) (@List.cons Int (@OfNat.ofNat Int (240 : Nat) (@instOfNat (240 : Nat))) (@List.cons Int (@OfNat.ofNat Int (240 : Nat) (@instOfNat (240 : Nat))) (@List.cons Int (@OfNat.ofNat Int (240 : Nat) (@instOfNat (240 : Nat))) (@List.cons Int (@OfNat.ofNat Int (240 : Nat) (@instOfNat (240 : Nat))) (@List.cons Int (@OfNat.ofNat Int (240 : Nat) (@instOfNat (240 : Nat))) (@List.cons Int (@OfNat.ofNat Int (240 : Nat) (@instOfNat (240 : Nat))) (@List.cons Int (@OfNat.ofNat Int (240 : Nat) (@instOfNat (240 : Nat))) (@List.cons Int (@OfNat.ofNat Int (240 : Nat) (@instOfNat (240 : Nat))) (@List.cons Int (@OfNat.ofNat Int (240 : Nat) (@instOfNat (240 : Nat))) (@List.cons Int (@OfNat.ofNat Int (240 : Nat) (@instOfNat (240 : Nat))) (@List.cons Int (@OfNat.ofNat Int (240 : Nat) (@instOfNat (240 : Nat))) (@List.cons Int (@OfNat.ofNat Int (240 : Nat) (@instOfNat (240 : Nat))) (@List.cons Int (@OfNat.ofNat Int (240 : Nat) (@instOfNat (240 : Nat))) (@List.cons Int (@OfNat.ofNat Int (240 : Nat) (@instOfNat (240 : Nat))) (@List.cons Int (@OfNat.ofNat Int (240 : Nat) (@instOfNat (240 : Nat))) (@List.cons Int (@OfNat.ofNat Int (240 : Nat) (@instOfNat (240 : Nat))) (@List.cons Int (@OfNat.ofNat Int (240 : Nat) (@instOfNat (240 : Nat))) (@List.cons Int (@OfNat.ofNat Int (240 : Nat) (@instOfNat (240 : Nat))) (@List.cons Int (@OfNat.ofNat Int (240 : Nat) (@instOfNat (240 : Nat))) (@List.cons Int (@OfNat.ofNat Int (240 : Nat) (@instOfNat (240 : Nat))) (@List.cons Int (@OfNat.ofNat Int (240 : Nat) (@instOfNat (240 : Nat))) (@List.cons Int (@OfNat.ofNat Int (240 : Nat) (@instOfNat (240 : Nat))) (@List.cons Int (@OfNat.ofNat Int (240 : Nat) (@instOfNat (240 : Nat))) (@List.cons Int (@OfNat.ofNat Int (240 : Nat) (@instOfNat (240 : Nat))) (@List.cons Int (@OfNat.ofNat Int (240 : Nat) (@instOfNat (240 : Nat))) (@List.cons Int (@OfNat.ofNat Int (240 : Nat) (@instOfNat (240 : Nat))) (@List.cons Int (@OfNat.ofNat Int (240 : Nat) (@instOfNat (240 : Nat))) (@List.cons Int (@OfNat.ofNat Int (240 : Nat) (@instOfNat (240 : Nat))) (@List.cons Int (@OfNat.ofNat Int (240 : Nat) (@instOfNat (240 : Nat))) (@List.cons Int (@OfNat.ofNat Int (240 : Nat) (@instOfNat (240 : Nat))) (@List.cons Int (@OfNat.ofNat Int (240 : Nat) (@instOfNat (240 : Nat))) (@List.cons Int (@OfNat.ofNat Int (240 : Nat) (@instOfNat (240 : Nat))) (@List.cons Int (@OfNat.ofNat Int (240 : Nat) (@instOfNat (240 : Nat))) (@List.cons Int (@OfNat.ofNat Int (240 : Nat) (@instOfNat (240 : Nat))) (@List.cons Int (@OfNat.ofNat Int (240 : Nat) (@instOfNat (240 : Nat))) (@List.cons Int (@OfNat.ofNat Int (240 : Nat) (@instOfNat (240 : Nat))) (@List.cons Int (@OfNat.ofNat Int (240 : Nat) (@instOfNat (240 : Nat))) (@List.cons Int (@OfNat.ofNat Int (240 : Nat) (@instOfNat (240 : Nat))) (@List.cons Int (@OfNat.ofNat Int (240 : Nat) (@instOfNat (240 : Nat))) (@List.cons Int (@OfNat.ofNat Int (240 : Nat) (@instOfNat (240 : Nat))) (@List.cons Int (@OfNat.ofNat Int (240 : Nat) (@instOfNat (240 : Nat))) (@List.cons Int (@OfNat.ofNat Int (240 : Nat) (@instOfNat (240 : Nat))) (@List.cons Int (@OfNat.ofNat Int (240 : Nat) (@instOfNat (240 : Nat))) (@List.cons Int (@OfNat.ofNat Int (240 : Nat) (@instOfNat (240 : Nat))) (@List.cons Int (@OfNat.ofNat Int (240 : Nat) (@instOfNat (240 : Nat))) (@List.cons Int (@OfNat.ofNat Int (240 : Nat) (@instOfNat (240 : Nat))) (@List.cons Int (@OfNat.ofNat Int (240 : Nat) (@instOfNat (240 : Nat))) (@List.cons Int (@OfNat.ofNat Int (240 : Nat) (@instOfNat (240 : Nat))) (@List.cons Int (@OfNat.ofNat Int (240 : Nat) (@instOfNat (240 : Nat))) (@List.cons Int (@OfNat.ofNat Int (240 : Nat) (@instOfNat (240 : Nat))) (@List.cons Int (@OfNat.ofNat Int (240 : Nat) (@instOfNat (240 : Nat))) (@List.cons Int (@OfNat.ofNat Int (240 : Nat) (@instOfNat (240 : Nat))) (@List.cons Int (@OfNat.ofNat Int (240 : Nat) (@instOfNat (240 : Nat))) (@List.cons Int (@OfNat.ofNat Int (240 : Nat) (@instOfNat (240 : Nat))) (@List.cons Int (@OfNat.ofNat Int (240 : Nat) (@instOfNat (240 : Nat))) (@List.cons Int (@OfNat.ofNat Int (240 : Nat) (@instOfNat (240 : Nat))) (@List.cons Int (@OfNat.ofNat Int (240 : Nat) (@instOfNat (240 : Nat))) (@List.cons Int (@OfNat.ofNat Int (240 : Nat) (@instOfNat (240 : Nat))) (@List.cons Int (@OfNat.ofNat Int (240 : Nat) (@instOfNat (240 : Nat))) (@List.cons Int (@OfNat.ofNat Int (240 : Nat) (@instOfNat (240 : Nat))) (@List.cons Int (@OfNat.ofNat Int (240 : Nat) (@instOfNat (240 : Nat))) (@List.cons Int (@OfNat.ofNat Int (240 : Nat) (@instOfNat (240 : Nat))) (@List.cons Int (@OfNat.ofNat Int (240 : Nat) (@instOfNat (240 : Nat))) (@List.cons Int (@OfNat.ofNat Int (240 : Nat) (@instOfNat (240 : Nat))) (@List.cons Int (@OfNat.ofNat Int (240 : Nat) (@instOfNat (240 : Nat))) (@List.cons Int (@OfNat.ofNat Int (240 : Nat) (@instOfNat (240 : Nat))) (@List.cons Int (@OfNat.ofNat Int (240 : Nat) (@instOfNat (240 : Nat))) (@List.cons Int (@OfNat.ofNat Int (240 : Nat) (@instOfNat (240 : Nat))) (@List.cons Int (@OfNat.ofNat Int (240 : Nat) (@instOfNat (240 : Nat))) (@List.cons Int (@OfNat.ofNat Int (240 : Nat) (@instOfNat (240 : Nat))) (@List.cons Int (@OfNat.ofNat Int (240 : Nat) (@instOfNat (240 : Nat))) (@List.cons Int (@OfNat.ofNat Int (240 : Nat) (@instOfNat (240 : Nat))) (@List.cons Int (@OfNat.ofNat Int (240 : Nat) (@instOfNat (240 : Nat))) (@List.cons Int (@OfNat.ofNat Int (240 : Nat) (@instOfNat (240 : Nat))) (@List.cons Int (@OfNat.ofNat Int (240 : Nat) (@instOfNat (240 : Nat))) (@List.cons Int (@OfNat.ofNat Int (240 : Nat) (@instOfNat (240 : Nat))) (@List.cons Int (@OfNat.ofNat Int (240 : Nat) (@instOfNat (240 : Nat))) (@List.cons Int (@OfNat.ofNat Int (240 : Nat) (@instOfNat (240 : Nat))) (@List.cons Int (@OfNat.ofNat Int (240 : Nat) (@instOfNat (240 : Nat))) (@List.cons Int (@OfNat.ofNat Int (240 : Nat) (@instOfNat (240 : Nat))) (@List.cons Int (@OfNat.ofNat Int (240 : Nat) (@instOfNat (240 : Nat))) (@List.cons Int (@OfNat.ofNat Int (240 : Nat) (@instOfNat (240 : Nat))) (@List.cons Int (@OfNat.ofNat Int (240 : Nat) (@instOfNat (240 : Nat))) (@List.cons Int (@OfNat.ofNat Int (240 : Nat) (@instOfNat (240 : Nat))) (@List.cons Int (@OfNat.ofNat Int (240 : Nat) (@instOfNat (240 : Nat))) (@List.cons Int (@OfNat.ofNat Int (240 : Nat) (@instOfNat (240 : Nat))) (@List.cons Int (@OfNat.ofNat Int (240 : Nat) (@instOfNat (240 : Nat))) (@List.cons Int (@OfNat.ofNat Int (240 : Nat) (@instOfNat (240 : Nat))) (@List.cons Int (@OfNat.ofNat Int (240 : Nat) (@instOfNat (240 : Nat))) (@List.cons Int (@OfNat.ofNat Int (240 : Nat) (@instOfNat (240 : Nat))) (@List.cons Int (@OfNat.ofNat Int (240 : Nat) (@instOfNat (240 : Nat))) (@List.cons Int (@OfNat.ofNat Int (240 : Nat) (@instOfNat (240 : Nat))) (@List.cons Int (@OfNat.ofNat Int (240 : Nat) (@instOfNat (240 : Nat))) (@List.cons Int (@OfNat.ofNat Int (240 : Nat) (@instOfNat (240 : Nat))) (@List.cons Int (@OfNat.ofNat Int (240 : Nat) (@instOfNat (240 : Nat))) (@List.cons Int (@OfNat.ofNat Int (240 : Nat) (@instOfNat (240 : Nat))) (@List.cons Int (@OfNat.ofNat Int (240 : Nat) (@instOfNat (240 : Nat))) (@List.cons Int (@OfNat.ofNat Int (240 : Nat) (@instOfNat (240 : Nat))) (@List.cons Int (@OfNat.ofNat Int (240 : Nat) (@instOfNat (240 : Nat))) (@List.cons Int (@OfNat.ofNat Int (240 : Nat) (@instOfNat (240 : Nat))) (@List.cons Int (@OfNat.ofNat Int (240 : Nat) (@instOfNat (240 : Nat))) (@List.cons Int (@OfNat.ofNat Int (240 : Nat) (@instOfNat (240 : Nat))) (@List.cons Int (@OfNat.ofNat Int (240 : Nat) (@instOfNat (240 : Nat))) (@List.cons Int (@OfNat.ofNat Int (240 : Nat) (@instOfNat (240 : Nat))) (@List.cons Int (@OfNat.ofNat Int (240 : Nat) (@instOfNat (240 : Nat))) (@List.cons Int (@OfNat.ofNat Int (240 : Nat) (@instOfNat (240 : Nat))) (@List.cons Int (@OfNat.ofNat Int (240 : Nat) (@instOfNat (240 : Nat))) (@List.cons Int (@OfNat.ofNat Int (240 : Nat) (@instOfNat (240 : Nat))) (@List.cons Int (@OfNat.ofNat Int (240 : Nat) (@instOfNat (240 : Nat))) (@List.cons Int (@OfNat.ofNat Int (240 : Nat) (@instOfNat (240 : Nat))) (@List.cons Int (@OfNat.ofNat Int (240 : Nat) (@instOfNat (240 : Nat))) (@List.cons Int (@OfNat.ofNat Int (240 : Nat) (@instOfNat (240 : Nat))) (@List.cons Int (@OfNat.ofNat Int (240 : Nat) (@instOfNat (240 : Nat))) (@List.cons Int (@OfNat.ofNat Int (240 : Nat) (@instOfNat (240 : Nat))) (@List.cons Int (@OfNat.ofNat Int (240 : Nat) (@instOfNat (240 : Nat))) (@List.cons Int (@OfNat.ofNat Int (240 : Nat) (@instOfNat (240 : Nat))) (@List.cons Int (@OfNat.ofNat Int (240 : Nat) (@instOfNat (240 : Nat))) (@List.cons Int (@OfNat.ofNat Int (240 : Nat) (@instOfNat (240 : Nat))) (@List.cons Int (@OfNat.ofNat Int (240 : Nat) (@instOfNat (240 : Nat))) (@List.cons Int (@OfNat.ofNat Int (241 : Nat) (@instOfNat (241 : Nat))) (@List.cons Int (@OfNat.ofNat Int (241 : Nat) (@instOfNat (241 : Nat))) (@List.cons Int (@OfNat.ofNat Int (241 : Nat) (@instOfNat (241 : Nat))) (@List.cons Int (@OfNat.ofNat Int (241 : Nat) (@instOfNat (241 : Nat))) (@List.cons Int (@OfNat.ofNat Int (241 : Nat) (@instOfNat (241 : Nat))) (@List.cons Int (@OfNat.ofNat Int (241 : Nat) (@instOfNat (241 : Nat))) (@List.cons Int (@OfNat.ofNat Int (241 : Nat) (@instOfNat (241 : Nat))) (@List.cons Int (@OfNat.ofNat Int (241 : Nat) (@instOfNat (241 : Nat))) (@List.cons Int (@OfNat.ofNat Int (241 : Nat) (@instOfNat (241 : Nat))) (@List.cons Int (@OfNat.ofNat Int (241 : Nat) (@instOfNat (241 : Nat))) (@List.cons Int (@OfNat.ofNat Int (241 : Nat) (@instOfNat (241 : Nat))) (@List.cons Int (@OfNat.ofNat Int (241 : Nat) (@instOfNat (241 : Nat))) (@List.cons Int (@OfNat.ofNat Int (241 : Nat) (@instOfNat (241 : Nat))) (@List.cons Int (@OfNat.ofNat Int (241 : Nat) (@instOfNat (241 : Nat))) (@List.cons Int (@OfNat.ofNat Int (241 : Nat) (@instOfNat (241 : Nat))) (@List.cons Int (@OfNat.ofNat Int (241 : Nat) (@instOfNat (241 : Nat))) (@List.cons Int (@OfNat.ofNat Int (241 : Nat) (@instOfNat (241 : Nat))) (@List.cons Int (@OfNat.ofNat Int (241 : Nat) (@instOfNat (241 : Nat))) (@List.cons Int (@OfNat.ofNat Int (241 : Nat) (@instOfNat (241 : Nat))) (@List.cons Int (@OfNat.ofNat Int (241 : Nat) (@instOfNat (241 : Nat))) (@List.cons Int (@OfNat.ofNat Int (241 : Nat) (@instOfNat (241 : Nat))) (@List.cons Int (@OfNat.ofNat Int (241 : Nat) (@instOfNat (241 : Nat))) (@List.cons Int (@OfNat.ofNat Int (241 : Nat) (@instOfNat (241 : Nat))) (@List.cons Int (@OfNat.ofNat Int (241 : Nat) (@instOfNat (241 : Nat))) (@List.cons Int (@OfNat.ofNat Int (241 : Nat) (@instOfNat (241 : Nat))) (@List.cons Int (@OfNat.ofNat Int (241 : Nat) (@instOfNat (241 : Nat))) (@List.cons Int (@OfNat.ofNat Int (241 : Nat) (@instOfNat (241 : Nat))) (@List.cons Int (@OfNat.ofNat Int (241 : Nat) (@instOfNat (241 : Nat))) (@List.cons Int (@OfNat.ofNat Int (241 : Nat) (@instOfNat (241 : Nat))) (@List.cons Int (@OfNat.ofNat Int (241 : Nat) (@instOfNat (241 : Nat))) (@List.cons Int (@OfNat.ofNat Int (241 : Nat) (@instOfNat (241 : Nat))) (@List.cons Int (@OfNat.ofNat Int (241 : Nat) (@instOfNat (241 : Nat))) (@List.cons Int (@OfNat.ofNat Int (241 : Nat) (@instOfNat (241 : Nat))) (@List.cons Int (@OfNat.ofNat Int (241 : Nat) (@instOfNat (241 : Nat))) (@List.cons Int (@OfNat.ofNat Int (241 : Nat) (@instOfNat (241 : Nat))) (@List.cons Int (@OfNat.ofNat Int (241 : Nat) (@instOfNat (241 : Nat))) (@List.cons Int (@OfNat.ofNat Int (241 : Nat) (@instOfNat (241 : Nat))) (@List.cons Int (@OfNat.ofNat Int (241 : Nat) (@instOfNat (241 : Nat))) (@List.cons Int (@OfNat.ofNat Int (241 : Nat) (@instOfNat (241 : Nat))) (@List.cons Int (@OfNat.ofNat Int (241 : Nat) (@instOfNat (241 : Nat))) (@List.cons Int (@OfNat.ofNat Int (241 : Nat) (@instOfNat (241 : Nat))) (@List.cons Int (@OfNat.ofNat Int (241 : Nat) (@instOfNat (241 : Nat))) (@List.cons Int (@OfNat.ofNat Int (241 : Nat) (@instOfNat (241 : Nat))) (@List.cons Int (@OfNat.ofNat Int (241 : Nat) (@instOfNat (241 : Nat))) (@List.cons Int (@OfNat.ofNat Int (241 : Nat) (@instOfNat (241 : Nat))) (@List.cons Int (@OfNat.ofNat Int (241 : Nat) (@instOfNat (241 : Nat))) (@List.cons Int (@OfNat.ofNat Int (241 : Nat) (@instOfNat (241 : Nat))) (@List.cons Int (@OfNat.ofNat Int (241 : Nat) (@instOfNat (241 : Nat))) (@List.cons Int (@OfNat.ofNat Int (241 : Nat) (@instOfNat (241 : Nat))) (@List.cons Int (@OfNat.ofNat Int (241 : Nat) (@instOfNat (241 : Nat))) (@List.cons Int (@OfNat.ofNat Int (241 : Nat) (@instOfNat (241 : Nat))) (@List.cons Int (@OfNat.ofNat Int (241 : Nat) (@instOfNat (241 : Nat))) (@List.cons Int (@OfNat.ofNat Int (241 : Nat) (@instOfNat (241 : Nat))) (@List.cons Int (@OfNat.ofNat Int (241 : Nat) (@instOfNat (241 : Nat))) (@List.cons Int (@OfNat.ofNat Int (241 : Nat) (@instOfNat (241 : Nat))) (@List.cons Int (@OfNat.ofNat Int (241 : Nat) (@instOfNat (241 : Nat))) (@List.cons Int (@OfNat.ofNat Int (241 : Nat) (@instOfNat (241 : Nat))) (@List.cons Int (@OfNat.ofNat Int (241 : Nat) (@instOfNat (241 : Nat))) (@List.cons Int (@OfNat.ofNat Int (241 : Nat) (@instOfNat (241 : Nat))) (@List.cons Int (@OfNat.ofNat Int (241 : Nat) (@instOfNat (241 : Nat))) (@List.cons Int (@OfNat.ofNat Int (241 : Nat) (@instOfNat (241 : Nat))) (@List.cons Int (@OfNat.ofNat Int (241 : Nat) (@instOfNat (241 : Nat))) (@List.cons Int (@OfNat.ofNat Int (241 : Nat) (@instOfNat (241 : Nat))) (@List.cons Int (@OfNat.ofNat Int (241 : Nat) (@instOfNat (241 : Nat))) (@List.cons Int (@OfNat.ofNat Int (241 : Nat) (@instOfNat (241 : Nat))) (@List.cons Int (@OfNat.ofNat Int (241 : Nat) (@instOfNat (241 : Nat))) (@List.cons Int (@OfNat.ofNat Int (2 : Nat) (@instOfNat (2 : Nat))) (@List.cons Int (@OfNat.ofNat Int (2 : Nat) (@instOfNat (2 : Nat))) (@List.cons Int (@OfNat.ofNat Int (2 : Nat) (@instOfNat (2 : Nat))) (@List.cons Int (@OfNat.ofNat Int (2 : Nat) (@instOfNat (2 : Nat))) (@List.cons Int (@OfNat.ofNat Int (2 : Nat) (@instOfNat (2 : Nat))) (@List.cons Int (@OfNat.ofNat Int (2 : Nat) (@instOfNat (2 : Nat))) (@List.cons Int (@OfNat.ofNat Int (2 : Nat) (@instOfNat (2 : Nat))) (@List.cons Int (@OfNat.ofNat Int (2 : Nat) (@instOfNat (2 : Nat))) (@List.cons Int (@OfNat.ofNat Int (2 : Nat) (@instOfNat (2 : Nat))) (@List.cons Int (@OfNat.ofNat Int (2 : Nat) (@instOfNat (2 : Nat))) (@List.cons Int (@OfNat.ofNat Int (2 : Nat) (@instOfNat (2 : Nat))) (@List.cons Int (@OfNat.ofNat Int (2 : Nat) (@instOfNat (2 : Nat))) (@List.cons Int (@OfNat.ofNat Int (2 : Nat) (@instOfNat (2 : Nat))) (@List.cons Int (@OfNat.ofNat Int (2 : Nat) (@instOfNat (2 : Nat))) (@List.cons Int (@OfNat.ofNat Int (2 : Nat) (@instOfNat (2 : Nat))) (@List.cons Int (@OfNat.ofNat Int (2 : Nat) (@instOfNat (2 : Nat))) (@List.cons Int (@OfNat.ofNat Int (2 : Nat) (@instOfNat (2 : Nat))) (@List.cons Int (@OfNat.ofNat Int (2 : Nat) (@instOfNat (2 : Nat))) (@List.cons Int (@OfNat.ofNat Int (2 : Nat) (@instOfNat (2 : Nat))) (@List.cons Int (@OfNat.ofNat Int (2 : Nat) (@instOfNat (2 : Nat))) (@List.cons Int (@OfNat.ofNat Int (2 : Nat) (@instOfNat (2 : Nat))) (@List.cons Int (@OfNat.ofNat Int (2 : Nat) (@instOfNat (2 : Nat))) (@List.cons Int (@OfNat.ofNat Int (2 : Nat) (@instOfNat (2 : Nat))) (@List.cons Int (@OfNat.ofNat Int (2 : Nat) (@instOfNat (2 : Nat))) (@List.cons Int (@OfNat.ofNat Int (2 : Nat) (@instOfNat (2 : Nat))) (@List.cons Int (@OfNat.ofNat Int (2 : Nat) (@instOfNat (2 : Nat))) (@List.cons Int (@OfNat.ofNat Int (2 : Nat) (@instOfNat (2 : Nat))) (@List.cons Int (@OfNat.ofNat Int (2 : Nat) (@instOfNat (2 : Nat))) (@List.cons Int (@OfNat.ofNat Int (2 : Nat) (@instOfNat (2 : Nat))) (@List.cons Int (@OfNat.ofNat Int (2 : Nat) (@instOfNat (2 : Nat))) (@List.cons Int (@OfNat.ofNat Int (19 : Nat) (@instOfNat (19 : Nat))) (@List.cons Int (@OfNat.ofNat Int (3 : Nat) (@instOfNat (3 : Nat))) (@List.cons Int (@OfNat.ofNat Int (3 : Nat) (@instOfNat (3 : Nat))) (@List.cons Int (@OfNat.ofNat Int (3 : Nat) (@instOfNat (3 : Nat))) (@List.cons Int (@OfNat.ofNat Int (3 : Nat) (@instOfNat (3 : Nat))) (@List.cons Int (@OfNat.ofNat Int (3 : Nat) (@instOfNat (3 : Nat))) (@List.cons Int (@OfNat.ofNat Int (3 : Nat) (@instOfNat (3 : Nat))) (@List.cons Int (@OfNat.ofNat Int (3 : Nat) (@instOfNat (3 : Nat))) (@List.cons Int (@OfNat.ofNat Int (3 : Nat) (@instOfNat (3 : Nat))) (@List.cons Int (@OfNat.ofNat Int (3 : Nat) (@instOfNat (3 : Nat))) (@List.cons Int (@OfNat.ofNat Int (3 : Nat) (@instOfNat (3 : Nat))) (@List.cons Int (@OfNat.ofNat Int (3 : Nat) (@instOfNat (3 : Nat))) (@List.cons Int (@OfNat.ofNat Int (3 : Nat) (@instOfNat (3 : Nat))) (@List.cons Int (@OfNat.ofNat Int (35 : Nat) (@instOfNat (35 : Nat))) (@List.cons Int (@OfNat.ofNat Int (3 : Nat) (@instOfNat (3 : Nat))) (@List.cons Int (@OfNat.ofNat Int (3 : Nat) (@instOfNat (3 : Nat))) (@List.cons Int (@OfNat.ofNat Int (52 : Nat) (@instOfNat (52 : Nat))) (@List.cons Int (@OfNat.ofNat Int (4 : Nat) (@instOfNat (4 : Nat))) (@List.cons Int (@OfNat.ofNat Int (4 : Nat) (@instOfNat (4 : Nat))) (@List.cons Int (@OfNat.ofNat Int (4 : Nat) (@instOfNat (4 : Nat))) (@List.cons Int (@OfNat.ofNat Int (68 : Nat) (@instOfNat (68 : Nat))) (@List.cons Int (@OfNat.ofNat Int (241 : Nat) (@instOfNat (241 : Nat))) (@List.cons Int (@OfNat.ofNat Int (241 : Nat) (@instOfNat (241 : Nat))) (@List.cons Int (@OfNat.ofNat Int (241 : Nat) (@instOfNat (241 : Nat))) ([(@OfNat.ofNat Int (241 : Nat) (@instOfNat (241 : Nat))), (@OfNat.ofNat Int (241 : Nat) (@instOfNat (241 : Nat))), (@OfNat.ofNat Int (241 : Nat) (@instOfNat (241 : Nat))), (@OfNat.ofNat Int (241 : Nat) (@instOfNat (241 : Nat))), (@OfNat.ofNat Int (241 : Nat) (@instOfNat (241 : Nat))), (@OfNat.ofNat Int (241 : Nat) (@instOfNat (241 : Nat))), (@OfNat.ofNat Int (241 : Nat) (@instOfNat (241 : Nat))), (@OfNat.ofNat Int (241 : Nat) (@instOfNat (241 : Nat)))] : List (Int)))))))))))))))))))))))))))))))))))))))))))))))))))))))))))))))))))))))))))))))))))))))))))))))))))))))))))))))))))))))))))))))))))))))))))))))))))))))))))))))))))))))))))))))))))))))))))))))))))))))))))))))))))))))))))))))))))))))))))))))))))))))))) (((@UInt8.toNat v3) : Nat) : Int)) fun (v4 : Int) =>
   Option.bind (getI ([((@OfNat.ofNat Int (128 : Nat) (@instOfNat (128 : Nat))), (@OfNat.ofNat Int (191 : Nat) (@instOfNat (191 : Nat)))), ((@OfNat.ofNat Int (160 : Nat) (@instOfNat (160 : Nat))), (@OfNat.ofNat Int (191 : Nat) (@instOfNat (191 : Nat)))), ((@OfNat.ofNat Int (128 : Nat) (@instOfNat (128 : Nat))), (@OfNat.ofNat Int (159 : Nat) (@instOfNat (159 : Nat)))), ((@OfNat.ofNat Int (144 : Nat) (@instOfNat (144 : Nat))), (@OfNat.ofNat Int (191 : Nat) (@instOfNat (191 : Nat)))), ((@OfNat.ofNat Int (128 : Nat) (@instOfNat (128 : Nat))), (@OfNat.ofNat Int (143 : Nat) (@instOfNat (143 : Nat)))), ((@OfNat.ofNat Int (0 : Nat) (@instOfNat (0 : Nat))), (@OfNat.ofNat Int (0 : Nat) (@instOfNat (0 : Nat)))), ((@OfNat.ofNat Int (0 : Nat) (@instOfNat (0 : Nat))), (@OfNat.ofNat Int (0 : Nat) (@instOfNat (0 : Nat)))), ((@OfNat.ofNat Int (0 : Nat) (@instOfNat (0 : Nat))), (@OfNat.ofNat Int (0 : Nat) (@instOfNat (0 : Nat)))), ((@OfNat.ofNat Int (0 : Nat) (@instOfNat (0 : Nat))), (@OfNat.ofNat Int (0 : Nat) (@instOfNat (0 : Nat)))), ((@OfNat.ofNat Int (0 : Nat) (@instOfNat (0 : Nat))), (@OfNat.ofNat Int (0 : Nat) (@instOfNat (0 : Nat)))), ((@OfNat.ofNat Int (0 : Nat) (@instOfNat (0 : Nat))), (@OfNat.ofNat Int (0 : Nat) (@instOfNat (0 : Nat)))), ((@OfNat.ofNat Int (0 : Nat) (@instOfNat (0 : Nat))), (@OfNat.ofNat Int (0 : Nat) (@instOfNat (0 : Nat)))), ((@OfNat.ofNat Int (0 : Nat) (@instOfNat (0 : Nat))), (@OfNat.ofNat Int (0 : Nat) (@instOfNat (0 : Nat)))), ((@OfNat.ofNat Int (0 : Nat) (@instOfNat (0 : Nat))), (@OfNat.ofNat Int (0 : Nat) (@instOfNat (0 : Nat)))), ((@OfNat.ofNat Int (0 : Nat) (@instOfNat (0 : Nat))), (@OfNat.ofNat Int (0 : Nat) (@instOfNat (0 : Nat)))), ((@OfNat.ofNat Int (0 : Nat) (@instOfNat (0 : Nat))), (@OfNat.ofNat Int (0 : Nat) (@instOfNat (0 : Nat))))] : List ((Int × Int))) (@Int.fdiv v4 (@HPow.hPow Int Nat Int (@instHPow Int Nat (@instPowNat Int @Int.instNatPow)) (2 : Int) (@Min.min Nat @instMinNat (Int.toNat (4 : Int)) (@Go.IntKind.bits @Go.IntKind.u8))))) fun (v5 : (Int × Int)) =>
   bif (decide ((Go.IntKind.wrap .i64 (@Go.bits @Go.BinOp.and @Go.IntKind.u8 v4 (7 : Int))) = (2 : Int))) then
    bif (decide ((((List.length s0) : Nat) : Int) < (2 : Int))) then
     some ((.inl ((@Bool.false, @Unit.unit), @Unit.unit)))
    else
     Option.bind (getI s0 (1 : Int)) fun (v6 : UInt8) =>
     bif (@cond Bool @Bool.false @Bool.true (decide ((((@UInt8.toNat v6) : Nat) : Int) < v5.1))) then
      some ((.inl ((@Bool.false, @Unit.unit), @Unit.unit)))
     else
      Option.bind (getI s0 (1 : Int)) fun (v7 : UInt8) =>
      bif (@cond Bool @Bool.false @Bool.true (decide (v5.2 < (((@UInt8.toNat v7) : Nat) : Int)))) then
       some ((.inl ((@Bool.false, @Unit.unit), @Unit.unit)))
      else
       Option.bind (dropI s0 (2 : Int)) fun (v8 : (List UInt8)) =>
       (X ((v8, @Unit.unit), @Unit.unit))
   else
    bif (decide ((Go.IntKind.wrap .i64 (@Go.bits @Go.BinOp.and @Go.IntKind.u8 v4 (7 : Int))) = (3 : Int))) then
     bif (decide ((((List.length s0) : Nat) : Int) < (3 : Int))) then
      some ((.inl ((@Bool.false, @Unit.unit), @Unit.unit)))
     else
      Option.bind (getI s0 (1 : Int)) fun (v6 : UInt8) =>
      bif (@cond Bool @Bool.false @Bool.true (decide ((((@UInt8.toNat v6) : Nat) : Int) < v5.1))) then
       some ((.inl ((@Bool.false, @Unit.unit), @Unit.unit)))
      else
       Option.bind (getI s0 (1 : Int)) fun (v7 : UInt8) =>
       bif (@cond Bool @Bool.false @Bool.true (decide (v5.2 < (((@UInt8.toNat v7) : Nat) : Int)))) then
        some ((.inl ((@Bool.false, @Unit.unit), @Unit.unit)))
       else
        Option.bind (getI s0 (2 : Int)) fun (v8 : UInt8) =>
        bif (@cond Bool @Bool.false @Bool.true (decide ((((@UInt8.toNat v8) : Nat) : Int) < (128 : Int)))) then
         some ((.inl ((@Bool.false, @Unit.unit), @Unit.unit)))
        else
         Option.bind (getI s0 (2 : Int)) fun (v9 : UInt8) =>
         bif (@cond Bool @Bool.false @Bool.true (decide ((191 : Int) < (((@UInt8.toNat v9) : Nat) : Int)))) then
          some ((.inl ((@Bool.false, @Unit.unit), @Unit.unit)))
         else
          Option.bind (dropI s0 (3 : Int)) fun (v10 : (List UInt8)) =>
          (X ((v10, @Unit.unit), @Unit.unit))
    else
     bif (decide ((Go.IntKind.wrap .i64 (@Go.bits @Go.BinOp.and @Go.IntKind.u8 v4 (7 : Int))) = (4 : Int))) then
      bif (decide ((((List.length s0) : Nat) : Int) < (4 : Int))) then
       some ((.inl ((@Bool.false, @Unit.unit), @Unit.unit)))
      else
       Option.bind (getI s0 (1 : Int)) fun (v6 : UInt8) =>
       bif (@cond Bool @Bool.false @Bool.true (decide ((((@UInt8.toNat v6) : Nat) : Int) < v5.1))) then
        some ((.inl ((@Bool.false, @Unit.unit), @Unit.unit)))
       else
        Option.bind (getI s0 (1 : Int)) fun (v7 : UInt8) =>
        bif (@cond Bool @Bool.false @Bool.true (decide (v5.2 < (((@UInt8.toNat v7) : Nat) : Int)))) then
         some ((.inl ((@Bool.false, @Unit.unit), @Unit.unit)))
        else
         Option.bind (getI s0 (2 : Int)) fun (v8 : UInt8) =>
         bif (@cond Bool @Bool.false @Bool.true (decide ((((@UInt8.toNat v8) : Nat) : Int) < (128 : Int)))) then
          some ((.inl ((@Bool.false, @Unit.unit), @Unit.unit)))
         else
          Option.bind (getI s0 (2 : Int)) fun (v9 : UInt8) =>
          bif (@cond Bool @Bool.false @Bool.true (decide ((191 : Int) < (((@UInt8.toNat v9) : Nat) : Int)))) then
           some ((.inl ((@Bool.false, @Unit.unit), @Unit.unit)))
          else
           Option.bind (getI s0 (3 : Int)) fun (v10 : UInt8) =>
           bif (@cond Bool @Bool.false @Bool.true (decide ((((@UInt8.toNat v10) : Nat) : Int) < (128 : Int)))) then
            some ((.inl ((@Bool.false, @Unit.unit), @Unit.unit)))
           else
            Option.bind (getI s0 (3 : Int)) fun (v11 : UInt8) =>
            bif (@cond Bool @Bool.false @Bool.true (decide ((191 : Int) < (((@UInt8.toNat v11) : Nat) : Int)))) then
             some ((.inl ((@Bool.false, @Unit.unit), @Unit.unit)))
            else
             Option.bind (dropI s0 (4 : Int)) fun (v12 : (List UInt8)) =>
             (X ((v12, @Unit.unit), @Unit.unit))
     else
      some ((.inl ((@Bool.false, @Unit.unit), @Unit.unit)))
 else
  some ((.inr (@Unit.unit, @Unit.unit)))
noncomputable def unicode_utf8_ValidString_L1_R (N : Nat) (c : (((List UInt8) × Unit) × Unit)) : Option (((((Bool) × Unit) × Unit) ⊕ (Unit × Unit))) := gl (fun X c => unicode_utf8_ValidString_L1 N X c.1.1) N c
theorem unicode_utf8_ValidString_L1_S (N : Nat) (X : (((List UInt8) × Unit) × Unit) → Option (((((Bool) × Unit) × Unit) ⊕ (Unit × Unit)))) (s0 : List UInt8) : (roundK Go.Proofs.Tryd.prog (Ev90 N) 400 [55] unicode_utf8_ValidString_L1_I (loopAt Go.Proofs.Tryd.prog [55] 1) X ((s0, ()), ())).run = unicode_utf8_ValidString_L1 N X s0 := by kernel_rfl
noncomputable def Ev91 (N : Nat) : (R : Type) → Env R := Env.addLp (Ev90 N) [55] 0 1 (fun R => lpK Go.Proofs.Tryd.prog unicode_utf8_ValidString_L1_I (fun X c => unicode_utf8_ValidString_L1 N X c.1.1) N)
theorem Ev91_ok (N : Nat) (R : Type) : EnvOK Go.Proofs.Tryd.prog (Ev91 N R) := EnvOK.addLp (Ev90_ok N R) (by kernel_rfl) (lpK_ok (li := unicode_utf8_ValidString_L1_I) (G := fun X c => unicode_utf8_ValidString_L1 N X c.1.1) hmx (Ev90_ok N _) (by kernel_rfl) loopAt_sub (fun (X : CT unicode_utf8_ValidString_L1_I.sh → Option (OT unicode_utf8_ValidString_L1_I.outs)) (c : CT unicode_utf8_ValidString_L1_I.sh) => unicode_utf8_ValidString_L1_S N X c.1.1) N)
noncomputable def unicode_utf8_ValidString (N : Nat) (s0 : List UInt8) : Option (Bool) :=
 Option.bind (unicode_utf8_ValidString_L1_R N ((s0, @Unit.unit), @Unit.unit)) fun (v2 : (((Bool × Unit) × Unit) ⊕ (Unit × Unit))) =>
 Sum.elim
  (fun (v3 : ((Bool × Unit) × Unit)) =>
  some (v3.1.1))
  (fun (v3 : (Unit × Unit)) =>
  some (@Bool.true)) v2
theorem unicode_utf8_ValidString_S (N : Nat) (s0 : List UInt8) : (runK Go.Proofs.Tryd.prog (Ev91 N) 400 55 [.str] [.bool] (s0, ())).run = unicode_utf8_ValidString N s0 := by kernel_rfl
theorem unicode_utf8_ValidString_C (N : Nat) (s0 : List UInt8) (y : Bool) (h : unicode_utf8_ValidString N s0 = some y) : CallsK Go.Proofs.Tryd.prog 55 (valA [.str] (s0, ())) (tupV (valR [.bool] y)) := runK_ok hmx (Ev91_ok N _) (okFn_ok (by kernel_rfl)) (by rw [unicode_utf8_ValidString_S]; exact h)
noncomputable def Ev92 (N : Nat) : (R : Type) → Env R := Env.addFn (Ev91 N) 55 (fun R => fnK [.str] [.bool] (fun c => unicode_utf8_ValidString N c.1))
theorem Ev92_ok (N : Nat) (R : Type) : EnvOK Go.Proofs.Tryd.prog (Ev92 N R) := EnvOK.addFn hmx (Ev91_ok N R) (Ev91_ok N _) (by kernel_rfl) (fun c => unicode_utf8_ValidString_S N c.1)
noncomputable def unicode_utf8_RuneCountInString_L2_I : LI := ⟨10, 0, [], ⟨[(2, .ty (.int .i64)), (4, .lit (.box 0 0))], [.itr]⟩, [(.exit 0, ⟨[(2, .ty (.int .i64))], []⟩)]⟩
noncomputable def unicode_utf8_RuneCountInString_L2 (N : Nat) (X : (((Int) × Unit) × ((List UInt8) × ((Int) × Unit))) → Option ((((Int) × Unit) × Unit))) (n2 : Int) (h0 : List UInt8) (h1 : Int) : Option ((((Int) × Unit) × Unit)) :=
 bif (decide ((Int.toNat h1) < (List.length h0))) then
  (X (((Go.IntKind.wrap .i64 (n2 + (1 : Int))), @Unit.unit), (h0, (((((Int.toNat h1) : Nat) : Int) + (@rdec h0 h1).2), @Unit.unit))))
 else
  some (((n2, @Unit.unit), @Unit.unit))
noncomputable def unicode_utf8_RuneCountInString_L2_R (N : Nat) (c : (((Int) × Unit) × ((List UInt8) × ((Int) × Unit)))) : Option ((((Int) × Unit) × Unit)) := gl (fun X c => unicode_utf8_RuneCountInString_L2 N X c.1.1 c.2.1 c.2.2.1) N c
theorem unicode_utf8_RuneCountInString_L2_S (N : Nat) (X : (((Int) × Unit) × ((List UInt8) × ((Int) × Unit))) → Option ((((Int) × Unit) × Unit))) (n2 : Int) (h0 : List UInt8) (h1 : Int) : (roundK Go.Proofs.Tryd.prog (Ev92 N) 400 [76] unicode_utf8_RuneCountInString_L2_I (loopAt Go.Proofs.Tryd.prog [76] 2) X ((n2, ()), (h0, h1, ()))).run = unicode_utf8_RuneCountInString_L2 N X n2 h0 h1 := by kernel_rfl
noncomputable def Ev93 (N : Nat) : (R : Type) → Env R := Env.addLp (Ev92 N) [76] 0 2 (fun R => lpK Go.Proofs.Tryd.prog unicode_utf8_RuneCountInString_L2_I (fun X c => unicode_utf8_RuneCountInString_L2 N X c.1.1 c.2.1 c.2.2.1) N)
theorem Ev93_ok (N : Nat) (R : Type) : EnvOK Go.Proofs.Tryd.prog (Ev93 N R) := EnvOK.addLp (Ev92_ok N R) (by kernel_rfl) (lpK_ok (li := unicode_utf8_RuneCountInString_L2_I) (G := fun X c => unicode_utf8_RuneCountInString_L2 N X c.1.1 c.2.1 c.2.2.1) hmx (Ev92_ok N _) (by kernel_rfl) loopAt_sub (fun (X : CT unicode_utf8_RuneCountInString_L2_I.sh → Option (OT unicode_utf8_RuneCountInString_L2_I.outs)) (c : CT unicode_utf8_RuneCountInString_L2_I.sh) => unicode_utf8_RuneCountInString_L2_S N X c.1.1 c.2.1 c.2.2.1) N)
noncomputable def unicode_utf8_RuneCountInString (N : Nat) (s0 : List UInt8) : Option (Int) :=
 Option.bind (unicode_utf8_RuneCountInString_L2_R N (((0 : Int), @Unit.unit), (s0, ((0 : Int), @Unit.unit)))) fun (v2 : ((Int × Unit) × Unit)) =>
 some (v2.1.1)
theorem unicode_utf8_RuneCountInString_S (N : Nat) (s0 : List UInt8) : (runK Go.Proofs.Tryd.prog (Ev93 N) 400 76 [.str] [(.int .i64)] (s0, ())).run = unicode_utf8_RuneCountInString N s0 := by kernel_rfl
theorem unicode_utf8_RuneCountInString_C (N : Nat) (s0 : List UInt8) (y : Int) (h : unicode_utf8_RuneCountInString N s0 = some y) : CallsK Go.Proofs.Tryd.prog 76 (valA [.str] (s0, ())) (tupV (valR [(.int .i64)] y)) := runK_ok hmx (Ev93_ok N _) (okFn_ok (by kernel_rfl)) (by rw [unicode_utf8_RuneCountInString_S]; exact h)
noncomputable def Ev94 (N : Nat) : (R : Type) → Env R := Env.addFn (Ev93 N) 76 (fun R => fnK [.str] [(.int .i64)] (fun c => unicode_utf8_RuneCountInString N c.1))
theorem Ev94_ok (N : Nat) (R : Type) : EnvOK Go.Proofs.Tryd.prog (Ev94 N R) := EnvOK.addFn hmx (Ev93_ok N R) (Ev93_ok N _) (by kernel_rfl) (fun c => unicode_utf8_RuneCountInString_S N c.1)
noncomputable def utf16_Count (N : Nat) (s0 : List UInt8) : Option (Int) :=
 Option.bind (@unicode_utf8_ValidString N s0) fun (v2 : Bool) =>
 bif (!v2) then
  some ((0 : Int))
 else
  Option.bind (@unicode_utf8_RuneCountInString N s0) fun (v3 : Int) =>
  some (v3)
theorem utf16_Count_S (N : Nat) (s0 : List UInt8) : (runK Go.Proofs.Tryd.prog (Ev94 N) 400 56 [.str] [(.int .i64)] (s0, ())).run = utf16_Count N s0 := by kernel_rfl
theorem utf16_Count_C (N : Nat) (s0 : List UInt8) (y : Int) (h : utf16_Count N s0 = some y) : CallsK Go.Proofs.Tryd.prog 56 (valA [.str] (s0, ())) (tupV (valR [(.int .i64)] y)) := runK_ok hmx (Ev94_ok N _) (okFn_ok (by kernel_rfl)) (by rw [utf16_Count_S]; exact h)
noncomputable def Ev95 (N : Nat) : (R : Type) → Env R := Env.addFn (Ev94 N) 56 (fun R => fnK [.str] [(.int .i64)] (fun c => utf16_Count N c.1))
theorem Ev95_ok (N : Nat) (R : Type) : EnvOK Go.Proofs.Tryd.prog (Ev95 N R) := EnvOK.addFn hmx (Ev94_ok N R) (Ev94_ok N _) (by kernel_rfl) (fun c => utf16_Count_S N c.1)
noncomputable def utf16_May (N : Nat) (s0 : List UInt8) : Option (Int) :=
 Option.bind (@unicode_utf8_ValidString N s0) fun (v2 : Bool) =>
 bif (!v2) then
  some ((3 : Int))
 else
  Option.bind (@utf16_Count N s0) fun (v3 : Int) =>
  bif (decide ((64 : Int) < v3)) then
   some ((8 : Int))
  else
   some ((0 : Int))
theorem utf16_May_S (N : Nat) (s0 : List UInt8) : (runK Go.Proofs.Tryd.prog (Ev95 N) 400 35 [.str] [(.int .i64)] (s0, ())).run = utf16_May N s0 := by kernel_rfl
theorem utf16_May_C (N : Nat) (s0 : List UInt8) (y : Int) (h : utf16_May N s0 = some y) : CallsK Go.Proofs.Tryd.prog 35 (valA [.str] (s0, ())) (tupV (valR [(.int .i64)] y)) := runK_ok hmx (Ev95_ok N _) (okFn_ok (by kernel_rfl)) (by rw [utf16_May_S]; exact h)
noncomputable def Ev96 (N : Nat) : (R : Type) → Env R := Env.addFn (Ev95 N) 35 (fun R => fnK [.str] [(.int .i64)] (fun c => utf16_May N c.1))
theorem Ev96_ok (N : Nat) (R : Type) : EnvOK Go.Proofs.Tryd.prog (Ev96 N R) := EnvOK.addFn hmx (Ev95_ok N R) (Ev95_ok N _) (by kernel_rfl) (fun c => utf16_May_S N c.1)
noncomputable def Ev97 (N : Nat) : (R : Type) → Env R := Env.addMv (Ev96 N) [(36, 8), (36, 10)]
theorem Ev97_ok (N : Nat) (R : Type) : EnvOK Go.Proofs.Tryd.prog (Ev97 N R) := EnvOK.addMv (Ev96_ok N R) [(36, 8), (36, 10)]
noncomputable def utf16_Units_L5_I : LI := ⟨36, 0, [(3, 73)], ⟨[(3, .lit (.own 0)), (11, .lit (.box 1 0))], [.own (.int .u16) 73, .itr]⟩, [(.exit 0, ⟨[(3, .lit (.own 0))], [.own (.int .u16) 73]⟩)]⟩
noncomputable def utf16_Units_L5 (N : Nat) (X : (Unit × ((List (Int)) × ((List UInt8) × ((Int) × Unit)))) → Option ((Unit × ((List (Int)) × Unit)))) (h0 : List (Int)) (h1 : List UInt8) (h2 : Int) : Option ((Unit × ((List (Int)) × Unit))) :=
 bif (decide ((Int.toNat h2) < (List.length h1))) then
  bif (decide ((@rdec h1 h2).1 < (65536 : Int))) then
   bif (roomB ((List.length h0) + (List.length ([(Go.IntKind.wrap .u16 (@rdec h1 h2).1)] : List (Int)))) 2) then
    (X (@Unit.unit, ((h0 ++ ([(Go.IntKind.wrap .u16 (@rdec h1 h2).1)] : List (Int))), (h1, (((((Int.toNat h2) : Nat) : Int) + (@rdec h1 h2).2), @Unit.unit)))))
   else
    none
  else
   bif (roomB ((List.length h0) + (List.length ([(Go.IntKind.wrap .u16 (Go.IntKind.wrap .i32 ((55296 : Int) + (@Int.fdiv (Go.IntKind.wrap .i32 ((@rdec h1 h2).1 - (65536 : Int))) (@HPow.hPow Int Nat Int (@instHPow Int Nat (@instPowNat Int @Int.instNatPow)) (2 : Int) (@Min.min Nat @instMinNat (Int.toNat (10 : Int)) (@Go.IntKind.bits @Go.IntKind.i32))))))), (Go.IntKind.wrap .u16 (Go.IntKind.wrap .i32 ((56320 : Int) + (@Go.bits @Go.BinOp.and @Go.IntKind.i32 (Go.IntKind.wrap .i32 ((@rdec h1 h2).1 - (65536 : Int))) (1023 : Int)))))] : List (Int)))) 2) then
    (X (@Unit.unit, ((h0 ++ ([(Go.IntKind.wrap .u16 (Go.IntKind.wrap .i32 ((55296 : Int) + (@Int.fdiv (Go.IntKind.wrap .i32 ((@rdec h1 h2).1 - (65536 : Int))) (@HPow.hPow Int Nat Int (@instHPow Int Nat (@instPowNat Int @Int.instNatPow)) (2 : Int) (@Min.min Nat @instMinNat (Int.toNat (10 : Int)) (@Go.IntKind.bits @Go.IntKind.i32))))))), (Go.IntKind.wrap .u16 (Go.IntKind.wrap .i32 ((56320 : Int) + (@Go.bits @Go.BinOp.and @Go.IntKind.i32 (Go.IntKind.wrap .i32 ((@rdec h1 h2).1 - (65536 : Int))) (1023 : Int)))))] : List (Int))), (h1, (((((Int.toNat h2) : Nat) : Int) + (@rdec h1 h2).2), @Unit.unit)))))
   else
    none
 else
  some ((@Unit.unit, (h0, @Unit.unit)))
noncomputable def utf16_Units_L5_R (N : Nat) (c : (Unit × ((List (Int)) × ((List UInt8) × ((Int) × Unit))))) : Option ((Unit × ((List (Int)) × Unit))) := gl (fun X c => utf16_Units_L5 N X c.2.1 c.2.2.1 c.2.2.2.1) N c
theorem utf16_Units_L5_S (N : Nat) (X : (Unit × ((List (Int)) × ((List UInt8) × ((Int) × Unit)))) → Option ((Unit × ((List (Int)) × Unit)))) (h0 : List (Int)) (h1 : List UInt8) (h2 : Int) : (roundK Go.Proofs.Tryd.prog (Ev97 N) 400 [36] utf16_Units_L5_I (loopAt Go.Proofs.Tryd.prog [36] 5) X ((), (h0, h1, h2, ()))).run = utf16_Units_L5 N X h0 h1 h2 := by kernel_rfl
noncomputable def Ev98 (N : Nat) : (R : Type) → Env R := Env.addLp (Ev97 N) [36] 0 5 (fun R => lpK Go.Proofs.Tryd.prog utf16_Units_L5_I (fun X c => utf16_Units_L5 N X c.2.1 c.2.2.1 c.2.2.2.1) N)
theorem Ev98_ok (N : Nat) (R : Type) : EnvOK Go.Proofs.Tryd.prog (Ev98 N R) := EnvOK.addLp (Ev97_ok N R) (by kernel_rfl) (lpK_ok (li := utf16_Units_L5_I) (G := fun X c => utf16_Units_L5 N X c.2.1 c.2.2.1 c.2.2.2.1) hmx (Ev97_ok N _) (by kernel_rfl) loopAt_sub (fun (X : CT utf16_Units_L5_I.sh → Option (OT utf16_Units_L5_I.outs)) (c : CT utf16_Units_L5_I.sh) => utf16_Units_L5_S N X c.2.1 c.2.2.1 c.2.2.2.1) N)
noncomputable def utf16_Units (N : Nat) (s0 : List UInt8) : Option (List (Int)) :=
 Option.bind (@utf16_May N s0) fun (v2 : Int) =>
 bif (!(decide (v2 = (0 : Int)))) then
  some (([] : List (Int)))
 else
  Option.bind (utf16_Units_L5_R N (@Unit.unit, (([] : List (Int)), (s0, ((0 : Int), @Unit.unit))))) fun (v3 : (Unit × ((List Int) × Unit))) =>
  some (v3.2.1)
theorem utf16_Units_S (N : Nat) (s0 : List UInt8) : (runK Go.Proofs.Tryd.prog (Ev98 N) 400 36 [.str] [(.sl (.int .u16))] (s0, ())).run = utf16_Units N s0 := by kernel_rfl
theorem utf16_Units_C (N : Nat) (s0 : List UInt8) (y : List (Int)) (h : utf16_Units N s0 = some y) : CallsK Go.Proofs.Tryd.prog 36 (valA [.str] (s0, ())) (tupV (valR [(.sl (.int .u16))] y)) := runK_ok hmx (Ev98_ok N _) (okFn_ok (by kernel_rfl)) (by rw [utf16_Units_S]; exact h)
noncomputable def Ev99 (N : Nat) : (R : Type) → Env R := Env.addFn (Ev98 N) 36 (fun R => fnK [.str] [(.sl (.int .u16))] (fun c => utf16_Units N c.1))
theorem Ev99_ok (N : Nat) (R : Type) : EnvOK Go.Proofs.Tryd.prog (Ev99 N R) := EnvOK.addFn hmx (Ev98_ok N R) (Ev98_ok N _) (by kernel_rfl) (fun c => utf16_Units_S N c.1)
noncomputable def utf16_Lay_L6_I : LI := ⟨33, 0, [(5, 5)], ⟨[(5, .lit (.own 0)), (16, .ty (.sl (.int .u16))), (17, .ty (.int .i64)), (18, .ty (.int .i64))], [.own (.int .u8) 5]⟩, [(.exit 0, ⟨[(5, .lit (.own 0))], [.own (.int .u8) 5]⟩)]⟩
noncomputable def utf16_Lay_L6 (N : Nat) (X : (((List (Int)) × ((Int) × ((Int) × Unit))) × ((List (Int)) × Unit)) → Option ((Unit × ((List (Int)) × Unit)))) (x16 : List (Int)) (x17 : Int) (x18 : Int) (h0 : List (Int)) : Option ((Unit × ((List (Int)) × Unit))) :=
 bif (decide (x18 < x17)) then
  Option.bind (getI x16 x18) fun (v6 : Int) =>
  Option.bind (@octs_Put N (Go.IntKind.wrap .u64 v6) (2 : Int) @Bool.true) fun (v7 : ((List Int) × Int)) =>
  bif (roomB ((List.length h0) + (List.length v7.1)) 1) then
   (X ((x16, (x17, ((Go.IntKind.wrap .i64 (x18 + (1 : Int))), @Unit.unit))), ((h0 ++ v7.1), @Unit.unit)))
  else
   none
 else
  some ((@Unit.unit, (h0, @Unit.unit)))
noncomputable def utf16_Lay_L6_R (N : Nat) (c : (((List (Int)) × ((Int) × ((Int) × Unit))) × ((List (Int)) × Unit))) : Option ((Unit × ((List (Int)) × Unit))) := gl (fun X c => utf16_Lay_L6 N X c.1.1 c.1.2.1 c.1.2.2.1 c.2.1) N c
theorem utf16_Lay_L6_S (N : Nat) (X : (((List (Int)) × ((Int) × ((Int) × Unit))) × ((List (Int)) × Unit)) → Option ((Unit × ((List (Int)) × Unit)))) (x16 : List (Int)) (x17 : Int) (x18 : Int) (h0 : List (Int)) : (roundK Go.Proofs.Tryd.prog (Ev99 N) 400 [27] utf16_Lay_L6_I (loopAt Go.Proofs.Tryd.prog [27] 6) X ((x16, x17, x18, ()), (h0, ()))).run = utf16_Lay_L6 N X x16 x17 x18 h0 := by kernel_rfl
noncomputable def Ev100 (N : Nat) : (R : Type) → Env R := Env.addLp (Ev99 N) [27] 0 6 (fun R => lpK Go.Proofs.Tryd.prog utf16_Lay_L6_I (fun X c => utf16_Lay_L6 N X c.1.1 c.1.2.1 c.1.2.2.1 c.2.1) N)
theorem Ev100_ok (N : Nat) (R : Type) : EnvOK Go.Proofs.Tryd.prog (Ev100 N R) := EnvOK.addLp (Ev99_ok N R) (by kernel_rfl) (lpK_ok (li := utf16_Lay_L6_I) (G := fun X c => utf16_Lay_L6 N X c.1.1 c.1.2.1 c.1.2.2.1 c.2.1) hmx (Ev99_ok N _) (by kernel_rfl) loopAt_sub (fun (X : CT utf16_Lay_L6_I.sh → Option (OT utf16_Lay_L6_I.outs)) (c : CT utf16_Lay_L6_I.sh) => utf16_Lay_L6_S N X c.1.1 c.1.2.1 c.1.2.2.1 c.2.1) N)
noncomputable def utf16_Lay (N : Nat) (s0 : List UInt8) : Option ((List (Int)) × Int) :=
 Option.bind (@utf16_May N s0) fun (v2 : Int) =>
 bif (!(decide (v2 = (0 : Int)))) then
  some ((([] : List (Int)), v2))
 else
  Option.bind (@utf16_Units N s0) fun (v3 : (List Int)) =>
  Option.bind (utf16_Lay_L6_R N ((v3, ((((List.length v3) : Nat) : Int), ((0 : Int), @Unit.unit))), (([] : List (Int)), @Unit.unit))) fun (v4 : (Unit × ((List Int) × Unit))) =>
  some ((v4.2.1, (0 : Int)))
theorem utf16_Lay_S (N : Nat) (s0 : List UInt8) : (runK Go.Proofs.Tryd.prog (Ev100 N) 400 27 [.str] [(.sl (.int .u8)), (.int .i64)] (s0, ())).run = utf16_Lay N s0 := by kernel_rfl
theorem utf16_Lay_C (N : Nat) (s0 : List UInt8) (y : (List (Int)) × Int) (h : utf16_Lay N s0 = some y) : CallsK Go.Proofs.Tryd.prog 27 (valA [.str] (s0, ())) (tupV (valR [(.sl (.int .u8)), (.int .i64)] y)) := runK_ok hmx (Ev100_ok N _) (okFn_ok (by kernel_rfl)) (by rw [utf16_Lay_S]; exact h)
noncomputable def Ev101 (N : Nat) : (R : Type) → Env R := Env.addFn (Ev100 N) 27 (fun R => fnK [.str] [(.sl (.int .u8)), (.int .i64)] (fun c => utf16_Lay N c.1))
theorem Ev101_ok (N : Nat) (R : Type) : EnvOK Go.Proofs.Tryd.prog (Ev101 N R) := EnvOK.addFn hmx (Ev100_ok N R) (Ev100_ok N _) (by kernel_rfl) (fun c => utf16_Lay_S N c.1)
noncomputable def nthash_Of (N : Nat) (password0 : List UInt8) : Option ((Arr (Int) 16) × Int) :=
 Option.bind (@utf16_Lay N password0) fun (v2 : ((List Int) × Int)) =>
 bif (!(decide (v2.2 = (0 : Int)))) then
  some (((@Arr.cons Int (15 : Nat) (0 : Int) (@Arr.cons Int (14 : Nat) (0 : Int) (@Arr.cons Int (13 : Nat) (0 : Int) (@Arr.cons Int (12 : Nat) (0 : Int) (@Arr.cons Int (11 : Nat) (0 : Int) (@Arr.cons Int (10 : Nat) (0 : Int) (@Arr.cons Int (9 : Nat) (0 : Int) (@Arr.cons Int (8 : Nat) (0 : Int) (@Arr.cons Int (7 : Nat) (0 : Int) (@Arr.cons Int (6 : Nat) (0 : Int) (@Arr.cons Int (5 : Nat) (0 : Int) (@Arr.cons Int (4 : Nat) (0 : Int) (@Arr.cons Int (3 : Nat) (0 : Int) (@Arr.cons Int (2 : Nat) (0 : Int) (@Arr.cons Int (1 : Nat) (0 : Int) (@Arr.cons Int (0 : Nat) (0 : Int) (@Arr.nil Int))))))))))))))))), v2.2))
 else
  Option.bind (@md4_Of N ([v2.1] : List ((List Int)))) fun (v3 : (Arr Int 16)) =>
  some ((v3, (0 : Int)))
theorem nthash_Of_S (N : Nat) (password0 : List UInt8) : (runK Go.Proofs.Tryd.prog (Ev101 N) 400 9 [.str] [(.arr 16 (.int .u8)), (.int .i64)] (password0, ())).run = nthash_Of N password0 := by kernel_rfl
theorem nthash_Of_C (N : Nat) (password0 : List UInt8) (y : (Arr (Int) 16) × Int) (h : nthash_Of N password0 = some y) : CallsK Go.Proofs.Tryd.prog 9 (valA [.str] (password0, ())) (tupV (valR [(.arr 16 (.int .u8)), (.int .i64)] y)) := runK_ok hmx (Ev101_ok N _) (okFn_ok (by kernel_rfl)) (by rw [nthash_Of_S]; exact h)
noncomputable def Ev102 (N : Nat) : (R : Type) → Env R := Env.addFn (Ev101 N) 9 (fun R => fnK [.str] [(.arr 16 (.int .u8)), (.int .i64)] (fun c => nthash_Of N c.1))
theorem Ev102_ok (N : Nat) (R : Type) : EnvOK Go.Proofs.Tryd.prog (Ev102 N R) := EnvOK.addFn hmx (Ev101_ok N R) (Ev101_ok N _) (by kernel_rfl) (fun c => nthash_Of_S N c.1)
noncomputable def Ev103 (N : Nat) : (R : Type) → Env R := Env.addBx (Ev102 N) [(11, 0)]
theorem Ev103_ok (N : Nat) (R : Type) : EnvOK Go.Proofs.Tryd.prog (Ev103 N R) := EnvOK.addBx (Ev102_ok N R) [(11, 0)]
noncomputable def nthash_Twice (N : Nat) (h0 : Arr (Int) 16) : Option (Arr (Int) 16) :=
 Option.bind (@md4_Of N ([h0.l] : List ((List Int)))) fun (v2 : (Arr Int 16)) =>
 some (v2)
theorem nthash_Twice_S (N : Nat) (h0 : Arr (Int) 16) : (runK Go.Proofs.Tryd.prog (Ev103 N) 400 11 [(.arr 16 (.int .u8))] [(.arr 16 (.int .u8))] (h0, ())).run = nthash_Twice N h0 := by kernel_rfl
theorem nthash_Twice_C (N : Nat) (h0 : Arr (Int) 16) (y : Arr (Int) 16) (h : nthash_Twice N h0 = some y) : CallsK Go.Proofs.Tryd.prog 11 (valA [(.arr 16 (.int .u8))] (h0, ())) (tupV (valR [(.arr 16 (.int .u8))] y)) := runK_ok hmx (Ev103_ok N _) (okFn_ok (by kernel_rfl)) (by rw [nthash_Twice_S]; exact h)
noncomputable def Ev104 (N : Nat) : (R : Type) → Env R := Env.addFn (Ev103 N) 11 (fun R => fnK [(.arr 16 (.int .u8))] [(.arr 16 (.int .u8))] (fun c => nthash_Twice N c.1))
theorem Ev104_ok (N : Nat) (R : Type) : EnvOK Go.Proofs.Tryd.prog (Ev104 N R) := EnvOK.addFn hmx (Ev103_ok N R) (Ev103_ok N _) (by kernel_rfl) (fun c => nthash_Twice_S N c.1)
noncomputable def Ev105 (N : Nat) : (R : Type) → Env R := Env.addBx (Ev104 N) [(12, 0)]
theorem Ev105_ok (N : Nat) (R : Type) : EnvOK Go.Proofs.Tryd.prog (Ev105 N R) := EnvOK.addBx (Ev104_ok N R) [(12, 0)]
noncomputable def ref10_Twice (N : Nat) (h0 : Arr (Int) 16) : Option (Arr (Int) 16) :=
 Option.bind (@ref04_Of N h0.l) fun (v2 : (Arr Int 16)) =>
 some (v2)
theorem ref10_Twice_S (N : Nat) (h0 : Arr (Int) 16) : (runK Go.Proofs.Tryd.prog (Ev105 N) 400 12 [(.arr 16 (.int .u8))] [(.arr 16 (.int .u8))] (h0, ())).run = ref10_Twice N h0 := by kernel_rfl
theorem ref10_Twice_C (N : Nat) (h0 : Arr (Int) 16) (y : Arr (Int) 16) (h : ref10_Twice N h0 = some y) : CallsK Go.Proofs.Tryd.prog 12 (valA [(.arr 16 (.int .u8))] (h0, ())) (tupV (valR [(.arr 16 (.int .u8))] y)) := runK_ok hmx (Ev105_ok N _) (okFn_ok (by kernel_rfl)) (by rw [ref10_Twice_S]; exact h)
noncomputable def Ev106 (N : Nat) : (R : Type) → Env R := Env.addFn (Ev105 N) 12 (fun R => fnK [(.arr 16 (.int .u8))] [(.arr 16 (.int .u8))] (fun c => ref10_Twice N c.1))
theorem Ev106_ok (N : Nat) (R : Type) : EnvOK Go.Proofs.Tryd.prog (Ev106 N R) := EnvOK.addFn hmx (Ev105_ok N R) (Ev105_ok N _) (by kernel_rfl) (fun c => ref10_Twice_S N c.1)
noncomputable def Ev107 (N : Nat) : (R : Type) → Env R := Env.addBx (Ev106 N) [(18, 0)]
theorem Ev107_ok (N : Nat) (R : Type) : EnvOK Go.Proofs.Tryd.prog (Ev107 N R) := EnvOK.addBx (Ev106_ok N R) [(18, 0)]
noncomputable def mppe_Master (N : Nat) (h0 : Arr (Int) 16) (response1 : Arr (Int) 24) : Option (Arr (Int) 16) :=
 Option.bind (@nthash_Twice N h0) fun (v3 : (Arr Int 16)) =>
 Option.bind (@sha1_Of N ([v3.l, response1.l, ([(84 : Int), (104 : Int), (105 : Int), (115 : Int), (32 : Int), (105 : Int), (115 : Int), (32 : Int), (116 : Int), (104 : Int), (101 : Int), (32 : Int), (77 : Int), (80 : Int), (80 : Int), (69 : Int), (32 : Int), (77 : Int), (97 : Int), (115 : Int), (116 : Int), (101 : Int), (114 : Int), (32 : Int), (75 : Int), (101 : Int), (121 : Int)] : List (Int))] : List ((List Int)))) fun (v4 : (Arr Int 20)) =>
 Option.bind (takeI v4.l (16 : Int)) fun (v5 : (List Int)) =>
 Option.bind (@toArr Int (16 : Nat) v5) fun (v6 : (Arr Int 16)) =>
 some (v6)
theorem mppe_Master_S (N : Nat) (h0 : Arr (Int) 16) (response1 : Arr (Int) 24) : (runK Go.Proofs.Tryd.prog (Ev107 N) 400 18 [(.arr 16 (.int .u8)), (.arr 24 (.int .u8))] [(.arr 16 (.int .u8))] (h0, response1, ())).run = mppe_Master N h0 response1 := by kernel_rfl
theorem mppe_Master_C (N : Nat) (h0 : Arr (Int) 16) (response1 : Arr (Int) 24) (y : Arr (Int) 16) (h : mppe_Master N h0 response1 = some y) : CallsK Go.Proofs.Tryd.prog 18 (valA [(.arr 16 (.int .u8)), (.arr 24 (.int .u8))] (h0, response1, ())) (tupV (valR [(.arr 16 (.int .u8))] y)) := runK_ok hmx (Ev107_ok N _) (okFn_ok (by kernel_rfl)) (by rw [mppe_Master_S]; exact h)
noncomputable def Ev108 (N : Nat) : (R : Type) → Env R := Env.addFn (Ev107 N) 18 (fun R => fnK [(.arr 16 (.int .u8)), (.arr 24 (.int .u8))] [(.arr 16 (.int .u8))] (fun c => mppe_Master N c.1 c.2.1))
theorem Ev108_ok (N : Nat) (R : Type) : EnvOK Go.Proofs.Tryd.prog (Ev108 N R) := EnvOK.addFn hmx (Ev107_ok N R) (Ev107_ok N _) (by kernel_rfl) (fun c => mppe_Master_S N c.1 c.2.1)
noncomputable def ref12_first_L4_I : LI := ⟨18, 0, [], ⟨[(2, .lit (.box 0 0)), (3, .lit (.box 1 0)), (4, .lit (.box 2 0)), (5, .ty (.int .i64))], [.box 22 (.arr 16 (.int .u8)), .box 66 (.arr 20 (.int .u8)), .box 22 (.arr 16 (.int .u8))]⟩, [(.exit 0, ⟨[(2, .lit (.box 0 0)), (4, .lit (.box 1 0))], [.box 22 (.arr 16 (.int .u8)), .box 22 (.arr 16 (.int .u8))]⟩)]⟩
noncomputable def ref12_first_L4 (N : Nat) (X : (((Int) × Unit) × ((Arr (Int) 16) × ((Arr (Int) 20) × ((Arr (Int) 16) × Unit)))) → Option ((Unit × ((Arr (Int) 16) × ((Arr (Int) 16) × Unit))))) (i5 : Int) (h0 : Arr (Int) 16) (h1 : Arr (Int) 20) (h2 : Arr (Int) 16) : Option ((Unit × ((Arr (Int) 16) × ((Arr (Int) 16) × Unit)))) :=
 bif (decide (i5 < (16 : Int))) then
  bif (decide ((0 : Int) ≤ i5 ∧ i5 < (((20 : Nat) : Nat) : Int))) then
   Option.bind (@GetElem?.getElem? (List Int) Nat Int (fun (as6 : (List Int)) => (fun (i7 : Nat) => (@LT.lt Nat @instLTNat i7 (List.length as6)))) (@List.instGetElem?NatLtLength Int) h1.l (Int.toNat i5)) fun (v6 : Int) =>
   bif (decide ((0 : Int) ≤ i5 ∧ i5 < (((16 : Nat) : Nat) : Int))) then
    Option.bind (@GetElem?.getElem? (List Int) Nat Int (fun (as7 : (List Int)) => (fun (i8 : Nat) => (@LT.lt Nat @instLTNat i8 (List.length as7)))) (@List.instGetElem?NatLtLength Int) h2.l (Int.toNat i5)) fun (v7 : Int) =>
    (X (((Go.IntKind.wrap .i64 (i5 + (1 : Int))), @Unit.unit), (h0, (h1, ((h2.set (Int.toNat i5) v6), @Unit.unit)))))
   else
    none
  else
   none
 else
  some ((@Unit.unit, (h0, (h2, @Unit.unit))))
noncomputable def ref12_first_L4_R (N : Nat) (c : (((Int) × Unit) × ((Arr (Int) 16) × ((Arr (Int) 20) × ((Arr (Int) 16) × Unit))))) : Option ((Unit × ((Arr (Int) 16) × ((Arr (Int) 16) × Unit)))) := gl (fun X c => ref12_first_L4 N X c.1.1 c.2.1 c.2.2.1 c.2.2.2.1) N c
theorem ref12_first_L4_S (N : Nat) (X : (((Int) × Unit) × ((Arr (Int) 16) × ((Arr (Int) 20) × ((Arr (Int) 16) × Unit)))) → Option ((Unit × ((Arr (Int) 16) × ((Arr (Int) 16) × Unit))))) (i5 : Int) (h0 : Arr (Int) 16) (h1 : Arr (Int) 20) (h2 : Arr (Int) 16) : (roundK Go.Proofs.Tryd.prog (Ev108 N) 400 [33] ref12_first_L4_I (loopAt Go.Proofs.Tryd.prog [33] 4) X ((i5, ()), (h0, h1, h2, ()))).run = ref12_first_L4 N X i5 h0 h1 h2 := by kernel_rfl
noncomputable def Ev109 (N : Nat) : (R : Type) → Env R := Env.addLp (Ev108 N) [33] 0 4 (fun R => lpK Go.Proofs.Tryd.prog ref12_first_L4_I (fun X c => ref12_first_L4 N X c.1.1 c.2.1 c.2.2.1 c.2.2.2.1) N)
theorem Ev109_ok (N : Nat) (R : Type) : EnvOK Go.Proofs.Tryd.prog (Ev109 N R) := EnvOK.addLp (Ev108_ok N R) (by kernel_rfl) (lpK_ok (li := ref12_first_L4_I) (G := fun X c => ref12_first_L4 N X c.1.1 c.2.1 c.2.2.1 c.2.2.2.1) hmx (Ev108_ok N _) (by kernel_rfl) loopAt_sub (fun (X : CT ref12_first_L4_I.sh → Option (OT ref12_first_L4_I.outs)) (c : CT ref12_first_L4_I.sh) => ref12_first_L4_S N X c.1.1 c.2.1 c.2.2.1 c.2.2.2.1) N)
noncomputable def ref12_first (N : Nat) (b0 : List (Int)) : Option (Arr (Int) 16) :=
 Option.bind (@ref05_Of N b0) fun (v2 : (Arr Int 20)) =>
 Option.bind (ref12_first_L4_R N (((0 : Int), @Unit.unit), ((@Arr.cons Int (15 : Nat) (0 : Int) (@Arr.cons Int (14 : Nat) (0 : Int) (@Arr.cons Int (13 : Nat) (0 : Int) (@Arr.cons Int (12 : Nat) (0 : Int) (@Arr.cons Int (11 : Nat) (0 : Int) (@Arr.cons Int (10 : Nat) (0 : Int) (@Arr.cons Int (9 : Nat) (0 : Int) (@Arr.cons Int (8 : Nat) (0 : Int) (@Arr.cons Int (7 : Nat) (0 : Int) (@Arr.cons Int (6 : Nat) (0 : Int) (@Arr.cons Int (5 : Nat) (0 : Int) (@Arr.cons Int (4 : Nat) (0 : Int) (@Arr.cons Int (3 : Nat) (0 : Int) (@Arr.cons Int (2 : Nat) (0 : Int) (@Arr.cons Int (1 : Nat) (0 : Int) (@Arr.cons Int (0 : Nat) (0 : Int) (@Arr.nil Int))))))))))))))))), (v2, ((@Arr.cons Int (15 : Nat) (0 : Int) (@Arr.cons Int (14 : Nat) (0 : Int) (@Arr.cons Int (13 : Nat) (0 : Int) (@Arr.cons Int (12 : Nat) (0 : Int) (@Arr.cons Int (11 : Nat) (0 : Int) (@Arr.cons Int (10 : Nat) (0 : Int) (@Arr.cons Int (9 : Nat) (0 : Int) (@Arr.cons Int (8 : Nat) (0 : Int) (@Arr.cons Int (7 : Nat) (0 : Int) (@Arr.cons Int (6 : Nat) (0 : Int) (@Arr.cons Int (5 : Nat) (0 : Int) (@Arr.cons Int (4 : Nat) (0 : Int) (@Arr.cons Int (3 : Nat) (0 : Int) (@Arr.cons Int (2 : Nat) (0 : Int) (@Arr.cons Int (1 : Nat) (0 : Int) (@Arr.cons Int (0 : Nat) (0 : Int) (@Arr.nil Int))))))))))))))))), @Unit.unit))))) fun (v3 : (Unit × ((Arr Int 16) × ((Arr Int 16) × Unit)))) =>
 some (v3.2.2.1)
theorem ref12_first_S (N : Nat) (b0 : List (Int)) : (runK Go.Proofs.Tryd.prog (Ev109 N) 400 33 [(.sl (.int .u8))] [(.arr 16 (.int .u8))] (b0, ())).run = ref12_first N b0 := by kernel_rfl
theorem ref12_first_C (N : Nat) (b0 : List (Int)) (y : Arr (Int) 16) (h : ref12_first N b0 = some y) : CallsK Go.Proofs.Tryd.prog 33 (valA [(.sl (.int .u8))] (b0, ())) (tupV (valR [(.arr 16 (.int .u8))] y)) := runK_ok hmx (Ev109_ok N _) (okFn_ok (by kernel_rfl)) (by rw [ref12_first_S]; exact h)
noncomputable def Ev110 (N : Nat) : (R : Type) → Env R := Env.addFn (Ev109 N) 33 (fun R => fnK [(.sl (.int .u8))] [(.arr 16 (.int .u8))] (fun c => ref12_first N c.1))
theorem Ev110_ok (N : Nat) (R : Type) : EnvOK Go.Proofs.Tryd.prog (Ev110 N R) := EnvOK.addFn hmx (Ev109_ok N R) (Ev109_ok N _) (by kernel_rfl) (fun c => ref12_first_S N c.1)
noncomputable def Ev111 (N : Nat) : (R : Type) → Env R := Env.addBx (Ev110 N) [(20, 0)]
theorem Ev111_ok (N : Nat) (R : Type) : EnvOK Go.Proofs.Tryd.prog (Ev111 N R) := EnvOK.addBx (Ev110_ok N R) [(20, 0)]
noncomputable def ref12_Master (N : Nat) (h0 : Arr (Int) 16) (response1 : Arr (Int) 24) : Option (Arr (Int) 16) :=
 Option.bind (@ref10_Twice N h0) fun (v3 : (Arr Int 16)) =>
 bif (roomB (List.length v3.l) 1) then
  bif (roomB ((List.length v3.l) + (List.length response1.l)) 1) then
   bif (roomB ((List.length (v3.l ++ response1.l)) + (List.length (@Array.toList UInt8 (@List.toArray UInt8 ([(@OfNat.ofNat UInt8 (84 : Nat) (@UInt8.instOfNat (84 : Nat))), (@OfNat.ofNat UInt8 (104 : Nat) (@UInt8.instOfNat (104 : Nat))), (@OfNat.ofNat UInt8 (105 : Nat) (@UInt8.instOfNat (105 : Nat))), (@OfNat.ofNat UInt8 (115 : Nat) (@UInt8.instOfNat (115 : Nat))), (@OfNat.ofNat UInt8 (32 : Nat) (@UInt8.instOfNat (32 : Nat))), (@OfNat.ofNat UInt8 (105 : Nat) (@UInt8.instOfNat (105 : Nat))), (@OfNat.ofNat UInt8 (115 : Nat) (@UInt8.instOfNat (115 : Nat))), (@OfNat.ofNat UInt8 (32 : Nat) (@UInt8.instOfNat (32 : Nat))), (@OfNat.ofNat UInt8 (116 : Nat) (@UInt8.instOfNat (116 : Nat))), (@OfNat.ofNat UInt8 (104 : Nat) (@UInt8.instOfNat (104 : Nat))), (@OfNat.ofNat UInt8 (101 : Nat) (@UInt8.instOfNat (101 : Nat))), (@OfNat.ofNat UInt8 (32 : Nat) (@UInt8.instOfNat (32 : Nat))), (@OfNat.ofNat UInt8 (77 : Nat) (@UInt8.instOfNat (77 : Nat))), (@OfNat.ofNat UInt8 (80 : Nat) (@UInt8.instOfNat (80 : Nat))), (@OfNat.ofNat UInt8 (80 : Nat) (@UInt8.instOfNat (80 : Nat))), (@OfNat.ofNat UInt8 (69 : Nat) (@UInt8.instOfNat (69 : Nat))), (@OfNat.ofNat UInt8 (32 : Nat) (@UInt8.instOfNat (32 : Nat))), (@OfNat.ofNat UInt8 (77 : Nat) (@UInt8.instOfNat (77 : Nat))), (@OfNat.ofNat UInt8 (97 : Nat) (@UInt8.instOfNat (97 : Nat))), (@OfNat.ofNat UInt8 (115 : Nat) (@UInt8.instOfNat (115 : Nat))), (@OfNat.ofNat UInt8 (116 : Nat) (@UInt8.instOfNat (116 : Nat))), (@OfNat.ofNat UInt8 (101 : Nat) (@UInt8.instOfNat (101 : Nat))), (@OfNat.ofNat UInt8 (114 : Nat) (@UInt8.instOfNat (114 : Nat))), (@OfNat.ofNat UInt8 (32 : Nat) (@UInt8.instOfNat (32 : Nat))), (@OfNat.ofNat UInt8 (75 : Nat) (@UInt8.instOfNat (75 : Nat))), (@OfNat.ofNat UInt8 (101 : Nat) (@UInt8.instOfNat (101 : Nat))), (@OfNat.ofNat UInt8 (121 : Nat) (@UInt8.instOfNat (121 : Nat)))] : List (UInt8)))))) 1) then
    Option.bind (@ref12_first N ((v3.l ++ response1.l) ++ (@ofB (@Array.toList UInt8 (@List.toArray UInt8 ([(@OfNat.ofNat UInt8 (84 : Nat) (@UInt8.instOfNat (84 : Nat))), (@OfNat.ofNat UInt8 (104 : Nat) (@UInt8.instOfNat (104 : Nat))), (@OfNat.ofNat UInt8 (105 : Nat) (@UInt8.instOfNat (105 : Nat))), (@OfNat.ofNat UInt8 (115 : Nat) (@UInt8.instOfNat (115 : Nat))), (@OfNat.ofNat UInt8 (32 : Nat) (@UInt8.instOfNat (32 : Nat))), (@OfNat.ofNat UInt8 (105 : Nat) (@UInt8.instOfNat (105 : Nat))), (@OfNat.ofNat UInt8 (115 : Nat) (@UInt8.instOfNat (115 : Nat))), (@OfNat.ofNat UInt8 (32 : Nat) (@UInt8.instOfNat (32 : Nat))), (@OfNat.ofNat UInt8 (116 : Nat) (@UInt8.instOfNat (116 : Nat))), (@OfNat.ofNat UInt8 (104 : Nat) (@UInt8.instOfNat (104 : Nat))), (@OfNat.ofNat UInt8 (101 : Nat) (@UInt8.instOfNat (101 : Nat))), (@OfNat.ofNat UInt8 (32 : Nat) (@UInt8.instOfNat (32 : Nat))), (@OfNat.ofNat UInt8 (77 : Nat) (@UInt8.instOfNat (77 : Nat))), (@OfNat.ofNat UInt8 (80 : Nat) (@UInt8.instOfNat (80 : Nat))), (@OfNat.ofNat UInt8 (80 : Nat) (@UInt8.instOfNat (80 : Nat))), (@OfNat.ofNat UInt8 (69 : Nat) (@UInt8.instOfNat (69 : Nat))), (@OfNat.ofNat UInt8 (32 : Nat) (@UInt8.instOfNat (32 : Nat))), (@OfNat.ofNat UInt8 (77 : Nat) (@UInt8.instOfNat (77 : Nat))), (@OfNat.ofNat UInt8 (97 : Nat) (@UInt8.instOfNat (97 : Nat))), (@OfNat.ofNat UInt8 (115 : Nat) (@UInt8.instOfNat (115 : Nat))), (@OfNat.ofNat UInt8 (116 : Nat) (@UInt8.instOfNat (116 : Nat))), (@OfNat.ofNat UInt8 (101 : Nat) (@UInt8.instOfNat (101 : Nat))), (@OfNat.ofNat UInt8 (114 : Nat) (@UInt8.instOfNat (114 : Nat))), (@OfNat.ofNat UInt8 (32 : Nat) (@UInt8.instOfNat (32 : Nat))), (@OfNat.ofNat UInt8 (75 : Nat) (@UInt8.instOfNat (75 : Nat))), (@OfNat.ofNat UInt8 (101 : Nat) (@UInt8.instOfNat (101 : Nat))), (@OfNat.ofNat UInt8 (121 : Nat) (@UInt8.instOfNat (121 : Nat)))] : List (UInt8))))))) fun (v4 : (Arr Int 16)) =>
    some (v4)
   else
    none
  else
   none
 else
  none
theorem ref12_Master_S (N : Nat) (h0 : Arr (Int) 16) (response1 : Arr (Int) 24) : (runK Go.Proofs.Tryd.prog (Ev111 N) 400 20 [(.arr 16 (.int .u8)), (.arr 24 (.int .u8))] [(.arr 16 (.int .u8))] (h0, response1, ())).run = ref12_Master N h0 response1 := by kernel_rfl
theorem ref12_Master_C (N : Nat) (h0 : Arr (Int) 16) (response1 : Arr (Int) 24) (y : Arr (Int) 16) (h : ref12_Master N h0 response1 = some y) : CallsK Go.Proofs.Tryd.prog 20 (valA [(.arr 16 (.int .u8)), (.arr 24 (.int .u8))] (h0, response1, ())) (tupV (valR [(.arr 16 (.int .u8))] y)) := runK_ok hmx (Ev111_ok N _) (okFn_ok (by kernel_rfl)) (by rw [ref12_Master_S]; exact h)
noncomputable def Ev112 (N : Nat) : (R : Type) → Env R := Env.addFn (Ev111 N) 20 (fun R => fnK [(.arr 16 (.int .u8)), (.arr 24 (.int .u8))] [(.arr 16 (.int .u8))] (fun c => ref12_Master N c.1 c.2.1))
theorem Ev112_ok (N : Nat) (R : Type) : EnvOK Go.Proofs.Tryd.prog (Ev112 N R) := EnvOK.addFn hmx (Ev111_ok N R) (Ev111_ok N _) (by kernel_rfl) (fun c => ref12_Master_S N c.1 c.2.1)
noncomputable def Ev113 (N : Nat) : (R : Type) → Env R := Env.addBx (Ev112 N) [(21, 0)]
theorem Ev113_ok (N : Nat) (R : Type) : EnvOK Go.Proofs.Tryd.prog (Ev113 N R) := EnvOK.addBx (Ev112_ok N R) [(21, 0)]
noncomputable def ref12_Key_L7_I : LI := ⟨24, 0, [], ⟨[(4, .lit (.box 0 0)), (6, .lit (.own 1)), (7, .ty (.int .i64))], [.box 22 (.arr 16 (.int .u8)), .own (.int .u8) 5]⟩, [(.exit 0, ⟨[(4, .lit (.box 0 0)), (6, .lit (.own 1))], [.box 22 (.arr 16 (.int .u8)), .own (.int .u8) 5]⟩)]⟩
noncomputable def ref12_Key_L7 (N : Nat) (X : (((Int) × Unit) × ((Arr (Int) 16) × ((List (Int)) × Unit))) → Option ((Unit × ((Arr (Int) 16) × ((List (Int)) × Unit))))) (i7 : Int) (h0 : Arr (Int) 16) (h1 : List (Int)) : Option ((Unit × ((Arr (Int) 16) × ((List (Int)) × Unit)))) :=
 bif (decide (i7 < (40 : Int))) then
  bif (roomB ((List.length h1) + (List.length ([(242 : Int)] : List (Int)))) 1) then
   (X (((Go.IntKind.wrap .i64 (i7 + (1 : Int))), @Unit.unit), (h0, ((h1 ++ ([(242 : Int)] : List (Int))), @Unit.unit))))
  else
   none
 else
  some ((@Unit.unit, (h0, (h1, @Unit.unit))))
noncomputable def ref12_Key_L7_R (N : Nat) (c : (((Int) × Unit) × ((Arr (Int) 16) × ((List (Int)) × Unit)))) : Option ((Unit × ((Arr (Int) 16) × ((List (Int)) × Unit)))) := gl (fun X c => ref12_Key_L7 N X c.1.1 c.2.1 c.2.2.1) N c
theorem ref12_Key_L7_S (N : Nat) (X : (((Int) × Unit) × ((Arr (Int) 16) × ((List (Int)) × Unit))) → Option ((Unit × ((Arr (Int) 16) × ((List (Int)) × Unit))))) (i7 : Int) (h0 : Arr (Int) 16) (h1 : List (Int)) : (roundK Go.Proofs.Tryd.prog (Ev113 N) 400 [21] ref12_Key_L7_I (loopAt Go.Proofs.Tryd.prog [21] 7) X ((i7, ()), (h0, h1, ()))).run = ref12_Key_L7 N X i7 h0 h1 := by kernel_rfl
noncomputable def Ev114 (N : Nat) : (R : Type) → Env R := Env.addLp (Ev113 N) [21] 0 7 (fun R => lpK Go.Proofs.Tryd.prog ref12_Key_L7_I (fun X c => ref12_Key_L7 N X c.1.1 c.2.1 c.2.2.1) N)
theorem Ev114_ok (N : Nat) (R : Type) : EnvOK Go.Proofs.Tryd.prog (Ev114 N R) := EnvOK.addLp (Ev113_ok N R) (by kernel_rfl) (lpK_ok (li := ref12_Key_L7_I) (G := fun X c => ref12_Key_L7 N X c.1.1 c.2.1 c.2.2.1) hmx (Ev113_ok N _) (by kernel_rfl) loopAt_sub (fun (X : CT ref12_Key_L7_I.sh → Option (OT ref12_Key_L7_I.outs)) (c : CT ref12_Key_L7_I.sh) => ref12_Key_L7_S N X c.1.1 c.2.1 c.2.2.1) N)
noncomputable def ref12_Key (N : Nat) (master0 : Arr (Int) 16) (a1 : Bool) : Option (Arr (Int) 16) :=
 bif a1 then
  bif (roomB (List.length master0.l) 1) then
   bif (roomB ((List.length master0.l) + (Int.toNat (40 : Int))) 1) then
    bif (roomB ((List.length (master0.l ++ (@List.replicate Int (Int.toNat (40 : Int)) (0 : Int)))) + (List.length (@Array.toList UInt8 (@List.toArray UInt8 (@List.append UInt8 ([(@OfNat.ofNat UInt8 (79 : Nat) (@UInt8.instOfNat (79 : Nat))), (@OfNat.ofNat UInt8 (110 : Nat) (@UInt8.instOfNat (110 : Nat))), (@OfNat.ofNat UInt8 (32 : Nat) (@UInt8.instOfNat (32 : Nat))), (@OfNat.ofNat UInt8 (116 : Nat) (@UInt8.instOfNat (116 : Nat))), (@OfNat.ofNat UInt8 (104 : Nat) (@UInt8.instOfNat (104 : Nat))), (@OfNat.ofNat UInt8 (101 : Nat) (@UInt8.instOfNat (101 : Nat))), (@OfNat.ofNat UInt8 (32 : Nat) (@UInt8.instOfNat (32 : Nat))), (@OfNat.ofNat UInt8 (99 : Nat) (@UInt8.instOfNat (99 : Nat))), (@OfNat.ofNat UInt8 (108 : Nat) (@UInt8.instOfNat (108 : Nat))), (@OfNat.ofNat UInt8 (105 : Nat) (@UInt8.instOfNat (105 : Nat))), (@OfNat.ofNat UInt8 (101 : Nat) (@UInt8.instOfNat (101 : Nat))), (@OfNat.ofNat UInt8 (110 : Nat) (@UInt8.instOfNat (110 : Nat))), (@OfNat.ofNat UInt8 (116 : Nat) (@UInt8.instOfNat (116 : Nat))), (@OfNat.ofNat UInt8 (32 : Nat) (@UInt8.instOfNat (32 : Nat))), (@OfNat.ofNat UInt8 (115 : Nat) (@UInt8.instOfNat (115 : Nat))), (@OfNat.ofNat UInt8 (105 : Nat) (@UInt8.instOfNat (105 : Nat))), (@OfNat.ofNat UInt8 (100 : Nat) (@UInt8.instOfNat (100 : Nat))), (@OfNat.ofNat UInt8 (101 : Nat) (@UInt8.instOfNat (101 : Nat))), (@OfNat.ofNat UInt8 (44 : Nat) (@UInt8.instOfNat (44 : Nat))), (@OfNat.ofNat UInt8 (32 : Nat) (@UInt8.instOfNat (32 : Nat))), (@OfNat.ofNat UInt8 (116 : Nat) (@UInt8.instOfNat (116 : Nat))), (@OfNat.ofNat UInt8 (104 : Nat) (@UInt8.instOfNat (104 : Nat))), (@OfNat.ofNat UInt8 (105 : Nat) (@UInt8.instOfNat (105 : Nat))), (@OfNat.ofNat UInt8 (115 : Nat) (@UInt8.instOfNat (115 : Nat))), (@OfNat.ofNat UInt8 (32 : Nat) (@UInt8.instOfNat (32 : Nat))), (@OfNat.ofNat UInt8 (105 : Nat) (@UInt8.instOfNat (105 : Nat))), (@OfNat.ofNat UInt8 (115 : Nat) (@UInt8.instOfNat (115 : Nat))), (@OfNat.ofNat UInt8 (32 : Nat) (@UInt8.instOfNat (32 : Nat))), (@OfNat.ofNat UInt8 (116 : Nat) (@UInt8.instOfNat (116 : Nat))), (@OfNat.ofNat UInt8 (104 : Nat) (@UInt8.instOfNat (104 : Nat))), (@OfNat.ofNat UInt8 (101 : Nat) (@UInt8.instOfNat (101 : Nat))), (@OfNat.ofNat UInt8 (32 : Nat) (@UInt8.instOfNat (32 : Nat))), (@OfNat.ofNat UInt8 (115 : Nat) (@UInt8.instOfNat (115 : Nat))), (@OfNat.ofNat UInt8 (101 : Nat) (@UInt8.instOfNat (101 : Nat))), (@OfNat.ofNat UInt8 (110 : Nat) (@UInt8.instOfNat (110 : Nat))), (@OfNat.ofNat UInt8 (100 : Nat) (@UInt8.instOfNat (100 : Nat))), (@OfNat.ofNat UInt8 (32 : Nat) (@UInt8.instOfNat (32 : Nat))), (@OfNat.ofNat UInt8 (107 : Nat) (@UInt8.instOfNat (107 : Nat))), (@OfNat.ofNat UInt8 (101 : Nat) (@UInt8.instOfNat (101 : Nat))), (@OfNat.ofNat UInt8 (121 : Nat) (@UInt8.instOfNat (121 : Nat))), (@OfNat.ofNat UInt8 (59 : Nat) (@UInt8.instOfNat (59 : Nat))), (@OfNat.ofNat UInt8 (32 : Nat) (@UInt8.instOfNat (32 : Nat)))] : List (UInt8)) ([(@OfNat.ofNat UInt8 (111 : Nat) (@UInt8.instOfNat (111 : Nat))), (@OfNat.ofNat UInt8 (110 : Nat) (@UInt8.instOfNat (110 : Nat))), (@OfNat.ofNat UInt8 (32 : Nat) (@UInt8.instOfNat (32 : Nat))), (@OfNat.ofNat UInt8 (116 : Nat) (@UInt8.instOfNat (116 : Nat))), (@OfNat.ofNat UInt8 (104 : Nat) (@UInt8.instOfNat (104 : Nat))), (@OfNat.ofNat UInt8 (101 : Nat) (@UInt8.instOfNat (101 : Nat))), (@OfNat.ofNat UInt8 (32 : Nat) (@UInt8.instOfNat (32 : Nat))), (@OfNat.ofNat UInt8 (115 : Nat) (@UInt8.instOfNat (115 : Nat))), (@OfNat.ofNat UInt8 (101 : Nat) (@UInt8.instOfNat (101 : Nat))), (@OfNat.ofNat UInt8 (114 : Nat) (@UInt8.instOfNat (114 : Nat))), (@OfNat.ofNat UInt8 (118 : Nat) (@UInt8.instOfNat (118 : Nat))), (@OfNat.ofNat UInt8 (101 : Nat) (@UInt8.instOfNat (101 : Nat))), (@OfNat.ofNat UInt8 (114 : Nat) (@UInt8.instOfNat (114 : Nat))), (@OfNat.ofNat UInt8 (32 : Nat) (@UInt8.instOfNat (32 : Nat))), (@OfNat.ofNat UInt8 (115 : Nat) (@UInt8.instOfNat (115 : Nat))), (@OfNat.ofNat UInt8 (105 : Nat) (@UInt8.instOfNat (105 : Nat))), (@OfNat.ofNat UInt8 (100 : Nat) (@UInt8.instOfNat (100 : Nat))), (@OfNat.ofNat UInt8 (101 : Nat) (@UInt8.instOfNat (101 : Nat))), (@OfNat.ofNat UInt8 (44 : Nat) (@UInt8.instOfNat (44 : Nat))), (@OfNat.ofNat UInt8 (32 : Nat) (@UInt8.instOfNat (32 : Nat))), (@OfNat.ofNat UInt8 (105 : Nat) (@UInt8.instOfNat (105 : Nat))), (@OfNat.ofNat UInt8 (116 : Nat) (@UInt8.instOfNat (116 : Nat))), (@OfNat.ofNat UInt8 (32 : Nat) (@UInt8.instOfNat (32 : Nat))), (@OfNat.ofNat UInt8 (105 : Nat) (@UInt8.instOfNat (105 : Nat))), (@OfNat.ofNat UInt8 (115 : Nat) (@UInt8.instOfNat (115 : Nat))), (@OfNat.ofNat UInt8 (32 : Nat) (@UInt8.instOfNat (32 : Nat))), (@OfNat.ofNat UInt8 (116 : Nat) (@UInt8.instOfNat (116 : Nat))), (@OfNat.ofNat UInt8 (104 : Nat) (@UInt8.instOfNat (104 : Nat))), (@OfNat.ofNat UInt8 (101 : Nat) (@UInt8.instOfNat (101 : Nat))), (@OfNat.ofNat UInt8 (32 : Nat) (@UInt8.instOfNat (32 : Nat))), (@OfNat.ofNat UInt8 (114 : Nat) (@UInt8.instOfNat (114 : Nat))), (@OfNat.ofNat UInt8 (101 : Nat) (@UInt8.instOfNat (101 : Nat))), (@OfNat.ofNat UInt8 (99 : Nat) (@UInt8.instOfNat (99 : Nat))), (@OfNat.ofNat UInt8 (101 : Nat) (@UInt8.instOfNat (101 : Nat))), (@OfNat.ofNat UInt8 (105 : Nat) (@UInt8.instOfNat (105 : Nat))), (@OfNat.ofNat UInt8 (118 : Nat) (@UInt8.instOfNat (118 : Nat))), (@OfNat.ofNat UInt8 (101 : Nat) (@UInt8.instOfNat (101 : Nat))), (@OfNat.ofNat UInt8 (32 : Nat) (@UInt8.instOfNat (32 : Nat))), (@OfNat.ofNat UInt8 (107 : Nat) (@UInt8.instOfNat (107 : Nat))), (@OfNat.ofNat UInt8 (101 : Nat) (@UInt8.instOfNat (101 : Nat))), (@OfNat.ofNat UInt8 (121 : Nat) (@UInt8.instOfNat (121 : Nat))), (@OfNat.ofNat UInt8 (46 : Nat) (@UInt8.instOfNat (46 : Nat)))] : List (UInt8))))))) 1) then
     Option.bind (ref12_Key_L7_R N (((0 : Int), @Unit.unit), ((@Arr.cons Int (15 : Nat) (0 : Int) (@Arr.cons Int (14 : Nat) (0 : Int) (@Arr.cons Int (13 : Nat) (0 : Int) (@Arr.cons Int (12 : Nat) (0 : Int) (@Arr.cons Int (11 : Nat) (0 : Int) (@Arr.cons Int (10 : Nat) (0 : Int) (@Arr.cons Int (9 : Nat) (0 : Int) (@Arr.cons Int (8 : Nat) (0 : Int) (@Arr.cons Int (7 : Nat) (0 : Int) (@Arr.cons Int (6 : Nat) (0 : Int) (@Arr.cons Int (5 : Nat) (0 : Int) (@Arr.cons Int (4 : Nat) (0 : Int) (@Arr.cons Int (3 : Nat) (0 : Int) (@Arr.cons Int (2 : Nat) (0 : Int) (@Arr.cons Int (1 : Nat) (0 : Int) (@Arr.cons Int (0 : Nat) (0 : Int) (@Arr.nil Int))))))))))))))))), (((master0.l ++ (@List.replicate Int (Int.toNat (40 : Int)) (0 : Int))) ++ (@ofB (@Array.toList UInt8 (@List.toArray UInt8 (@List.append UInt8 ([(@OfNat.ofNat UInt8 (79 : Nat) (@UInt8.instOfNat (79 : Nat))), (@OfNat.ofNat UInt8 (110 : Nat) (@UInt8.instOfNat (110 : Nat))), (@OfNat.ofNat UInt8 (32 : Nat) (@UInt8.instOfNat (32 : Nat))), (@OfNat.ofNat UInt8 (116 : Nat) (@UInt8.instOfNat (116 : Nat))), (@OfNat.ofNat UInt8 (104 : Nat) (@UInt8.instOfNat (104 : Nat))), (@OfNat.ofNat UInt8 (101 : Nat) (@UInt8.instOfNat (101 : Nat))), (@OfNat.ofNat UInt8 (32 : Nat) (@UInt8.instOfNat (32 : Nat))), (@OfNat.ofNat UInt8 (99 : Nat) (@UInt8.instOfNat (99 : Nat))), (@OfNat.ofNat UInt8 (108 : Nat) (@UInt8.instOfNat (108 : Nat))), (@OfNat.ofNat UInt8 (105 : Nat) (@UInt8.instOfNat (105 : Nat))), (@OfNat.ofNat UInt8 (101 : Nat) (@UInt8.instOfNat (101 : Nat))), (@OfNat.ofNat UInt8 (110 : Nat) (@UInt8.instOfNat (110 : Nat))), (@OfNat.ofNat UInt8 (116 : Nat) (@UInt8.instOfNat (116 : Nat))), (@OfNat.ofNat UInt8 (32 : Nat) (@UInt8.instOfNat (32 : Nat))), (@OfNat.ofNat UInt8 (115 : Nat) (@UInt8.instOfNat (115 : Nat))), (@OfNat.ofNat UInt8 (105 : Nat) (@UInt8.instOfNat (105 : Nat))), (@OfNat.ofNat UInt8 (100 : Nat) (@UInt8.instOfNat (100 : Nat))), (@OfNat.ofNat UInt8 (101 : Nat) (@UInt8.instOfNat (101 : Nat))), (@OfNat.ofNat UInt8 (44 : Nat) (@UInt8.instOfNat (44 : Nat))), (@OfNat.ofNat UInt8 (32 : Nat) (@UInt8.instOfNat (32 : Nat))), (@OfNat.ofNat UInt8 (116 : Nat) (@UInt8.instOfNat (116 : Nat))), (@OfNat.ofNat UInt8 (104 : Nat) (@UInt8.instOfNat (104 : Nat))), (@OfNat.ofNat UInt8 (105 : Nat) (@UInt8.instOfNat (105 : Nat))), (@OfNat.ofNat UInt8 (115 : Nat) (@UInt8.instOfNat (115 : Nat))), (@OfNat.ofNat UInt8 (32 : Nat) (@UInt8.instOfNat (32 : Nat))), (@OfNat.ofNat UInt8 (105 : Nat) (@UInt8.instOfNat (105 : Nat))), (@OfNat.ofNat UInt8 (115 : Nat) (@UInt8.instOfNat (115 : Nat))), (@OfNat.ofNat UInt8 (32 : Nat) (@UInt8.instOfNat (32 : Nat))), (@OfNat.ofNat UInt8 (116 : Nat) (@UInt8.instOfNat (116 : Nat))), (@OfNat.ofNat UInt8 (104 : Nat) (@UInt8.instOfNat (104 : Nat))), (@OfNat.ofNat UInt8 (101 : Nat) (@UInt8.instOfNat (101 : Nat))), (@OfNat.ofNat UInt8 (32 : Nat) (@UInt8.instOfNat (32 : Nat))), (@OfNat.ofNat UInt8 (115 : Nat) (@UInt8.instOfNat (115 : Nat))), (@OfNat.ofNat UInt8 (101 : Nat) (@UInt8.instOfNat (101 : Nat))), (@OfNat.ofNat UInt8 (110 : Nat) (@UInt8.instOfNat (110 : Nat))), (@OfNat.ofNat UInt8 (100 : Nat) (@UInt8.instOfNat (100 : Nat))), (@OfNat.ofNat UInt8 (32 : Nat) (@UInt8.instOfNat (32 : Nat))), (@OfNat.ofNat UInt8 (107 : Nat) (@UInt8.instOfNat (107 : Nat))), (@OfNat.ofNat UInt8 (101 : Nat) (@UInt8.instOfNat (101 : Nat))), (@OfNat.ofNat UInt8 (121 : Nat) (@UInt8.instOfNat (121 : Nat))), (@OfNat.ofNat UInt8 (59 : Nat) (@UInt8.instOfNat (59 : Nat))), (@OfNat.ofNat UInt8 (32 : Nat) (@UInt8.instOfNat (32 : Nat)))] : List (UInt8)) ([(@OfNat.ofNat UInt8 (111 : Nat) (@UInt8.instOfNat (111 : Nat))), (@OfNat.ofNat UInt8 (110 : Nat) (@UInt8.instOfNat (110 : Nat))), (@OfNat.ofNat UInt8 (32 : Nat) (@UInt8.instOfNat (32 : Nat))), (@OfNat.ofNat UInt8 (116 : Nat) (@UInt8.instOfNat (116 : Nat))), (@OfNat.ofNat UInt8 (104 : Nat) (@UInt8.instOfNat (104 : Nat))), (@OfNat.ofNat UInt8 (101 : Nat) (@UInt8.instOfNat (101 : Nat))), (@OfNat.ofNat UInt8 (32 : Nat) (@UInt8.instOfNat (32 : Nat))), (@OfNat.ofNat UInt8 (115 : Nat) (@UInt8.instOfNat (115 : Nat))), (@OfNat.ofNat UInt8 (101 : Nat) (@UInt8.instOfNat (101 : Nat))), (@OfNat.ofNat UInt8 (114 : Nat) (@UInt8.instOfNat (114 : Nat))), (@OfNat.ofNat UInt8 (118 : Nat) (@UInt8.instOfNat (118 : Nat))), (@OfNat.ofNat UInt8 (101 : Nat) (@UInt8.instOfNat (101 : Nat))), (@OfNat.ofNat UInt8 (114 : Nat) (@UInt8.instOfNat (114 : Nat))), (@OfNat.ofNat UInt8 (32 : Nat) (@UInt8.instOfNat (32 : Nat))), (@OfNat.ofNat UInt8 (115 : Nat) (@UInt8.instOfNat (115 : Nat))), (@OfNat.ofNat UInt8 (105 : Nat) (@UInt8.instOfNat (105 : Nat))), (@OfNat.ofNat UInt8 (100 : Nat) (@UInt8.instOfNat (100 : Nat))), (@OfNat.ofNat UInt8 (101 : Nat) (@UInt8.instOfNat (101 : Nat))), (@OfNat.ofNat UInt8 (44 : Nat) (@UInt8.instOfNat (44 : Nat))), (@OfNat.ofNat UInt8 (32 : Nat) (@UInt8.instOfNat (32 : Nat))), (@OfNat.ofNat UInt8 (105 : Nat) (@UInt8.instOfNat (105 : Nat))), (@OfNat.ofNat UInt8 (116 : Nat) (@UInt8.instOfNat (116 : Nat))), (@OfNat.ofNat UInt8 (32 : Nat) (@UInt8.instOfNat (32 : Nat))), (@OfNat.ofNat UInt8 (105 : Nat) (@UInt8.instOfNat (105 : Nat))), (@OfNat.ofNat UInt8 (115 : Nat) (@UInt8.instOfNat (115 : Nat))), (@OfNat.ofNat UInt8 (32 : Nat) (@UInt8.instOfNat (32 : Nat))), (@OfNat.ofNat UInt8 (116 : Nat) (@UInt8.instOfNat (116 : Nat))), (@OfNat.ofNat UInt8 (104 : Nat) (@UInt8.instOfNat (104 : Nat))), (@OfNat.ofNat UInt8 (101 : Nat) (@UInt8.instOfNat (101 : Nat))), (@OfNat.ofNat UInt8 (32 : Nat) (@UInt8.instOfNat (32 : Nat))), (@OfNat.ofNat UInt8 (114 : Nat) (@UInt8.instOfNat (114 : Nat))), (@OfNat.ofNat UInt8 (101 : Nat) (@UInt8.instOfNat (101 : Nat))), (@OfNat.ofNat UInt8 (99 : Nat) (@UInt8.instOfNat (99 : Nat))), (@OfNat.ofNat UInt8 (101 : Nat) (@UInt8.instOfNat (101 : Nat))), (@OfNat.ofNat UInt8 (105 : Nat) (@UInt8.instOfNat (105 : Nat))), (@OfNat.ofNat UInt8 (118 : Nat) (@UInt8.instOfNat (118 : Nat))), (@OfNat.ofNat UInt8 (101 : Nat) (@UInt8.instOfNat (101 : Nat))), (@OfNat.ofNat UInt8 (32 : Nat) (@UInt8.instOfNat (32 : Nat))), (@OfNat.ofNat UInt8 (107 : Nat) (@UInt8.instOfNat (107 : Nat))), (@OfNat.ofNat UInt8 (101 : Nat) (@UInt8.instOfNat (101 : Nat))), (@OfNat.ofNat UInt8 (121 : Nat) (@UInt8.instOfNat (121 : Nat))), (@OfNat.ofNat UInt8 (46 : Nat) (@UInt8.instOfNat (46 : Nat)))] : List (UInt8))))))), @Unit.unit)))) fun (v3 : (Unit × ((Arr Int 16) × ((List Int) × Unit)))) =>
     Option.bind (@ref12_first N v3.2.2.1) fun (v4 : (Arr Int 16)) =>
     some (v4)
    else
     none
   else
    none
  else
   none
 else
  bif (roomB (List.length master0.l) 1) then
   bif (roomB ((List.length master0.l) + (Int.toNat (40 : Int))) 1) then
    bif (roomB ((List.length (master0.l ++ (@List.replicate Int (Int.toNat (40 : Int)) (0 : Int)))) + (List.length (@Array.toList UInt8 (@List.toArray UInt8 (@List.append UInt8 ([(@OfNat.ofNat UInt8 (79 : Nat) (@UInt8.instOfNat (79 : Nat))), (@OfNat.ofNat UInt8 (110 : Nat) (@UInt8.instOfNat (110 : Nat))), (@OfNat.ofNat UInt8 (32 : Nat) (@UInt8.instOfNat (32 : Nat))), (@OfNat.ofNat UInt8 (116 : Nat) (@UInt8.instOfNat (116 : Nat))), (@OfNat.ofNat UInt8 (104 : Nat) (@UInt8.instOfNat (104 : Nat))), (@OfNat.ofNat UInt8 (101 : Nat) (@UInt8.instOfNat (101 : Nat))), (@OfNat.ofNat UInt8 (32 : Nat) (@UInt8.instOfNat (32 : Nat))), (@OfNat.ofNat UInt8 (99 : Nat) (@UInt8.instOfNat (99 : Nat))), (@OfNat.ofNat UInt8 (108 : Nat) (@UInt8.instOfNat (108 : Nat))), (@OfNat.ofNat UInt8 (105 : Nat) (@UInt8.instOfNat (105 : Nat))), (@OfNat.ofNat UInt8 (101 : Nat) (@UInt8.instOfNat (101 : Nat))), (@OfNat.ofNat UInt8 (110 : Nat) (@UInt8.instOfNat (110 : Nat))), (@OfNat.ofNat UInt8 (116 : Nat) (@UInt8.instOfNat (116 : Nat))), (@OfNat.ofNat UInt8 (32 : Nat) (@UInt8.instOfNat (32 : Nat))), (@OfNat.ofNat UInt8 (115 : Nat) (@UInt8.instOfNat (115 : Nat))), (@OfNat.ofNat UInt8 (105 : Nat) (@UInt8.instOfNat (105 : Nat))), (@OfNat.ofNat UInt8 (100 : Nat) (@UInt8.instOfNat (100 : Nat))), (@OfNat.ofNat UInt8 (101 : Nat) (@UInt8.instOfNat (101 : Nat))), (@OfNat.ofNat UInt8 (44 : Nat) (@UInt8.instOfNat (44 : Nat))), (@OfNat.ofNat UInt8 (32 : Nat) (@UInt8.instOfNat (32 : Nat))), (@OfNat.ofNat UInt8 (116 : Nat) (@UInt8.instOfNat (116 : Nat))), (@OfNat.ofNat UInt8 (104 : Nat) (@UInt8.instOfNat (104 : Nat))), (@OfNat.ofNat UInt8 (105 : Nat) (@UInt8.instOfNat (105 : Nat))), (@OfNat.ofNat UInt8 (115 : Nat) (@UInt8.instOfNat (115 : Nat))), (@OfNat.ofNat UInt8 (32 : Nat) (@UInt8.instOfNat (32 : Nat))), (@OfNat.ofNat UInt8 (105 : Nat) (@UInt8.instOfNat (105 : Nat))), (@OfNat.ofNat UInt8 (115 : Nat) (@UInt8.instOfNat (115 : Nat))), (@OfNat.ofNat UInt8 (32 : Nat) (@UInt8.instOfNat (32 : Nat))), (@OfNat.ofNat UInt8 (116 : Nat) (@UInt8.instOfNat (116 : Nat))), (@OfNat.ofNat UInt8 (104 : Nat) (@UInt8.instOfNat (104 : Nat))), (@OfNat.ofNat UInt8 (101 : Nat) (@UInt8.instOfNat (101 : Nat))), (@OfNat.ofNat UInt8 (32 : Nat) (@UInt8.instOfNat (32 : Nat))), (@OfNat.ofNat UInt8 (114 : Nat) (@UInt8.instOfNat (114 : Nat))), (@OfNat.ofNat UInt8 (101 : Nat) (@UInt8.instOfNat (101 : Nat))), (@OfNat.ofNat UInt8 (99 : Nat) (@UInt8.instOfNat (99 : Nat))), (@OfNat.ofNat UInt8 (101 : Nat) (@UInt8.instOfNat (101 : Nat))), (@OfNat.ofNat UInt8 (105 : Nat) (@UInt8.instOfNat (105 : Nat))), (@OfNat.ofNat UInt8 (118 : Nat) (@UInt8.instOfNat (118 : Nat))), (@OfNat.ofNat UInt8 (101 : Nat) (@UInt8.instOfNat (101 : Nat))), (@OfNat.ofNat UInt8 (32 : Nat) (@UInt8.instOfNat (32 : Nat))), (@OfNat.ofNat UInt8 (107 : Nat) (@UInt8.instOfNat (107 : Nat))), (@OfNat.ofNat UInt8 (101 : Nat) (@UInt8.instOfNat (101 : Nat)))] : List (UInt8)) ([(@OfNat.ofNat UInt8 (121 : Nat) (@UInt8.instOfNat (121 : Nat))), (@OfNat.ofNat UInt8 (59 : Nat) (@UInt8.instOfNat (59 : Nat))), (@OfNat.ofNat UInt8 (32 : Nat) (@UInt8.instOfNat (32 : Nat))), (@OfNat.ofNat UInt8 (111 : Nat) (@UInt8.instOfNat (111 : Nat))), (@OfNat.ofNat UInt8 (110 : Nat) (@UInt8.instOfNat (110 : Nat))), (@OfNat.ofNat UInt8 (32 : Nat) (@UInt8.instOfNat (32 : Nat))), (@OfNat.ofNat UInt8 (116 : Nat) (@UInt8.instOfNat (116 : Nat))), (@OfNat.ofNat UInt8 (104 : Nat) (@UInt8.instOfNat (104 : Nat))), (@OfNat.ofNat UInt8 (101 : Nat) (@UInt8.instOfNat (101 : Nat))), (@OfNat.ofNat UInt8 (32 : Nat) (@UInt8.instOfNat (32 : Nat))), (@OfNat.ofNat UInt8 (115 : Nat) (@UInt8.instOfNat (115 : Nat))), (@OfNat.ofNat UInt8 (101 : Nat) (@UInt8.instOfNat (101 : Nat))), (@OfNat.ofNat UInt8 (114 : Nat) (@UInt8.instOfNat (114 : Nat))), (@OfNat.ofNat UInt8 (118 : Nat) (@UInt8.instOfNat (118 : Nat))), (@OfNat.ofNat UInt8 (101 : Nat) (@UInt8.instOfNat (101 : Nat))), (@OfNat.ofNat UInt8 (114 : Nat) (@UInt8.instOfNat (114 : Nat))), (@OfNat.ofNat UInt8 (32 : Nat) (@UInt8.instOfNat (32 : Nat))), (@OfNat.ofNat UInt8 (115 : Nat) (@UInt8.instOfNat (115 : Nat))), (@OfNat.ofNat UInt8 (105 : Nat) (@UInt8.instOfNat (105 : Nat))), (@OfNat.ofNat UInt8 (100 : Nat) (@UInt8.instOfNat (100 : Nat))), (@OfNat.ofNat UInt8 (101 : Nat) (@UInt8.instOfNat (101 : Nat))), (@OfNat.ofNat UInt8 (44 : Nat) (@UInt8.instOfNat (44 : Nat))), (@OfNat.ofNat UInt8 (32 : Nat) (@UInt8.instOfNat (32 : Nat))), (@OfNat.ofNat UInt8 (105 : Nat) (@UInt8.instOfNat (105 : Nat))), (@OfNat.ofNat UInt8 (116 : Nat) (@UInt8.instOfNat (116 : Nat))), (@OfNat.ofNat UInt8 (32 : Nat) (@UInt8.instOfNat (32 : Nat))), (@OfNat.ofNat UInt8 (105 : Nat) (@UInt8.instOfNat (105 : Nat))), (@OfNat.ofNat UInt8 (115 : Nat) (@UInt8.instOfNat (115 : Nat))), (@OfNat.ofNat UInt8 (32 : Nat) (@UInt8.instOfNat (32 : Nat))), (@OfNat.ofNat UInt8 (116 : Nat) (@UInt8.instOfNat (116 : Nat))), (@OfNat.ofNat UInt8 (104 : Nat) (@UInt8.instOfNat (104 : Nat))), (@OfNat.ofNat UInt8 (101 : Nat) (@UInt8.instOfNat (101 : Nat))), (@OfNat.ofNat UInt8 (32 : Nat) (@UInt8.instOfNat (32 : Nat))), (@OfNat.ofNat UInt8 (115 : Nat) (@UInt8.instOfNat (115 : Nat))), (@OfNat.ofNat UInt8 (101 : Nat) (@UInt8.instOfNat (101 : Nat))), (@OfNat.ofNat UInt8 (110 : Nat) (@UInt8.instOfNat (110 : Nat))), (@OfNat.ofNat UInt8 (100 : Nat) (@UInt8.instOfNat (100 : Nat))), (@OfNat.ofNat UInt8 (32 : Nat) (@UInt8.instOfNat (32 : Nat))), (@OfNat.ofNat UInt8 (107 : Nat) (@UInt8.instOfNat (107 : Nat))), (@OfNat.ofNat UInt8 (101 : Nat) (@UInt8.instOfNat (101 : Nat))), (@OfNat.ofNat UInt8 (121 : Nat) (@UInt8.instOfNat (121 : Nat))), (@OfNat.ofNat UInt8 (46 : Nat) (@UInt8.instOfNat (46 : Nat)))] : List (UInt8))))))) 1) then
     Option.bind (ref12_Key_L7_R N (((0 : Int), @Unit.unit), ((@Arr.cons Int (15 : Nat) (0 : Int) (@Arr.cons Int (14 : Nat) (0 : Int) (@Arr.cons Int (13 : Nat) (0 : Int) (@Arr.cons Int (12 : Nat) (0 : Int) (@Arr.cons Int (11 : Nat) (0 : Int) (@Arr.cons Int (10 : Nat) (0 : Int) (@Arr.cons Int (9 : Nat) (0 : Int) (@Arr.cons Int (8 : Nat) (0 : Int) (@Arr.cons Int (7 : Nat) (0 : Int) (@Arr.cons Int (6 : Nat) (0 : Int) (@Arr.cons Int (5 : Nat) (0 : Int) (@Arr.cons Int (4 : Nat) (0 : Int) (@Arr.cons Int (3 : Nat) (0 : Int) (@Arr.cons Int (2 : Nat) (0 : Int) (@Arr.cons Int (1 : Nat) (0 : Int) (@Arr.cons Int (0 : Nat) (0 : Int) (@Arr.nil Int))))))))))))))))), (((master0.l ++ (@List.replicate Int (Int.toNat (40 : Int)) (0 : Int))) ++ (@ofB (@Array.toList UInt8 (@List.toArray UInt8 (@List.append UInt8 ([(@OfNat.ofNat UInt8 (79 : Nat) (@UInt8.instOfNat (79 : Nat))), (@OfNat.ofNat UInt8 (110 : Nat) (@UInt8.instOfNat (110 : Nat))), (@OfNat.ofNat UInt8 (32 : Nat) (@UInt8.instOfNat (32 : Nat))), (@OfNat.ofNat UInt8 (116 : Nat) (@UInt8.instOfNat (116 : Nat))), (@OfNat.ofNat UInt8 (104 : Nat) (@UInt8.instOfNat (104 : Nat))), (@OfNat.ofNat UInt8 (101 : Nat) (@UInt8.instOfNat (101 : Nat))), (@OfNat.ofNat UInt8 (32 : Nat) (@UInt8.instOfNat (32 : Nat))), (@OfNat.ofNat UInt8 (99 : Nat) (@UInt8.instOfNat (99 : Nat))), (@OfNat.ofNat UInt8 (108 : Nat) (@UInt8.instOfNat (108 : Nat))), (@OfNat.ofNat UInt8 (105 : Nat) (@UInt8.instOfNat (105 : Nat))), (@OfNat.ofNat UInt8 (101 : Nat) (@UInt8.instOfNat (101 : Nat))), (@OfNat.ofNat UInt8 (110 : Nat) (@UInt8.instOfNat (110 : Nat))), (@OfNat.ofNat UInt8 (116 : Nat) (@UInt8.instOfNat (116 : Nat))), (@OfNat.ofNat UInt8 (32 : Nat) (@UInt8.instOfNat (32 : Nat))), (@OfNat.ofNat UInt8 (115 : Nat) (@UInt8.instOfNat (115 : Nat))), (@OfNat.ofNat UInt8 (105 : Nat) (@UInt8.instOfNat (105 : Nat))), (@OfNat.ofNat UInt8 (100 : Nat) (@UInt8.instOfNat (100 : Nat))), (@OfNat.ofNat UInt8 (101 : Nat) (@UInt8.instOfNat (101 : Nat))), (@OfNat.ofNat UInt8 (44 : Nat) (@UInt8.instOfNat (44 : Nat))), (@OfNat.ofNat UInt8 (32 : Nat) (@UInt8.instOfNat (32 : Nat))), (@OfNat.ofNat UInt8 (116 : Nat) (@UInt8.instOfNat (116 : Nat))), (@OfNat.ofNat UInt8 (104 : Nat) (@UInt8.instOfNat (104 : Nat))), (@OfNat.ofNat UInt8 (105 : Nat) (@UInt8.instOfNat (105 : Nat))), (@OfNat.ofNat UInt8 (115 : Nat) (@UInt8.instOfNat (115 : Nat))), (@OfNat.ofNat UInt8 (32 : Nat) (@UInt8.instOfNat (32 : Nat))), (@OfNat.ofNat UInt8 (105 : Nat) (@UInt8.instOfNat (105 : Nat))), (@OfNat.ofNat UInt8 (115 : Nat) (@UInt8.instOfNat (115 : Nat))), (@OfNat.ofNat UInt8 (32 : Nat) (@UInt8.instOfNat (32 : Nat))), (@OfNat.ofNat UInt8 (116 : Nat) (@UInt8.instOfNat (116 : Nat))), (@OfNat.ofNat UInt8 (104 : Nat) (@UInt8.instOfNat (104 : Nat))), (@OfNat.ofNat UInt8 (101 : Nat) (@UInt8.instOfNat (101 : Nat))), (@OfNat.ofNat UInt8 (32 : Nat) (@UInt8.instOfNat (32 : Nat))), (@OfNat.ofNat UInt8 (114 : Nat) (@UInt8.instOfNat (114 : Nat))), (@OfNat.ofNat UInt8 (101 : Nat) (@UInt8.instOfNat (101 : Nat))), (@OfNat.ofNat UInt8 (99 : Nat) (@UInt8.instOfNat (99 : Nat))), (@OfNat.ofNat UInt8 (101 : Nat) (@UInt8.instOfNat (101 : Nat))), (@OfNat.ofNat UInt8 (105 : Nat) (@UInt8.instOfNat (105 : Nat))), (@OfNat.ofNat UInt8 (118 : Nat) (@UInt8.instOfNat (118 : Nat))), (@OfNat.ofNat UInt8 (101 : Nat) (@UInt8.instOfNat (101 : Nat))), (@OfNat.ofNat UInt8 (32 : Nat) (@UInt8.instOfNat (32 : Nat))), (@OfNat.ofNat UInt8 (107 : Nat) (@UInt8.instOfNat (107 : Nat))), (@OfNat.ofNat UInt8 (101 : Nat) (@UInt8.instOfNat (101 : Nat)))] : List (UInt8)) ([(@OfNat.ofNat UInt8 (121 : Nat) (@UInt8.instOfNat (121 : Nat))), (@OfNat.ofNat UInt8 (59 : Nat) (@UInt8.instOfNat (59 : Nat))), (@OfNat.ofNat UInt8 (32 : Nat) (@UInt8.instOfNat (32 : Nat))), (@OfNat.ofNat UInt8 (111 : Nat) (@UInt8.instOfNat (111 : Nat))), (@OfNat.ofNat UInt8 (110 : Nat) (@UInt8.instOfNat (110 : Nat))), (@OfNat.ofNat UInt8 (32 : Nat) (@UInt8.instOfNat (32 : Nat))), (@OfNat.ofNat UInt8 (116 : Nat) (@UInt8.instOfNat (116 : Nat))), (@OfNat.ofNat UInt8 (104 : Nat) (@UInt8.instOfNat (104 : Nat))), (@OfNat.ofNat UInt8 (101 : Nat) (@UInt8.instOfNat (101 : Nat))), (@OfNat.ofNat UInt8 (32 : Nat) (@UInt8.instOfNat (32 : Nat))), (@OfNat.ofNat UInt8 (115 : Nat) (@UInt8.instOfNat (115 : Nat))), (@OfNat.ofNat UInt8 (101 : Nat) (@UInt8.instOfNat (101 : Nat))), (@OfNat.ofNat UInt8 (114 : Nat) (@UInt8.instOfNat (114 : Nat))), (@OfNat.ofNat UInt8 (118 : Nat) (@UInt8.instOfNat (118 : Nat))), (@OfNat.ofNat UInt8 (101 : Nat) (@UInt8.instOfNat (101 : Nat))), (@OfNat.ofNat UInt8 (114 : Nat) (@UInt8.instOfNat (114 : Nat))), (@OfNat.ofNat UInt8 (32 : Nat) (@UInt8.instOfNat (32 : Nat))), (@OfNat.ofNat UInt8 (115 : Nat) (@UInt8.instOfNat (115 : Nat))), (@OfNat.ofNat UInt8 (105 : Nat) (@UInt8.instOfNat (105 : Nat))), (@OfNat.ofNat UInt8 (100 : Nat) (@UInt8.instOfNat (100 : Nat))), (@OfNat.ofNat UInt8 (101 : Nat) (@UInt8.instOfNat (101 : Nat))), (@OfNat.ofNat UInt8 (44 : Nat) (@UInt8.instOfNat (44 : Nat))), (@OfNat.ofNat UInt8 (32 : Nat) (@UInt8.instOfNat (32 : Nat))), (@OfNat.ofNat UInt8 (105 : Nat) (@UInt8.instOfNat (105 : Nat))), (@OfNat.ofNat UInt8 (116 : Nat) (@UInt8.instOfNat (116 : Nat))), (@OfNat.ofNat UInt8 (32 : Nat) (@UInt8.instOfNat (32 : Nat))), (@OfNat.ofNat UInt8 (105 : Nat) (@UInt8.instOfNat (105 : Nat))), (@OfNat.ofNat UInt8 (115 : Nat) (@UInt8.instOfNat (115 : Nat))), (@OfNat.ofNat UInt8 (32 : Nat) (@UInt8.instOfNat (32 : Nat))), (@OfNat.ofNat UInt8 (116 : Nat) (@UInt8.instOfNat (116 : Nat))), (@OfNat.ofNat UInt8 (104 : Nat) (@UInt8.instOfNat (104 : Nat))), (@OfNat.ofNat UInt8 (101 : Nat) (@UInt8.instOfNat (101 : Nat))), (@OfNat.ofNat UInt8 (32 : Nat) (@UInt8.instOfNat (32 : Nat))), (@OfNat.ofNat UInt8 (115 : Nat) (@UInt8.instOfNat (115 : Nat))), (@OfNat.ofNat UInt8 (101 : Nat) (@UInt8.instOfNat (101 : Nat))), (@OfNat.ofNat UInt8 (110 : Nat) (@UInt8.instOfNat (110 : Nat))), (@OfNat.ofNat UInt8 (100 : Nat) (@UInt8.instOfNat (100 : Nat))), (@OfNat.ofNat UInt8 (32 : Nat) (@UInt8.instOfNat (32 : Nat))), (@OfNat.ofNat UInt8 (107 : Nat) (@UInt8.instOfNat (107 : Nat))), (@OfNat.ofNat UInt8 (101 : Nat) (@UInt8.instOfNat (101 : Nat))), (@OfNat.ofNat UInt8 (121 : Nat) (@UInt8.instOfNat (121 : Nat))), (@OfNat.ofNat UInt8 (46 : Nat) (@UInt8.instOfNat (46 : Nat)))] : List (UInt8))))))), @Unit.unit)))) fun (v3 : (Unit × ((Arr Int 16) × ((List Int) × Unit)))) =>
     Option.bind (@ref12_first N v3.2.2.1) fun (v4 : (Arr Int 16)) =>
     some (v4)
    else
     none
   else
    none
  else
   none
theorem ref12_Key_S (N : Nat) (master0 : Arr (Int) 16) (a1 : Bool) : (runK Go.Proofs.Tryd.prog (Ev114 N) 400 21 [(.arr 16 (.int .u8)), .bool] [(.arr 16 (.int .u8))] (master0, a1, ())).run = ref12_Key N master0 a1 := by kernel_rfl
theorem ref12_Key_C (N : Nat) (master0 : Arr (Int) 16) (a1 : Bool) (y : Arr (Int) 16) (h : ref12_Key N master0 a1 = some y) : CallsK Go.Proofs.Tryd.prog 21 (valA [(.arr 16 (.int .u8)), .bool] (master0, a1, ())) (tupV (valR [(.arr 16 (.int .u8))] y)) := runK_ok hmx (Ev114_ok N _) (okFn_ok (by kernel_rfl)) (by rw [ref12_Key_S]; exact h)
noncomputable def Ev115 (N : Nat) : (R : Type) → Env R := Env.addFn (Ev114 N) 21 (fun R => fnK [(.arr 16 (.int .u8)), .bool] [(.arr 16 (.int .u8))] (fun c => ref12_Key N c.1 c.2.1))
theorem Ev115_ok (N : Nat) (R : Type) : EnvOK Go.Proofs.Tryd.prog (Ev115 N R) := EnvOK.addFn hmx (Ev114_ok N R) (Ev114_ok N _) (by kernel_rfl) (fun c => ref12_Key_S N c.1 c.2.1)
noncomputable def Ev116 (N : Nat) : (R : Type) → Env R := Env.addBx (Ev115 N) [(26, 0)]
theorem Ev116_ok (N : Nat) (R : Type) : EnvOK Go.Proofs.Tryd.prog (Ev116 N R) := EnvOK.addBx (Ev115_ok N R) [(26, 0)]
noncomputable def ref12_From_L5_I : LI := ⟨33, 0, [], ⟨[(4, .lit (.box 0 0)), (6, .lit (.box 1 0)), (7, .lit (.box 2 0)), (8, .lit (.box 3 0)), (9, .ty (.int .i64))], [.box 53 (.arr 32 (.int .u8)), .box 22 (.arr 16 (.int .u8)), .box 22 (.arr 16 (.int .u8)), .box 53 (.arr 32 (.int .u8))]⟩, [(.exit 0, ⟨[(4, .lit (.box 0 0)), (8, .lit (.box 1 0))], [.box 53 (.arr 32 (.int .u8)), .box 53 (.arr 32 (.int .u8))]⟩)]⟩
noncomputable def ref12_From_L5 (N : Nat) (X : (((Int) × Unit) × ((Arr (Int) 32) × ((Arr (Int) 16) × ((Arr (Int) 16) × ((Arr (Int) 32) × Unit))))) → Option ((Unit × ((Arr (Int) 32) × ((Arr (Int) 32) × Unit))))) (i9 : Int) (h0 : Arr (Int) 32) (h1 : Arr (Int) 16) (h2 : Arr (Int) 16) (h3 : Arr (Int) 32) : Option ((Unit × ((Arr (Int) 32) × ((Arr (Int) 32) × Unit)))) :=
 bif (decide (i9 < (16 : Int))) then
  bif (decide ((0 : Int) ≤ i9 ∧ i9 < (((16 : Nat) : Nat) : Int))) then
   Option.bind (@GetElem?.getElem? (List Int) Nat Int (fun (as7 : (List Int)) => (fun (i8 : Nat) => (@LT.lt Nat @instLTNat i8 (List.length as7)))) (@List.instGetElem?NatLtLength Int) h1.l (Int.toNat i9)) fun (v7 : Int) =>
   bif (decide ((0 : Int) ≤ i9 ∧ i9 < (((16 : Nat) : Nat) : Int))) then
    Option.bind (@GetElem?.getElem? (List Int) Nat Int (fun (as8 : (List Int)) => (fun (i9 : Nat) => (@LT.lt Nat @instLTNat i9 (List.length as8)))) (@List.instGetElem?NatLtLength Int) h2.l (Int.toNat i9)) fun (v8 : Int) =>
    bif (decide ((0 : Int) ≤ i9 ∧ i9 < (((32 : Nat) : Nat) : Int))) then
     bif (decide ((0 : Int) ≤ (Go.IntKind.wrap .i64 ((16 : Int) + i9)) ∧ (Go.IntKind.wrap .i64 ((16 : Int) + i9)) < (((32 : Nat) : Nat) : Int))) then
      Option.bind (@GetElem?.getElem? (List Int) Nat Int (fun (as9 : (List Int)) => (fun (i10 : Nat) => (@LT.lt Nat @instLTNat i10 (List.length as9)))) (@List.instGetElem?NatLtLength Int) h3.l (Int.toNat i9)) fun (v9 : Int) =>
      Option.bind (@GetElem?.getElem? (List Int) Nat Int (fun (as10 : (List Int)) => (fun (i11 : Nat) => (@LT.lt Nat @instLTNat i11 (List.length as10)))) (@List.instGetElem?NatLtLength Int) (h3.set (Int.toNat i9) v7).l (Int.toNat (Go.IntKind.wrap .i64 ((16 : Int) + i9)))) fun (v10 : Int) =>
      (X (((Go.IntKind.wrap .i64 (i9 + (1 : Int))), @Unit.unit), (h0, (h1, (h2, (((h3.set (Int.toNat i9) v7).set (Int.toNat (Go.IntKind.wrap .i64 ((16 : Int) + i9))) v8), @Unit.unit))))))
     else
      none
    else
     none
   else
    none
  else
   none
 else
  some ((@Unit.unit, (h0, (h3, @Unit.unit))))
noncomputable def ref12_From_L5_R (N : Nat) (c : (((Int) × Unit) × ((Arr (Int) 32) × ((Arr (Int) 16) × ((Arr (Int) 16) × ((Arr (Int) 32) × Unit)))))) : Option ((Unit × ((Arr (Int) 32) × ((Arr (Int) 32) × Unit)))) := gl (fun X c => ref12_From_L5 N X c.1.1 c.2.1 c.2.2.1 c.2.2.2.1 c.2.2.2.2.1) N c
theorem ref12_From_L5_S (N : Nat) (X : (((Int) × Unit) × ((Arr (Int) 32) × ((Arr (Int) 16) × ((Arr (Int) 16) × ((Arr (Int) 32) × Unit))))) → Option ((Unit × ((Arr (Int) 32) × ((Arr (Int) 32) × Unit))))) (i9 : Int) (h0 : Arr (Int) 32) (h1 : Arr (Int) 16) (h2 : Arr (Int) 16) (h3 : Arr (Int) 32) : (roundK Go.Proofs.Tryd.prog (Ev116 N) 400 [26] ref12_From_L5_I (loopAt Go.Proofs.Tryd.prog [26] 5) X ((i9, ()), (h0, h1, h2, h3, ()))).run = ref12_From_L5 N X i9 h0 h1 h2 h3 := by kernel_rfl
noncomputable def Ev117 (N : Nat) : (R : Type) → Env R := Env.addLp (Ev116 N) [26] 0 5 (fun R => lpK Go.Proofs.Tryd.prog ref12_From_L5_I (fun X c => ref12_From_L5 N X c.1.1 c.2.1 c.2.2.1 c.2.2.2.1 c.2.2.2.2.1) N)
theorem Ev117_ok (N : Nat) (R : Type) : EnvOK Go.Proofs.Tryd.prog (Ev117 N R) := EnvOK.addLp (Ev116_ok N R) (by kernel_rfl) (lpK_ok (li := ref12_From_L5_I) (G := fun X c => ref12_From_L5 N X c.1.1 c.2.1 c.2.2.1 c.2.2.2.1 c.2.2.2.2.1) hmx (Ev116_ok N _) (by kernel_rfl) loopAt_sub (fun (X : CT ref12_From_L5_I.sh → Option (OT ref12_From_L5_I.outs)) (c : CT ref12_From_L5_I.sh) => ref12_From_L5_S N X c.1.1 c.2.1 c.2.2.1 c.2.2.2.1 c.2.2.2.2.1) N)
noncomputable def ref12_From (N : Nat) (h0 : Arr (Int) 16) (response1 : Arr (Int) 24) : Option (Arr (Int) 32) :=
 Option.bind (@ref12_Master N h0 response1) fun (v3 : (Arr Int 16)) =>
 Option.bind (@ref12_Key N v3 @Bool.true) fun (v4 : (Arr Int 16)) =>
 Option.bind (@ref12_Key N v3 @Bool.false) fun (v5 : (Arr Int 16)) =>
 Option.bind (ref12_From_L5_R N (((0 : Int), @Unit.unit), ((@Arr.cons Int (31 : Nat) (0 : Int) (@Arr.cons Int (30 : Nat) (0 : Int) (@Arr.cons Int (29 : Nat) (0 : Int) (@Arr.cons Int (28 : Nat) (0 : Int) (@Arr.cons Int (27 : Nat) (0 : Int) (@Arr.cons Int (26 : Nat) (0 : Int) (@Arr.cons Int (25 : Nat) (0 : Int) (@Arr.cons Int (24 : Nat) (0 : Int) (@Arr.cons Int (23 : Nat) (0 : Int) (@Arr.cons Int (22 : Nat) (0 : Int) (@Arr.cons Int (21 : Nat) (0 : Int) (@Arr.cons Int (20 : Nat) (0 : Int) (@Arr.cons Int (19 : Nat) (0 : Int) (@Arr.cons Int (18 : Nat) (0 : Int) (@Arr.cons Int (17 : Nat) (0 : Int) (@Arr.cons Int (16 : Nat) (0 : Int) (@Arr.cons Int (15 : Nat) (0 : Int) (@Arr.cons Int (14 : Nat) (0 : Int) (@Arr.cons Int (13 : Nat) (0 : Int) (@Arr.cons Int (12 : Nat) (0 : Int) (@Arr.cons Int (11 : Nat) (0 : Int) (@Arr.cons Int (10 : Nat) (0 : Int) (@Arr.cons Int (9 : Nat) (0 : Int) (@Arr.cons Int (8 : Nat) (0 : Int) (@Arr.cons Int (7 : Nat) (0 : Int) (@Arr.cons Int (6 : Nat) (0 : Int) (@Arr.cons Int (5 : Nat) (0 : Int) (@Arr.cons Int (4 : Nat) (0 : Int) (@Arr.cons Int (3 : Nat) (0 : Int) (@Arr.cons Int (2 : Nat) (0 : Int) (@Arr.cons Int (1 : Nat) (0 : Int) (@Arr.cons Int (0 : Nat) (0 : Int) (@Arr.nil Int))))))))))))))))))))))))))))))))), (v4, (v5, ((@Arr.cons Int (31 : Nat) (0 : Int) (@Arr.cons Int (30 : Nat) (0 : Int) (@Arr.cons Int (29 : Nat) (0 : Int) (@Arr.cons Int (28 : Nat) (0 : Int) (@Arr.cons Int (27 : Nat) (0 : Int) (@Arr.cons Int (26 : Nat) (0 : Int) (@Arr.cons Int (25 : Nat) (0 : Int) (@Arr.cons Int (24 : Nat) (0 : Int) (@Arr.cons Int (23 : Nat) (0 : Int) (@Arr.cons Int (22 : Nat) (0 : Int) (@Arr.cons Int (21 : Nat) (0 : Int) (@Arr.cons Int (20 : Nat) (0 : Int) (@Arr.cons Int (19 : Nat) (0 : Int) (@Arr.cons Int (18 : Nat) (0 : Int) (@Arr.cons Int (17 : Nat) (0 : Int) (@Arr.cons Int (16 : Nat) (0 : Int) (@Arr.cons Int (15 : Nat) (0 : Int) (@Arr.cons Int (14 : Nat) (0 : Int) (@Arr.cons Int (13 : Nat) (0 : Int) (@Arr.cons Int (12 : Nat) (0 : Int) (@Arr.cons Int (11 : Nat) (0 : Int) (@Arr.cons Int (10 : Nat) (0 : Int) (@Arr.cons Int (9 : Nat) (0 : Int) (@Arr.cons Int (8 : Nat) (0 : Int) (@Arr.cons Int (7 : Nat) (0 : Int) (@Arr.cons Int (6 : Nat) (0 : Int) (@Arr.cons Int (5 : Nat) (0 : Int) (@Arr.cons Int (4 : Nat) (0 : Int) (@Arr.cons Int (3 : Nat) (0 : Int) (@Arr.cons Int (2 : Nat) (0 : Int) (@Arr.cons Int (1 : Nat) (0 : Int) (@Arr.cons Int (0 : Nat) (0 : Int) (@Arr.nil Int))))))))))))))))))))))))))))))))), @Unit.unit)))))) fun (v6 : (Unit × ((Arr Int 32) × ((Arr Int 32) × Unit)))) =>
 some (v6.2.2.1)
theorem ref12_From_S (N : Nat) (h0 : Arr (Int) 16) (response1 : Arr (Int) 24) : (runK Go.Proofs.Tryd.prog (Ev117 N) 400 26 [(.arr 16 (.int .u8)), (.arr 24 (.int .u8))] [(.arr 32 (.int .u8))] (h0, response1, ())).run = ref12_From N h0 response1 := by kernel_rfl
theorem ref12_From_C (N : Nat) (h0 : Arr (Int) 16) (response1 : Arr (Int) 24) (y : Arr (Int) 32) (h : ref12_From N h0 response1 = some y) : CallsK Go.Proofs.Tryd.prog 26 (valA [(.arr 16 (.int .u8)), (.arr 24 (.int .u8))] (h0, response1, ())) (tupV (valR [(.arr 32 (.int .u8))] y)) := runK_ok hmx (Ev117_ok N _) (okFn_ok (by kernel_rfl)) (by rw [ref12_From_S]; exact h)
noncomputable def Ev118 (N : Nat) : (R : Type) → Env R := Env.addFn (Ev117 N) 26 (fun R => fnK [(.arr 16 (.int .u8)), (.arr 24 (.int .u8))] [(.arr 32 (.int .u8))] (fun c => ref12_From N c.1 c.2.1))
theorem Ev118_ok (N : Nat) (R : Type) : EnvOK Go.Proofs.Tryd.prog (Ev118 N R) := EnvOK.addFn hmx (Ev117_ok N R) (Ev117_ok N _) (by kernel_rfl) (fun c => ref12_From_S N c.1 c.2.1)
noncomputable def Ev119 (N : Nat) : (R : Type) → Env R := Env.addInl (Ev118 N) [25]
theorem Ev119_ok (N : Nat) (R : Type) : EnvOK Go.Proofs.Tryd.prog (Ev119 N R) := EnvOK.addInl (Ev118_ok N R) (by kernel_rfl)
noncomputable def octs_Join_L3_I : LI := ⟨33, 0, [], ⟨[(0, .ty (.sl (.sl (.int .u8)))), (3, .ty (.int .i64)), (9, .ty (.sl (.sl (.int .u8)))), (10, .ty (.int .i64)), (11, .ty (.int .i64))], []⟩, [(.exit 0, ⟨[(0, .ty (.sl (.sl (.int .u8)))), (3, .ty (.int .i64))], []⟩)]⟩
noncomputable def octs_Join_L3 (N : Nat) (X : (((List (List (Int))) × ((Int) × ((List (List (Int))) × ((Int) × ((Int) × Unit))))) × Unit) → Option ((((List (List (Int))) × ((Int) × Unit)) × Unit))) (parts0 : List (List (Int))) (size3 : Int) (x9 : List (List (Int))) (x10 : Int) (x11 : Int) : Option ((((List (List (Int))) × ((Int) × Unit)) × Unit)) :=
 bif (decide (x11 < x10)) then
  Option.bind (getI x9 x11) fun (v7 : (List Int)) =>
  (X ((parts0, ((Go.IntKind.wrap .i64 (size3 + (((List.length v7) : Nat) : Int))), (x9, (x10, ((Go.IntKind.wrap .i64 (x11 + (1 : Int))), @Unit.unit))))), @Unit.unit))
 else
  some (((parts0, (size3, @Unit.unit)), @Unit.unit))
noncomputable def octs_Join_L3_R (N : Nat) (c : (((List (List (Int))) × ((Int) × ((List (List (Int))) × ((Int) × ((Int) × Unit))))) × Unit)) : Option ((((List (List (Int))) × ((Int) × Unit)) × Unit)) := gl (fun X c => octs_Join_L3 N X c.1.1 c.1.2.1 c.1.2.2.1 c.1.2.2.2.1 c.1.2.2.2.2.1) N c
theorem octs_Join_L3_S (N : Nat) (X : (((List (List (Int))) × ((Int) × ((List (List (Int))) × ((Int) × ((Int) × Unit))))) × Unit) → Option ((((List (List (Int))) × ((Int) × Unit)) × Unit))) (parts0 : List (List (Int))) (size3 : Int) (x9 : List (List (Int))) (x10 : Int) (x11 : Int) : (roundK Go.Proofs.Tryd.prog (Ev119 N) 400 [34] octs_Join_L3_I (loopAt Go.Proofs.Tryd.prog [34] 3) X ((parts0, size3, x9, x10, x11, ()), ())).run = octs_Join_L3 N X parts0 size3 x9 x10 x11 := by kernel_rfl
noncomputable def Ev120 (N : Nat) : (R : Type) → Env R := Env.addLp (Ev119 N) [34] 0 3 (fun R => lpK Go.Proofs.Tryd.prog octs_Join_L3_I (fun X c => octs_Join_L3 N X c.1.1 c.1.2.1 c.1.2.2.1 c.1.2.2.2.1 c.1.2.2.2.2.1) N)
theorem Ev120_ok (N : Nat) (R : Type) : EnvOK Go.Proofs.Tryd.prog (Ev120 N R) := EnvOK.addLp (Ev119_ok N R) (by kernel_rfl) (lpK_ok (li := octs_Join_L3_I) (G := fun X c => octs_Join_L3 N X c.1.1 c.1.2.1 c.1.2.2.1 c.1.2.2.2.1 c.1.2.2.2.2.1) hmx (Ev119_ok N _) (by kernel_rfl) loopAt_sub (fun (X : CT octs_Join_L3_I.sh → Option (OT octs_Join_L3_I.outs)) (c : CT octs_Join_L3_I.sh) => octs_Join_L3_S N X c.1.1 c.1.2.1 c.1.2.2.1 c.1.2.2.2.1 c.1.2.2.2.2.1) N)
noncomputable def octs_Join_L9_I : LI := ⟨33, 0, [], ⟨[(6, .lit (.own 0)), (22, .ty (.sl (.sl (.int .u8)))), (23, .ty (.int .i64)), (24, .ty (.int .i64))], [.own (.int .u8) 5]⟩, [(.exit 2, ⟨[(6, .lit (.own 0))], [.own (.int .u8) 5]⟩)]⟩
noncomputable def octs_Join_L9 (N : Nat) (X : (((List (List (Int))) × ((Int) × ((Int) × Unit))) × ((List (Int)) × Unit)) → Option ((Unit × ((List (Int)) × Unit)))) (x22 : List (List (Int))) (x23 : Int) (x24 : Int) (h0 : List (Int)) : Option ((Unit × ((List (Int)) × Unit))) :=
 bif (decide (x24 < x23)) then
  Option.bind (getI x22 x24) fun (v6 : (List Int)) =>
  bif (roomB ((List.length h0) + (List.length v6)) 1) then
   (X ((x22, (x23, ((Go.IntKind.wrap .i64 (x24 + (1 : Int))), @Unit.unit))), ((h0 ++ v6), @Unit.unit)))
  else
   none
 else
  some ((@Unit.unit, (h0, @Unit.unit)))
noncomputable def octs_Join_L9_R (N : Nat) (c : (((List (List (Int))) × ((Int) × ((Int) × Unit))) × ((List (Int)) × Unit))) : Option ((Unit × ((List (Int)) × Unit))) := gl (fun X c => octs_Join_L9 N X c.1.1 c.1.2.1 c.1.2.2.1 c.2.1) N c
theorem octs_Join_L9_S (N : Nat) (X : (((List (List (Int))) × ((Int) × ((Int) × Unit))) × ((List (Int)) × Unit)) → Option ((Unit × ((List (Int)) × Unit)))) (x22 : List (List (Int))) (x23 : Int) (x24 : Int) (h0 : List (Int)) : (roundK Go.Proofs.Tryd.prog (Ev120 N) 400 [34] octs_Join_L9_I (loopAt Go.Proofs.Tryd.prog [34] 9) X ((x22, x23, x24, ()), (h0, ()))).run = octs_Join_L9 N X x22 x23 x24 h0 := by kernel_rfl
noncomputable def Ev121 (N : Nat) : (R : Type) → Env R := Env.addLp (Ev120 N) [34] 0 9 (fun R => lpK Go.Proofs.Tryd.prog octs_Join_L9_I (fun X c => octs_Join_L9 N X c.1.1 c.1.2.1 c.1.2.2.1 c.2.1) N)
theorem Ev121_ok (N : Nat) (R : Type) : EnvOK Go.Proofs.Tryd.prog (Ev121 N R) := EnvOK.addLp (Ev120_ok N R) (by kernel_rfl) (lpK_ok (li := octs_Join_L9_I) (G := fun X c => octs_Join_L9 N X c.1.1 c.1.2.1 c.1.2.2.1 c.2.1) hmx (Ev120_ok N _) (by kernel_rfl) loopAt_sub (fun (X : CT octs_Join_L9_I.sh → Option (OT octs_Join_L9_I.outs)) (c : CT octs_Join_L9_I.sh) => octs_Join_L9_S N X c.1.1 c.1.2.1 c.1.2.2.1 c.2.1) N)
noncomputable def octs_Join (N : Nat) (parts0 : List (List (Int))) : Option (List (Int)) :=
 Option.bind (octs_Join_L3_R N ((parts0, ((0 : Int), (parts0, ((((List.length parts0) : Nat) : Int), ((0 : Int), @Unit.unit))))), @Unit.unit)) fun (v2 : (((List (List Int)) × (Int × Unit)) × Unit)) =>
 bif ((decide ((0 : Int) ≤ (0 : Int) ∧ (0 : Int) ≤ v2.1.2.1)) && (roomB (Int.toNat v2.1.2.1) 1)) then
  Option.bind (octs_Join_L9_R N ((v2.1.1, ((((List.length v2.1.1) : Nat) : Int), ((0 : Int), @Unit.unit))), ((@List.replicate Int (Int.toNat (0 : Int)) (0 : Int)), @Unit.unit))) fun (v3 : (Unit × ((List Int) × Unit))) =>
  some (v3.2.1)
 else
  none
theorem octs_Join_S (N : Nat) (parts0 : List (List (Int))) : (runK Go.Proofs.Tryd.prog (Ev121 N) 400 34 [(.sl (.sl (.int .u8)))] [(.sl (.int .u8))] (parts0, ())).run = octs_Join N parts0 := by kernel_rfl
theorem octs_Join_C (N : Nat) (parts0 : List (List (Int))) (y : List (Int)) (h : octs_Join N parts0 = some y) : CallsK Go.Proofs.Tryd.prog 34 (valA [(.sl (.sl (.int .u8)))] (parts0, ())) (tupV (valR [(.sl (.int .u8))] y)) := runK_ok hmx (Ev121_ok N _) (okFn_ok (by kernel_rfl)) (by rw [octs_Join_S]; exact h)
noncomputable def Ev122 (N : Nat) : (R : Type) → Env R := Env.addFn (Ev121 N) 34 (fun R => fnK [(.sl (.sl (.int .u8)))] [(.sl (.int .u8))] (fun c => octs_Join N c.1))
theorem Ev122_ok (N : Nat) (R : Type) : EnvOK Go.Proofs.Tryd.prog (Ev122 N R) := EnvOK.addFn hmx (Ev121_ok N R) (Ev121_ok N _) (by kernel_rfl) (fun c => octs_Join_S N c.1)
noncomputable def Ev123 (N : Nat) : (R : Type) → Env R := Env.addFn (Ev122 N) 53 (fun R => repK)
theorem Ev123_ok (N : Nat) (R : Type) : EnvOK Go.Proofs.Tryd.prog (Ev123 N R) := EnvOK.addExt (Ev122_ok N R) rep_ok
noncomputable def Ev124 (N : Nat) : (R : Type) → Env R := Env.addBx (Ev123 N) [(32, 0)]
theorem Ev124_ok (N : Nat) (R : Type) : EnvOK Go.Proofs.Tryd.prog (Ev124 N R) := EnvOK.addBx (Ev123_ok N R) [(32, 0)]
noncomputable def mppe_key (N : Nat) (master0 : Arr (Int) 16) (sentence1 : List UInt8) : Option (Arr (Int) 16) :=
 bif (roomB (List.length sentence1) 1) then
  Option.bind (@sha1_Of N ([master0.l, (@List.replicate Int (Int.toNat (40 : Int)) (0 : Int)), (@ofB sentence1), (@List.replicate Int (40 : Nat) (242 : Int))] : List ((List Int)))) fun (v3 : (Arr Int 20)) =>
  Option.bind (takeI v3.l (16 : Int)) fun (v4 : (List Int)) =>
  Option.bind (@toArr Int (16 : Nat) v4) fun (v5 : (Arr Int 16)) =>
  some (v5)
 else
  none
theorem mppe_key_S (N : Nat) (master0 : Arr (Int) 16) (sentence1 : List UInt8) : (runK Go.Proofs.Tryd.prog (Ev124 N) 400 32 [(.arr 16 (.int .u8)), .str] [(.arr 16 (.int .u8))] (master0, sentence1, ())).run = mppe_key N master0 sentence1 := by kernel_rfl
theorem mppe_key_C (N : Nat) (master0 : Arr (Int) 16) (sentence1 : List UInt8) (y : Arr (Int) 16) (h : mppe_key N master0 sentence1 = some y) : CallsK Go.Proofs.Tryd.prog 32 (valA [(.arr 16 (.int .u8)), .str] (master0, sentence1, ())) (tupV (valR [(.arr 16 (.int .u8))] y)) := runK_ok hmx (Ev124_ok N _) (okFn_ok (by kernel_rfl)) (by rw [mppe_key_S]; exact h)
noncomputable def Ev125 (N : Nat) : (R : Type) → Env R := Env.addFn (Ev124 N) 32 (fun R => fnK [(.arr 16 (.int .u8)), .str] [(.arr 16 (.int .u8))] (fun c => mppe_key N c.1 c.2.1))
theorem Ev125_ok (N : Nat) (R : Type) : EnvOK Go.Proofs.Tryd.prog (Ev125 N R) := EnvOK.addFn hmx (Ev124_ok N R) (Ev124_ok N _) (by kernel_rfl) (fun c => mppe_key_S N c.1 c.2.1)
noncomputable def Ev126 (N : Nat) : (R : Type) → Env R := Env.addBx (Ev125 N) [(19, 0)]
theorem Ev126_ok (N : Nat) (R : Type) : EnvOK Go.Proofs.Tryd.prog (Ev126 N R) := EnvOK.addBx (Ev125_ok N R) [(19, 0)]
noncomputable def mppe_Of (N : Nat) (master0 : Arr (Int) 16) (server1 : Bool) : Option ((Arr (Int) 16) × (Arr (Int) 16)) :=
 Option.bind (@mppe_key N master0 (@Array.toList UInt8 (@List.toArray UInt8 (@List.append UInt8 ([(@OfNat.ofNat UInt8 (79 : Nat) (@UInt8.instOfNat (79 : Nat))), (@OfNat.ofNat UInt8 (110 : Nat) (@UInt8.instOfNat (110 : Nat))), (@OfNat.ofNat UInt8 (32 : Nat) (@UInt8.instOfNat (32 : Nat))), (@OfNat.ofNat UInt8 (116 : Nat) (@UInt8.instOfNat (116 : Nat))), (@OfNat.ofNat UInt8 (104 : Nat) (@UInt8.instOfNat (104 : Nat))), (@OfNat.ofNat UInt8 (101 : Nat) (@UInt8.instOfNat (101 : Nat))), (@OfNat.ofNat UInt8 (32 : Nat) (@UInt8.instOfNat (32 : Nat))), (@OfNat.ofNat UInt8 (99 : Nat) (@UInt8.instOfNat (99 : Nat))), (@OfNat.ofNat UInt8 (108 : Nat) (@UInt8.instOfNat (108 : Nat))), (@OfNat.ofNat UInt8 (105 : Nat) (@UInt8.instOfNat (105 : Nat))), (@OfNat.ofNat UInt8 (101 : Nat) (@UInt8.instOfNat (101 : Nat))), (@OfNat.ofNat UInt8 (110 : Nat) (@UInt8.instOfNat (110 : Nat))), (@OfNat.ofNat UInt8 (116 : Nat) (@UInt8.instOfNat (116 : Nat))), (@OfNat.ofNat UInt8 (32 : Nat) (@UInt8.instOfNat (32 : Nat))), (@OfNat.ofNat UInt8 (115 : Nat) (@UInt8.instOfNat (115 : Nat))), (@OfNat.ofNat UInt8 (105 : Nat) (@UInt8.instOfNat (105 : Nat))), (@OfNat.ofNat UInt8 (100 : Nat) (@UInt8.instOfNat (100 : Nat))), (@OfNat.ofNat UInt8 (101 : Nat) (@UInt8.instOfNat (101 : Nat))), (@OfNat.ofNat UInt8 (44 : Nat) (@UInt8.instOfNat (44 : Nat))), (@OfNat.ofNat UInt8 (32 : Nat) (@UInt8.instOfNat (32 : Nat))), (@OfNat.ofNat UInt8 (116 : Nat) (@UInt8.instOfNat (116 : Nat))), (@OfNat.ofNat UInt8 (104 : Nat) (@UInt8.instOfNat (104 : Nat))), (@OfNat.ofNat UInt8 (105 : Nat) (@UInt8.instOfNat (105 : Nat))), (@OfNat.ofNat UInt8 (115 : Nat) (@UInt8.instOfNat (115 : Nat))), (@OfNat.ofNat UInt8 (32 : Nat) (@UInt8.instOfNat (32 : Nat))), (@OfNat.ofNat UInt8 (105 : Nat) (@UInt8.instOfNat (105 : Nat))), (@OfNat.ofNat UInt8 (115 : Nat) (@UInt8.instOfNat (115 : Nat))), (@OfNat.ofNat UInt8 (32 : Nat) (@UInt8.instOfNat (32 : Nat))), (@OfNat.ofNat UInt8 (116 : Nat) (@UInt8.instOfNat (116 : Nat))), (@OfNat.ofNat UInt8 (104 : Nat) (@UInt8.instOfNat (104 : Nat))), (@OfNat.ofNat UInt8 (101 : Nat) (@UInt8.instOfNat (101 : Nat))), (@OfNat.ofNat UInt8 (32 : Nat) (@UInt8.instOfNat (32 : Nat))), (@OfNat.ofNat UInt8 (115 : Nat) (@UInt8.instOfNat (115 : Nat))), (@OfNat.ofNat UInt8 (101 : Nat) (@UInt8.instOfNat (101 : Nat))), (@OfNat.ofNat UInt8 (110 : Nat) (@UInt8.instOfNat (110 : Nat))), (@OfNat.ofNat UInt8 (100 : Nat) (@UInt8.instOfNat (100 : Nat))), (@OfNat.ofNat UInt8 (32 : Nat) (@UInt8.instOfNat (32 : Nat))), (@OfNat.ofNat UInt8 (107 : Nat) (@UInt8.instOfNat (107 : Nat))), (@OfNat.ofNat UInt8 (101 : Nat) (@UInt8.instOfNat (101 : Nat))), (@OfNat.ofNat UInt8 (121 : Nat) (@UInt8.instOfNat (121 : Nat))), (@OfNat.ofNat UInt8 (59 : Nat) (@UInt8.instOfNat (59 : Nat))), (@OfNat.ofNat UInt8 (32 : Nat) (@UInt8.instOfNat (32 : Nat)))] : List (UInt8)) ([(@OfNat.ofNat UInt8 (111 : Nat) (@UInt8.instOfNat (111 : Nat))), (@OfNat.ofNat UInt8 (110 : Nat) (@UInt8.instOfNat (110 : Nat))), (@OfNat.ofNat UInt8 (32 : Nat) (@UInt8.instOfNat (32 : Nat))), (@OfNat.ofNat UInt8 (116 : Nat) (@UInt8.instOfNat (116 : Nat))), (@OfNat.ofNat UInt8 (104 : Nat) (@UInt8.instOfNat (104 : Nat))), (@OfNat.ofNat UInt8 (101 : Nat) (@UInt8.instOfNat (101 : Nat))), (@OfNat.ofNat UInt8 (32 : Nat) (@UInt8.instOfNat (32 : Nat))), (@OfNat.ofNat UInt8 (115 : Nat) (@UInt8.instOfNat (115 : Nat))), (@OfNat.ofNat UInt8 (101 : Nat) (@UInt8.instOfNat (101 : Nat))), (@OfNat.ofNat UInt8 (114 : Nat) (@UInt8.instOfNat (114 : Nat))), (@OfNat.ofNat UInt8 (118 : Nat) (@UInt8.instOfNat (118 : Nat))), (@OfNat.ofNat UInt8 (101 : Nat) (@UInt8.instOfNat (101 : Nat))), (@OfNat.ofNat UInt8 (114 : Nat) (@UInt8.instOfNat (114 : Nat))), (@OfNat.ofNat UInt8 (32 : Nat) (@UInt8.instOfNat (32 : Nat))), (@OfNat.ofNat UInt8 (115 : Nat) (@UInt8.instOfNat (115 : Nat))), (@OfNat.ofNat UInt8 (105 : Nat) (@UInt8.instOfNat (105 : Nat))), (@OfNat.ofNat UInt8 (100 : Nat) (@UInt8.instOfNat (100 : Nat))), (@OfNat.ofNat UInt8 (101 : Nat) (@UInt8.instOfNat (101 : Nat))), (@OfNat.ofNat UInt8 (44 : Nat) (@UInt8.instOfNat (44 : Nat))), (@OfNat.ofNat UInt8 (32 : Nat) (@UInt8.instOfNat (32 : Nat))), (@OfNat.ofNat UInt8 (105 : Nat) (@UInt8.instOfNat (105 : Nat))), (@OfNat.ofNat UInt8 (116 : Nat) (@UInt8.instOfNat (116 : Nat))), (@OfNat.ofNat UInt8 (32 : Nat) (@UInt8.instOfNat (32 : Nat))), (@OfNat.ofNat UInt8 (105 : Nat) (@UInt8.instOfNat (105 : Nat))), (@OfNat.ofNat UInt8 (115 : Nat) (@UInt8.instOfNat (115 : Nat))), (@OfNat.ofNat UInt8 (32 : Nat) (@UInt8.instOfNat (32 : Nat))), (@OfNat.ofNat UInt8 (116 : Nat) (@UInt8.instOfNat (116 : Nat))), (@OfNat.ofNat UInt8 (104 : Nat) (@UInt8.instOfNat (104 : Nat))), (@OfNat.ofNat UInt8 (101 : Nat) (@UInt8.instOfNat (101 : Nat))), (@OfNat.ofNat UInt8 (32 : Nat) (@UInt8.instOfNat (32 : Nat))), (@OfNat.ofNat UInt8 (114 : Nat) (@UInt8.instOfNat (114 : Nat))), (@OfNat.ofNat UInt8 (101 : Nat) (@UInt8.instOfNat (101 : Nat))), (@OfNat.ofNat UInt8 (99 : Nat) (@UInt8.instOfNat (99 : Nat))), (@OfNat.ofNat UInt8 (101 : Nat) (@UInt8.instOfNat (101 : Nat))), (@OfNat.ofNat UInt8 (105 : Nat) (@UInt8.instOfNat (105 : Nat))), (@OfNat.ofNat UInt8 (118 : Nat) (@UInt8.instOfNat (118 : Nat))), (@OfNat.ofNat UInt8 (101 : Nat) (@UInt8.instOfNat (101 : Nat))), (@OfNat.ofNat UInt8 (32 : Nat) (@UInt8.instOfNat (32 : Nat))), (@OfNat.ofNat UInt8 (107 : Nat) (@UInt8.instOfNat (107 : Nat))), (@OfNat.ofNat UInt8 (101 : Nat) (@UInt8.instOfNat (101 : Nat))), (@OfNat.ofNat UInt8 (121 : Nat) (@UInt8.instOfNat (121 : Nat))), (@OfNat.ofNat UInt8 (46 : Nat) (@UInt8.instOfNat (46 : Nat)))] : List (UInt8)))))) fun (v3 : (Arr Int 16)) =>
 Option.bind (@mppe_key N master0 (@Array.toList UInt8 (@List.toArray UInt8 (@List.append UInt8 ([(@OfNat.ofNat UInt8 (79 : Nat) (@UInt8.instOfNat (79 : Nat))), (@OfNat.ofNat UInt8 (110 : Nat) (@UInt8.instOfNat (110 : Nat))), (@OfNat.ofNat UInt8 (32 : Nat) (@UInt8.instOfNat (32 : Nat))), (@OfNat.ofNat UInt8 (116 : Nat) (@UInt8.instOfNat (116 : Nat))), (@OfNat.ofNat UInt8 (104 : Nat) (@UInt8.instOfNat (104 : Nat))), (@OfNat.ofNat UInt8 (101 : Nat) (@UInt8.instOfNat (101 : Nat))), (@OfNat.ofNat UInt8 (32 : Nat) (@UInt8.instOfNat (32 : Nat))), (@OfNat.ofNat UInt8 (99 : Nat) (@UInt8.instOfNat (99 : Nat))), (@OfNat.ofNat UInt8 (108 : Nat) (@UInt8.instOfNat (108 : Nat))), (@OfNat.ofNat UInt8 (105 : Nat) (@UInt8.instOfNat (105 : Nat))), (@OfNat.ofNat UInt8 (101 : Nat) (@UInt8.instOfNat (101 : Nat))), (@OfNat.ofNat UInt8 (110 : Nat) (@UInt8.instOfNat (110 : Nat))), (@OfNat.ofNat UInt8 (116 : Nat) (@UInt8.instOfNat (116 : Nat))), (@OfNat.ofNat UInt8 (32 : Nat) (@UInt8.instOfNat (32 : Nat))), (@OfNat.ofNat UInt8 (115 : Nat) (@UInt8.instOfNat (115 : Nat))), (@OfNat.ofNat UInt8 (105 : Nat) (@UInt8.instOfNat (105 : Nat))), (@OfNat.ofNat UInt8 (100 : Nat) (@UInt8.instOfNat (100 : Nat))), (@OfNat.ofNat UInt8 (101 : Nat) (@UInt8.instOfNat (101 : Nat))), (@OfNat.ofNat UInt8 (44 : Nat) (@UInt8.instOfNat (44 : Nat))), (@OfNat.ofNat UInt8 (32 : Nat) (@UInt8.instOfNat (32 : Nat))), (@OfNat.ofNat UInt8 (116 : Nat) (@UInt8.instOfNat (116 : Nat))), (@OfNat.ofNat UInt8 (104 : Nat) (@UInt8.instOfNat (104 : Nat))), (@OfNat.ofNat UInt8 (105 : Nat) (@UInt8.instOfNat (105 : Nat))), (@OfNat.ofNat UInt8 (115 : Nat) (@UInt8.instOfNat (115 : Nat))), (@OfNat.ofNat UInt8 (32 : Nat) (@UInt8.instOfNat (32 : Nat))), (@OfNat.ofNat UInt8 (105 : Nat) (@UInt8.instOfNat (105 : Nat))), (@OfNat.ofNat UInt8 (115 : Nat) (@UInt8.instOfNat (115 : Nat))), (@OfNat.ofNat UInt8 (32 : Nat) (@UInt8.instOfNat (32 : Nat))), (@OfNat.ofNat UInt8 (116 : Nat) (@UInt8.instOfNat (116 : Nat))), (@OfNat.ofNat UInt8 (104 : Nat) (@UInt8.instOfNat (104 : Nat))), (@OfNat.ofNat UInt8 (101 : Nat) (@UInt8.instOfNat (101 : Nat))), (@OfNat.ofNat UInt8 (32 : Nat) (@UInt8.instOfNat (32 : Nat))), (@OfNat.ofNat UInt8 (114 : Nat) (@UInt8.instOfNat (114 : Nat))), (@OfNat.ofNat UInt8 (101 : Nat) (@UInt8.instOfNat (101 : Nat))), (@OfNat.ofNat UInt8 (99 : Nat) (@UInt8.instOfNat (99 : Nat))), (@OfNat.ofNat UInt8 (101 : Nat) (@UInt8.instOfNat (101 : Nat))), (@OfNat.ofNat UInt8 (105 : Nat) (@UInt8.instOfNat (105 : Nat))), (@OfNat.ofNat UInt8 (118 : Nat) (@UInt8.instOfNat (118 : Nat))), (@OfNat.ofNat UInt8 (101 : Nat) (@UInt8.instOfNat (101 : Nat))), (@OfNat.ofNat UInt8 (32 : Nat) (@UInt8.instOfNat (32 : Nat))), (@OfNat.ofNat UInt8 (107 : Nat) (@UInt8.instOfNat (107 : Nat))), (@OfNat.ofNat UInt8 (101 : Nat) (@UInt8.instOfNat (101 : Nat)))] : List (UInt8)) ([(@OfNat.ofNat UInt8 (121 : Nat) (@UInt8.instOfNat (121 : Nat))), (@OfNat.ofNat UInt8 (59 : Nat) (@UInt8.instOfNat (59 : Nat))), (@OfNat.ofNat UInt8 (32 : Nat) (@UInt8.instOfNat (32 : Nat))), (@OfNat.ofNat UInt8 (111 : Nat) (@UInt8.instOfNat (111 : Nat))), (@OfNat.ofNat UInt8 (110 : Nat) (@UInt8.instOfNat (110 : Nat))), (@OfNat.ofNat UInt8 (32 : Nat) (@UInt8.instOfNat (32 : Nat))), (@OfNat.ofNat UInt8 (116 : Nat) (@UInt8.instOfNat (116 : Nat))), (@OfNat.ofNat UInt8 (104 : Nat) (@UInt8.instOfNat (104 : Nat))), (@OfNat.ofNat UInt8 (101 : Nat) (@UInt8.instOfNat (101 : Nat))), (@OfNat.ofNat UInt8 (32 : Nat) (@UInt8.instOfNat (32 : Nat))), (@OfNat.ofNat UInt8 (115 : Nat) (@UInt8.instOfNat (115 : Nat))), (@OfNat.ofNat UInt8 (101 : Nat) (@UInt8.instOfNat (101 : Nat))), (@OfNat.ofNat UInt8 (114 : Nat) (@UInt8.instOfNat (114 : Nat))), (@OfNat.ofNat UInt8 (118 : Nat) (@UInt8.instOfNat (118 : Nat))), (@OfNat.ofNat UInt8 (101 : Nat) (@UInt8.instOfNat (101 : Nat))), (@OfNat.ofNat UInt8 (114 : Nat) (@UInt8.instOfNat (114 : Nat))), (@OfNat.ofNat UInt8 (32 : Nat) (@UInt8.instOfNat (32 : Nat))), (@OfNat.ofNat UInt8 (115 : Nat) (@UInt8.instOfNat (115 : Nat))), (@OfNat.ofNat UInt8 (105 : Nat) (@UInt8.instOfNat (105 : Nat))), (@OfNat.ofNat UInt8 (100 : Nat) (@UInt8.instOfNat (100 : Nat))), (@OfNat.ofNat UInt8 (101 : Nat) (@UInt8.instOfNat (101 : Nat))), (@OfNat.ofNat UInt8 (44 : Nat) (@UInt8.instOfNat (44 : Nat))), (@OfNat.ofNat UInt8 (32 : Nat) (@UInt8.instOfNat (32 : Nat))), (@OfNat.ofNat UInt8 (105 : Nat) (@UInt8.instOfNat (105 : Nat))), (@OfNat.ofNat UInt8 (116 : Nat) (@UInt8.instOfNat (116 : Nat))), (@OfNat.ofNat UInt8 (32 : Nat) (@UInt8.instOfNat (32 : Nat))), (@OfNat.ofNat UInt8 (105 : Nat) (@UInt8.instOfNat (105 : Nat))), (@OfNat.ofNat UInt8 (115 : Nat) (@UInt8.instOfNat (115 : Nat))), (@OfNat.ofNat UInt8 (32 : Nat) (@UInt8.instOfNat (32 : Nat))), (@OfNat.ofNat UInt8 (116 : Nat) (@UInt8.instOfNat (116 : Nat))), (@OfNat.ofNat UInt8 (104 : Nat) (@UInt8.instOfNat (104 : Nat))), (@OfNat.ofNat UInt8 (101 : Nat) (@UInt8.instOfNat (101 : Nat))), (@OfNat.ofNat UInt8 (32 : Nat) (@UInt8.instOfNat (32 : Nat))), (@OfNat.ofNat UInt8 (115 : Nat) (@UInt8.instOfNat (115 : Nat))), (@OfNat.ofNat UInt8 (101 : Nat) (@UInt8.instOfNat (101 : Nat))), (@OfNat.ofNat UInt8 (110 : Nat) (@UInt8.instOfNat (110 : Nat))), (@OfNat.ofNat UInt8 (100 : Nat) (@UInt8.instOfNat (100 : Nat))), (@OfNat.ofNat UInt8 (32 : Nat) (@UInt8.instOfNat (32 : Nat))), (@OfNat.ofNat UInt8 (107 : Nat) (@UInt8.instOfNat (107 : Nat))), (@OfNat.ofNat UInt8 (101 : Nat) (@UInt8.instOfNat (101 : Nat))), (@OfNat.ofNat UInt8 (121 : Nat) (@UInt8.instOfNat (121 : Nat))), (@OfNat.ofNat UInt8 (46 : Nat) (@UInt8.instOfNat (46 : Nat)))] : List (UInt8)))))) fun (v4 : (Arr Int 16)) =>
 bif server1 then
  some ((v4, v3))
 else
  some ((v3, v4))
theorem mppe_Of_S (N : Nat) (master0 : Arr (Int) 16) (server1 : Bool) : (runK Go.Proofs.Tryd.prog (Ev126 N) 400 19 [(.arr 16 (.int .u8)), .bool] [(.pair (.arr 16 (.int .u8)) (.arr 16 (.int .u8)))] (master0, server1, ())).run = mppe_Of N master0 server1 := by kernel_rfl
theorem mppe_Of_C (N : Nat) (master0 : Arr (Int) 16) (server1 : Bool) (y : (Arr (Int) 16) × (Arr (Int) 16)) (h : mppe_Of N master0 server1 = some y) : CallsK Go.Proofs.Tryd.prog 19 (valA [(.arr 16 (.int .u8)), .bool] (master0, server1, ())) (tupV (valR [(.pair (.arr 16 (.int .u8)) (.arr 16 (.int .u8)))] y)) := runK_ok hmx (Ev126_ok N _) (okFn_ok (by kernel_rfl)) (by rw [mppe_Of_S]; exact h)
noncomputable def Ev127 (N : Nat) : (R : Type) → Env R := Env.addFn (Ev126 N) 19 (fun R => fnK [(.arr 16 (.int .u8)), .bool] [(.pair (.arr 16 (.int .u8)) (.arr 16 (.int .u8)))] (fun c => mppe_Of N c.1 c.2.1))
theorem Ev127_ok (N : Nat) (R : Type) : EnvOK Go.Proofs.Tryd.prog (Ev127 N R) := EnvOK.addFn hmx (Ev126_ok N R) (Ev126_ok N _) (by kernel_rfl) (fun c => mppe_Of_S N c.1 c.2.1)
noncomputable def Ev128 (N : Nat) : (R : Type) → Env R := Env.addBx (Ev127 N) [(24, 0)]
theorem Ev128_ok (N : Nat) (R : Type) : EnvOK Go.Proofs.Tryd.prog (Ev128 N R) := EnvOK.addBx (Ev127_ok N R) [(24, 0)]
noncomputable def mppe_Upper (N : Nat) (k0 : (Arr (Int) 16) × (Arr (Int) 16)) (server1 : Bool) : Option (Arr (Int) 32) :=
 bif server1 then
  Option.bind (@octs_Join N ([k0.2.l, k0.1.l] : List ((List Int)))) fun (v3 : (List Int)) =>
  Option.bind (@toArr Int (32 : Nat) v3) fun (v4 : (Arr Int 32)) =>
  some (v4)
 else
  Option.bind (@octs_Join N ([k0.1.l, k0.2.l] : List ((List Int)))) fun (v3 : (List Int)) =>
  Option.bind (@toArr Int (32 : Nat) v3) fun (v4 : (Arr Int 32)) =>
  some (v4)
theorem mppe_Upper_S (N : Nat) (k0 : (Arr (Int) 16) × (Arr (Int) 16)) (server1 : Bool) : (runK Go.Proofs.Tryd.prog (Ev128 N) 400 24 [(.pair (.arr 16 (.int .u8)) (.arr 16 (.int .u8))), .bool] [(.arr 32 (.int .u8))] (k0, server1, ())).run = mppe_Upper N k0 server1 := by kernel_rfl
theorem mppe_Upper_C (N : Nat) (k0 : (Arr (Int) 16) × (Arr (Int) 16)) (server1 : Bool) (y : Arr (Int) 32) (h : mppe_Upper N k0 server1 = some y) : CallsK Go.Proofs.Tryd.prog 24 (valA [(.pair (.arr 16 (.int .u8)) (.arr 16 (.int .u8))), .bool] (k0, server1, ())) (tupV (valR [(.arr 32 (.int .u8))] y)) := runK_ok hmx (Ev128_ok N _) (okFn_ok (by kernel_rfl)) (by rw [mppe_Upper_S]; exact h)
noncomputable def Ev129 (N : Nat) : (R : Type) → Env R := Env.addFn (Ev128 N) 24 (fun R => fnK [(.pair (.arr 16 (.int .u8)) (.arr 16 (.int .u8))), .bool] [(.arr 32 (.int .u8))] (fun c => mppe_Upper N c.1 c.2.1))
theorem Ev129_ok (N : Nat) (R : Type) : EnvOK Go.Proofs.Tryd.prog (Ev129 N R) := EnvOK.addFn hmx (Ev128_ok N R) (Ev128_ok N _) (by kernel_rfl) (fun c => mppe_Upper_S N c.1 c.2.1)
noncomputable def Ev130 (N : Nat) : (R : Type) → Env R := Env.addBx (Ev129 N) [(23, 0)]
theorem Ev130_ok (N : Nat) (R : Type) : EnvOK Go.Proofs.Tryd.prog (Ev130 N R) := EnvOK.addBx (Ev129_ok N R) [(23, 0)]
noncomputable def mppe_From (N : Nat) (h0 : Arr (Int) 16) (response1 : Arr (Int) 24) (server2 : Bool) : Option (Arr (Int) 32) :=
 Option.bind (@mppe_Master N h0 response1) fun (v4 : (Arr Int 16)) =>
 Option.bind (@mppe_Of N v4 server2) fun (v5 : ((Arr Int 16) × (Arr Int 16))) =>
 Option.bind (@mppe_Upper N (v5.1, v5.2) server2) fun (v6 : (Arr Int 32)) =>
 some (v6)
theorem mppe_From_S (N : Nat) (h0 : Arr (Int) 16) (response1 : Arr (Int) 24) (server2 : Bool) : (runK Go.Proofs.Tryd.prog (Ev130 N) 400 23 [(.arr 16 (.int .u8)), (.arr 24 (.int .u8)), .bool] [(.arr 32 (.int .u8))] (h0, response1, server2, ())).run = mppe_From N h0 response1 server2 := by kernel_rfl
theorem mppe_From_C (N : Nat) (h0 : Arr (Int) 16) (response1 : Arr (Int) 24) (server2 : Bool) (y : Arr (Int) 32) (h : mppe_From N h0 response1 server2 = some y) : CallsK Go.Proofs.Tryd.prog 23 (valA [(.arr 16 (.int .u8)), (.arr 24 (.int .u8)), .bool] (h0, response1, server2, ())) (tupV (valR [(.arr 32 (.int .u8))] y)) := runK_ok hmx (Ev130_ok N _) (okFn_ok (by kernel_rfl)) (by rw [mppe_From_S]; exact h)
noncomputable def Ev131 (N : Nat) : (R : Type) → Env R := Env.addFn (Ev130 N) 23 (fun R => fnK [(.arr 16 (.int .u8)), (.arr 24 (.int .u8)), .bool] [(.arr 32 (.int .u8))] (fun c => mppe_From N c.1 c.2.1 c.2.2.1))
theorem Ev131_ok (N : Nat) (R : Type) : EnvOK Go.Proofs.Tryd.prog (Ev131 N R) := EnvOK.addFn hmx (Ev130_ok N R) (Ev130_ok N _) (by kernel_rfl) (fun c => mppe_From_S N c.1 c.2.1 c.2.2.1)
noncomputable def law12_alive (N : Nat) : Option (Bool) :=
 Option.bind (@nthash_Of N (@Array.toList UInt8 (@List.toArray UInt8 ([(@OfNat.ofNat UInt8 (99 : Nat) (@UInt8.instOfNat (99 : Nat))), (@OfNat.ofNat UInt8 (108 : Nat) (@UInt8.instOfNat (108 : Nat))), (@OfNat.ofNat UInt8 (105 : Nat) (@UInt8.instOfNat (105 : Nat))), (@OfNat.ofNat UInt8 (101 : Nat) (@UInt8.instOfNat (101 : Nat))), (@OfNat.ofNat UInt8 (110 : Nat) (@UInt8.instOfNat (110 : Nat))), (@OfNat.ofNat UInt8 (116 : Nat) (@UInt8.instOfNat (116 : Nat))), (@OfNat.ofNat UInt8 (80 : Nat) (@UInt8.instOfNat (80 : Nat))), (@OfNat.ofNat UInt8 (97 : Nat) (@UInt8.instOfNat (97 : Nat))), (@OfNat.ofNat UInt8 (115 : Nat) (@UInt8.instOfNat (115 : Nat))), (@OfNat.ofNat UInt8 (115 : Nat) (@UInt8.instOfNat (115 : Nat)))] : List (UInt8))))) fun (v1 : ((Arr Int 16) × Int)) =>
 Option.bind (@mppe_Master N v1.1 (@Arr.cons Int (23 : Nat) (130 : Int) (@Arr.cons Int (22 : Nat) (48 : Int) (@Arr.cons Int (21 : Nat) (158 : Int) (@Arr.cons Int (20 : Nat) (205 : Int) (@Arr.cons Int (19 : Nat) (141 : Int) (@Arr.cons Int (18 : Nat) (112 : Int) (@Arr.cons Int (17 : Nat) (139 : Int) (@Arr.cons Int (16 : Nat) (94 : Int) (@Arr.cons Int (15 : Nat) (160 : Int) (@Arr.cons Int (14 : Nat) (143 : Int) (@Arr.cons Int (13 : Nat) (170 : Int) (@Arr.cons Int (12 : Nat) (57 : Int) (@Arr.cons Int (11 : Nat) (129 : Int) (@Arr.cons Int (10 : Nat) (205 : Int) (@Arr.cons Int (9 : Nat) (131 : Int) (@Arr.cons Int (8 : Nat) (84 : Int) (@Arr.cons Int (7 : Nat) (66 : Int) (@Arr.cons Int (6 : Nat) (51 : Int) (@Arr.cons Int (5 : Nat) (17 : Int) (@Arr.cons Int (4 : Nat) (74 : Int) (@Arr.cons Int (3 : Nat) (61 : Int) (@Arr.cons Int (2 : Nat) (133 : Int) (@Arr.cons Int (1 : Nat) (214 : Int) (@Arr.cons Int (0 : Nat) (223 : Int) (@Arr.nil Int)))))))))))))))))))))))))) fun (v2 : (Arr Int 16)) =>
 Option.bind (@GetElem?.getElem? (List Int) Nat Int (fun (as3 : (List Int)) => (fun (i4 : Nat) => (@LT.lt Nat @instLTNat i4 (List.length as3)))) (@List.instGetElem?NatLtLength Int) v2.l (Int.toNat (0 : Int))) fun (v3 : Int) =>
 bif (decide (v3 = (253 : Int))) then
  Option.bind (@GetElem?.getElem? (List Int) Nat Int (fun (as4 : (List Int)) => (fun (i5 : Nat) => (@LT.lt Nat @instLTNat i5 (List.length as4)))) (@List.instGetElem?NatLtLength Int) v2.l (Int.toNat (1 : Int))) fun (v4 : Int) =>
  bif (@cond Bool @Bool.true (decide (v4 = (236 : Int))) @Bool.false) then
   Option.bind (@GetElem?.getElem? (List Int) Nat Int (fun (as5 : (List Int)) => (fun (i6 : Nat) => (@LT.lt Nat @instLTNat i6 (List.length as5)))) (@List.instGetElem?NatLtLength Int) v2.l (Int.toNat (15 : Int))) fun (v5 : Int) =>
   bif (@cond Bool @Bool.true (decide (v5 = (49 : Int))) @Bool.false) then
    Option.bind (@mppe_Of N v2 @Bool.true) fun (v6 : ((Arr Int 16) × (Arr Int 16))) =>
    Option.bind (getI v6.1.l (0 : Int)) fun (v7 : Int) =>
    some ((@cond Bool @Bool.true (decide (v7 = (139 : Int))) @Bool.false))
   else
    some (@Bool.false)
  else
   some (@Bool.false)
 else
  some (@Bool.false)
theorem law12_alive_S (N : Nat) : (runK Go.Proofs.Tryd.prog (Ev131 N) 400 22 [] [.bool] ()).run = law12_alive N  := by kernel_rfl
theorem law12_alive_C (N : Nat) (y : Bool) (h : law12_alive N  = some y) : CallsK Go.Proofs.Tryd.prog 22 (valA [] ()) (tupV (valR [.bool] y)) := runK_ok hmx (Ev131_ok N _) (okFn_ok (by kernel_rfl)) (by rw [law12_alive_S]; exact h)
noncomputable def Ev132 (N : Nat) : (R : Type) → Env R := Env.addFn (Ev131 N) 22 (fun R => fnK [] [.bool] (fun c => law12_alive N ))
theorem Ev132_ok (N : Nat) (R : Type) : EnvOK Go.Proofs.Tryd.prog (Ev132 N R) := EnvOK.addFn hmx (Ev131_ok N R) (Ev131_ok N _) (by kernel_rfl) (fun c => law12_alive_S N )
noncomputable def Ev133 (N : Nat) : (R : Type) → Env R := Env.addBx (Ev132 N) [(5, 0)]
theorem Ev133_ok (N : Nat) (R : Type) : EnvOK Go.Proofs.Tryd.prog (Ev133 N R) := EnvOK.addBx (Ev132_ok N R) [(5, 0)]
noncomputable def law12_MppeKeys (N : Nat) (h0 : Arr (Int) 16) (response1 : Arr (Int) 24) (server2 : Bool) : Option (Bool) :=
 Option.bind (@mppe_Master N h0 response1) fun (v4 : (Arr Int 16)) =>
 Option.bind (@mppe_Of N v4 server2) fun (v5 : ((Arr Int 16) × (Arr Int 16))) =>
 Option.bind (@ref12_Master N h0 response1) fun (v6 : (Arr Int 16)) =>
 bif ((@wfB (@Td.arr (16 : Nat) (@Td.int @Go.IntKind.u8)) v4) && (@wfB (@Td.arr (16 : Nat) (@Td.int @Go.IntKind.u8)) v6)) then
  bif (@Decidable.decide (@Eq (Arr Int 16) v4 v6) (@decT (@Td.arr (16 : Nat) (@Td.int @Go.IntKind.u8)) v4 v6)) then
   Option.bind (@ref12_Key N v4 (!server2)) fun (v7 : (Arr Int 16)) =>
   bif ((@wfB (@Td.arr (16 : Nat) (@Td.int @Go.IntKind.u8)) v5.1) && (@wfB (@Td.arr (16 : Nat) (@Td.int @Go.IntKind.u8)) v7)) then
    bif (@cond Bool @Bool.true (@Decidable.decide (@Eq (Arr Int 16) v5.1 v7) (@decT (@Td.arr (16 : Nat) (@Td.int @Go.IntKind.u8)) v5.1 v7)) @Bool.false) then
     Option.bind (@ref12_Key N v4 server2) fun (v8 : (Arr Int 16)) =>
     bif ((@wfB (@Td.arr (16 : Nat) (@Td.int @Go.IntKind.u8)) v5.2) && (@wfB (@Td.arr (16 : Nat) (@Td.int @Go.IntKind.u8)) v8)) then
      bif (@cond Bool @Bool.true (@Decidable.decide (@Eq (Arr Int 16) v5.2 v8) (@decT (@Td.arr (16 : Nat) (@Td.int @Go.IntKind.u8)) v5.2 v8)) @Bool.false) then
       Option.bind (@law12_alive N) fun (v9 : Bool) =>
       some ((@cond Bool @Bool.true v9 @Bool.false))
      else
       some (@Bool.false)
     else
      none
    else
     some (@Bool.false)
   else
    none
  else
   some (@Bool.false)
 else
  none
theorem law12_MppeKeys_S (N : Nat) (h0 : Arr (Int) 16) (response1 : Arr (Int) 24) (server2 : Bool) : (runK Go.Proofs.Tryd.prog (Ev133 N) 400 5 [(.arr 16 (.int .u8)), (.arr 24 (.int .u8)), .bool] [.bool] (h0, response1, server2, ())).run = law12_MppeKeys N h0 response1 server2 := by kernel_rfl
theorem law12_MppeKeys_C (N : Nat) (h0 : Arr (Int) 16) (response1 : Arr (Int) 24) (server2 : Bool) (y : Bool) (h : law12_MppeKeys N h0 response1 server2 = some y) : CallsK Go.Proofs.Tryd.prog 5 (valA [(.arr 16 (.int .u8)), (.arr 24 (.int .u8)), .bool] (h0, response1, server2, ())) (tupV (valR [.bool] y)) := runK_ok hmx (Ev133_ok N _) (okFn_ok (by kernel_rfl)) (by rw [law12_MppeKeys_S]; exact h)
noncomputable def Ev134 (N : Nat) : (R : Type) → Env R := Env.addFn (Ev133 N) 5 (fun R => fnK [(.arr 16 (.int .u8)), (.arr 24 (.int .u8)), .bool] [.bool] (fun c => law12_MppeKeys N c.1 c.2.1 c.2.2.1))
theorem Ev134_ok (N : Nat) (R : Type) : EnvOK Go.Proofs.Tryd.prog (Ev134 N R) := EnvOK.addFn hmx (Ev133_ok N R) (Ev133_ok N _) (by kernel_rfl) (fun c => law12_MppeKeys_S N c.1 c.2.1 c.2.2.1)
noncomputable def Ev135 (N : Nat) : (R : Type) → Env R := Env.addBx (Ev134 N) [(6, 0)]
theorem Ev135_ok (N : Nat) (R : Type) : EnvOK Go.Proofs.Tryd.prog (Ev135 N R) := EnvOK.addBx (Ev134_ok N R) [(6, 0)]
noncomputable def law12_MppeUpper_L4_I : LI := ⟨94, 0, [], ⟨[(3, .adr (.arr 16 (.int .u8))), (4, .adr (.arr 24 (.int .u8))), (5, .adr (.arr 2 (.arr 16 (.int .u8)))), (7, .lit (.box 0 0)), (8, .lit (.box 1 0)), (9, .lit (.box 2 0)), (27, .ty (.int .i64))], [.box 53 (.arr 32 (.int .u8)), .box 53 (.arr 32 (.int .u8)), .box 53 (.arr 32 (.int .u8))]⟩, [(.ret, ⟨[(6, .ty .bool)], []⟩), (.exit 0, ⟨[(3, .adr (.arr 16 (.int .u8))), (4, .adr (.arr 24 (.int .u8))), (7, .lit (.box 0 0))], [.box 53 (.arr 32 (.int .u8))]⟩)]⟩
noncomputable def law12_MppeUpper_L4 (N : Nat) (X : (((Arr (Int) 16) × ((Arr (Int) 24) × ((Arr (Arr (Int) 16) 2) × ((Int) × Unit)))) × ((Arr (Int) 32) × ((Arr (Int) 32) × ((Arr (Int) 32) × Unit)))) → Option (((((Bool) × Unit) × Unit) ⊕ (((Arr (Int) 16) × ((Arr (Int) 24) × Unit)) × ((Arr (Int) 32) × Unit))))) (h3 : Arr (Int) 16) (response4 : Arr (Int) 24) (k5 : Arr (Arr (Int) 16) 2) (x27 : Int) (h0 : Arr (Int) 32) (h1 : Arr (Int) 32) (h2 : Arr (Int) 32) : Option (((((Bool) × Unit) × Unit) ⊕ (((Arr (Int) 16) × ((Arr (Int) 24) × Unit)) × ((Arr (Int) 32) × Unit)))) :=
 bif (decide (x27 < (16 : Int))) then
  bif (decide ((0 : Int) ≤ x27 ∧ x27 < (((32 : Nat) : Nat) : Int))) then
   Option.bind (@GetElem?.getElem? (List Int) Nat Int (fun (as9 : (List Int)) => (fun (i10 : Nat) => (@LT.lt Nat @instLTNat i10 (List.length as9)))) (@List.instGetElem?NatLtLength Int) h1.l (Int.toNat x27)) fun (v9 : Int) =>
   Option.bind (getI k5.l (0 : Int)) fun (v10 : (Arr Int 16)) =>
   Option.bind (getI v10.l x27) fun (v11 : Int) =>
   bif (!(decide (v9 = v11))) then
    some ((.inl ((@Bool.false, @Unit.unit), @Unit.unit)))
   else
    bif (decide ((0 : Int) ≤ (Go.IntKind.wrap .i64 ((16 : Int) + x27)) ∧ (Go.IntKind.wrap .i64 ((16 : Int) + x27)) < (((32 : Nat) : Nat) : Int))) then
     Option.bind (@GetElem?.getElem? (List Int) Nat Int (fun (as12 : (List Int)) => (fun (i13 : Nat) => (@LT.lt Nat @instLTNat i13 (List.length as12)))) (@List.instGetElem?NatLtLength Int) h1.l (Int.toNat (Go.IntKind.wrap .i64 ((16 : Int) + x27)))) fun (v12 : Int) =>
     Option.bind (getI k5.l (1 : Int)) fun (v13 : (Arr Int 16)) =>
     Option.bind (getI v13.l x27) fun (v14 : Int) =>
     bif (@cond Bool @Bool.false @Bool.true (!(decide (v12 = v14)))) then
      some ((.inl ((@Bool.false, @Unit.unit), @Unit.unit)))
     else
      bif (decide ((0 : Int) ≤ x27 ∧ x27 < (((32 : Nat) : Nat) : Int))) then
       Option.bind (@GetElem?.getElem? (List Int) Nat Int (fun (as15 : (List Int)) => (fun (i16 : Nat) => (@LT.lt Nat @instLTNat i16 (List.length as15)))) (@List.instGetElem?NatLtLength Int) h2.l (Int.toNat x27)) fun (v15 : Int) =>
       Option.bind (getI k5.l (1 : Int)) fun (v16 : (Arr Int 16)) =>
       Option.bind (getI v16.l x27) fun (v17 : Int) =>
       bif (@cond Bool @Bool.false @Bool.true (!(decide (v15 = v17)))) then
        some ((.inl ((@Bool.false, @Unit.unit), @Unit.unit)))
       else
        bif (decide ((0 : Int) ≤ (Go.IntKind.wrap .i64 ((16 : Int) + x27)) ∧ (Go.IntKind.wrap .i64 ((16 : Int) + x27)) < (((32 : Nat) : Nat) : Int))) then
         Option.bind (@GetElem?.getElem? (List Int) Nat Int (fun (as18 : (List Int)) => (fun (i19 : Nat) => (@LT.lt Nat @instLTNat i19 (List.length as18)))) (@List.instGetElem?NatLtLength Int) h2.l (Int.toNat (Go.IntKind.wrap .i64 ((16 : Int) + x27)))) fun (v18 : Int) =>
         Option.bind (getI k5.l (0 : Int)) fun (v19 : (Arr Int 16)) =>
         Option.bind (getI v19.l x27) fun (v20 : Int) =>
         bif (@cond Bool @Bool.false @Bool.true (!(decide (v18 = v20)))) then
          some ((.inl ((@Bool.false, @Unit.unit), @Unit.unit)))
         else
          (X ((h3, (response4, (k5, ((Go.IntKind.wrap .i64 (x27 + (1 : Int))), @Unit.unit)))), (h0, (h1, (h2, @Unit.unit)))))
        else
         none
      else
       none
    else
     none
  else
   none
 else
  some ((.inr ((h3, (response4, @Unit.unit)), (h0, @Unit.unit))))
noncomputable def law12_MppeUpper_L4_R (N : Nat) (c : (((Arr (Int) 16) × ((Arr (Int) 24) × ((Arr (Arr (Int) 16) 2) × ((Int) × Unit)))) × ((Arr (Int) 32) × ((Arr (Int) 32) × ((Arr (Int) 32) × Unit))))) : Option (((((Bool) × Unit) × Unit) ⊕ (((Arr (Int) 16) × ((Arr (Int) 24) × Unit)) × ((Arr (Int) 32) × Unit)))) := gl (fun X c => law12_MppeUpper_L4 N X c.1.1 c.1.2.1 c.1.2.2.1 c.1.2.2.2.1 c.2.1 c.2.2.1 c.2.2.2.1) N c
theorem law12_MppeUpper_L4_S (N : Nat) (X : (((Arr (Int) 16) × ((Arr (Int) 24) × ((Arr (Arr (Int) 16) 2) × ((Int) × Unit)))) × ((Arr (Int) 32) × ((Arr (Int) 32) × ((Arr (Int) 32) × Unit)))) → Option (((((Bool) × Unit) × Unit) ⊕ (((Arr (Int) 16) × ((Arr (Int) 24) × Unit)) × ((Arr (Int) 32) × Unit))))) (h3 : Arr (Int) 16) (response4 : Arr (Int) 24) (k5 : Arr (Arr (Int) 16) 2) (x27 : Int) (h0 : Arr (Int) 32) (h1 : Arr (Int) 32) (h2 : Arr (Int) 32) : (roundK Go.Proofs.Tryd.prog (Ev135 N) 400 [6] law12_MppeUpper_L4_I (loopAt Go.Proofs.Tryd.prog [6] 4) X ((h3, response4, k5, x27, ()), (h0, h1, h2, ()))).run = law12_MppeUpper_L4 N X h3 response4 k5 x27 h0 h1 h2 := by kernel_rfl
noncomputable def Ev136 (N : Nat) : (R : Type) → Env R := Env.addLp (Ev135 N) [6] 0 4 (fun R => lpK Go.Proofs.Tryd.prog law12_MppeUpper_L4_I (fun X c => law12_MppeUpper_L4 N X c.1.1 c.1.2.1 c.1.2.2.1 c.1.2.2.2.1 c.2.1 c.2.2.1 c.2.2.2.1) N)
theorem Ev136_ok (N : Nat) (R : Type) : EnvOK Go.Proofs.Tryd.prog (Ev136 N R) := EnvOK.addLp (Ev135_ok N R) (by kernel_rfl) (lpK_ok (li := law12_MppeUpper_L4_I) (G := fun X c => law12_MppeUpper_L4 N X c.1.1 c.1.2.1 c.1.2.2.1 c.1.2.2.2.1 c.2.1 c.2.2.1 c.2.2.2.1) hmx (Ev135_ok N _) (by kernel_rfl) loopAt_sub (fun (X : CT law12_MppeUpper_L4_I.sh → Option (OT law12_MppeUpper_L4_I.outs)) (c : CT law12_MppeUpper_L4_I.sh) => law12_MppeUpper_L4_S N X c.1.1 c.1.2.1 c.1.2.2.1 c.1.2.2.2.1 c.2.1 c.2.2.1 c.2.2.2.1) N)
noncomputable def law12_MppeUpper (N : Nat) (h0 : Arr (Int) 16) (response1 : Arr (Int) 24) (k2 : Arr (Arr (Int) 16) 2) : Option (Bool) :=
 Option.bind (@mppe_From N h0 response1 @Bool.false) fun (v4 : (Arr Int 32)) =>
 Option.bind (getI k2.l (0 : Int)) fun (v5 : (Arr Int 16)) =>
 Option.bind (getI k2.l (1 : Int)) fun (v6 : (Arr Int 16)) =>
 Option.bind (@mppe_Upper N (v5, v6) @Bool.false) fun (v7 : (Arr Int 32)) =>
 Option.bind (getI k2.l (0 : Int)) fun (v8 : (Arr Int 16)) =>
 Option.bind (getI k2.l (1 : Int)) fun (v9 : (Arr Int 16)) =>
 Option.bind (@mppe_Upper N (v8, v9) @Bool.true) fun (v10 : (Arr Int 32)) =>
 Option.bind (law12_MppeUpper_L4_R N ((h0, (response1, (k2, ((0 : Int), @Unit.unit)))), (v4, (v7, (v10, @Unit.unit))))) fun (v11 : (((Bool × Unit) × Unit) ⊕ (((Arr Int 16) × ((Arr Int 24) × Unit)) × ((Arr Int 32) × Unit)))) =>
 Sum.elim
  (fun (v12 : ((Bool × Unit) × Unit)) =>
  some (v12.1.1))
  (fun (v12 : (((Arr Int 16) × ((Arr Int 24) × Unit)) × ((Arr Int 32) × Unit))) =>
  Option.bind (@ref12_From N v12.1.1 v12.1.2.1) fun (v13 : (Arr Int 32)) =>
  bif ((@wfB (@Td.arr (32 : Nat) (@Td.int @Go.IntKind.u8)) v12.2.1) && (@wfB (@Td.arr (32 : Nat) (@Td.int @Go.IntKind.u8)) v13)) then
   bif (@Decidable.decide (@Eq (Arr Int 32) v12.2.1 v13) (@decT (@Td.arr (32 : Nat) (@Td.int @Go.IntKind.u8)) v12.2.1 v13)) then
    Option.bind (@mppe_From N v12.1.1 v12.1.2.1 @Bool.true) fun (v14 : (Arr Int 32)) =>
    bif ((@wfB (@Td.arr (32 : Nat) (@Td.int @Go.IntKind.u8)) v14) && (@wfB (@Td.arr (32 : Nat) (@Td.int @Go.IntKind.u8)) v12.2.1)) then
     bif (@cond Bool @Bool.true (@Decidable.decide (@Eq (Arr Int 32) v14 v12.2.1) (@decT (@Td.arr (32 : Nat) (@Td.int @Go.IntKind.u8)) v14 v12.2.1)) @Bool.false) then
      Option.bind (@law12_alive N) fun (v15 : Bool) =>
      some ((@cond Bool @Bool.true v15 @Bool.false))
     else
      some (@Bool.false)
    else
     none
   else
    some (@Bool.false)
  else
   none) v11
theorem law12_MppeUpper_S (N : Nat) (h0 : Arr (Int) 16) (response1 : Arr (Int) 24) (k2 : Arr (Arr (Int) 16) 2) : (runK Go.Proofs.Tryd.prog (Ev136 N) 400 6 [(.arr 16 (.int .u8)), (.arr 24 (.int .u8)), (.arr 2 (.arr 16 (.int .u8)))] [.bool] (h0, response1, k2, ())).run = law12_MppeUpper N h0 response1 k2 := by kernel_rfl
theorem law12_MppeUpper_C (N : Nat) (h0 : Arr (Int) 16) (response1 : Arr (Int) 24) (k2 : Arr (Arr (Int) 16) 2) (y : Bool) (h : law12_MppeUpper N h0 response1 k2 = some y) : CallsK Go.Proofs.Tryd.prog 6 (valA [(.arr 16 (.int .u8)), (.arr 24 (.int .u8)), (.arr 2 (.arr 16 (.int .u8)))] (h0, response1, k2, ())) (tupV (valR [.bool] y)) := runK_ok hmx (Ev136_ok N _) (okFn_ok (by kernel_rfl)) (by rw [law12_MppeUpper_S]; exact h)
noncomputable def Ev137 (N : Nat) : (R : Type) → Env R := Env.addFn (Ev136 N) 6 (fun R => fnK [(.arr 16 (.int .u8)), (.arr 24 (.int .u8)), (.arr 2 (.arr 16 (.int .u8)))] [.bool] (fun c => law12_MppeUpper N c.1 c.2.1 c.2.2.1))
theorem Ev137_ok (N : Nat) (R : Type) : EnvOK Go.Proofs.Tryd.prog (Ev137 N R) := EnvOK.addFn hmx (Ev136_ok N R) (Ev136_ok N _) (by kernel_rfl) (fun c => law12_MppeUpper_S N c.1 c.2.1 c.2.2.1)
noncomputable def Ev138 (N : Nat) : (R : Type) → Env R := Env.addBx (Ev137 N) [(7, 0)]
theorem Ev138_ok (N : Nat) (R : Type) : EnvOK Go.Proofs.Tryd.prog (Ev138 N R) := EnvOK.addBx (Ev137_ok N R) [(7, 0)]
noncomputable def law12_MppeBoth (N : Nat) (master0 : Arr (Int) 16) : Option (Bool) :=
 Option.bind (@mppe_Of N master0 @Bool.false) fun (v2 : ((Arr Int 16) × (Arr Int 16))) =>
 Option.bind (@mppe_Of N master0 @Bool.true) fun (v3 : ((Arr Int 16) × (Arr Int 16))) =>
 bif ((@wfB (@Td.arr (16 : Nat) (@Td.int @Go.IntKind.u8)) v2.1) && (@wfB (@Td.arr (16 : Nat) (@Td.int @Go.IntKind.u8)) v3.2)) then
  bif (@Decidable.decide (@Eq (Arr Int 16) v2.1 v3.2) (@decT (@Td.arr (16 : Nat) (@Td.int @Go.IntKind.u8)) v2.1 v3.2)) then
   bif ((@wfB (@Td.arr (16 : Nat) (@Td.int @Go.IntKind.u8)) v2.2) && (@wfB (@Td.arr (16 : Nat) (@Td.int @Go.IntKind.u8)) v3.1)) then
    bif (@cond Bool @Bool.true (@Decidable.decide (@Eq (Arr Int 16) v2.2 v3.1) (@decT (@Td.arr (16 : Nat) (@Td.int @Go.IntKind.u8)) v2.2 v3.1)) @Bool.false) then
     Option.bind (@mppe_Upper N (v2.1, v2.2) @Bool.false) fun (v4 : (Arr Int 32)) =>
     Option.bind (@mppe_Upper N (v3.1, v3.2) @Bool.true) fun (v5 : (Arr Int 32)) =>
     bif ((@wfB (@Td.arr (32 : Nat) (@Td.int @Go.IntKind.u8)) v4) && (@wfB (@Td.arr (32 : Nat) (@Td.int @Go.IntKind.u8)) v5)) then
      bif (@cond Bool @Bool.true (@Decidable.decide (@Eq (Arr Int 32) v4 v5) (@decT (@Td.arr (32 : Nat) (@Td.int @Go.IntKind.u8)) v4 v5)) @Bool.false) then
       Option.bind (@law12_alive N) fun (v6 : Bool) =>
       some ((@cond Bool @Bool.true v6 @Bool.false))
      else
       some (@Bool.false)
     else
      none
    else
     some (@Bool.false)
   else
    none
  else
   some (@Bool.false)
 else
  none
theorem law12_MppeBoth_S (N : Nat) (master0 : Arr (Int) 16) : (runK Go.Proofs.Tryd.prog (Ev138 N) 400 7 [(.arr 16 (.int .u8))] [.bool] (master0, ())).run = law12_MppeBoth N master0 := by kernel_rfl
theorem law12_MppeBoth_C (N : Nat) (master0 : Arr (Int) 16) (y : Bool) (h : law12_MppeBoth N master0 = some y) : CallsK Go.Proofs.Tryd.prog 7 (valA [(.arr 16 (.int .u8))] (master0, ())) (tupV (valR [.bool] y)) := runK_ok hmx (Ev138_ok N _) (okFn_ok (by kernel_rfl)) (by rw [law12_MppeBoth_S]; exact h)
noncomputable def Ev139 (N : Nat) : (R : Type) → Env R := Env.addFn (Ev138 N) 7 (fun R => fnK [(.arr 16 (.int .u8))] [.bool] (fun c => law12_MppeBoth N c.1))
theorem Ev139_ok (N : Nat) (R : Type) : EnvOK Go.Proofs.Tryd.prog (Ev139 N R) := EnvOK.addFn hmx (Ev138_ok N R) (Ev138_ok N _) (by kernel_rfl) (fun c => law12_MppeBoth_S N c.1)
end Go.Proofs.YtdkklfegpjlklaaDoor
/-
  Layer 4, on plain data: it is alive.
-/
namespace Go.Proofs.YtdkklfegpjlklaaDoor
set_option maxRecDepth 100000
set_option maxRecDepth 100000
theorem consts04 : md4_constants 200000 = some (Arr.cons 0 (Arr.cons 1518500249 (Arr.cons 1859775393 Arr.nil))) := by kernel_rfl
end Go.Proofs.YtdkklfegpjlklaaDoor
/-
  Layer 4, on plain data: words.
-/
namespace Go.Proofs.YtdkklfegpjlklaaDoor
set_option maxRecDepth 100000
open Go.RowKit
set_option linter.unusedVariables false
set_option linter.unusedSimpArgs false
set_option maxRecDepth 100000

def AllW (l : List Int) : Prop := ∀ x ∈ l, 0 ≤ x ∧ x < 4294967296
theorem AllW.get {l : List Int} (h : AllW l) (i : Nat) (hi : i < l.length) : 0 ≤ l[i] ∧ l[i] < 4294967296 := h _ (List.getElem_mem hi)
theorem AllW.set {l : List Int} (h : AllW l) (i : Nat) {x : Int} (hx : 0 ≤ x ∧ x < 4294967296) : AllW (l.set i x) := fun y hy => by
  rcases List.mem_or_eq_of_mem_set hy with h1 | rfl
  · exact h y h1
  · exact hx
theorem wf_u32 {n : Int} (h : (Lit.int .u32 n).wf = true) : 0 ≤ n ∧ n < 4294967296 := by
  simp only [Lit.wf, Bool.and_eq_true, decide_eq_true_eq, IntKind.min, IntKind.max, IntKind.signed, IntKind.bits] at h
  simp at h
  omega
theorem wfu32 {n : Int} (h : 0 ≤ n ∧ n < 4294967296) : (Lit.int .u32 n).wf = true := by
  simp only [Lit.wf, Bool.and_eq_true, decide_eq_true_eq, IntKind.min, IntKind.max, IntKind.signed, IntKind.bits]
  simp
  omega
theorem wfB_w {n : Nat} (a : Arr Int n) (h : AllW a.l) : wfB (.arr n (.int .u32)) a = true := List.all_eq_true.2 fun x hx => wfu32 (h x hx)
theorem w32 (x : Int) : Go.IntKind.wrap .u32 x = x % 4294967296 := IntKind.wrap_u32 x
theorem w32r (x : Int) : 0 ≤ Go.IntKind.wrap .u32 x ∧ Go.IntKind.wrap .u32 x < 4294967296 := by rw [w32]; omega
theorem or32r (a b : Int) : 0 ≤ bits .or .u32 a b ∧ bits .or .u32 a b < 4294967296 := w32r _
theorem not32 (b : Int) (h : 0 ≤ b ∧ b < 4294967296) : bits .xor .u32 (if IntKind.signed .u32 = true then (-1) else IntKind.max .u32) b = Go.IntKind.wrap .u32 (4294967295 - b) := by
  obtain ⟨x, rfl⟩ := Int.eq_ofNat_of_zero_le h.1
  show IntKind.u32.wrap ((BitVec.ofInt 32 4294967295 ^^^ BitVec.ofInt 32 (x : Int)).toNat : Int) = _
  have e1 : (BitVec.ofInt 32 4294967295 : BitVec 32) = BitVec.allOnes 32 := by decide
  rw [e1, BitVec.allOnes_xor, BitVec.toNat_not, BitVec.ofInt_natCast, BitVec.toNat_ofNat, w32, w32]
  have : x % 2 ^ 32 = x := Nat.mod_eq_of_lt (by omega)
  rw [this]
  omega
theorem drop4 (l : List Int) (i : Nat) (h : i + 4 ≤ l.length) : (l.drop i).take (i + 4 - i) = [l[i], l[i + 1], l[i + 2], l[i + 3]] := by
  rw [show i + 4 - i = 4 by omega, List.drop_eq_getElem_cons (by omega), List.drop_eq_getElem_cons (by omega), List.drop_eq_getElem_cons (by omega), List.drop_eq_getElem_cons (by omega)]
  rfl
section
variable {N : Nat}
theorem get4l (u z y x : Int) (hx : 0 ≤ x ∧ x < 256) (hy : 0 ≤ y ∧ y < 256) (hz : 0 ≤ z ∧ z < 256) (hu : 0 ≤ u ∧ u < 256) (hN : 100 ≤ N) : octs_Get N [u, z, y, x] true = some (((x * 256 + y) * 256 + z) * 256 + u, 0) := by
  show qOGet N [u, z, y, x] true = _
  obtain ⟨M, rfl⟩ : ∃ M, N = M + 5 := ⟨N - 5, by omega⟩
  have w3 : Go.IntKind.wrap .i64 ((0 : Int) + 1) = 1 := by decide
  have w4 : Go.IntKind.wrap .i64 ((1 : Int) + 1) = 2 := by decide
  have w5 : Go.IntKind.wrap .i64 ((2 : Int) + 1) = 3 := by decide
  have w6 : Go.IntKind.wrap .i64 ((3 : Int) + 1) = 4 := by decide
  have m0 : Go.IntKind.wrap .i64 ((8 : Int) * 0) = 0 := by decide
  have m1 : Go.IntKind.wrap .i64 ((8 : Int) * 1) = 8 := by decide
  have m2 : Go.IntKind.wrap .i64 ((8 : Int) * 2) = 16 := by decide
  have m3 : Go.IntKind.wrap .i64 ((8 : Int) * 3) = 24 := by decide
  have x1 : Go.IntKind.wrap .u64 x = x := wrapU64 (by omega) (by omega)
  have y1 : Go.IntKind.wrap .u64 y = y := wrapU64 (by omega) (by omega)
  have z1 : Go.IntKind.wrap .u64 z = z := wrapU64 (by omega) (by omega)
  have u1 : Go.IntKind.wrap .u64 u = u := wrapU64 (by omega) (by omega)
  have e0 : (2 : Int) ^ min (Int.toNat 0) (IntKind.bits IntKind.u64) = 1 := by decide
  have e1 : (2 : Int) ^ min (Int.toNat 8) (IntKind.bits IntKind.u64) = 256 := by decide
  have e2 : (2 : Int) ^ min (Int.toNat 16) (IntKind.bits IntKind.u64) = 65536 := by decide
  have e3 : (2 : Int) ^ min (Int.toNat 24) (IntKind.bits IntKind.u64) = 16777216 := by decide
  have u2 : Go.IntKind.wrap .u64 (u * 1) = u := by rw [Int.mul_one]; exact u1
  have z2 : Go.IntKind.wrap .u64 (z * 256) = z * 256 := wrapU64 (by omega) (by omega)
  have y2 : Go.IntKind.wrap .u64 (y * 65536) = y * 65536 := wrapU64 (by omega) (by omega)
  have x2 : Go.IntKind.wrap .u64 (x * 16777216) = x * 16777216 := wrapU64 (by omega) (by omega)
  have o1 : bits .or .u64 0 u = u := by
    have := or_at 0 u 0 (by decide) (by decide) (by decide) (by omega) (by simp; omega)
    simpa using this
  have o2 : bits .or .u64 u (z * 256) = z * 256 + u := or_at u z 8 (by omega) (by show u.toNat < 256; omega) (by omega) (by omega) (by show z.toNat * 256 < _; omega)
  have o3 : bits .or .u64 (z * 256 + u) (y * 65536) = y * 65536 + (z * 256 + u) := or_at (z * 256 + u) y 16 (by omega) (by show (z * 256 + u).toNat < 65536; omega) (by omega) (by omega) (by show y.toNat * 65536 < _; omega)
  have o4 : bits .or .u64 (y * 65536 + (z * 256 + u)) (x * 16777216) = x * 16777216 + (y * 65536 + (z * 256 + u)) := or_at (y * 65536 + (z * 256 + u)) x 24 (by omega) (by show (y * 65536 + (z * 256 + u)).toNat < 16777216; omega) (by omega) (by omega) (by show x.toNat * 16777216 < _; omega)
  have fin : x * 16777216 + (y * 65536 + (z * 256 + u)) = ((x * 256 + y) * 256 + z) * 256 + u := by omega
  have g0 : getI [u, z, y, x] (0 : Int) = some u := rfl
  have g1 : getI [u, z, y, x] (1 : Int) = some z := rfl
  have g2 : getI [u, z, y, x] (2 : Int) = some y := rfl
  have g3 : getI [u, z, y, x] (3 : Int) = some x := rfl
  have l4 : (([u, z, y, x] : List Int).length : Int) = 4 := rfl
  rw [← fin]
  simp only [qOGet, qOGetL5R, gl, qOGetL5, qOplace, l4, cond_false, cond_true, Option.bind_some, w3, w4, w5, w6, m0, m1, m2, m3, x1, y1, z1, u1, e0, e1, e2, e3, u2, z2, y2, x2, o1, o2, o3, o4, g0, g1, g2, g3]
  simp [w3, w4, w5, w6, m1, m2, m3, x1, y1, z1, u1, e1, e2, e3, z2, y2, x2, o2, o3, o4, g0, g1, g2, g3]
/-- A word of a row of bytes. -/
def lew (l : List Int) (j : Nat) : Int := ((l.getD (4 * j + 3) 0 * 256 + l.getD (4 * j + 2) 0) * 256 + l.getD (4 * j + 1) 0) * 256 + l.getD (4 * j) 0
theorem AllB.getD {l : List Int} (h : AllB l) (i : Nat) : 0 ≤ l.getD i 0 ∧ l.getD i 0 < 256 := by
  rw [List.getD_eq_getElem?_getD]
  cases hq : l[i]? with
  | none => simp
  | some x => exact h x (List.mem_of_getElem? hq)
theorem lew_W {l : List Int} (h : AllB l) (j : Nat) : 0 ≤ lew l j ∧ lew l j < 4294967296 := by
  have h0 := h.getD (4 * j); have h1 := h.getD (4 * j + 1); have h2 := h.getD (4 * j + 2); have h3 := h.getD (4 * j + 3)
  unfold lew; omega
theorem getD_at {l : List Int} {i : Nat} (h : i < l.length) : l.getD i 0 = l[i] := by simp [List.getD_eq_getElem?_getD, h]
theorem words_loop (hN : 10000 ≤ N) (b : Arr Int 64) (hb : AllB b.l) (h0 : Arr Int 16) : ∀ (k M i : Nat) (h1 : Arr Int 16), k + i = 16 → k < M → (∀ j, j < i → h1.l[j]? = some (lew b.l j)) →
    ∃ h2 : Arr Int 16, (∀ j, j < 16 → h2.l[j]? = some (lew b.l j)) ∧ gl (fun X c => md4_words_L3 N X c.1.1 c.1.2.1 c.2.1 c.2.2.1) M ((b, ((i : Int), ())), (h0, (h1, ()))) = some ((), (h0, (h2, ())))
  | 0, M + 1, i, h1, hk, hM, hw => by
    have c1 : ¬ ((i : Int) < 16) := by omega
    refine ⟨h1, fun j hj => hw j (by omega), ?_⟩
    simp only [gl, md4_words_L3, c1, decide_false, cond_false]
  | k + 1, M + 1, i, h1, hk, hM, hw => by
    have hl := h1.h
    have hbl := b.h
    have c1 : ((i : Int) < 16) := by omega
    have c2 : (0 : Int) ≤ (i : Int) ∧ (i : Int) < ((16 : Nat) : Int) := by omega
    have e0 : Go.IntKind.wrap .i64 ((i : Int) + 1) = ((i + 1 : Nat) : Int) := by rw [wrap64 (by omega) (by omega)]; omega
    have e1 : Int.toNat (i : Int) = i := Int.toNat_natCast i
    have g1 : h1.l[i]? = some (h1.l[i]'(by omega)) := List.getElem?_eq_getElem _
    have s1 : Go.IntKind.wrap .i64 ((4 : Int) * (i : Int)) = ((4 * i : Nat) : Int) := by rw [wrap64 (by omega) (by omega)]; omega
    have s2 : Go.IntKind.wrap .i64 (((4 * i : Nat) : Int) + 4) = ((4 * i + 4 : Nat) : Int) := by rw [wrap64 (by omega) (by omega)]; omega
    have s6 : subI b.l ((4 * i : Nat) : Int) ((4 * i + 4 : Nat) : Int) = some [b.l[4 * i]'(by omega), b.l[4 * i + 1]'(by omega), b.l[4 * i + 2]'(by omega), b.l[4 * i + 3]'(by omega)] := by
      rw [subI_nat b.l rfl rfl (by omega) (by omega), drop4 b.l (4 * i) (by omega)]
    have ba := hb.get (4 * i) (by omega)
    have bb := hb.get (4 * i + 1) (by omega)
    have bc := hb.get (4 * i + 2) (by omega)
    have bd := hb.get (4 * i + 3) (by omega)
    have s7 := get4l (N := N) _ _ _ _ bd bc bb ba (by omega)
    have hlw : lew b.l i = ((b.l[4 * i + 3]'(by omega) * 256 + b.l[4 * i + 2]'(by omega)) * 256 + b.l[4 * i + 1]'(by omega)) * 256 + b.l[4 * i]'(by omega) := by
      unfold lew
      rw [getD_at (by omega), getD_at (by omega), getD_at (by omega), getD_at (by omega)]
    rw [← hlw] at s7
    have v1 : Go.IntKind.wrap .u32 (lew b.l i) = lew b.l i := by have := lew_W hb i; rw [w32]; omega
    obtain ⟨h2, r1, r2⟩ := words_loop hN b hb h0 k M (i + 1) (h1.set i (lew b.l i)) (by omega) (by omega) (fun j hj => by
      show (h1.l.set i (lew b.l i))[j]? = _
      by_cases hji : j = i
      · subst hji; rw [List.getElem?_set_self (by omega)]
      · rw [List.getElem?_set_ne (by omega)]; exact hw j (by omega))
    refine ⟨h2, r1, ?_⟩
    rw [gl_succ]
    simp only [md4_words_L3, c1, decide_true, cond_true, s1, s2, s6, Option.bind_some, s7, c2, and_self, e1, g1, e0, v1]
    exact r2
theorem words_ok (hN : 10000 ≤ N) (b : Arr Int 64) (hb : AllB b.l) : ∃ W : Arr Int 16, (∀ j, j < 16 → W.l[j]? = some (lew b.l j)) ∧ md4_words N b = some W := by
  obtain ⟨W, h1, h2⟩ := words_loop hN b hb ⟨List.replicate 16 0, rfl⟩ 16 N 0 ⟨List.replicate 16 0, rfl⟩ (by omega) (by omega) (fun j hj => by omega)
  refine ⟨W, h1, ?_⟩
  have h2' : md4_words_L3_R N ((b, ((0 : Int), ())), ((⟨List.replicate 16 0, rfl⟩ : Arr Int 16), ((⟨List.replicate 16 0, rfl⟩ : Arr Int 16), ()))) = some ((), ((⟨List.replicate 16 0, rfl⟩ : Arr Int 16), (W, ()))) := h2
  unfold md4_words
  refine (congrArg (fun o => Option.bind o _) h2').trans ?_
  rfl
end
/-- Turned by as many bits as a step asks for. -/
theorem rot_pair (N : Nat) (x k : Int) (hk : k = 3 ∨ k = 5 ∨ k = 7 ∨ k = 9 ∨ k = 11 ∨ k = 13 ∨ k = 15 ∨ k = 19) : ∃ r, 0 ≤ r ∧ r < 4294967296 ∧ math_bits_RotateLeft32 N x k = some r ∧ ref04_turn N x k = some r := by
  rcases hk with rfl | rfl | rfl | rfl | rfl | rfl | rfl | rfl
  · exact ⟨bits .or .u32 (Go.IntKind.wrap .u32 (x * 8)) (Int.fdiv x 536870912), (or32r _ _).1, (or32r _ _).2, by kernel_rfl, by kernel_rfl⟩
  · exact ⟨bits .or .u32 (Go.IntKind.wrap .u32 (x * 32)) (Int.fdiv x 134217728), (or32r _ _).1, (or32r _ _).2, by kernel_rfl, by kernel_rfl⟩
  · exact ⟨bits .or .u32 (Go.IntKind.wrap .u32 (x * 128)) (Int.fdiv x 33554432), (or32r _ _).1, (or32r _ _).2, by kernel_rfl, by kernel_rfl⟩
  · exact ⟨bits .or .u32 (Go.IntKind.wrap .u32 (x * 512)) (Int.fdiv x 8388608), (or32r _ _).1, (or32r _ _).2, by kernel_rfl, by kernel_rfl⟩
  · exact ⟨bits .or .u32 (Go.IntKind.wrap .u32 (x * 2048)) (Int.fdiv x 2097152), (or32r _ _).1, (or32r _ _).2, by kernel_rfl, by kernel_rfl⟩
  · exact ⟨bits .or .u32 (Go.IntKind.wrap .u32 (x * 8192)) (Int.fdiv x 524288), (or32r _ _).1, (or32r _ _).2, by kernel_rfl, by kernel_rfl⟩
  · exact ⟨bits .or .u32 (Go.IntKind.wrap .u32 (x * 32768)) (Int.fdiv x 131072), (or32r _ _).1, (or32r _ _).2, by kernel_rfl, by kernel_rfl⟩
  · exact ⟨bits .or .u32 (Go.IntKind.wrap .u32 (x * 524288)) (Int.fdiv x 8192), (or32r _ _).1, (or32r _ _).2, by kernel_rfl, by kernel_rfl⟩
end Go.Proofs.YtdkklfegpjlklaaDoor
/-
  Layer 4, on plain data: blocks are the document's.
-/
namespace Go.Proofs.YtdkklfegpjlklaaDoor
set_option maxRecDepth 100000
open Go.RowKit
set_option linter.unusedVariables false
set_option linter.unusedSimpArgs false
set_option maxRecDepth 100000

def ks04 : Arr Int 3 := Arr.cons 0 (Arr.cons 1518500249 (Arr.cons 1859775393 Arr.nil))
def ta04 : List (Arr Int 4) := [⟨[3, 7, 11, 19], rfl⟩, ⟨[3, 5, 9, 13], rfl⟩, ⟨[3, 9, 11, 15], rfl⟩]
def tl04 : List (List Int) := [[3, 7, 11, 19], [3, 5, 9, 13], [3, 9, 11, 15]]
section
variable {N : Nat}
theorem div16 (i : Nat) (hi : i < 48) : Go.IntKind.wrap .i64 (Int.tdiv (i : Int) 16) = ((i / 16 : Nat) : Int) := by
  rw [Int.tdiv_eq_ediv_of_nonneg (by omega), wrap64 (by omega) (by omega)]; omega
theorem mix_pair (q : Nat) (hq : q < 3) (b c d : Int) (hb : 0 ≤ b ∧ b < 4294967296) : ∃ m k, md4_mixed N (q : Int) b c d = some m ∧ getI ks04.l (q : Int) = some k ∧ ref04_step N (q : Int) b c d = some (Go.IntKind.wrap .u32 (m + k)) := by
  have hq : q = 0 ∨ q = 1 ∨ q = 2 := by omega
  unfold md4_mixed ref04_step
  rcases hq with rfl | rfl | rfl
  · refine ⟨_, 0, rfl, rfl, ?_⟩
    rw [not32 b hb]
    have h := or32r (bits .and .u32 b c) (bits .and .u32 (Go.IntKind.wrap .u32 (4294967295 - b)) d)
    show some _ = _
    congr 1
    generalize bits .or .u32 (bits .and .u32 b c) (bits .and .u32 (Go.IntKind.wrap .u32 (4294967295 - b)) d) = z at *
    rw [w32]; omega
  · exact ⟨_, 1518500249, rfl, rfl, rfl⟩
  · exact ⟨_, 1859775393, rfl, rfl, rfl⟩
theorem place_all : ((List.range 48).all fun i => match md4_place 0 (i : Int), ref04_place 0 (i : Int) with | some a, some b => decide (a = b) && decide (0 ≤ a) && decide (a < 16) | _, _ => false) = true := by decide +kernel
theorem place_pair (i : Nat) (hi : i < 48) : ∃ j : Nat, j < 16 ∧ md4_place N (i : Int) = some (j : Int) ∧ ref04_place N (i : Int) = some (j : Int) := by
  have h := List.all_eq_true.1 place_all i (List.mem_range.2 hi)
  show ∃ j : Nat, j < 16 ∧ md4_place 0 (i : Int) = some (j : Int) ∧ ref04_place 0 (i : Int) = some (j : Int)
  revert h
  generalize md4_place 0 (i : Int) = x
  generalize ref04_place 0 (i : Int) = y
  intro h
  split at h
  · rename_i a b
    simp only [Bool.and_eq_true, decide_eq_true_eq] at h
    obtain ⟨⟨rfl, h1⟩, h2⟩ := h
    exact ⟨a.toNat, by omega, by rw [Int.toNat_of_nonneg h1], by rw [Int.toNat_of_nonneg h1]⟩
  · cases h
theorem turns_pair (i : Nat) (hi : i < 48) : ∃ (a : Arr Int 4) (l : List Int) (k : Int), getI ta04 ((i / 16 : Nat) : Int) = some a ∧ getI a.l (Int.tmod (i : Int) 4) = some k ∧ getI tl04 ((i / 16 : Nat) : Int) = some l ∧ getI l (Int.tmod (i : Int) 4) = some k ∧
    (k = 3 ∨ k = 5 ∨ k = 7 ∨ k = 9 ∨ k = 11 ∨ k = 13 ∨ k = 15 ∨ k = 19) := by
  have e : Int.tmod (i : Int) 4 = ((i % 4 : Nat) : Int) := by rw [Int.tmod_eq_emod_of_nonneg (by omega)]; omega
  rw [e]
  have hq : i / 16 = 0 ∨ i / 16 = 1 ∨ i / 16 = 2 := by omega
  have hr : i % 4 = 0 ∨ i % 4 = 1 ∨ i % 4 = 2 ∨ i % 4 = 3 := by omega
  rcases hq with hq | hq | hq <;> rcases hr with hr | hr | hr | hr <;> rw [hq, hr] <;> exact ⟨_, _, _, rfl, rfl, rfl, rfl, by decide⟩
theorem steps_pair (hN : 10000 ≤ N) (blk : Arr Int 64) (hB : AllB blk.l) (W : Arr Int 16) (hW : ∀ j, j < 16 → W.l[j]? = some (lew blk.l j)) (s : Arr Int 4) (h0 h0' : Arr Int 4) : ∀ (k M i : Nat) (t : Arr Int 4), k + i = 48 → k < M → AllW t.l →
    ∃ t2 : Arr Int 4, AllW t2.l ∧ gl (fun X c => md4_behind_L4 N X c.1.1 c.1.2.1 c.1.2.2.1 c.2.1 c.2.2.1 c.2.2.2.1) M ((s, (ks04, ((i : Int), ()))), (h0, (W, (t, ())))) = some ((s, ()), (h0, (t2, ()))) ∧
      gl (fun X c => ref04_Block_L4 N X c.1.1 c.1.2.1 c.1.2.2.1 c.1.2.2.2.1 c.2.1 c.2.2.1) M ((s, (blk, (tl04, ((i : Int), ())))), (h0', (t, ()))) = some ((s, ()), (h0', (t2, ())))
  | 0, M + 1, i, t, hk, hM, hw => by
    have c1 : ¬ ((i : Int) < 48) := by omega
    refine ⟨t, hw, ?_, ?_⟩
    · simp only [gl, md4_behind_L4, c1, decide_false, cond_false]
    · simp only [gl, ref04_Block_L4, c1, decide_false, cond_false]
  | k + 1, M + 1, i, t, hk, hM, hw => by
    have hbl := blk.h
    have c1 : ((i : Int) < 48) := by omega
    have e0 : Go.IntKind.wrap .i64 ((i : Int) + 1) = ((i + 1 : Nat) : Int) := by rw [wrap64 (by omega) (by omega)]; omega
    have dq := div16 i (by omega)
    obtain ⟨j, j1, j2, j3⟩ := place_pair (N := N) i (by omega)
    obtain ⟨ar, lr, kk, k1, k2, k3, k4, k5⟩ := turns_pair i (by omega)
    have c2 : (0 : Int) ≤ (j : Int) ∧ (j : Int) < ((16 : Nat) : Int) := by omega
    have e1 : Int.toNat (j : Int) = j := Int.toNat_natCast j
    have g1 := hW j j1
    have s1 : Go.IntKind.wrap .i64 ((4 : Int) * (j : Int)) = ((4 * j : Nat) : Int) := by rw [wrap64 (by omega) (by omega)]; omega
    have s3 : Go.IntKind.wrap .i64 (((4 * j : Nat) : Int) + 1) = ((4 * j + 1 : Nat) : Int) := by rw [wrap64 (by omega) (by omega)]; omega
    have s4 : Go.IntKind.wrap .i64 (((4 * j : Nat) : Int) + 2) = ((4 * j + 2 : Nat) : Int) := by rw [wrap64 (by omega) (by omega)]; omega
    have s5 : Go.IntKind.wrap .i64 (((4 * j : Nat) : Int) + 3) = ((4 * j + 3 : Nat) : Int) := by rw [wrap64 (by omega) (by omega)]; omega
    have ba := hB.get (4 * j) (by omega)
    have bb := hB.get (4 * j + 1) (by omega)
    have bc := hB.get (4 * j + 2) (by omega)
    have bd := hB.get (4 * j + 3) (by omega)
    have G0 := getI_lt blk.l (4 * j) (by omega)
    have G1 := getI_lt blk.l (4 * j + 1) (by omega)
    have G2 := getI_lt blk.l (4 * j + 2) (by omega)
    have G3 := getI_lt blk.l (4 * j + 3) (by omega)
    have hlw : lew blk.l j = ((blk.l[4 * j + 3]'(by omega) * 256 + blk.l[4 * j + 2]'(by omega)) * 256 + blk.l[4 * j + 1]'(by omega)) * 256 + blk.l[4 * j]'(by omega) := by
      unfold lew
      rw [getD_at (by omega), getD_at (by omega), getD_at (by omega), getD_at (by omega)]
    generalize lew blk.l j = wj at *
    generalize hx : blk.l[4 * j]'(by omega) = x at *
    generalize hy : blk.l[4 * j + 1]'(by omega) = y at *
    generalize hz : blk.l[4 * j + 2]'(by omega) = z at *
    generalize hu : blk.l[4 * j + 3]'(by omega) = u at *
    have v2 : Go.IntKind.wrap .u32 (Go.IntKind.wrap .u32 (Go.IntKind.wrap .u32 (Go.IntKind.wrap .u32 x + Go.IntKind.wrap .u32 (Go.IntKind.wrap .u32 y * 256)) + Go.IntKind.wrap .u32 (Go.IntKind.wrap .u32 z * 65536)) + Go.IntKind.wrap .u32 (Go.IntKind.wrap .u32 u * 16777216)) = wj := by
      simp only [w32]; omega
    match t, hw with
    | ⟨[a, b, c, d], ht⟩, hw =>
      have ra := hw a (by simp)
      have rb := hw b (by simp)
      have rc := hw c (by simp)
      have rd := hw d (by simp)
      obtain ⟨m, kc, m1, m2, m3⟩ := mix_pair (N := N) (i / 16) (by omega) b c d rb
      have z0 : ([a, b, c, d] : List Int)[Int.toNat 0]? = some a := rfl
      have z1 : ([a, b, c, d] : List Int)[Int.toNat 1]? = some b := rfl
      have z2 : ([a, b, c, d] : List Int)[Int.toNat 2]? = some c := rfl
      have z3 : ([a, b, c, d] : List Int)[Int.toNat 3]? = some d := rfl
      have x1 : Go.IntKind.wrap .u32 (Go.IntKind.wrap .u32 (a + Go.IntKind.wrap .u32 (m + kc)) + wj) = Go.IntKind.wrap .u32 (Go.IntKind.wrap .u32 (Go.IntKind.wrap .u32 (a + m) + wj) + kc) := by
        simp only [w32]; omega
      obtain ⟨r, r1, r2, r3, r4⟩ := rot_pair N (Go.IntKind.wrap .u32 (Go.IntKind.wrap .u32 (Go.IntKind.wrap .u32 (a + m) + wj) + kc)) kk k5
      obtain ⟨t2, q1, q2, q3⟩ := steps_pair hN blk hB W hW s h0 h0' k M (i + 1) (Arr.cons d (Arr.cons r (Arr.cons b (Arr.cons c Arr.nil)))) (by omega) (by omega) (fun x hx => by
        simp only [Arr.cons, Arr.nil, List.mem_cons, List.not_mem_nil, or_false] at hx
        rcases hx with rfl | rfl | rfl | rfl
        · exact rd
        · exact ⟨r1, r2⟩
        · exact rb
        · exact rc)
      refine ⟨t2, q1, ?_, ?_⟩
      · rw [gl_succ]
        unfold ta04 at k1
        simp only [md4_behind_L4, c1, decide_true, cond_true, z0, z1, z2, z3, Option.bind_some, dq, m1, j2, c2, and_self, e1, g1, m2, k1, k2, r3, e0]
        exact q2
      · rw [gl_succ]
        simp only [ref04_Block_L4, c1, decide_true, cond_true, z0, z1, z2, z3, Option.bind_some, dq, j3, s1, s3, s4, s5, G0, G1, G2, G3, m3, k3, k4, v2, x1, r4, e0]
        exact q3
theorem add_pair (hN : 10000 ≤ N) (s h0 : Arr Int 4) (hs : AllW s.l) : ∀ (k M i : Nat) (t : Arr Int 4), k + i = 4 → k < M → AllW t.l →
    ∃ t2 : Arr Int 4, AllW t2.l ∧ gl (fun X c => md4_behind_L11 N X c.1.1 c.1.2.1 c.2.1 c.2.2.1) M ((s, ((i : Int), ())), (h0, (t, ()))) = some ((), (h0, (t2, ()))) ∧ (gl (fun X c => ref04_Block_L11 N X c.1.1 c.1.2.1 c.2.1 c.2.2.1) M ((s, ((i : Int), ())), (h0, (t, ()))) = some ((), (h0, (t2, ()))))
  | 0, M + 1, i, t, hk, hM, hw => by
    have c1 : ¬ ((i : Int) < 4) := by omega
    refine ⟨t, hw, ?_, ?_⟩
    · simp only [gl, md4_behind_L11, c1, decide_false, cond_false]
    · simp only [gl, ref04_Block_L11, c1, decide_false, cond_false]
  | k + 1, M + 1, i, t, hk, hM, hw => by
    have hl := t.h
    have hsl := s.h
    have c1 : ((i : Int) < 4) := by omega
    have c2 : (0 : Int) ≤ (i : Int) ∧ (i : Int) < ((4 : Nat) : Int) := by omega
    have e0 : Go.IntKind.wrap .i64 ((i : Int) + 1) = ((i + 1 : Nat) : Int) := by rw [wrap64 (by omega) (by omega)]; omega
    have e1 : Int.toNat (i : Int) = i := Int.toNat_natCast i
    have g1 : t.l[i]? = some (t.l[i]'(by omega)) := List.getElem?_eq_getElem _
    have g2 := getI_lt s.l i (by omega)
    obtain ⟨t2, r1, r2, r3⟩ := add_pair hN s h0 hs k M (i + 1) (t.set i (Go.IntKind.wrap .u32 (t.l[i]'(by omega) + s.l[i]'(by omega)))) (by omega) (by omega) (hw.set i (w32r _))
    refine ⟨t2, r1, ?_, ?_⟩
    · rw [gl_succ]
      simp only [md4_behind_L11, c1, decide_true, cond_true, c2, and_self, e1, g1, g2, e0, Option.bind_some]
      exact r2
    · rw [gl_succ]
      simp only [ref04_Block_L11, c1, decide_true, cond_true, c2, and_self, e1, g1, g2, e0, Option.bind_some]
      exact r3
/-- The state behind a block: the same. -/
theorem behind_pair (hN : 10000 ≤ N) (s : Arr Int 4) (b : Arr Int 64) (hs : AllW s.l) (hb : AllB b.l) : ∃ t : Arr Int 4, AllW t.l ∧ md4_behind N s b ks04 = some t ∧ ref04_Block N s b = some t := by
  unfold md4_behind ref04_Block
  obtain ⟨W, w1, w2⟩ := words_ok (N := N) hN b hb
  obtain ⟨t, t1, t2, t3⟩ := steps_pair (N := N) hN b hb W w1 s ⟨List.replicate 4 0, rfl⟩ ⟨List.replicate 4 0, rfl⟩ 48 N 0 s (by omega) (by omega) hs
  have t2' : md4_behind_L4_R N ((s, (ks04, ((0 : Int), ()))), ((⟨List.replicate 4 0, rfl⟩ : Arr Int 4), (W, (s, ())))) = some ((s, ()), ((⟨List.replicate 4 0, rfl⟩ : Arr Int 4), (t, ()))) := t2
  have t3' : ref04_Block_L4_R N ((s, (b, (tl04, ((0 : Int), ())))), ((⟨List.replicate 4 0, rfl⟩ : Arr Int 4), (s, ()))) = some ((s, ()), ((⟨List.replicate 4 0, rfl⟩ : Arr Int 4), (t, ()))) := t3
  obtain ⟨u, u1, u2, u3⟩ := add_pair (N := N) hN s ⟨List.replicate 4 0, rfl⟩ hs 4 N 0 t (by omega) (by omega) t1
  have u2' : md4_behind_L11_R N ((s, ((0 : Int), ())), ((⟨List.replicate 4 0, rfl⟩ : Arr Int 4), (t, ()))) = some ((), ((⟨List.replicate 4 0, rfl⟩ : Arr Int 4), (u, ()))) := u2
  have u3' : ref04_Block_L11_R N ((s, ((0 : Int), ())), ((⟨List.replicate 4 0, rfl⟩ : Arr Int 4), (t, ()))) = some ((), ((⟨List.replicate 4 0, rfl⟩ : Arr Int 4), (u, ()))) := u3
  refine ⟨u, u1, ?_, ?_⟩
  · rw [w2, Option.bind_some]
    refine (congrArg (fun o => Option.bind o _) t2').trans ?_
    simp only [Option.bind_some]
    refine (congrArg (fun o => Option.bind o _) u2').trans ?_
    rfl
  · refine (congrArg (fun o => Option.bind o _) t3').trans ?_
    simp only [Option.bind_some]
    refine (congrArg (fun o => Option.bind o _) u3').trans ?_
    rfl
end
end Go.Proofs.YtdkklfegpjlklaaDoor
/-
  Layer 4, on plain data: what is put behind.
-/
namespace Go.Proofs.YtdkklfegpjlklaaDoor
set_option maxRecDepth 100000
open Go.RowKit
set_option linter.unusedVariables false
set_option linter.unusedSimpArgs false
set_option maxRecDepth 100000

/-- Eight bytes, the lowest first. -/
def le8 (n : Int) : List Int := [n % 256, n / 256 % 256, n / 65536 % 256, n / 16777216 % 256, n / 4294967296 % 256, n / 1099511627776 % 256, n / 281474976710656 % 256, n / 72057594037927936 % 256]
theorem le8_B (n : Int) : AllB (le8 n) := fun x hx => by
  simp only [le8, List.mem_cons, List.not_mem_nil, or_false] at hx
  rcases hx with rfl | rfl | rfl | rfl | rfl | rfl | rfl | rfl <;> omega
section
variable {N : Nat}
theorem put8 (n : Int) (h : 0 ≤ n ∧ n < 18446744073709551616) (hN : 100 ≤ N) : octs_Put N n 8 true = some (le8 n, 0) := by
  obtain ⟨M, rfl⟩ : ∃ M, N = M + 9 := ⟨N - 9, by omega⟩
  have r1 : roomB (Int.toNat 8) 1 = true := by decide
  have r2 : List.replicate (Int.toNat 8) (0 : Int) = [0, 0, 0, 0, 0, 0, 0, 0] := rfl
  have w1 : Go.IntKind.wrap .i64 ((8 : Int) - 1) = 7 := by decide
  have v0 : Go.IntKind.wrap .i64 ((7 : Int) - 0) = 7 := by decide
  have v1 : Go.IntKind.wrap .i64 ((7 : Int) - 1) = 6 := by decide
  have v2 : Go.IntKind.wrap .i64 ((7 : Int) - 2) = 5 := by decide
  have v3 : Go.IntKind.wrap .i64 ((7 : Int) - 3) = 4 := by decide
  have v4 : Go.IntKind.wrap .i64 ((7 : Int) - 4) = 3 := by decide
  have v5 : Go.IntKind.wrap .i64 ((7 : Int) - 5) = 2 := by decide
  have v6 : Go.IntKind.wrap .i64 ((7 : Int) - 6) = 1 := by decide
  have v7 : Go.IntKind.wrap .i64 ((7 : Int) - 7) = 0 := by decide
  have w3 : Go.IntKind.wrap .i64 ((0 : Int) + 1) = 1 := by decide
  have w4 : Go.IntKind.wrap .i64 ((1 : Int) + 1) = 2 := by decide
  have w5 : Go.IntKind.wrap .i64 ((2 : Int) + 1) = 3 := by decide
  have w6 : Go.IntKind.wrap .i64 ((3 : Int) + 1) = 4 := by decide
  have w7 : Go.IntKind.wrap .i64 ((4 : Int) + 1) = 5 := by decide
  have w8 : Go.IntKind.wrap .i64 ((5 : Int) + 1) = 6 := by decide
  have w9 : Go.IntKind.wrap .i64 ((6 : Int) + 1) = 7 := by decide
  have w10 : Go.IntKind.wrap .i64 ((7 : Int) + 1) = 8 := by decide
  have e1 : (2 : Int) ^ min (Int.toNat 8) (IntKind.bits IntKind.u64) = 256 := by decide
  have fd : ∀ x : Int, Int.fdiv x 256 = x / 256 := fun x => Int.fdiv_eq_ediv_of_nonneg _ (by decide)
  have d2 : n / 256 / 256 = n / 65536 := by omega
  have d3 : n / 65536 / 256 = n / 16777216 := by omega
  have d4 : n / 16777216 / 256 = n / 4294967296 := by omega
  have d5 : n / 4294967296 / 256 = n / 1099511627776 := by omega
  have d6 : n / 1099511627776 / 256 = n / 281474976710656 := by omega
  have d7 : n / 281474976710656 / 256 = n / 72057594037927936 := by omega
  have u8 : ∀ x : Int, Go.IntKind.wrap .u8 x = x % 256 := fun x => by rw [IntKind.wrap_u8]
  simp only [octs_Put, octs_Put_L5_R, gl, octs_Put_L5, octs_place, r1, r2, e1, cond_false, cond_true, Option.bind_some, w1, v0, v1, v2, v3, v4, v5, v6, v7, w3, w4, w5, w6, w7, w8, w9, w10]
  simp [w1, v0, v1, v2, v3, v4, v5, v6, v7, w3, w4, w5, w6, w7, w8, w9, w10, fd, d2, d3, d4, d5, d6, d7, u8, le8]
/-- So many noughts. -/
def nz (n : Int) : Nat := ((119 - n % 64) % 64).toNat
/-- What is put behind. -/
def tail4 (n : Int) : List Int := [128] ++ List.replicate (nz n) 0 ++ le8 (8 * n % 18446744073709551616)
theorem nz_lt (n : Int) : nz n < 64 := by unfold nz; omega
theorem tail4_len (n : Int) : (tail4 n).length = nz n + 9 := by simp [tail4, le8]
theorem tail4_B (n : Int) : AllB (tail4 n) := by
  refine AllB.append (AllB.append (AllB.cons (by omega) AllB.nil) fun x hx => ?_) (le8_B _)
  rw [(List.mem_replicate.1 hx).2]; omega
theorem md4_tail_ok (n : Int) (h : 0 ≤ n ∧ n < 18446744073709551616) (hN : 10000 ≤ N) : md4_Tail N n = some (tail4 n) := by
  unfold md4_Tail
  have hw : Go.IntKind.wrap .u64 ((8 : Int) * n) = 8 * n % 18446744073709551616 := by rw [IntKind.wrap_u64]
  have hz : Int.tmod (Go.IntKind.wrap .u64 ((119 : Int) - Int.tmod n 64)) 64 = ((nz n : Nat) : Int) := by
    have hm : Int.tmod n 64 = n % 64 := Int.tmod_eq_emod_of_nonneg h.1
    rw [hm, wrapU64 (by omega) (by omega), Int.tmod_eq_emod_of_nonneg (by omega)]
    unfold nz
    omega
  have hl := nz_lt n
  have c1 : ((decide ((0 : Int) ≤ ((nz n : Nat) : Int) ∧ ((nz n : Nat) : Int) ≤ ((nz n : Nat) : Int))) && roomB (nz n) 1) = true := by
    have : roomB (nz n) 1 = true := roomB_of (by have := big_len; omega) (by omega)
    simp [this]
  rw [hw, put8 _ (by omega) (by omega), hz]
  simp only [Option.bind_some, c1, cond_true, Int.toNat_natCast]
  refine (join_ok (N := N) [[128], List.replicate (nz n) 0, le8 (8 * n % 18446744073709551616)] (by simp) ?_ ?_).trans ?_
  all_goals first | omega | skip
  · simp [le8]; omega
  · simp [tail4]
theorem zeros_ok (n : Int) (h : 0 ≤ n ∧ n < 18446744073709551616) : ∀ (k M : Nat) (l : List Int), k < M → l.length + k < 1000 → (n + l.length + k) % 64 = 56 → k < 64 →
    gl (fun X c => ref04_Tail_L2 N X c.1.1 c.2.1) M ((n, ()), (l, ())) = some ((n, ()), (l ++ List.replicate k 0, ()))
  | 0, M + 1, l, hM, hl, hk, _ => by
    have e : Int.tmod (Go.IntKind.wrap .u64 (n + Go.IntKind.wrap .u64 (l.length : Int))) 64 = 56 := by
      rw [wrapU64 (x := (l.length : Int)) (by omega) (by omega), IntKind.wrap_u64, Int.tmod_eq_emod_of_nonneg (by omega)]; omega
    rw [gl_succ]
    simp only [ref04_Tail_L2, e, decide_true, Bool.not_true, cond_false, List.replicate_zero, List.append_nil]
  | k + 1, M + 1, l, hM, hl, hk, h64 => by
    have e : ¬ Int.tmod (Go.IntKind.wrap .u64 (n + Go.IntKind.wrap .u64 (l.length : Int))) 64 = 56 := by
      rw [wrapU64 (x := (l.length : Int)) (by omega) (by omega), IntKind.wrap_u64, Int.tmod_eq_emod_of_nonneg (by omega)]; omega
    have r : roomB (l.length + ([(0 : Int)] : List Int).length) 1 = true := roomB_of (by have := big_len; simp; omega) (by simp; omega)
    rw [gl_succ]
    simp only [ref04_Tail_L2, e, decide_false, Bool.not_false, cond_true, r]
    refine (zeros_ok n h k M (l ++ [0]) (by omega) (by simp; omega) (by simp; omega) (by omega)).trans ?_
    rw [List.replicate_succ, List.append_assoc]; rfl
theorem ref04_tail_ok (n : Int) (h : 0 ≤ n ∧ n < 18446744073709551616) (hN : 10000 ≤ N) : ref04_Tail N n = some ([128] ++ List.replicate (nz n) 0 ++ le8 (8 * n % 18446744073709551616)) := by
  unfold ref04_Tail
  have hl := nz_lt n
  have hz := zeros_ok (N := N) n h (nz n) N [128] (by omega) (by simp; omega) (by unfold nz; simp; omega) hl
  refine (congrArg (fun o => Option.bind o _) hz).trans ?_
  simp only [Option.bind_some]
  have hw : Go.IntKind.wrap .u64 ((8 : Int) * n) = 8 * n % 18446744073709551616 := by rw [IntKind.wrap_u64]
  rw [hw]
  have hb : 0 ≤ 8 * n % 18446744073709551616 ∧ 8 * n % 18446744073709551616 < 18446744073709551616 := by omega
  generalize 8 * n % 18446744073709551616 = m at *
  have hpl : ([128] ++ List.replicate (nz n) (0 : Int)).length = nz n + 1 := by simp
  generalize [128] ++ List.replicate (nz n) (0 : Int) = p at *
  obtain ⟨M, rfl⟩ : ∃ M, N = M + 9 := ⟨N - 9, by omega⟩
  have dv : ∀ x : Int, 0 ≤ x → x < 18446744073709551616 → Go.IntKind.wrap .u64 (Int.tdiv x 256) = x / 256 := fun x h1 h2 => by
    rw [Int.tdiv_eq_ediv_of_nonneg h1, wrapU64 (by omega) (by omega)]
  have md : ∀ x : Int, 0 ≤ x → Go.IntKind.wrap .u8 (Int.tmod x 256) = x % 256 := fun x h1 => by
    rw [Int.tmod_eq_emod_of_nonneg h1, wrapU8 (by omega) (by omega)]
  have st : ∀ (K : Nat) (x : Int) (i : Nat) (q : List Int), i < 8 → 0 ≤ x → x < 18446744073709551616 → q.length < 1000 → gl (fun X c => ref04_Tail_L6 (M + 9) X c.1.1 c.1.2.1 c.2.1) (K + 1) ((x, ((i : Int), ())), (q, ())) = gl (fun X c => ref04_Tail_L6 (M + 9) X c.1.1 c.1.2.1 c.2.1) K ((x / 256, (((i + 1 : Nat) : Int), ())), (q ++ [x % 256], ())) := fun K x i q hi h1 h2 hq => by
    have c1 : ((i : Int) < 8) := by omega
    have e0 : Go.IntKind.wrap .i64 ((i : Int) + 1) = ((i + 1 : Nat) : Int) := by rw [wrap64 (by omega) (by omega)]; omega
    have r : ∀ y : Int, roomB (q.length + ([y] : List Int).length) 1 = true := fun y => roomB_of (by have := big_len; simp; omega) (by simp; omega)
    rw [gl_succ]
    simp only [ref04_Tail_L6, c1, decide_true, cond_true, md x h1, r, dv x h1 h2, e0]
  have fin : ∀ (K : Nat) (x : Int) (q : List Int), gl (fun X c => ref04_Tail_L6 (M + 9) X c.1.1 c.1.2.1 c.2.1) (K + 1) ((x, (((8 : Nat) : Int), ())), (q, ())) = some ((), (q, ())) := fun K x q => by
    rw [gl_succ]
    rfl
  have all : ref04_Tail_L6_R (M + 9) ((m, ((0 : Int), ())), (p, ())) = some ((), (p ++ le8 m, ())) := by
    refine (st (M + 8) m 0 p (by omega) hb.1 hb.2 (by omega)).trans ?_
    refine (st (M + 7) _ 1 _ (by omega) (by omega) (by omega) (by simp; omega)).trans ?_
    refine (st (M + 6) _ 2 _ (by omega) (by omega) (by omega) (by simp; omega)).trans ?_
    refine (st (M + 5) _ 3 _ (by omega) (by omega) (by omega) (by simp; omega)).trans ?_
    refine (st (M + 4) _ 4 _ (by omega) (by omega) (by omega) (by simp; omega)).trans ?_
    refine (st (M + 3) _ 5 _ (by omega) (by omega) (by omega) (by simp; omega)).trans ?_
    refine (st (M + 2) _ 6 _ (by omega) (by omega) (by omega) (by simp; omega)).trans ?_
    refine (st (M + 1) _ 7 _ (by omega) (by omega) (by omega) (by simp; omega)).trans ?_
    refine (fin M _ _).trans ?_
    have d2 : m / 256 / 256 = m / 65536 := by omega
    have d3 : m / 65536 / 256 = m / 16777216 := by omega
    have d4 : m / 16777216 / 256 = m / 4294967296 := by omega
    have d5 : m / 4294967296 / 256 = m / 1099511627776 := by omega
    have d6 : m / 1099511627776 / 256 = m / 281474976710656 := by omega
    have d7 : m / 281474976710656 / 256 = m / 72057594037927936 := by omega
    simp only [d2, d3, d4, d5, d6, d7, List.append_assoc, List.cons_append, List.nil_append, le8]
  refine (congrArg (fun o => Option.bind o _) all).trans ?_
  rfl
theorem ref04_tail_ok' (n : Int) (h : 0 ≤ n ∧ n < 18446744073709551616) (hN : 10000 ≤ N) : ref04_Tail N n = some (tail4 n) := ref04_tail_ok n h hN
end
end Go.Proofs.YtdkklfegpjlklaaDoor
/-
  Layer 4, on plain data: digests.
-/
namespace Go.Proofs.YtdkklfegpjlklaaDoor
set_option maxRecDepth 100000
open Go.RowKit
set_option linter.unusedVariables false
set_option linter.unusedSimpArgs false
set_option maxRecDepth 100000

/-- The state behind so many blocks of bytes. -/
noncomputable def runS (t : Arr Int 4) (l : List Int) : Nat → Arr Int 4
  | 0 => t
  | m + 1 => runS ((do let a ← toArr 64 (l.take 64); md4_behind 200000 t a ks04).getD t) (l.drop 64) m
theorem flat_len (m : List (List Int)) (k : Nat) (h : ∀ p ∈ m, p.length ≤ k) : m.flatten.length ≤ k * m.length := by
  induction m with
  | nil => simp
  | cons p m ih =>
    have h1 := h p List.mem_cons_self
    have h2 := ih fun q hq => h q (List.mem_cons_of_mem _ hq)
    rw [List.flatten_cons, List.length_append, List.length_cons, Nat.mul_add]
    omega
section
variable {N : Nat}
theorem joinS (l : List (List Int)) (h0 : Arr Int 16) (hl : l.length ≤ 1000) (hs : ∀ p ∈ l, p.length ≤ 100000) (hN : 2000 ≤ N) :
    md4_Of_1_octs_Join_L3_R N ((l, ((0 : Int), (l, ((l.length : Int), ((0 : Int), ()))))), (h0, ())) = some ((l, ((l.flatten.length : Int), ())), (h0, ())) ∧
    md4_Of_1_octs_Join_L9_R N ((l, ((l.length : Int), ((0 : Int), ()))), (h0, (([] : List Int), ()))) = some ((), (h0, (l.flatten, ()))) := by
  have tk : ∀ i, (l.take i).flatten.length ≤ 100000000 := fun i => by
    have := flat_len (l.take i) 100000 fun p hp => hs p (List.mem_of_mem_take hp)
    rw [List.length_take] at this
    omega
  have hsn : ∀ i (hi : i < l.length), (l.take (i + 1)).flatten = (l.take i).flatten ++ l[i] := fun i hi => by
    have : l.take (i + 1) = l.take i ++ [l[i]] := by rw [List.take_add_one, List.getElem?_eq_getElem hi]; rfl
    rw [this, List.flatten_append]
    simp
  have h1 := gl_run (G := fun (X : ((List (List Int) × Int × List (List Int) × Int × Int × Unit) × Arr Int 16 × Unit) → Option ((List (List Int) × Int × Unit) × Arr Int 16 × Unit)) c => md4_Of_1_octs_Join_L3 N X c.1.1 c.1.2.1 c.1.2.2.1 c.1.2.2.2.1 c.1.2.2.2.2.1 c.2.1)
    (fun i => ((l, (((l.take i).flatten.length : Int), (l, ((l.length : Int), ((i : Int), ()))))), (h0, ()))) l.length ((l, ((l.flatten.length : Int), ())), (h0, ())) (fun X i hi => by
    have c1 : ((i : Int) < (l.length : Int)) := by omega
    have c2 : Go.IntKind.wrap .i64 ((i : Int) + 1) = ((i + 1 : Nat) : Int) := by rw [wrap64 (by omega) (by omega)]; omega
    have hp := hs _ (List.getElem_mem hi)
    have ht := tk i
    have c3 : Go.IntKind.wrap .i64 (((l.take i).flatten.length : Int) + (l[i].length : Int)) = (((l.take (i + 1)).flatten.length : Nat) : Int) := by rw [wrap64 (by omega) (by omega), hsn i hi, List.length_append]; omega
    simp only [md4_Of_1_octs_Join_L3, c1, decide_true, cond_true, getI_lt l i hi, Option.bind_some, c3, c2]) (fun X => by
    simp [md4_Of_1_octs_Join_L3]) N 0 (by omega) (by omega)
  have h2 := gl_run (G := fun (X : ((List (List Int) × Int × Int × Unit) × Arr Int 16 × List Int × Unit) → Option (Unit × Arr Int 16 × List Int × Unit)) c => md4_Of_1_octs_Join_L9 N X c.1.1 c.1.2.1 c.1.2.2.1 c.2.1 c.2.2.1)
    (fun i => ((l, ((l.length : Int), ((i : Int), ()))), (h0, ((l.take i).flatten, ())))) l.length ((), (h0, (l.flatten, ()))) (fun X i hi => by
    have c1 : ((i : Int) < (l.length : Int)) := by omega
    have c2 : Go.IntKind.wrap .i64 ((i : Int) + 1) = ((i + 1 : Nat) : Int) := by rw [wrap64 (by omega) (by omega)]; omega
    have hp := hs _ (List.getElem_mem hi)
    have ht := tk i
    have c3 : roomB ((l.take i).flatten.length + l[i].length) 1 = true := roomB_of (by have := big_len; omega) (by omega)
    simp only [md4_Of_1_octs_Join_L9, c1, decide_true, cond_true, getI_lt l i hi, Option.bind_some, c3, c2, hsn i hi]) (fun X => by
    simp [md4_Of_1_octs_Join_L9]) N 0 (by omega) (by omega)
  simp only [Int.natCast_zero, List.take_zero, List.flatten_nil, List.length_nil] at h1 h2
  exact ⟨h1, h2⟩
/-- The digest of a state. -/
theorem put4l (n : Int) (h : 0 ≤ n ∧ n < 4294967296) (hN : 100 ≤ N) : octs_Put N (Go.IntKind.wrap .u64 n) 4 true = some ([n % 256, n / 256 % 256, n / 65536 % 256, n / 16777216 % 256], 0) := by
  rw [wrapU64 (by omega) (by omega)]
  show qOPut N n 4 true = _
  obtain ⟨M, rfl⟩ : ∃ M, N = M + 5 := ⟨N - 5, by omega⟩
  have r1 : roomB (Int.toNat 4) 1 = true := by decide
  have r2 : List.replicate (Int.toNat 4) (0 : Int) = [0, 0, 0, 0] := rfl
  have w3 : Go.IntKind.wrap .i64 ((0 : Int) + 1) = 1 := by decide
  have w4 : Go.IntKind.wrap .i64 ((1 : Int) + 1) = 2 := by decide
  have w5 : Go.IntKind.wrap .i64 ((2 : Int) + 1) = 3 := by decide
  have w6 : Go.IntKind.wrap .i64 ((3 : Int) + 1) = 4 := by decide
  have e1 : (2 : Int) ^ min (Int.toNat 8) (IntKind.bits IntKind.u64) = 256 := by decide
  have d1 : Int.fdiv n 256 = n / 256 := Int.fdiv_eq_ediv_of_nonneg n (by decide)
  have d2 : Int.fdiv (n / 256) 256 = n / 65536 := by rw [Int.fdiv_eq_ediv_of_nonneg _ (by decide)]; omega
  have d3 : Int.fdiv (n / 65536) 256 = n / 16777216 := by rw [Int.fdiv_eq_ediv_of_nonneg _ (by decide)]; omega
  have w7 : Go.IntKind.wrap .u8 n = n % 256 := by rw [IntKind.wrap_u8]
  have w8 : Go.IntKind.wrap .u8 (n / 256) = n / 256 % 256 := by rw [IntKind.wrap_u8]
  have w9 : Go.IntKind.wrap .u8 (n / 65536) = n / 65536 % 256 := by rw [IntKind.wrap_u8]
  have w10 : Go.IntKind.wrap .u8 (n / 16777216) = n / 16777216 % 256 := by rw [IntKind.wrap_u8]
  simp only [qOPut, qOPutL5R, gl, qOPutL5, qOplace, r1, r2, e1, cond_false, cond_true, Option.bind_some, w3, w4, w5, w6]
  simp [w3, w4, w5, w6, d1, d2, d3, w7, w8, w9, w10]
def by4 (n : Int) : List Int := [n % 256, n / 256 % 256, n / 65536 % 256, n / 16777216 % 256]
theorem by4_B (n : Int) : AllB (by4 n) := fun x hx => by
  simp only [by4, List.mem_cons, List.not_mem_nil, or_false] at hx
  rcases hx with rfl | rfl | rfl | rfl <;> omega
theorem digest_ok (a b c d : Int) (ht : ([a, b, c, d] : List Int).length = 4) (ha : AllW [a, b, c, d]) (hN : 10000 ≤ N) : ∃ D : Arr Int 16, D.l = by4 a ++ by4 b ++ by4 c ++ by4 d ∧ md4_digest N ⟨[a, b, c, d], ht⟩ = some D := by
  obtain ⟨M, rfl⟩ : ∃ M, N = M + 6 := ⟨N - 6, by omega⟩
  have pa := put4l (N := M + 6) a (ha a (by simp)) (by omega)
  have pb := put4l (N := M + 6) b (ha b (by simp)) (by omega)
  have pc := put4l (N := M + 6) c (ha c (by simp)) (by omega)
  have pd := put4l (N := M + 6) d (ha d (by simp)) (by omega)
  have w3 : Go.IntKind.wrap .i64 ((0 : Int) + 1) = 1 := by decide
  have w4 : Go.IntKind.wrap .i64 ((1 : Int) + 1) = 2 := by decide
  have w5 : Go.IntKind.wrap .i64 ((2 : Int) + 1) = 3 := by decide
  have w6 : Go.IntKind.wrap .i64 ((3 : Int) + 1) = 4 := by decide
  have z0 : getI ([a, b, c, d] : List Int) 0 = some a := rfl
  have z1 : getI ([a, b, c, d] : List Int) 1 = some b := rfl
  have z2 : getI ([a, b, c, d] : List Int) 2 = some c := rfl
  have z3 : getI ([a, b, c, d] : List Int) 3 = some d := rfl
  have l0 : (decide ((0 : Int) < 4)) = true := rfl
  have l1 : (decide ((1 : Int) < 4)) = true := rfl
  have l2 : (decide ((2 : Int) < 4)) = true := rfl
  have l3 : (decide ((3 : Int) < 4)) = true := rfl
  have rm : ∀ (p : List Int) (u v x y : Int), p.length < 100 → roomB (p.length + ([u, v, x, y] : List Int).length) 1 = true := fun p u v x y hp => roomB_of (by have := big_len; simp; omega) (by simp; omega)
  have step : ∀ (K : Nat) (i j : Int) (n : Int) (p : List Int) (h0 : Arr Int 16), decide (i < 4) = true → getI ([a, b, c, d] : List Int) i = some n → octs_Put (M + 6) (Go.IntKind.wrap .u64 n) 4 true = some (by4 n, 0) → Go.IntKind.wrap .i64 (i + 1) = j → p.length < 100 →
      gl (fun X c => md4_digest_L3 (M + 6) X c.1.1 c.1.2.1 c.2.1 c.2.2.1) (K + 1) (((⟨[a, b, c, d], ht⟩ : Arr Int 4), (i, ())), (h0, (p, ()))) = gl (fun X c => md4_digest_L3 (M + 6) X c.1.1 c.1.2.1 c.2.1 c.2.2.1) K (((⟨[a, b, c, d], ht⟩ : Arr Int 4), (j, ())), (h0, (p ++ by4 n, ()))) := fun K i j n p h0 q1 q2 q3 q4 q5 => by
    rw [gl_succ]
    have r := rm p (n % 256) (n / 256 % 256) (n / 65536 % 256) (n / 16777216 % 256) q5
    have r : roomB (p.length + (by4 n).length) 1 = true := r
    simp only [md4_digest_L3, q1, cond_true, q2, Option.bind_some, q3, r, q4]
  have fin : ∀ (K : Nat) (p : List Int) (h0 : Arr Int 16), gl (fun X c => md4_digest_L3 (M + 6) X c.1.1 c.1.2.1 c.2.1 c.2.2.1) (K + 1) (((⟨[a, b, c, d], ht⟩ : Arr Int 4), ((4 : Int), ())), (h0, (p, ()))) = some ((), (h0, (p, ()))) := fun K p h0 => by
    rw [gl_succ]; rfl
  have all : ∀ h0 : Arr Int 16, md4_digest_L3_R (M + 6) (((⟨[a, b, c, d], ht⟩ : Arr Int 4), ((0 : Int), ())), (h0, (([] : List Int), ()))) = some ((), (h0, (by4 a ++ by4 b ++ by4 c ++ by4 d, ()))) := fun h0 => by
    refine (step (M + 5) 0 1 a [] h0 l0 z0 pa w3 (by simp)).trans ?_
    refine (step (M + 4) 1 2 b _ h0 l1 z1 pb w4 (by simp [by4])).trans ?_
    refine (step (M + 3) 2 3 c _ h0 l2 z2 pc w5 (by simp [by4])).trans ?_
    refine (step (M + 2) 3 4 d _ h0 l3 z3 pd w6 (by simp [by4])).trans ?_
    exact fin (M + 1) _ h0
  have hl : (by4 a ++ by4 b ++ by4 c ++ by4 d).length = 16 := by simp [by4]
  unfold md4_digest
  rw [all, Option.bind_some]
  refine ⟨⟨(by4 a ++ by4 b ++ by4 c ++ by4 d).take 16, by rw [List.length_take, hl]; rfl⟩, ?_, ?_⟩
  · exact List.take_of_length_le (by omega)
  · have : toArr 16 (by4 a ++ by4 b ++ by4 c ++ by4 d) = some ⟨(by4 a ++ by4 b ++ by4 c ++ by4 d).take 16, by rw [List.length_take, hl]; rfl⟩ := dif_pos (by omega)
    simp only [this, Option.bind_some]
end
end Go.Proofs.YtdkklfegpjlklaaDoor
/-
  Layer 4, on plain data: digests, and parts.
-/
namespace Go.Proofs.YtdkklfegpjlklaaDoor
set_option maxRecDepth 100000
open Go.RowKit
set_option linter.unusedVariables false
set_option linter.unusedSimpArgs false
set_option maxRecDepth 100000

theorem Arr.eq {α : Type} {n : Nat} {a b : Arr α n} (h : a.l = b.l) : a = b := by
  cases a; cases b; simp only at h; subst h; rfl
noncomputable def stepB (N : Nat) (t : Arr Int 4) (l : List Int) : Option (Arr Int 4) := (toArr 64 l).bind fun a => md4_behind N t a ks04
noncomputable def runB (N : Nat) : Nat → Arr Int 4 → List Int → Option (Arr Int 4)
  | 0, t, _ => some t
  | m + 1, t, l => (stepB N t (l.take 64)).bind fun t' => runB N m t' (l.drop 64)
theorem toArr64 (l : List Int) (h : 64 ≤ l.length) : ∃ a : Arr Int 64, a.l = l.take 64 ∧ toArr 64 (l.take 64) = some a := by
  have h1 : 64 ≤ (l.take 64).length := by rw [List.length_take]; omega
  refine ⟨⟨(l.take 64).take 64, by rw [List.length_take]; omega⟩, ?_, dif_pos h1⟩
  exact List.take_of_length_le (by rw [List.length_take]; omega)
section
variable {N : Nat}
theorem runB_some (hN : 10000 ≤ N) : ∀ (m : Nat) (t : Arr Int 4) (l : List Int), AllW t.l → AllB l → l.length = 64 * m → ∃ t', AllW t'.l ∧ runB N m t l = some t'
  | 0, t, l, ht, _, _ => ⟨t, ht, rfl⟩
  | m + 1, t, l, ht, hl, hm => by
    obtain ⟨a, a1, a2⟩ := toArr64 l (by omega)
    obtain ⟨t1, h1, h2, _⟩ := behind_pair (N := N) hN t a ht (by rw [a1]; exact hl.take 64)
    obtain ⟨t', h3, h4⟩ := runB_some hN m t1 (l.drop 64) h1 (hl.drop 64) (by rw [List.length_drop]; omega)
    refine ⟨t', h3, ?_⟩
    unfold runB stepB
    rw [a2, Option.bind_some, h2, Option.bind_some, h4]
/-- All blocks, one behind the other. -/
theorem loopOf (hN : 10000 ≤ N) (all : List Int) (ha : all.length < 100000) (h0 : Arr Int 16) : ∀ (m M i : Nat) (t t' : Arr Int 4), m < M → all.length = i + 64 * m → runB N m t (all.drop i) = some t' →
    gl (fun X c => md4_Of_L5 N X c.1.1 c.1.2.1 c.2.1 c.2.2.1 c.2.2.2.1) M ((all, ((i : Int), ())), (h0, (t, (ks04, ())))) = some ((), (h0, (t', ())))
  | 0, M + 1, i, t, t', hM, hi, hr => by
    have c1 : ¬ ((i : Int) < (all.length : Int)) := by omega
    have hr : some t = some t' := hr
    injection hr with hr
    subst hr
    rw [gl_succ]
    simp only [md4_Of_L5, c1, decide_false, cond_false]
  | m + 1, M + 1, i, t, t', hM, hi, hr => by
    have c1 : ((i : Int) < (all.length : Int)) := by omega
    have e0 : Go.IntKind.wrap .i64 ((i : Int) + 64) = ((i + 64 : Nat) : Int) := by rw [wrap64 (by omega) (by omega)]; omega
    have s1 : subI all (i : Int) ((i + 64 : Nat) : Int) = some ((all.drop i).take 64) := by
      rw [subI_nat all rfl rfl (by omega) (by omega)]; congr 2; omega
    unfold runB stepB at hr
    cases hb : toArr 64 ((all.drop i).take 64) with
    | none => rw [hb] at hr; cases hr
    | some a =>
      rw [hb, Option.bind_some] at hr
      cases hc : md4_behind N t a ks04 with
      | none => rw [hc] at hr; cases hr
      | some t1 =>
        rw [hc, Option.bind_some, List.drop_drop] at hr
        have ih := loopOf hN all ha h0 m M (i + 64) t1 t' (by omega) (by omega) (by rw [show i + 64 = i + 64 from rfl]; exact hr)
        rw [gl_succ]
        simp only [md4_Of_L5, c1, decide_true, cond_true, e0, s1, Option.bind_some, hb, hc]
        exact ih
theorem fillOf (hN : 10000 ≤ N) (all : List Int) (ha : all.length < 100000) (h0 : Arr Int 16) (t : Arr Int 4) (x : Nat) (hx : x + 64 ≤ all.length) : ∀ (k M i : Nat) (blk : Arr Int 64), k + i = 64 → k < M →
    ∃ b2 : Arr Int 64, b2.l = blk.l.take i ++ (all.drop (x + i)).take k ∧ gl (fun X c => ref04_Of_L8 N X c.1.1 c.1.2.1 c.2.1 c.2.2.1 c.2.2.2.1 c.2.2.2.2.1) M (((x : Int), ((i : Int), ())), (h0, (all, (t, (blk, ()))))) = some (((x : Int), ()), (h0, (all, (t, (b2, ())))))
  | 0, M + 1, i, blk, hk, hM => by
    have c1 : ¬ ((i : Int) < 64) := by omega
    refine ⟨blk, ?_, ?_⟩
    · rw [List.take_of_length_le (by rw [blk.h]; omega), List.take_zero, List.append_nil]
    · rw [gl_succ]
      simp only [ref04_Of_L8, c1, decide_false, cond_false]
  | k + 1, M + 1, i, blk, hk, hM => by
    have hbl := blk.h
    have c1 : ((i : Int) < 64) := by omega
    have e0 : Go.IntKind.wrap .i64 ((i : Int) + 1) = ((i + 1 : Nat) : Int) := by rw [wrap64 (by omega) (by omega)]; omega
    have e2 : Go.IntKind.wrap .i64 ((x : Int) + (i : Int)) = ((x + i : Nat) : Int) := by rw [wrap64 (by omega) (by omega)]; omega
    have c2 : (0 : Int) ≤ ((x + i : Nat) : Int) ∧ ((x + i : Nat) : Int) < (all.length : Int) := by omega
    have c3 : (0 : Int) ≤ (i : Int) ∧ (i : Int) < ((64 : Nat) : Int) := by omega
    have e1 : Int.toNat (i : Int) = i := Int.toNat_natCast i
    have e3 : Int.toNat ((x + i : Nat) : Int) = x + i := Int.toNat_natCast _
    have g1 : all[x + i]? = some (all[x + i]'(by omega)) := List.getElem?_eq_getElem _
    have g2 : blk.l[i]? = some (blk.l[i]'(by omega)) := List.getElem?_eq_getElem _
    obtain ⟨b2, h1, h2⟩ := fillOf hN all ha h0 t x hx k M (i + 1) (blk.set i (all[x + i]'(by omega))) (by omega) (by omega)
    refine ⟨b2, ?_, ?_⟩
    · rw [h1]
      have q1 : (blk.set i (all[x + i]'(by omega))).l.take (i + 1) = blk.l.take i ++ [all[x + i]'(by omega)] := by
        show (blk.l.set i _).take (i + 1) = _
        rw [List.take_add_one, List.take_set_of_le (Nat.le_refl _), List.getElem?_set_self (by omega)]
        rfl
      rw [q1, List.append_assoc]
      congr 1
      rw [List.drop_eq_getElem_cons (show x + i < all.length by omega), List.take_succ_cons]
      rfl
    · rw [gl_succ]
      simp only [ref04_Of_L8, c1, decide_true, cond_true, e2, c2, and_self, e3, g1, Option.bind_some, c3, e1, g2, e0]
      exact h2
theorem loopRef (hN : 10000 ≤ N) (all : List Int) (ha : all.length < 100000) (hB : AllB all) (h0 : Arr Int 16) : ∀ (m M i : Nat) (t t' : Arr Int 4), m < M → all.length = i + 64 * m → AllW t.l → runB N m t (all.drop i) = some t' →
    gl (fun X c => ref04_Of_L4 N X c.1.1 c.2.1 c.2.2.1 c.2.2.2.1) M (((i : Int), ()), (h0, (all, (t, ())))) = some ((), (h0, (t', ())))
  | 0, M + 1, i, t, t', hM, hi, hw, hr => by
    have c1 : ¬ ((i : Int) < (all.length : Int)) := by omega
    have hr : some t = some t' := hr
    injection hr with hr
    subst hr
    rw [gl_succ]
    simp only [ref04_Of_L4, c1, decide_false, cond_false]
  | m + 1, M + 1, i, t, t', hM, hi, hw, hr => by
    have c1 : ((i : Int) < (all.length : Int)) := by omega
    have e0 : Go.IntKind.wrap .i64 ((i : Int) + 64) = ((i + 64 : Nat) : Int) := by rw [wrap64 (by omega) (by omega)]; omega
    obtain ⟨b2, f1, f2⟩ := fillOf (N := N) hN all ha h0 t i (by omega) 64 N 0 ⟨List.replicate 64 0, rfl⟩ (by omega) (by omega)
    have f2' : ref04_Of_L8_R N (((i : Int), ((0 : Int), ())), (h0, (all, (t, ((⟨List.replicate 64 0, rfl⟩ : Arr Int 64), ()))))) = some (((i : Int), ()), (h0, (all, (t, (b2, ()))))) := f2
    have f1' : b2.l = (all.drop i).take 64 := by rw [f1]; simp
    obtain ⟨a, a1, a2⟩ := toArr64 (all.drop i) (by rw [List.length_drop]; omega)
    have hab : a = b2 := Arr.eq (by rw [a1, f1'])
    subst hab
    obtain ⟨t1, h1, h2, h3⟩ := behind_pair (N := N) hN t a hw (by rw [a1]; exact (hB.drop i).take 64)
    unfold runB stepB at hr
    rw [a2, Option.bind_some, h2, Option.bind_some, List.drop_drop] at hr
    have ih := loopRef hN all ha hB h0 m M (i + 64) t1 t' (by omega) (by omega) h1 hr
    rw [gl_succ]
    simp only [ref04_Of_L4, c1, decide_true, cond_true]
    refine (congrArg (fun o => Option.bind o _) f2').trans ?_
    simp only [Option.bind_some, h3, e0]
    exact ih
def dg4 (a b c d : Int) : List Int := by4 a ++ by4 b ++ by4 c ++ by4 d
theorem dg4_B (a b c d : Int) : AllB (dg4 a b c d) := AllB.append (AllB.append (AllB.append (by4_B a) (by4_B b)) (by4_B c)) (by4_B d)
theorem dg4_at (a b c d : Int) (i : Nat) (hi : i < 16) (v : Int) (hv : ([a, b, c, d] : List Int)[i / 4]? = some v) : (dg4 a b c d)[i]? = some (Go.IntKind.wrap .u8 (Int.fdiv v (2 ^ (8 * (i % 4))))) := by
  have fd : ∀ k : Nat, Int.fdiv v (2 ^ k) = v / 2 ^ k := fun k => Int.fdiv_eq_ediv_of_nonneg _ (Int.le_of_lt (Int.pow_pos (by decide)))
  rw [fd, IntKind.wrap_u8]
  have : i = 0 ∨ i = 1 ∨ i = 2 ∨ i = 3 ∨ i = 4 ∨ i = 5 ∨ i = 6 ∨ i = 7 ∨ i = 8 ∨ i = 9 ∨ i = 10 ∨ i = 11 ∨ i = 12 ∨ i = 13 ∨ i = 14 ∨ i = 15 := by omega
  rcases this with rfl | rfl | rfl | rfl | rfl | rfl | rfl | rfl | rfl | rfl | rfl | rfl | rfl | rfl | rfl | rfl <;> simp at hv <;> subst hv <;> simp [dg4, by4]
theorem outRef (hN : 10000 ≤ N) (a b c d : Int) (ht : ([a, b, c, d] : List Int).length = 4) (h0 : Arr Int 16) : ∀ (k M i : Nat) (o : Arr Int 16), k + i = 16 → k < M →
    ∃ D : Arr Int 16, D.l = o.l.take i ++ (dg4 a b c d).drop i ∧ gl (fun X c => ref04_Of_L14 N X c.1.1 c.2.1 c.2.2.1 c.2.2.2.1) M (((i : Int), ()), (h0, ((⟨[a, b, c, d], ht⟩ : Arr Int 4), (o, ())))) = some ((), (h0, (D, ())))
  | 0, M + 1, i, o, hk, hM => by
    have c1 : ¬ ((i : Int) < 16) := by omega
    have hol := o.h
    refine ⟨o, ?_, ?_⟩
    · rw [List.take_of_length_le (by omega), List.drop_eq_nil_of_le (by simp [dg4, by4]; omega), List.append_nil]
    · rw [gl_succ]
      simp only [ref04_Of_L14, c1, decide_false, cond_false]
  | k + 1, M + 1, i, o, hk, hM => by
    have hol := o.h
    have c1 : ((i : Int) < 16) := by omega
    have e0 : Go.IntKind.wrap .i64 ((i : Int) + 1) = ((i + 1 : Nat) : Int) := by rw [wrap64 (by omega) (by omega)]; omega
    have f1 : Go.IntKind.wrap .i64 (Int.tdiv (i : Int) 4) = ((i / 4 : Nat) : Int) := by
      rw [Int.tdiv_eq_ediv_of_nonneg (by omega), wrap64 (by omega) (by omega)]; omega
    have f0 : Go.IntKind.wrap .i64 ((8 : Int) * Int.tmod (i : Int) 4) = ((8 * (i % 4) : Nat) : Int) := by
      rw [Int.tmod_eq_emod_of_nonneg (by omega), wrap64 (by omega) (by omega)]; omega
    have c2 : (0 : Int) ≤ ((i / 4 : Nat) : Int) ∧ ((i / 4 : Nat) : Int) < ((4 : Nat) : Int) := by omega
    have c3 : (0 : Int) ≤ ((8 * (i % 4) : Nat) : Int) := by omega
    have c4 : (0 : Int) ≤ (i : Int) ∧ (i : Int) < ((16 : Nat) : Int) := by omega
    have e1 : Int.toNat (i : Int) = i := Int.toNat_natCast i
    have e2 : Int.toNat ((i / 4 : Nat) : Int) = i / 4 := Int.toNat_natCast _
    have e3 : min (Int.toNat ((8 * (i % 4) : Nat) : Int)) (IntKind.bits .u32) = 8 * (i % 4) := by
      rw [Int.toNat_natCast]; show min _ 32 = _; omega
    have g1 : ([a, b, c, d] : List Int)[i / 4]? = some (([a, b, c, d] : List Int)[i / 4]'(by simp; omega)) := List.getElem?_eq_getElem _
    have g2 : o.l[i]? = some (o.l[i]'(by omega)) := List.getElem?_eq_getElem _
    have hd := dg4_at a b c d i (by omega) _ g1
    generalize ([a, b, c, d] : List Int)[i / 4]'(by simp; omega) = v at *
    obtain ⟨D, h1, h2⟩ := outRef hN a b c d ht h0 k M (i + 1) (o.set i (Go.IntKind.wrap .u8 (Int.fdiv v (2 ^ (8 * (i % 4)))))) (by omega) (by omega)
    refine ⟨D, ?_, ?_⟩
    · rw [h1]
      have q1 : (o.set i (Go.IntKind.wrap .u8 (Int.fdiv v (2 ^ (8 * (i % 4)))))).l.take (i + 1) = o.l.take i ++ [Go.IntKind.wrap .u8 (Int.fdiv v (2 ^ (8 * (i % 4))))] := by
        show (o.l.set i _).take (i + 1) = _
        rw [List.take_add_one, List.take_set_of_le (Nat.le_refl _), List.getElem?_set_self (by omega)]
        rfl
      rw [q1, List.append_assoc]
      congr 1
      obtain ⟨hlt, hv⟩ := List.getElem?_eq_some_iff.1 hd
      rw [List.drop_eq_getElem_cons hlt, hv]
      rfl
    · rw [gl_succ]
      simp only [ref04_Of_L14, c1, decide_true, cond_true, f1, c2, and_self, e2, g1, Option.bind_some, f0, c3, c4, e1, g2, e0, e3]
      exact h2
end
def first04 : Arr Int 4 := Arr.cons 1732584193 (Arr.cons 4023233417 (Arr.cons 2562383102 (Arr.cons 271733878 Arr.nil)))
theorem first_W : AllW first04.l := fun x hx => by
  simp only [first04, Arr.cons, Arr.nil, List.mem_cons, List.not_mem_nil, or_false] at hx
  rcases hx with rfl | rfl | rfl | rfl <;> omega
/-- So many blocks. -/
def nb (n : Nat) : Nat := (n + (tail4 (n : Int)).length) / 64
theorem nb_ok (n : Nat) (l : List Int) (h : l.length = n) : (l ++ tail4 (n : Int)).length = 64 * nb n := by
  unfold nb
  rw [List.length_append, tail4_len, h]
  unfold nz
  omega
/-- The digest of parts. -/
theorem of_ok (l : List (List Int)) (hl : l.length ≤ 1000) (hs : ∀ p ∈ l, p.length ≤ 5000 ∧ AllB p) (hf : l.flatten.length ≤ 5000) :
    ∃ a b c d ht, ∃ D : Arr Int 16, runB 200000 (nb l.flatten.length) first04 (l.flatten ++ tail4 (l.flatten.length : Int)) = some ⟨[a, b, c, d], ht⟩ ∧ AllW [a, b, c, d] ∧ D.l = dg4 a b c d ∧ md4_Of 200000 l = some D := by
  have hB : AllB l.flatten := fun x hx => by
    obtain ⟨p, hp, hx⟩ := List.mem_flatten.1 hx
    exact (hs p hp).2 x hx
  have hall : AllB (l.flatten ++ tail4 (l.flatten.length : Int)) := hB.append (tail4_B _)
  have hlen := nb_ok l.flatten.length l.flatten rfl
  have htl := tail4_len (l.flatten.length : Int)
  have hnz := nz_lt (l.flatten.length : Int)
  obtain ⟨t', t1, t2⟩ := runB_some (N := 200000) (by omega) (nb l.flatten.length) first04 _ first_W hall hlen
  match t', t1, t2 with
  | ⟨[a, b, c, d], ht⟩, t1, t2 =>
    obtain ⟨D, d1, d2⟩ := digest_ok (N := 200000) a b c d ht t1 (by omega)
    refine ⟨a, b, c, d, ht, D, t2, t1, d1, ?_⟩
    have hj : ∀ h0, _ := fun h0 => joinS (N := 200000) l h0 hl (fun p hp => by have := (hs p hp).1; omega) (by omega)
    have hwn : Go.IntKind.wrap .u64 (l.flatten.length : Int) = (l.flatten.length : Int) := wrapU64 (by omega) (by omega)
    have htail := md4_tail_ok (N := 200000) (l.flatten.length : Int) (by omega) (by omega)
    have c4 : (decide ((0 : Int) ≤ (0 : Int) ∧ (0 : Int) ≤ (l.flatten.length : Int)) && roomB (Int.toNat (l.flatten.length : Int)) 1) = true := by
      rw [Bool.and_eq_true]
      exact ⟨decide_eq_true ⟨by omega, by omega⟩, roomB_of (by have := big_len; omega) (by omega)⟩
    have c5 : roomB (l.flatten.length + (tail4 (l.flatten.length : Int)).length) 1 = true := roomB_of (by have := big_len; omega) (by omega)
    have hloop : ∀ h0, md4_Of_L5_R 200000 (((l.flatten ++ tail4 (l.flatten.length : Int)), ((0 : Int), ())), (h0, (first04, (ks04, ())))) = some ((), (h0, ((⟨[a, b, c, d], ht⟩ : Arr Int 4), ()))) := fun h0 =>
      loopOf (N := 200000) (by omega) _ (by rw [List.length_append]; omega) h0 (nb l.flatten.length) 200000 0 first04 _ (by rw [List.length_append] at hlen; omega) (by rw [hlen]; omega) t2
    have e0 : List.replicate (Int.toNat 0) (0 : Int) = [] := rfl
    unfold md4_Of
    rw [(hj _).1, Option.bind_some]
    simp only [c4, cond_true, e0]
    rw [(hj _).2, Option.bind_some]
    simp only [hwn]
    rw [htail, Option.bind_some]
    simp only [c5, cond_true, consts04, Option.bind_some]
    refine (congrArg (fun o => Option.bind o _) (hloop _)).trans ?_
    simp only [Option.bind_some, d2]
theorem refOf_ok (b : List Int) (hb : AllB b) (hl : b.length ≤ 1000) {a c d e : Int} {ht : ([a, c, d, e] : List Int).length = 4} (hr : runB 200000 (nb b.length) first04 (b ++ tail4 (b.length : Int)) = some ⟨[a, c, d, e], ht⟩) :
    ∃ D : Arr Int 16, D.l = dg4 a c d e ∧ ref04_Of 200000 b = some D := by
  have htl := tail4_len (b.length : Int)
  have hnz := nz_lt (b.length : Int)
  have hlen := nb_ok b.length b rfl
  have hwn : Go.IntKind.wrap .u64 (b.length : Int) = (b.length : Int) := wrapU64 (by omega) (by omega)
  have htail := ref04_tail_ok' (N := 200000) (b.length : Int) (by omega) (by omega)
  have c0 : roomB b.length 1 = true := roomB_of (by have := big_len; omega) (by omega)
  have c5 : roomB (b.length + (tail4 (b.length : Int)).length) 1 = true := roomB_of (by have := big_len; omega) (by omega)
  obtain ⟨D, d1, d2⟩ := outRef (N := 200000) (by omega) a c d e ht ⟨List.replicate 16 0, rfl⟩ 16 200000 0 ⟨List.replicate 16 0, rfl⟩ (by omega) (by omega)
  have hloop : ref04_Of_L4_R 200000 (((0 : Int), ()), ((⟨List.replicate 16 0, rfl⟩ : Arr Int 16), ((b ++ tail4 (b.length : Int)), (first04, ())))) = some ((), ((⟨List.replicate 16 0, rfl⟩ : Arr Int 16), ((⟨[a, c, d, e], ht⟩ : Arr Int 4), ()))) :=
    loopRef (N := 200000) (by omega) _ (by rw [List.length_append]; omega) (hb.append (tail4_B _)) _ (nb b.length) 200000 0 first04 _ (by rw [List.length_append] at hlen; omega) (by rw [hlen]; omega) first_W hr
  have hout : ref04_Of_L14_R 200000 (((0 : Int), ()), ((⟨List.replicate 16 0, rfl⟩ : Arr Int 16), ((⟨[a, c, d, e], ht⟩ : Arr Int 4), ((⟨List.replicate 16 0, rfl⟩ : Arr Int 16), ())))) = some ((), ((⟨List.replicate 16 0, rfl⟩ : Arr Int 16), (D, ()))) := d2
  refine ⟨D, by simpa using d1, ?_⟩
  unfold ref04_Of
  simp only [c0, cond_true, hwn, htail, Option.bind_some, c5]
  refine (congrArg (fun o => Option.bind o _) hloop).trans ?_
  simp only [Option.bind_some]
  refine (congrArg (fun o => Option.bind o _) hout).trans ?_
  rfl
theorem wfB_b {n : Nat} (a : Arr Int n) (h : AllB a.l) : wfB (.arr n (.int .u8)) a = true := List.all_eq_true.2 fun x hx => by
  have h1 := h x hx
  show (Lit.int .u8 x).wf = true
  simp only [Lit.wf, Bool.and_eq_true, decide_eq_true_eq, IntKind.min, IntKind.max, IntKind.signed, IntKind.bits]
  simp
  omega
end Go.Proofs.YtdkklfegpjlklaaDoor
/-
  Layer 5, on plain data: it is alive.
-/
namespace Go.Proofs.YtdkklfegpjlklaaDoor.Sh
set_option maxRecDepth 100000
set_option maxRecDepth 100000
theorem consts05 : sha1_constants 200000 = some (Arr.cons 1518500249 (Arr.cons 1859775393 (Arr.cons 2400959708 (Arr.cons 3395469782 Arr.nil)))) := by kernel_rfl
end Go.Proofs.YtdkklfegpjlklaaDoor.Sh
/-
  Layer 5, on plain data: blocks.
-/
namespace Go.Proofs.YtdkklfegpjlklaaDoor.Sh
set_option maxRecDepth 100000
open Go.RowKit
set_option linter.unusedVariables false
set_option linter.unusedSimpArgs false
set_option maxRecDepth 100000

def AllW (l : List Int) : Prop := ∀ x ∈ l, 0 ≤ x ∧ x < 4294967296
theorem AllW.get {l : List Int} (h : AllW l) (i : Nat) (hi : i < l.length) : 0 ≤ l[i] ∧ l[i] < 4294967296 := h _ (List.getElem_mem hi)
theorem AllW.set {l : List Int} (h : AllW l) (i : Nat) {x : Int} (hx : 0 ≤ x ∧ x < 4294967296) : AllW (l.set i x) := fun y hy => by
  rcases List.mem_or_eq_of_mem_set hy with h1 | rfl
  · exact h y h1
  · exact hx
theorem wf_u32 {n : Int} (h : (Lit.int .u32 n).wf = true) : 0 ≤ n ∧ n < 4294967296 := by
  simp only [Lit.wf, Bool.and_eq_true, decide_eq_true_eq, IntKind.min, IntKind.max, IntKind.signed, IntKind.bits] at h
  simp at h
  omega
theorem wfu32 {n : Int} (h : 0 ≤ n ∧ n < 4294967296) : (Lit.int .u32 n).wf = true := by
  simp only [Lit.wf, Bool.and_eq_true, decide_eq_true_eq, IntKind.min, IntKind.max, IntKind.signed, IntKind.bits]
  simp
  omega
theorem wfB_w {n : Nat} (a : Arr Int n) (h : AllW a.l) : wfB (.arr n (.int .u32)) a = true := List.all_eq_true.2 fun x hx => wfu32 (h x hx)
theorem w32 (x : Int) : Go.IntKind.wrap .u32 x = x % 4294967296 := IntKind.wrap_u32 x
theorem w32r (x : Int) : 0 ≤ Go.IntKind.wrap .u32 x ∧ Go.IntKind.wrap .u32 x < 4294967296 := by rw [w32]; omega
theorem or32r (a b : Int) : 0 ≤ bits .or .u32 a b ∧ bits .or .u32 a b < 4294967296 := w32r _
theorem not32 (b : Int) (h : 0 ≤ b ∧ b < 4294967296) : bits .xor .u32 (if IntKind.signed .u32 = true then (-1) else IntKind.max .u32) b = Go.IntKind.wrap .u32 (4294967295 - b) := by
  obtain ⟨x, rfl⟩ := Int.eq_ofNat_of_zero_le h.1
  show IntKind.u32.wrap ((BitVec.ofInt 32 4294967295 ^^^ BitVec.ofInt 32 (x : Int)).toNat : Int) = _
  have e1 : (BitVec.ofInt 32 4294967295 : BitVec 32) = BitVec.allOnes 32 := by decide
  rw [e1, BitVec.allOnes_xor, BitVec.toNat_not, BitVec.ofInt_natCast, BitVec.toNat_ofNat, w32, w32]
  have : x % 2 ^ 32 = x := Nat.mod_eq_of_lt (by omega)
  rw [this]
  omega
theorem drop4 (l : List Int) (i : Nat) (h : i + 4 ≤ l.length) : (l.drop i).take (i + 4 - i) = [l[i], l[i + 1], l[i + 2], l[i + 3]] := by
  rw [show i + 4 - i = 4 by omega, List.drop_eq_getElem_cons (by omega), List.drop_eq_getElem_cons (by omega), List.drop_eq_getElem_cons (by omega), List.drop_eq_getElem_cons (by omega)]
  rfl
section
variable {N : Nat}
theorem get4' (x y z u : Int) (hx : 0 ≤ x ∧ x < 256) (hy : 0 ≤ y ∧ y < 256) (hz : 0 ≤ z ∧ z < 256) (hu : 0 ≤ u ∧ u < 256) (hN : 100 ≤ N) : octs_Get N [x, y, z, u] false = some (((x * 256 + y) * 256 + z) * 256 + u, 0) := get4 x y z u hx hy hz hu hN
theorem q1 : (2 : Int) ^ min (Int.toNat (bits .and .u64 (Go.IntKind.wrap .u64 1) 31)) (IntKind.bits .u32) = 2 := by decide +kernel
theorem q2 : (2 : Int) ^ min (Int.toNat (Go.IntKind.wrap .u64 (32 - bits .and .u64 (Go.IntKind.wrap .u64 1) 31))) (IntKind.bits .u32) = 2147483648 := by decide +kernel
theorem q3 : (2 : Int) ^ min (Int.toNat 1) (IntKind.bits .u32) = 2 := by decide +kernel
theorem q4 : (2 : Int) ^ min (Int.toNat (Go.IntKind.wrap .i64 (32 - 1))) (IntKind.bits .u32) = 2147483648 := by decide +kernel
theorem words_pair (hN : 10000 ≤ N) (b : Arr Int 64) (hb : AllB b.l) (s : Arr Int 5) (h0 : Arr Int 80) (h0' : Arr Int 5) : ∀ (k M i : Nat) (h1 : Arr Int 80), k + i = 80 → k < M → AllW h1.l →
    ∃ h2 : Arr Int 80, AllW h2.l ∧ gl (fun X c => sha1_words_L3 N X c.1.1 c.1.2.1 c.2.1 c.2.2.1) M ((b, ((i : Int), ())), (h0, (h1, ()))) = some ((), (h0, (h2, ()))) ∧
      gl (fun X c => ref05_Block_L3 N X c.1.1 c.1.2.1 c.1.2.2.1 c.2.1 c.2.2.1) M ((s, (b, ((i : Int), ()))), (h0', (h1, ()))) = some ((s, ()), (h0', (h2, ())))
  | 0, M + 1, i, h1, hk, hM, hw => by
    have c1 : ¬ ((i : Int) < 80) := by omega
    refine ⟨h1, hw, ?_, ?_⟩
    · simp only [gl, sha1_words_L3, c1, decide_false, cond_false]
    · simp only [gl, ref05_Block_L3, c1, decide_false, cond_false]
  | k + 1, M + 1, i, h1, hk, hM, hw => by
    have hl := h1.h
    have hbl := b.h
    have c1 : ((i : Int) < 80) := by omega
    have c2 : (0 : Int) ≤ (i : Int) ∧ (i : Int) < ((80 : Nat) : Int) := by omega
    have e0 : Go.IntKind.wrap .i64 ((i : Int) + 1) = ((i + 1 : Nat) : Int) := by rw [wrap64 (by omega) (by omega)]; omega
    have e1 : Int.toNat (i : Int) = i := Int.toNat_natCast i
    have g1 : h1.l[i]? = some (h1.l[i]'(by omega)) := List.getElem?_eq_getElem _
    by_cases h16 : i < 16
    · have c3 : ((i : Int) < 16) := by omega
      have s1 : Go.IntKind.wrap .i64 ((4 : Int) * (i : Int)) = ((4 * i : Nat) : Int) := by rw [wrap64 (by omega) (by omega)]; omega
      have s2 : Go.IntKind.wrap .i64 (((4 * i : Nat) : Int) + 4) = ((4 * i + 4 : Nat) : Int) := by rw [wrap64 (by omega) (by omega)]; omega
      have s3 : Go.IntKind.wrap .i64 (((4 * i : Nat) : Int) + 1) = ((4 * i + 1 : Nat) : Int) := by rw [wrap64 (by omega) (by omega)]; omega
      have s4 : Go.IntKind.wrap .i64 (((4 * i : Nat) : Int) + 2) = ((4 * i + 2 : Nat) : Int) := by rw [wrap64 (by omega) (by omega)]; omega
      have s5 : Go.IntKind.wrap .i64 (((4 * i : Nat) : Int) + 3) = ((4 * i + 3 : Nat) : Int) := by rw [wrap64 (by omega) (by omega)]; omega
      have s6 : subI b.l ((4 * i : Nat) : Int) ((4 * i + 4 : Nat) : Int) = some [b.l[4 * i]'(by omega), b.l[4 * i + 1]'(by omega), b.l[4 * i + 2]'(by omega), b.l[4 * i + 3]'(by omega)] := by
        rw [subI_nat b.l rfl rfl (by omega) (by omega), drop4 b.l (4 * i) (by omega)]
      have ba := hb.get (4 * i) (by omega)
      have bb := hb.get (4 * i + 1) (by omega)
      have bc := hb.get (4 * i + 2) (by omega)
      have bd := hb.get (4 * i + 3) (by omega)
      have s7 := get4' (N := N) _ _ _ _ ba bb bc bd (by omega)
      have G0 := getI_lt b.l (4 * i) (by omega)
      have G1 := getI_lt b.l (4 * i + 1) (by omega)
      have G2 := getI_lt b.l (4 * i + 2) (by omega)
      have G3 := getI_lt b.l (4 * i + 3) (by omega)
      generalize hx : b.l[4 * i]'(by omega) = x at *
      generalize hy : b.l[4 * i + 1]'(by omega) = y at *
      generalize hz : b.l[4 * i + 2]'(by omega) = z at *
      generalize hu : b.l[4 * i + 3]'(by omega) = u at *
      have v1 : Go.IntKind.wrap .u32 (((x * 256 + y) * 256 + z) * 256 + u) = ((x * 256 + y) * 256 + z) * 256 + u := by rw [w32]; omega
      have v2 : Go.IntKind.wrap .u32 (Go.IntKind.wrap .u32 (Go.IntKind.wrap .u32 (Go.IntKind.wrap .u32 (Go.IntKind.wrap .u32 x * 16777216) + Go.IntKind.wrap .u32 (Go.IntKind.wrap .u32 y * 65536)) + Go.IntKind.wrap .u32 (Go.IntKind.wrap .u32 z * 256)) + Go.IntKind.wrap .u32 u) = ((x * 256 + y) * 256 + z) * 256 + u := by
        simp only [w32]; omega
      obtain ⟨h2, r1, r2, r3⟩ := words_pair hN b hb s h0 h0' k M (i + 1) (h1.set i (((x * 256 + y) * 256 + z) * 256 + u)) (by omega) (by omega) (hw.set i (by omega))
      refine ⟨h2, r1, ?_, ?_⟩
      · rw [gl_succ]
        simp only [sha1_words_L3, c1, c3, decide_true, cond_true, s1, s2, s6, Option.bind_some, s7, c2, and_self, e1, g1, e0, v1]
        exact r2
      · rw [gl_succ]
        simp only [ref05_Block_L3, c1, c3, decide_true, cond_true, s1, s3, s4, s5, G0, G1, G2, G3, Option.bind_some, c2, and_self, e1, g1, e0, v2]
        exact r3
    · have c3 : ¬ ((i : Int) < 16) := by omega
      have t1 : Go.IntKind.wrap .i64 ((i : Int) - 3) = ((i - 3 : Nat) : Int) := by rw [wrap64 (by omega) (by omega)]; omega
      have t2 : Go.IntKind.wrap .i64 ((i : Int) - 8) = ((i - 8 : Nat) : Int) := by rw [wrap64 (by omega) (by omega)]; omega
      have t3 : Go.IntKind.wrap .i64 ((i : Int) - 14) = ((i - 14 : Nat) : Int) := by rw [wrap64 (by omega) (by omega)]; omega
      have t4 : Go.IntKind.wrap .i64 ((i : Int) - 16) = ((i - 16 : Nat) : Int) := by rw [wrap64 (by omega) (by omega)]; omega
      have d1 : (0 : Int) ≤ ((i - 3 : Nat) : Int) ∧ ((i - 3 : Nat) : Int) < ((80 : Nat) : Int) := by omega
      have d2 : (0 : Int) ≤ ((i - 8 : Nat) : Int) ∧ ((i - 8 : Nat) : Int) < ((80 : Nat) : Int) := by omega
      have d3 : (0 : Int) ≤ ((i - 14 : Nat) : Int) ∧ ((i - 14 : Nat) : Int) < ((80 : Nat) : Int) := by omega
      have d4 : (0 : Int) ≤ ((i - 16 : Nat) : Int) ∧ ((i - 16 : Nat) : Int) < ((80 : Nat) : Int) := by omega
      have f1 : Int.toNat ((i - 3 : Nat) : Int) = i - 3 := Int.toNat_natCast _
      have f2 : Int.toNat ((i - 8 : Nat) : Int) = i - 8 := Int.toNat_natCast _
      have f3 : Int.toNat ((i - 14 : Nat) : Int) = i - 14 := Int.toNat_natCast _
      have f4 : Int.toNat ((i - 16 : Nat) : Int) = i - 16 := Int.toNat_natCast _
      have g2 : h1.l[i - 3]? = some (h1.l[i - 3]'(by omega)) := List.getElem?_eq_getElem _
      have g3 : h1.l[i - 8]? = some (h1.l[i - 8]'(by omega)) := List.getElem?_eq_getElem _
      have g4 : h1.l[i - 14]? = some (h1.l[i - 14]'(by omega)) := List.getElem?_eq_getElem _
      have g5 : h1.l[i - 16]? = some (h1.l[i - 16]'(by omega)) := List.getElem?_eq_getElem _
      generalize h1.l[i - 3]'(by omega) = x at *
      generalize h1.l[i - 8]'(by omega) = y at *
      generalize h1.l[i - 14]'(by omega) = z at *
      generalize h1.l[i - 16]'(by omega) = u at *
      obtain ⟨h2, r1, r2, r3⟩ := words_pair hN b hb s h0 h0' k M (i + 1) (h1.set i (bits .or .u32 (Go.IntKind.wrap .u32 (bits .xor .u32 (bits .xor .u32 (bits .xor .u32 x y) z) u * 2)) (Int.fdiv (bits .xor .u32 (bits .xor .u32 (bits .xor .u32 x y) z) u) 2147483648))) (by omega) (by omega) (hw.set i (or32r _ _))
      refine ⟨h2, r1, ?_, ?_⟩
      · rw [gl_succ]
        simp only [sha1_words_L3, c1, c3, decide_true, decide_false, cond_true, cond_false, t1, t2, t3, t4, d1, d2, d3, d4, f1, f2, f3, f4, g2, g3, g4, g5, Option.bind_some, c2, and_self, e1, g1, e0, q1, q2]
        exact r2
      · rw [gl_succ]
        simp only [ref05_Block_L3, c1, c3, decide_true, decide_false, cond_true, cond_false, t1, t2, t3, t4, d1, d2, d3, d4, f1, f2, f3, f4, g2, g3, g4, g5, Option.bind_some, c2, and_self, e1, g1, e0, q3, q4]
        exact r3
end
end Go.Proofs.YtdkklfegpjlklaaDoor.Sh
/-
  Layer 5, on plain data: blocks are the document's.
-/
namespace Go.Proofs.YtdkklfegpjlklaaDoor.Sh
set_option maxRecDepth 100000
open Go.RowKit
set_option linter.unusedVariables false
set_option linter.unusedSimpArgs false
set_option maxRecDepth 100000

section
variable {N : Nat}
theorem q5 : (2 : Int) ^ min (Int.toNat (bits .and .u64 (Go.IntKind.wrap .u64 5) 31)) (IntKind.bits .u32) = 32 := by decide +kernel
theorem q6 : (2 : Int) ^ min (Int.toNat (Go.IntKind.wrap .u64 (32 - bits .and .u64 (Go.IntKind.wrap .u64 5) 31))) (IntKind.bits .u32) = 134217728 := by decide +kernel
theorem q7 : (2 : Int) ^ min (Int.toNat 5) (IntKind.bits .u32) = 32 := by decide +kernel
theorem q8 : (2 : Int) ^ min (Int.toNat (Go.IntKind.wrap .i64 (32 - 5))) (IntKind.bits .u32) = 134217728 := by decide +kernel
theorem q9 : (2 : Int) ^ min (Int.toNat (bits .and .u64 (Go.IntKind.wrap .u64 30) 31)) (IntKind.bits .u32) = 1073741824 := by decide +kernel
theorem q10 : (2 : Int) ^ min (Int.toNat (Go.IntKind.wrap .u64 (32 - bits .and .u64 (Go.IntKind.wrap .u64 30) 31))) (IntKind.bits .u32) = 4 := by decide +kernel
theorem q11 : (2 : Int) ^ min (Int.toNat 30) (IntKind.bits .u32) = 1073741824 := by decide +kernel
theorem q12 : (2 : Int) ^ min (Int.toNat (Go.IntKind.wrap .i64 (32 - 30))) (IntKind.bits .u32) = 4 := by decide +kernel
def ks05 : Arr Int 4 := Arr.cons 1518500249 (Arr.cons 1859775393 (Arr.cons 2400959708 (Arr.cons 3395469782 Arr.nil)))
/-- What a step adds beside the words, and its constant. -/
theorem mix_pair (i : Nat) (hi : i < 80) (b c d : Int) (hb : 0 ≤ b ∧ b < 4294967296) : ∃ m k, sha1_mixed N (Go.IntKind.wrap .i64 (Int.tdiv (i : Int) 20)) b c d = some m ∧ getI ks05.l (Go.IntKind.wrap .i64 (Int.tdiv (i : Int) 20)) = some k ∧ ref05_mix N (i : Int) b c d = some (Go.IntKind.wrap .u32 (m + k)) := by
  have e : Go.IntKind.wrap .i64 (Int.tdiv (i : Int) 20) = ((i / 20 : Nat) : Int) := by
    rw [Int.tdiv_eq_ediv_of_nonneg (by omega), wrap64 (by omega) (by omega)]; omega
  unfold sha1_mixed ref05_mix
  rw [e]
  have hq : i / 20 = 0 ∨ i / 20 = 1 ∨ i / 20 = 2 ∨ i / 20 = 3 := by omega
  rcases hq with hq | hq | hq | hq <;> rw [hq]
  · exact ⟨_, 1518500249, rfl, rfl, by rw [not32 b hb]; rfl⟩
  · exact ⟨_, 1859775393, rfl, rfl, rfl⟩
  · exact ⟨_, 2400959708, rfl, rfl, rfl⟩
  · exact ⟨_, 3395469782, rfl, rfl, rfl⟩
theorem steps_pair (hN : 10000 ≤ N) (W : Arr Int 80) (hW : AllW W.l) (s : Arr Int 5) (h0 : Arr Int 5) (h0' : Arr Int 5) : ∀ (k M i : Nat) (t : Arr Int 5), k + i = 80 → k < M → AllW t.l →
    ∃ t2 : Arr Int 5, AllW t2.l ∧ gl (fun X c => sha1_behind_L4 N X c.1.1 c.1.2.1 c.1.2.2.1 c.2.1 c.2.2.1 c.2.2.2.1) M ((s, (ks05, ((i : Int), ()))), (h0, (W, (t, ())))) = some ((s, ()), (h0, (t2, ()))) ∧
      gl (fun X c => ref05_Block_L10 N X c.1.1 c.1.2.1 c.2.1 c.2.2.1 c.2.2.2.1) M ((s, ((i : Int), ())), (h0', (W, (t, ())))) = some ((s, ()), (h0', (t2, ())))
  | 0, M + 1, i, t, hk, hM, hw => by
    have c1 : ¬ ((i : Int) < 80) := by omega
    refine ⟨t, hw, ?_, ?_⟩
    · simp only [gl, sha1_behind_L4, c1, decide_false, cond_false]
    · simp only [gl, ref05_Block_L10, c1, decide_false, cond_false]
  | k + 1, M + 1, i, t, hk, hM, hw => by
    have hWl := W.h
    have c1 : ((i : Int) < 80) := by omega
    have c2 : (0 : Int) ≤ (i : Int) ∧ (i : Int) < ((80 : Nat) : Int) := by omega
    have e0 : Go.IntKind.wrap .i64 ((i : Int) + 1) = ((i + 1 : Nat) : Int) := by rw [wrap64 (by omega) (by omega)]; omega
    have e1 : Int.toNat (i : Int) = i := Int.toNat_natCast i
    have g1 : W.l[i]? = some (W.l[i]'(by omega)) := List.getElem?_eq_getElem _
    have hWi := hW.get i (by omega)
    generalize W.l[i]'(by omega) = wi at *
    match t, hw with
    | ⟨[a, b, c, d, e], ht⟩, hw =>
      have ra := hw a (by simp)
      have rb := hw b (by simp)
      have rc := hw c (by simp)
      have rd := hw d (by simp)
      have re := hw e (by simp)
      obtain ⟨m, kk, m1, m2, m3⟩ := mix_pair (N := N) i (by omega) b c d rb
      have z0 : ([a, b, c, d, e] : List Int)[Int.toNat 0]? = some a := rfl
      have z1 : ([a, b, c, d, e] : List Int)[Int.toNat 1]? = some b := rfl
      have z2 : ([a, b, c, d, e] : List Int)[Int.toNat 2]? = some c := rfl
      have z3 : ([a, b, c, d, e] : List Int)[Int.toNat 3]? = some d := rfl
      have z4 : ([a, b, c, d, e] : List Int)[Int.toNat 4]? = some e := rfl
      have x1 : ∀ r : Int, Go.IntKind.wrap .u32 (Go.IntKind.wrap .u32 (Go.IntKind.wrap .u32 (Go.IntKind.wrap .u32 (r + m) + e) + kk) + wi) = Go.IntKind.wrap .u32 (Go.IntKind.wrap .u32 (Go.IntKind.wrap .u32 (r + Go.IntKind.wrap .u32 (m + kk)) + e) + wi) := fun r => by
        simp only [w32]; omega
      obtain ⟨t2, r1, r2, r3⟩ := steps_pair hN W hW s h0 h0' k M (i + 1) (Arr.cons (Go.IntKind.wrap .u32 (Go.IntKind.wrap .u32 (Go.IntKind.wrap .u32 (bits .or .u32 (Go.IntKind.wrap .u32 (a * 32)) (Int.fdiv a 134217728) + Go.IntKind.wrap .u32 (m + kk)) + e) + wi)) (Arr.cons a (Arr.cons (bits .or .u32 (Go.IntKind.wrap .u32 (b * 1073741824)) (Int.fdiv b 4)) (Arr.cons c (Arr.cons d Arr.nil))))) (by omega) (by omega) (fun x hx => by
        simp only [Arr.cons, Arr.nil, List.mem_cons, List.not_mem_nil, or_false] at hx
        rcases hx with rfl | rfl | rfl | rfl | rfl
        · exact w32r _
        · exact ra
        · exact or32r _ _
        · exact rc
        · exact rd)
      refine ⟨t2, r1, ?_, ?_⟩
      · rw [gl_succ]
        simp only [sha1_behind_L4, c1, decide_true, cond_true, z0, z1, z2, z3, z4, Option.bind_some, m1, m2, c2, and_self, e1, g1, e0, q5, q6, q9, q10, x1]
        exact r2
      · rw [gl_succ]
        simp only [ref05_Block_L10, c1, decide_true, cond_true, z0, z1, z2, z3, z4, Option.bind_some, m3, c2, and_self, e1, g1, e0, q7, q8, q11, q12]
        exact r3
theorem add_pair (hN : 10000 ≤ N) (s h0 : Arr Int 5) (hs : AllW s.l) : ∀ (k M i : Nat) (t : Arr Int 5), k + i = 5 → k < M → AllW t.l →
    ∃ t2 : Arr Int 5, AllW t2.l ∧ gl (fun X c => sha1_behind_L11 N X c.1.1 c.1.2.1 c.2.1 c.2.2.1) M ((s, ((i : Int), ())), (h0, (t, ()))) = some ((), (h0, (t2, ()))) ∧ (gl (fun X c => ref05_Block_L15 N X c.1.1 c.1.2.1 c.2.1 c.2.2.1) M ((s, ((i : Int), ())), (h0, (t, ()))) = some ((), (h0, (t2, ()))))
  | 0, M + 1, i, t, hk, hM, hw => by
    have c1 : ¬ ((i : Int) < 5) := by omega
    refine ⟨t, hw, ?_, ?_⟩
    · simp only [gl, sha1_behind_L11, c1, decide_false, cond_false]
    · simp only [gl, ref05_Block_L15, c1, decide_false, cond_false]
  | k + 1, M + 1, i, t, hk, hM, hw => by
    have hl := t.h
    have hsl := s.h
    have c1 : ((i : Int) < 5) := by omega
    have c2 : (0 : Int) ≤ (i : Int) ∧ (i : Int) < ((5 : Nat) : Int) := by omega
    have e0 : Go.IntKind.wrap .i64 ((i : Int) + 1) = ((i + 1 : Nat) : Int) := by rw [wrap64 (by omega) (by omega)]; omega
    have e1 : Int.toNat (i : Int) = i := Int.toNat_natCast i
    have g1 : t.l[i]? = some (t.l[i]'(by omega)) := List.getElem?_eq_getElem _
    have g2 := getI_lt s.l i (by omega)
    obtain ⟨t2, r1, r2, r3⟩ := add_pair hN s h0 hs k M (i + 1) (t.set i (Go.IntKind.wrap .u32 (t.l[i]'(by omega) + s.l[i]'(by omega)))) (by omega) (by omega) (hw.set i (w32r _))
    refine ⟨t2, r1, ?_, ?_⟩
    · rw [gl_succ]
      simp only [sha1_behind_L11, c1, decide_true, cond_true, c2, and_self, e1, g1, g2, e0, Option.bind_some]
      exact r2
    · rw [gl_succ]
      simp only [ref05_Block_L15, c1, decide_true, cond_true, c2, and_self, e1, g1, g2, e0, Option.bind_some]
      exact r3
/-- The state behind a block: the same. -/
theorem behind_pair (hN : 10000 ≤ N) (s : Arr Int 5) (b : Arr Int 64) (hs : AllW s.l) (hb : AllB b.l) : ∃ t : Arr Int 5, AllW t.l ∧ sha1_behind N s b ks05 = some t ∧ ref05_Block N s b = some t := by
  obtain ⟨M, rfl⟩ : ∃ M, N = M := ⟨N, rfl⟩
  unfold sha1_behind sha1_words ref05_Block
  have hz : AllW (List.replicate 80 (0 : Int)) := fun x hx => by rw [(List.mem_replicate.1 hx).2]; omega
  obtain ⟨W, w1, w2, w3⟩ := words_pair (N := N) hN b hb s ⟨List.replicate 80 0, rfl⟩ ⟨List.replicate 5 0, rfl⟩ 80 N 0 ⟨List.replicate 80 0, rfl⟩ (by omega) (by omega) hz
  have w2' : sha1_words_L3_R N ((b, ((0 : Int), ())), ((⟨List.replicate 80 0, rfl⟩ : Arr Int 80), ((⟨List.replicate 80 0, rfl⟩ : Arr Int 80), ()))) = some ((), ((⟨List.replicate 80 0, rfl⟩ : Arr Int 80), (W, ()))) := w2
  have w3' : ref05_Block_L3_R N ((s, (b, ((0 : Int), ()))), ((⟨List.replicate 5 0, rfl⟩ : Arr Int 5), ((⟨List.replicate 80 0, rfl⟩ : Arr Int 80), ()))) = some ((s, ()), ((⟨List.replicate 5 0, rfl⟩ : Arr Int 5), (W, ()))) := w3
  obtain ⟨t, t1, t2, t3⟩ := steps_pair (N := N) hN W w1 s ⟨List.replicate 5 0, rfl⟩ ⟨List.replicate 5 0, rfl⟩ 80 N 0 s (by omega) (by omega) hs
  have t2' : sha1_behind_L4_R N ((s, (ks05, ((0 : Int), ()))), ((⟨List.replicate 5 0, rfl⟩ : Arr Int 5), (W, (s, ())))) = some ((s, ()), ((⟨List.replicate 5 0, rfl⟩ : Arr Int 5), (t, ()))) := t2
  have t3' : ref05_Block_L10_R N ((s, ((0 : Int), ())), ((⟨List.replicate 5 0, rfl⟩ : Arr Int 5), (W, (s, ())))) = some ((s, ()), ((⟨List.replicate 5 0, rfl⟩ : Arr Int 5), (t, ()))) := t3
  obtain ⟨u, u1, u2, u3⟩ := add_pair (N := N) hN s ⟨List.replicate 5 0, rfl⟩ hs 5 N 0 t (by omega) (by omega) t1
  have u2' : sha1_behind_L11_R N ((s, ((0 : Int), ())), ((⟨List.replicate 5 0, rfl⟩ : Arr Int 5), (t, ()))) = some ((), ((⟨List.replicate 5 0, rfl⟩ : Arr Int 5), (u, ()))) := u2
  have u3' : ref05_Block_L15_R N ((s, ((0 : Int), ())), ((⟨List.replicate 5 0, rfl⟩ : Arr Int 5), (t, ()))) = some ((), ((⟨List.replicate 5 0, rfl⟩ : Arr Int 5), (u, ()))) := u3
  refine ⟨u, u1, ?_, ?_⟩
  · refine (congrArg (fun o => Option.bind (Option.bind o _) _) w2').trans ?_
    simp only [Option.bind_some]
    refine (congrArg (fun o => Option.bind o _) t2').trans ?_
    simp only [Option.bind_some]
    refine (congrArg (fun o => Option.bind o _) u2').trans ?_
    rfl
  · refine (congrArg (fun o => Option.bind o _) w3').trans ?_
    simp only [Option.bind_some]
    refine (congrArg (fun o => Option.bind o _) t3').trans ?_
    simp only [Option.bind_some]
    refine (congrArg (fun o => Option.bind o _) u3').trans ?_
    rfl
end
end Go.Proofs.YtdkklfegpjlklaaDoor.Sh
/-
  Layer 5, on plain data: what is put behind.
-/
namespace Go.Proofs.YtdkklfegpjlklaaDoor.Sh
set_option maxRecDepth 100000
open Go.RowKit
set_option linter.unusedVariables false
set_option linter.unusedSimpArgs false
set_option maxRecDepth 100000

/-- Eight bytes of a number. -/
def by8 (n : Int) : List Int := [n / 72057594037927936 % 256, n / 281474976710656 % 256, n / 1099511627776 % 256, n / 4294967296 % 256, n / 16777216 % 256, n / 65536 % 256, n / 256 % 256, n % 256]
theorem by8_B (n : Int) : AllB (by8 n) := fun x hx => by
  simp only [by8, List.mem_cons, List.not_mem_nil, or_false] at hx
  rcases hx with rfl | rfl | rfl | rfl | rfl | rfl | rfl | rfl <;> omega
section
variable {N : Nat}
theorem put8 (n : Int) (h : 0 ≤ n ∧ n < 18446744073709551616) (hN : 100 ≤ N) : octs_Put N n 8 false = some (by8 n, 0) := by
  obtain ⟨M, rfl⟩ : ∃ M, N = M + 9 := ⟨N - 9, by omega⟩
  have r1 : roomB (Int.toNat 8) 1 = true := by decide
  have r2 : List.replicate (Int.toNat 8) (0 : Int) = [0, 0, 0, 0, 0, 0, 0, 0] := rfl
  have w1 : Go.IntKind.wrap .i64 ((8 : Int) - 1) = 7 := by decide
  have v0 : Go.IntKind.wrap .i64 ((7 : Int) - 0) = 7 := by decide
  have v1 : Go.IntKind.wrap .i64 ((7 : Int) - 1) = 6 := by decide
  have v2 : Go.IntKind.wrap .i64 ((7 : Int) - 2) = 5 := by decide
  have v3 : Go.IntKind.wrap .i64 ((7 : Int) - 3) = 4 := by decide
  have v4 : Go.IntKind.wrap .i64 ((7 : Int) - 4) = 3 := by decide
  have v5 : Go.IntKind.wrap .i64 ((7 : Int) - 5) = 2 := by decide
  have v6 : Go.IntKind.wrap .i64 ((7 : Int) - 6) = 1 := by decide
  have v7 : Go.IntKind.wrap .i64 ((7 : Int) - 7) = 0 := by decide
  have w3 : Go.IntKind.wrap .i64 ((0 : Int) + 1) = 1 := by decide
  have w4 : Go.IntKind.wrap .i64 ((1 : Int) + 1) = 2 := by decide
  have w5 : Go.IntKind.wrap .i64 ((2 : Int) + 1) = 3 := by decide
  have w6 : Go.IntKind.wrap .i64 ((3 : Int) + 1) = 4 := by decide
  have w7 : Go.IntKind.wrap .i64 ((4 : Int) + 1) = 5 := by decide
  have w8 : Go.IntKind.wrap .i64 ((5 : Int) + 1) = 6 := by decide
  have w9 : Go.IntKind.wrap .i64 ((6 : Int) + 1) = 7 := by decide
  have w10 : Go.IntKind.wrap .i64 ((7 : Int) + 1) = 8 := by decide
  have e1 : (2 : Int) ^ min (Int.toNat 8) (IntKind.bits IntKind.u64) = 256 := by decide
  have fd : ∀ x : Int, Int.fdiv x 256 = x / 256 := fun x => Int.fdiv_eq_ediv_of_nonneg _ (by decide)
  have d2 : n / 256 / 256 = n / 65536 := by omega
  have d3 : n / 65536 / 256 = n / 16777216 := by omega
  have d4 : n / 16777216 / 256 = n / 4294967296 := by omega
  have d5 : n / 4294967296 / 256 = n / 1099511627776 := by omega
  have d6 : n / 1099511627776 / 256 = n / 281474976710656 := by omega
  have d7 : n / 281474976710656 / 256 = n / 72057594037927936 := by omega
  have u8 : ∀ x : Int, Go.IntKind.wrap .u8 x = x % 256 := fun x => by rw [IntKind.wrap_u8]
  simp only [octs_Put, octs_Put_L5_R, gl, octs_Put_L5, octs_place, r1, r2, e1, cond_false, Option.bind_some, w1, v0, v1, v2, v3, v4, v5, v6, v7, w3, w4, w5, w6, w7, w8, w9, w10]
  simp [w1, v0, v1, v2, v3, v4, v5, v6, v7, w3, w4, w5, w6, w7, w8, w9, w10, fd, d2, d3, d4, d5, d6, d7, u8, by8]
/-- So many noughts. -/
def nz (n : Int) : Nat := ((119 - n % 64) % 64).toNat
/-- What is put behind. -/
def tail5 (n : Int) : List Int := [128] ++ List.replicate (nz n) 0 ++ by8 (8 * n % 18446744073709551616)
theorem nz_lt (n : Int) : nz n < 64 := by unfold nz; omega
theorem tail5_len (n : Int) : (tail5 n).length = nz n + 9 := by simp [tail5, by8]
theorem tail5_B (n : Int) : AllB (tail5 n) := by
  refine AllB.append (AllB.append (AllB.cons (by omega) AllB.nil) fun x hx => ?_) (by8_B _)
  rw [(List.mem_replicate.1 hx).2]; omega
theorem sha1_tail_ok (n : Int) (h : 0 ≤ n ∧ n < 18446744073709551616) (hN : 10000 ≤ N) : sha1_Tail N n = some (tail5 n) := by
  unfold sha1_Tail
  have hw : Go.IntKind.wrap .u64 ((8 : Int) * n) = 8 * n % 18446744073709551616 := by rw [IntKind.wrap_u64]
  have hz : Int.tmod (Go.IntKind.wrap .u64 ((119 : Int) - Int.tmod n 64)) 64 = ((nz n : Nat) : Int) := by
    have hm : Int.tmod n 64 = n % 64 := Int.tmod_eq_emod_of_nonneg h.1
    rw [hm, wrapU64 (by omega) (by omega), Int.tmod_eq_emod_of_nonneg (by omega)]
    unfold nz
    omega
  have hl := nz_lt n
  have c1 : ((decide ((0 : Int) ≤ ((nz n : Nat) : Int) ∧ ((nz n : Nat) : Int) ≤ ((nz n : Nat) : Int))) && roomB (nz n) 1) = true := by
    have : roomB (nz n) 1 = true := roomB_of (by have := big_len; omega) (by omega)
    simp [this]
  rw [hw, put8 _ (by omega) (by omega), hz]
  simp only [Option.bind_some, c1, cond_true, Int.toNat_natCast]
  refine (join_ok (N := N) [[128], List.replicate (nz n) 0, by8 (8 * n % 18446744073709551616)] (by simp) ?_ ?_).trans ?_
  all_goals first | omega | skip
  · simp [by8]; omega
  · simp [tail5]
theorem zeros_ok (n : Int) (h : 0 ≤ n ∧ n < 18446744073709551616) : ∀ (k M : Nat) (l : List Int), k < M → l.length + k < 1000 → (n + l.length + k) % 64 = 56 → k < 64 →
    gl (fun X c => ref04_Tail_L2 N X c.1.1 c.2.1) M ((n, ()), (l, ())) = some ((n, ()), (l ++ List.replicate k 0, ()))
  | 0, M + 1, l, hM, hl, hk, _ => by
    have e : Int.tmod (Go.IntKind.wrap .u64 (n + Go.IntKind.wrap .u64 (l.length : Int))) 64 = 56 := by
      rw [wrapU64 (x := (l.length : Int)) (by omega) (by omega), IntKind.wrap_u64, Int.tmod_eq_emod_of_nonneg (by omega)]; omega
    rw [gl_succ]
    simp only [ref04_Tail_L2, e, decide_true, Bool.not_true, cond_false, List.replicate_zero, List.append_nil]
  | k + 1, M + 1, l, hM, hl, hk, h64 => by
    have e : ¬ Int.tmod (Go.IntKind.wrap .u64 (n + Go.IntKind.wrap .u64 (l.length : Int))) 64 = 56 := by
      rw [wrapU64 (x := (l.length : Int)) (by omega) (by omega), IntKind.wrap_u64, Int.tmod_eq_emod_of_nonneg (by omega)]; omega
    have r : roomB (l.length + ([(0 : Int)] : List Int).length) 1 = true := roomB_of (by have := big_len; simp; omega) (by simp; omega)
    rw [gl_succ]
    simp only [ref04_Tail_L2, e, decide_false, Bool.not_false, cond_true, r]
    refine (zeros_ok n h k M (l ++ [0]) (by omega) (by simp; omega) (by simp; omega) (by omega)).trans ?_
    rw [List.replicate_succ, List.append_assoc]; rfl
/-- Eight bytes, the lowest first. -/
def le8 (n : Int) : List Int := [n % 256, n / 256 % 256, n / 65536 % 256, n / 16777216 % 256, n / 4294967296 % 256, n / 1099511627776 % 256, n / 281474976710656 % 256, n / 72057594037927936 % 256]
theorem ref04_tail_ok (n : Int) (h : 0 ≤ n ∧ n < 18446744073709551616) (hN : 10000 ≤ N) : ref04_Tail N n = some ([128] ++ List.replicate (nz n) 0 ++ le8 (8 * n % 18446744073709551616)) := by
  unfold ref04_Tail
  have hl := nz_lt n
  have hz := zeros_ok (N := N) n h (nz n) N [128] (by omega) (by simp; omega) (by unfold nz; simp; omega) hl
  refine (congrArg (fun o => Option.bind o _) hz).trans ?_
  simp only [Option.bind_some]
  have hw : Go.IntKind.wrap .u64 ((8 : Int) * n) = 8 * n % 18446744073709551616 := by rw [IntKind.wrap_u64]
  rw [hw]
  have hb : 0 ≤ 8 * n % 18446744073709551616 ∧ 8 * n % 18446744073709551616 < 18446744073709551616 := by omega
  generalize 8 * n % 18446744073709551616 = m at *
  have hpl : ([128] ++ List.replicate (nz n) (0 : Int)).length = nz n + 1 := by simp
  generalize [128] ++ List.replicate (nz n) (0 : Int) = p at *
  obtain ⟨M, rfl⟩ : ∃ M, N = M + 9 := ⟨N - 9, by omega⟩
  have dv : ∀ x : Int, 0 ≤ x → x < 18446744073709551616 → Go.IntKind.wrap .u64 (Int.tdiv x 256) = x / 256 := fun x h1 h2 => by
    rw [Int.tdiv_eq_ediv_of_nonneg h1, wrapU64 (by omega) (by omega)]
  have md : ∀ x : Int, 0 ≤ x → Go.IntKind.wrap .u8 (Int.tmod x 256) = x % 256 := fun x h1 => by
    rw [Int.tmod_eq_emod_of_nonneg h1, wrapU8 (by omega) (by omega)]
  have st : ∀ (K : Nat) (x : Int) (i : Nat) (q : List Int), i < 8 → 0 ≤ x → x < 18446744073709551616 → q.length < 1000 → gl (fun X c => ref04_Tail_L6 (M + 9) X c.1.1 c.1.2.1 c.2.1) (K + 1) ((x, ((i : Int), ())), (q, ())) = gl (fun X c => ref04_Tail_L6 (M + 9) X c.1.1 c.1.2.1 c.2.1) K ((x / 256, (((i + 1 : Nat) : Int), ())), (q ++ [x % 256], ())) := fun K x i q hi h1 h2 hq => by
    have c1 : ((i : Int) < 8) := by omega
    have e0 : Go.IntKind.wrap .i64 ((i : Int) + 1) = ((i + 1 : Nat) : Int) := by rw [wrap64 (by omega) (by omega)]; omega
    have r : ∀ y : Int, roomB (q.length + ([y] : List Int).length) 1 = true := fun y => roomB_of (by have := big_len; simp; omega) (by simp; omega)
    rw [gl_succ]
    simp only [ref04_Tail_L6, c1, decide_true, cond_true, md x h1, r, dv x h1 h2, e0]
  have fin : ∀ (K : Nat) (x : Int) (q : List Int), gl (fun X c => ref04_Tail_L6 (M + 9) X c.1.1 c.1.2.1 c.2.1) (K + 1) ((x, (((8 : Nat) : Int), ())), (q, ())) = some ((), (q, ())) := fun K x q => by
    rw [gl_succ]
    rfl
  have all : ref04_Tail_L6_R (M + 9) ((m, ((0 : Int), ())), (p, ())) = some ((), (p ++ le8 m, ())) := by
    refine (st (M + 8) m 0 p (by omega) hb.1 hb.2 (by omega)).trans ?_
    refine (st (M + 7) _ 1 _ (by omega) (by omega) (by omega) (by simp; omega)).trans ?_
    refine (st (M + 6) _ 2 _ (by omega) (by omega) (by omega) (by simp; omega)).trans ?_
    refine (st (M + 5) _ 3 _ (by omega) (by omega) (by omega) (by simp; omega)).trans ?_
    refine (st (M + 4) _ 4 _ (by omega) (by omega) (by omega) (by simp; omega)).trans ?_
    refine (st (M + 3) _ 5 _ (by omega) (by omega) (by omega) (by simp; omega)).trans ?_
    refine (st (M + 2) _ 6 _ (by omega) (by omega) (by omega) (by simp; omega)).trans ?_
    refine (st (M + 1) _ 7 _ (by omega) (by omega) (by omega) (by simp; omega)).trans ?_
    refine (fin M _ _).trans ?_
    have d2 : m / 256 / 256 = m / 65536 := by omega
    have d3 : m / 65536 / 256 = m / 16777216 := by omega
    have d4 : m / 16777216 / 256 = m / 4294967296 := by omega
    have d5 : m / 4294967296 / 256 = m / 1099511627776 := by omega
    have d6 : m / 1099511627776 / 256 = m / 281474976710656 := by omega
    have d7 : m / 281474976710656 / 256 = m / 72057594037927936 := by omega
    simp only [d2, d3, d4, d5, d6, d7, List.append_assoc, List.cons_append, List.nil_append, le8]
  refine (congrArg (fun o => Option.bind o _) all).trans ?_
  rfl
theorem ref05_tail_ok (n : Int) (h : 0 ≤ n ∧ n < 18446744073709551616) (hN : 10000 ≤ N) : ref05_Tail N n = some (tail5 n) := by
  unfold ref05_Tail
  rw [ref04_tail_ok n h hN, Option.bind_some]
  have hl := nz_lt n
  unfold tail5
  generalize 8 * n % 18446744073709551616 = m at *
  have hpl : ([128] ++ List.replicate (nz n) (0 : Int)).length = nz n + 1 := by simp
  generalize [128] ++ List.replicate (nz n) (0 : Int) = p at *
  have h8 : (le8 m).length = 8 := rfl
  have e1 : Go.IntKind.wrap .i64 (((p ++ le8 m).length : Int) - 8) = (p.length : Int) := by
    rw [List.length_append, h8, wrap64 (by omega) (by omega)]; omega
  have r : roomB p.length 1 = true := roomB_of (by have := big_len; omega) (by omega)
  have tk : takeI (p ++ le8 m) (p.length : Int) = some p := by
    rw [takeI_nat _ rfl (by simp)]; simp
  rw [e1, tk, Option.bind_some, r]
  simp only [cond_true]
  obtain ⟨M, rfl⟩ : ∃ M, N = M + 9 := ⟨N - 9, by omega⟩
  have st : ∀ (K : Nat) (i : Nat) (q : List Int) (y : Int), i < 8 → q.length < 1000 → (le8 m)[i]? = some y → gl (fun X c => ref05_Tail_L5 (M + 9) X c.1.1 c.1.2.1 c.1.2.2.1 c.2.1) (K + 1) ((p ++ le8 m, ((p.length : Int), ((i : Int), ()))), (q, ())) = gl (fun X c => ref05_Tail_L5 (M + 9) X c.1.1 c.1.2.1 c.1.2.2.1 c.2.1) K ((p ++ le8 m, ((p.length : Int), (((i : Int) - 1), ()))), (q ++ [y], ())) := fun K i q y hi hq hy => by
    have c1 : ((0 : Int) ≤ (i : Int)) := by omega
    have e0 : Go.IntKind.wrap .i64 ((i : Int) - 1) = ((i : Int) - 1) := by rw [wrap64 (by omega) (by omega)]
    have e2 : Go.IntKind.wrap .i64 ((p.length : Int) + (i : Int)) = ((p.length + i : Nat) : Int) := by rw [wrap64 (by omega) (by omega)]; omega
    have r : roomB (q.length + ([y] : List Int).length) 1 = true := roomB_of (by have := big_len; simp; omega) (by simp; omega)
    have g : getI (p ++ le8 m) ((p.length + i : Nat) : Int) = some y := by
      rw [getI_nat, List.getElem?_append_right (by omega)]
      rw [show p.length + i - p.length = i by omega, hy]
    rw [gl_succ]
    simp only [ref05_Tail_L5, c1, decide_true, cond_true, e2, g, Option.bind_some, r, e0]
  have fin : ∀ (K : Nat) (q : List Int), gl (fun X c => ref05_Tail_L5 (M + 9) X c.1.1 c.1.2.1 c.1.2.2.1 c.2.1) (K + 1) ((p ++ le8 m, ((p.length : Int), (((0 : Nat) : Int) - 1, ()))), (q, ())) = some ((), (q, ())) := fun K q => by
    rw [gl_succ]
    rfl
  have all : ref05_Tail_L5_R (M + 9) ((p ++ le8 m, ((p.length : Int), ((7 : Int), ()))), (p, ())) = some ((), (p ++ by8 m, ())) := by
    refine (st (M + 8) 7 p _ (by omega) (by omega) rfl).trans ?_
    refine (st (M + 7) 6 _ _ (by omega) (by simp; omega) rfl).trans ?_
    refine (st (M + 6) 5 _ _ (by omega) (by simp; omega) rfl).trans ?_
    refine (st (M + 5) 4 _ _ (by omega) (by simp; omega) rfl).trans ?_
    refine (st (M + 4) 3 _ _ (by omega) (by simp; omega) rfl).trans ?_
    refine (st (M + 3) 2 _ _ (by omega) (by simp; omega) rfl).trans ?_
    refine (st (M + 2) 1 _ _ (by omega) (by simp; omega) rfl).trans ?_
    refine (st (M + 1) 0 _ _ (by omega) (by simp; omega) rfl).trans ?_
    refine (fin M _).trans ?_
    simp only [List.append_assoc, List.cons_append, List.nil_append, by8]
  refine (congrArg (fun o => Option.bind o _) all).trans ?_
  rfl
end
end Go.Proofs.YtdkklfegpjlklaaDoor.Sh
