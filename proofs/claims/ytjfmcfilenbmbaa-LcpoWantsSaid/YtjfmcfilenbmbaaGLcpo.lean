/-
  Functions of the program as plain functions on typed data, and that they are so. Printed by a program of mine.
-/
import Derived.Test.YtjfmcfilenbmbaaKC
namespace Go.Proofs.Ytjfmcfilenbmbaa
open Go.RowKit
set_option linter.unusedVariables false
set_option maxRecDepth 100000
theorem hmx : Go.Proofs.Try.prog.follows .mixedOrders = true := by kernel_rfl
noncomputable def Ev0 (N : Nat) : (R : Type) → Env R := Env.addInl env0 [110, 109, 93, 112]
theorem Ev0_ok (N : Nat) (R : Type) : EnvOK Go.Proofs.Try.prog (Ev0 N R) := EnvOK.addInl (env0_ok R) (by kernel_rfl)
noncomputable def Ev1 (N : Nat) : (R : Type) → Env R := Env.addBx (Ev0 N) [(110, 0)]
theorem Ev1_ok (N : Nat) (R : Type) : EnvOK Go.Proofs.Try.prog (Ev1 N R) := EnvOK.addBx (Ev0_ok N R) [(110, 0)]
noncomputable def Ev2 (N : Nat) : (R : Type) → Env R := Env.addBx (Ev1 N) [(112, 0)]
theorem Ev2_ok (N : Nat) (R : Type) : EnvOK Go.Proofs.Try.prog (Ev2 N R) := EnvOK.addBx (Ev1_ok N R) [(112, 0)]
noncomputable def Ev3 (N : Nat) : (R : Type) → Env R := Env.addBx (Ev2 N) [(11, 0)]
theorem Ev3_ok (N : Nat) (R : Type) : EnvOK Go.Proofs.Try.prog (Ev3 N R) := EnvOK.addBx (Ev2_ok N R) [(11, 0)]
noncomputable def law25_far_L2_I : LI := ⟨23, 0, [], ⟨[(0, .ty (.sl (.pair (.int .u8) (.sl (.int .u8))))), (9, .ty (.sl (.pair (.int .u8) (.sl (.int .u8))))), (10, .ty (.int .i64)), (11, .ty (.int .i64))], []⟩, [(.ret, ⟨[(2, .ty .bool)], []⟩), (.exit 0, ⟨[(0, .ty (.sl (.pair (.int .u8) (.sl (.int .u8)))))], []⟩)]⟩
noncomputable def law25_far_L2 (N : Nat) (X : (((List ((Int) × (List (Int)))) × ((List ((Int) × (List (Int)))) × ((Int) × ((Int) × Unit)))) × Unit) → Option (((((Bool) × Unit) × Unit) ⊕ (((List ((Int) × (List (Int)))) × Unit) × Unit)))) (l0 : List ((Int) × (List (Int)))) (x9 : List ((Int) × (List (Int)))) (x10 : Int) (x11 : Int) : Option (((((Bool) × Unit) × Unit) ⊕ (((List ((Int) × (List (Int)))) × Unit) × Unit))) :=
 bif (decide (x11 < x10)) then
  Option.bind (getI x9 x11) fun (v6 : (Int × (List Int))) =>
  bif (decide ((300 : Int) < (((List.length v6.2) : Nat) : Int))) then
   some ((.inl ((@Bool.true, @Unit.unit), @Unit.unit)))
  else
   (X ((l0, (x9, (x10, ((Go.IntKind.wrap .i64 (x11 + (1 : Int))), @Unit.unit)))), @Unit.unit))
 else
  some ((.inr ((l0, @Unit.unit), @Unit.unit)))
noncomputable def law25_far_L2_R (N : Nat) (c : (((List ((Int) × (List (Int)))) × ((List ((Int) × (List (Int)))) × ((Int) × ((Int) × Unit)))) × Unit)) : Option (((((Bool) × Unit) × Unit) ⊕ (((List ((Int) × (List (Int)))) × Unit) × Unit))) := gl (fun X c => law25_far_L2 N X c.1.1 c.1.2.1 c.1.2.2.1 c.1.2.2.2.1) N c
theorem law25_far_L2_S (N : Nat) (X : (((List ((Int) × (List (Int)))) × ((List ((Int) × (List (Int)))) × ((Int) × ((Int) × Unit)))) × Unit) → Option (((((Bool) × Unit) × Unit) ⊕ (((List ((Int) × (List (Int)))) × Unit) × Unit)))) (l0 : List ((Int) × (List (Int)))) (x9 : List ((Int) × (List (Int)))) (x10 : Int) (x11 : Int) : (roundK Go.Proofs.Try.prog (Ev3 N) 400 [53] law25_far_L2_I (loopAt Go.Proofs.Try.prog [53] 2) X ((l0, x9, x10, x11, ()), ())).run = law25_far_L2 N X l0 x9 x10 x11 := by kernel_rfl
noncomputable def Ev4 (N : Nat) : (R : Type) → Env R := Env.addLp (Ev3 N) [53] 0 2 (fun R => lpK Go.Proofs.Try.prog law25_far_L2_I (fun X c => law25_far_L2 N X c.1.1 c.1.2.1 c.1.2.2.1 c.1.2.2.2.1) N)
theorem Ev4_ok (N : Nat) (R : Type) : EnvOK Go.Proofs.Try.prog (Ev4 N R) := EnvOK.addLp (Ev3_ok N R) (by kernel_rfl) (lpK_ok (li := law25_far_L2_I) (G := fun X c => law25_far_L2 N X c.1.1 c.1.2.1 c.1.2.2.1 c.1.2.2.2.1) hmx (Ev3_ok N _) (by kernel_rfl) loopAt_sub (fun (X : CT law25_far_L2_I.sh → Option (OT law25_far_L2_I.outs)) (c : CT law25_far_L2_I.sh) => law25_far_L2_S N X c.1.1 c.1.2.1 c.1.2.2.1 c.1.2.2.2.1) N)
noncomputable def law25_far (N : Nat) (l0 : List ((Int) × (List (Int)))) : Option (Bool) :=
 Option.bind (takeI l0 (@minI (((List.length l0) : Nat) : Int) (40 : Int))) fun (v2 : (List (Int × (List Int)))) =>
 Option.bind (law25_far_L2_R N ((l0, (v2, ((((List.length v2) : Nat) : Int), ((0 : Int), @Unit.unit)))), @Unit.unit)) fun (v3 : (((Bool × Unit) × Unit) ⊕ (((List (Int × (List Int))) × Unit) × Unit))) =>
 Sum.elim
  (fun (v4 : ((Bool × Unit) × Unit)) =>
  some (v4.1.1))
  (fun (v4 : (((List (Int × (List Int))) × Unit) × Unit)) =>
  some ((decide ((40 : Int) < (((List.length v4.1.1) : Nat) : Int))))) v3
theorem law25_far_S (N : Nat) (l0 : List ((Int) × (List (Int)))) : (runK Go.Proofs.Try.prog (Ev4 N) 400 53 [(.sl (.pair (.int .u8) (.sl (.int .u8))))] [.bool] (l0, ())).run = law25_far N l0 := by kernel_rfl
noncomputable def Ev5 (N : Nat) : (R : Type) → Env R := Env.addFn (Ev4 N) 53 (fun R => fnK [(.sl (.pair (.int .u8) (.sl (.int .u8))))] [.bool] (fun c => law25_far N c.1))
theorem Ev5_ok (N : Nat) (R : Type) : EnvOK Go.Proofs.Try.prog (Ev5 N R) := EnvOK.addFn hmx (Ev4_ok N R) (Ev4_ok N _) (by kernel_rfl) (fun c => law25_far_S N c.1)
noncomputable def slices_Clone_byte_byte_ne (N : Nat) (s0 : List (Int)) : Option (List (Int)) :=
 bif (@List.isEmpty Int s0) then
  none
 else
  bif (roomB (List.length s0) 1) then
   some (s0)
  else
   none
theorem slices_Clone_byte_byte_ne_S (N : Nat) (s0 : List (Int)) : (runK Go.Proofs.Try.prog (Ev5 N) 400 85 [(.sl (.int .u8))] [(.sl (.int .u8))] (s0, ())).run = slices_Clone_byte_byte_ne N s0 := by kernel_rfl
theorem slices_Clone_byte_byte_n1 (N : Nat) (c : Nat) : (runV Go.Proofs.Try.prog (Ev5 N) 400 85 [.c (.slice none 0 c)] [(.sl (.int .u8))]).run = some [] := by kernel_rfl
theorem slices_Clone_byte_byte_n2 (N : Nat) (A : Addr) (c : Nat) : (runV Go.Proofs.Try.prog (Ev5 N) 400 85 [.c (.slice (some A) 0 c)] [(.sl (.int .u8))]).run = some [] := by kernel_rfl
noncomputable def slices_Clone_byte_byte (N : Nat) (s0 : List (Int)) : Option (List (Int)) := bif s0.isEmpty then some [] else slices_Clone_byte_byte_ne N s0
noncomputable def Ev6 (N : Nat) : (R : Type) → Env R := Env.addFn (Ev5 N) 85 (fun R => fnK [(.sl (.int .u8))] [(.sl (.int .u8))] (fun c => slices_Clone_byte_byte N c.1))
theorem Ev6_ok (N : Nat) (R : Type) : EnvOK Go.Proofs.Try.prog (Ev6 N R) := EnvOK.addNil hmx (Ev5_ok N R) (Ev5_ok N _) (by kernel_rfl) (fun c => slices_Clone_byte_byte_ne_S N c.1) (slices_Clone_byte_byte_n1 N) (slices_Clone_byte_byte_n2 N)
noncomputable def opts_Find_1_slices_IndexFunc_api_Option_api_Option_L2_I : LI := ⟨19, 2, [], ⟨[(0, .ty (.sl (.pair (.int .u8) (.sl (.int .u8))))), (1, .lit (.clo 110 [.box 0 0])), (7, .ty (.int .i64)), (8, .ty (.int .i64))], [.box 5 (.int .u8), .box 124 (.pair (.int .u8) (.sl (.int .u8)))]⟩, [(.ret, ⟨[(4, .ty (.int .i64))], [.box 5 (.int .u8), .box 124 (.pair (.int .u8) (.sl (.int .u8)))]⟩), (.exit 0, ⟨[], [.box 5 (.int .u8), .box 124 (.pair (.int .u8) (.sl (.int .u8)))]⟩)]⟩
noncomputable def opts_Find_1_slices_IndexFunc_api_Option_api_Option_L2 (N : Nat) (X : (((List ((Int) × (List (Int)))) × ((Int) × ((Int) × Unit))) × ((Int) × (((Int) × (List (Int))) × Unit))) → Option (((((Int) × Unit) × ((Int) × (((Int) × (List (Int))) × Unit))) ⊕ (Unit × ((Int) × (((Int) × (List (Int))) × Unit)))))) (s0 : List ((Int) × (List (Int)))) (x7 : Int) (x8 : Int) (h0 : Int) (h1 : (Int) × (List (Int))) : Option (((((Int) × Unit) × ((Int) × (((Int) × (List (Int))) × Unit))) ⊕ (Unit × ((Int) × (((Int) × (List (Int))) × Unit))))) :=
 bif (decide (x8 < x7)) then
  Option.bind (getI s0 x8) fun (v7 : (Int × (List Int))) =>
  bif (decide (v7.1 = h0)) then
   some ((.inl ((x8, @Unit.unit), (h0, ((h1.1, h1.2), @Unit.unit)))))
  else
   (X ((s0, (x7, ((Go.IntKind.wrap .i64 (x8 + (1 : Int))), @Unit.unit))), (h0, ((h1.1, h1.2), @Unit.unit))))
 else
  some ((.inr (@Unit.unit, (h0, ((h1.1, h1.2), @Unit.unit)))))
noncomputable def opts_Find_1_slices_IndexFunc_api_Option_api_Option_L2_R (N : Nat) (c : (((List ((Int) × (List (Int)))) × ((Int) × ((Int) × Unit))) × ((Int) × (((Int) × (List (Int))) × Unit)))) : Option (((((Int) × Unit) × ((Int) × (((Int) × (List (Int))) × Unit))) ⊕ (Unit × ((Int) × (((Int) × (List (Int))) × Unit))))) := gl (fun X c => opts_Find_1_slices_IndexFunc_api_Option_api_Option_L2 N X c.1.1 c.1.2.1 c.1.2.2.1 c.2.1 c.2.2.1) N c
theorem opts_Find_1_slices_IndexFunc_api_Option_api_Option_L2_S (N : Nat) (X : (((List ((Int) × (List (Int)))) × ((Int) × ((Int) × Unit))) × ((Int) × (((Int) × (List (Int))) × Unit))) → Option (((((Int) × Unit) × ((Int) × (((Int) × (List (Int))) × Unit))) ⊕ (Unit × ((Int) × (((Int) × (List (Int))) × Unit)))))) (s0 : List ((Int) × (List (Int)))) (x7 : Int) (x8 : Int) (h0 : Int) (h1 : (Int) × (List (Int))) : (roundK Go.Proofs.Try.prog (Ev6 N) 400 [109, 1, 66] opts_Find_1_slices_IndexFunc_api_Option_api_Option_L2_I (loopAt Go.Proofs.Try.prog [109, 1, 66] 2) X ((s0, x7, x8, ()), (h0, h1, ()))).run = opts_Find_1_slices_IndexFunc_api_Option_api_Option_L2 N X s0 x7 x8 h0 h1 := by kernel_rfl
noncomputable def Ev7 (N : Nat) : (R : Type) → Env R := Env.addLp (Ev6 N) [109, 1, 66] 2 2 (fun R => lpK Go.Proofs.Try.prog opts_Find_1_slices_IndexFunc_api_Option_api_Option_L2_I (fun X c => opts_Find_1_slices_IndexFunc_api_Option_api_Option_L2 N X c.1.1 c.1.2.1 c.1.2.2.1 c.2.1 c.2.2.1) N)
theorem Ev7_ok (N : Nat) (R : Type) : EnvOK Go.Proofs.Try.prog (Ev7 N R) := EnvOK.addLp (Ev6_ok N R) (by kernel_rfl) (lpK_ok (li := opts_Find_1_slices_IndexFunc_api_Option_api_Option_L2_I) (G := fun X c => opts_Find_1_slices_IndexFunc_api_Option_api_Option_L2 N X c.1.1 c.1.2.1 c.1.2.2.1 c.2.1 c.2.2.1) hmx (Ev6_ok N _) (by kernel_rfl) loopAt_sub (fun (X : CT opts_Find_1_slices_IndexFunc_api_Option_api_Option_L2_I.sh → Option (OT opts_Find_1_slices_IndexFunc_api_Option_api_Option_L2_I.outs)) (c : CT opts_Find_1_slices_IndexFunc_api_Option_api_Option_L2_I.sh) => opts_Find_1_slices_IndexFunc_api_Option_api_Option_L2_S N X c.1.1 c.1.2.1 c.1.2.2.1 c.2.1 c.2.2.1) N)
noncomputable def Ev8 (N : Nat) : (R : Type) → Env R := Env.addBx (Ev7 N) [(111, 0)]
theorem Ev8_ok (N : Nat) (R : Type) : EnvOK Go.Proofs.Try.prog (Ev8 N R) := EnvOK.addBx (Ev7_ok N R) [(111, 0)]
noncomputable def opts_clone (N : Nat) (o0 : (Int) × (List (Int))) : Option ((Int) × (List (Int))) :=
 Option.bind (@slices_Clone_byte_byte N o0.2) fun (v2 : (List Int)) =>
 some ((o0.1, v2))
theorem opts_clone_S (N : Nat) (o0 : (Int) × (List (Int))) : (runK Go.Proofs.Try.prog (Ev8 N) 400 111 [(.pair (.int .u8) (.sl (.int .u8)))] [(.pair (.int .u8) (.sl (.int .u8)))] (o0, ())).run = opts_clone N o0 := by kernel_rfl
noncomputable def Ev9 (N : Nat) : (R : Type) → Env R := Env.addFn (Ev8 N) 111 (fun R => fnK [(.pair (.int .u8) (.sl (.int .u8)))] [(.pair (.int .u8) (.sl (.int .u8)))] (fun c => opts_clone N c.1))
theorem Ev9_ok (N : Nat) (R : Type) : EnvOK Go.Proofs.Try.prog (Ev9 N R) := EnvOK.addFn hmx (Ev8_ok N R) (Ev8_ok N _) (by kernel_rfl) (fun c => opts_clone_S N c.1)
noncomputable def opts_Find (N : Nat) (l0 : List ((Int) × (List (Int)))) (kind1 : Int) : Option (((Int) × (List (Int))) × Bool) :=
 Option.bind (opts_Find_1_slices_IndexFunc_api_Option_api_Option_L2_R N ((l0, ((((List.length l0) : Nat) : Int), ((0 : Int), @Unit.unit))), (kind1, (((0 : Int), ([] : List (Int))), @Unit.unit)))) fun (v3 : (((Int × Unit) × (Int × ((Int × (List Int)) × Unit))) ⊕ (Unit × (Int × ((Int × (List Int)) × Unit))))) =>
 Sum.elim
  (fun (v4 : ((Int × Unit) × (Int × ((Int × (List Int)) × Unit)))) =>
  bif (decide (v4.1.1 < (0 : Int))) then
   some ((((0 : Int), ([] : List (Int))), @Bool.false))
  else
   Option.bind (getI l0 v4.1.1) fun (v5 : (Int × (List Int))) =>
   Option.bind (@opts_clone N (v5.1, v5.2)) fun (v6 : (Int × (List Int))) =>
   some (((v6.1, v6.2), @Bool.true)))
  (fun (v4 : (Unit × (Int × ((Int × (List Int)) × Unit)))) =>
  some ((((0 : Int), ([] : List (Int))), @Bool.false))) v3
theorem opts_Find_S (N : Nat) (l0 : List ((Int) × (List (Int)))) (kind1 : Int) : (runK Go.Proofs.Try.prog (Ev9 N) 400 66 [(.sl (.pair (.int .u8) (.sl (.int .u8)))), (.int .u8)] [(.pair (.int .u8) (.sl (.int .u8))), .bool] (l0, kind1, ())).run = opts_Find N l0 kind1 := by kernel_rfl
noncomputable def Ev10 (N : Nat) : (R : Type) → Env R := Env.addFn (Ev9 N) 66 (fun R => fnK [(.sl (.pair (.int .u8) (.sl (.int .u8)))), (.int .u8)] [(.pair (.int .u8) (.sl (.int .u8))), .bool] (fun c => opts_Find N c.1 c.2.1))
theorem Ev10_ok (N : Nat) (R : Type) : EnvOK Go.Proofs.Try.prog (Ev10 N R) := EnvOK.addFn hmx (Ev9_ok N R) (Ev9_ok N _) (by kernel_rfl) (fun c => opts_Find_S N c.1 c.2.1)
noncomputable def Ev11 (N : Nat) : (R : Type) → Env R := Env.addBx (Ev10 N) [(98, 0)]
theorem Ev11_ok (N : Nat) (R : Type) : EnvOK Go.Proofs.Try.prog (Ev11 N R) := EnvOK.addBx (Ev10_ok N R) [(98, 0)]
noncomputable def lcpo_size (N : Nat) (kind0 : Int) : Option (Int) :=
 bif (decide (kind0 = (1 : Int))) then
  some ((2 : Int))
 else
  bif (decide (kind0 = (3 : Int))) then
   some ((3 : Int))
  else
   bif (decide (kind0 = (5 : Int))) then
    some ((4 : Int))
   else
    bif (decide (kind0 = (7 : Int))) then
     some ((0 : Int))
    else
     bif (decide (kind0 = (8 : Int))) then
      some ((0 : Int))
     else
      some ((-1 : Int))
theorem lcpo_size_S (N : Nat) (kind0 : Int) : (runK Go.Proofs.Try.prog (Ev11 N) 400 124 [(.int .u8)] [(.int .i64)] (kind0, ())).run = lcpo_size N kind0 := by kernel_rfl
noncomputable def Ev12 (N : Nat) : (R : Type) → Env R := Env.addFn (Ev11 N) 124 (fun R => fnK [(.int .u8)] [(.int .i64)] (fun c => lcpo_size N c.1))
theorem Ev12_ok (N : Nat) (R : Type) : EnvOK Go.Proofs.Try.prog (Ev12 N R) := EnvOK.addFn hmx (Ev11_ok N R) (Ev11_ok N _) (by kernel_rfl) (fun c => lcpo_size_S N c.1)
noncomputable def lcpo_may (N : Nat) (o0 : (Int) × (List (Int))) (proves1 : Bool) : Option (Bool) :=
 Option.bind (@lcpo_size N o0.1) fun (v3 : Int) =>
 bif (decide ((((List.length o0.2) : Nat) : Int) = v3)) then
  bif (!(decide (o0.1 = (3 : Int)))) then
   some ((@cond Bool @Bool.true @Bool.true @Bool.false))
  else
   some ((@cond Bool @Bool.true (@cond Bool @Bool.false @Bool.true proves1) @Bool.false))
 else
  some (@Bool.false)
theorem lcpo_may_S (N : Nat) (o0 : (Int) × (List (Int))) (proves1 : Bool) : (runK Go.Proofs.Try.prog (Ev12 N) 400 98 [(.pair (.int .u8) (.sl (.int .u8))), .bool] [.bool] (o0, proves1, ())).run = lcpo_may N o0 proves1 := by kernel_rfl
noncomputable def Ev13 (N : Nat) : (R : Type) → Env R := Env.addFn (Ev12 N) 98 (fun R => fnK [(.pair (.int .u8) (.sl (.int .u8))), .bool] [.bool] (fun c => lcpo_may N c.1 c.2.1))
theorem Ev13_ok (N : Nat) (R : Type) : EnvOK Go.Proofs.Try.prog (Ev13 N R) := EnvOK.addFn hmx (Ev12_ok N R) (Ev12_ok N _) (by kernel_rfl) (fun c => lcpo_may_S N c.1 c.2.1)
noncomputable def Ev14 (N : Nat) : (R : Type) → Env R := Env.addBx (Ev13 N) [(99, 0)]
theorem Ev14_ok (N : Nat) (R : Type) : EnvOK Go.Proofs.Try.prog (Ev14 N R) := EnvOK.addBx (Ev13_ok N R) [(99, 0)]
noncomputable def octs_place (N : Nat) (i0 : Int) (width1 : Int) (little2 : Bool) : Option (Int) :=
 bif little2 then
  some (i0)
 else
  some ((Go.IntKind.wrap .i64 ((Go.IntKind.wrap .i64 (width1 - (1 : Int))) - i0)))
theorem octs_place_S (N : Nat) (i0 : Int) (width1 : Int) (little2 : Bool) : (runK Go.Proofs.Try.prog (Ev14 N) 400 114 [(.int .i64), (.int .i64), .bool] [(.int .i64)] (i0, width1, little2, ())).run = octs_place N i0 width1 little2 := by kernel_rfl
noncomputable def Ev15 (N : Nat) : (R : Type) → Env R := Env.addFn (Ev14 N) 114 (fun R => fnK [(.int .i64), (.int .i64), .bool] [(.int .i64)] (fun c => octs_place N c.1 c.2.1 c.2.2.1))
theorem Ev15_ok (N : Nat) (R : Type) : EnvOK Go.Proofs.Try.prog (Ev15 N R) := EnvOK.addFn hmx (Ev14_ok N R) (Ev14_ok N _) (by kernel_rfl) (fun c => octs_place_S N c.1 c.2.1 c.2.2.1)
noncomputable def octs_Put_L5_I : LI := ⟨35, 0, [], ⟨[(0, .ty (.int .u64)), (1, .ty (.int .i64)), (2, .ty .bool), (8, .lit (.own 0)), (19, .ty (.int .i64)), (20, .ty (.int .i64))], [.own (.int .u8) 5]⟩, [(.exit 0, ⟨[(8, .lit (.own 0))], [.own (.int .u8) 5]⟩)]⟩
noncomputable def octs_Put_L5 (N : Nat) (X : (((Int) × ((Int) × ((Bool) × ((Int) × ((Int) × Unit))))) × ((List (Int)) × Unit)) → Option ((Unit × ((List (Int)) × Unit)))) (n0 : Int) (width1 : Int) (little2 : Bool) (x19 : Int) (x20 : Int) (h0 : List (Int)) : Option ((Unit × ((List (Int)) × Unit))) :=
 bif (decide (x20 < x19)) then
  Option.bind (@octs_place N x20 width1 little2) fun (v8 : Int) =>
  bif (decide ((0 : Int) ≤ v8 ∧ v8 < (((List.length h0) : Nat) : Int))) then
   Option.bind (@GetElem?.getElem? (List Int) Nat Int (fun (as9 : (List Int)) => (fun (i10 : Nat) => (@LT.lt Nat @instLTNat i10 (List.length as9)))) (@List.instGetElem?NatLtLength Int) h0 (Int.toNat v8)) fun (v9 : Int) =>
   (X (((@Int.fdiv n0 (@HPow.hPow Int Nat Int (@instHPow Int Nat (@instPowNat Int @Int.instNatPow)) (2 : Int) (@Min.min Nat @instMinNat (Int.toNat (8 : Int)) (@Go.IntKind.bits @Go.IntKind.u64)))), (width1, (little2, (x19, ((Go.IntKind.wrap .i64 (x20 + (1 : Int))), @Unit.unit))))), ((@List.set Int h0 (Int.toNat v8) (Go.IntKind.wrap .u8 n0)), @Unit.unit)))
  else
   none
 else
  some ((@Unit.unit, (h0, @Unit.unit)))
noncomputable def octs_Put_L5_R (N : Nat) (c : (((Int) × ((Int) × ((Bool) × ((Int) × ((Int) × Unit))))) × ((List (Int)) × Unit))) : Option ((Unit × ((List (Int)) × Unit))) := gl (fun X c => octs_Put_L5 N X c.1.1 c.1.2.1 c.1.2.2.1 c.1.2.2.2.1 c.1.2.2.2.2.1 c.2.1) N c
theorem octs_Put_L5_S (N : Nat) (X : (((Int) × ((Int) × ((Bool) × ((Int) × ((Int) × Unit))))) × ((List (Int)) × Unit)) → Option ((Unit × ((List (Int)) × Unit)))) (n0 : Int) (width1 : Int) (little2 : Bool) (x19 : Int) (x20 : Int) (h0 : List (Int)) : (roundK Go.Proofs.Try.prog (Ev15 N) 400 [69] octs_Put_L5_I (loopAt Go.Proofs.Try.prog [69] 5) X ((n0, width1, little2, x19, x20, ()), (h0, ()))).run = octs_Put_L5 N X n0 width1 little2 x19 x20 h0 := by kernel_rfl
noncomputable def Ev16 (N : Nat) : (R : Type) → Env R := Env.addLp (Ev15 N) [69] 0 5 (fun R => lpK Go.Proofs.Try.prog octs_Put_L5_I (fun X c => octs_Put_L5 N X c.1.1 c.1.2.1 c.1.2.2.1 c.1.2.2.2.1 c.1.2.2.2.2.1 c.2.1) N)
theorem Ev16_ok (N : Nat) (R : Type) : EnvOK Go.Proofs.Try.prog (Ev16 N R) := EnvOK.addLp (Ev15_ok N R) (by kernel_rfl) (lpK_ok (li := octs_Put_L5_I) (G := fun X c => octs_Put_L5 N X c.1.1 c.1.2.1 c.1.2.2.1 c.1.2.2.2.1 c.1.2.2.2.2.1 c.2.1) hmx (Ev15_ok N _) (by kernel_rfl) loopAt_sub (fun (X : CT octs_Put_L5_I.sh → Option (OT octs_Put_L5_I.outs)) (c : CT octs_Put_L5_I.sh) => octs_Put_L5_S N X c.1.1 c.1.2.1 c.1.2.2.1 c.1.2.2.2.1 c.1.2.2.2.2.1 c.2.1) N)
noncomputable def octs_Put (N : Nat) (n0 : Int) (width1 : Int) (little2 : Bool) : Option ((List (Int)) × Int) :=
 bif (decide (width1 < (1 : Int))) then
  some ((([] : List (Int)), (1 : Int)))
 else
  bif (@cond Bool @Bool.false @Bool.true (decide ((8 : Int) < width1))) then
   some ((([] : List (Int)), (1 : Int)))
  else
   bif ((decide ((0 : Int) ≤ width1 ∧ width1 ≤ width1)) && (roomB (Int.toNat width1) 1)) then
    Option.bind (octs_Put_L5_R N ((n0, (width1, (little2, ((((List.length (@List.replicate Int (Int.toNat width1) (0 : Int))) : Nat) : Int), ((0 : Int), @Unit.unit))))), ((@List.replicate Int (Int.toNat width1) (0 : Int)), @Unit.unit))) fun (v4 : (Unit × ((List Int) × Unit))) =>
    some ((v4.2.1, (0 : Int)))
   else
    none
theorem octs_Put_S (N : Nat) (n0 : Int) (width1 : Int) (little2 : Bool) : (runK Go.Proofs.Try.prog (Ev16 N) 400 69 [(.int .u64), (.int .i64), .bool] [(.sl (.int .u8)), (.int .i64)] (n0, width1, little2, ())).run = octs_Put N n0 width1 little2 := by kernel_rfl
noncomputable def Ev17 (N : Nat) : (R : Type) → Env R := Env.addFn (Ev16 N) 69 (fun R => fnK [(.int .u64), (.int .i64), .bool] [(.sl (.int .u8)), (.int .i64)] (fun c => octs_Put N c.1 c.2.1 c.2.2.1))
theorem Ev17_ok (N : Nat) (R : Type) : EnvOK Go.Proofs.Try.prog (Ev17 N R) := EnvOK.addFn hmx (Ev16_ok N R) (Ev16_ok N _) (by kernel_rfl) (fun c => octs_Put_S N c.1 c.2.1 c.2.2.1)
noncomputable def lcpo_number (N : Nat) (kind0 : Int) (n1 : Int) : Option ((Int) × (List (Int))) :=
 Option.bind (@lcpo_size N kind0) fun (v3 : Int) =>
 Option.bind (@octs_Put N n1 v3 @Bool.false) fun (v4 : ((List Int) × Int)) =>
 some ((kind0, v4.1))
theorem lcpo_number_S (N : Nat) (kind0 : Int) (n1 : Int) : (runK Go.Proofs.Try.prog (Ev17 N) 400 104 [(.int .u8), (.int .u64)] [(.pair (.int .u8) (.sl (.int .u8)))] (kind0, n1, ())).run = lcpo_number N kind0 n1 := by kernel_rfl
noncomputable def Ev18 (N : Nat) : (R : Type) → Env R := Env.addFn (Ev17 N) 104 (fun R => fnK [(.int .u8), (.int .u64)] [(.pair (.int .u8) (.sl (.int .u8)))] (fun c => lcpo_number N c.1 c.2.1))
theorem Ev18_ok (N : Nat) (R : Type) : EnvOK Go.Proofs.Try.prog (Ev18 N R) := EnvOK.addFn hmx (Ev17_ok N R) (Ev17_ok N _) (by kernel_rfl) (fun c => lcpo_number_S N c.1 c.2.1)
noncomputable def octs_Get_L5_I : LI := ⟨37, 0, [], ⟨[(0, .ty (.sl (.int .u8))), (1, .ty .bool), (6, .ty (.int .u64)), (17, .ty (.int .i64)), (18, .ty (.int .i64))], []⟩, [(.exit 0, ⟨[(6, .ty (.int .u64))], []⟩)]⟩
noncomputable def octs_Get_L5 (N : Nat) (X : (((List (Int)) × ((Bool) × ((Int) × ((Int) × ((Int) × Unit))))) × Unit) → Option ((((Int) × Unit) × Unit))) (b0 : List (Int)) (little1 : Bool) (n6 : Int) (x17 : Int) (x18 : Int) : Option ((((Int) × Unit) × Unit)) :=
 bif (decide (x18 < x17)) then
  Option.bind (@octs_place N x18 (((List.length b0) : Nat) : Int) little1) fun (v7 : Int) =>
  Option.bind (getI b0 v7) fun (v8 : Int) =>
  bif (decide ((0 : Int) ≤ (Go.IntKind.wrap .i64 ((8 : Int) * x18)))) then
   (X ((b0, (little1, ((@Go.bits @Go.BinOp.or @Go.IntKind.u64 n6 (Go.IntKind.wrap .u64 ((Go.IntKind.wrap .u64 v8) * (@HPow.hPow Int Nat Int (@instHPow Int Nat (@instPowNat Int @Int.instNatPow)) (2 : Int) (@Min.min Nat @instMinNat (Int.toNat (Go.IntKind.wrap .i64 ((8 : Int) * x18))) (@Go.IntKind.bits @Go.IntKind.u64)))))), (x17, ((Go.IntKind.wrap .i64 (x18 + (1 : Int))), @Unit.unit))))), @Unit.unit))
  else
   none
 else
  some (((n6, @Unit.unit), @Unit.unit))
noncomputable def octs_Get_L5_R (N : Nat) (c : (((List (Int)) × ((Bool) × ((Int) × ((Int) × ((Int) × Unit))))) × Unit)) : Option ((((Int) × Unit) × Unit)) := gl (fun X c => octs_Get_L5 N X c.1.1 c.1.2.1 c.1.2.2.1 c.1.2.2.2.1 c.1.2.2.2.2.1) N c
theorem octs_Get_L5_S (N : Nat) (X : (((List (Int)) × ((Bool) × ((Int) × ((Int) × ((Int) × Unit))))) × Unit) → Option ((((Int) × Unit) × Unit))) (b0 : List (Int)) (little1 : Bool) (n6 : Int) (x17 : Int) (x18 : Int) : (roundK Go.Proofs.Try.prog (Ev18 N) 400 [77] octs_Get_L5_I (loopAt Go.Proofs.Try.prog [77] 5) X ((b0, little1, n6, x17, x18, ()), ())).run = octs_Get_L5 N X b0 little1 n6 x17 x18 := by kernel_rfl
noncomputable def Ev19 (N : Nat) : (R : Type) → Env R := Env.addLp (Ev18 N) [77] 0 5 (fun R => lpK Go.Proofs.Try.prog octs_Get_L5_I (fun X c => octs_Get_L5 N X c.1.1 c.1.2.1 c.1.2.2.1 c.1.2.2.2.1 c.1.2.2.2.2.1) N)
theorem Ev19_ok (N : Nat) (R : Type) : EnvOK Go.Proofs.Try.prog (Ev19 N R) := EnvOK.addLp (Ev18_ok N R) (by kernel_rfl) (lpK_ok (li := octs_Get_L5_I) (G := fun X c => octs_Get_L5 N X c.1.1 c.1.2.1 c.1.2.2.1 c.1.2.2.2.1 c.1.2.2.2.2.1) hmx (Ev18_ok N _) (by kernel_rfl) loopAt_sub (fun (X : CT octs_Get_L5_I.sh → Option (OT octs_Get_L5_I.outs)) (c : CT octs_Get_L5_I.sh) => octs_Get_L5_S N X c.1.1 c.1.2.1 c.1.2.2.1 c.1.2.2.2.1 c.1.2.2.2.2.1) N)
noncomputable def octs_Get (N : Nat) (b0 : List (Int)) (little1 : Bool) : Option ((Int) × Int) :=
 bif (decide ((((List.length b0) : Nat) : Int) < (1 : Int))) then
  some (((0 : Int), (1 : Int)))
 else
  bif (@cond Bool @Bool.false @Bool.true (decide ((8 : Int) < (((List.length b0) : Nat) : Int)))) then
   some (((0 : Int), (1 : Int)))
  else
   Option.bind (octs_Get_L5_R N ((b0, (little1, ((0 : Int), ((((List.length b0) : Nat) : Int), ((0 : Int), @Unit.unit))))), @Unit.unit)) fun (v3 : ((Int × Unit) × Unit)) =>
   some ((v3.1.1, (0 : Int)))
theorem octs_Get_S (N : Nat) (b0 : List (Int)) (little1 : Bool) : (runK Go.Proofs.Try.prog (Ev19 N) 400 77 [(.sl (.int .u8)), .bool] [(.int .u64), (.int .i64)] (b0, little1, ())).run = octs_Get N b0 little1 := by kernel_rfl
noncomputable def Ev20 (N : Nat) : (R : Type) → Env R := Env.addFn (Ev19 N) 77 (fun R => fnK [(.sl (.int .u8)), .bool] [(.int .u64), (.int .i64)] (fun c => octs_Get N c.1 c.2.1))
theorem Ev20_ok (N : Nat) (R : Type) : EnvOK Go.Proofs.Try.prog (Ev20 N R) := EnvOK.addFn hmx (Ev19_ok N R) (Ev19_ok N _) (by kernel_rfl) (fun c => octs_Get_S N c.1 c.2.1)
noncomputable def lcpo_value (N : Nat) (data0 : List (Int)) : Option (Int) :=
 Option.bind (@octs_Get N data0 @Bool.false) fun (v2 : (Int × Int)) =>
 some (v2.1)
theorem lcpo_value_S (N : Nat) (data0 : List (Int)) : (runK Go.Proofs.Try.prog (Ev20 N) 400 107 [(.sl (.int .u8))] [(.int .u64)] (data0, ())).run = lcpo_value N data0 := by kernel_rfl
noncomputable def Ev21 (N : Nat) : (R : Type) → Env R := Env.addFn (Ev20 N) 107 (fun R => fnK [(.sl (.int .u8))] [(.int .u64)] (fun c => lcpo_value N c.1))
theorem Ev21_ok (N : Nat) (R : Type) : EnvOK Go.Proofs.Try.prog (Ev21 N R) := EnvOK.addFn hmx (Ev20_ok N R) (Ev20_ok N _) (by kernel_rfl) (fun c => lcpo_value_S N c.1)
noncomputable def lcpo_Chap (N : Nat) : Option (List (Int)) :=
 some (([(194 : Int), (35 : Int), (129 : Int)] : List (Int)))
theorem lcpo_Chap_S (N : Nat) : (runK Go.Proofs.Try.prog (Ev21 N) 400 97 [] [(.sl (.int .u8))] ()).run = lcpo_Chap N  := by kernel_rfl
noncomputable def Ev22 (N : Nat) : (R : Type) → Env R := Env.addFn (Ev21 N) 97 (fun R => fnK [] [(.sl (.int .u8))] (fun c => lcpo_Chap N ))
theorem Ev22_ok (N : Nat) (R : Type) : EnvOK Go.Proofs.Try.prog (Ev22 N R) := EnvOK.addFn hmx (Ev21_ok N R) (Ev21_ok N _) (by kernel_rfl) (fun c => lcpo_Chap_S N )
noncomputable def bytes_Equal (N : Nat) (a0 : List (Int)) (b1 : List (Int)) : Option (Bool) :=
 Option.bind (@toBy a0) fun (v3 : (List UInt8)) =>
 Option.bind (@toBy b1) fun (v4 : (List UInt8)) =>
 some ((decide (v3 = v4)))
theorem bytes_Equal_S (N : Nat) (a0 : List (Int)) (b1 : List (Int)) : (runK Go.Proofs.Try.prog (Ev22 N) 400 86 [(.sl (.int .u8)), (.sl (.int .u8))] [.bool] (a0, b1, ())).run = bytes_Equal N a0 b1 := by kernel_rfl
noncomputable def Ev23 (N : Nat) : (R : Type) → Env R := Env.addFn (Ev22 N) 86 (fun R => fnK [(.sl (.int .u8)), (.sl (.int .u8))] [.bool] (fun c => bytes_Equal N c.1 c.2.1))
theorem Ev23_ok (N : Nat) (R : Type) : EnvOK Go.Proofs.Try.prog (Ev23 N R) := EnvOK.addFn hmx (Ev22_ok N R) (Ev22_ok N _) (by kernel_rfl) (fun c => bytes_Equal_S N c.1 c.2.1)
noncomputable def lcpo_better (N : Nat) (o0 : (Int) × (List (Int))) (own1 : Int) (fresh2 : Int) : Option (((Int) × (List (Int))) × Bool) :=
 bif (decide (o0.1 = (1 : Int))) then
  Option.bind (@lcpo_number N (1 : Int) (1400 : Int)) fun (v4 : (Int × (List Int))) =>
  Option.bind (@lcpo_value N o0.2) fun (v5 : Int) =>
  some (((v4.1, v4.2), (decide (v5 < (128 : Int)))))
 else
  bif (decide (o0.1 = (3 : Int))) then
   Option.bind (@bytes_Equal N o0.2 ([(194 : Int), (35 : Int), (129 : Int)] : List (Int))) fun (v4 : Bool) =>
   some ((((3 : Int), ([(194 : Int), (35 : Int), (129 : Int)] : List (Int))), (!v4)))
  else
   bif (decide (o0.1 = (5 : Int))) then
    Option.bind (@lcpo_value N o0.2) fun (v4 : Int) =>
    Option.bind (@lcpo_number N (5 : Int) (Go.IntKind.wrap .u64 fresh2)) fun (v5 : (Int × (List Int))) =>
    bif (decide ((Go.IntKind.wrap .u32 v4) = (0 : Int))) then
     some (((v5.1, v5.2), @Bool.true))
    else
     some (((v5.1, v5.2), (@cond Bool @Bool.false @Bool.true (decide ((Go.IntKind.wrap .u32 v4) = own1)))))
   else
    some ((((0 : Int), ([] : List (Int))), @Bool.false))
theorem lcpo_better_S (N : Nat) (o0 : (Int) × (List (Int))) (own1 : Int) (fresh2 : Int) : (runK Go.Proofs.Try.prog (Ev23 N) 400 99 [(.pair (.int .u8) (.sl (.int .u8))), (.int .u32), (.int .u32)] [(.pair (.int .u8) (.sl (.int .u8))), .bool] (o0, own1, fresh2, ())).run = lcpo_better N o0 own1 fresh2 := by kernel_rfl
noncomputable def Ev24 (N : Nat) : (R : Type) → Env R := Env.addFn (Ev23 N) 99 (fun R => fnK [(.pair (.int .u8) (.sl (.int .u8))), (.int .u32), (.int .u32)] [(.pair (.int .u8) (.sl (.int .u8))), .bool] (fun c => lcpo_better N c.1 c.2.1 c.2.2.1))
theorem Ev24_ok (N : Nat) (R : Type) : EnvOK Go.Proofs.Try.prog (Ev24 N R) := EnvOK.addFn hmx (Ev23_ok N R) (Ev23_ok N _) (by kernel_rfl) (fun c => lcpo_better_S N c.1 c.2.1 c.2.2.1)
noncomputable def lcpo_Judge_L3_I : LI := ⟨78, 0, [(10, 124), (11, 124), (12, 124)], ⟨[(0, .ty (.sl (.pair (.int .u8) (.sl (.int .u8))))), (1, .ty .bool), (2, .ty (.int .u32)), (3, .ty (.int .u32)), (10, .lit (.own 0)), (11, .lit (.own 1)), (12, .lit (.own 2)), (19, .ty (.sl (.pair (.int .u8) (.sl (.int .u8))))), (20, .ty (.int .i64)), (21, .ty (.int .i64))], [.own (.pair (.int .u8) (.sl (.int .u8))) 124, .own (.pair (.int .u8) (.sl (.int .u8))) 124, .own (.pair (.int .u8) (.sl (.int .u8))) 124]⟩, [(.exit 0, ⟨[(10, .lit (.own 0)), (11, .lit (.own 1)), (12, .lit (.own 2))], [.own (.pair (.int .u8) (.sl (.int .u8))) 124, .own (.pair (.int .u8) (.sl (.int .u8))) 124, .own (.pair (.int .u8) (.sl (.int .u8))) 124]⟩)]⟩
noncomputable def lcpo_Judge_L3 (N : Nat) (X : (((List ((Int) × (List (Int)))) × ((Bool) × ((Int) × ((Int) × ((List ((Int) × (List (Int)))) × ((Int) × ((Int) × Unit))))))) × ((List ((Int) × (List (Int)))) × ((List ((Int) × (List (Int)))) × ((List ((Int) × (List (Int)))) × Unit)))) → Option ((Unit × ((List ((Int) × (List (Int)))) × ((List ((Int) × (List (Int)))) × ((List ((Int) × (List (Int)))) × Unit)))))) (l0 : List ((Int) × (List (Int)))) (proves1 : Bool) (own2 : Int) (fresh3 : Int) (x19 : List ((Int) × (List (Int)))) (x20 : Int) (x21 : Int) (h0 : List ((Int) × (List (Int)))) (h1 : List ((Int) × (List (Int)))) (h2 : List ((Int) × (List (Int)))) : Option ((Unit × ((List ((Int) × (List (Int)))) × ((List ((Int) × (List (Int)))) × ((List ((Int) × (List (Int)))) × Unit))))) :=
 bif (decide (x21 < x20)) then
  Option.bind (getI x19 x21) fun (v12 : (Int × (List Int))) =>
  Option.bind (@slices_Clone_byte_byte N v12.2) fun (v13 : (List Int)) =>
  bif (roomB ((List.length h0) + (List.length ([(v12.1, v13)] : List ((Int × (List Int)))))) 32) then
   Option.bind (takeI l0 x21) fun (v14 : (List (Int × (List Int)))) =>
   Option.bind (@opts_Find N v14 v12.1) fun (v15 : ((Int × (List Int)) × Bool)) =>
   bif v15.2 then
    bif (roomB ((List.length h1) + (List.length ([(v12.1, v13)] : List ((Int × (List Int)))))) 32) then
     (X ((l0, (proves1, (own2, (fresh3, (x19, (x20, ((Go.IntKind.wrap .i64 (x21 + (1 : Int))), @Unit.unit))))))), ((h0 ++ ([(v12.1, v13)] : List ((Int × (List Int))))), ((h1 ++ ([(v12.1, v13)] : List ((Int × (List Int))))), (h2, @Unit.unit)))))
    else
     none
   else
    Option.bind (@lcpo_may N (v12.1, v13) proves1) fun (v16 : Bool) =>
    bif (@cond Bool @Bool.false @Bool.true (!v16)) then
     bif (roomB ((List.length h1) + (List.length ([(v12.1, v13)] : List ((Int × (List Int)))))) 32) then
      (X ((l0, (proves1, (own2, (fresh3, (x19, (x20, ((Go.IntKind.wrap .i64 (x21 + (1 : Int))), @Unit.unit))))))), ((h0 ++ ([(v12.1, v13)] : List ((Int × (List Int))))), ((h1 ++ ([(v12.1, v13)] : List ((Int × (List Int))))), (h2, @Unit.unit)))))
     else
      none
    else
     Option.bind (@lcpo_better N (v12.1, v13) own2 fresh3) fun (v17 : ((Int × (List Int)) × Bool)) =>
     bif v17.2 then
      bif (roomB ((List.length h2) + (List.length ([(v17.1.1, v17.1.2)] : List ((Int × (List Int)))))) 32) then
       (X ((l0, (proves1, (own2, (fresh3, (x19, (x20, ((Go.IntKind.wrap .i64 (x21 + (1 : Int))), @Unit.unit))))))), ((h0 ++ ([(v12.1, v13)] : List ((Int × (List Int))))), (h1, ((h2 ++ ([(v17.1.1, v17.1.2)] : List ((Int × (List Int))))), @Unit.unit)))))
      else
       none
     else
      (X ((l0, (proves1, (own2, (fresh3, (x19, (x20, ((Go.IntKind.wrap .i64 (x21 + (1 : Int))), @Unit.unit))))))), ((h0 ++ ([(v12.1, v13)] : List ((Int × (List Int))))), (h1, (h2, @Unit.unit)))))
  else
   none
 else
  some ((@Unit.unit, (h0, (h1, (h2, @Unit.unit)))))
noncomputable def lcpo_Judge_L3_R (N : Nat) (c : (((List ((Int) × (List (Int)))) × ((Bool) × ((Int) × ((Int) × ((List ((Int) × (List (Int)))) × ((Int) × ((Int) × Unit))))))) × ((List ((Int) × (List (Int)))) × ((List ((Int) × (List (Int)))) × ((List ((Int) × (List (Int)))) × Unit))))) : Option ((Unit × ((List ((Int) × (List (Int)))) × ((List ((Int) × (List (Int)))) × ((List ((Int) × (List (Int)))) × Unit))))) := gl (fun X c => lcpo_Judge_L3 N X c.1.1 c.1.2.1 c.1.2.2.1 c.1.2.2.2.1 c.1.2.2.2.2.1 c.1.2.2.2.2.2.1 c.1.2.2.2.2.2.2.1 c.2.1 c.2.2.1 c.2.2.2.1) N c
theorem lcpo_Judge_L3_S (N : Nat) (X : (((List ((Int) × (List (Int)))) × ((Bool) × ((Int) × ((Int) × ((List ((Int) × (List (Int)))) × ((Int) × ((Int) × Unit))))))) × ((List ((Int) × (List (Int)))) × ((List ((Int) × (List (Int)))) × ((List ((Int) × (List (Int)))) × Unit)))) → Option ((Unit × ((List ((Int) × (List (Int)))) × ((List ((Int) × (List (Int)))) × ((List ((Int) × (List (Int)))) × Unit)))))) (l0 : List ((Int) × (List (Int)))) (proves1 : Bool) (own2 : Int) (fresh3 : Int) (x19 : List ((Int) × (List (Int)))) (x20 : Int) (x21 : Int) (h0 : List ((Int) × (List (Int)))) (h1 : List ((Int) × (List (Int)))) (h2 : List ((Int) × (List (Int)))) : (roundK Go.Proofs.Try.prog (Ev24 N) 400 [55] lcpo_Judge_L3_I (loopAt Go.Proofs.Try.prog [55] 3) X ((l0, proves1, own2, fresh3, x19, x20, x21, ()), (h0, h1, h2, ()))).run = lcpo_Judge_L3 N X l0 proves1 own2 fresh3 x19 x20 x21 h0 h1 h2 := by kernel_rfl
noncomputable def Ev25 (N : Nat) : (R : Type) → Env R := Env.addLp (Ev24 N) [55] 0 3 (fun R => lpK Go.Proofs.Try.prog lcpo_Judge_L3_I (fun X c => lcpo_Judge_L3 N X c.1.1 c.1.2.1 c.1.2.2.1 c.1.2.2.2.1 c.1.2.2.2.2.1 c.1.2.2.2.2.2.1 c.1.2.2.2.2.2.2.1 c.2.1 c.2.2.1 c.2.2.2.1) N)
theorem Ev25_ok (N : Nat) (R : Type) : EnvOK Go.Proofs.Try.prog (Ev25 N R) := EnvOK.addLp (Ev24_ok N R) (by kernel_rfl) (lpK_ok (li := lcpo_Judge_L3_I) (G := fun X c => lcpo_Judge_L3 N X c.1.1 c.1.2.1 c.1.2.2.1 c.1.2.2.2.1 c.1.2.2.2.2.1 c.1.2.2.2.2.2.1 c.1.2.2.2.2.2.2.1 c.2.1 c.2.2.1 c.2.2.2.1) hmx (Ev24_ok N _) (by kernel_rfl) loopAt_sub (fun (X : CT lcpo_Judge_L3_I.sh → Option (OT lcpo_Judge_L3_I.outs)) (c : CT lcpo_Judge_L3_I.sh) => lcpo_Judge_L3_S N X c.1.1 c.1.2.1 c.1.2.2.1 c.1.2.2.2.1 c.1.2.2.2.2.1 c.1.2.2.2.2.2.1 c.1.2.2.2.2.2.2.1 c.2.1 c.2.2.1 c.2.2.2.1) N)
noncomputable def lcpo_Judge (N : Nat) (l0 : List ((Int) × (List (Int)))) (proves1 : Bool) (own2 : Int) (fresh3 : Int) : Option ((Int) × List ((Int) × (List (Int)))) :=
 Option.bind (lcpo_Judge_L3_R N ((l0, (proves1, (own2, (fresh3, (l0, ((((List.length l0) : Nat) : Int), ((0 : Int), @Unit.unit))))))), (([] : List ((Int × (List Int)))), (([] : List ((Int × (List Int)))), (([] : List ((Int × (List Int)))), @Unit.unit))))) fun (v5 : (Unit × ((List (Int × (List Int))) × ((List (Int × (List Int))) × ((List (Int × (List Int))) × Unit))))) =>
 bif (decide ((0 : Int) < (((List.length v5.2.2.1) : Nat) : Int))) then
  some (((4 : Int), v5.2.2.1))
 else
  bif (decide ((0 : Int) < (((List.length v5.2.2.2.1) : Nat) : Int))) then
   some (((3 : Int), v5.2.2.2.1))
  else
   some (((2 : Int), v5.2.1))
theorem lcpo_Judge_S (N : Nat) (l0 : List ((Int) × (List (Int)))) (proves1 : Bool) (own2 : Int) (fresh3 : Int) : (runK Go.Proofs.Try.prog (Ev25 N) 400 55 [(.sl (.pair (.int .u8) (.sl (.int .u8)))), .bool, (.int .u32), (.int .u32)] [(.int .u8), (.sl (.pair (.int .u8) (.sl (.int .u8))))] (l0, proves1, own2, fresh3, ())).run = lcpo_Judge N l0 proves1 own2 fresh3 := by kernel_rfl
noncomputable def Ev26 (N : Nat) : (R : Type) → Env R := Env.addFn (Ev25 N) 55 (fun R => fnK [(.sl (.pair (.int .u8) (.sl (.int .u8)))), .bool, (.int .u32), (.int .u32)] [(.int .u8), (.sl (.pair (.int .u8) (.sl (.int .u8))))] (fun c => lcpo_Judge N c.1 c.2.1 c.2.2.1 c.2.2.2.1))
theorem Ev26_ok (N : Nat) (R : Type) : EnvOK Go.Proofs.Try.prog (Ev26 N R) := EnvOK.addFn hmx (Ev25_ok N R) (Ev25_ok N _) (by kernel_rfl) (fun c => lcpo_Judge_S N c.1 c.2.1 c.2.2.1 c.2.2.2.1)
noncomputable def Ev27 (N : Nat) : (R : Type) → Env R := Env.addBx (Ev26 N) [(60, 0)]
theorem Ev27_ok (N : Nat) (R : Type) : EnvOK Go.Proofs.Try.prog (Ev27 N R) := EnvOK.addBx (Ev26_ok N R) [(60, 0)]
noncomputable def lcpo_Options (N : Nat) (w0 : (Int) × ((Int) × (Bool))) : Option (List ((Int) × (List (Int)))) :=
 bif (!(decide (w0.1 = (0 : Int)))) then
  Option.bind (@lcpo_number N (1 : Int) (Go.IntKind.wrap .u64 w0.1)) fun (v2 : (Int × (List Int))) =>
  bif w0.2.2 then
   bif (!(decide (w0.2.1 = (0 : Int)))) then
    Option.bind (@lcpo_number N (5 : Int) (Go.IntKind.wrap .u64 w0.2.1)) fun (v3 : (Int × (List Int))) =>
    some (((([(v2.1, v2.2)] : List ((Int × (List Int)))) ++ ([((3 : Int), ([(194 : Int), (35 : Int), (129 : Int)] : List (Int)))] : List ((Int × (List Int))))) ++ ([(v3.1, v3.2)] : List ((Int × (List Int))))))
   else
    some ((([(v2.1, v2.2)] : List ((Int × (List Int)))) ++ ([((3 : Int), ([(194 : Int), (35 : Int), (129 : Int)] : List (Int)))] : List ((Int × (List Int))))))
  else
   bif (!(decide (w0.2.1 = (0 : Int)))) then
    Option.bind (@lcpo_number N (5 : Int) (Go.IntKind.wrap .u64 w0.2.1)) fun (v3 : (Int × (List Int))) =>
    some ((([(v2.1, v2.2)] : List ((Int × (List Int)))) ++ ([(v3.1, v3.2)] : List ((Int × (List Int))))))
   else
    some (([(v2.1, v2.2)] : List ((Int × (List Int)))))
 else
  bif w0.2.2 then
   bif (!(decide (w0.2.1 = (0 : Int)))) then
    Option.bind (@lcpo_number N (5 : Int) (Go.IntKind.wrap .u64 w0.2.1)) fun (v2 : (Int × (List Int))) =>
    some ((([((3 : Int), ([(194 : Int), (35 : Int), (129 : Int)] : List (Int)))] : List ((Int × (List Int)))) ++ ([(v2.1, v2.2)] : List ((Int × (List Int))))))
   else
    some (([((3 : Int), ([(194 : Int), (35 : Int), (129 : Int)] : List (Int)))] : List ((Int × (List Int)))))
  else
   bif (!(decide (w0.2.1 = (0 : Int)))) then
    Option.bind (@lcpo_number N (5 : Int) (Go.IntKind.wrap .u64 w0.2.1)) fun (v2 : (Int × (List Int))) =>
    some (([(v2.1, v2.2)] : List ((Int × (List Int)))))
   else
    some (([] : List ((Int × (List Int)))))
theorem lcpo_Options_S (N : Nat) (w0 : (Int) × ((Int) × (Bool))) : (runK Go.Proofs.Try.prog (Ev27 N) 400 60 [(.pair (.int .u16) (.pair (.int .u32) .bool))] [(.sl (.pair (.int .u8) (.sl (.int .u8))))] (w0, ())).run = lcpo_Options N w0 := by kernel_rfl
noncomputable def Ev28 (N : Nat) : (R : Type) → Env R := Env.addFn (Ev27 N) 60 (fun R => fnK [(.pair (.int .u16) (.pair (.int .u32) .bool))] [(.sl (.pair (.int .u8) (.sl (.int .u8))))] (fun c => lcpo_Options N c.1))
theorem Ev28_ok (N : Nat) (R : Type) : EnvOK Go.Proofs.Try.prog (Ev28 N R) := EnvOK.addFn hmx (Ev27_ok N R) (Ev27_ok N _) (by kernel_rfl) (fun c => lcpo_Options_S N c.1)
noncomputable def lcpo_first_L2_I : LI := ⟨29, 0, [], ⟨[(1, .ty (.int .u8)), (8, .ty (.sl (.pair (.int .u8) (.sl (.int .u8))))), (9, .ty (.int .i64)), (10, .ty (.int .i64))], []⟩, [(.ret, ⟨[(4, .ty (.sl (.int .u8))), (5, .ty .bool)], []⟩), (.exit 0, ⟨[], []⟩)]⟩
noncomputable def lcpo_first_L2 (N : Nat) (X : (((Int) × ((List ((Int) × (List (Int)))) × ((Int) × ((Int) × Unit)))) × Unit) → Option (((((List (Int)) × ((Bool) × Unit)) × Unit) ⊕ (Unit × Unit)))) (kind1 : Int) (x8 : List ((Int) × (List (Int)))) (x9 : Int) (x10 : Int) : Option (((((List (Int)) × ((Bool) × Unit)) × Unit) ⊕ (Unit × Unit))) :=
 bif (decide (x10 < x9)) then
  Option.bind (getI x8 x10) fun (v6 : (Int × (List Int))) =>
  bif (decide (v6.1 = kind1)) then
   Option.bind (@lcpo_size N kind1) fun (v7 : Int) =>
   bif (@cond Bool @Bool.true (decide ((((List.length v6.2) : Nat) : Int) = v7)) @Bool.false) then
    some ((.inl ((v6.2, (@Bool.true, @Unit.unit)), @Unit.unit)))
   else
    (X ((kind1, (x8, (x9, ((Go.IntKind.wrap .i64 (x10 + (1 : Int))), @Unit.unit)))), @Unit.unit))
  else
   (X ((kind1, (x8, (x9, ((Go.IntKind.wrap .i64 (x10 + (1 : Int))), @Unit.unit)))), @Unit.unit))
 else
  some ((.inr (@Unit.unit, @Unit.unit)))
noncomputable def lcpo_first_L2_R (N : Nat) (c : (((Int) × ((List ((Int) × (List (Int)))) × ((Int) × ((Int) × Unit)))) × Unit)) : Option (((((List (Int)) × ((Bool) × Unit)) × Unit) ⊕ (Unit × Unit))) := gl (fun X c => lcpo_first_L2 N X c.1.1 c.1.2.1 c.1.2.2.1 c.1.2.2.2.1) N c
theorem lcpo_first_L2_S (N : Nat) (X : (((Int) × ((List ((Int) × (List (Int)))) × ((Int) × ((Int) × Unit)))) × Unit) → Option (((((List (Int)) × ((Bool) × Unit)) × Unit) ⊕ (Unit × Unit)))) (kind1 : Int) (x8 : List ((Int) × (List (Int)))) (x9 : Int) (x10 : Int) : (roundK Go.Proofs.Try.prog (Ev28 N) 400 [106] lcpo_first_L2_I (loopAt Go.Proofs.Try.prog [106] 2) X ((kind1, x8, x9, x10, ()), ())).run = lcpo_first_L2 N X kind1 x8 x9 x10 := by kernel_rfl
noncomputable def Ev29 (N : Nat) : (R : Type) → Env R := Env.addLp (Ev28 N) [106] 0 2 (fun R => lpK Go.Proofs.Try.prog lcpo_first_L2_I (fun X c => lcpo_first_L2 N X c.1.1 c.1.2.1 c.1.2.2.1 c.1.2.2.2.1) N)
theorem Ev29_ok (N : Nat) (R : Type) : EnvOK Go.Proofs.Try.prog (Ev29 N R) := EnvOK.addLp (Ev28_ok N R) (by kernel_rfl) (lpK_ok (li := lcpo_first_L2_I) (G := fun X c => lcpo_first_L2 N X c.1.1 c.1.2.1 c.1.2.2.1 c.1.2.2.2.1) hmx (Ev28_ok N _) (by kernel_rfl) loopAt_sub (fun (X : CT lcpo_first_L2_I.sh → Option (OT lcpo_first_L2_I.outs)) (c : CT lcpo_first_L2_I.sh) => lcpo_first_L2_S N X c.1.1 c.1.2.1 c.1.2.2.1 c.1.2.2.2.1) N)
noncomputable def lcpo_first (N : Nat) (l0 : List ((Int) × (List (Int)))) (kind1 : Int) : Option ((List (Int)) × Bool) :=
 Option.bind (lcpo_first_L2_R N ((kind1, (l0, ((((List.length l0) : Nat) : Int), ((0 : Int), @Unit.unit)))), @Unit.unit)) fun (v3 : ((((List Int) × (Bool × Unit)) × Unit) ⊕ (Unit × Unit))) =>
 Sum.elim
  (fun (v4 : (((List Int) × (Bool × Unit)) × Unit)) =>
  some ((v4.1.1, v4.1.2.1)))
  (fun (v4 : (Unit × Unit)) =>
  some ((([] : List (Int)), @Bool.false))) v3
theorem lcpo_first_S (N : Nat) (l0 : List ((Int) × (List (Int)))) (kind1 : Int) : (runK Go.Proofs.Try.prog (Ev29 N) 400 106 [(.sl (.pair (.int .u8) (.sl (.int .u8)))), (.int .u8)] [(.sl (.int .u8)), .bool] (l0, kind1, ())).run = lcpo_first N l0 kind1 := by kernel_rfl
noncomputable def Ev30 (N : Nat) : (R : Type) → Env R := Env.addFn (Ev29 N) 106 (fun R => fnK [(.sl (.pair (.int .u8) (.sl (.int .u8)))), (.int .u8)] [(.sl (.int .u8)), .bool] (fun c => lcpo_first N c.1 c.2.1))
theorem Ev30_ok (N : Nat) (R : Type) : EnvOK Go.Proofs.Try.prog (Ev30 N R) := EnvOK.addFn hmx (Ev29_ok N R) (Ev29_ok N _) (by kernel_rfl) (fun c => lcpo_first_S N c.1 c.2.1)
noncomputable def lcpo_Of (N : Nat) (l0 : List ((Int) × (List (Int)))) : Option ((Int) × ((Int) × ((Bool) × ((Bool) × (Bool))))) :=
 Option.bind (@lcpo_first N l0 (1 : Int)) fun (v2 : ((List Int) × Bool)) =>
 bif v2.2 then
  Option.bind (@lcpo_value N v2.1) fun (v3 : Int) =>
  Option.bind (@lcpo_first N l0 (5 : Int)) fun (v4 : ((List Int) × Bool)) =>
  bif v4.2 then
   Option.bind (@lcpo_value N v4.1) fun (v5 : Int) =>
   Option.bind (@lcpo_first N l0 (3 : Int)) fun (v6 : ((List Int) × Bool)) =>
   Option.bind (@bytes_Equal N v6.1 ([(194 : Int), (35 : Int), (129 : Int)] : List (Int))) fun (v7 : Bool) =>
   Option.bind (@lcpo_first N l0 (7 : Int)) fun (v8 : ((List Int) × Bool)) =>
   Option.bind (@lcpo_first N l0 (8 : Int)) fun (v9 : ((List Int) × Bool)) =>
   some (((Go.IntKind.wrap .u16 v3), ((Go.IntKind.wrap .u32 v5), (v7, (v8.2, v9.2)))))
  else
   Option.bind (@lcpo_first N l0 (3 : Int)) fun (v5 : ((List Int) × Bool)) =>
   Option.bind (@bytes_Equal N v5.1 ([(194 : Int), (35 : Int), (129 : Int)] : List (Int))) fun (v6 : Bool) =>
   Option.bind (@lcpo_first N l0 (7 : Int)) fun (v7 : ((List Int) × Bool)) =>
   Option.bind (@lcpo_first N l0 (8 : Int)) fun (v8 : ((List Int) × Bool)) =>
   some (((Go.IntKind.wrap .u16 v3), ((0 : Int), (v6, (v7.2, v8.2)))))
 else
  Option.bind (@lcpo_first N l0 (5 : Int)) fun (v3 : ((List Int) × Bool)) =>
  bif v3.2 then
   Option.bind (@lcpo_value N v3.1) fun (v4 : Int) =>
   Option.bind (@lcpo_first N l0 (3 : Int)) fun (v5 : ((List Int) × Bool)) =>
   Option.bind (@bytes_Equal N v5.1 ([(194 : Int), (35 : Int), (129 : Int)] : List (Int))) fun (v6 : Bool) =>
   Option.bind (@lcpo_first N l0 (7 : Int)) fun (v7 : ((List Int) × Bool)) =>
   Option.bind (@lcpo_first N l0 (8 : Int)) fun (v8 : ((List Int) × Bool)) =>
   some (((1500 : Int), ((Go.IntKind.wrap .u32 v4), (v6, (v7.2, v8.2)))))
  else
   Option.bind (@lcpo_first N l0 (3 : Int)) fun (v4 : ((List Int) × Bool)) =>
   Option.bind (@bytes_Equal N v4.1 ([(194 : Int), (35 : Int), (129 : Int)] : List (Int))) fun (v5 : Bool) =>
   Option.bind (@lcpo_first N l0 (7 : Int)) fun (v6 : ((List Int) × Bool)) =>
   Option.bind (@lcpo_first N l0 (8 : Int)) fun (v7 : ((List Int) × Bool)) =>
   some (((1500 : Int), ((0 : Int), (v5, (v6.2, v7.2)))))
theorem lcpo_Of_S (N : Nat) (l0 : List ((Int) × (List (Int)))) : (runK Go.Proofs.Try.prog (Ev30 N) 400 62 [(.sl (.pair (.int .u8) (.sl (.int .u8))))] [(.pair (.int .u16) (.pair (.int .u32) (.pair .bool (.pair .bool .bool))))] (l0, ())).run = lcpo_Of N l0 := by kernel_rfl
noncomputable def Ev31 (N : Nat) : (R : Type) → Env R := Env.addFn (Ev30 N) 62 (fun R => fnK [(.sl (.pair (.int .u8) (.sl (.int .u8))))] [(.pair (.int .u16) (.pair (.int .u32) (.pair .bool (.pair .bool .bool))))] (fun c => lcpo_Of N c.1))
theorem Ev31_ok (N : Nat) (R : Type) : EnvOK Go.Proofs.Try.prog (Ev31 N R) := EnvOK.addFn hmx (Ev30_ok N R) (Ev30_ok N _) (by kernel_rfl) (fun c => lcpo_Of_S N c.1)
noncomputable def law25_alive (N : Nat) : Option (Bool) :=
 Option.bind (@lcpo_Judge N ([((9 : Int), ([] : List (Int)))] : List ((Int × (List Int)))) @Bool.true (1 : Int) (2 : Int)) fun (v1 : (Int × (List (Int × (List Int))))) =>
 Option.bind (@lcpo_Options N ((1400 : Int), ((7 : Int), @Bool.true))) fun (v2 : (List (Int × (List Int)))) =>
 bif (decide (v1.1 = (4 : Int))) then
  bif (@cond Bool @Bool.true (decide ((((List.length v1.2) : Nat) : Int) = (1 : Int))) @Bool.false) then
   Option.bind (getI v1.2 (0 : Int)) fun (v3 : (Int × (List Int))) =>
   bif (@cond Bool @Bool.true (decide (v3.1 = (9 : Int))) @Bool.false) then
    bif (@cond Bool @Bool.true (decide ((((List.length v2) : Nat) : Int) = (3 : Int))) @Bool.false) then
     Option.bind (getI v2 (1 : Int)) fun (v4 : (Int × (List Int))) =>
     bif (@cond Bool @Bool.true (decide ((((List.length v4.2) : Nat) : Int) = (3 : Int))) @Bool.false) then
      Option.bind (@lcpo_Of N v2) fun (v5 : (Int × (Int × (Bool × (Bool × Bool))))) =>
      bif (@cond Bool @Bool.true (decide (v5.1 = (1400 : Int))) @Bool.false) then
       some ((@cond Bool @Bool.true (decide ((((List.length ([(194 : Int), (35 : Int), (129 : Int)] : List (Int))) : Nat) : Int) = (3 : Int))) @Bool.false))
      else
       some (@Bool.false)
     else
      some (@Bool.false)
    else
     some (@Bool.false)
   else
    some (@Bool.false)
  else
   some (@Bool.false)
 else
  some (@Bool.false)
theorem law25_alive_S (N : Nat) : (runK Go.Proofs.Try.prog (Ev31 N) 400 54 [] [.bool] ()).run = law25_alive N  := by kernel_rfl
noncomputable def Ev32 (N : Nat) : (R : Type) → Env R := Env.addFn (Ev31 N) 54 (fun R => fnK [] [.bool] (fun c => law25_alive N ))
theorem Ev32_ok (N : Nat) (R : Type) : EnvOK Go.Proofs.Try.prog (Ev32 N R) := EnvOK.addFn hmx (Ev31_ok N R) (Ev31_ok N _) (by kernel_rfl) (fun c => law25_alive_S N )
noncomputable def law25_theirs_L3_I : LI := ⟨22, 0, [(3, 124)], ⟨[(3, .lit (.own 0)), (6, .ty (.sl (.pair (.int .u8) (.sl (.int .u8))))), (7, .ty (.int .i64)), (8, .ty (.int .i64))], [.own (.pair (.int .u8) (.sl (.int .u8))) 124]⟩, [(.exit 0, ⟨[(3, .lit (.own 0))], [.own (.pair (.int .u8) (.sl (.int .u8))) 124]⟩)]⟩
noncomputable def law25_theirs_L3 (N : Nat) (X : (((List ((Int) × (List (Int)))) × ((Int) × ((Int) × Unit))) × ((List ((Int) × (List (Int)))) × Unit)) → Option ((Unit × ((List ((Int) × (List (Int)))) × Unit)))) (x6 : List ((Int) × (List (Int)))) (x7 : Int) (x8 : Int) (h0 : List ((Int) × (List (Int)))) : Option ((Unit × ((List ((Int) × (List (Int)))) × Unit))) :=
 bif (decide (x8 < x7)) then
  Option.bind (getI x6 x8) fun (v6 : (Int × (List Int))) =>
  bif (roomB ((List.length h0) + (List.length ([(v6.1, v6.2)] : List ((Int × (List Int)))))) 32) then
   (X ((x6, (x7, ((Go.IntKind.wrap .i64 (x8 + (1 : Int))), @Unit.unit))), ((h0 ++ ([(v6.1, v6.2)] : List ((Int × (List Int))))), @Unit.unit)))
  else
   none
 else
  some ((@Unit.unit, (h0, @Unit.unit)))
noncomputable def law25_theirs_L3_R (N : Nat) (c : (((List ((Int) × (List (Int)))) × ((Int) × ((Int) × Unit))) × ((List ((Int) × (List (Int)))) × Unit))) : Option ((Unit × ((List ((Int) × (List (Int)))) × Unit))) := gl (fun X c => law25_theirs_L3 N X c.1.1 c.1.2.1 c.1.2.2.1 c.2.1) N c
theorem law25_theirs_L3_S (N : Nat) (X : (((List ((Int) × (List (Int)))) × ((Int) × ((Int) × Unit))) × ((List ((Int) × (List (Int)))) × Unit)) → Option ((Unit × ((List ((Int) × (List (Int)))) × Unit)))) (x6 : List ((Int) × (List (Int)))) (x7 : Int) (x8 : Int) (h0 : List ((Int) × (List (Int)))) : (roundK Go.Proofs.Try.prog (Ev32 N) 400 [56] law25_theirs_L3_I (loopAt Go.Proofs.Try.prog [56] 3) X ((x6, x7, x8, ()), (h0, ()))).run = law25_theirs_L3 N X x6 x7 x8 h0 := by kernel_rfl
noncomputable def Ev33 (N : Nat) : (R : Type) → Env R := Env.addLp (Ev32 N) [56] 0 3 (fun R => lpK Go.Proofs.Try.prog law25_theirs_L3_I (fun X c => law25_theirs_L3 N X c.1.1 c.1.2.1 c.1.2.2.1 c.2.1) N)
theorem Ev33_ok (N : Nat) (R : Type) : EnvOK Go.Proofs.Try.prog (Ev33 N R) := EnvOK.addLp (Ev32_ok N R) (by kernel_rfl) (lpK_ok (li := law25_theirs_L3_I) (G := fun X c => law25_theirs_L3 N X c.1.1 c.1.2.1 c.1.2.2.1 c.2.1) hmx (Ev32_ok N _) (by kernel_rfl) loopAt_sub (fun (X : CT law25_theirs_L3_I.sh → Option (OT law25_theirs_L3_I.outs)) (c : CT law25_theirs_L3_I.sh) => law25_theirs_L3_S N X c.1.1 c.1.2.1 c.1.2.2.1 c.2.1) N)
noncomputable def law25_theirs (N : Nat) (l0 : List ((Int) × (List (Int)))) : Option (List ((Int) × (List (Int)))) :=
 Option.bind (law25_theirs_L3_R N ((l0, ((((List.length l0) : Nat) : Int), ((0 : Int), @Unit.unit))), (([] : List ((Int × (List Int)))), @Unit.unit))) fun (v2 : (Unit × ((List (Int × (List Int))) × Unit))) =>
 some (v2.2.1)
theorem law25_theirs_S (N : Nat) (l0 : List ((Int) × (List (Int)))) : (runK Go.Proofs.Try.prog (Ev33 N) 400 56 [(.sl (.pair (.int .u8) (.sl (.int .u8))))] [(.sl (.pair (.int .u8) (.sl (.int .u8))))] (l0, ())).run = law25_theirs N l0 := by kernel_rfl
noncomputable def Ev34 (N : Nat) : (R : Type) → Env R := Env.addFn (Ev33 N) 56 (fun R => fnK [(.sl (.pair (.int .u8) (.sl (.int .u8))))] [(.sl (.pair (.int .u8) (.sl (.int .u8))))] (fun c => law25_theirs N c.1))
theorem Ev34_ok (N : Nat) (R : Type) : EnvOK Go.Proofs.Try.prog (Ev34 N R) := EnvOK.addFn hmx (Ev33_ok N R) (Ev33_ok N _) (by kernel_rfl) (fun c => law25_theirs_S N c.1)
noncomputable def ref21_Find_L2_I : LI := ⟨25, 0, [], ⟨[(0, .ty (.sl (.pair (.int .u8) (.sl (.int .u8))))), (1, .ty (.int .u8)), (4, .lit (.box 0 0)), (6, .ty (.int .i64))], [.box 73 (.pair (.int .u8) (.sl (.int .u8)))]⟩, [(.ret, ⟨[(4, .lit (.box 0 0)), (5, .ty .bool)], [.box 73 (.pair (.int .u8) (.sl (.int .u8)))]⟩), (.exit 0, ⟨[(4, .lit (.box 0 0))], [.box 73 (.pair (.int .u8) (.sl (.int .u8)))]⟩)]⟩
noncomputable def ref21_Find_L2 (N : Nat) (X : (((List ((Int) × (List (Int)))) × ((Int) × ((Int) × Unit))) × (((Int) × (List (Int))) × Unit)) → Option (((((Bool) × Unit) × (((Int) × (List (Int))) × Unit)) ⊕ (Unit × (((Int) × (List (Int))) × Unit))))) (l0 : List ((Int) × (List (Int)))) (kind1 : Int) (i6 : Int) (h0 : (Int) × (List (Int))) : Option (((((Bool) × Unit) × (((Int) × (List (Int))) × Unit)) ⊕ (Unit × (((Int) × (List (Int))) × Unit)))) :=
 bif (decide (i6 < (((List.length l0) : Nat) : Int))) then
  Option.bind (getI l0 i6) fun (v6 : (Int × (List Int))) =>
  bif (decide (v6.1 = kind1)) then
   Option.bind (getI l0 i6) fun (v7 : (Int × (List Int))) =>
   some ((.inl ((@Bool.true, @Unit.unit), ((v7.1, v7.2), @Unit.unit))))
  else
   (X ((l0, (kind1, ((Go.IntKind.wrap .i64 (i6 + (1 : Int))), @Unit.unit))), ((h0.1, h0.2), @Unit.unit)))
 else
  some ((.inr (@Unit.unit, ((h0.1, h0.2), @Unit.unit))))
noncomputable def ref21_Find_L2_R (N : Nat) (c : (((List ((Int) × (List (Int)))) × ((Int) × ((Int) × Unit))) × (((Int) × (List (Int))) × Unit))) : Option (((((Bool) × Unit) × (((Int) × (List (Int))) × Unit)) ⊕ (Unit × (((Int) × (List (Int))) × Unit)))) := gl (fun X c => ref21_Find_L2 N X c.1.1 c.1.2.1 c.1.2.2.1 c.2.1) N c
theorem ref21_Find_L2_S (N : Nat) (X : (((List ((Int) × (List (Int)))) × ((Int) × ((Int) × Unit))) × (((Int) × (List (Int))) × Unit)) → Option (((((Bool) × Unit) × (((Int) × (List (Int))) × Unit)) ⊕ (Unit × (((Int) × (List (Int))) × Unit))))) (l0 : List ((Int) × (List (Int)))) (kind1 : Int) (i6 : Int) (h0 : (Int) × (List (Int))) : (roundK Go.Proofs.Try.prog (Ev34 N) 400 [100] ref21_Find_L2_I (loopAt Go.Proofs.Try.prog [100] 2) X ((l0, kind1, i6, ()), (h0, ()))).run = ref21_Find_L2 N X l0 kind1 i6 h0 := by kernel_rfl
noncomputable def Ev35 (N : Nat) : (R : Type) → Env R := Env.addLp (Ev34 N) [100] 0 2 (fun R => lpK Go.Proofs.Try.prog ref21_Find_L2_I (fun X c => ref21_Find_L2 N X c.1.1 c.1.2.1 c.1.2.2.1 c.2.1) N)
theorem Ev35_ok (N : Nat) (R : Type) : EnvOK Go.Proofs.Try.prog (Ev35 N R) := EnvOK.addLp (Ev34_ok N R) (by kernel_rfl) (lpK_ok (li := ref21_Find_L2_I) (G := fun X c => ref21_Find_L2 N X c.1.1 c.1.2.1 c.1.2.2.1 c.2.1) hmx (Ev34_ok N _) (by kernel_rfl) loopAt_sub (fun (X : CT ref21_Find_L2_I.sh → Option (OT ref21_Find_L2_I.outs)) (c : CT ref21_Find_L2_I.sh) => ref21_Find_L2_S N X c.1.1 c.1.2.1 c.1.2.2.1 c.2.1) N)
noncomputable def ref21_Find (N : Nat) (l0 : List ((Int) × (List (Int)))) (kind1 : Int) : Option (((Int) × (List (Int))) × Bool) :=
 Option.bind (ref21_Find_L2_R N ((l0, (kind1, ((0 : Int), @Unit.unit))), (((0 : Int), ([] : List (Int))), @Unit.unit))) fun (v3 : (((Bool × Unit) × ((Int × (List Int)) × Unit)) ⊕ (Unit × ((Int × (List Int)) × Unit)))) =>
 Sum.elim
  (fun (v4 : ((Bool × Unit) × ((Int × (List Int)) × Unit))) =>
  some (((v4.2.1.1, v4.2.1.2), v4.1.1)))
  (fun (v4 : (Unit × ((Int × (List Int)) × Unit))) =>
  some ((((0 : Int), ([] : List (Int))), @Bool.false))) v3
theorem ref21_Find_S (N : Nat) (l0 : List ((Int) × (List (Int)))) (kind1 : Int) : (runK Go.Proofs.Try.prog (Ev35 N) 400 100 [(.sl (.pair (.int .u8) (.sl (.int .u8)))), (.int .u8)] [(.pair (.int .u8) (.sl (.int .u8))), .bool] (l0, kind1, ())).run = ref21_Find N l0 kind1 := by kernel_rfl
noncomputable def Ev36 (N : Nat) : (R : Type) → Env R := Env.addFn (Ev35 N) 100 (fun R => fnK [(.sl (.pair (.int .u8) (.sl (.int .u8)))), (.int .u8)] [(.pair (.int .u8) (.sl (.int .u8))), .bool] (fun c => ref21_Find N c.1 c.2.1))
theorem Ev36_ok (N : Nat) (R : Type) : EnvOK Go.Proofs.Try.prog (Ev36 N R) := EnvOK.addFn hmx (Ev35_ok N R) (Ev35_ok N _) (by kernel_rfl) (fun c => ref21_Find_S N c.1 c.2.1)
noncomputable def Ev37 (N : Nat) : (R : Type) → Env R := Env.addBx (Ev36 N) [(101, 0)]
theorem Ev37_ok (N : Nat) (R : Type) : EnvOK Go.Proofs.Try.prog (Ev37 N R) := EnvOK.addBx (Ev36_ok N R) [(101, 0)]
noncomputable def ref25_long (N : Nat) (kind0 : Int) : Option (Int) :=
 bif (decide (kind0 = (1 : Int))) then
  some ((2 : Int))
 else
  bif (decide (kind0 = (3 : Int))) then
   some ((3 : Int))
  else
   bif (decide (kind0 = (5 : Int))) then
    some ((4 : Int))
   else
    bif (decide (kind0 = (7 : Int))) then
     bif (decide (kind0 = (7 : Int))) then
      some ((0 : Int))
     else
      some ((-1 : Int))
    else
     bif (decide (kind0 = (8 : Int))) then
      some ((0 : Int))
     else
      some ((-1 : Int))
theorem ref25_long_S (N : Nat) (kind0 : Int) : (runK Go.Proofs.Try.prog (Ev37 N) 400 125 [(.int .u8)] [(.int .i64)] (kind0, ())).run = ref25_long N kind0 := by kernel_rfl
noncomputable def Ev38 (N : Nat) : (R : Type) → Env R := Env.addFn (Ev37 N) 125 (fun R => fnK [(.int .u8)] [(.int .i64)] (fun c => ref25_long N c.1))
theorem Ev38_ok (N : Nat) (R : Type) : EnvOK Go.Proofs.Try.prog (Ev38 N R) := EnvOK.addFn hmx (Ev37_ok N R) (Ev37_ok N _) (by kernel_rfl) (fun c => ref25_long_S N c.1)
noncomputable def ref25_right (N : Nat) (o0 : (Int) × (List (Int))) : Option (Bool) :=
 Option.bind (@ref25_long N o0.1) fun (v2 : Int) =>
 some ((decide (v2 = (((List.length o0.2) : Nat) : Int))))
theorem ref25_right_S (N : Nat) (o0 : (Int) × (List (Int))) : (runK Go.Proofs.Try.prog (Ev38 N) 400 101 [(.pair (.int .u8) (.sl (.int .u8)))] [.bool] (o0, ())).run = ref25_right N o0 := by kernel_rfl
noncomputable def Ev39 (N : Nat) : (R : Type) → Env R := Env.addFn (Ev38 N) 101 (fun R => fnK [(.pair (.int .u8) (.sl (.int .u8)))] [.bool] (fun c => ref25_right N c.1))
theorem Ev39_ok (N : Nat) (R : Type) : EnvOK Go.Proofs.Try.prog (Ev39 N R) := EnvOK.addFn hmx (Ev38_ok N R) (Ev38_ok N _) (by kernel_rfl) (fun c => ref25_right_S N c.1)
noncomputable def Ev40 (N : Nat) : (R : Type) → Env R := Env.addBx (Ev39 N) [(102, 0)]
theorem Ev40_ok (N : Nat) (R : Type) : EnvOK Go.Proofs.Try.prog (Ev40 N R) := EnvOK.addBx (Ev39_ok N R) [(102, 0)]
noncomputable def ref01_Num_L3_I : LI := ⟨20, 0, [], ⟨[(0, .ty (.sl (.int .u8))), (3, .ty (.int .u64)), (4, .ty (.int .i64))], []⟩, [(.exit 0, ⟨[(3, .ty (.int .u64))], []⟩)]⟩
noncomputable def ref01_Num_L3 (N : Nat) (X : (((List (Int)) × ((Int) × ((Int) × Unit))) × Unit) → Option ((((Int) × Unit) × Unit))) (b0 : List (Int)) (n3 : Int) (i4 : Int) : Option ((((Int) × Unit) × Unit)) :=
 bif (decide (i4 < (((List.length b0) : Nat) : Int))) then
  Option.bind (getI b0 i4) fun (v5 : Int) =>
  (X ((b0, ((Go.IntKind.wrap .u64 ((Go.IntKind.wrap .u64 (n3 * (256 : Int))) + (Go.IntKind.wrap .u64 v5))), ((Go.IntKind.wrap .i64 (i4 + (1 : Int))), @Unit.unit))), @Unit.unit))
 else
  some (((n3, @Unit.unit), @Unit.unit))
noncomputable def ref01_Num_L3_R (N : Nat) (c : (((List (Int)) × ((Int) × ((Int) × Unit))) × Unit)) : Option ((((Int) × Unit) × Unit)) := gl (fun X c => ref01_Num_L3 N X c.1.1 c.1.2.1 c.1.2.2.1) N c
theorem ref01_Num_L3_S (N : Nat) (X : (((List (Int)) × ((Int) × ((Int) × Unit))) × Unit) → Option ((((Int) × Unit) × Unit))) (b0 : List (Int)) (n3 : Int) (i4 : Int) : (roundK Go.Proofs.Try.prog (Ev40 N) 400 [79] ref01_Num_L3_I (loopAt Go.Proofs.Try.prog [79] 3) X ((b0, n3, i4, ()), ())).run = ref01_Num_L3 N X b0 n3 i4 := by kernel_rfl
noncomputable def Ev41 (N : Nat) : (R : Type) → Env R := Env.addLp (Ev40 N) [79] 0 3 (fun R => lpK Go.Proofs.Try.prog ref01_Num_L3_I (fun X c => ref01_Num_L3 N X c.1.1 c.1.2.1 c.1.2.2.1) N)
theorem Ev41_ok (N : Nat) (R : Type) : EnvOK Go.Proofs.Try.prog (Ev41 N R) := EnvOK.addLp (Ev40_ok N R) (by kernel_rfl) (lpK_ok (li := ref01_Num_L3_I) (G := fun X c => ref01_Num_L3 N X c.1.1 c.1.2.1 c.1.2.2.1) hmx (Ev40_ok N _) (by kernel_rfl) loopAt_sub (fun (X : CT ref01_Num_L3_I.sh → Option (OT ref01_Num_L3_I.outs)) (c : CT ref01_Num_L3_I.sh) => ref01_Num_L3_S N X c.1.1 c.1.2.1 c.1.2.2.1) N)
noncomputable def ref01_Num (N : Nat) (b0 : List (Int)) : Option (Int) :=
 Option.bind (ref01_Num_L3_R N ((b0, ((0 : Int), ((0 : Int), @Unit.unit))), @Unit.unit)) fun (v2 : ((Int × Unit) × Unit)) =>
 some (v2.1.1)
theorem ref01_Num_S (N : Nat) (b0 : List (Int)) : (runK Go.Proofs.Try.prog (Ev41 N) 400 79 [(.sl (.int .u8))] [(.int .u64)] (b0, ())).run = ref01_Num N b0 := by kernel_rfl
noncomputable def Ev42 (N : Nat) : (R : Type) → Env R := Env.addFn (Ev41 N) 79 (fun R => fnK [(.sl (.int .u8))] [(.int .u64)] (fun c => ref01_Num N c.1))
theorem Ev42_ok (N : Nat) (R : Type) : EnvOK Go.Proofs.Try.prog (Ev42 N R) := EnvOK.addFn hmx (Ev41_ok N R) (Ev41_ok N _) (by kernel_rfl) (fun c => ref01_Num_S N c.1)
noncomputable def ref01_Big_L3_I : LI := ⟨24, 0, [], ⟨[(0, .ty (.int .u64)), (5, .lit (.own 0)), (6, .ty (.int .i64))], [.own (.int .u8) 5]⟩, [(.exit 0, ⟨[(5, .lit (.own 0))], [.own (.int .u8) 5]⟩)]⟩
noncomputable def ref01_Big_L3 (N : Nat) (X : (((Int) × ((Int) × Unit)) × ((List (Int)) × Unit)) → Option ((Unit × ((List (Int)) × Unit)))) (n0 : Int) (i6 : Int) (h0 : List (Int)) : Option ((Unit × ((List (Int)) × Unit))) :=
 bif (decide ((0 : Int) ≤ i6)) then
  bif (decide ((0 : Int) ≤ i6 ∧ i6 < (((List.length h0) : Nat) : Int))) then
   Option.bind (@GetElem?.getElem? (List Int) Nat Int (fun (as5 : (List Int)) => (fun (i6 : Nat) => (@LT.lt Nat @instLTNat i6 (List.length as5)))) (@List.instGetElem?NatLtLength Int) h0 (Int.toNat i6)) fun (v5 : Int) =>
   (X (((Go.IntKind.wrap .u64 (@Int.tdiv n0 (256 : Int))), ((Go.IntKind.wrap .i64 (i6 - (1 : Int))), @Unit.unit)), ((@List.set Int h0 (Int.toNat i6) (Go.IntKind.wrap .u8 (@Int.tmod n0 (256 : Int)))), @Unit.unit)))
  else
   none
 else
  some ((@Unit.unit, (h0, @Unit.unit)))
noncomputable def ref01_Big_L3_R (N : Nat) (c : (((Int) × ((Int) × Unit)) × ((List (Int)) × Unit))) : Option ((Unit × ((List (Int)) × Unit))) := gl (fun X c => ref01_Big_L3 N X c.1.1 c.1.2.1 c.2.1) N c
theorem ref01_Big_L3_S (N : Nat) (X : (((Int) × ((Int) × Unit)) × ((List (Int)) × Unit)) → Option ((Unit × ((List (Int)) × Unit)))) (n0 : Int) (i6 : Int) (h0 : List (Int)) : (roundK Go.Proofs.Try.prog (Ev42 N) 400 [71] ref01_Big_L3_I (loopAt Go.Proofs.Try.prog [71] 3) X ((n0, i6, ()), (h0, ()))).run = ref01_Big_L3 N X n0 i6 h0 := by kernel_rfl
noncomputable def Ev43 (N : Nat) : (R : Type) → Env R := Env.addLp (Ev42 N) [71] 0 3 (fun R => lpK Go.Proofs.Try.prog ref01_Big_L3_I (fun X c => ref01_Big_L3 N X c.1.1 c.1.2.1 c.2.1) N)
theorem Ev43_ok (N : Nat) (R : Type) : EnvOK Go.Proofs.Try.prog (Ev43 N R) := EnvOK.addLp (Ev42_ok N R) (by kernel_rfl) (lpK_ok (li := ref01_Big_L3_I) (G := fun X c => ref01_Big_L3 N X c.1.1 c.1.2.1 c.2.1) hmx (Ev42_ok N _) (by kernel_rfl) loopAt_sub (fun (X : CT ref01_Big_L3_I.sh → Option (OT ref01_Big_L3_I.outs)) (c : CT ref01_Big_L3_I.sh) => ref01_Big_L3_S N X c.1.1 c.1.2.1 c.2.1) N)
noncomputable def ref01_Big (N : Nat) (n0 : Int) (width1 : Int) : Option (List (Int)) :=
 bif ((decide ((0 : Int) ≤ width1 ∧ width1 ≤ width1)) && (roomB (Int.toNat width1) 1)) then
  Option.bind (ref01_Big_L3_R N ((n0, ((Go.IntKind.wrap .i64 (width1 - (1 : Int))), @Unit.unit)), ((@List.replicate Int (Int.toNat width1) (0 : Int)), @Unit.unit))) fun (v3 : (Unit × ((List Int) × Unit))) =>
  some (v3.2.1)
 else
  none
theorem ref01_Big_S (N : Nat) (n0 : Int) (width1 : Int) : (runK Go.Proofs.Try.prog (Ev43 N) 400 71 [(.int .u64), (.int .i64)] [(.sl (.int .u8))] (n0, width1, ())).run = ref01_Big N n0 width1 := by kernel_rfl
noncomputable def Ev44 (N : Nat) : (R : Type) → Env R := Env.addFn (Ev43 N) 71 (fun R => fnK [(.int .u64), (.int .i64)] [(.sl (.int .u8))] (fun c => ref01_Big N c.1 c.2.1))
theorem Ev44_ok (N : Nat) (R : Type) : EnvOK Go.Proofs.Try.prog (Ev44 N R) := EnvOK.addFn hmx (Ev43_ok N R) (Ev43_ok N _) (by kernel_rfl) (fun c => ref01_Big_S N c.1 c.2.1)
noncomputable def ref25_chap (N : Nat) : Option (List (Int)) :=
 some (([(194 : Int), (35 : Int), (129 : Int)] : List (Int)))
theorem ref25_chap_S (N : Nat) : (runK Go.Proofs.Try.prog (Ev44 N) 400 105 [] [(.sl (.int .u8))] ()).run = ref25_chap N  := by kernel_rfl
noncomputable def Ev45 (N : Nat) : (R : Type) → Env R := Env.addFn (Ev44 N) 105 (fun R => fnK [] [(.sl (.int .u8))] (fun c => ref25_chap N ))
theorem Ev45_ok (N : Nat) (R : Type) : EnvOK Go.Proofs.Try.prog (Ev45 N R) := EnvOK.addFn hmx (Ev44_ok N R) (Ev44_ok N _) (by kernel_rfl) (fun c => ref25_chap_S N )
noncomputable def ref01_Same_L4_I : LI := ⟨26, 0, [], ⟨[(0, .ty (.sl (.int .u8))), (1, .ty (.sl (.int .u8))), (5, .ty (.int .i64))], []⟩, [(.ret, ⟨[(4, .ty .bool)], []⟩), (.exit 0, ⟨[], []⟩)]⟩
noncomputable def ref01_Same_L4 (N : Nat) (X : (((List (Int)) × ((List (Int)) × ((Int) × Unit))) × Unit) → Option (((((Bool) × Unit) × Unit) ⊕ (Unit × Unit)))) (a0 : List (Int)) (b1 : List (Int)) (i5 : Int) : Option (((((Bool) × Unit) × Unit) ⊕ (Unit × Unit))) :=
 bif (decide (i5 < (((List.length a0) : Nat) : Int))) then
  Option.bind (getI a0 i5) fun (v5 : Int) =>
  Option.bind (getI b1 i5) fun (v6 : Int) =>
  bif (!(decide (v5 = v6))) then
   some ((.inl ((@Bool.false, @Unit.unit), @Unit.unit)))
  else
   (X ((a0, (b1, ((Go.IntKind.wrap .i64 (i5 + (1 : Int))), @Unit.unit))), @Unit.unit))
 else
  some ((.inr (@Unit.unit, @Unit.unit)))
noncomputable def ref01_Same_L4_R (N : Nat) (c : (((List (Int)) × ((List (Int)) × ((Int) × Unit))) × Unit)) : Option (((((Bool) × Unit) × Unit) ⊕ (Unit × Unit))) := gl (fun X c => ref01_Same_L4 N X c.1.1 c.1.2.1 c.1.2.2.1) N c
theorem ref01_Same_L4_S (N : Nat) (X : (((List (Int)) × ((List (Int)) × ((Int) × Unit))) × Unit) → Option (((((Bool) × Unit) × Unit) ⊕ (Unit × Unit)))) (a0 : List (Int)) (b1 : List (Int)) (i5 : Int) : (roundK Go.Proofs.Try.prog (Ev45 N) 400 [20] ref01_Same_L4_I (loopAt Go.Proofs.Try.prog [20] 4) X ((a0, b1, i5, ()), ())).run = ref01_Same_L4 N X a0 b1 i5 := by kernel_rfl
noncomputable def Ev46 (N : Nat) : (R : Type) → Env R := Env.addLp (Ev45 N) [20] 0 4 (fun R => lpK Go.Proofs.Try.prog ref01_Same_L4_I (fun X c => ref01_Same_L4 N X c.1.1 c.1.2.1 c.1.2.2.1) N)
theorem Ev46_ok (N : Nat) (R : Type) : EnvOK Go.Proofs.Try.prog (Ev46 N R) := EnvOK.addLp (Ev45_ok N R) (by kernel_rfl) (lpK_ok (li := ref01_Same_L4_I) (G := fun X c => ref01_Same_L4 N X c.1.1 c.1.2.1 c.1.2.2.1) hmx (Ev45_ok N _) (by kernel_rfl) loopAt_sub (fun (X : CT ref01_Same_L4_I.sh → Option (OT ref01_Same_L4_I.outs)) (c : CT ref01_Same_L4_I.sh) => ref01_Same_L4_S N X c.1.1 c.1.2.1 c.1.2.2.1) N)
noncomputable def ref01_Same (N : Nat) (a0 : List (Int)) (b1 : List (Int)) : Option (Bool) :=
 bif (!(decide ((((List.length a0) : Nat) : Int) = (((List.length b1) : Nat) : Int)))) then
  some (@Bool.false)
 else
  Option.bind (ref01_Same_L4_R N ((a0, (b1, ((0 : Int), @Unit.unit))), @Unit.unit)) fun (v3 : (((Bool × Unit) × Unit) ⊕ (Unit × Unit))) =>
  Sum.elim
   (fun (v4 : ((Bool × Unit) × Unit)) =>
   some (v4.1.1))
   (fun (v4 : (Unit × Unit)) =>
   some (@Bool.true)) v3
theorem ref01_Same_S (N : Nat) (a0 : List (Int)) (b1 : List (Int)) : (runK Go.Proofs.Try.prog (Ev46 N) 400 20 [(.sl (.int .u8)), (.sl (.int .u8))] [.bool] (a0, b1, ())).run = ref01_Same N a0 b1 := by kernel_rfl
noncomputable def Ev47 (N : Nat) : (R : Type) → Env R := Env.addFn (Ev46 N) 20 (fun R => fnK [(.sl (.int .u8)), (.sl (.int .u8))] [.bool] (fun c => ref01_Same N c.1 c.2.1))
theorem Ev47_ok (N : Nat) (R : Type) : EnvOK Go.Proofs.Try.prog (Ev47 N R) := EnvOK.addFn hmx (Ev46_ok N R) (Ev46_ok N _) (by kernel_rfl) (fun c => ref01_Same_S N c.1 c.2.1)
noncomputable def ref25_better (N : Nat) (o0 : (Int) × (List (Int))) (own1 : Int) (fresh2 : Int) : Option (((Int) × (List (Int))) × Bool) :=
 Option.bind (@ref01_Num N o0.2) fun (v4 : Int) =>
 bif (decide (o0.1 = (1 : Int))) then
  bif (@cond Bool @Bool.true (decide ((Go.IntKind.wrap .u32 v4) < (128 : Int))) @Bool.false) then
   Option.bind (@ref01_Big N (1400 : Int) (2 : Int)) fun (v5 : (List Int)) =>
   some ((((1 : Int), v5), @Bool.true))
  else
   bif (decide (o0.1 = (3 : Int))) then
    Option.bind (@ref01_Same N o0.2 ([(194 : Int), (35 : Int), (129 : Int)] : List (Int))) fun (v5 : Bool) =>
    bif (@cond Bool @Bool.true (!v5) @Bool.false) then
     some ((((3 : Int), ([(194 : Int), (35 : Int), (129 : Int)] : List (Int))), @Bool.true))
    else
     bif (decide (o0.1 = (5 : Int))) then
      bif (decide ((Go.IntKind.wrap .u32 v4) = (0 : Int))) then
       Option.bind (@ref01_Big N (Go.IntKind.wrap .u64 fresh2) (4 : Int)) fun (v6 : (List Int)) =>
       some ((((5 : Int), v6), @Bool.true))
      else
       bif (@cond Bool @Bool.true (@cond Bool @Bool.false @Bool.true (decide ((Go.IntKind.wrap .u32 v4) = own1))) @Bool.false) then
        Option.bind (@ref01_Big N (Go.IntKind.wrap .u64 fresh2) (4 : Int)) fun (v6 : (List Int)) =>
        some ((((5 : Int), v6), @Bool.true))
       else
        some ((((0 : Int), ([] : List (Int))), @Bool.false))
     else
      some ((((0 : Int), ([] : List (Int))), @Bool.false))
   else
    bif (decide (o0.1 = (5 : Int))) then
     bif (decide ((Go.IntKind.wrap .u32 v4) = (0 : Int))) then
      Option.bind (@ref01_Big N (Go.IntKind.wrap .u64 fresh2) (4 : Int)) fun (v5 : (List Int)) =>
      some ((((5 : Int), v5), @Bool.true))
     else
      bif (@cond Bool @Bool.true (@cond Bool @Bool.false @Bool.true (decide ((Go.IntKind.wrap .u32 v4) = own1))) @Bool.false) then
       Option.bind (@ref01_Big N (Go.IntKind.wrap .u64 fresh2) (4 : Int)) fun (v5 : (List Int)) =>
       some ((((5 : Int), v5), @Bool.true))
      else
       some ((((0 : Int), ([] : List (Int))), @Bool.false))
    else
     some ((((0 : Int), ([] : List (Int))), @Bool.false))
 else
  bif (decide (o0.1 = (3 : Int))) then
   Option.bind (@ref01_Same N o0.2 ([(194 : Int), (35 : Int), (129 : Int)] : List (Int))) fun (v5 : Bool) =>
   bif (@cond Bool @Bool.true (!v5) @Bool.false) then
    some ((((3 : Int), ([(194 : Int), (35 : Int), (129 : Int)] : List (Int))), @Bool.true))
   else
    bif (decide (o0.1 = (5 : Int))) then
     bif (decide ((Go.IntKind.wrap .u32 v4) = (0 : Int))) then
      Option.bind (@ref01_Big N (Go.IntKind.wrap .u64 fresh2) (4 : Int)) fun (v6 : (List Int)) =>
      some ((((5 : Int), v6), @Bool.true))
     else
      bif (@cond Bool @Bool.true (@cond Bool @Bool.false @Bool.true (decide ((Go.IntKind.wrap .u32 v4) = own1))) @Bool.false) then
       Option.bind (@ref01_Big N (Go.IntKind.wrap .u64 fresh2) (4 : Int)) fun (v6 : (List Int)) =>
       some ((((5 : Int), v6), @Bool.true))
      else
       some ((((0 : Int), ([] : List (Int))), @Bool.false))
    else
     some ((((0 : Int), ([] : List (Int))), @Bool.false))
  else
   bif (decide (o0.1 = (5 : Int))) then
    bif (decide ((Go.IntKind.wrap .u32 v4) = (0 : Int))) then
     Option.bind (@ref01_Big N (Go.IntKind.wrap .u64 fresh2) (4 : Int)) fun (v5 : (List Int)) =>
     some ((((5 : Int), v5), @Bool.true))
    else
     bif (@cond Bool @Bool.true (@cond Bool @Bool.false @Bool.true (decide ((Go.IntKind.wrap .u32 v4) = own1))) @Bool.false) then
      Option.bind (@ref01_Big N (Go.IntKind.wrap .u64 fresh2) (4 : Int)) fun (v5 : (List Int)) =>
      some ((((5 : Int), v5), @Bool.true))
     else
      some ((((0 : Int), ([] : List (Int))), @Bool.false))
   else
    some ((((0 : Int), ([] : List (Int))), @Bool.false))
theorem ref25_better_S (N : Nat) (o0 : (Int) × (List (Int))) (own1 : Int) (fresh2 : Int) : (runK Go.Proofs.Try.prog (Ev47 N) 400 102 [(.pair (.int .u8) (.sl (.int .u8))), (.int .u32), (.int .u32)] [(.pair (.int .u8) (.sl (.int .u8))), .bool] (o0, own1, fresh2, ())).run = ref25_better N o0 own1 fresh2 := by kernel_rfl
noncomputable def Ev48 (N : Nat) : (R : Type) → Env R := Env.addFn (Ev47 N) 102 (fun R => fnK [(.pair (.int .u8) (.sl (.int .u8))), (.int .u32), (.int .u32)] [(.pair (.int .u8) (.sl (.int .u8))), .bool] (fun c => ref25_better N c.1 c.2.1 c.2.2.1))
theorem Ev48_ok (N : Nat) (R : Type) : EnvOK Go.Proofs.Try.prog (Ev48 N R) := EnvOK.addFn hmx (Ev47_ok N R) (Ev47_ok N _) (by kernel_rfl) (fun c => ref25_better_S N c.1 c.2.1 c.2.2.1)
noncomputable def ref25_Judge_L3_I : LI := ⟨87, 0, [(10, 73), (11, 73)], ⟨[(0, .ty (.sl (.pair (.int .u8) (.sl (.int .u8))))), (1, .ty .bool), (2, .ty (.int .u32)), (3, .ty (.int .u32)), (10, .lit (.own 0)), (11, .lit (.own 1)), (12, .ty (.int .i64))], [.own (.pair (.int .u8) (.sl (.int .u8))) 73, .own (.pair (.int .u8) (.sl (.int .u8))) 73]⟩, [(.exit 0, ⟨[(0, .ty (.sl (.pair (.int .u8) (.sl (.int .u8))))), (10, .lit (.own 0)), (11, .lit (.own 1))], [.own (.pair (.int .u8) (.sl (.int .u8))) 73, .own (.pair (.int .u8) (.sl (.int .u8))) 73]⟩)]⟩
noncomputable def ref25_Judge_L3 (N : Nat) (X : (((List ((Int) × (List (Int)))) × ((Bool) × ((Int) × ((Int) × ((Int) × Unit))))) × ((List ((Int) × (List (Int)))) × ((List ((Int) × (List (Int)))) × Unit))) → Option ((((List ((Int) × (List (Int)))) × Unit) × ((List ((Int) × (List (Int)))) × ((List ((Int) × (List (Int)))) × Unit))))) (l0 : List ((Int) × (List (Int)))) (proves1 : Bool) (own2 : Int) (fresh3 : Int) (i12 : Int) (h0 : List ((Int) × (List (Int)))) (h1 : List ((Int) × (List (Int)))) : Option ((((List ((Int) × (List (Int)))) × Unit) × ((List ((Int) × (List (Int)))) × ((List ((Int) × (List (Int)))) × Unit)))) :=
 bif (decide (i12 < (((List.length l0) : Nat) : Int))) then
  Option.bind (takeI l0 i12) fun (v9 : (List (Int × (List Int)))) =>
  Option.bind (getI l0 i12) fun (v10 : (Int × (List Int))) =>
  Option.bind (@ref21_Find N v9 v10.1) fun (v11 : ((Int × (List Int)) × Bool)) =>
  Option.bind (getI l0 i12) fun (v12 : (Int × (List Int))) =>
  Option.bind (@ref25_right N (v12.1, v12.2)) fun (v13 : Bool) =>
  bif (!v13) then
   Option.bind (getI l0 i12) fun (v14 : (Int × (List Int))) =>
   bif (roomB ((List.length h0) + (List.length ([(v14.1, v14.2)] : List ((Int × (List Int)))))) 32) then
    (X ((l0, (proves1, (own2, (fresh3, ((Go.IntKind.wrap .i64 (i12 + (1 : Int))), @Unit.unit))))), ((h0 ++ ([(v14.1, v14.2)] : List ((Int × (List Int))))), (h1, @Unit.unit))))
   else
    none
  else
   bif (@cond Bool @Bool.false @Bool.true v11.2) then
    Option.bind (getI l0 i12) fun (v14 : (Int × (List Int))) =>
    bif (roomB ((List.length h0) + (List.length ([(v14.1, v14.2)] : List ((Int × (List Int)))))) 32) then
     (X ((l0, (proves1, (own2, (fresh3, ((Go.IntKind.wrap .i64 (i12 + (1 : Int))), @Unit.unit))))), ((h0 ++ ([(v14.1, v14.2)] : List ((Int × (List Int))))), (h1, @Unit.unit))))
    else
     none
   else
    Option.bind (getI l0 i12) fun (v14 : (Int × (List Int))) =>
    bif (decide (v14.1 = (3 : Int))) then
     bif (@cond Bool @Bool.false @Bool.true (@cond Bool @Bool.true (!proves1) @Bool.false)) then
      Option.bind (getI l0 i12) fun (v15 : (Int × (List Int))) =>
      bif (roomB ((List.length h0) + (List.length ([(v15.1, v15.2)] : List ((Int × (List Int)))))) 32) then
       (X ((l0, (proves1, (own2, (fresh3, ((Go.IntKind.wrap .i64 (i12 + (1 : Int))), @Unit.unit))))), ((h0 ++ ([(v15.1, v15.2)] : List ((Int × (List Int))))), (h1, @Unit.unit))))
      else
       none
     else
      Option.bind (getI l0 i12) fun (v15 : (Int × (List Int))) =>
      Option.bind (@ref25_better N (v15.1, v15.2) own2 fresh3) fun (v16 : ((Int × (List Int)) × Bool)) =>
      bif v16.2 then
       bif (roomB ((List.length h1) + (List.length ([(v16.1.1, v16.1.2)] : List ((Int × (List Int)))))) 32) then
        (X ((l0, (proves1, (own2, (fresh3, ((Go.IntKind.wrap .i64 (i12 + (1 : Int))), @Unit.unit))))), (h0, ((h1 ++ ([(v16.1.1, v16.1.2)] : List ((Int × (List Int))))), @Unit.unit))))
       else
        none
      else
       (X ((l0, (proves1, (own2, (fresh3, ((Go.IntKind.wrap .i64 (i12 + (1 : Int))), @Unit.unit))))), (h0, (h1, @Unit.unit))))
    else
     Option.bind (getI l0 i12) fun (v15 : (Int × (List Int))) =>
     Option.bind (@ref25_better N (v15.1, v15.2) own2 fresh3) fun (v16 : ((Int × (List Int)) × Bool)) =>
     bif v16.2 then
      bif (roomB ((List.length h1) + (List.length ([(v16.1.1, v16.1.2)] : List ((Int × (List Int)))))) 32) then
       (X ((l0, (proves1, (own2, (fresh3, ((Go.IntKind.wrap .i64 (i12 + (1 : Int))), @Unit.unit))))), (h0, ((h1 ++ ([(v16.1.1, v16.1.2)] : List ((Int × (List Int))))), @Unit.unit))))
      else
       none
     else
      (X ((l0, (proves1, (own2, (fresh3, ((Go.IntKind.wrap .i64 (i12 + (1 : Int))), @Unit.unit))))), (h0, (h1, @Unit.unit))))
 else
  some (((l0, @Unit.unit), (h0, (h1, @Unit.unit))))
noncomputable def ref25_Judge_L3_R (N : Nat) (c : (((List ((Int) × (List (Int)))) × ((Bool) × ((Int) × ((Int) × ((Int) × Unit))))) × ((List ((Int) × (List (Int)))) × ((List ((Int) × (List (Int)))) × Unit)))) : Option ((((List ((Int) × (List (Int)))) × Unit) × ((List ((Int) × (List (Int)))) × ((List ((Int) × (List (Int)))) × Unit)))) := gl (fun X c => ref25_Judge_L3 N X c.1.1 c.1.2.1 c.1.2.2.1 c.1.2.2.2.1 c.1.2.2.2.2.1 c.2.1 c.2.2.1) N c
theorem ref25_Judge_L3_S (N : Nat) (X : (((List ((Int) × (List (Int)))) × ((Bool) × ((Int) × ((Int) × ((Int) × Unit))))) × ((List ((Int) × (List (Int)))) × ((List ((Int) × (List (Int)))) × Unit))) → Option ((((List ((Int) × (List (Int)))) × Unit) × ((List ((Int) × (List (Int)))) × ((List ((Int) × (List (Int)))) × Unit))))) (l0 : List ((Int) × (List (Int)))) (proves1 : Bool) (own2 : Int) (fresh3 : Int) (i12 : Int) (h0 : List ((Int) × (List (Int)))) (h1 : List ((Int) × (List (Int)))) : (roundK Go.Proofs.Try.prog (Ev48 N) 400 [57] ref25_Judge_L3_I (loopAt Go.Proofs.Try.prog [57] 3) X ((l0, proves1, own2, fresh3, i12, ()), (h0, h1, ()))).run = ref25_Judge_L3 N X l0 proves1 own2 fresh3 i12 h0 h1 := by kernel_rfl
noncomputable def Ev49 (N : Nat) : (R : Type) → Env R := Env.addLp (Ev48 N) [57] 0 3 (fun R => lpK Go.Proofs.Try.prog ref25_Judge_L3_I (fun X c => ref25_Judge_L3 N X c.1.1 c.1.2.1 c.1.2.2.1 c.1.2.2.2.1 c.1.2.2.2.2.1 c.2.1 c.2.2.1) N)
theorem Ev49_ok (N : Nat) (R : Type) : EnvOK Go.Proofs.Try.prog (Ev49 N R) := EnvOK.addLp (Ev48_ok N R) (by kernel_rfl) (lpK_ok (li := ref25_Judge_L3_I) (G := fun X c => ref25_Judge_L3 N X c.1.1 c.1.2.1 c.1.2.2.1 c.1.2.2.2.1 c.1.2.2.2.2.1 c.2.1 c.2.2.1) hmx (Ev48_ok N _) (by kernel_rfl) loopAt_sub (fun (X : CT ref25_Judge_L3_I.sh → Option (OT ref25_Judge_L3_I.outs)) (c : CT ref25_Judge_L3_I.sh) => ref25_Judge_L3_S N X c.1.1 c.1.2.1 c.1.2.2.1 c.1.2.2.2.1 c.1.2.2.2.2.1 c.2.1 c.2.2.1) N)
noncomputable def ref25_Judge (N : Nat) (l0 : List ((Int) × (List (Int)))) (proves1 : Bool) (own2 : Int) (fresh3 : Int) : Option ((Int) × List ((Int) × (List (Int)))) :=
 Option.bind (ref25_Judge_L3_R N ((l0, (proves1, (own2, (fresh3, ((0 : Int), @Unit.unit))))), (([] : List ((Int × (List Int)))), (([] : List ((Int × (List Int)))), @Unit.unit)))) fun (v5 : (((List (Int × (List Int))) × Unit) × ((List (Int × (List Int))) × ((List (Int × (List Int))) × Unit)))) =>
 bif (decide ((0 : Int) < (((List.length v5.2.1) : Nat) : Int))) then
  some (((4 : Int), v5.2.1))
 else
  bif (decide ((0 : Int) < (((List.length v5.2.2.1) : Nat) : Int))) then
   some (((3 : Int), v5.2.2.1))
  else
   some (((2 : Int), v5.1.1))
theorem ref25_Judge_S (N : Nat) (l0 : List ((Int) × (List (Int)))) (proves1 : Bool) (own2 : Int) (fresh3 : Int) : (runK Go.Proofs.Try.prog (Ev49 N) 400 57 [(.sl (.pair (.int .u8) (.sl (.int .u8)))), .bool, (.int .u32), (.int .u32)] [(.int .u8), (.sl (.pair (.int .u8) (.sl (.int .u8))))] (l0, proves1, own2, fresh3, ())).run = ref25_Judge N l0 proves1 own2 fresh3 := by kernel_rfl
noncomputable def Ev50 (N : Nat) : (R : Type) → Env R := Env.addFn (Ev49 N) 57 (fun R => fnK [(.sl (.pair (.int .u8) (.sl (.int .u8)))), .bool, (.int .u32), (.int .u32)] [(.int .u8), (.sl (.pair (.int .u8) (.sl (.int .u8))))] (fun c => ref25_Judge N c.1 c.2.1 c.2.2.1 c.2.2.2.1))
theorem Ev50_ok (N : Nat) (R : Type) : EnvOK Go.Proofs.Try.prog (Ev50 N R) := EnvOK.addFn hmx (Ev49_ok N R) (Ev49_ok N _) (by kernel_rfl) (fun c => ref25_Judge_S N c.1 c.2.1 c.2.2.1 c.2.2.2.1)
noncomputable def Ev51 (N : Nat) : (R : Type) → Env R := Env.addBx (Ev50 N) [(94, 0)]
theorem Ev51_ok (N : Nat) (R : Type) : EnvOK Go.Proofs.Try.prog (Ev51 N R) := EnvOK.addBx (Ev50_ok N R) [(94, 0)]
noncomputable def opts_equal (N : Nat) (a0 : (Int) × (List (Int))) (b1 : (Int) × (List (Int))) : Option (Bool) :=
 bif (decide (a0.1 = b1.1)) then
  Option.bind (@bytes_Equal N a0.2 b1.2) fun (v3 : Bool) =>
  some ((@cond Bool @Bool.true v3 @Bool.false))
 else
  some (@Bool.false)
theorem opts_equal_S (N : Nat) (a0 : (Int) × (List (Int))) (b1 : (Int) × (List (Int))) : (runK Go.Proofs.Try.prog (Ev51 N) 400 94 [(.pair (.int .u8) (.sl (.int .u8))), (.pair (.int .u8) (.sl (.int .u8)))] [.bool] (a0, b1, ())).run = opts_equal N a0 b1 := by kernel_rfl
noncomputable def Ev52 (N : Nat) : (R : Type) → Env R := Env.addFn (Ev51 N) 94 (fun R => fnK [(.pair (.int .u8) (.sl (.int .u8))), (.pair (.int .u8) (.sl (.int .u8)))] [.bool] (fun c => opts_equal N c.1 c.2.1))
theorem Ev52_ok (N : Nat) (R : Type) : EnvOK Go.Proofs.Try.prog (Ev52 N R) := EnvOK.addFn hmx (Ev51_ok N R) (Ev51_ok N _) (by kernel_rfl) (fun c => opts_equal_S N c.1 c.2.1)
noncomputable def opts_Same_1_slices_EqualFunc_api_Option_api_Option_api_Option_api_Option_L4_I : LI := ⟨32, 0, [], ⟨[(1, .ty (.sl (.pair (.int .u8) (.sl (.int .u8))))), (2, .lit (.clo 94 [])), (15, .ty (.sl (.pair (.int .u8) (.sl (.int .u8))))), (16, .ty (.int .i64)), (17, .ty (.int .i64))], []⟩, [(.ret, ⟨[(6, .ty .bool)], []⟩), (.exit 0, ⟨[], []⟩)]⟩
noncomputable def opts_Same_1_slices_EqualFunc_api_Option_api_Option_api_Option_api_Option_L4 (N : Nat) (X : (((List ((Int) × (List (Int)))) × ((List ((Int) × (List (Int)))) × ((Int) × ((Int) × Unit)))) × Unit) → Option (((((Bool) × Unit) × Unit) ⊕ (Unit × Unit)))) (s21 : List ((Int) × (List (Int)))) (x15 : List ((Int) × (List (Int)))) (x16 : Int) (x17 : Int) : Option (((((Bool) × Unit) × Unit) ⊕ (Unit × Unit))) :=
 bif (decide (x17 < x16)) then
  Option.bind (getI x15 x17) fun (v6 : (Int × (List Int))) =>
  Option.bind (getI s21 x17) fun (v7 : (Int × (List Int))) =>
  Option.bind (@opts_equal N (v6.1, v6.2) (v7.1, v7.2)) fun (v8 : Bool) =>
  bif (!v8) then
   some ((.inl ((@Bool.false, @Unit.unit), @Unit.unit)))
  else
   (X ((s21, (x15, (x16, ((Go.IntKind.wrap .i64 (x17 + (1 : Int))), @Unit.unit)))), @Unit.unit))
 else
  some ((.inr (@Unit.unit, @Unit.unit)))
noncomputable def opts_Same_1_slices_EqualFunc_api_Option_api_Option_api_Option_api_Option_L4_R (N : Nat) (c : (((List ((Int) × (List (Int)))) × ((List ((Int) × (List (Int)))) × ((Int) × ((Int) × Unit)))) × Unit)) : Option (((((Bool) × Unit) × Unit) ⊕ (Unit × Unit))) := gl (fun X c => opts_Same_1_slices_EqualFunc_api_Option_api_Option_api_Option_api_Option_L4 N X c.1.1 c.1.2.1 c.1.2.2.1 c.1.2.2.2.1) N c
theorem opts_Same_1_slices_EqualFunc_api_Option_api_Option_api_Option_api_Option_L4_S (N : Nat) (X : (((List ((Int) × (List (Int)))) × ((List ((Int) × (List (Int)))) × ((Int) × ((Int) × Unit)))) × Unit) → Option (((((Bool) × Unit) × Unit) ⊕ (Unit × Unit)))) (s21 : List ((Int) × (List (Int)))) (x15 : List ((Int) × (List (Int)))) (x16 : Int) (x17 : Int) : (roundK Go.Proofs.Try.prog (Ev52 N) 400 [93, 1, 44] opts_Same_1_slices_EqualFunc_api_Option_api_Option_api_Option_api_Option_L4_I (loopAt Go.Proofs.Try.prog [93, 1, 44] 4) X ((s21, x15, x16, x17, ()), ())).run = opts_Same_1_slices_EqualFunc_api_Option_api_Option_api_Option_api_Option_L4 N X s21 x15 x16 x17 := by kernel_rfl
noncomputable def Ev53 (N : Nat) : (R : Type) → Env R := Env.addLp (Ev52 N) [93, 1, 44] 0 4 (fun R => lpK Go.Proofs.Try.prog opts_Same_1_slices_EqualFunc_api_Option_api_Option_api_Option_api_Option_L4_I (fun X c => opts_Same_1_slices_EqualFunc_api_Option_api_Option_api_Option_api_Option_L4 N X c.1.1 c.1.2.1 c.1.2.2.1 c.1.2.2.2.1) N)
theorem Ev53_ok (N : Nat) (R : Type) : EnvOK Go.Proofs.Try.prog (Ev53 N R) := EnvOK.addLp (Ev52_ok N R) (by kernel_rfl) (lpK_ok (li := opts_Same_1_slices_EqualFunc_api_Option_api_Option_api_Option_api_Option_L4_I) (G := fun X c => opts_Same_1_slices_EqualFunc_api_Option_api_Option_api_Option_api_Option_L4 N X c.1.1 c.1.2.1 c.1.2.2.1 c.1.2.2.2.1) hmx (Ev52_ok N _) (by kernel_rfl) loopAt_sub (fun (X : CT opts_Same_1_slices_EqualFunc_api_Option_api_Option_api_Option_api_Option_L4_I.sh → Option (OT opts_Same_1_slices_EqualFunc_api_Option_api_Option_api_Option_api_Option_L4_I.outs)) (c : CT opts_Same_1_slices_EqualFunc_api_Option_api_Option_api_Option_api_Option_L4_I.sh) => opts_Same_1_slices_EqualFunc_api_Option_api_Option_api_Option_api_Option_L4_S N X c.1.1 c.1.2.1 c.1.2.2.1 c.1.2.2.2.1) N)
noncomputable def opts_Same (N : Nat) (a0 : List ((Int) × (List (Int)))) (b1 : List ((Int) × (List (Int)))) : Option (Bool) :=
 bif (!(decide ((((List.length a0) : Nat) : Int) = (((List.length b1) : Nat) : Int)))) then
  some (@Bool.false)
 else
  Option.bind (opts_Same_1_slices_EqualFunc_api_Option_api_Option_api_Option_api_Option_L4_R N ((b1, (a0, ((((List.length a0) : Nat) : Int), ((0 : Int), @Unit.unit)))), @Unit.unit)) fun (v3 : (((Bool × Unit) × Unit) ⊕ (Unit × Unit))) =>
  Sum.elim
   (fun (v4 : ((Bool × Unit) × Unit)) =>
   some (v4.1.1))
   (fun (v4 : (Unit × Unit)) =>
   some (@Bool.true)) v3
theorem opts_Same_S (N : Nat) (a0 : List ((Int) × (List (Int)))) (b1 : List ((Int) × (List (Int)))) : (runK Go.Proofs.Try.prog (Ev53 N) 400 44 [(.sl (.pair (.int .u8) (.sl (.int .u8)))), (.sl (.pair (.int .u8) (.sl (.int .u8))))] [.bool] (a0, b1, ())).run = opts_Same N a0 b1 := by kernel_rfl
noncomputable def Ev54 (N : Nat) : (R : Type) → Env R := Env.addFn (Ev53 N) 44 (fun R => fnK [(.sl (.pair (.int .u8) (.sl (.int .u8)))), (.sl (.pair (.int .u8) (.sl (.int .u8))))] [.bool] (fun c => opts_Same N c.1 c.2.1))
theorem Ev54_ok (N : Nat) (R : Type) : EnvOK Go.Proofs.Try.prog (Ev54 N R) := EnvOK.addFn hmx (Ev53_ok N R) (Ev53_ok N _) (by kernel_rfl) (fun c => opts_Same_S N c.1 c.2.1)
noncomputable def law25_LcpoJudges (N : Nat) (l0 : List ((Int) × (List (Int)))) (proves1 : Bool) (n2 : Arr (Int) 2) : Option (Bool) :=
 Option.bind (@law25_far N l0) fun (v4 : Bool) =>
 bif v4 then
  Option.bind (@law25_alive N) fun (v5 : Bool) =>
  some (v5)
 else
  Option.bind (@law25_theirs N l0) fun (v5 : (List (Int × (List Int)))) =>
  Option.bind (getI n2.l (0 : Int)) fun (v6 : Int) =>
  Option.bind (getI n2.l (1 : Int)) fun (v7 : Int) =>
  Option.bind (@lcpo_Judge N v5 proves1 v6 v7) fun (v8 : (Int × (List (Int × (List Int))))) =>
  Option.bind (getI n2.l (0 : Int)) fun (v9 : Int) =>
  Option.bind (getI n2.l (1 : Int)) fun (v10 : Int) =>
  Option.bind (@ref25_Judge N l0 proves1 v9 v10) fun (v11 : (Int × (List (Int × (List Int))))) =>
  bif (decide (v8.1 = v11.1)) then
   Option.bind (@law25_theirs N v11.2) fun (v12 : (List (Int × (List Int)))) =>
   Option.bind (@opts_Same N v8.2 v12) fun (v13 : Bool) =>
   bif (@cond Bool @Bool.true v13 @Bool.false) then
    Option.bind (@law25_alive N) fun (v14 : Bool) =>
    some ((@cond Bool @Bool.true v14 @Bool.false))
   else
    some (@Bool.false)
  else
   some (@Bool.false)
theorem law25_LcpoJudges_S (N : Nat) (l0 : List ((Int) × (List (Int)))) (proves1 : Bool) (n2 : Arr (Int) 2) : (runK Go.Proofs.Try.prog (Ev54 N) 400 11 [(.sl (.pair (.int .u8) (.sl (.int .u8)))), .bool, (.arr 2 (.int .u32))] [.bool] (l0, proves1, n2, ())).run = law25_LcpoJudges N l0 proves1 n2 := by kernel_rfl
theorem law25_LcpoJudges_C (N : Nat) (l0 : List ((Int) × (List (Int)))) (proves1 : Bool) (n2 : Arr (Int) 2) (y : Bool) (h : law25_LcpoJudges N l0 proves1 n2 = some y) : CallsK Go.Proofs.Try.prog 11 (valA [(.sl (.pair (.int .u8) (.sl (.int .u8)))), .bool, (.arr 2 (.int .u32))] (l0, proves1, n2, ())) (tupV (valR [.bool] y)) := runK_ok hmx (Ev54_ok N _) (okFn_ok (by kernel_rfl)) (by rw [law25_LcpoJudges_S]; exact h)
noncomputable def Ev55 (N : Nat) : (R : Type) → Env R := Env.addFn (Ev54 N) 11 (fun R => fnK [(.sl (.pair (.int .u8) (.sl (.int .u8)))), .bool, (.arr 2 (.int .u32))] [.bool] (fun c => law25_LcpoJudges N c.1 c.2.1 c.2.2.1))
theorem Ev55_ok (N : Nat) (R : Type) : EnvOK Go.Proofs.Try.prog (Ev55 N R) := EnvOK.addFn hmx (Ev54_ok N R) (Ev54_ok N _) (by kernel_rfl) (fun c => law25_LcpoJudges_S N c.1 c.2.1 c.2.2.1)
noncomputable def Ev56 (N : Nat) : (R : Type) → Env R := Env.addBx (Ev55 N) [(14, 0)]
theorem Ev56_ok (N : Nat) (R : Type) : EnvOK Go.Proofs.Try.prog (Ev56 N R) := EnvOK.addBx (Ev55_ok N R) [(14, 0)]
noncomputable def law25_LcpoAnswers_L9_I : LI := ⟨95, 0, [], ⟨[(0, .ty (.sl (.pair (.int .u8) (.sl (.int .u8))))), (5, .adr (.arr 2 (.int .u32))), (8, .ty (.sl (.pair (.int .u8) (.sl (.int .u8))))), (39, .ty (.sl (.pair (.int .u8) (.sl (.int .u8))))), (40, .ty (.int .i64)), (41, .ty (.int .i64))], []⟩, [(.ret, ⟨[(6, .ty .bool)], []⟩), (.exit 1, ⟨[(8, .ty (.sl (.pair (.int .u8) (.sl (.int .u8)))))], []⟩)]⟩
noncomputable def law25_LcpoAnswers_L9 (N : Nat) (X : (((List ((Int) × (List (Int)))) × ((Arr (Int) 2) × ((List ((Int) × (List (Int)))) × ((List ((Int) × (List (Int)))) × ((Int) × ((Int) × Unit)))))) × Unit) → Option (((((Bool) × Unit) × Unit) ⊕ (((List ((Int) × (List (Int)))) × Unit) × Unit)))) (l0 : List ((Int) × (List (Int)))) (n5 : Arr (Int) 2) (a8 : List ((Int) × (List (Int)))) (x39 : List ((Int) × (List (Int)))) (x40 : Int) (x41 : Int) : Option (((((Bool) × Unit) × Unit) ⊕ (((List ((Int) × (List (Int)))) × Unit) × Unit))) :=
 bif (decide (x41 < x40)) then
  Option.bind (getI x39 x41) fun (v8 : (Int × (List Int))) =>
  Option.bind (@law25_theirs N l0) fun (v9 : (List (Int × (List Int)))) =>
  Option.bind (@opts_Find N v9 v8.1) fun (v10 : ((Int × (List Int)) × Bool)) =>
  bif (!v10.2) then
   some ((.inl ((@Bool.false, @Unit.unit), @Unit.unit)))
  else
   Option.bind (@opts_Same N ([(v8.1, v8.2)] : List ((Int × (List Int)))) ([(v10.1.1, v10.1.2)] : List ((Int × (List Int))))) fun (v11 : Bool) =>
   bif v11 then
    Option.bind (getI n5.l (0 : Int)) fun (v12 : Int) =>
    Option.bind (getI n5.l (1 : Int)) fun (v13 : Int) =>
    bif (@cond Bool @Bool.true (!(decide (v12 = v13))) @Bool.false) then
     Option.bind (getI n5.l (1 : Int)) fun (v14 : Int) =>
     bif (@cond Bool @Bool.false @Bool.true (@cond Bool @Bool.true (!(decide (v14 = (0 : Int)))) @Bool.false)) then
      some ((.inl ((@Bool.false, @Unit.unit), @Unit.unit)))
     else
      (X ((l0, (n5, (a8, (x39, (x40, ((Go.IntKind.wrap .i64 (x41 + (1 : Int))), @Unit.unit)))))), @Unit.unit))
    else
     (X ((l0, (n5, (a8, (x39, (x40, ((Go.IntKind.wrap .i64 (x41 + (1 : Int))), @Unit.unit)))))), @Unit.unit))
   else
    (X ((l0, (n5, (a8, (x39, (x40, ((Go.IntKind.wrap .i64 (x41 + (1 : Int))), @Unit.unit)))))), @Unit.unit))
 else
  some ((.inr ((a8, @Unit.unit), @Unit.unit)))
noncomputable def law25_LcpoAnswers_L9_R (N : Nat) (c : (((List ((Int) × (List (Int)))) × ((Arr (Int) 2) × ((List ((Int) × (List (Int)))) × ((List ((Int) × (List (Int)))) × ((Int) × ((Int) × Unit)))))) × Unit)) : Option (((((Bool) × Unit) × Unit) ⊕ (((List ((Int) × (List (Int)))) × Unit) × Unit))) := gl (fun X c => law25_LcpoAnswers_L9 N X c.1.1 c.1.2.1 c.1.2.2.1 c.1.2.2.2.1 c.1.2.2.2.2.1 c.1.2.2.2.2.2.1) N c
theorem law25_LcpoAnswers_L9_S (N : Nat) (X : (((List ((Int) × (List (Int)))) × ((Arr (Int) 2) × ((List ((Int) × (List (Int)))) × ((List ((Int) × (List (Int)))) × ((Int) × ((Int) × Unit)))))) × Unit) → Option (((((Bool) × Unit) × Unit) ⊕ (((List ((Int) × (List (Int)))) × Unit) × Unit)))) (l0 : List ((Int) × (List (Int)))) (n5 : Arr (Int) 2) (a8 : List ((Int) × (List (Int)))) (x39 : List ((Int) × (List (Int)))) (x40 : Int) (x41 : Int) : (roundK Go.Proofs.Try.prog (Ev56 N) 400 [14] law25_LcpoAnswers_L9_I (loopAt Go.Proofs.Try.prog [14] 9) X ((l0, n5, a8, x39, x40, x41, ()), ())).run = law25_LcpoAnswers_L9 N X l0 n5 a8 x39 x40 x41 := by kernel_rfl
noncomputable def Ev57 (N : Nat) : (R : Type) → Env R := Env.addLp (Ev56 N) [14] 0 9 (fun R => lpK Go.Proofs.Try.prog law25_LcpoAnswers_L9_I (fun X c => law25_LcpoAnswers_L9 N X c.1.1 c.1.2.1 c.1.2.2.1 c.1.2.2.2.1 c.1.2.2.2.2.1 c.1.2.2.2.2.2.1) N)
theorem Ev57_ok (N : Nat) (R : Type) : EnvOK Go.Proofs.Try.prog (Ev57 N R) := EnvOK.addLp (Ev56_ok N R) (by kernel_rfl) (lpK_ok (li := law25_LcpoAnswers_L9_I) (G := fun X c => law25_LcpoAnswers_L9 N X c.1.1 c.1.2.1 c.1.2.2.1 c.1.2.2.2.1 c.1.2.2.2.2.1 c.1.2.2.2.2.2.1) hmx (Ev56_ok N _) (by kernel_rfl) loopAt_sub (fun (X : CT law25_LcpoAnswers_L9_I.sh → Option (OT law25_LcpoAnswers_L9_I.outs)) (c : CT law25_LcpoAnswers_L9_I.sh) => law25_LcpoAnswers_L9_S N X c.1.1 c.1.2.1 c.1.2.2.1 c.1.2.2.2.1 c.1.2.2.2.2.1 c.1.2.2.2.2.2.1) N)
noncomputable def opts_Among_4_slices_IndexFunc_api_Option_api_Option_L2_I : LI := ⟨19, 1, [], ⟨[(0, .ty (.sl (.pair (.int .u8) (.sl (.int .u8))))), (1, .lit (.clo 112 [.box 0 0])), (7, .ty (.int .i64)), (8, .ty (.int .i64))], [.box 124 (.pair (.int .u8) (.sl (.int .u8)))]⟩, [(.ret, ⟨[(4, .ty (.int .i64))], [.box 124 (.pair (.int .u8) (.sl (.int .u8)))]⟩), (.exit 0, ⟨[], [.box 124 (.pair (.int .u8) (.sl (.int .u8)))]⟩)]⟩
noncomputable def opts_Among_4_slices_IndexFunc_api_Option_api_Option_L2 (N : Nat) (X : (((List ((Int) × (List (Int)))) × ((Int) × ((Int) × Unit))) × (((Int) × (List (Int))) × Unit)) → Option (((((Int) × Unit) × (((Int) × (List (Int))) × Unit)) ⊕ (Unit × (((Int) × (List (Int))) × Unit))))) (s0 : List ((Int) × (List (Int)))) (x7 : Int) (x8 : Int) (h0 : (Int) × (List (Int))) : Option (((((Int) × Unit) × (((Int) × (List (Int))) × Unit)) ⊕ (Unit × (((Int) × (List (Int))) × Unit)))) :=
 bif (decide (x8 < x7)) then
  Option.bind (getI s0 x8) fun (v6 : (Int × (List Int))) =>
  Option.bind (@opts_equal N (v6.1, v6.2) (h0.1, h0.2)) fun (v7 : Bool) =>
  bif v7 then
   some ((.inl ((x8, @Unit.unit), ((h0.1, h0.2), @Unit.unit))))
  else
   (X ((s0, (x7, ((Go.IntKind.wrap .i64 (x8 + (1 : Int))), @Unit.unit))), ((h0.1, h0.2), @Unit.unit)))
 else
  some ((.inr (@Unit.unit, ((h0.1, h0.2), @Unit.unit))))
noncomputable def opts_Among_4_slices_IndexFunc_api_Option_api_Option_L2_R (N : Nat) (c : (((List ((Int) × (List (Int)))) × ((Int) × ((Int) × Unit))) × (((Int) × (List (Int))) × Unit))) : Option (((((Int) × Unit) × (((Int) × (List (Int))) × Unit)) ⊕ (Unit × (((Int) × (List (Int))) × Unit)))) := gl (fun X c => opts_Among_4_slices_IndexFunc_api_Option_api_Option_L2 N X c.1.1 c.1.2.1 c.1.2.2.1 c.2.1) N c
theorem opts_Among_4_slices_IndexFunc_api_Option_api_Option_L2_S (N : Nat) (X : (((List ((Int) × (List (Int)))) × ((Int) × ((Int) × Unit))) × (((Int) × (List (Int))) × Unit)) → Option (((((Int) × Unit) × (((Int) × (List (Int))) × Unit)) ⊕ (Unit × (((Int) × (List (Int))) × Unit))))) (s0 : List ((Int) × (List (Int)))) (x7 : Int) (x8 : Int) (h0 : (Int) × (List (Int))) : (roundK Go.Proofs.Try.prog (Ev57 N) 400 [109, 4, 67] opts_Among_4_slices_IndexFunc_api_Option_api_Option_L2_I (loopAt Go.Proofs.Try.prog [109, 4, 67] 2) X ((s0, x7, x8, ()), (h0, ()))).run = opts_Among_4_slices_IndexFunc_api_Option_api_Option_L2 N X s0 x7 x8 h0 := by kernel_rfl
noncomputable def Ev58 (N : Nat) : (R : Type) → Env R := Env.addLp (Ev57 N) [109, 4, 67] 1 2 (fun R => lpK Go.Proofs.Try.prog opts_Among_4_slices_IndexFunc_api_Option_api_Option_L2_I (fun X c => opts_Among_4_slices_IndexFunc_api_Option_api_Option_L2 N X c.1.1 c.1.2.1 c.1.2.2.1 c.2.1) N)
theorem Ev58_ok (N : Nat) (R : Type) : EnvOK Go.Proofs.Try.prog (Ev58 N R) := EnvOK.addLp (Ev57_ok N R) (by kernel_rfl) (lpK_ok (li := opts_Among_4_slices_IndexFunc_api_Option_api_Option_L2_I) (G := fun X c => opts_Among_4_slices_IndexFunc_api_Option_api_Option_L2 N X c.1.1 c.1.2.1 c.1.2.2.1 c.2.1) hmx (Ev57_ok N _) (by kernel_rfl) loopAt_sub (fun (X : CT opts_Among_4_slices_IndexFunc_api_Option_api_Option_L2_I.sh → Option (OT opts_Among_4_slices_IndexFunc_api_Option_api_Option_L2_I.outs)) (c : CT opts_Among_4_slices_IndexFunc_api_Option_api_Option_L2_I.sh) => opts_Among_4_slices_IndexFunc_api_Option_api_Option_L2_S N X c.1.1 c.1.2.1 c.1.2.2.1 c.2.1) N)
noncomputable def opts_Among_L2_I : LI := ⟨24, 0, [], ⟨[(1, .ty (.sl (.pair (.int .u8) (.sl (.int .u8))))), (8, .ty (.sl (.pair (.int .u8) (.sl (.int .u8))))), (9, .ty (.int .i64)), (10, .ty (.int .i64))], []⟩, [(.ret, ⟨[(4, .ty .bool)], []⟩), (.exit 0, ⟨[], []⟩)]⟩
noncomputable def opts_Among_L2 (N : Nat) (X : (((List ((Int) × (List (Int)))) × ((List ((Int) × (List (Int)))) × ((Int) × ((Int) × Unit)))) × Unit) → Option (((((Bool) × Unit) × Unit) ⊕ (Unit × Unit)))) (all1 : List ((Int) × (List (Int)))) (x8 : List ((Int) × (List (Int)))) (x9 : Int) (x10 : Int) : Option (((((Bool) × Unit) × Unit) ⊕ (Unit × Unit))) :=
 bif (decide (x10 < x9)) then
  Option.bind (getI x8 x10) fun (v6 : (Int × (List Int))) =>
  Option.bind (opts_Among_4_slices_IndexFunc_api_Option_api_Option_L2_R N ((all1, ((((List.length all1) : Nat) : Int), ((0 : Int), @Unit.unit))), ((v6.1, v6.2), @Unit.unit))) fun (v7 : (((Int × Unit) × ((Int × (List Int)) × Unit)) ⊕ (Unit × ((Int × (List Int)) × Unit)))) =>
  Sum.elim
   (fun (v8 : ((Int × Unit) × ((Int × (List Int)) × Unit))) =>
   bif (decide (v8.1.1 < (0 : Int))) then
    some ((.inl ((@Bool.false, @Unit.unit), @Unit.unit)))
   else
    Option.bind (dropI all1 (Go.IntKind.wrap .i64 (v8.1.1 + (1 : Int)))) fun (v9 : (List (Int × (List Int)))) =>
    (X ((v9, (x8, (x9, ((Go.IntKind.wrap .i64 (x10 + (1 : Int))), @Unit.unit)))), @Unit.unit)))
   (fun (v8 : (Unit × ((Int × (List Int)) × Unit))) =>
   some ((.inl ((@Bool.false, @Unit.unit), @Unit.unit)))) v7
 else
  some ((.inr (@Unit.unit, @Unit.unit)))
noncomputable def opts_Among_L2_R (N : Nat) (c : (((List ((Int) × (List (Int)))) × ((List ((Int) × (List (Int)))) × ((Int) × ((Int) × Unit)))) × Unit)) : Option (((((Bool) × Unit) × Unit) ⊕ (Unit × Unit))) := gl (fun X c => opts_Among_L2 N X c.1.1 c.1.2.1 c.1.2.2.1 c.1.2.2.2.1) N c
theorem opts_Among_L2_S (N : Nat) (X : (((List ((Int) × (List (Int)))) × ((List ((Int) × (List (Int)))) × ((Int) × ((Int) × Unit)))) × Unit) → Option (((((Bool) × Unit) × Unit) ⊕ (Unit × Unit)))) (all1 : List ((Int) × (List (Int)))) (x8 : List ((Int) × (List (Int)))) (x9 : Int) (x10 : Int) : (roundK Go.Proofs.Try.prog (Ev58 N) 400 [67] opts_Among_L2_I (loopAt Go.Proofs.Try.prog [67] 2) X ((all1, x8, x9, x10, ()), ())).run = opts_Among_L2 N X all1 x8 x9 x10 := by kernel_rfl
noncomputable def Ev59 (N : Nat) : (R : Type) → Env R := Env.addLp (Ev58 N) [67] 0 2 (fun R => lpK Go.Proofs.Try.prog opts_Among_L2_I (fun X c => opts_Among_L2 N X c.1.1 c.1.2.1 c.1.2.2.1 c.1.2.2.2.1) N)
theorem Ev59_ok (N : Nat) (R : Type) : EnvOK Go.Proofs.Try.prog (Ev59 N R) := EnvOK.addLp (Ev58_ok N R) (by kernel_rfl) (lpK_ok (li := opts_Among_L2_I) (G := fun X c => opts_Among_L2 N X c.1.1 c.1.2.1 c.1.2.2.1 c.1.2.2.2.1) hmx (Ev58_ok N _) (by kernel_rfl) loopAt_sub (fun (X : CT opts_Among_L2_I.sh → Option (OT opts_Among_L2_I.outs)) (c : CT opts_Among_L2_I.sh) => opts_Among_L2_S N X c.1.1 c.1.2.1 c.1.2.2.1 c.1.2.2.2.1) N)
noncomputable def opts_Among (N : Nat) (l0 : List ((Int) × (List (Int)))) (all1 : List ((Int) × (List (Int)))) : Option (Bool) :=
 Option.bind (opts_Among_L2_R N ((all1, (l0, ((((List.length l0) : Nat) : Int), ((0 : Int), @Unit.unit)))), @Unit.unit)) fun (v3 : (((Bool × Unit) × Unit) ⊕ (Unit × Unit))) =>
 Sum.elim
  (fun (v4 : ((Bool × Unit) × Unit)) =>
  some (v4.1.1))
  (fun (v4 : (Unit × Unit)) =>
  some (@Bool.true)) v3
theorem opts_Among_S (N : Nat) (l0 : List ((Int) × (List (Int)))) (all1 : List ((Int) × (List (Int)))) : (runK Go.Proofs.Try.prog (Ev59 N) 400 67 [(.sl (.pair (.int .u8) (.sl (.int .u8)))), (.sl (.pair (.int .u8) (.sl (.int .u8))))] [.bool] (l0, all1, ())).run = opts_Among N l0 all1 := by kernel_rfl
noncomputable def Ev60 (N : Nat) : (R : Type) → Env R := Env.addFn (Ev59 N) 67 (fun R => fnK [(.sl (.pair (.int .u8) (.sl (.int .u8)))), (.sl (.pair (.int .u8) (.sl (.int .u8))))] [.bool] (fun c => opts_Among N c.1 c.2.1))
theorem Ev60_ok (N : Nat) (R : Type) : EnvOK Go.Proofs.Try.prog (Ev60 N R) := EnvOK.addFn hmx (Ev59_ok N R) (Ev59_ok N _) (by kernel_rfl) (fun c => opts_Among_S N c.1 c.2.1)
noncomputable def law25_LcpoAnswers (N : Nat) (l0 : List ((Int) × (List (Int)))) (proves1 : Bool) (n2 : Arr (Int) 2) : Option (Bool) :=
 Option.bind (@law25_far N l0) fun (v4 : Bool) =>
 bif v4 then
  Option.bind (@law25_alive N) fun (v5 : Bool) =>
  some (v5)
 else
  Option.bind (@law25_theirs N l0) fun (v5 : (List (Int × (List Int)))) =>
  Option.bind (getI n2.l (0 : Int)) fun (v6 : Int) =>
  Option.bind (getI n2.l (1 : Int)) fun (v7 : Int) =>
  Option.bind (@lcpo_Judge N v5 proves1 v6 v7) fun (v8 : (Int × (List (Int × (List Int))))) =>
  bif (decide (v8.1 = (2 : Int))) then
   Option.bind (@law25_theirs N l0) fun (v9 : (List (Int × (List Int)))) =>
   Option.bind (@opts_Same N v8.2 v9) fun (v10 : Bool) =>
   bif v10 then
    Option.bind (@law25_alive N) fun (v11 : Bool) =>
    some ((@cond Bool @Bool.true v11 @Bool.false))
   else
    some (@Bool.false)
  else
   bif (decide (v8.1 = (3 : Int))) then
    Option.bind (law25_LcpoAnswers_L9_R N ((l0, (n2, (v8.2, (v8.2, ((((List.length v8.2) : Nat) : Int), ((0 : Int), @Unit.unit)))))), @Unit.unit)) fun (v9 : (((Bool × Unit) × Unit) ⊕ (((List (Int × (List Int))) × Unit) × Unit))) =>
    Sum.elim
     (fun (v10 : ((Bool × Unit) × Unit)) =>
     some (v10.1.1))
     (fun (v10 : (((List (Int × (List Int))) × Unit) × Unit)) =>
     bif (decide ((0 : Int) < (((List.length v10.1.1) : Nat) : Int))) then
      Option.bind (@law25_alive N) fun (v11 : Bool) =>
      some ((@cond Bool @Bool.true v11 @Bool.false))
     else
      some (@Bool.false)) v9
   else
    bif (decide (v8.1 = (4 : Int))) then
     bif (decide ((0 : Int) < (((List.length v8.2) : Nat) : Int))) then
      Option.bind (@law25_theirs N l0) fun (v9 : (List (Int × (List Int)))) =>
      Option.bind (@opts_Among N v8.2 v9) fun (v10 : Bool) =>
      bif (@cond Bool @Bool.true v10 @Bool.false) then
       Option.bind (@law25_alive N) fun (v11 : Bool) =>
       some ((@cond Bool @Bool.true v11 @Bool.false))
      else
       some (@Bool.false)
     else
      some (@Bool.false)
    else
     some (@Bool.false)
theorem law25_LcpoAnswers_S (N : Nat) (l0 : List ((Int) × (List (Int)))) (proves1 : Bool) (n2 : Arr (Int) 2) : (runK Go.Proofs.Try.prog (Ev60 N) 400 14 [(.sl (.pair (.int .u8) (.sl (.int .u8)))), .bool, (.arr 2 (.int .u32))] [.bool] (l0, proves1, n2, ())).run = law25_LcpoAnswers N l0 proves1 n2 := by kernel_rfl
theorem law25_LcpoAnswers_C (N : Nat) (l0 : List ((Int) × (List (Int)))) (proves1 : Bool) (n2 : Arr (Int) 2) (y : Bool) (h : law25_LcpoAnswers N l0 proves1 n2 = some y) : CallsK Go.Proofs.Try.prog 14 (valA [(.sl (.pair (.int .u8) (.sl (.int .u8)))), .bool, (.arr 2 (.int .u32))] (l0, proves1, n2, ())) (tupV (valR [.bool] y)) := runK_ok hmx (Ev60_ok N _) (okFn_ok (by kernel_rfl)) (by rw [law25_LcpoAnswers_S]; exact h)
noncomputable def Ev61 (N : Nat) : (R : Type) → Env R := Env.addFn (Ev60 N) 14 (fun R => fnK [(.sl (.pair (.int .u8) (.sl (.int .u8)))), .bool, (.arr 2 (.int .u32))] [.bool] (fun c => law25_LcpoAnswers N c.1 c.2.1 c.2.2.1))
theorem Ev61_ok (N : Nat) (R : Type) : EnvOK Go.Proofs.Try.prog (Ev61 N R) := EnvOK.addFn hmx (Ev60_ok N R) (Ev60_ok N _) (by kernel_rfl) (fun c => law25_LcpoAnswers_S N c.1 c.2.1 c.2.2.1)
noncomputable def Ev62 (N : Nat) : (R : Type) → Env R := Env.addBx (Ev61 N) [(12, 0)]
theorem Ev62_ok (N : Nat) (R : Type) : EnvOK Go.Proofs.Try.prog (Ev62 N R) := EnvOK.addBx (Ev61_ok N R) [(12, 0)]
noncomputable def lcpo_has (N : Nat) (l0 : List ((Int) × (List (Int)))) (kind1 : Int) : Option (Bool) :=
 Option.bind (@opts_Find N l0 kind1) fun (v3 : ((Int × (List Int)) × Bool)) =>
 some (v3.2)
theorem lcpo_has_S (N : Nat) (l0 : List ((Int) × (List (Int)))) (kind1 : Int) : (runK Go.Proofs.Try.prog (Ev62 N) 400 103 [(.sl (.pair (.int .u8) (.sl (.int .u8)))), (.int .u8)] [.bool] (l0, kind1, ())).run = lcpo_has N l0 kind1 := by kernel_rfl
noncomputable def Ev63 (N : Nat) : (R : Type) → Env R := Env.addFn (Ev62 N) 103 (fun R => fnK [(.sl (.pair (.int .u8) (.sl (.int .u8)))), (.int .u8)] [.bool] (fun c => lcpo_has N c.1 c.2.1))
theorem Ev63_ok (N : Nat) (R : Type) : EnvOK Go.Proofs.Try.prog (Ev63 N R) := EnvOK.addFn hmx (Ev62_ok N R) (Ev62_ok N _) (by kernel_rfl) (fun c => lcpo_has_S N c.1 c.2.1)
noncomputable def lcpo_Rejected (N : Nat) (w0 : (Int) × ((Int) × (Bool))) (l1 : List ((Int) × (List (Int)))) : Option (((Int) × ((Int) × (Bool))) × Bool) :=
 Option.bind (@lcpo_has N l1 (1 : Int)) fun (v3 : Bool) =>
 bif v3 then
  Option.bind (@lcpo_has N l1 (5 : Int)) fun (v4 : Bool) =>
  bif v4 then
   Option.bind (@lcpo_has N l1 (3 : Int)) fun (v5 : Bool) =>
   some ((((0 : Int), ((0 : Int), w0.2.2)), (!v5)))
  else
   Option.bind (@lcpo_has N l1 (3 : Int)) fun (v5 : Bool) =>
   some ((((0 : Int), (w0.2.1, w0.2.2)), (!v5)))
 else
  Option.bind (@lcpo_has N l1 (5 : Int)) fun (v4 : Bool) =>
  bif v4 then
   Option.bind (@lcpo_has N l1 (3 : Int)) fun (v5 : Bool) =>
   some (((w0.1, ((0 : Int), w0.2.2)), (!v5)))
  else
   Option.bind (@lcpo_has N l1 (3 : Int)) fun (v5 : Bool) =>
   some (((w0.1, (w0.2.1, w0.2.2)), (!v5)))
theorem lcpo_Rejected_S (N : Nat) (w0 : (Int) × ((Int) × (Bool))) (l1 : List ((Int) × (List (Int)))) : (runK Go.Proofs.Try.prog (Ev63 N) 400 58 [(.pair (.int .u16) (.pair (.int .u32) .bool)), (.sl (.pair (.int .u8) (.sl (.int .u8))))] [(.pair (.int .u16) (.pair (.int .u32) .bool)), .bool] (w0, l1, ())).run = lcpo_Rejected N w0 l1 := by kernel_rfl
noncomputable def Ev64 (N : Nat) : (R : Type) → Env R := Env.addFn (Ev63 N) 58 (fun R => fnK [(.pair (.int .u16) (.pair (.int .u32) .bool)), (.sl (.pair (.int .u8) (.sl (.int .u8))))] [(.pair (.int .u16) (.pair (.int .u32) .bool)), .bool] (fun c => lcpo_Rejected N c.1 c.2.1))
theorem Ev64_ok (N : Nat) (R : Type) : EnvOK Go.Proofs.Try.prog (Ev64 N R) := EnvOK.addFn hmx (Ev63_ok N R) (Ev63_ok N _) (by kernel_rfl) (fun c => lcpo_Rejected_S N c.1 c.2.1)
noncomputable def ref25_Rejected (N : Nat) (w0 : (Int) × ((Int) × (Bool))) (l1 : List ((Int) × (List (Int)))) : Option (((Int) × ((Int) × (Bool))) × Bool) :=
 Option.bind (@ref21_Find N l1 (1 : Int)) fun (v3 : ((Int × (List Int)) × Bool)) =>
 bif v3.2 then
  Option.bind (@ref21_Find N l1 (5 : Int)) fun (v4 : ((Int × (List Int)) × Bool)) =>
  bif v4.2 then
   Option.bind (@ref21_Find N l1 (3 : Int)) fun (v5 : ((Int × (List Int)) × Bool)) =>
   some ((((0 : Int), ((0 : Int), w0.2.2)), (!v5.2)))
  else
   Option.bind (@ref21_Find N l1 (3 : Int)) fun (v5 : ((Int × (List Int)) × Bool)) =>
   some ((((0 : Int), (w0.2.1, w0.2.2)), (!v5.2)))
 else
  Option.bind (@ref21_Find N l1 (5 : Int)) fun (v4 : ((Int × (List Int)) × Bool)) =>
  bif v4.2 then
   Option.bind (@ref21_Find N l1 (3 : Int)) fun (v5 : ((Int × (List Int)) × Bool)) =>
   some (((w0.1, ((0 : Int), w0.2.2)), (!v5.2)))
  else
   Option.bind (@ref21_Find N l1 (3 : Int)) fun (v5 : ((Int × (List Int)) × Bool)) =>
   some (((w0.1, (w0.2.1, w0.2.2)), (!v5.2)))
theorem ref25_Rejected_S (N : Nat) (w0 : (Int) × ((Int) × (Bool))) (l1 : List ((Int) × (List (Int)))) : (runK Go.Proofs.Try.prog (Ev64 N) 400 59 [(.pair (.int .u16) (.pair (.int .u32) .bool)), (.sl (.pair (.int .u8) (.sl (.int .u8))))] [(.pair (.int .u16) (.pair (.int .u32) .bool)), .bool] (w0, l1, ())).run = ref25_Rejected N w0 l1 := by kernel_rfl
noncomputable def Ev65 (N : Nat) : (R : Type) → Env R := Env.addFn (Ev64 N) 59 (fun R => fnK [(.pair (.int .u16) (.pair (.int .u32) .bool)), (.sl (.pair (.int .u8) (.sl (.int .u8))))] [(.pair (.int .u16) (.pair (.int .u32) .bool)), .bool] (fun c => ref25_Rejected N c.1 c.2.1))
theorem Ev65_ok (N : Nat) (R : Type) : EnvOK Go.Proofs.Try.prog (Ev65 N R) := EnvOK.addFn hmx (Ev64_ok N R) (Ev64_ok N _) (by kernel_rfl) (fun c => ref25_Rejected_S N c.1 c.2.1)
noncomputable def Ev66 (N : Nat) : (R : Type) → Env R := Env.addBx (Ev65 N) [(61, 0)]
theorem Ev66_ok (N : Nat) (R : Type) : EnvOK Go.Proofs.Try.prog (Ev66 N R) := EnvOK.addBx (Ev65_ok N R) [(61, 0)]
noncomputable def ref25_Options (N : Nat) (w0 : (Int) × ((Int) × (Bool))) : Option (List ((Int) × (List (Int)))) :=
 bif (!(decide (w0.1 = (0 : Int)))) then
  Option.bind (@ref01_Big N (Go.IntKind.wrap .u64 w0.1) (2 : Int)) fun (v2 : (List Int)) =>
  bif w0.2.2 then
   bif (!(decide (w0.2.1 = (0 : Int)))) then
    Option.bind (@ref01_Big N (Go.IntKind.wrap .u64 w0.2.1) (4 : Int)) fun (v3 : (List Int)) =>
    some (((([((1 : Int), v2)] : List ((Int × (List Int)))) ++ ([((3 : Int), ([(194 : Int), (35 : Int), (129 : Int)] : List (Int)))] : List ((Int × (List Int))))) ++ ([((5 : Int), v3)] : List ((Int × (List Int))))))
   else
    some ((([((1 : Int), v2)] : List ((Int × (List Int)))) ++ ([((3 : Int), ([(194 : Int), (35 : Int), (129 : Int)] : List (Int)))] : List ((Int × (List Int))))))
  else
   bif (!(decide (w0.2.1 = (0 : Int)))) then
    Option.bind (@ref01_Big N (Go.IntKind.wrap .u64 w0.2.1) (4 : Int)) fun (v3 : (List Int)) =>
    some ((([((1 : Int), v2)] : List ((Int × (List Int)))) ++ ([((5 : Int), v3)] : List ((Int × (List Int))))))
   else
    some (([((1 : Int), v2)] : List ((Int × (List Int)))))
 else
  bif w0.2.2 then
   bif (!(decide (w0.2.1 = (0 : Int)))) then
    Option.bind (@ref01_Big N (Go.IntKind.wrap .u64 w0.2.1) (4 : Int)) fun (v2 : (List Int)) =>
    some ((([((3 : Int), ([(194 : Int), (35 : Int), (129 : Int)] : List (Int)))] : List ((Int × (List Int)))) ++ ([((5 : Int), v2)] : List ((Int × (List Int))))))
   else
    some (([((3 : Int), ([(194 : Int), (35 : Int), (129 : Int)] : List (Int)))] : List ((Int × (List Int)))))
  else
   bif (!(decide (w0.2.1 = (0 : Int)))) then
    Option.bind (@ref01_Big N (Go.IntKind.wrap .u64 w0.2.1) (4 : Int)) fun (v2 : (List Int)) =>
    some (([((5 : Int), v2)] : List ((Int × (List Int)))))
   else
    some (([] : List ((Int × (List Int)))))
theorem ref25_Options_S (N : Nat) (w0 : (Int) × ((Int) × (Bool))) : (runK Go.Proofs.Try.prog (Ev66 N) 400 61 [(.pair (.int .u16) (.pair (.int .u32) .bool))] [(.sl (.pair (.int .u8) (.sl (.int .u8))))] (w0, ())).run = ref25_Options N w0 := by kernel_rfl
noncomputable def Ev67 (N : Nat) : (R : Type) → Env R := Env.addFn (Ev66 N) 61 (fun R => fnK [(.pair (.int .u16) (.pair (.int .u32) .bool))] [(.sl (.pair (.int .u8) (.sl (.int .u8))))] (fun c => ref25_Options N c.1))
theorem Ev67_ok (N : Nat) (R : Type) : EnvOK Go.Proofs.Try.prog (Ev67 N R) := EnvOK.addFn hmx (Ev66_ok N R) (Ev66_ok N _) (by kernel_rfl) (fun c => ref25_Options_S N c.1)
noncomputable def ref25_first_L2_I : LI := ⟨32, 0, [], ⟨[(0, .ty (.sl (.pair (.int .u8) (.sl (.int .u8))))), (1, .ty (.int .u8)), (4, .lit (.box 0 0)), (6, .ty (.int .i64))], [.box 73 (.pair (.int .u8) (.sl (.int .u8)))]⟩, [(.ret, ⟨[(4, .lit (.box 0 0)), (5, .ty .bool)], [.box 73 (.pair (.int .u8) (.sl (.int .u8)))]⟩), (.exit 0, ⟨[(4, .lit (.box 0 0))], [.box 73 (.pair (.int .u8) (.sl (.int .u8)))]⟩)]⟩
noncomputable def ref25_first_L2 (N : Nat) (X : (((List ((Int) × (List (Int)))) × ((Int) × ((Int) × Unit))) × (((Int) × (List (Int))) × Unit)) → Option (((((Bool) × Unit) × (((Int) × (List (Int))) × Unit)) ⊕ (Unit × (((Int) × (List (Int))) × Unit))))) (l0 : List ((Int) × (List (Int)))) (kind1 : Int) (i6 : Int) (h0 : (Int) × (List (Int))) : Option (((((Bool) × Unit) × (((Int) × (List (Int))) × Unit)) ⊕ (Unit × (((Int) × (List (Int))) × Unit)))) :=
 bif (decide (i6 < (((List.length l0) : Nat) : Int))) then
  Option.bind (getI l0 i6) fun (v6 : (Int × (List Int))) =>
  bif (decide (v6.1 = kind1)) then
   Option.bind (getI l0 i6) fun (v7 : (Int × (List Int))) =>
   Option.bind (@ref25_right N (v7.1, v7.2)) fun (v8 : Bool) =>
   bif (@cond Bool @Bool.true v8 @Bool.false) then
    Option.bind (getI l0 i6) fun (v9 : (Int × (List Int))) =>
    some ((.inl ((@Bool.true, @Unit.unit), ((v9.1, v9.2), @Unit.unit))))
   else
    (X ((l0, (kind1, ((Go.IntKind.wrap .i64 (i6 + (1 : Int))), @Unit.unit))), ((h0.1, h0.2), @Unit.unit)))
  else
   (X ((l0, (kind1, ((Go.IntKind.wrap .i64 (i6 + (1 : Int))), @Unit.unit))), ((h0.1, h0.2), @Unit.unit)))
 else
  some ((.inr (@Unit.unit, ((h0.1, h0.2), @Unit.unit))))
noncomputable def ref25_first_L2_R (N : Nat) (c : (((List ((Int) × (List (Int)))) × ((Int) × ((Int) × Unit))) × (((Int) × (List (Int))) × Unit))) : Option (((((Bool) × Unit) × (((Int) × (List (Int))) × Unit)) ⊕ (Unit × (((Int) × (List (Int))) × Unit)))) := gl (fun X c => ref25_first_L2 N X c.1.1 c.1.2.1 c.1.2.2.1 c.2.1) N c
theorem ref25_first_L2_S (N : Nat) (X : (((List ((Int) × (List (Int)))) × ((Int) × ((Int) × Unit))) × (((Int) × (List (Int))) × Unit)) → Option (((((Bool) × Unit) × (((Int) × (List (Int))) × Unit)) ⊕ (Unit × (((Int) × (List (Int))) × Unit))))) (l0 : List ((Int) × (List (Int)))) (kind1 : Int) (i6 : Int) (h0 : (Int) × (List (Int))) : (roundK Go.Proofs.Try.prog (Ev67 N) 400 [108] ref25_first_L2_I (loopAt Go.Proofs.Try.prog [108] 2) X ((l0, kind1, i6, ()), (h0, ()))).run = ref25_first_L2 N X l0 kind1 i6 h0 := by kernel_rfl
noncomputable def Ev68 (N : Nat) : (R : Type) → Env R := Env.addLp (Ev67 N) [108] 0 2 (fun R => lpK Go.Proofs.Try.prog ref25_first_L2_I (fun X c => ref25_first_L2 N X c.1.1 c.1.2.1 c.1.2.2.1 c.2.1) N)
theorem Ev68_ok (N : Nat) (R : Type) : EnvOK Go.Proofs.Try.prog (Ev68 N R) := EnvOK.addLp (Ev67_ok N R) (by kernel_rfl) (lpK_ok (li := ref25_first_L2_I) (G := fun X c => ref25_first_L2 N X c.1.1 c.1.2.1 c.1.2.2.1 c.2.1) hmx (Ev67_ok N _) (by kernel_rfl) loopAt_sub (fun (X : CT ref25_first_L2_I.sh → Option (OT ref25_first_L2_I.outs)) (c : CT ref25_first_L2_I.sh) => ref25_first_L2_S N X c.1.1 c.1.2.1 c.1.2.2.1 c.2.1) N)
noncomputable def ref25_first (N : Nat) (l0 : List ((Int) × (List (Int)))) (kind1 : Int) : Option (((Int) × (List (Int))) × Bool) :=
 Option.bind (ref25_first_L2_R N ((l0, (kind1, ((0 : Int), @Unit.unit))), (((0 : Int), ([] : List (Int))), @Unit.unit))) fun (v3 : (((Bool × Unit) × ((Int × (List Int)) × Unit)) ⊕ (Unit × ((Int × (List Int)) × Unit)))) =>
 Sum.elim
  (fun (v4 : ((Bool × Unit) × ((Int × (List Int)) × Unit))) =>
  some (((v4.2.1.1, v4.2.1.2), v4.1.1)))
  (fun (v4 : (Unit × ((Int × (List Int)) × Unit))) =>
  some ((((0 : Int), ([] : List (Int))), @Bool.false))) v3
theorem ref25_first_S (N : Nat) (l0 : List ((Int) × (List (Int)))) (kind1 : Int) : (runK Go.Proofs.Try.prog (Ev68 N) 400 108 [(.sl (.pair (.int .u8) (.sl (.int .u8)))), (.int .u8)] [(.pair (.int .u8) (.sl (.int .u8))), .bool] (l0, kind1, ())).run = ref25_first N l0 kind1 := by kernel_rfl
noncomputable def Ev69 (N : Nat) : (R : Type) → Env R := Env.addFn (Ev68 N) 108 (fun R => fnK [(.sl (.pair (.int .u8) (.sl (.int .u8)))), (.int .u8)] [(.pair (.int .u8) (.sl (.int .u8))), .bool] (fun c => ref25_first N c.1 c.2.1))
theorem Ev69_ok (N : Nat) (R : Type) : EnvOK Go.Proofs.Try.prog (Ev69 N R) := EnvOK.addFn hmx (Ev68_ok N R) (Ev68_ok N _) (by kernel_rfl) (fun c => ref25_first_S N c.1 c.2.1)
noncomputable def ref25_Of (N : Nat) (l0 : List ((Int) × (List (Int)))) : Option ((Int) × ((Int) × ((Bool) × ((Bool) × (Bool))))) :=
 Option.bind (@ref25_first N l0 (1 : Int)) fun (v2 : ((Int × (List Int)) × Bool)) =>
 bif v2.2 then
  Option.bind (@ref01_Num N v2.1.2) fun (v3 : Int) =>
  Option.bind (@ref25_first N l0 (3 : Int)) fun (v4 : ((Int × (List Int)) × Bool)) =>
  bif v4.2 then
   Option.bind (@ref01_Same N v4.1.2 ([(194 : Int), (35 : Int), (129 : Int)] : List (Int))) fun (v5 : Bool) =>
   Option.bind (@ref25_first N l0 (5 : Int)) fun (v6 : ((Int × (List Int)) × Bool)) =>
   bif v6.2 then
    Option.bind (@ref01_Num N v6.1.2) fun (v7 : Int) =>
    Option.bind (@ref25_first N l0 (7 : Int)) fun (v8 : ((Int × (List Int)) × Bool)) =>
    Option.bind (@ref25_first N l0 (8 : Int)) fun (v9 : ((Int × (List Int)) × Bool)) =>
    some (((Go.IntKind.wrap .u16 v3), ((Go.IntKind.wrap .u32 v7), (v5, (v8.2, v9.2)))))
   else
    Option.bind (@ref25_first N l0 (7 : Int)) fun (v7 : ((Int × (List Int)) × Bool)) =>
    Option.bind (@ref25_first N l0 (8 : Int)) fun (v8 : ((Int × (List Int)) × Bool)) =>
    some (((Go.IntKind.wrap .u16 v3), ((0 : Int), (v5, (v7.2, v8.2)))))
  else
   Option.bind (@ref25_first N l0 (5 : Int)) fun (v5 : ((Int × (List Int)) × Bool)) =>
   bif v5.2 then
    Option.bind (@ref01_Num N v5.1.2) fun (v6 : Int) =>
    Option.bind (@ref25_first N l0 (7 : Int)) fun (v7 : ((Int × (List Int)) × Bool)) =>
    Option.bind (@ref25_first N l0 (8 : Int)) fun (v8 : ((Int × (List Int)) × Bool)) =>
    some (((Go.IntKind.wrap .u16 v3), ((Go.IntKind.wrap .u32 v6), (@Bool.false, (v7.2, v8.2)))))
   else
    Option.bind (@ref25_first N l0 (7 : Int)) fun (v6 : ((Int × (List Int)) × Bool)) =>
    Option.bind (@ref25_first N l0 (8 : Int)) fun (v7 : ((Int × (List Int)) × Bool)) =>
    some (((Go.IntKind.wrap .u16 v3), ((0 : Int), (@Bool.false, (v6.2, v7.2)))))
 else
  Option.bind (@ref25_first N l0 (3 : Int)) fun (v3 : ((Int × (List Int)) × Bool)) =>
  bif v3.2 then
   Option.bind (@ref01_Same N v3.1.2 ([(194 : Int), (35 : Int), (129 : Int)] : List (Int))) fun (v4 : Bool) =>
   Option.bind (@ref25_first N l0 (5 : Int)) fun (v5 : ((Int × (List Int)) × Bool)) =>
   bif v5.2 then
    Option.bind (@ref01_Num N v5.1.2) fun (v6 : Int) =>
    Option.bind (@ref25_first N l0 (7 : Int)) fun (v7 : ((Int × (List Int)) × Bool)) =>
    Option.bind (@ref25_first N l0 (8 : Int)) fun (v8 : ((Int × (List Int)) × Bool)) =>
    some (((1500 : Int), ((Go.IntKind.wrap .u32 v6), (v4, (v7.2, v8.2)))))
   else
    Option.bind (@ref25_first N l0 (7 : Int)) fun (v6 : ((Int × (List Int)) × Bool)) =>
    Option.bind (@ref25_first N l0 (8 : Int)) fun (v7 : ((Int × (List Int)) × Bool)) =>
    some (((1500 : Int), ((0 : Int), (v4, (v6.2, v7.2)))))
  else
   Option.bind (@ref25_first N l0 (5 : Int)) fun (v4 : ((Int × (List Int)) × Bool)) =>
   bif v4.2 then
    Option.bind (@ref01_Num N v4.1.2) fun (v5 : Int) =>
    Option.bind (@ref25_first N l0 (7 : Int)) fun (v6 : ((Int × (List Int)) × Bool)) =>
    Option.bind (@ref25_first N l0 (8 : Int)) fun (v7 : ((Int × (List Int)) × Bool)) =>
    some (((1500 : Int), ((Go.IntKind.wrap .u32 v5), (@Bool.false, (v6.2, v7.2)))))
   else
    Option.bind (@ref25_first N l0 (7 : Int)) fun (v5 : ((Int × (List Int)) × Bool)) =>
    Option.bind (@ref25_first N l0 (8 : Int)) fun (v6 : ((Int × (List Int)) × Bool)) =>
    some (((1500 : Int), ((0 : Int), (@Bool.false, (v5.2, v6.2)))))
theorem ref25_Of_S (N : Nat) (l0 : List ((Int) × (List (Int)))) : (runK Go.Proofs.Try.prog (Ev69 N) 400 63 [(.sl (.pair (.int .u8) (.sl (.int .u8))))] [(.pair (.int .u16) (.pair (.int .u32) (.pair .bool (.pair .bool .bool))))] (l0, ())).run = ref25_Of N l0 := by kernel_rfl
noncomputable def Ev70 (N : Nat) : (R : Type) → Env R := Env.addFn (Ev69 N) 63 (fun R => fnK [(.sl (.pair (.int .u8) (.sl (.int .u8))))] [(.pair (.int .u16) (.pair (.int .u32) (.pair .bool (.pair .bool .bool))))] (fun c => ref25_Of N c.1))
theorem Ev70_ok (N : Nat) (R : Type) : EnvOK Go.Proofs.Try.prog (Ev70 N R) := EnvOK.addFn hmx (Ev69_ok N R) (Ev69_ok N _) (by kernel_rfl) (fun c => ref25_Of_S N c.1)
noncomputable def lcpo_Naked (N : Nat) (w0 : (Int) × ((Int) × (Bool))) (l1 : List ((Int) × (List (Int)))) (fresh2 : Int) : Option ((Int) × ((Int) × (Bool))) :=
 Option.bind (@lcpo_first N l1 (1 : Int)) fun (v4 : ((List Int) × Bool)) =>
 bif v4.2 then
  Option.bind (@lcpo_value N v4.1) fun (v5 : Int) =>
  bif (decide ((128 : Int) ≤ (Go.IntKind.wrap .u16 v5))) then
   bif (decide ((Go.IntKind.wrap .u16 v5) ≤ w0.1)) then
    Option.bind (@lcpo_has N l1 (5 : Int)) fun (v6 : Bool) =>
    bif v6 then
     some (((Go.IntKind.wrap .u16 v5), (fresh2, w0.2.2)))
    else
     some (((Go.IntKind.wrap .u16 v5), (w0.2.1, w0.2.2)))
   else
    bif (@cond Bool @Bool.true (@cond Bool @Bool.false @Bool.true (decide (w0.1 = (0 : Int)))) @Bool.false) then
     Option.bind (@lcpo_has N l1 (5 : Int)) fun (v6 : Bool) =>
     bif v6 then
      some (((Go.IntKind.wrap .u16 v5), (fresh2, w0.2.2)))
     else
      some (((Go.IntKind.wrap .u16 v5), (w0.2.1, w0.2.2)))
    else
     Option.bind (@lcpo_has N l1 (5 : Int)) fun (v6 : Bool) =>
     bif v6 then
      some ((w0.1, (fresh2, w0.2.2)))
     else
      some ((w0.1, (w0.2.1, w0.2.2)))
  else
   Option.bind (@lcpo_has N l1 (5 : Int)) fun (v6 : Bool) =>
   bif v6 then
    some ((w0.1, (fresh2, w0.2.2)))
   else
    some ((w0.1, (w0.2.1, w0.2.2)))
 else
  Option.bind (@lcpo_has N l1 (5 : Int)) fun (v5 : Bool) =>
  bif v5 then
   some ((w0.1, (fresh2, w0.2.2)))
  else
   some ((w0.1, (w0.2.1, w0.2.2)))
theorem lcpo_Naked_S (N : Nat) (w0 : (Int) × ((Int) × (Bool))) (l1 : List ((Int) × (List (Int)))) (fresh2 : Int) : (runK Go.Proofs.Try.prog (Ev70 N) 400 64 [(.pair (.int .u16) (.pair (.int .u32) .bool)), (.sl (.pair (.int .u8) (.sl (.int .u8)))), (.int .u32)] [(.pair (.int .u16) (.pair (.int .u32) .bool))] (w0, l1, fresh2, ())).run = lcpo_Naked N w0 l1 fresh2 := by kernel_rfl
noncomputable def Ev71 (N : Nat) : (R : Type) → Env R := Env.addFn (Ev70 N) 64 (fun R => fnK [(.pair (.int .u16) (.pair (.int .u32) .bool)), (.sl (.pair (.int .u8) (.sl (.int .u8)))), (.int .u32)] [(.pair (.int .u16) (.pair (.int .u32) .bool))] (fun c => lcpo_Naked N c.1 c.2.1 c.2.2.1))
theorem Ev71_ok (N : Nat) (R : Type) : EnvOK Go.Proofs.Try.prog (Ev71 N R) := EnvOK.addFn hmx (Ev70_ok N R) (Ev70_ok N _) (by kernel_rfl) (fun c => lcpo_Naked_S N c.1 c.2.1 c.2.2.1)
noncomputable def ref25_Naked (N : Nat) (w0 : (Int) × ((Int) × (Bool))) (l1 : List ((Int) × (List (Int)))) (fresh2 : Int) : Option ((Int) × ((Int) × (Bool))) :=
 Option.bind (@ref25_first N l1 (1 : Int)) fun (v4 : ((Int × (List Int)) × Bool)) =>
 bif v4.2 then
  Option.bind (@ref01_Num N v4.1.2) fun (v5 : Int) =>
  bif (decide ((128 : Int) ≤ (Go.IntKind.wrap .u16 v5))) then
   bif (decide (w0.1 = (0 : Int))) then
    Option.bind (@ref21_Find N l1 (5 : Int)) fun (v6 : ((Int × (List Int)) × Bool)) =>
    bif v6.2 then
     some (((Go.IntKind.wrap .u16 v5), (fresh2, w0.2.2)))
    else
     some (((Go.IntKind.wrap .u16 v5), (w0.2.1, w0.2.2)))
   else
    bif (@cond Bool @Bool.true (@cond Bool @Bool.false @Bool.true (decide ((Go.IntKind.wrap .u16 v5) ≤ w0.1))) @Bool.false) then
     Option.bind (@ref21_Find N l1 (5 : Int)) fun (v6 : ((Int × (List Int)) × Bool)) =>
     bif v6.2 then
      some (((Go.IntKind.wrap .u16 v5), (fresh2, w0.2.2)))
     else
      some (((Go.IntKind.wrap .u16 v5), (w0.2.1, w0.2.2)))
    else
     Option.bind (@ref21_Find N l1 (5 : Int)) fun (v6 : ((Int × (List Int)) × Bool)) =>
     bif v6.2 then
      some ((w0.1, (fresh2, w0.2.2)))
     else
      some ((w0.1, (w0.2.1, w0.2.2)))
  else
   Option.bind (@ref21_Find N l1 (5 : Int)) fun (v6 : ((Int × (List Int)) × Bool)) =>
   bif v6.2 then
    some ((w0.1, (fresh2, w0.2.2)))
   else
    some ((w0.1, (w0.2.1, w0.2.2)))
 else
  Option.bind (@ref21_Find N l1 (5 : Int)) fun (v5 : ((Int × (List Int)) × Bool)) =>
  bif v5.2 then
   some ((w0.1, (fresh2, w0.2.2)))
  else
   some ((w0.1, (w0.2.1, w0.2.2)))
theorem ref25_Naked_S (N : Nat) (w0 : (Int) × ((Int) × (Bool))) (l1 : List ((Int) × (List (Int)))) (fresh2 : Int) : (runK Go.Proofs.Try.prog (Ev71 N) 400 65 [(.pair (.int .u16) (.pair (.int .u32) .bool)), (.sl (.pair (.int .u8) (.sl (.int .u8)))), (.int .u32)] [(.pair (.int .u16) (.pair (.int .u32) .bool))] (w0, l1, fresh2, ())).run = ref25_Naked N w0 l1 fresh2 := by kernel_rfl
noncomputable def Ev72 (N : Nat) : (R : Type) → Env R := Env.addFn (Ev71 N) 65 (fun R => fnK [(.pair (.int .u16) (.pair (.int .u32) .bool)), (.sl (.pair (.int .u8) (.sl (.int .u8)))), (.int .u32)] [(.pair (.int .u16) (.pair (.int .u32) .bool))] (fun c => ref25_Naked N c.1 c.2.1 c.2.2.1))
theorem Ev72_ok (N : Nat) (R : Type) : EnvOK Go.Proofs.Try.prog (Ev72 N R) := EnvOK.addFn hmx (Ev71_ok N R) (Ev71_ok N _) (by kernel_rfl) (fun c => ref25_Naked_S N c.1 c.2.1 c.2.2.1)
noncomputable def law25_LcpoWants (N : Nat) (w0 : (Int) × ((Int) × (Bool))) (l1 : List ((Int) × (List (Int)))) (fresh2 : Int) : Option (Bool) :=
 Option.bind (@law25_far N l1) fun (v4 : Bool) =>
 bif v4 then
  Option.bind (@law25_alive N) fun (v5 : Bool) =>
  some (v5)
 else
  Option.bind (@law25_theirs N l1) fun (v5 : (List (Int × (List Int)))) =>
  Option.bind (@lcpo_Rejected N (w0.1, (w0.2.1, w0.2.2)) v5) fun (v6 : ((Int × (Int × Bool)) × Bool)) =>
  Option.bind (@ref25_Rejected N (w0.1, (w0.2.1, w0.2.2)) l1) fun (v7 : ((Int × (Int × Bool)) × Bool)) =>
  Option.bind (@lcpo_Options N (w0.1, (w0.2.1, w0.2.2))) fun (v8 : (List (Int × (List Int)))) =>
  Option.bind (@ref25_Options N (w0.1, (w0.2.1, w0.2.2))) fun (v9 : (List (Int × (List Int)))) =>
  Option.bind (@law25_theirs N v9) fun (v10 : (List (Int × (List Int)))) =>
  Option.bind (@opts_Same N v8 v10) fun (v11 : Bool) =>
  bif v11 then
   Option.bind (@law25_theirs N l1) fun (v12 : (List (Int × (List Int)))) =>
   Option.bind (@lcpo_Of N v12) fun (v13 : (Int × (Int × (Bool × (Bool × Bool))))) =>
   Option.bind (@ref25_Of N l1) fun (v14 : (Int × (Int × (Bool × (Bool × Bool))))) =>
   bif ((@wfB (@Td.pair (@Td.int @Go.IntKind.u16) (@Td.pair (@Td.int @Go.IntKind.u32) (@Td.pair @Td.bool (@Td.pair @Td.bool @Td.bool)))) (v13.1, (v13.2.1, (v13.2.2.1, (v13.2.2.2.1, v13.2.2.2.2))))) && (@wfB (@Td.pair (@Td.int @Go.IntKind.u16) (@Td.pair (@Td.int @Go.IntKind.u32) (@Td.pair @Td.bool (@Td.pair @Td.bool @Td.bool)))) (v14.1, (v14.2.1, (v14.2.2.1, (v14.2.2.2.1, v14.2.2.2.2)))))) then
    bif (@cond Bool @Bool.true (@Decidable.decide (@Eq (Int × (Int × (Bool × (Bool × Bool)))) (v13.1, (v13.2.1, (v13.2.2.1, (v13.2.2.2.1, v13.2.2.2.2)))) (v14.1, (v14.2.1, (v14.2.2.1, (v14.2.2.2.1, v14.2.2.2.2))))) (@decT (@Td.pair (@Td.int @Go.IntKind.u16) (@Td.pair (@Td.int @Go.IntKind.u32) (@Td.pair @Td.bool (@Td.pair @Td.bool @Td.bool)))) (v13.1, (v13.2.1, (v13.2.2.1, (v13.2.2.2.1, v13.2.2.2.2)))) (v14.1, (v14.2.1, (v14.2.2.1, (v14.2.2.2.1, v14.2.2.2.2)))))) @Bool.false) then
     Option.bind (@law25_theirs N l1) fun (v15 : (List (Int × (List Int)))) =>
     Option.bind (@lcpo_Naked N (w0.1, (w0.2.1, w0.2.2)) v15 fresh2) fun (v16 : (Int × (Int × Bool))) =>
     Option.bind (@ref25_Naked N (w0.1, (w0.2.1, w0.2.2)) l1 fresh2) fun (v17 : (Int × (Int × Bool))) =>
     bif ((@wfB (@Td.pair (@Td.int @Go.IntKind.u16) (@Td.pair (@Td.int @Go.IntKind.u32) @Td.bool)) (v16.1, (v16.2.1, v16.2.2))) && (@wfB (@Td.pair (@Td.int @Go.IntKind.u16) (@Td.pair (@Td.int @Go.IntKind.u32) @Td.bool)) (v17.1, (v17.2.1, v17.2.2)))) then
      bif (@cond Bool @Bool.true (@Decidable.decide (@Eq (Int × (Int × Bool)) (v16.1, (v16.2.1, v16.2.2)) (v17.1, (v17.2.1, v17.2.2))) (@decT (@Td.pair (@Td.int @Go.IntKind.u16) (@Td.pair (@Td.int @Go.IntKind.u32) @Td.bool)) (v16.1, (v16.2.1, v16.2.2)) (v17.1, (v17.2.1, v17.2.2)))) @Bool.false) then
       bif ((@wfB (@Td.pair (@Td.int @Go.IntKind.u16) (@Td.pair (@Td.int @Go.IntKind.u32) @Td.bool)) (v6.1.1, (v6.1.2.1, v6.1.2.2))) && (@wfB (@Td.pair (@Td.int @Go.IntKind.u16) (@Td.pair (@Td.int @Go.IntKind.u32) @Td.bool)) (v7.1.1, (v7.1.2.1, v7.1.2.2)))) then
        bif (@cond Bool @Bool.true (@Decidable.decide (@Eq (Int × (Int × Bool)) (v6.1.1, (v6.1.2.1, v6.1.2.2)) (v7.1.1, (v7.1.2.1, v7.1.2.2))) (@decT (@Td.pair (@Td.int @Go.IntKind.u16) (@Td.pair (@Td.int @Go.IntKind.u32) @Td.bool)) (v6.1.1, (v6.1.2.1, v6.1.2.2)) (v7.1.1, (v7.1.2.1, v7.1.2.2)))) @Bool.false) then
         bif (@cond Bool @Bool.true (@BEq.beq Bool (@instBEqOfDecidableEq Bool @instDecidableEqBool) v6.2 v7.2) @Bool.false) then
          Option.bind (@law25_alive N) fun (v18 : Bool) =>
          some ((@cond Bool @Bool.true v18 @Bool.false))
         else
          some (@Bool.false)
        else
         some (@Bool.false)
       else
        none
      else
       some (@Bool.false)
     else
      none
    else
     some (@Bool.false)
   else
    none
  else
   some (@Bool.false)
theorem law25_LcpoWants_S (N : Nat) (w0 : (Int) × ((Int) × (Bool))) (l1 : List ((Int) × (List (Int)))) (fresh2 : Int) : (runK Go.Proofs.Try.prog (Ev72 N) 400 12 [(.pair (.int .u16) (.pair (.int .u32) .bool)), (.sl (.pair (.int .u8) (.sl (.int .u8)))), (.int .u32)] [.bool] (w0, l1, fresh2, ())).run = law25_LcpoWants N w0 l1 fresh2 := by kernel_rfl
theorem law25_LcpoWants_C (N : Nat) (w0 : (Int) × ((Int) × (Bool))) (l1 : List ((Int) × (List (Int)))) (fresh2 : Int) (y : Bool) (h : law25_LcpoWants N w0 l1 fresh2 = some y) : CallsK Go.Proofs.Try.prog 12 (valA [(.pair (.int .u16) (.pair (.int .u32) .bool)), (.sl (.pair (.int .u8) (.sl (.int .u8)))), (.int .u32)] (w0, l1, fresh2, ())) (tupV (valR [.bool] y)) := runK_ok hmx (Ev72_ok N _) (okFn_ok (by kernel_rfl)) (by rw [law25_LcpoWants_S]; exact h)
noncomputable def Ev73 (N : Nat) : (R : Type) → Env R := Env.addFn (Ev72 N) 12 (fun R => fnK [(.pair (.int .u16) (.pair (.int .u32) .bool)), (.sl (.pair (.int .u8) (.sl (.int .u8)))), (.int .u32)] [.bool] (fun c => law25_LcpoWants N c.1 c.2.1 c.2.2.1))
theorem Ev73_ok (N : Nat) (R : Type) : EnvOK Go.Proofs.Try.prog (Ev73 N R) := EnvOK.addFn hmx (Ev72_ok N R) (Ev72_ok N _) (by kernel_rfl) (fun c => law25_LcpoWants_S N c.1 c.2.1 c.2.2.1)
end Go.Proofs.Ytjfmcfilenbmbaa
