/-
  Functions of the program as plain functions on typed data, and that they are so. Printed by a program of mine.
-/
import Derived.Test.YtipjmjkfdekchaaKC
namespace Go.Proofs.Ytipjmjkfdekchaa
open Go.RowKit
set_option linter.unusedVariables false
set_option maxRecDepth 100000
theorem hmx : Go.Proofs.Try.prog.follows .mixedOrders = true := by kernel_rfl
noncomputable def Ev0 (N : Nat) : (R : Type) → Env R := Env.addInl env0 [110]
theorem Ev0_ok (N : Nat) (R : Type) : EnvOK Go.Proofs.Try.prog (Ev0 N R) := EnvOK.addInl (env0_ok R) (by kernel_rfl)
noncomputable def Ev1 (N : Nat) : (R : Type) → Env R := Env.addMv (Ev0 N) [(110, 3)]
theorem Ev1_ok (N : Nat) (R : Type) : EnvOK Go.Proofs.Try.prog (Ev1 N R) := EnvOK.addMv (Ev0_ok N R) [(110, 3)]
noncomputable def pool_New (N : Nat) (first0 : Int) (many1 : Int) : Option (((Int) × (List ((Bool) × (Int)))) × Int) :=
 bif (decide (many1 < (0 : Int))) then
  some ((((0 : Int), ([] : List ((Bool × Int)))), (1 : Int)))
 else
  bif (@cond Bool @Bool.false @Bool.true (decide ((256 : Int) < many1))) then
   some ((((0 : Int), ([] : List ((Bool × Int)))), (1 : Int)))
  else
   bif (@cond Bool @Bool.false @Bool.true (decide (first0 = (0 : Int)))) then
    some ((((0 : Int), ([] : List ((Bool × Int)))), (1 : Int)))
   else
    bif (@cond Bool @Bool.false @Bool.true (decide ((4294967296 : Int) < (Go.IntKind.wrap .u64 ((Go.IntKind.wrap .u64 first0) + (Go.IntKind.wrap .u64 many1)))))) then
     some ((((0 : Int), ([] : List ((Bool × Int)))), (1 : Int)))
    else
     bif ((decide ((0 : Int) ≤ many1 ∧ many1 ≤ many1)) && (roomB (Int.toNat many1) 16)) then
      some (((first0, (@List.replicate (Bool × Int) (Int.toNat many1) (@Bool.false, (0 : Int)))), (0 : Int)))
     else
      none
theorem pool_New_S (N : Nat) (first0 : Int) (many1 : Int) : (runK Go.Proofs.Try.prog (Ev1 N) 400 51 [(.int .u32), (.int .i64)] [(.pair (.int .u32) (.sl (.pair .bool (.int .i64)))), (.int .i64)] (first0, many1, ())).run = pool_New N first0 many1 := by kernel_rfl
noncomputable def Ev2 (N : Nat) : (R : Type) → Env R := Env.addFn (Ev1 N) 51 (fun R => fnK [(.int .u32), (.int .i64)] [(.pair (.int .u32) (.sl (.pair .bool (.int .i64)))), (.int .i64)] (fun c => pool_New N c.1 c.2.1))
theorem Ev2_ok (N : Nat) (R : Type) : EnvOK Go.Proofs.Try.prog (Ev2 N R) := EnvOK.addFn hmx (Ev1_ok N R) (Ev1_ok N _) (by kernel_rfl) (fun c => pool_New_S N c.1 c.2.1)
noncomputable def Ev3 (N : Nat) : (R : Type) → Env R := Env.addBx (Ev2 N) [(52, 0)]
theorem Ev3_ok (N : Nat) (R : Type) : EnvOK Go.Proofs.Try.prog (Ev3 N R) := EnvOK.addBx (Ev2_ok N R) [(52, 0)]
noncomputable def Ev4 (N : Nat) : (R : Type) → Env R := Env.addBx (Ev3 N) [(93, 0)]
theorem Ev4_ok (N : Nat) (R : Type) : EnvOK Go.Proofs.Try.prog (Ev4 N R) := EnvOK.addBx (Ev3_ok N R) [(93, 0)]
noncomputable def Ev5 (N : Nat) : (R : Type) → Env R := Env.addBx (Ev4 N) [(109, 0)]
theorem Ev5_ok (N : Nat) (R : Type) : EnvOK Go.Proofs.Try.prog (Ev5 N R) := EnvOK.addBx (Ev4_ok N R) [(109, 0)]
noncomputable def slices_Index_pool_place_pool_place_L2_I : LI := ⟨19, 0, [], ⟨[(0, .ty (.sl (.pair .bool (.int .i64)))), (3, .adr (.pair .bool (.int .i64))), (7, .ty (.int .i64)), (8, .ty (.int .i64))], []⟩, [(.ret, ⟨[(4, .ty (.int .i64))], []⟩), (.exit 0, ⟨[], []⟩)]⟩
noncomputable def slices_Index_pool_place_pool_place_L2 (N : Nat) (X : (((List ((Bool) × (Int))) × (((Bool) × (Int)) × ((Int) × ((Int) × Unit)))) × Unit) → Option (((((Int) × Unit) × Unit) ⊕ (Unit × Unit)))) (s0 : List ((Bool) × (Int))) (v3 : (Bool) × (Int)) (x7 : Int) (x8 : Int) : Option (((((Int) × Unit) × Unit) ⊕ (Unit × Unit))) :=
 bif (decide (x8 < x7)) then
  Option.bind (getI s0 x8) fun (v6 : (Bool × Int)) =>
  bif ((@wfB (@Td.pair @Td.bool (@Td.int @Go.IntKind.i64)) (v3.1, v3.2)) && (@wfB (@Td.pair @Td.bool (@Td.int @Go.IntKind.i64)) (v6.1, v6.2))) then
   bif (@Decidable.decide (@Eq (Bool × Int) (v3.1, v3.2) (v6.1, v6.2)) (@decT (@Td.pair @Td.bool (@Td.int @Go.IntKind.i64)) (v3.1, v3.2) (v6.1, v6.2))) then
    some ((.inl ((x8, @Unit.unit), @Unit.unit)))
   else
    (X ((s0, ((v3.1, v3.2), (x7, ((Go.IntKind.wrap .i64 (x8 + (1 : Int))), @Unit.unit)))), @Unit.unit))
  else
   none
 else
  some ((.inr (@Unit.unit, @Unit.unit)))
noncomputable def slices_Index_pool_place_pool_place_L2_R (N : Nat) (c : (((List ((Bool) × (Int))) × (((Bool) × (Int)) × ((Int) × ((Int) × Unit)))) × Unit)) : Option (((((Int) × Unit) × Unit) ⊕ (Unit × Unit))) := gl (fun X c => slices_Index_pool_place_pool_place_L2 N X c.1.1 c.1.2.1 c.1.2.2.1 c.1.2.2.2.1) N c
theorem slices_Index_pool_place_pool_place_L2_S (N : Nat) (X : (((List ((Bool) × (Int))) × (((Bool) × (Int)) × ((Int) × ((Int) × Unit)))) × Unit) → Option (((((Int) × Unit) × Unit) ⊕ (Unit × Unit)))) (s0 : List ((Bool) × (Int))) (v3 : (Bool) × (Int)) (x7 : Int) (x8 : Int) : (roundK Go.Proofs.Try.prog (Ev5 N) 400 [109] slices_Index_pool_place_pool_place_L2_I (loopAt Go.Proofs.Try.prog [109] 2) X ((s0, v3, x7, x8, ()), ())).run = slices_Index_pool_place_pool_place_L2 N X s0 v3 x7 x8 := by kernel_rfl
noncomputable def Ev6 (N : Nat) : (R : Type) → Env R := Env.addLp (Ev5 N) [109] 0 2 (fun R => lpK Go.Proofs.Try.prog slices_Index_pool_place_pool_place_L2_I (fun X c => slices_Index_pool_place_pool_place_L2 N X c.1.1 c.1.2.1 c.1.2.2.1 c.1.2.2.2.1) N)
theorem Ev6_ok (N : Nat) (R : Type) : EnvOK Go.Proofs.Try.prog (Ev6 N R) := EnvOK.addLp (Ev5_ok N R) (by kernel_rfl) (lpK_ok (li := slices_Index_pool_place_pool_place_L2_I) (G := fun X c => slices_Index_pool_place_pool_place_L2 N X c.1.1 c.1.2.1 c.1.2.2.1 c.1.2.2.2.1) hmx (Ev5_ok N _) (by kernel_rfl) loopAt_sub (fun (X : CT slices_Index_pool_place_pool_place_L2_I.sh → Option (OT slices_Index_pool_place_pool_place_L2_I.outs)) (c : CT slices_Index_pool_place_pool_place_L2_I.sh) => slices_Index_pool_place_pool_place_L2_S N X c.1.1 c.1.2.1 c.1.2.2.1 c.1.2.2.2.1) N)
noncomputable def slices_Index_pool_place_pool_place (N : Nat) (s0 : List ((Bool) × (Int))) (v1 : (Bool) × (Int)) : Option (Int) :=
 Option.bind (slices_Index_pool_place_pool_place_L2_R N ((s0, ((v1.1, v1.2), ((((List.length s0) : Nat) : Int), ((0 : Int), @Unit.unit)))), @Unit.unit)) fun (v3 : (((Int × Unit) × Unit) ⊕ (Unit × Unit))) =>
 Sum.elim
  (fun (v4 : ((Int × Unit) × Unit)) =>
  some (v4.1.1))
  (fun (v4 : (Unit × Unit)) =>
  some ((-1 : Int))) v3
theorem slices_Index_pool_place_pool_place_S (N : Nat) (s0 : List ((Bool) × (Int))) (v1 : (Bool) × (Int)) : (runK Go.Proofs.Try.prog (Ev6 N) 400 109 [(.sl (.pair .bool (.int .i64))), (.pair .bool (.int .i64))] [(.int .i64)] (s0, v1, ())).run = slices_Index_pool_place_pool_place N s0 v1 := by kernel_rfl
noncomputable def Ev7 (N : Nat) : (R : Type) → Env R := Env.addFn (Ev6 N) 109 (fun R => fnK [(.sl (.pair .bool (.int .i64))), (.pair .bool (.int .i64))] [(.int .i64)] (fun c => slices_Index_pool_place_pool_place N c.1 c.2.1))
theorem Ev7_ok (N : Nat) (R : Type) : EnvOK Go.Proofs.Try.prog (Ev7 N R) := EnvOK.addFn hmx (Ev6_ok N R) (Ev6_ok N _) (by kernel_rfl) (fun c => slices_Index_pool_place_pool_place_S N c.1 c.2.1)
noncomputable def pool_Pool_find (N : Nat) (p0 : (Int) × (List ((Bool) × (Int)))) (want1 : (Bool) × (Int)) : Option (Int) :=
 Option.bind (@slices_Index_pool_place_pool_place N p0.2 (want1.1, want1.2)) fun (v3 : Int) =>
 some (v3)
theorem pool_Pool_find_S (N : Nat) (p0 : (Int) × (List ((Bool) × (Int)))) (want1 : (Bool) × (Int)) : (runK Go.Proofs.Try.prog (Ev7 N) 400 93 [(.pair (.int .u32) (.sl (.pair .bool (.int .i64)))), (.pair .bool (.int .i64))] [(.int .i64)] (p0, want1, ())).run = pool_Pool_find N p0 want1 := by kernel_rfl
noncomputable def Ev8 (N : Nat) : (R : Type) → Env R := Env.addFn (Ev7 N) 93 (fun R => fnK [(.pair (.int .u32) (.sl (.pair .bool (.int .i64)))), (.pair .bool (.int .i64))] [(.int .i64)] (fun c => pool_Pool_find N c.1 c.2.1))
theorem Ev8_ok (N : Nat) (R : Type) : EnvOK Go.Proofs.Try.prog (Ev8 N R) := EnvOK.addFn hmx (Ev7_ok N R) (Ev7_ok N _) (by kernel_rfl) (fun c => pool_Pool_find_S N c.1 c.2.1)
noncomputable def Ev9 (N : Nat) : (R : Type) → Env R := Env.addBx (Ev8 N) [(94, 0)]
theorem Ev9_ok (N : Nat) (R : Type) : EnvOK Go.Proofs.Try.prog (Ev9 N R) := EnvOK.addBx (Ev8_ok N R) [(94, 0)]
noncomputable def pool_Pool_addr (N : Nat) (p0 : (Int) × (List ((Bool) × (Int)))) (i1 : Int) : Option (Int) :=
 some ((Go.IntKind.wrap .u32 (p0.1 + (Go.IntKind.wrap .u32 i1))))
theorem pool_Pool_addr_S (N : Nat) (p0 : (Int) × (List ((Bool) × (Int)))) (i1 : Int) : (runK Go.Proofs.Try.prog (Ev9 N) 400 94 [(.pair (.int .u32) (.sl (.pair .bool (.int .i64)))), (.int .i64)] [(.int .u32)] (p0, i1, ())).run = pool_Pool_addr N p0 i1 := by kernel_rfl
noncomputable def Ev10 (N : Nat) : (R : Type) → Env R := Env.addFn (Ev9 N) 94 (fun R => fnK [(.pair (.int .u32) (.sl (.pair .bool (.int .i64)))), (.int .i64)] [(.int .u32)] (fun c => pool_Pool_addr N c.1 c.2.1))
theorem Ev10_ok (N : Nat) (R : Type) : EnvOK Go.Proofs.Try.prog (Ev10 N R) := EnvOK.addFn hmx (Ev9_ok N R) (Ev9_ok N _) (by kernel_rfl) (fun c => pool_Pool_addr_S N c.1 c.2.1)
noncomputable def pool_Pool_put (N : Nat) (p0 : (Int) × (List ((Bool) × (Int)))) (i1 : Int) (x2 : (Bool) × (Int)) : Option ((Int) × (List ((Bool) × (Int)))) :=
 bif (@List.isEmpty (Bool × Int) p0.2) then
  none
 else
  bif (roomB ((List.length ([] : List ((Bool × Int)))) + (List.length p0.2)) 16) then
   bif (decide ((0 : Int) ≤ i1 ∧ i1 < (((List.length (([] : List ((Bool × Int))) ++ p0.2)) : Nat) : Int))) then
    Option.bind (@GetElem?.getElem? (List (Bool × Int)) Nat (Bool × Int) (fun (as4 : (List (Bool × Int))) => (fun (i5 : Nat) => (@LT.lt Nat @instLTNat i5 (List.length as4)))) (@List.instGetElem?NatLtLength (Bool × Int)) (([] : List ((Bool × Int))) ++ p0.2) (Int.toNat i1)) fun (v4 : (Bool × Int)) =>
    some ((p0.1, (@List.set (Bool × Int) (([] : List ((Bool × Int))) ++ p0.2) (Int.toNat i1) (x2.1, x2.2))))
   else
    none
  else
   none
theorem pool_Pool_put_S (N : Nat) (p0 : (Int) × (List ((Bool) × (Int)))) (i1 : Int) (x2 : (Bool) × (Int)) : (runK Go.Proofs.Try.prog (Ev10 N) 400 95 [(.pair (.int .u32) (.sl (.pair .bool (.int .i64)))), (.int .i64), (.pair .bool (.int .i64))] [(.pair (.int .u32) (.sl (.pair .bool (.int .i64))))] (p0, i1, x2, ())).run = pool_Pool_put N p0 i1 x2 := by kernel_rfl
noncomputable def Ev11 (N : Nat) : (R : Type) → Env R := Env.addFn (Ev10 N) 95 (fun R => fnK [(.pair (.int .u32) (.sl (.pair .bool (.int .i64)))), (.int .i64), (.pair .bool (.int .i64))] [(.pair (.int .u32) (.sl (.pair .bool (.int .i64))))] (fun c => pool_Pool_put N c.1 c.2.1 c.2.2.1))
theorem Ev11_ok (N : Nat) (R : Type) : EnvOK Go.Proofs.Try.prog (Ev11 N R) := EnvOK.addFn hmx (Ev10_ok N R) (Ev10_ok N _) (by kernel_rfl) (fun c => pool_Pool_put_S N c.1 c.2.1 c.2.2.1)
noncomputable def pool_Pool_Give (N : Nat) (p0 : (Int) × (List ((Bool) × (Int)))) (holder1 : Int) : Option (((Int) × (List ((Bool) × (Int)))) × (Int) × Int) :=
 Option.bind (@pool_Pool_find N (p0.1, p0.2) (@Bool.true, holder1)) fun (v3 : Int) =>
 bif (decide ((0 : Int) ≤ v3)) then
  some (((p0.1, p0.2), ((Go.IntKind.wrap .u32 (p0.1 + (Go.IntKind.wrap .u32 v3))), (0 : Int))))
 else
  Option.bind (@pool_Pool_find N (p0.1, p0.2) (@Bool.false, (0 : Int))) fun (v4 : Int) =>
  bif (decide (v4 < (0 : Int))) then
   some (((p0.1, p0.2), ((0 : Int), (12 : Int))))
  else
   Option.bind (@pool_Pool_put N (p0.1, p0.2) v4 (@Bool.true, holder1)) fun (v5 : (Int × (List (Bool × Int)))) =>
   some (((v5.1, v5.2), ((Go.IntKind.wrap .u32 (p0.1 + (Go.IntKind.wrap .u32 v4))), (0 : Int))))
theorem pool_Pool_Give_S (N : Nat) (p0 : (Int) × (List ((Bool) × (Int)))) (holder1 : Int) : (runK Go.Proofs.Try.prog (Ev11 N) 400 52 [(.pair (.int .u32) (.sl (.pair .bool (.int .i64)))), (.int .i64)] [(.pair (.int .u32) (.sl (.pair .bool (.int .i64)))), (.int .u32), (.int .i64)] (p0, holder1, ())).run = pool_Pool_Give N p0 holder1 := by kernel_rfl
noncomputable def Ev12 (N : Nat) : (R : Type) → Env R := Env.addFn (Ev11 N) 52 (fun R => fnK [(.pair (.int .u32) (.sl (.pair .bool (.int .i64)))), (.int .i64)] [(.pair (.int .u32) (.sl (.pair .bool (.int .i64)))), (.int .u32), (.int .i64)] (fun c => pool_Pool_Give N c.1 c.2.1))
theorem Ev12_ok (N : Nat) (R : Type) : EnvOK Go.Proofs.Try.prog (Ev12 N R) := EnvOK.addFn hmx (Ev11_ok N R) (Ev11_ok N _) (by kernel_rfl) (fun c => pool_Pool_Give_S N c.1 c.2.1)
noncomputable def law31_PoolAll_L4_I : LI := ⟨111, 0, [], ⟨[(0, .ty (.int .u16)), (5, .ty (.int .i64)), (6, .lit (.box 0 0)), (7, .ty (.int .i64)), (31, .ty (.int .i64)), (32, .ty (.int .i64))], [.box 96 (.pair (.int .u32) (.sl (.pair .bool (.int .i64))))]⟩, [(.ret, ⟨[(4, .ty .bool)], []⟩), (.exit 0, ⟨[(0, .ty (.int .u16)), (5, .ty (.int .i64)), (6, .lit (.box 0 0)), (7, .ty (.int .i64))], [.box 96 (.pair (.int .u32) (.sl (.pair .bool (.int .i64))))]⟩)]⟩
noncomputable def law31_PoolAll_L4 (N : Nat) (X : (((Int) × ((Int) × ((Int) × ((Int) × ((Int) × Unit))))) × (((Int) × (List ((Bool) × (Int)))) × Unit)) → Option (((((Bool) × Unit) × Unit) ⊕ (((Int) × ((Int) × ((Int) × Unit))) × (((Int) × (List ((Bool) × (Int)))) × Unit))))) (first0 : Int) (n5 : Int) (e7 : Int) (x31 : Int) (x32 : Int) (h0 : (Int) × (List ((Bool) × (Int)))) : Option (((((Bool) × Unit) × Unit) ⊕ (((Int) × ((Int) × ((Int) × Unit))) × (((Int) × (List ((Bool) × (Int)))) × Unit)))) :=
 bif (decide (x32 < x31)) then
  Option.bind (@pool_Pool_Give N (h0.1, h0.2) (Go.IntKind.wrap .i64 ((100 : Int) + x32))) fun (v8 : ((Int × (List (Bool × Int))) × (Int × Int))) =>
  bif (!(decide (v8.2.2 = (0 : Int)))) then
   some ((.inl ((@Bool.false, @Unit.unit), @Unit.unit)))
  else
   bif (@cond Bool @Bool.false @Bool.true (!(decide (v8.2.1 = (Go.IntKind.wrap .u32 ((Go.IntKind.wrap .u32 ((Go.IntKind.wrap .u32 first0) + (1 : Int))) + (Go.IntKind.wrap .u32 x32))))))) then
    some ((.inl ((@Bool.false, @Unit.unit), @Unit.unit)))
   else
    (X ((first0, (n5, (e7, (x31, ((Go.IntKind.wrap .i64 (x32 + (1 : Int))), @Unit.unit))))), ((v8.1.1, v8.1.2), @Unit.unit)))
 else
  some ((.inr ((first0, (n5, (e7, @Unit.unit))), ((h0.1, h0.2), @Unit.unit))))
noncomputable def law31_PoolAll_L4_R (N : Nat) (c : (((Int) × ((Int) × ((Int) × ((Int) × ((Int) × Unit))))) × (((Int) × (List ((Bool) × (Int)))) × Unit))) : Option (((((Bool) × Unit) × Unit) ⊕ (((Int) × ((Int) × ((Int) × Unit))) × (((Int) × (List ((Bool) × (Int)))) × Unit)))) := gl (fun X c => law31_PoolAll_L4 N X c.1.1 c.1.2.1 c.1.2.2.1 c.1.2.2.2.1 c.1.2.2.2.2.1 c.2.1) N c
theorem law31_PoolAll_L4_S (N : Nat) (X : (((Int) × ((Int) × ((Int) × ((Int) × ((Int) × Unit))))) × (((Int) × (List ((Bool) × (Int)))) × Unit)) → Option (((((Bool) × Unit) × Unit) ⊕ (((Int) × ((Int) × ((Int) × Unit))) × (((Int) × (List ((Bool) × (Int)))) × Unit))))) (first0 : Int) (n5 : Int) (e7 : Int) (x31 : Int) (x32 : Int) (h0 : (Int) × (List ((Bool) × (Int)))) : (roundK Go.Proofs.Try.prog (Ev12 N) 400 [8] law31_PoolAll_L4_I (loopAt Go.Proofs.Try.prog [8] 4) X ((first0, n5, e7, x31, x32, ()), (h0, ()))).run = law31_PoolAll_L4 N X first0 n5 e7 x31 x32 h0 := by kernel_rfl
noncomputable def Ev13 (N : Nat) : (R : Type) → Env R := Env.addLp (Ev12 N) [8] 0 4 (fun R => lpK Go.Proofs.Try.prog law31_PoolAll_L4_I (fun X c => law31_PoolAll_L4 N X c.1.1 c.1.2.1 c.1.2.2.1 c.1.2.2.2.1 c.1.2.2.2.2.1 c.2.1) N)
theorem Ev13_ok (N : Nat) (R : Type) : EnvOK Go.Proofs.Try.prog (Ev13 N R) := EnvOK.addLp (Ev12_ok N R) (by kernel_rfl) (lpK_ok (li := law31_PoolAll_L4_I) (G := fun X c => law31_PoolAll_L4 N X c.1.1 c.1.2.1 c.1.2.2.1 c.1.2.2.2.1 c.1.2.2.2.2.1 c.2.1) hmx (Ev12_ok N _) (by kernel_rfl) loopAt_sub (fun (X : CT law31_PoolAll_L4_I.sh → Option (OT law31_PoolAll_L4_I.outs)) (c : CT law31_PoolAll_L4_I.sh) => law31_PoolAll_L4_S N X c.1.1 c.1.2.1 c.1.2.2.1 c.1.2.2.2.1 c.1.2.2.2.2.1 c.2.1) N)
noncomputable def Ev14 (N : Nat) : (R : Type) → Env R := Env.addBx (Ev13 N) [(53, 0)]
theorem Ev14_ok (N : Nat) (R : Type) : EnvOK Go.Proofs.Try.prog (Ev14 N R) := EnvOK.addBx (Ev13_ok N R) [(53, 0)]
noncomputable def Ev15 (N : Nat) : (R : Type) → Env R := Env.addBx (Ev14 N) [(96, 0)]
theorem Ev15_ok (N : Nat) (R : Type) : EnvOK Go.Proofs.Try.prog (Ev15 N R) := EnvOK.addBx (Ev14_ok N R) [(96, 0)]
noncomputable def pool_Pool_Held_L3_I : LI := ⟨25, 0, [(3, 93)], ⟨[(1, .adr (.pair (.int .u32) (.sl (.pair .bool (.int .i64))))), (3, .lit (.own 0)), (7, .ty (.int .i64)), (8, .ty (.int .i64))], [.own (.int .u32) 93]⟩, [(.exit 0, ⟨[(3, .lit (.own 0))], [.own (.int .u32) 93]⟩)]⟩
noncomputable def pool_Pool_Held_L3 (N : Nat) (X : ((((Int) × (List ((Bool) × (Int)))) × ((Int) × ((Int) × Unit))) × ((List (Int)) × Unit)) → Option ((Unit × ((List (Int)) × Unit)))) (p1 : (Int) × (List ((Bool) × (Int)))) (x7 : Int) (x8 : Int) (h0 : List (Int)) : Option ((Unit × ((List (Int)) × Unit))) :=
 bif (decide (x8 < x7)) then
  Option.bind (getI p1.2 x8) fun (v6 : (Bool × Int)) =>
  bif v6.1 then
   bif (roomB ((List.length h0) + (List.length ([(Go.IntKind.wrap .u32 (p1.1 + (Go.IntKind.wrap .u32 x8)))] : List (Int)))) 4) then
    (X (((p1.1, p1.2), (x7, ((Go.IntKind.wrap .i64 (x8 + (1 : Int))), @Unit.unit))), ((h0 ++ ([(Go.IntKind.wrap .u32 (p1.1 + (Go.IntKind.wrap .u32 x8)))] : List (Int))), @Unit.unit)))
   else
    none
  else
   (X (((p1.1, p1.2), (x7, ((Go.IntKind.wrap .i64 (x8 + (1 : Int))), @Unit.unit))), (h0, @Unit.unit)))
 else
  some ((@Unit.unit, (h0, @Unit.unit)))
noncomputable def pool_Pool_Held_L3_R (N : Nat) (c : ((((Int) × (List ((Bool) × (Int)))) × ((Int) × ((Int) × Unit))) × ((List (Int)) × Unit))) : Option ((Unit × ((List (Int)) × Unit))) := gl (fun X c => pool_Pool_Held_L3 N X c.1.1 c.1.2.1 c.1.2.2.1 c.2.1) N c
theorem pool_Pool_Held_L3_S (N : Nat) (X : ((((Int) × (List ((Bool) × (Int)))) × ((Int) × ((Int) × Unit))) × ((List (Int)) × Unit)) → Option ((Unit × ((List (Int)) × Unit)))) (p1 : (Int) × (List ((Bool) × (Int)))) (x7 : Int) (x8 : Int) (h0 : List (Int)) : (roundK Go.Proofs.Try.prog (Ev15 N) 400 [96] pool_Pool_Held_L3_I (loopAt Go.Proofs.Try.prog [96] 3) X ((p1, x7, x8, ()), (h0, ()))).run = pool_Pool_Held_L3 N X p1 x7 x8 h0 := by kernel_rfl
noncomputable def Ev16 (N : Nat) : (R : Type) → Env R := Env.addLp (Ev15 N) [96] 0 3 (fun R => lpK Go.Proofs.Try.prog pool_Pool_Held_L3_I (fun X c => pool_Pool_Held_L3 N X c.1.1 c.1.2.1 c.1.2.2.1 c.2.1) N)
theorem Ev16_ok (N : Nat) (R : Type) : EnvOK Go.Proofs.Try.prog (Ev16 N R) := EnvOK.addLp (Ev15_ok N R) (by kernel_rfl) (lpK_ok (li := pool_Pool_Held_L3_I) (G := fun X c => pool_Pool_Held_L3 N X c.1.1 c.1.2.1 c.1.2.2.1 c.2.1) hmx (Ev15_ok N _) (by kernel_rfl) loopAt_sub (fun (X : CT pool_Pool_Held_L3_I.sh → Option (OT pool_Pool_Held_L3_I.outs)) (c : CT pool_Pool_Held_L3_I.sh) => pool_Pool_Held_L3_S N X c.1.1 c.1.2.1 c.1.2.2.1 c.2.1) N)
noncomputable def pool_Pool_Held (N : Nat) (p0 : (Int) × (List ((Bool) × (Int)))) : Option (List (Int)) :=
 Option.bind (pool_Pool_Held_L3_R N (((p0.1, p0.2), ((((List.length p0.2) : Nat) : Int), ((0 : Int), @Unit.unit))), (([] : List (Int)), @Unit.unit))) fun (v2 : (Unit × ((List Int) × Unit))) =>
 some (v2.2.1)
theorem pool_Pool_Held_S (N : Nat) (p0 : (Int) × (List ((Bool) × (Int)))) : (runK Go.Proofs.Try.prog (Ev16 N) 400 96 [(.pair (.int .u32) (.sl (.pair .bool (.int .i64))))] [(.sl (.int .u32))] (p0, ())).run = pool_Pool_Held N p0 := by kernel_rfl
noncomputable def Ev17 (N : Nat) : (R : Type) → Env R := Env.addFn (Ev16 N) 96 (fun R => fnK [(.pair (.int .u32) (.sl (.pair .bool (.int .i64))))] [(.sl (.int .u32))] (fun c => pool_Pool_Held N c.1))
theorem Ev17_ok (N : Nat) (R : Type) : EnvOK Go.Proofs.Try.prog (Ev17 N R) := EnvOK.addFn hmx (Ev16_ok N R) (Ev16_ok N _) (by kernel_rfl) (fun c => pool_Pool_Held_S N c.1)
noncomputable def pool_Pool_Free (N : Nat) (p0 : (Int) × (List ((Bool) × (Int)))) : Option (Int) :=
 Option.bind (@pool_Pool_Held N (p0.1, p0.2)) fun (v2 : (List Int)) =>
 some ((Go.IntKind.wrap .i64 ((((List.length p0.2) : Nat) : Int) - (((List.length v2) : Nat) : Int))))
theorem pool_Pool_Free_S (N : Nat) (p0 : (Int) × (List ((Bool) × (Int)))) : (runK Go.Proofs.Try.prog (Ev17 N) 400 53 [(.pair (.int .u32) (.sl (.pair .bool (.int .i64))))] [(.int .i64)] (p0, ())).run = pool_Pool_Free N p0 := by kernel_rfl
noncomputable def Ev18 (N : Nat) : (R : Type) → Env R := Env.addFn (Ev17 N) 53 (fun R => fnK [(.pair (.int .u32) (.sl (.pair .bool (.int .i64))))] [(.int .i64)] (fun c => pool_Pool_Free N c.1))
theorem Ev18_ok (N : Nat) (R : Type) : EnvOK Go.Proofs.Try.prog (Ev18 N R) := EnvOK.addFn hmx (Ev17_ok N R) (Ev17_ok N _) (by kernel_rfl) (fun c => pool_Pool_Free_S N c.1)
noncomputable def Ev19 (N : Nat) : (R : Type) → Env R := Env.addBx (Ev18 N) [(97, 0)]
theorem Ev19_ok (N : Nat) (R : Type) : EnvOK Go.Proofs.Try.prog (Ev19 N R) := EnvOK.addBx (Ev18_ok N R) [(97, 0)]
noncomputable def pool_Pool_Of (N : Nat) (p0 : (Int) × (List ((Bool) × (Int)))) (holder1 : Int) : Option ((Int) × Bool) :=
 Option.bind (@pool_Pool_find N (p0.1, p0.2) (@Bool.true, holder1)) fun (v3 : Int) =>
 bif (decide (v3 < (0 : Int))) then
  some (((0 : Int), @Bool.false))
 else
  some (((Go.IntKind.wrap .u32 (p0.1 + (Go.IntKind.wrap .u32 v3))), @Bool.true))
theorem pool_Pool_Of_S (N : Nat) (p0 : (Int) × (List ((Bool) × (Int)))) (holder1 : Int) : (runK Go.Proofs.Try.prog (Ev19 N) 400 97 [(.pair (.int .u32) (.sl (.pair .bool (.int .i64)))), (.int .i64)] [(.int .u32), .bool] (p0, holder1, ())).run = pool_Pool_Of N p0 holder1 := by kernel_rfl
noncomputable def Ev20 (N : Nat) : (R : Type) → Env R := Env.addFn (Ev19 N) 97 (fun R => fnK [(.pair (.int .u32) (.sl (.pair .bool (.int .i64)))), (.int .i64)] [(.int .u32), .bool] (fun c => pool_Pool_Of N c.1 c.2.1))
theorem Ev20_ok (N : Nat) (R : Type) : EnvOK Go.Proofs.Try.prog (Ev20 N R) := EnvOK.addFn hmx (Ev19_ok N R) (Ev19_ok N _) (by kernel_rfl) (fun c => pool_Pool_Of_S N c.1 c.2.1)
noncomputable def Ev21 (N : Nat) : (R : Type) → Env R := Env.addBx (Ev20 N) [(98, 0)]
theorem Ev21_ok (N : Nat) (R : Type) : EnvOK Go.Proofs.Try.prog (Ev21 N R) := EnvOK.addBx (Ev20_ok N R) [(98, 0)]
noncomputable def pool_Pool_Holder_L2_I : LI := ⟨33, 0, [], ⟨[(1, .ty (.int .u32)), (2, .adr (.pair (.int .u32) (.sl (.pair .bool (.int .i64))))), (9, .ty (.int .i64)), (10, .ty (.int .i64))], []⟩, [(.ret, ⟨[(4, .ty (.int .i64)), (5, .ty .bool)], []⟩), (.exit 0, ⟨[], []⟩)]⟩
noncomputable def pool_Pool_Holder_L2 (N : Nat) (X : (((Int) × (((Int) × (List ((Bool) × (Int)))) × ((Int) × ((Int) × Unit)))) × Unit) → Option (((((Int) × ((Bool) × Unit)) × Unit) ⊕ (Unit × Unit)))) (a1 : Int) (p2 : (Int) × (List ((Bool) × (Int)))) (x9 : Int) (x10 : Int) : Option (((((Int) × ((Bool) × Unit)) × Unit) ⊕ (Unit × Unit))) :=
 bif (decide (x10 < x9)) then
  bif (decide ((Go.IntKind.wrap .u32 (p2.1 + (Go.IntKind.wrap .u32 x10))) = a1)) then
   Option.bind (getI p2.2 x10) fun (v6 : (Bool × Int)) =>
   bif (@cond Bool @Bool.true v6.1 @Bool.false) then
    Option.bind (getI p2.2 x10) fun (v7 : (Bool × Int)) =>
    some ((.inl ((v7.2, (@Bool.true, @Unit.unit)), @Unit.unit)))
   else
    (X ((a1, ((p2.1, p2.2), (x9, ((Go.IntKind.wrap .i64 (x10 + (1 : Int))), @Unit.unit)))), @Unit.unit))
  else
   (X ((a1, ((p2.1, p2.2), (x9, ((Go.IntKind.wrap .i64 (x10 + (1 : Int))), @Unit.unit)))), @Unit.unit))
 else
  some ((.inr (@Unit.unit, @Unit.unit)))
noncomputable def pool_Pool_Holder_L2_R (N : Nat) (c : (((Int) × (((Int) × (List ((Bool) × (Int)))) × ((Int) × ((Int) × Unit)))) × Unit)) : Option (((((Int) × ((Bool) × Unit)) × Unit) ⊕ (Unit × Unit))) := gl (fun X c => pool_Pool_Holder_L2 N X c.1.1 c.1.2.1 c.1.2.2.1 c.1.2.2.2.1) N c
theorem pool_Pool_Holder_L2_S (N : Nat) (X : (((Int) × (((Int) × (List ((Bool) × (Int)))) × ((Int) × ((Int) × Unit)))) × Unit) → Option (((((Int) × ((Bool) × Unit)) × Unit) ⊕ (Unit × Unit)))) (a1 : Int) (p2 : (Int) × (List ((Bool) × (Int)))) (x9 : Int) (x10 : Int) : (roundK Go.Proofs.Try.prog (Ev21 N) 400 [98] pool_Pool_Holder_L2_I (loopAt Go.Proofs.Try.prog [98] 2) X ((a1, p2, x9, x10, ()), ())).run = pool_Pool_Holder_L2 N X a1 p2 x9 x10 := by kernel_rfl
noncomputable def Ev22 (N : Nat) : (R : Type) → Env R := Env.addLp (Ev21 N) [98] 0 2 (fun R => lpK Go.Proofs.Try.prog pool_Pool_Holder_L2_I (fun X c => pool_Pool_Holder_L2 N X c.1.1 c.1.2.1 c.1.2.2.1 c.1.2.2.2.1) N)
theorem Ev22_ok (N : Nat) (R : Type) : EnvOK Go.Proofs.Try.prog (Ev22 N R) := EnvOK.addLp (Ev21_ok N R) (by kernel_rfl) (lpK_ok (li := pool_Pool_Holder_L2_I) (G := fun X c => pool_Pool_Holder_L2 N X c.1.1 c.1.2.1 c.1.2.2.1 c.1.2.2.2.1) hmx (Ev21_ok N _) (by kernel_rfl) loopAt_sub (fun (X : CT pool_Pool_Holder_L2_I.sh → Option (OT pool_Pool_Holder_L2_I.outs)) (c : CT pool_Pool_Holder_L2_I.sh) => pool_Pool_Holder_L2_S N X c.1.1 c.1.2.1 c.1.2.2.1 c.1.2.2.2.1) N)
noncomputable def pool_Pool_Holder (N : Nat) (p0 : (Int) × (List ((Bool) × (Int)))) (a1 : Int) : Option ((Int) × Bool) :=
 Option.bind (pool_Pool_Holder_L2_R N ((a1, ((p0.1, p0.2), ((((List.length p0.2) : Nat) : Int), ((0 : Int), @Unit.unit)))), @Unit.unit)) fun (v3 : (((Int × (Bool × Unit)) × Unit) ⊕ (Unit × Unit))) =>
 Sum.elim
  (fun (v4 : ((Int × (Bool × Unit)) × Unit)) =>
  some ((v4.1.1, v4.1.2.1)))
  (fun (v4 : (Unit × Unit)) =>
  some (((0 : Int), @Bool.false))) v3
theorem pool_Pool_Holder_S (N : Nat) (p0 : (Int) × (List ((Bool) × (Int)))) (a1 : Int) : (runK Go.Proofs.Try.prog (Ev22 N) 400 98 [(.pair (.int .u32) (.sl (.pair .bool (.int .i64)))), (.int .u32)] [(.int .i64), .bool] (p0, a1, ())).run = pool_Pool_Holder N p0 a1 := by kernel_rfl
noncomputable def Ev23 (N : Nat) : (R : Type) → Env R := Env.addFn (Ev22 N) 98 (fun R => fnK [(.pair (.int .u32) (.sl (.pair .bool (.int .i64)))), (.int .u32)] [(.int .i64), .bool] (fun c => pool_Pool_Holder N c.1 c.2.1))
theorem Ev23_ok (N : Nat) (R : Type) : EnvOK Go.Proofs.Try.prog (Ev23 N R) := EnvOK.addFn hmx (Ev22_ok N R) (Ev22_ok N _) (by kernel_rfl) (fun c => pool_Pool_Holder_S N c.1 c.2.1)
noncomputable def law31_alive (N : Nat) : Option (Bool) :=
 Option.bind (@pool_Pool_Give N ((10 : Int), (@List.replicate (Bool × Int) (Int.toNat (2 : Int)) (@Bool.false, (0 : Int)))) (7 : Int)) fun (v1 : ((Int × (List (Bool × Int))) × (Int × Int))) =>
 Option.bind (@pool_Pool_Give N (v1.1.1, v1.1.2) (8 : Int)) fun (v2 : ((Int × (List (Bool × Int))) × (Int × Int))) =>
 Option.bind (@pool_Pool_Give N (v2.1.1, v2.1.2) (9 : Int)) fun (v3 : ((Int × (List (Bool × Int))) × (Int × Int))) =>
 Option.bind (@pool_Pool_Of N (v2.1.1, v2.1.2) (8 : Int)) fun (v4 : (Int × Bool)) =>
 Option.bind (@pool_Pool_Holder N (v2.1.1, v2.1.2) (10 : Int)) fun (v5 : (Int × Bool)) =>
 bif (@cond Bool @Bool.true (decide (v1.2.1 = (10 : Int))) @Bool.false) then
  bif (@cond Bool @Bool.true (decide (v1.2.2 = (0 : Int))) @Bool.false) then
   bif (@cond Bool @Bool.true (decide (v2.2.1 = (11 : Int))) @Bool.false) then
    bif (@cond Bool @Bool.true (decide (v2.2.2 = (0 : Int))) @Bool.false) then
     bif (@cond Bool @Bool.true (decide (v3.2.2 = (12 : Int))) @Bool.false) then
      bif (@cond Bool @Bool.true (decide (v4.1 = (11 : Int))) @Bool.false) then
       bif (@cond Bool @Bool.true v4.2 @Bool.false) then
        bif (@cond Bool @Bool.true (decide (v5.1 = (7 : Int))) @Bool.false) then
         bif (@cond Bool @Bool.true v5.2 @Bool.false) then
          Option.bind (@pool_Pool_Free N (v2.1.1, v2.1.2)) fun (v6 : Int) =>
          bif (@cond Bool @Bool.true (decide (v6 = (0 : Int))) @Bool.false) then
           Option.bind (@pool_Pool_Held N (v2.1.1, v2.1.2)) fun (v7 : (List Int)) =>
           some ((@cond Bool @Bool.true (decide ((((List.length v7) : Nat) : Int) = (2 : Int))) @Bool.false))
          else
           some (@Bool.false)
         else
          some (@Bool.false)
        else
         some (@Bool.false)
       else
        some (@Bool.false)
      else
       some (@Bool.false)
     else
      some (@Bool.false)
    else
     some (@Bool.false)
   else
    some (@Bool.false)
  else
   some (@Bool.false)
 else
  some (@Bool.false)
theorem law31_alive_S (N : Nat) : (runK Go.Proofs.Try.prog (Ev23 N) 400 54 [] [.bool] ()).run = law31_alive N  := by kernel_rfl
noncomputable def Ev24 (N : Nat) : (R : Type) → Env R := Env.addFn (Ev23 N) 54 (fun R => fnK [] [.bool] (fun c => law31_alive N ))
theorem Ev24_ok (N : Nat) (R : Type) : EnvOK Go.Proofs.Try.prog (Ev24 N R) := EnvOK.addFn hmx (Ev23_ok N R) (Ev23_ok N _) (by kernel_rfl) (fun c => law31_alive_S N )
noncomputable def Ev25 (N : Nat) : (R : Type) → Env R := Env.addBx (Ev24 N) [(55, 0)]
theorem Ev25_ok (N : Nat) (R : Type) : EnvOK Go.Proofs.Try.prog (Ev25 N R) := EnvOK.addBx (Ev24_ok N R) [(55, 0)]
noncomputable def pool_Pool_Take (N : Nat) (p0 : (Int) × (List ((Bool) × (Int)))) (holder1 : Int) : Option (((Int) × (List ((Bool) × (Int)))) × Int) :=
 Option.bind (@pool_Pool_find N (p0.1, p0.2) (@Bool.true, holder1)) fun (v3 : Int) =>
 bif (decide (v3 < (0 : Int))) then
  some (((p0.1, p0.2), (6 : Int)))
 else
  Option.bind (@pool_Pool_put N (p0.1, p0.2) v3 (@Bool.false, (0 : Int))) fun (v4 : (Int × (List (Bool × Int)))) =>
  some (((v4.1, v4.2), (0 : Int)))
theorem pool_Pool_Take_S (N : Nat) (p0 : (Int) × (List ((Bool) × (Int)))) (holder1 : Int) : (runK Go.Proofs.Try.prog (Ev25 N) 400 55 [(.pair (.int .u32) (.sl (.pair .bool (.int .i64)))), (.int .i64)] [(.pair (.int .u32) (.sl (.pair .bool (.int .i64)))), (.int .i64)] (p0, holder1, ())).run = pool_Pool_Take N p0 holder1 := by kernel_rfl
noncomputable def Ev26 (N : Nat) : (R : Type) → Env R := Env.addFn (Ev25 N) 55 (fun R => fnK [(.pair (.int .u32) (.sl (.pair .bool (.int .i64)))), (.int .i64)] [(.pair (.int .u32) (.sl (.pair .bool (.int .i64)))), (.int .i64)] (fun c => pool_Pool_Take N c.1 c.2.1))
theorem Ev26_ok (N : Nat) (R : Type) : EnvOK Go.Proofs.Try.prog (Ev26 N R) := EnvOK.addFn hmx (Ev25_ok N R) (Ev25_ok N _) (by kernel_rfl) (fun c => pool_Pool_Take_S N c.1 c.2.1)
noncomputable def law31_PoolAll (N : Nat) (first0 : Int) (many1 : Int) : Option (Bool) :=
 Option.bind (@pool_New N (Go.IntKind.wrap .u32 ((Go.IntKind.wrap .u32 first0) + (1 : Int))) (@Int.tmod (Go.IntKind.wrap .i64 many1) (40 : Int))) fun (v3 : ((Int × (List (Bool × Int))) × Int)) =>
 Option.bind (law31_PoolAll_L4_R N ((first0, ((@Int.tmod (Go.IntKind.wrap .i64 many1) (40 : Int)), (v3.2, ((@Int.tmod (Go.IntKind.wrap .i64 many1) (40 : Int)), ((0 : Int), @Unit.unit))))), ((v3.1.1, v3.1.2), @Unit.unit))) fun (v4 : (((Bool × Unit) × Unit) ⊕ ((Int × (Int × (Int × Unit))) × ((Int × (List (Bool × Int))) × Unit)))) =>
 Sum.elim
  (fun (v5 : ((Bool × Unit) × Unit)) =>
  some (v5.1.1))
  (fun (v5 : ((Int × (Int × (Int × Unit))) × ((Int × (List (Bool × Int))) × Unit))) =>
  Option.bind (@pool_Pool_Give N (v5.2.1.1, v5.2.1.2) (7 : Int)) fun (v6 : ((Int × (List (Bool × Int))) × (Int × Int))) =>
  bif (!(decide (v5.1.2.2.1 = (0 : Int)))) then
   some (@Bool.false)
  else
   bif (@cond Bool @Bool.false @Bool.true (!(decide (v6.2.2 = (12 : Int))))) then
    some (@Bool.false)
   else
    Option.bind (@pool_Pool_Free N (v5.2.1.1, v5.2.1.2)) fun (v7 : Int) =>
    bif (@cond Bool @Bool.false @Bool.true (!(decide (v7 = (0 : Int))))) then
     some (@Bool.false)
    else
     bif (decide (v5.1.2.1 = (0 : Int))) then
      Option.bind (@law31_alive N) fun (v8 : Bool) =>
      some (v8)
     else
      Option.bind (@pool_Pool_Take N (v5.2.1.1, v5.2.1.2) (Go.IntKind.wrap .i64 ((100 : Int) + (Go.IntKind.wrap .i64 (@Int.tdiv v5.1.2.1 (2 : Int)))))) fun (v8 : ((Int × (List (Bool × Int))) × Int)) =>
      Option.bind (@pool_Pool_Give N (v8.1.1, v8.1.2) (7 : Int)) fun (v9 : ((Int × (List (Bool × Int))) × (Int × Int))) =>
      bif (decide (v8.2 = (0 : Int))) then
       bif (@cond Bool @Bool.true (decide (v9.2.2 = (0 : Int))) @Bool.false) then
        bif (@cond Bool @Bool.true (decide (v9.2.1 = (Go.IntKind.wrap .u32 ((Go.IntKind.wrap .u32 ((Go.IntKind.wrap .u32 v5.1.1) + (1 : Int))) + (Go.IntKind.wrap .u32 (Go.IntKind.wrap .i64 (@Int.tdiv v5.1.2.1 (2 : Int)))))))) @Bool.false) then
         Option.bind (@law31_alive N) fun (v10 : Bool) =>
         some ((@cond Bool @Bool.true v10 @Bool.false))
        else
         some (@Bool.false)
       else
        some (@Bool.false)
      else
       some (@Bool.false)) v4
theorem law31_PoolAll_S (N : Nat) (first0 : Int) (many1 : Int) : (runK Go.Proofs.Try.prog (Ev26 N) 400 8 [(.int .u16), (.int .u8)] [.bool] (first0, many1, ())).run = law31_PoolAll N first0 many1 := by kernel_rfl
theorem law31_PoolAll_C (N : Nat) (first0 : Int) (many1 : Int) (y : Bool) (h : law31_PoolAll N first0 many1 = some y) : CallsK Go.Proofs.Try.prog 8 (valA [(.int .u16), (.int .u8)] (first0, many1, ())) (tupV (valR [.bool] y)) := runK_ok hmx (Ev26_ok N _) (okFn_ok (by kernel_rfl)) (by rw [law31_PoolAll_S]; exact h)
noncomputable def Ev27 (N : Nat) : (R : Type) → Env R := Env.addFn (Ev26 N) 8 (fun R => fnK [(.int .u16), (.int .u8)] [.bool] (fun c => law31_PoolAll N c.1 c.2.1))
theorem Ev27_ok (N : Nat) (R : Type) : EnvOK Go.Proofs.Try.prog (Ev27 N R) := EnvOK.addFn hmx (Ev26_ok N R) (Ev26_ok N _) (by kernel_rfl) (fun c => law31_PoolAll_S N c.1 c.2.1)
end Go.Proofs.Ytipjmjkfdekchaa
