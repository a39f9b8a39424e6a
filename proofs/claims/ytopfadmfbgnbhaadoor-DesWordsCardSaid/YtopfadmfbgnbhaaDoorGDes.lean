/-
  Functions of the program as plain functions on typed data, and that they are so. Printed by a program of mine.
-/
import Derived.Test.YtopfadmfbgnbhaaDoorKD
namespace Go.Proofs.YtopfadmfbgnbhaaDoor
open Go.RowKit
set_option linter.unusedVariables false
set_option maxRecDepth 100000
theorem hmx : Go.Proofs.Tryd.prog.follows .mixedOrders = true := by kernel_rfl
noncomputable def Ev0 (N : Nat) : (R : Type) → Env R := Env.addInl env0 [67, 66, 68, 69, 61, 49]
theorem Ev0_ok (N : Nat) (R : Type) : EnvOK Go.Proofs.Tryd.prog (Ev0 N R) := EnvOK.addInl (env0_ok R) (by kernel_rfl)
noncomputable def Ev1 (N : Nat) : (R : Type) → Env R := Env.addMv (Ev0 N) [(68, 3)]
theorem Ev1_ok (N : Nat) (R : Type) : EnvOK Go.Proofs.Tryd.prog (Ev1 N R) := EnvOK.addMv (Ev0_ok N R) [(68, 3)]
noncomputable def Ev2 (N : Nat) : (R : Type) → Env R := Env.addMv (Ev1 N) [(49, 4)]
theorem Ev2_ok (N : Nat) (R : Type) : EnvOK Go.Proofs.Tryd.prog (Ev2 N R) := EnvOK.addMv (Ev1_ok N R) [(49, 4)]
noncomputable def Ev3 (N : Nat) : (R : Type) → Env R := Env.addFn (Ev2 N) 65 (fun R => ixK)
theorem Ev3_ok (N : Nat) (R : Type) : EnvOK Go.Proofs.Tryd.prog (Ev3 N R) := EnvOK.addExt (Ev2_ok N R) (ix_ok (fn := Go.Proofs.Tryd.f65) (by kernel_rfl) (by kernel_rfl) (by decide +kernel) (by kernel_rfl) (by kernel_rfl))
noncomputable def stringslite_IndexByte (N : Nat) (s0 : List UInt8) (c1 : Int) : Option (Int) :=
 some ((@idxB s0 c1))
theorem stringslite_IndexByte_S (N : Nat) (s0 : List UInt8) (c1 : Int) : (runK Go.Proofs.Tryd.prog (Ev3 N) 400 44 [.str, (.int .u8)] [(.int .i64)] (s0, c1, ())).run = stringslite_IndexByte N s0 c1 := by kernel_rfl
noncomputable def Ev4 (N : Nat) : (R : Type) → Env R := Env.addFn (Ev3 N) 44 (fun R => fnK [.str, (.int .u8)] [(.int .i64)] (fun c => stringslite_IndexByte N c.1 c.2.1))
theorem Ev4_ok (N : Nat) (R : Type) : EnvOK Go.Proofs.Tryd.prog (Ev4 N R) := EnvOK.addFn hmx (Ev3_ok N R) (Ev3_ok N _) (by kernel_rfl) (fun c => stringslite_IndexByte_S N c.1 c.2.1)
noncomputable def strings_IndexByte (N : Nat) (s0 : List UInt8) (c1 : Int) : Option (Int) :=
 some ((@idxB s0 c1))
theorem strings_IndexByte_S (N : Nat) (s0 : List UInt8) (c1 : Int) : (runK Go.Proofs.Tryd.prog (Ev4 N) 400 22 [.str, (.int .u8)] [(.int .i64)] (s0, c1, ())).run = strings_IndexByte N s0 c1 := by kernel_rfl
noncomputable def Ev5 (N : Nat) : (R : Type) → Env R := Env.addFn (Ev4 N) 22 (fun R => fnK [.str, (.int .u8)] [(.int .i64)] (fun c => strings_IndexByte N c.1 c.2.1))
theorem Ev5_ok (N : Nat) (R : Type) : EnvOK Go.Proofs.Tryd.prog (Ev5 N R) := EnvOK.addFn hmx (Ev4_ok N R) (Ev4_ok N _) (by kernel_rfl) (fun c => strings_IndexByte_S N c.1 c.2.1)
noncomputable def des_Box (N : Nat) (n0 : Int) (six1 : Int) : Option (Int) :=
 bif (decide (n0 < (1 : Int))) then
  some ((0 : Int))
 else
  bif (@cond Bool @Bool.false @Bool.true (decide ((8 : Int) < n0))) then
   some ((0 : Int))
  else
   Option.bind (getI (@Array.toList UInt8 (@List.toArray UInt8 (@List.append UInt8 (@List.append UInt8 (@List.append UInt8 ([(@OfNat.ofNat UInt8 (69 : Nat) (@UInt8.instOfNat (69 : Nat))), (@OfNat.ofNat UInt8 (52 : Nat) (@UInt8.instOfNat (52 : Nat))), (@OfNat.ofNat UInt8 (68 : Nat) (@UInt8.instOfNat (68 : Nat))), (@OfNat.ofNat UInt8 (49 : Nat) (@UInt8.instOfNat (49 : Nat))), (@OfNat.ofNat UInt8 (50 : Nat) (@UInt8.instOfNat (50 : Nat))), (@OfNat.ofNat UInt8 (70 : Nat) (@UInt8.instOfNat (70 : Nat))), (@OfNat.ofNat UInt8 (66 : Nat) (@UInt8.instOfNat (66 : Nat))), (@OfNat.ofNat UInt8 (56 : Nat) (@UInt8.instOfNat (56 : Nat))), (@OfNat.ofNat UInt8 (51 : Nat) (@UInt8.instOfNat (51 : Nat))), (@OfNat.ofNat UInt8 (65 : Nat) (@UInt8.instOfNat (65 : Nat))), (@OfNat.ofNat UInt8 (54 : Nat) (@UInt8.instOfNat (54 : Nat))), (@OfNat.ofNat UInt8 (67 : Nat) (@UInt8.instOfNat (67 : Nat))), (@OfNat.ofNat UInt8 (53 : Nat) (@UInt8.instOfNat (53 : Nat))), (@OfNat.ofNat UInt8 (57 : Nat) (@UInt8.instOfNat (57 : Nat))), (@OfNat.ofNat UInt8 (48 : Nat) (@UInt8.instOfNat (48 : Nat))), (@OfNat.ofNat UInt8 (55 : Nat) (@UInt8.instOfNat (55 : Nat))), (@OfNat.ofNat UInt8 (48 : Nat) (@UInt8.instOfNat (48 : Nat))), (@OfNat.ofNat UInt8 (70 : Nat) (@UInt8.instOfNat (70 : Nat))), (@OfNat.ofNat UInt8 (55 : Nat) (@UInt8.instOfNat (55 : Nat))), (@OfNat.ofNat UInt8 (52 : Nat) (@UInt8.instOfNat (52 : Nat))), (@OfNat.ofNat UInt8 (69 : Nat) (@UInt8.instOfNat (69 : Nat))), (@OfNat.ofNat UInt8 (50 : Nat) (@UInt8.instOfNat (50 : Nat))), (@OfNat.ofNat UInt8 (68 : Nat) (@UInt8.instOfNat (68 : Nat))), (@OfNat.ofNat UInt8 (49 : Nat) (@UInt8.instOfNat (49 : Nat))), (@OfNat.ofNat UInt8 (65 : Nat) (@UInt8.instOfNat (65 : Nat))), (@OfNat.ofNat UInt8 (54 : Nat) (@UInt8.instOfNat (54 : Nat))), (@OfNat.ofNat UInt8 (67 : Nat) (@UInt8.instOfNat (67 : Nat))), (@OfNat.ofNat UInt8 (66 : Nat) (@UInt8.instOfNat (66 : Nat))), (@OfNat.ofNat UInt8 (57 : Nat) (@UInt8.instOfNat (57 : Nat))), (@OfNat.ofNat UInt8 (53 : Nat) (@UInt8.instOfNat (53 : Nat))), (@OfNat.ofNat UInt8 (51 : Nat) (@UInt8.instOfNat (51 : Nat))), (@OfNat.ofNat UInt8 (56 : Nat) (@UInt8.instOfNat (56 : Nat))), (@OfNat.ofNat UInt8 (52 : Nat) (@UInt8.instOfNat (52 : Nat))), (@OfNat.ofNat UInt8 (49 : Nat) (@UInt8.instOfNat (49 : Nat))), (@OfNat.ofNat UInt8 (69 : Nat) (@UInt8.instOfNat (69 : Nat))), (@OfNat.ofNat UInt8 (56 : Nat) (@UInt8.instOfNat (56 : Nat))), (@OfNat.ofNat UInt8 (68 : Nat) (@UInt8.instOfNat (68 : Nat))), (@OfNat.ofNat UInt8 (54 : Nat) (@UInt8.instOfNat (54 : Nat))), (@OfNat.ofNat UInt8 (50 : Nat) (@UInt8.instOfNat (50 : Nat))), (@OfNat.ofNat UInt8 (66 : Nat) (@UInt8.instOfNat (66 : Nat))), (@OfNat.ofNat UInt8 (70 : Nat) (@UInt8.instOfNat (70 : Nat))), (@OfNat.ofNat UInt8 (67 : Nat) (@UInt8.instOfNat (67 : Nat))), (@OfNat.ofNat UInt8 (57 : Nat) (@UInt8.instOfNat (57 : Nat))), (@OfNat.ofNat UInt8 (55 : Nat) (@UInt8.instOfNat (55 : Nat))), (@OfNat.ofNat UInt8 (51 : Nat) (@UInt8.instOfNat (51 : Nat))), (@OfNat.ofNat UInt8 (65 : Nat) (@UInt8.instOfNat (65 : Nat))), (@OfNat.ofNat UInt8 (53 : Nat) (@UInt8.instOfNat (53 : Nat))), (@OfNat.ofNat UInt8 (48 : Nat) (@UInt8.instOfNat (48 : Nat))), (@OfNat.ofNat UInt8 (70 : Nat) (@UInt8.instOfNat (70 : Nat))), (@OfNat.ofNat UInt8 (67 : Nat) (@UInt8.instOfNat (67 : Nat))), (@OfNat.ofNat UInt8 (56 : Nat) (@UInt8.instOfNat (56 : Nat))), (@OfNat.ofNat UInt8 (50 : Nat) (@UInt8.instOfNat (50 : Nat))), (@OfNat.ofNat UInt8 (52 : Nat) (@UInt8.instOfNat (52 : Nat))), (@OfNat.ofNat UInt8 (57 : Nat) (@UInt8.instOfNat (57 : Nat))), (@OfNat.ofNat UInt8 (49 : Nat) (@UInt8.instOfNat (49 : Nat))), (@OfNat.ofNat UInt8 (55 : Nat) (@UInt8.instOfNat (55 : Nat))), (@OfNat.ofNat UInt8 (53 : Nat) (@UInt8.instOfNat (53 : Nat))), (@OfNat.ofNat UInt8 (66 : Nat) (@UInt8.instOfNat (66 : Nat))), (@OfNat.ofNat UInt8 (51 : Nat) (@UInt8.instOfNat (51 : Nat))), (@OfNat.ofNat UInt8 (69 : Nat) (@UInt8.instOfNat (69 : Nat))), (@OfNat.ofNat UInt8 (65 : Nat) (@UInt8.instOfNat (65 : Nat))), (@OfNat.ofNat UInt8 (48 : Nat) (@UInt8.instOfNat (48 : Nat))), (@OfNat.ofNat UInt8 (54 : Nat) (@UInt8.instOfNat (54 : Nat))), (@OfNat.ofNat UInt8 (68 : Nat) (@UInt8.instOfNat (68 : Nat)))] : List (UInt8)) ([(@OfNat.ofNat UInt8 (70 : Nat) (@UInt8.instOfNat (70 : Nat))), (@OfNat.ofNat UInt8 (49 : Nat) (@UInt8.instOfNat (49 : Nat))), (@OfNat.ofNat UInt8 (56 : Nat) (@UInt8.instOfNat (56 : Nat))), (@OfNat.ofNat UInt8 (69 : Nat) (@UInt8.instOfNat (69 : Nat))), (@OfNat.ofNat UInt8 (54 : Nat) (@UInt8.instOfNat (54 : Nat))), (@OfNat.ofNat UInt8 (66 : Nat) (@UInt8.instOfNat (66 : Nat))), (@OfNat.ofNat UInt8 (51 : Nat) (@UInt8.instOfNat (51 : Nat))), (@OfNat.ofNat UInt8 (52 : Nat) (@UInt8.instOfNat (52 : Nat))), (@OfNat.ofNat UInt8 (57 : Nat) (@UInt8.instOfNat (57 : Nat))), (@OfNat.ofNat UInt8 (55 : Nat) (@UInt8.instOfNat (55 : Nat))), (@OfNat.ofNat UInt8 (50 : Nat) (@UInt8.instOfNat (50 : Nat))), (@OfNat.ofNat UInt8 (68 : Nat) (@UInt8.instOfNat (68 : Nat))), (@OfNat.ofNat UInt8 (67 : Nat) (@UInt8.instOfNat (67 : Nat))), (@OfNat.ofNat UInt8 (48 : Nat) (@UInt8.instOfNat (48 : Nat))), (@OfNat.ofNat UInt8 (53 : Nat) (@UInt8.instOfNat (53 : Nat))), (@OfNat.ofNat UInt8 (65 : Nat) (@UInt8.instOfNat (65 : Nat))), (@OfNat.ofNat UInt8 (51 : Nat) (@UInt8.instOfNat (51 : Nat))), (@OfNat.ofNat UInt8 (68 : Nat) (@UInt8.instOfNat (68 : Nat))), (@OfNat.ofNat UInt8 (52 : Nat) (@UInt8.instOfNat (52 : Nat))), (@OfNat.ofNat UInt8 (55 : Nat) (@UInt8.instOfNat (55 : Nat))), (@OfNat.ofNat UInt8 (70 : Nat) (@UInt8.instOfNat (70 : Nat))), (@OfNat.ofNat UInt8 (50 : Nat) (@UInt8.instOfNat (50 : Nat))), (@OfNat.ofNat UInt8 (56 : Nat) (@UInt8.instOfNat (56 : Nat))), (@OfNat.ofNat UInt8 (69 : Nat) (@UInt8.instOfNat (69 : Nat))), (@OfNat.ofNat UInt8 (67 : Nat) (@UInt8.instOfNat (67 : Nat))), (@OfNat.ofNat UInt8 (48 : Nat) (@UInt8.instOfNat (48 : Nat))), (@OfNat.ofNat UInt8 (49 : Nat) (@UInt8.instOfNat (49 : Nat))), (@OfNat.ofNat UInt8 (65 : Nat) (@UInt8.instOfNat (65 : Nat))), (@OfNat.ofNat UInt8 (54 : Nat) (@UInt8.instOfNat (54 : Nat))), (@OfNat.ofNat UInt8 (57 : Nat) (@UInt8.instOfNat (57 : Nat))), (@OfNat.ofNat UInt8 (66 : Nat) (@UInt8.instOfNat (66 : Nat))), (@OfNat.ofNat UInt8 (53 : Nat) (@UInt8.instOfNat (53 : Nat))), (@OfNat.ofNat UInt8 (48 : Nat) (@UInt8.instOfNat (48 : Nat))), (@OfNat.ofNat UInt8 (69 : Nat) (@UInt8.instOfNat (69 : Nat))), (@OfNat.ofNat UInt8 (55 : Nat) (@UInt8.instOfNat (55 : Nat))), (@OfNat.ofNat UInt8 (66 : Nat) (@UInt8.instOfNat (66 : Nat))), (@OfNat.ofNat UInt8 (65 : Nat) (@UInt8.instOfNat (65 : Nat))), (@OfNat.ofNat UInt8 (52 : Nat) (@UInt8.instOfNat (52 : Nat))), (@OfNat.ofNat UInt8 (68 : Nat) (@UInt8.instOfNat (68 : Nat))), (@OfNat.ofNat UInt8 (49 : Nat) (@UInt8.instOfNat (49 : Nat))), (@OfNat.ofNat UInt8 (53 : Nat) (@UInt8.instOfNat (53 : Nat))), (@OfNat.ofNat UInt8 (56 : Nat) (@UInt8.instOfNat (56 : Nat))), (@OfNat.ofNat UInt8 (67 : Nat) (@UInt8.instOfNat (67 : Nat))), (@OfNat.ofNat UInt8 (54 : Nat) (@UInt8.instOfNat (54 : Nat))), (@OfNat.ofNat UInt8 (57 : Nat) (@UInt8.instOfNat (57 : Nat))), (@OfNat.ofNat UInt8 (51 : Nat) (@UInt8.instOfNat (51 : Nat))), (@OfNat.ofNat UInt8 (50 : Nat) (@UInt8.instOfNat (50 : Nat))), (@OfNat.ofNat UInt8 (70 : Nat) (@UInt8.instOfNat (70 : Nat))), (@OfNat.ofNat UInt8 (68 : Nat) (@UInt8.instOfNat (68 : Nat))), (@OfNat.ofNat UInt8 (56 : Nat) (@UInt8.instOfNat (56 : Nat))), (@OfNat.ofNat UInt8 (65 : Nat) (@UInt8.instOfNat (65 : Nat))), (@OfNat.ofNat UInt8 (49 : Nat) (@UInt8.instOfNat (49 : Nat))), (@OfNat.ofNat UInt8 (51 : Nat) (@UInt8.instOfNat (51 : Nat))), (@OfNat.ofNat UInt8 (70 : Nat) (@UInt8.instOfNat (70 : Nat))), (@OfNat.ofNat UInt8 (52 : Nat) (@UInt8.instOfNat (52 : Nat))), (@OfNat.ofNat UInt8 (50 : Nat) (@UInt8.instOfNat (50 : Nat))), (@OfNat.ofNat UInt8 (66 : Nat) (@UInt8.instOfNat (66 : Nat))), (@OfNat.ofNat UInt8 (54 : Nat) (@UInt8.instOfNat (54 : Nat))), (@OfNat.ofNat UInt8 (55 : Nat) (@UInt8.instOfNat (55 : Nat))), (@OfNat.ofNat UInt8 (67 : Nat) (@UInt8.instOfNat (67 : Nat))), (@OfNat.ofNat UInt8 (48 : Nat) (@UInt8.instOfNat (48 : Nat))), (@OfNat.ofNat UInt8 (53 : Nat) (@UInt8.instOfNat (53 : Nat))), (@OfNat.ofNat UInt8 (69 : Nat) (@UInt8.instOfNat (69 : Nat))), (@OfNat.ofNat UInt8 (57 : Nat) (@UInt8.instOfNat (57 : Nat)))] : List (UInt8))) (@List.append UInt8 ([(@OfNat.ofNat UInt8 (65 : Nat) (@UInt8.instOfNat (65 : Nat))), (@OfNat.ofNat UInt8 (48 : Nat) (@UInt8.instOfNat (48 : Nat))), (@OfNat.ofNat UInt8 (57 : Nat) (@UInt8.instOfNat (57 : Nat))), (@OfNat.ofNat UInt8 (69 : Nat) (@UInt8.instOfNat (69 : Nat))), (@OfNat.ofNat UInt8 (54 : Nat) (@UInt8.instOfNat (54 : Nat))), (@OfNat.ofNat UInt8 (51 : Nat) (@UInt8.instOfNat (51 : Nat))), (@OfNat.ofNat UInt8 (70 : Nat) (@UInt8.instOfNat (70 : Nat))), (@OfNat.ofNat UInt8 (53 : Nat) (@UInt8.instOfNat (53 : Nat))), (@OfNat.ofNat UInt8 (49 : Nat) (@UInt8.instOfNat (49 : Nat))), (@OfNat.ofNat UInt8 (68 : Nat) (@UInt8.instOfNat (68 : Nat))), (@OfNat.ofNat UInt8 (67 : Nat) (@UInt8.instOfNat (67 : Nat))), (@OfNat.ofNat UInt8 (55 : Nat) (@UInt8.instOfNat (55 : Nat))), (@OfNat.ofNat UInt8 (66 : Nat) (@UInt8.instOfNat (66 : Nat))), (@OfNat.ofNat UInt8 (52 : Nat) (@UInt8.instOfNat (52 : Nat))), (@OfNat.ofNat UInt8 (50 : Nat) (@UInt8.instOfNat (50 : Nat))), (@OfNat.ofNat UInt8 (56 : Nat) (@UInt8.instOfNat (56 : Nat))), (@OfNat.ofNat UInt8 (68 : Nat) (@UInt8.instOfNat (68 : Nat))), (@OfNat.ofNat UInt8 (55 : Nat) (@UInt8.instOfNat (55 : Nat))), (@OfNat.ofNat UInt8 (48 : Nat) (@UInt8.instOfNat (48 : Nat))), (@OfNat.ofNat UInt8 (57 : Nat) (@UInt8.instOfNat (57 : Nat))), (@OfNat.ofNat UInt8 (51 : Nat) (@UInt8.instOfNat (51 : Nat))), (@OfNat.ofNat UInt8 (52 : Nat) (@UInt8.instOfNat (52 : Nat))), (@OfNat.ofNat UInt8 (54 : Nat) (@UInt8.instOfNat (54 : Nat))), (@OfNat.ofNat UInt8 (65 : Nat) (@UInt8.instOfNat (65 : Nat))), (@OfNat.ofNat UInt8 (50 : Nat) (@UInt8.instOfNat (50 : Nat))), (@OfNat.ofNat UInt8 (56 : Nat) (@UInt8.instOfNat (56 : Nat))), (@OfNat.ofNat UInt8 (53 : Nat) (@UInt8.instOfNat (53 : Nat))), (@OfNat.ofNat UInt8 (69 : Nat) (@UInt8.instOfNat (69 : Nat))), (@OfNat.ofNat UInt8 (67 : Nat) (@UInt8.instOfNat (67 : Nat))), (@OfNat.ofNat UInt8 (66 : Nat) (@UInt8.instOfNat (66 : Nat))), (@OfNat.ofNat UInt8 (70 : Nat) (@UInt8.instOfNat (70 : Nat))), (@OfNat.ofNat UInt8 (49 : Nat) (@UInt8.instOfNat (49 : Nat))), (@OfNat.ofNat UInt8 (68 : Nat) (@UInt8.instOfNat (68 : Nat))), (@OfNat.ofNat UInt8 (54 : Nat) (@UInt8.instOfNat (54 : Nat))), (@OfNat.ofNat UInt8 (52 : Nat) (@UInt8.instOfNat (52 : Nat))), (@OfNat.ofNat UInt8 (57 : Nat) (@UInt8.instOfNat (57 : Nat))), (@OfNat.ofNat UInt8 (56 : Nat) (@UInt8.instOfNat (56 : Nat))), (@OfNat.ofNat UInt8 (70 : Nat) (@UInt8.instOfNat (70 : Nat))), (@OfNat.ofNat UInt8 (51 : Nat) (@UInt8.instOfNat (51 : Nat))), (@OfNat.ofNat UInt8 (48 : Nat) (@UInt8.instOfNat (48 : Nat))), (@OfNat.ofNat UInt8 (66 : Nat) (@UInt8.instOfNat (66 : Nat))), (@OfNat.ofNat UInt8 (49 : Nat) (@UInt8.instOfNat (49 : Nat))), (@OfNat.ofNat UInt8 (50 : Nat) (@UInt8.instOfNat (50 : Nat))), (@OfNat.ofNat UInt8 (67 : Nat) (@UInt8.instOfNat (67 : Nat))), (@OfNat.ofNat UInt8 (53 : Nat) (@UInt8.instOfNat (53 : Nat))), (@OfNat.ofNat UInt8 (65 : Nat) (@UInt8.instOfNat (65 : Nat))), (@OfNat.ofNat UInt8 (69 : Nat) (@UInt8.instOfNat (69 : Nat))), (@OfNat.ofNat UInt8 (55 : Nat) (@UInt8.instOfNat (55 : Nat))), (@OfNat.ofNat UInt8 (49 : Nat) (@UInt8.instOfNat (49 : Nat))), (@OfNat.ofNat UInt8 (65 : Nat) (@UInt8.instOfNat (65 : Nat))), (@OfNat.ofNat UInt8 (68 : Nat) (@UInt8.instOfNat (68 : Nat))), (@OfNat.ofNat UInt8 (48 : Nat) (@UInt8.instOfNat (48 : Nat))), (@OfNat.ofNat UInt8 (54 : Nat) (@UInt8.instOfNat (54 : Nat))), (@OfNat.ofNat UInt8 (57 : Nat) (@UInt8.instOfNat (57 : Nat))), (@OfNat.ofNat UInt8 (56 : Nat) (@UInt8.instOfNat (56 : Nat))), (@OfNat.ofNat UInt8 (55 : Nat) (@UInt8.instOfNat (55 : Nat))), (@OfNat.ofNat UInt8 (52 : Nat) (@UInt8.instOfNat (52 : Nat))), (@OfNat.ofNat UInt8 (70 : Nat) (@UInt8.instOfNat (70 : Nat))), (@OfNat.ofNat UInt8 (69 : Nat) (@UInt8.instOfNat (69 : Nat))), (@OfNat.ofNat UInt8 (51 : Nat) (@UInt8.instOfNat (51 : Nat))), (@OfNat.ofNat UInt8 (66 : Nat) (@UInt8.instOfNat (66 : Nat))), (@OfNat.ofNat UInt8 (53 : Nat) (@UInt8.instOfNat (53 : Nat))), (@OfNat.ofNat UInt8 (50 : Nat) (@UInt8.instOfNat (50 : Nat))), (@OfNat.ofNat UInt8 (67 : Nat) (@UInt8.instOfNat (67 : Nat)))] : List (UInt8)) ([(@OfNat.ofNat UInt8 (55 : Nat) (@UInt8.instOfNat (55 : Nat))), (@OfNat.ofNat UInt8 (68 : Nat) (@UInt8.instOfNat (68 : Nat))), (@OfNat.ofNat UInt8 (69 : Nat) (@UInt8.instOfNat (69 : Nat))), (@OfNat.ofNat UInt8 (51 : Nat) (@UInt8.instOfNat (51 : Nat))), (@OfNat.ofNat UInt8 (48 : Nat) (@UInt8.instOfNat (48 : Nat))), (@OfNat.ofNat UInt8 (54 : Nat) (@UInt8.instOfNat (54 : Nat))), (@OfNat.ofNat UInt8 (57 : Nat) (@UInt8.instOfNat (57 : Nat))), (@OfNat.ofNat UInt8 (65 : Nat) (@UInt8.instOfNat (65 : Nat))), (@OfNat.ofNat UInt8 (49 : Nat) (@UInt8.instOfNat (49 : Nat))), (@OfNat.ofNat UInt8 (50 : Nat) (@UInt8.instOfNat (50 : Nat))), (@OfNat.ofNat UInt8 (56 : Nat) (@UInt8.instOfNat (56 : Nat))), (@OfNat.ofNat UInt8 (53 : Nat) (@UInt8.instOfNat (53 : Nat))), (@OfNat.ofNat UInt8 (66 : Nat) (@UInt8.instOfNat (66 : Nat))), (@OfNat.ofNat UInt8 (67 : Nat) (@UInt8.instOfNat (67 : Nat))), (@OfNat.ofNat UInt8 (52 : Nat) (@UInt8.instOfNat (52 : Nat))), (@OfNat.ofNat UInt8 (70 : Nat) (@UInt8.instOfNat (70 : Nat))), (@OfNat.ofNat UInt8 (68 : Nat) (@UInt8.instOfNat (68 : Nat))), (@OfNat.ofNat UInt8 (56 : Nat) (@UInt8.instOfNat (56 : Nat))), (@OfNat.ofNat UInt8 (66 : Nat) (@UInt8.instOfNat (66 : Nat))), (@OfNat.ofNat UInt8 (53 : Nat) (@UInt8.instOfNat (53 : Nat))), (@OfNat.ofNat UInt8 (54 : Nat) (@UInt8.instOfNat (54 : Nat))), (@OfNat.ofNat UInt8 (70 : Nat) (@UInt8.instOfNat (70 : Nat))), (@OfNat.ofNat UInt8 (48 : Nat) (@UInt8.instOfNat (48 : Nat))), (@OfNat.ofNat UInt8 (51 : Nat) (@UInt8.instOfNat (51 : Nat))), (@OfNat.ofNat UInt8 (52 : Nat) (@UInt8.instOfNat (52 : Nat))), (@OfNat.ofNat UInt8 (55 : Nat) (@UInt8.instOfNat (55 : Nat))), (@OfNat.ofNat UInt8 (50 : Nat) (@UInt8.instOfNat (50 : Nat))), (@OfNat.ofNat UInt8 (67 : Nat) (@UInt8.instOfNat (67 : Nat))), (@OfNat.ofNat UInt8 (49 : Nat) (@UInt8.instOfNat (49 : Nat))), (@OfNat.ofNat UInt8 (65 : Nat) (@UInt8.instOfNat (65 : Nat))), (@OfNat.ofNat UInt8 (69 : Nat) (@UInt8.instOfNat (69 : Nat))), (@OfNat.ofNat UInt8 (57 : Nat) (@UInt8.instOfNat (57 : Nat))), (@OfNat.ofNat UInt8 (65 : Nat) (@UInt8.instOfNat (65 : Nat))), (@OfNat.ofNat UInt8 (54 : Nat) (@UInt8.instOfNat (54 : Nat))), (@OfNat.ofNat UInt8 (57 : Nat) (@UInt8.instOfNat (57 : Nat))), (@OfNat.ofNat UInt8 (48 : Nat) (@UInt8.instOfNat (48 : Nat))), (@OfNat.ofNat UInt8 (67 : Nat) (@UInt8.instOfNat (67 : Nat))), (@OfNat.ofNat UInt8 (66 : Nat) (@UInt8.instOfNat (66 : Nat))), (@OfNat.ofNat UInt8 (55 : Nat) (@UInt8.instOfNat (55 : Nat))), (@OfNat.ofNat UInt8 (68 : Nat) (@UInt8.instOfNat (68 : Nat))), (@OfNat.ofNat UInt8 (70 : Nat) (@UInt8.instOfNat (70 : Nat))), (@OfNat.ofNat UInt8 (49 : Nat) (@UInt8.instOfNat (49 : Nat))), (@OfNat.ofNat UInt8 (51 : Nat) (@UInt8.instOfNat (51 : Nat))), (@OfNat.ofNat UInt8 (69 : Nat) (@UInt8.instOfNat (69 : Nat))), (@OfNat.ofNat UInt8 (53 : Nat) (@UInt8.instOfNat (53 : Nat))), (@OfNat.ofNat UInt8 (50 : Nat) (@UInt8.instOfNat (50 : Nat))), (@OfNat.ofNat UInt8 (56 : Nat) (@UInt8.instOfNat (56 : Nat))), (@OfNat.ofNat UInt8 (52 : Nat) (@UInt8.instOfNat (52 : Nat))), (@OfNat.ofNat UInt8 (51 : Nat) (@UInt8.instOfNat (51 : Nat))), (@OfNat.ofNat UInt8 (70 : Nat) (@UInt8.instOfNat (70 : Nat))), (@OfNat.ofNat UInt8 (48 : Nat) (@UInt8.instOfNat (48 : Nat))), (@OfNat.ofNat UInt8 (54 : Nat) (@UInt8.instOfNat (54 : Nat))), (@OfNat.ofNat UInt8 (65 : Nat) (@UInt8.instOfNat (65 : Nat))), (@OfNat.ofNat UInt8 (49 : Nat) (@UInt8.instOfNat (49 : Nat))), (@OfNat.ofNat UInt8 (68 : Nat) (@UInt8.instOfNat (68 : Nat))), (@OfNat.ofNat UInt8 (56 : Nat) (@UInt8.instOfNat (56 : Nat))), (@OfNat.ofNat UInt8 (57 : Nat) (@UInt8.instOfNat (57 : Nat))), (@OfNat.ofNat UInt8 (52 : Nat) (@UInt8.instOfNat (52 : Nat))), (@OfNat.ofNat UInt8 (53 : Nat) (@UInt8.instOfNat (53 : Nat))), (@OfNat.ofNat UInt8 (66 : Nat) (@UInt8.instOfNat (66 : Nat))), (@OfNat.ofNat UInt8 (67 : Nat) (@UInt8.instOfNat (67 : Nat))), (@OfNat.ofNat UInt8 (55 : Nat) (@UInt8.instOfNat (55 : Nat))), (@OfNat.ofNat UInt8 (50 : Nat) (@UInt8.instOfNat (50 : Nat))), (@OfNat.ofNat UInt8 (69 : Nat) (@UInt8.instOfNat (69 : Nat)))] : List (UInt8)))) (@List.append UInt8 (@List.append UInt8 ([(@OfNat.ofNat UInt8 (50 : Nat) (@UInt8.instOfNat (50 : Nat))), (@OfNat.ofNat UInt8 (67 : Nat) (@UInt8.instOfNat (67 : Nat))), (@OfNat.ofNat UInt8 (52 : Nat) (@UInt8.instOfNat (52 : Nat))), (@OfNat.ofNat UInt8 (49 : Nat) (@UInt8.instOfNat (49 : Nat))), (@OfNat.ofNat UInt8 (55 : Nat) (@UInt8.instOfNat (55 : Nat))), (@OfNat.ofNat UInt8 (65 : Nat) (@UInt8.instOfNat (65 : Nat))), (@OfNat.ofNat UInt8 (66 : Nat) (@UInt8.instOfNat (66 : Nat))), (@OfNat.ofNat UInt8 (54 : Nat) (@UInt8.instOfNat (54 : Nat))), (@OfNat.ofNat UInt8 (56 : Nat) (@UInt8.instOfNat (56 : Nat))), (@OfNat.ofNat UInt8 (53 : Nat) (@UInt8.instOfNat (53 : Nat))), (@OfNat.ofNat UInt8 (51 : Nat) (@UInt8.instOfNat (51 : Nat))), (@OfNat.ofNat UInt8 (70 : Nat) (@UInt8.instOfNat (70 : Nat))), (@OfNat.ofNat UInt8 (68 : Nat) (@UInt8.instOfNat (68 : Nat))), (@OfNat.ofNat UInt8 (48 : Nat) (@UInt8.instOfNat (48 : Nat))), (@OfNat.ofNat UInt8 (69 : Nat) (@UInt8.instOfNat (69 : Nat))), (@OfNat.ofNat UInt8 (57 : Nat) (@UInt8.instOfNat (57 : Nat))), (@OfNat.ofNat UInt8 (69 : Nat) (@UInt8.instOfNat (69 : Nat))), (@OfNat.ofNat UInt8 (66 : Nat) (@UInt8.instOfNat (66 : Nat))), (@OfNat.ofNat UInt8 (50 : Nat) (@UInt8.instOfNat (50 : Nat))), (@OfNat.ofNat UInt8 (67 : Nat) (@UInt8.instOfNat (67 : Nat))), (@OfNat.ofNat UInt8 (52 : Nat) (@UInt8.instOfNat (52 : Nat))), (@OfNat.ofNat UInt8 (55 : Nat) (@UInt8.instOfNat (55 : Nat))), (@OfNat.ofNat UInt8 (68 : Nat) (@UInt8.instOfNat (68 : Nat))), (@OfNat.ofNat UInt8 (49 : Nat) (@UInt8.instOfNat (49 : Nat))), (@OfNat.ofNat UInt8 (53 : Nat) (@UInt8.instOfNat (53 : Nat))), (@OfNat.ofNat UInt8 (48 : Nat) (@UInt8.instOfNat (48 : Nat))), (@OfNat.ofNat UInt8 (70 : Nat) (@UInt8.instOfNat (70 : Nat))), (@OfNat.ofNat UInt8 (65 : Nat) (@UInt8.instOfNat (65 : Nat))), (@OfNat.ofNat UInt8 (51 : Nat) (@UInt8.instOfNat (51 : Nat))), (@OfNat.ofNat UInt8 (57 : Nat) (@UInt8.instOfNat (57 : Nat))), (@OfNat.ofNat UInt8 (56 : Nat) (@UInt8.instOfNat (56 : Nat))), (@OfNat.ofNat UInt8 (54 : Nat) (@UInt8.instOfNat (54 : Nat))), (@OfNat.ofNat UInt8 (52 : Nat) (@UInt8.instOfNat (52 : Nat))), (@OfNat.ofNat UInt8 (50 : Nat) (@UInt8.instOfNat (50 : Nat))), (@OfNat.ofNat UInt8 (49 : Nat) (@UInt8.instOfNat (49 : Nat))), (@OfNat.ofNat UInt8 (66 : Nat) (@UInt8.instOfNat (66 : Nat))), (@OfNat.ofNat UInt8 (65 : Nat) (@UInt8.instOfNat (65 : Nat))), (@OfNat.ofNat UInt8 (68 : Nat) (@UInt8.instOfNat (68 : Nat))), (@OfNat.ofNat UInt8 (55 : Nat) (@UInt8.instOfNat (55 : Nat))), (@OfNat.ofNat UInt8 (56 : Nat) (@UInt8.instOfNat (56 : Nat))), (@OfNat.ofNat UInt8 (70 : Nat) (@UInt8.instOfNat (70 : Nat))), (@OfNat.ofNat UInt8 (57 : Nat) (@UInt8.instOfNat (57 : Nat))), (@OfNat.ofNat UInt8 (67 : Nat) (@UInt8.instOfNat (67 : Nat))), (@OfNat.ofNat UInt8 (53 : Nat) (@UInt8.instOfNat (53 : Nat))), (@OfNat.ofNat UInt8 (54 : Nat) (@UInt8.instOfNat (54 : Nat))), (@OfNat.ofNat UInt8 (51 : Nat) (@UInt8.instOfNat (51 : Nat))), (@OfNat.ofNat UInt8 (48 : Nat) (@UInt8.instOfNat (48 : Nat))), (@OfNat.ofNat UInt8 (69 : Nat) (@UInt8.instOfNat (69 : Nat))), (@OfNat.ofNat UInt8 (66 : Nat) (@UInt8.instOfNat (66 : Nat))), (@OfNat.ofNat UInt8 (56 : Nat) (@UInt8.instOfNat (56 : Nat))), (@OfNat.ofNat UInt8 (67 : Nat) (@UInt8.instOfNat (67 : Nat))), (@OfNat.ofNat UInt8 (55 : Nat) (@UInt8.instOfNat (55 : Nat))), (@OfNat.ofNat UInt8 (49 : Nat) (@UInt8.instOfNat (49 : Nat))), (@OfNat.ofNat UInt8 (69 : Nat) (@UInt8.instOfNat (69 : Nat))), (@OfNat.ofNat UInt8 (50 : Nat) (@UInt8.instOfNat (50 : Nat))), (@OfNat.ofNat UInt8 (68 : Nat) (@UInt8.instOfNat (68 : Nat))), (@OfNat.ofNat UInt8 (54 : Nat) (@UInt8.instOfNat (54 : Nat))), (@OfNat.ofNat UInt8 (70 : Nat) (@UInt8.instOfNat (70 : Nat))), (@OfNat.ofNat UInt8 (48 : Nat) (@UInt8.instOfNat (48 : Nat))), (@OfNat.ofNat UInt8 (57 : Nat) (@UInt8.instOfNat (57 : Nat))), (@OfNat.ofNat UInt8 (65 : Nat) (@UInt8.instOfNat (65 : Nat))), (@OfNat.ofNat UInt8 (52 : Nat) (@UInt8.instOfNat (52 : Nat))), (@OfNat.ofNat UInt8 (53 : Nat) (@UInt8.instOfNat (53 : Nat))), (@OfNat.ofNat UInt8 (51 : Nat) (@UInt8.instOfNat (51 : Nat)))] : List (UInt8)) ([(@OfNat.ofNat UInt8 (67 : Nat) (@UInt8.instOfNat (67 : Nat))), (@OfNat.ofNat UInt8 (49 : Nat) (@UInt8.instOfNat (49 : Nat))), (@OfNat.ofNat UInt8 (65 : Nat) (@UInt8.instOfNat (65 : Nat))), (@OfNat.ofNat UInt8 (70 : Nat) (@UInt8.instOfNat (70 : Nat))), (@OfNat.ofNat UInt8 (57 : Nat) (@UInt8.instOfNat (57 : Nat))), (@OfNat.ofNat UInt8 (50 : Nat) (@UInt8.instOfNat (50 : Nat))), (@OfNat.ofNat UInt8 (54 : Nat) (@UInt8.instOfNat (54 : Nat))), (@OfNat.ofNat UInt8 (56 : Nat) (@UInt8.instOfNat (56 : Nat))), (@OfNat.ofNat UInt8 (48 : Nat) (@UInt8.instOfNat (48 : Nat))), (@OfNat.ofNat UInt8 (68 : Nat) (@UInt8.instOfNat (68 : Nat))), (@OfNat.ofNat UInt8 (51 : Nat) (@UInt8.instOfNat (51 : Nat))), (@OfNat.ofNat UInt8 (52 : Nat) (@UInt8.instOfNat (52 : Nat))), (@OfNat.ofNat UInt8 (69 : Nat) (@UInt8.instOfNat (69 : Nat))), (@OfNat.ofNat UInt8 (55 : Nat) (@UInt8.instOfNat (55 : Nat))), (@OfNat.ofNat UInt8 (53 : Nat) (@UInt8.instOfNat (53 : Nat))), (@OfNat.ofNat UInt8 (66 : Nat) (@UInt8.instOfNat (66 : Nat))), (@OfNat.ofNat UInt8 (65 : Nat) (@UInt8.instOfNat (65 : Nat))), (@OfNat.ofNat UInt8 (70 : Nat) (@UInt8.instOfNat (70 : Nat))), (@OfNat.ofNat UInt8 (52 : Nat) (@UInt8.instOfNat (52 : Nat))), (@OfNat.ofNat UInt8 (50 : Nat) (@UInt8.instOfNat (50 : Nat))), (@OfNat.ofNat UInt8 (55 : Nat) (@UInt8.instOfNat (55 : Nat))), (@OfNat.ofNat UInt8 (67 : Nat) (@UInt8.instOfNat (67 : Nat))), (@OfNat.ofNat UInt8 (57 : Nat) (@UInt8.instOfNat (57 : Nat))), (@OfNat.ofNat UInt8 (53 : Nat) (@UInt8.instOfNat (53 : Nat))), (@OfNat.ofNat UInt8 (54 : Nat) (@UInt8.instOfNat (54 : Nat))), (@OfNat.ofNat UInt8 (49 : Nat) (@UInt8.instOfNat (49 : Nat))), (@OfNat.ofNat UInt8 (68 : Nat) (@UInt8.instOfNat (68 : Nat))), (@OfNat.ofNat UInt8 (69 : Nat) (@UInt8.instOfNat (69 : Nat))), (@OfNat.ofNat UInt8 (48 : Nat) (@UInt8.instOfNat (48 : Nat))), (@OfNat.ofNat UInt8 (66 : Nat) (@UInt8.instOfNat (66 : Nat))), (@OfNat.ofNat UInt8 (51 : Nat) (@UInt8.instOfNat (51 : Nat))), (@OfNat.ofNat UInt8 (56 : Nat) (@UInt8.instOfNat (56 : Nat))), (@OfNat.ofNat UInt8 (57 : Nat) (@UInt8.instOfNat (57 : Nat))), (@OfNat.ofNat UInt8 (69 : Nat) (@UInt8.instOfNat (69 : Nat))), (@OfNat.ofNat UInt8 (70 : Nat) (@UInt8.instOfNat (70 : Nat))), (@OfNat.ofNat UInt8 (53 : Nat) (@UInt8.instOfNat (53 : Nat))), (@OfNat.ofNat UInt8 (50 : Nat) (@UInt8.instOfNat (50 : Nat))), (@OfNat.ofNat UInt8 (56 : Nat) (@UInt8.instOfNat (56 : Nat))), (@OfNat.ofNat UInt8 (67 : Nat) (@UInt8.instOfNat (67 : Nat))), (@OfNat.ofNat UInt8 (51 : Nat) (@UInt8.instOfNat (51 : Nat))), (@OfNat.ofNat UInt8 (55 : Nat) (@UInt8.instOfNat (55 : Nat))), (@OfNat.ofNat UInt8 (48 : Nat) (@UInt8.instOfNat (48 : Nat))), (@OfNat.ofNat UInt8 (52 : Nat) (@UInt8.instOfNat (52 : Nat))), (@OfNat.ofNat UInt8 (65 : Nat) (@UInt8.instOfNat (65 : Nat))), (@OfNat.ofNat UInt8 (49 : Nat) (@UInt8.instOfNat (49 : Nat))), (@OfNat.ofNat UInt8 (68 : Nat) (@UInt8.instOfNat (68 : Nat))), (@OfNat.ofNat UInt8 (66 : Nat) (@UInt8.instOfNat (66 : Nat))), (@OfNat.ofNat UInt8 (54 : Nat) (@UInt8.instOfNat (54 : Nat))), (@OfNat.ofNat UInt8 (52 : Nat) (@UInt8.instOfNat (52 : Nat))), (@OfNat.ofNat UInt8 (51 : Nat) (@UInt8.instOfNat (51 : Nat))), (@OfNat.ofNat UInt8 (50 : Nat) (@UInt8.instOfNat (50 : Nat))), (@OfNat.ofNat UInt8 (67 : Nat) (@UInt8.instOfNat (67 : Nat))), (@OfNat.ofNat UInt8 (57 : Nat) (@UInt8.instOfNat (57 : Nat))), (@OfNat.ofNat UInt8 (53 : Nat) (@UInt8.instOfNat (53 : Nat))), (@OfNat.ofNat UInt8 (70 : Nat) (@UInt8.instOfNat (70 : Nat))), (@OfNat.ofNat UInt8 (65 : Nat) (@UInt8.instOfNat (65 : Nat))), (@OfNat.ofNat UInt8 (66 : Nat) (@UInt8.instOfNat (66 : Nat))), (@OfNat.ofNat UInt8 (69 : Nat) (@UInt8.instOfNat (69 : Nat))), (@OfNat.ofNat UInt8 (49 : Nat) (@UInt8.instOfNat (49 : Nat))), (@OfNat.ofNat UInt8 (55 : Nat) (@UInt8.instOfNat (55 : Nat))), (@OfNat.ofNat UInt8 (54 : Nat) (@UInt8.instOfNat (54 : Nat))), (@OfNat.ofNat UInt8 (48 : Nat) (@UInt8.instOfNat (48 : Nat))), (@OfNat.ofNat UInt8 (56 : Nat) (@UInt8.instOfNat (56 : Nat))), (@OfNat.ofNat UInt8 (68 : Nat) (@UInt8.instOfNat (68 : Nat)))] : List (UInt8))) (@List.append UInt8 ([(@OfNat.ofNat UInt8 (52 : Nat) (@UInt8.instOfNat (52 : Nat))), (@OfNat.ofNat UInt8 (66 : Nat) (@UInt8.instOfNat (66 : Nat))), (@OfNat.ofNat UInt8 (50 : Nat) (@UInt8.instOfNat (50 : Nat))), (@OfNat.ofNat UInt8 (69 : Nat) (@UInt8.instOfNat (69 : Nat))), (@OfNat.ofNat UInt8 (70 : Nat) (@UInt8.instOfNat (70 : Nat))), (@OfNat.ofNat UInt8 (48 : Nat) (@UInt8.instOfNat (48 : Nat))), (@OfNat.ofNat UInt8 (56 : Nat) (@UInt8.instOfNat (56 : Nat))), (@OfNat.ofNat UInt8 (68 : Nat) (@UInt8.instOfNat (68 : Nat))), (@OfNat.ofNat UInt8 (51 : Nat) (@UInt8.instOfNat (51 : Nat))), (@OfNat.ofNat UInt8 (67 : Nat) (@UInt8.instOfNat (67 : Nat))), (@OfNat.ofNat UInt8 (57 : Nat) (@UInt8.instOfNat (57 : Nat))), (@OfNat.ofNat UInt8 (55 : Nat) (@UInt8.instOfNat (55 : Nat))), (@OfNat.ofNat UInt8 (53 : Nat) (@UInt8.instOfNat (53 : Nat))), (@OfNat.ofNat UInt8 (65 : Nat) (@UInt8.instOfNat (65 : Nat))), (@OfNat.ofNat UInt8 (54 : Nat) (@UInt8.instOfNat (54 : Nat))), (@OfNat.ofNat UInt8 (49 : Nat) (@UInt8.instOfNat (49 : Nat))), (@OfNat.ofNat UInt8 (68 : Nat) (@UInt8.instOfNat (68 : Nat))), (@OfNat.ofNat UInt8 (48 : Nat) (@UInt8.instOfNat (48 : Nat))), (@OfNat.ofNat UInt8 (66 : Nat) (@UInt8.instOfNat (66 : Nat))), (@OfNat.ofNat UInt8 (55 : Nat) (@UInt8.instOfNat (55 : Nat))), (@OfNat.ofNat UInt8 (52 : Nat) (@UInt8.instOfNat (52 : Nat))), (@OfNat.ofNat UInt8 (57 : Nat) (@UInt8.instOfNat (57 : Nat))), (@OfNat.ofNat UInt8 (49 : Nat) (@UInt8.instOfNat (49 : Nat))), (@OfNat.ofNat UInt8 (65 : Nat) (@UInt8.instOfNat (65 : Nat))), (@OfNat.ofNat UInt8 (69 : Nat) (@UInt8.instOfNat (69 : Nat))), (@OfNat.ofNat UInt8 (51 : Nat) (@UInt8.instOfNat (51 : Nat))), (@OfNat.ofNat UInt8 (53 : Nat) (@UInt8.instOfNat (53 : Nat))), (@OfNat.ofNat UInt8 (67 : Nat) (@UInt8.instOfNat (67 : Nat))), (@OfNat.ofNat UInt8 (50 : Nat) (@UInt8.instOfNat (50 : Nat))), (@OfNat.ofNat UInt8 (70 : Nat) (@UInt8.instOfNat (70 : Nat))), (@OfNat.ofNat UInt8 (56 : Nat) (@UInt8.instOfNat (56 : Nat))), (@OfNat.ofNat UInt8 (54 : Nat) (@UInt8.instOfNat (54 : Nat))), (@OfNat.ofNat UInt8 (49 : Nat) (@UInt8.instOfNat (49 : Nat))), (@OfNat.ofNat UInt8 (52 : Nat) (@UInt8.instOfNat (52 : Nat))), (@OfNat.ofNat UInt8 (66 : Nat) (@UInt8.instOfNat (66 : Nat))), (@OfNat.ofNat UInt8 (68 : Nat) (@UInt8.instOfNat (68 : Nat))), (@OfNat.ofNat UInt8 (67 : Nat) (@UInt8.instOfNat (67 : Nat))), (@OfNat.ofNat UInt8 (51 : Nat) (@UInt8.instOfNat (51 : Nat))), (@OfNat.ofNat UInt8 (55 : Nat) (@UInt8.instOfNat (55 : Nat))), (@OfNat.ofNat UInt8 (69 : Nat) (@UInt8.instOfNat (69 : Nat))), (@OfNat.ofNat UInt8 (65 : Nat) (@UInt8.instOfNat (65 : Nat))), (@OfNat.ofNat UInt8 (70 : Nat) (@UInt8.instOfNat (70 : Nat))), (@OfNat.ofNat UInt8 (54 : Nat) (@UInt8.instOfNat (54 : Nat))), (@OfNat.ofNat UInt8 (56 : Nat) (@UInt8.instOfNat (56 : Nat))), (@OfNat.ofNat UInt8 (48 : Nat) (@UInt8.instOfNat (48 : Nat))), (@OfNat.ofNat UInt8 (53 : Nat) (@UInt8.instOfNat (53 : Nat))), (@OfNat.ofNat UInt8 (57 : Nat) (@UInt8.instOfNat (57 : Nat))), (@OfNat.ofNat UInt8 (50 : Nat) (@UInt8.instOfNat (50 : Nat))), (@OfNat.ofNat UInt8 (54 : Nat) (@UInt8.instOfNat (54 : Nat))), (@OfNat.ofNat UInt8 (66 : Nat) (@UInt8.instOfNat (66 : Nat))), (@OfNat.ofNat UInt8 (68 : Nat) (@UInt8.instOfNat (68 : Nat))), (@OfNat.ofNat UInt8 (56 : Nat) (@UInt8.instOfNat (56 : Nat))), (@OfNat.ofNat UInt8 (49 : Nat) (@UInt8.instOfNat (49 : Nat))), (@OfNat.ofNat UInt8 (52 : Nat) (@UInt8.instOfNat (52 : Nat))), (@OfNat.ofNat UInt8 (65 : Nat) (@UInt8.instOfNat (65 : Nat))), (@OfNat.ofNat UInt8 (55 : Nat) (@UInt8.instOfNat (55 : Nat))), (@OfNat.ofNat UInt8 (57 : Nat) (@UInt8.instOfNat (57 : Nat))), (@OfNat.ofNat UInt8 (53 : Nat) (@UInt8.instOfNat (53 : Nat))), (@OfNat.ofNat UInt8 (48 : Nat) (@UInt8.instOfNat (48 : Nat))), (@OfNat.ofNat UInt8 (70 : Nat) (@UInt8.instOfNat (70 : Nat))), (@OfNat.ofNat UInt8 (69 : Nat) (@UInt8.instOfNat (69 : Nat))), (@OfNat.ofNat UInt8 (50 : Nat) (@UInt8.instOfNat (50 : Nat))), (@OfNat.ofNat UInt8 (51 : Nat) (@UInt8.instOfNat (51 : Nat))), (@OfNat.ofNat UInt8 (67 : Nat) (@UInt8.instOfNat (67 : Nat)))] : List (UInt8)) ([(@OfNat.ofNat UInt8 (68 : Nat) (@UInt8.instOfNat (68 : Nat))), (@OfNat.ofNat UInt8 (50 : Nat) (@UInt8.instOfNat (50 : Nat))), (@OfNat.ofNat UInt8 (56 : Nat) (@UInt8.instOfNat (56 : Nat))), (@OfNat.ofNat UInt8 (52 : Nat) (@UInt8.instOfNat (52 : Nat))), (@OfNat.ofNat UInt8 (54 : Nat) (@UInt8.instOfNat (54 : Nat))), (@OfNat.ofNat UInt8 (70 : Nat) (@UInt8.instOfNat (70 : Nat))), (@OfNat.ofNat UInt8 (66 : Nat) (@UInt8.instOfNat (66 : Nat))), (@OfNat.ofNat UInt8 (49 : Nat) (@UInt8.instOfNat (49 : Nat))), (@OfNat.ofNat UInt8 (65 : Nat) (@UInt8.instOfNat (65 : Nat))), (@OfNat.ofNat UInt8 (57 : Nat) (@UInt8.instOfNat (57 : Nat))), (@OfNat.ofNat UInt8 (51 : Nat) (@UInt8.instOfNat (51 : Nat))), (@OfNat.ofNat UInt8 (69 : Nat) (@UInt8.instOfNat (69 : Nat))), (@OfNat.ofNat UInt8 (53 : Nat) (@UInt8.instOfNat (53 : Nat))), (@OfNat.ofNat UInt8 (48 : Nat) (@UInt8.instOfNat (48 : Nat))), (@OfNat.ofNat UInt8 (67 : Nat) (@UInt8.instOfNat (67 : Nat))), (@OfNat.ofNat UInt8 (55 : Nat) (@UInt8.instOfNat (55 : Nat))), (@OfNat.ofNat UInt8 (49 : Nat) (@UInt8.instOfNat (49 : Nat))), (@OfNat.ofNat UInt8 (70 : Nat) (@UInt8.instOfNat (70 : Nat))), (@OfNat.ofNat UInt8 (68 : Nat) (@UInt8.instOfNat (68 : Nat))), (@OfNat.ofNat UInt8 (56 : Nat) (@UInt8.instOfNat (56 : Nat))), (@OfNat.ofNat UInt8 (65 : Nat) (@UInt8.instOfNat (65 : Nat))), (@OfNat.ofNat UInt8 (51 : Nat) (@UInt8.instOfNat (51 : Nat))), (@OfNat.ofNat UInt8 (55 : Nat) (@UInt8.instOfNat (55 : Nat))), (@OfNat.ofNat UInt8 (52 : Nat) (@UInt8.instOfNat (52 : Nat))), (@OfNat.ofNat UInt8 (67 : Nat) (@UInt8.instOfNat (67 : Nat))), (@OfNat.ofNat UInt8 (53 : Nat) (@UInt8.instOfNat (53 : Nat))), (@OfNat.ofNat UInt8 (54 : Nat) (@UInt8.instOfNat (54 : Nat))), (@OfNat.ofNat UInt8 (66 : Nat) (@UInt8.instOfNat (66 : Nat))), (@OfNat.ofNat UInt8 (48 : Nat) (@UInt8.instOfNat (48 : Nat))), (@OfNat.ofNat UInt8 (69 : Nat) (@UInt8.instOfNat (69 : Nat))), (@OfNat.ofNat UInt8 (57 : Nat) (@UInt8.instOfNat (57 : Nat))), (@OfNat.ofNat UInt8 (50 : Nat) (@UInt8.instOfNat (50 : Nat))), (@OfNat.ofNat UInt8 (55 : Nat) (@UInt8.instOfNat (55 : Nat))), (@OfNat.ofNat UInt8 (66 : Nat) (@UInt8.instOfNat (66 : Nat))), (@OfNat.ofNat UInt8 (52 : Nat) (@UInt8.instOfNat (52 : Nat))), (@OfNat.ofNat UInt8 (49 : Nat) (@UInt8.instOfNat (49 : Nat))), (@OfNat.ofNat UInt8 (57 : Nat) (@UInt8.instOfNat (57 : Nat))), (@OfNat.ofNat UInt8 (67 : Nat) (@UInt8.instOfNat (67 : Nat))), (@OfNat.ofNat UInt8 (69 : Nat) (@UInt8.instOfNat (69 : Nat))), (@OfNat.ofNat UInt8 (50 : Nat) (@UInt8.instOfNat (50 : Nat))), (@OfNat.ofNat UInt8 (48 : Nat) (@UInt8.instOfNat (48 : Nat))), (@OfNat.ofNat UInt8 (54 : Nat) (@UInt8.instOfNat (54 : Nat))), (@OfNat.ofNat UInt8 (65 : Nat) (@UInt8.instOfNat (65 : Nat))), (@OfNat.ofNat UInt8 (68 : Nat) (@UInt8.instOfNat (68 : Nat))), (@OfNat.ofNat UInt8 (70 : Nat) (@UInt8.instOfNat (70 : Nat))), (@OfNat.ofNat UInt8 (51 : Nat) (@UInt8.instOfNat (51 : Nat))), (@OfNat.ofNat UInt8 (53 : Nat) (@UInt8.instOfNat (53 : Nat))), (@OfNat.ofNat UInt8 (56 : Nat) (@UInt8.instOfNat (56 : Nat))), (@OfNat.ofNat UInt8 (50 : Nat) (@UInt8.instOfNat (50 : Nat))), (@OfNat.ofNat UInt8 (49 : Nat) (@UInt8.instOfNat (49 : Nat))), (@OfNat.ofNat UInt8 (69 : Nat) (@UInt8.instOfNat (69 : Nat))), (@OfNat.ofNat UInt8 (55 : Nat) (@UInt8.instOfNat (55 : Nat))), (@OfNat.ofNat UInt8 (52 : Nat) (@UInt8.instOfNat (52 : Nat))), (@OfNat.ofNat UInt8 (65 : Nat) (@UInt8.instOfNat (65 : Nat))), (@OfNat.ofNat UInt8 (56 : Nat) (@UInt8.instOfNat (56 : Nat))), (@OfNat.ofNat UInt8 (68 : Nat) (@UInt8.instOfNat (68 : Nat))), (@OfNat.ofNat UInt8 (70 : Nat) (@UInt8.instOfNat (70 : Nat))), (@OfNat.ofNat UInt8 (67 : Nat) (@UInt8.instOfNat (67 : Nat))), (@OfNat.ofNat UInt8 (57 : Nat) (@UInt8.instOfNat (57 : Nat))), (@OfNat.ofNat UInt8 (48 : Nat) (@UInt8.instOfNat (48 : Nat))), (@OfNat.ofNat UInt8 (51 : Nat) (@UInt8.instOfNat (51 : Nat))), (@OfNat.ofNat UInt8 (53 : Nat) (@UInt8.instOfNat (53 : Nat))), (@OfNat.ofNat UInt8 (54 : Nat) (@UInt8.instOfNat (54 : Nat))), (@OfNat.ofNat UInt8 (66 : Nat) (@UInt8.instOfNat (66 : Nat)))] : List (UInt8))))))) (Go.IntKind.wrap .u64 ((Go.IntKind.wrap .u64 ((Go.IntKind.wrap .u64 ((64 : Int) * (Go.IntKind.wrap .u64 (Go.IntKind.wrap .i64 (n0 - (1 : Int)))))) + (Go.IntKind.wrap .u64 ((16 : Int) * (@Go.bits @Go.BinOp.or @Go.IntKind.u64 (@Go.bits @Go.BinOp.and @Go.IntKind.u64 (@Int.fdiv six1 (@HPow.hPow Int Nat Int (@instHPow Int Nat (@instPowNat Int @Int.instNatPow)) (2 : Int) (@Min.min Nat @instMinNat (Int.toNat (4 : Int)) (@Go.IntKind.bits @Go.IntKind.u64)))) (2 : Int)) (@Go.bits @Go.BinOp.and @Go.IntKind.u64 six1 (1 : Int))))))) + (@Go.bits @Go.BinOp.and @Go.IntKind.u64 (@Int.fdiv six1 (@HPow.hPow Int Nat Int (@instHPow Int Nat (@instPowNat Int @Int.instNatPow)) (2 : Int) (@Min.min Nat @instMinNat (Int.toNat (1 : Int)) (@Go.IntKind.bits @Go.IntKind.u64)))) (15 : Int))))) fun (v3 : UInt8) =>
   some ((Go.IntKind.wrap .u64 (@idxB (@Array.toList UInt8 (@List.toArray UInt8 ([(@OfNat.ofNat UInt8 (48 : Nat) (@UInt8.instOfNat (48 : Nat))), (@OfNat.ofNat UInt8 (49 : Nat) (@UInt8.instOfNat (49 : Nat))), (@OfNat.ofNat UInt8 (50 : Nat) (@UInt8.instOfNat (50 : Nat))), (@OfNat.ofNat UInt8 (51 : Nat) (@UInt8.instOfNat (51 : Nat))), (@OfNat.ofNat UInt8 (52 : Nat) (@UInt8.instOfNat (52 : Nat))), (@OfNat.ofNat UInt8 (53 : Nat) (@UInt8.instOfNat (53 : Nat))), (@OfNat.ofNat UInt8 (54 : Nat) (@UInt8.instOfNat (54 : Nat))), (@OfNat.ofNat UInt8 (55 : Nat) (@UInt8.instOfNat (55 : Nat))), (@OfNat.ofNat UInt8 (56 : Nat) (@UInt8.instOfNat (56 : Nat))), (@OfNat.ofNat UInt8 (57 : Nat) (@UInt8.instOfNat (57 : Nat))), (@OfNat.ofNat UInt8 (65 : Nat) (@UInt8.instOfNat (65 : Nat))), (@OfNat.ofNat UInt8 (66 : Nat) (@UInt8.instOfNat (66 : Nat))), (@OfNat.ofNat UInt8 (67 : Nat) (@UInt8.instOfNat (67 : Nat))), (@OfNat.ofNat UInt8 (68 : Nat) (@UInt8.instOfNat (68 : Nat))), (@OfNat.ofNat UInt8 (69 : Nat) (@UInt8.instOfNat (69 : Nat))), (@OfNat.ofNat UInt8 (70 : Nat) (@UInt8.instOfNat (70 : Nat)))] : List (UInt8)))) (((@UInt8.toNat v3) : Nat) : Int))))
theorem des_Box_S (N : Nat) (n0 : Int) (six1 : Int) : (runK Go.Proofs.Tryd.prog (Ev5 N) 400 8 [(.int .i64), (.int .u64)] [(.int .u64)] (n0, six1, ())).run = des_Box N n0 six1 := by kernel_rfl
theorem des_Box_C (N : Nat) (n0 : Int) (six1 : Int) (y : Int) (h : des_Box N n0 six1 = some y) : CallsK Go.Proofs.Tryd.prog 8 (valA [(.int .i64), (.int .u64)] (n0, six1, ())) (tupV (valR [(.int .u64)] y)) := runK_ok hmx (Ev5_ok N _) (okFn_ok (by kernel_rfl)) (by rw [des_Box_S]; exact h)
noncomputable def Ev6 (N : Nat) : (R : Type) → Env R := Env.addFn (Ev5 N) 8 (fun R => fnK [(.int .i64), (.int .u64)] [(.int .u64)] (fun c => des_Box N c.1 c.2.1))
theorem Ev6_ok (N : Nat) (R : Type) : EnvOK Go.Proofs.Tryd.prog (Ev6 N R) := EnvOK.addFn hmx (Ev5_ok N R) (Ev5_ok N _) (by kernel_rfl) (fun c => des_Box_S N c.1 c.2.1)
noncomputable def Ev7 (N : Nat) : (R : Type) → Env R := Env.addMv (Ev6 N) [(27, 8), (27, 10)]
theorem Ev7_ok (N : Nat) (R : Type) : EnvOK Go.Proofs.Tryd.prog (Ev7 N R) := EnvOK.addMv (Ev6_ok N R) [(27, 8), (27, 10)]
noncomputable def des_ofKeys_8_des_falling_L2_I : LI := ⟨21, 1, [(0, 3)], ⟨[(0, .lit (.own 1)), (1, .ty (.int .i64)), (8, .ty (.int .i64)), (9, .ty (.int .i64))], [.dead, .own (.int .i64) 3]⟩, [(.exit 0, ⟨[(0, .lit (.own 1))], [.dead, .own (.int .i64) 3]⟩)]⟩
noncomputable def des_ofKeys_8_des_falling_L2 (N : Nat) (X : (((Int) × ((Int) × ((Int) × Unit))) × ((List (Int)) × Unit)) → Option ((Unit × ((List (Int)) × Unit)))) (x1 : Int) (x8 : Int) (x9 : Int) (h0 : List (Int)) : Option ((Unit × ((List (Int)) × Unit))) :=
 bif (decide (x9 < x8)) then
  bif (roomB ((List.length h0) + (List.length ([(Go.IntKind.wrap .i64 (x1 - (Go.IntKind.wrap .i64 ((8 : Int) * x9))))] : List (Int)))) 8) then
   (X ((x1, (x8, ((Go.IntKind.wrap .i64 (x9 + (1 : Int))), @Unit.unit))), ((h0 ++ ([(Go.IntKind.wrap .i64 (x1 - (Go.IntKind.wrap .i64 ((8 : Int) * x9))))] : List (Int))), @Unit.unit)))
  else
   none
 else
  some ((@Unit.unit, (h0, @Unit.unit)))
noncomputable def des_ofKeys_8_des_falling_L2_R (N : Nat) (c : (((Int) × ((Int) × ((Int) × Unit))) × ((List (Int)) × Unit))) : Option ((Unit × ((List (Int)) × Unit))) := gl (fun X c => des_ofKeys_8_des_falling_L2 N X c.1.1 c.1.2.1 c.1.2.2.1 c.2.1) N c
theorem des_ofKeys_8_des_falling_L2_S (N : Nat) (X : (((Int) × ((Int) × ((Int) × Unit))) × ((List (Int)) × Unit)) → Option ((Unit × ((List (Int)) × Unit)))) (x1 : Int) (x8 : Int) (x9 : Int) (h0 : List (Int)) : (roundK Go.Proofs.Tryd.prog (Ev7 N) 400 [49, 8, 27] des_ofKeys_8_des_falling_L2_I (loopAt Go.Proofs.Tryd.prog [49, 8, 27] 2) X ((x1, x8, x9, ()), (h0, ()))).run = des_ofKeys_8_des_falling_L2 N X x1 x8 x9 h0 := by kernel_rfl
noncomputable def Ev8 (N : Nat) : (R : Type) → Env R := Env.addLp (Ev7 N) [49, 8, 27] 1 2 (fun R => lpK Go.Proofs.Tryd.prog des_ofKeys_8_des_falling_L2_I (fun X c => des_ofKeys_8_des_falling_L2 N X c.1.1 c.1.2.1 c.1.2.2.1 c.2.1) N)
theorem Ev8_ok (N : Nat) (R : Type) : EnvOK Go.Proofs.Tryd.prog (Ev8 N R) := EnvOK.addLp (Ev7_ok N R) (by kernel_rfl) (lpK_ok (li := des_ofKeys_8_des_falling_L2_I) (G := fun X c => des_ofKeys_8_des_falling_L2 N X c.1.1 c.1.2.1 c.1.2.2.1 c.2.1) hmx (Ev7_ok N _) (by kernel_rfl) loopAt_sub (fun (X : CT des_ofKeys_8_des_falling_L2_I.sh → Option (OT des_ofKeys_8_des_falling_L2_I.outs)) (c : CT des_ofKeys_8_des_falling_L2_I.sh) => des_ofKeys_8_des_falling_L2_S N X c.1.1 c.1.2.1 c.1.2.2.1 c.2.1) N)
noncomputable def des_ofKeys_L6_I : LI := ⟨28, 0, [], ⟨[(1, .lit (.own 0)), (3, .adr (.arr 4 (.int .i64))), (8, .ty (.arr 2 (.arr 4 (.int .i64)))), (9, .ty (.int .i64)), (12, .ty (.sl (.int .i64))), (13, .ty (.int .i64)), (14, .ty (.int .i64))], [.own (.int .i64) 3]⟩, [(.exit 2, ⟨[(1, .lit (.own 0)), (3, .adr (.arr 4 (.int .i64))), (8, .ty (.arr 2 (.arr 4 (.int .i64)))), (9, .ty (.int .i64))], [.own (.int .i64) 3]⟩)]⟩
noncomputable def des_ofKeys_L6 (N : Nat) (X : (((Arr (Int) 4) × ((Arr (Arr (Int) 4) 2) × ((Int) × ((List (Int)) × ((Int) × ((Int) × Unit)))))) × ((List (Int)) × Unit)) → Option ((((Arr (Int) 4) × ((Arr (Arr (Int) 4) 2) × ((Int) × Unit))) × ((List (Int)) × Unit)))) (half3 : Arr (Int) 4) (x8 : Arr (Arr (Int) 4) 2) (x9 : Int) (x12 : List (Int)) (x13 : Int) (x14 : Int) (h0 : List (Int)) : Option ((((Arr (Int) 4) × ((Arr (Arr (Int) 4) 2) × ((Int) × Unit))) × ((List (Int)) × Unit))) :=
 bif (decide (x14 < x13)) then
  Option.bind (getI x12 x14) fun (v9 : Int) =>
  Option.bind (des_ofKeys_8_des_falling_L2_R N ((v9, ((8 : Int), ((0 : Int), @Unit.unit))), (h0, @Unit.unit))) fun (v10 : (Unit × ((List Int) × Unit))) =>
  (X ((half3, (x8, (x9, (x12, (x13, ((Go.IntKind.wrap .i64 (x14 + (1 : Int))), @Unit.unit)))))), (v10.2.1, @Unit.unit)))
 else
  some (((half3, (x8, (x9, @Unit.unit))), (h0, @Unit.unit)))
noncomputable def des_ofKeys_L6_R (N : Nat) (c : (((Arr (Int) 4) × ((Arr (Arr (Int) 4) 2) × ((Int) × ((List (Int)) × ((Int) × ((Int) × Unit)))))) × ((List (Int)) × Unit))) : Option ((((Arr (Int) 4) × ((Arr (Arr (Int) 4) 2) × ((Int) × Unit))) × ((List (Int)) × Unit))) := gl (fun X c => des_ofKeys_L6 N X c.1.1 c.1.2.1 c.1.2.2.1 c.1.2.2.2.1 c.1.2.2.2.2.1 c.1.2.2.2.2.2.1 c.2.1) N c
theorem des_ofKeys_L6_S (N : Nat) (X : (((Arr (Int) 4) × ((Arr (Arr (Int) 4) 2) × ((Int) × ((List (Int)) × ((Int) × ((Int) × Unit)))))) × ((List (Int)) × Unit)) → Option ((((Arr (Int) 4) × ((Arr (Arr (Int) 4) 2) × ((Int) × Unit))) × ((List (Int)) × Unit)))) (half3 : Arr (Int) 4) (x8 : Arr (Arr (Int) 4) 2) (x9 : Int) (x12 : List (Int)) (x13 : Int) (x14 : Int) (h0 : List (Int)) : (roundK Go.Proofs.Tryd.prog (Ev8 N) 400 [27] des_ofKeys_L6_I (loopAt Go.Proofs.Tryd.prog [27] 6) X ((half3, x8, x9, x12, x13, x14, ()), (h0, ()))).run = des_ofKeys_L6 N X half3 x8 x9 x12 x13 x14 h0 := by kernel_rfl
noncomputable def Ev9 (N : Nat) : (R : Type) → Env R := Env.addLp (Ev8 N) [27] 0 6 (fun R => lpK Go.Proofs.Tryd.prog des_ofKeys_L6_I (fun X c => des_ofKeys_L6 N X c.1.1 c.1.2.1 c.1.2.2.1 c.1.2.2.2.1 c.1.2.2.2.2.1 c.1.2.2.2.2.2.1 c.2.1) N)
theorem Ev9_ok (N : Nat) (R : Type) : EnvOK Go.Proofs.Tryd.prog (Ev9 N R) := EnvOK.addLp (Ev8_ok N R) (by kernel_rfl) (lpK_ok (li := des_ofKeys_L6_I) (G := fun X c => des_ofKeys_L6 N X c.1.1 c.1.2.1 c.1.2.2.1 c.1.2.2.2.1 c.1.2.2.2.2.1 c.1.2.2.2.2.2.1 c.2.1) hmx (Ev8_ok N _) (by kernel_rfl) loopAt_sub (fun (X : CT des_ofKeys_L6_I.sh → Option (OT des_ofKeys_L6_I.outs)) (c : CT des_ofKeys_L6_I.sh) => des_ofKeys_L6_S N X c.1.1 c.1.2.1 c.1.2.2.1 c.1.2.2.2.1 c.1.2.2.2.2.1 c.1.2.2.2.2.2.1 c.2.1) N)
noncomputable def des_ofKeys_10_des_falling_L2_I : LI := ⟨21, 1, [(0, 3)], ⟨[(0, .lit (.own 1)), (1, .ty (.int .i64)), (8, .ty (.int .i64)), (9, .ty (.int .i64))], [.dead, .own (.int .i64) 3]⟩, [(.exit 0, ⟨[(0, .lit (.own 1))], [.dead, .own (.int .i64) 3]⟩)]⟩
noncomputable def des_ofKeys_10_des_falling_L2 (N : Nat) (X : (((Int) × ((Int) × ((Int) × Unit))) × ((List (Int)) × Unit)) → Option ((Unit × ((List (Int)) × Unit)))) (x1 : Int) (x8 : Int) (x9 : Int) (h0 : List (Int)) : Option ((Unit × ((List (Int)) × Unit))) :=
 bif (decide (x9 < x8)) then
  bif (roomB ((List.length h0) + (List.length ([(Go.IntKind.wrap .i64 (x1 - (Go.IntKind.wrap .i64 ((8 : Int) * x9))))] : List (Int)))) 8) then
   (X ((x1, (x8, ((Go.IntKind.wrap .i64 (x9 + (1 : Int))), @Unit.unit))), ((h0 ++ ([(Go.IntKind.wrap .i64 (x1 - (Go.IntKind.wrap .i64 ((8 : Int) * x9))))] : List (Int))), @Unit.unit)))
  else
   none
 else
  some ((@Unit.unit, (h0, @Unit.unit)))
noncomputable def des_ofKeys_10_des_falling_L2_R (N : Nat) (c : (((Int) × ((Int) × ((Int) × Unit))) × ((List (Int)) × Unit))) : Option ((Unit × ((List (Int)) × Unit))) := gl (fun X c => des_ofKeys_10_des_falling_L2 N X c.1.1 c.1.2.1 c.1.2.2.1 c.2.1) N c
theorem des_ofKeys_10_des_falling_L2_S (N : Nat) (X : (((Int) × ((Int) × ((Int) × Unit))) × ((List (Int)) × Unit)) → Option ((Unit × ((List (Int)) × Unit)))) (x1 : Int) (x8 : Int) (x9 : Int) (h0 : List (Int)) : (roundK Go.Proofs.Tryd.prog (Ev9 N) 400 [49, 10, 27] des_ofKeys_10_des_falling_L2_I (loopAt Go.Proofs.Tryd.prog [49, 10, 27] 2) X ((x1, x8, x9, ()), (h0, ()))).run = des_ofKeys_10_des_falling_L2 N X x1 x8 x9 h0 := by kernel_rfl
noncomputable def Ev10 (N : Nat) : (R : Type) → Env R := Env.addLp (Ev9 N) [49, 10, 27] 1 2 (fun R => lpK Go.Proofs.Tryd.prog des_ofKeys_10_des_falling_L2_I (fun X c => des_ofKeys_10_des_falling_L2 N X c.1.1 c.1.2.1 c.1.2.2.1 c.2.1) N)
theorem Ev10_ok (N : Nat) (R : Type) : EnvOK Go.Proofs.Tryd.prog (Ev10 N R) := EnvOK.addLp (Ev9_ok N R) (by kernel_rfl) (lpK_ok (li := des_ofKeys_10_des_falling_L2_I) (G := fun X c => des_ofKeys_10_des_falling_L2 N X c.1.1 c.1.2.1 c.1.2.2.1 c.2.1) hmx (Ev9_ok N _) (by kernel_rfl) loopAt_sub (fun (X : CT des_ofKeys_10_des_falling_L2_I.sh → Option (OT des_ofKeys_10_des_falling_L2_I.outs)) (c : CT des_ofKeys_10_des_falling_L2_I.sh) => des_ofKeys_10_des_falling_L2_S N X c.1.1 c.1.2.1 c.1.2.2.1 c.2.1) N)
noncomputable def des_ofKeys_L3_I : LI := ⟨28, 0, [(1, 3)], ⟨[(1, .lit (.own 0)), (8, .ty (.arr 2 (.arr 4 (.int .i64)))), (9, .ty (.int .i64))], [.own (.int .i64) 3]⟩, [(.exit 0, ⟨[(1, .lit (.own 0))], [.own (.int .i64) 3]⟩)]⟩
noncomputable def des_ofKeys_L3 (N : Nat) (X : (((Arr (Arr (Int) 4) 2) × ((Int) × Unit)) × ((List (Int)) × Unit)) → Option ((Unit × ((List (Int)) × Unit)))) (x8 : Arr (Arr (Int) 4) 2) (x9 : Int) (h0 : List (Int)) : Option ((Unit × ((List (Int)) × Unit))) :=
 bif (decide (x9 < (2 : Int))) then
  Option.bind (getI x8.l x9) fun (v5 : (Arr Int 4)) =>
  Option.bind (takeI v5.l (3 : Int)) fun (v6 : (List Int)) =>
  Option.bind (des_ofKeys_L6_R N ((v5, (x8, (x9, (v6, ((((List.length v6) : Nat) : Int), ((0 : Int), @Unit.unit)))))), (h0, @Unit.unit))) fun (v7 : (((Arr Int 4) × ((Arr (Arr Int 4) 2) × (Int × Unit))) × ((List Int) × Unit))) =>
  Option.bind (getI v7.1.1.l (3 : Int)) fun (v8 : Int) =>
  Option.bind (des_ofKeys_10_des_falling_L2_R N ((v8, ((4 : Int), ((0 : Int), @Unit.unit))), (v7.2.1, @Unit.unit))) fun (v9 : (Unit × ((List Int) × Unit))) =>
  (X ((v7.1.2.1, ((Go.IntKind.wrap .i64 (v7.1.2.2.1 + (1 : Int))), @Unit.unit)), (v9.2.1, @Unit.unit)))
 else
  some ((@Unit.unit, (h0, @Unit.unit)))
noncomputable def des_ofKeys_L3_R (N : Nat) (c : (((Arr (Arr (Int) 4) 2) × ((Int) × Unit)) × ((List (Int)) × Unit))) : Option ((Unit × ((List (Int)) × Unit))) := gl (fun X c => des_ofKeys_L3 N X c.1.1 c.1.2.1 c.2.1) N c
theorem des_ofKeys_L3_S (N : Nat) (X : (((Arr (Arr (Int) 4) 2) × ((Int) × Unit)) × ((List (Int)) × Unit)) → Option ((Unit × ((List (Int)) × Unit)))) (x8 : Arr (Arr (Int) 4) 2) (x9 : Int) (h0 : List (Int)) : (roundK Go.Proofs.Tryd.prog (Ev10 N) 400 [27] des_ofKeys_L3_I (loopAt Go.Proofs.Tryd.prog [27] 3) X ((x8, x9, ()), (h0, ()))).run = des_ofKeys_L3 N X x8 x9 h0 := by kernel_rfl
noncomputable def Ev11 (N : Nat) : (R : Type) → Env R := Env.addLp (Ev10 N) [27] 0 3 (fun R => lpK Go.Proofs.Tryd.prog des_ofKeys_L3_I (fun X c => des_ofKeys_L3 N X c.1.1 c.1.2.1 c.2.1) N)
theorem Ev11_ok (N : Nat) (R : Type) : EnvOK Go.Proofs.Tryd.prog (Ev11 N R) := EnvOK.addLp (Ev10_ok N R) (by kernel_rfl) (lpK_ok (li := des_ofKeys_L3_I) (G := fun X c => des_ofKeys_L3 N X c.1.1 c.1.2.1 c.2.1) hmx (Ev10_ok N _) (by kernel_rfl) loopAt_sub (fun (X : CT des_ofKeys_L3_I.sh → Option (OT des_ofKeys_L3_I.outs)) (c : CT des_ofKeys_L3_I.sh) => des_ofKeys_L3_S N X c.1.1 c.1.2.1 c.2.1) N)
noncomputable def des_ofKeys (N : Nat) : Option (List (Int)) :=
 Option.bind (des_ofKeys_L3_R N (((@Arr.cons (Arr Int 4) (1 : Nat) (@Arr.cons Int (3 : Nat) (57 : Int) (@Arr.cons Int (2 : Nat) (58 : Int) (@Arr.cons Int (1 : Nat) (59 : Int) (@Arr.cons Int (0 : Nat) (60 : Int) (@Arr.nil Int))))) (@Arr.cons (Arr Int 4) (0 : Nat) (@Arr.cons Int (3 : Nat) (63 : Int) (@Arr.cons Int (2 : Nat) (62 : Int) (@Arr.cons Int (1 : Nat) (61 : Int) (@Arr.cons Int (0 : Nat) (28 : Int) (@Arr.nil Int))))) (@Arr.nil (Arr Int 4)))), ((0 : Int), @Unit.unit)), (([] : List (Int)), @Unit.unit))) fun (v1 : (Unit × ((List Int) × Unit))) =>
 some (v1.2.1)
theorem des_ofKeys_S (N : Nat) : (runK Go.Proofs.Tryd.prog (Ev11 N) 400 27 [] [(.sl (.int .i64))] ()).run = des_ofKeys N  := by kernel_rfl
noncomputable def Ev12 (N : Nat) : (R : Type) → Env R := Env.addFn (Ev11 N) 27 (fun R => fnK [] [(.sl (.int .i64))] (fun c => des_ofKeys N ))
theorem Ev12_ok (N : Nat) (R : Type) : EnvOK Go.Proofs.Tryd.prog (Ev12 N R) := EnvOK.addFn hmx (Ev11_ok N R) (Ev11_ok N _) (by kernel_rfl) (fun c => des_ofKeys_S N )
noncomputable def bitp_may (N : Nat) (width0 : Int) : Option (Bool) :=
 bif (decide ((1 : Int) ≤ width0)) then
  some ((@cond Bool @Bool.true (decide (width0 ≤ (64 : Int))) @Bool.false))
 else
  some (@Bool.false)
theorem bitp_may_S (N : Nat) (width0 : Int) : (runK Go.Proofs.Tryd.prog (Ev12 N) 400 46 [(.int .i64)] [.bool] (width0, ())).run = bitp_may N width0 := by kernel_rfl
noncomputable def Ev13 (N : Nat) : (R : Type) → Env R := Env.addFn (Ev12 N) 46 (fun R => fnK [(.int .i64)] [.bool] (fun c => bitp_may N c.1))
theorem Ev13_ok (N : Nat) (R : Type) : EnvOK Go.Proofs.Tryd.prog (Ev13 N R) := EnvOK.addFn hmx (Ev12_ok N R) (Ev12_ok N _) (by kernel_rfl) (fun c => bitp_may_S N c.1)
noncomputable def bitp_Permute_L4_I : LI := ⟨39, 0, [], ⟨[(0, .ty (.int .u64)), (1, .ty (.int .i64)), (2, .ty (.sl (.int .i64))), (19, .ty (.sl (.int .i64))), (20, .ty (.int .i64)), (21, .ty (.int .i64))], []⟩, [(.ret, ⟨[(6, .ty (.int .u64)), (7, .ty (.int .i64))], []⟩), (.exit 0, ⟨[(0, .ty (.int .u64)), (1, .ty (.int .i64)), (2, .ty (.sl (.int .i64)))], []⟩)]⟩
noncomputable def bitp_Permute_L4 (N : Nat) (X : (((Int) × ((Int) × ((List (Int)) × ((List (Int)) × ((Int) × ((Int) × Unit)))))) × Unit) → Option (((((Int) × ((Int) × Unit)) × Unit) ⊕ (((Int) × ((Int) × ((List (Int)) × Unit))) × Unit)))) (x0 : Int) (width1 : Int) (table2 : List (Int)) (x19 : List (Int)) (x20 : Int) (x21 : Int) : Option (((((Int) × ((Int) × Unit)) × Unit) ⊕ (((Int) × ((Int) × ((List (Int)) × Unit))) × Unit))) :=
 bif (decide (x21 < x20)) then
  Option.bind (getI x19 x21) fun (v8 : Int) =>
  bif (decide (v8 < (1 : Int))) then
   some ((.inl (((0 : Int), ((1 : Int), @Unit.unit)), @Unit.unit)))
  else
   bif (@cond Bool @Bool.false @Bool.true (decide (width1 < v8))) then
    some ((.inl (((0 : Int), ((1 : Int), @Unit.unit)), @Unit.unit)))
   else
    (X ((x0, (width1, (table2, (x19, (x20, ((Go.IntKind.wrap .i64 (x21 + (1 : Int))), @Unit.unit)))))), @Unit.unit))
 else
  some ((.inr ((x0, (width1, (table2, @Unit.unit))), @Unit.unit)))
noncomputable def bitp_Permute_L4_R (N : Nat) (c : (((Int) × ((Int) × ((List (Int)) × ((List (Int)) × ((Int) × ((Int) × Unit)))))) × Unit)) : Option (((((Int) × ((Int) × Unit)) × Unit) ⊕ (((Int) × ((Int) × ((List (Int)) × Unit))) × Unit))) := gl (fun X c => bitp_Permute_L4 N X c.1.1 c.1.2.1 c.1.2.2.1 c.1.2.2.2.1 c.1.2.2.2.2.1 c.1.2.2.2.2.2.1) N c
theorem bitp_Permute_L4_S (N : Nat) (X : (((Int) × ((Int) × ((List (Int)) × ((List (Int)) × ((Int) × ((Int) × Unit)))))) × Unit) → Option (((((Int) × ((Int) × Unit)) × Unit) ⊕ (((Int) × ((Int) × ((List (Int)) × Unit))) × Unit)))) (x0 : Int) (width1 : Int) (table2 : List (Int)) (x19 : List (Int)) (x20 : Int) (x21 : Int) : (roundK Go.Proofs.Tryd.prog (Ev13 N) 400 [48] bitp_Permute_L4_I (loopAt Go.Proofs.Tryd.prog [48] 4) X ((x0, width1, table2, x19, x20, x21, ()), ())).run = bitp_Permute_L4 N X x0 width1 table2 x19 x20 x21 := by kernel_rfl
noncomputable def Ev14 (N : Nat) : (R : Type) → Env R := Env.addLp (Ev13 N) [48] 0 4 (fun R => lpK Go.Proofs.Tryd.prog bitp_Permute_L4_I (fun X c => bitp_Permute_L4 N X c.1.1 c.1.2.1 c.1.2.2.1 c.1.2.2.2.1 c.1.2.2.2.2.1 c.1.2.2.2.2.2.1) N)
theorem Ev14_ok (N : Nat) (R : Type) : EnvOK Go.Proofs.Tryd.prog (Ev14 N R) := EnvOK.addLp (Ev13_ok N R) (by kernel_rfl) (lpK_ok (li := bitp_Permute_L4_I) (G := fun X c => bitp_Permute_L4 N X c.1.1 c.1.2.1 c.1.2.2.1 c.1.2.2.2.1 c.1.2.2.2.2.1 c.1.2.2.2.2.2.1) hmx (Ev13_ok N _) (by kernel_rfl) loopAt_sub (fun (X : CT bitp_Permute_L4_I.sh → Option (OT bitp_Permute_L4_I.outs)) (c : CT bitp_Permute_L4_I.sh) => bitp_Permute_L4_S N X c.1.1 c.1.2.1 c.1.2.2.1 c.1.2.2.2.1 c.1.2.2.2.2.1 c.1.2.2.2.2.2.1) N)
noncomputable def bitp_Bit (N : Nat) (x0 : Int) (width1 : Int) (i2 : Int) : Option (Int) :=
 Option.bind (@bitp_may N width1) fun (v4 : Bool) =>
 bif (!v4) then
  some ((0 : Int))
 else
  bif (@cond Bool @Bool.false @Bool.true (decide (i2 < (1 : Int)))) then
   some ((0 : Int))
  else
   bif (@cond Bool @Bool.false @Bool.true (decide (width1 < i2))) then
    some ((0 : Int))
   else
    bif (decide ((0 : Int) ≤ (Go.IntKind.wrap .i64 (width1 - i2)))) then
     some ((@Go.bits @Go.BinOp.and @Go.IntKind.u64 (@Int.fdiv x0 (@HPow.hPow Int Nat Int (@instHPow Int Nat (@instPowNat Int @Int.instNatPow)) (2 : Int) (@Min.min Nat @instMinNat (Int.toNat (Go.IntKind.wrap .i64 (width1 - i2))) (@Go.IntKind.bits @Go.IntKind.u64)))) (1 : Int)))
    else
     none
theorem bitp_Bit_S (N : Nat) (x0 : Int) (width1 : Int) (i2 : Int) : (runK Go.Proofs.Tryd.prog (Ev14 N) 400 71 [(.int .u64), (.int .i64), (.int .i64)] [(.int .u64)] (x0, width1, i2, ())).run = bitp_Bit N x0 width1 i2 := by kernel_rfl
noncomputable def Ev15 (N : Nat) : (R : Type) → Env R := Env.addFn (Ev14 N) 71 (fun R => fnK [(.int .u64), (.int .i64), (.int .i64)] [(.int .u64)] (fun c => bitp_Bit N c.1 c.2.1 c.2.2.1))
theorem Ev15_ok (N : Nat) (R : Type) : EnvOK Go.Proofs.Tryd.prog (Ev15 N R) := EnvOK.addFn hmx (Ev14_ok N R) (Ev14_ok N _) (by kernel_rfl) (fun c => bitp_Bit_S N c.1 c.2.1 c.2.2.1)
noncomputable def bitp_Permute_10_bitp_named_L1_I : LI := ⟨23, 1, [], ⟨[(0, .ty (.int .u64)), (1, .ty (.int .i64)), (3, .lit (.clo 67 [.box 0 0])), (10, .ty (.sl (.int .i64))), (11, .ty (.int .i64)), (12, .ty (.int .i64))], [.box 22 (.int .u64)]⟩, [(.exit 0, ⟨[], [.box 22 (.int .u64)]⟩)]⟩
noncomputable def bitp_Permute_10_bitp_named_L1 (N : Nat) (X : (((Int) × ((Int) × ((List (Int)) × ((Int) × ((Int) × Unit))))) × ((Int) × Unit)) → Option ((Unit × ((Int) × Unit)))) (x0 : Int) (width1 : Int) (x10 : List (Int)) (x11 : Int) (x12 : Int) (h0 : Int) : Option ((Unit × ((Int) × Unit))) :=
 bif (decide (x12 < x11)) then
  Option.bind (getI x10 x12) fun (v8 : Int) =>
  Option.bind (@bitp_Bit N x0 width1 v8) fun (v9 : Int) =>
  (X ((x0, (width1, (x10, (x11, ((Go.IntKind.wrap .i64 (x12 + (1 : Int))), @Unit.unit))))), ((@Go.bits @Go.BinOp.or @Go.IntKind.u64 (Go.IntKind.wrap .u64 (h0 * (@HPow.hPow Int Nat Int (@instHPow Int Nat (@instPowNat Int @Int.instNatPow)) (2 : Int) (@Min.min Nat @instMinNat (Int.toNat (1 : Int)) (@Go.IntKind.bits @Go.IntKind.u64))))) v9), @Unit.unit)))
 else
  some ((@Unit.unit, (h0, @Unit.unit)))
noncomputable def bitp_Permute_10_bitp_named_L1_R (N : Nat) (c : (((Int) × ((Int) × ((List (Int)) × ((Int) × ((Int) × Unit))))) × ((Int) × Unit))) : Option ((Unit × ((Int) × Unit))) := gl (fun X c => bitp_Permute_10_bitp_named_L1 N X c.1.1 c.1.2.1 c.1.2.2.1 c.1.2.2.2.1 c.1.2.2.2.2.1 c.2.1) N c
theorem bitp_Permute_10_bitp_named_L1_S (N : Nat) (X : (((Int) × ((Int) × ((List (Int)) × ((Int) × ((Int) × Unit))))) × ((Int) × Unit)) → Option ((Unit × ((Int) × Unit)))) (x0 : Int) (width1 : Int) (x10 : List (Int)) (x11 : Int) (x12 : Int) (h0 : Int) : (roundK Go.Proofs.Tryd.prog (Ev15 N) 400 [66, 10, 48] bitp_Permute_10_bitp_named_L1_I (loopAt Go.Proofs.Tryd.prog [66, 10, 48] 1) X ((x0, width1, x10, x11, x12, ()), (h0, ()))).run = bitp_Permute_10_bitp_named_L1 N X x0 width1 x10 x11 x12 h0 := by kernel_rfl
noncomputable def Ev16 (N : Nat) : (R : Type) → Env R := Env.addLp (Ev15 N) [66, 10, 48] 1 1 (fun R => lpK Go.Proofs.Tryd.prog bitp_Permute_10_bitp_named_L1_I (fun X c => bitp_Permute_10_bitp_named_L1 N X c.1.1 c.1.2.1 c.1.2.2.1 c.1.2.2.2.1 c.1.2.2.2.2.1 c.2.1) N)
theorem Ev16_ok (N : Nat) (R : Type) : EnvOK Go.Proofs.Tryd.prog (Ev16 N R) := EnvOK.addLp (Ev15_ok N R) (by kernel_rfl) (lpK_ok (li := bitp_Permute_10_bitp_named_L1_I) (G := fun X c => bitp_Permute_10_bitp_named_L1 N X c.1.1 c.1.2.1 c.1.2.2.1 c.1.2.2.2.1 c.1.2.2.2.2.1 c.2.1) hmx (Ev15_ok N _) (by kernel_rfl) loopAt_sub (fun (X : CT bitp_Permute_10_bitp_named_L1_I.sh → Option (OT bitp_Permute_10_bitp_named_L1_I.outs)) (c : CT bitp_Permute_10_bitp_named_L1_I.sh) => bitp_Permute_10_bitp_named_L1_S N X c.1.1 c.1.2.1 c.1.2.2.1 c.1.2.2.2.1 c.1.2.2.2.2.1 c.2.1) N)
noncomputable def bitp_Permute (N : Nat) (x0 : Int) (width1 : Int) (table2 : List (Int)) : Option ((Int) × Int) :=
 Option.bind (@bitp_may N width1) fun (v4 : Bool) =>
 bif (!v4) then
  some (((0 : Int), (1 : Int)))
 else
  bif (@cond Bool @Bool.false @Bool.true (decide ((64 : Int) < (((List.length table2) : Nat) : Int)))) then
   some (((0 : Int), (1 : Int)))
  else
   Option.bind (bitp_Permute_L4_R N ((x0, (width1, (table2, (table2, ((((List.length table2) : Nat) : Int), ((0 : Int), @Unit.unit)))))), @Unit.unit)) fun (v5 : (((Int × (Int × Unit)) × Unit) ⊕ ((Int × (Int × ((List Int) × Unit))) × Unit))) =>
   Sum.elim
    (fun (v6 : ((Int × (Int × Unit)) × Unit)) =>
    some ((v6.1.1, v6.1.2.1)))
    (fun (v6 : ((Int × (Int × ((List Int) × Unit))) × Unit)) =>
    Option.bind (bitp_Permute_10_bitp_named_L1_R N ((v6.1.1, (v6.1.2.1, (v6.1.2.2.1, ((((List.length v6.1.2.2.1) : Nat) : Int), ((0 : Int), @Unit.unit))))), ((0 : Int), @Unit.unit))) fun (v7 : (Unit × (Int × Unit))) =>
    some ((v7.2.1, (0 : Int)))) v5
theorem bitp_Permute_S (N : Nat) (x0 : Int) (width1 : Int) (table2 : List (Int)) : (runK Go.Proofs.Tryd.prog (Ev16 N) 400 48 [(.int .u64), (.int .i64), (.sl (.int .i64))] [(.int .u64), (.int .i64)] (x0, width1, table2, ())).run = bitp_Permute N x0 width1 table2 := by kernel_rfl
noncomputable def Ev17 (N : Nat) : (R : Type) → Env R := Env.addFn (Ev16 N) 48 (fun R => fnK [(.int .u64), (.int .i64), (.sl (.int .i64))] [(.int .u64), (.int .i64)] (fun c => bitp_Permute N c.1 c.2.1 c.2.2.1))
theorem Ev17_ok (N : Nat) (R : Type) : EnvOK Go.Proofs.Tryd.prog (Ev17 N R) := EnvOK.addFn hmx (Ev16_ok N R) (Ev16_ok N _) (by kernel_rfl) (fun c => bitp_Permute_S N c.1 c.2.1 c.2.2.1)
noncomputable def des_permuted (N : Nat) (x0 : Int) (width1 : Int) (table2 : List (Int)) : Option (Int) :=
 Option.bind (@bitp_Permute N x0 width1 table2) fun (v4 : (Int × Int)) =>
 some (v4.1)
theorem des_permuted_S (N : Nat) (x0 : Int) (width1 : Int) (table2 : List (Int)) : (runK Go.Proofs.Tryd.prog (Ev17 N) 400 26 [(.int .u64), (.int .i64), (.sl (.int .i64))] [(.int .u64)] (x0, width1, table2, ())).run = des_permuted N x0 width1 table2 := by kernel_rfl
noncomputable def Ev18 (N : Nat) : (R : Type) → Env R := Env.addFn (Ev17 N) 26 (fun R => fnK [(.int .u64), (.int .i64), (.sl (.int .i64))] [(.int .u64)] (fun c => des_permuted N c.1 c.2.1 c.2.2.1))
theorem Ev18_ok (N : Nat) (R : Type) : EnvOK Go.Proofs.Tryd.prog (Ev18 N R) := EnvOK.addFn hmx (Ev17_ok N R) (Ev17_ok N _) (by kernel_rfl) (fun c => des_permuted_S N c.1 c.2.1 c.2.2.1)
noncomputable def bitp_low (N : Nat) (x0 : Int) (many1 : Int) : Option (Int) :=
 bif (decide ((0 : Int) ≤ many1)) then
  some ((@Go.bits @Go.BinOp.and @Go.IntKind.u64 x0 (Go.IntKind.wrap .u64 ((Go.IntKind.wrap .u64 ((1 : Int) * (@HPow.hPow Int Nat Int (@instHPow Int Nat (@instPowNat Int @Int.instNatPow)) (2 : Int) (@Min.min Nat @instMinNat (Int.toNat many1) (@Go.IntKind.bits @Go.IntKind.u64))))) - (1 : Int)))))
 else
  none
theorem bitp_low_S (N : Nat) (x0 : Int) (many1 : Int) : (runK Go.Proofs.Tryd.prog (Ev18 N) 400 47 [(.int .u64), (.int .i64)] [(.int .u64)] (x0, many1, ())).run = bitp_low N x0 many1 := by kernel_rfl
noncomputable def Ev19 (N : Nat) : (R : Type) → Env R := Env.addFn (Ev18 N) 47 (fun R => fnK [(.int .u64), (.int .i64)] [(.int .u64)] (fun c => bitp_low N c.1 c.2.1))
theorem Ev19_ok (N : Nat) (R : Type) : EnvOK Go.Proofs.Tryd.prog (Ev19 N R) := EnvOK.addFn hmx (Ev18_ok N R) (Ev18_ok N _) (by kernel_rfl) (fun c => bitp_low_S N c.1 c.2.1)
noncomputable def bitp_Split (N : Nat) (x0 : Int) (width1 : Int) (x2 : Int) : Option ((Int) × (Int) × Int) :=
 Option.bind (@bitp_may N width1) fun (v4 : Bool) =>
 bif (!v4) then
  some (((0 : Int), ((0 : Int), (1 : Int))))
 else
  bif (@cond Bool @Bool.false @Bool.true (decide (x2 < (0 : Int)))) then
   some (((0 : Int), ((0 : Int), (1 : Int))))
  else
   bif (@cond Bool @Bool.false @Bool.true (decide (width1 < x2))) then
    some (((0 : Int), ((0 : Int), (1 : Int))))
   else
    Option.bind (@bitp_low N x0 width1) fun (v5 : Int) =>
    bif (decide ((0 : Int) ≤ (Go.IntKind.wrap .i64 (width1 - x2)))) then
     Option.bind (@bitp_low N v5 (Go.IntKind.wrap .i64 (width1 - x2))) fun (v6 : Int) =>
     some (((@Int.fdiv v5 (@HPow.hPow Int Nat Int (@instHPow Int Nat (@instPowNat Int @Int.instNatPow)) (2 : Int) (@Min.min Nat @instMinNat (Int.toNat (Go.IntKind.wrap .i64 (width1 - x2))) (@Go.IntKind.bits @Go.IntKind.u64)))), (v6, (0 : Int))))
    else
     none
theorem bitp_Split_S (N : Nat) (x0 : Int) (width1 : Int) (x2 : Int) : (runK Go.Proofs.Tryd.prog (Ev19 N) 400 25 [(.int .u64), (.int .i64), (.int .i64)] [(.int .u64), (.int .u64), (.int .i64)] (x0, width1, x2, ())).run = bitp_Split N x0 width1 x2 := by kernel_rfl
noncomputable def Ev20 (N : Nat) : (R : Type) → Env R := Env.addFn (Ev19 N) 25 (fun R => fnK [(.int .u64), (.int .i64), (.int .i64)] [(.int .u64), (.int .u64), (.int .i64)] (fun c => bitp_Split N c.1 c.2.1 c.2.2.1))
theorem Ev20_ok (N : Nat) (R : Type) : EnvOK Go.Proofs.Tryd.prog (Ev20 N R) := EnvOK.addFn hmx (Ev19_ok N R) (Ev19_ok N _) (by kernel_rfl) (fun c => bitp_Split_S N c.1 c.2.1 c.2.2.1)
noncomputable def des_ofRounds (N : Nat) : Option (List (Int)) :=
 some ((((([(14 : Int), (17 : Int), (11 : Int), (24 : Int), (1 : Int), (5 : Int), (3 : Int), (28 : Int), (15 : Int), (6 : Int), (21 : Int), (10 : Int)] : List (Int)) ++ ([(23 : Int), (19 : Int), (12 : Int), (4 : Int), (26 : Int), (8 : Int), (16 : Int), (7 : Int), (27 : Int), (20 : Int), (13 : Int), (2 : Int)] : List (Int))) ++ ([(41 : Int), (52 : Int), (31 : Int), (37 : Int), (47 : Int), (55 : Int), (30 : Int), (40 : Int), (51 : Int), (45 : Int), (33 : Int), (48 : Int)] : List (Int))) ++ ([(44 : Int), (49 : Int), (39 : Int), (56 : Int), (34 : Int), (53 : Int), (46 : Int), (42 : Int), (50 : Int), (36 : Int), (29 : Int), (32 : Int)] : List (Int))))
theorem des_ofRounds_S (N : Nat) : (runK Go.Proofs.Tryd.prog (Ev20 N) 400 28 [] [(.sl (.int .i64))] ()).run = des_ofRounds N  := by kernel_rfl
noncomputable def Ev21 (N : Nat) : (R : Type) → Env R := Env.addFn (Ev20 N) 28 (fun R => fnK [] [(.sl (.int .i64))] (fun c => des_ofRounds N ))
theorem Ev21_ok (N : Nat) (R : Type) : EnvOK Go.Proofs.Tryd.prog (Ev21 N R) := EnvOK.addFn hmx (Ev20_ok N R) (Ev20_ok N _) (by kernel_rfl) (fun c => des_ofRounds_S N )
noncomputable def des_turned_L3_I : LI := ⟨23, 0, [], ⟨[(0, .ty (.int .u64)), (1, .ty (.int .i64)), (5, .ty (.int .i64)), (8, .ty (.arr 4 (.int .i64))), (9, .ty (.int .i64))], []⟩, [(.exit 0, ⟨[(0, .ty (.int .u64)), (5, .ty (.int .i64))], []⟩)]⟩
noncomputable def des_turned_L3 (N : Nat) (X : (((Int) × ((Int) × ((Int) × ((Arr (Int) 4) × ((Int) × Unit))))) × Unit) → Option ((((Int) × ((Int) × Unit)) × Unit))) (half0 : Int) (round1 : Int) (x5 : Int) (x8 : Arr (Int) 4) (x9 : Int) : Option ((((Int) × ((Int) × Unit)) × Unit)) :=
 bif (decide (x9 < (4 : Int))) then
  Option.bind (getI x8.l x9) fun (v7 : Int) =>
  bif (decide (v7 = round1)) then
   (X ((half0, (round1, ((1 : Int), (x8, ((Go.IntKind.wrap .i64 (x9 + (1 : Int))), @Unit.unit))))), @Unit.unit))
  else
   (X ((half0, (round1, (x5, (x8, ((Go.IntKind.wrap .i64 (x9 + (1 : Int))), @Unit.unit))))), @Unit.unit))
 else
  some (((half0, (x5, @Unit.unit)), @Unit.unit))
noncomputable def des_turned_L3_R (N : Nat) (c : (((Int) × ((Int) × ((Int) × ((Arr (Int) 4) × ((Int) × Unit))))) × Unit)) : Option ((((Int) × ((Int) × Unit)) × Unit)) := gl (fun X c => des_turned_L3 N X c.1.1 c.1.2.1 c.1.2.2.1 c.1.2.2.2.1 c.1.2.2.2.2.1) N c
theorem des_turned_L3_S (N : Nat) (X : (((Int) × ((Int) × ((Int) × ((Arr (Int) 4) × ((Int) × Unit))))) × Unit) → Option ((((Int) × ((Int) × Unit)) × Unit))) (half0 : Int) (round1 : Int) (x5 : Int) (x8 : Arr (Int) 4) (x9 : Int) : (roundK Go.Proofs.Tryd.prog (Ev21 N) 400 [29] des_turned_L3_I (loopAt Go.Proofs.Tryd.prog [29] 3) X ((half0, round1, x5, x8, x9, ()), ())).run = des_turned_L3 N X half0 round1 x5 x8 x9 := by kernel_rfl
noncomputable def Ev22 (N : Nat) : (R : Type) → Env R := Env.addLp (Ev21 N) [29] 0 3 (fun R => lpK Go.Proofs.Tryd.prog des_turned_L3_I (fun X c => des_turned_L3 N X c.1.1 c.1.2.1 c.1.2.2.1 c.1.2.2.2.1 c.1.2.2.2.2.1) N)
theorem Ev22_ok (N : Nat) (R : Type) : EnvOK Go.Proofs.Tryd.prog (Ev22 N R) := EnvOK.addLp (Ev21_ok N R) (by kernel_rfl) (lpK_ok (li := des_turned_L3_I) (G := fun X c => des_turned_L3 N X c.1.1 c.1.2.1 c.1.2.2.1 c.1.2.2.2.1 c.1.2.2.2.2.1) hmx (Ev21_ok N _) (by kernel_rfl) loopAt_sub (fun (X : CT des_turned_L3_I.sh → Option (OT des_turned_L3_I.outs)) (c : CT des_turned_L3_I.sh) => des_turned_L3_S N X c.1.1 c.1.2.1 c.1.2.2.1 c.1.2.2.2.1 c.1.2.2.2.2.1) N)
noncomputable def bitp_Turn (N : Nat) (x0 : Int) (width1 : Int) (n2 : Int) : Option ((Int) × Int) :=
 Option.bind (@bitp_may N width1) fun (v4 : Bool) =>
 bif (!v4) then
  some (((0 : Int), (1 : Int)))
 else
  bif (decide (width1 = (0 : Int))) then
   none
  else
   bif (decide ((@Int.tmod n2 width1) < (0 : Int))) then
    Option.bind (@bitp_Split N x0 width1 (Go.IntKind.wrap .i64 ((@Int.tmod n2 width1) + width1))) fun (v5 : (Int × (Int × Int))) =>
    bif (decide ((0 : Int) ≤ (Go.IntKind.wrap .i64 ((@Int.tmod n2 width1) + width1)))) then
     some (((@Go.bits @Go.BinOp.or @Go.IntKind.u64 (Go.IntKind.wrap .u64 (v5.2.1 * (@HPow.hPow Int Nat Int (@instHPow Int Nat (@instPowNat Int @Int.instNatPow)) (2 : Int) (@Min.min Nat @instMinNat (Int.toNat (Go.IntKind.wrap .i64 ((@Int.tmod n2 width1) + width1))) (@Go.IntKind.bits @Go.IntKind.u64))))) v5.1), (0 : Int)))
    else
     none
   else
    Option.bind (@bitp_Split N x0 width1 (@Int.tmod n2 width1)) fun (v5 : (Int × (Int × Int))) =>
    bif (decide ((0 : Int) ≤ (@Int.tmod n2 width1))) then
     some (((@Go.bits @Go.BinOp.or @Go.IntKind.u64 (Go.IntKind.wrap .u64 (v5.2.1 * (@HPow.hPow Int Nat Int (@instHPow Int Nat (@instPowNat Int @Int.instNatPow)) (2 : Int) (@Min.min Nat @instMinNat (Int.toNat (@Int.tmod n2 width1)) (@Go.IntKind.bits @Go.IntKind.u64))))) v5.1), (0 : Int)))
    else
     none
theorem bitp_Turn_S (N : Nat) (x0 : Int) (width1 : Int) (n2 : Int) : (runK Go.Proofs.Tryd.prog (Ev22 N) 400 50 [(.int .u64), (.int .i64), (.int .i64)] [(.int .u64), (.int .i64)] (x0, width1, n2, ())).run = bitp_Turn N x0 width1 n2 := by kernel_rfl
noncomputable def Ev23 (N : Nat) : (R : Type) → Env R := Env.addFn (Ev22 N) 50 (fun R => fnK [(.int .u64), (.int .i64), (.int .i64)] [(.int .u64), (.int .i64)] (fun c => bitp_Turn N c.1 c.2.1 c.2.2.1))
theorem Ev23_ok (N : Nat) (R : Type) : EnvOK Go.Proofs.Tryd.prog (Ev23 N R) := EnvOK.addFn hmx (Ev22_ok N R) (Ev22_ok N _) (by kernel_rfl) (fun c => bitp_Turn_S N c.1 c.2.1 c.2.2.1)
noncomputable def des_turned (N : Nat) (half0 : Int) (round1 : Int) : Option (Int) :=
 Option.bind (des_turned_L3_R N ((half0, (round1, ((2 : Int), ((@Arr.mk Int (4 : Nat) ([(@OfNat.ofNat Int (1 : Nat) (@instOfNat (1 : Nat))), (@OfNat.ofNat Int (2 : Nat) (@instOfNat (2 : Nat))), (@OfNat.ofNat Int (9 : Nat) (@instOfNat (9 : Nat))), (@OfNat.ofNat Int (16 : Nat) (@instOfNat (16 : Nat)))] : List (Int)) @globVs._proof_1), ((0 : Int), @Unit.unit))))), @Unit.unit)) fun (v3 : ((Int × (Int × Unit)) × Unit)) =>
 Option.bind (@bitp_Turn N v3.1.1 (28 : Int) v3.1.2.1) fun (v4 : (Int × Int)) =>
 some (v4.1)
theorem des_turned_S (N : Nat) (half0 : Int) (round1 : Int) : (runK Go.Proofs.Tryd.prog (Ev23 N) 400 29 [(.int .u64), (.int .i64)] [(.int .u64)] (half0, round1, ())).run = des_turned N half0 round1 := by kernel_rfl
noncomputable def Ev24 (N : Nat) : (R : Type) → Env R := Env.addFn (Ev23 N) 29 (fun R => fnK [(.int .u64), (.int .i64)] [(.int .u64)] (fun c => des_turned N c.1 c.2.1))
theorem Ev24_ok (N : Nat) (R : Type) : EnvOK Go.Proofs.Tryd.prog (Ev24 N R) := EnvOK.addFn hmx (Ev23_ok N R) (Ev23_ok N _) (by kernel_rfl) (fun c => des_turned_S N c.1 c.2.1)
noncomputable def des_Keys_L5_I : LI := ⟨39, 0, [], ⟨[(2, .lit (.box 0 0)), (3, .ty (.int .u64)), (4, .ty (.int .u64)), (6, .ty (.sl (.int .i64))), (7, .lit (.box 1 0)), (18, .ty (.int .i64))], [.box 25 (.arr 16 (.int .u64)), .box 25 (.arr 16 (.int .u64))]⟩, [(.exit 0, ⟨[(2, .lit (.box 0 0)), (7, .lit (.box 1 0))], [.box 25 (.arr 16 (.int .u64)), .box 25 (.arr 16 (.int .u64))]⟩)]⟩
noncomputable def des_Keys_L5 (N : Nat) (X : (((Int) × ((Int) × ((List (Int)) × ((Int) × Unit)))) × ((Arr (Int) 16) × ((Arr (Int) 16) × Unit))) → Option ((Unit × ((Arr (Int) 16) × ((Arr (Int) 16) × Unit))))) (left3 : Int) (right4 : Int) (table6 : List (Int)) (x18 : Int) (h0 : Arr (Int) 16) (h1 : Arr (Int) 16) : Option ((Unit × ((Arr (Int) 16) × ((Arr (Int) 16) × Unit)))) :=
 bif (decide (x18 < (16 : Int))) then
  Option.bind (@des_turned N left3 (Go.IntKind.wrap .i64 (x18 + (1 : Int)))) fun (v8 : Int) =>
  Option.bind (@des_turned N right4 (Go.IntKind.wrap .i64 (x18 + (1 : Int)))) fun (v9 : Int) =>
  Option.bind (@des_permuted N (@Go.bits @Go.BinOp.or @Go.IntKind.u64 (Go.IntKind.wrap .u64 (v8 * (@HPow.hPow Int Nat Int (@instHPow Int Nat (@instPowNat Int @Int.instNatPow)) (2 : Int) (@Min.min Nat @instMinNat (Int.toNat (28 : Int)) (@Go.IntKind.bits @Go.IntKind.u64))))) v9) (56 : Int) table6) fun (v10 : Int) =>
  bif (decide ((0 : Int) ≤ x18 ∧ x18 < (((16 : Nat) : Nat) : Int))) then
   Option.bind (@GetElem?.getElem? (List Int) Nat Int (fun (as11 : (List Int)) => (fun (i12 : Nat) => (@LT.lt Nat @instLTNat i12 (List.length as11)))) (@List.instGetElem?NatLtLength Int) h1.l (Int.toNat x18)) fun (v11 : Int) =>
   (X ((v8, (v9, (table6, ((Go.IntKind.wrap .i64 (x18 + (1 : Int))), @Unit.unit)))), (h0, ((h1.set (Int.toNat x18) v10), @Unit.unit))))
  else
   none
 else
  some ((@Unit.unit, (h0, (h1, @Unit.unit))))
noncomputable def des_Keys_L5_R (N : Nat) (c : (((Int) × ((Int) × ((List (Int)) × ((Int) × Unit)))) × ((Arr (Int) 16) × ((Arr (Int) 16) × Unit)))) : Option ((Unit × ((Arr (Int) 16) × ((Arr (Int) 16) × Unit)))) := gl (fun X c => des_Keys_L5 N X c.1.1 c.1.2.1 c.1.2.2.1 c.1.2.2.2.1 c.2.1 c.2.2.1) N c
theorem des_Keys_L5_S (N : Nat) (X : (((Int) × ((Int) × ((List (Int)) × ((Int) × Unit)))) × ((Arr (Int) 16) × ((Arr (Int) 16) × Unit))) → Option ((Unit × ((Arr (Int) 16) × ((Arr (Int) 16) × Unit))))) (left3 : Int) (right4 : Int) (table6 : List (Int)) (x18 : Int) (h0 : Arr (Int) 16) (h1 : Arr (Int) 16) : (roundK Go.Proofs.Tryd.prog (Ev24 N) 400 [10] des_Keys_L5_I (loopAt Go.Proofs.Tryd.prog [10] 5) X ((left3, right4, table6, x18, ()), (h0, h1, ()))).run = des_Keys_L5 N X left3 right4 table6 x18 h0 h1 := by kernel_rfl
noncomputable def Ev25 (N : Nat) : (R : Type) → Env R := Env.addLp (Ev24 N) [10] 0 5 (fun R => lpK Go.Proofs.Tryd.prog des_Keys_L5_I (fun X c => des_Keys_L5 N X c.1.1 c.1.2.1 c.1.2.2.1 c.1.2.2.2.1 c.2.1 c.2.2.1) N)
theorem Ev25_ok (N : Nat) (R : Type) : EnvOK Go.Proofs.Tryd.prog (Ev25 N R) := EnvOK.addLp (Ev24_ok N R) (by kernel_rfl) (lpK_ok (li := des_Keys_L5_I) (G := fun X c => des_Keys_L5 N X c.1.1 c.1.2.1 c.1.2.2.1 c.1.2.2.2.1 c.2.1 c.2.2.1) hmx (Ev24_ok N _) (by kernel_rfl) loopAt_sub (fun (X : CT des_Keys_L5_I.sh → Option (OT des_Keys_L5_I.outs)) (c : CT des_Keys_L5_I.sh) => des_Keys_L5_S N X c.1.1 c.1.2.1 c.1.2.2.1 c.1.2.2.2.1 c.2.1 c.2.2.1) N)
noncomputable def des_Keys (N : Nat) (key0 : Int) : Option (Arr (Int) 16) :=
 Option.bind (@des_ofKeys N) fun (v2 : (List Int)) =>
 Option.bind (@des_permuted N key0 (64 : Int) v2) fun (v3 : Int) =>
 Option.bind (des_Keys_L5_R N (((@Int.fdiv (@Go.bits @Go.BinOp.and @Go.IntKind.u64 v3 (Go.IntKind.wrap .u64 ((Go.IntKind.wrap .u64 ((1 : Int) * (@HPow.hPow Int Nat Int (@instHPow Int Nat (@instPowNat Int @Int.instNatPow)) (2 : Int) (@Min.min Nat @instMinNat (Int.toNat (56 : Int)) (@Go.IntKind.bits @Go.IntKind.u64))))) - (1 : Int)))) (@HPow.hPow Int Nat Int (@instHPow Int Nat (@instPowNat Int @Int.instNatPow)) (2 : Int) (@Min.min Nat @instMinNat (Int.toNat (Go.IntKind.wrap .i64 ((56 : Int) - (28 : Int)))) (@Go.IntKind.bits @Go.IntKind.u64)))), ((@Go.bits @Go.BinOp.and @Go.IntKind.u64 (@Go.bits @Go.BinOp.and @Go.IntKind.u64 v3 (Go.IntKind.wrap .u64 ((Go.IntKind.wrap .u64 ((1 : Int) * (@HPow.hPow Int Nat Int (@instHPow Int Nat (@instPowNat Int @Int.instNatPow)) (2 : Int) (@Min.min Nat @instMinNat (Int.toNat (56 : Int)) (@Go.IntKind.bits @Go.IntKind.u64))))) - (1 : Int)))) (Go.IntKind.wrap .u64 ((Go.IntKind.wrap .u64 ((1 : Int) * (@HPow.hPow Int Nat Int (@instHPow Int Nat (@instPowNat Int @Int.instNatPow)) (2 : Int) (@Min.min Nat @instMinNat (Int.toNat (Go.IntKind.wrap .i64 ((56 : Int) - (28 : Int)))) (@Go.IntKind.bits @Go.IntKind.u64))))) - (1 : Int)))), ((((([(14 : Int), (17 : Int), (11 : Int), (24 : Int), (1 : Int), (5 : Int), (3 : Int), (28 : Int), (15 : Int), (6 : Int), (21 : Int), (10 : Int)] : List (Int)) ++ ([(23 : Int), (19 : Int), (12 : Int), (4 : Int), (26 : Int), (8 : Int), (16 : Int), (7 : Int), (27 : Int), (20 : Int), (13 : Int), (2 : Int)] : List (Int))) ++ ([(41 : Int), (52 : Int), (31 : Int), (37 : Int), (47 : Int), (55 : Int), (30 : Int), (40 : Int), (51 : Int), (45 : Int), (33 : Int), (48 : Int)] : List (Int))) ++ ([(44 : Int), (49 : Int), (39 : Int), (56 : Int), (34 : Int), (53 : Int), (46 : Int), (42 : Int), (50 : Int), (36 : Int), (29 : Int), (32 : Int)] : List (Int))), ((0 : Int), @Unit.unit)))), ((@Arr.cons Int (15 : Nat) (0 : Int) (@Arr.cons Int (14 : Nat) (0 : Int) (@Arr.cons Int (13 : Nat) (0 : Int) (@Arr.cons Int (12 : Nat) (0 : Int) (@Arr.cons Int (11 : Nat) (0 : Int) (@Arr.cons Int (10 : Nat) (0 : Int) (@Arr.cons Int (9 : Nat) (0 : Int) (@Arr.cons Int (8 : Nat) (0 : Int) (@Arr.cons Int (7 : Nat) (0 : Int) (@Arr.cons Int (6 : Nat) (0 : Int) (@Arr.cons Int (5 : Nat) (0 : Int) (@Arr.cons Int (4 : Nat) (0 : Int) (@Arr.cons Int (3 : Nat) (0 : Int) (@Arr.cons Int (2 : Nat) (0 : Int) (@Arr.cons Int (1 : Nat) (0 : Int) (@Arr.cons Int (0 : Nat) (0 : Int) (@Arr.nil Int))))))))))))))))), ((@Arr.cons Int (15 : Nat) (0 : Int) (@Arr.cons Int (14 : Nat) (0 : Int) (@Arr.cons Int (13 : Nat) (0 : Int) (@Arr.cons Int (12 : Nat) (0 : Int) (@Arr.cons Int (11 : Nat) (0 : Int) (@Arr.cons Int (10 : Nat) (0 : Int) (@Arr.cons Int (9 : Nat) (0 : Int) (@Arr.cons Int (8 : Nat) (0 : Int) (@Arr.cons Int (7 : Nat) (0 : Int) (@Arr.cons Int (6 : Nat) (0 : Int) (@Arr.cons Int (5 : Nat) (0 : Int) (@Arr.cons Int (4 : Nat) (0 : Int) (@Arr.cons Int (3 : Nat) (0 : Int) (@Arr.cons Int (2 : Nat) (0 : Int) (@Arr.cons Int (1 : Nat) (0 : Int) (@Arr.cons Int (0 : Nat) (0 : Int) (@Arr.nil Int))))))))))))))))), @Unit.unit)))) fun (v4 : (Unit × ((Arr Int 16) × ((Arr Int 16) × Unit)))) =>
 some (v4.2.2.1)
theorem des_Keys_S (N : Nat) (key0 : Int) : (runK Go.Proofs.Tryd.prog (Ev25 N) 400 10 [(.int .u64)] [(.arr 16 (.int .u64))] (key0, ())).run = des_Keys N key0 := by kernel_rfl
theorem des_Keys_C (N : Nat) (key0 : Int) (y : Arr (Int) 16) (h : des_Keys N key0 = some y) : CallsK Go.Proofs.Tryd.prog 10 (valA [(.int .u64)] (key0, ())) (tupV (valR [(.arr 16 (.int .u64))] y)) := runK_ok hmx (Ev25_ok N _) (okFn_ok (by kernel_rfl)) (by rw [des_Keys_S]; exact h)
noncomputable def Ev26 (N : Nat) : (R : Type) → Env R := Env.addFn (Ev25 N) 10 (fun R => fnK [(.int .u64)] [(.arr 16 (.int .u64))] (fun c => des_Keys N c.1))
theorem Ev26_ok (N : Nat) (R : Type) : EnvOK Go.Proofs.Tryd.prog (Ev26 N R) := EnvOK.addFn hmx (Ev25_ok N R) (Ev25_ok N _) (by kernel_rfl) (fun c => des_Keys_S N c.1)
noncomputable def Ev27 (N : Nat) : (R : Type) → Env R := Env.addMv (Ev26 N) [(33, 8)]
theorem Ev27_ok (N : Nat) (R : Type) : EnvOK Go.Proofs.Tryd.prog (Ev27 N R) := EnvOK.addMv (Ev26_ok N R) [(33, 8)]
noncomputable def des_wide_L6_I : LI := ⟨24, 0, [], ⟨[(1, .lit (.own 0)), (2, .ty (.int .i64)), (4, .ty (.int .i64)), (7, .ty (.int .i64))], [.own (.int .i64) 3]⟩, [(.exit 2, ⟨[(1, .lit (.own 0)), (4, .ty (.int .i64))], [.own (.int .i64) 3]⟩)]⟩
noncomputable def des_wide_L6 (N : Nat) (X : (((Int) × ((Int) × ((Int) × Unit))) × ((List (Int)) × Unit)) → Option ((((Int) × Unit) × ((List (Int)) × Unit)))) (row2 : Int) (x4 : Int) (x7 : Int) (h0 : List (Int)) : Option ((((Int) × Unit) × ((List (Int)) × Unit))) :=
 bif (decide (x7 < (6 : Int))) then
  bif (roomB ((List.length h0) + (List.length ([(Go.IntKind.wrap .i64 ((@Int.tmod (Go.IntKind.wrap .i64 ((Go.IntKind.wrap .i64 ((Go.IntKind.wrap .i64 ((Go.IntKind.wrap .i64 ((4 : Int) * row2)) + x7)) + (32 : Int))) - (1 : Int))) (32 : Int)) + (1 : Int)))] : List (Int)))) 8) then
   (X ((row2, (x4, ((Go.IntKind.wrap .i64 (x7 + (1 : Int))), @Unit.unit))), ((h0 ++ ([(Go.IntKind.wrap .i64 ((@Int.tmod (Go.IntKind.wrap .i64 ((Go.IntKind.wrap .i64 ((Go.IntKind.wrap .i64 ((Go.IntKind.wrap .i64 ((4 : Int) * row2)) + x7)) + (32 : Int))) - (1 : Int))) (32 : Int)) + (1 : Int)))] : List (Int))), @Unit.unit)))
  else
   none
 else
  some (((x4, @Unit.unit), (h0, @Unit.unit)))
noncomputable def des_wide_L6_R (N : Nat) (c : (((Int) × ((Int) × ((Int) × Unit))) × ((List (Int)) × Unit))) : Option ((((Int) × Unit) × ((List (Int)) × Unit))) := gl (fun X c => des_wide_L6 N X c.1.1 c.1.2.1 c.1.2.2.1 c.2.1) N c
theorem des_wide_L6_S (N : Nat) (X : (((Int) × ((Int) × ((Int) × Unit))) × ((List (Int)) × Unit)) → Option ((((Int) × Unit) × ((List (Int)) × Unit)))) (row2 : Int) (x4 : Int) (x7 : Int) (h0 : List (Int)) : (roundK Go.Proofs.Tryd.prog (Ev27 N) 400 [33] des_wide_L6_I (loopAt Go.Proofs.Tryd.prog [33] 6) X ((row2, x4, x7, ()), (h0, ()))).run = des_wide_L6 N X row2 x4 x7 h0 := by kernel_rfl
noncomputable def Ev28 (N : Nat) : (R : Type) → Env R := Env.addLp (Ev27 N) [33] 0 6 (fun R => lpK Go.Proofs.Tryd.prog des_wide_L6_I (fun X c => des_wide_L6 N X c.1.1 c.1.2.1 c.1.2.2.1 c.2.1) N)
theorem Ev28_ok (N : Nat) (R : Type) : EnvOK Go.Proofs.Tryd.prog (Ev28 N R) := EnvOK.addLp (Ev27_ok N R) (by kernel_rfl) (lpK_ok (li := des_wide_L6_I) (G := fun X c => des_wide_L6 N X c.1.1 c.1.2.1 c.1.2.2.1 c.2.1) hmx (Ev27_ok N _) (by kernel_rfl) loopAt_sub (fun (X : CT des_wide_L6_I.sh → Option (OT des_wide_L6_I.outs)) (c : CT des_wide_L6_I.sh) => des_wide_L6_S N X c.1.1 c.1.2.1 c.1.2.2.1 c.2.1) N)
noncomputable def des_wide_L3_I : LI := ⟨24, 0, [(1, 3)], ⟨[(1, .lit (.own 0)), (4, .ty (.int .i64))], [.own (.int .i64) 3]⟩, [(.exit 0, ⟨[(1, .lit (.own 0))], [.own (.int .i64) 3]⟩)]⟩
noncomputable def des_wide_L3 (N : Nat) (X : (((Int) × Unit) × ((List (Int)) × Unit)) → Option ((Unit × ((List (Int)) × Unit)))) (x4 : Int) (h0 : List (Int)) : Option ((Unit × ((List (Int)) × Unit))) :=
 bif (decide (x4 < (8 : Int))) then
  Option.bind (des_wide_L6_R N ((x4, (x4, ((0 : Int), @Unit.unit))), (h0, @Unit.unit))) fun (v4 : ((Int × Unit) × ((List Int) × Unit))) =>
  (X (((Go.IntKind.wrap .i64 (v4.1.1 + (1 : Int))), @Unit.unit), (v4.2.1, @Unit.unit)))
 else
  some ((@Unit.unit, (h0, @Unit.unit)))
noncomputable def des_wide_L3_R (N : Nat) (c : (((Int) × Unit) × ((List (Int)) × Unit))) : Option ((Unit × ((List (Int)) × Unit))) := gl (fun X c => des_wide_L3 N X c.1.1 c.2.1) N c
theorem des_wide_L3_S (N : Nat) (X : (((Int) × Unit) × ((List (Int)) × Unit)) → Option ((Unit × ((List (Int)) × Unit)))) (x4 : Int) (h0 : List (Int)) : (roundK Go.Proofs.Tryd.prog (Ev28 N) 400 [33] des_wide_L3_I (loopAt Go.Proofs.Tryd.prog [33] 3) X ((x4, ()), (h0, ()))).run = des_wide_L3 N X x4 h0 := by kernel_rfl
noncomputable def Ev29 (N : Nat) : (R : Type) → Env R := Env.addLp (Ev28 N) [33] 0 3 (fun R => lpK Go.Proofs.Tryd.prog des_wide_L3_I (fun X c => des_wide_L3 N X c.1.1 c.2.1) N)
theorem Ev29_ok (N : Nat) (R : Type) : EnvOK Go.Proofs.Tryd.prog (Ev29 N R) := EnvOK.addLp (Ev28_ok N R) (by kernel_rfl) (lpK_ok (li := des_wide_L3_I) (G := fun X c => des_wide_L3 N X c.1.1 c.2.1) hmx (Ev28_ok N _) (by kernel_rfl) loopAt_sub (fun (X : CT des_wide_L3_I.sh → Option (OT des_wide_L3_I.outs)) (c : CT des_wide_L3_I.sh) => des_wide_L3_S N X c.1.1 c.2.1) N)
noncomputable def des_wide (N : Nat) : Option (List (Int)) :=
 Option.bind (des_wide_L3_R N (((0 : Int), @Unit.unit), (([] : List (Int)), @Unit.unit))) fun (v1 : (Unit × ((List Int) × Unit))) =>
 some (v1.2.1)
theorem des_wide_S (N : Nat) : (runK Go.Proofs.Tryd.prog (Ev29 N) 400 33 [] [(.sl (.int .i64))] ()).run = des_wide N  := by kernel_rfl
noncomputable def Ev30 (N : Nat) : (R : Type) → Env R := Env.addFn (Ev29 N) 33 (fun R => fnK [] [(.sl (.int .i64))] (fun c => des_wide N ))
theorem Ev30_ok (N : Nat) (R : Type) : EnvOK Go.Proofs.Tryd.prog (Ev30 N R) := EnvOK.addFn hmx (Ev29_ok N R) (Ev29_ok N _) (by kernel_rfl) (fun c => des_wide_S N )
noncomputable def des_mixing (N : Nat) : Option (List (Int)) :=
 some ((((([(16 : Int), (7 : Int), (20 : Int), (21 : Int), (29 : Int), (12 : Int), (28 : Int), (17 : Int)] : List (Int)) ++ ([(1 : Int), (15 : Int), (23 : Int), (26 : Int), (5 : Int), (18 : Int), (31 : Int), (10 : Int)] : List (Int))) ++ ([(2 : Int), (8 : Int), (24 : Int), (14 : Int), (32 : Int), (27 : Int), (3 : Int), (9 : Int)] : List (Int))) ++ ([(19 : Int), (13 : Int), (30 : Int), (6 : Int), (22 : Int), (11 : Int), (4 : Int), (25 : Int)] : List (Int))))
theorem des_mixing_S (N : Nat) : (runK Go.Proofs.Tryd.prog (Ev30 N) 400 34 [] [(.sl (.int .i64))] ()).run = des_mixing N  := by kernel_rfl
noncomputable def Ev31 (N : Nat) : (R : Type) → Env R := Env.addFn (Ev30 N) 34 (fun R => fnK [] [(.sl (.int .i64))] (fun c => des_mixing N ))
theorem Ev31_ok (N : Nat) (R : Type) : EnvOK Go.Proofs.Tryd.prog (Ev31 N R) := EnvOK.addFn hmx (Ev30_ok N R) (Ev30_ok N _) (by kernel_rfl) (fun c => des_mixing_S N )
noncomputable def des_word_L4_I : LI := ⟨36, 0, [], ⟨[(3, .ty (.sl (.int .i64))), (9, .ty (.int .u64)), (10, .ty (.int .u64)), (11, .ty (.int .i64))], []⟩, [(.exit 0, ⟨[(3, .ty (.sl (.int .i64))), (10, .ty (.int .u64))], []⟩)]⟩
noncomputable def des_word_L4 (N : Nat) (X : (((List (Int)) × ((Int) × ((Int) × ((Int) × Unit)))) × Unit) → Option ((((List (Int)) × ((Int) × Unit)) × Unit))) (mix3 : List (Int)) (six9 : Int) (digits10 : Int) (n11 : Int) : Option ((((List (Int)) × ((Int) × Unit)) × Unit)) :=
 bif (decide (n11 ≤ (8 : Int))) then
  bif (decide ((0 : Int) ≤ (Go.IntKind.wrap .i64 ((48 : Int) - (Go.IntKind.wrap .i64 ((6 : Int) * n11)))))) then
   Option.bind (@des_Box N n11 (@Int.fdiv six9 (@HPow.hPow Int Nat Int (@instHPow Int Nat (@instPowNat Int @Int.instNatPow)) (2 : Int) (@Min.min Nat @instMinNat (Int.toNat (Go.IntKind.wrap .i64 ((48 : Int) - (Go.IntKind.wrap .i64 ((6 : Int) * n11))))) (@Go.IntKind.bits @Go.IntKind.u64))))) fun (v6 : Int) =>
   (X ((mix3, (six9, ((@Go.bits @Go.BinOp.or @Go.IntKind.u64 (Go.IntKind.wrap .u64 (digits10 * (@HPow.hPow Int Nat Int (@instHPow Int Nat (@instPowNat Int @Int.instNatPow)) (2 : Int) (@Min.min Nat @instMinNat (Int.toNat (4 : Int)) (@Go.IntKind.bits @Go.IntKind.u64))))) v6), ((Go.IntKind.wrap .i64 (n11 + (1 : Int))), @Unit.unit)))), @Unit.unit))
  else
   none
 else
  some (((mix3, (digits10, @Unit.unit)), @Unit.unit))
noncomputable def des_word_L4_R (N : Nat) (c : (((List (Int)) × ((Int) × ((Int) × ((Int) × Unit)))) × Unit)) : Option ((((List (Int)) × ((Int) × Unit)) × Unit)) := gl (fun X c => des_word_L4 N X c.1.1 c.1.2.1 c.1.2.2.1 c.1.2.2.2.1) N c
theorem des_word_L4_S (N : Nat) (X : (((List (Int)) × ((Int) × ((Int) × ((Int) × Unit)))) × Unit) → Option ((((List (Int)) × ((Int) × Unit)) × Unit))) (mix3 : List (Int)) (six9 : Int) (digits10 : Int) (n11 : Int) : (roundK Go.Proofs.Tryd.prog (Ev31 N) 400 [32] des_word_L4_I (loopAt Go.Proofs.Tryd.prog [32] 4) X ((mix3, six9, digits10, n11, ()), ())).run = des_word_L4 N X mix3 six9 digits10 n11 := by kernel_rfl
noncomputable def Ev32 (N : Nat) : (R : Type) → Env R := Env.addLp (Ev31 N) [32] 0 4 (fun R => lpK Go.Proofs.Tryd.prog des_word_L4_I (fun X c => des_word_L4 N X c.1.1 c.1.2.1 c.1.2.2.1 c.1.2.2.2.1) N)
theorem Ev32_ok (N : Nat) (R : Type) : EnvOK Go.Proofs.Tryd.prog (Ev32 N R) := EnvOK.addLp (Ev31_ok N R) (by kernel_rfl) (lpK_ok (li := des_word_L4_I) (G := fun X c => des_word_L4 N X c.1.1 c.1.2.1 c.1.2.2.1 c.1.2.2.2.1) hmx (Ev31_ok N _) (by kernel_rfl) loopAt_sub (fun (X : CT des_word_L4_I.sh → Option (OT des_word_L4_I.outs)) (c : CT des_word_L4_I.sh) => des_word_L4_S N X c.1.1 c.1.2.1 c.1.2.2.1 c.1.2.2.2.1) N)
noncomputable def des_word (N : Nat) (half0 : Int) (key1 : Int) (widen2 : List (Int)) (mix3 : List (Int)) : Option (Int) :=
 Option.bind (@des_permuted N (Go.IntKind.wrap .u64 half0) (32 : Int) widen2) fun (v5 : Int) =>
 Option.bind (des_word_L4_R N ((mix3, ((@Go.bits @Go.BinOp.xor @Go.IntKind.u64 v5 key1), ((0 : Int), ((1 : Int), @Unit.unit)))), @Unit.unit)) fun (v6 : (((List Int) × (Int × Unit)) × Unit)) =>
 Option.bind (@des_permuted N v6.1.2.1 (32 : Int) v6.1.1) fun (v7 : Int) =>
 some ((Go.IntKind.wrap .u32 v7))
theorem des_word_S (N : Nat) (half0 : Int) (key1 : Int) (widen2 : List (Int)) (mix3 : List (Int)) : (runK Go.Proofs.Tryd.prog (Ev32 N) 400 32 [(.int .u32), (.int .u64), (.sl (.int .i64)), (.sl (.int .i64))] [(.int .u32)] (half0, key1, widen2, mix3, ())).run = des_word N half0 key1 widen2 mix3 := by kernel_rfl
noncomputable def Ev33 (N : Nat) : (R : Type) → Env R := Env.addFn (Ev32 N) 32 (fun R => fnK [(.int .u32), (.int .u64), (.sl (.int .i64)), (.sl (.int .i64))] [(.int .u32)] (fun c => des_word N c.1 c.2.1 c.2.2.1 c.2.2.2.1))
theorem Ev33_ok (N : Nat) (R : Type) : EnvOK Go.Proofs.Tryd.prog (Ev33 N R) := EnvOK.addFn hmx (Ev32_ok N R) (Ev32_ok N _) (by kernel_rfl) (fun c => des_word_S N c.1 c.2.1 c.2.2.1 c.2.2.2.1)
noncomputable def des_Word (N : Nat) (half0 : Int) (key1 : Int) : Option (Int) :=
 Option.bind (@des_wide N) fun (v3 : (List Int)) =>
 Option.bind (@des_word N half0 key1 v3 (((([(16 : Int), (7 : Int), (20 : Int), (21 : Int), (29 : Int), (12 : Int), (28 : Int), (17 : Int)] : List (Int)) ++ ([(1 : Int), (15 : Int), (23 : Int), (26 : Int), (5 : Int), (18 : Int), (31 : Int), (10 : Int)] : List (Int))) ++ ([(2 : Int), (8 : Int), (24 : Int), (14 : Int), (32 : Int), (27 : Int), (3 : Int), (9 : Int)] : List (Int))) ++ ([(19 : Int), (13 : Int), (30 : Int), (6 : Int), (22 : Int), (11 : Int), (4 : Int), (25 : Int)] : List (Int)))) fun (v4 : Int) =>
 some (v4)
theorem des_Word_S (N : Nat) (half0 : Int) (key1 : Int) : (runK Go.Proofs.Tryd.prog (Ev33 N) 400 12 [(.int .u32), (.int .u64)] [(.int .u32)] (half0, key1, ())).run = des_Word N half0 key1 := by kernel_rfl
theorem des_Word_C (N : Nat) (half0 : Int) (key1 : Int) (y : Int) (h : des_Word N half0 key1 = some y) : CallsK Go.Proofs.Tryd.prog 12 (valA [(.int .u32), (.int .u64)] (half0, key1, ())) (tupV (valR [(.int .u32)] y)) := runK_ok hmx (Ev33_ok N _) (okFn_ok (by kernel_rfl)) (by rw [des_Word_S]; exact h)
noncomputable def Ev34 (N : Nat) : (R : Type) → Env R := Env.addFn (Ev33 N) 12 (fun R => fnK [(.int .u32), (.int .u64)] [(.int .u32)] (fun c => des_Word N c.1 c.2.1))
theorem Ev34_ok (N : Nat) (R : Type) : EnvOK Go.Proofs.Tryd.prog (Ev34 N R) := EnvOK.addFn hmx (Ev33_ok N R) (Ev33_ok N _) (by kernel_rfl) (fun c => des_Word_S N c.1 c.2.1)
noncomputable def Ev35 (N : Nat) : (R : Type) → Env R := Env.addBx (Ev34 N) [(36, 0)]
theorem Ev35_ok (N : Nat) (R : Type) : EnvOK Go.Proofs.Tryd.prog (Ev35 N R) := EnvOK.addBx (Ev34_ok N R) [(36, 0)]
noncomputable def Ev36 (N : Nat) : (R : Type) → Env R := Env.addMv (Ev35 N) [(57, 5)]
theorem Ev36_ok (N : Nat) (R : Type) : EnvOK Go.Proofs.Tryd.prog (Ev36 N R) := EnvOK.addMv (Ev35_ok N R) [(57, 5)]
noncomputable def des_first_5_des_falling_L2_I : LI := ⟨21, 1, [(0, 3)], ⟨[(0, .lit (.own 1)), (1, .ty (.int .i64)), (8, .ty (.int .i64)), (9, .ty (.int .i64))], [.dead, .own (.int .i64) 3]⟩, [(.exit 0, ⟨[(0, .lit (.own 1))], [.dead, .own (.int .i64) 3]⟩)]⟩
noncomputable def des_first_5_des_falling_L2 (N : Nat) (X : (((Int) × ((Int) × ((Int) × Unit))) × ((List (Int)) × Unit)) → Option ((Unit × ((List (Int)) × Unit)))) (x1 : Int) (x8 : Int) (x9 : Int) (h0 : List (Int)) : Option ((Unit × ((List (Int)) × Unit))) :=
 bif (decide (x9 < x8)) then
  bif (roomB ((List.length h0) + (List.length ([(Go.IntKind.wrap .i64 (x1 - (Go.IntKind.wrap .i64 ((8 : Int) * x9))))] : List (Int)))) 8) then
   (X ((x1, (x8, ((Go.IntKind.wrap .i64 (x9 + (1 : Int))), @Unit.unit))), ((h0 ++ ([(Go.IntKind.wrap .i64 (x1 - (Go.IntKind.wrap .i64 ((8 : Int) * x9))))] : List (Int))), @Unit.unit)))
  else
   none
 else
  some ((@Unit.unit, (h0, @Unit.unit)))
noncomputable def des_first_5_des_falling_L2_R (N : Nat) (c : (((Int) × ((Int) × ((Int) × Unit))) × ((List (Int)) × Unit))) : Option ((Unit × ((List (Int)) × Unit))) := gl (fun X c => des_first_5_des_falling_L2 N X c.1.1 c.1.2.1 c.1.2.2.1 c.2.1) N c
theorem des_first_5_des_falling_L2_S (N : Nat) (X : (((Int) × ((Int) × ((Int) × Unit))) × ((List (Int)) × Unit)) → Option ((Unit × ((List (Int)) × Unit)))) (x1 : Int) (x8 : Int) (x9 : Int) (h0 : List (Int)) : (roundK Go.Proofs.Tryd.prog (Ev36 N) 400 [49, 5, 57] des_first_5_des_falling_L2_I (loopAt Go.Proofs.Tryd.prog [49, 5, 57] 2) X ((x1, x8, x9, ()), (h0, ()))).run = des_first_5_des_falling_L2 N X x1 x8 x9 h0 := by kernel_rfl
noncomputable def Ev37 (N : Nat) : (R : Type) → Env R := Env.addLp (Ev36 N) [49, 5, 57] 1 2 (fun R => lpK Go.Proofs.Tryd.prog des_first_5_des_falling_L2_I (fun X c => des_first_5_des_falling_L2 N X c.1.1 c.1.2.1 c.1.2.2.1 c.2.1) N)
theorem Ev37_ok (N : Nat) (R : Type) : EnvOK Go.Proofs.Tryd.prog (Ev37 N R) := EnvOK.addLp (Ev36_ok N R) (by kernel_rfl) (lpK_ok (li := des_first_5_des_falling_L2_I) (G := fun X c => des_first_5_des_falling_L2 N X c.1.1 c.1.2.1 c.1.2.2.1 c.2.1) hmx (Ev36_ok N _) (by kernel_rfl) loopAt_sub (fun (X : CT des_first_5_des_falling_L2_I.sh → Option (OT des_first_5_des_falling_L2_I.outs)) (c : CT des_first_5_des_falling_L2_I.sh) => des_first_5_des_falling_L2_S N X c.1.1 c.1.2.1 c.1.2.2.1 c.2.1) N)
noncomputable def des_first_L3_I : LI := ⟨13, 0, [(1, 3)], ⟨[(1, .lit (.own 0)), (4, .ty (.arr 8 (.int .i64))), (5, .ty (.int .i64))], [.own (.int .i64) 3]⟩, [(.exit 0, ⟨[(1, .lit (.own 0))], [.own (.int .i64) 3]⟩)]⟩
noncomputable def des_first_L3 (N : Nat) (X : (((Arr (Int) 8) × ((Int) × Unit)) × ((List (Int)) × Unit)) → Option ((Unit × ((List (Int)) × Unit)))) (x4 : Arr (Int) 8) (x5 : Int) (h0 : List (Int)) : Option ((Unit × ((List (Int)) × Unit))) :=
 bif (decide (x5 < (8 : Int))) then
  Option.bind (getI x4.l x5) fun (v5 : Int) =>
  Option.bind (des_first_5_des_falling_L2_R N ((v5, ((8 : Int), ((0 : Int), @Unit.unit))), (h0, @Unit.unit))) fun (v6 : (Unit × ((List Int) × Unit))) =>
  (X ((x4, ((Go.IntKind.wrap .i64 (x5 + (1 : Int))), @Unit.unit)), (v6.2.1, @Unit.unit)))
 else
  some ((@Unit.unit, (h0, @Unit.unit)))
noncomputable def des_first_L3_R (N : Nat) (c : (((Arr (Int) 8) × ((Int) × Unit)) × ((List (Int)) × Unit))) : Option ((Unit × ((List (Int)) × Unit))) := gl (fun X c => des_first_L3 N X c.1.1 c.1.2.1 c.2.1) N c
theorem des_first_L3_S (N : Nat) (X : (((Arr (Int) 8) × ((Int) × Unit)) × ((List (Int)) × Unit)) → Option ((Unit × ((List (Int)) × Unit)))) (x4 : Arr (Int) 8) (x5 : Int) (h0 : List (Int)) : (roundK Go.Proofs.Tryd.prog (Ev37 N) 400 [57] des_first_L3_I (loopAt Go.Proofs.Tryd.prog [57] 3) X ((x4, x5, ()), (h0, ()))).run = des_first_L3 N X x4 x5 h0 := by kernel_rfl
noncomputable def Ev38 (N : Nat) : (R : Type) → Env R := Env.addLp (Ev37 N) [57] 0 3 (fun R => lpK Go.Proofs.Tryd.prog des_first_L3_I (fun X c => des_first_L3 N X c.1.1 c.1.2.1 c.2.1) N)
theorem Ev38_ok (N : Nat) (R : Type) : EnvOK Go.Proofs.Tryd.prog (Ev38 N R) := EnvOK.addLp (Ev37_ok N R) (by kernel_rfl) (lpK_ok (li := des_first_L3_I) (G := fun X c => des_first_L3 N X c.1.1 c.1.2.1 c.2.1) hmx (Ev37_ok N _) (by kernel_rfl) loopAt_sub (fun (X : CT des_first_L3_I.sh → Option (OT des_first_L3_I.outs)) (c : CT des_first_L3_I.sh) => des_first_L3_S N X c.1.1 c.1.2.1 c.2.1) N)
noncomputable def des_first (N : Nat) : Option (List (Int)) :=
 Option.bind (des_first_L3_R N (((@Arr.cons Int (7 : Nat) (58 : Int) (@Arr.cons Int (6 : Nat) (60 : Int) (@Arr.cons Int (5 : Nat) (62 : Int) (@Arr.cons Int (4 : Nat) (64 : Int) (@Arr.cons Int (3 : Nat) (57 : Int) (@Arr.cons Int (2 : Nat) (59 : Int) (@Arr.cons Int (1 : Nat) (61 : Int) (@Arr.cons Int (0 : Nat) (63 : Int) (@Arr.nil Int))))))))), ((0 : Int), @Unit.unit)), (([] : List (Int)), @Unit.unit))) fun (v1 : (Unit × ((List Int) × Unit))) =>
 some (v1.2.1)
theorem des_first_S (N : Nat) : (runK Go.Proofs.Tryd.prog (Ev38 N) 400 57 [] [(.sl (.int .i64))] ()).run = des_first N  := by kernel_rfl
noncomputable def Ev39 (N : Nat) : (R : Type) → Env R := Env.addFn (Ev38 N) 57 (fun R => fnK [] [(.sl (.int .i64))] (fun c => des_first N ))
theorem Ev39_ok (N : Nat) (R : Type) : EnvOK Go.Proofs.Tryd.prog (Ev39 N R) := EnvOK.addFn hmx (Ev38_ok N R) (Ev38_ok N _) (by kernel_rfl) (fun c => des_first_S N )
noncomputable def des_through_L5_I : LI := ⟨43, 0, [], ⟨[(5, .ty (.sl (.int .i64))), (6, .ty (.sl (.int .i64))), (8, .ty (.int .u32)), (9, .ty (.int .u32)), (22, .ty (.arr 16 (.int .u64))), (23, .ty (.int .i64))], []⟩, [(.exit 0, ⟨[(8, .ty (.int .u32)), (9, .ty (.int .u32))], []⟩)]⟩
noncomputable def des_through_L5 (N : Nat) (X : (((List (Int)) × ((List (Int)) × ((Int) × ((Int) × ((Arr (Int) 16) × ((Int) × Unit)))))) × Unit) → Option ((((Int) × ((Int) × Unit)) × Unit))) (widen5 : List (Int)) (mix6 : List (Int)) (left8 : Int) (right9 : Int) (x22 : Arr (Int) 16) (x23 : Int) : Option ((((Int) × ((Int) × Unit)) × Unit)) :=
 bif (decide (x23 < (16 : Int))) then
  Option.bind (getI x22.l x23) fun (v8 : Int) =>
  Option.bind (@des_word N right9 v8 widen5 mix6) fun (v9 : Int) =>
  (X ((widen5, (mix6, (right9, ((@Go.bits @Go.BinOp.xor @Go.IntKind.u32 left8 v9), (x22, ((Go.IntKind.wrap .i64 (x23 + (1 : Int))), @Unit.unit)))))), @Unit.unit))
 else
  some (((left8, (right9, @Unit.unit)), @Unit.unit))
noncomputable def des_through_L5_R (N : Nat) (c : (((List (Int)) × ((List (Int)) × ((Int) × ((Int) × ((Arr (Int) 16) × ((Int) × Unit)))))) × Unit)) : Option ((((Int) × ((Int) × Unit)) × Unit)) := gl (fun X c => des_through_L5 N X c.1.1 c.1.2.1 c.1.2.2.1 c.1.2.2.2.1 c.1.2.2.2.2.1 c.1.2.2.2.2.2.1) N c
theorem des_through_L5_S (N : Nat) (X : (((List (Int)) × ((List (Int)) × ((Int) × ((Int) × ((Arr (Int) 16) × ((Int) × Unit)))))) × Unit) → Option ((((Int) × ((Int) × Unit)) × Unit))) (widen5 : List (Int)) (mix6 : List (Int)) (left8 : Int) (right9 : Int) (x22 : Arr (Int) 16) (x23 : Int) : (roundK Go.Proofs.Tryd.prog (Ev39 N) 400 [36] des_through_L5_I (loopAt Go.Proofs.Tryd.prog [36] 5) X ((widen5, mix6, left8, right9, x22, x23, ()), ())).run = des_through_L5 N X widen5 mix6 left8 right9 x22 x23 := by kernel_rfl
noncomputable def Ev40 (N : Nat) : (R : Type) → Env R := Env.addLp (Ev39 N) [36] 0 5 (fun R => lpK Go.Proofs.Tryd.prog des_through_L5_I (fun X c => des_through_L5 N X c.1.1 c.1.2.1 c.1.2.2.1 c.1.2.2.2.1 c.1.2.2.2.2.1 c.1.2.2.2.2.2.1) N)
theorem Ev40_ok (N : Nat) (R : Type) : EnvOK Go.Proofs.Tryd.prog (Ev40 N R) := EnvOK.addLp (Ev39_ok N R) (by kernel_rfl) (lpK_ok (li := des_through_L5_I) (G := fun X c => des_through_L5 N X c.1.1 c.1.2.1 c.1.2.2.1 c.1.2.2.2.1 c.1.2.2.2.2.1 c.1.2.2.2.2.2.1) hmx (Ev39_ok N _) (by kernel_rfl) loopAt_sub (fun (X : CT des_through_L5_I.sh → Option (OT des_through_L5_I.outs)) (c : CT des_through_L5_I.sh) => des_through_L5_S N X c.1.1 c.1.2.1 c.1.2.2.1 c.1.2.2.2.1 c.1.2.2.2.2.1 c.1.2.2.2.2.2.1) N)
noncomputable def des_last_L3_I : LI := ⟨20, 0, [], ⟨[(1, .lit (.own 0)), (5, .ty (.sl (.int .i64))), (6, .ty (.int .i64)), (7, .ty (.int .i64))], [.own (.int .i64) 3]⟩, [(.exit 0, ⟨[(1, .lit (.own 0))], [.own (.int .i64) 3]⟩)]⟩
noncomputable def des_last_L3 (N : Nat) (X : (((List (Int)) × ((Int) × ((Int) × Unit))) × ((List (Int)) × Unit)) → Option ((Unit × ((List (Int)) × Unit)))) (x5 : List (Int)) (x6 : Int) (x7 : Int) (h0 : List (Int)) : Option ((Unit × ((List (Int)) × Unit))) :=
 bif (decide (x7 < x6)) then
  Option.bind (getI x5 x7) fun (v6 : Int) =>
  bif (decide ((0 : Int) ≤ (Go.IntKind.wrap .i64 (v6 - (1 : Int))) ∧ (Go.IntKind.wrap .i64 (v6 - (1 : Int))) < (((List.length h0) : Nat) : Int))) then
   Option.bind (@GetElem?.getElem? (List Int) Nat Int (fun (as7 : (List Int)) => (fun (i8 : Nat) => (@LT.lt Nat @instLTNat i8 (List.length as7)))) (@List.instGetElem?NatLtLength Int) h0 (Int.toNat (Go.IntKind.wrap .i64 (v6 - (1 : Int))))) fun (v7 : Int) =>
   (X ((x5, (x6, ((Go.IntKind.wrap .i64 (x7 + (1 : Int))), @Unit.unit))), ((@List.set Int h0 (Int.toNat (Go.IntKind.wrap .i64 (v6 - (1 : Int)))) (Go.IntKind.wrap .i64 (x7 + (1 : Int)))), @Unit.unit)))
  else
   none
 else
  some ((@Unit.unit, (h0, @Unit.unit)))
noncomputable def des_last_L3_R (N : Nat) (c : (((List (Int)) × ((Int) × ((Int) × Unit))) × ((List (Int)) × Unit))) : Option ((Unit × ((List (Int)) × Unit))) := gl (fun X c => des_last_L3 N X c.1.1 c.1.2.1 c.1.2.2.1 c.2.1) N c
theorem des_last_L3_S (N : Nat) (X : (((List (Int)) × ((Int) × ((Int) × Unit))) × ((List (Int)) × Unit)) → Option ((Unit × ((List (Int)) × Unit)))) (x5 : List (Int)) (x6 : Int) (x7 : Int) (h0 : List (Int)) : (roundK Go.Proofs.Tryd.prog (Ev40 N) 400 [58] des_last_L3_I (loopAt Go.Proofs.Tryd.prog [58] 3) X ((x5, x6, x7, ()), (h0, ()))).run = des_last_L3 N X x5 x6 x7 h0 := by kernel_rfl
noncomputable def Ev41 (N : Nat) : (R : Type) → Env R := Env.addLp (Ev40 N) [58] 0 3 (fun R => lpK Go.Proofs.Tryd.prog des_last_L3_I (fun X c => des_last_L3 N X c.1.1 c.1.2.1 c.1.2.2.1 c.2.1) N)
theorem Ev41_ok (N : Nat) (R : Type) : EnvOK Go.Proofs.Tryd.prog (Ev41 N R) := EnvOK.addLp (Ev40_ok N R) (by kernel_rfl) (lpK_ok (li := des_last_L3_I) (G := fun X c => des_last_L3 N X c.1.1 c.1.2.1 c.1.2.2.1 c.2.1) hmx (Ev40_ok N _) (by kernel_rfl) loopAt_sub (fun (X : CT des_last_L3_I.sh → Option (OT des_last_L3_I.outs)) (c : CT des_last_L3_I.sh) => des_last_L3_S N X c.1.1 c.1.2.1 c.1.2.2.1 c.2.1) N)
noncomputable def des_last (N : Nat) : Option (List (Int)) :=
 Option.bind (@des_first N) fun (v1 : (List Int)) =>
 Option.bind (des_last_L3_R N ((v1, ((((List.length v1) : Nat) : Int), ((0 : Int), @Unit.unit))), ((@List.replicate Int (Int.toNat (64 : Int)) (0 : Int)), @Unit.unit))) fun (v2 : (Unit × ((List Int) × Unit))) =>
 some (v2.2.1)
theorem des_last_S (N : Nat) : (runK Go.Proofs.Tryd.prog (Ev41 N) 400 58 [] [(.sl (.int .i64))] ()).run = des_last N  := by kernel_rfl
noncomputable def Ev42 (N : Nat) : (R : Type) → Env R := Env.addFn (Ev41 N) 58 (fun R => fnK [] [(.sl (.int .i64))] (fun c => des_last N ))
theorem Ev42_ok (N : Nat) (R : Type) : EnvOK Go.Proofs.Tryd.prog (Ev42 N R) := EnvOK.addFn hmx (Ev41_ok N R) (Ev41_ok N _) (by kernel_rfl) (fun c => des_last_S N )
noncomputable def des_through (N : Nat) (keys0 : Arr (Int) 16) (block1 : Int) : Option (Int) :=
 Option.bind (@des_wide N) fun (v3 : (List Int)) =>
 Option.bind (@des_first N) fun (v4 : (List Int)) =>
 Option.bind (@des_permuted N block1 (64 : Int) v4) fun (v5 : Int) =>
 Option.bind (des_through_L5_R N ((v3, ((((([(16 : Int), (7 : Int), (20 : Int), (21 : Int), (29 : Int), (12 : Int), (28 : Int), (17 : Int)] : List (Int)) ++ ([(1 : Int), (15 : Int), (23 : Int), (26 : Int), (5 : Int), (18 : Int), (31 : Int), (10 : Int)] : List (Int))) ++ ([(2 : Int), (8 : Int), (24 : Int), (14 : Int), (32 : Int), (27 : Int), (3 : Int), (9 : Int)] : List (Int))) ++ ([(19 : Int), (13 : Int), (30 : Int), (6 : Int), (22 : Int), (11 : Int), (4 : Int), (25 : Int)] : List (Int))), ((Go.IntKind.wrap .u32 (@Int.fdiv v5 (@HPow.hPow Int Nat Int (@instHPow Int Nat (@instPowNat Int @Int.instNatPow)) (2 : Int) (@Min.min Nat @instMinNat (Int.toNat (32 : Int)) (@Go.IntKind.bits @Go.IntKind.u64))))), ((Go.IntKind.wrap .u32 v5), (keys0, ((0 : Int), @Unit.unit)))))), @Unit.unit)) fun (v6 : ((Int × (Int × Unit)) × Unit)) =>
 Option.bind (@des_last N) fun (v7 : (List Int)) =>
 Option.bind (@des_permuted N (@Go.bits @Go.BinOp.or @Go.IntKind.u64 (Go.IntKind.wrap .u64 ((Go.IntKind.wrap .u64 v6.1.2.1) * (@HPow.hPow Int Nat Int (@instHPow Int Nat (@instPowNat Int @Int.instNatPow)) (2 : Int) (@Min.min Nat @instMinNat (Int.toNat (32 : Int)) (@Go.IntKind.bits @Go.IntKind.u64))))) (Go.IntKind.wrap .u64 v6.1.1)) (64 : Int) v7) fun (v8 : Int) =>
 some (v8)
theorem des_through_S (N : Nat) (keys0 : Arr (Int) 16) (block1 : Int) : (runK Go.Proofs.Tryd.prog (Ev42 N) 400 36 [(.arr 16 (.int .u64)), (.int .u64)] [(.int .u64)] (keys0, block1, ())).run = des_through N keys0 block1 := by kernel_rfl
noncomputable def Ev43 (N : Nat) : (R : Type) → Env R := Env.addFn (Ev42 N) 36 (fun R => fnK [(.arr 16 (.int .u64)), (.int .u64)] [(.int .u64)] (fun c => des_through N c.1 c.2.1))
theorem Ev43_ok (N : Nat) (R : Type) : EnvOK Go.Proofs.Tryd.prog (Ev43 N R) := EnvOK.addFn hmx (Ev42_ok N R) (Ev42_ok N _) (by kernel_rfl) (fun c => des_through_S N c.1 c.2.1)
noncomputable def des_Turn (N : Nat) (key0 : Int) (block1 : Int) : Option (Int) :=
 Option.bind (@des_Keys N key0) fun (v3 : (Arr Int 16)) =>
 Option.bind (@des_through N v3 block1) fun (v4 : Int) =>
 some (v4)
theorem des_Turn_S (N : Nat) (key0 : Int) (block1 : Int) : (runK Go.Proofs.Tryd.prog (Ev43 N) 400 15 [(.int .u64), (.int .u64)] [(.int .u64)] (key0, block1, ())).run = des_Turn N key0 block1 := by kernel_rfl
theorem des_Turn_C (N : Nat) (key0 : Int) (block1 : Int) (y : Int) (h : des_Turn N key0 block1 = some y) : CallsK Go.Proofs.Tryd.prog 15 (valA [(.int .u64), (.int .u64)] (key0, block1, ())) (tupV (valR [(.int .u64)] y)) := runK_ok hmx (Ev43_ok N _) (okFn_ok (by kernel_rfl)) (by rw [des_Turn_S]; exact h)
noncomputable def Ev44 (N : Nat) : (R : Type) → Env R := Env.addFn (Ev43 N) 15 (fun R => fnK [(.int .u64), (.int .u64)] [(.int .u64)] (fun c => des_Turn N c.1 c.2.1))
theorem Ev44_ok (N : Nat) (R : Type) : EnvOK Go.Proofs.Tryd.prog (Ev44 N R) := EnvOK.addFn hmx (Ev43_ok N R) (Ev43_ok N _) (by kernel_rfl) (fun c => des_Turn_S N c.1 c.2.1)
noncomputable def des_Back_L4_I : LI := ⟨24, 0, [], ⟨[(1, .ty (.int .u64)), (6, .lit (.box 0 0)), (11, .ty (.arr 16 (.int .u64))), (12, .ty (.int .i64))], [.box 25 (.arr 16 (.int .u64))]⟩, [(.exit 0, ⟨[(1, .ty (.int .u64)), (6, .lit (.box 0 0))], [.box 25 (.arr 16 (.int .u64))]⟩)]⟩
noncomputable def des_Back_L4 (N : Nat) (X : (((Int) × ((Arr (Int) 16) × ((Int) × Unit))) × ((Arr (Int) 16) × Unit)) → Option ((((Int) × Unit) × ((Arr (Int) 16) × Unit)))) (block1 : Int) (x11 : Arr (Int) 16) (x12 : Int) (h0 : Arr (Int) 16) : Option ((((Int) × Unit) × ((Arr (Int) 16) × Unit))) :=
 bif (decide (x12 < (16 : Int))) then
  Option.bind (getI x11.l x12) fun (v6 : Int) =>
  bif (decide ((0 : Int) ≤ (Go.IntKind.wrap .i64 ((15 : Int) - x12)) ∧ (Go.IntKind.wrap .i64 ((15 : Int) - x12)) < (((16 : Nat) : Nat) : Int))) then
   Option.bind (@GetElem?.getElem? (List Int) Nat Int (fun (as7 : (List Int)) => (fun (i8 : Nat) => (@LT.lt Nat @instLTNat i8 (List.length as7)))) (@List.instGetElem?NatLtLength Int) h0.l (Int.toNat (Go.IntKind.wrap .i64 ((15 : Int) - x12)))) fun (v7 : Int) =>
   (X ((block1, (x11, ((Go.IntKind.wrap .i64 (x12 + (1 : Int))), @Unit.unit))), ((h0.set (Int.toNat (Go.IntKind.wrap .i64 ((15 : Int) - x12))) v6), @Unit.unit)))
  else
   none
 else
  some (((block1, @Unit.unit), (h0, @Unit.unit)))
noncomputable def des_Back_L4_R (N : Nat) (c : (((Int) × ((Arr (Int) 16) × ((Int) × Unit))) × ((Arr (Int) 16) × Unit))) : Option ((((Int) × Unit) × ((Arr (Int) 16) × Unit))) := gl (fun X c => des_Back_L4 N X c.1.1 c.1.2.1 c.1.2.2.1 c.2.1) N c
theorem des_Back_L4_S (N : Nat) (X : (((Int) × ((Arr (Int) 16) × ((Int) × Unit))) × ((Arr (Int) 16) × Unit)) → Option ((((Int) × Unit) × ((Arr (Int) 16) × Unit)))) (block1 : Int) (x11 : Arr (Int) 16) (x12 : Int) (h0 : Arr (Int) 16) : (roundK Go.Proofs.Tryd.prog (Ev44 N) 400 [17] des_Back_L4_I (loopAt Go.Proofs.Tryd.prog [17] 4) X ((block1, x11, x12, ()), (h0, ()))).run = des_Back_L4 N X block1 x11 x12 h0 := by kernel_rfl
noncomputable def Ev45 (N : Nat) : (R : Type) → Env R := Env.addLp (Ev44 N) [17] 0 4 (fun R => lpK Go.Proofs.Tryd.prog des_Back_L4_I (fun X c => des_Back_L4 N X c.1.1 c.1.2.1 c.1.2.2.1 c.2.1) N)
theorem Ev45_ok (N : Nat) (R : Type) : EnvOK Go.Proofs.Tryd.prog (Ev45 N R) := EnvOK.addLp (Ev44_ok N R) (by kernel_rfl) (lpK_ok (li := des_Back_L4_I) (G := fun X c => des_Back_L4 N X c.1.1 c.1.2.1 c.1.2.2.1 c.2.1) hmx (Ev44_ok N _) (by kernel_rfl) loopAt_sub (fun (X : CT des_Back_L4_I.sh → Option (OT des_Back_L4_I.outs)) (c : CT des_Back_L4_I.sh) => des_Back_L4_S N X c.1.1 c.1.2.1 c.1.2.2.1 c.2.1) N)
noncomputable def des_Back (N : Nat) (key0 : Int) (block1 : Int) : Option (Int) :=
 Option.bind (@des_Keys N key0) fun (v3 : (Arr Int 16)) =>
 Option.bind (des_Back_L4_R N ((block1, (v3, ((0 : Int), @Unit.unit))), ((@Arr.cons Int (15 : Nat) (0 : Int) (@Arr.cons Int (14 : Nat) (0 : Int) (@Arr.cons Int (13 : Nat) (0 : Int) (@Arr.cons Int (12 : Nat) (0 : Int) (@Arr.cons Int (11 : Nat) (0 : Int) (@Arr.cons Int (10 : Nat) (0 : Int) (@Arr.cons Int (9 : Nat) (0 : Int) (@Arr.cons Int (8 : Nat) (0 : Int) (@Arr.cons Int (7 : Nat) (0 : Int) (@Arr.cons Int (6 : Nat) (0 : Int) (@Arr.cons Int (5 : Nat) (0 : Int) (@Arr.cons Int (4 : Nat) (0 : Int) (@Arr.cons Int (3 : Nat) (0 : Int) (@Arr.cons Int (2 : Nat) (0 : Int) (@Arr.cons Int (1 : Nat) (0 : Int) (@Arr.cons Int (0 : Nat) (0 : Int) (@Arr.nil Int))))))))))))))))), @Unit.unit))) fun (v4 : ((Int × Unit) × ((Arr Int 16) × Unit))) =>
 Option.bind (@des_through N v4.2.1 v4.1.1) fun (v5 : Int) =>
 some (v5)
theorem des_Back_S (N : Nat) (key0 : Int) (block1 : Int) : (runK Go.Proofs.Tryd.prog (Ev45 N) 400 17 [(.int .u64), (.int .u64)] [(.int .u64)] (key0, block1, ())).run = des_Back N key0 block1 := by kernel_rfl
theorem des_Back_C (N : Nat) (key0 : Int) (block1 : Int) (y : Int) (h : des_Back N key0 block1 = some y) : CallsK Go.Proofs.Tryd.prog 17 (valA [(.int .u64), (.int .u64)] (key0, block1, ())) (tupV (valR [(.int .u64)] y)) := runK_ok hmx (Ev45_ok N _) (okFn_ok (by kernel_rfl)) (by rw [des_Back_S]; exact h)
noncomputable def Ev46 (N : Nat) : (R : Type) → Env R := Env.addFn (Ev45 N) 17 (fun R => fnK [(.int .u64), (.int .u64)] [(.int .u64)] (fun c => des_Back N c.1 c.2.1))
theorem Ev46_ok (N : Nat) (R : Type) : EnvOK Go.Proofs.Tryd.prog (Ev46 N R) := EnvOK.addFn hmx (Ev45_ok N R) (Ev45_ok N _) (by kernel_rfl) (fun c => des_Back_S N c.1 c.2.1)
noncomputable def bitp_Spread_3_bitp_gathered_5_bitp_each_L4_I : LI := ⟨28, 4, [], ⟨[(1, .ty (.int .i64)), (2, .lit (.clo 68 [.box 2 0, .box 3 0, .box 0 0, .box 1 0])), (7, .ty (.int .u8)), (9, .ty (.sl (.int .u8))), (10, .ty (.int .i64)), (11, .ty (.int .i64)), (15, .ty (.int .i64)), (16, .ty (.int .i64))], [.box 3 (.int .i64), .boxp 32 [.own 4], .box 5 (.int .u8), .box 3 (.int .i64), .own (.int .u8) 5]⟩, [(.exit 2, ⟨[(1, .ty (.int .i64)), (2, .lit (.clo 68 [.box 2 0, .box 3 0, .box 0 0, .box 1 0])), (9, .ty (.sl (.int .u8))), (10, .ty (.int .i64)), (11, .ty (.int .i64))], [.box 3 (.int .i64), .boxp 32 [.own 4], .box 5 (.int .u8), .box 3 (.int .i64), .own (.int .u8) 5]⟩)]⟩
noncomputable def bitp_Spread_3_bitp_gathered_5_bitp_each_L4 (N : Nat) (X : (((Int) × ((Int) × ((List (Int)) × ((Int) × ((Int) × ((Int) × ((Int) × Unit))))))) × ((Int) × ((Int) × ((Int) × ((List (Int)) × Unit))))) → Option ((((Int) × ((List (Int)) × ((Int) × ((Int) × Unit)))) × ((Int) × ((Int) × ((Int) × ((List (Int)) × Unit))))))) (many1 : Int) (b7 : Int) (x9 : List (Int)) (x10 : Int) (x11 : Int) (x15 : Int) (x16 : Int) (h0 : Int) (h1 : Int) (h2 : Int) (h3 : List (Int)) : Option ((((Int) × ((List (Int)) × ((Int) × ((Int) × Unit)))) × ((Int) × ((Int) × ((Int) × ((List (Int)) × Unit)))))) :=
 bif (decide (x16 < x15)) then
  bif (decide ((0 : Int) ≤ (Go.IntKind.wrap .i64 ((7 : Int) - x16)))) then
   bif (decide ((Go.IntKind.wrap .i64 (h2 + (1 : Int))) = h0)) then
    bif (roomB ((List.length h3) + (List.length ([(@Go.bits @Go.BinOp.or @Go.IntKind.u8 (Go.IntKind.wrap .u8 (h1 * (@HPow.hPow Int Nat Int (@instHPow Int Nat (@instPowNat Int @Int.instNatPow)) (2 : Int) (@Min.min Nat @instMinNat (Int.toNat (1 : Int)) (@Go.IntKind.bits @Go.IntKind.u8))))) (@Go.bits @Go.BinOp.and @Go.IntKind.u8 (@Int.fdiv b7 (@HPow.hPow Int Nat Int (@instHPow Int Nat (@instPowNat Int @Int.instNatPow)) (2 : Int) (@Min.min Nat @instMinNat (Int.toNat (Go.IntKind.wrap .i64 ((7 : Int) - x16))) (@Go.IntKind.bits @Go.IntKind.u8)))) (1 : Int)))] : List (Int)))) 1) then
     (X ((many1, (b7, (x9, (x10, (x11, (x15, ((Go.IntKind.wrap .i64 (x16 + (1 : Int))), @Unit.unit))))))), (h0, ((0 : Int), ((0 : Int), ((h3 ++ ([(@Go.bits @Go.BinOp.or @Go.IntKind.u8 (Go.IntKind.wrap .u8 (h1 * (@HPow.hPow Int Nat Int (@instHPow Int Nat (@instPowNat Int @Int.instNatPow)) (2 : Int) (@Min.min Nat @instMinNat (Int.toNat (1 : Int)) (@Go.IntKind.bits @Go.IntKind.u8))))) (@Go.bits @Go.BinOp.and @Go.IntKind.u8 (@Int.fdiv b7 (@HPow.hPow Int Nat Int (@instHPow Int Nat (@instPowNat Int @Int.instNatPow)) (2 : Int) (@Min.min Nat @instMinNat (Int.toNat (Go.IntKind.wrap .i64 ((7 : Int) - x16))) (@Go.IntKind.bits @Go.IntKind.u8)))) (1 : Int)))] : List (Int))), @Unit.unit))))))
    else
     none
   else
    (X ((many1, (b7, (x9, (x10, (x11, (x15, ((Go.IntKind.wrap .i64 (x16 + (1 : Int))), @Unit.unit))))))), (h0, ((@Go.bits @Go.BinOp.or @Go.IntKind.u8 (Go.IntKind.wrap .u8 (h1 * (@HPow.hPow Int Nat Int (@instHPow Int Nat (@instPowNat Int @Int.instNatPow)) (2 : Int) (@Min.min Nat @instMinNat (Int.toNat (1 : Int)) (@Go.IntKind.bits @Go.IntKind.u8))))) (@Go.bits @Go.BinOp.and @Go.IntKind.u8 (@Int.fdiv b7 (@HPow.hPow Int Nat Int (@instHPow Int Nat (@instPowNat Int @Int.instNatPow)) (2 : Int) (@Min.min Nat @instMinNat (Int.toNat (Go.IntKind.wrap .i64 ((7 : Int) - x16))) (@Go.IntKind.bits @Go.IntKind.u8)))) (1 : Int))), ((Go.IntKind.wrap .i64 (h2 + (1 : Int))), (h3, @Unit.unit))))))
  else
   none
 else
  some (((many1, (x9, (x10, (x11, @Unit.unit)))), (h0, (h1, (h2, (h3, @Unit.unit))))))
noncomputable def bitp_Spread_3_bitp_gathered_5_bitp_each_L4_R (N : Nat) (c : (((Int) × ((Int) × ((List (Int)) × ((Int) × ((Int) × ((Int) × ((Int) × Unit))))))) × ((Int) × ((Int) × ((Int) × ((List (Int)) × Unit)))))) : Option ((((Int) × ((List (Int)) × ((Int) × ((Int) × Unit)))) × ((Int) × ((Int) × ((Int) × ((List (Int)) × Unit)))))) := gl (fun X c => bitp_Spread_3_bitp_gathered_5_bitp_each_L4 N X c.1.1 c.1.2.1 c.1.2.2.1 c.1.2.2.2.1 c.1.2.2.2.2.1 c.1.2.2.2.2.2.1 c.1.2.2.2.2.2.2.1 c.2.1 c.2.2.1 c.2.2.2.1 c.2.2.2.2.1) N c
theorem bitp_Spread_3_bitp_gathered_5_bitp_each_L4_S (N : Nat) (X : (((Int) × ((Int) × ((List (Int)) × ((Int) × ((Int) × ((Int) × ((Int) × Unit))))))) × ((Int) × ((Int) × ((Int) × ((List (Int)) × Unit))))) → Option ((((Int) × ((List (Int)) × ((Int) × ((Int) × Unit)))) × ((Int) × ((Int) × ((Int) × ((List (Int)) × Unit))))))) (many1 : Int) (b7 : Int) (x9 : List (Int)) (x10 : Int) (x11 : Int) (x15 : Int) (x16 : Int) (h0 : Int) (h1 : Int) (h2 : Int) (h3 : List (Int)) : (roundK Go.Proofs.Tryd.prog (Ev46 N) 400 [69, 5, 61, 3, 38] bitp_Spread_3_bitp_gathered_5_bitp_each_L4_I (loopAt Go.Proofs.Tryd.prog [69, 5, 61, 3, 38] 4) X ((many1, b7, x9, x10, x11, x15, x16, ()), (h0, h1, h2, h3, ()))).run = bitp_Spread_3_bitp_gathered_5_bitp_each_L4 N X many1 b7 x9 x10 x11 x15 x16 h0 h1 h2 h3 := by kernel_rfl
noncomputable def Ev47 (N : Nat) : (R : Type) → Env R := Env.addLp (Ev46 N) [69, 5, 61, 3, 38] 4 4 (fun R => lpK Go.Proofs.Tryd.prog bitp_Spread_3_bitp_gathered_5_bitp_each_L4_I (fun X c => bitp_Spread_3_bitp_gathered_5_bitp_each_L4 N X c.1.1 c.1.2.1 c.1.2.2.1 c.1.2.2.2.1 c.1.2.2.2.2.1 c.1.2.2.2.2.2.1 c.1.2.2.2.2.2.2.1 c.2.1 c.2.2.1 c.2.2.2.1 c.2.2.2.2.1) N)
theorem Ev47_ok (N : Nat) (R : Type) : EnvOK Go.Proofs.Tryd.prog (Ev47 N R) := EnvOK.addLp (Ev46_ok N R) (by kernel_rfl) (lpK_ok (li := bitp_Spread_3_bitp_gathered_5_bitp_each_L4_I) (G := fun X c => bitp_Spread_3_bitp_gathered_5_bitp_each_L4 N X c.1.1 c.1.2.1 c.1.2.2.1 c.1.2.2.2.1 c.1.2.2.2.2.1 c.1.2.2.2.2.2.1 c.1.2.2.2.2.2.2.1 c.2.1 c.2.2.1 c.2.2.2.1 c.2.2.2.2.1) hmx (Ev46_ok N _) (by kernel_rfl) loopAt_sub (fun (X : CT bitp_Spread_3_bitp_gathered_5_bitp_each_L4_I.sh → Option (OT bitp_Spread_3_bitp_gathered_5_bitp_each_L4_I.outs)) (c : CT bitp_Spread_3_bitp_gathered_5_bitp_each_L4_I.sh) => bitp_Spread_3_bitp_gathered_5_bitp_each_L4_S N X c.1.1 c.1.2.1 c.1.2.2.1 c.1.2.2.2.1 c.1.2.2.2.2.1 c.1.2.2.2.2.2.1 c.1.2.2.2.2.2.2.1 c.2.1 c.2.2.1 c.2.2.2.1 c.2.2.2.2.1) N)
noncomputable def bitp_Spread_3_bitp_gathered_5_bitp_each_L1_I : LI := ⟨28, 4, [], ⟨[(1, .ty (.int .i64)), (2, .lit (.clo 68 [.box 2 0, .box 3 0, .box 0 0, .box 1 0])), (9, .ty (.sl (.int .u8))), (10, .ty (.int .i64)), (11, .ty (.int .i64))], [.box 3 (.int .i64), .boxp 32 [.own 4], .box 5 (.int .u8), .box 3 (.int .i64), .own (.int .u8) 5]⟩, [(.exit 0, ⟨[], [.box 3 (.int .i64), .boxp 32 [.own 4], .box 5 (.int .u8), .box 3 (.int .i64), .own (.int .u8) 5]⟩)]⟩
noncomputable def bitp_Spread_3_bitp_gathered_5_bitp_each_L1 (N : Nat) (X : (((Int) × ((List (Int)) × ((Int) × ((Int) × Unit)))) × ((Int) × ((Int) × ((Int) × ((List (Int)) × Unit))))) → Option ((Unit × ((Int) × ((Int) × ((Int) × ((List (Int)) × Unit))))))) (many1 : Int) (x9 : List (Int)) (x10 : Int) (x11 : Int) (h0 : Int) (h1 : Int) (h2 : Int) (h3 : List (Int)) : Option ((Unit × ((Int) × ((Int) × ((Int) × ((List (Int)) × Unit)))))) :=
 bif (decide (x11 < x10)) then
  Option.bind (getI x9 x11) fun (v10 : Int) =>
  Option.bind (bitp_Spread_3_bitp_gathered_5_bitp_each_L4_R N ((many1, (v10, (x9, (x10, (x11, (many1, ((0 : Int), @Unit.unit))))))), (h0, (h1, (h2, (h3, @Unit.unit)))))) fun (v11 : ((Int × ((List Int) × (Int × (Int × Unit)))) × (Int × (Int × (Int × ((List Int) × Unit)))))) =>
  (X ((v11.1.1, (v11.1.2.1, (v11.1.2.2.1, ((Go.IntKind.wrap .i64 (v11.1.2.2.2.1 + (1 : Int))), @Unit.unit)))), (v11.2.1, ((v11.2).snd.1, ((v11.2).snd.2.1, ((v11.2).snd.2.2.1, @Unit.unit))))))
 else
  some ((@Unit.unit, (h0, (h1, (h2, (h3, @Unit.unit))))))
noncomputable def bitp_Spread_3_bitp_gathered_5_bitp_each_L1_R (N : Nat) (c : (((Int) × ((List (Int)) × ((Int) × ((Int) × Unit)))) × ((Int) × ((Int) × ((Int) × ((List (Int)) × Unit)))))) : Option ((Unit × ((Int) × ((Int) × ((Int) × ((List (Int)) × Unit)))))) := gl (fun X c => bitp_Spread_3_bitp_gathered_5_bitp_each_L1 N X c.1.1 c.1.2.1 c.1.2.2.1 c.1.2.2.2.1 c.2.1 c.2.2.1 c.2.2.2.1 c.2.2.2.2.1) N c
theorem bitp_Spread_3_bitp_gathered_5_bitp_each_L1_S (N : Nat) (X : (((Int) × ((List (Int)) × ((Int) × ((Int) × Unit)))) × ((Int) × ((Int) × ((Int) × ((List (Int)) × Unit))))) → Option ((Unit × ((Int) × ((Int) × ((Int) × ((List (Int)) × Unit))))))) (many1 : Int) (x9 : List (Int)) (x10 : Int) (x11 : Int) (h0 : Int) (h1 : Int) (h2 : Int) (h3 : List (Int)) : (roundK Go.Proofs.Tryd.prog (Ev47 N) 400 [69, 5, 61, 3, 38] bitp_Spread_3_bitp_gathered_5_bitp_each_L1_I (loopAt Go.Proofs.Tryd.prog [69, 5, 61, 3, 38] 1) X ((many1, x9, x10, x11, ()), (h0, h1, h2, h3, ()))).run = bitp_Spread_3_bitp_gathered_5_bitp_each_L1 N X many1 x9 x10 x11 h0 h1 h2 h3 := by kernel_rfl
noncomputable def Ev48 (N : Nat) : (R : Type) → Env R := Env.addLp (Ev47 N) [69, 5, 61, 3, 38] 4 1 (fun R => lpK Go.Proofs.Tryd.prog bitp_Spread_3_bitp_gathered_5_bitp_each_L1_I (fun X c => bitp_Spread_3_bitp_gathered_5_bitp_each_L1 N X c.1.1 c.1.2.1 c.1.2.2.1 c.1.2.2.2.1 c.2.1 c.2.2.1 c.2.2.2.1 c.2.2.2.2.1) N)
theorem Ev48_ok (N : Nat) (R : Type) : EnvOK Go.Proofs.Tryd.prog (Ev48 N R) := EnvOK.addLp (Ev47_ok N R) (by kernel_rfl) (lpK_ok (li := bitp_Spread_3_bitp_gathered_5_bitp_each_L1_I) (G := fun X c => bitp_Spread_3_bitp_gathered_5_bitp_each_L1 N X c.1.1 c.1.2.1 c.1.2.2.1 c.1.2.2.2.1 c.2.1 c.2.2.1 c.2.2.2.1 c.2.2.2.2.1) hmx (Ev47_ok N _) (by kernel_rfl) loopAt_sub (fun (X : CT bitp_Spread_3_bitp_gathered_5_bitp_each_L1_I.sh → Option (OT bitp_Spread_3_bitp_gathered_5_bitp_each_L1_I.outs)) (c : CT bitp_Spread_3_bitp_gathered_5_bitp_each_L1_I.sh) => bitp_Spread_3_bitp_gathered_5_bitp_each_L1_S N X c.1.1 c.1.2.1 c.1.2.2.1 c.1.2.2.2.1 c.2.1 c.2.2.1 c.2.2.2.1 c.2.2.2.2.1) N)
noncomputable def math_bits_OnesCount8 (N : Nat) (x0 : Int) : Option (Int) :=
 Option.bind (getI (@Array.toList UInt8 (@List.toArray UInt8 (@List.append UInt8 (@List.append UInt8 ([(@OfNat.ofNat UInt8 (0 : Nat) (@UInt8.instOfNat (0 : Nat))), (@OfNat.ofNat UInt8 (1 : Nat) (@UInt8.instOfNat (1 : Nat))), (@OfNat.ofNat UInt8 (1 : Nat) (@UInt8.instOfNat (1 : Nat))), (@OfNat.ofNat UInt8 (2 : Nat) (@UInt8.instOfNat (2 : Nat))), (@OfNat.ofNat UInt8 (1 : Nat) (@UInt8.instOfNat (1 : Nat))), (@OfNat.ofNat UInt8 (2 : Nat) (@UInt8.instOfNat (2 : Nat))), (@OfNat.ofNat UInt8 (2 : Nat) (@UInt8.instOfNat (2 : Nat))), (@OfNat.ofNat UInt8 (3 : Nat) (@UInt8.instOfNat (3 : Nat))), (@OfNat.ofNat UInt8 (1 : Nat) (@UInt8.instOfNat (1 : Nat))), (@OfNat.ofNat UInt8 (2 : Nat) (@UInt8.instOfNat (2 : Nat))), (@OfNat.ofNat UInt8 (2 : Nat) (@UInt8.instOfNat (2 : Nat))), (@OfNat.ofNat UInt8 (3 : Nat) (@UInt8.instOfNat (3 : Nat))), (@OfNat.ofNat UInt8 (2 : Nat) (@UInt8.instOfNat (2 : Nat))), (@OfNat.ofNat UInt8 (3 : Nat) (@UInt8.instOfNat (3 : Nat))), (@OfNat.ofNat UInt8 (3 : Nat) (@UInt8.instOfNat (3 : Nat))), (@OfNat.ofNat UInt8 (4 : Nat) (@UInt8.instOfNat (4 : Nat))), (@OfNat.ofNat UInt8 (1 : Nat) (@UInt8.instOfNat (1 : Nat))), (@OfNat.ofNat UInt8 (2 : Nat) (@UInt8.instOfNat (2 : Nat))), (@OfNat.ofNat UInt8 (2 : Nat) (@UInt8.instOfNat (2 : Nat))), (@OfNat.ofNat UInt8 (3 : Nat) (@UInt8.instOfNat (3 : Nat))), (@OfNat.ofNat UInt8 (2 : Nat) (@UInt8.instOfNat (2 : Nat))), (@OfNat.ofNat UInt8 (3 : Nat) (@UInt8.instOfNat (3 : Nat))), (@OfNat.ofNat UInt8 (3 : Nat) (@UInt8.instOfNat (3 : Nat))), (@OfNat.ofNat UInt8 (4 : Nat) (@UInt8.instOfNat (4 : Nat))), (@OfNat.ofNat UInt8 (2 : Nat) (@UInt8.instOfNat (2 : Nat))), (@OfNat.ofNat UInt8 (3 : Nat) (@UInt8.instOfNat (3 : Nat))), (@OfNat.ofNat UInt8 (3 : Nat) (@UInt8.instOfNat (3 : Nat))), (@OfNat.ofNat UInt8 (4 : Nat) (@UInt8.instOfNat (4 : Nat))), (@OfNat.ofNat UInt8 (3 : Nat) (@UInt8.instOfNat (3 : Nat))), (@OfNat.ofNat UInt8 (4 : Nat) (@UInt8.instOfNat (4 : Nat))), (@OfNat.ofNat UInt8 (4 : Nat) (@UInt8.instOfNat (4 : Nat))), (@OfNat.ofNat UInt8 (5 : Nat) (@UInt8.instOfNat (5 : Nat))), (@OfNat.ofNat UInt8 (1 : Nat) (@UInt8.instOfNat (1 : Nat))), (@OfNat.ofNat UInt8 (2 : Nat) (@UInt8.instOfNat (2 : Nat))), (@OfNat.ofNat UInt8 (2 : Nat) (@UInt8.instOfNat (2 : Nat))), (@OfNat.ofNat UInt8 (3 : Nat) (@UInt8.instOfNat (3 : Nat))), (@OfNat.ofNat UInt8 (2 : Nat) (@UInt8.instOfNat (2 : Nat))), (@OfNat.ofNat UInt8 (3 : Nat) (@UInt8.instOfNat (3 : Nat))), (@OfNat.ofNat UInt8 (3 : Nat) (@UInt8.instOfNat (3 : Nat))), (@OfNat.ofNat UInt8 (4 : Nat) (@UInt8.instOfNat (4 : Nat))), (@OfNat.ofNat UInt8 (2 : Nat) (@UInt8.instOfNat (2 : Nat))), (@OfNat.ofNat UInt8 (3 : Nat) (@UInt8.instOfNat (3 : Nat))), (@OfNat.ofNat UInt8 (3 : Nat) (@UInt8.instOfNat (3 : Nat))), (@OfNat.ofNat UInt8 (4 : Nat) (@UInt8.instOfNat (4 : Nat))), (@OfNat.ofNat UInt8 (3 : Nat) (@UInt8.instOfNat (3 : Nat))), (@OfNat.ofNat UInt8 (4 : Nat) (@UInt8.instOfNat (4 : Nat))), (@OfNat.ofNat UInt8 (4 : Nat) (@UInt8.instOfNat (4 : Nat))), (@OfNat.ofNat UInt8 (5 : Nat) (@UInt8.instOfNat (5 : Nat))), (@OfNat.ofNat UInt8 (2 : Nat) (@UInt8.instOfNat (2 : Nat))), (@OfNat.ofNat UInt8 (3 : Nat) (@UInt8.instOfNat (3 : Nat))), (@OfNat.ofNat UInt8 (3 : Nat) (@UInt8.instOfNat (3 : Nat))), (@OfNat.ofNat UInt8 (4 : Nat) (@UInt8.instOfNat (4 : Nat))), (@OfNat.ofNat UInt8 (3 : Nat) (@UInt8.instOfNat (3 : Nat))), (@OfNat.ofNat UInt8 (4 : Nat) (@UInt8.instOfNat (4 : Nat))), (@OfNat.ofNat UInt8 (4 : Nat) (@UInt8.instOfNat (4 : Nat))), (@OfNat.ofNat UInt8 (5 : Nat) (@UInt8.instOfNat (5 : Nat))), (@OfNat.ofNat UInt8 (3 : Nat) (@UInt8.instOfNat (3 : Nat))), (@OfNat.ofNat UInt8 (4 : Nat) (@UInt8.instOfNat (4 : Nat))), (@OfNat.ofNat UInt8 (4 : Nat) (@UInt8.instOfNat (4 : Nat))), (@OfNat.ofNat UInt8 (5 : Nat) (@UInt8.instOfNat (5 : Nat))), (@OfNat.ofNat UInt8 (4 : Nat) (@UInt8.instOfNat (4 : Nat))), (@OfNat.ofNat UInt8 (5 : Nat) (@UInt8.instOfNat (5 : Nat))), (@OfNat.ofNat UInt8 (5 : Nat) (@UInt8.instOfNat (5 : Nat))), (@OfNat.ofNat UInt8 (6 : Nat) (@UInt8.instOfNat (6 : Nat)))] : List (UInt8)) ([(@OfNat.ofNat UInt8 (1 : Nat) (@UInt8.instOfNat (1 : Nat))), (@OfNat.ofNat UInt8 (2 : Nat) (@UInt8.instOfNat (2 : Nat))), (@OfNat.ofNat UInt8 (2 : Nat) (@UInt8.instOfNat (2 : Nat))), (@OfNat.ofNat UInt8 (3 : Nat) (@UInt8.instOfNat (3 : Nat))), (@OfNat.ofNat UInt8 (2 : Nat) (@UInt8.instOfNat (2 : Nat))), (@OfNat.ofNat UInt8 (3 : Nat) (@UInt8.instOfNat (3 : Nat))), (@OfNat.ofNat UInt8 (3 : Nat) (@UInt8.instOfNat (3 : Nat))), (@OfNat.ofNat UInt8 (4 : Nat) (@UInt8.instOfNat (4 : Nat))), (@OfNat.ofNat UInt8 (2 : Nat) (@UInt8.instOfNat (2 : Nat))), (@OfNat.ofNat UInt8 (3 : Nat) (@UInt8.instOfNat (3 : Nat))), (@OfNat.ofNat UInt8 (3 : Nat) (@UInt8.instOfNat (3 : Nat))), (@OfNat.ofNat UInt8 (4 : Nat) (@UInt8.instOfNat (4 : Nat))), (@OfNat.ofNat UInt8 (3 : Nat) (@UInt8.instOfNat (3 : Nat))), (@OfNat.ofNat UInt8 (4 : Nat) (@UInt8.instOfNat (4 : Nat))), (@OfNat.ofNat UInt8 (4 : Nat) (@UInt8.instOfNat (4 : Nat))), (@OfNat.ofNat UInt8 (5 : Nat) (@UInt8.instOfNat (5 : Nat))), (@OfNat.ofNat UInt8 (2 : Nat) (@UInt8.instOfNat (2 : Nat))), (@OfNat.ofNat UInt8 (3 : Nat) (@UInt8.instOfNat (3 : Nat))), (@OfNat.ofNat UInt8 (3 : Nat) (@UInt8.instOfNat (3 : Nat))), (@OfNat.ofNat UInt8 (4 : Nat) (@UInt8.instOfNat (4 : Nat))), (@OfNat.ofNat UInt8 (3 : Nat) (@UInt8.instOfNat (3 : Nat))), (@OfNat.ofNat UInt8 (4 : Nat) (@UInt8.instOfNat (4 : Nat))), (@OfNat.ofNat UInt8 (4 : Nat) (@UInt8.instOfNat (4 : Nat))), (@OfNat.ofNat UInt8 (5 : Nat) (@UInt8.instOfNat (5 : Nat))), (@OfNat.ofNat UInt8 (3 : Nat) (@UInt8.instOfNat (3 : Nat))), (@OfNat.ofNat UInt8 (4 : Nat) (@UInt8.instOfNat (4 : Nat))), (@OfNat.ofNat UInt8 (4 : Nat) (@UInt8.instOfNat (4 : Nat))), (@OfNat.ofNat UInt8 (5 : Nat) (@UInt8.instOfNat (5 : Nat))), (@OfNat.ofNat UInt8 (4 : Nat) (@UInt8.instOfNat (4 : Nat))), (@OfNat.ofNat UInt8 (5 : Nat) (@UInt8.instOfNat (5 : Nat))), (@OfNat.ofNat UInt8 (5 : Nat) (@UInt8.instOfNat (5 : Nat))), (@OfNat.ofNat UInt8 (6 : Nat) (@UInt8.instOfNat (6 : Nat))), (@OfNat.ofNat UInt8 (2 : Nat) (@UInt8.instOfNat (2 : Nat))), (@OfNat.ofNat UInt8 (3 : Nat) (@UInt8.instOfNat (3 : Nat))), (@OfNat.ofNat UInt8 (3 : Nat) (@UInt8.instOfNat (3 : Nat))), (@OfNat.ofNat UInt8 (4 : Nat) (@UInt8.instOfNat (4 : Nat))), (@OfNat.ofNat UInt8 (3 : Nat) (@UInt8.instOfNat (3 : Nat))), (@OfNat.ofNat UInt8 (4 : Nat) (@UInt8.instOfNat (4 : Nat))), (@OfNat.ofNat UInt8 (4 : Nat) (@UInt8.instOfNat (4 : Nat))), (@OfNat.ofNat UInt8 (5 : Nat) (@UInt8.instOfNat (5 : Nat))), (@OfNat.ofNat UInt8 (3 : Nat) (@UInt8.instOfNat (3 : Nat))), (@OfNat.ofNat UInt8 (4 : Nat) (@UInt8.instOfNat (4 : Nat))), (@OfNat.ofNat UInt8 (4 : Nat) (@UInt8.instOfNat (4 : Nat))), (@OfNat.ofNat UInt8 (5 : Nat) (@UInt8.instOfNat (5 : Nat))), (@OfNat.ofNat UInt8 (4 : Nat) (@UInt8.instOfNat (4 : Nat))), (@OfNat.ofNat UInt8 (5 : Nat) (@UInt8.instOfNat (5 : Nat))), (@OfNat.ofNat UInt8 (5 : Nat) (@UInt8.instOfNat (5 : Nat))), (@OfNat.ofNat UInt8 (6 : Nat) (@UInt8.instOfNat (6 : Nat))), (@OfNat.ofNat UInt8 (3 : Nat) (@UInt8.instOfNat (3 : Nat))), (@OfNat.ofNat UInt8 (4 : Nat) (@UInt8.instOfNat (4 : Nat))), (@OfNat.ofNat UInt8 (4 : Nat) (@UInt8.instOfNat (4 : Nat))), (@OfNat.ofNat UInt8 (5 : Nat) (@UInt8.instOfNat (5 : Nat))), (@OfNat.ofNat UInt8 (4 : Nat) (@UInt8.instOfNat (4 : Nat))), (@OfNat.ofNat UInt8 (5 : Nat) (@UInt8.instOfNat (5 : Nat))), (@OfNat.ofNat UInt8 (5 : Nat) (@UInt8.instOfNat (5 : Nat))), (@OfNat.ofNat UInt8 (6 : Nat) (@UInt8.instOfNat (6 : Nat))), (@OfNat.ofNat UInt8 (4 : Nat) (@UInt8.instOfNat (4 : Nat))), (@OfNat.ofNat UInt8 (5 : Nat) (@UInt8.instOfNat (5 : Nat))), (@OfNat.ofNat UInt8 (5 : Nat) (@UInt8.instOfNat (5 : Nat))), (@OfNat.ofNat UInt8 (6 : Nat) (@UInt8.instOfNat (6 : Nat))), (@OfNat.ofNat UInt8 (5 : Nat) (@UInt8.instOfNat (5 : Nat))), (@OfNat.ofNat UInt8 (6 : Nat) (@UInt8.instOfNat (6 : Nat))), (@OfNat.ofNat UInt8 (6 : Nat) (@UInt8.instOfNat (6 : Nat))), (@OfNat.ofNat UInt8 (7 : Nat) (@UInt8.instOfNat (7 : Nat)))] : List (UInt8))) (@List.append UInt8 ([(@OfNat.ofNat UInt8 (1 : Nat) (@UInt8.instOfNat (1 : Nat))), (@OfNat.ofNat UInt8 (2 : Nat) (@UInt8.instOfNat (2 : Nat))), (@OfNat.ofNat UInt8 (2 : Nat) (@UInt8.instOfNat (2 : Nat))), (@OfNat.ofNat UInt8 (3 : Nat) (@UInt8.instOfNat (3 : Nat))), (@OfNat.ofNat UInt8 (2 : Nat) (@UInt8.instOfNat (2 : Nat))), (@OfNat.ofNat UInt8 (3 : Nat) (@UInt8.instOfNat (3 : Nat))), (@OfNat.ofNat UInt8 (3 : Nat) (@UInt8.instOfNat (3 : Nat))), (@OfNat.ofNat UInt8 (4 : Nat) (@UInt8.instOfNat (4 : Nat))), (@OfNat.ofNat UInt8 (2 : Nat) (@UInt8.instOfNat (2 : Nat))), (@OfNat.ofNat UInt8 (3 : Nat) (@UInt8.instOfNat (3 : Nat))), (@OfNat.ofNat UInt8 (3 : Nat) (@UInt8.instOfNat (3 : Nat))), (@OfNat.ofNat UInt8 (4 : Nat) (@UInt8.instOfNat (4 : Nat))), (@OfNat.ofNat UInt8 (3 : Nat) (@UInt8.instOfNat (3 : Nat))), (@OfNat.ofNat UInt8 (4 : Nat) (@UInt8.instOfNat (4 : Nat))), (@OfNat.ofNat UInt8 (4 : Nat) (@UInt8.instOfNat (4 : Nat))), (@OfNat.ofNat UInt8 (5 : Nat) (@UInt8.instOfNat (5 : Nat))), (@OfNat.ofNat UInt8 (2 : Nat) (@UInt8.instOfNat (2 : Nat))), (@OfNat.ofNat UInt8 (3 : Nat) (@UInt8.instOfNat (3 : Nat))), (@OfNat.ofNat UInt8 (3 : Nat) (@UInt8.instOfNat (3 : Nat))), (@OfNat.ofNat UInt8 (4 : Nat) (@UInt8.instOfNat (4 : Nat))), (@OfNat.ofNat UInt8 (3 : Nat) (@UInt8.instOfNat (3 : Nat))), (@OfNat.ofNat UInt8 (4 : Nat) (@UInt8.instOfNat (4 : Nat))), (@OfNat.ofNat UInt8 (4 : Nat) (@UInt8.instOfNat (4 : Nat))), (@OfNat.ofNat UInt8 (5 : Nat) (@UInt8.instOfNat (5 : Nat))), (@OfNat.ofNat UInt8 (3 : Nat) (@UInt8.instOfNat (3 : Nat))), (@OfNat.ofNat UInt8 (4 : Nat) (@UInt8.instOfNat (4 : Nat))), (@OfNat.ofNat UInt8 (4 : Nat) (@UInt8.instOfNat (4 : Nat))), (@OfNat.ofNat UInt8 (5 : Nat) (@UInt8.instOfNat (5 : Nat))), (@OfNat.ofNat UInt8 (4 : Nat) (@UInt8.instOfNat (4 : Nat))), (@OfNat.ofNat UInt8 (5 : Nat) (@UInt8.instOfNat (5 : Nat))), (@OfNat.ofNat UInt8 (5 : Nat) (@UInt8.instOfNat (5 : Nat))), (@OfNat.ofNat UInt8 (6 : Nat) (@UInt8.instOfNat (6 : Nat))), (@OfNat.ofNat UInt8 (2 : Nat) (@UInt8.instOfNat (2 : Nat))), (@OfNat.ofNat UInt8 (3 : Nat) (@UInt8.instOfNat (3 : Nat))), (@OfNat.ofNat UInt8 (3 : Nat) (@UInt8.instOfNat (3 : Nat))), (@OfNat.ofNat UInt8 (4 : Nat) (@UInt8.instOfNat (4 : Nat))), (@OfNat.ofNat UInt8 (3 : Nat) (@UInt8.instOfNat (3 : Nat))), (@OfNat.ofNat UInt8 (4 : Nat) (@UInt8.instOfNat (4 : Nat))), (@OfNat.ofNat UInt8 (4 : Nat) (@UInt8.instOfNat (4 : Nat))), (@OfNat.ofNat UInt8 (5 : Nat) (@UInt8.instOfNat (5 : Nat))), (@OfNat.ofNat UInt8 (3 : Nat) (@UInt8.instOfNat (3 : Nat))), (@OfNat.ofNat UInt8 (4 : Nat) (@UInt8.instOfNat (4 : Nat))), (@OfNat.ofNat UInt8 (4 : Nat) (@UInt8.instOfNat (4 : Nat))), (@OfNat.ofNat UInt8 (5 : Nat) (@UInt8.instOfNat (5 : Nat))), (@OfNat.ofNat UInt8 (4 : Nat) (@UInt8.instOfNat (4 : Nat))), (@OfNat.ofNat UInt8 (5 : Nat) (@UInt8.instOfNat (5 : Nat))), (@OfNat.ofNat UInt8 (5 : Nat) (@UInt8.instOfNat (5 : Nat))), (@OfNat.ofNat UInt8 (6 : Nat) (@UInt8.instOfNat (6 : Nat))), (@OfNat.ofNat UInt8 (3 : Nat) (@UInt8.instOfNat (3 : Nat))), (@OfNat.ofNat UInt8 (4 : Nat) (@UInt8.instOfNat (4 : Nat))), (@OfNat.ofNat UInt8 (4 : Nat) (@UInt8.instOfNat (4 : Nat))), (@OfNat.ofNat UInt8 (5 : Nat) (@UInt8.instOfNat (5 : Nat))), (@OfNat.ofNat UInt8 (4 : Nat) (@UInt8.instOfNat (4 : Nat))), (@OfNat.ofNat UInt8 (5 : Nat) (@UInt8.instOfNat (5 : Nat))), (@OfNat.ofNat UInt8 (5 : Nat) (@UInt8.instOfNat (5 : Nat))), (@OfNat.ofNat UInt8 (6 : Nat) (@UInt8.instOfNat (6 : Nat))), (@OfNat.ofNat UInt8 (4 : Nat) (@UInt8.instOfNat (4 : Nat))), (@OfNat.ofNat UInt8 (5 : Nat) (@UInt8.instOfNat (5 : Nat))), (@OfNat.ofNat UInt8 (5 : Nat) (@UInt8.instOfNat (5 : Nat))), (@OfNat.ofNat UInt8 (6 : Nat) (@UInt8.instOfNat (6 : Nat))), (@OfNat.ofNat UInt8 (5 : Nat) (@UInt8.instOfNat (5 : Nat))), (@OfNat.ofNat UInt8 (6 : Nat) (@UInt8.instOfNat (6 : Nat))), (@OfNat.ofNat UInt8 (6 : Nat) (@UInt8.instOfNat (6 : Nat))), (@OfNat.ofNat UInt8 (7 : Nat) (@UInt8.instOfNat (7 : Nat)))] : List (UInt8)) ([(@OfNat.ofNat UInt8 (2 : Nat) (@UInt8.instOfNat (2 : Nat))), (@OfNat.ofNat UInt8 (3 : Nat) (@UInt8.instOfNat (3 : Nat))), (@OfNat.ofNat UInt8 (3 : Nat) (@UInt8.instOfNat (3 : Nat))), (@OfNat.ofNat UInt8 (4 : Nat) (@UInt8.instOfNat (4 : Nat))), (@OfNat.ofNat UInt8 (3 : Nat) (@UInt8.instOfNat (3 : Nat))), (@OfNat.ofNat UInt8 (4 : Nat) (@UInt8.instOfNat (4 : Nat))), (@OfNat.ofNat UInt8 (4 : Nat) (@UInt8.instOfNat (4 : Nat))), (@OfNat.ofNat UInt8 (5 : Nat) (@UInt8.instOfNat (5 : Nat))), (@OfNat.ofNat UInt8 (3 : Nat) (@UInt8.instOfNat (3 : Nat))), (@OfNat.ofNat UInt8 (4 : Nat) (@UInt8.instOfNat (4 : Nat))), (@OfNat.ofNat UInt8 (4 : Nat) (@UInt8.instOfNat (4 : Nat))), (@OfNat.ofNat UInt8 (5 : Nat) (@UInt8.instOfNat (5 : Nat))), (@OfNat.ofNat UInt8 (4 : Nat) (@UInt8.instOfNat (4 : Nat))), (@OfNat.ofNat UInt8 (5 : Nat) (@UInt8.instOfNat (5 : Nat))), (@OfNat.ofNat UInt8 (5 : Nat) (@UInt8.instOfNat (5 : Nat))), (@OfNat.ofNat UInt8 (6 : Nat) (@UInt8.instOfNat (6 : Nat))), (@OfNat.ofNat UInt8 (3 : Nat) (@UInt8.instOfNat (3 : Nat))), (@OfNat.ofNat UInt8 (4 : Nat) (@UInt8.instOfNat (4 : Nat))), (@OfNat.ofNat UInt8 (4 : Nat) (@UInt8.instOfNat (4 : Nat))), (@OfNat.ofNat UInt8 (5 : Nat) (@UInt8.instOfNat (5 : Nat))), (@OfNat.ofNat UInt8 (4 : Nat) (@UInt8.instOfNat (4 : Nat))), (@OfNat.ofNat UInt8 (5 : Nat) (@UInt8.instOfNat (5 : Nat))), (@OfNat.ofNat UInt8 (5 : Nat) (@UInt8.instOfNat (5 : Nat))), (@OfNat.ofNat UInt8 (6 : Nat) (@UInt8.instOfNat (6 : Nat))), (@OfNat.ofNat UInt8 (4 : Nat) (@UInt8.instOfNat (4 : Nat))), (@OfNat.ofNat UInt8 (5 : Nat) (@UInt8.instOfNat (5 : Nat))), (@OfNat.ofNat UInt8 (5 : Nat) (@UInt8.instOfNat (5 : Nat))), (@OfNat.ofNat UInt8 (6 : Nat) (@UInt8.instOfNat (6 : Nat))), (@OfNat.ofNat UInt8 (5 : Nat) (@UInt8.instOfNat (5 : Nat))), (@OfNat.ofNat UInt8 (6 : Nat) (@UInt8.instOfNat (6 : Nat))), (@OfNat.ofNat UInt8 (6 : Nat) (@UInt8.instOfNat (6 : Nat))), (@OfNat.ofNat UInt8 (7 : Nat) (@UInt8.instOfNat (7 : Nat))), (@OfNat.ofNat UInt8 (3 : Nat) (@UInt8.instOfNat (3 : Nat))), (@OfNat.ofNat UInt8 (4 : Nat) (@UInt8.instOfNat (4 : Nat))), (@OfNat.ofNat UInt8 (4 : Nat) (@UInt8.instOfNat (4 : Nat))), (@OfNat.ofNat UInt8 (5 : Nat) (@UInt8.instOfNat (5 : Nat))), (@OfNat.ofNat UInt8 (4 : Nat) (@UInt8.instOfNat (4 : Nat))), (@OfNat.ofNat UInt8 (5 : Nat) (@UInt8.instOfNat (5 : Nat))), (@OfNat.ofNat UInt8 (5 : Nat) (@UInt8.instOfNat (5 : Nat))), (@OfNat.ofNat UInt8 (6 : Nat) (@UInt8.instOfNat (6 : Nat))), (@OfNat.ofNat UInt8 (4 : Nat) (@UInt8.instOfNat (4 : Nat))), (@OfNat.ofNat UInt8 (5 : Nat) (@UInt8.instOfNat (5 : Nat))), (@OfNat.ofNat UInt8 (5 : Nat) (@UInt8.instOfNat (5 : Nat))), (@OfNat.ofNat UInt8 (6 : Nat) (@UInt8.instOfNat (6 : Nat))), (@OfNat.ofNat UInt8 (5 : Nat) (@UInt8.instOfNat (5 : Nat))), (@OfNat.ofNat UInt8 (6 : Nat) (@UInt8.instOfNat (6 : Nat))), (@OfNat.ofNat UInt8 (6 : Nat) (@UInt8.instOfNat (6 : Nat))), (@OfNat.ofNat UInt8 (7 : Nat) (@UInt8.instOfNat (7 : Nat))), (@OfNat.ofNat UInt8 (4 : Nat) (@UInt8.instOfNat (4 : Nat))), (@OfNat.ofNat UInt8 (5 : Nat) (@UInt8.instOfNat (5 : Nat))), (@OfNat.ofNat UInt8 (5 : Nat) (@UInt8.instOfNat (5 : Nat))), (@OfNat.ofNat UInt8 (6 : Nat) (@UInt8.instOfNat (6 : Nat))), (@OfNat.ofNat UInt8 (5 : Nat) (@UInt8.instOfNat (5 : Nat))), (@OfNat.ofNat UInt8 (6 : Nat) (@UInt8.instOfNat (6 : Nat))), (@OfNat.ofNat UInt8 (6 : Nat) (@UInt8.instOfNat (6 : Nat))), (@OfNat.ofNat UInt8 (7 : Nat) (@UInt8.instOfNat (7 : Nat))), (@OfNat.ofNat UInt8 (5 : Nat) (@UInt8.instOfNat (5 : Nat))), (@OfNat.ofNat UInt8 (6 : Nat) (@UInt8.instOfNat (6 : Nat))), (@OfNat.ofNat UInt8 (6 : Nat) (@UInt8.instOfNat (6 : Nat))), (@OfNat.ofNat UInt8 (7 : Nat) (@UInt8.instOfNat (7 : Nat))), (@OfNat.ofNat UInt8 (6 : Nat) (@UInt8.instOfNat (6 : Nat))), (@OfNat.ofNat UInt8 (7 : Nat) (@UInt8.instOfNat (7 : Nat))), (@OfNat.ofNat UInt8 (7 : Nat) (@UInt8.instOfNat (7 : Nat))), (@OfNat.ofNat UInt8 (8 : Nat) (@UInt8.instOfNat (8 : Nat)))] : List (UInt8)))))) x0) fun (v2 : UInt8) =>
 some ((Go.IntKind.wrap .i64 (((@UInt8.toNat v2) : Nat) : Int)))
theorem math_bits_OnesCount8_S (N : Nat) (x0 : Int) : (runK Go.Proofs.Tryd.prog (Ev48 N) 400 70 [(.int .u8)] [(.int .i64)] (x0, ())).run = math_bits_OnesCount8 N x0 := by kernel_rfl
noncomputable def Ev49 (N : Nat) : (R : Type) → Env R := Env.addFn (Ev48 N) 70 (fun R => fnK [(.int .u8)] [(.int .i64)] (fun c => math_bits_OnesCount8 N c.1))
theorem Ev49_ok (N : Nat) (R : Type) : EnvOK Go.Proofs.Tryd.prog (Ev49 N R) := EnvOK.addFn hmx (Ev48_ok N R) (Ev48_ok N _) (by kernel_rfl) (fun c => math_bits_OnesCount8_S N c.1)
noncomputable def bitp_Odd (N : Nat) (b0 : Int) : Option (Int) :=
 Option.bind (@math_bits_OnesCount8 N (@Go.bits @Go.BinOp.andNot @Go.IntKind.u8 b0 (1 : Int))) fun (v2 : Int) =>
 bif (decide ((@Int.tmod v2 (2 : Int)) = (0 : Int))) then
  some ((@Go.bits @Go.BinOp.or @Go.IntKind.u8 (@Go.bits @Go.BinOp.andNot @Go.IntKind.u8 b0 (1 : Int)) (1 : Int)))
 else
  some ((@Go.bits @Go.BinOp.andNot @Go.IntKind.u8 b0 (1 : Int)))
theorem bitp_Odd_S (N : Nat) (b0 : Int) : (runK Go.Proofs.Tryd.prog (Ev49 N) 400 62 [(.int .u8)] [(.int .u8)] (b0, ())).run = bitp_Odd N b0 := by kernel_rfl
noncomputable def Ev50 (N : Nat) : (R : Type) → Env R := Env.addFn (Ev49 N) 62 (fun R => fnK [(.int .u8)] [(.int .u8)] (fun c => bitp_Odd N c.1))
theorem Ev50_ok (N : Nat) (R : Type) : EnvOK Go.Proofs.Tryd.prog (Ev50 N R) := EnvOK.addFn hmx (Ev49_ok N R) (Ev49_ok N _) (by kernel_rfl) (fun c => bitp_Odd_S N c.1)
noncomputable def bitp_Spread_L5_I : LI := ⟨27, 0, [], ⟨[(4, .lit (.own 0)), (12, .lit (.own 0)), (13, .ty (.int .i64)), (14, .ty (.int .i64))], [.own (.int .u8) 5]⟩, [(.exit 0, ⟨[(4, .lit (.own 0))], [.own (.int .u8) 5]⟩)]⟩
noncomputable def bitp_Spread_L5 (N : Nat) (X : (((Int) × ((Int) × Unit)) × ((List (Int)) × Unit)) → Option ((Unit × ((List (Int)) × Unit)))) (x13 : Int) (x14 : Int) (h0 : List (Int)) : Option ((Unit × ((List (Int)) × Unit))) :=
 bif (decide (x14 < x13)) then
  bif (decide ((0 : Int) ≤ x14 ∧ x14 < (((List.length h0) : Nat) : Int))) then
   Option.bind (@GetElem?.getElem? (List Int) Nat Int (fun (as5 : (List Int)) => (fun (i6 : Nat) => (@LT.lt Nat @instLTNat i6 (List.length as5)))) (@List.instGetElem?NatLtLength Int) h0 (Int.toNat x14)) fun (v5 : Int) =>
   Option.bind (@bitp_Odd N (Go.IntKind.wrap .u8 (v5 * (@HPow.hPow Int Nat Int (@instHPow Int Nat (@instPowNat Int @Int.instNatPow)) (2 : Int) (@Min.min Nat @instMinNat (Int.toNat (1 : Int)) (@Go.IntKind.bits @Go.IntKind.u8)))))) fun (v6 : Int) =>
   bif (decide ((0 : Int) ≤ x14 ∧ x14 < (((List.length h0) : Nat) : Int))) then
    Option.bind (@GetElem?.getElem? (List Int) Nat Int (fun (as7 : (List Int)) => (fun (i8 : Nat) => (@LT.lt Nat @instLTNat i8 (List.length as7)))) (@List.instGetElem?NatLtLength Int) h0 (Int.toNat x14)) fun (v7 : Int) =>
    (X ((x13, ((Go.IntKind.wrap .i64 (x14 + (1 : Int))), @Unit.unit)), ((@List.set Int h0 (Int.toNat x14) v6), @Unit.unit)))
   else
    none
  else
   none
 else
  some ((@Unit.unit, (h0, @Unit.unit)))
noncomputable def bitp_Spread_L5_R (N : Nat) (c : (((Int) × ((Int) × Unit)) × ((List (Int)) × Unit))) : Option ((Unit × ((List (Int)) × Unit))) := gl (fun X c => bitp_Spread_L5 N X c.1.1 c.1.2.1 c.2.1) N c
theorem bitp_Spread_L5_S (N : Nat) (X : (((Int) × ((Int) × Unit)) × ((List (Int)) × Unit)) → Option ((Unit × ((List (Int)) × Unit)))) (x13 : Int) (x14 : Int) (h0 : List (Int)) : (roundK Go.Proofs.Tryd.prog (Ev50 N) 400 [38] bitp_Spread_L5_I (loopAt Go.Proofs.Tryd.prog [38] 5) X ((x13, x14, ()), (h0, ()))).run = bitp_Spread_L5 N X x13 x14 h0 := by kernel_rfl
noncomputable def Ev51 (N : Nat) : (R : Type) → Env R := Env.addLp (Ev50 N) [38] 0 5 (fun R => lpK Go.Proofs.Tryd.prog bitp_Spread_L5_I (fun X c => bitp_Spread_L5 N X c.1.1 c.1.2.1 c.2.1) N)
theorem Ev51_ok (N : Nat) (R : Type) : EnvOK Go.Proofs.Tryd.prog (Ev51 N R) := EnvOK.addLp (Ev50_ok N R) (by kernel_rfl) (lpK_ok (li := bitp_Spread_L5_I) (G := fun X c => bitp_Spread_L5 N X c.1.1 c.1.2.1 c.2.1) hmx (Ev50_ok N _) (by kernel_rfl) loopAt_sub (fun (X : CT bitp_Spread_L5_I.sh → Option (OT bitp_Spread_L5_I.outs)) (c : CT bitp_Spread_L5_I.sh) => bitp_Spread_L5_S N X c.1.1 c.1.2.1 c.2.1) N)
noncomputable def bitp_Spread (N : Nat) (key0 : List (Int)) : Option ((List (Int)) × Int) :=
 bif (!(decide ((((List.length key0) : Nat) : Int) = (7 : Int)))) then
  some ((([] : List (Int)), (1 : Int)))
 else
  Option.bind (bitp_Spread_3_bitp_gathered_5_bitp_each_L1_R N (((8 : Int), (key0, ((((List.length key0) : Nat) : Int), ((0 : Int), @Unit.unit)))), ((7 : Int), ((0 : Int), ((0 : Int), (([] : List (Int)), @Unit.unit)))))) fun (v2 : (Unit × (Int × (Int × (Int × ((List Int) × Unit)))))) =>
  Option.bind (bitp_Spread_L5_R N (((((List.length (v2.2).snd.2.2.1) : Nat) : Int), ((0 : Int), @Unit.unit)), ((v2.2).snd.2.2.1, @Unit.unit))) fun (v3 : (Unit × ((List Int) × Unit))) =>
  some ((v3.2.1, (0 : Int)))
theorem bitp_Spread_S (N : Nat) (key0 : List (Int)) : (runK Go.Proofs.Tryd.prog (Ev51 N) 400 38 [(.sl (.int .u8))] [(.sl (.int .u8)), (.int .i64)] (key0, ())).run = bitp_Spread N key0 := by kernel_rfl
theorem bitp_Spread_C (N : Nat) (key0 : List (Int)) (y : (List (Int)) × Int) (h : bitp_Spread N key0 = some y) : CallsK Go.Proofs.Tryd.prog 38 (valA [(.sl (.int .u8))] (key0, ())) (tupV (valR [(.sl (.int .u8)), (.int .i64)] y)) := runK_ok hmx (Ev51_ok N _) (okFn_ok (by kernel_rfl)) (by rw [bitp_Spread_S]; exact h)
noncomputable def Ev52 (N : Nat) : (R : Type) → Env R := Env.addFn (Ev51 N) 38 (fun R => fnK [(.sl (.int .u8))] [(.sl (.int .u8)), (.int .i64)] (fun c => bitp_Spread N c.1))
theorem Ev52_ok (N : Nat) (R : Type) : EnvOK Go.Proofs.Tryd.prog (Ev52 N R) := EnvOK.addFn hmx (Ev51_ok N R) (Ev51_ok N _) (by kernel_rfl) (fun c => bitp_Spread_S N c.1)
noncomputable def octs_place (N : Nat) (i0 : Int) (width1 : Int) (little2 : Bool) : Option (Int) :=
 bif little2 then
  some (i0)
 else
  some ((Go.IntKind.wrap .i64 ((Go.IntKind.wrap .i64 (width1 - (1 : Int))) - i0)))
theorem octs_place_S (N : Nat) (i0 : Int) (width1 : Int) (little2 : Bool) : (runK Go.Proofs.Tryd.prog (Ev52 N) 400 63 [(.int .i64), (.int .i64), .bool] [(.int .i64)] (i0, width1, little2, ())).run = octs_place N i0 width1 little2 := by kernel_rfl
noncomputable def Ev53 (N : Nat) : (R : Type) → Env R := Env.addFn (Ev52 N) 63 (fun R => fnK [(.int .i64), (.int .i64), .bool] [(.int .i64)] (fun c => octs_place N c.1 c.2.1 c.2.2.1))
theorem Ev53_ok (N : Nat) (R : Type) : EnvOK Go.Proofs.Tryd.prog (Ev53 N R) := EnvOK.addFn hmx (Ev52_ok N R) (Ev52_ok N _) (by kernel_rfl) (fun c => octs_place_S N c.1 c.2.1 c.2.2.1)
noncomputable def octs_Get_L5_I : LI := ⟨37, 0, [], ⟨[(0, .ty (.sl (.int .u8))), (1, .ty .bool), (6, .ty (.int .u64)), (17, .ty (.int .i64)), (18, .ty (.int .i64))], []⟩, [(.exit 0, ⟨[(6, .ty (.int .u64))], []⟩)]⟩
noncomputable def octs_Get_L5 (N : Nat) (X : (((List (Int)) × ((Bool) × ((Int) × ((Int) × ((Int) × Unit))))) × Unit) → Option ((((Int) × Unit) × Unit))) (b0 : List (Int)) (little1 : Bool) (n6 : Int) (x17 : Int) (x18 : Int) : Option ((((Int) × Unit) × Unit)) :=
 bif (decide (x18 < x17)) then
  Option.bind (@octs_place N x18 (((List.length b0) : Nat) : Int) little1) fun (v7 : Int) =>
  Option.bind (getI b0 v7) fun (v8 : Int) =>
  bif (decide ((0 : Int) ≤ (Go.IntKind.wrap .i64 ((8 : Int) * x18)))) then
   (X ((b0, (little1, ((@Go.bits @Go.BinOp.or @Go.IntKind.u64 n6 (Go.IntKind.wrap .u64 ((Go.IntKind.wrap .u64 v8) * (@HPow.hPow Int Nat Int (@instHPow Int Nat (@instPowNat Int @Int.instNatPow)) (2 : Int) (@Min.min Nat @instMinNat (Int.toNat (Go.IntKind.wrap .i64 ((8 : Int) * x18))) (@Go.IntKind.bits @Go.IntKind.u64)))))), (x17, ((Go.IntKind.wrap .i64 (x18 + (1 : Int))), @Unit.unit))))), @Unit.unit))
  else
   none
 else
  some (((n6, @Unit.unit), @Unit.unit))
noncomputable def octs_Get_L5_R (N : Nat) (c : (((List (Int)) × ((Bool) × ((Int) × ((Int) × ((Int) × Unit))))) × Unit)) : Option ((((Int) × Unit) × Unit)) := gl (fun X c => octs_Get_L5 N X c.1.1 c.1.2.1 c.1.2.2.1 c.1.2.2.2.1 c.1.2.2.2.2.1) N c
theorem octs_Get_L5_S (N : Nat) (X : (((List (Int)) × ((Bool) × ((Int) × ((Int) × ((Int) × Unit))))) × Unit) → Option ((((Int) × Unit) × Unit))) (b0 : List (Int)) (little1 : Bool) (n6 : Int) (x17 : Int) (x18 : Int) : (roundK Go.Proofs.Tryd.prog (Ev53 N) 400 [39] octs_Get_L5_I (loopAt Go.Proofs.Tryd.prog [39] 5) X ((b0, little1, n6, x17, x18, ()), ())).run = octs_Get_L5 N X b0 little1 n6 x17 x18 := by kernel_rfl
noncomputable def Ev54 (N : Nat) : (R : Type) → Env R := Env.addLp (Ev53 N) [39] 0 5 (fun R => lpK Go.Proofs.Tryd.prog octs_Get_L5_I (fun X c => octs_Get_L5 N X c.1.1 c.1.2.1 c.1.2.2.1 c.1.2.2.2.1 c.1.2.2.2.2.1) N)
theorem Ev54_ok (N : Nat) (R : Type) : EnvOK Go.Proofs.Tryd.prog (Ev54 N R) := EnvOK.addLp (Ev53_ok N R) (by kernel_rfl) (lpK_ok (li := octs_Get_L5_I) (G := fun X c => octs_Get_L5 N X c.1.1 c.1.2.1 c.1.2.2.1 c.1.2.2.2.1 c.1.2.2.2.2.1) hmx (Ev53_ok N _) (by kernel_rfl) loopAt_sub (fun (X : CT octs_Get_L5_I.sh → Option (OT octs_Get_L5_I.outs)) (c : CT octs_Get_L5_I.sh) => octs_Get_L5_S N X c.1.1 c.1.2.1 c.1.2.2.1 c.1.2.2.2.1 c.1.2.2.2.2.1) N)
noncomputable def octs_Get (N : Nat) (b0 : List (Int)) (little1 : Bool) : Option ((Int) × Int) :=
 bif (decide ((((List.length b0) : Nat) : Int) < (1 : Int))) then
  some (((0 : Int), (1 : Int)))
 else
  bif (@cond Bool @Bool.false @Bool.true (decide ((8 : Int) < (((List.length b0) : Nat) : Int)))) then
   some (((0 : Int), (1 : Int)))
  else
   Option.bind (octs_Get_L5_R N ((b0, (little1, ((0 : Int), ((((List.length b0) : Nat) : Int), ((0 : Int), @Unit.unit))))), @Unit.unit)) fun (v3 : ((Int × Unit) × Unit)) =>
   some ((v3.1.1, (0 : Int)))
theorem octs_Get_S (N : Nat) (b0 : List (Int)) (little1 : Bool) : (runK Go.Proofs.Tryd.prog (Ev54 N) 400 39 [(.sl (.int .u8)), .bool] [(.int .u64), (.int .i64)] (b0, little1, ())).run = octs_Get N b0 little1 := by kernel_rfl
noncomputable def Ev55 (N : Nat) : (R : Type) → Env R := Env.addFn (Ev54 N) 39 (fun R => fnK [(.sl (.int .u8)), .bool] [(.int .u64), (.int .i64)] (fun c => octs_Get N c.1 c.2.1))
theorem Ev55_ok (N : Nat) (R : Type) : EnvOK Go.Proofs.Tryd.prog (Ev55 N R) := EnvOK.addFn hmx (Ev54_ok N R) (Ev54_ok N _) (by kernel_rfl) (fun c => octs_Get_S N c.1 c.2.1)
noncomputable def octs_Put_L5_I : LI := ⟨35, 0, [], ⟨[(0, .ty (.int .u64)), (1, .ty (.int .i64)), (2, .ty .bool), (8, .lit (.own 0)), (19, .ty (.int .i64)), (20, .ty (.int .i64))], [.own (.int .u8) 5]⟩, [(.exit 0, ⟨[(8, .lit (.own 0))], [.own (.int .u8) 5]⟩)]⟩
noncomputable def octs_Put_L5 (N : Nat) (X : (((Int) × ((Int) × ((Bool) × ((Int) × ((Int) × Unit))))) × ((List (Int)) × Unit)) → Option ((Unit × ((List (Int)) × Unit)))) (n0 : Int) (width1 : Int) (little2 : Bool) (x19 : Int) (x20 : Int) (h0 : List (Int)) : Option ((Unit × ((List (Int)) × Unit))) :=
 bif (decide (x20 < x19)) then
  Option.bind (@octs_place N x20 width1 little2) fun (v8 : Int) =>
  bif (decide ((0 : Int) ≤ v8 ∧ v8 < (((List.length h0) : Nat) : Int))) then
   Option.bind (@GetElem?.getElem? (List Int) Nat Int (fun (as9 : (List Int)) => (fun (i10 : Nat) => (@LT.lt Nat @instLTNat i10 (List.length as9)))) (@List.instGetElem?NatLtLength Int) h0 (Int.toNat v8)) fun (v9 : Int) =>
   (X (((@Int.fdiv n0 (@HPow.hPow Int Nat Int (@instHPow Int Nat (@instPowNat Int @Int.instNatPow)) (2 : Int) (@Min.min Nat @instMinNat (Int.toNat (8 : Int)) (@Go.IntKind.bits @Go.IntKind.u64)))), (width1, (little2, (x19, ((Go.IntKind.wrap .i64 (x20 + (1 : Int))), @Unit.unit))))), ((@List.set Int h0 (Int.toNat v8) (Go.IntKind.wrap .u8 n0)), @Unit.unit)))
  else
   none
 else
  some ((@Unit.unit, (h0, @Unit.unit)))
noncomputable def octs_Put_L5_R (N : Nat) (c : (((Int) × ((Int) × ((Bool) × ((Int) × ((Int) × Unit))))) × ((List (Int)) × Unit))) : Option ((Unit × ((List (Int)) × Unit))) := gl (fun X c => octs_Put_L5 N X c.1.1 c.1.2.1 c.1.2.2.1 c.1.2.2.2.1 c.1.2.2.2.2.1 c.2.1) N c
theorem octs_Put_L5_S (N : Nat) (X : (((Int) × ((Int) × ((Bool) × ((Int) × ((Int) × Unit))))) × ((List (Int)) × Unit)) → Option ((Unit × ((List (Int)) × Unit)))) (n0 : Int) (width1 : Int) (little2 : Bool) (x19 : Int) (x20 : Int) (h0 : List (Int)) : (roundK Go.Proofs.Tryd.prog (Ev55 N) 400 [40] octs_Put_L5_I (loopAt Go.Proofs.Tryd.prog [40] 5) X ((n0, width1, little2, x19, x20, ()), (h0, ()))).run = octs_Put_L5 N X n0 width1 little2 x19 x20 h0 := by kernel_rfl
noncomputable def Ev56 (N : Nat) : (R : Type) → Env R := Env.addLp (Ev55 N) [40] 0 5 (fun R => lpK Go.Proofs.Tryd.prog octs_Put_L5_I (fun X c => octs_Put_L5 N X c.1.1 c.1.2.1 c.1.2.2.1 c.1.2.2.2.1 c.1.2.2.2.2.1 c.2.1) N)
theorem Ev56_ok (N : Nat) (R : Type) : EnvOK Go.Proofs.Tryd.prog (Ev56 N R) := EnvOK.addLp (Ev55_ok N R) (by kernel_rfl) (lpK_ok (li := octs_Put_L5_I) (G := fun X c => octs_Put_L5 N X c.1.1 c.1.2.1 c.1.2.2.1 c.1.2.2.2.1 c.1.2.2.2.2.1 c.2.1) hmx (Ev55_ok N _) (by kernel_rfl) loopAt_sub (fun (X : CT octs_Put_L5_I.sh → Option (OT octs_Put_L5_I.outs)) (c : CT octs_Put_L5_I.sh) => octs_Put_L5_S N X c.1.1 c.1.2.1 c.1.2.2.1 c.1.2.2.2.1 c.1.2.2.2.2.1 c.2.1) N)
noncomputable def octs_Put (N : Nat) (n0 : Int) (width1 : Int) (little2 : Bool) : Option ((List (Int)) × Int) :=
 bif (decide (width1 < (1 : Int))) then
  some ((([] : List (Int)), (1 : Int)))
 else
  bif (@cond Bool @Bool.false @Bool.true (decide ((8 : Int) < width1))) then
   some ((([] : List (Int)), (1 : Int)))
  else
   bif ((decide ((0 : Int) ≤ width1 ∧ width1 ≤ width1)) && (roomB (Int.toNat width1) 1)) then
    Option.bind (octs_Put_L5_R N ((n0, (width1, (little2, ((((List.length (@List.replicate Int (Int.toNat width1) (0 : Int))) : Nat) : Int), ((0 : Int), @Unit.unit))))), ((@List.replicate Int (Int.toNat width1) (0 : Int)), @Unit.unit))) fun (v4 : (Unit × ((List Int) × Unit))) =>
    some ((v4.2.1, (0 : Int)))
   else
    none
theorem octs_Put_S (N : Nat) (n0 : Int) (width1 : Int) (little2 : Bool) : (runK Go.Proofs.Tryd.prog (Ev56 N) 400 40 [(.int .u64), (.int .i64), .bool] [(.sl (.int .u8)), (.int .i64)] (n0, width1, little2, ())).run = octs_Put N n0 width1 little2 := by kernel_rfl
noncomputable def Ev57 (N : Nat) : (R : Type) → Env R := Env.addFn (Ev56 N) 40 (fun R => fnK [(.int .u64), (.int .i64), .bool] [(.sl (.int .u8)), (.int .i64)] (fun c => octs_Put N c.1 c.2.1 c.2.2.1))
theorem Ev57_ok (N : Nat) (R : Type) : EnvOK Go.Proofs.Tryd.prog (Ev57 N R) := EnvOK.addFn hmx (Ev56_ok N R) (Ev56_ok N _) (by kernel_rfl) (fun c => octs_Put_S N c.1 c.2.1 c.2.2.1)
noncomputable def des_Seven (N : Nat) (key0 : List (Int)) (block1 : List (Int)) : Option ((List (Int)) × Int) :=
 Option.bind (@bitp_Spread N key0) fun (v3 : ((List Int) × Int)) =>
 bif (!(decide (v3.2 = (0 : Int)))) then
  some ((([] : List (Int)), (1 : Int)))
 else
  bif (@cond Bool @Bool.false @Bool.true (!(decide ((((List.length block1) : Nat) : Int) = (8 : Int))))) then
   some ((([] : List (Int)), (1 : Int)))
  else
   Option.bind (@octs_Get N v3.1 @Bool.false) fun (v4 : (Int × Int)) =>
   Option.bind (@octs_Get N block1 @Bool.false) fun (v5 : (Int × Int)) =>
   Option.bind (@des_Turn N v4.1 v5.1) fun (v6 : Int) =>
   Option.bind (@octs_Put N v6 (8 : Int) @Bool.false) fun (v7 : ((List Int) × Int)) =>
   some ((v7.1, v7.2))
theorem des_Seven_S (N : Nat) (key0 : List (Int)) (block1 : List (Int)) : (runK Go.Proofs.Tryd.prog (Ev57 N) 400 19 [(.sl (.int .u8)), (.sl (.int .u8))] [(.sl (.int .u8)), (.int .i64)] (key0, block1, ())).run = des_Seven N key0 block1 := by kernel_rfl
theorem des_Seven_C (N : Nat) (key0 : List (Int)) (block1 : List (Int)) (y : (List (Int)) × Int) (h : des_Seven N key0 block1 = some y) : CallsK Go.Proofs.Tryd.prog 19 (valA [(.sl (.int .u8)), (.sl (.int .u8))] (key0, block1, ())) (tupV (valR [(.sl (.int .u8)), (.int .i64)] y)) := runK_ok hmx (Ev57_ok N _) (okFn_ok (by kernel_rfl)) (by rw [des_Seven_S]; exact h)
noncomputable def Ev58 (N : Nat) : (R : Type) → Env R := Env.addFn (Ev57 N) 19 (fun R => fnK [(.sl (.int .u8)), (.sl (.int .u8))] [(.sl (.int .u8)), (.int .i64)] (fun c => des_Seven N c.1 c.2.1))
theorem Ev58_ok (N : Nat) (R : Type) : EnvOK Go.Proofs.Tryd.prog (Ev58 N R) := EnvOK.addFn hmx (Ev57_ok N R) (Ev57_ok N _) (by kernel_rfl) (fun c => des_Seven_S N c.1 c.2.1)
noncomputable def ref03_Row_L3_I : LI := ⟨24, 0, [], ⟨[(0, .ty (.int .u64)), (5, .lit (.own 0)), (6, .ty (.int .i64))], [.own (.int .u8) 5]⟩, [(.exit 0, ⟨[(5, .lit (.own 0))], [.own (.int .u8) 5]⟩)]⟩
noncomputable def ref03_Row_L3 (N : Nat) (X : (((Int) × ((Int) × Unit)) × ((List (Int)) × Unit)) → Option ((Unit × ((List (Int)) × Unit)))) (x0 : Int) (i6 : Int) (h0 : List (Int)) : Option ((Unit × ((List (Int)) × Unit))) :=
 bif (decide ((0 : Int) ≤ i6)) then
  bif (decide ((0 : Int) ≤ i6 ∧ i6 < (((List.length h0) : Nat) : Int))) then
   Option.bind (@GetElem?.getElem? (List Int) Nat Int (fun (as5 : (List Int)) => (fun (i6 : Nat) => (@LT.lt Nat @instLTNat i6 (List.length as5)))) (@List.instGetElem?NatLtLength Int) h0 (Int.toNat i6)) fun (v5 : Int) =>
   (X (((Go.IntKind.wrap .u64 (@Int.tdiv x0 (2 : Int))), ((Go.IntKind.wrap .i64 (i6 - (1 : Int))), @Unit.unit)), ((@List.set Int h0 (Int.toNat i6) (Go.IntKind.wrap .u8 (@Int.tmod x0 (2 : Int)))), @Unit.unit)))
  else
   none
 else
  some ((@Unit.unit, (h0, @Unit.unit)))
noncomputable def ref03_Row_L3_R (N : Nat) (c : (((Int) × ((Int) × Unit)) × ((List (Int)) × Unit))) : Option ((Unit × ((List (Int)) × Unit))) := gl (fun X c => ref03_Row_L3 N X c.1.1 c.1.2.1 c.2.1) N c
theorem ref03_Row_L3_S (N : Nat) (X : (((Int) × ((Int) × Unit)) × ((List (Int)) × Unit)) → Option ((Unit × ((List (Int)) × Unit)))) (x0 : Int) (i6 : Int) (h0 : List (Int)) : (roundK Go.Proofs.Tryd.prog (Ev58 N) 400 [24] ref03_Row_L3_I (loopAt Go.Proofs.Tryd.prog [24] 3) X ((x0, i6, ()), (h0, ()))).run = ref03_Row_L3 N X x0 i6 h0 := by kernel_rfl
noncomputable def Ev59 (N : Nat) : (R : Type) → Env R := Env.addLp (Ev58 N) [24] 0 3 (fun R => lpK Go.Proofs.Tryd.prog ref03_Row_L3_I (fun X c => ref03_Row_L3 N X c.1.1 c.1.2.1 c.2.1) N)
theorem Ev59_ok (N : Nat) (R : Type) : EnvOK Go.Proofs.Tryd.prog (Ev59 N R) := EnvOK.addLp (Ev58_ok N R) (by kernel_rfl) (lpK_ok (li := ref03_Row_L3_I) (G := fun X c => ref03_Row_L3 N X c.1.1 c.1.2.1 c.2.1) hmx (Ev58_ok N _) (by kernel_rfl) loopAt_sub (fun (X : CT ref03_Row_L3_I.sh → Option (OT ref03_Row_L3_I.outs)) (c : CT ref03_Row_L3_I.sh) => ref03_Row_L3_S N X c.1.1 c.1.2.1 c.2.1) N)
noncomputable def ref03_Row (N : Nat) (x0 : Int) (width1 : Int) : Option (List (Int)) :=
 bif ((decide ((0 : Int) ≤ width1 ∧ width1 ≤ width1)) && (roomB (Int.toNat width1) 1)) then
  Option.bind (ref03_Row_L3_R N ((x0, ((Go.IntKind.wrap .i64 (width1 - (1 : Int))), @Unit.unit)), ((@List.replicate Int (Int.toNat width1) (0 : Int)), @Unit.unit))) fun (v3 : (Unit × ((List Int) × Unit))) =>
  some (v3.2.1)
 else
  none
theorem ref03_Row_S (N : Nat) (x0 : Int) (width1 : Int) : (runK Go.Proofs.Tryd.prog (Ev59 N) 400 24 [(.int .u64), (.int .i64)] [(.sl (.int .u8))] (x0, width1, ())).run = ref03_Row N x0 width1 := by kernel_rfl
noncomputable def Ev60 (N : Nat) : (R : Type) → Env R := Env.addFn (Ev59 N) 24 (fun R => fnK [(.int .u64), (.int .i64)] [(.sl (.int .u8))] (fun c => ref03_Row N c.1 c.2.1))
theorem Ev60_ok (N : Nat) (R : Type) : EnvOK Go.Proofs.Tryd.prog (Ev60 N R) := EnvOK.addFn hmx (Ev59_ok N R) (Ev59_ok N _) (by kernel_rfl) (fun c => ref03_Row_S N c.1 c.2.1)
noncomputable def ref03_Word_L3_I : LI := ⟨20, 0, [], ⟨[(0, .ty (.sl (.int .u8))), (3, .ty (.int .u64)), (4, .ty (.int .i64))], []⟩, [(.exit 0, ⟨[(3, .ty (.int .u64))], []⟩)]⟩
noncomputable def ref03_Word_L3 (N : Nat) (X : (((List (Int)) × ((Int) × ((Int) × Unit))) × Unit) → Option ((((Int) × Unit) × Unit))) (row0 : List (Int)) (x3 : Int) (i4 : Int) : Option ((((Int) × Unit) × Unit)) :=
 bif (decide (i4 < (((List.length row0) : Nat) : Int))) then
  Option.bind (getI row0 i4) fun (v5 : Int) =>
  (X ((row0, ((Go.IntKind.wrap .u64 ((Go.IntKind.wrap .u64 ((2 : Int) * x3)) + (Go.IntKind.wrap .u64 v5))), ((Go.IntKind.wrap .i64 (i4 + (1 : Int))), @Unit.unit))), @Unit.unit))
 else
  some (((x3, @Unit.unit), @Unit.unit))
noncomputable def ref03_Word_L3_R (N : Nat) (c : (((List (Int)) × ((Int) × ((Int) × Unit))) × Unit)) : Option ((((Int) × Unit) × Unit)) := gl (fun X c => ref03_Word_L3 N X c.1.1 c.1.2.1 c.1.2.2.1) N c
theorem ref03_Word_L3_S (N : Nat) (X : (((List (Int)) × ((Int) × ((Int) × Unit))) × Unit) → Option ((((Int) × Unit) × Unit))) (row0 : List (Int)) (x3 : Int) (i4 : Int) : (roundK Go.Proofs.Tryd.prog (Ev60 N) 400 [31] ref03_Word_L3_I (loopAt Go.Proofs.Tryd.prog [31] 3) X ((row0, x3, i4, ()), ())).run = ref03_Word_L3 N X row0 x3 i4 := by kernel_rfl
noncomputable def Ev61 (N : Nat) : (R : Type) → Env R := Env.addLp (Ev60 N) [31] 0 3 (fun R => lpK Go.Proofs.Tryd.prog ref03_Word_L3_I (fun X c => ref03_Word_L3 N X c.1.1 c.1.2.1 c.1.2.2.1) N)
theorem Ev61_ok (N : Nat) (R : Type) : EnvOK Go.Proofs.Tryd.prog (Ev61 N R) := EnvOK.addLp (Ev60_ok N R) (by kernel_rfl) (lpK_ok (li := ref03_Word_L3_I) (G := fun X c => ref03_Word_L3 N X c.1.1 c.1.2.1 c.1.2.2.1) hmx (Ev60_ok N _) (by kernel_rfl) loopAt_sub (fun (X : CT ref03_Word_L3_I.sh → Option (OT ref03_Word_L3_I.outs)) (c : CT ref03_Word_L3_I.sh) => ref03_Word_L3_S N X c.1.1 c.1.2.1 c.1.2.2.1) N)
noncomputable def ref03_Word (N : Nat) (row0 : List (Int)) : Option (Int) :=
 Option.bind (ref03_Word_L3_R N ((row0, ((0 : Int), ((0 : Int), @Unit.unit))), @Unit.unit)) fun (v2 : ((Int × Unit) × Unit)) =>
 some (v2.1.1)
theorem ref03_Word_S (N : Nat) (row0 : List (Int)) : (runK Go.Proofs.Tryd.prog (Ev61 N) 400 31 [(.sl (.int .u8))] [(.int .u64)] (row0, ())).run = ref03_Word N row0 := by kernel_rfl
noncomputable def Ev62 (N : Nat) : (R : Type) → Env R := Env.addFn (Ev61 N) 31 (fun R => fnK [(.sl (.int .u8))] [(.int .u64)] (fun c => ref03_Word N c.1))
theorem Ev62_ok (N : Nat) (R : Type) : EnvOK Go.Proofs.Tryd.prog (Ev62 N R) := EnvOK.addFn hmx (Ev61_ok N R) (Ev61_ok N _) (by kernel_rfl) (fun c => ref03_Word_S N c.1)
noncomputable def ref08_box (N : Nat) (n0 : Int) : Option (List (Int)) :=
 bif (decide (n0 = (1 : Int))) then
  some (([(14 : Int), (4 : Int), (13 : Int), (1 : Int), (2 : Int), (15 : Int), (11 : Int), (8 : Int), (3 : Int), (10 : Int), (6 : Int), (12 : Int), (5 : Int), (9 : Int), (0 : Int), (7 : Int), (0 : Int), (15 : Int), (7 : Int), (4 : Int), (14 : Int), (2 : Int), (13 : Int), (1 : Int), (10 : Int), (6 : Int), (12 : Int), (11 : Int), (9 : Int), (5 : Int), (3 : Int), (8 : Int), (4 : Int), (1 : Int), (14 : Int), (8 : Int), (13 : Int), (6 : Int), (2 : Int), (11 : Int), (15 : Int), (12 : Int), (9 : Int), (7 : Int), (3 : Int), (10 : Int), (5 : Int), (0 : Int), (15 : Int), (12 : Int), (8 : Int), (2 : Int), (4 : Int), (9 : Int), (1 : Int), (7 : Int), (5 : Int), (11 : Int), (3 : Int), (14 : Int), (10 : Int), (0 : Int), (6 : Int), (13 : Int)] : List (Int)))
 else
  bif (decide (n0 = (2 : Int))) then
   some (([(15 : Int), (1 : Int), (8 : Int), (14 : Int), (6 : Int), (11 : Int), (3 : Int), (4 : Int), (9 : Int), (7 : Int), (2 : Int), (13 : Int), (12 : Int), (0 : Int), (5 : Int), (10 : Int), (3 : Int), (13 : Int), (4 : Int), (7 : Int), (15 : Int), (2 : Int), (8 : Int), (14 : Int), (12 : Int), (0 : Int), (1 : Int), (10 : Int), (6 : Int), (9 : Int), (11 : Int), (5 : Int), (0 : Int), (14 : Int), (7 : Int), (11 : Int), (10 : Int), (4 : Int), (13 : Int), (1 : Int), (5 : Int), (8 : Int), (12 : Int), (6 : Int), (9 : Int), (3 : Int), (2 : Int), (15 : Int), (13 : Int), (8 : Int), (10 : Int), (1 : Int), (3 : Int), (15 : Int), (4 : Int), (2 : Int), (11 : Int), (6 : Int), (7 : Int), (12 : Int), (0 : Int), (5 : Int), (14 : Int), (9 : Int)] : List (Int)))
  else
   bif (decide (n0 = (3 : Int))) then
    some (([(10 : Int), (0 : Int), (9 : Int), (14 : Int), (6 : Int), (3 : Int), (15 : Int), (5 : Int), (1 : Int), (13 : Int), (12 : Int), (7 : Int), (11 : Int), (4 : Int), (2 : Int), (8 : Int), (13 : Int), (7 : Int), (0 : Int), (9 : Int), (3 : Int), (4 : Int), (6 : Int), (10 : Int), (2 : Int), (8 : Int), (5 : Int), (14 : Int), (12 : Int), (11 : Int), (15 : Int), (1 : Int), (13 : Int), (6 : Int), (4 : Int), (9 : Int), (8 : Int), (15 : Int), (3 : Int), (0 : Int), (11 : Int), (1 : Int), (2 : Int), (12 : Int), (5 : Int), (10 : Int), (14 : Int), (7 : Int), (1 : Int), (10 : Int), (13 : Int), (0 : Int), (6 : Int), (9 : Int), (8 : Int), (7 : Int), (4 : Int), (15 : Int), (14 : Int), (3 : Int), (11 : Int), (5 : Int), (2 : Int), (12 : Int)] : List (Int)))
   else
    bif (decide (n0 = (4 : Int))) then
     some (([(7 : Int), (13 : Int), (14 : Int), (3 : Int), (0 : Int), (6 : Int), (9 : Int), (10 : Int), (1 : Int), (2 : Int), (8 : Int), (5 : Int), (11 : Int), (12 : Int), (4 : Int), (15 : Int), (13 : Int), (8 : Int), (11 : Int), (5 : Int), (6 : Int), (15 : Int), (0 : Int), (3 : Int), (4 : Int), (7 : Int), (2 : Int), (12 : Int), (1 : Int), (10 : Int), (14 : Int), (9 : Int), (10 : Int), (6 : Int), (9 : Int), (0 : Int), (12 : Int), (11 : Int), (7 : Int), (13 : Int), (15 : Int), (1 : Int), (3 : Int), (14 : Int), (5 : Int), (2 : Int), (8 : Int), (4 : Int), (3 : Int), (15 : Int), (0 : Int), (6 : Int), (10 : Int), (1 : Int), (13 : Int), (8 : Int), (9 : Int), (4 : Int), (5 : Int), (11 : Int), (12 : Int), (7 : Int), (2 : Int), (14 : Int)] : List (Int)))
    else
     bif (decide (n0 = (5 : Int))) then
      some (([(2 : Int), (12 : Int), (4 : Int), (1 : Int), (7 : Int), (10 : Int), (11 : Int), (6 : Int), (8 : Int), (5 : Int), (3 : Int), (15 : Int), (13 : Int), (0 : Int), (14 : Int), (9 : Int), (14 : Int), (11 : Int), (2 : Int), (12 : Int), (4 : Int), (7 : Int), (13 : Int), (1 : Int), (5 : Int), (0 : Int), (15 : Int), (10 : Int), (3 : Int), (9 : Int), (8 : Int), (6 : Int), (4 : Int), (2 : Int), (1 : Int), (11 : Int), (10 : Int), (13 : Int), (7 : Int), (8 : Int), (15 : Int), (9 : Int), (12 : Int), (5 : Int), (6 : Int), (3 : Int), (0 : Int), (14 : Int), (11 : Int), (8 : Int), (12 : Int), (7 : Int), (1 : Int), (14 : Int), (2 : Int), (13 : Int), (6 : Int), (15 : Int), (0 : Int), (9 : Int), (10 : Int), (4 : Int), (5 : Int), (3 : Int)] : List (Int)))
     else
      bif (decide (n0 = (6 : Int))) then
       some (([(12 : Int), (1 : Int), (10 : Int), (15 : Int), (9 : Int), (2 : Int), (6 : Int), (8 : Int), (0 : Int), (13 : Int), (3 : Int), (4 : Int), (14 : Int), (7 : Int), (5 : Int), (11 : Int), (10 : Int), (15 : Int), (4 : Int), (2 : Int), (7 : Int), (12 : Int), (9 : Int), (5 : Int), (6 : Int), (1 : Int), (13 : Int), (14 : Int), (0 : Int), (11 : Int), (3 : Int), (8 : Int), (9 : Int), (14 : Int), (15 : Int), (5 : Int), (2 : Int), (8 : Int), (12 : Int), (3 : Int), (7 : Int), (0 : Int), (4 : Int), (10 : Int), (1 : Int), (13 : Int), (11 : Int), (6 : Int), (4 : Int), (3 : Int), (2 : Int), (12 : Int), (9 : Int), (5 : Int), (15 : Int), (10 : Int), (11 : Int), (14 : Int), (1 : Int), (7 : Int), (6 : Int), (0 : Int), (8 : Int), (13 : Int)] : List (Int)))
      else
       bif (decide (n0 = (7 : Int))) then
        some (([(4 : Int), (11 : Int), (2 : Int), (14 : Int), (15 : Int), (0 : Int), (8 : Int), (13 : Int), (3 : Int), (12 : Int), (9 : Int), (7 : Int), (5 : Int), (10 : Int), (6 : Int), (1 : Int), (13 : Int), (0 : Int), (11 : Int), (7 : Int), (4 : Int), (9 : Int), (1 : Int), (10 : Int), (14 : Int), (3 : Int), (5 : Int), (12 : Int), (2 : Int), (15 : Int), (8 : Int), (6 : Int), (1 : Int), (4 : Int), (11 : Int), (13 : Int), (12 : Int), (3 : Int), (7 : Int), (14 : Int), (10 : Int), (15 : Int), (6 : Int), (8 : Int), (0 : Int), (5 : Int), (9 : Int), (2 : Int), (6 : Int), (11 : Int), (13 : Int), (8 : Int), (1 : Int), (4 : Int), (10 : Int), (7 : Int), (9 : Int), (5 : Int), (0 : Int), (15 : Int), (14 : Int), (2 : Int), (3 : Int), (12 : Int)] : List (Int)))
       else
        bif (decide (n0 = (8 : Int))) then
         some (([(13 : Int), (2 : Int), (8 : Int), (4 : Int), (6 : Int), (15 : Int), (11 : Int), (1 : Int), (10 : Int), (9 : Int), (3 : Int), (14 : Int), (5 : Int), (0 : Int), (12 : Int), (7 : Int), (1 : Int), (15 : Int), (13 : Int), (8 : Int), (10 : Int), (3 : Int), (7 : Int), (4 : Int), (12 : Int), (5 : Int), (6 : Int), (11 : Int), (0 : Int), (14 : Int), (9 : Int), (2 : Int), (7 : Int), (11 : Int), (4 : Int), (1 : Int), (9 : Int), (12 : Int), (14 : Int), (2 : Int), (0 : Int), (6 : Int), (10 : Int), (13 : Int), (15 : Int), (3 : Int), (5 : Int), (8 : Int), (2 : Int), (1 : Int), (14 : Int), (7 : Int), (4 : Int), (10 : Int), (8 : Int), (13 : Int), (15 : Int), (12 : Int), (9 : Int), (0 : Int), (3 : Int), (5 : Int), (6 : Int), (11 : Int)] : List (Int)))
        else
         some ((@List.replicate Int (Int.toNat (64 : Int)) (0 : Int)))
theorem ref08_box_S (N : Nat) (n0 : Int) : (runK Go.Proofs.Tryd.prog (Ev62 N) 400 45 [(.int .i64)] [(.sl (.int .i64))] (n0, ())).run = ref08_box N n0 := by kernel_rfl
noncomputable def Ev63 (N : Nat) : (R : Type) → Env R := Env.addFn (Ev62 N) 45 (fun R => fnK [(.int .i64)] [(.sl (.int .i64))] (fun c => ref08_box N c.1))
theorem Ev63_ok (N : Nat) (R : Type) : EnvOK Go.Proofs.Tryd.prog (Ev63 N R) := EnvOK.addFn hmx (Ev62_ok N R) (Ev62_ok N _) (by kernel_rfl) (fun c => ref08_box_S N c.1)
noncomputable def ref08_digit (N : Nat) (n0 : Int) (six1 : List (Int)) : Option (Int) :=
 Option.bind (getI six1 (0 : Int)) fun (v3 : Int) =>
 Option.bind (getI six1 (5 : Int)) fun (v4 : Int) =>
 Option.bind (subI six1 (1 : Int) (5 : Int)) fun (v5 : (List Int)) =>
 Option.bind (@ref03_Word N v5) fun (v6 : Int) =>
 Option.bind (@ref08_box N n0) fun (v7 : (List Int)) =>
 Option.bind (getI v7 (Go.IntKind.wrap .i64 ((Go.IntKind.wrap .i64 ((16 : Int) * (Go.IntKind.wrap .i64 ((Go.IntKind.wrap .i64 ((2 : Int) * (Go.IntKind.wrap .i64 v3))) + (Go.IntKind.wrap .i64 v4))))) + (Go.IntKind.wrap .i64 v6)))) fun (v8 : Int) =>
 some (v8)
theorem ref08_digit_S (N : Nat) (n0 : Int) (six1 : List (Int)) : (runK Go.Proofs.Tryd.prog (Ev63 N) 400 23 [(.int .i64), (.sl (.int .u8))] [(.int .i64)] (n0, six1, ())).run = ref08_digit N n0 six1 := by kernel_rfl
noncomputable def Ev64 (N : Nat) : (R : Type) → Env R := Env.addFn (Ev63 N) 23 (fun R => fnK [(.int .i64), (.sl (.int .u8))] [(.int .i64)] (fun c => ref08_digit N c.1 c.2.1))
theorem Ev64_ok (N : Nat) (R : Type) : EnvOK Go.Proofs.Tryd.prog (Ev64 N R) := EnvOK.addFn hmx (Ev63_ok N R) (Ev63_ok N _) (by kernel_rfl) (fun c => ref08_digit_S N c.1 c.2.1)
noncomputable def ref08_Box (N : Nat) (n0 : Int) (six1 : Int) : Option (Int) :=
 Option.bind (@ref03_Row N six1 (6 : Int)) fun (v3 : (List Int)) =>
 Option.bind (@ref08_digit N n0 v3) fun (v4 : Int) =>
 some ((Go.IntKind.wrap .u64 v4))
theorem ref08_Box_S (N : Nat) (n0 : Int) (six1 : Int) : (runK Go.Proofs.Tryd.prog (Ev64 N) 400 9 [(.int .i64), (.int .u64)] [(.int .u64)] (n0, six1, ())).run = ref08_Box N n0 six1 := by kernel_rfl
theorem ref08_Box_C (N : Nat) (n0 : Int) (six1 : Int) (y : Int) (h : ref08_Box N n0 six1 = some y) : CallsK Go.Proofs.Tryd.prog 9 (valA [(.int .i64), (.int .u64)] (n0, six1, ())) (tupV (valR [(.int .u64)] y)) := runK_ok hmx (Ev64_ok N _) (okFn_ok (by kernel_rfl)) (by rw [ref08_Box_S]; exact h)
noncomputable def Ev65 (N : Nat) : (R : Type) → Env R := Env.addFn (Ev64 N) 9 (fun R => fnK [(.int .i64), (.int .u64)] [(.int .u64)] (fun c => ref08_Box N c.1 c.2.1))
theorem Ev65_ok (N : Nat) (R : Type) : EnvOK Go.Proofs.Tryd.prog (Ev65 N R) := EnvOK.addFn hmx (Ev64_ok N R) (Ev64_ok N _) (by kernel_rfl) (fun c => ref08_Box_S N c.1 c.2.1)
noncomputable def Ev66 (N : Nat) : (R : Type) → Env R := Env.addMv (Ev65 N) [(30, 2), (30, 12)]
theorem Ev66_ok (N : Nat) (R : Type) : EnvOK Go.Proofs.Tryd.prog (Ev66 N R) := EnvOK.addMv (Ev65_ok N R) [(30, 2), (30, 12)]
noncomputable def ref08_ofKeys (N : Nat) : Option (List (Int)) :=
 some (([(57 : Int), (49 : Int), (41 : Int), (33 : Int), (25 : Int), (17 : Int), (9 : Int), (1 : Int), (58 : Int), (50 : Int), (42 : Int), (34 : Int), (26 : Int), (18 : Int), (10 : Int), (2 : Int), (59 : Int), (51 : Int), (43 : Int), (35 : Int), (27 : Int), (19 : Int), (11 : Int), (3 : Int), (60 : Int), (52 : Int), (44 : Int), (36 : Int), (63 : Int), (55 : Int), (47 : Int), (39 : Int), (31 : Int), (23 : Int), (15 : Int), (7 : Int), (62 : Int), (54 : Int), (46 : Int), (38 : Int), (30 : Int), (22 : Int), (14 : Int), (6 : Int), (61 : Int), (53 : Int), (45 : Int), (37 : Int), (29 : Int), (21 : Int), (13 : Int), (5 : Int), (28 : Int), (20 : Int), (12 : Int), (4 : Int)] : List (Int)))
theorem ref08_ofKeys_S (N : Nat) : (runK Go.Proofs.Tryd.prog (Ev66 N) 400 52 [] [(.sl (.int .i64))] ()).run = ref08_ofKeys N  := by kernel_rfl
noncomputable def Ev67 (N : Nat) : (R : Type) → Env R := Env.addFn (Ev66 N) 52 (fun R => fnK [] [(.sl (.int .i64))] (fun c => ref08_ofKeys N ))
theorem Ev67_ok (N : Nat) (R : Type) : EnvOK Go.Proofs.Tryd.prog (Ev67 N R) := EnvOK.addFn hmx (Ev66_ok N R) (Ev66_ok N _) (by kernel_rfl) (fun c => ref08_ofKeys_S N )
noncomputable def Ev68 (N : Nat) : (R : Type) → Env R := Env.addMv (Ev67 N) [(51, 5)]
theorem Ev68_ok (N : Nat) (R : Type) : EnvOK Go.Proofs.Tryd.prog (Ev68 N R) := EnvOK.addMv (Ev67_ok N R) [(51, 5)]
noncomputable def ref08_by_L3_I : LI := ⟨25, 0, [(5, 5)], ⟨[(0, .ty (.sl (.int .u8))), (1, .ty (.sl (.int .i64))), (5, .lit (.own 0)), (6, .ty (.int .i64))], [.own (.int .u8) 5]⟩, [(.exit 0, ⟨[(5, .lit (.own 0))], [.own (.int .u8) 5]⟩)]⟩
noncomputable def ref08_by_L3 (N : Nat) (X : (((List (Int)) × ((List (Int)) × ((Int) × Unit))) × ((List (Int)) × Unit)) → Option ((Unit × ((List (Int)) × Unit)))) (row0 : List (Int)) (table1 : List (Int)) (i6 : Int) (h0 : List (Int)) : Option ((Unit × ((List (Int)) × Unit))) :=
 bif (decide (i6 < (((List.length table1) : Nat) : Int))) then
  Option.bind (getI table1 i6) fun (v6 : Int) =>
  Option.bind (getI row0 (Go.IntKind.wrap .i64 (v6 - (1 : Int)))) fun (v7 : Int) =>
  bif (roomB ((List.length h0) + (List.length ([v7] : List (Int)))) 1) then
   (X ((row0, (table1, ((Go.IntKind.wrap .i64 (i6 + (1 : Int))), @Unit.unit))), ((h0 ++ ([v7] : List (Int))), @Unit.unit)))
  else
   none
 else
  some ((@Unit.unit, (h0, @Unit.unit)))
noncomputable def ref08_by_L3_R (N : Nat) (c : (((List (Int)) × ((List (Int)) × ((Int) × Unit))) × ((List (Int)) × Unit))) : Option ((Unit × ((List (Int)) × Unit))) := gl (fun X c => ref08_by_L3 N X c.1.1 c.1.2.1 c.1.2.2.1 c.2.1) N c
theorem ref08_by_L3_S (N : Nat) (X : (((List (Int)) × ((List (Int)) × ((Int) × Unit))) × ((List (Int)) × Unit)) → Option ((Unit × ((List (Int)) × Unit)))) (row0 : List (Int)) (table1 : List (Int)) (i6 : Int) (h0 : List (Int)) : (roundK Go.Proofs.Tryd.prog (Ev68 N) 400 [51] ref08_by_L3_I (loopAt Go.Proofs.Tryd.prog [51] 3) X ((row0, table1, i6, ()), (h0, ()))).run = ref08_by_L3 N X row0 table1 i6 h0 := by kernel_rfl
noncomputable def Ev69 (N : Nat) : (R : Type) → Env R := Env.addLp (Ev68 N) [51] 0 3 (fun R => lpK Go.Proofs.Tryd.prog ref08_by_L3_I (fun X c => ref08_by_L3 N X c.1.1 c.1.2.1 c.1.2.2.1 c.2.1) N)
theorem Ev69_ok (N : Nat) (R : Type) : EnvOK Go.Proofs.Tryd.prog (Ev69 N R) := EnvOK.addLp (Ev68_ok N R) (by kernel_rfl) (lpK_ok (li := ref08_by_L3_I) (G := fun X c => ref08_by_L3 N X c.1.1 c.1.2.1 c.1.2.2.1 c.2.1) hmx (Ev68_ok N _) (by kernel_rfl) loopAt_sub (fun (X : CT ref08_by_L3_I.sh → Option (OT ref08_by_L3_I.outs)) (c : CT ref08_by_L3_I.sh) => ref08_by_L3_S N X c.1.1 c.1.2.1 c.1.2.2.1 c.2.1) N)
noncomputable def ref08_by (N : Nat) (row0 : List (Int)) (table1 : List (Int)) : Option (List (Int)) :=
 Option.bind (ref08_by_L3_R N ((row0, (table1, ((0 : Int), @Unit.unit))), (([] : List (Int)), @Unit.unit))) fun (v3 : (Unit × ((List Int) × Unit))) =>
 some (v3.2.1)
theorem ref08_by_S (N : Nat) (row0 : List (Int)) (table1 : List (Int)) : (runK Go.Proofs.Tryd.prog (Ev69 N) 400 51 [(.sl (.int .u8)), (.sl (.int .i64))] [(.sl (.int .u8))] (row0, table1, ())).run = ref08_by N row0 table1 := by kernel_rfl
noncomputable def Ev70 (N : Nat) : (R : Type) → Env R := Env.addFn (Ev69 N) 51 (fun R => fnK [(.sl (.int .u8)), (.sl (.int .i64))] [(.sl (.int .u8))] (fun c => ref08_by N c.1 c.2.1))
theorem Ev70_ok (N : Nat) (R : Type) : EnvOK Go.Proofs.Tryd.prog (Ev70 N R) := EnvOK.addFn hmx (Ev69_ok N R) (Ev69_ok N _) (by kernel_rfl) (fun c => ref08_by_S N c.1 c.2.1)
noncomputable def ref08_ofRounds (N : Nat) : Option (List (Int)) :=
 some (([(14 : Int), (17 : Int), (11 : Int), (24 : Int), (1 : Int), (5 : Int), (3 : Int), (28 : Int), (15 : Int), (6 : Int), (21 : Int), (10 : Int), (23 : Int), (19 : Int), (12 : Int), (4 : Int), (26 : Int), (8 : Int), (16 : Int), (7 : Int), (27 : Int), (20 : Int), (13 : Int), (2 : Int), (41 : Int), (52 : Int), (31 : Int), (37 : Int), (47 : Int), (55 : Int), (30 : Int), (40 : Int), (51 : Int), (45 : Int), (33 : Int), (48 : Int), (44 : Int), (49 : Int), (39 : Int), (56 : Int), (34 : Int), (53 : Int), (46 : Int), (42 : Int), (50 : Int), (36 : Int), (29 : Int), (32 : Int)] : List (Int)))
theorem ref08_ofRounds_S (N : Nat) : (runK Go.Proofs.Tryd.prog (Ev70 N) 400 53 [] [(.sl (.int .i64))] ()).run = ref08_ofRounds N  := by kernel_rfl
noncomputable def Ev71 (N : Nat) : (R : Type) → Env R := Env.addFn (Ev70 N) 53 (fun R => fnK [] [(.sl (.int .i64))] (fun c => ref08_ofRounds N ))
theorem Ev71_ok (N : Nat) (R : Type) : EnvOK Go.Proofs.Tryd.prog (Ev71 N R) := EnvOK.addFn hmx (Ev70_ok N R) (Ev70_ok N _) (by kernel_rfl) (fun c => ref08_ofRounds_S N )
noncomputable def ref08_keys_L5_I : LI := ⟨61, 0, [(6, 32)], ⟨[(4, .ty (.sl (.int .u8))), (5, .ty (.sl (.int .u8))), (6, .lit (.own 0)), (7, .ty (.int .i64))], [.own (.sl (.int .u8)) 32]⟩, [(.exit 0, ⟨[(6, .lit (.own 0))], [.own (.sl (.int .u8)) 32]⟩)]⟩
noncomputable def ref08_keys_L5 (N : Nat) (X : (((List (Int)) × ((List (Int)) × ((Int) × Unit))) × ((List (List (Int))) × Unit)) → Option ((Unit × ((List (List (Int))) × Unit)))) (c4 : List (Int)) (d5 : List (Int)) (i7 : Int) (h0 : List (List (Int))) : Option ((Unit × ((List (List (Int))) × Unit))) :=
 bif (decide (i7 ≤ (16 : Int))) then
  bif (decide (i7 = (1 : Int))) then
   Option.bind (dropI c4 (1 : Int)) fun (v6 : (List Int)) =>
   Option.bind (takeI c4 (1 : Int)) fun (v7 : (List Int)) =>
   bif (roomB (List.length v6) 1) then
    bif (roomB ((List.length v6) + (List.length v7)) 1) then
     Option.bind (dropI d5 (1 : Int)) fun (v8 : (List Int)) =>
     Option.bind (takeI d5 (1 : Int)) fun (v9 : (List Int)) =>
     bif (roomB (List.length v8) 1) then
      bif (roomB ((List.length v8) + (List.length v9)) 1) then
       bif (roomB (List.length (v6 ++ v7)) 1) then
        bif (roomB ((List.length (v6 ++ v7)) + (List.length (v8 ++ v9))) 1) then
         Option.bind (@ref08_by N ((v6 ++ v7) ++ (v8 ++ v9)) (@List.cons Int (14 : Int) (@List.cons Int (17 : Int) (@List.cons Int (11 : Int) (@List.cons Int (24 : Int) (@List.cons Int (1 : Int) (@List.cons Int (5 : Int) (@List.cons Int (3 : Int) (@List.cons Int (28 : Int) (@List.cons Int (15 : Int) (@List.cons Int (6 : Int) (@List.cons Int (21 : Int) (@List.cons Int (10 : Int) (@List.cons Int (23 : Int) (@List.cons Int (19 : Int) (@List.cons Int (12 : Int) (@List.cons Int (4 : Int) (@List.cons Int (26 : Int) (@List.cons Int (8 : Int) (@List.cons Int (16 : Int) (@List.cons Int (7 : Int) (@List.cons Int (27 : Int) (@List.cons Int (20 : Int) (@List.cons Int (13 : Int) (@List.cons Int (2 : Int) (@List.cons Int (41 : Int) (@List.cons Int (52 : Int) (@List.cons Int (31 : Int) (@List.cons Int (37 : Int) (@List.cons Int (47 : Int) (@List.cons Int (55 : Int) (@List.cons Int (30 : Int) (@List.cons Int (40 : Int) (@List.cons Int (51 : Int) (@List.cons Int (45 : Int) (@List.cons Int (33 : Int) (@List.cons Int (48 : Int) ([(44 : Int), (49 : Int), (39 : Int), (56 : Int), (34 : Int), (53 : Int), (46 : Int), (42 : Int), (50 : Int), (36 : Int), (29 : Int), (32 : Int)] : List (Int))))))))))))))))))))))))))))))))))))))) fun (v10 : (List Int)) =>
         bif (roomB ((List.length h0) + (List.length ([v10] : List ((List Int))))) 24) then
          (X (((v6 ++ v7), ((v8 ++ v9), ((Go.IntKind.wrap .i64 (i7 + (1 : Int))), @Unit.unit))), ((h0 ++ ([v10] : List ((List Int)))), @Unit.unit)))
         else
          none
        else
         none
       else
        none
      else
       none
     else
      none
    else
     none
   else
    none
  else
   bif (@cond Bool @Bool.false @Bool.true (decide (i7 = (2 : Int)))) then
    Option.bind (dropI c4 (1 : Int)) fun (v6 : (List Int)) =>
    Option.bind (takeI c4 (1 : Int)) fun (v7 : (List Int)) =>
    bif (roomB (List.length v6) 1) then
     bif (roomB ((List.length v6) + (List.length v7)) 1) then
      Option.bind (dropI d5 (1 : Int)) fun (v8 : (List Int)) =>
      Option.bind (takeI d5 (1 : Int)) fun (v9 : (List Int)) =>
      bif (roomB (List.length v8) 1) then
       bif (roomB ((List.length v8) + (List.length v9)) 1) then
        bif (roomB (List.length (v6 ++ v7)) 1) then
         bif (roomB ((List.length (v6 ++ v7)) + (List.length (v8 ++ v9))) 1) then
          Option.bind (@ref08_by N ((v6 ++ v7) ++ (v8 ++ v9)) (@List.cons Int (14 : Int) (@List.cons Int (17 : Int) (@List.cons Int (11 : Int) (@List.cons Int (24 : Int) (@List.cons Int (1 : Int) (@List.cons Int (5 : Int) (@List.cons Int (3 : Int) (@List.cons Int (28 : Int) (@List.cons Int (15 : Int) (@List.cons Int (6 : Int) (@List.cons Int (21 : Int) (@List.cons Int (10 : Int) (@List.cons Int (23 : Int) (@List.cons Int (19 : Int) (@List.cons Int (12 : Int) (@List.cons Int (4 : Int) (@List.cons Int (26 : Int) (@List.cons Int (8 : Int) (@List.cons Int (16 : Int) (@List.cons Int (7 : Int) (@List.cons Int (27 : Int) (@List.cons Int (20 : Int) (@List.cons Int (13 : Int) (@List.cons Int (2 : Int) (@List.cons Int (41 : Int) (@List.cons Int (52 : Int) (@List.cons Int (31 : Int) (@List.cons Int (37 : Int) (@List.cons Int (47 : Int) (@List.cons Int (55 : Int) (@List.cons Int (30 : Int) (@List.cons Int (40 : Int) (@List.cons Int (51 : Int) (@List.cons Int (45 : Int) (@List.cons Int (33 : Int) (@List.cons Int (48 : Int) ([(44 : Int), (49 : Int), (39 : Int), (56 : Int), (34 : Int), (53 : Int), (46 : Int), (42 : Int), (50 : Int), (36 : Int), (29 : Int), (32 : Int)] : List (Int))))))))))))))))))))))))))))))))))))))) fun (v10 : (List Int)) =>
          bif (roomB ((List.length h0) + (List.length ([v10] : List ((List Int))))) 24) then
           (X (((v6 ++ v7), ((v8 ++ v9), ((Go.IntKind.wrap .i64 (i7 + (1 : Int))), @Unit.unit))), ((h0 ++ ([v10] : List ((List Int)))), @Unit.unit)))
          else
           none
         else
          none
        else
         none
       else
        none
      else
       none
     else
      none
    else
     none
   else
    bif (@cond Bool @Bool.false @Bool.true (decide (i7 = (9 : Int)))) then
     Option.bind (dropI c4 (1 : Int)) fun (v6 : (List Int)) =>
     Option.bind (takeI c4 (1 : Int)) fun (v7 : (List Int)) =>
     bif (roomB (List.length v6) 1) then
      bif (roomB ((List.length v6) + (List.length v7)) 1) then
       Option.bind (dropI d5 (1 : Int)) fun (v8 : (List Int)) =>
       Option.bind (takeI d5 (1 : Int)) fun (v9 : (List Int)) =>
       bif (roomB (List.length v8) 1) then
        bif (roomB ((List.length v8) + (List.length v9)) 1) then
         bif (roomB (List.length (v6 ++ v7)) 1) then
          bif (roomB ((List.length (v6 ++ v7)) + (List.length (v8 ++ v9))) 1) then
           Option.bind (@ref08_by N ((v6 ++ v7) ++ (v8 ++ v9)) (@List.cons Int (14 : Int) (@List.cons Int (17 : Int) (@List.cons Int (11 : Int) (@List.cons Int (24 : Int) (@List.cons Int (1 : Int) (@List.cons Int (5 : Int) (@List.cons Int (3 : Int) (@List.cons Int (28 : Int) (@List.cons Int (15 : Int) (@List.cons Int (6 : Int) (@List.cons Int (21 : Int) (@List.cons Int (10 : Int) (@List.cons Int (23 : Int) (@List.cons Int (19 : Int) (@List.cons Int (12 : Int) (@List.cons Int (4 : Int) (@List.cons Int (26 : Int) (@List.cons Int (8 : Int) (@List.cons Int (16 : Int) (@List.cons Int (7 : Int) (@List.cons Int (27 : Int) (@List.cons Int (20 : Int) (@List.cons Int (13 : Int) (@List.cons Int (2 : Int) (@List.cons Int (41 : Int) (@List.cons Int (52 : Int) (@List.cons Int (31 : Int) (@List.cons Int (37 : Int) (@List.cons Int (47 : Int) (@List.cons Int (55 : Int) (@List.cons Int (30 : Int) (@List.cons Int (40 : Int) (@List.cons Int (51 : Int) (@List.cons Int (45 : Int) (@List.cons Int (33 : Int) (@List.cons Int (48 : Int) ([(44 : Int), (49 : Int), (39 : Int), (56 : Int), (34 : Int), (53 : Int), (46 : Int), (42 : Int), (50 : Int), (36 : Int), (29 : Int), (32 : Int)] : List (Int))))))))))))))))))))))))))))))))))))))) fun (v10 : (List Int)) =>
           bif (roomB ((List.length h0) + (List.length ([v10] : List ((List Int))))) 24) then
            (X (((v6 ++ v7), ((v8 ++ v9), ((Go.IntKind.wrap .i64 (i7 + (1 : Int))), @Unit.unit))), ((h0 ++ ([v10] : List ((List Int)))), @Unit.unit)))
           else
            none
          else
           none
         else
          none
        else
         none
       else
        none
      else
       none
     else
      none
    else
     bif (@cond Bool @Bool.false @Bool.true (decide (i7 = (16 : Int)))) then
      Option.bind (dropI c4 (1 : Int)) fun (v6 : (List Int)) =>
      Option.bind (takeI c4 (1 : Int)) fun (v7 : (List Int)) =>
      bif (roomB (List.length v6) 1) then
       bif (roomB ((List.length v6) + (List.length v7)) 1) then
        Option.bind (dropI d5 (1 : Int)) fun (v8 : (List Int)) =>
        Option.bind (takeI d5 (1 : Int)) fun (v9 : (List Int)) =>
        bif (roomB (List.length v8) 1) then
         bif (roomB ((List.length v8) + (List.length v9)) 1) then
          bif (roomB (List.length (v6 ++ v7)) 1) then
           bif (roomB ((List.length (v6 ++ v7)) + (List.length (v8 ++ v9))) 1) then
            Option.bind (@ref08_by N ((v6 ++ v7) ++ (v8 ++ v9)) (@List.cons Int (14 : Int) (@List.cons Int (17 : Int) (@List.cons Int (11 : Int) (@List.cons Int (24 : Int) (@List.cons Int (1 : Int) (@List.cons Int (5 : Int) (@List.cons Int (3 : Int) (@List.cons Int (28 : Int) (@List.cons Int (15 : Int) (@List.cons Int (6 : Int) (@List.cons Int (21 : Int) (@List.cons Int (10 : Int) (@List.cons Int (23 : Int) (@List.cons Int (19 : Int) (@List.cons Int (12 : Int) (@List.cons Int (4 : Int) (@List.cons Int (26 : Int) (@List.cons Int (8 : Int) (@List.cons Int (16 : Int) (@List.cons Int (7 : Int) (@List.cons Int (27 : Int) (@List.cons Int (20 : Int) (@List.cons Int (13 : Int) (@List.cons Int (2 : Int) (@List.cons Int (41 : Int) (@List.cons Int (52 : Int) (@List.cons Int (31 : Int) (@List.cons Int (37 : Int) (@List.cons Int (47 : Int) (@List.cons Int (55 : Int) (@List.cons Int (30 : Int) (@List.cons Int (40 : Int) (@List.cons Int (51 : Int) (@List.cons Int (45 : Int) (@List.cons Int (33 : Int) (@List.cons Int (48 : Int) ([(44 : Int), (49 : Int), (39 : Int), (56 : Int), (34 : Int), (53 : Int), (46 : Int), (42 : Int), (50 : Int), (36 : Int), (29 : Int), (32 : Int)] : List (Int))))))))))))))))))))))))))))))))))))))) fun (v10 : (List Int)) =>
            bif (roomB ((List.length h0) + (List.length ([v10] : List ((List Int))))) 24) then
             (X (((v6 ++ v7), ((v8 ++ v9), ((Go.IntKind.wrap .i64 (i7 + (1 : Int))), @Unit.unit))), ((h0 ++ ([v10] : List ((List Int)))), @Unit.unit)))
            else
             none
           else
            none
          else
           none
         else
          none
        else
         none
       else
        none
      else
       none
     else
      Option.bind (dropI c4 (2 : Int)) fun (v6 : (List Int)) =>
      Option.bind (takeI c4 (2 : Int)) fun (v7 : (List Int)) =>
      bif (roomB (List.length v6) 1) then
       bif (roomB ((List.length v6) + (List.length v7)) 1) then
        Option.bind (dropI d5 (2 : Int)) fun (v8 : (List Int)) =>
        Option.bind (takeI d5 (2 : Int)) fun (v9 : (List Int)) =>
        bif (roomB (List.length v8) 1) then
         bif (roomB ((List.length v8) + (List.length v9)) 1) then
          bif (roomB (List.length (v6 ++ v7)) 1) then
           bif (roomB ((List.length (v6 ++ v7)) + (List.length (v8 ++ v9))) 1) then
            Option.bind (@ref08_by N ((v6 ++ v7) ++ (v8 ++ v9)) (@List.cons Int (14 : Int) (@List.cons Int (17 : Int) (@List.cons Int (11 : Int) (@List.cons Int (24 : Int) (@List.cons Int (1 : Int) (@List.cons Int (5 : Int) (@List.cons Int (3 : Int) (@List.cons Int (28 : Int) (@List.cons Int (15 : Int) (@List.cons Int (6 : Int) (@List.cons Int (21 : Int) (@List.cons Int (10 : Int) (@List.cons Int (23 : Int) (@List.cons Int (19 : Int) (@List.cons Int (12 : Int) (@List.cons Int (4 : Int) (@List.cons Int (26 : Int) (@List.cons Int (8 : Int) (@List.cons Int (16 : Int) (@List.cons Int (7 : Int) (@List.cons Int (27 : Int) (@List.cons Int (20 : Int) (@List.cons Int (13 : Int) (@List.cons Int (2 : Int) (@List.cons Int (41 : Int) (@List.cons Int (52 : Int) (@List.cons Int (31 : Int) (@List.cons Int (37 : Int) (@List.cons Int (47 : Int) (@List.cons Int (55 : Int) (@List.cons Int (30 : Int) (@List.cons Int (40 : Int) (@List.cons Int (51 : Int) (@List.cons Int (45 : Int) (@List.cons Int (33 : Int) (@List.cons Int (48 : Int) ([(44 : Int), (49 : Int), (39 : Int), (56 : Int), (34 : Int), (53 : Int), (46 : Int), (42 : Int), (50 : Int), (36 : Int), (29 : Int), (32 : Int)] : List (Int))))))))))))))))))))))))))))))))))))))) fun (v10 : (List Int)) =>
            bif (roomB ((List.length h0) + (List.length ([v10] : List ((List Int))))) 24) then
             (X (((v6 ++ v7), ((v8 ++ v9), ((Go.IntKind.wrap .i64 (i7 + (1 : Int))), @Unit.unit))), ((h0 ++ ([v10] : List ((List Int)))), @Unit.unit)))
            else
             none
           else
            none
          else
           none
         else
          none
        else
         none
       else
        none
      else
       none
 else
  some ((@Unit.unit, (h0, @Unit.unit)))
noncomputable def ref08_keys_L5_R (N : Nat) (c : (((List (Int)) × ((List (Int)) × ((Int) × Unit))) × ((List (List (Int))) × Unit))) : Option ((Unit × ((List (List (Int))) × Unit))) := gl (fun X c => ref08_keys_L5 N X c.1.1 c.1.2.1 c.1.2.2.1 c.2.1) N c
theorem ref08_keys_L5_S (N : Nat) (X : (((List (Int)) × ((List (Int)) × ((Int) × Unit))) × ((List (List (Int))) × Unit)) → Option ((Unit × ((List (List (Int))) × Unit)))) (c4 : List (Int)) (d5 : List (Int)) (i7 : Int) (h0 : List (List (Int))) : (roundK Go.Proofs.Tryd.prog (Ev71 N) 400 [30] ref08_keys_L5_I (loopAt Go.Proofs.Tryd.prog [30] 5) X ((c4, d5, i7, ()), (h0, ()))).run = ref08_keys_L5 N X c4 d5 i7 h0 := by kernel_rfl
noncomputable def Ev72 (N : Nat) : (R : Type) → Env R := Env.addLp (Ev71 N) [30] 0 5 (fun R => lpK Go.Proofs.Tryd.prog ref08_keys_L5_I (fun X c => ref08_keys_L5 N X c.1.1 c.1.2.1 c.1.2.2.1 c.2.1) N)
theorem Ev72_ok (N : Nat) (R : Type) : EnvOK Go.Proofs.Tryd.prog (Ev72 N R) := EnvOK.addLp (Ev71_ok N R) (by kernel_rfl) (lpK_ok (li := ref08_keys_L5_I) (G := fun X c => ref08_keys_L5 N X c.1.1 c.1.2.1 c.1.2.2.1 c.2.1) hmx (Ev71_ok N _) (by kernel_rfl) loopAt_sub (fun (X : CT ref08_keys_L5_I.sh → Option (OT ref08_keys_L5_I.outs)) (c : CT ref08_keys_L5_I.sh) => ref08_keys_L5_S N X c.1.1 c.1.2.1 c.1.2.2.1 c.2.1) N)
noncomputable def ref08_keys (N : Nat) (key0 : Int) : Option (List (List (Int))) :=
 Option.bind (@ref03_Row N key0 (64 : Int)) fun (v2 : (List Int)) =>
 Option.bind (@ref08_by N v2 (@List.cons Int (57 : Int) (@List.cons Int (49 : Int) (@List.cons Int (41 : Int) (@List.cons Int (33 : Int) (@List.cons Int (25 : Int) (@List.cons Int (17 : Int) (@List.cons Int (9 : Int) (@List.cons Int (1 : Int) (@List.cons Int (58 : Int) (@List.cons Int (50 : Int) (@List.cons Int (42 : Int) (@List.cons Int (34 : Int) (@List.cons Int (26 : Int) (@List.cons Int (18 : Int) (@List.cons Int (10 : Int) (@List.cons Int (2 : Int) (@List.cons Int (59 : Int) (@List.cons Int (51 : Int) (@List.cons Int (43 : Int) (@List.cons Int (35 : Int) (@List.cons Int (27 : Int) (@List.cons Int (19 : Int) (@List.cons Int (11 : Int) (@List.cons Int (3 : Int) (@List.cons Int (60 : Int) (@List.cons Int (52 : Int) (@List.cons Int (44 : Int) (@List.cons Int (36 : Int) (@List.cons Int (63 : Int) (@List.cons Int (55 : Int) (@List.cons Int (47 : Int) (@List.cons Int (39 : Int) (@List.cons Int (31 : Int) (@List.cons Int (23 : Int) (@List.cons Int (15 : Int) (@List.cons Int (7 : Int) (@List.cons Int (62 : Int) (@List.cons Int (54 : Int) (@List.cons Int (46 : Int) (@List.cons Int (38 : Int) (@List.cons Int (30 : Int) (@List.cons Int (22 : Int) ([(14 : Int), (6 : Int), (61 : Int), (53 : Int), (45 : Int), (37 : Int), (29 : Int), (21 : Int), (13 : Int), (5 : Int), (28 : Int), (20 : Int), (12 : Int), (4 : Int)] : List (Int))))))))))))))))))))))))))))))))))))))))))))) fun (v3 : (List Int)) =>
 Option.bind (takeI v3 (28 : Int)) fun (v4 : (List Int)) =>
 Option.bind (dropI v3 (28 : Int)) fun (v5 : (List Int)) =>
 Option.bind (ref08_keys_L5_R N ((v4, (v5, ((1 : Int), @Unit.unit))), (([] : List ((List Int))), @Unit.unit))) fun (v6 : (Unit × ((List (List Int)) × Unit))) =>
 some (v6.2.1)
theorem ref08_keys_S (N : Nat) (key0 : Int) : (runK Go.Proofs.Tryd.prog (Ev72 N) 400 30 [(.int .u64)] [(.sl (.sl (.int .u8)))] (key0, ())).run = ref08_keys N key0 := by kernel_rfl
noncomputable def Ev73 (N : Nat) : (R : Type) → Env R := Env.addFn (Ev72 N) 30 (fun R => fnK [(.int .u64)] [(.sl (.sl (.int .u8)))] (fun c => ref08_keys N c.1))
theorem Ev73_ok (N : Nat) (R : Type) : EnvOK Go.Proofs.Tryd.prog (Ev73 N R) := EnvOK.addFn hmx (Ev72_ok N R) (Ev72_ok N _) (by kernel_rfl) (fun c => ref08_keys_S N c.1)
noncomputable def ref08_Keys_L4_I : LI := ⟨20, 0, [], ⟨[(2, .lit (.box 0 0)), (3, .lit (.box 1 0)), (4, .ty (.sl (.sl (.int .u8)))), (5, .ty (.int .i64))], [.box 25 (.arr 16 (.int .u64)), .box 25 (.arr 16 (.int .u64))]⟩, [(.exit 0, ⟨[(2, .lit (.box 0 0)), (3, .lit (.box 1 0))], [.box 25 (.arr 16 (.int .u64)), .box 25 (.arr 16 (.int .u64))]⟩)]⟩
noncomputable def ref08_Keys_L4 (N : Nat) (X : (((List (List (Int))) × ((Int) × Unit)) × ((Arr (Int) 16) × ((Arr (Int) 16) × Unit))) → Option ((Unit × ((Arr (Int) 16) × ((Arr (Int) 16) × Unit))))) (l4 : List (List (Int))) (i5 : Int) (h0 : Arr (Int) 16) (h1 : Arr (Int) 16) : Option ((Unit × ((Arr (Int) 16) × ((Arr (Int) 16) × Unit)))) :=
 bif (decide (i5 < (16 : Int))) then
  Option.bind (getI l4 i5) fun (v6 : (List Int)) =>
  Option.bind (@ref03_Word N v6) fun (v7 : Int) =>
  bif (decide ((0 : Int) ≤ i5 ∧ i5 < (((16 : Nat) : Nat) : Int))) then
   Option.bind (@GetElem?.getElem? (List Int) Nat Int (fun (as8 : (List Int)) => (fun (i9 : Nat) => (@LT.lt Nat @instLTNat i9 (List.length as8)))) (@List.instGetElem?NatLtLength Int) h1.l (Int.toNat i5)) fun (v8 : Int) =>
   (X ((l4, ((Go.IntKind.wrap .i64 (i5 + (1 : Int))), @Unit.unit)), (h0, ((h1.set (Int.toNat i5) v7), @Unit.unit))))
  else
   none
 else
  some ((@Unit.unit, (h0, (h1, @Unit.unit))))
noncomputable def ref08_Keys_L4_R (N : Nat) (c : (((List (List (Int))) × ((Int) × Unit)) × ((Arr (Int) 16) × ((Arr (Int) 16) × Unit)))) : Option ((Unit × ((Arr (Int) 16) × ((Arr (Int) 16) × Unit)))) := gl (fun X c => ref08_Keys_L4 N X c.1.1 c.1.2.1 c.2.1 c.2.2.1) N c
theorem ref08_Keys_L4_S (N : Nat) (X : (((List (List (Int))) × ((Int) × Unit)) × ((Arr (Int) 16) × ((Arr (Int) 16) × Unit))) → Option ((Unit × ((Arr (Int) 16) × ((Arr (Int) 16) × Unit))))) (l4 : List (List (Int))) (i5 : Int) (h0 : Arr (Int) 16) (h1 : Arr (Int) 16) : (roundK Go.Proofs.Tryd.prog (Ev73 N) 400 [11] ref08_Keys_L4_I (loopAt Go.Proofs.Tryd.prog [11] 4) X ((l4, i5, ()), (h0, h1, ()))).run = ref08_Keys_L4 N X l4 i5 h0 h1 := by kernel_rfl
noncomputable def Ev74 (N : Nat) : (R : Type) → Env R := Env.addLp (Ev73 N) [11] 0 4 (fun R => lpK Go.Proofs.Tryd.prog ref08_Keys_L4_I (fun X c => ref08_Keys_L4 N X c.1.1 c.1.2.1 c.2.1 c.2.2.1) N)
theorem Ev74_ok (N : Nat) (R : Type) : EnvOK Go.Proofs.Tryd.prog (Ev74 N R) := EnvOK.addLp (Ev73_ok N R) (by kernel_rfl) (lpK_ok (li := ref08_Keys_L4_I) (G := fun X c => ref08_Keys_L4 N X c.1.1 c.1.2.1 c.2.1 c.2.2.1) hmx (Ev73_ok N _) (by kernel_rfl) loopAt_sub (fun (X : CT ref08_Keys_L4_I.sh → Option (OT ref08_Keys_L4_I.outs)) (c : CT ref08_Keys_L4_I.sh) => ref08_Keys_L4_S N X c.1.1 c.1.2.1 c.2.1 c.2.2.1) N)
noncomputable def ref08_Keys (N : Nat) (key0 : Int) : Option (Arr (Int) 16) :=
 Option.bind (@ref08_keys N key0) fun (v2 : (List (List Int))) =>
 Option.bind (ref08_Keys_L4_R N ((v2, ((0 : Int), @Unit.unit)), ((@Arr.cons Int (15 : Nat) (0 : Int) (@Arr.cons Int (14 : Nat) (0 : Int) (@Arr.cons Int (13 : Nat) (0 : Int) (@Arr.cons Int (12 : Nat) (0 : Int) (@Arr.cons Int (11 : Nat) (0 : Int) (@Arr.cons Int (10 : Nat) (0 : Int) (@Arr.cons Int (9 : Nat) (0 : Int) (@Arr.cons Int (8 : Nat) (0 : Int) (@Arr.cons Int (7 : Nat) (0 : Int) (@Arr.cons Int (6 : Nat) (0 : Int) (@Arr.cons Int (5 : Nat) (0 : Int) (@Arr.cons Int (4 : Nat) (0 : Int) (@Arr.cons Int (3 : Nat) (0 : Int) (@Arr.cons Int (2 : Nat) (0 : Int) (@Arr.cons Int (1 : Nat) (0 : Int) (@Arr.cons Int (0 : Nat) (0 : Int) (@Arr.nil Int))))))))))))))))), ((@Arr.cons Int (15 : Nat) (0 : Int) (@Arr.cons Int (14 : Nat) (0 : Int) (@Arr.cons Int (13 : Nat) (0 : Int) (@Arr.cons Int (12 : Nat) (0 : Int) (@Arr.cons Int (11 : Nat) (0 : Int) (@Arr.cons Int (10 : Nat) (0 : Int) (@Arr.cons Int (9 : Nat) (0 : Int) (@Arr.cons Int (8 : Nat) (0 : Int) (@Arr.cons Int (7 : Nat) (0 : Int) (@Arr.cons Int (6 : Nat) (0 : Int) (@Arr.cons Int (5 : Nat) (0 : Int) (@Arr.cons Int (4 : Nat) (0 : Int) (@Arr.cons Int (3 : Nat) (0 : Int) (@Arr.cons Int (2 : Nat) (0 : Int) (@Arr.cons Int (1 : Nat) (0 : Int) (@Arr.cons Int (0 : Nat) (0 : Int) (@Arr.nil Int))))))))))))))))), @Unit.unit)))) fun (v3 : (Unit × ((Arr Int 16) × ((Arr Int 16) × Unit)))) =>
 some (v3.2.2.1)
theorem ref08_Keys_S (N : Nat) (key0 : Int) : (runK Go.Proofs.Tryd.prog (Ev74 N) 400 11 [(.int .u64)] [(.arr 16 (.int .u64))] (key0, ())).run = ref08_Keys N key0 := by kernel_rfl
theorem ref08_Keys_C (N : Nat) (key0 : Int) (y : Arr (Int) 16) (h : ref08_Keys N key0 = some y) : CallsK Go.Proofs.Tryd.prog 11 (valA [(.int .u64)] (key0, ())) (tupV (valR [(.arr 16 (.int .u64))] y)) := runK_ok hmx (Ev74_ok N _) (okFn_ok (by kernel_rfl)) (by rw [ref08_Keys_S]; exact h)
noncomputable def Ev75 (N : Nat) : (R : Type) → Env R := Env.addFn (Ev74 N) 11 (fun R => fnK [(.int .u64)] [(.arr 16 (.int .u64))] (fun c => ref08_Keys N c.1))
theorem Ev75_ok (N : Nat) (R : Type) : EnvOK Go.Proofs.Tryd.prog (Ev75 N R) := EnvOK.addFn hmx (Ev74_ok N R) (Ev74_ok N _) (by kernel_rfl) (fun c => ref08_Keys_S N c.1)
noncomputable def ref08_wide (N : Nat) : Option (List (Int)) :=
 some (([(32 : Int), (1 : Int), (2 : Int), (3 : Int), (4 : Int), (5 : Int), (4 : Int), (5 : Int), (6 : Int), (7 : Int), (8 : Int), (9 : Int), (8 : Int), (9 : Int), (10 : Int), (11 : Int), (12 : Int), (13 : Int), (12 : Int), (13 : Int), (14 : Int), (15 : Int), (16 : Int), (17 : Int), (16 : Int), (17 : Int), (18 : Int), (19 : Int), (20 : Int), (21 : Int), (20 : Int), (21 : Int), (22 : Int), (23 : Int), (24 : Int), (25 : Int), (24 : Int), (25 : Int), (26 : Int), (27 : Int), (28 : Int), (29 : Int), (28 : Int), (29 : Int), (30 : Int), (31 : Int), (32 : Int), (1 : Int)] : List (Int)))
theorem ref08_wide_S (N : Nat) : (runK Go.Proofs.Tryd.prog (Ev75 N) 400 55 [] [(.sl (.int .i64))] ()).run = ref08_wide N  := by kernel_rfl
noncomputable def Ev76 (N : Nat) : (R : Type) → Env R := Env.addFn (Ev75 N) 55 (fun R => fnK [] [(.sl (.int .i64))] (fun c => ref08_wide N ))
theorem Ev76_ok (N : Nat) (R : Type) : EnvOK Go.Proofs.Tryd.prog (Ev76 N R) := EnvOK.addFn hmx (Ev75_ok N R) (Ev75_ok N _) (by kernel_rfl) (fun c => ref08_wide_S N )
noncomputable def ref08_turned_L3_I : LI := ⟨29, 0, [], ⟨[(0, .ty (.sl (.int .u8))), (1, .ty (.sl (.int .u8))), (5, .lit (.own 0)), (6, .ty (.int .i64))], [.own (.int .u8) 5]⟩, [(.exit 0, ⟨[(5, .lit (.own 0))], [.own (.int .u8) 5]⟩)]⟩
noncomputable def ref08_turned_L3 (N : Nat) (X : (((List (Int)) × ((List (Int)) × ((Int) × Unit))) × ((List (Int)) × Unit)) → Option ((Unit × ((List (Int)) × Unit)))) (a0 : List (Int)) (b1 : List (Int)) (i6 : Int) (h0 : List (Int)) : Option ((Unit × ((List (Int)) × Unit))) :=
 bif (decide (i6 < (((List.length a0) : Nat) : Int))) then
  Option.bind (getI a0 i6) fun (v6 : Int) =>
  Option.bind (getI b1 i6) fun (v7 : Int) =>
  bif (decide ((0 : Int) ≤ i6 ∧ i6 < (((List.length h0) : Nat) : Int))) then
   Option.bind (@GetElem?.getElem? (List Int) Nat Int (fun (as8 : (List Int)) => (fun (i9 : Nat) => (@LT.lt Nat @instLTNat i9 (List.length as8)))) (@List.instGetElem?NatLtLength Int) h0 (Int.toNat i6)) fun (v8 : Int) =>
   (X ((a0, (b1, ((Go.IntKind.wrap .i64 (i6 + (1 : Int))), @Unit.unit))), ((@List.set Int h0 (Int.toNat i6) (@Go.bits @Go.BinOp.xor @Go.IntKind.u8 v6 v7)), @Unit.unit)))
  else
   none
 else
  some ((@Unit.unit, (h0, @Unit.unit)))
noncomputable def ref08_turned_L3_R (N : Nat) (c : (((List (Int)) × ((List (Int)) × ((Int) × Unit))) × ((List (Int)) × Unit))) : Option ((Unit × ((List (Int)) × Unit))) := gl (fun X c => ref08_turned_L3 N X c.1.1 c.1.2.1 c.1.2.2.1 c.2.1) N c
theorem ref08_turned_L3_S (N : Nat) (X : (((List (Int)) × ((List (Int)) × ((Int) × Unit))) × ((List (Int)) × Unit)) → Option ((Unit × ((List (Int)) × Unit)))) (a0 : List (Int)) (b1 : List (Int)) (i6 : Int) (h0 : List (Int)) : (roundK Go.Proofs.Tryd.prog (Ev76 N) 400 [54] ref08_turned_L3_I (loopAt Go.Proofs.Tryd.prog [54] 3) X ((a0, b1, i6, ()), (h0, ()))).run = ref08_turned_L3 N X a0 b1 i6 h0 := by kernel_rfl
noncomputable def Ev77 (N : Nat) : (R : Type) → Env R := Env.addLp (Ev76 N) [54] 0 3 (fun R => lpK Go.Proofs.Tryd.prog ref08_turned_L3_I (fun X c => ref08_turned_L3 N X c.1.1 c.1.2.1 c.1.2.2.1 c.2.1) N)
theorem Ev77_ok (N : Nat) (R : Type) : EnvOK Go.Proofs.Tryd.prog (Ev77 N R) := EnvOK.addLp (Ev76_ok N R) (by kernel_rfl) (lpK_ok (li := ref08_turned_L3_I) (G := fun X c => ref08_turned_L3 N X c.1.1 c.1.2.1 c.1.2.2.1 c.2.1) hmx (Ev76_ok N _) (by kernel_rfl) loopAt_sub (fun (X : CT ref08_turned_L3_I.sh → Option (OT ref08_turned_L3_I.outs)) (c : CT ref08_turned_L3_I.sh) => ref08_turned_L3_S N X c.1.1 c.1.2.1 c.1.2.2.1 c.2.1) N)
noncomputable def ref08_turned (N : Nat) (a0 : List (Int)) (b1 : List (Int)) : Option (List (Int)) :=
 bif ((decide ((0 : Int) ≤ (((List.length a0) : Nat) : Int) ∧ (((List.length a0) : Nat) : Int) ≤ (((List.length a0) : Nat) : Int))) && (roomB (Int.toNat (((List.length a0) : Nat) : Int)) 1)) then
  Option.bind (ref08_turned_L3_R N ((a0, (b1, ((0 : Int), @Unit.unit))), ((@List.replicate Int (Int.toNat (((List.length a0) : Nat) : Int)) (0 : Int)), @Unit.unit))) fun (v3 : (Unit × ((List Int) × Unit))) =>
  some (v3.2.1)
 else
  none
theorem ref08_turned_S (N : Nat) (a0 : List (Int)) (b1 : List (Int)) : (runK Go.Proofs.Tryd.prog (Ev77 N) 400 54 [(.sl (.int .u8)), (.sl (.int .u8))] [(.sl (.int .u8))] (a0, b1, ())).run = ref08_turned N a0 b1 := by kernel_rfl
noncomputable def Ev78 (N : Nat) : (R : Type) → Env R := Env.addFn (Ev77 N) 54 (fun R => fnK [(.sl (.int .u8)), (.sl (.int .u8))] [(.sl (.int .u8))] (fun c => ref08_turned N c.1 c.2.1))
theorem Ev78_ok (N : Nat) (R : Type) : EnvOK Go.Proofs.Tryd.prog (Ev78 N R) := EnvOK.addFn hmx (Ev77_ok N R) (Ev77_ok N _) (by kernel_rfl) (fun c => ref08_turned_S N c.1 c.2.1)
noncomputable def ref08_word_L4_I : LI := ⟨34, 0, [(6, 5)], ⟨[(5, .ty (.sl (.int .u8))), (6, .lit (.own 0)), (7, .ty (.int .i64))], [.own (.int .u8) 5]⟩, [(.exit 0, ⟨[(6, .lit (.own 0))], [.own (.int .u8) 5]⟩)]⟩
noncomputable def ref08_word_L4 (N : Nat) (X : (((List (Int)) × ((Int) × Unit)) × ((List (Int)) × Unit)) → Option ((Unit × ((List (Int)) × Unit)))) (x5 : List (Int)) (i7 : Int) (h0 : List (Int)) : Option ((Unit × ((List (Int)) × Unit))) :=
 bif (decide (i7 < (8 : Int))) then
  Option.bind (subI x5 (Go.IntKind.wrap .i64 ((6 : Int) * i7)) (Go.IntKind.wrap .i64 ((Go.IntKind.wrap .i64 ((6 : Int) * i7)) + (6 : Int)))) fun (v5 : (List Int)) =>
  Option.bind (@ref08_digit N (Go.IntKind.wrap .i64 (i7 + (1 : Int))) v5) fun (v6 : Int) =>
  Option.bind (@ref03_Row N (Go.IntKind.wrap .u64 v6) (4 : Int)) fun (v7 : (List Int)) =>
  bif (roomB ((List.length h0) + (List.length v7)) 1) then
   (X ((x5, ((Go.IntKind.wrap .i64 (i7 + (1 : Int))), @Unit.unit)), ((h0 ++ v7), @Unit.unit)))
  else
   none
 else
  some ((@Unit.unit, (h0, @Unit.unit)))
noncomputable def ref08_word_L4_R (N : Nat) (c : (((List (Int)) × ((Int) × Unit)) × ((List (Int)) × Unit))) : Option ((Unit × ((List (Int)) × Unit))) := gl (fun X c => ref08_word_L4 N X c.1.1 c.1.2.1 c.2.1) N c
theorem ref08_word_L4_S (N : Nat) (X : (((List (Int)) × ((Int) × Unit)) × ((List (Int)) × Unit)) → Option ((Unit × ((List (Int)) × Unit)))) (x5 : List (Int)) (i7 : Int) (h0 : List (Int)) : (roundK Go.Proofs.Tryd.prog (Ev78 N) 400 [35] ref08_word_L4_I (loopAt Go.Proofs.Tryd.prog [35] 4) X ((x5, i7, ()), (h0, ()))).run = ref08_word_L4 N X x5 i7 h0 := by kernel_rfl
noncomputable def Ev79 (N : Nat) : (R : Type) → Env R := Env.addLp (Ev78 N) [35] 0 4 (fun R => lpK Go.Proofs.Tryd.prog ref08_word_L4_I (fun X c => ref08_word_L4 N X c.1.1 c.1.2.1 c.2.1) N)
theorem Ev79_ok (N : Nat) (R : Type) : EnvOK Go.Proofs.Tryd.prog (Ev79 N R) := EnvOK.addLp (Ev78_ok N R) (by kernel_rfl) (lpK_ok (li := ref08_word_L4_I) (G := fun X c => ref08_word_L4 N X c.1.1 c.1.2.1 c.2.1) hmx (Ev78_ok N _) (by kernel_rfl) loopAt_sub (fun (X : CT ref08_word_L4_I.sh → Option (OT ref08_word_L4_I.outs)) (c : CT ref08_word_L4_I.sh) => ref08_word_L4_S N X c.1.1 c.1.2.1 c.2.1) N)
noncomputable def ref08_mixing (N : Nat) : Option (List (Int)) :=
 some (([(16 : Int), (7 : Int), (20 : Int), (21 : Int), (29 : Int), (12 : Int), (28 : Int), (17 : Int), (1 : Int), (15 : Int), (23 : Int), (26 : Int), (5 : Int), (18 : Int), (31 : Int), (10 : Int), (2 : Int), (8 : Int), (24 : Int), (14 : Int), (32 : Int), (27 : Int), (3 : Int), (9 : Int), (19 : Int), (13 : Int), (30 : Int), (6 : Int), (22 : Int), (11 : Int), (4 : Int), (25 : Int)] : List (Int)))
theorem ref08_mixing_S (N : Nat) : (runK Go.Proofs.Tryd.prog (Ev79 N) 400 56 [] [(.sl (.int .i64))] ()).run = ref08_mixing N  := by kernel_rfl
noncomputable def Ev80 (N : Nat) : (R : Type) → Env R := Env.addFn (Ev79 N) 56 (fun R => fnK [] [(.sl (.int .i64))] (fun c => ref08_mixing N ))
theorem Ev80_ok (N : Nat) (R : Type) : EnvOK Go.Proofs.Tryd.prog (Ev80 N R) := EnvOK.addFn hmx (Ev79_ok N R) (Ev79_ok N _) (by kernel_rfl) (fun c => ref08_mixing_S N )
noncomputable def ref08_word (N : Nat) (half0 : List (Int)) (key1 : List (Int)) : Option (List (Int)) :=
 Option.bind (@ref08_by N half0 (@List.cons Int (32 : Int) (@List.cons Int (1 : Int) (@List.cons Int (2 : Int) (@List.cons Int (3 : Int) (@List.cons Int (4 : Int) (@List.cons Int (5 : Int) (@List.cons Int (4 : Int) (@List.cons Int (5 : Int) (@List.cons Int (6 : Int) (@List.cons Int (7 : Int) (@List.cons Int (8 : Int) (@List.cons Int (9 : Int) (@List.cons Int (8 : Int) (@List.cons Int (9 : Int) (@List.cons Int (10 : Int) (@List.cons Int (11 : Int) (@List.cons Int (12 : Int) (@List.cons Int (13 : Int) (@List.cons Int (12 : Int) (@List.cons Int (13 : Int) (@List.cons Int (14 : Int) (@List.cons Int (15 : Int) (@List.cons Int (16 : Int) (@List.cons Int (17 : Int) (@List.cons Int (16 : Int) (@List.cons Int (17 : Int) (@List.cons Int (18 : Int) (@List.cons Int (19 : Int) (@List.cons Int (20 : Int) (@List.cons Int (21 : Int) (@List.cons Int (20 : Int) (@List.cons Int (21 : Int) (@List.cons Int (22 : Int) (@List.cons Int (23 : Int) (@List.cons Int (24 : Int) (@List.cons Int (25 : Int) ([(24 : Int), (25 : Int), (26 : Int), (27 : Int), (28 : Int), (29 : Int), (28 : Int), (29 : Int), (30 : Int), (31 : Int), (32 : Int), (1 : Int)] : List (Int))))))))))))))))))))))))))))))))))))))) fun (v3 : (List Int)) =>
 Option.bind (@ref08_turned N v3 key1) fun (v4 : (List Int)) =>
 Option.bind (ref08_word_L4_R N ((v4, ((0 : Int), @Unit.unit)), (([] : List (Int)), @Unit.unit))) fun (v5 : (Unit × ((List Int) × Unit))) =>
 Option.bind (@ref08_by N v5.2.1 ([(16 : Int), (7 : Int), (20 : Int), (21 : Int), (29 : Int), (12 : Int), (28 : Int), (17 : Int), (1 : Int), (15 : Int), (23 : Int), (26 : Int), (5 : Int), (18 : Int), (31 : Int), (10 : Int), (2 : Int), (8 : Int), (24 : Int), (14 : Int), (32 : Int), (27 : Int), (3 : Int), (9 : Int), (19 : Int), (13 : Int), (30 : Int), (6 : Int), (22 : Int), (11 : Int), (4 : Int), (25 : Int)] : List (Int))) fun (v6 : (List Int)) =>
 some (v6)
theorem ref08_word_S (N : Nat) (half0 : List (Int)) (key1 : List (Int)) : (runK Go.Proofs.Tryd.prog (Ev80 N) 400 35 [(.sl (.int .u8)), (.sl (.int .u8))] [(.sl (.int .u8))] (half0, key1, ())).run = ref08_word N half0 key1 := by kernel_rfl
noncomputable def Ev81 (N : Nat) : (R : Type) → Env R := Env.addFn (Ev80 N) 35 (fun R => fnK [(.sl (.int .u8)), (.sl (.int .u8))] [(.sl (.int .u8))] (fun c => ref08_word N c.1 c.2.1))
theorem Ev81_ok (N : Nat) (R : Type) : EnvOK Go.Proofs.Tryd.prog (Ev81 N R) := EnvOK.addFn hmx (Ev80_ok N R) (Ev80_ok N _) (by kernel_rfl) (fun c => ref08_word_S N c.1 c.2.1)
noncomputable def ref08_Word (N : Nat) (half0 : Int) (key1 : Int) : Option (Int) :=
 Option.bind (@ref03_Row N (Go.IntKind.wrap .u64 half0) (32 : Int)) fun (v3 : (List Int)) =>
 Option.bind (@ref03_Row N key1 (48 : Int)) fun (v4 : (List Int)) =>
 Option.bind (@ref08_word N v3 v4) fun (v5 : (List Int)) =>
 Option.bind (@ref03_Word N v5) fun (v6 : Int) =>
 some ((Go.IntKind.wrap .u32 v6))
theorem ref08_Word_S (N : Nat) (half0 : Int) (key1 : Int) : (runK Go.Proofs.Tryd.prog (Ev81 N) 400 13 [(.int .u32), (.int .u64)] [(.int .u32)] (half0, key1, ())).run = ref08_Word N half0 key1 := by kernel_rfl
theorem ref08_Word_C (N : Nat) (half0 : Int) (key1 : Int) (y : Int) (h : ref08_Word N half0 key1 = some y) : CallsK Go.Proofs.Tryd.prog 13 (valA [(.int .u32), (.int .u64)] (half0, key1, ())) (tupV (valR [(.int .u32)] y)) := runK_ok hmx (Ev81_ok N _) (okFn_ok (by kernel_rfl)) (by rw [ref08_Word_S]; exact h)
noncomputable def Ev82 (N : Nat) : (R : Type) → Env R := Env.addFn (Ev81 N) 13 (fun R => fnK [(.int .u32), (.int .u64)] [(.int .u32)] (fun c => ref08_Word N c.1 c.2.1))
theorem Ev82_ok (N : Nat) (R : Type) : EnvOK Go.Proofs.Tryd.prog (Ev82 N R) := EnvOK.addFn hmx (Ev81_ok N R) (Ev81_ok N _) (by kernel_rfl) (fun c => ref08_Word_S N c.1 c.2.1)
noncomputable def ref08_first (N : Nat) : Option (List (Int)) :=
 some (([(58 : Int), (50 : Int), (42 : Int), (34 : Int), (26 : Int), (18 : Int), (10 : Int), (2 : Int), (60 : Int), (52 : Int), (44 : Int), (36 : Int), (28 : Int), (20 : Int), (12 : Int), (4 : Int), (62 : Int), (54 : Int), (46 : Int), (38 : Int), (30 : Int), (22 : Int), (14 : Int), (6 : Int), (64 : Int), (56 : Int), (48 : Int), (40 : Int), (32 : Int), (24 : Int), (16 : Int), (8 : Int), (57 : Int), (49 : Int), (41 : Int), (33 : Int), (25 : Int), (17 : Int), (9 : Int), (1 : Int), (59 : Int), (51 : Int), (43 : Int), (35 : Int), (27 : Int), (19 : Int), (11 : Int), (3 : Int), (61 : Int), (53 : Int), (45 : Int), (37 : Int), (29 : Int), (21 : Int), (13 : Int), (5 : Int), (63 : Int), (55 : Int), (47 : Int), (39 : Int), (31 : Int), (23 : Int), (15 : Int), (7 : Int)] : List (Int)))
theorem ref08_first_S (N : Nat) : (runK Go.Proofs.Tryd.prog (Ev82 N) 400 59 [] [(.sl (.int .i64))] ()).run = ref08_first N  := by kernel_rfl
noncomputable def Ev83 (N : Nat) : (R : Type) → Env R := Env.addFn (Ev82 N) 59 (fun R => fnK [] [(.sl (.int .i64))] (fun c => ref08_first N ))
theorem Ev83_ok (N : Nat) (R : Type) : EnvOK Go.Proofs.Tryd.prog (Ev83 N R) := EnvOK.addFn hmx (Ev82_ok N R) (Ev82_ok N _) (by kernel_rfl) (fun c => ref08_first_S N )
noncomputable def ref08_turn_L4_I : LI := ⟨39, 0, [], ⟨[(1, .ty (.sl (.sl (.int .u8)))), (6, .ty (.sl (.int .u8))), (7, .ty (.sl (.int .u8))), (8, .ty (.int .i64))], []⟩, [(.exit 0, ⟨[(6, .ty (.sl (.int .u8))), (7, .ty (.sl (.int .u8)))], []⟩)]⟩
noncomputable def ref08_turn_L4 (N : Nat) (X : (((List (List (Int))) × ((List (Int)) × ((List (Int)) × ((Int) × Unit)))) × Unit) → Option ((((List (Int)) × ((List (Int)) × Unit)) × Unit))) (l1 : List (List (Int))) (left6 : List (Int)) (right7 : List (Int)) (i8 : Int) : Option ((((List (Int)) × ((List (Int)) × Unit)) × Unit)) :=
 bif (decide (i8 < (((List.length l1) : Nat) : Int))) then
  Option.bind (getI l1 i8) fun (v6 : (List Int)) =>
  Option.bind (@ref08_word N right7 v6) fun (v7 : (List Int)) =>
  Option.bind (@ref08_turned N left6 v7) fun (v8 : (List Int)) =>
  (X ((l1, (right7, (v8, ((Go.IntKind.wrap .i64 (i8 + (1 : Int))), @Unit.unit)))), @Unit.unit))
 else
  some (((left6, (right7, @Unit.unit)), @Unit.unit))
noncomputable def ref08_turn_L4_R (N : Nat) (c : (((List (List (Int))) × ((List (Int)) × ((List (Int)) × ((Int) × Unit)))) × Unit)) : Option ((((List (Int)) × ((List (Int)) × Unit)) × Unit)) := gl (fun X c => ref08_turn_L4 N X c.1.1 c.1.2.1 c.1.2.2.1 c.1.2.2.2.1) N c
theorem ref08_turn_L4_S (N : Nat) (X : (((List (List (Int))) × ((List (Int)) × ((List (Int)) × ((Int) × Unit)))) × Unit) → Option ((((List (Int)) × ((List (Int)) × Unit)) × Unit))) (l1 : List (List (Int))) (left6 : List (Int)) (right7 : List (Int)) (i8 : Int) : (roundK Go.Proofs.Tryd.prog (Ev83 N) 400 [37] ref08_turn_L4_I (loopAt Go.Proofs.Tryd.prog [37] 4) X ((l1, left6, right7, i8, ()), ())).run = ref08_turn_L4 N X l1 left6 right7 i8 := by kernel_rfl
noncomputable def Ev84 (N : Nat) : (R : Type) → Env R := Env.addLp (Ev83 N) [37] 0 4 (fun R => lpK Go.Proofs.Tryd.prog ref08_turn_L4_I (fun X c => ref08_turn_L4 N X c.1.1 c.1.2.1 c.1.2.2.1 c.1.2.2.2.1) N)
theorem Ev84_ok (N : Nat) (R : Type) : EnvOK Go.Proofs.Tryd.prog (Ev84 N R) := EnvOK.addLp (Ev83_ok N R) (by kernel_rfl) (lpK_ok (li := ref08_turn_L4_I) (G := fun X c => ref08_turn_L4 N X c.1.1 c.1.2.1 c.1.2.2.1 c.1.2.2.2.1) hmx (Ev83_ok N _) (by kernel_rfl) loopAt_sub (fun (X : CT ref08_turn_L4_I.sh → Option (OT ref08_turn_L4_I.outs)) (c : CT ref08_turn_L4_I.sh) => ref08_turn_L4_S N X c.1.1 c.1.2.1 c.1.2.2.1 c.1.2.2.2.1) N)
noncomputable def ref08_last (N : Nat) : Option (List (Int)) :=
 some (([(40 : Int), (8 : Int), (48 : Int), (16 : Int), (56 : Int), (24 : Int), (64 : Int), (32 : Int), (39 : Int), (7 : Int), (47 : Int), (15 : Int), (55 : Int), (23 : Int), (63 : Int), (31 : Int), (38 : Int), (6 : Int), (46 : Int), (14 : Int), (54 : Int), (22 : Int), (62 : Int), (30 : Int), (37 : Int), (5 : Int), (45 : Int), (13 : Int), (53 : Int), (21 : Int), (61 : Int), (29 : Int), (36 : Int), (4 : Int), (44 : Int), (12 : Int), (52 : Int), (20 : Int), (60 : Int), (28 : Int), (35 : Int), (3 : Int), (43 : Int), (11 : Int), (51 : Int), (19 : Int), (59 : Int), (27 : Int), (34 : Int), (2 : Int), (42 : Int), (10 : Int), (50 : Int), (18 : Int), (58 : Int), (26 : Int), (33 : Int), (1 : Int), (41 : Int), (9 : Int), (49 : Int), (17 : Int), (57 : Int), (25 : Int)] : List (Int)))
theorem ref08_last_S (N : Nat) : (runK Go.Proofs.Tryd.prog (Ev84 N) 400 60 [] [(.sl (.int .i64))] ()).run = ref08_last N  := by kernel_rfl
noncomputable def Ev85 (N : Nat) : (R : Type) → Env R := Env.addFn (Ev84 N) 60 (fun R => fnK [] [(.sl (.int .i64))] (fun c => ref08_last N ))
theorem Ev85_ok (N : Nat) (R : Type) : EnvOK Go.Proofs.Tryd.prog (Ev85 N R) := EnvOK.addFn hmx (Ev84_ok N R) (Ev84_ok N _) (by kernel_rfl) (fun c => ref08_last_S N )
noncomputable def ref08_turn (N : Nat) (block0 : Int) (l1 : List (List (Int))) : Option (Int) :=
 Option.bind (@ref03_Row N block0 (64 : Int)) fun (v3 : (List Int)) =>
 Option.bind (@ref08_by N v3 (@List.cons Int (58 : Int) (@List.cons Int (50 : Int) (@List.cons Int (42 : Int) (@List.cons Int (34 : Int) (@List.cons Int (26 : Int) (@List.cons Int (18 : Int) (@List.cons Int (10 : Int) (@List.cons Int (2 : Int) (@List.cons Int (60 : Int) (@List.cons Int (52 : Int) (@List.cons Int (44 : Int) (@List.cons Int (36 : Int) (@List.cons Int (28 : Int) (@List.cons Int (20 : Int) (@List.cons Int (12 : Int) (@List.cons Int (4 : Int) (@List.cons Int (62 : Int) (@List.cons Int (54 : Int) (@List.cons Int (46 : Int) (@List.cons Int (38 : Int) (@List.cons Int (30 : Int) (@List.cons Int (22 : Int) (@List.cons Int (14 : Int) (@List.cons Int (6 : Int) (@List.cons Int (64 : Int) (@List.cons Int (56 : Int) (@List.cons Int (48 : Int) (@List.cons Int (40 : Int) (@List.cons Int (32 : Int) (@List.cons Int (24 : Int) (@List.cons Int (16 : Int) (@List.cons Int (8 : Int) (@List.cons Int (57 : Int) (@List.cons Int (49 : Int) (@List.cons Int (41 : Int) (@List.cons Int (33 : Int) (@List.cons Int (25 : Int) (@List.cons Int (17 : Int) (@List.cons Int (9 : Int) (@List.cons Int (1 : Int) (@List.cons Int (59 : Int) (@List.cons Int (51 : Int) (@List.cons Int (43 : Int) (@List.cons Int (35 : Int) (@List.cons Int (27 : Int) (@List.cons Int (19 : Int) (@List.cons Int (11 : Int) (@List.cons Int (3 : Int) (@List.cons Int (61 : Int) (@List.cons Int (53 : Int) (@List.cons Int (45 : Int) (@List.cons Int (37 : Int) (@List.cons Int (29 : Int) (@List.cons Int (21 : Int) (@List.cons Int (13 : Int) (@List.cons Int (5 : Int) ([(63 : Int), (55 : Int), (47 : Int), (39 : Int), (31 : Int), (23 : Int), (15 : Int), (7 : Int)] : List (Int))))))))))))))))))))))))))))))))))))))))))))))))))))))))))) fun (v4 : (List Int)) =>
 Option.bind (takeI v4 (32 : Int)) fun (v5 : (List Int)) =>
 Option.bind (dropI v4 (32 : Int)) fun (v6 : (List Int)) =>
 Option.bind (ref08_turn_L4_R N ((l1, (v5, (v6, ((0 : Int), @Unit.unit)))), @Unit.unit)) fun (v7 : (((List Int) × ((List Int) × Unit)) × Unit)) =>
 bif (roomB (List.length v7.1.2.1) 1) then
  bif (roomB ((List.length v7.1.2.1) + (List.length v7.1.1)) 1) then
   Option.bind (@ref08_by N (v7.1.2.1 ++ v7.1.1) (@List.cons Int (40 : Int) (@List.cons Int (8 : Int) (@List.cons Int (48 : Int) (@List.cons Int (16 : Int) (@List.cons Int (56 : Int) (@List.cons Int (24 : Int) (@List.cons Int (64 : Int) (@List.cons Int (32 : Int) (@List.cons Int (39 : Int) (@List.cons Int (7 : Int) (@List.cons Int (47 : Int) (@List.cons Int (15 : Int) (@List.cons Int (55 : Int) (@List.cons Int (23 : Int) (@List.cons Int (63 : Int) (@List.cons Int (31 : Int) (@List.cons Int (38 : Int) (@List.cons Int (6 : Int) (@List.cons Int (46 : Int) (@List.cons Int (14 : Int) (@List.cons Int (54 : Int) (@List.cons Int (22 : Int) (@List.cons Int (62 : Int) (@List.cons Int (30 : Int) (@List.cons Int (37 : Int) (@List.cons Int (5 : Int) (@List.cons Int (45 : Int) (@List.cons Int (13 : Int) (@List.cons Int (53 : Int) (@List.cons Int (21 : Int) (@List.cons Int (61 : Int) (@List.cons Int (29 : Int) (@List.cons Int (36 : Int) (@List.cons Int (4 : Int) (@List.cons Int (44 : Int) (@List.cons Int (12 : Int) (@List.cons Int (52 : Int) (@List.cons Int (20 : Int) (@List.cons Int (60 : Int) (@List.cons Int (28 : Int) (@List.cons Int (35 : Int) (@List.cons Int (3 : Int) (@List.cons Int (43 : Int) (@List.cons Int (11 : Int) (@List.cons Int (51 : Int) (@List.cons Int (19 : Int) (@List.cons Int (59 : Int) (@List.cons Int (27 : Int) (@List.cons Int (34 : Int) (@List.cons Int (2 : Int) (@List.cons Int (42 : Int) (@List.cons Int (10 : Int) (@List.cons Int (50 : Int) (@List.cons Int (18 : Int) (@List.cons Int (58 : Int) (@List.cons Int (26 : Int) ([(33 : Int), (1 : Int), (41 : Int), (9 : Int), (49 : Int), (17 : Int), (57 : Int), (25 : Int)] : List (Int))))))))))))))))))))))))))))))))))))))))))))))))))))))))))) fun (v8 : (List Int)) =>
   Option.bind (@ref03_Word N v8) fun (v9 : Int) =>
   some (v9)
  else
   none
 else
  none
theorem ref08_turn_S (N : Nat) (block0 : Int) (l1 : List (List (Int))) : (runK Go.Proofs.Tryd.prog (Ev85 N) 400 37 [(.int .u64), (.sl (.sl (.int .u8)))] [(.int .u64)] (block0, l1, ())).run = ref08_turn N block0 l1 := by kernel_rfl
noncomputable def Ev86 (N : Nat) : (R : Type) → Env R := Env.addFn (Ev85 N) 37 (fun R => fnK [(.int .u64), (.sl (.sl (.int .u8)))] [(.int .u64)] (fun c => ref08_turn N c.1 c.2.1))
theorem Ev86_ok (N : Nat) (R : Type) : EnvOK Go.Proofs.Tryd.prog (Ev86 N R) := EnvOK.addFn hmx (Ev85_ok N R) (Ev85_ok N _) (by kernel_rfl) (fun c => ref08_turn_S N c.1 c.2.1)
noncomputable def ref08_Turn (N : Nat) (key0 : Int) (block1 : Int) : Option (Int) :=
 Option.bind (@ref08_keys N key0) fun (v3 : (List (List Int))) =>
 Option.bind (@ref08_turn N block1 v3) fun (v4 : Int) =>
 some (v4)
theorem ref08_Turn_S (N : Nat) (key0 : Int) (block1 : Int) : (runK Go.Proofs.Tryd.prog (Ev86 N) 400 16 [(.int .u64), (.int .u64)] [(.int .u64)] (key0, block1, ())).run = ref08_Turn N key0 block1 := by kernel_rfl
theorem ref08_Turn_C (N : Nat) (key0 : Int) (block1 : Int) (y : Int) (h : ref08_Turn N key0 block1 = some y) : CallsK Go.Proofs.Tryd.prog 16 (valA [(.int .u64), (.int .u64)] (key0, block1, ())) (tupV (valR [(.int .u64)] y)) := runK_ok hmx (Ev86_ok N _) (okFn_ok (by kernel_rfl)) (by rw [ref08_Turn_S]; exact h)
noncomputable def Ev87 (N : Nat) : (R : Type) → Env R := Env.addFn (Ev86 N) 16 (fun R => fnK [(.int .u64), (.int .u64)] [(.int .u64)] (fun c => ref08_Turn N c.1 c.2.1))
theorem Ev87_ok (N : Nat) (R : Type) : EnvOK Go.Proofs.Tryd.prog (Ev87 N R) := EnvOK.addFn hmx (Ev86_ok N R) (Ev86_ok N _) (by kernel_rfl) (fun c => ref08_Turn_S N c.1 c.2.1)
noncomputable def Ev88 (N : Nat) : (R : Type) → Env R := Env.addMv (Ev87 N) [(18, 6)]
theorem Ev88_ok (N : Nat) (R : Type) : EnvOK Go.Proofs.Tryd.prog (Ev88 N R) := EnvOK.addMv (Ev87_ok N R) [(18, 6)]
noncomputable def ref08_Back_L4_I : LI := ⟨27, 0, [(6, 32)], ⟨[(1, .ty (.int .u64)), (5, .ty (.sl (.sl (.int .u8)))), (6, .lit (.own 0)), (7, .ty (.int .i64))], [.own (.sl (.int .u8)) 32]⟩, [(.exit 0, ⟨[(1, .ty (.int .u64)), (6, .lit (.own 0))], [.own (.sl (.int .u8)) 32]⟩)]⟩
noncomputable def ref08_Back_L4 (N : Nat) (X : (((Int) × ((List (List (Int))) × ((Int) × Unit))) × ((List (List (Int))) × Unit)) → Option ((((Int) × Unit) × ((List (List (Int))) × Unit)))) (block1 : Int) (l5 : List (List (Int))) (i7 : Int) (h0 : List (List (Int))) : Option ((((Int) × Unit) × ((List (List (Int))) × Unit))) :=
 bif (decide ((0 : Int) ≤ i7)) then
  Option.bind (getI l5 i7) fun (v6 : (List Int)) =>
  bif (roomB ((List.length h0) + (List.length ([v6] : List ((List Int))))) 24) then
   (X ((block1, (l5, ((Go.IntKind.wrap .i64 (i7 - (1 : Int))), @Unit.unit))), ((h0 ++ ([v6] : List ((List Int)))), @Unit.unit)))
  else
   none
 else
  some (((block1, @Unit.unit), (h0, @Unit.unit)))
noncomputable def ref08_Back_L4_R (N : Nat) (c : (((Int) × ((List (List (Int))) × ((Int) × Unit))) × ((List (List (Int))) × Unit))) : Option ((((Int) × Unit) × ((List (List (Int))) × Unit))) := gl (fun X c => ref08_Back_L4 N X c.1.1 c.1.2.1 c.1.2.2.1 c.2.1) N c
theorem ref08_Back_L4_S (N : Nat) (X : (((Int) × ((List (List (Int))) × ((Int) × Unit))) × ((List (List (Int))) × Unit)) → Option ((((Int) × Unit) × ((List (List (Int))) × Unit)))) (block1 : Int) (l5 : List (List (Int))) (i7 : Int) (h0 : List (List (Int))) : (roundK Go.Proofs.Tryd.prog (Ev88 N) 400 [18] ref08_Back_L4_I (loopAt Go.Proofs.Tryd.prog [18] 4) X ((block1, l5, i7, ()), (h0, ()))).run = ref08_Back_L4 N X block1 l5 i7 h0 := by kernel_rfl
noncomputable def Ev89 (N : Nat) : (R : Type) → Env R := Env.addLp (Ev88 N) [18] 0 4 (fun R => lpK Go.Proofs.Tryd.prog ref08_Back_L4_I (fun X c => ref08_Back_L4 N X c.1.1 c.1.2.1 c.1.2.2.1 c.2.1) N)
theorem Ev89_ok (N : Nat) (R : Type) : EnvOK Go.Proofs.Tryd.prog (Ev89 N R) := EnvOK.addLp (Ev88_ok N R) (by kernel_rfl) (lpK_ok (li := ref08_Back_L4_I) (G := fun X c => ref08_Back_L4 N X c.1.1 c.1.2.1 c.1.2.2.1 c.2.1) hmx (Ev88_ok N _) (by kernel_rfl) loopAt_sub (fun (X : CT ref08_Back_L4_I.sh → Option (OT ref08_Back_L4_I.outs)) (c : CT ref08_Back_L4_I.sh) => ref08_Back_L4_S N X c.1.1 c.1.2.1 c.1.2.2.1 c.2.1) N)
noncomputable def ref08_Back (N : Nat) (key0 : Int) (block1 : Int) : Option (Int) :=
 Option.bind (@ref08_keys N key0) fun (v3 : (List (List Int))) =>
 Option.bind (ref08_Back_L4_R N ((block1, (v3, ((Go.IntKind.wrap .i64 ((((List.length v3) : Nat) : Int) - (1 : Int))), @Unit.unit))), (([] : List ((List Int))), @Unit.unit))) fun (v4 : ((Int × Unit) × ((List (List Int)) × Unit))) =>
 Option.bind (@ref08_turn N v4.1.1 v4.2.1) fun (v5 : Int) =>
 some (v5)
theorem ref08_Back_S (N : Nat) (key0 : Int) (block1 : Int) : (runK Go.Proofs.Tryd.prog (Ev89 N) 400 18 [(.int .u64), (.int .u64)] [(.int .u64)] (key0, block1, ())).run = ref08_Back N key0 block1 := by kernel_rfl
theorem ref08_Back_C (N : Nat) (key0 : Int) (block1 : Int) (y : Int) (h : ref08_Back N key0 block1 = some y) : CallsK Go.Proofs.Tryd.prog 18 (valA [(.int .u64), (.int .u64)] (key0, block1, ())) (tupV (valR [(.int .u64)] y)) := runK_ok hmx (Ev89_ok N _) (okFn_ok (by kernel_rfl)) (by rw [ref08_Back_S]; exact h)
noncomputable def Ev90 (N : Nat) : (R : Type) → Env R := Env.addFn (Ev89 N) 18 (fun R => fnK [(.int .u64), (.int .u64)] [(.int .u64)] (fun c => ref08_Back N c.1 c.2.1))
theorem Ev90_ok (N : Nat) (R : Type) : EnvOK Go.Proofs.Tryd.prog (Ev90 N R) := EnvOK.addFn hmx (Ev89_ok N R) (Ev89_ok N _) (by kernel_rfl) (fun c => ref08_Back_S N c.1 c.2.1)
noncomputable def ref03_Spread_L5_I : LI := ⟨42, 0, [(4, 5)], ⟨[(0, .ty (.sl (.int .u8))), (4, .lit (.own 0)), (5, .lit (.c (.slice none 0 0))), (6, .ty (.int .i64))], [.own (.int .u8) 5]⟩, [(.exit 0, ⟨[(4, .lit (.own 0)), (5, .lit (.c (.slice none 0 0)))], [.own (.int .u8) 5]⟩)]⟩
noncomputable def ref03_Spread_L5 (N : Nat) (X : (((List (Int)) × ((Int) × Unit)) × ((List (Int)) × Unit)) → Option ((Unit × ((List (Int)) × Unit)))) (key0 : List (Int)) (i6 : Int) (h0 : List (Int)) : Option ((Unit × ((List (Int)) × Unit))) :=
 bif (decide (i6 < (7 : Int))) then
  Option.bind (getI key0 i6) fun (v5 : Int) =>
  Option.bind (@ref03_Row N (Go.IntKind.wrap .u64 v5) (8 : Int)) fun (v6 : (List Int)) =>
  bif (roomB ((List.length h0) + (List.length v6)) 1) then
   (X ((key0, ((Go.IntKind.wrap .i64 (i6 + (1 : Int))), @Unit.unit)), ((h0 ++ v6), @Unit.unit)))
  else
   none
 else
  some ((@Unit.unit, (h0, @Unit.unit)))
noncomputable def ref03_Spread_L5_R (N : Nat) (c : (((List (Int)) × ((Int) × Unit)) × ((List (Int)) × Unit))) : Option ((Unit × ((List (Int)) × Unit))) := gl (fun X c => ref03_Spread_L5 N X c.1.1 c.1.2.1 c.2.1) N c
theorem ref03_Spread_L5_S (N : Nat) (X : (((List (Int)) × ((Int) × Unit)) × ((List (Int)) × Unit)) → Option ((Unit × ((List (Int)) × Unit)))) (key0 : List (Int)) (i6 : Int) (h0 : List (Int)) : (roundK Go.Proofs.Tryd.prog (Ev90 N) 400 [41] ref03_Spread_L5_I (loopAt Go.Proofs.Tryd.prog [41] 5) X ((key0, i6, ()), (h0, ()))).run = ref03_Spread_L5 N X key0 i6 h0 := by kernel_rfl
noncomputable def Ev91 (N : Nat) : (R : Type) → Env R := Env.addLp (Ev90 N) [41] 0 5 (fun R => lpK Go.Proofs.Tryd.prog ref03_Spread_L5_I (fun X c => ref03_Spread_L5 N X c.1.1 c.1.2.1 c.2.1) N)
theorem Ev91_ok (N : Nat) (R : Type) : EnvOK Go.Proofs.Tryd.prog (Ev91 N R) := EnvOK.addLp (Ev90_ok N R) (by kernel_rfl) (lpK_ok (li := ref03_Spread_L5_I) (G := fun X c => ref03_Spread_L5 N X c.1.1 c.1.2.1 c.2.1) hmx (Ev90_ok N _) (by kernel_rfl) loopAt_sub (fun (X : CT ref03_Spread_L5_I.sh → Option (OT ref03_Spread_L5_I.outs)) (c : CT ref03_Spread_L5_I.sh) => ref03_Spread_L5_S N X c.1.1 c.1.2.1 c.2.1) N)
noncomputable def ref03_Odd_L3_I : LI := ⟨23, 0, [], ⟨[(0, .ty (.int .u8)), (3, .ty (.int .u8)), (4, .ty (.int .i64))], []⟩, [(.exit 0, ⟨[(0, .ty (.int .u8)), (3, .ty (.int .u8))], []⟩)]⟩
noncomputable def ref03_Odd_L3 (N : Nat) (X : (((Int) × ((Int) × ((Int) × Unit))) × Unit) → Option ((((Int) × ((Int) × Unit)) × Unit))) (b0 : Int) (n3 : Int) (i4 : Int) : Option ((((Int) × ((Int) × Unit)) × Unit)) :=
 bif (decide (i4 < (8 : Int))) then
  bif (decide ((0 : Int) ≤ i4)) then
   (X ((b0, ((Go.IntKind.wrap .u8 (n3 + (@Int.tmod (@Int.fdiv b0 (@HPow.hPow Int Nat Int (@instHPow Int Nat (@instPowNat Int @Int.instNatPow)) (2 : Int) (@Min.min Nat @instMinNat (Int.toNat i4) (@Go.IntKind.bits @Go.IntKind.u8)))) (2 : Int)))), ((Go.IntKind.wrap .i64 (i4 + (1 : Int))), @Unit.unit))), @Unit.unit))
  else
   none
 else
  some (((b0, (n3, @Unit.unit)), @Unit.unit))
noncomputable def ref03_Odd_L3_R (N : Nat) (c : (((Int) × ((Int) × ((Int) × Unit))) × Unit)) : Option ((((Int) × ((Int) × Unit)) × Unit)) := gl (fun X c => ref03_Odd_L3 N X c.1.1 c.1.2.1 c.1.2.2.1) N c
theorem ref03_Odd_L3_S (N : Nat) (X : (((Int) × ((Int) × ((Int) × Unit))) × Unit) → Option ((((Int) × ((Int) × Unit)) × Unit))) (b0 : Int) (n3 : Int) (i4 : Int) : (roundK Go.Proofs.Tryd.prog (Ev91 N) 400 [64] ref03_Odd_L3_I (loopAt Go.Proofs.Tryd.prog [64] 3) X ((b0, n3, i4, ()), ())).run = ref03_Odd_L3 N X b0 n3 i4 := by kernel_rfl
noncomputable def Ev92 (N : Nat) : (R : Type) → Env R := Env.addLp (Ev91 N) [64] 0 3 (fun R => lpK Go.Proofs.Tryd.prog ref03_Odd_L3_I (fun X c => ref03_Odd_L3 N X c.1.1 c.1.2.1 c.1.2.2.1) N)
theorem Ev92_ok (N : Nat) (R : Type) : EnvOK Go.Proofs.Tryd.prog (Ev92 N R) := EnvOK.addLp (Ev91_ok N R) (by kernel_rfl) (lpK_ok (li := ref03_Odd_L3_I) (G := fun X c => ref03_Odd_L3 N X c.1.1 c.1.2.1 c.1.2.2.1) hmx (Ev91_ok N _) (by kernel_rfl) loopAt_sub (fun (X : CT ref03_Odd_L3_I.sh → Option (OT ref03_Odd_L3_I.outs)) (c : CT ref03_Odd_L3_I.sh) => ref03_Odd_L3_S N X c.1.1 c.1.2.1 c.1.2.2.1) N)
noncomputable def ref03_Odd (N : Nat) (b0 : Int) : Option (Int) :=
 Option.bind (ref03_Odd_L3_R N ((b0, ((0 : Int), ((1 : Int), @Unit.unit))), @Unit.unit)) fun (v2 : ((Int × (Int × Unit)) × Unit)) =>
 some ((Go.IntKind.wrap .u8 ((Go.IntKind.wrap .u8 (v2.1.1 - (@Int.tmod v2.1.1 (2 : Int)))) + (@Int.tmod (Go.IntKind.wrap .u8 (v2.1.2.1 + (1 : Int))) (2 : Int)))))
theorem ref03_Odd_S (N : Nat) (b0 : Int) : (runK Go.Proofs.Tryd.prog (Ev92 N) 400 64 [(.int .u8)] [(.int .u8)] (b0, ())).run = ref03_Odd N b0 := by kernel_rfl
noncomputable def Ev93 (N : Nat) : (R : Type) → Env R := Env.addFn (Ev92 N) 64 (fun R => fnK [(.int .u8)] [(.int .u8)] (fun c => ref03_Odd N c.1))
theorem Ev93_ok (N : Nat) (R : Type) : EnvOK Go.Proofs.Tryd.prog (Ev93 N R) := EnvOK.addFn hmx (Ev92_ok N R) (Ev92_ok N _) (by kernel_rfl) (fun c => ref03_Odd_S N c.1)
noncomputable def ref03_Spread_L9_I : LI := ⟨42, 0, [(5, 5)], ⟨[(4, .ty (.sl (.int .u8))), (5, .lit (.own 0)), (7, .ty (.int .i64))], [.own (.int .u8) 5]⟩, [(.exit 2, ⟨[(5, .lit (.own 0))], [.own (.int .u8) 5]⟩)]⟩
noncomputable def ref03_Spread_L9 (N : Nat) (X : (((List (Int)) × ((Int) × Unit)) × ((List (Int)) × Unit)) → Option ((Unit × ((List (Int)) × Unit)))) (row4 : List (Int)) (i7 : Int) (h0 : List (Int)) : Option ((Unit × ((List (Int)) × Unit))) :=
 bif (decide (i7 < (8 : Int))) then
  Option.bind (subI row4 (Go.IntKind.wrap .i64 ((7 : Int) * i7)) (Go.IntKind.wrap .i64 ((Go.IntKind.wrap .i64 ((7 : Int) * i7)) + (7 : Int)))) fun (v5 : (List Int)) =>
  Option.bind (@ref03_Word N v5) fun (v6 : Int) =>
  Option.bind (@ref03_Odd N (Go.IntKind.wrap .u8 (Go.IntKind.wrap .u64 ((2 : Int) * v6)))) fun (v7 : Int) =>
  bif (roomB ((List.length h0) + (List.length ([v7] : List (Int)))) 1) then
   (X ((row4, ((Go.IntKind.wrap .i64 (i7 + (1 : Int))), @Unit.unit)), ((h0 ++ ([v7] : List (Int))), @Unit.unit)))
  else
   none
 else
  some ((@Unit.unit, (h0, @Unit.unit)))
noncomputable def ref03_Spread_L9_R (N : Nat) (c : (((List (Int)) × ((Int) × Unit)) × ((List (Int)) × Unit))) : Option ((Unit × ((List (Int)) × Unit))) := gl (fun X c => ref03_Spread_L9 N X c.1.1 c.1.2.1 c.2.1) N c
theorem ref03_Spread_L9_S (N : Nat) (X : (((List (Int)) × ((Int) × Unit)) × ((List (Int)) × Unit)) → Option ((Unit × ((List (Int)) × Unit)))) (row4 : List (Int)) (i7 : Int) (h0 : List (Int)) : (roundK Go.Proofs.Tryd.prog (Ev93 N) 400 [41] ref03_Spread_L9_I (loopAt Go.Proofs.Tryd.prog [41] 9) X ((row4, i7, ()), (h0, ()))).run = ref03_Spread_L9 N X row4 i7 h0 := by kernel_rfl
noncomputable def Ev94 (N : Nat) : (R : Type) → Env R := Env.addLp (Ev93 N) [41] 0 9 (fun R => lpK Go.Proofs.Tryd.prog ref03_Spread_L9_I (fun X c => ref03_Spread_L9 N X c.1.1 c.1.2.1 c.2.1) N)
theorem Ev94_ok (N : Nat) (R : Type) : EnvOK Go.Proofs.Tryd.prog (Ev94 N R) := EnvOK.addLp (Ev93_ok N R) (by kernel_rfl) (lpK_ok (li := ref03_Spread_L9_I) (G := fun X c => ref03_Spread_L9 N X c.1.1 c.1.2.1 c.2.1) hmx (Ev93_ok N _) (by kernel_rfl) loopAt_sub (fun (X : CT ref03_Spread_L9_I.sh → Option (OT ref03_Spread_L9_I.outs)) (c : CT ref03_Spread_L9_I.sh) => ref03_Spread_L9_S N X c.1.1 c.1.2.1 c.2.1) N)
noncomputable def ref03_Spread (N : Nat) (key0 : List (Int)) : Option ((List (Int)) × Int) :=
 bif (!(decide ((((List.length key0) : Nat) : Int) = (7 : Int)))) then
  some ((([] : List (Int)), (1 : Int)))
 else
  Option.bind (ref03_Spread_L5_R N ((key0, ((0 : Int), @Unit.unit)), (([] : List (Int)), @Unit.unit))) fun (v2 : (Unit × ((List Int) × Unit))) =>
  Option.bind (ref03_Spread_L9_R N ((v2.2.1, ((0 : Int), @Unit.unit)), (([] : List (Int)), @Unit.unit))) fun (v3 : (Unit × ((List Int) × Unit))) =>
  some ((v3.2.1, (0 : Int)))
theorem ref03_Spread_S (N : Nat) (key0 : List (Int)) : (runK Go.Proofs.Tryd.prog (Ev94 N) 400 41 [(.sl (.int .u8))] [(.sl (.int .u8)), (.int .i64)] (key0, ())).run = ref03_Spread N key0 := by kernel_rfl
noncomputable def Ev95 (N : Nat) : (R : Type) → Env R := Env.addFn (Ev94 N) 41 (fun R => fnK [(.sl (.int .u8))] [(.sl (.int .u8)), (.int .i64)] (fun c => ref03_Spread N c.1))
theorem Ev95_ok (N : Nat) (R : Type) : EnvOK Go.Proofs.Tryd.prog (Ev95 N R) := EnvOK.addFn hmx (Ev94_ok N R) (Ev94_ok N _) (by kernel_rfl) (fun c => ref03_Spread_S N c.1)
noncomputable def ref01_Num_L3_I : LI := ⟨20, 0, [], ⟨[(0, .ty (.sl (.int .u8))), (3, .ty (.int .u64)), (4, .ty (.int .i64))], []⟩, [(.exit 0, ⟨[(3, .ty (.int .u64))], []⟩)]⟩
noncomputable def ref01_Num_L3 (N : Nat) (X : (((List (Int)) × ((Int) × ((Int) × Unit))) × Unit) → Option ((((Int) × Unit) × Unit))) (b0 : List (Int)) (n3 : Int) (i4 : Int) : Option ((((Int) × Unit) × Unit)) :=
 bif (decide (i4 < (((List.length b0) : Nat) : Int))) then
  Option.bind (getI b0 i4) fun (v5 : Int) =>
  (X ((b0, ((Go.IntKind.wrap .u64 ((Go.IntKind.wrap .u64 (n3 * (256 : Int))) + (Go.IntKind.wrap .u64 v5))), ((Go.IntKind.wrap .i64 (i4 + (1 : Int))), @Unit.unit))), @Unit.unit))
 else
  some (((n3, @Unit.unit), @Unit.unit))
noncomputable def ref01_Num_L3_R (N : Nat) (c : (((List (Int)) × ((Int) × ((Int) × Unit))) × Unit)) : Option ((((Int) × Unit) × Unit)) := gl (fun X c => ref01_Num_L3 N X c.1.1 c.1.2.1 c.1.2.2.1) N c
theorem ref01_Num_L3_S (N : Nat) (X : (((List (Int)) × ((Int) × ((Int) × Unit))) × Unit) → Option ((((Int) × Unit) × Unit))) (b0 : List (Int)) (n3 : Int) (i4 : Int) : (roundK Go.Proofs.Tryd.prog (Ev95 N) 400 [43] ref01_Num_L3_I (loopAt Go.Proofs.Tryd.prog [43] 3) X ((b0, n3, i4, ()), ())).run = ref01_Num_L3 N X b0 n3 i4 := by kernel_rfl
noncomputable def Ev96 (N : Nat) : (R : Type) → Env R := Env.addLp (Ev95 N) [43] 0 3 (fun R => lpK Go.Proofs.Tryd.prog ref01_Num_L3_I (fun X c => ref01_Num_L3 N X c.1.1 c.1.2.1 c.1.2.2.1) N)
theorem Ev96_ok (N : Nat) (R : Type) : EnvOK Go.Proofs.Tryd.prog (Ev96 N R) := EnvOK.addLp (Ev95_ok N R) (by kernel_rfl) (lpK_ok (li := ref01_Num_L3_I) (G := fun X c => ref01_Num_L3 N X c.1.1 c.1.2.1 c.1.2.2.1) hmx (Ev95_ok N _) (by kernel_rfl) loopAt_sub (fun (X : CT ref01_Num_L3_I.sh → Option (OT ref01_Num_L3_I.outs)) (c : CT ref01_Num_L3_I.sh) => ref01_Num_L3_S N X c.1.1 c.1.2.1 c.1.2.2.1) N)
noncomputable def ref01_Num (N : Nat) (b0 : List (Int)) : Option (Int) :=
 Option.bind (ref01_Num_L3_R N ((b0, ((0 : Int), ((0 : Int), @Unit.unit))), @Unit.unit)) fun (v2 : ((Int × Unit) × Unit)) =>
 some (v2.1.1)
theorem ref01_Num_S (N : Nat) (b0 : List (Int)) : (runK Go.Proofs.Tryd.prog (Ev96 N) 400 43 [(.sl (.int .u8))] [(.int .u64)] (b0, ())).run = ref01_Num N b0 := by kernel_rfl
noncomputable def Ev97 (N : Nat) : (R : Type) → Env R := Env.addFn (Ev96 N) 43 (fun R => fnK [(.sl (.int .u8))] [(.int .u64)] (fun c => ref01_Num N c.1))
theorem Ev97_ok (N : Nat) (R : Type) : EnvOK Go.Proofs.Tryd.prog (Ev97 N R) := EnvOK.addFn hmx (Ev96_ok N R) (Ev96_ok N _) (by kernel_rfl) (fun c => ref01_Num_S N c.1)
noncomputable def ref01_Big_L3_I : LI := ⟨24, 0, [], ⟨[(0, .ty (.int .u64)), (5, .lit (.own 0)), (6, .ty (.int .i64))], [.own (.int .u8) 5]⟩, [(.exit 0, ⟨[(5, .lit (.own 0))], [.own (.int .u8) 5]⟩)]⟩
noncomputable def ref01_Big_L3 (N : Nat) (X : (((Int) × ((Int) × Unit)) × ((List (Int)) × Unit)) → Option ((Unit × ((List (Int)) × Unit)))) (n0 : Int) (i6 : Int) (h0 : List (Int)) : Option ((Unit × ((List (Int)) × Unit))) :=
 bif (decide ((0 : Int) ≤ i6)) then
  bif (decide ((0 : Int) ≤ i6 ∧ i6 < (((List.length h0) : Nat) : Int))) then
   Option.bind (@GetElem?.getElem? (List Int) Nat Int (fun (as5 : (List Int)) => (fun (i6 : Nat) => (@LT.lt Nat @instLTNat i6 (List.length as5)))) (@List.instGetElem?NatLtLength Int) h0 (Int.toNat i6)) fun (v5 : Int) =>
   (X (((Go.IntKind.wrap .u64 (@Int.tdiv n0 (256 : Int))), ((Go.IntKind.wrap .i64 (i6 - (1 : Int))), @Unit.unit)), ((@List.set Int h0 (Int.toNat i6) (Go.IntKind.wrap .u8 (@Int.tmod n0 (256 : Int)))), @Unit.unit)))
  else
   none
 else
  some ((@Unit.unit, (h0, @Unit.unit)))
noncomputable def ref01_Big_L3_R (N : Nat) (c : (((Int) × ((Int) × Unit)) × ((List (Int)) × Unit))) : Option ((Unit × ((List (Int)) × Unit))) := gl (fun X c => ref01_Big_L3 N X c.1.1 c.1.2.1 c.2.1) N c
theorem ref01_Big_L3_S (N : Nat) (X : (((Int) × ((Int) × Unit)) × ((List (Int)) × Unit)) → Option ((Unit × ((List (Int)) × Unit)))) (n0 : Int) (i6 : Int) (h0 : List (Int)) : (roundK Go.Proofs.Tryd.prog (Ev97 N) 400 [42] ref01_Big_L3_I (loopAt Go.Proofs.Tryd.prog [42] 3) X ((n0, i6, ()), (h0, ()))).run = ref01_Big_L3 N X n0 i6 h0 := by kernel_rfl
noncomputable def Ev98 (N : Nat) : (R : Type) → Env R := Env.addLp (Ev97 N) [42] 0 3 (fun R => lpK Go.Proofs.Tryd.prog ref01_Big_L3_I (fun X c => ref01_Big_L3 N X c.1.1 c.1.2.1 c.2.1) N)
theorem Ev98_ok (N : Nat) (R : Type) : EnvOK Go.Proofs.Tryd.prog (Ev98 N R) := EnvOK.addLp (Ev97_ok N R) (by kernel_rfl) (lpK_ok (li := ref01_Big_L3_I) (G := fun X c => ref01_Big_L3 N X c.1.1 c.1.2.1 c.2.1) hmx (Ev97_ok N _) (by kernel_rfl) loopAt_sub (fun (X : CT ref01_Big_L3_I.sh → Option (OT ref01_Big_L3_I.outs)) (c : CT ref01_Big_L3_I.sh) => ref01_Big_L3_S N X c.1.1 c.1.2.1 c.2.1) N)
noncomputable def ref01_Big (N : Nat) (n0 : Int) (width1 : Int) : Option (List (Int)) :=
 bif ((decide ((0 : Int) ≤ width1 ∧ width1 ≤ width1)) && (roomB (Int.toNat width1) 1)) then
  Option.bind (ref01_Big_L3_R N ((n0, ((Go.IntKind.wrap .i64 (width1 - (1 : Int))), @Unit.unit)), ((@List.replicate Int (Int.toNat width1) (0 : Int)), @Unit.unit))) fun (v3 : (Unit × ((List Int) × Unit))) =>
  some (v3.2.1)
 else
  none
theorem ref01_Big_S (N : Nat) (n0 : Int) (width1 : Int) : (runK Go.Proofs.Tryd.prog (Ev98 N) 400 42 [(.int .u64), (.int .i64)] [(.sl (.int .u8))] (n0, width1, ())).run = ref01_Big N n0 width1 := by kernel_rfl
noncomputable def Ev99 (N : Nat) : (R : Type) → Env R := Env.addFn (Ev98 N) 42 (fun R => fnK [(.int .u64), (.int .i64)] [(.sl (.int .u8))] (fun c => ref01_Big N c.1 c.2.1))
theorem Ev99_ok (N : Nat) (R : Type) : EnvOK Go.Proofs.Tryd.prog (Ev99 N R) := EnvOK.addFn hmx (Ev98_ok N R) (Ev98_ok N _) (by kernel_rfl) (fun c => ref01_Big_S N c.1 c.2.1)
noncomputable def ref08_Seven (N : Nat) (key0 : List (Int)) (block1 : List (Int)) : Option ((List (Int)) × Int) :=
 bif (!(decide ((((List.length key0) : Nat) : Int) = (7 : Int)))) then
  some ((([] : List (Int)), (1 : Int)))
 else
  bif (@cond Bool @Bool.false @Bool.true (!(decide ((((List.length block1) : Nat) : Int) = (8 : Int))))) then
   some ((([] : List (Int)), (1 : Int)))
  else
   Option.bind (@ref03_Spread N key0) fun (v3 : ((List Int) × Int)) =>
   Option.bind (@ref01_Num N v3.1) fun (v4 : Int) =>
   Option.bind (@ref01_Num N block1) fun (v5 : Int) =>
   Option.bind (@ref08_Turn N v4 v5) fun (v6 : Int) =>
   Option.bind (@ref01_Big N v6 (8 : Int)) fun (v7 : (List Int)) =>
   some ((v7, (0 : Int)))
theorem ref08_Seven_S (N : Nat) (key0 : List (Int)) (block1 : List (Int)) : (runK Go.Proofs.Tryd.prog (Ev99 N) 400 20 [(.sl (.int .u8)), (.sl (.int .u8))] [(.sl (.int .u8)), (.int .i64)] (key0, block1, ())).run = ref08_Seven N key0 block1 := by kernel_rfl
theorem ref08_Seven_C (N : Nat) (key0 : List (Int)) (block1 : List (Int)) (y : (List (Int)) × Int) (h : ref08_Seven N key0 block1 = some y) : CallsK Go.Proofs.Tryd.prog 20 (valA [(.sl (.int .u8)), (.sl (.int .u8))] (key0, block1, ())) (tupV (valR [(.sl (.int .u8)), (.int .i64)] y)) := runK_ok hmx (Ev99_ok N _) (okFn_ok (by kernel_rfl)) (by rw [ref08_Seven_S]; exact h)
noncomputable def Ev100 (N : Nat) : (R : Type) → Env R := Env.addFn (Ev99 N) 20 (fun R => fnK [(.sl (.int .u8)), (.sl (.int .u8))] [(.sl (.int .u8)), (.int .i64)] (fun c => ref08_Seven N c.1 c.2.1))
theorem Ev100_ok (N : Nat) (R : Type) : EnvOK Go.Proofs.Tryd.prog (Ev100 N R) := EnvOK.addFn hmx (Ev99_ok N R) (Ev99_ok N _) (by kernel_rfl) (fun c => ref08_Seven_S N c.1 c.2.1)
noncomputable def ref01_Same_L4_I : LI := ⟨26, 0, [], ⟨[(0, .ty (.sl (.int .u8))), (1, .ty (.sl (.int .u8))), (5, .ty (.int .i64))], []⟩, [(.ret, ⟨[(4, .ty .bool)], []⟩), (.exit 0, ⟨[], []⟩)]⟩
noncomputable def ref01_Same_L4 (N : Nat) (X : (((List (Int)) × ((List (Int)) × ((Int) × Unit))) × Unit) → Option (((((Bool) × Unit) × Unit) ⊕ (Unit × Unit)))) (a0 : List (Int)) (b1 : List (Int)) (i5 : Int) : Option (((((Bool) × Unit) × Unit) ⊕ (Unit × Unit))) :=
 bif (decide (i5 < (((List.length a0) : Nat) : Int))) then
  Option.bind (getI a0 i5) fun (v5 : Int) =>
  Option.bind (getI b1 i5) fun (v6 : Int) =>
  bif (!(decide (v5 = v6))) then
   some ((.inl ((@Bool.false, @Unit.unit), @Unit.unit)))
  else
   (X ((a0, (b1, ((Go.IntKind.wrap .i64 (i5 + (1 : Int))), @Unit.unit))), @Unit.unit))
 else
  some ((.inr (@Unit.unit, @Unit.unit)))
noncomputable def ref01_Same_L4_R (N : Nat) (c : (((List (Int)) × ((List (Int)) × ((Int) × Unit))) × Unit)) : Option (((((Bool) × Unit) × Unit) ⊕ (Unit × Unit))) := gl (fun X c => ref01_Same_L4 N X c.1.1 c.1.2.1 c.1.2.2.1) N c
theorem ref01_Same_L4_S (N : Nat) (X : (((List (Int)) × ((List (Int)) × ((Int) × Unit))) × Unit) → Option (((((Bool) × Unit) × Unit) ⊕ (Unit × Unit)))) (a0 : List (Int)) (b1 : List (Int)) (i5 : Int) : (roundK Go.Proofs.Tryd.prog (Ev100 N) 400 [21] ref01_Same_L4_I (loopAt Go.Proofs.Tryd.prog [21] 4) X ((a0, b1, i5, ()), ())).run = ref01_Same_L4 N X a0 b1 i5 := by kernel_rfl
noncomputable def Ev101 (N : Nat) : (R : Type) → Env R := Env.addLp (Ev100 N) [21] 0 4 (fun R => lpK Go.Proofs.Tryd.prog ref01_Same_L4_I (fun X c => ref01_Same_L4 N X c.1.1 c.1.2.1 c.1.2.2.1) N)
theorem Ev101_ok (N : Nat) (R : Type) : EnvOK Go.Proofs.Tryd.prog (Ev101 N R) := EnvOK.addLp (Ev100_ok N R) (by kernel_rfl) (lpK_ok (li := ref01_Same_L4_I) (G := fun X c => ref01_Same_L4 N X c.1.1 c.1.2.1 c.1.2.2.1) hmx (Ev100_ok N _) (by kernel_rfl) loopAt_sub (fun (X : CT ref01_Same_L4_I.sh → Option (OT ref01_Same_L4_I.outs)) (c : CT ref01_Same_L4_I.sh) => ref01_Same_L4_S N X c.1.1 c.1.2.1 c.1.2.2.1) N)
noncomputable def ref01_Same (N : Nat) (a0 : List (Int)) (b1 : List (Int)) : Option (Bool) :=
 bif (!(decide ((((List.length a0) : Nat) : Int) = (((List.length b1) : Nat) : Int)))) then
  some (@Bool.false)
 else
  Option.bind (ref01_Same_L4_R N ((a0, (b1, ((0 : Int), @Unit.unit))), @Unit.unit)) fun (v3 : (((Bool × Unit) × Unit) ⊕ (Unit × Unit))) =>
  Sum.elim
   (fun (v4 : ((Bool × Unit) × Unit)) =>
   some (v4.1.1))
   (fun (v4 : (Unit × Unit)) =>
   some (@Bool.true)) v3
theorem ref01_Same_S (N : Nat) (a0 : List (Int)) (b1 : List (Int)) : (runK Go.Proofs.Tryd.prog (Ev101 N) 400 21 [(.sl (.int .u8)), (.sl (.int .u8))] [.bool] (a0, b1, ())).run = ref01_Same N a0 b1 := by kernel_rfl
theorem ref01_Same_C (N : Nat) (a0 : List (Int)) (b1 : List (Int)) (y : Bool) (h : ref01_Same N a0 b1 = some y) : CallsK Go.Proofs.Tryd.prog 21 (valA [(.sl (.int .u8)), (.sl (.int .u8))] (a0, b1, ())) (tupV (valR [.bool] y)) := runK_ok hmx (Ev101_ok N _) (okFn_ok (by kernel_rfl)) (by rw [ref01_Same_S]; exact h)
noncomputable def Ev102 (N : Nat) : (R : Type) → Env R := Env.addFn (Ev101 N) 21 (fun R => fnK [(.sl (.int .u8)), (.sl (.int .u8))] [.bool] (fun c => ref01_Same N c.1 c.2.1))
theorem Ev102_ok (N : Nat) (R : Type) : EnvOK Go.Proofs.Tryd.prog (Ev102 N R) := EnvOK.addFn hmx (Ev101_ok N R) (Ev101_ok N _) (by kernel_rfl) (fun c => ref01_Same_S N c.1 c.2.1)
noncomputable def law08_alive (N : Nat) : Option (Bool) :=
 Option.bind (@des_Seven N (@List.replicate Int (Int.toNat (7 : Int)) (0 : Int)) (@List.replicate Int (Int.toNat (8 : Int)) (0 : Int))) fun (v1 : ((List Int) × Int)) =>
 Option.bind (@des_Turn N (1383827165325090801 : Int) (81985529216486895 : Int)) fun (v2 : Int) =>
 bif (decide (v2 = (9648983453391827973 : Int))) then
  bif (@cond Bool @Bool.true (decide ((((List.length v1.1) : Nat) : Int) = (8 : Int))) @Bool.false) then
   bif (@cond Bool @Bool.true (decide (v1.2 = (0 : Int))) @Bool.false) then
    some ((@cond Bool @Bool.true (decide ((Go.IntKind.wrap .u64 (@idxB (@Array.toList UInt8 (@List.toArray UInt8 ([(@OfNat.ofNat UInt8 (48 : Nat) (@UInt8.instOfNat (48 : Nat))), (@OfNat.ofNat UInt8 (49 : Nat) (@UInt8.instOfNat (49 : Nat))), (@OfNat.ofNat UInt8 (50 : Nat) (@UInt8.instOfNat (50 : Nat))), (@OfNat.ofNat UInt8 (51 : Nat) (@UInt8.instOfNat (51 : Nat))), (@OfNat.ofNat UInt8 (52 : Nat) (@UInt8.instOfNat (52 : Nat))), (@OfNat.ofNat UInt8 (53 : Nat) (@UInt8.instOfNat (53 : Nat))), (@OfNat.ofNat UInt8 (54 : Nat) (@UInt8.instOfNat (54 : Nat))), (@OfNat.ofNat UInt8 (55 : Nat) (@UInt8.instOfNat (55 : Nat))), (@OfNat.ofNat UInt8 (56 : Nat) (@UInt8.instOfNat (56 : Nat))), (@OfNat.ofNat UInt8 (57 : Nat) (@UInt8.instOfNat (57 : Nat))), (@OfNat.ofNat UInt8 (65 : Nat) (@UInt8.instOfNat (65 : Nat))), (@OfNat.ofNat UInt8 (66 : Nat) (@UInt8.instOfNat (66 : Nat))), (@OfNat.ofNat UInt8 (67 : Nat) (@UInt8.instOfNat (67 : Nat))), (@OfNat.ofNat UInt8 (68 : Nat) (@UInt8.instOfNat (68 : Nat))), (@OfNat.ofNat UInt8 (69 : Nat) (@UInt8.instOfNat (69 : Nat))), (@OfNat.ofNat UInt8 (70 : Nat) (@UInt8.instOfNat (70 : Nat)))] : List (UInt8)))) (((@UInt8.toNat (@OfNat.ofNat UInt8 (69 : Nat) (@UInt8.instOfNat (69 : Nat)))) : Nat) : Int))) = (14 : Int))) @Bool.false))
   else
    some (@Bool.false)
  else
   some (@Bool.false)
 else
  some (@Bool.false)
theorem law08_alive_S (N : Nat) : (runK Go.Proofs.Tryd.prog (Ev102 N) 400 14 [] [.bool] ()).run = law08_alive N  := by kernel_rfl
theorem law08_alive_C (N : Nat) (y : Bool) (h : law08_alive N  = some y) : CallsK Go.Proofs.Tryd.prog 14 (valA [] ()) (tupV (valR [.bool] y)) := runK_ok hmx (Ev102_ok N _) (okFn_ok (by kernel_rfl)) (by rw [law08_alive_S]; exact h)
noncomputable def Ev103 (N : Nat) : (R : Type) → Env R := Env.addFn (Ev102 N) 14 (fun R => fnK [] [.bool] (fun c => law08_alive N ))
theorem Ev103_ok (N : Nat) (R : Type) : EnvOK Go.Proofs.Tryd.prog (Ev103 N R) := EnvOK.addFn hmx (Ev102_ok N R) (Ev102_ok N _) (by kernel_rfl) (fun c => law08_alive_S N )
noncomputable def law08_DesWords (N : Nat) (n0 : Int) (key1 : Int) (half2 : Int) : Option (Bool) :=
 Option.bind (@des_Box N n0 key1) fun (v4 : Int) =>
 Option.bind (@ref08_Box N n0 key1) fun (v5 : Int) =>
 bif (decide (v4 = v5)) then
  Option.bind (@des_Keys N key1) fun (v6 : (Arr Int 16)) =>
  Option.bind (@ref08_Keys N key1) fun (v7 : (Arr Int 16)) =>
  bif ((@wfB (@Td.arr (16 : Nat) (@Td.int @Go.IntKind.u64)) v6) && (@wfB (@Td.arr (16 : Nat) (@Td.int @Go.IntKind.u64)) v7)) then
   bif (@cond Bool @Bool.true (@Decidable.decide (@Eq (Arr Int 16) v6 v7) (@decT (@Td.arr (16 : Nat) (@Td.int @Go.IntKind.u64)) v6 v7)) @Bool.false) then
    Option.bind (@des_Word N half2 key1) fun (v8 : Int) =>
    Option.bind (@ref08_Word N half2 key1) fun (v9 : Int) =>
    bif (@cond Bool @Bool.true (decide (v8 = v9)) @Bool.false) then
     Option.bind (@law08_alive N) fun (v10 : Bool) =>
     some ((@cond Bool @Bool.true v10 @Bool.false))
    else
     some (@Bool.false)
   else
    some (@Bool.false)
  else
   none
 else
  some (@Bool.false)
theorem law08_DesWords_S (N : Nat) (n0 : Int) (key1 : Int) (half2 : Int) : (runK Go.Proofs.Tryd.prog (Ev103 N) 400 3 [(.int .i64), (.int .u64), (.int .u32)] [.bool] (n0, key1, half2, ())).run = law08_DesWords N n0 key1 half2 := by kernel_rfl
theorem law08_DesWords_C (N : Nat) (n0 : Int) (key1 : Int) (half2 : Int) (y : Bool) (h : law08_DesWords N n0 key1 half2 = some y) : CallsK Go.Proofs.Tryd.prog 3 (valA [(.int .i64), (.int .u64), (.int .u32)] (n0, key1, half2, ())) (tupV (valR [.bool] y)) := runK_ok hmx (Ev103_ok N _) (okFn_ok (by kernel_rfl)) (by rw [law08_DesWords_S]; exact h)
noncomputable def Ev104 (N : Nat) : (R : Type) → Env R := Env.addFn (Ev103 N) 3 (fun R => fnK [(.int .i64), (.int .u64), (.int .u32)] [.bool] (fun c => law08_DesWords N c.1 c.2.1 c.2.2.1))
theorem Ev104_ok (N : Nat) (R : Type) : EnvOK Go.Proofs.Tryd.prog (Ev104 N R) := EnvOK.addFn hmx (Ev103_ok N R) (Ev103_ok N _) (by kernel_rfl) (fun c => law08_DesWords_S N c.1 c.2.1 c.2.2.1)
noncomputable def law08_DesTurns (N : Nat) (key0 : Int) (block1 : Int) : Option (Bool) :=
 Option.bind (@des_Turn N key0 block1) fun (v3 : Int) =>
 Option.bind (@ref08_Turn N key0 block1) fun (v4 : Int) =>
 bif (decide (v3 = v4)) then
  Option.bind (@des_Back N key0 block1) fun (v5 : Int) =>
  Option.bind (@ref08_Back N key0 block1) fun (v6 : Int) =>
  bif (@cond Bool @Bool.true (decide (v5 = v6)) @Bool.false) then
   Option.bind (@law08_alive N) fun (v7 : Bool) =>
   some ((@cond Bool @Bool.true v7 @Bool.false))
  else
   some (@Bool.false)
 else
  some (@Bool.false)
theorem law08_DesTurns_S (N : Nat) (key0 : Int) (block1 : Int) : (runK Go.Proofs.Tryd.prog (Ev104 N) 400 4 [(.int .u64), (.int .u64)] [.bool] (key0, block1, ())).run = law08_DesTurns N key0 block1 := by kernel_rfl
theorem law08_DesTurns_C (N : Nat) (key0 : Int) (block1 : Int) (y : Bool) (h : law08_DesTurns N key0 block1 = some y) : CallsK Go.Proofs.Tryd.prog 4 (valA [(.int .u64), (.int .u64)] (key0, block1, ())) (tupV (valR [.bool] y)) := runK_ok hmx (Ev104_ok N _) (okFn_ok (by kernel_rfl)) (by rw [law08_DesTurns_S]; exact h)
noncomputable def Ev105 (N : Nat) : (R : Type) → Env R := Env.addFn (Ev104 N) 4 (fun R => fnK [(.int .u64), (.int .u64)] [.bool] (fun c => law08_DesTurns N c.1 c.2.1))
theorem Ev105_ok (N : Nat) (R : Type) : EnvOK Go.Proofs.Tryd.prog (Ev105 N R) := EnvOK.addFn hmx (Ev104_ok N R) (Ev104_ok N _) (by kernel_rfl) (fun c => law08_DesTurns_S N c.1 c.2.1)
noncomputable def law08_DesSeven (N : Nat) (key0 : List (Int)) (block1 : List (Int)) : Option (Bool) :=
 bif (decide ((100 : Int) < (((List.length key0) : Nat) : Int))) then
  Option.bind (@law08_alive N) fun (v3 : Bool) =>
  some (v3)
 else
  bif (@cond Bool @Bool.false @Bool.true (decide ((100 : Int) < (((List.length block1) : Nat) : Int)))) then
   Option.bind (@law08_alive N) fun (v3 : Bool) =>
   some (v3)
  else
   Option.bind (@des_Seven N key0 block1) fun (v3 : ((List Int) × Int)) =>
   Option.bind (@ref08_Seven N key0 block1) fun (v4 : ((List Int) × Int)) =>
   Option.bind (@ref01_Same N v3.1 v4.1) fun (v5 : Bool) =>
   bif v5 then
    bif (@cond Bool @Bool.true (decide (v3.2 = v4.2)) @Bool.false) then
     Option.bind (@law08_alive N) fun (v6 : Bool) =>
     some ((@cond Bool @Bool.true v6 @Bool.false))
    else
     some (@Bool.false)
   else
    some (@Bool.false)
theorem law08_DesSeven_S (N : Nat) (key0 : List (Int)) (block1 : List (Int)) : (runK Go.Proofs.Tryd.prog (Ev105 N) 400 5 [(.sl (.int .u8)), (.sl (.int .u8))] [.bool] (key0, block1, ())).run = law08_DesSeven N key0 block1 := by kernel_rfl
theorem law08_DesSeven_C (N : Nat) (key0 : List (Int)) (block1 : List (Int)) (y : Bool) (h : law08_DesSeven N key0 block1 = some y) : CallsK Go.Proofs.Tryd.prog 5 (valA [(.sl (.int .u8)), (.sl (.int .u8))] (key0, block1, ())) (tupV (valR [.bool] y)) := runK_ok hmx (Ev105_ok N _) (okFn_ok (by kernel_rfl)) (by rw [law08_DesSeven_S]; exact h)
noncomputable def Ev106 (N : Nat) : (R : Type) → Env R := Env.addFn (Ev105 N) 5 (fun R => fnK [(.sl (.int .u8)), (.sl (.int .u8))] [.bool] (fun c => law08_DesSeven N c.1 c.2.1))
theorem Ev106_ok (N : Nat) (R : Type) : EnvOK Go.Proofs.Tryd.prog (Ev106 N R) := EnvOK.addFn hmx (Ev105_ok N R) (Ev105_ok N _) (by kernel_rfl) (fun c => law08_DesSeven_S N c.1 c.2.1)
noncomputable def law08_DesBack (N : Nat) (key0 : Int) (block1 : Int) (bits2 : Int) : Option (Bool) :=
 Option.bind (@des_Turn N key0 block1) fun (v4 : Int) =>
 Option.bind (@des_Back N key0 v4) fun (v5 : Int) =>
 bif (decide (v5 = block1)) then
  Option.bind (@des_Back N key0 block1) fun (v6 : Int) =>
  Option.bind (@des_Turn N key0 v6) fun (v7 : Int) =>
  bif (@cond Bool @Bool.true (decide (v7 = block1)) @Bool.false) then
   Option.bind (@des_Turn N (@Go.bits @Go.BinOp.xor @Go.IntKind.u64 key0 (@Go.bits @Go.BinOp.and @Go.IntKind.u64 bits2 (72340172838076673 : Int))) block1) fun (v8 : Int) =>
   bif (@cond Bool @Bool.true (decide (v8 = v4)) @Bool.false) then
    Option.bind (@law08_alive N) fun (v9 : Bool) =>
    some ((@cond Bool @Bool.true v9 @Bool.false))
   else
    some (@Bool.false)
  else
   some (@Bool.false)
 else
  some (@Bool.false)
theorem law08_DesBack_S (N : Nat) (key0 : Int) (block1 : Int) (bits2 : Int) : (runK Go.Proofs.Tryd.prog (Ev106 N) 400 6 [(.int .u64), (.int .u64), (.int .u64)] [.bool] (key0, block1, bits2, ())).run = law08_DesBack N key0 block1 bits2 := by kernel_rfl
theorem law08_DesBack_C (N : Nat) (key0 : Int) (block1 : Int) (bits2 : Int) (y : Bool) (h : law08_DesBack N key0 block1 bits2 = some y) : CallsK Go.Proofs.Tryd.prog 6 (valA [(.int .u64), (.int .u64), (.int .u64)] (key0, block1, bits2, ())) (tupV (valR [.bool] y)) := runK_ok hmx (Ev106_ok N _) (okFn_ok (by kernel_rfl)) (by rw [law08_DesBack_S]; exact h)
noncomputable def Ev107 (N : Nat) : (R : Type) → Env R := Env.addFn (Ev106 N) 6 (fun R => fnK [(.int .u64), (.int .u64), (.int .u64)] [.bool] (fun c => law08_DesBack N c.1 c.2.1 c.2.2.1))
theorem Ev107_ok (N : Nat) (R : Type) : EnvOK Go.Proofs.Tryd.prog (Ev107 N R) := EnvOK.addFn hmx (Ev106_ok N R) (Ev106_ok N _) (by kernel_rfl) (fun c => law08_DesBack_S N c.1 c.2.1 c.2.2.1)
noncomputable def law08_DesOther (N : Nat) (key0 : Int) (block1 : Int) : Option (Bool) :=
 Option.bind (@des_Turn N (@Go.bits @Go.BinOp.xor @Go.IntKind.u64 (@ite Int (@Eq Bool (@Go.IntKind.signed @Go.IntKind.u64) @Bool.true) (@instDecidableEqBool (@Go.IntKind.signed @Go.IntKind.u64) @Bool.true) (-1 : Int) (@Go.IntKind.max @Go.IntKind.u64)) key0) (@Go.bits @Go.BinOp.xor @Go.IntKind.u64 (@ite Int (@Eq Bool (@Go.IntKind.signed @Go.IntKind.u64) @Bool.true) (@instDecidableEqBool (@Go.IntKind.signed @Go.IntKind.u64) @Bool.true) (-1 : Int) (@Go.IntKind.max @Go.IntKind.u64)) block1)) fun (v3 : Int) =>
 Option.bind (@des_Turn N key0 block1) fun (v4 : Int) =>
 bif (decide (v3 = (@Go.bits @Go.BinOp.xor @Go.IntKind.u64 (@ite Int (@Eq Bool (@Go.IntKind.signed @Go.IntKind.u64) @Bool.true) (@instDecidableEqBool (@Go.IntKind.signed @Go.IntKind.u64) @Bool.true) (-1 : Int) (@Go.IntKind.max @Go.IntKind.u64)) v4))) then
  Option.bind (@des_Back N (@Go.bits @Go.BinOp.xor @Go.IntKind.u64 (@ite Int (@Eq Bool (@Go.IntKind.signed @Go.IntKind.u64) @Bool.true) (@instDecidableEqBool (@Go.IntKind.signed @Go.IntKind.u64) @Bool.true) (-1 : Int) (@Go.IntKind.max @Go.IntKind.u64)) key0) (@Go.bits @Go.BinOp.xor @Go.IntKind.u64 (@ite Int (@Eq Bool (@Go.IntKind.signed @Go.IntKind.u64) @Bool.true) (@instDecidableEqBool (@Go.IntKind.signed @Go.IntKind.u64) @Bool.true) (-1 : Int) (@Go.IntKind.max @Go.IntKind.u64)) block1)) fun (v5 : Int) =>
  Option.bind (@des_Back N key0 block1) fun (v6 : Int) =>
  bif (@cond Bool @Bool.true (decide (v5 = (@Go.bits @Go.BinOp.xor @Go.IntKind.u64 (@ite Int (@Eq Bool (@Go.IntKind.signed @Go.IntKind.u64) @Bool.true) (@instDecidableEqBool (@Go.IntKind.signed @Go.IntKind.u64) @Bool.true) (-1 : Int) (@Go.IntKind.max @Go.IntKind.u64)) v6))) @Bool.false) then
   Option.bind (@law08_alive N) fun (v7 : Bool) =>
   some ((@cond Bool @Bool.true v7 @Bool.false))
  else
   some (@Bool.false)
 else
  some (@Bool.false)
theorem law08_DesOther_S (N : Nat) (key0 : Int) (block1 : Int) : (runK Go.Proofs.Tryd.prog (Ev107 N) 400 7 [(.int .u64), (.int .u64)] [.bool] (key0, block1, ())).run = law08_DesOther N key0 block1 := by kernel_rfl
theorem law08_DesOther_C (N : Nat) (key0 : Int) (block1 : Int) (y : Bool) (h : law08_DesOther N key0 block1 = some y) : CallsK Go.Proofs.Tryd.prog 7 (valA [(.int .u64), (.int .u64)] (key0, block1, ())) (tupV (valR [.bool] y)) := runK_ok hmx (Ev107_ok N _) (okFn_ok (by kernel_rfl)) (by rw [law08_DesOther_S]; exact h)
noncomputable def Ev108 (N : Nat) : (R : Type) → Env R := Env.addFn (Ev107 N) 7 (fun R => fnK [(.int .u64), (.int .u64)] [.bool] (fun c => law08_DesOther N c.1 c.2.1))
theorem Ev108_ok (N : Nat) (R : Type) : EnvOK Go.Proofs.Tryd.prog (Ev108 N R) := EnvOK.addFn hmx (Ev107_ok N R) (Ev107_ok N _) (by kernel_rfl) (fun c => law08_DesOther_S N c.1 c.2.1)
end Go.Proofs.YtopfadmfbgnbhaaDoor
