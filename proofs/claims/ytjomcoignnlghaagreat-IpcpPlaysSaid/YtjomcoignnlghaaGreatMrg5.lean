/-
  Parts of my own, one behind the other: GIpB, GIpC, GIp, QPC0, QPC1, QPC2.
-/
import Derived.Test.YtjomcoignnlghaaGreatMrg4
namespace Go.Proofs.YtjomcoignnlghaaGreat
open Go.RowKit
set_option linter.unusedVariables false
set_option maxRecDepth 100000
section
variable (N : Nat)
noncomputable def retry_Retry_Zero (N : Nat) (r0 : Int × Int) : Option (Int × Int) :=
 some (((0 : Int), (3 : Int)))
theorem retry_Retry_Zero_S (r0 : Int × Int) : (runK Tryz.prog (Ev64 N) 400 96 [(.pair (.int .i64) (.int .i64))] [(.pair (.int .i64) (.int .i64))] (r0, ())).run = retry_Retry_Zero N r0 := by kernel_rfl
noncomputable def Ev65 : (R : Type) → Env R := Env.addFn (Ev64 N) 96 (fun R => fnK [(.pair (.int .i64) (.int .i64))] [(.pair (.int .i64) (.int .i64))] (fun c => retry_Retry_Zero N c.1))
theorem Ev65_ok (R : Type) : EnvOK Tryz.prog (Ev65 N R) := EnvOK.addFn hmx (Ev64_ok N R) (Ev64_ok N _) (by kernel_rfl) (fun c => retry_Retry_Zero_S N c.1)
noncomputable def Ev66 : (R : Type) → Env R := Env.addBx (Ev65 N) [(98, 0)]
theorem Ev66_ok (R : Type) : EnvOK Tryz.prog (Ev66 N R) := EnvOK.addBx (Ev65_ok N R) [(98, 0)]
noncomputable def Ev67 : (R : Type) → Env R := Env.addBx (Ev66 N) [(66, 0)]
theorem Ev67_ok (R : Type) : EnvOK Tryz.prog (Ev67 N R) := EnvOK.addBx (Ev66_ok N R) [(66, 0)]
noncomputable def retry_Retry_More (N : Nat) (r0 : Int × Int) : Option Bool :=
 some ((decide ((0 : Int) < r0.1)))
theorem retry_Retry_More_S (r0 : Int × Int) : (runK Tryz.prog (Ev67 N) 400 66 [(.pair (.int .i64) (.int .i64))] [.bool] (r0, ())).run = retry_Retry_More N r0 := by kernel_rfl
noncomputable def Ev68 : (R : Type) → Env R := Env.addFn (Ev67 N) 66 (fun R => fnK [(.pair (.int .i64) (.int .i64))] [.bool] (fun c => retry_Retry_More N c.1))
theorem Ev68_ok (R : Type) : EnvOK Tryz.prog (Ev68 N R) := EnvOK.addFn hmx (Ev67_ok N R) (Ev67_ok N _) (by kernel_rfl) (fun c => retry_Retry_More_S N c.1)
noncomputable def retry_Retry_Sent (N : Nat) (r0 : Int × Int) : Option (Int × Int) :=
 bif (decide ((0 : Int) < r0.1)) then
  some (((IntKind.wrap .i64 (r0.1 - 1)), (3 : Int)))
 else
  some (((0 : Int), (3 : Int)))
theorem retry_Retry_Sent_S (r0 : Int × Int) : (runK Tryz.prog (Ev68 N) 400 98 [(.pair (.int .i64) (.int .i64))] [(.pair (.int .i64) (.int .i64))] (r0, ())).run = retry_Retry_Sent N r0 := by kernel_rfl
noncomputable def Ev69 : (R : Type) → Env R := Env.addFn (Ev68 N) 98 (fun R => fnK [(.pair (.int .i64) (.int .i64))] [(.pair (.int .i64) (.int .i64))] (fun c => retry_Retry_Sent N c.1))
theorem Ev69_ok (R : Type) : EnvOK Tryz.prog (Ev69 N R) := EnvOK.addFn hmx (Ev68_ok N R) (Ev68_ok N _) (by kernel_rfl) (fun c => retry_Retry_Sent_S N c.1)
noncomputable def Ev70 : (R : Type) → Env R := Env.addBx (Ev69 N) [(104, 0)]
theorem Ev70_ok (R : Type) : EnvOK Tryz.prog (Ev70 N R) := EnvOK.addBx (Ev69_ok N R) [(104, 0)]
noncomputable def retry_Retry_On (N : Nat) (r0 : Int × Int) : Option Bool :=
 some ((decide ((0 : Int) < r0.2)))
theorem retry_Retry_On_S (r0 : Int × Int) : (runK Tryz.prog (Ev70 N) 400 104 [(.pair (.int .i64) (.int .i64))] [.bool] (r0, ())).run = retry_Retry_On N r0 := by kernel_rfl
noncomputable def Ev71 : (R : Type) → Env R := Env.addFn (Ev70 N) 104 (fun R => fnK [(.pair (.int .i64) (.int .i64))] [.bool] (fun c => retry_Retry_On N c.1))
theorem Ev71_ok (R : Type) : EnvOK Tryz.prog (Ev71 N R) := EnvOK.addFn hmx (Ev70_ok N R) (Ev70_ok N _) (by kernel_rfl) (fun c => retry_Retry_On_S N c.1)
noncomputable def retry_Retry_Tick (N : Nat) (r0 : Int × Int) : Option ((Int × Int) × Bool) :=
 bif (!(decide ((0 : Int) < r0.2))) then
  some ((r0, false))
 else
  some (((r0.1, (IntKind.wrap .i64 (r0.2 - 1))), (!(decide ((0 : Int) < (IntKind.wrap .i64 (r0.2 - 1)))))))
theorem retry_Retry_Tick_S (r0 : Int × Int) : (runK Tryz.prog (Ev71 N) 400 65 [(.pair (.int .i64) (.int .i64))] [(.pair (.int .i64) (.int .i64)), .bool] (r0, ())).run = retry_Retry_Tick N r0 := by kernel_rfl
noncomputable def Ev72 : (R : Type) → Env R := Env.addFn (Ev71 N) 65 (fun R => fnK [(.pair (.int .i64) (.int .i64))] [(.pair (.int .i64) (.int .i64)), .bool] (fun c => retry_Retry_Tick N c.1))
theorem Ev72_ok (R : Type) : EnvOK Tryz.prog (Ev72 N R) := EnvOK.addFn hmx (Ev71_ok N R) (Ev71_ok N _) (by kernel_rfl) (fun c => retry_Retry_Tick_S N c.1)
noncomputable def retry_Retry_Stop (N : Nat) (r0 : Int × Int) : Option (Int × Int) :=
 some ((r0.1, (0 : Int)))
theorem retry_Retry_Stop_S (r0 : Int × Int) : (runK Tryz.prog (Ev72 N) 400 103 [(.pair (.int .i64) (.int .i64))] [(.pair (.int .i64) (.int .i64))] (r0, ())).run = retry_Retry_Stop N r0 := by kernel_rfl
noncomputable def Ev73 : (R : Type) → Env R := Env.addFn (Ev72 N) 103 (fun R => fnK [(.pair (.int .i64) (.int .i64))] [(.pair (.int .i64) (.int .i64))] (fun c => retry_Retry_Stop N c.1))
theorem Ev73_ok (R : Type) : EnvOK Tryz.prog (Ev73 N R) := EnvOK.addFn hmx (Ev72_ok N R) (Ev72_ok N _) (by kernel_rfl) (fun c => retry_Retry_Stop_S N c.1)
noncomputable def Ev74 : (R : Type) → Env R := Env.addInl (Ev73 N) [173, 130, 128, 131, 156, 172, 176, 178, 99]
theorem Ev74_ok (R : Type) : EnvOK Tryz.prog (Ev74 N R) := EnvOK.addInl (Ev73_ok N R) (by kernel_rfl)
noncomputable def Ev75 : (R : Type) → Env R := Env.addMv (Ev74 N) [(87, 6)]
theorem Ev75_ok (R : Type) : EnvOK Tryz.prog (Ev75 N R) := EnvOK.addMv (Ev74_ok N R) [(87, 6)]
noncomputable def sIB_L2_I : LI := ⟨19, 0, [], ⟨[(0, .ty (.sl (.int .u8))), (1, .ty (.int .u8)), (7, .ty (.int .i64)), (8, .ty (.int .i64))], []⟩, [(.ret, ⟨[(4, .ty (.int .i64))], []⟩), (.exit 0, ⟨[], []⟩)]⟩
noncomputable def sIB_L2 (N : Nat) (X : (((List Int) × (Int × (Int × (Int × Unit)))) × Unit) → Option ((((Int × Unit) × Unit) ⊕ (Unit × Unit)))) (s0 : List (Int)) (v1 : Int) (x7 : Int) (x8 : Int) : Option ((((Int × Unit) × Unit) ⊕ (Unit × Unit))) :=
 bif (decide (x8 < x7)) then
  Option.bind (getI s0 x8) fun (v6 : Int) =>
  bif (decide (v1 = v6)) then
   some ((.inl ((x8, ()), ())))
  else
   (X ((s0, (v1, (x7, ((IntKind.wrap .i64 (x8 + 1)), ())))), ()))
 else
  some ((.inr ((), ())))
noncomputable def sIB_L2_R (c : (((List Int) × (Int × (Int × (Int × Unit)))) × Unit)) : Option ((((Int × Unit) × Unit) ⊕ (Unit × Unit))) := gl (fun X c => sIB_L2 N X c.1.1 c.1.2.1 c.1.2.2.1 c.1.2.2.2.1) N c
theorem sIB_L2_S (X : (((List Int) × (Int × (Int × (Int × Unit)))) × Unit) → Option ((((Int × Unit) × Unit) ⊕ (Unit × Unit)))) (s0 : List (Int)) (v1 : Int) (x7 : Int) (x8 : Int) : (roundK Tryz.prog (Ev75 N) 400 [164] sIB_L2_I (loopAt Tryz.prog [164] 2) X ((s0, v1, x7, x8, ()), ())).run = sIB_L2 N X s0 v1 x7 x8 := by kernel_rfl
noncomputable def Ev76 : (R : Type) → Env R := Env.addLp (Ev75 N) [164] 0 2 (fun R => lpK Tryz.prog sIB_L2_I (fun X c => sIB_L2 N X c.1.1 c.1.2.1 c.1.2.2.1 c.1.2.2.2.1) N)
theorem Ev76_ok (R : Type) : EnvOK Tryz.prog (Ev76 N R) := EnvOK.addLp (Ev75_ok N R) (by kernel_rfl) (lpK_ok (li := sIB_L2_I) (G := fun X c => sIB_L2 N X c.1.1 c.1.2.1 c.1.2.2.1 c.1.2.2.2.1) hmx (Ev75_ok N _) (by kernel_rfl) lAs (fun (X : CT sIB_L2_I.sh → Option (OT sIB_L2_I.outs)) (c : CT sIB_L2_I.sh) => sIB_L2_S N X c.1.1 c.1.2.1 c.1.2.2.1 c.1.2.2.2.1) N)
noncomputable def sIB (s0 : List (Int)) (v1 : Int) : Option Int :=
 Option.bind (sIB_L2_R N ((s0, (v1, ((((List.length s0) : Nat) : Int), ((0 : Int), ())))), ())) fun v3 =>
 Sum.elim
  (fun (v4 : ((Int × Unit) × Unit)) =>
  some (v4.1.1))
  (fun (v4 : (Unit × Unit)) =>
  some ((-1 : Int))) v3
theorem sIB_S (s0 : List (Int)) (v1 : Int) : (runK Tryz.prog (Ev76 N) 400 164 [(.sl (.int .u8)), (.int .u8)] [(.int .i64)] (s0, v1, ())).run = sIB N s0 v1 := by kernel_rfl
noncomputable def Ev77 : (R : Type) → Env R := Env.addFn (Ev76 N) 164 (fun R => fnK [(.sl (.int .u8)), (.int .u8)] [(.int .i64)] (fun c => sIB N c.1 c.2.1))
theorem Ev77_ok (R : Type) : EnvOK Tryz.prog (Ev77 N R) := EnvOK.addFn hmx (Ev76_ok N R) (Ev76_ok N _) (by kernel_rfl) (fun c => sIB_S N c.1 c.2.1)
noncomputable def sCB (s0 : List (Int)) (v1 : Int) : Option Bool :=
 Option.bind (sIB N s0 v1) fun v3 =>
 some ((decide ((0 : Int) ≤ v3)))
theorem sCB_S (s0 : List (Int)) (v1 : Int) : (runK Tryz.prog (Ev77 N) 400 126 [(.sl (.int .u8)), (.int .u8)] [.bool] (s0, v1, ())).run = sCB N s0 v1 := by kernel_rfl
noncomputable def Ev78 : (R : Type) → Env R := Env.addFn (Ev77 N) 126 (fun R => fnK [(.sl (.int .u8)), (.int .u8)] [.bool] (fun c => sCB N c.1 c.2.1))
theorem Ev78_ok (R : Type) : EnvOK Tryz.prog (Ev78 N R) := EnvOK.addFn hmx (Ev77_ok N R) (Ev77_ok N _) (by kernel_rfl) (fun c => sCB_S N c.1 c.2.1)
noncomputable def nego_of_L3_I : LI := ⟨24, 0, [(5, 127)], ⟨[(1, .ty (.sl (.int .u8))), (5, .lit (.own 0)), (8, .ty dO), (9, .ty (.int .i64)), (10, .ty (.int .i64))], [.own (.pair (.int .u8) (.sl (.int .u8))) 127]⟩, [(.exit 0, ⟨[(5, .lit (.own 0))], [.own (.pair (.int .u8) (.sl (.int .u8))) 127]⟩)]⟩
noncomputable def nego_of_L3 (X : (((List Int) × (tO × (Int × (Int × Unit)))) × (tO × Unit)) → Option ((Unit × (tO × Unit)))) (kinds1 : List (Int)) (x8 : tO) (x9 : Int) (x10 : Int) (h0 : tO) : Option ((Unit × (tO × Unit))) :=
 bif (decide (x10 < x9)) then
  Option.bind (getI x8 x10) fun (v7 : tP) =>
  Option.bind (sCB N kinds1 v7.1) fun v8 =>
  bif v8 then
   bif (roomB ((List.length h0) + (List.length ([v7] : List (tP)))) 32) then
    (X ((kinds1, (x8, (x9, ((IntKind.wrap .i64 (x10 + 1)), ())))), ((h0 ++ ([v7] : List (tP))), ())))
   else
    none
  else
   (X ((kinds1, (x8, (x9, ((IntKind.wrap .i64 (x10 + 1)), ())))), (h0, ())))
 else
  some (((), (h0, ())))
noncomputable def nego_of_L3_R (c : (((List Int) × (tO × (Int × (Int × Unit)))) × (tO × Unit))) : Option ((Unit × (tO × Unit))) := gl (fun X c => nego_of_L3 N X c.1.1 c.1.2.1 c.1.2.2.1 c.1.2.2.2.1 c.2.1) N c
theorem nego_of_L3_S (X : (((List Int) × (tO × (Int × (Int × Unit)))) × (tO × Unit)) → Option ((Unit × (tO × Unit)))) (kinds1 : List (Int)) (x8 : tO) (x9 : Int) (x10 : Int) (h0 : tO) : (roundK Tryz.prog (Ev78 N) 400 [87] nego_of_L3_I (loopAt Tryz.prog [87] 3) X ((kinds1, x8, x9, x10, ()), (h0, ()))).run = nego_of_L3 N X kinds1 x8 x9 x10 h0 := by kernel_rfl
noncomputable def Ev79 : (R : Type) → Env R := Env.addLp (Ev78 N) [87] 0 3 (fun R => lpK Tryz.prog nego_of_L3_I (fun X c => nego_of_L3 N X c.1.1 c.1.2.1 c.1.2.2.1 c.1.2.2.2.1 c.2.1) N)
theorem Ev79_ok (R : Type) : EnvOK Tryz.prog (Ev79 N R) := EnvOK.addLp (Ev78_ok N R) (by kernel_rfl) (lpK_ok (li := nego_of_L3_I) (G := fun X c => nego_of_L3 N X c.1.1 c.1.2.1 c.1.2.2.1 c.1.2.2.2.1 c.2.1) hmx (Ev78_ok N _) (by kernel_rfl) lAs (fun (X : CT nego_of_L3_I.sh → Option (OT nego_of_L3_I.outs)) (c : CT nego_of_L3_I.sh) => nego_of_L3_S N X c.1.1 c.1.2.1 c.1.2.2.1 c.1.2.2.2.1 c.2.1) N)
noncomputable def nego_of (l0 : tO) (kinds1 : List (Int)) : Option tO :=
 Option.bind (nego_of_L3_R N ((kinds1, (l0, ((((List.length l0) : Nat) : Int), ((0 : Int), ())))), (([] : List (tP)), ()))) fun v3 =>
 some (v3.2.1)
theorem nego_of_S (l0 : tO) (kinds1 : List (Int)) : (runK Tryz.prog (Ev79 N) 400 87 [dO, (.sl (.int .u8))] [dO] (l0, kinds1, ())).run = nego_of N l0 kinds1 := by kernel_rfl
noncomputable def Ev80 : (R : Type) → Env R := Env.addFn (Ev79 N) 87 (fun R => fnK [dO, (.sl (.int .u8))] [dO] (fun c => nego_of N c.1 c.2.1))
theorem Ev80_ok (R : Type) : EnvOK Tryz.prog (Ev80 N R) := EnvOK.addFn hmx (Ev79_ok N R) (Ev79_ok N _) (by kernel_rfl) (fun c => nego_of_S N c.1 c.2.1)
noncomputable def Ev81 : (R : Type) → Env R := Env.addBx (Ev80 N) [(97, 0)]
theorem Ev81_ok (R : Type) : EnvOK Tryz.prog (Ev81 N R) := EnvOK.addBx (Ev80_ok N R) [(97, 0)]
noncomputable def nego_Nego_asks (n0 : tN) : Option tO :=
 bif n0.1.1 then
  Option.bind (ipcpo_Options N n0.1.2.2.2) fun v2 =>
  some (v2)
 else
  none
theorem nego_Nego_asks_S (n0 : tN) : (runK Tryz.prog (Ev81 N) 400 97 [dN] [dO] (n0, ())).run = nego_Nego_asks N n0 := by kernel_rfl
noncomputable def Ev82 : (R : Type) → Env R := Env.addFn (Ev81 N) 97 (fun R => fnK [dN] [dO] (fun c => nego_Nego_asks N c.1))
theorem Ev82_ok (R : Type) : EnvOK Tryz.prog (Ev82 N R) := EnvOK.addFn hmx (Ev81_ok N R) (Ev81_ok N _) (by kernel_rfl) (fun c => nego_Nego_asks_S N c.1)
noncomputable def Ev83 : (R : Type) → Env R := Env.addBx (Ev82 N) [(100, 0)]
theorem Ev83_ok (R : Type) : EnvOK Tryz.prog (Ev83 N R) := EnvOK.addBx (Ev82_ok N R) [(100, 0)]
noncomputable def nego_Nego_opens (n0 : tN) (a1 : Int) : Option tC :=
 bif (decide (a1 = (10 : Int))) then
  some (((5 : Int), (n0.2.2.2.1, ([] : List Int))))
 else
  Option.bind (ctl_Conf N (1 : Int) n0.2.2.2.1 n0.2.2.2.2.1) fun v3 =>
  some (v3.1)
theorem nego_Nego_opens_S (n0 : tN) (a1 : Int) : (runK Tryz.prog (Ev83 N) 400 100 [dN, (.int .i64)] [dC] (n0, a1, ())).run = nego_Nego_opens N n0 a1 := by kernel_rfl
noncomputable def Ev84 : (R : Type) → Env R := Env.addFn (Ev83 N) 100 (fun R => fnK [dN, (.int .i64)] [dC] (fun c => nego_Nego_opens N c.1 c.2.1))
theorem Ev84_ok (R : Type) : EnvOK Tryz.prog (Ev84 N R) := EnvOK.addFn hmx (Ev83_ok N R) (Ev83_ok N _) (by kernel_rfl) (fun c => nego_Nego_opens_S N c.1 c.2.1)
noncomputable def sIA_L2_I : LI := ⟨19, 0, [], ⟨[(0, .ty (.sl (.int .i64))), (1, .ty (.int .i64)), (7, .ty (.int .i64)), (8, .ty (.int .i64))], []⟩, [(.ret, ⟨[(4, .ty (.int .i64))], []⟩), (.exit 0, ⟨[], []⟩)]⟩
noncomputable def sIA_L2 (N : Nat) (X : (((List Int) × (Int × (Int × (Int × Unit)))) × Unit) → Option ((((Int × Unit) × Unit) ⊕ (Unit × Unit)))) (s0 : List (Int)) (v1 : Int) (x7 : Int) (x8 : Int) : Option ((((Int × Unit) × Unit) ⊕ (Unit × Unit))) :=
 bif (decide (x8 < x7)) then
  Option.bind (getI s0 x8) fun (v6 : Int) =>
  bif (decide (v1 = v6)) then
   some ((.inl ((x8, ()), ())))
  else
   (X ((s0, (v1, (x7, ((IntKind.wrap .i64 (x8 + 1)), ())))), ()))
 else
  some ((.inr ((), ())))
noncomputable def sIA_L2_R (c : (((List Int) × (Int × (Int × (Int × Unit)))) × Unit)) : Option ((((Int × Unit) × Unit) ⊕ (Unit × Unit))) := gl (fun X c => sIA_L2 N X c.1.1 c.1.2.1 c.1.2.2.1 c.1.2.2.2.1) N c
theorem sIA_L2_S (X : (((List Int) × (Int × (Int × (Int × Unit)))) × Unit) → Option ((((Int × Unit) × Unit) ⊕ (Unit × Unit)))) (s0 : List (Int)) (v1 : Int) (x7 : Int) (x8 : Int) : (roundK Tryz.prog (Ev84 N) 400 [139] sIA_L2_I (loopAt Tryz.prog [139] 2) X ((s0, v1, x7, x8, ()), ())).run = sIA_L2 N X s0 v1 x7 x8 := by kernel_rfl
noncomputable def Ev85 : (R : Type) → Env R := Env.addLp (Ev84 N) [139] 0 2 (fun R => lpK Tryz.prog sIA_L2_I (fun X c => sIA_L2 N X c.1.1 c.1.2.1 c.1.2.2.1 c.1.2.2.2.1) N)
theorem Ev85_ok (R : Type) : EnvOK Tryz.prog (Ev85 N R) := EnvOK.addLp (Ev84_ok N R) (by kernel_rfl) (lpK_ok (li := sIA_L2_I) (G := fun X c => sIA_L2 N X c.1.1 c.1.2.1 c.1.2.2.1 c.1.2.2.2.1) hmx (Ev84_ok N _) (by kernel_rfl) lAs (fun (X : CT sIA_L2_I.sh → Option (OT sIA_L2_I.outs)) (c : CT sIA_L2_I.sh) => sIA_L2_S N X c.1.1 c.1.2.1 c.1.2.2.1 c.1.2.2.2.1) N)
noncomputable def sIA (s0 : List (Int)) (v1 : Int) : Option Int :=
 Option.bind (sIA_L2_R N ((s0, (v1, ((((List.length s0) : Nat) : Int), ((0 : Int), ())))), ())) fun v3 =>
 Sum.elim
  (fun (v4 : ((Int × Unit) × Unit)) =>
  some (v4.1.1))
  (fun (v4 : (Unit × Unit)) =>
  some ((-1 : Int))) v3
theorem sIA_S (s0 : List (Int)) (v1 : Int) : (runK Tryz.prog (Ev85 N) 400 139 [(.sl (.int .i64)), (.int .i64)] [(.int .i64)] (s0, v1, ())).run = sIA N s0 v1 := by kernel_rfl
noncomputable def Ev86 : (R : Type) → Env R := Env.addFn (Ev85 N) 139 (fun R => fnK [(.sl (.int .i64)), (.int .i64)] [(.int .i64)] (fun c => sIA N c.1 c.2.1))
theorem Ev86_ok (R : Type) : EnvOK Tryz.prog (Ev86 N R) := EnvOK.addFn hmx (Ev85_ok N R) (Ev85_ok N _) (by kernel_rfl) (fun c => sIA_S N c.1 c.2.1)
noncomputable def sCA (s0 : List (Int)) (v1 : Int) : Option Bool :=
 Option.bind (sIA N s0 v1) fun v3 =>
 some ((decide ((0 : Int) ≤ v3)))
theorem sCA_S (s0 : List (Int)) (v1 : Int) : (runK Tryz.prog (Ev86 N) 400 95 [(.sl (.int .i64)), (.int .i64)] [.bool] (s0, v1, ())).run = sCA N s0 v1 := by kernel_rfl
noncomputable def Ev87 : (R : Type) → Env R := Env.addFn (Ev86 N) 95 (fun R => fnK [(.sl (.int .i64)), (.int .i64)] [.bool] (fun c => sCA N c.1 c.2.1))
theorem Ev87_ok (R : Type) : EnvOK Tryz.prog (Ev87 N R) := EnvOK.addFn hmx (Ev86_ok N R) (Ev86_ok N _) (by kernel_rfl) (fun c => sCA_S N c.1 c.2.1)
noncomputable def nNd_L7_I : LI := ⟨114, 0, [], ⟨[(4, .lit (.box 0 0)), (6, .lit (.box 1 0)), (7, .lit (.box 2 0)), (8, .lit (.box 3 0)), (9, .lit (.box 4 0)), (10, .ty (.int .i64)), (11, .ty (.sl (.int .i64))), (13, .lit (.box 5 0)), (30, .ty (.sl (.int .i64))), (31, .ty (.int .i64)), (32, .ty (.int .i64))], [.box 37 dN, .box 45 dC, .box 45 dC, .box 37 dN, .boxp 47 [.own 6, .ty .bool, .ty .bool, .ty .bool, .ty .bool], .boxp 47 [.own 7, .ty .bool, .ty .bool, .ty .bool, .ty .bool], .own dC 45, .own dC 45]⟩, [(.exit 0, ⟨[(4, .lit (.box 0 0)), (8, .lit (.box 1 0)), (9, .lit (.box 2 0)), (10, .ty (.int .i64)), (13, .lit (.box 3 0))], [.box 37 dN, .box 37 dN, .boxp 47 [.own 4, .ty .bool, .ty .bool, .ty .bool, .ty .bool], .boxp 47 [.own 5, .ty .bool, .ty .bool, .ty .bool, .ty .bool], .own dC 45, .own dC 45]⟩)]⟩
noncomputable def nNd_L7 (X : ((Int × ((List Int) × ((List Int) × (Int × (Int × Unit))))) × (tN × (tC × (tC × (tN × (Bool × (Bool × (Bool × (Bool × (Bool × (Bool × (Bool × (Bool × ((List tC) × ((List tC) × Unit))))))))))))))) → Option (((Int × Unit) × (tN × (tN × (Bool × (Bool × (Bool × (Bool × (Bool × (Bool × (Bool × (Bool × ((List tC) × ((List tC) × Unit))))))))))))))) (next10 : Int) (actions11 : List (Int)) (x30 : List (Int)) (x31 : Int) (x32 : Int) (h0 : tN) (h1 : tC) (h2 : tC) (h3 : tN) (h4 : Bool) (h5 : Bool) (h6 : Bool) (h7 : Bool) (h8 : Bool) (h9 : Bool) (h10 : Bool) (h11 : Bool) (h12 : List tC) (h13 : List tC) : Option (((Int × Unit) × (tN × (tN × (Bool × (Bool × (Bool × (Bool × (Bool × (Bool × (Bool × (Bool × ((List tC) × ((List tC) × Unit)))))))))))))) :=
 bif (decide (x32 < x31)) then
  Option.bind (getI x30 x32) fun (v21 : Int) =>
  bif (decide (v21 = (1 : Int))) then
   (X ((next10, (actions11, (x30, (x31, ((IntKind.wrap .i64 (x32 + 1)), ()))))), (h0, (h1, (h2, (h3, (h4, (h5, (h6, (h7, (true, (h9, (h10, (h11, (h12, (h13, ()))))))))))))))))
  else
   bif (decide (v21 = (2 : Int))) then
    (X ((next10, (actions11, (x30, (x31, ((IntKind.wrap .i64 (x32 + 1)), ()))))), (h0, (h1, (h2, (h3, (h4, (h5, (h6, (h7, (h8, (true, (h10, (h11, (h12, (h13, ()))))))))))))))))
   else
    bif (decide (v21 = (3 : Int))) then
     (X ((next10, (actions11, (x30, (x31, ((IntKind.wrap .i64 (x32 + 1)), ()))))), (h0, (h1, (h2, (h3, (h4, (h5, (h6, (h7, (h8, (h9, (true, (h11, (h12, (h13, ()))))))))))))))))
    else
     bif (decide (v21 = (4 : Int))) then
      (X ((next10, (actions11, (x30, (x31, ((IntKind.wrap .i64 (x32 + 1)), ()))))), (h0, (h1, (h2, (h3, (h4, (h5, (h6, (h7, (h8, (h9, (h10, (true, (h12, (h13, ()))))))))))))))))
     else
      bif (decide (v21 = (5 : Int))) then
       Option.bind (sCA N actions11 (10 : Int)) fun v22 =>
       Option.bind (retry_Retry_Init N h0.2.2.1 v22) fun v23 =>
       (X ((next10, (actions11, (x30, (x31, ((IntKind.wrap .i64 (x32 + 1)), ()))))), ((h0.1, (h0.2.1, (v23, h0.2.2.2))), (h1, (h2, (h3, (h4, (h5, (h6, (h7, (h8, (h9, (h10, (h11, (h12, (h13, ()))))))))))))))))
      else
       bif (decide (v21 = (6 : Int))) then
        (X ((next10, (actions11, (x30, (x31, ((IntKind.wrap .i64 (x32 + 1)), ()))))), ((h0.1, (h0.2.1, (((0 : Int), (3 : Int)), h0.2.2.2))), (h1, (h2, (h3, (h4, (h5, (h6, (h7, (h8, (h9, (h10, (h11, (h12, (h13, ()))))))))))))))))
       else
        bif (decide (v21 = (7 : Int))) then
         Option.bind (nego_Nego_asks N h0) fun v22 =>
         Option.bind (retry_Retry_Sent N h0.2.2.1) fun v23 =>
         Option.bind (nego_Nego_opens N (h0.1, (h0.2.1, (v23, ((IntKind.wrap .u8 (h0.2.2.2.1 + 1)), (v22, h0.2.2.2.2.2))))) v21) fun v24 =>
         Option.bind (ctl_Lay N v24) fun v25 =>
         bif (decide (v25.2 = (0 : Int))) then
          bif (roomB ((List.length h13) + (List.length ([v24] : List tC))) 32) then
           (X ((next10, (actions11, (x30, (x31, ((IntKind.wrap .i64 (x32 + 1)), ()))))), ((h0.1, (h0.2.1, (v23, ((IntKind.wrap .u8 (h0.2.2.2.1 + 1)), (v22, h0.2.2.2.2.2))))), (h1, (h2, (h3, (h4, (h5, (h6, (h7, (h8, (h9, (h10, (h11, (h12, ((h13 ++ ([v24] : List tC)), ()))))))))))))))))
          else
           none
         else
          (X ((next10, (actions11, (x30, (x31, ((IntKind.wrap .i64 (x32 + 1)), ()))))), ((h0.1, (h0.2.1, (v23, ((IntKind.wrap .u8 (h0.2.2.2.1 + 1)), (v22, h0.2.2.2.2.2))))), (h1, (h2, (h3, (h4, (h5, (h6, (h7, (h8, (h9, (h10, (h11, (h12, (h13, ()))))))))))))))))
        else
         bif (decide (v21 = (10 : Int))) then
          Option.bind (retry_Retry_Sent N h0.2.2.1) fun v22 =>
          Option.bind (nego_Nego_opens N (h0.1, (h0.2.1, (v22, ((IntKind.wrap .u8 (h0.2.2.2.1 + 1)), h0.2.2.2.2)))) v21) fun v23 =>
          Option.bind (ctl_Lay N v23) fun v24 =>
          bif (decide (v24.2 = (0 : Int))) then
           bif (roomB ((List.length h13) + (List.length ([v23] : List tC))) 32) then
            (X ((next10, (actions11, (x30, (x31, ((IntKind.wrap .i64 (x32 + 1)), ()))))), ((h0.1, (h0.2.1, (v22, ((IntKind.wrap .u8 (h0.2.2.2.1 + 1)), h0.2.2.2.2)))), (h1, (h2, (h3, (h4, (h5, (h6, (h7, (h8, (h9, (h10, (h11, (h12, ((h13 ++ ([v23] : List tC)), ()))))))))))))))))
           else
            none
          else
           (X ((next10, (actions11, (x30, (x31, ((IntKind.wrap .i64 (x32 + 1)), ()))))), ((h0.1, (h0.2.1, (v22, ((IntKind.wrap .u8 (h0.2.2.2.1 + 1)), h0.2.2.2.2)))), (h1, (h2, (h3, (h4, (h5, (h6, (h7, (h8, (h9, (h10, (h11, (h12, (h13, ()))))))))))))))))
         else
          bif (decide (v21 = (12 : Int))) then
           Option.bind (ctl_Reject N (IntKind.wrap .u8 (h0.2.2.2.1 + 1)) h1 (1400 : Int)) fun v22 =>
           Option.bind (ctl_Lay N v22) fun v23 =>
           bif (decide (v23.2 = (0 : Int))) then
            bif (roomB ((List.length h13) + (List.length ([v22] : List tC))) 32) then
             (X ((next10, (actions11, (x30, (x31, ((IntKind.wrap .i64 (x32 + 1)), ()))))), ((h0.1, (h0.2.1, (h0.2.2.1, ((IntKind.wrap .u8 (h0.2.2.2.1 + 1)), h0.2.2.2.2)))), (h1, (h2, (h3, (h4, (h5, (h6, (h7, (h8, (h9, (h10, (h11, (h12, ((h13 ++ ([v22] : List tC)), ()))))))))))))))))
            else
             none
           else
            (X ((next10, (actions11, (x30, (x31, ((IntKind.wrap .i64 (x32 + 1)), ()))))), ((h0.1, (h0.2.1, (h0.2.2.1, ((IntKind.wrap .u8 (h0.2.2.2.1 + 1)), h0.2.2.2.2)))), (h1, (h2, (h3, (h4, (h5, (h6, (h7, (h8, (h9, (h10, (h11, (h12, (h13, ()))))))))))))))))
          else
           bif (decide (v21 = (8 : Int))) then
            bif (decide (v21 = (8 : Int))) then
             Option.bind (ctl_Lay N h2) fun v22 =>
             bif (decide (v22.2 = (0 : Int))) then
              bif (roomB ((List.length h13) + (List.length ([h2] : List tC))) 32) then
               (X ((next10, (actions11, (x30, (x31, ((IntKind.wrap .i64 (x32 + 1)), ()))))), (h0, (h1, (h2, (h3, (h4, (h5, (h6, (h7, (h8, (h9, (h10, (h11, (h12, ((h13 ++ ([h2] : List tC)), ()))))))))))))))))
              else
               none
             else
              (X ((next10, (actions11, (x30, (x31, ((IntKind.wrap .i64 (x32 + 1)), ()))))), (h0, (h1, (h2, (h3, (h4, (h5, (h6, (h7, (h8, (h9, (h10, (h11, (h12, (h13, ()))))))))))))))))
            else
             bif (decide (v21 = (11 : Int))) then
              Option.bind (ctl_Lay N ((6 : Int), (h1.2.1, ([] : List Int)))) fun v22 =>
              bif (decide (v22.2 = (0 : Int))) then
               bif (roomB ((List.length h13) + (List.length ([((6 : Int), (h1.2.1, ([] : List Int)))] : List tC))) 32) then
                (X ((next10, (actions11, (x30, (x31, ((IntKind.wrap .i64 (x32 + 1)), ()))))), (h0, (h1, (h2, (h3, (h4, (h5, (h6, (h7, (h8, (h9, (h10, (h11, (h12, ((h13 ++ ([((6 : Int), (h1.2.1, ([] : List Int)))] : List tC)), ()))))))))))))))))
               else
                none
              else
               (X ((next10, (actions11, (x30, (x31, ((IntKind.wrap .i64 (x32 + 1)), ()))))), (h0, (h1, (h2, (h3, (h4, (h5, (h6, (h7, (h8, (h9, (h10, (h11, (h12, (h13, ()))))))))))))))))
             else
              (X ((next10, (actions11, (x30, (x31, ((IntKind.wrap .i64 (x32 + 1)), ()))))), (h0, (h1, (h2, (h3, (h4, (h5, (h6, (h7, (h8, (h9, (h10, (h11, (h12, (h13, ()))))))))))))))))
           else
            bif (decide (v21 = (9 : Int))) then
             Option.bind (ctl_Lay N h2) fun v22 =>
             bif (decide (v22.2 = (0 : Int))) then
              bif (roomB ((List.length h13) + (List.length ([h2] : List tC))) 32) then
               (X ((next10, (actions11, (x30, (x31, ((IntKind.wrap .i64 (x32 + 1)), ()))))), (h0, (h1, (h2, (h3, (h4, (h5, (h6, (h7, (h8, (h9, (h10, (h11, (h12, ((h13 ++ ([h2] : List tC)), ()))))))))))))))))
              else
               none
             else
              (X ((next10, (actions11, (x30, (x31, ((IntKind.wrap .i64 (x32 + 1)), ()))))), (h0, (h1, (h2, (h3, (h4, (h5, (h6, (h7, (h8, (h9, (h10, (h11, (h12, (h13, ()))))))))))))))))
            else
             bif (decide (v21 = (11 : Int))) then
              Option.bind (ctl_Lay N ((6 : Int), (h1.2.1, ([] : List Int)))) fun v22 =>
              bif (decide (v22.2 = (0 : Int))) then
               bif (roomB ((List.length h13) + (List.length ([((6 : Int), (h1.2.1, ([] : List Int)))] : List tC))) 32) then
                (X ((next10, (actions11, (x30, (x31, ((IntKind.wrap .i64 (x32 + 1)), ()))))), (h0, (h1, (h2, (h3, (h4, (h5, (h6, (h7, (h8, (h9, (h10, (h11, (h12, ((h13 ++ ([((6 : Int), (h1.2.1, ([] : List Int)))] : List tC)), ()))))))))))))))))
               else
                none
              else
               (X ((next10, (actions11, (x30, (x31, ((IntKind.wrap .i64 (x32 + 1)), ()))))), (h0, (h1, (h2, (h3, (h4, (h5, (h6, (h7, (h8, (h9, (h10, (h11, (h12, (h13, ()))))))))))))))))
             else
              (X ((next10, (actions11, (x30, (x31, ((IntKind.wrap .i64 (x32 + 1)), ()))))), (h0, (h1, (h2, (h3, (h4, (h5, (h6, (h7, (h8, (h9, (h10, (h11, (h12, (h13, ()))))))))))))))))
 else
  some (((next10, ()), (h0, (h3, (h4, (h5, (h6, (h7, (h8, (h9, (h10, (h11, (h12, (h13, ()))))))))))))))
noncomputable def nNd_L7_R (c : ((Int × ((List Int) × ((List Int) × (Int × (Int × Unit))))) × (tN × (tC × (tC × (tN × (Bool × (Bool × (Bool × (Bool × (Bool × (Bool × (Bool × (Bool × ((List tC) × ((List tC) × Unit)))))))))))))))) : Option (((Int × Unit) × (tN × (tN × (Bool × (Bool × (Bool × (Bool × (Bool × (Bool × (Bool × (Bool × ((List tC) × ((List tC) × Unit)))))))))))))) := gl (fun X c => nNd_L7 N X c.1.1 c.1.2.1 c.1.2.2.1 c.1.2.2.2.1 c.1.2.2.2.2.1 c.2.1 c.2.2.1 c.2.2.2.1 c.2.2.2.2.1 c.2.2.2.2.2.1 c.2.2.2.2.2.2.1 c.2.2.2.2.2.2.2.1 c.2.2.2.2.2.2.2.2.1 c.2.2.2.2.2.2.2.2.2.1 c.2.2.2.2.2.2.2.2.2.2.1 c.2.2.2.2.2.2.2.2.2.2.2.1 c.2.2.2.2.2.2.2.2.2.2.2.2.1 c.2.2.2.2.2.2.2.2.2.2.2.2.2.1 c.2.2.2.2.2.2.2.2.2.2.2.2.2.2.1) N c
theorem nNd_L7_S (X : ((Int × ((List Int) × ((List Int) × (Int × (Int × Unit))))) × (tN × (tC × (tC × (tN × (Bool × (Bool × (Bool × (Bool × (Bool × (Bool × (Bool × (Bool × ((List tC) × ((List tC) × Unit))))))))))))))) → Option (((Int × Unit) × (tN × (tN × (Bool × (Bool × (Bool × (Bool × (Bool × (Bool × (Bool × (Bool × ((List tC) × ((List tC) × Unit))))))))))))))) (next10 : Int) (actions11 : List (Int)) (x30 : List (Int)) (x31 : Int) (x32 : Int) (h0 : tN) (h1 : tC) (h2 : tC) (h3 : tN) (h4 : Bool) (h5 : Bool) (h6 : Bool) (h7 : Bool) (h8 : Bool) (h9 : Bool) (h10 : Bool) (h11 : Bool) (h12 : List tC) (h13 : List tC) : (roundK Tryz.prog (Ev87 N) 400 [62] nNd_L7_I (loopAt Tryz.prog [62] 7) X ((next10, actions11, x30, x31, x32, ()), (h0, h1, h2, h3, h4, h5, h6, h7, h8, h9, h10, h11, h12, h13, ()))).run = nNd_L7 N X next10 actions11 x30 x31 x32 h0 h1 h2 h3 h4 h5 h6 h7 h8 h9 h10 h11 h12 h13 := by kernel_rfl
noncomputable def Ev88 : (R : Type) → Env R := Env.addLp (Ev87 N) [62] 0 7 (fun R => lpK Tryz.prog nNd_L7_I (fun X c => nNd_L7 N X c.1.1 c.1.2.1 c.1.2.2.1 c.1.2.2.2.1 c.1.2.2.2.2.1 c.2.1 c.2.2.1 c.2.2.2.1 c.2.2.2.2.1 c.2.2.2.2.2.1 c.2.2.2.2.2.2.1 c.2.2.2.2.2.2.2.1 c.2.2.2.2.2.2.2.2.1 c.2.2.2.2.2.2.2.2.2.1 c.2.2.2.2.2.2.2.2.2.2.1 c.2.2.2.2.2.2.2.2.2.2.2.1 c.2.2.2.2.2.2.2.2.2.2.2.2.1 c.2.2.2.2.2.2.2.2.2.2.2.2.2.1 c.2.2.2.2.2.2.2.2.2.2.2.2.2.2.1) N)
theorem Ev88_ok (R : Type) : EnvOK Tryz.prog (Ev88 N R) := EnvOK.addLp (Ev87_ok N R) (by kernel_rfl) (lpK_ok (li := nNd_L7_I) (G := fun X c => nNd_L7 N X c.1.1 c.1.2.1 c.1.2.2.1 c.1.2.2.2.1 c.1.2.2.2.2.1 c.2.1 c.2.2.1 c.2.2.2.1 c.2.2.2.2.1 c.2.2.2.2.2.1 c.2.2.2.2.2.2.1 c.2.2.2.2.2.2.2.1 c.2.2.2.2.2.2.2.2.1 c.2.2.2.2.2.2.2.2.2.1 c.2.2.2.2.2.2.2.2.2.2.1 c.2.2.2.2.2.2.2.2.2.2.2.1 c.2.2.2.2.2.2.2.2.2.2.2.2.1 c.2.2.2.2.2.2.2.2.2.2.2.2.2.1 c.2.2.2.2.2.2.2.2.2.2.2.2.2.2.1) hmx (Ev87_ok N _) (by kernel_rfl) lAs (fun (X : CT nNd_L7_I.sh → Option (OT nNd_L7_I.outs)) (c : CT nNd_L7_I.sh) => nNd_L7_S N X c.1.1 c.1.2.1 c.1.2.2.1 c.1.2.2.2.1 c.1.2.2.2.2.1 c.2.1 c.2.2.1 c.2.2.2.1 c.2.2.2.2.1 c.2.2.2.2.2.1 c.2.2.2.2.2.2.1 c.2.2.2.2.2.2.2.1 c.2.2.2.2.2.2.2.2.1 c.2.2.2.2.2.2.2.2.2.1 c.2.2.2.2.2.2.2.2.2.2.1 c.2.2.2.2.2.2.2.2.2.2.2.1 c.2.2.2.2.2.2.2.2.2.2.2.2.1 c.2.2.2.2.2.2.2.2.2.2.2.2.2.1 c.2.2.2.2.2.2.2.2.2.2.2.2.2.2.1) N)
noncomputable def nNd (n0 : tN) (e1 : Int) (came2 : tC) (answer3 : tC) : Option (tN × tU) :=
 Option.bind (fsm_Next N n0.2.1 e1) fun v5 =>
 bif (!(decide (v5.2.2 = (0 : Int)))) then
  some ((n0, (([] : List tC), (false, (false, (false, false))))))
 else
  Option.bind (nNd_L7_R N ((v5.1, (v5.2.1, (v5.2.1, ((((List.length v5.2.1) : Nat) : Int), ((0 : Int), ()))))), ((n0.1, (v5.1, n0.2.2)), (came2, (answer3, (((false, (((0 : Int), ((0 : Int), false)), (false, (false, ((0 : Int), ((0 : Int), ((0 : Int), false))))))), ((0 : Int), (((0 : Int), (0 : Int)), ((0 : Int), (([] : List (tP)), (([] : List (tP)), (0 : Int))))))), (false, (false, (false, (false, (false, (false, (false, (false, (([] : List tC), (([] : List tC), ())))))))))))))))) fun v6 =>
  Option.bind (fsm_Timed N v6.1.1) fun v7 =>
  bif (!v7) then
   some (((v6.2.1.1, (v6.2.1.2.1, ((v6.2.1.2.2.1.1, (0 : Int)), v6.2.1.2.2.2))), (((v6.2.2.2.2.2.2).snd.2.2.2).snd.2.1, ((v6.2.2.2.2.2.2).snd.1, ((v6.2.2.2.2.2.2).snd.2.1, ((v6.2.2.2.2.2.2).snd.2.2.1, (v6.2.2.2.2.2.2).snd.2.2.2.1))))))
  else
   some ((v6.2.1, (((v6.2.2.2.2.2.2).snd.2.2.2).snd.2.1, ((v6.2.2.2.2.2.2).snd.1, ((v6.2.2.2.2.2.2).snd.2.1, ((v6.2.2.2.2.2.2).snd.2.2.1, (v6.2.2.2.2.2.2).snd.2.2.2.1))))))
theorem nNd_S (n0 : tN) (e1 : Int) (came2 : tC) (answer3 : tC) : (runK Tryz.prog (Ev88 N) 400 62 [dN, (.int .i64), dC, dC] [dN, dU] (n0, e1, came2, answer3, ())).run = nNd N n0 e1 came2 answer3 := by kernel_rfl
noncomputable def Ev89 : (R : Type) → Env R := Env.addFn (Ev88 N) 62 (fun R => fnK [dN, (.int .i64), dC, dC] [dN, dU] (fun c => nNd N c.1 c.2.1 c.2.2.1 c.2.2.2.1))
theorem Ev89_ok (R : Type) : EnvOK Tryz.prog (Ev89 N R) := EnvOK.addFn hmx (Ev88_ok N R) (Ev88_ok N _) (by kernel_rfl) (fun c => nNd_S N c.1 c.2.1 c.2.2.1 c.2.2.2.1)
noncomputable def Ev90 : (R : Type) → Env R := Env.addBx (Ev89 N) [(63, 0)]
theorem Ev90_ok (R : Type) : EnvOK Tryz.prog (Ev90 N R) := EnvOK.addBx (Ev89_ok N R) [(63, 0)]
noncomputable def nego_Nego_event (N : Nat) (n0 : tN) (c1 : tC) : Option Int :=
 bif (decide (c1.1 = (5 : Int))) then
  some ((10 : Int))
 else
  bif (decide (c1.1 = (6 : Int))) then
   some ((11 : Int))
  else
   bif (decide (c1.1 = (7 : Int))) then
    Option.bind (bif (decide ((0 : Int) < (((List.length c1.2.2) : Nat) : Int))) then
      Option.bind (getI c1.2.2 (0 : Int)) fun (v3 : Int) =>
      some ((cond true (decide ((1 : Int) ≤ v3)) false))
     else
      some (false)) fun (v3 : Bool) =>
    Option.bind (bif v3 then
      Option.bind (getI c1.2.2 (0 : Int)) fun (v4 : Int) =>
      some ((cond true (decide (v4 ≤ (7 : Int))) false))
     else
      some (false)) fun (v4 : Bool) =>
    bif v4 then
     some ((14 : Int))
    else
     some ((13 : Int))
   else
    bif (decide (c1.1 = (8 : Int))) then
     bif (!n0.1.1) then
      some ((13 : Int))
     else
      some ((12 : Int))
    else
     bif (decide (c1.1 = (9 : Int))) then
      bif (decide (c1.1 = (9 : Int))) then
       bif (!n0.1.1) then
        some ((15 : Int))
       else
        some ((12 : Int))
      else
       some ((12 : Int))
     else
      bif (decide (c1.1 = (10 : Int))) then
       bif (decide (c1.1 = (10 : Int))) then
        bif (!n0.1.1) then
         some ((15 : Int))
        else
         some ((12 : Int))
       else
        some ((12 : Int))
      else
       bif (decide (c1.1 = (11 : Int))) then
        bif (!n0.1.1) then
         some ((15 : Int))
        else
         some ((12 : Int))
       else
        some ((12 : Int))
theorem nego_Nego_event_S (n0 : tN) (c1 : tC) : (runK Tryz.prog (Ev90 N) 400 63 [dN, dC] [(.int .i64)] (n0, c1, ())).run = nego_Nego_event N n0 c1 := by kernel_rfl
noncomputable def Ev91 : (R : Type) → Env R := Env.addFn (Ev90 N) 63 (fun R => fnK [dN, dC] [(.int .i64)] (fun c => nego_Nego_event N c.1 c.2.1))
theorem Ev91_ok (R : Type) : EnvOK Tryz.prog (Ev91 N R) := EnvOK.addFn hmx (Ev90_ok N R) (Ev90_ok N _) (by kernel_rfl) (fun c => nego_Nego_event_S N c.1 c.2.1)
noncomputable def Ev92 : (R : Type) → Env R := Env.addBx (Ev91 N) [(86, 0)]
theorem Ev92_ok (R : Type) : EnvOK Tryz.prog (Ev92 N R) := EnvOK.addBx (Ev91_ok N R) [(86, 0)]
noncomputable def nNj (n0 : tN) (l1 : tO) : Option (Int × tO) :=
 bif n0.1.1 then
  Option.bind (ipcpo_Judge N n0.1.2.2.2 l1) fun v3 =>
  some (v3)
 else
  none
theorem nNj_S (n0 : tN) (l1 : tO) : (runK Tryz.prog (Ev92 N) 400 86 [dN, dO] [(.int .u8), dO] (n0, l1, ())).run = nNj N n0 l1 := by kernel_rfl
noncomputable def Ev93 : (R : Type) → Env R := Env.addFn (Ev92 N) 86 (fun R => fnK [dN, dO] [(.int .u8), dO] (fun c => nNj N c.1 c.2.1))
theorem Ev93_ok (R : Type) : EnvOK Tryz.prog (Ev93 N R) := EnvOK.addFn hmx (Ev92_ok N R) (Ev92_ok N _) (by kernel_rfl) (fun c => nNj_S N c.1 c.2.1)
noncomputable def nNJ (n0 : tN) (c1 : tC) : Option (tN × tU) :=
 Option.bind (ctl_Options N c1) fun v3 =>
 bif (!(decide (v3.2 = (0 : Int)))) then
  some ((n0, (([] : List tC), (false, (false, (false, false))))))
 else
  Option.bind (nNj N n0 v3.1) fun v4 =>
  bif (decide (v4.1 = (2 : Int))) then
   Option.bind (ctl_Conf N v4.1 c1.2.1 v4.2) fun v5 =>
   Option.bind (nNd N (n0.1, (n0.2.1, (n0.2.2.1, (n0.2.2.2.1, (n0.2.2.2.2.1, (v3.1, n0.2.2.2.2.2.2)))))) (6 : Int) c1 v5.1) fun v6 =>
   some (v6)
  else
   bif (decide (v4.1 = (3 : Int))) then
    bif (decide ((5 : Int) < (IntKind.wrap .i64 (n0.2.2.2.2.2.2 + 1)))) then
     Option.bind (opts_Kinds N v4.2) fun v5 =>
     Option.bind (nego_of N v3.1 v5) fun v6 =>
     Option.bind (ctl_Conf N (4 : Int) c1.2.1 v6) fun v7 =>
     Option.bind (nNd N (n0.1, (n0.2.1, (n0.2.2.1, (n0.2.2.2.1, (n0.2.2.2.2.1, (n0.2.2.2.2.2.1, (IntKind.wrap .i64 (n0.2.2.2.2.2.2 + 1)))))))) (7 : Int) c1 v7.1) fun v8 =>
     some (v8)
    else
     Option.bind (ctl_Conf N v4.1 c1.2.1 v4.2) fun v5 =>
     Option.bind (nNd N (n0.1, (n0.2.1, (n0.2.2.1, (n0.2.2.2.1, (n0.2.2.2.2.1, (n0.2.2.2.2.2.1, (IntKind.wrap .i64 (n0.2.2.2.2.2.2 + 1)))))))) (7 : Int) c1 v5.1) fun v6 =>
     some (v6)
   else
    Option.bind (ctl_Conf N v4.1 c1.2.1 v4.2) fun v5 =>
    Option.bind (nNd N n0 (7 : Int) c1 v5.1) fun v6 =>
    some (v6)
theorem nNJ_S (n0 : tN) (c1 : tC) : (runK Tryz.prog (Ev93 N) 400 59 [dN, dC] [dN, dU] (n0, c1, ())).run = nNJ N n0 c1 := by kernel_rfl
noncomputable def Ev94 : (R : Type) → Env R := Env.addFn (Ev93 N) 59 (fun R => fnK [dN, dC] [dN, dU] (fun c => nNJ N c.1 c.2.1))
theorem Ev94_ok (R : Type) : EnvOK Tryz.prog (Ev94 N R) := EnvOK.addFn hmx (Ev93_ok N R) (Ev93_ok N _) (by kernel_rfl) (fun c => nNJ_S N c.1 c.2.1)
noncomputable def nNg (n0 : tN) (c1 : tC) : Option (tN × tU) :=
 Option.bind (ctl_Options N c1) fun v3 =>
 Option.bind (bif (!(decide (v3.2 = (0 : Int)))) then
   some (true)
  else
   some ((cond false true (!(decide (c1.2.1 = n0.2.2.2.1)))))) fun (v4 : Bool) =>
 bif v4 then
  some ((n0, (([] : List tC), (false, (false, (false, false))))))
 else
  Option.bind (opts_Same N v3.1 n0.2.2.2.2.1) fun v5 =>
  Option.bind (some ((cond false true (!v5)))) fun (v6 : Bool) =>
  bif v6 then
   some ((n0, (([] : List tC), (false, (false, (false, false))))))
  else
   Option.bind (nNd N (n0.1, (n0.2.1, (n0.2.2.1, (n0.2.2.2.1, (n0.2.2.2.2.1, (n0.2.2.2.2.2.1, (0 : Int))))))) (8 : Int) c1 ((0 : Int), ((0 : Int), ([] : List Int)))) fun v7 =>
   some (v7)
theorem nNg_S (n0 : tN) (c1 : tC) : (runK Tryz.prog (Ev94 N) 400 60 [dN, dC] [dN, dU] (n0, c1, ())).run = nNg N n0 c1 := by kernel_rfl
noncomputable def Ev95 : (R : Type) → Env R := Env.addFn (Ev94 N) 60 (fun R => fnK [dN, dC] [dN, dU] (fun c => nNg N c.1 c.2.1))
theorem Ev95_ok (R : Type) : EnvOK Tryz.prog (Ev95 N R) := EnvOK.addFn hmx (Ev94_ok N R) (Ev94_ok N _) (by kernel_rfl) (fun c => nNg_S N c.1 c.2.1)
noncomputable def nRt (r0 : tR) (code1 : Int) (l2 : tO) : Option (tR × Bool) :=
 Option.bind (bif (decide (code1 = (3 : Int))) then
   some ((cond true r0.1 false))
  else
   some (false)) fun (v4 : Bool) =>
 bif v4 then
  Option.bind (ipcpo_Naked N r0.2.2.2 l2) fun v5 =>
  some (((r0.1, (r0.2.1, (r0.2.2.1, v5))), true))
 else
  bif (decide (code1 = (3 : Int))) then
   none
  else
   bif r0.1 then
    Option.bind (ipcpo_Rejected N r0.2.2.2 l2) fun v5 =>
    some (((r0.1, (r0.2.1, (r0.2.2.1, v5.1))), v5.2))
   else
    none
theorem nRt_S (r0 : tR) (code1 : Int) (l2 : tO) : (runK Tryz.prog (Ev95 N) 400 92 [dR, (.int .u8), dO] [dR, .bool] (r0, code1, l2, ())).run = nRt N r0 code1 l2 := by kernel_rfl
noncomputable def Ev96 : (R : Type) → Env R := Env.addFn (Ev95 N) 92 (fun R => fnK [dR, (.int .u8), dO] [dR, .bool] (fun c => nRt N c.1 c.2.1 c.2.2.1))
theorem Ev96_ok (R : Type) : EnvOK Tryz.prog (Ev96 N R) := EnvOK.addFn hmx (Ev95_ok N R) (Ev95_ok N _) (by kernel_rfl) (fun c => nRt_S N c.1 c.2.1 c.2.2.1)
noncomputable def nNr (n0 : tN) (c1 : tC) : Option (tN × tU) :=
 Option.bind (ctl_Options N c1) fun v3 =>
 Option.bind (bif (!(decide (v3.2 = (0 : Int)))) then
   some (true)
  else
   some ((cond false true (!(decide (c1.2.1 = n0.2.2.2.1)))))) fun (v4 : Bool) =>
 bif v4 then
  some ((n0, (([] : List tC), (false, (false, (false, false))))))
 else
  Option.bind (some ((cond false true (decide ((((List.length v3.1) : Nat) : Int) = (0 : Int)))))) fun (v5 : Bool) =>
  bif v5 then
   some ((n0, (([] : List tC), (false, (false, (false, false))))))
  else
   bif (decide (c1.1 = (4 : Int))) then
    Option.bind (opts_Among N v3.1 n0.2.2.2.2.1) fun v6 =>
    Option.bind (some ((cond true (!v6) false))) fun (v7 : Bool) =>
    bif v7 then
     some ((n0, (([] : List tC), (false, (false, (false, false))))))
    else
     Option.bind (nRt N n0.1 c1.1 v3.1) fun v8 =>
     bif (!v8.2) then
      Option.bind (nNd N (v8.1, n0.2) (14 : Int) c1 ((0 : Int), ((0 : Int), ([] : List Int)))) fun v9 =>
      some (v9)
     else
      Option.bind (nNd N (v8.1, n0.2) (9 : Int) c1 ((0 : Int), ((0 : Int), ([] : List Int)))) fun v9 =>
      some (v9)
   else
    Option.bind (nRt N n0.1 c1.1 v3.1) fun v6 =>
    bif (!v6.2) then
     Option.bind (nNd N (v6.1, n0.2) (14 : Int) c1 ((0 : Int), ((0 : Int), ([] : List Int)))) fun v7 =>
     some (v7)
    else
     Option.bind (nNd N (v6.1, n0.2) (9 : Int) c1 ((0 : Int), ((0 : Int), ([] : List Int)))) fun v7 =>
     some (v7)
theorem nNr_S (n0 : tN) (c1 : tC) : (runK Tryz.prog (Ev96 N) 400 61 [dN, dC] [dN, dU] (n0, c1, ())).run = nNr N n0 c1 := by kernel_rfl
noncomputable def Ev97 : (R : Type) → Env R := Env.addFn (Ev96 N) 61 (fun R => fnK [dN, dC] [dN, dU] (fun c => nNr N c.1 c.2.1))
theorem Ev97_ok (R : Type) : EnvOK Tryz.prog (Ev97 N R) := EnvOK.addFn hmx (Ev96_ok N R) (Ev96_ok N _) (by kernel_rfl) (fun c => nNr_S N c.1 c.2.1)
noncomputable def Ev98 : (R : Type) → Env R := Env.addBx (Ev97 N) [(44, 0)]
theorem Ev98_ok (R : Type) : EnvOK Tryz.prog (Ev98 N R) := EnvOK.addBx (Ev97_ok N R) [(44, 0)]
noncomputable def nego_Nego_Do (n0 : tN) (e1 : Int) : Option (tN × tU) :=
 bif (decide (e1 = (0 : Int))) then
  bif (decide (e1 = (0 : Int))) then
   Option.bind (nNd N n0 e1 ((0 : Int), ((0 : Int), ([] : List Int))) ((0 : Int), ((0 : Int), ([] : List Int)))) fun v3 =>
   some (v3)
  else
   some ((n0, (([] : List tC), (false, (false, (false, false))))))
 else
  bif (decide (e1 = (1 : Int))) then
   bif (decide (e1 = (1 : Int))) then
    Option.bind (nNd N n0 e1 ((0 : Int), ((0 : Int), ([] : List Int))) ((0 : Int), ((0 : Int), ([] : List Int)))) fun v3 =>
    some (v3)
   else
    some ((n0, (([] : List tC), (false, (false, (false, false))))))
  else
   bif (decide (e1 = (2 : Int))) then
    bif (decide (e1 = (2 : Int))) then
     Option.bind (nNd N n0 e1 ((0 : Int), ((0 : Int), ([] : List Int))) ((0 : Int), ((0 : Int), ([] : List Int)))) fun v3 =>
     some (v3)
    else
     some ((n0, (([] : List tC), (false, (false, (false, false))))))
   else
    bif (decide (e1 = (3 : Int))) then
     Option.bind (nNd N n0 e1 ((0 : Int), ((0 : Int), ([] : List Int))) ((0 : Int), ((0 : Int), ([] : List Int)))) fun v3 =>
     some (v3)
    else
     some ((n0, (([] : List tC), (false, (false, (false, false))))))
theorem nego_Nego_Do_S (n0 : tN) (e1 : Int) : (runK Tryz.prog (Ev98 N) 400 44 [dN, (.int .i64)] [dN, dU] (n0, e1, ())).run = nego_Nego_Do N n0 e1 := by kernel_rfl
noncomputable def Ev99 : (R : Type) → Env R := Env.addFn (Ev98 N) 44 (fun R => fnK [dN, (.int .i64)] [dN, dU] (fun c => nego_Nego_Do N c.1 c.2.1))
theorem Ev99_ok (R : Type) : EnvOK Tryz.prog (Ev99 N R) := EnvOK.addFn hmx (Ev98_ok N R) (Ev98_ok N _) (by kernel_rfl) (fun c => nego_Nego_Do_S N c.1 c.2.1)
noncomputable def nego_Nego_Tick (n0 : tN) : Option (tN × tU) :=
 Option.bind (retry_Retry_Tick N n0.2.2.1) fun v2 =>
 bif (!v2.2) then
  some (((n0.1, (n0.2.1, (v2.1, n0.2.2.2))), (([] : List tC), (false, (false, (false, false))))))
 else
  bif (decide ((0 : Int) < v2.1.1)) then
   Option.bind (nNd N (n0.1, (n0.2.1, (v2.1, n0.2.2.2))) (4 : Int) ((0 : Int), ((0 : Int), ([] : List Int))) ((0 : Int), ((0 : Int), ([] : List Int)))) fun v3 =>
   some (v3)
  else
   Option.bind (nNd N (n0.1, (n0.2.1, (v2.1, n0.2.2.2))) (5 : Int) ((0 : Int), ((0 : Int), ([] : List Int))) ((0 : Int), ((0 : Int), ([] : List Int)))) fun v3 =>
   some (v3)
theorem nego_Nego_Tick_S (n0 : tN) : (runK Tryz.prog (Ev99 N) 400 36 [dN] [dN, dU] (n0, ())).run = nego_Nego_Tick N n0 := by kernel_rfl
noncomputable def Ev100 : (R : Type) → Env R := Env.addFn (Ev99 N) 36 (fun R => fnK [dN] [dN, dU] (fun c => nego_Nego_Tick N c.1))
theorem Ev100_ok (R : Type) : EnvOK Tryz.prog (Ev100 N R) := EnvOK.addFn hmx (Ev99_ok N R) (Ev99_ok N _) (by kernel_rfl) (fun c => nego_Nego_Tick_S N c.1)
noncomputable def Ev101 : (R : Type) → Env R := Env.addBx (Ev100 N) [(32, 0)]
theorem Ev101_ok (R : Type) : EnvOK Tryz.prog (Ev101 N R) := EnvOK.addBx (Ev100_ok N R) [(32, 0)]
noncomputable def nego_Nego_Take (n0 : tN) (c1 : tC) : Option (tN × tU) :=
 bif (decide (c1.1 = (1 : Int))) then
  Option.bind (nNJ N n0 c1) fun v3 =>
  some (v3)
 else
  bif (decide (c1.1 = (2 : Int))) then
   Option.bind (nNg N n0 c1) fun v3 =>
   some (v3)
  else
   bif (decide (c1.1 = (3 : Int))) then
    bif (decide (c1.1 = (3 : Int))) then
     Option.bind (nNr N n0 c1) fun v3 =>
     some (v3)
    else
     Option.bind (nego_Nego_event N n0 c1) fun v3 =>
     Option.bind (nNd N n0 v3 c1 ((0 : Int), ((0 : Int), ([] : List Int)))) fun v4 =>
     some (v4)
   else
    bif (decide (c1.1 = (4 : Int))) then
     Option.bind (nNr N n0 c1) fun v3 =>
     some (v3)
    else
     Option.bind (nego_Nego_event N n0 c1) fun v3 =>
     Option.bind (nNd N n0 v3 c1 ((0 : Int), ((0 : Int), ([] : List Int)))) fun v4 =>
     some (v4)
theorem nego_Nego_Take_S (n0 : tN) (c1 : tC) : (runK Tryz.prog (Ev101 N) 400 32 [dN, dC] [dN, dU] (n0, c1, ())).run = nego_Nego_Take N n0 c1 := by kernel_rfl
noncomputable def Ev102 : (R : Type) → Env R := Env.addFn (Ev101 N) 32 (fun R => fnK [dN, dC] [dN, dU] (fun c => nego_Nego_Take N c.1 c.2.1))
theorem Ev102_ok (R : Type) : EnvOK Tryz.prog (Ev102 N R) := EnvOK.addFn hmx (Ev101_ok N R) (Ev101_ok N _) (by kernel_rfl) (fun c => nego_Nego_Take_S N c.1 c.2.1)
noncomputable def Ev103 : (R : Type) → Env R := Env.addBx (Ev102 N) [(50, 0)]
theorem Ev103_ok (R : Type) : EnvOK Tryz.prog (Ev103 N R) := EnvOK.addBx (Ev102_ok N R) [(50, 0)]
noncomputable def nego_Nego_State (N : Nat) (n0 : tN) : Option Int :=
 some (n0.2.1)
theorem nego_Nego_State_S (n0 : tN) : (runK Tryz.prog (Ev103 N) 400 50 [dN] [(.int .i64)] (n0, ())).run = nego_Nego_State N n0 := by kernel_rfl
noncomputable def Ev104 : (R : Type) → Env R := Env.addFn (Ev103 N) 50 (fun R => fnK [dN] [(.int .i64)] (fun c => nego_Nego_State N c.1))
theorem Ev104_ok (R : Type) : EnvOK Tryz.prog (Ev104 N R) := EnvOK.addFn hmx (Ev103_ok N R) (Ev103_ok N _) (by kernel_rfl) (fun c => nego_Nego_State_S N c.1)
noncomputable def Ev105 : (R : Type) → Env R := Env.addBx (Ev104 N) [(37, 0)]
theorem Ev105_ok (R : Type) : EnvOK Tryz.prog (Ev105 N R) := EnvOK.addBx (Ev104_ok N R) [(37, 0)]
noncomputable def nego_New (N : Nat) (r0 : tR) : Option tN :=
 some ((r0, ((0 : Int), (((0 : Int), (0 : Int)), ((0 : Int), (([] : List (tP)), (([] : List (tP)), (0 : Int))))))))
theorem nego_New_S (r0 : tR) : (runK Tryz.prog (Ev105 N) 400 37 [dR] [dN] (r0, ())).run = nego_New N r0 := by kernel_rfl
noncomputable def Ev106 : (R : Type) → Env R := Env.addFn (Ev105 N) 37 (fun R => fnK [dR] [dN] (fun c => nego_New N c.1))
theorem Ev106_ok (R : Type) : EnvOK Tryz.prog (Ev106 N R) := EnvOK.addFn hmx (Ev105_ok N R) (Ev105_ok N _) (by kernel_rfl) (fun c => nego_New_S N c.1)
noncomputable def Ev107 : (R : Type) → Env R := Env.addMv (Ev106 N) [(52, 5)]
theorem Ev107_ok (R : Type) : EnvOK Tryz.prog (Ev107 N R) := EnvOK.addMv (Ev106_ok N R) [(52, 5)]
noncomputable def Ev108 : (R : Type) → Env R := Env.addBx (Ev107 N) [(52, 0)]
theorem Ev108_ok (R : Type) : EnvOK Tryz.prog (Ev108 N R) := EnvOK.addBx (Ev107_ok N R) [(52, 0)]
noncomputable def nNA_L3_I : LI := ⟨24, 0, [(3, 127)], ⟨[(3, .lit (.own 0)), (7, .ty dO), (8, .ty (.int .i64)), (9, .ty (.int .i64))], [.own (.pair (.int .u8) (.sl (.int .u8))) 127]⟩, [(.exit 0, ⟨[(3, .lit (.own 0))], [.own (.pair (.int .u8) (.sl (.int .u8))) 127]⟩)]⟩
noncomputable def nNA_L3 (X : ((tO × (Int × (Int × Unit))) × (tO × Unit)) → Option ((Unit × (tO × Unit)))) (x7 : tO) (x8 : Int) (x9 : Int) (h0 : tO) : Option ((Unit × (tO × Unit))) :=
 bif (decide (x9 < x8)) then
  Option.bind (getI x7 x9) fun (v6 : tP) =>
  Option.bind (sLB N v6.2) fun v7 =>
  bif (roomB ((List.length h0) + (List.length ([(v6.1, v7)] : List (tP)))) 32) then
   (X ((x7, (x8, ((IntKind.wrap .i64 (x9 + 1)), ()))), ((h0 ++ ([(v6.1, v7)] : List (tP))), ())))
  else
   none
 else
  some (((), (h0, ())))
noncomputable def nNA_L3_R (c : ((tO × (Int × (Int × Unit))) × (tO × Unit))) : Option ((Unit × (tO × Unit))) := gl (fun X c => nNA_L3 N X c.1.1 c.1.2.1 c.1.2.2.1 c.2.1) N c
theorem nNA_L3_S (X : ((tO × (Int × (Int × Unit))) × (tO × Unit)) → Option ((Unit × (tO × Unit)))) (x7 : tO) (x8 : Int) (x9 : Int) (h0 : tO) : (roundK Tryz.prog (Ev108 N) 400 [52] nNA_L3_I (loopAt Tryz.prog [52] 3) X ((x7, x8, x9, ()), (h0, ()))).run = nNA_L3 N X x7 x8 x9 h0 := by kernel_rfl
noncomputable def Ev109 : (R : Type) → Env R := Env.addLp (Ev108 N) [52] 0 3 (fun R => lpK Tryz.prog nNA_L3_I (fun X c => nNA_L3 N X c.1.1 c.1.2.1 c.1.2.2.1 c.2.1) N)
theorem Ev109_ok (R : Type) : EnvOK Tryz.prog (Ev109 N R) := EnvOK.addLp (Ev108_ok N R) (by kernel_rfl) (lpK_ok (li := nNA_L3_I) (G := fun X c => nNA_L3 N X c.1.1 c.1.2.1 c.1.2.2.1 c.2.1) hmx (Ev108_ok N _) (by kernel_rfl) lAs (fun (X : CT nNA_L3_I.sh → Option (OT nNA_L3_I.outs)) (c : CT nNA_L3_I.sh) => nNA_L3_S N X c.1.1 c.1.2.1 c.1.2.2.1 c.2.1) N)
noncomputable def nNA (n0 : tN) : Option tO :=
 Option.bind (nNA_L3_R N ((n0.2.2.2.2.2.1, ((((List.length n0.2.2.2.2.2.1) : Nat) : Int), ((0 : Int), ()))), (([] : List (tP)), ()))) fun v2 =>
 some (v2.2.1)
theorem nNA_S (n0 : tN) : (runK Tryz.prog (Ev109 N) 400 52 [dN] [dO] (n0, ())).run = nNA N n0 := by kernel_rfl
noncomputable def Ev110 : (R : Type) → Env R := Env.addFn (Ev109 N) 52 (fun R => fnK [dN] [dO] (fun c => nNA N c.1))
theorem Ev110_ok (R : Type) : EnvOK Tryz.prog (Ev110 N R) := EnvOK.addFn hmx (Ev109_ok N R) (Ev109_ok N _) (by kernel_rfl) (fun c => nNA_S N c.1)
noncomputable def Ev111 : (R : Type) → Env R := Env.addBx (Ev110 N) [(51, 0)]
theorem Ev111_ok (R : Type) : EnvOK Tryz.prog (Ev111 N R) := EnvOK.addBx (Ev110_ok N R) [(51, 0)]
noncomputable def nego_Nego_Rules (N : Nat) (n0 : tN) : Option tR :=
 some (n0.1)
theorem nego_Nego_Rules_S (n0 : tN) : (runK Tryz.prog (Ev111 N) 400 51 [dN] [dR] (n0, ())).run = nego_Nego_Rules N n0 := by kernel_rfl
noncomputable def Ev112 : (R : Type) → Env R := Env.addFn (Ev111 N) 51 (fun R => fnK [dN] [dR] (fun c => nego_Nego_Rules N c.1))
theorem Ev112_ok (R : Type) : EnvOK Tryz.prog (Ev112 N R) := EnvOK.addFn hmx (Ev111_ok N R) (Ev111_ok N _) (by kernel_rfl) (fun c => nego_Nego_Rules_S N c.1)
noncomputable def Ev113 : (R : Type) → Env R := Env.addBx (Ev112 N) [(10, 0)]
theorem Ev113_ok (R : Type) : EnvOK Tryz.prog (Ev113 N R) := EnvOK.addBx (Ev112_ok N R) [(10, 0)]
noncomputable def ipcp_New (N : Nat) (s0 : Bool × (Int × (Int × (Int × (Bool))))) : Option tN :=
 some (((true, (((0 : Int), ((0 : Int), false)), (false, s0))), ((0 : Int), (((0 : Int), (0 : Int)), ((0 : Int), (([] : List (tP)), (([] : List (tP)), (0 : Int))))))))
theorem ipcp_New_S (s0 : Bool × (Int × (Int × (Int × (Bool))))) : (runK Tryz.prog (Ev113 N) 400 10 [dS] [dN] (s0, ())).run = ipcp_New N s0 := by kernel_rfl
noncomputable def Ev114 : (R : Type) → Env R := Env.addFn (Ev113 N) 10 (fun R => fnK [dS] [dN] (fun c => ipcp_New N c.1))
theorem Ev114_ok (R : Type) : EnvOK Tryz.prog (Ev114 N R) := EnvOK.addFn hmx (Ev113_ok N R) (Ev113_ok N _) (by kernel_rfl) (fun c => ipcp_New_S N c.1)
noncomputable def Ev115 : (R : Type) → Env R := Env.addBx (Ev114 N) [(14, 0)]
theorem Ev115_ok (R : Type) : EnvOK Tryz.prog (Ev115 N R) := EnvOK.addBx (Ev114_ok N R) [(14, 0)]
noncomputable def ipcp_End_Do (x0 : tN) (e1 : Int) : Option (tN × tU) :=
 Option.bind (nego_Nego_Do N x0 e1) fun v3 =>
 some (v3)
theorem ipcp_End_Do_S (x0 : tN) (e1 : Int) : (runK Tryz.prog (Ev115 N) 400 14 [dN, (.int .i64)] [dN, dU] (x0, e1, ())).run = ipcp_End_Do N x0 e1 := by kernel_rfl
noncomputable def Ev116 : (R : Type) → Env R := Env.addFn (Ev115 N) 14 (fun R => fnK [dN, (.int .i64)] [dN, dU] (fun c => ipcp_End_Do N c.1 c.2.1))
theorem Ev116_ok (R : Type) : EnvOK Tryz.prog (Ev116 N R) := EnvOK.addFn hmx (Ev115_ok N R) (Ev115_ok N _) (by kernel_rfl) (fun c => ipcp_End_Do_S N c.1 c.2.1)
noncomputable def Ev117 : (R : Type) → Env R := Env.addBx (Ev116 N) [(16, 0)]
theorem Ev117_ok (R : Type) : EnvOK Tryz.prog (Ev117 N R) := EnvOK.addBx (Ev116_ok N R) [(16, 0)]
noncomputable def ipcp_End_Tick (x0 : tN) : Option (tN × tU) :=
 Option.bind (nego_Nego_Tick N x0) fun v2 =>
 some (v2)
theorem ipcp_End_Tick_S (x0 : tN) : (runK Tryz.prog (Ev117 N) 400 16 [dN] [dN, dU] (x0, ())).run = ipcp_End_Tick N x0 := by kernel_rfl
noncomputable def Ev118 : (R : Type) → Env R := Env.addFn (Ev117 N) 16 (fun R => fnK [dN] [dN, dU] (fun c => ipcp_End_Tick N c.1))
theorem Ev118_ok (R : Type) : EnvOK Tryz.prog (Ev118 N R) := EnvOK.addFn hmx (Ev117_ok N R) (Ev117_ok N _) (by kernel_rfl) (fun c => ipcp_End_Tick_S N c.1)
noncomputable def Ev119 : (R : Type) → Env R := Env.addBx (Ev118 N) [(18, 0)]
theorem Ev119_ok (R : Type) : EnvOK Tryz.prog (Ev119 N R) := EnvOK.addBx (Ev118_ok N R) [(18, 0)]
noncomputable def ipcp_End_Take (x0 : tN) (c1 : tC) : Option (tN × tU) :=
 Option.bind (nego_Nego_Take N x0 c1) fun v3 =>
 some (v3)
theorem ipcp_End_Take_S (x0 : tN) (c1 : tC) : (runK Tryz.prog (Ev119 N) 400 18 [dN, dC] [dN, dU] (x0, c1, ())).run = ipcp_End_Take N x0 c1 := by kernel_rfl
noncomputable def Ev120 : (R : Type) → Env R := Env.addFn (Ev119 N) 18 (fun R => fnK [dN, dC] [dN, dU] (fun c => ipcp_End_Take N c.1 c.2.1))
theorem Ev120_ok (R : Type) : EnvOK Tryz.prog (Ev120 N R) := EnvOK.addFn hmx (Ev119_ok N R) (Ev119_ok N _) (by kernel_rfl) (fun c => ipcp_End_Take_S N c.1 c.2.1)
noncomputable def Ev121 : (R : Type) → Env R := Env.addBx (Ev120 N) [(22, 0)]
theorem Ev121_ok (R : Type) : EnvOK Tryz.prog (Ev121 N R) := EnvOK.addBx (Ev120_ok N R) [(22, 0)]
noncomputable def ipcp_End_Open (N : Nat) (x0 : tN) : Option Bool :=
 some ((decide (x0.2.1 = (9 : Int))))
theorem ipcp_End_Open_S (x0 : tN) : (runK Tryz.prog (Ev121 N) 400 22 [dN] [.bool] (x0, ())).run = ipcp_End_Open N x0 := by kernel_rfl
noncomputable def Ev122 : (R : Type) → Env R := Env.addFn (Ev121 N) 22 (fun R => fnK [dN] [.bool] (fun c => ipcp_End_Open N c.1))
theorem Ev122_ok (R : Type) : EnvOK Tryz.prog (Ev122 N R) := EnvOK.addFn hmx (Ev121_ok N R) (Ev121_ok N _) (by kernel_rfl) (fun c => ipcp_End_Open_S N c.1)
noncomputable def Ev123 : (R : Type) → Env R := Env.addBx (Ev122 N) [(23, 0)]
theorem Ev123_ok (R : Type) : EnvOK Tryz.prog (Ev123 N R) := EnvOK.addBx (Ev122_ok N R) [(23, 0)]
noncomputable def ipcp_End_Side (N : Nat) (x0 : tN) : Option (Bool × (Int × (Int × (Int × (Bool))))) :=
 some (x0.1.2.2.2)
theorem ipcp_End_Side_S (x0 : tN) : (runK Tryz.prog (Ev123 N) 400 23 [dN] [dS] (x0, ())).run = ipcp_End_Side N x0 := by kernel_rfl
noncomputable def Ev124 : (R : Type) → Env R := Env.addFn (Ev123 N) 23 (fun R => fnK [dN] [dS] (fun c => ipcp_End_Side N c.1))
theorem Ev124_ok (R : Type) : EnvOK Tryz.prog (Ev124 N R) := EnvOK.addFn hmx (Ev123_ok N R) (Ev123_ok N _) (by kernel_rfl) (fun c => ipcp_End_Side_S N c.1)
noncomputable def Ev125 : (R : Type) → Env R := Env.addBx (Ev124 N) [(24, 0)]
theorem Ev125_ok (R : Type) : EnvOK Tryz.prog (Ev125 N R) := EnvOK.addBx (Ev124_ok N R) [(24, 0)]
noncomputable def ipcp_addr (b0 : List (Int)) : Option Int :=
 Option.bind (octs_Get N b0 false) fun v2 =>
 some ((IntKind.wrap .u32 v2.1))
theorem ipcp_addr_S (b0 : List (Int)) : (runK Tryz.prog (Ev125 N) 400 53 [(.sl (.int .u8))] [(.int .u32)] (b0, ())).run = ipcp_addr N b0 := by kernel_rfl
noncomputable def Ev126 : (R : Type) → Env R := Env.addFn (Ev125 N) 53 (fun R => fnK [(.sl (.int .u8))] [(.int .u32)] (fun c => ipcp_addr N c.1))
theorem Ev126_ok (R : Type) : EnvOK Tryz.prog (Ev126 N R) := EnvOK.addFn hmx (Ev125_ok N R) (Ev125_ok N _) (by kernel_rfl) (fun c => ipcp_addr_S N c.1)
noncomputable def iET_L2_I : LI := ⟨26, 0, [], ⟨[(7, .ty dO), (8, .ty (.int .i64)), (9, .ty (.int .i64))], []⟩, [(.ret, ⟨[(2, .ty (.int .u32))], []⟩), (.exit 0, ⟨[], []⟩)]⟩
noncomputable def iET_L2 (X : ((tO × (Int × (Int × Unit))) × Unit) → Option ((((Int × Unit) × Unit) ⊕ (Unit × Unit)))) (x7 : tO) (x8 : Int) (x9 : Int) : Option ((((Int × Unit) × Unit) ⊕ (Unit × Unit))) :=
 bif (decide (x9 < x8)) then
  Option.bind (getI x7 x9) fun (v5 : tP) =>
  bif (decide (v5.1 = (3 : Int))) then
   Option.bind (some ((cond true (decide ((((List.length v5.2) : Nat) : Int) = (4 : Int))) false))) fun (v6 : Bool) =>
   bif v6 then
    Option.bind (ipcp_addr N v5.2) fun v7 =>
    some ((.inl ((v7, ()), ())))
   else
    (X ((x7, (x8, ((IntKind.wrap .i64 (x9 + 1)), ()))), ()))
  else
   (X ((x7, (x8, ((IntKind.wrap .i64 (x9 + 1)), ()))), ()))
 else
  some ((.inr ((), ())))
noncomputable def iET_L2_R (c : ((tO × (Int × (Int × Unit))) × Unit)) : Option ((((Int × Unit) × Unit) ⊕ (Unit × Unit))) := gl (fun X c => iET_L2 N X c.1.1 c.1.2.1 c.1.2.2.1) N c
theorem iET_L2_S (X : ((tO × (Int × (Int × Unit))) × Unit) → Option ((((Int × Unit) × Unit) ⊕ (Unit × Unit)))) (x7 : tO) (x8 : Int) (x9 : Int) : (roundK Tryz.prog (Ev126 N) 400 [24] iET_L2_I (loopAt Tryz.prog [24] 2) X ((x7, x8, x9, ()), ())).run = iET_L2 N X x7 x8 x9 := by kernel_rfl
noncomputable def Ev127 : (R : Type) → Env R := Env.addLp (Ev126 N) [24] 0 2 (fun R => lpK Tryz.prog iET_L2_I (fun X c => iET_L2 N X c.1.1 c.1.2.1 c.1.2.2.1) N)
theorem Ev127_ok (R : Type) : EnvOK Tryz.prog (Ev127 N R) := EnvOK.addLp (Ev126_ok N R) (by kernel_rfl) (lpK_ok (li := iET_L2_I) (G := fun X c => iET_L2 N X c.1.1 c.1.2.1 c.1.2.2.1) hmx (Ev126_ok N _) (by kernel_rfl) lAs (fun (X : CT iET_L2_I.sh → Option (OT iET_L2_I.outs)) (c : CT iET_L2_I.sh) => iET_L2_S N X c.1.1 c.1.2.1 c.1.2.2.1) N)
noncomputable def iET (x0 : tN) : Option Int :=
 Option.bind (nNA N x0) fun v2 =>
 Option.bind (iET_L2_R N ((v2, ((((List.length v2) : Nat) : Int), ((0 : Int), ()))), ())) fun v3 =>
 Sum.elim
  (fun (v4 : ((Int × Unit) × Unit)) =>
  some (v4.1.1))
  (fun (v4 : (Unit × Unit)) =>
  some ((0 : Int))) v3
theorem iET_S (x0 : tN) : (runK Tryz.prog (Ev127 N) 400 24 [dN] [(.int .u32)] (x0, ())).run = iET N x0 := by kernel_rfl
noncomputable def Ev128 : (R : Type) → Env R := Env.addFn (Ev127 N) 24 (fun R => fnK [dN] [(.int .u32)] (fun c => iET N c.1))
theorem Ev128_ok (R : Type) : EnvOK Tryz.prog (Ev128 N R) := EnvOK.addFn hmx (Ev127_ok N R) (Ev127_ok N _) (by kernel_rfl) (fun c => iET_S N c.1)
noncomputable def Ev129 : (R : Type) → Env R := Env.addInl (Ev128 N) [173, 130, 128, 131, 156, 172, 176, 178, 106, 73, 68]
theorem Ev129_ok (R : Type) : EnvOK Tryz.prog (Ev129 N R) := EnvOK.addInl (Ev128_ok N R) (by kernel_rfl)
noncomputable def ref21_Find_L2_I : LI := ⟨25, 0, [], ⟨[(0, .ty dO), (1, .ty (.int .u8)), (4, .lit (.box 0 0)), (6, .ty (.int .i64))], [.box 129 (.pair (.int .u8) (.sl (.int .u8)))]⟩, [(.ret, ⟨[(4, .lit (.box 0 0)), (5, .ty .bool)], [.box 129 (.pair (.int .u8) (.sl (.int .u8)))]⟩), (.exit 0, ⟨[(4, .lit (.box 0 0))], [.box 129 (.pair (.int .u8) (.sl (.int .u8)))]⟩)]⟩
noncomputable def ref21_Find_L2 (N : Nat) (X : ((tO × (Int × (Int × Unit))) × (tP × Unit)) → Option ((((Bool × Unit) × (tP × Unit)) ⊕ (Unit × (tP × Unit))))) (l0 : tO) (kind1 : Int) (i6 : Int) (h0 : Int × (List Int)) : Option ((((Bool × Unit) × (tP × Unit)) ⊕ (Unit × (tP × Unit)))) :=
 bif (decide (i6 < (((List.length l0) : Nat) : Int))) then
  Option.bind (getI l0 i6) fun (v6 : tP) =>
  bif (decide (v6.1 = kind1)) then
   Option.bind (getI l0 i6) fun (v7 : tP) =>
   some ((.inl ((true, ()), (v7, ()))))
  else
   (X ((l0, (kind1, ((IntKind.wrap .i64 (i6 + 1)), ()))), (h0, ())))
 else
  some ((.inr ((), (h0, ()))))
noncomputable def ref21_Find_L2_R (c : ((tO × (Int × (Int × Unit))) × (tP × Unit))) : Option ((((Bool × Unit) × (tP × Unit)) ⊕ (Unit × (tP × Unit)))) := gl (fun X c => ref21_Find_L2 N X c.1.1 c.1.2.1 c.1.2.2.1 c.2.1) N c
theorem ref21_Find_L2_S (X : ((tO × (Int × (Int × Unit))) × (tP × Unit)) → Option ((((Bool × Unit) × (tP × Unit)) ⊕ (Unit × (tP × Unit))))) (l0 : tO) (kind1 : Int) (i6 : Int) (h0 : Int × (List Int)) : (roundK Tryz.prog (Ev129 N) 400 [77] ref21_Find_L2_I (loopAt Tryz.prog [77] 2) X ((l0, kind1, i6, ()), (h0, ()))).run = ref21_Find_L2 N X l0 kind1 i6 h0 := by kernel_rfl
noncomputable def Ev130 : (R : Type) → Env R := Env.addLp (Ev129 N) [77] 0 2 (fun R => lpK Tryz.prog ref21_Find_L2_I (fun X c => ref21_Find_L2 N X c.1.1 c.1.2.1 c.1.2.2.1 c.2.1) N)
theorem Ev130_ok (R : Type) : EnvOK Tryz.prog (Ev130 N R) := EnvOK.addLp (Ev129_ok N R) (by kernel_rfl) (lpK_ok (li := ref21_Find_L2_I) (G := fun X c => ref21_Find_L2 N X c.1.1 c.1.2.1 c.1.2.2.1 c.2.1) hmx (Ev129_ok N _) (by kernel_rfl) lAs (fun (X : CT ref21_Find_L2_I.sh → Option (OT ref21_Find_L2_I.outs)) (c : CT ref21_Find_L2_I.sh) => ref21_Find_L2_S N X c.1.1 c.1.2.1 c.1.2.2.1 c.2.1) N)
noncomputable def ref21_Find (l0 : tO) (kind1 : Int) : Option (tP × Bool) :=
 Option.bind (ref21_Find_L2_R N ((l0, (kind1, ((0 : Int), ()))), (((0 : Int), ([] : List Int)), ()))) fun v3 =>
 Sum.elim
  (fun (v4 : ((Bool × Unit) × (tP × Unit))) =>
  some ((v4.2.1, v4.1.1)))
  (fun (v4 : (Unit × (tP × Unit))) =>
  some ((((0 : Int), ([] : List Int)), false))) v3
theorem ref21_Find_S (l0 : tO) (kind1 : Int) : (runK Tryz.prog (Ev130 N) 400 77 [dO, (.int .u8)] [(.pair (.int .u8) (.sl (.int .u8))), .bool] (l0, kind1, ())).run = ref21_Find N l0 kind1 := by kernel_rfl
noncomputable def Ev131 : (R : Type) → Env R := Env.addFn (Ev130 N) 77 (fun R => fnK [dO, (.int .u8)] [(.pair (.int .u8) (.sl (.int .u8))), .bool] (fun c => ref21_Find N c.1 c.2.1))
theorem Ev131_ok (R : Type) : EnvOK Tryz.prog (Ev131 N R) := EnvOK.addFn hmx (Ev130_ok N R) (Ev130_ok N _) (by kernel_rfl) (fun c => ref21_Find_S N c.1 c.2.1)
noncomputable def Ev132 : (R : Type) → Env R := Env.addBx (Ev131 N) [(116, 0)]
theorem Ev132_ok (R : Type) : EnvOK Tryz.prog (Ev132 N R) := EnvOK.addBx (Ev131_ok N R) [(116, 0)]
noncomputable def ref01_Same_L4_I : LI := ⟨26, 0, [], ⟨[(0, .ty (.sl (.int .u8))), (1, .ty (.sl (.int .u8))), (5, .ty (.int .i64))], []⟩, [(.ret, ⟨[(4, .ty .bool)], []⟩), (.exit 0, ⟨[], []⟩)]⟩
noncomputable def ref01_Same_L4 (N : Nat) (X : (((List Int) × ((List Int) × (Int × Unit))) × Unit) → Option ((((Bool × Unit) × Unit) ⊕ (Unit × Unit)))) (a0 : List (Int)) (b1 : List (Int)) (i5 : Int) : Option ((((Bool × Unit) × Unit) ⊕ (Unit × Unit))) :=
 bif (decide (i5 < (((List.length a0) : Nat) : Int))) then
  Option.bind (getI a0 i5) fun (v5 : Int) =>
  Option.bind (getI b1 i5) fun (v6 : Int) =>
  bif (!(decide (v5 = v6))) then
   some ((.inl ((false, ()), ())))
  else
   (X ((a0, (b1, ((IntKind.wrap .i64 (i5 + 1)), ()))), ()))
 else
  some ((.inr ((), ())))
noncomputable def ref01_Same_L4_R (c : (((List Int) × ((List Int) × (Int × Unit))) × Unit)) : Option ((((Bool × Unit) × Unit) ⊕ (Unit × Unit))) := gl (fun X c => ref01_Same_L4 N X c.1.1 c.1.2.1 c.1.2.2.1) N c
theorem ref01_Same_L4_S (X : (((List Int) × ((List Int) × (Int × Unit))) × Unit) → Option ((((Bool × Unit) × Unit) ⊕ (Unit × Unit)))) (a0 : List (Int)) (b1 : List (Int)) (i5 : Int) : (roundK Tryz.prog (Ev132 N) 400 [153] ref01_Same_L4_I (loopAt Tryz.prog [153] 4) X ((a0, b1, i5, ()), ())).run = ref01_Same_L4 N X a0 b1 i5 := by kernel_rfl
noncomputable def Ev133 : (R : Type) → Env R := Env.addLp (Ev132 N) [153] 0 4 (fun R => lpK Tryz.prog ref01_Same_L4_I (fun X c => ref01_Same_L4 N X c.1.1 c.1.2.1 c.1.2.2.1) N)
theorem Ev133_ok (R : Type) : EnvOK Tryz.prog (Ev133 N R) := EnvOK.addLp (Ev132_ok N R) (by kernel_rfl) (lpK_ok (li := ref01_Same_L4_I) (G := fun X c => ref01_Same_L4 N X c.1.1 c.1.2.1 c.1.2.2.1) hmx (Ev132_ok N _) (by kernel_rfl) lAs (fun (X : CT ref01_Same_L4_I.sh → Option (OT ref01_Same_L4_I.outs)) (c : CT ref01_Same_L4_I.sh) => ref01_Same_L4_S N X c.1.1 c.1.2.1 c.1.2.2.1) N)
noncomputable def ref01_Same (a0 : List (Int)) (b1 : List (Int)) : Option Bool :=
 bif (!(decide ((((List.length a0) : Nat) : Int) = (((List.length b1) : Nat) : Int)))) then
  some (false)
 else
  Option.bind (ref01_Same_L4_R N ((a0, (b1, ((0 : Int), ()))), ())) fun v3 =>
  Sum.elim
   (fun (v4 : ((Bool × Unit) × Unit)) =>
   some (v4.1.1))
   (fun (v4 : (Unit × Unit)) =>
   some (true)) v3
theorem ref01_Same_S (a0 : List (Int)) (b1 : List (Int)) : (runK Tryz.prog (Ev133 N) 400 153 [(.sl (.int .u8)), (.sl (.int .u8))] [.bool] (a0, b1, ())).run = ref01_Same N a0 b1 := by kernel_rfl
noncomputable def Ev134 : (R : Type) → Env R := Env.addFn (Ev133 N) 153 (fun R => fnK [(.sl (.int .u8)), (.sl (.int .u8))] [.bool] (fun c => ref01_Same N c.1 c.2.1))
theorem Ev134_ok (R : Type) : EnvOK Tryz.prog (Ev134 N R) := EnvOK.addFn hmx (Ev133_ok N R) (Ev133_ok N _) (by kernel_rfl) (fun c => ref01_Same_S N c.1 c.2.1)
noncomputable def ref21_one (a0 : Int × (List Int)) (b1 : Int × (List Int)) : Option Bool :=
 bif (decide (a0.1 = b1.1)) then
  Option.bind (ref01_Same N a0.2 b1.2) fun v3 =>
  some ((cond true v3 false))
 else
  some (false)
theorem ref21_one_S (a0 : Int × (List Int)) (b1 : Int × (List Int)) : (runK Tryz.prog (Ev134 N) 400 116 [(.pair (.int .u8) (.sl (.int .u8))), (.pair (.int .u8) (.sl (.int .u8)))] [.bool] (a0, b1, ())).run = ref21_one N a0 b1 := by kernel_rfl
noncomputable def Ev135 : (R : Type) → Env R := Env.addFn (Ev134 N) 116 (fun R => fnK [(.pair (.int .u8) (.sl (.int .u8))), (.pair (.int .u8) (.sl (.int .u8)))] [.bool] (fun c => ref21_one N c.1 c.2.1))
theorem Ev135_ok (R : Type) : EnvOK Tryz.prog (Ev135 N R) := EnvOK.addFn hmx (Ev134_ok N R) (Ev134_ok N _) (by kernel_rfl) (fun c => ref21_one_S N c.1 c.2.1)
noncomputable def ref21_Same_L4_I : LI := ⟨27, 0, [], ⟨[(0, .ty dO), (1, .ty dO), (5, .ty (.int .i64))], []⟩, [(.ret, ⟨[(4, .ty .bool)], []⟩), (.exit 0, ⟨[], []⟩)]⟩
noncomputable def ref21_Same_L4 (X : ((tO × (tO × (Int × Unit))) × Unit) → Option ((((Bool × Unit) × Unit) ⊕ (Unit × Unit)))) (a0 : tO) (b1 : tO) (i5 : Int) : Option ((((Bool × Unit) × Unit) ⊕ (Unit × Unit))) :=
 bif (decide (i5 < (((List.length a0) : Nat) : Int))) then
  Option.bind (getI a0 i5) fun (v5 : tP) =>
  Option.bind (getI b1 i5) fun (v6 : tP) =>
  Option.bind (ref21_one N v5 v6) fun v7 =>
  bif (!v7) then
   some ((.inl ((false, ()), ())))
  else
   (X ((a0, (b1, ((IntKind.wrap .i64 (i5 + 1)), ()))), ()))
 else
  some ((.inr ((), ())))
noncomputable def ref21_Same_L4_R (c : ((tO × (tO × (Int × Unit))) × Unit)) : Option ((((Bool × Unit) × Unit) ⊕ (Unit × Unit))) := gl (fun X c => ref21_Same_L4 N X c.1.1 c.1.2.1 c.1.2.2.1) N c
theorem ref21_Same_L4_S (X : ((tO × (tO × (Int × Unit))) × Unit) → Option ((((Bool × Unit) × Unit) ⊕ (Unit × Unit)))) (a0 : tO) (b1 : tO) (i5 : Int) : (roundK Tryz.prog (Ev135 N) 400 [78] ref21_Same_L4_I (loopAt Tryz.prog [78] 4) X ((a0, b1, i5, ()), ())).run = ref21_Same_L4 N X a0 b1 i5 := by kernel_rfl
noncomputable def Ev136 : (R : Type) → Env R := Env.addLp (Ev135 N) [78] 0 4 (fun R => lpK Tryz.prog ref21_Same_L4_I (fun X c => ref21_Same_L4 N X c.1.1 c.1.2.1 c.1.2.2.1) N)
theorem Ev136_ok (R : Type) : EnvOK Tryz.prog (Ev136 N R) := EnvOK.addLp (Ev135_ok N R) (by kernel_rfl) (lpK_ok (li := ref21_Same_L4_I) (G := fun X c => ref21_Same_L4 N X c.1.1 c.1.2.1 c.1.2.2.1) hmx (Ev135_ok N _) (by kernel_rfl) lAs (fun (X : CT ref21_Same_L4_I.sh → Option (OT ref21_Same_L4_I.outs)) (c : CT ref21_Same_L4_I.sh) => ref21_Same_L4_S N X c.1.1 c.1.2.1 c.1.2.2.1) N)
noncomputable def ref21_Same (a0 : tO) (b1 : tO) : Option Bool :=
 bif (!(decide ((((List.length a0) : Nat) : Int) = (((List.length b1) : Nat) : Int)))) then
  some (false)
 else
  Option.bind (ref21_Same_L4_R N ((a0, (b1, ((0 : Int), ()))), ())) fun v3 =>
  Sum.elim
   (fun (v4 : ((Bool × Unit) × Unit)) =>
   some (v4.1.1))
   (fun (v4 : (Unit × Unit)) =>
   some (true)) v3
theorem ref21_Same_S (a0 : tO) (b1 : tO) : (runK Tryz.prog (Ev136 N) 400 78 [dO, dO] [.bool] (a0, b1, ())).run = ref21_Same N a0 b1 := by kernel_rfl
noncomputable def Ev137 : (R : Type) → Env R := Env.addFn (Ev136 N) 78 (fun R => fnK [dO, dO] [.bool] (fun c => ref21_Same N c.1 c.2.1))
theorem Ev137_ok (R : Type) : EnvOK Tryz.prog (Ev137 N R) := EnvOK.addFn hmx (Ev136_ok N R) (Ev136_ok N _) (by kernel_rfl) (fun c => ref21_Same_S N c.1 c.2.1)
noncomputable def Ev138 (X0 : (tO × (tO × Unit)) → Option Bool) : (R : Type) → Env R := Env.addFn (Ev137 N) 79 (fun R => fnK [dO, dO] [.bool] X0)
theorem Ev138_ok (X0 : (tO × (tO × Unit)) → Option Bool) (hX0 : ∀ c y, X0 c = some y → CallsK Tryz.prog 79 (valA [dO, dO] c) (tupV (valR [.bool] y))) (R : Type) : EnvOK Tryz.prog (Ev138 N X0 R) := EnvOK.addSelf (Ev137_ok N R) (inl := (Ev137 N Unit).inl) (by kernel_rfl) hX0
noncomputable def ref21_Among_L4_I : LI := ⟨30, 0, [], ⟨[(0, .ty dO), (1, .ty dO), (5, .ty (.int .i64))], []⟩, [(.ret, ⟨[(4, .ty .bool)], []⟩), (.exit 0, ⟨[], []⟩)]⟩
noncomputable def ref21_Among_L4 (X0 : (tO × (tO × Unit)) → Option Bool) (X : ((tO × (tO × (Int × Unit))) × Unit) → Option ((((Bool × Unit) × Unit) ⊕ (Unit × Unit)))) (l0 : tO) (all1 : tO) (i5 : Int) : Option ((((Bool × Unit) × Unit) ⊕ (Unit × Unit))) :=
 bif (decide (i5 < (((List.length all1) : Nat) : Int))) then
  Option.bind (getI l0 (0 : Int)) fun (v6 : tP) =>
  Option.bind (getI all1 i5) fun (v7 : tP) =>
  Option.bind (ref21_one N v6 v7) fun v8 =>
  bif v8 then
   Option.bind (dropI l0 (1 : Int)) fun (v9 : tO) =>
   Option.bind (dropI all1 (IntKind.wrap .i64 (i5 + 1))) fun (v10 : tO) =>
   Option.bind (X0 (v9, (v10, ()))) fun (v11 : Bool) =>
   some ((.inl ((v11, ()), ())))
  else
   (X ((l0, (all1, ((IntKind.wrap .i64 (i5 + 1)), ()))), ()))
 else
  some ((.inr ((), ())))
noncomputable def ref21_Among_L4_R (X0 : (tO × (tO × Unit)) → Option Bool) (c : ((tO × (tO × (Int × Unit))) × Unit)) : Option ((((Bool × Unit) × Unit) ⊕ (Unit × Unit))) := gl (fun X c => ref21_Among_L4 N X0 X c.1.1 c.1.2.1 c.1.2.2.1) N c
theorem ref21_Among_L4_S (X0 : (tO × (tO × Unit)) → Option Bool) (X : ((tO × (tO × (Int × Unit))) × Unit) → Option ((((Bool × Unit) × Unit) ⊕ (Unit × Unit)))) (l0 : tO) (all1 : tO) (i5 : Int) : (roundK Tryz.prog (Ev138 N X0) 400 [79] ref21_Among_L4_I (loopAt Tryz.prog [79] 4) X ((l0, all1, i5, ()), ())).run = ref21_Among_L4 N X0 X l0 all1 i5 := by kernel_rfl
noncomputable def Ev139 (X0 : (tO × (tO × Unit)) → Option Bool) : (R : Type) → Env R := Env.addLp (Ev138 N X0) [79] 0 4 (fun R => lpK Tryz.prog ref21_Among_L4_I (fun X c => ref21_Among_L4 N X0 X c.1.1 c.1.2.1 c.1.2.2.1) N)
theorem Ev139_ok (X0 : (tO × (tO × Unit)) → Option Bool) (hX0 : ∀ c y, X0 c = some y → CallsK Tryz.prog 79 (valA [dO, dO] c) (tupV (valR [.bool] y))) (R : Type) : EnvOK Tryz.prog (Ev139 N X0 R) := EnvOK.addLp (Ev138_ok N X0 hX0 R) (by kernel_rfl) (lpK_ok (li := ref21_Among_L4_I) (G := fun X c => ref21_Among_L4 N X0 X c.1.1 c.1.2.1 c.1.2.2.1) hmx (Ev138_ok N X0 hX0 _) (by kernel_rfl) lAs (fun (X : CT ref21_Among_L4_I.sh → Option (OT ref21_Among_L4_I.outs)) (c : CT ref21_Among_L4_I.sh) => ref21_Among_L4_S N X0 X c.1.1 c.1.2.1 c.1.2.2.1) N)
noncomputable def ref21_Among_B (X0 : (tO × (tO × Unit)) → Option Bool) (l0 : tO) (all1 : tO) : Option Bool :=
 bif (decide ((((List.length l0) : Nat) : Int) = (0 : Int))) then
  some (true)
 else
  Option.bind (ref21_Among_L4_R N X0 ((l0, (all1, ((0 : Int), ()))), ())) fun v4 =>
  Sum.elim
   (fun (v5 : ((Bool × Unit) × Unit)) =>
   some (v5.1.1))
   (fun (v5 : (Unit × Unit)) =>
   some (false)) v4
theorem ref21_Among_B_S (X0 : (tO × (tO × Unit)) → Option Bool) (l0 : tO) (all1 : tO) : (runK Tryz.prog (Ev139 N X0) 400 79 [dO, dO] [.bool] (l0, all1, ())).run = ref21_Among_B N X0 l0 all1 := by kernel_rfl
noncomputable def ref21_Among (l0 : tO) (all1 : tO) : Option Bool := gl (fun X c => ref21_Among_B N X c.1 c.2.1) N (l0, all1, ())
noncomputable def Ev140 : (R : Type) → Env R := Env.addFn (Ev137 N) 79 (fun R => fnK [dO, dO] [.bool] (fun c => ref21_Among N c.1 c.2.1))
theorem Ev140_ok (R : Type) : EnvOK Tryz.prog (Ev140 N R) := EnvOK.addSelf (Ev137_ok N R) (inl := (Ev137 N Unit).inl) (by kernel_rfl) (fun c y h => rec_ok (f := 79) (ds := [dO, dO]) (rs := [.bool]) hmx (G := fun (X : (tO × (tO × Unit)) → Option Bool) (c : (tO × (tO × Unit))) => ref21_Among_B N X c.1 c.2.1) (Γs := fun (X : (tO × (tO × Unit)) → Option Bool) => Ev139 N X) (fuel := 400) (fun X hX => Ev139_ok N X hX _) (fun X => by kernel_rfl) (fun X c => ref21_Among_B_S N X c.1 c.2.1) N c y h)
noncomputable def Ev141 : (R : Type) → Env R := Env.addMv (Ev140 N) [(43, 9)]
theorem Ev141_ok (R : Type) : EnvOK Tryz.prog (Ev141 N R) := EnvOK.addMv (Ev140_ok N R) [(43, 9)]
noncomputable def ref21_Lay_L5_I : LI := ⟨45, 0, [(4, 5)], ⟨[(0, .ty dO), (4, .lit (.own 0)), (5, .ty (.int .i64))], [.own (.int .u8) 5]⟩, [(.ret, ⟨[(2, .ty (.sl (.int .u8))), (3, .ty (.int .i64))], []⟩), (.exit 0, ⟨[(4, .lit (.own 0))], [.own (.int .u8) 5]⟩)]⟩
noncomputable def ref21_Lay_L5 (N : Nat) (X : ((tO × (Int × Unit)) × ((List Int) × Unit)) → Option (((((List Int) × (Int × Unit)) × Unit) ⊕ (Unit × ((List Int) × Unit))))) (l0 : tO) (i5 : Int) (h0 : List (Int)) : Option (((((List Int) × (Int × Unit)) × Unit) ⊕ (Unit × ((List Int) × Unit)))) :=
 bif (decide (i5 < (((List.length l0) : Nat) : Int))) then
  Option.bind (getI l0 i5) fun (v5 : tP) =>
  bif (decide ((253 : Int) < (((List.length v5.2) : Nat) : Int))) then
   some ((.inl ((([] : List Int), ((8 : Int), ())), ())))
  else
   Option.bind (getI l0 i5) fun (v6 : tP) =>
   Option.bind (getI l0 i5) fun (v7 : tP) =>
   Option.bind (getI l0 i5) fun (v8 : tP) =>
   bif (roomB ((List.length h0) + (List.length ([v6.1, (IntKind.wrap .u8 (IntKind.wrap .i64 ((2 : Int) + (((List.length v7.2) : Nat) : Int))))] : List (Int)))) 1) then
    bif (roomB ((List.length (h0 ++ ([v6.1, (IntKind.wrap .u8 (IntKind.wrap .i64 ((2 : Int) + (((List.length v7.2) : Nat) : Int))))] : List (Int)))) + (List.length v8.2)) 1) then
     (X ((l0, ((IntKind.wrap .i64 (i5 + 1)), ())), (((h0 ++ ([v6.1, (IntKind.wrap .u8 (IntKind.wrap .i64 ((2 : Int) + (((List.length v7.2) : Nat) : Int))))] : List (Int))) ++ v8.2), ())))
    else
     none
   else
    none
 else
  some ((.inr ((), (h0, ()))))
end
section
variable (N : Nat)
noncomputable def ref21_Lay_L5_R (c : ((tO × (Int × Unit)) × ((List Int) × Unit))) : Option (((((List Int) × (Int × Unit)) × Unit) ⊕ (Unit × ((List Int) × Unit)))) := gl (fun X c => ref21_Lay_L5 N X c.1.1 c.1.2.1 c.2.1) N c
theorem ref21_Lay_L5_S (X : ((tO × (Int × Unit)) × ((List Int) × Unit)) → Option (((((List Int) × (Int × Unit)) × Unit) ⊕ (Unit × ((List Int) × Unit))))) (l0 : tO) (i5 : Int) (h0 : List (Int)) : (roundK Tryz.prog (Ev141 N) 400 [43] ref21_Lay_L5_I (loopAt Tryz.prog [43] 5) X ((l0, i5, ()), (h0, ()))).run = ref21_Lay_L5 N X l0 i5 h0 := by kernel_rfl
noncomputable def Ev142 : (R : Type) → Env R := Env.addLp (Ev141 N) [43] 0 5 (fun R => lpK Tryz.prog ref21_Lay_L5_I (fun X c => ref21_Lay_L5 N X c.1.1 c.1.2.1 c.2.1) N)
theorem Ev142_ok (R : Type) : EnvOK Tryz.prog (Ev142 N R) := EnvOK.addLp (Ev141_ok N R) (by kernel_rfl) (lpK_ok (li := ref21_Lay_L5_I) (G := fun X c => ref21_Lay_L5 N X c.1.1 c.1.2.1 c.2.1) hmx (Ev141_ok N _) (by kernel_rfl) lAs (fun (X : CT ref21_Lay_L5_I.sh → Option (OT ref21_Lay_L5_I.outs)) (c : CT ref21_Lay_L5_I.sh) => ref21_Lay_L5_S N X c.1.1 c.1.2.1 c.2.1) N)
noncomputable def ref21_Lay (l0 : tO) : Option ((List Int) × Int) :=
 bif (decide ((32 : Int) < (((List.length l0) : Nat) : Int))) then
  some ((([] : List Int), (5 : Int)))
 else
  Option.bind (ref21_Lay_L5_R N ((l0, ((0 : Int), ())), (([] : List Int), ()))) fun v2 =>
  Sum.elim
   (fun (v3 : (((List Int) × (Int × Unit)) × Unit)) =>
   some ((v3.1.1, v3.1.2.1)))
   (fun (v3 : (Unit × ((List Int) × Unit))) =>
   some ((v3.2.1, (0 : Int)))) v2
theorem ref21_Lay_S (l0 : tO) : (runK Tryz.prog (Ev142 N) 400 43 [dO] [(.sl (.int .u8)), (.int .i64)] (l0, ())).run = ref21_Lay N l0 := by kernel_rfl
noncomputable def Ev143 : (R : Type) → Env R := Env.addFn (Ev142 N) 43 (fun R => fnK [dO] [(.sl (.int .u8)), (.int .i64)] (fun c => ref21_Lay N c.1))
theorem Ev143_ok (R : Type) : EnvOK Tryz.prog (Ev143 N R) := EnvOK.addFn hmx (Ev142_ok N R) (Ev142_ok N _) (by kernel_rfl) (fun c => ref21_Lay_S N c.1)
noncomputable def ref21_Parse_L3_I : LI := ⟨52, 0, [(4, 129)], ⟨[(0, .ty (.sl (.int .u8))), (4, .lit (.own 0)), (5, .ty (.int .i64))], [.own (.pair (.int .u8) (.sl (.int .u8))) 129]⟩, [(.ret, ⟨[(2, .ty dO), (3, .ty (.int .i64))], []⟩), (.exit 0, ⟨[(4, .lit (.own 0))], [.own (.pair (.int .u8) (.sl (.int .u8))) 129]⟩)]⟩
noncomputable def ref21_Parse_L3 (N : Nat) (X : (((List Int) × (Int × Unit)) × (tO × Unit)) → Option ((((tO × (Int × Unit)) × Unit) ⊕ (Unit × (tO × Unit))))) (b0 : List (Int)) (x5 : Int) (h0 : tO) : Option ((((tO × (Int × Unit)) × Unit) ⊕ (Unit × (tO × Unit)))) :=
 bif (decide (x5 < (((List.length b0) : Nat) : Int))) then
  bif (decide ((((List.length h0) : Nat) : Int) = (32 : Int))) then
   some ((.inl ((([] : List (tP)), ((5 : Int), ())), ())))
  else
   bif (decide ((IntKind.wrap .i64 ((((List.length b0) : Nat) : Int) - x5)) < (2 : Int))) then
    some ((.inl ((([] : List (tP)), ((4 : Int), ())), ())))
   else
    Option.bind (getI b0 (IntKind.wrap .i64 (x5 + 1))) fun (v5 : Int) =>
    bif (decide ((IntKind.wrap .i64 v5) < (2 : Int))) then
     some ((.inl ((([] : List (tP)), ((3 : Int), ())), ())))
    else
     bif (decide ((IntKind.wrap .i64 ((((List.length b0) : Nat) : Int) - x5)) < (IntKind.wrap .i64 v5))) then
      some ((.inl ((([] : List (tP)), ((4 : Int), ())), ())))
     else
      Option.bind (getI b0 x5) fun (v6 : Int) =>
      Option.bind (subI b0 (IntKind.wrap .i64 (x5 + 2)) (IntKind.wrap .i64 (x5 + (IntKind.wrap .i64 v5)))) fun (v7 : (List Int)) =>
      bif (roomB ((List.length h0) + (List.length ([(v6, v7)] : List (tP)))) 32) then
       (X ((b0, ((IntKind.wrap .i64 (x5 + (IntKind.wrap .i64 v5))), ())), ((h0 ++ ([(v6, v7)] : List (tP))), ())))
      else
       none
 else
  some ((.inr ((), (h0, ()))))
noncomputable def ref21_Parse_L3_R (c : (((List Int) × (Int × Unit)) × (tO × Unit))) : Option ((((tO × (Int × Unit)) × Unit) ⊕ (Unit × (tO × Unit)))) := gl (fun X c => ref21_Parse_L3 N X c.1.1 c.1.2.1 c.2.1) N c
theorem ref21_Parse_L3_S (X : (((List Int) × (Int × Unit)) × (tO × Unit)) → Option ((((tO × (Int × Unit)) × Unit) ⊕ (Unit × (tO × Unit))))) (b0 : List (Int)) (x5 : Int) (h0 : tO) : (roundK Tryz.prog (Ev143 N) 400 [111] ref21_Parse_L3_I (loopAt Tryz.prog [111] 3) X ((b0, x5, ()), (h0, ()))).run = ref21_Parse_L3 N X b0 x5 h0 := by kernel_rfl
noncomputable def Ev144 : (R : Type) → Env R := Env.addLp (Ev143 N) [111] 0 3 (fun R => lpK Tryz.prog ref21_Parse_L3_I (fun X c => ref21_Parse_L3 N X c.1.1 c.1.2.1 c.2.1) N)
theorem Ev144_ok (R : Type) : EnvOK Tryz.prog (Ev144 N R) := EnvOK.addLp (Ev143_ok N R) (by kernel_rfl) (lpK_ok (li := ref21_Parse_L3_I) (G := fun X c => ref21_Parse_L3 N X c.1.1 c.1.2.1 c.2.1) hmx (Ev143_ok N _) (by kernel_rfl) lAs (fun (X : CT ref21_Parse_L3_I.sh → Option (OT ref21_Parse_L3_I.outs)) (c : CT ref21_Parse_L3_I.sh) => ref21_Parse_L3_S N X c.1.1 c.1.2.1 c.2.1) N)
noncomputable def ref21_Parse (b0 : List (Int)) : Option (tO × Int) :=
 Option.bind (ref21_Parse_L3_R N ((b0, ((0 : Int), ())), (([] : List (tP)), ()))) fun v2 =>
 Sum.elim
  (fun (v3 : ((tO × (Int × Unit)) × Unit)) =>
  some ((v3.1.1, v3.1.2.1)))
  (fun (v3 : (Unit × (tO × Unit))) =>
  some ((v3.2.1, (0 : Int)))) v2
theorem ref21_Parse_S (b0 : List (Int)) : (runK Tryz.prog (Ev144 N) 400 111 [(.sl (.int .u8))] [dO, (.int .i64)] (b0, ())).run = ref21_Parse N b0 := by kernel_rfl
noncomputable def Ev145 : (R : Type) → Env R := Env.addFn (Ev144 N) 111 (fun R => fnK [(.sl (.int .u8))] [dO, (.int .i64)] (fun c => ref21_Parse N c.1))
theorem Ev145_ok (R : Type) : EnvOK Tryz.prog (Ev145 N R) := EnvOK.addFn hmx (Ev144_ok N R) (Ev144_ok N _) (by kernel_rfl) (fun c => ref21_Parse_S N c.1)
noncomputable def Ev146 : (R : Type) → Env R := Env.addBx (Ev145 N) [(146, 0)]
theorem Ev146_ok (R : Type) : EnvOK Tryz.prog (Ev146 N R) := EnvOK.addBx (Ev145_ok N R) [(146, 0)]
noncomputable def ref01_Big_L3_I : LI := ⟨24, 0, [], ⟨[(0, .ty (.int .u64)), (5, .lit (.own 0)), (6, .ty (.int .i64))], [.own (.int .u8) 5]⟩, [(.exit 0, ⟨[(5, .lit (.own 0))], [.own (.int .u8) 5]⟩)]⟩
noncomputable def ref01_Big_L3 (N : Nat) (X : ((Int × (Int × Unit)) × ((List Int) × Unit)) → Option ((Unit × ((List Int) × Unit)))) (n0 : Int) (i6 : Int) (h0 : List (Int)) : Option ((Unit × ((List Int) × Unit))) :=
 bif (decide ((0 : Int) ≤ i6)) then
  bif (decide ((0 : Int) ≤ i6 ∧ i6 < (((List.length h0) : Nat) : Int))) then
   Option.bind (h0[Int.toNat i6]?) fun (v5 : Int) =>
   (X (((IntKind.wrap .u64 (@Int.tdiv n0 (256 : Int))), ((IntKind.wrap .i64 (i6 - 1)), ())), ((@List.set Int h0 (Int.toNat i6) (IntKind.wrap .u8 (@Int.tmod n0 (256 : Int)))), ())))
  else
   none
 else
  some (((), (h0, ())))
noncomputable def ref01_Big_L3_R (c : ((Int × (Int × Unit)) × ((List Int) × Unit))) : Option ((Unit × ((List Int) × Unit))) := gl (fun X c => ref01_Big_L3 N X c.1.1 c.1.2.1 c.2.1) N c
theorem ref01_Big_L3_S (X : ((Int × (Int × Unit)) × ((List Int) × Unit)) → Option ((Unit × ((List Int) × Unit)))) (n0 : Int) (i6 : Int) (h0 : List (Int)) : (roundK Tryz.prog (Ev146 N) 400 [170] ref01_Big_L3_I (loopAt Tryz.prog [170] 3) X ((n0, i6, ()), (h0, ()))).run = ref01_Big_L3 N X n0 i6 h0 := by kernel_rfl
noncomputable def Ev147 : (R : Type) → Env R := Env.addLp (Ev146 N) [170] 0 3 (fun R => lpK Tryz.prog ref01_Big_L3_I (fun X c => ref01_Big_L3 N X c.1.1 c.1.2.1 c.2.1) N)
theorem Ev147_ok (R : Type) : EnvOK Tryz.prog (Ev147 N R) := EnvOK.addLp (Ev146_ok N R) (by kernel_rfl) (lpK_ok (li := ref01_Big_L3_I) (G := fun X c => ref01_Big_L3 N X c.1.1 c.1.2.1 c.2.1) hmx (Ev146_ok N _) (by kernel_rfl) lAs (fun (X : CT ref01_Big_L3_I.sh → Option (OT ref01_Big_L3_I.outs)) (c : CT ref01_Big_L3_I.sh) => ref01_Big_L3_S N X c.1.1 c.1.2.1 c.2.1) N)
noncomputable def ref01_Big (n0 : Int) (width1 : Int) : Option (List Int) :=
 bif ((decide ((0 : Int) ≤ width1 ∧ width1 ≤ width1)) && (roomB (Int.toNat width1) 1)) then
  Option.bind (ref01_Big_L3_R N ((n0, ((IntKind.wrap .i64 (width1 - 1)), ())), ((@List.replicate Int (Int.toNat width1) (0 : Int)), ()))) fun v3 =>
  some (v3.2.1)
 else
  none
theorem ref01_Big_S (n0 : Int) (width1 : Int) : (runK Tryz.prog (Ev147 N) 400 170 [(.int .u64), (.int .i64)] [(.sl (.int .u8))] (n0, width1, ())).run = ref01_Big N n0 width1 := by kernel_rfl
noncomputable def Ev148 : (R : Type) → Env R := Env.addFn (Ev147 N) 170 (fun R => fnK [(.int .u64), (.int .i64)] [(.sl (.int .u8))] (fun c => ref01_Big N c.1 c.2.1))
theorem Ev148_ok (R : Type) : EnvOK Tryz.prog (Ev148 N R) := EnvOK.addFn hmx (Ev147_ok N R) (Ev147_ok N _) (by kernel_rfl) (fun c => ref01_Big_S N c.1 c.2.1)
noncomputable def ref22_Lay (c0 : tC) : Option ((List Int) × Int) :=
 bif (decide ((4000 : Int) < (((List.length c0.2.2) : Nat) : Int))) then
  some ((([] : List Int), (8 : Int)))
 else
  Option.bind (ref01_Big N (IntKind.wrap .u64 (IntKind.wrap .i64 ((4 : Int) + (((List.length c0.2.2) : Nat) : Int)))) (2 : Int)) fun v2 =>
  bif ((roomB ((List.length ([c0.1, c0.2.1] : List (Int))) + (List.length v2)) 1) && (!(@List.isEmpty Int v2))) then
   bif (roomB ((List.length (([c0.1, c0.2.1] : List (Int)) ++ v2)) + (List.length c0.2.2)) 1) then
    some ((((([c0.1, c0.2.1] : List (Int)) ++ v2) ++ c0.2.2), (0 : Int)))
   else
    none
  else
   none
theorem ref22_Lay_S (c0 : tC) : (runK Tryz.prog (Ev148 N) 400 146 [dC] [(.sl (.int .u8)), (.int .i64)] (c0, ())).run = ref22_Lay N c0 := by kernel_rfl
noncomputable def Ev149 : (R : Type) → Env R := Env.addFn (Ev148 N) 146 (fun R => fnK [dC] [(.sl (.int .u8)), (.int .i64)] (fun c => ref22_Lay N c.1))
theorem Ev149_ok (R : Type) : EnvOK Tryz.prog (Ev149 N R) := EnvOK.addFn hmx (Ev148_ok N R) (Ev148_ok N _) (by kernel_rfl) (fun c => ref22_Lay_S N c.1)
noncomputable def ref22_conf (N : Nat) (code0 : Int) : Option Bool :=
 Option.bind (bif (decide ((1 : Int) ≤ code0)) then
   some ((cond true (decide (code0 ≤ (4 : Int))) false))
  else
   some (false)) fun (v2 : Bool) =>
 some (v2)
theorem ref22_conf_S (code0 : Int) : (runK Tryz.prog (Ev149 N) 400 42 [(.int .u8)] [.bool] (code0, ())).run = ref22_conf N code0 := by kernel_rfl
noncomputable def Ev150 : (R : Type) → Env R := Env.addFn (Ev149 N) 42 (fun R => fnK [(.int .u8)] [.bool] (fun c => ref22_conf N c.1))
theorem Ev150_ok (R : Type) : EnvOK Tryz.prog (Ev150 N R) := EnvOK.addFn hmx (Ev149_ok N R) (Ev149_ok N _) (by kernel_rfl) (fun c => ref22_conf_S N c.1)
noncomputable def ref22_Conf (code0 : Int) (id1 : Int) (l2 : tO) : Option (tC × Int) :=
 Option.bind (ref22_conf N code0) fun v4 =>
 bif (!v4) then
  some ((((0 : Int), ((0 : Int), ([] : List Int))), (9 : Int)))
 else
  Option.bind (ref21_Lay N l2) fun v5 =>
  bif (!(decide (v5.2 = (0 : Int)))) then
   some ((((0 : Int), ((0 : Int), ([] : List Int))), v5.2))
  else
   some (((code0, (id1, v5.1)), (0 : Int)))
theorem ref22_Conf_S (code0 : Int) (id1 : Int) (l2 : tO) : (runK Tryz.prog (Ev150 N) 400 13 [(.int .u8), (.int .u8), dO] [dC, (.int .i64)] (code0, id1, l2, ())).run = ref22_Conf N code0 id1 l2 := by kernel_rfl
noncomputable def Ev151 : (R : Type) → Env R := Env.addFn (Ev150 N) 13 (fun R => fnK [(.int .u8), (.int .u8), dO] [dC, (.int .i64)] (fun c => ref22_Conf N c.1 c.2.1 c.2.2.1))
theorem Ev151_ok (R : Type) : EnvOK Tryz.prog (Ev151 N R) := EnvOK.addFn hmx (Ev150_ok N R) (Ev150_ok N _) (by kernel_rfl) (fun c => ref22_Conf_S N c.1 c.2.1 c.2.2.1)
noncomputable def Ev152 : (R : Type) → Env R := Env.addBx (Ev151 N) [(75, 0)]
theorem Ev152_ok (R : Type) : EnvOK Tryz.prog (Ev152 N R) := EnvOK.addBx (Ev151_ok N R) [(75, 0)]
noncomputable def ref22_Options (c0 : tC) : Option (tO × Int) :=
 Option.bind (ref22_conf N c0.1) fun v2 =>
 bif (!v2) then
  some ((([] : List (tP)), (9 : Int)))
 else
  Option.bind (ref21_Parse N c0.2.2) fun v3 =>
  some (v3)
theorem ref22_Options_S (c0 : tC) : (runK Tryz.prog (Ev152 N) 400 75 [dC] [dO, (.int .i64)] (c0, ())).run = ref22_Options N c0 := by kernel_rfl
noncomputable def Ev153 : (R : Type) → Env R := Env.addFn (Ev152 N) 75 (fun R => fnK [dC] [dO, (.int .i64)] (fun c => ref22_Options N c.1))
theorem Ev153_ok (R : Type) : EnvOK Tryz.prog (Ev153 N R) := EnvOK.addFn hmx (Ev152_ok N R) (Ev152_ok N _) (by kernel_rfl) (fun c => ref22_Options_S N c.1)
noncomputable def Ev154 : (R : Type) → Env R := Env.addBx (Ev153 N) [(110, 0)]
theorem Ev154_ok (R : Type) : EnvOK Tryz.prog (Ev154 N R) := EnvOK.addBx (Ev153_ok N R) [(110, 0)]
noncomputable def ref22_cut (N : Nat) (b0 : List (Int)) (most1 : Int) : Option (List Int) :=
 bif (decide (most1 < (4 : Int))) then
  some (([] : List Int))
 else
  Option.bind (takeI b0 (@minI (((List.length b0) : Nat) : Int) (IntKind.wrap .i64 (most1 - 4)))) fun (v3 : (List Int)) =>
  some (v3)
theorem ref22_cut_S (b0 : List (Int)) (most1 : Int) : (runK Tryz.prog (Ev154 N) 400 147 [(.sl (.int .u8)), (.int .i64)] [(.sl (.int .u8))] (b0, most1, ())).run = ref22_cut N b0 most1 := by kernel_rfl
noncomputable def Ev155 : (R : Type) → Env R := Env.addFn (Ev154 N) 147 (fun R => fnK [(.sl (.int .u8)), (.int .i64)] [(.sl (.int .u8))] (fun c => ref22_cut N c.1 c.2.1))
theorem Ev155_ok (R : Type) : EnvOK Tryz.prog (Ev155 N R) := EnvOK.addFn hmx (Ev154_ok N R) (Ev154_ok N _) (by kernel_rfl) (fun c => ref22_cut_S N c.1 c.2.1)
noncomputable def ref22_Reject (id0 : Int) (c1 : tC) (most2 : Int) : Option tC :=
 Option.bind (ref22_Lay N c1) fun v4 =>
 Option.bind (ref22_cut N v4.1 most2) fun v5 =>
 some (((7 : Int), (id0, v5)))
theorem ref22_Reject_S (id0 : Int) (c1 : tC) (most2 : Int) : (runK Tryz.prog (Ev155 N) 400 110 [(.int .u8), dC, (.int .i64)] [dC] (id0, c1, most2, ())).run = ref22_Reject N id0 c1 most2 := by kernel_rfl
noncomputable def Ev156 : (R : Type) → Env R := Env.addFn (Ev155 N) 110 (fun R => fnK [(.int .u8), dC, (.int .i64)] [dC] (fun c => ref22_Reject N c.1 c.2.1 c.2.2.1))
theorem Ev156_ok (R : Type) : EnvOK Tryz.prog (Ev156 N R) := EnvOK.addFn hmx (Ev155_ok N R) (Ev155_ok N _) (by kernel_rfl) (fun c => ref22_Reject_S N c.1 c.2.1 c.2.2.1)
noncomputable def ref23_Next (N : Nat) (state0 : Int) (event1 : Int) : Option (Int × (List Int) × Int) :=
 bif (decide (event1 = (0 : Int))) then
  Option.bind (some ((cond false true (decide (state0 < (0 : Int)))))) fun (v3 : Bool) =>
  Option.bind (bif v3 then
    some (true)
   else
    some ((cond false true (decide ((9 : Int) < state0))))) fun (v4 : Bool) =>
  bif v4 then
   some (((0 : Int), (([] : List Int), (1 : Int))))
  else
   Option.bind (getI ([([2] : List Int), ([6, 5, 7] : List Int), ([-1] : List Int), ([-1] : List Int), ([-1] : List Int), ([-1] : List Int), ([-1] : List Int), ([-1] : List Int), ([-1] : List Int), ([-1] : List Int)] : List ((List Int))) state0) fun (v5 : (List Int)) =>
   Option.bind (getI v5 (0 : Int)) fun (v6 : Int) =>
   bif (decide (v6 < (0 : Int))) then
    some (((0 : Int), (([] : List Int), (11 : Int))))
   else
    Option.bind (getI v5 (0 : Int)) fun (v7 : Int) =>
    Option.bind (dropI v5 (1 : Int)) fun (v8 : (List Int)) =>
    some ((v7, (v8, (0 : Int))))
 else
  bif (decide (event1 = (1 : Int))) then
   Option.bind (some ((cond false true (decide (state0 < (0 : Int)))))) fun (v3 : Bool) =>
   Option.bind (bif v3 then
     some (true)
    else
     some ((cond false true (decide ((9 : Int) < state0))))) fun (v4 : Bool) =>
   bif v4 then
    some (((0 : Int), (([] : List Int), (1 : Int))))
   else
    Option.bind (getI ([([-1] : List Int), ([-1] : List Int), ([0] : List Int), ([1, 3] : List Int), ([0] : List Int), ([1] : List Int), ([1] : List Int), ([1] : List Int), ([1] : List Int), ([1, 2] : List Int)] : List ((List Int))) state0) fun (v5 : (List Int)) =>
    Option.bind (getI v5 (0 : Int)) fun (v6 : Int) =>
    bif (decide (v6 < (0 : Int))) then
     some (((0 : Int), (([] : List Int), (11 : Int))))
    else
     Option.bind (getI v5 (0 : Int)) fun (v7 : Int) =>
     Option.bind (dropI v5 (1 : Int)) fun (v8 : (List Int)) =>
     some ((v7, (v8, (0 : Int))))
  else
   bif (decide (event1 = (2 : Int))) then
    Option.bind (some ((cond false true (decide (state0 < (0 : Int)))))) fun (v3 : Bool) =>
    Option.bind (bif v3 then
      some (true)
     else
      some ((cond false true (decide ((9 : Int) < state0))))) fun (v4 : Bool) =>
    bif v4 then
     some (((0 : Int), (([] : List Int), (1 : Int))))
    else
     Option.bind (getI ([([1, 3] : List Int), ([1] : List Int), ([6, 5, 7] : List Int), ([3] : List Int), ([5] : List Int), ([5] : List Int), ([6] : List Int), ([7] : List Int), ([8] : List Int), ([9] : List Int)] : List ((List Int))) state0) fun (v5 : (List Int)) =>
     Option.bind (getI v5 (0 : Int)) fun (v6 : Int) =>
     bif (decide (v6 < (0 : Int))) then
      some (((0 : Int), (([] : List Int), (11 : Int))))
     else
      Option.bind (getI v5 (0 : Int)) fun (v7 : Int) =>
      Option.bind (dropI v5 (1 : Int)) fun (v8 : (List Int)) =>
      some ((v7, (v8, (0 : Int))))
   else
    bif (decide (event1 = (3 : Int))) then
     Option.bind (some ((cond false true (decide (state0 < (0 : Int)))))) fun (v3 : Bool) =>
     Option.bind (bif v3 then
       some (true)
      else
       some ((cond false true (decide ((9 : Int) < state0))))) fun (v4 : Bool) =>
     bif v4 then
      some (((0 : Int), (([] : List Int), (1 : Int))))
     else
      Option.bind (getI ([([0] : List Int), ([0, 4] : List Int), ([2] : List Int), ([2] : List Int), ([4] : List Int), ([4] : List Int), ([4, 5, 10] : List Int), ([4, 5, 10] : List Int), ([4, 5, 10] : List Int), ([4, 2, 5, 10] : List Int)] : List ((List Int))) state0) fun (v5 : (List Int)) =>
      Option.bind (getI v5 (0 : Int)) fun (v6 : Int) =>
      bif (decide (v6 < (0 : Int))) then
       some (((0 : Int), (([] : List Int), (11 : Int))))
      else
       Option.bind (getI v5 (0 : Int)) fun (v7 : Int) =>
       Option.bind (dropI v5 (1 : Int)) fun (v8 : (List Int)) =>
       some ((v7, (v8, (0 : Int))))
    else
     bif (decide (event1 = (4 : Int))) then
      Option.bind (some ((cond false true (decide (state0 < (0 : Int)))))) fun (v3 : Bool) =>
      Option.bind (bif v3 then
        some (true)
       else
        some ((cond false true (decide ((9 : Int) < state0))))) fun (v4 : Bool) =>
      bif v4 then
       some (((0 : Int), (([] : List Int), (1 : Int))))
      else
       Option.bind (getI ([([-1] : List Int), ([-1] : List Int), ([-1] : List Int), ([-1] : List Int), ([4, 10] : List Int), ([5, 10] : List Int), ([6, 7] : List Int), ([6, 7] : List Int), ([8, 7] : List Int), ([-1] : List Int)] : List ((List Int))) state0) fun (v5 : (List Int)) =>
       Option.bind (getI v5 (0 : Int)) fun (v6 : Int) =>
       bif (decide (v6 < (0 : Int))) then
        some (((0 : Int), (([] : List Int), (11 : Int))))
       else
        Option.bind (getI v5 (0 : Int)) fun (v7 : Int) =>
        Option.bind (dropI v5 (1 : Int)) fun (v8 : (List Int)) =>
        some ((v7, (v8, (0 : Int))))
     else
      bif (decide (event1 = (5 : Int))) then
       Option.bind (some ((cond false true (decide (state0 < (0 : Int)))))) fun (v3 : Bool) =>
       Option.bind (bif v3 then
         some (true)
        else
         some ((cond false true (decide ((9 : Int) < state0))))) fun (v4 : Bool) =>
       bif v4 then
        some (((0 : Int), (([] : List Int), (1 : Int))))
       else
        Option.bind (getI ([([-1] : List Int), ([-1] : List Int), ([-1] : List Int), ([-1] : List Int), ([2, 4] : List Int), ([3, 4] : List Int), ([3, 4] : List Int), ([3, 4] : List Int), ([3, 4] : List Int), ([-1] : List Int)] : List ((List Int))) state0) fun (v5 : (List Int)) =>
        Option.bind (getI v5 (0 : Int)) fun (v6 : Int) =>
        bif (decide (v6 < (0 : Int))) then
         some (((0 : Int), (([] : List Int), (11 : Int))))
        else
         Option.bind (getI v5 (0 : Int)) fun (v7 : Int) =>
         Option.bind (dropI v5 (1 : Int)) fun (v8 : (List Int)) =>
         some ((v7, (v8, (0 : Int))))
      else
       bif (decide (event1 = (6 : Int))) then
        Option.bind (some ((cond false true (decide (state0 < (0 : Int)))))) fun (v3 : Bool) =>
        Option.bind (bif v3 then
          some (true)
         else
          some ((cond false true (decide ((9 : Int) < state0))))) fun (v4 : Bool) =>
        bif v4 then
         some (((0 : Int), (([] : List Int), (1 : Int))))
        else
         Option.bind (getI ([([-1] : List Int), ([-1] : List Int), ([2, 11] : List Int), ([8, 5, 7, 8] : List Int), ([4] : List Int), ([5] : List Int), ([8, 8] : List Int), ([9, 8, 1] : List Int), ([8, 8] : List Int), ([8, 2, 7, 8] : List Int)] : List ((List Int))) state0) fun (v5 : (List Int)) =>
         Option.bind (getI v5 (0 : Int)) fun (v6 : Int) =>
         bif (decide (v6 < (0 : Int))) then
          some (((0 : Int), (([] : List Int), (11 : Int))))
         else
          Option.bind (getI v5 (0 : Int)) fun (v7 : Int) =>
          Option.bind (dropI v5 (1 : Int)) fun (v8 : (List Int)) =>
          some ((v7, (v8, (0 : Int))))
       else
        bif (decide (event1 = (7 : Int))) then
         Option.bind (some ((cond false true (decide (state0 < (0 : Int)))))) fun (v3 : Bool) =>
         Option.bind (bif v3 then
           some (true)
          else
           some ((cond false true (decide ((9 : Int) < state0))))) fun (v4 : Bool) =>
         bif v4 then
          some (((0 : Int), (([] : List Int), (1 : Int))))
         else
          Option.bind (getI ([([-1] : List Int), ([-1] : List Int), ([2, 11] : List Int), ([6, 5, 7, 9] : List Int), ([4] : List Int), ([5] : List Int), ([6, 9] : List Int), ([7, 9] : List Int), ([6, 9] : List Int), ([6, 2, 7, 9] : List Int)] : List ((List Int))) state0) fun (v5 : (List Int)) =>
          Option.bind (getI v5 (0 : Int)) fun (v6 : Int) =>
          bif (decide (v6 < (0 : Int))) then
           some (((0 : Int), (([] : List Int), (11 : Int))))
          else
           Option.bind (getI v5 (0 : Int)) fun (v7 : Int) =>
           Option.bind (dropI v5 (1 : Int)) fun (v8 : (List Int)) =>
           some ((v7, (v8, (0 : Int))))
        else
         bif (decide (event1 = (8 : Int))) then
          Option.bind (some ((cond false true (decide (state0 < (0 : Int)))))) fun (v3 : Bool) =>
          Option.bind (bif v3 then
            some (true)
           else
            some ((cond false true (decide ((9 : Int) < state0))))) fun (v4 : Bool) =>
          bif v4 then
           some (((0 : Int), (([] : List Int), (1 : Int))))
          else
           Option.bind (getI ([([-1] : List Int), ([-1] : List Int), ([2, 11] : List Int), ([3, 11] : List Int), ([4] : List Int), ([5] : List Int), ([7, 5] : List Int), ([6, 7] : List Int), ([9, 5, 1] : List Int), ([6, 2, 7] : List Int)] : List ((List Int))) state0) fun (v5 : (List Int)) =>
           Option.bind (getI v5 (0 : Int)) fun (v6 : Int) =>
           bif (decide (v6 < (0 : Int))) then
            some (((0 : Int), (([] : List Int), (11 : Int))))
           else
            Option.bind (getI v5 (0 : Int)) fun (v7 : Int) =>
            Option.bind (dropI v5 (1 : Int)) fun (v8 : (List Int)) =>
            some ((v7, (v8, (0 : Int))))
         else
          bif (decide (event1 = (9 : Int))) then
           Option.bind (some ((cond false true (decide (state0 < (0 : Int)))))) fun (v3 : Bool) =>
           Option.bind (bif v3 then
             some (true)
            else
             some ((cond false true (decide ((9 : Int) < state0))))) fun (v4 : Bool) =>
           bif v4 then
            some (((0 : Int), (([] : List Int), (1 : Int))))
           else
            Option.bind (getI ([([-1] : List Int), ([-1] : List Int), ([2, 11] : List Int), ([3, 11] : List Int), ([4] : List Int), ([5] : List Int), ([6, 5, 7] : List Int), ([6, 7] : List Int), ([8, 5, 7] : List Int), ([6, 2, 7] : List Int)] : List ((List Int))) state0) fun (v5 : (List Int)) =>
            Option.bind (getI v5 (0 : Int)) fun (v6 : Int) =>
            bif (decide (v6 < (0 : Int))) then
             some (((0 : Int), (([] : List Int), (11 : Int))))
            else
             Option.bind (getI v5 (0 : Int)) fun (v7 : Int) =>
             Option.bind (dropI v5 (1 : Int)) fun (v8 : (List Int)) =>
             some ((v7, (v8, (0 : Int))))
          else
           bif (decide (event1 = (10 : Int))) then
            Option.bind (some ((cond false true (decide (state0 < (0 : Int)))))) fun (v3 : Bool) =>
            Option.bind (bif v3 then
              some (true)
             else
              some ((cond false true (decide ((9 : Int) < state0))))) fun (v4 : Bool) =>
            bif v4 then
             some (((0 : Int), (([] : List Int), (1 : Int))))
            else
             Option.bind (getI ([([-1] : List Int), ([-1] : List Int), ([2, 11] : List Int), ([3, 11] : List Int), ([4, 11] : List Int), ([5, 11] : List Int), ([6, 11] : List Int), ([6, 11] : List Int), ([6, 11] : List Int), ([5, 2, 6, 11] : List Int)] : List ((List Int))) state0) fun (v5 : (List Int)) =>
             Option.bind (getI v5 (0 : Int)) fun (v6 : Int) =>
             bif (decide (v6 < (0 : Int))) then
              some (((0 : Int), (([] : List Int), (11 : Int))))
             else
              Option.bind (getI v5 (0 : Int)) fun (v7 : Int) =>
              Option.bind (dropI v5 (1 : Int)) fun (v8 : (List Int)) =>
              some ((v7, (v8, (0 : Int))))
           else
            bif (decide (event1 = (11 : Int))) then
             Option.bind (some ((cond false true (decide (state0 < (0 : Int)))))) fun (v3 : Bool) =>
             Option.bind (bif v3 then
               some (true)
              else
               some ((cond false true (decide ((9 : Int) < state0))))) fun (v4 : Bool) =>
             bif v4 then
              some (((0 : Int), (([] : List Int), (1 : Int))))
             else
              Option.bind (getI ([([-1] : List Int), ([-1] : List Int), ([2] : List Int), ([3] : List Int), ([2, 4] : List Int), ([3, 4] : List Int), ([6] : List Int), ([6] : List Int), ([8] : List Int), ([6, 2, 7] : List Int)] : List ((List Int))) state0) fun (v5 : (List Int)) =>
              Option.bind (getI v5 (0 : Int)) fun (v6 : Int) =>
              bif (decide (v6 < (0 : Int))) then
               some (((0 : Int), (([] : List Int), (11 : Int))))
              else
               Option.bind (getI v5 (0 : Int)) fun (v7 : Int) =>
               Option.bind (dropI v5 (1 : Int)) fun (v8 : (List Int)) =>
               some ((v7, (v8, (0 : Int))))
            else
             bif (decide (event1 = (12 : Int))) then
              Option.bind (some ((cond false true (decide (state0 < (0 : Int)))))) fun (v3 : Bool) =>
              Option.bind (bif v3 then
                some (true)
               else
                some ((cond false true (decide ((9 : Int) < state0))))) fun (v4 : Bool) =>
              bif v4 then
               some (((0 : Int), (([] : List Int), (1 : Int))))
              else
               Option.bind (getI ([([-1] : List Int), ([-1] : List Int), ([2, 12] : List Int), ([3, 12] : List Int), ([4, 12] : List Int), ([5, 12] : List Int), ([6, 12] : List Int), ([7, 12] : List Int), ([8, 12] : List Int), ([9, 12] : List Int)] : List ((List Int))) state0) fun (v5 : (List Int)) =>
               Option.bind (getI v5 (0 : Int)) fun (v6 : Int) =>
               bif (decide (v6 < (0 : Int))) then
                some (((0 : Int), (([] : List Int), (11 : Int))))
               else
                Option.bind (getI v5 (0 : Int)) fun (v7 : Int) =>
                Option.bind (dropI v5 (1 : Int)) fun (v8 : (List Int)) =>
                some ((v7, (v8, (0 : Int))))
             else
              bif (decide (event1 = (13 : Int))) then
               Option.bind (some ((cond false true (decide (state0 < (0 : Int)))))) fun (v3 : Bool) =>
               Option.bind (bif v3 then
                 some (true)
                else
                 some ((cond false true (decide ((9 : Int) < state0))))) fun (v4 : Bool) =>
               bif v4 then
                some (((0 : Int), (([] : List Int), (1 : Int))))
               else
                Option.bind (getI ([([-1] : List Int), ([-1] : List Int), ([2] : List Int), ([3] : List Int), ([4] : List Int), ([5] : List Int), ([6] : List Int), ([6] : List Int), ([8] : List Int), ([9] : List Int)] : List ((List Int))) state0) fun (v5 : (List Int)) =>
                Option.bind (getI v5 (0 : Int)) fun (v6 : Int) =>
                bif (decide (v6 < (0 : Int))) then
                 some (((0 : Int), (([] : List Int), (11 : Int))))
                else
                 Option.bind (getI v5 (0 : Int)) fun (v7 : Int) =>
                 Option.bind (dropI v5 (1 : Int)) fun (v8 : (List Int)) =>
                 some ((v7, (v8, (0 : Int))))
              else
               bif (decide (event1 = (14 : Int))) then
                Option.bind (some ((cond false true (decide (state0 < (0 : Int)))))) fun (v3 : Bool) =>
                Option.bind (bif v3 then
                  some (true)
                 else
                  some ((cond false true (decide ((9 : Int) < state0))))) fun (v4 : Bool) =>
                bif v4 then
                 some (((0 : Int), (([] : List Int), (1 : Int))))
                else
                 Option.bind (getI ([([-1] : List Int), ([-1] : List Int), ([2, 4] : List Int), ([3, 4] : List Int), ([2, 4] : List Int), ([3, 4] : List Int), ([3, 4] : List Int), ([3, 4] : List Int), ([3, 4] : List Int), ([5, 2, 5, 10] : List Int)] : List ((List Int))) state0) fun (v5 : (List Int)) =>
                 Option.bind (getI v5 (0 : Int)) fun (v6 : Int) =>
                 bif (decide (v6 < (0 : Int))) then
                  some (((0 : Int), (([] : List Int), (11 : Int))))
                 else
                  Option.bind (getI v5 (0 : Int)) fun (v7 : Int) =>
                  Option.bind (dropI v5 (1 : Int)) fun (v8 : (List Int)) =>
                  some ((v7, (v8, (0 : Int))))
               else
                bif (decide (event1 = (15 : Int))) then
                 Option.bind (some ((cond false true (decide (state0 < (0 : Int)))))) fun (v3 : Bool) =>
                 Option.bind (bif v3 then
                   some (true)
                  else
                   some ((cond false true (decide ((9 : Int) < state0))))) fun (v4 : Bool) =>
                 bif v4 then
                  some (((0 : Int), (([] : List Int), (1 : Int))))
                 else
                  Option.bind (getI ([([-1] : List Int), ([-1] : List Int), ([2] : List Int), ([3] : List Int), ([4] : List Int), ([5] : List Int), ([6] : List Int), ([7] : List Int), ([8] : List Int), ([9, 13] : List Int)] : List ((List Int))) state0) fun (v5 : (List Int)) =>
                  Option.bind (getI v5 (0 : Int)) fun (v6 : Int) =>
                  bif (decide (v6 < (0 : Int))) then
                   some (((0 : Int), (([] : List Int), (11 : Int))))
                  else
                   Option.bind (getI v5 (0 : Int)) fun (v7 : Int) =>
                   Option.bind (dropI v5 (1 : Int)) fun (v8 : (List Int)) =>
                   some ((v7, (v8, (0 : Int))))
                else
                 some (((0 : Int), (([] : List Int), (1 : Int))))
theorem ref23_Next_S (state0 : Int) (event1 : Int) : (runK Tryz.prog (Ev156 N) 400 72 [(.int .i64), (.int .i64)] [(.int .i64), (.sl (.int .i64)), (.int .i64)] (state0, event1, ())).run = ref23_Next N state0 event1 := by kernel_rfl
noncomputable def Ev157 : (R : Type) → Env R := Env.addFn (Ev156 N) 72 (fun R => fnK [(.int .i64), (.int .i64)] [(.int .i64), (.sl (.int .i64)), (.int .i64)] (fun c => ref23_Next N c.1 c.2.1))
theorem Ev157_ok (R : Type) : EnvOK Tryz.prog (Ev157 N R) := EnvOK.addFn hmx (Ev156_ok N R) (Ev156_ok N _) (by kernel_rfl) (fun c => ref23_Next_S N c.1 c.2.1)
noncomputable def Ev158 : (R : Type) → Env R := Env.addBx (Ev157 N) [(107, 0)]
theorem Ev158_ok (R : Type) : EnvOK Tryz.prog (Ev158 N R) := EnvOK.addBx (Ev157_ok N R) [(107, 0)]
noncomputable def ref24_Init (N : Nat) (r0 : Int × Int) (x1 : Bool) : Option (Int × Int) :=
 bif x1 then
  some (((2 : Int), r0.2))
 else
  some (((10 : Int), r0.2))
theorem ref24_Init_S (r0 : Int × Int) (x1 : Bool) : (runK Tryz.prog (Ev158 N) 400 107 [(.pair (.int .i64) (.int .i64)), .bool] [(.pair (.int .i64) (.int .i64))] (r0, x1, ())).run = ref24_Init N r0 x1 := by kernel_rfl
noncomputable def Ev159 : (R : Type) → Env R := Env.addFn (Ev158 N) 107 (fun R => fnK [(.pair (.int .i64) (.int .i64)), .bool] [(.pair (.int .i64) (.int .i64))] (fun c => ref24_Init N c.1 c.2.1))
theorem Ev159_ok (R : Type) : EnvOK Tryz.prog (Ev159 N R) := EnvOK.addFn hmx (Ev158_ok N R) (Ev158_ok N _) (by kernel_rfl) (fun c => ref24_Init_S N c.1 c.2.1)
noncomputable def Ev160 : (R : Type) → Env R := Env.addBx (Ev159 N) [(109, 0)]
theorem Ev160_ok (R : Type) : EnvOK Tryz.prog (Ev160 N R) := EnvOK.addBx (Ev159_ok N R) [(109, 0)]
noncomputable def ref24_Sent (N : Nat) (r0 : Int × Int) : Option (Int × Int) :=
 bif (decide (r0.1 ≤ (0 : Int))) then
  some (((0 : Int), (3 : Int)))
 else
  some (((IntKind.wrap .i64 (r0.1 - 1)), (3 : Int)))
theorem ref24_Sent_S (r0 : Int × Int) : (runK Tryz.prog (Ev160 N) 400 109 [(.pair (.int .i64) (.int .i64))] [(.pair (.int .i64) (.int .i64))] (r0, ())).run = ref24_Sent N r0 := by kernel_rfl
noncomputable def Ev161 : (R : Type) → Env R := Env.addFn (Ev160 N) 109 (fun R => fnK [(.pair (.int .i64) (.int .i64))] [(.pair (.int .i64) (.int .i64))] (fun c => ref24_Sent N c.1))
theorem Ev161_ok (R : Type) : EnvOK Tryz.prog (Ev161 N R) := EnvOK.addFn hmx (Ev160_ok N R) (Ev160_ok N _) (by kernel_rfl) (fun c => ref24_Sent_S N c.1)
noncomputable def Ev162 : (R : Type) → Env R := Env.addBx (Ev161 N) [(46, 0)]
theorem Ev162_ok (R : Type) : EnvOK Tryz.prog (Ev162 N R) := EnvOK.addBx (Ev161_ok N R) [(46, 0)]
noncomputable def ref24_Tick (N : Nat) (r0 : Int × Int) : Option ((Int × Int) × Bool) :=
 bif (decide (r0.2 ≤ (0 : Int))) then
  some ((r0, false))
 else
  some (((r0.1, (IntKind.wrap .i64 (r0.2 - 1))), (decide (r0.2 = (1 : Int)))))
theorem ref24_Tick_S (r0 : Int × Int) : (runK Tryz.prog (Ev162 N) 400 46 [(.pair (.int .i64) (.int .i64))] [(.pair (.int .i64) (.int .i64)), .bool] (r0, ())).run = ref24_Tick N r0 := by kernel_rfl
noncomputable def Ev163 : (R : Type) → Env R := Env.addFn (Ev162 N) 46 (fun R => fnK [(.pair (.int .i64) (.int .i64))] [(.pair (.int .i64) (.int .i64)), .bool] (fun c => ref24_Tick N c.1))
theorem Ev163_ok (R : Type) : EnvOK Tryz.prog (Ev163 N R) := EnvOK.addFn hmx (Ev162_ok N R) (Ev162_ok N _) (by kernel_rfl) (fun c => ref24_Tick_S N c.1)
noncomputable def Ev164 : (R : Type) → Env R := Env.addMv (Ev163 N) [(144, 1), (144, 3)]
theorem Ev164_ok (R : Type) : EnvOK Tryz.prog (Ev164 N R) := EnvOK.addMv (Ev163_ok N R) [(144, 1), (144, 3)]
noncomputable def Ev165 : (R : Type) → Env R := Env.addBx (Ev164 N) [(144, 0)]
theorem Ev165_ok (R : Type) : EnvOK Tryz.prog (Ev165 N R) := EnvOK.addBx (Ev164_ok N R) [(144, 0)]
noncomputable def ref26_option (kind0 : Int) (a1 : Int) : Option tP :=
 Option.bind (ref01_Big N (IntKind.wrap .u64 a1) (4 : Int)) fun v3 =>
 some ((kind0, v3))
theorem ref26_option_S (kind0 : Int) (a1 : Int) : (runK Tryz.prog (Ev165 N) 400 149 [(.int .u8), (.int .u32)] [(.pair (.int .u8) (.sl (.int .u8)))] (kind0, a1, ())).run = ref26_option N kind0 a1 := by kernel_rfl
noncomputable def Ev166 : (R : Type) → Env R := Env.addFn (Ev165 N) 149 (fun R => fnK [(.int .u8), (.int .u32)] [(.pair (.int .u8) (.sl (.int .u8)))] (fun c => ref26_option N c.1 c.2.1))
theorem Ev166_ok (R : Type) : EnvOK Tryz.prog (Ev166 N R) := EnvOK.addFn hmx (Ev165_ok N R) (Ev165_ok N _) (by kernel_rfl) (fun c => ref26_option_S N c.1 c.2.1)
noncomputable def ref26_Options (s0 : Bool × (Int × (Int × (Int × (Bool))))) : Option tO :=
 Option.bind (ref26_option N (3 : Int) s0.2.1) fun v2 =>
 Option.bind (bif (!s0.1) then
   some ((cond true s0.2.2.2.2 false))
  else
   some (false)) fun (v3 : Bool) =>
 bif v3 then
  Option.bind (ref26_option N (129 : Int) s0.2.2.2.1) fun v4 =>
  some ((([v2] : List (tP)) ++ ([v4] : List (tP))))
 else
  some (([v2] : List (tP)))
theorem ref26_Options_S (s0 : Bool × (Int × (Int × (Int × (Bool))))) : (runK Tryz.prog (Ev166 N) 400 144 [dS] [dO] (s0, ())).run = ref26_Options N s0 := by kernel_rfl
noncomputable def Ev167 : (R : Type) → Env R := Env.addFn (Ev166 N) 144 (fun R => fnK [dS] [dO] (fun c => ref26_Options N c.1))
theorem Ev167_ok (R : Type) : EnvOK Tryz.prog (Ev167 N R) := EnvOK.addFn hmx (Ev166_ok N R) (Ev166_ok N _) (by kernel_rfl) (fun c => ref26_Options_S N c.1)
noncomputable def Ev168 : (R : Type) → Env R := Env.addMv (Ev167 N) [(112, 7), (112, 12)]
theorem Ev168_ok (R : Type) : EnvOK Tryz.prog (Ev168 N R) := EnvOK.addMv (Ev167_ok N R) [(112, 7), (112, 12)]
noncomputable def Ev169 : (R : Type) → Env R := Env.addBx (Ev168 N) [(112, 0)]
theorem Ev169_ok (R : Type) : EnvOK Tryz.prog (Ev169 N R) := EnvOK.addBx (Ev168_ok N R) [(112, 0)]
noncomputable def Ev170 : (R : Type) → Env R := Env.addBx (Ev169 N) [(148, 0)]
theorem Ev170_ok (R : Type) : EnvOK Tryz.prog (Ev170 N R) := EnvOK.addBx (Ev169_ok N R) [(148, 0)]
noncomputable def ref01_Num_L3_I : LI := ⟨20, 0, [], ⟨[(0, .ty (.sl (.int .u8))), (3, .ty (.int .u64)), (4, .ty (.int .i64))], []⟩, [(.exit 0, ⟨[(3, .ty (.int .u64))], []⟩)]⟩
noncomputable def ref01_Num_L3 (N : Nat) (X : (((List Int) × (Int × (Int × Unit))) × Unit) → Option (((Int × Unit) × Unit))) (b0 : List (Int)) (n3 : Int) (i4 : Int) : Option (((Int × Unit) × Unit)) :=
 bif (decide (i4 < (((List.length b0) : Nat) : Int))) then
  Option.bind (getI b0 i4) fun (v5 : Int) =>
  (X ((b0, ((IntKind.wrap .u64 ((IntKind.wrap .u64 (n3 * (256 : Int))) + (IntKind.wrap .u64 v5))), ((IntKind.wrap .i64 (i4 + 1)), ()))), ()))
 else
  some (((n3, ()), ()))
noncomputable def ref01_Num_L3_R (c : (((List Int) × (Int × (Int × Unit))) × Unit)) : Option (((Int × Unit) × Unit)) := gl (fun X c => ref01_Num_L3 N X c.1.1 c.1.2.1 c.1.2.2.1) N c
theorem ref01_Num_L3_S (X : (((List Int) × (Int × (Int × Unit))) × Unit) → Option (((Int × Unit) × Unit))) (b0 : List (Int)) (n3 : Int) (i4 : Int) : (roundK Tryz.prog (Ev170 N) 400 [54] ref01_Num_L3_I (loopAt Tryz.prog [54] 3) X ((b0, n3, i4, ()), ())).run = ref01_Num_L3 N X b0 n3 i4 := by kernel_rfl
noncomputable def Ev171 : (R : Type) → Env R := Env.addLp (Ev170 N) [54] 0 3 (fun R => lpK Tryz.prog ref01_Num_L3_I (fun X c => ref01_Num_L3 N X c.1.1 c.1.2.1 c.1.2.2.1) N)
theorem Ev171_ok (R : Type) : EnvOK Tryz.prog (Ev171 N R) := EnvOK.addLp (Ev170_ok N R) (by kernel_rfl) (lpK_ok (li := ref01_Num_L3_I) (G := fun X c => ref01_Num_L3 N X c.1.1 c.1.2.1 c.1.2.2.1) hmx (Ev170_ok N _) (by kernel_rfl) lAs (fun (X : CT ref01_Num_L3_I.sh → Option (OT ref01_Num_L3_I.outs)) (c : CT ref01_Num_L3_I.sh) => ref01_Num_L3_S N X c.1.1 c.1.2.1 c.1.2.2.1) N)
noncomputable def ref01_Num (b0 : List (Int)) : Option Int :=
 Option.bind (ref01_Num_L3_R N ((b0, ((0 : Int), ((0 : Int), ()))), ())) fun v2 =>
 some (v2.1.1)
theorem ref01_Num_S (b0 : List (Int)) : (runK Tryz.prog (Ev171 N) 400 54 [(.sl (.int .u8))] [(.int .u64)] (b0, ())).run = ref01_Num N b0 := by kernel_rfl
noncomputable def Ev172 : (R : Type) → Env R := Env.addFn (Ev171 N) 54 (fun R => fnK [(.sl (.int .u8))] [(.int .u64)] (fun c => ref01_Num N c.1))
theorem Ev172_ok (R : Type) : EnvOK Tryz.prog (Ev172 N R) := EnvOK.addFn hmx (Ev171_ok N R) (Ev171_ok N _) (by kernel_rfl) (fun c => ref01_Num_S N c.1)
noncomputable def ref26_rejects (s0 : Bool × (Int × (Int × (Int × (Bool))))) (o1 : Int × (List Int)) (met2 : Bool) : Option Bool :=
 bif met2 then
  some (true)
 else
  Option.bind (some ((cond false true (!(decide ((((List.length o1.2) : Nat) : Int) = (4 : Int))))))) fun (v4 : Bool) =>
  bif v4 then
   some (true)
  else
   bif s0.1 then
    Option.bind (bif (!(decide (o1.1 = (3 : Int)))) then
      bif (!(decide (o1.1 = (129 : Int)))) then
       some ((cond true true false))
      else
       some ((cond true (cond false true (decide (s0.2.2.2.1 = (0 : Int)))) false))
     else
      some (false)) fun (v5 : Bool) =>
    some (v5)
   else
    bif (!(decide (o1.1 = (3 : Int)))) then
     some (true)
    else
     Option.bind (ref01_Num N o1.2) fun v5 =>
     Option.bind (some ((cond false true (decide (v5 = (0 : Int)))))) fun (v6 : Bool) =>
     some (v6)
theorem ref26_rejects_S (s0 : Bool × (Int × (Int × (Int × (Bool))))) (o1 : Int × (List Int)) (met2 : Bool) : (runK Tryz.prog (Ev172 N) 400 148 [dS, (.pair (.int .u8) (.sl (.int .u8))), .bool] [.bool] (s0, o1, met2, ())).run = ref26_rejects N s0 o1 met2 := by kernel_rfl
noncomputable def Ev173 : (R : Type) → Env R := Env.addFn (Ev172 N) 148 (fun R => fnK [dS, (.pair (.int .u8) (.sl (.int .u8))), .bool] [.bool] (fun c => ref26_rejects N c.1 c.2.1 c.2.2.1))
theorem Ev173_ok (R : Type) : EnvOK Tryz.prog (Ev173 N R) := EnvOK.addFn hmx (Ev172_ok N R) (Ev172_ok N _) (by kernel_rfl) (fun c => ref26_rejects_S N c.1 c.2.1 c.2.2.1)
noncomputable def r6J_L3_I : LI := ⟨86, 0, [(6, 129), (7, 129)], ⟨[(1, .ty dO), (2, .adr dS), (6, .lit (.own 0)), (7, .lit (.own 1)), (8, .ty (.int .i64))], [.own (.pair (.int .u8) (.sl (.int .u8))) 129, .own (.pair (.int .u8) (.sl (.int .u8))) 129]⟩, [(.exit 0, ⟨[(1, .ty dO), (6, .lit (.own 0)), (7, .lit (.own 1))], [.own (.pair (.int .u8) (.sl (.int .u8))) 129, .own (.pair (.int .u8) (.sl (.int .u8))) 129]⟩)]⟩
noncomputable def r6J_L3 (X : ((tO × ((Bool × (Int × (Int × (Int × (Bool))))) × (Int × Unit))) × (tO × (tO × Unit))) → Option (((tO × Unit) × (tO × (tO × Unit))))) (l1 : tO) (s2 : Bool × (Int × (Int × (Int × (Bool))))) (i8 : Int) (h0 : tO) (h1 : tO) : Option (((tO × Unit) × (tO × (tO × Unit)))) :=
 bif (decide (i8 < (((List.length l1) : Nat) : Int))) then
  Option.bind (takeI l1 i8) fun (v7 : tO) =>
  Option.bind (getI l1 i8) fun (v8 : tP) =>
  Option.bind (ref21_Find N v7 v8.1) fun v9 =>
  Option.bind (getI l1 i8) fun (v10 : tP) =>
  Option.bind (ref26_rejects N s2 v10 v9.2) fun v11 =>
  bif v11 then
   Option.bind (getI l1 i8) fun (v12 : tP) =>
   bif (roomB ((List.length h0) + (List.length ([v12] : List (tP)))) 32) then
    (X ((l1, (s2, ((IntKind.wrap .i64 (i8 + 1)), ()))), ((h0 ++ ([v12] : List (tP))), (h1, ()))))
   else
    none
  else
   Option.bind (getI l1 i8) fun (v12 : tP) =>
   bif (decide (v12.1 = (129 : Int))) then
    bif s2.1 then
     Option.bind (getI l1 i8) fun (v13 : tP) =>
     Option.bind (ref01_Num N v13.2) fun v14 =>
     Option.bind (some ((cond true (!(decide ((IntKind.wrap .u32 v14) = s2.2.2.2.1))) false))) fun (v15 : Bool) =>
     bif v15 then
      Option.bind (getI l1 i8) fun (v16 : tP) =>
      Option.bind (ref26_option N v16.1 s2.2.2.2.1) fun v17 =>
      bif (roomB ((List.length h1) + (List.length ([v17] : List (tP)))) 32) then
       (X ((l1, (s2, ((IntKind.wrap .i64 (i8 + 1)), ()))), (h0, ((h1 ++ ([v17] : List (tP))), ()))))
      else
       none
     else
      (X ((l1, (s2, ((IntKind.wrap .i64 (i8 + 1)), ()))), (h0, (h1, ()))))
    else
     (X ((l1, (s2, ((IntKind.wrap .i64 (i8 + 1)), ()))), (h0, (h1, ()))))
   else
    bif s2.1 then
     Option.bind (getI l1 i8) fun (v13 : tP) =>
     Option.bind (ref01_Num N v13.2) fun v14 =>
     Option.bind (some ((cond true (!(decide ((IntKind.wrap .u32 v14) = s2.2.2.1))) false))) fun (v15 : Bool) =>
     bif v15 then
      Option.bind (getI l1 i8) fun (v16 : tP) =>
      Option.bind (ref26_option N v16.1 s2.2.2.1) fun v17 =>
      bif (roomB ((List.length h1) + (List.length ([v17] : List (tP)))) 32) then
       (X ((l1, (s2, ((IntKind.wrap .i64 (i8 + 1)), ()))), (h0, ((h1 ++ ([v17] : List (tP))), ()))))
      else
       none
     else
      (X ((l1, (s2, ((IntKind.wrap .i64 (i8 + 1)), ()))), (h0, (h1, ()))))
    else
     (X ((l1, (s2, ((IntKind.wrap .i64 (i8 + 1)), ()))), (h0, (h1, ()))))
 else
  some (((l1, ()), (h0, (h1, ()))))
noncomputable def r6J_L3_R (c : ((tO × ((Bool × (Int × (Int × (Int × (Bool))))) × (Int × Unit))) × (tO × (tO × Unit)))) : Option (((tO × Unit) × (tO × (tO × Unit)))) := gl (fun X c => r6J_L3 N X c.1.1 c.1.2.1 c.1.2.2.1 c.2.1 c.2.2.1) N c
theorem r6J_L3_S (X : ((tO × ((Bool × (Int × (Int × (Int × (Bool))))) × (Int × Unit))) × (tO × (tO × Unit))) → Option (((tO × Unit) × (tO × (tO × Unit))))) (l1 : tO) (s2 : Bool × (Int × (Int × (Int × (Bool))))) (i8 : Int) (h0 : tO) (h1 : tO) : (roundK Tryz.prog (Ev173 N) 400 [112] r6J_L3_I (loopAt Tryz.prog [112] 3) X ((l1, s2, i8, ()), (h0, h1, ()))).run = r6J_L3 N X l1 s2 i8 h0 h1 := by kernel_rfl
noncomputable def Ev174 : (R : Type) → Env R := Env.addLp (Ev173 N) [112] 0 3 (fun R => lpK Tryz.prog r6J_L3_I (fun X c => r6J_L3 N X c.1.1 c.1.2.1 c.1.2.2.1 c.2.1 c.2.2.1) N)
theorem Ev174_ok (R : Type) : EnvOK Tryz.prog (Ev174 N R) := EnvOK.addLp (Ev173_ok N R) (by kernel_rfl) (lpK_ok (li := r6J_L3_I) (G := fun X c => r6J_L3 N X c.1.1 c.1.2.1 c.1.2.2.1 c.2.1 c.2.2.1) hmx (Ev173_ok N _) (by kernel_rfl) lAs (fun (X : CT r6J_L3_I.sh → Option (OT r6J_L3_I.outs)) (c : CT r6J_L3_I.sh) => r6J_L3_S N X c.1.1 c.1.2.1 c.1.2.2.1 c.2.1 c.2.2.1) N)
noncomputable def r6J (s0 : Bool × (Int × (Int × (Int × (Bool))))) (l1 : tO) : Option (Int × tO) :=
 Option.bind (r6J_L3_R N ((l1, (s0, ((0 : Int), ()))), (([] : List (tP)), (([] : List (tP)), ())))) fun v3 =>
 bif (decide ((0 : Int) < (((List.length v3.2.1) : Nat) : Int))) then
  some (((4 : Int), v3.2.1))
 else
  bif (decide ((0 : Int) < (((List.length v3.2.2.1) : Nat) : Int))) then
   some (((3 : Int), v3.2.2.1))
  else
   some (((2 : Int), v3.1.1))
theorem r6J_S (s0 : Bool × (Int × (Int × (Int × (Bool))))) (l1 : tO) : (runK Tryz.prog (Ev174 N) 400 112 [dS, dO] [(.int .u8), dO] (s0, l1, ())).run = r6J N s0 l1 := by kernel_rfl
noncomputable def Ev175 : (R : Type) → Env R := Env.addFn (Ev174 N) 112 (fun R => fnK [dS, dO] [(.int .u8), dO] (fun c => r6J N c.1 c.2.1))
theorem Ev175_ok (R : Type) : EnvOK Tryz.prog (Ev175 N R) := EnvOK.addFn hmx (Ev174_ok N R) (Ev174_ok N _) (by kernel_rfl) (fun c => r6J_S N c.1 c.2.1)
noncomputable def r6t_L2_I : LI := ⟨44, 0, [], ⟨[(0, .ty dO), (1, .ty (.int .u8)), (5, .ty (.int .i64))], []⟩, [(.ret, ⟨[(4, .ty (.int .u32))], []⟩), (.exit 0, ⟨[], []⟩)]⟩
noncomputable def r6t_L2 (X : ((tO × (Int × (Int × Unit))) × Unit) → Option ((((Int × Unit) × Unit) ⊕ (Unit × Unit)))) (l0 : tO) (kind1 : Int) (i5 : Int) : Option ((((Int × Unit) × Unit) ⊕ (Unit × Unit))) :=
 bif (decide (i5 < (((List.length l0) : Nat) : Int))) then
  Option.bind (getI l0 i5) fun (v5 : tP) =>
  bif (decide (v5.1 = kind1)) then
   Option.bind (getI l0 i5) fun (v6 : tP) =>
   Option.bind (some ((cond true (decide ((((List.length v6.2) : Nat) : Int) = (4 : Int))) false))) fun (v7 : Bool) =>
   bif v7 then
    Option.bind (getI l0 i5) fun (v8 : tP) =>
    Option.bind (ref01_Num N v8.2) fun v9 =>
    Option.bind (some ((cond true (!(decide (v9 = (0 : Int)))) false))) fun (v10 : Bool) =>
    bif v10 then
     Option.bind (getI l0 i5) fun (v11 : tP) =>
     Option.bind (ref01_Num N v11.2) fun v12 =>
     some ((.inl (((IntKind.wrap .u32 v12), ()), ())))
    else
     (X ((l0, (kind1, ((IntKind.wrap .i64 (i5 + 1)), ()))), ()))
   else
    (X ((l0, (kind1, ((IntKind.wrap .i64 (i5 + 1)), ()))), ()))
  else
   (X ((l0, (kind1, ((IntKind.wrap .i64 (i5 + 1)), ()))), ()))
 else
  some ((.inr ((), ())))
noncomputable def r6t_L2_R (c : ((tO × (Int × (Int × Unit))) × Unit)) : Option ((((Int × Unit) × Unit) ⊕ (Unit × Unit))) := gl (fun X c => r6t_L2 N X c.1.1 c.1.2.1 c.1.2.2.1) N c
theorem r6t_L2_S (X : ((tO × (Int × (Int × Unit))) × Unit) → Option ((((Int × Unit) × Unit) ⊕ (Unit × Unit)))) (l0 : tO) (kind1 : Int) (i5 : Int) : (roundK Tryz.prog (Ev175 N) 400 [155] r6t_L2_I (loopAt Tryz.prog [155] 2) X ((l0, kind1, i5, ()), ())).run = r6t_L2 N X l0 kind1 i5 := by kernel_rfl
noncomputable def Ev176 : (R : Type) → Env R := Env.addLp (Ev175 N) [155] 0 2 (fun R => lpK Tryz.prog r6t_L2_I (fun X c => r6t_L2 N X c.1.1 c.1.2.1 c.1.2.2.1) N)
theorem Ev176_ok (R : Type) : EnvOK Tryz.prog (Ev176 N R) := EnvOK.addLp (Ev175_ok N R) (by kernel_rfl) (lpK_ok (li := r6t_L2_I) (G := fun X c => r6t_L2 N X c.1.1 c.1.2.1 c.1.2.2.1) hmx (Ev175_ok N _) (by kernel_rfl) lAs (fun (X : CT r6t_L2_I.sh → Option (OT r6t_L2_I.outs)) (c : CT r6t_L2_I.sh) => r6t_L2_S N X c.1.1 c.1.2.1 c.1.2.2.1) N)
noncomputable def r6t (l0 : tO) (kind1 : Int) : Option Int :=
 Option.bind (r6t_L2_R N ((l0, (kind1, ((0 : Int), ()))), ())) fun v3 =>
 Sum.elim
  (fun (v4 : ((Int × Unit) × Unit)) =>
  some (v4.1.1))
  (fun (v4 : (Unit × Unit)) =>
  some ((0 : Int))) v3
theorem r6t_S (l0 : tO) (kind1 : Int) : (runK Tryz.prog (Ev176 N) 400 155 [dO, (.int .u8)] [(.int .u32)] (l0, kind1, ())).run = r6t N l0 kind1 := by kernel_rfl
noncomputable def Ev177 : (R : Type) → Env R := Env.addFn (Ev176 N) 155 (fun R => fnK [dO, (.int .u8)] [(.int .u32)] (fun c => r6t N c.1 c.2.1))
theorem Ev177_ok (R : Type) : EnvOK Tryz.prog (Ev177 N R) := EnvOK.addFn hmx (Ev176_ok N R) (Ev176_ok N _) (by kernel_rfl) (fun c => r6t_S N c.1 c.2.1)
noncomputable def ref26_Naked (s0 : Bool × (Int × (Int × (Int × (Bool))))) (l1 : tO) : Option (Bool × (Int × (Int × (Int × (Bool))))) :=
 bif s0.1 then
  some (s0)
 else
  Option.bind (r6t N l1 (3 : Int)) fun v3 =>
  bif (!(decide (v3 = (0 : Int)))) then
   Option.bind (r6t N l1 (129 : Int)) fun v4 =>
   Option.bind (bif (!(decide (v4 = (0 : Int)))) then
     some ((cond true s0.2.2.2.2 false))
    else
     some (false)) fun (v5 : Bool) =>
   bif v5 then
    some ((s0.1, (v3, (s0.2.2.1, (v4, s0.2.2.2.2)))))
   else
    some ((s0.1, (v3, s0.2.2)))
  else
   Option.bind (r6t N l1 (129 : Int)) fun v4 =>
   Option.bind (bif (!(decide (v4 = (0 : Int)))) then
     some ((cond true s0.2.2.2.2 false))
    else
     some (false)) fun (v5 : Bool) =>
   bif v5 then
    some ((s0.1, (s0.2.1, (s0.2.2.1, (v4, s0.2.2.2.2)))))
   else
    some (s0)
theorem ref26_Naked_S (s0 : Bool × (Int × (Int × (Int × (Bool))))) (l1 : tO) : (runK Tryz.prog (Ev177 N) 400 117 [dS, dO] [dS] (s0, l1, ())).run = ref26_Naked N s0 l1 := by kernel_rfl
noncomputable def Ev178 : (R : Type) → Env R := Env.addFn (Ev177 N) 117 (fun R => fnK [dS, dO] [dS] (fun c => ref26_Naked N c.1 c.2.1))
theorem Ev178_ok (R : Type) : EnvOK Tryz.prog (Ev178 N R) := EnvOK.addFn hmx (Ev177_ok N R) (Ev177_ok N _) (by kernel_rfl) (fun c => ref26_Naked_S N c.1 c.2.1)
noncomputable def ref26_Rejected (s0 : Bool × (Int × (Int × (Int × (Bool))))) (l1 : tO) : Option ((Bool × (Int × (Int × (Int × (Bool))))) × Bool) :=
 Option.bind (ref21_Find N l1 (129 : Int)) fun v3 =>
 Option.bind (bif v3.2 then
   some ((cond true (!s0.1) false))
  else
   some (false)) fun (v4 : Bool) =>
 bif v4 then
  Option.bind (ref21_Find N l1 (3 : Int)) fun v5 =>
  some (((s0.1, (s0.2.1, (s0.2.2.1, (s0.2.2.2.1, false)))), (!v5.2)))
 else
  Option.bind (ref21_Find N l1 (3 : Int)) fun v5 =>
  some ((s0, (!v5.2)))
theorem ref26_Rejected_S (s0 : Bool × (Int × (Int × (Int × (Bool))))) (l1 : tO) : (runK Tryz.prog (Ev178 N) 400 118 [dS, dO] [dS, .bool] (s0, l1, ())).run = ref26_Rejected N s0 l1 := by kernel_rfl
noncomputable def Ev179 : (R : Type) → Env R := Env.addFn (Ev178 N) 118 (fun R => fnK [dS, dO] [dS, .bool] (fun c => ref26_Rejected N c.1 c.2.1))
theorem Ev179_ok (R : Type) : EnvOK Tryz.prog (Ev179 N R) := EnvOK.addFn hmx (Ev178_ok N R) (Ev178_ok N _) (by kernel_rfl) (fun c => ref26_Rejected_S N c.1 c.2.1)
noncomputable def Ev180 : (R : Type) → Env R := Env.addBx (Ev179 N) [(108, 0)]
theorem Ev180_ok (R : Type) : EnvOK Tryz.prog (Ev180 N R) := EnvOK.addBx (Ev179_ok N R) [(108, 0)]
noncomputable def ref27_asks (r0 : tR) : Option tO :=
 bif r0.1 then
  Option.bind (ref26_Options N r0.2.2.2) fun v2 =>
  some (v2)
 else
  none
theorem ref27_asks_S (r0 : tR) : (runK Tryz.prog (Ev180 N) 400 108 [dR] [dO] (r0, ())).run = ref27_asks N r0 := by kernel_rfl
noncomputable def Ev181 : (R : Type) → Env R := Env.addFn (Ev180 N) 108 (fun R => fnK [dR] [dO] (fun c => ref27_asks N c.1))
theorem Ev181_ok (R : Type) : EnvOK Tryz.prog (Ev181 N R) := EnvOK.addFn hmx (Ev180_ok N R) (Ev180_ok N _) (by kernel_rfl) (fun c => ref27_asks_S N c.1)
noncomputable def ref27_has_L2_I : LI := ⟨18, 0, [], ⟨[(0, .ty (.sl (.int .i64))), (1, .ty (.int .i64)), (5, .ty (.int .i64))], []⟩, [(.ret, ⟨[(4, .ty .bool)], []⟩), (.exit 0, ⟨[], []⟩)]⟩
noncomputable def ref27_has_L2 (N : Nat) (X : (((List Int) × (Int × (Int × Unit))) × Unit) → Option ((((Bool × Unit) × Unit) ⊕ (Unit × Unit)))) (l0 : List (Int)) (a1 : Int) (i5 : Int) : Option ((((Bool × Unit) × Unit) ⊕ (Unit × Unit))) :=
 bif (decide (i5 < (((List.length l0) : Nat) : Int))) then
  Option.bind (getI l0 i5) fun (v5 : Int) =>
  bif (decide (v5 = a1)) then
   some ((.inl ((true, ()), ())))
  else
   (X ((l0, (a1, ((IntKind.wrap .i64 (i5 + 1)), ()))), ()))
 else
  some ((.inr ((), ())))
noncomputable def ref27_has_L2_R (c : (((List Int) × (Int × (Int × Unit))) × Unit)) : Option ((((Bool × Unit) × Unit) ⊕ (Unit × Unit))) := gl (fun X c => ref27_has_L2 N X c.1.1 c.1.2.1 c.1.2.2.1) N c
theorem ref27_has_L2_S (X : (((List Int) × (Int × (Int × Unit))) × Unit) → Option ((((Bool × Unit) × Unit) ⊕ (Unit × Unit)))) (l0 : List (Int)) (a1 : Int) (i5 : Int) : (roundK Tryz.prog (Ev181 N) 400 [74] ref27_has_L2_I (loopAt Tryz.prog [74] 2) X ((l0, a1, i5, ()), ())).run = ref27_has_L2 N X l0 a1 i5 := by kernel_rfl
noncomputable def Ev182 : (R : Type) → Env R := Env.addLp (Ev181 N) [74] 0 2 (fun R => lpK Tryz.prog ref27_has_L2_I (fun X c => ref27_has_L2 N X c.1.1 c.1.2.1 c.1.2.2.1) N)
theorem Ev182_ok (R : Type) : EnvOK Tryz.prog (Ev182 N R) := EnvOK.addLp (Ev181_ok N R) (by kernel_rfl) (lpK_ok (li := ref27_has_L2_I) (G := fun X c => ref27_has_L2 N X c.1.1 c.1.2.1 c.1.2.2.1) hmx (Ev181_ok N _) (by kernel_rfl) lAs (fun (X : CT ref27_has_L2_I.sh → Option (OT ref27_has_L2_I.outs)) (c : CT ref27_has_L2_I.sh) => ref27_has_L2_S N X c.1.1 c.1.2.1 c.1.2.2.1) N)
noncomputable def ref27_has (l0 : List (Int)) (a1 : Int) : Option Bool :=
 Option.bind (ref27_has_L2_R N ((l0, (a1, ((0 : Int), ()))), ())) fun v3 =>
 Sum.elim
  (fun (v4 : ((Bool × Unit) × Unit)) =>
  some (v4.1.1))
  (fun (v4 : (Unit × Unit)) =>
  some (false)) v3
theorem ref27_has_S (l0 : List (Int)) (a1 : Int) : (runK Tryz.prog (Ev182 N) 400 74 [(.sl (.int .i64)), (.int .i64)] [.bool] (l0, a1, ())).run = ref27_has N l0 a1 := by kernel_rfl
noncomputable def Ev183 : (R : Type) → Env R := Env.addFn (Ev182 N) 74 (fun R => fnK [(.sl (.int .i64)), (.int .i64)] [.bool] (fun c => ref27_has N c.1 c.2.1))
theorem Ev183_ok (R : Type) : EnvOK Tryz.prog (Ev183 N R) := EnvOK.addFn hmx (Ev182_ok N R) (Ev182_ok N _) (by kernel_rfl) (fun c => ref27_has_S N c.1 c.2.1)
noncomputable def Ev184 : (R : Type) → Env R := Env.addBx (Ev183 N) [(76, 0)]
theorem Ev184_ok (R : Type) : EnvOK Tryz.prog (Ev184 N R) := EnvOK.addBx (Ev183_ok N R) [(76, 0)]
noncomputable def r7j (r0 : tR) (l1 : tO) : Option (Int × tO) :=
 bif r0.1 then
  Option.bind (r6J N r0.2.2.2 l1) fun v3 =>
  some (v3)
 else
  none
theorem r7j_S (r0 : tR) (l1 : tO) : (runK Tryz.prog (Ev184 N) 400 76 [dR, dO] [(.int .u8), dO] (r0, l1, ())).run = r7j N r0 l1 := by kernel_rfl
noncomputable def Ev185 : (R : Type) → Env R := Env.addFn (Ev184 N) 76 (fun R => fnK [dR, dO] [(.int .u8), dO] (fun c => r7j N c.1 c.2.1))
theorem Ev185_ok (R : Type) : EnvOK Tryz.prog (Ev185 N R) := EnvOK.addFn hmx (Ev184_ok N R) (Ev184_ok N _) (by kernel_rfl) (fun c => r7j_S N c.1 c.2.1)
noncomputable def r7t (r0 : tR) (code1 : Int) (l2 : tO) : Option (tR × Bool) :=
 Option.bind (bif r0.1 then
   some ((cond true (decide (code1 = (3 : Int))) false))
  else
   some (false)) fun (v4 : Bool) =>
 bif v4 then
  Option.bind (ref26_Naked N r0.2.2.2 l2) fun v5 =>
  some (((r0.1, (r0.2.1, (r0.2.2.1, v5))), true))
 else
  bif r0.1 then
   Option.bind (ref26_Rejected N r0.2.2.2 l2) fun v5 =>
   some (((r0.1, (r0.2.1, (r0.2.2.1, v5.1))), v5.2))
  else
   bif (decide (code1 = (3 : Int))) then
    none
   else
    none
theorem r7t_S (r0 : tR) (code1 : Int) (l2 : tO) : (runK Tryz.prog (Ev185 N) 400 80 [dR, (.int .u8), dO] [dR, .bool] (r0, code1, l2, ())).run = r7t N r0 code1 l2 := by kernel_rfl
noncomputable def Ev186 : (R : Type) → Env R := Env.addFn (Ev185 N) 80 (fun R => fnK [dR, (.int .u8), dO] [dR, .bool] (fun c => r7t N c.1 c.2.1 c.2.2.1))
theorem Ev186_ok (R : Type) : EnvOK Tryz.prog (Ev186 N R) := EnvOK.addFn hmx (Ev185_ok N R) (Ev185_ok N _) (by kernel_rfl) (fun c => r7t_S N c.1 c.2.1 c.2.2.1)
noncomputable def r7e_L7_I : LI := ⟨65, 0, [], ⟨[(4, .lit (.box 0 0)), (6, .lit (.box 1 0)), (7, .lit (.box 2 0)), (8, .lit (.box 3 0)), (9, .lit (.box 4 0)), (10, .ty (.int .i64)), (11, .ty (.sl (.int .i64))), (13, .lit (.box 5 0)), (14, .ty (.int .i64))], [.box 66 dG, .box 67 dC, .box 67 dC, .box 66 dG, .boxp 74 [.own 6, .ty .bool, .ty .bool, .ty .bool, .ty .bool], .boxp 74 [.own 7, .ty .bool, .ty .bool, .ty .bool, .ty .bool], .own dC 67, .own dC 67]⟩, [(.exit 0, ⟨[(4, .lit (.box 0 0)), (8, .lit (.box 1 0)), (9, .lit (.box 2 0)), (10, .ty (.int .i64)), (13, .lit (.box 3 0))], [.box 66 dG, .box 66 dG, .boxp 74 [.own 4, .ty .bool, .ty .bool, .ty .bool, .ty .bool], .boxp 74 [.own 5, .ty .bool, .ty .bool, .ty .bool, .ty .bool], .own dC 67, .own dC 67]⟩)]⟩
noncomputable def r7e_L7 (X : ((Int × ((List Int) × (Int × Unit))) × (tG × (tC × (tC × (tG × (Bool × (Bool × (Bool × (Bool × (Bool × (Bool × (Bool × (Bool × ((List tC) × ((List tC) × Unit))))))))))))))) → Option (((Int × Unit) × (tG × (tG × (Bool × (Bool × (Bool × (Bool × (Bool × (Bool × (Bool × (Bool × ((List tC) × ((List tC) × Unit))))))))))))))) (s10 : Int) (l11 : List (Int)) (i14 : Int) (h0 : tG) (h1 : tC) (h2 : tC) (h3 : tG) (h4 : Bool) (h5 : Bool) (h6 : Bool) (h7 : Bool) (h8 : Bool) (h9 : Bool) (h10 : Bool) (h11 : Bool) (h12 : List tC) (h13 : List tC) : Option (((Int × Unit) × (tG × (tG × (Bool × (Bool × (Bool × (Bool × (Bool × (Bool × (Bool × (Bool × ((List tC) × ((List tC) × Unit)))))))))))))) :=
 bif (decide (i14 < (((List.length l11) : Nat) : Int))) then
  Option.bind (getI l11 i14) fun (v19 : Int) =>
  Option.bind (ref27_has N l11 (10 : Int)) fun v20 =>
  bif (decide (v19 = (1 : Int))) then
   (X ((s10, (l11, ((IntKind.wrap .i64 (i14 + 1)), ()))), (h0, (h1, (h2, (h3, (h4, (h5, (h6, (h7, (true, (h9, (h10, (h11, (h12, (h13, ()))))))))))))))))
  else
   bif (decide (v19 = (2 : Int))) then
    (X ((s10, (l11, ((IntKind.wrap .i64 (i14 + 1)), ()))), (h0, (h1, (h2, (h3, (h4, (h5, (h6, (h7, (h8, (true, (h10, (h11, (h12, (h13, ()))))))))))))))))
   else
    bif (decide (v19 = (3 : Int))) then
     (X ((s10, (l11, ((IntKind.wrap .i64 (i14 + 1)), ()))), (h0, (h1, (h2, (h3, (h4, (h5, (h6, (h7, (h8, (h9, (true, (h11, (h12, (h13, ()))))))))))))))))
    else
     bif (decide (v19 = (4 : Int))) then
      (X ((s10, (l11, ((IntKind.wrap .i64 (i14 + 1)), ()))), (h0, (h1, (h2, (h3, (h4, (h5, (h6, (h7, (h8, (h9, (h10, (true, (h12, (h13, ()))))))))))))))))
     else
      bif (decide (v19 = (5 : Int))) then
       Option.bind (ref24_Init N h0.2.1 v20) fun v21 =>
       (X ((s10, (l11, ((IntKind.wrap .i64 (i14 + 1)), ()))), ((h0.1, (v21, h0.2.2)), (h1, (h2, (h3, (h4, (h5, (h6, (h7, (h8, (h9, (h10, (h11, (h12, (h13, ()))))))))))))))))
      else
       bif (decide (v19 = (6 : Int))) then
        (X ((s10, (l11, ((IntKind.wrap .i64 (i14 + 1)), ()))), ((h0.1, (((0 : Int), (3 : Int)), h0.2.2)), (h1, (h2, (h3, (h4, (h5, (h6, (h7, (h8, (h9, (h10, (h11, (h12, (h13, ()))))))))))))))))
       else
        bif (decide (v19 = (7 : Int))) then
         Option.bind (ref27_asks N h0.2.2.2.2.1) fun v21 =>
         Option.bind (ref22_Conf N (1 : Int) (IntKind.wrap .u8 (h0.2.2.1 + 1)) v21) fun v22 =>
         bif (roomB ((List.length h13) + (List.length ([v22.1] : List tC))) 32) then
          Option.bind (ref24_Sent N h0.2.1) fun v23 =>
          (X ((s10, (l11, ((IntKind.wrap .i64 (i14 + 1)), ()))), ((h0.1, (v23, ((IntKind.wrap .u8 (h0.2.2.1 + 1)), (v21, h0.2.2.2.2)))), (h1, (h2, (h3, (h4, (h5, (h6, (h7, (h8, (h9, (h10, (h11, (h12, ((h13 ++ ([v22.1] : List tC)), ()))))))))))))))))
         else
          none
        else
         bif (decide (v19 = (8 : Int))) then
          bif (decide (v19 = (8 : Int))) then
           bif (roomB ((List.length h13) + (List.length ([h2] : List tC))) 32) then
            (X ((s10, (l11, ((IntKind.wrap .i64 (i14 + 1)), ()))), (h0, (h1, (h2, (h3, (h4, (h5, (h6, (h7, (h8, (h9, (h10, (h11, (h12, ((h13 ++ ([h2] : List tC)), ()))))))))))))))))
           else
            none
          else
           bif (decide (v19 = (10 : Int))) then
            bif (roomB ((List.length h13) + (List.length ([((5 : Int), ((IntKind.wrap .u8 (h0.2.2.1 + 1)), ([] : List Int)))] : List tC))) 32) then
             Option.bind (ref24_Sent N h0.2.1) fun v21 =>
             (X ((s10, (l11, ((IntKind.wrap .i64 (i14 + 1)), ()))), ((h0.1, (v21, ((IntKind.wrap .u8 (h0.2.2.1 + 1)), h0.2.2.2))), (h1, (h2, (h3, (h4, (h5, (h6, (h7, (h8, (h9, (h10, (h11, (h12, ((h13 ++ ([((5 : Int), ((IntKind.wrap .u8 (h0.2.2.1 + 1)), ([] : List Int)))] : List tC)), ()))))))))))))))))
            else
             none
           else
            bif (decide (v19 = (11 : Int))) then
             bif (roomB ((List.length h13) + (List.length ([((6 : Int), (h1.2.1, ([] : List Int)))] : List tC))) 32) then
              (X ((s10, (l11, ((IntKind.wrap .i64 (i14 + 1)), ()))), (h0, (h1, (h2, (h3, (h4, (h5, (h6, (h7, (h8, (h9, (h10, (h11, (h12, ((h13 ++ ([((6 : Int), (h1.2.1, ([] : List Int)))] : List tC)), ()))))))))))))))))
             else
              none
            else
             bif (decide (v19 = (12 : Int))) then
              Option.bind (ref22_Reject N (IntKind.wrap .u8 (h0.2.2.1 + 1)) h1 (1400 : Int)) fun v21 =>
              bif (roomB ((List.length h13) + (List.length ([v21] : List tC))) 32) then
               (X ((s10, (l11, ((IntKind.wrap .i64 (i14 + 1)), ()))), ((h0.1, (h0.2.1, ((IntKind.wrap .u8 (h0.2.2.1 + 1)), h0.2.2.2))), (h1, (h2, (h3, (h4, (h5, (h6, (h7, (h8, (h9, (h10, (h11, (h12, ((h13 ++ ([v21] : List tC)), ()))))))))))))))))
              else
               none
             else
              (X ((s10, (l11, ((IntKind.wrap .i64 (i14 + 1)), ()))), (h0, (h1, (h2, (h3, (h4, (h5, (h6, (h7, (h8, (h9, (h10, (h11, (h12, (h13, ()))))))))))))))))
         else
          bif (decide (v19 = (9 : Int))) then
           bif (roomB ((List.length h13) + (List.length ([h2] : List tC))) 32) then
            (X ((s10, (l11, ((IntKind.wrap .i64 (i14 + 1)), ()))), (h0, (h1, (h2, (h3, (h4, (h5, (h6, (h7, (h8, (h9, (h10, (h11, (h12, ((h13 ++ ([h2] : List tC)), ()))))))))))))))))
           else
            none
          else
           bif (decide (v19 = (10 : Int))) then
            bif (roomB ((List.length h13) + (List.length ([((5 : Int), ((IntKind.wrap .u8 (h0.2.2.1 + 1)), ([] : List Int)))] : List tC))) 32) then
             Option.bind (ref24_Sent N h0.2.1) fun v21 =>
             (X ((s10, (l11, ((IntKind.wrap .i64 (i14 + 1)), ()))), ((h0.1, (v21, ((IntKind.wrap .u8 (h0.2.2.1 + 1)), h0.2.2.2))), (h1, (h2, (h3, (h4, (h5, (h6, (h7, (h8, (h9, (h10, (h11, (h12, ((h13 ++ ([((5 : Int), ((IntKind.wrap .u8 (h0.2.2.1 + 1)), ([] : List Int)))] : List tC)), ()))))))))))))))))
            else
             none
           else
            bif (decide (v19 = (11 : Int))) then
             bif (roomB ((List.length h13) + (List.length ([((6 : Int), (h1.2.1, ([] : List Int)))] : List tC))) 32) then
              (X ((s10, (l11, ((IntKind.wrap .i64 (i14 + 1)), ()))), (h0, (h1, (h2, (h3, (h4, (h5, (h6, (h7, (h8, (h9, (h10, (h11, (h12, ((h13 ++ ([((6 : Int), (h1.2.1, ([] : List Int)))] : List tC)), ()))))))))))))))))
             else
              none
            else
             bif (decide (v19 = (12 : Int))) then
              Option.bind (ref22_Reject N (IntKind.wrap .u8 (h0.2.2.1 + 1)) h1 (1400 : Int)) fun v21 =>
              bif (roomB ((List.length h13) + (List.length ([v21] : List tC))) 32) then
               (X ((s10, (l11, ((IntKind.wrap .i64 (i14 + 1)), ()))), ((h0.1, (h0.2.1, ((IntKind.wrap .u8 (h0.2.2.1 + 1)), h0.2.2.2))), (h1, (h2, (h3, (h4, (h5, (h6, (h7, (h8, (h9, (h10, (h11, (h12, ((h13 ++ ([v21] : List tC)), ()))))))))))))))))
              else
               none
             else
              (X ((s10, (l11, ((IntKind.wrap .i64 (i14 + 1)), ()))), (h0, (h1, (h2, (h3, (h4, (h5, (h6, (h7, (h8, (h9, (h10, (h11, (h12, (h13, ()))))))))))))))))
 else
  some (((s10, ()), (h0, (h3, (h4, (h5, (h6, (h7, (h8, (h9, (h10, (h11, (h12, (h13, ()))))))))))))))
noncomputable def r7e_L7_R (c : ((Int × ((List Int) × (Int × Unit))) × (tG × (tC × (tC × (tG × (Bool × (Bool × (Bool × (Bool × (Bool × (Bool × (Bool × (Bool × ((List tC) × ((List tC) × Unit)))))))))))))))) : Option (((Int × Unit) × (tG × (tG × (Bool × (Bool × (Bool × (Bool × (Bool × (Bool × (Bool × (Bool × ((List tC) × ((List tC) × Unit)))))))))))))) := gl (fun X c => r7e_L7 N X c.1.1 c.1.2.1 c.1.2.2.1 c.2.1 c.2.2.1 c.2.2.2.1 c.2.2.2.2.1 c.2.2.2.2.2.1 c.2.2.2.2.2.2.1 c.2.2.2.2.2.2.2.1 c.2.2.2.2.2.2.2.2.1 c.2.2.2.2.2.2.2.2.2.1 c.2.2.2.2.2.2.2.2.2.2.1 c.2.2.2.2.2.2.2.2.2.2.2.1 c.2.2.2.2.2.2.2.2.2.2.2.2.1 c.2.2.2.2.2.2.2.2.2.2.2.2.2.1 c.2.2.2.2.2.2.2.2.2.2.2.2.2.2.1) N c
theorem r7e_L7_S (X : ((Int × ((List Int) × (Int × Unit))) × (tG × (tC × (tC × (tG × (Bool × (Bool × (Bool × (Bool × (Bool × (Bool × (Bool × (Bool × ((List tC) × ((List tC) × Unit))))))))))))))) → Option (((Int × Unit) × (tG × (tG × (Bool × (Bool × (Bool × (Bool × (Bool × (Bool × (Bool × (Bool × ((List tC) × ((List tC) × Unit))))))))))))))) (s10 : Int) (l11 : List (Int)) (i14 : Int) (h0 : tG) (h1 : tC) (h2 : tC) (h3 : tG) (h4 : Bool) (h5 : Bool) (h6 : Bool) (h7 : Bool) (h8 : Bool) (h9 : Bool) (h10 : Bool) (h11 : Bool) (h12 : List tC) (h13 : List tC) : (roundK Tryz.prog (Ev186 N) 400 [45] r7e_L7_I (loopAt Tryz.prog [45] 7) X ((s10, l11, i14, ()), (h0, h1, h2, h3, h4, h5, h6, h7, h8, h9, h10, h11, h12, h13, ()))).run = r7e_L7 N X s10 l11 i14 h0 h1 h2 h3 h4 h5 h6 h7 h8 h9 h10 h11 h12 h13 := by kernel_rfl
noncomputable def Ev187 : (R : Type) → Env R := Env.addLp (Ev186 N) [45] 0 7 (fun R => lpK Tryz.prog r7e_L7_I (fun X c => r7e_L7 N X c.1.1 c.1.2.1 c.1.2.2.1 c.2.1 c.2.2.1 c.2.2.2.1 c.2.2.2.2.1 c.2.2.2.2.2.1 c.2.2.2.2.2.2.1 c.2.2.2.2.2.2.2.1 c.2.2.2.2.2.2.2.2.1 c.2.2.2.2.2.2.2.2.2.1 c.2.2.2.2.2.2.2.2.2.2.1 c.2.2.2.2.2.2.2.2.2.2.2.1 c.2.2.2.2.2.2.2.2.2.2.2.2.1 c.2.2.2.2.2.2.2.2.2.2.2.2.2.1 c.2.2.2.2.2.2.2.2.2.2.2.2.2.2.1) N)
theorem Ev187_ok (R : Type) : EnvOK Tryz.prog (Ev187 N R) := EnvOK.addLp (Ev186_ok N R) (by kernel_rfl) (lpK_ok (li := r7e_L7_I) (G := fun X c => r7e_L7 N X c.1.1 c.1.2.1 c.1.2.2.1 c.2.1 c.2.2.1 c.2.2.2.1 c.2.2.2.2.1 c.2.2.2.2.2.1 c.2.2.2.2.2.2.1 c.2.2.2.2.2.2.2.1 c.2.2.2.2.2.2.2.2.1 c.2.2.2.2.2.2.2.2.2.1 c.2.2.2.2.2.2.2.2.2.2.1 c.2.2.2.2.2.2.2.2.2.2.2.1 c.2.2.2.2.2.2.2.2.2.2.2.2.1 c.2.2.2.2.2.2.2.2.2.2.2.2.2.1 c.2.2.2.2.2.2.2.2.2.2.2.2.2.2.1) hmx (Ev186_ok N _) (by kernel_rfl) lAs (fun (X : CT r7e_L7_I.sh → Option (OT r7e_L7_I.outs)) (c : CT r7e_L7_I.sh) => r7e_L7_S N X c.1.1 c.1.2.1 c.1.2.2.1 c.2.1 c.2.2.1 c.2.2.2.1 c.2.2.2.2.1 c.2.2.2.2.2.1 c.2.2.2.2.2.2.1 c.2.2.2.2.2.2.2.1 c.2.2.2.2.2.2.2.2.1 c.2.2.2.2.2.2.2.2.2.1 c.2.2.2.2.2.2.2.2.2.2.1 c.2.2.2.2.2.2.2.2.2.2.2.1 c.2.2.2.2.2.2.2.2.2.2.2.2.1 c.2.2.2.2.2.2.2.2.2.2.2.2.2.1 c.2.2.2.2.2.2.2.2.2.2.2.2.2.2.1) N)
noncomputable def r7e (n0 : tG) (e1 : Int) (came2 : tC) (answer3 : tC) : Option (tG × tU) :=
 Option.bind (ref23_Next N n0.1 e1) fun v5 =>
 bif (!(decide (v5.2.2 = (0 : Int)))) then
  some ((n0, (([] : List tC), (false, (false, (false, false))))))
 else
  Option.bind (r7e_L7_R N ((v5.1, (v5.2.1, ((0 : Int), ()))), ((v5.1, n0.2), (came2, (answer3, (((0 : Int), (((0 : Int), (0 : Int)), ((0 : Int), (([] : List (tP)), ((false, (((0 : Int), ((0 : Int), false)), (false, (false, ((0 : Int), ((0 : Int), ((0 : Int), false))))))), (([] : List (tP)), (0 : Int))))))), (false, (false, (false, (false, (false, (false, (false, (false, (([] : List tC), (([] : List tC), ())))))))))))))))) fun v6 =>
  Option.bind (ref23_Next N v6.1.1 (4 : Int)) fun v7 =>
  bif (!(decide (v7.2.2 = (0 : Int)))) then
   some (((v6.2.1.1, ((v6.2.1.2.1.1, (0 : Int)), v6.2.1.2.2)), (((v6.2.2.2.2.2.2).snd.2.2.2).snd.2.1, ((v6.2.2.2.2.2.2).snd.1, ((v6.2.2.2.2.2.2).snd.2.1, ((v6.2.2.2.2.2.2).snd.2.2.1, (v6.2.2.2.2.2.2).snd.2.2.2.1))))))
  else
   some ((v6.2.1, (((v6.2.2.2.2.2.2).snd.2.2.2).snd.2.1, ((v6.2.2.2.2.2.2).snd.1, ((v6.2.2.2.2.2.2).snd.2.1, ((v6.2.2.2.2.2.2).snd.2.2.1, (v6.2.2.2.2.2.2).snd.2.2.2.1))))))
theorem r7e_S (n0 : tG) (e1 : Int) (came2 : tC) (answer3 : tC) : (runK Tryz.prog (Ev187 N) 400 45 [dG, (.int .i64), dC, dC] [dG, dU] (n0, e1, came2, answer3, ())).run = r7e N n0 e1 came2 answer3 := by kernel_rfl
noncomputable def Ev188 : (R : Type) → Env R := Env.addFn (Ev187 N) 45 (fun R => fnK [dG, (.int .i64), dC, dC] [dG, dU] (fun c => r7e N c.1 c.2.1 c.2.2.1 c.2.2.2.1))
theorem Ev188_ok (R : Type) : EnvOK Tryz.prog (Ev188 N R) := EnvOK.addFn hmx (Ev187_ok N R) (Ev187_ok N _) (by kernel_rfl) (fun c => r7e_S N c.1 c.2.1 c.2.2.1 c.2.2.2.1)
noncomputable def Ev189 : (R : Type) → Env R := Env.addMv (Ev188 N) [(47, 18)]
theorem Ev189_ok (R : Type) : EnvOK Tryz.prog (Ev189 N R) := EnvOK.addMv (Ev188_ok N R) [(47, 18)]
noncomputable def r7q_L14_I : LI := ⟨103, 0, [(12, 129)], ⟨[(2, .lit (.box 0 0)), (3, .lit (.box 1 0)), (4, .lit (.box 2 0)), (5, .lit (.box 3 0)), (6, .ty dO), (9, .ty dO), (12, .lit (.own 4)), (13, .ty (.int .i64))], [.box 66 dG, .box 67 dC, .boxp 66 [.ty (.int .i64), .ty (.int .i64), .ty (.int .i64), .ty (.int .u8), .own 5, .ty .bool, .ty (.int .u16), .ty (.int .u32), .ty .bool, .ty .bool, .ty .bool, .ty (.int .u32), .ty (.int .u32), .ty (.int .u32), .ty .bool, .own 6, .ty (.int .i64)], .box 74 dU, .own (.pair (.int .u8) (.sl (.int .u8))) 129, .own (.pair (.int .u8) (.sl (.int .u8))) 129, .own (.pair (.int .u8) (.sl (.int .u8))) 129]⟩, [(.exit 0, ⟨[(2, .lit (.box 0 0)), (3, .lit (.box 1 0)), (4, .lit (.box 2 0)), (5, .lit (.box 3 0)), (12, .lit (.own 4))], [.box 66 dG, .box 67 dC, .boxp 66 [.ty (.int .i64), .ty (.int .i64), .ty (.int .i64), .ty (.int .u8), .own 5, .ty .bool, .ty (.int .u16), .ty (.int .u32), .ty .bool, .ty .bool, .ty .bool, .ty (.int .u32), .ty (.int .u32), .ty (.int .u32), .ty .bool, .own 6, .ty (.int .i64)], .box 74 dU, .own (.pair (.int .u8) (.sl (.int .u8))) 129, .own (.pair (.int .u8) (.sl (.int .u8))) 129, .own (.pair (.int .u8) (.sl (.int .u8))) 129]⟩)]⟩
noncomputable def r7q_L14 (X : ((tO × (tO × (Int × Unit))) × (tG × (tC × (Int × (Int × (Int × (Int × (Bool × (Int × (Int × (Bool × (Bool × (Bool × (Int × (Int × (Int × (Bool × (Int × (tU × (tO × (tO × (tO × Unit)))))))))))))))))))))) → Option ((Unit × (tG × (tC × (Int × (Int × (Int × (Int × (Bool × (Int × (Int × (Bool × (Bool × (Bool × (Int × (Int × (Int × (Bool × (Int × (tU × (tO × (tO × (tO × Unit)))))))))))))))))))))))) (l6 : tO) (a9 : tO) (i13 : Int) (h0 : tG) (h1 : tC) (h2 : Int) (h3 : Int) (h4 : Int) (h5 : Int) (h6 : Bool) (h7 : Int) (h8 : Int) (h9 : Bool) (h10 : Bool) (h11 : Bool) (h12 : Int) (h13 : Int) (h14 : Int) (h15 : Bool) (h16 : Int) (h17 : tU) (h18 : tO) (h19 : tO) (h20 : tO) : Option ((Unit × (tG × (tC × (Int × (Int × (Int × (Int × (Bool × (Int × (Int × (Bool × (Bool × (Bool × (Int × (Int × (Int × (Bool × (Int × (tU × (tO × (tO × (tO × Unit))))))))))))))))))))))) :=
 bif (decide (i13 < (((List.length l6) : Nat) : Int))) then
  Option.bind (getI l6 i13) fun (v26 : tP) =>
  Option.bind (ref21_Find N a9 v26.1) fun v27 =>
  bif v27.2 then
   Option.bind (getI l6 i13) fun (v28 : tP) =>
   bif (roomB ((List.length h18) + (List.length ([v28] : List (tP)))) 32) then
    (X ((l6, (a9, ((IntKind.wrap .i64 (i13 + 1)), ()))), (h0, (h1, (h2, (h3, (h4, (h5, (h6, (h7, (h8, (h9, (h10, (h11, (h12, (h13, (h14, (h15, (h16, (h17, ((h18 ++ ([v28] : List (tP))), (h19, (h20, ())))))))))))))))))))))))
   else
    none
  else
   (X ((l6, (a9, ((IntKind.wrap .i64 (i13 + 1)), ()))), (h0, (h1, (h2, (h3, (h4, (h5, (h6, (h7, (h8, (h9, (h10, (h11, (h12, (h13, (h14, (h15, (h16, (h17, (h18, (h19, (h20, ())))))))))))))))))))))))
 else
  some (((), (h0, (h1, (h2, (h3, (h4, (h5, (h6, (h7, (h8, (h9, (h10, (h11, (h12, (h13, (h14, (h15, (h16, (h17, (h18, (h19, (h20, ())))))))))))))))))))))))
noncomputable def r7q_L14_R (c : ((tO × (tO × (Int × Unit))) × (tG × (tC × (Int × (Int × (Int × (Int × (Bool × (Int × (Int × (Bool × (Bool × (Bool × (Int × (Int × (Int × (Bool × (Int × (tU × (tO × (tO × (tO × Unit))))))))))))))))))))))) : Option ((Unit × (tG × (tC × (Int × (Int × (Int × (Int × (Bool × (Int × (Int × (Bool × (Bool × (Bool × (Int × (Int × (Int × (Bool × (Int × (tU × (tO × (tO × (tO × Unit))))))))))))))))))))))) := gl (fun X c => r7q_L14 N X c.1.1 c.1.2.1 c.1.2.2.1 c.2.1 c.2.2.1 c.2.2.2.1 c.2.2.2.2.1 c.2.2.2.2.2.1 c.2.2.2.2.2.2.1 c.2.2.2.2.2.2.2.1 c.2.2.2.2.2.2.2.2.1 c.2.2.2.2.2.2.2.2.2.1 c.2.2.2.2.2.2.2.2.2.2.1 c.2.2.2.2.2.2.2.2.2.2.2.1 c.2.2.2.2.2.2.2.2.2.2.2.2.1 c.2.2.2.2.2.2.2.2.2.2.2.2.2.1 c.2.2.2.2.2.2.2.2.2.2.2.2.2.2.1 c.2.2.2.2.2.2.2.2.2.2.2.2.2.2.2.1 c.2.2.2.2.2.2.2.2.2.2.2.2.2.2.2.2.1 c.2.2.2.2.2.2.2.2.2.2.2.2.2.2.2.2.2.1 c.2.2.2.2.2.2.2.2.2.2.2.2.2.2.2.2.2.2.1 c.2.2.2.2.2.2.2.2.2.2.2.2.2.2.2.2.2.2.2.1 c.2.2.2.2.2.2.2.2.2.2.2.2.2.2.2.2.2.2.2.2.1 c.2.2.2.2.2.2.2.2.2.2.2.2.2.2.2.2.2.2.2.2.2.1) N c
theorem r7q_L14_S (X : ((tO × (tO × (Int × Unit))) × (tG × (tC × (Int × (Int × (Int × (Int × (Bool × (Int × (Int × (Bool × (Bool × (Bool × (Int × (Int × (Int × (Bool × (Int × (tU × (tO × (tO × (tO × Unit)))))))))))))))))))))) → Option ((Unit × (tG × (tC × (Int × (Int × (Int × (Int × (Bool × (Int × (Int × (Bool × (Bool × (Bool × (Int × (Int × (Int × (Bool × (Int × (tU × (tO × (tO × (tO × Unit)))))))))))))))))))))))) (l6 : tO) (a9 : tO) (i13 : Int) (h0 : tG) (h1 : tC) (h2 : Int) (h3 : Int) (h4 : Int) (h5 : Int) (h6 : Bool) (h7 : Int) (h8 : Int) (h9 : Bool) (h10 : Bool) (h11 : Bool) (h12 : Int) (h13 : Int) (h14 : Int) (h15 : Bool) (h16 : Int) (h17 : tU) (h18 : tO) (h19 : tO) (h20 : tO) : (roundK Tryz.prog (Ev189 N) 400 [47] r7q_L14_I (loopAt Tryz.prog [47] 14) X ((l6, a9, i13, ()), (h0, h1, h2, h3, h4, h5, h6, h7, h8, h9, h10, h11, h12, h13, h14, h15, h16, h17, h18, h19, h20, ()))).run = r7q_L14 N X l6 a9 i13 h0 h1 h2 h3 h4 h5 h6 h7 h8 h9 h10 h11 h12 h13 h14 h15 h16 h17 h18 h19 h20 := by kernel_rfl
noncomputable def Ev190 : (R : Type) → Env R := Env.addLp (Ev189 N) [47] 0 14 (fun R => lpK Tryz.prog r7q_L14_I (fun X c => r7q_L14 N X c.1.1 c.1.2.1 c.1.2.2.1 c.2.1 c.2.2.1 c.2.2.2.1 c.2.2.2.2.1 c.2.2.2.2.2.1 c.2.2.2.2.2.2.1 c.2.2.2.2.2.2.2.1 c.2.2.2.2.2.2.2.2.1 c.2.2.2.2.2.2.2.2.2.1 c.2.2.2.2.2.2.2.2.2.2.1 c.2.2.2.2.2.2.2.2.2.2.2.1 c.2.2.2.2.2.2.2.2.2.2.2.2.1 c.2.2.2.2.2.2.2.2.2.2.2.2.2.1 c.2.2.2.2.2.2.2.2.2.2.2.2.2.2.1 c.2.2.2.2.2.2.2.2.2.2.2.2.2.2.2.1 c.2.2.2.2.2.2.2.2.2.2.2.2.2.2.2.2.1 c.2.2.2.2.2.2.2.2.2.2.2.2.2.2.2.2.2.1 c.2.2.2.2.2.2.2.2.2.2.2.2.2.2.2.2.2.2.1 c.2.2.2.2.2.2.2.2.2.2.2.2.2.2.2.2.2.2.2.1 c.2.2.2.2.2.2.2.2.2.2.2.2.2.2.2.2.2.2.2.2.1 c.2.2.2.2.2.2.2.2.2.2.2.2.2.2.2.2.2.2.2.2.2.1) N)
theorem Ev190_ok (R : Type) : EnvOK Tryz.prog (Ev190 N R) := EnvOK.addLp (Ev189_ok N R) (by kernel_rfl) (lpK_ok (li := r7q_L14_I) (G := fun X c => r7q_L14 N X c.1.1 c.1.2.1 c.1.2.2.1 c.2.1 c.2.2.1 c.2.2.2.1 c.2.2.2.2.1 c.2.2.2.2.2.1 c.2.2.2.2.2.2.1 c.2.2.2.2.2.2.2.1 c.2.2.2.2.2.2.2.2.1 c.2.2.2.2.2.2.2.2.2.1 c.2.2.2.2.2.2.2.2.2.2.1 c.2.2.2.2.2.2.2.2.2.2.2.1 c.2.2.2.2.2.2.2.2.2.2.2.2.1 c.2.2.2.2.2.2.2.2.2.2.2.2.2.1 c.2.2.2.2.2.2.2.2.2.2.2.2.2.2.1 c.2.2.2.2.2.2.2.2.2.2.2.2.2.2.2.1 c.2.2.2.2.2.2.2.2.2.2.2.2.2.2.2.2.1 c.2.2.2.2.2.2.2.2.2.2.2.2.2.2.2.2.2.1 c.2.2.2.2.2.2.2.2.2.2.2.2.2.2.2.2.2.2.1 c.2.2.2.2.2.2.2.2.2.2.2.2.2.2.2.2.2.2.2.1 c.2.2.2.2.2.2.2.2.2.2.2.2.2.2.2.2.2.2.2.2.1 c.2.2.2.2.2.2.2.2.2.2.2.2.2.2.2.2.2.2.2.2.2.1) hmx (Ev189_ok N _) (by kernel_rfl) lAs (fun (X : CT r7q_L14_I.sh → Option (OT r7q_L14_I.outs)) (c : CT r7q_L14_I.sh) => r7q_L14_S N X c.1.1 c.1.2.1 c.1.2.2.1 c.2.1 c.2.2.1 c.2.2.2.1 c.2.2.2.2.1 c.2.2.2.2.2.1 c.2.2.2.2.2.2.1 c.2.2.2.2.2.2.2.1 c.2.2.2.2.2.2.2.2.1 c.2.2.2.2.2.2.2.2.2.1 c.2.2.2.2.2.2.2.2.2.2.1 c.2.2.2.2.2.2.2.2.2.2.2.1 c.2.2.2.2.2.2.2.2.2.2.2.2.1 c.2.2.2.2.2.2.2.2.2.2.2.2.2.1 c.2.2.2.2.2.2.2.2.2.2.2.2.2.2.1 c.2.2.2.2.2.2.2.2.2.2.2.2.2.2.2.1 c.2.2.2.2.2.2.2.2.2.2.2.2.2.2.2.2.1 c.2.2.2.2.2.2.2.2.2.2.2.2.2.2.2.2.2.1 c.2.2.2.2.2.2.2.2.2.2.2.2.2.2.2.2.2.2.1 c.2.2.2.2.2.2.2.2.2.2.2.2.2.2.2.2.2.2.2.1 c.2.2.2.2.2.2.2.2.2.2.2.2.2.2.2.2.2.2.2.2.1 c.2.2.2.2.2.2.2.2.2.2.2.2.2.2.2.2.2.2.2.2.2.1) N)
end
section
variable (N : Nat)
noncomputable def r7q (n0 : tG) (c1 : tC) : Option (tG × tU) :=
 Option.bind (ref22_Options N c1) fun v3 =>
 bif (!(decide (v3.2 = (0 : Int)))) then
  some ((n0, (([] : List tC), (false, (false, (false, false))))))
 else
  Option.bind (r7j N n0.2.2.2.2.1 v3.1) fun v4 =>
  bif (decide (v4.1 = (2 : Int))) then
   Option.bind (ref22_Conf N (2 : Int) c1.2.1 v4.2) fun v5 =>
   Option.bind (r7e N (n0.1, (n0.2.1, (n0.2.2.1, (n0.2.2.2.1, (n0.2.2.2.2.1, (v4.2, n0.2.2.2.2.2.2)))))) (6 : Int) c1 v5.1) fun v6 =>
   some (v6)
  else
   bif (decide (v4.1 = (3 : Int))) then
    Option.bind (bif (decide (v4.1 = (3 : Int))) then
      some ((cond true (decide ((5 : Int) < (IntKind.wrap .i64 (n0.2.2.2.2.2.2 + 1)))) false))
     else
      some (false)) fun (v5 : Bool) =>
    bif v5 then
     Option.bind (r7q_L14_R N ((v3.1, (v4.2, ((0 : Int), ()))), ((n0.1, (n0.2.1, (n0.2.2.1, (n0.2.2.2.1, (n0.2.2.2.2.1, (n0.2.2.2.2.2.1, (IntKind.wrap .i64 (n0.2.2.2.2.2.2 + 1)))))))), (c1, ((0 : Int), ((0 : Int), ((0 : Int), ((0 : Int), (false, ((0 : Int), ((0 : Int), (false, (false, (false, ((0 : Int), ((0 : Int), ((0 : Int), (false, ((0 : Int), ((([] : List tC), (false, (false, (false, false)))), (([] : List (tP)), (([] : List (tP)), (([] : List (tP)), ()))))))))))))))))))))))) fun v6 =>
     Option.bind (ref22_Conf N (4 : Int) v6.2.2.1.2.1 (v6.2.2.2.2.2.2.2.2.2.2.2.2.2.2.2.2.2).snd.2.1) fun v7 =>
     Option.bind (r7e N v6.2.1 (7 : Int) v6.2.2.1 v7.1) fun v8 =>
     some (v8)
    else
     Option.bind (ref22_Conf N v4.1 c1.2.1 v4.2) fun v6 =>
     Option.bind (r7e N (n0.1, (n0.2.1, (n0.2.2.1, (n0.2.2.2.1, (n0.2.2.2.2.1, (n0.2.2.2.2.2.1, (IntKind.wrap .i64 (n0.2.2.2.2.2.2 + 1)))))))) (7 : Int) c1 v6.1) fun v7 =>
     some (v7)
   else
    Option.bind (bif (decide (v4.1 = (3 : Int))) then
      some ((cond true (decide ((5 : Int) < n0.2.2.2.2.2.2)) false))
     else
      some (false)) fun (v5 : Bool) =>
    bif v5 then
     Option.bind (r7q_L14_R N ((v3.1, (v4.2, ((0 : Int), ()))), (n0, (c1, ((0 : Int), ((0 : Int), ((0 : Int), ((0 : Int), (false, ((0 : Int), ((0 : Int), (false, (false, (false, ((0 : Int), ((0 : Int), ((0 : Int), (false, ((0 : Int), ((([] : List tC), (false, (false, (false, false)))), (([] : List (tP)), (([] : List (tP)), (([] : List (tP)), ()))))))))))))))))))))))) fun v6 =>
     Option.bind (ref22_Conf N (4 : Int) v6.2.2.1.2.1 (v6.2.2.2.2.2.2.2.2.2.2.2.2.2.2.2.2.2).snd.2.1) fun v7 =>
     Option.bind (r7e N v6.2.1 (7 : Int) v6.2.2.1 v7.1) fun v8 =>
     some (v8)
    else
     Option.bind (ref22_Conf N v4.1 c1.2.1 v4.2) fun v6 =>
     Option.bind (r7e N n0 (7 : Int) c1 v6.1) fun v7 =>
     some (v7)
theorem r7q_S (n0 : tG) (c1 : tC) : (runK Tryz.prog (Ev190 N) 400 47 [dG, dC] [dG, dU] (n0, c1, ())).run = r7q N n0 c1 := by kernel_rfl
noncomputable def Ev191 : (R : Type) → Env R := Env.addFn (Ev190 N) 47 (fun R => fnK [dG, dC] [dG, dU] (fun c => r7q N c.1 c.2.1))
theorem Ev191_ok (R : Type) : EnvOK Tryz.prog (Ev191 N R) := EnvOK.addFn hmx (Ev190_ok N R) (Ev190_ok N _) (by kernel_rfl) (fun c => r7q_S N c.1 c.2.1)
noncomputable def r7a (n0 : tG) (c1 : tC) : Option (tG × tU) :=
 Option.bind (ref22_Options N c1) fun v3 =>
 Option.bind (bif (!(decide (v3.2 = (0 : Int)))) then
   some (true)
  else
   some ((cond false true (!(decide (c1.2.1 = n0.2.2.1)))))) fun (v4 : Bool) =>
 bif v4 then
  some ((n0, (([] : List tC), (false, (false, (false, false))))))
 else
  bif (decide (c1.1 = (2 : Int))) then
   Option.bind (ref21_Same N v3.1 n0.2.2.2.1) fun v5 =>
   bif (!v5) then
    some ((n0, (([] : List tC), (false, (false, (false, false))))))
   else
    Option.bind (r7e N (n0.1, (n0.2.1, (n0.2.2.1, (n0.2.2.2.1, (n0.2.2.2.2.1, (n0.2.2.2.2.2.1, (0 : Int))))))) (8 : Int) c1 ((0 : Int), ((0 : Int), ([] : List Int)))) fun v6 =>
    some (v6)
  else
   bif (decide ((((List.length v3.1) : Nat) : Int) = (0 : Int))) then
    some ((n0, (([] : List tC), (false, (false, (false, false))))))
   else
    bif (decide (c1.1 = (4 : Int))) then
     Option.bind (ref21_Among N v3.1 n0.2.2.2.1) fun v5 =>
     Option.bind (some ((cond false true (cond true (!v5) false)))) fun (v6 : Bool) =>
     bif v6 then
      some ((n0, (([] : List tC), (false, (false, (false, false))))))
     else
      Option.bind (r7t N n0.2.2.2.2.1 c1.1 v3.1) fun v7 =>
      bif (!v7.2) then
       Option.bind (r7e N (n0.1, (n0.2.1, (n0.2.2.1, (n0.2.2.2.1, (v7.1, n0.2.2.2.2.2))))) (14 : Int) c1 ((0 : Int), ((0 : Int), ([] : List Int)))) fun v8 =>
       some (v8)
      else
       Option.bind (r7e N (n0.1, (n0.2.1, (n0.2.2.1, (n0.2.2.2.1, (v7.1, n0.2.2.2.2.2))))) (9 : Int) c1 ((0 : Int), ((0 : Int), ([] : List Int)))) fun v8 =>
       some (v8)
    else
     Option.bind (r7t N n0.2.2.2.2.1 c1.1 v3.1) fun v5 =>
     bif (!v5.2) then
      Option.bind (r7e N (n0.1, (n0.2.1, (n0.2.2.1, (n0.2.2.2.1, (v5.1, n0.2.2.2.2.2))))) (14 : Int) c1 ((0 : Int), ((0 : Int), ([] : List Int)))) fun v6 =>
      some (v6)
     else
      Option.bind (r7e N (n0.1, (n0.2.1, (n0.2.2.1, (n0.2.2.2.1, (v5.1, n0.2.2.2.2.2))))) (9 : Int) c1 ((0 : Int), ((0 : Int), ([] : List Int)))) fun v6 =>
      some (v6)
theorem r7a_S (n0 : tG) (c1 : tC) : (runK Tryz.prog (Ev191 N) 400 48 [dG, dC] [dG, dU] (n0, c1, ())).run = r7a N n0 c1 := by kernel_rfl
noncomputable def Ev192 : (R : Type) → Env R := Env.addFn (Ev191 N) 48 (fun R => fnK [dG, dC] [dG, dU] (fun c => r7a N c.1 c.2.1))
theorem Ev192_ok (R : Type) : EnvOK Tryz.prog (Ev192 N R) := EnvOK.addFn hmx (Ev191_ok N R) (Ev191_ok N _) (by kernel_rfl) (fun c => r7a_S N c.1 c.2.1)
noncomputable def Ev193 : (R : Type) → Env R := Env.addBx (Ev192 N) [(15, 0)]
theorem Ev193_ok (R : Type) : EnvOK Tryz.prog (Ev193 N R) := EnvOK.addBx (Ev192_ok N R) [(15, 0)]
noncomputable def ref27_Do (n0 : tG) (e1 : Int) : Option (tG × tU) :=
 Option.bind (bif (decide (e1 < (0 : Int))) then
   some (true)
  else
   some ((cond false true (decide ((3 : Int) < e1))))) fun (v3 : Bool) =>
 bif v3 then
  some ((n0, (([] : List tC), (false, (false, (false, false))))))
 else
  Option.bind (r7e N n0 e1 ((0 : Int), ((0 : Int), ([] : List Int))) ((0 : Int), ((0 : Int), ([] : List Int)))) fun v4 =>
  some (v4)
theorem ref27_Do_S (n0 : tG) (e1 : Int) : (runK Tryz.prog (Ev193 N) 400 15 [dG, (.int .i64)] [dG, dU] (n0, e1, ())).run = ref27_Do N n0 e1 := by kernel_rfl
noncomputable def Ev194 : (R : Type) → Env R := Env.addFn (Ev193 N) 15 (fun R => fnK [dG, (.int .i64)] [dG, dU] (fun c => ref27_Do N c.1 c.2.1))
theorem Ev194_ok (R : Type) : EnvOK Tryz.prog (Ev194 N R) := EnvOK.addFn hmx (Ev193_ok N R) (Ev193_ok N _) (by kernel_rfl) (fun c => ref27_Do_S N c.1 c.2.1)
noncomputable def ref27_Tick (n0 : tG) : Option (tG × tU) :=
 Option.bind (ref24_Tick N n0.2.1) fun v2 =>
 bif (!v2.2) then
  some (((n0.1, (v2.1, n0.2.2)), (([] : List tC), (false, (false, (false, false))))))
 else
  bif (decide ((0 : Int) < v2.1.1)) then
   Option.bind (r7e N (n0.1, (v2.1, n0.2.2)) (4 : Int) ((0 : Int), ((0 : Int), ([] : List Int))) ((0 : Int), ((0 : Int), ([] : List Int)))) fun v3 =>
   some (v3)
  else
   Option.bind (r7e N (n0.1, (v2.1, n0.2.2)) (5 : Int) ((0 : Int), ((0 : Int), ([] : List Int))) ((0 : Int), ((0 : Int), ([] : List Int)))) fun v3 =>
   some (v3)
theorem ref27_Tick_S (n0 : tG) : (runK Tryz.prog (Ev194 N) 400 17 [dG] [dG, dU] (n0, ())).run = ref27_Tick N n0 := by kernel_rfl
noncomputable def Ev195 : (R : Type) → Env R := Env.addFn (Ev194 N) 17 (fun R => fnK [dG] [dG, dU] (fun c => ref27_Tick N c.1))
theorem Ev195_ok (R : Type) : EnvOK Tryz.prog (Ev195 N R) := EnvOK.addFn hmx (Ev194_ok N R) (Ev194_ok N _) (by kernel_rfl) (fun c => ref27_Tick_S N c.1)
noncomputable def Ev196 : (R : Type) → Env R := Env.addBx (Ev195 N) [(20, 0)]
theorem Ev196_ok (R : Type) : EnvOK Tryz.prog (Ev196 N R) := EnvOK.addBx (Ev195_ok N R) [(20, 0)]
noncomputable def ref27_Take (n0 : tG) (c1 : tC) : Option (tG × tU) :=
 bif (decide (c1.1 = (1 : Int))) then
  Option.bind (r7q N n0 c1) fun v3 =>
  some (v3)
 else
  bif (decide (c1.1 = (2 : Int))) then
   bif (decide (c1.1 = (2 : Int))) then
    Option.bind (r7a N n0 c1) fun v3 =>
    some (v3)
   else
    bif (decide (c1.1 = (5 : Int))) then
     Option.bind (r7e N n0 (10 : Int) c1 ((0 : Int), ((0 : Int), ([] : List Int)))) fun v3 =>
     some (v3)
    else
     bif (decide (c1.1 = (6 : Int))) then
      Option.bind (r7e N n0 (11 : Int) c1 ((0 : Int), ((0 : Int), ([] : List Int)))) fun v3 =>
      some (v3)
     else
      bif (decide (c1.1 = (7 : Int))) then
       Option.bind (bif (decide ((0 : Int) < (((List.length c1.2.2) : Nat) : Int))) then
         Option.bind (getI c1.2.2 (0 : Int)) fun (v3 : Int) =>
         some ((cond true (decide ((1 : Int) ≤ v3)) false))
        else
         some (false)) fun (v3 : Bool) =>
       Option.bind (bif v3 then
         Option.bind (getI c1.2.2 (0 : Int)) fun (v4 : Int) =>
         some ((cond true (decide (v4 ≤ (7 : Int))) false))
        else
         some (false)) fun (v4 : Bool) =>
       bif v4 then
        Option.bind (r7e N n0 (14 : Int) c1 ((0 : Int), ((0 : Int), ([] : List Int)))) fun v5 =>
        some (v5)
       else
        Option.bind (r7e N n0 (13 : Int) c1 ((0 : Int), ((0 : Int), ([] : List Int)))) fun v5 =>
        some (v5)
      else
       bif (decide (c1.1 = (8 : Int))) then
        bif (!n0.2.2.2.2.1.1) then
         Option.bind (r7e N n0 (13 : Int) c1 ((0 : Int), ((0 : Int), ([] : List Int)))) fun v3 =>
         some (v3)
        else
         Option.bind (r7e N n0 (12 : Int) c1 ((0 : Int), ((0 : Int), ([] : List Int)))) fun v3 =>
         some (v3)
       else
        bif (decide (c1.1 = (9 : Int))) then
         bif (decide (c1.1 = (9 : Int))) then
          bif (!n0.2.2.2.2.1.1) then
           Option.bind (r7e N n0 (15 : Int) c1 ((0 : Int), ((0 : Int), ([] : List Int)))) fun v3 =>
           some (v3)
          else
           Option.bind (r7e N n0 (12 : Int) c1 ((0 : Int), ((0 : Int), ([] : List Int)))) fun v3 =>
           some (v3)
         else
          Option.bind (r7e N n0 (12 : Int) c1 ((0 : Int), ((0 : Int), ([] : List Int)))) fun v3 =>
          some (v3)
        else
         bif (decide (c1.1 = (10 : Int))) then
          bif (decide (c1.1 = (10 : Int))) then
           bif (!n0.2.2.2.2.1.1) then
            Option.bind (r7e N n0 (15 : Int) c1 ((0 : Int), ((0 : Int), ([] : List Int)))) fun v3 =>
            some (v3)
           else
            Option.bind (r7e N n0 (12 : Int) c1 ((0 : Int), ((0 : Int), ([] : List Int)))) fun v3 =>
            some (v3)
          else
           Option.bind (r7e N n0 (12 : Int) c1 ((0 : Int), ((0 : Int), ([] : List Int)))) fun v3 =>
           some (v3)
         else
          bif (decide (c1.1 = (11 : Int))) then
           bif (!n0.2.2.2.2.1.1) then
            Option.bind (r7e N n0 (15 : Int) c1 ((0 : Int), ((0 : Int), ([] : List Int)))) fun v3 =>
            some (v3)
           else
            Option.bind (r7e N n0 (12 : Int) c1 ((0 : Int), ((0 : Int), ([] : List Int)))) fun v3 =>
            some (v3)
          else
           Option.bind (r7e N n0 (12 : Int) c1 ((0 : Int), ((0 : Int), ([] : List Int)))) fun v3 =>
           some (v3)
  else
   bif (decide (c1.1 = (3 : Int))) then
    bif (decide (c1.1 = (3 : Int))) then
     Option.bind (r7a N n0 c1) fun v3 =>
     some (v3)
    else
     bif (decide (c1.1 = (5 : Int))) then
      Option.bind (r7e N n0 (10 : Int) c1 ((0 : Int), ((0 : Int), ([] : List Int)))) fun v3 =>
      some (v3)
     else
      bif (decide (c1.1 = (6 : Int))) then
       Option.bind (r7e N n0 (11 : Int) c1 ((0 : Int), ((0 : Int), ([] : List Int)))) fun v3 =>
       some (v3)
      else
       bif (decide (c1.1 = (7 : Int))) then
        Option.bind (bif (decide ((0 : Int) < (((List.length c1.2.2) : Nat) : Int))) then
          Option.bind (getI c1.2.2 (0 : Int)) fun (v3 : Int) =>
          some ((cond true (decide ((1 : Int) ≤ v3)) false))
         else
          some (false)) fun (v3 : Bool) =>
        Option.bind (bif v3 then
          Option.bind (getI c1.2.2 (0 : Int)) fun (v4 : Int) =>
          some ((cond true (decide (v4 ≤ (7 : Int))) false))
         else
          some (false)) fun (v4 : Bool) =>
        bif v4 then
         Option.bind (r7e N n0 (14 : Int) c1 ((0 : Int), ((0 : Int), ([] : List Int)))) fun v5 =>
         some (v5)
        else
         Option.bind (r7e N n0 (13 : Int) c1 ((0 : Int), ((0 : Int), ([] : List Int)))) fun v5 =>
         some (v5)
       else
        bif (decide (c1.1 = (8 : Int))) then
         bif (!n0.2.2.2.2.1.1) then
          Option.bind (r7e N n0 (13 : Int) c1 ((0 : Int), ((0 : Int), ([] : List Int)))) fun v3 =>
          some (v3)
         else
          Option.bind (r7e N n0 (12 : Int) c1 ((0 : Int), ((0 : Int), ([] : List Int)))) fun v3 =>
          some (v3)
        else
         bif (decide (c1.1 = (9 : Int))) then
          bif (decide (c1.1 = (9 : Int))) then
           bif (!n0.2.2.2.2.1.1) then
            Option.bind (r7e N n0 (15 : Int) c1 ((0 : Int), ((0 : Int), ([] : List Int)))) fun v3 =>
            some (v3)
           else
            Option.bind (r7e N n0 (12 : Int) c1 ((0 : Int), ((0 : Int), ([] : List Int)))) fun v3 =>
            some (v3)
          else
           Option.bind (r7e N n0 (12 : Int) c1 ((0 : Int), ((0 : Int), ([] : List Int)))) fun v3 =>
           some (v3)
         else
          bif (decide (c1.1 = (10 : Int))) then
           bif (decide (c1.1 = (10 : Int))) then
            bif (!n0.2.2.2.2.1.1) then
             Option.bind (r7e N n0 (15 : Int) c1 ((0 : Int), ((0 : Int), ([] : List Int)))) fun v3 =>
             some (v3)
            else
             Option.bind (r7e N n0 (12 : Int) c1 ((0 : Int), ((0 : Int), ([] : List Int)))) fun v3 =>
             some (v3)
           else
            Option.bind (r7e N n0 (12 : Int) c1 ((0 : Int), ((0 : Int), ([] : List Int)))) fun v3 =>
            some (v3)
          else
           bif (decide (c1.1 = (11 : Int))) then
            bif (!n0.2.2.2.2.1.1) then
             Option.bind (r7e N n0 (15 : Int) c1 ((0 : Int), ((0 : Int), ([] : List Int)))) fun v3 =>
             some (v3)
            else
             Option.bind (r7e N n0 (12 : Int) c1 ((0 : Int), ((0 : Int), ([] : List Int)))) fun v3 =>
             some (v3)
           else
            Option.bind (r7e N n0 (12 : Int) c1 ((0 : Int), ((0 : Int), ([] : List Int)))) fun v3 =>
            some (v3)
   else
    bif (decide (c1.1 = (4 : Int))) then
     Option.bind (r7a N n0 c1) fun v3 =>
     some (v3)
    else
     bif (decide (c1.1 = (5 : Int))) then
      Option.bind (r7e N n0 (10 : Int) c1 ((0 : Int), ((0 : Int), ([] : List Int)))) fun v3 =>
      some (v3)
     else
      bif (decide (c1.1 = (6 : Int))) then
       Option.bind (r7e N n0 (11 : Int) c1 ((0 : Int), ((0 : Int), ([] : List Int)))) fun v3 =>
       some (v3)
      else
       bif (decide (c1.1 = (7 : Int))) then
        Option.bind (bif (decide ((0 : Int) < (((List.length c1.2.2) : Nat) : Int))) then
          Option.bind (getI c1.2.2 (0 : Int)) fun (v3 : Int) =>
          some ((cond true (decide ((1 : Int) ≤ v3)) false))
         else
          some (false)) fun (v3 : Bool) =>
        Option.bind (bif v3 then
          Option.bind (getI c1.2.2 (0 : Int)) fun (v4 : Int) =>
          some ((cond true (decide (v4 ≤ (7 : Int))) false))
         else
          some (false)) fun (v4 : Bool) =>
        bif v4 then
         Option.bind (r7e N n0 (14 : Int) c1 ((0 : Int), ((0 : Int), ([] : List Int)))) fun v5 =>
         some (v5)
        else
         Option.bind (r7e N n0 (13 : Int) c1 ((0 : Int), ((0 : Int), ([] : List Int)))) fun v5 =>
         some (v5)
       else
        bif (decide (c1.1 = (8 : Int))) then
         bif (!n0.2.2.2.2.1.1) then
          Option.bind (r7e N n0 (13 : Int) c1 ((0 : Int), ((0 : Int), ([] : List Int)))) fun v3 =>
          some (v3)
         else
          Option.bind (r7e N n0 (12 : Int) c1 ((0 : Int), ((0 : Int), ([] : List Int)))) fun v3 =>
          some (v3)
        else
         bif (decide (c1.1 = (9 : Int))) then
          bif (decide (c1.1 = (9 : Int))) then
           bif (!n0.2.2.2.2.1.1) then
            Option.bind (r7e N n0 (15 : Int) c1 ((0 : Int), ((0 : Int), ([] : List Int)))) fun v3 =>
            some (v3)
           else
            Option.bind (r7e N n0 (12 : Int) c1 ((0 : Int), ((0 : Int), ([] : List Int)))) fun v3 =>
            some (v3)
          else
           Option.bind (r7e N n0 (12 : Int) c1 ((0 : Int), ((0 : Int), ([] : List Int)))) fun v3 =>
           some (v3)
         else
          bif (decide (c1.1 = (10 : Int))) then
           bif (decide (c1.1 = (10 : Int))) then
            bif (!n0.2.2.2.2.1.1) then
             Option.bind (r7e N n0 (15 : Int) c1 ((0 : Int), ((0 : Int), ([] : List Int)))) fun v3 =>
             some (v3)
            else
             Option.bind (r7e N n0 (12 : Int) c1 ((0 : Int), ((0 : Int), ([] : List Int)))) fun v3 =>
             some (v3)
           else
            Option.bind (r7e N n0 (12 : Int) c1 ((0 : Int), ((0 : Int), ([] : List Int)))) fun v3 =>
            some (v3)
          else
           bif (decide (c1.1 = (11 : Int))) then
            bif (!n0.2.2.2.2.1.1) then
             Option.bind (r7e N n0 (15 : Int) c1 ((0 : Int), ((0 : Int), ([] : List Int)))) fun v3 =>
             some (v3)
            else
             Option.bind (r7e N n0 (12 : Int) c1 ((0 : Int), ((0 : Int), ([] : List Int)))) fun v3 =>
             some (v3)
           else
            Option.bind (r7e N n0 (12 : Int) c1 ((0 : Int), ((0 : Int), ([] : List Int)))) fun v3 =>
            some (v3)
theorem ref27_Take_S (n0 : tG) (c1 : tC) : (runK Tryz.prog (Ev196 N) 400 20 [dG, dC] [dG, dU] (n0, c1, ())).run = ref27_Take N n0 c1 := by kernel_rfl
noncomputable def Ev197 : (R : Type) → Env R := Env.addFn (Ev196 N) 20 (fun R => fnK [dG, dC] [dG, dU] (fun c => ref27_Take N c.1 c.2.1))
theorem Ev197_ok (R : Type) : EnvOK Tryz.prog (Ev197 N R) := EnvOK.addFn hmx (Ev196_ok N R) (Ev196_ok N _) (by kernel_rfl) (fun c => ref27_Take_S N c.1 c.2.1)
noncomputable def r2T_L2_I : LI := ⟨32, 0, [], ⟨[(0, .ty dO), (3, .ty (.int .i64))], []⟩, [(.ret, ⟨[(2, .ty (.int .u32))], []⟩), (.exit 0, ⟨[], []⟩)]⟩
noncomputable def r2T_L2 (X : ((tO × (Int × Unit)) × Unit) → Option ((((Int × Unit) × Unit) ⊕ (Unit × Unit)))) (l0 : tO) (i3 : Int) : Option ((((Int × Unit) × Unit) ⊕ (Unit × Unit))) :=
 bif (decide (i3 < (((List.length l0) : Nat) : Int))) then
  Option.bind (getI l0 i3) fun (v4 : tP) =>
  bif (decide (v4.1 = (3 : Int))) then
   Option.bind (getI l0 i3) fun (v5 : tP) =>
   Option.bind (some ((cond true (decide ((((List.length v5.2) : Nat) : Int) = (4 : Int))) false))) fun (v6 : Bool) =>
   bif v6 then
    Option.bind (getI l0 i3) fun (v7 : tP) =>
    Option.bind (ref01_Num N v7.2) fun v8 =>
    some ((.inl (((IntKind.wrap .u32 v8), ()), ())))
   else
    (X ((l0, ((IntKind.wrap .i64 (i3 + 1)), ())), ()))
  else
   (X ((l0, ((IntKind.wrap .i64 (i3 + 1)), ())), ()))
 else
  some ((.inr ((), ())))
noncomputable def r2T_L2_R (c : ((tO × (Int × Unit)) × Unit)) : Option ((((Int × Unit) × Unit) ⊕ (Unit × Unit))) := gl (fun X c => r2T_L2 N X c.1.1 c.1.2.1) N c
theorem r2T_L2_S (X : ((tO × (Int × Unit)) × Unit) → Option ((((Int × Unit) × Unit) ⊕ (Unit × Unit)))) (l0 : tO) (i3 : Int) : (roundK Tryz.prog (Ev197 N) 400 [25] r2T_L2_I (loopAt Tryz.prog [25] 2) X ((l0, i3, ()), ())).run = r2T_L2 N X l0 i3 := by kernel_rfl
noncomputable def Ev198 : (R : Type) → Env R := Env.addLp (Ev197 N) [25] 0 2 (fun R => lpK Tryz.prog r2T_L2_I (fun X c => r2T_L2 N X c.1.1 c.1.2.1) N)
theorem Ev198_ok (R : Type) : EnvOK Tryz.prog (Ev198 N R) := EnvOK.addLp (Ev197_ok N R) (by kernel_rfl) (lpK_ok (li := r2T_L2_I) (G := fun X c => r2T_L2 N X c.1.1 c.1.2.1) hmx (Ev197_ok N _) (by kernel_rfl) lAs (fun (X : CT r2T_L2_I.sh → Option (OT r2T_L2_I.outs)) (c : CT r2T_L2_I.sh) => r2T_L2_S N X c.1.1 c.1.2.1) N)
noncomputable def r2T (l0 : tO) : Option Int :=
 Option.bind (r2T_L2_R N ((l0, ((0 : Int), ())), ())) fun v2 =>
 Sum.elim
  (fun (v3 : ((Int × Unit) × Unit)) =>
  some (v3.1.1))
  (fun (v3 : (Unit × Unit)) =>
  some ((0 : Int))) v2
theorem r2T_S (l0 : tO) : (runK Tryz.prog (Ev198 N) 400 25 [dO] [(.int .u32)] (l0, ())).run = r2T N l0 := by kernel_rfl
noncomputable def Ev199 : (R : Type) → Env R := Env.addFn (Ev198 N) 25 (fun R => fnK [dO] [(.int .u32)] (fun c => r2T N c.1))
theorem Ev199_ok (R : Type) : EnvOK Tryz.prog (Ev199 N R) := EnvOK.addFn hmx (Ev198_ok N R) (Ev198_ok N _) (by kernel_rfl) (fun c => r2T_S N c.1)
noncomputable def Ev200 : (R : Type) → Env R := Env.addBx (Ev199 N) [(49, 0)]
theorem Ev200_ok (R : Type) : EnvOK Tryz.prog (Ev200 N R) := EnvOK.addBx (Ev199_ok N R) [(49, 0)]
noncomputable def ctl_Same (a0 : tC) (b1 : tC) : Option Bool :=
 Option.bind (bif (decide (a0.1 = b1.1)) then
   some ((cond true (decide (a0.2.1 = b1.2.1)) false))
  else
   some (false)) fun (v3 : Bool) =>
 bif v3 then
  Option.bind (bytes_Equal N a0.2.2 b1.2.2) fun v4 =>
  some ((cond true v4 false))
 else
  some (false)
theorem ctl_Same_S (a0 : tC) (b1 : tC) : (runK Tryz.prog (Ev200 N) 400 49 [dC, dC] [.bool] (a0, b1, ())).run = ctl_Same N a0 b1 := by kernel_rfl
noncomputable def Ev201 : (R : Type) → Env R := Env.addFn (Ev200 N) 49 (fun R => fnK [dC, dC] [.bool] (fun c => ctl_Same N c.1 c.2.1))
theorem Ev201_ok (R : Type) : EnvOK Tryz.prog (Ev201 N R) := EnvOK.addFn hmx (Ev200_ok N R) (Ev200_ok N _) (by kernel_rfl) (fun c => ctl_Same_S N c.1 c.2.1)
noncomputable def Ev202 : (R : Type) → Env R := Env.addBx (Ev201 N) [(11, 0)]
theorem Ev202_ok (R : Type) : EnvOK Tryz.prog (Ev202 N R) := EnvOK.addBx (Ev201_ok N R) [(11, 0)]
noncomputable def law32_side (N : Nat) (s0 : Bool × (Int × (Int × (Int × (Bool))))) : Option (Bool × (Int × (Int × (Int × (Bool))))) :=
 some (s0)
theorem law32_side_S (s0 : Bool × (Int × (Int × (Int × (Bool))))) : (runK Tryz.prog (Ev202 N) 400 11 [dS] [dS] (s0, ())).run = law32_side N s0 := by kernel_rfl
noncomputable def Ev203 : (R : Type) → Env R := Env.addFn (Ev202 N) 11 (fun R => fnK [dS] [dS] (fun c => law32_side N c.1))
theorem Ev203_ok (R : Type) : EnvOK Tryz.prog (Ev203 N R) := EnvOK.addFn hmx (Ev202_ok N R) (Ev202_ok N _) (by kernel_rfl) (fun c => law32_side_S N c.1)
noncomputable def Ev204 : (R : Type) → Env R := Env.addBx (Ev203 N) [(19, 0)]
theorem Ev204_ok (R : Type) : EnvOK Tryz.prog (Ev204 N R) := EnvOK.addBx (Ev203_ok N R) [(19, 0)]
noncomputable def law32_packet (N : Nat) (c0 : tC) : Option tC :=
 some (c0)
theorem law32_packet_S (c0 : tC) : (runK Tryz.prog (Ev204 N) 400 19 [dC] [dC] (c0, ())).run = law32_packet N c0 := by kernel_rfl
noncomputable def Ev205 : (R : Type) → Env R := Env.addFn (Ev204 N) 19 (fun R => fnK [dC] [dC] (fun c => law32_packet N c.1))
theorem Ev205_ok (R : Type) : EnvOK Tryz.prog (Ev205 N R) := EnvOK.addFn hmx (Ev204_ok N R) (Ev204_ok N _) (by kernel_rfl) (fun c => law32_packet_S N c.1)
noncomputable def Ev206 : (R : Type) → Env R := Env.addBx (Ev205 N) [(21, 0)]
theorem Ev206_ok (R : Type) : EnvOK Tryz.prog (Ev206 N R) := EnvOK.addBx (Ev205_ok N R) [(21, 0)]
noncomputable def law32_same_L4_I : LI := ⟨61, 0, [], ⟨[(2, .adr dU), (3, .adr dU), (43, .ty (.int .i64)), (44, .ty (.int .i64))], []⟩, [(.ret, ⟨[(4, .ty .bool)], []⟩), (.exit 0, ⟨[], []⟩)]⟩
noncomputable def law32_same_L4 (X : ((tU × (tU × (Int × (Int × Unit)))) × Unit) → Option ((((Bool × Unit) × Unit) ⊕ (Unit × Unit)))) (a2 : tU) (b3 : tU) (x43 : Int) (x44 : Int) : Option ((((Bool × Unit) × Unit) ⊕ (Unit × Unit))) :=
 bif (decide (x44 < x43)) then
  Option.bind (getI a2.1 x44) fun (v6 : tC) =>
  Option.bind (getI b3.1 x44) fun (v7 : tC) =>
  Option.bind (ctl_Same N v6 v7) fun v8 =>
  bif (!v8) then
   some ((.inl ((false, ()), ())))
  else
   (X ((a2, (b3, (x43, ((IntKind.wrap .i64 (x44 + 1)), ())))), ()))
 else
  some ((.inr ((), ())))
noncomputable def law32_same_L4_R (c : ((tU × (tU × (Int × (Int × Unit)))) × Unit)) : Option ((((Bool × Unit) × Unit) ⊕ (Unit × Unit))) := gl (fun X c => law32_same_L4 N X c.1.1 c.1.2.1 c.1.2.2.1 c.1.2.2.2.1) N c
theorem law32_same_L4_S (X : ((tU × (tU × (Int × (Int × Unit)))) × Unit) → Option ((((Bool × Unit) × Unit) ⊕ (Unit × Unit)))) (a2 : tU) (b3 : tU) (x43 : Int) (x44 : Int) : (roundK Tryz.prog (Ev206 N) 400 [21] law32_same_L4_I (loopAt Tryz.prog [21] 4) X ((a2, b3, x43, x44, ()), ())).run = law32_same_L4 N X a2 b3 x43 x44 := by kernel_rfl
noncomputable def Ev207 : (R : Type) → Env R := Env.addLp (Ev206 N) [21] 0 4 (fun R => lpK Tryz.prog law32_same_L4_I (fun X c => law32_same_L4 N X c.1.1 c.1.2.1 c.1.2.2.1 c.1.2.2.2.1) N)
theorem Ev207_ok (R : Type) : EnvOK Tryz.prog (Ev207 N R) := EnvOK.addLp (Ev206_ok N R) (by kernel_rfl) (lpK_ok (li := law32_same_L4_I) (G := fun X c => law32_same_L4 N X c.1.1 c.1.2.1 c.1.2.2.1 c.1.2.2.2.1) hmx (Ev206_ok N _) (by kernel_rfl) lAs (fun (X : CT law32_same_L4_I.sh → Option (OT law32_same_L4_I.outs)) (c : CT law32_same_L4_I.sh) => law32_same_L4_S N X c.1.1 c.1.2.1 c.1.2.2.1 c.1.2.2.2.1) N)
noncomputable def law32_same (a0 : tU) (b1 : tU) : Option Bool :=
 Option.bind (bif (!(decide ((((List.length a0.1) : Nat) : Int) = (((List.length b1.1) : Nat) : Int)))) then
   some (true)
  else
   some ((cond false true (!(@BEq.beq Bool (@instBEqOfDecidableEq Bool @instDecidableEqBool) a0.2.1 b1.2.1))))) fun (v3 : Bool) =>
 Option.bind (bif v3 then
   some (true)
  else
   some ((cond false true (!(@BEq.beq Bool (@instBEqOfDecidableEq Bool @instDecidableEqBool) a0.2.2.1 b1.2.2.1))))) fun (v4 : Bool) =>
 Option.bind (bif v4 then
   some (true)
  else
   some ((cond false true (!(@BEq.beq Bool (@instBEqOfDecidableEq Bool @instDecidableEqBool) a0.2.2.2.1 b1.2.2.2.1))))) fun (v5 : Bool) =>
 Option.bind (bif v5 then
   some (true)
  else
   some ((cond false true (!(@BEq.beq Bool (@instBEqOfDecidableEq Bool @instDecidableEqBool) a0.2.2.2.2 b1.2.2.2.2))))) fun (v6 : Bool) =>
 bif v6 then
  some (false)
 else
  Option.bind (law32_same_L4_R N ((a0, (b1, ((((List.length a0.1) : Nat) : Int), ((0 : Int), ())))), ())) fun v7 =>
  Sum.elim
   (fun (v8 : ((Bool × Unit) × Unit)) =>
   some (v8.1.1))
   (fun (v8 : (Unit × Unit)) =>
   some (true)) v7
theorem law32_same_S (a0 : tU) (b1 : tU) : (runK Tryz.prog (Ev207 N) 400 21 [dU, dU] [.bool] (a0, b1, ())).run = law32_same N a0 b1 := by kernel_rfl
noncomputable def Ev208 : (R : Type) → Env R := Env.addFn (Ev207 N) 21 (fun R => fnK [dU, dU] [.bool] (fun c => law32_same N c.1 c.2.1))
theorem Ev208_ok (R : Type) : EnvOK Tryz.prog (Ev208 N R) := EnvOK.addFn hmx (Ev207_ok N R) (Ev207_ok N _) (by kernel_rfl) (fun c => law32_same_S N c.1 c.2.1)
noncomputable def ipcp_Sum_L3_I : LI := ⟨36, 0, [], ⟨[(3, .ty (.int .u64)), (6, .ty (.sl (.int .u8))), (7, .ty (.int .i64)), (8, .ty (.int .i64))], []⟩, [(.exit 0, ⟨[(3, .ty (.int .u64))], []⟩)]⟩
noncomputable def ipcp_Sum_L3 (N : Nat) (X : ((Int × ((List Int) × (Int × (Int × Unit)))) × Unit) → Option (((Int × Unit) × Unit))) (sum3 : Int) (x6 : List (Int)) (x7 : Int) (x8 : Int) : Option (((Int × Unit) × Unit)) :=
 bif (decide (x8 < x7)) then
  Option.bind (getI x6 x8) fun (v6 : Int) =>
  bif (decide ((@Int.tmod x8 (2 : Int)) = (0 : Int))) then
   (X (((IntKind.wrap .u64 (sum3 + (IntKind.wrap .u64 ((IntKind.wrap .u64 v6) * ((2 : Int) ^ (min (Int.toNat (8 : Int)) (IntKind.bits .u64))))))), (x6, (x7, ((IntKind.wrap .i64 (x8 + 1)), ())))), ()))
  else
   (X (((IntKind.wrap .u64 (sum3 + (IntKind.wrap .u64 v6))), (x6, (x7, ((IntKind.wrap .i64 (x8 + 1)), ())))), ()))
 else
  some (((sum3, ()), ()))
noncomputable def ipcp_Sum_L3_R (c : ((Int × ((List Int) × (Int × (Int × Unit)))) × Unit)) : Option (((Int × Unit) × Unit)) := gl (fun X c => ipcp_Sum_L3 N X c.1.1 c.1.2.1 c.1.2.2.1 c.1.2.2.2.1) N c
theorem ipcp_Sum_L3_S (X : ((Int × ((List Int) × (Int × (Int × Unit)))) × Unit) → Option (((Int × Unit) × Unit))) (sum3 : Int) (x6 : List (Int)) (x7 : Int) (x8 : Int) : (roundK Tryz.prog (Ev208 N) 400 [40] ipcp_Sum_L3_I (loopAt Tryz.prog [40] 3) X ((sum3, x6, x7, x8, ()), ())).run = ipcp_Sum_L3 N X sum3 x6 x7 x8 := by kernel_rfl
noncomputable def Ev209 : (R : Type) → Env R := Env.addLp (Ev208 N) [40] 0 3 (fun R => lpK Tryz.prog ipcp_Sum_L3_I (fun X c => ipcp_Sum_L3 N X c.1.1 c.1.2.1 c.1.2.2.1 c.1.2.2.2.1) N)
theorem Ev209_ok (R : Type) : EnvOK Tryz.prog (Ev209 N R) := EnvOK.addLp (Ev208_ok N R) (by kernel_rfl) (lpK_ok (li := ipcp_Sum_L3_I) (G := fun X c => ipcp_Sum_L3 N X c.1.1 c.1.2.1 c.1.2.2.1 c.1.2.2.2.1) hmx (Ev208_ok N _) (by kernel_rfl) lAs (fun (X : CT ipcp_Sum_L3_I.sh → Option (OT ipcp_Sum_L3_I.outs)) (c : CT ipcp_Sum_L3_I.sh) => ipcp_Sum_L3_S N X c.1.1 c.1.2.1 c.1.2.2.1 c.1.2.2.2.1) N)
noncomputable def ipcp_Sum_L9_I : LI := ⟨36, 0, [], ⟨[(3, .ty (.int .u64))], []⟩, [(.exit 2, ⟨[(3, .ty (.int .u64))], []⟩)]⟩
noncomputable def ipcp_Sum_L9 (N : Nat) (X : ((Int × Unit) × Unit) → Option (((Int × Unit) × Unit))) (sum3 : Int) : Option (((Int × Unit) × Unit)) :=
 bif (decide ((65535 : Int) < sum3)) then
  (X (((IntKind.wrap .u64 ((@Int.fdiv sum3 ((2 : Int) ^ (min (Int.toNat (16 : Int)) (IntKind.bits .u64)))) + (bits .and .u64 sum3 (65535 : Int)))), ()), ()))
 else
  some (((sum3, ()), ()))
noncomputable def ipcp_Sum_L9_R (c : ((Int × Unit) × Unit)) : Option (((Int × Unit) × Unit)) := gl (fun X c => ipcp_Sum_L9 N X c.1.1) N c
theorem ipcp_Sum_L9_S (X : ((Int × Unit) × Unit) → Option (((Int × Unit) × Unit))) (sum3 : Int) : (roundK Tryz.prog (Ev209 N) 400 [40] ipcp_Sum_L9_I (loopAt Tryz.prog [40] 9) X ((sum3, ()), ())).run = ipcp_Sum_L9 N X sum3 := by kernel_rfl
noncomputable def Ev210 : (R : Type) → Env R := Env.addLp (Ev209 N) [40] 0 9 (fun R => lpK Tryz.prog ipcp_Sum_L9_I (fun X c => ipcp_Sum_L9 N X c.1.1) N)
theorem Ev210_ok (R : Type) : EnvOK Tryz.prog (Ev210 N R) := EnvOK.addLp (Ev209_ok N R) (by kernel_rfl) (lpK_ok (li := ipcp_Sum_L9_I) (G := fun X c => ipcp_Sum_L9 N X c.1.1) hmx (Ev209_ok N _) (by kernel_rfl) lAs (fun (X : CT ipcp_Sum_L9_I.sh → Option (OT ipcp_Sum_L9_I.outs)) (c : CT ipcp_Sum_L9_I.sh) => ipcp_Sum_L9_S N X c.1.1) N)
noncomputable def ipcp_Sum (b0 : List (Int)) : Option Int :=
 Option.bind (ipcp_Sum_L3_R N (((0 : Int), (b0, ((((List.length b0) : Nat) : Int), ((0 : Int), ())))), ())) fun v2 =>
 Option.bind (ipcp_Sum_L9_R N ((v2.1.1, ()), ())) fun v3 =>
 some ((IntKind.wrap .u16 ((65535 : Int) - (IntKind.wrap .u16 v3.1.1))))
theorem ipcp_Sum_S (b0 : List (Int)) : (runK Tryz.prog (Ev210 N) 400 40 [(.sl (.int .u8))] [(.int .u16)] (b0, ())).run = ipcp_Sum N b0 := by kernel_rfl
noncomputable def Ev211 : (R : Type) → Env R := Env.addFn (Ev210 N) 40 (fun R => fnK [(.sl (.int .u8))] [(.int .u16)] (fun c => ipcp_Sum N c.1))
theorem Ev211_ok (R : Type) : EnvOK Tryz.prog (Ev211 N R) := EnvOK.addFn hmx (Ev210_ok N R) (Ev210_ok N _) (by kernel_rfl) (fun c => ipcp_Sum_S N c.1)
noncomputable def Ev212 : (R : Type) → Env R := Env.addBx (Ev211 N) [(38, 0)]
theorem Ev212_ok (R : Type) : EnvOK Tryz.prog (Ev212 N R) := EnvOK.addBx (Ev211_ok N R) [(38, 0)]
noncomputable def ipcp_Lay_6_oJn_L3_I : LI := ⟨33, 0, [], ⟨[(0, .ty (.sl (.sl (.int .u8)))), (3, .ty (.int .i64)), (9, .ty (.sl (.sl (.int .u8)))), (10, .ty (.int .i64)), (11, .ty (.int .i64))], []⟩, [(.exit 0, ⟨[(0, .ty (.sl (.sl (.int .u8)))), (3, .ty (.int .i64))], []⟩)]⟩
noncomputable def ipcp_Lay_6_oJn_L3 (N : Nat) (X : (((List (List Int)) × (Int × ((List (List Int)) × (Int × (Int × Unit))))) × Unit) → Option ((((List (List Int)) × (Int × Unit)) × Unit))) (parts0 : List (List Int)) (size3 : Int) (x9 : List (List Int)) (x10 : Int) (x11 : Int) : Option ((((List (List Int)) × (Int × Unit)) × Unit)) :=
 bif (decide (x11 < x10)) then
  Option.bind (getI x9 x11) fun (v7 : (List Int)) =>
  (X ((parts0, ((IntKind.wrap .i64 (size3 + (((List.length v7) : Nat) : Int))), (x9, (x10, ((IntKind.wrap .i64 (x11 + 1)), ()))))), ()))
 else
  some (((parts0, (size3, ())), ()))
noncomputable def ipcp_Lay_6_oJn_L3_R (c : (((List (List Int)) × (Int × ((List (List Int)) × (Int × (Int × Unit))))) × Unit)) : Option ((((List (List Int)) × (Int × Unit)) × Unit)) := gl (fun X c => ipcp_Lay_6_oJn_L3 N X c.1.1 c.1.2.1 c.1.2.2.1 c.1.2.2.2.1 c.1.2.2.2.2.1) N c
theorem ipcp_Lay_6_oJn_L3_S (X : (((List (List Int)) × (Int × ((List (List Int)) × (Int × (Int × Unit))))) × Unit) → Option ((((List (List Int)) × (Int × Unit)) × Unit))) (parts0 : List (List Int)) (size3 : Int) (x9 : List (List Int)) (x10 : Int) (x11 : Int) : (roundK Tryz.prog (Ev212 N) 400 [68, 6, 38] ipcp_Lay_6_oJn_L3_I (loopAt Tryz.prog [68, 6, 38] 3) X ((parts0, size3, x9, x10, x11, ()), ())).run = ipcp_Lay_6_oJn_L3 N X parts0 size3 x9 x10 x11 := by kernel_rfl
noncomputable def Ev213 : (R : Type) → Env R := Env.addLp (Ev212 N) [68, 6, 38] 0 3 (fun R => lpK Tryz.prog ipcp_Lay_6_oJn_L3_I (fun X c => ipcp_Lay_6_oJn_L3 N X c.1.1 c.1.2.1 c.1.2.2.1 c.1.2.2.2.1 c.1.2.2.2.2.1) N)
theorem Ev213_ok (R : Type) : EnvOK Tryz.prog (Ev213 N R) := EnvOK.addLp (Ev212_ok N R) (by kernel_rfl) (lpK_ok (li := ipcp_Lay_6_oJn_L3_I) (G := fun X c => ipcp_Lay_6_oJn_L3 N X c.1.1 c.1.2.1 c.1.2.2.1 c.1.2.2.2.1 c.1.2.2.2.2.1) hmx (Ev212_ok N _) (by kernel_rfl) lAs (fun (X : CT ipcp_Lay_6_oJn_L3_I.sh → Option (OT ipcp_Lay_6_oJn_L3_I.outs)) (c : CT ipcp_Lay_6_oJn_L3_I.sh) => ipcp_Lay_6_oJn_L3_S N X c.1.1 c.1.2.1 c.1.2.2.1 c.1.2.2.2.1 c.1.2.2.2.2.1) N)
noncomputable def ipcp_Lay_6_oJn_L9_I : LI := ⟨33, 0, [], ⟨[(6, .lit (.own 0)), (22, .ty (.sl (.sl (.int .u8)))), (23, .ty (.int .i64)), (24, .ty (.int .i64))], [.own (.int .u8) 5]⟩, [(.exit 2, ⟨[(6, .lit (.own 0))], [.own (.int .u8) 5]⟩)]⟩
noncomputable def ipcp_Lay_6_oJn_L9 (N : Nat) (X : (((List (List Int)) × (Int × (Int × Unit))) × ((List Int) × Unit)) → Option ((Unit × ((List Int) × Unit)))) (x22 : List (List Int)) (x23 : Int) (x24 : Int) (h0 : List (Int)) : Option ((Unit × ((List Int) × Unit))) :=
 bif (decide (x24 < x23)) then
  Option.bind (getI x22 x24) fun (v6 : (List Int)) =>
  bif (roomB ((List.length h0) + (List.length v6)) 1) then
   (X ((x22, (x23, ((IntKind.wrap .i64 (x24 + 1)), ()))), ((h0 ++ v6), ())))
  else
   none
 else
  some (((), (h0, ())))
noncomputable def ipcp_Lay_6_oJn_L9_R (c : (((List (List Int)) × (Int × (Int × Unit))) × ((List Int) × Unit))) : Option ((Unit × ((List Int) × Unit))) := gl (fun X c => ipcp_Lay_6_oJn_L9 N X c.1.1 c.1.2.1 c.1.2.2.1 c.2.1) N c
theorem ipcp_Lay_6_oJn_L9_S (X : (((List (List Int)) × (Int × (Int × Unit))) × ((List Int) × Unit)) → Option ((Unit × ((List Int) × Unit)))) (x22 : List (List Int)) (x23 : Int) (x24 : Int) (h0 : List (Int)) : (roundK Tryz.prog (Ev213 N) 400 [68, 6, 38] ipcp_Lay_6_oJn_L9_I (loopAt Tryz.prog [68, 6, 38] 9) X ((x22, x23, x24, ()), (h0, ()))).run = ipcp_Lay_6_oJn_L9 N X x22 x23 x24 h0 := by kernel_rfl
noncomputable def Ev214 : (R : Type) → Env R := Env.addLp (Ev213 N) [68, 6, 38] 0 9 (fun R => lpK Tryz.prog ipcp_Lay_6_oJn_L9_I (fun X c => ipcp_Lay_6_oJn_L9 N X c.1.1 c.1.2.1 c.1.2.2.1 c.2.1) N)
theorem Ev214_ok (R : Type) : EnvOK Tryz.prog (Ev214 N R) := EnvOK.addLp (Ev213_ok N R) (by kernel_rfl) (lpK_ok (li := ipcp_Lay_6_oJn_L9_I) (G := fun X c => ipcp_Lay_6_oJn_L9 N X c.1.1 c.1.2.1 c.1.2.2.1 c.2.1) hmx (Ev213_ok N _) (by kernel_rfl) lAs (fun (X : CT ipcp_Lay_6_oJn_L9_I.sh → Option (OT ipcp_Lay_6_oJn_L9_I.outs)) (c : CT ipcp_Lay_6_oJn_L9_I.sh) => ipcp_Lay_6_oJn_L9_S N X c.1.1 c.1.2.1 c.1.2.2.1 c.2.1) N)
noncomputable def ipcp_Lay_7_oJn_L3_I : LI := ⟨33, 1, [], ⟨[(0, .ty (.sl (.sl (.int .u8)))), (3, .ty (.int .i64)), (9, .ty (.sl (.sl (.int .u8)))), (10, .ty (.int .i64)), (11, .ty (.int .i64))], [.own (.int .u8) 5]⟩, [(.exit 0, ⟨[(0, .ty (.sl (.sl (.int .u8)))), (3, .ty (.int .i64))], [.own (.int .u8) 5]⟩)]⟩
noncomputable def ipcp_Lay_7_oJn_L3 (N : Nat) (X : (((List (List Int)) × (Int × ((List (List Int)) × (Int × (Int × Unit))))) × ((List Int) × Unit)) → Option ((((List (List Int)) × (Int × Unit)) × ((List Int) × Unit)))) (parts0 : List (List Int)) (size3 : Int) (x9 : List (List Int)) (x10 : Int) (x11 : Int) (h0 : List (Int)) : Option ((((List (List Int)) × (Int × Unit)) × ((List Int) × Unit))) :=
 bif (decide (x11 < x10)) then
  Option.bind (getI x9 x11) fun (v8 : (List Int)) =>
  (X ((parts0, ((IntKind.wrap .i64 (size3 + (((List.length v8) : Nat) : Int))), (x9, (x10, ((IntKind.wrap .i64 (x11 + 1)), ()))))), (h0, ())))
 else
  some (((parts0, (size3, ())), (h0, ())))
noncomputable def ipcp_Lay_7_oJn_L3_R (c : (((List (List Int)) × (Int × ((List (List Int)) × (Int × (Int × Unit))))) × ((List Int) × Unit))) : Option ((((List (List Int)) × (Int × Unit)) × ((List Int) × Unit))) := gl (fun X c => ipcp_Lay_7_oJn_L3 N X c.1.1 c.1.2.1 c.1.2.2.1 c.1.2.2.2.1 c.1.2.2.2.2.1 c.2.1) N c
theorem ipcp_Lay_7_oJn_L3_S (X : (((List (List Int)) × (Int × ((List (List Int)) × (Int × (Int × Unit))))) × ((List Int) × Unit)) → Option ((((List (List Int)) × (Int × Unit)) × ((List Int) × Unit)))) (parts0 : List (List Int)) (size3 : Int) (x9 : List (List Int)) (x10 : Int) (x11 : Int) (h0 : List (Int)) : (roundK Tryz.prog (Ev214 N) 400 [68, 7, 38] ipcp_Lay_7_oJn_L3_I (loopAt Tryz.prog [68, 7, 38] 3) X ((parts0, size3, x9, x10, x11, ()), (h0, ()))).run = ipcp_Lay_7_oJn_L3 N X parts0 size3 x9 x10 x11 h0 := by kernel_rfl
noncomputable def Ev215 : (R : Type) → Env R := Env.addLp (Ev214 N) [68, 7, 38] 1 3 (fun R => lpK Tryz.prog ipcp_Lay_7_oJn_L3_I (fun X c => ipcp_Lay_7_oJn_L3 N X c.1.1 c.1.2.1 c.1.2.2.1 c.1.2.2.2.1 c.1.2.2.2.2.1 c.2.1) N)
theorem Ev215_ok (R : Type) : EnvOK Tryz.prog (Ev215 N R) := EnvOK.addLp (Ev214_ok N R) (by kernel_rfl) (lpK_ok (li := ipcp_Lay_7_oJn_L3_I) (G := fun X c => ipcp_Lay_7_oJn_L3 N X c.1.1 c.1.2.1 c.1.2.2.1 c.1.2.2.2.1 c.1.2.2.2.2.1 c.2.1) hmx (Ev214_ok N _) (by kernel_rfl) lAs (fun (X : CT ipcp_Lay_7_oJn_L3_I.sh → Option (OT ipcp_Lay_7_oJn_L3_I.outs)) (c : CT ipcp_Lay_7_oJn_L3_I.sh) => ipcp_Lay_7_oJn_L3_S N X c.1.1 c.1.2.1 c.1.2.2.1 c.1.2.2.2.1 c.1.2.2.2.2.1 c.2.1) N)
noncomputable def ipcp_Lay_7_oJn_L9_I : LI := ⟨33, 1, [], ⟨[(6, .lit (.own 1)), (22, .ty (.sl (.sl (.int .u8)))), (23, .ty (.int .i64)), (24, .ty (.int .i64))], [.own (.int .u8) 5, .own (.int .u8) 5]⟩, [(.exit 2, ⟨[(6, .lit (.own 1))], [.own (.int .u8) 5, .own (.int .u8) 5]⟩)]⟩
noncomputable def ipcp_Lay_7_oJn_L9 (N : Nat) (X : (((List (List Int)) × (Int × (Int × Unit))) × ((List Int) × ((List Int) × Unit))) → Option ((Unit × ((List Int) × ((List Int) × Unit))))) (x22 : List (List Int)) (x23 : Int) (x24 : Int) (h0 : List (Int)) (h1 : List (Int)) : Option ((Unit × ((List Int) × ((List Int) × Unit)))) :=
 bif (decide (x24 < x23)) then
  Option.bind (getI x22 x24) fun (v7 : (List Int)) =>
  bif (roomB ((List.length h1) + (List.length v7)) 1) then
   (X ((x22, (x23, ((IntKind.wrap .i64 (x24 + 1)), ()))), (h0, ((h1 ++ v7), ()))))
  else
   none
 else
  some (((), (h0, (h1, ()))))
noncomputable def ipcp_Lay_7_oJn_L9_R (c : (((List (List Int)) × (Int × (Int × Unit))) × ((List Int) × ((List Int) × Unit)))) : Option ((Unit × ((List Int) × ((List Int) × Unit)))) := gl (fun X c => ipcp_Lay_7_oJn_L9 N X c.1.1 c.1.2.1 c.1.2.2.1 c.2.1 c.2.2.1) N c
theorem ipcp_Lay_7_oJn_L9_S (X : (((List (List Int)) × (Int × (Int × Unit))) × ((List Int) × ((List Int) × Unit))) → Option ((Unit × ((List Int) × ((List Int) × Unit))))) (x22 : List (List Int)) (x23 : Int) (x24 : Int) (h0 : List (Int)) (h1 : List (Int)) : (roundK Tryz.prog (Ev215 N) 400 [68, 7, 38] ipcp_Lay_7_oJn_L9_I (loopAt Tryz.prog [68, 7, 38] 9) X ((x22, x23, x24, ()), (h0, h1, ()))).run = ipcp_Lay_7_oJn_L9 N X x22 x23 x24 h0 h1 := by kernel_rfl
noncomputable def Ev216 : (R : Type) → Env R := Env.addLp (Ev215 N) [68, 7, 38] 1 9 (fun R => lpK Tryz.prog ipcp_Lay_7_oJn_L9_I (fun X c => ipcp_Lay_7_oJn_L9 N X c.1.1 c.1.2.1 c.1.2.2.1 c.2.1 c.2.2.1) N)
theorem Ev216_ok (R : Type) : EnvOK Tryz.prog (Ev216 N R) := EnvOK.addLp (Ev215_ok N R) (by kernel_rfl) (lpK_ok (li := ipcp_Lay_7_oJn_L9_I) (G := fun X c => ipcp_Lay_7_oJn_L9 N X c.1.1 c.1.2.1 c.1.2.2.1 c.2.1 c.2.2.1) hmx (Ev215_ok N _) (by kernel_rfl) lAs (fun (X : CT ipcp_Lay_7_oJn_L9_I.sh → Option (OT ipcp_Lay_7_oJn_L9_I.outs)) (c : CT ipcp_Lay_7_oJn_L9_I.sh) => ipcp_Lay_7_oJn_L9_S N X c.1.1 c.1.2.1 c.1.2.2.1 c.2.1 c.2.2.1) N)
noncomputable def ipcp_Lay_8_oJn_L3_I : LI := ⟨33, 2, [], ⟨[(0, .ty (.sl (.sl (.int .u8)))), (3, .ty (.int .i64)), (9, .ty (.sl (.sl (.int .u8)))), (10, .ty (.int .i64)), (11, .ty (.int .i64))], [.dead, .dead]⟩, [(.exit 0, ⟨[(0, .ty (.sl (.sl (.int .u8)))), (3, .ty (.int .i64))], [.dead, .dead]⟩)]⟩
noncomputable def ipcp_Lay_8_oJn_L3 (N : Nat) (X : (((List (List Int)) × (Int × ((List (List Int)) × (Int × (Int × Unit))))) × Unit) → Option ((((List (List Int)) × (Int × Unit)) × Unit))) (parts0 : List (List Int)) (size3 : Int) (x9 : List (List Int)) (x10 : Int) (x11 : Int) : Option ((((List (List Int)) × (Int × Unit)) × Unit)) :=
 bif (decide (x11 < x10)) then
  Option.bind (getI x9 x11) fun (v7 : (List Int)) =>
  (X ((parts0, ((IntKind.wrap .i64 (size3 + (((List.length v7) : Nat) : Int))), (x9, (x10, ((IntKind.wrap .i64 (x11 + 1)), ()))))), ()))
 else
  some (((parts0, (size3, ())), ()))
noncomputable def ipcp_Lay_8_oJn_L3_R (c : (((List (List Int)) × (Int × ((List (List Int)) × (Int × (Int × Unit))))) × Unit)) : Option ((((List (List Int)) × (Int × Unit)) × Unit)) := gl (fun X c => ipcp_Lay_8_oJn_L3 N X c.1.1 c.1.2.1 c.1.2.2.1 c.1.2.2.2.1 c.1.2.2.2.2.1) N c
theorem ipcp_Lay_8_oJn_L3_S (X : (((List (List Int)) × (Int × ((List (List Int)) × (Int × (Int × Unit))))) × Unit) → Option ((((List (List Int)) × (Int × Unit)) × Unit))) (parts0 : List (List Int)) (size3 : Int) (x9 : List (List Int)) (x10 : Int) (x11 : Int) : (roundK Tryz.prog (Ev216 N) 400 [68, 8, 38] ipcp_Lay_8_oJn_L3_I (loopAt Tryz.prog [68, 8, 38] 3) X ((parts0, size3, x9, x10, x11, ()), ())).run = ipcp_Lay_8_oJn_L3 N X parts0 size3 x9 x10 x11 := by kernel_rfl
noncomputable def Ev217 : (R : Type) → Env R := Env.addLp (Ev216 N) [68, 8, 38] 2 3 (fun R => lpK Tryz.prog ipcp_Lay_8_oJn_L3_I (fun X c => ipcp_Lay_8_oJn_L3 N X c.1.1 c.1.2.1 c.1.2.2.1 c.1.2.2.2.1 c.1.2.2.2.2.1) N)
theorem Ev217_ok (R : Type) : EnvOK Tryz.prog (Ev217 N R) := EnvOK.addLp (Ev216_ok N R) (by kernel_rfl) (lpK_ok (li := ipcp_Lay_8_oJn_L3_I) (G := fun X c => ipcp_Lay_8_oJn_L3 N X c.1.1 c.1.2.1 c.1.2.2.1 c.1.2.2.2.1 c.1.2.2.2.2.1) hmx (Ev216_ok N _) (by kernel_rfl) lAs (fun (X : CT ipcp_Lay_8_oJn_L3_I.sh → Option (OT ipcp_Lay_8_oJn_L3_I.outs)) (c : CT ipcp_Lay_8_oJn_L3_I.sh) => ipcp_Lay_8_oJn_L3_S N X c.1.1 c.1.2.1 c.1.2.2.1 c.1.2.2.2.1 c.1.2.2.2.2.1) N)
noncomputable def ipcp_Lay_8_oJn_L9_I : LI := ⟨33, 2, [], ⟨[(6, .lit (.own 2)), (22, .ty (.sl (.sl (.int .u8)))), (23, .ty (.int .i64)), (24, .ty (.int .i64))], [.dead, .dead, .own (.int .u8) 5]⟩, [(.exit 2, ⟨[(6, .lit (.own 2))], [.dead, .dead, .own (.int .u8) 5]⟩)]⟩
noncomputable def ipcp_Lay_8_oJn_L9 (N : Nat) (X : (((List (List Int)) × (Int × (Int × Unit))) × ((List Int) × Unit)) → Option ((Unit × ((List Int) × Unit)))) (x22 : List (List Int)) (x23 : Int) (x24 : Int) (h0 : List (Int)) : Option ((Unit × ((List Int) × Unit))) :=
 bif (decide (x24 < x23)) then
  Option.bind (getI x22 x24) fun (v6 : (List Int)) =>
  bif (roomB ((List.length h0) + (List.length v6)) 1) then
   (X ((x22, (x23, ((IntKind.wrap .i64 (x24 + 1)), ()))), ((h0 ++ v6), ())))
  else
   none
 else
  some (((), (h0, ())))
noncomputable def ipcp_Lay_8_oJn_L9_R (c : (((List (List Int)) × (Int × (Int × Unit))) × ((List Int) × Unit))) : Option ((Unit × ((List Int) × Unit))) := gl (fun X c => ipcp_Lay_8_oJn_L9 N X c.1.1 c.1.2.1 c.1.2.2.1 c.2.1) N c
theorem ipcp_Lay_8_oJn_L9_S (X : (((List (List Int)) × (Int × (Int × Unit))) × ((List Int) × Unit)) → Option ((Unit × ((List Int) × Unit)))) (x22 : List (List Int)) (x23 : Int) (x24 : Int) (h0 : List (Int)) : (roundK Tryz.prog (Ev217 N) 400 [68, 8, 38] ipcp_Lay_8_oJn_L9_I (loopAt Tryz.prog [68, 8, 38] 9) X ((x22, x23, x24, ()), (h0, ()))).run = ipcp_Lay_8_oJn_L9 N X x22 x23 x24 h0 := by kernel_rfl
noncomputable def Ev218 : (R : Type) → Env R := Env.addLp (Ev217 N) [68, 8, 38] 2 9 (fun R => lpK Tryz.prog ipcp_Lay_8_oJn_L9_I (fun X c => ipcp_Lay_8_oJn_L9 N X c.1.1 c.1.2.1 c.1.2.2.1 c.2.1) N)
theorem Ev218_ok (R : Type) : EnvOK Tryz.prog (Ev218 N R) := EnvOK.addLp (Ev217_ok N R) (by kernel_rfl) (lpK_ok (li := ipcp_Lay_8_oJn_L9_I) (G := fun X c => ipcp_Lay_8_oJn_L9 N X c.1.1 c.1.2.1 c.1.2.2.1 c.2.1) hmx (Ev217_ok N _) (by kernel_rfl) lAs (fun (X : CT ipcp_Lay_8_oJn_L9_I.sh → Option (OT ipcp_Lay_8_oJn_L9_I.outs)) (c : CT ipcp_Lay_8_oJn_L9_I.sh) => ipcp_Lay_8_oJn_L9_S N X c.1.1 c.1.2.1 c.1.2.2.1 c.2.1) N)
noncomputable def ipcp_Lay_9_oJn_L3_I : LI := ⟨33, 3, [], ⟨[(0, .ty (.sl (.sl (.int .u8)))), (3, .ty (.int .i64)), (9, .ty (.sl (.sl (.int .u8)))), (10, .ty (.int .i64)), (11, .ty (.int .i64))], [.dead, .dead, .dead]⟩, [(.exit 0, ⟨[(0, .ty (.sl (.sl (.int .u8)))), (3, .ty (.int .i64))], [.dead, .dead, .dead]⟩)]⟩
noncomputable def ipcp_Lay_9_oJn_L3 (N : Nat) (X : (((List (List Int)) × (Int × ((List (List Int)) × (Int × (Int × Unit))))) × Unit) → Option ((((List (List Int)) × (Int × Unit)) × Unit))) (parts0 : List (List Int)) (size3 : Int) (x9 : List (List Int)) (x10 : Int) (x11 : Int) : Option ((((List (List Int)) × (Int × Unit)) × Unit)) :=
 bif (decide (x11 < x10)) then
  Option.bind (getI x9 x11) fun (v7 : (List Int)) =>
  (X ((parts0, ((IntKind.wrap .i64 (size3 + (((List.length v7) : Nat) : Int))), (x9, (x10, ((IntKind.wrap .i64 (x11 + 1)), ()))))), ()))
 else
  some (((parts0, (size3, ())), ()))
noncomputable def ipcp_Lay_9_oJn_L3_R (c : (((List (List Int)) × (Int × ((List (List Int)) × (Int × (Int × Unit))))) × Unit)) : Option ((((List (List Int)) × (Int × Unit)) × Unit)) := gl (fun X c => ipcp_Lay_9_oJn_L3 N X c.1.1 c.1.2.1 c.1.2.2.1 c.1.2.2.2.1 c.1.2.2.2.2.1) N c
theorem ipcp_Lay_9_oJn_L3_S (X : (((List (List Int)) × (Int × ((List (List Int)) × (Int × (Int × Unit))))) × Unit) → Option ((((List (List Int)) × (Int × Unit)) × Unit))) (parts0 : List (List Int)) (size3 : Int) (x9 : List (List Int)) (x10 : Int) (x11 : Int) : (roundK Tryz.prog (Ev218 N) 400 [68, 9, 38] ipcp_Lay_9_oJn_L3_I (loopAt Tryz.prog [68, 9, 38] 3) X ((parts0, size3, x9, x10, x11, ()), ())).run = ipcp_Lay_9_oJn_L3 N X parts0 size3 x9 x10 x11 := by kernel_rfl
noncomputable def Ev219 : (R : Type) → Env R := Env.addLp (Ev218 N) [68, 9, 38] 3 3 (fun R => lpK Tryz.prog ipcp_Lay_9_oJn_L3_I (fun X c => ipcp_Lay_9_oJn_L3 N X c.1.1 c.1.2.1 c.1.2.2.1 c.1.2.2.2.1 c.1.2.2.2.2.1) N)
theorem Ev219_ok (R : Type) : EnvOK Tryz.prog (Ev219 N R) := EnvOK.addLp (Ev218_ok N R) (by kernel_rfl) (lpK_ok (li := ipcp_Lay_9_oJn_L3_I) (G := fun X c => ipcp_Lay_9_oJn_L3 N X c.1.1 c.1.2.1 c.1.2.2.1 c.1.2.2.2.1 c.1.2.2.2.2.1) hmx (Ev218_ok N _) (by kernel_rfl) lAs (fun (X : CT ipcp_Lay_9_oJn_L3_I.sh → Option (OT ipcp_Lay_9_oJn_L3_I.outs)) (c : CT ipcp_Lay_9_oJn_L3_I.sh) => ipcp_Lay_9_oJn_L3_S N X c.1.1 c.1.2.1 c.1.2.2.1 c.1.2.2.2.1 c.1.2.2.2.2.1) N)
noncomputable def ipcp_Lay_9_oJn_L9_I : LI := ⟨33, 3, [], ⟨[(6, .lit (.own 3)), (22, .ty (.sl (.sl (.int .u8)))), (23, .ty (.int .i64)), (24, .ty (.int .i64))], [.dead, .dead, .dead, .own (.int .u8) 5]⟩, [(.exit 2, ⟨[(6, .lit (.own 3))], [.dead, .dead, .dead, .own (.int .u8) 5]⟩)]⟩
noncomputable def ipcp_Lay_9_oJn_L9 (N : Nat) (X : (((List (List Int)) × (Int × (Int × Unit))) × ((List Int) × Unit)) → Option ((Unit × ((List Int) × Unit)))) (x22 : List (List Int)) (x23 : Int) (x24 : Int) (h0 : List (Int)) : Option ((Unit × ((List Int) × Unit))) :=
 bif (decide (x24 < x23)) then
  Option.bind (getI x22 x24) fun (v6 : (List Int)) =>
  bif (roomB ((List.length h0) + (List.length v6)) 1) then
   (X ((x22, (x23, ((IntKind.wrap .i64 (x24 + 1)), ()))), ((h0 ++ v6), ())))
  else
   none
 else
  some (((), (h0, ())))
noncomputable def ipcp_Lay_9_oJn_L9_R (c : (((List (List Int)) × (Int × (Int × Unit))) × ((List Int) × Unit))) : Option ((Unit × ((List Int) × Unit))) := gl (fun X c => ipcp_Lay_9_oJn_L9 N X c.1.1 c.1.2.1 c.1.2.2.1 c.2.1) N c
theorem ipcp_Lay_9_oJn_L9_S (X : (((List (List Int)) × (Int × (Int × Unit))) × ((List Int) × Unit)) → Option ((Unit × ((List Int) × Unit)))) (x22 : List (List Int)) (x23 : Int) (x24 : Int) (h0 : List (Int)) : (roundK Tryz.prog (Ev219 N) 400 [68, 9, 38] ipcp_Lay_9_oJn_L9_I (loopAt Tryz.prog [68, 9, 38] 9) X ((x22, x23, x24, ()), (h0, ()))).run = ipcp_Lay_9_oJn_L9 N X x22 x23 x24 h0 := by kernel_rfl
noncomputable def Ev220 : (R : Type) → Env R := Env.addLp (Ev219 N) [68, 9, 38] 3 9 (fun R => lpK Tryz.prog ipcp_Lay_9_oJn_L9_I (fun X c => ipcp_Lay_9_oJn_L9 N X c.1.1 c.1.2.1 c.1.2.2.1 c.2.1) N)
theorem Ev220_ok (R : Type) : EnvOK Tryz.prog (Ev220 N R) := EnvOK.addLp (Ev219_ok N R) (by kernel_rfl) (lpK_ok (li := ipcp_Lay_9_oJn_L9_I) (G := fun X c => ipcp_Lay_9_oJn_L9 N X c.1.1 c.1.2.1 c.1.2.2.1 c.2.1) hmx (Ev219_ok N _) (by kernel_rfl) lAs (fun (X : CT ipcp_Lay_9_oJn_L9_I.sh → Option (OT ipcp_Lay_9_oJn_L9_I.outs)) (c : CT ipcp_Lay_9_oJn_L9_I.sh) => ipcp_Lay_9_oJn_L9_S N X c.1.1 c.1.2.1 c.1.2.2.1 c.2.1) N)
noncomputable def ipcp_Lay (d0 : Int × (Int × tC)) : Option ((List Int) × Int) :=
 bif (decide ((1480 : Int) < (((List.length d0.2.2.2.2) : Nat) : Int))) then
  some ((([] : List Int), (8 : Int)))
 else
  Option.bind (octs_Put N (IntKind.wrap .u64 (IntKind.wrap .i64 ((20 : Int) + (((List.length d0.2.2.2.2) : Nat) : Int)))) (2 : Int) false) fun v2 =>
  Option.bind (octs_Put N (IntKind.wrap .u64 d0.2.2.1) (4 : Int) false) fun v3 =>
  Option.bind (octs_Put N (IntKind.wrap .u64 d0.2.2.2.1) (4 : Int) false) fun v4 =>
  Option.bind (ipcp_Lay_6_oJn_L3_R N ((([([69, 0] : List Int), v2.1, (@List.replicate Int (Int.toNat (4 : Int)) (0 : Int)), ([d0.1, d0.2.1] : List (Int))] : List ((List Int))), ((0 : Int), (([([69, 0] : List Int), v2.1, (@List.replicate Int (Int.toNat (4 : Int)) (0 : Int)), ([d0.1, d0.2.1] : List (Int))] : List ((List Int))), ((((List.length ([([69, 0] : List Int), v2.1, (@List.replicate Int (Int.toNat (4 : Int)) (0 : Int)), ([d0.1, d0.2.1] : List (Int))] : List ((List Int)))) : Nat) : Int), ((0 : Int), ()))))), ())) fun v5 =>
  bif ((decide ((0 : Int) ≤ (0 : Int) ∧ (0 : Int) ≤ v5.1.2.1)) && (roomB (Int.toNat v5.1.2.1) 1)) then
   Option.bind (ipcp_Lay_6_oJn_L9_R N ((v5.1.1, ((((List.length v5.1.1) : Nat) : Int), ((0 : Int), ()))), ((@List.replicate Int (Int.toNat (0 : Int)) (0 : Int)), ()))) fun v6 =>
   Option.bind (ipcp_Lay_7_oJn_L3_R N ((([v3.1, v4.1] : List ((List Int))), ((0 : Int), (([v3.1, v4.1] : List ((List Int))), ((((List.length ([v3.1, v4.1] : List ((List Int)))) : Nat) : Int), ((0 : Int), ()))))), (v6.2.1, ()))) fun v7 =>
   bif ((decide ((0 : Int) ≤ (0 : Int) ∧ (0 : Int) ≤ v7.1.2.1)) && (roomB (Int.toNat v7.1.2.1) 1)) then
    Option.bind (ipcp_Lay_7_oJn_L9_R N ((v7.1.1, ((((List.length v7.1.1) : Nat) : Int), ((0 : Int), ()))), (v7.2.1, ((@List.replicate Int (Int.toNat (0 : Int)) (0 : Int)), ())))) fun v8 =>
    Option.bind (ipcp_Lay_8_oJn_L3_R N ((([v8.2.1, v8.2.2.1] : List ((List Int))), ((0 : Int), (([v8.2.1, v8.2.2.1] : List ((List Int))), ((((List.length ([v8.2.1, v8.2.2.1] : List ((List Int)))) : Nat) : Int), ((0 : Int), ()))))), ())) fun v9 =>
    bif ((decide ((0 : Int) ≤ (0 : Int) ∧ (0 : Int) ≤ v9.1.2.1)) && (roomB (Int.toNat v9.1.2.1) 1)) then
     Option.bind (ipcp_Lay_8_oJn_L9_R N ((v9.1.1, ((((List.length v9.1.1) : Nat) : Int), ((0 : Int), ()))), ((@List.replicate Int (Int.toNat (0 : Int)) (0 : Int)), ()))) fun v10 =>
     Option.bind (ipcp_Sum N v10.2.1) fun v11 =>
     Option.bind (octs_Put N (IntKind.wrap .u64 v11) (2 : Int) false) fun v12 =>
     Option.bind (ipcp_Lay_9_oJn_L3_R N ((([v8.2.1, v12.1, v8.2.2.1, d0.2.2.2.2] : List ((List Int))), ((0 : Int), (([v8.2.1, v12.1, v8.2.2.1, d0.2.2.2.2] : List ((List Int))), ((((List.length ([v8.2.1, v12.1, v8.2.2.1, d0.2.2.2.2] : List ((List Int)))) : Nat) : Int), ((0 : Int), ()))))), ())) fun v13 =>
     bif ((decide ((0 : Int) ≤ (0 : Int) ∧ (0 : Int) ≤ v13.1.2.1)) && (roomB (Int.toNat v13.1.2.1) 1)) then
      Option.bind (ipcp_Lay_9_oJn_L9_R N ((v13.1.1, ((((List.length v13.1.1) : Nat) : Int), ((0 : Int), ()))), ((@List.replicate Int (Int.toNat (0 : Int)) (0 : Int)), ()))) fun v14 =>
      some ((v14.2.1, (0 : Int)))
     else
      none
    else
     none
   else
    none
  else
   none
theorem ipcp_Lay_S (d0 : Int × (Int × tC)) : (runK Tryz.prog (Ev220 N) 400 38 [(.pair (.int .u8) (.pair (.int .u8) (.pair (.int .u32) (.pair (.int .u32) (.sl (.int .u8))))))] [(.sl (.int .u8)), (.int .i64)] (d0, ())).run = ipcp_Lay N d0 := by kernel_rfl
noncomputable def Ev221 : (R : Type) → Env R := Env.addFn (Ev220 N) 38 (fun R => fnK [(.pair (.int .u8) (.pair (.int .u8) (.pair (.int .u32) (.pair (.int .u32) (.sl (.int .u8))))))] [(.sl (.int .u8)), (.int .i64)] (fun c => ipcp_Lay N c.1))
theorem Ev221_ok (R : Type) : EnvOK Tryz.prog (Ev221 N R) := EnvOK.addFn hmx (Ev220_ok N R) (Ev220_ok N _) (by kernel_rfl) (fun c => ipcp_Lay_S N c.1)
noncomputable def ipcp_Parse (b0 : List (Int)) : Option ((Int × (Int × tC)) × Int) :=
 bif (decide ((((List.length b0) : Nat) : Int) < (20 : Int))) then
  some ((((0 : Int), ((0 : Int), ((0 : Int), ((0 : Int), ([] : List Int))))), (4 : Int)))
 else
  Option.bind (subI b0 (2 : Int) (4 : Int)) fun (v2 : (List Int)) =>
  Option.bind (octs_Get N v2 false) fun v3 =>
  Option.bind (getI b0 (0 : Int)) fun (v4 : Int) =>
  bif (!(decide (v4 = (69 : Int)))) then
   some ((((0 : Int), ((0 : Int), ((0 : Int), ((0 : Int), ([] : List Int))))), (15 : Int)))
  else
   bif (decide ((IntKind.wrap .i64 v3.1) < (20 : Int))) then
    some ((((0 : Int), ((0 : Int), ((0 : Int), ((0 : Int), ([] : List Int))))), (3 : Int)))
   else
    bif (decide ((((List.length b0) : Nat) : Int) < (IntKind.wrap .i64 v3.1))) then
     some ((((0 : Int), ((0 : Int), ((0 : Int), ((0 : Int), ([] : List Int))))), (4 : Int)))
    else
     bif (decide ((1500 : Int) < (IntKind.wrap .i64 v3.1))) then
      some ((((0 : Int), ((0 : Int), ((0 : Int), ((0 : Int), ([] : List Int))))), (8 : Int)))
     else
      Option.bind (takeI b0 (20 : Int)) fun (v5 : (List Int)) =>
      Option.bind (ipcp_Sum N v5) fun v6 =>
      bif (!(decide (v6 = (0 : Int)))) then
       some ((((0 : Int), ((0 : Int), ((0 : Int), ((0 : Int), ([] : List Int))))), (3 : Int)))
      else
       Option.bind (getI b0 (8 : Int)) fun (v7 : Int) =>
       Option.bind (getI b0 (9 : Int)) fun (v8 : Int) =>
       Option.bind (subI b0 (12 : Int) (16 : Int)) fun (v9 : (List Int)) =>
       Option.bind (ipcp_addr N v9) fun v10 =>
       Option.bind (subI b0 (16 : Int) (20 : Int)) fun (v11 : (List Int)) =>
       Option.bind (ipcp_addr N v11) fun v12 =>
       Option.bind (subI b0 (20 : Int) (IntKind.wrap .i64 v3.1)) fun (v13 : (List Int)) =>
       Option.bind (sLB N v13) fun v14 =>
       some (((v7, (v8, (v10, (v12, v14)))), (0 : Int)))
theorem ipcp_Parse_S (b0 : List (Int)) : (runK Tryz.prog (Ev221 N) 400 39 [(.sl (.int .u8))] [(.pair (.int .u8) (.pair (.int .u8) (.pair (.int .u32) (.pair (.int .u32) (.sl (.int .u8)))))), (.int .i64)] (b0, ())).run = ipcp_Parse N b0 := by kernel_rfl
noncomputable def Ev222 : (R : Type) → Env R := Env.addFn (Ev221 N) 39 (fun R => fnK [(.sl (.int .u8))] [(.pair (.int .u8) (.pair (.int .u8) (.pair (.int .u32) (.pair (.int .u32) (.sl (.int .u8)))))), (.int .i64)] (fun c => ipcp_Parse N c.1))
theorem Ev222_ok (R : Type) : EnvOK Tryz.prog (Ev222 N R) := EnvOK.addFn hmx (Ev221_ok N R) (Ev221_ok N _) (by kernel_rfl) (fun c => ipcp_Parse_S N c.1)
noncomputable def Ev223 : (R : Type) → Env R := Env.addBx (Ev222 N) [(41, 0)]
theorem Ev223_ok (R : Type) : EnvOK Tryz.prog (Ev223 N R) := EnvOK.addBx (Ev222_ok N R) [(41, 0)]
noncomputable def ipcp_Same (a0 : Int × (Int × tC)) (b1 : Int × (Int × tC)) : Option Bool :=
 Option.bind (bif (decide (a0.1 = b1.1)) then
   some ((cond true (decide (a0.2.1 = b1.2.1)) false))
  else
   some (false)) fun (v3 : Bool) =>
 Option.bind (bif v3 then
   some ((cond true (decide (a0.2.2.1 = b1.2.2.1)) false))
  else
   some (false)) fun (v4 : Bool) =>
 Option.bind (bif v4 then
   some ((cond true (decide (a0.2.2.2.1 = b1.2.2.2.1)) false))
  else
   some (false)) fun (v5 : Bool) =>
 bif v5 then
  Option.bind (bytes_Equal N a0.2.2.2.2 b1.2.2.2.2) fun v6 =>
  some ((cond true v6 false))
 else
  some (false)
theorem ipcp_Same_S (a0 : Int × (Int × tC)) (b1 : Int × (Int × tC)) : (runK Tryz.prog (Ev223 N) 400 41 [(.pair (.int .u8) (.pair (.int .u8) (.pair (.int .u32) (.pair (.int .u32) (.sl (.int .u8)))))), (.pair (.int .u8) (.pair (.int .u8) (.pair (.int .u32) (.pair (.int .u32) (.sl (.int .u8))))))] [.bool] (a0, b1, ())).run = ipcp_Same N a0 b1 := by kernel_rfl
noncomputable def Ev224 : (R : Type) → Env R := Env.addFn (Ev223 N) 41 (fun R => fnK [(.pair (.int .u8) (.pair (.int .u8) (.pair (.int .u32) (.pair (.int .u32) (.sl (.int .u8)))))), (.pair (.int .u8) (.pair (.int .u8) (.pair (.int .u32) (.pair (.int .u32) (.sl (.int .u8))))))] [.bool] (fun c => ipcp_Same N c.1 c.2.1))
theorem Ev224_ok (R : Type) : EnvOK Tryz.prog (Ev224 N R) := EnvOK.addFn hmx (Ev223_ok N R) (Ev223_ok N _) (by kernel_rfl) (fun c => ipcp_Same_S N c.1 c.2.1)
noncomputable def law32_alive : Option Bool :=
 Option.bind (ipcp_Lay N ((9 : Int), ((17 : Int), ((1 : Int), ((2 : Int), ([120] : List Int)))))) fun v1 =>
 Option.bind (ipcp_Parse N v1.1) fun v2 =>
 Option.bind (ipcp_End_Do N ((true, (((0 : Int), ((0 : Int), false)), (false, (false, ((5 : Int), ((0 : Int), ((0 : Int), false))))))), ((0 : Int), (((0 : Int), (0 : Int)), ((0 : Int), (([] : List (tP)), (([] : List (tP)), (0 : Int))))))) (2 : Int)) fun v3 =>
 Option.bind (ipcp_End_Do N v3.1 (0 : Int)) fun v4 =>
 Option.bind (bif (decide ((((List.length v1.1) : Nat) : Int) = (21 : Int))) then
   some ((cond true (decide (v1.2 = (0 : Int))) false))
  else
   some (false)) fun (v5 : Bool) =>
 Option.bind (bif v5 then
   some ((cond true (decide (v2.1.2.2.2.1 = (2 : Int))) false))
  else
   some (false)) fun (v6 : Bool) =>
 Option.bind (bif v6 then
   some ((cond true (decide (v2.2 = (0 : Int))) false))
  else
   some (false)) fun (v7 : Bool) =>
 bif v7 then
  Option.bind (takeI v1.1 (20 : Int)) fun (v8 : (List Int)) =>
  Option.bind (ipcp_Sum N v8) fun v9 =>
  Option.bind (some ((cond true (decide (v9 = (0 : Int))) false))) fun (v10 : Bool) =>
  bif v10 then
   Option.bind (some ((cond true (decide ((((List.length v4.2.1) : Nat) : Int) = (1 : Int))) false))) fun (v11 : Bool) =>
   bif v11 then
    Option.bind (getI v4.2.1 (0 : Int)) fun (v12 : tC) =>
    Option.bind (some ((cond true (decide ((((List.length v12.2.2) : Nat) : Int) = (6 : Int))) false))) fun (v13 : Bool) =>
    bif v13 then
     Option.bind (some ((cond true (decide (v4.1.1.2.2.2.2.1 = (5 : Int))) false))) fun (v14 : Bool) =>
     bif v14 then
      Option.bind (ipcp_Same N v2.1 v2.1) fun v15 =>
      some ((cond true v15 false))
     else
      some (false)
    else
     some (false)
   else
    some (false)
  else
   some (false)
 else
  some (false)
theorem law32_alive_S : (runK Tryz.prog (Ev224 N) 400 12 [] [.bool] ()).run = law32_alive N  := by kernel_rfl
noncomputable def Ev225 : (R : Type) → Env R := Env.addFn (Ev224 N) 12 (fun R => fnK [] [.bool] (fun c => law32_alive N ))
theorem Ev225_ok (R : Type) : EnvOK Tryz.prog (Ev225 N R) := EnvOK.addFn hmx (Ev224_ok N R) (Ev224_ok N _) (by kernel_rfl) (fun c => law32_alive_S N )
noncomputable def Ev226 : (R : Type) → Env R := Env.addBx (Ev225 N) [(4, 0)]
theorem Ev226_ok (R : Type) : EnvOK Tryz.prog (Ev226 N R) := EnvOK.addBx (Ev225_ok N R) [(4, 0)]
noncomputable def lIP3_I : LI := ⟨127, 0, [], ⟨[(5, .lit (.box 0 0)), (6, .lit (.box 1 0)), (21, .ty (.sl (.pair (.int .u8) (.pair (.int .i64) (.pair .bool (.pair .bool dC)))))), (22, .ty (.int .i64)), (23, .ty (.int .i64))], [.box 57 dN, .box 66 dG]⟩, [(.ret, ⟨[(4, .ty .bool)], []⟩), (.exit 0, ⟨[], []⟩)]⟩
noncomputable def lIP3 (X : (((List tS) × (Int × (Int × Unit))) × (tN × (tG × Unit))) → Option ((((Bool × Unit) × Unit) ⊕ (Unit × Unit)))) (x21 : List tS) (x22 : Int) (x23 : Int) (h0 : tN) (h1 : tG) : Option ((((Bool × Unit) × Unit) ⊕ (Unit × Unit))) :=
 bif (decide (x23 < x22)) then
  Option.bind (getI x21 x23) fun (v7 : tS) =>
  bif (decide ((1000 : Int) < (((List.length v7.2.2.2.2.2.2) : Nat) : Int))) then
   Option.bind (@law32_alive N) fun (v8 : Bool) =>
   some ((.inl ((v8, ()), ())))
  else
   bif v7.2.2.1 then
    bif v7.2.2.2.1 then
     Option.bind (ref22_Conf N (2 : Int) h1.2.2.1 h1.2.2.2.1) fun v8 =>
     bif (decide ((@Int.tmod v7.1 (4 : Int)) = (0 : Int))) then
      Option.bind (ipcp_End_Do N h0 v7.2.1) fun v9 =>
      Option.bind (ref27_Do N h1 v7.2.1) fun v10 =>
      Option.bind (law32_same N v9.2 v10.2) fun v11 =>
      bif (!v11) then
       some ((.inl ((false, ()), ())))
      else
       bif (cond false true (!(@BEq.beq Bool (@instBEqOfDecidableEq Bool @instDecidableEqBool) (decide (v9.1.2.1 = (9 : Int))) (decide (v10.1.1 = (9 : Int)))))) then
        some ((.inl ((false, ()), ())))
       else
        bif ((@wfB dS v9.1.1.2.2.2) && (@wfB dS v10.1.2.2.2.2.1.2.2.2)) then
         bif (cond false true (!(@Decidable.decide (@Eq (Bool × (Int × (Int × (Int × Bool)))) v9.1.1.2.2.2 v10.1.2.2.2.2.1.2.2.2) (@decT dS v9.1.1.2.2.2 v10.1.2.2.2.2.1.2.2.2)))) then
          some ((.inl ((false, ()), ())))
         else
          Option.bind (iET N v9.1) fun v12 =>
          Option.bind (r2T N v10.1.2.2.2.2.2.1) fun v13 =>
          bif (cond false true (!(decide (v12 = v13)))) then
           some ((.inl ((false, ()), ())))
          else
           (X ((x21, (x22, ((IntKind.wrap .i64 (x23 + 1)), ()))), (v9.1, (v10.1, ()))))
        else
         none
     else
      bif (decide ((@Int.tmod v7.1 (4 : Int)) = (1 : Int))) then
       Option.bind (ipcp_End_Tick N h0) fun v9 =>
       Option.bind (ref27_Tick N h1) fun v10 =>
       Option.bind (law32_same N v9.2 v10.2) fun v11 =>
       bif (!v11) then
        some ((.inl ((false, ()), ())))
       else
        bif (cond false true (!(@BEq.beq Bool (@instBEqOfDecidableEq Bool @instDecidableEqBool) (decide (v9.1.2.1 = (9 : Int))) (decide (v10.1.1 = (9 : Int)))))) then
         some ((.inl ((false, ()), ())))
        else
         bif ((@wfB dS v9.1.1.2.2.2) && (@wfB dS v10.1.2.2.2.2.1.2.2.2)) then
          bif (cond false true (!(@Decidable.decide (@Eq (Bool × (Int × (Int × (Int × Bool)))) v9.1.1.2.2.2 v10.1.2.2.2.2.1.2.2.2) (@decT dS v9.1.1.2.2.2 v10.1.2.2.2.2.1.2.2.2)))) then
           some ((.inl ((false, ()), ())))
          else
           Option.bind (iET N v9.1) fun v12 =>
           Option.bind (r2T N v10.1.2.2.2.2.2.1) fun v13 =>
           bif (cond false true (!(decide (v12 = v13)))) then
            some ((.inl ((false, ()), ())))
           else
            (X ((x21, (x22, ((IntKind.wrap .i64 (x23 + 1)), ()))), (v9.1, (v10.1, ()))))
         else
          none
      else
       Option.bind (ipcp_End_Take N h0 v8.1) fun v9 =>
       Option.bind (ref27_Take N h1 v8.1) fun v10 =>
       Option.bind (law32_same N v9.2 v10.2) fun v11 =>
       bif (!v11) then
        some ((.inl ((false, ()), ())))
       else
        bif (cond false true (!(@BEq.beq Bool (@instBEqOfDecidableEq Bool @instDecidableEqBool) (decide (v9.1.2.1 = (9 : Int))) (decide (v10.1.1 = (9 : Int)))))) then
         some ((.inl ((false, ()), ())))
        else
         bif ((@wfB dS v9.1.1.2.2.2) && (@wfB dS v10.1.2.2.2.2.1.2.2.2)) then
          bif (cond false true (!(@Decidable.decide (@Eq (Bool × (Int × (Int × (Int × Bool)))) v9.1.1.2.2.2 v10.1.2.2.2.2.1.2.2.2) (@decT dS v9.1.1.2.2.2 v10.1.2.2.2.2.1.2.2.2)))) then
           some ((.inl ((false, ()), ())))
          else
           Option.bind (iET N v9.1) fun v12 =>
           Option.bind (r2T N v10.1.2.2.2.2.2.1) fun v13 =>
           bif (cond false true (!(decide (v12 = v13)))) then
            some ((.inl ((false, ()), ())))
           else
            (X ((x21, (x22, ((IntKind.wrap .i64 (x23 + 1)), ()))), (v9.1, (v10.1, ()))))
         else
          none
    else
     bif (decide ((@Int.tmod v7.1 (4 : Int)) = (0 : Int))) then
      Option.bind (ipcp_End_Do N h0 v7.2.1) fun v8 =>
      Option.bind (ref27_Do N h1 v7.2.1) fun v9 =>
      Option.bind (law32_same N v8.2 v9.2) fun v10 =>
      bif (!v10) then
       some ((.inl ((false, ()), ())))
      else
       bif (cond false true (!(@BEq.beq Bool (@instBEqOfDecidableEq Bool @instDecidableEqBool) (decide (v8.1.2.1 = (9 : Int))) (decide (v9.1.1 = (9 : Int)))))) then
        some ((.inl ((false, ()), ())))
       else
        bif ((@wfB dS v8.1.1.2.2.2) && (@wfB dS v9.1.2.2.2.2.1.2.2.2)) then
         bif (cond false true (!(@Decidable.decide (@Eq (Bool × (Int × (Int × (Int × Bool)))) v8.1.1.2.2.2 v9.1.2.2.2.2.1.2.2.2) (@decT dS v8.1.1.2.2.2 v9.1.2.2.2.2.1.2.2.2)))) then
          some ((.inl ((false, ()), ())))
         else
          Option.bind (iET N v8.1) fun v11 =>
          Option.bind (r2T N v9.1.2.2.2.2.2.1) fun v12 =>
          bif (cond false true (!(decide (v11 = v12)))) then
           some ((.inl ((false, ()), ())))
          else
           (X ((x21, (x22, ((IntKind.wrap .i64 (x23 + 1)), ()))), (v8.1, (v9.1, ()))))
        else
         none
     else
      bif (decide ((@Int.tmod v7.1 (4 : Int)) = (1 : Int))) then
       Option.bind (ipcp_End_Tick N h0) fun v8 =>
       Option.bind (ref27_Tick N h1) fun v9 =>
       Option.bind (law32_same N v8.2 v9.2) fun v10 =>
       bif (!v10) then
        some ((.inl ((false, ()), ())))
       else
        bif (cond false true (!(@BEq.beq Bool (@instBEqOfDecidableEq Bool @instDecidableEqBool) (decide (v8.1.2.1 = (9 : Int))) (decide (v9.1.1 = (9 : Int)))))) then
         some ((.inl ((false, ()), ())))
        else
         bif ((@wfB dS v8.1.1.2.2.2) && (@wfB dS v9.1.2.2.2.2.1.2.2.2)) then
          bif (cond false true (!(@Decidable.decide (@Eq (Bool × (Int × (Int × (Int × Bool)))) v8.1.1.2.2.2 v9.1.2.2.2.2.1.2.2.2) (@decT dS v8.1.1.2.2.2 v9.1.2.2.2.2.1.2.2.2)))) then
           some ((.inl ((false, ()), ())))
          else
           Option.bind (iET N v8.1) fun v11 =>
           Option.bind (r2T N v9.1.2.2.2.2.2.1) fun v12 =>
           bif (cond false true (!(decide (v11 = v12)))) then
            some ((.inl ((false, ()), ())))
           else
            (X ((x21, (x22, ((IntKind.wrap .i64 (x23 + 1)), ()))), (v8.1, (v9.1, ()))))
         else
          none
      else
       Option.bind (ipcp_End_Take N h0 (v7.2.2.2.2.1, (h1.2.2.1, v7.2.2.2.2.2.2))) fun v8 =>
       Option.bind (ref27_Take N h1 (v7.2.2.2.2.1, (h1.2.2.1, v7.2.2.2.2.2.2))) fun v9 =>
       Option.bind (law32_same N v8.2 v9.2) fun v10 =>
       bif (!v10) then
        some ((.inl ((false, ()), ())))
       else
        bif (cond false true (!(@BEq.beq Bool (@instBEqOfDecidableEq Bool @instDecidableEqBool) (decide (v8.1.2.1 = (9 : Int))) (decide (v9.1.1 = (9 : Int)))))) then
         some ((.inl ((false, ()), ())))
        else
         bif ((@wfB dS v8.1.1.2.2.2) && (@wfB dS v9.1.2.2.2.2.1.2.2.2)) then
          bif (cond false true (!(@Decidable.decide (@Eq (Bool × (Int × (Int × (Int × Bool)))) v8.1.1.2.2.2 v9.1.2.2.2.2.1.2.2.2) (@decT dS v8.1.1.2.2.2 v9.1.2.2.2.2.1.2.2.2)))) then
           some ((.inl ((false, ()), ())))
          else
           Option.bind (iET N v8.1) fun v11 =>
           Option.bind (r2T N v9.1.2.2.2.2.2.1) fun v12 =>
           bif (cond false true (!(decide (v11 = v12)))) then
            some ((.inl ((false, ()), ())))
           else
            (X ((x21, (x22, ((IntKind.wrap .i64 (x23 + 1)), ()))), (v8.1, (v9.1, ()))))
         else
          none
   else
    bif v7.2.2.2.1 then
     Option.bind (ref22_Conf N (2 : Int) h1.2.2.1 h1.2.2.2.1) fun v8 =>
     bif (decide ((@Int.tmod v7.1 (4 : Int)) = (0 : Int))) then
      Option.bind (ipcp_End_Do N h0 v7.2.1) fun v9 =>
      Option.bind (ref27_Do N h1 v7.2.1) fun v10 =>
      Option.bind (law32_same N v9.2 v10.2) fun v11 =>
      bif (!v11) then
       some ((.inl ((false, ()), ())))
      else
       bif (cond false true (!(@BEq.beq Bool (@instBEqOfDecidableEq Bool @instDecidableEqBool) (decide (v9.1.2.1 = (9 : Int))) (decide (v10.1.1 = (9 : Int)))))) then
        some ((.inl ((false, ()), ())))
       else
        bif ((@wfB dS v9.1.1.2.2.2) && (@wfB dS v10.1.2.2.2.2.1.2.2.2)) then
         bif (cond false true (!(@Decidable.decide (@Eq (Bool × (Int × (Int × (Int × Bool)))) v9.1.1.2.2.2 v10.1.2.2.2.2.1.2.2.2) (@decT dS v9.1.1.2.2.2 v10.1.2.2.2.2.1.2.2.2)))) then
          some ((.inl ((false, ()), ())))
         else
          Option.bind (iET N v9.1) fun v12 =>
          Option.bind (r2T N v10.1.2.2.2.2.2.1) fun v13 =>
          bif (cond false true (!(decide (v12 = v13)))) then
           some ((.inl ((false, ()), ())))
          else
           (X ((x21, (x22, ((IntKind.wrap .i64 (x23 + 1)), ()))), (v9.1, (v10.1, ()))))
        else
         none
     else
      bif (decide ((@Int.tmod v7.1 (4 : Int)) = (1 : Int))) then
       Option.bind (ipcp_End_Tick N h0) fun v9 =>
       Option.bind (ref27_Tick N h1) fun v10 =>
       Option.bind (law32_same N v9.2 v10.2) fun v11 =>
       bif (!v11) then
        some ((.inl ((false, ()), ())))
       else
        bif (cond false true (!(@BEq.beq Bool (@instBEqOfDecidableEq Bool @instDecidableEqBool) (decide (v9.1.2.1 = (9 : Int))) (decide (v10.1.1 = (9 : Int)))))) then
         some ((.inl ((false, ()), ())))
        else
         bif ((@wfB dS v9.1.1.2.2.2) && (@wfB dS v10.1.2.2.2.2.1.2.2.2)) then
          bif (cond false true (!(@Decidable.decide (@Eq (Bool × (Int × (Int × (Int × Bool)))) v9.1.1.2.2.2 v10.1.2.2.2.2.1.2.2.2) (@decT dS v9.1.1.2.2.2 v10.1.2.2.2.2.1.2.2.2)))) then
           some ((.inl ((false, ()), ())))
          else
           Option.bind (iET N v9.1) fun v12 =>
           Option.bind (r2T N v10.1.2.2.2.2.2.1) fun v13 =>
           bif (cond false true (!(decide (v12 = v13)))) then
            some ((.inl ((false, ()), ())))
           else
            (X ((x21, (x22, ((IntKind.wrap .i64 (x23 + 1)), ()))), (v9.1, (v10.1, ()))))
         else
          none
      else
       Option.bind (ipcp_End_Take N h0 v8.1) fun v9 =>
       Option.bind (ref27_Take N h1 v8.1) fun v10 =>
       Option.bind (law32_same N v9.2 v10.2) fun v11 =>
       bif (!v11) then
        some ((.inl ((false, ()), ())))
       else
        bif (cond false true (!(@BEq.beq Bool (@instBEqOfDecidableEq Bool @instDecidableEqBool) (decide (v9.1.2.1 = (9 : Int))) (decide (v10.1.1 = (9 : Int)))))) then
         some ((.inl ((false, ()), ())))
        else
         bif ((@wfB dS v9.1.1.2.2.2) && (@wfB dS v10.1.2.2.2.2.1.2.2.2)) then
          bif (cond false true (!(@Decidable.decide (@Eq (Bool × (Int × (Int × (Int × Bool)))) v9.1.1.2.2.2 v10.1.2.2.2.2.1.2.2.2) (@decT dS v9.1.1.2.2.2 v10.1.2.2.2.2.1.2.2.2)))) then
           some ((.inl ((false, ()), ())))
          else
           Option.bind (iET N v9.1) fun v12 =>
           Option.bind (r2T N v10.1.2.2.2.2.2.1) fun v13 =>
           bif (cond false true (!(decide (v12 = v13)))) then
            some ((.inl ((false, ()), ())))
           else
            (X ((x21, (x22, ((IntKind.wrap .i64 (x23 + 1)), ()))), (v9.1, (v10.1, ()))))
         else
          none
    else
     bif (decide ((@Int.tmod v7.1 (4 : Int)) = (0 : Int))) then
      Option.bind (ipcp_End_Do N h0 v7.2.1) fun v8 =>
      Option.bind (ref27_Do N h1 v7.2.1) fun v9 =>
      Option.bind (law32_same N v8.2 v9.2) fun v10 =>
      bif (!v10) then
       some ((.inl ((false, ()), ())))
      else
       bif (cond false true (!(@BEq.beq Bool (@instBEqOfDecidableEq Bool @instDecidableEqBool) (decide (v8.1.2.1 = (9 : Int))) (decide (v9.1.1 = (9 : Int)))))) then
        some ((.inl ((false, ()), ())))
       else
        bif ((@wfB dS v8.1.1.2.2.2) && (@wfB dS v9.1.2.2.2.2.1.2.2.2)) then
         bif (cond false true (!(@Decidable.decide (@Eq (Bool × (Int × (Int × (Int × Bool)))) v8.1.1.2.2.2 v9.1.2.2.2.2.1.2.2.2) (@decT dS v8.1.1.2.2.2 v9.1.2.2.2.2.1.2.2.2)))) then
          some ((.inl ((false, ()), ())))
         else
          Option.bind (iET N v8.1) fun v11 =>
          Option.bind (r2T N v9.1.2.2.2.2.2.1) fun v12 =>
          bif (cond false true (!(decide (v11 = v12)))) then
           some ((.inl ((false, ()), ())))
          else
           (X ((x21, (x22, ((IntKind.wrap .i64 (x23 + 1)), ()))), (v8.1, (v9.1, ()))))
        else
         none
     else
      bif (decide ((@Int.tmod v7.1 (4 : Int)) = (1 : Int))) then
       Option.bind (ipcp_End_Tick N h0) fun v8 =>
       Option.bind (ref27_Tick N h1) fun v9 =>
       Option.bind (law32_same N v8.2 v9.2) fun v10 =>
       bif (!v10) then
        some ((.inl ((false, ()), ())))
       else
        bif (cond false true (!(@BEq.beq Bool (@instBEqOfDecidableEq Bool @instDecidableEqBool) (decide (v8.1.2.1 = (9 : Int))) (decide (v9.1.1 = (9 : Int)))))) then
         some ((.inl ((false, ()), ())))
        else
         bif ((@wfB dS v8.1.1.2.2.2) && (@wfB dS v9.1.2.2.2.2.1.2.2.2)) then
          bif (cond false true (!(@Decidable.decide (@Eq (Bool × (Int × (Int × (Int × Bool)))) v8.1.1.2.2.2 v9.1.2.2.2.2.1.2.2.2) (@decT dS v8.1.1.2.2.2 v9.1.2.2.2.2.1.2.2.2)))) then
           some ((.inl ((false, ()), ())))
          else
           Option.bind (iET N v8.1) fun v11 =>
           Option.bind (r2T N v9.1.2.2.2.2.2.1) fun v12 =>
           bif (cond false true (!(decide (v11 = v12)))) then
            some ((.inl ((false, ()), ())))
           else
            (X ((x21, (x22, ((IntKind.wrap .i64 (x23 + 1)), ()))), (v8.1, (v9.1, ()))))
         else
          none
      else
       Option.bind (ipcp_End_Take N h0 v7.2.2.2.2) fun v8 =>
       Option.bind (ref27_Take N h1 v7.2.2.2.2) fun v9 =>
       Option.bind (law32_same N v8.2 v9.2) fun v10 =>
       bif (!v10) then
        some ((.inl ((false, ()), ())))
       else
        bif (cond false true (!(@BEq.beq Bool (@instBEqOfDecidableEq Bool @instDecidableEqBool) (decide (v8.1.2.1 = (9 : Int))) (decide (v9.1.1 = (9 : Int)))))) then
         some ((.inl ((false, ()), ())))
        else
         bif ((@wfB dS v8.1.1.2.2.2) && (@wfB dS v9.1.2.2.2.2.1.2.2.2)) then
          bif (cond false true (!(@Decidable.decide (@Eq (Bool × (Int × (Int × (Int × Bool)))) v8.1.1.2.2.2 v9.1.2.2.2.2.1.2.2.2) (@decT dS v8.1.1.2.2.2 v9.1.2.2.2.2.1.2.2.2)))) then
           some ((.inl ((false, ()), ())))
          else
           Option.bind (iET N v8.1) fun v11 =>
           Option.bind (r2T N v9.1.2.2.2.2.2.1) fun v12 =>
           bif (cond false true (!(decide (v11 = v12)))) then
            some ((.inl ((false, ()), ())))
           else
            (X ((x21, (x22, ((IntKind.wrap .i64 (x23 + 1)), ()))), (v8.1, (v9.1, ()))))
         else
          none
 else
  some ((.inr ((), ())))
noncomputable def lIP3_R (c : (((List tS) × (Int × (Int × Unit))) × (tN × (tG × Unit)))) : Option ((((Bool × Unit) × Unit) ⊕ (Unit × Unit))) := gl (fun X c => lIP3 N X c.1.1 c.1.2.1 c.1.2.2.1 c.2.1 c.2.2.1) N c
theorem lIP3_S (X : (((List tS) × (Int × (Int × Unit))) × (tN × (tG × Unit))) → Option ((((Bool × Unit) × Unit) ⊕ (Unit × Unit)))) (x21 : List tS) (x22 : Int) (x23 : Int) (h0 : tN) (h1 : tG) : (roundK Tryz.prog (Ev226 N) 400 [4] lIP3_I (loopAt Tryz.prog [4] 3) X ((x21, x22, x23, ()), (h0, h1, ()))).run = lIP3 N X x21 x22 x23 h0 h1 := by kernel_rfl
noncomputable def Ev227 : (R : Type) → Env R := Env.addLp (Ev226 N) [4] 0 3 (fun R => lpK Tryz.prog lIP3_I (fun X c => lIP3 N X c.1.1 c.1.2.1 c.1.2.2.1 c.2.1 c.2.2.1) N)
theorem Ev227_ok (R : Type) : EnvOK Tryz.prog (Ev227 N R) := EnvOK.addLp (Ev226_ok N R) (by kernel_rfl) (lpK_ok (li := lIP3_I) (G := fun X c => lIP3 N X c.1.1 c.1.2.1 c.1.2.2.1 c.2.1 c.2.2.1) hmx (Ev226_ok N _) (by kernel_rfl) lAs (fun (X : CT lIP3_I.sh → Option (OT lIP3_I.outs)) (c : CT lIP3_I.sh) => lIP3_S N X c.1.1 c.1.2.1 c.1.2.2.1 c.2.1 c.2.2.1) N)
noncomputable def law32_IpcpPlays (s0 : Bool × (Int × (Int × (Int × (Bool))))) (l1 : List tS) : Option Bool :=
 Option.bind (takeI l1 (@minI (((List.length l1) : Nat) : Int) (40 : Int))) fun (v3 : (List tS)) =>
 Option.bind (lIP3_R N ((v3, ((((List.length v3) : Nat) : Int), ((0 : Int), ()))), (((true, (((0 : Int), ((0 : Int), false)), (false, s0))), ((0 : Int), (((0 : Int), (0 : Int)), ((0 : Int), (([] : List (tP)), (([] : List (tP)), (0 : Int))))))), (((0 : Int), (((0 : Int), (0 : Int)), ((0 : Int), (([] : List (tP)), ((true, (((0 : Int), ((0 : Int), false)), (false, s0))), (([] : List (tP)), (0 : Int))))))), ())))) fun v4 =>
 Sum.elim
  (fun (v5 : ((Bool × Unit) × Unit)) =>
  some (v5.1.1))
  (fun (v5 : (Unit × Unit)) =>
  Option.bind (@law32_alive N) fun (v6 : Bool) =>
  some (v6)) v4
theorem law32_IpcpPlays_S (s0 : Bool × (Int × (Int × (Int × (Bool))))) (l1 : List tS) : (runK Tryz.prog (Ev227 N) 400 4 [dS, (.sl (.pair (.int .u8) (.pair (.int .i64) (.pair .bool (.pair .bool dC)))))] [.bool] (s0, l1, ())).run = law32_IpcpPlays N s0 l1 := by kernel_rfl
theorem law32_IpcpPlays_C (s0 : Bool × (Int × (Int × (Int × (Bool))))) (l1 : List tS) (y : Bool) (h : law32_IpcpPlays N s0 l1 = some y) : CallsK Tryz.prog 4 (valA [dS, (.sl (.pair (.int .u8) (.pair (.int .i64) (.pair .bool (.pair .bool dC)))))] (s0, l1, ())) (tupV (valR [.bool] y)) := runK_ok hmx (Ev227_ok N _) (okFn_ok (by kernel_rfl)) (by rw [law32_IpcpPlays_S]; exact h)
end
end Go.Proofs.YtjomcoignnlghaaGreat
namespace Go.Proofs.YtjomcoignnlghaaGreat
set_option maxRecDepth 100000
open Go.RowKit
set_option linter.unusedVariables false
set_option linter.unusedSimpArgs false
set_option maxRecDepth 100000
abbrev Op := Int × List Int
def wfO (l : List Op) : Prop := ∀ o ∈ l, (0 ≤ o.1 ∧ o.1 < 256) ∧ AllB o.2
def enc1 (o : Op) : List Int := o.1 :: (2 + (o.2.length : Int)) :: o.2
def encs (l : List Op) : List Int := l.flatMap enc1
def small (l : List Op) : Prop := ∀ o ∈ l, o.2.length ≤ 253
theorem encs_cons (o : Op) (l : List Op) : encs (o :: l) = enc1 o ++ encs l := rfl
theorem encs_append (l m : List Op) : encs (l ++ m) = encs l ++ encs m := List.flatMap_append
theorem encs_len : ∀ {l : List Op}, small l → (encs l).length ≤ 255 * l.length
 | [], _ => by simp [encs]
 | o :: l, h => by
  have h1 := h o List.mem_cons_self
  have h2 := encs_len (l := l) fun x hx => h x (List.mem_cons_of_mem _ hx)
  rw [encs_cons, List.length_append, List.length_cons]
  simp only [enc1, List.length_cons]
  omega
theorem encs_all : ∀ {l : List Op}, small l → wfO l → AllB (encs l)
 | [], _, _ => AllB.nil
 | o :: l, h, w => by
  have h1 := h o List.mem_cons_self
  have w1 := w o List.mem_cons_self
  have h2 := encs_all (l := l) (fun x hx => h x (List.mem_cons_of_mem _ hx)) (fun x hx => w x (List.mem_cons_of_mem _ hx))
  rw [encs_cons]
  exact (AllB.cons w1.1 (AllB.cons (by omega) w1.2)).append h2
theorem take_snoc {α : Type} (l : List α) (i : Nat) (h : i < l.length) : l.take (i + 1) = l.take i ++ [l[i]] := by rw [List.take_add_one, List.getElem?_eq_getElem h]; rfl
section
variable {N : Nat}
abbrev LayO := (((List (Int)) × ((Int) × Unit)) × Unit) ⊕ (Unit × ((List (Int)) × Unit))
def layO (l : List Op) : LayO := if l.all (fun o => decide (o.2.length ≤ 253)) then .inr ((), (encs l, ())) else .inl (([], ((8 : Int), ())), ())
def layS (l : List Op) : List Int × Int := if 32 < l.length then ([], 5) else if l.all (fun o => decide (o.2.length ≤ 253)) then (encs l, 0) else ([], 8)
theorem all_small {l : List Op} : l.all (fun o => decide (o.2.length ≤ 253)) = true ↔ small l := by simp [small]
theorem lay_end {l : List Op} {i : Nat} (h : l.length ≤ i) (hs : small (l.take i)) : layO l = .inr ((), (encs l, ())) ∧ encs (l.take i) = encs l := by
 rw [List.take_of_length_le h] at hs ⊢
 exact ⟨by unfold layO; rw [if_pos (all_small.2 hs)], rfl⟩
theorem lay_big {l : List Op} {i : Nat} (hi : i < l.length) (h : 253 < l[i].2.length) : layO l = .inl (([], ((8 : Int), ())), ()) := by
 unfold layO
 rw [if_neg (fun hs => by have := all_small.1 hs _ (List.getElem_mem hi); omega)]
theorem small_snoc {l : List Op} {i : Nat} (hi : i < l.length) (hs : small (l.take i)) (h : l[i].2.length ≤ 253) : small (l.take (i + 1)) := by
 intro o ho
 rw [take_snoc l i hi] at ho
 rcases List.mem_append.1 ho with ho | ho
 ·exact hs o ho
 ·simp at ho; subst ho; exact h
theorem head_len {n : Nat} (h : n ≤ 253) : IntKind.wrap .u8 (IntKind.wrap .i64 ((2 : Int) + (n : Int))) = 2 + (n : Int) := by
 rw [wrap64 (by omega) (by omega), wrapU8 (by omega) (by omega)]
theorem encs_snoc {l : List Op} {i : Nat} (hi : i < l.length) : encs (l.take (i + 1)) = encs (l.take i) ++ [l[i].1, 2 + (l[i].2.length : Int)] ++ l[i].2 := by
 rw [take_snoc l i hi, encs_append]
 simp [encs, enc1]
theorem lay_room {l : List Op} {i : Nat} (hl : l.length ≤ 1000) (hi : i < l.length) (hs : small (l.take i)) (h : l[i].2.length ≤ 253) : roomB ((encs (l.take i)).length + ([l[i].1, 2 + (l[i].2.length : Int)] : List Int).length) 1 = true ∧ roomB ((encs (l.take i) ++ [l[i].1, 2 + (l[i].2.length : Int)]).length + l[i].2.length) 1 = true := by
 have h1 := encs_len hs
 have h2 := big_len
 rw [List.length_take] at h1
 exact ⟨roomB_of (by simp only [List.length_cons, List.length_nil]; omega) (by simp only [List.length_cons, List.length_nil]; omega), roomB_of (by simp only [List.length_append, List.length_cons, List.length_nil]; omega) (by simp only [List.length_append, List.length_cons, List.length_nil]; omega)⟩
theorem lay_ok (l : List Op) (hl : l.length ≤ 1000) (hN : 10000 ≤ N) : opts_Lay N l = some (layS l) := by
 unfold opts_Lay layS
 by_cases h32 : 32 < l.length
 ·have c0 : ((32 : Int) < (l.length : Int)) := by omega
  simp only [c0, h32, decide_true, cond_true, if_true]
 ·have c0 : ¬ ((32 : Int) < (l.length : Int)) := by omega
  simp only [c0, h32, decide_false, cond_false, if_false]
  obtain ⟨o, h1, h2⟩ := gl_inv (G := fun (X : (((List ((Int) × (List (Int)))) × ((Int) × ((Int) × Unit))) × ((List (Int)) × Unit)) → Option LayO) c => opts_Lay_L5 N X c.1.1 c.1.2.1 c.1.2.2.1 c.2.1)
   (fun n c => ∃ i : Nat, c = ((l, ((l.length : Int), ((i : Int), ()))), (encs (l.take i), ())) ∧ i ≤ l.length ∧ n = l.length - i ∧ small (l.take i)) (fun o => o = layO l) (fun X n c ⟨i, hc, hi, hn, hs⟩ => by
    subst hc
    rcases Nat.lt_or_ge i l.length with hlt | hge
    ·have c1 : ((i : Int) < (l.length : Int)) := by omega
     have c2 : IntKind.wrap .i64 ((i : Int) + 1) = ((i + 1 : Nat) : Int) := by rw [wrap64 (by omega) (by omega)]; omega
     by_cases he : (253 : Int) < (l[i].2.length : Int)
     ·left
      exact ⟨_, by simp only [opts_Lay_L5, c1, decide_true, cond_true, getI_lt l i hlt, Option.bind_some, he], (lay_big hlt (by omega)).symm⟩
     ·right
      have he' : l[i].2.length ≤ 253 := by omega
      obtain ⟨r1, r2⟩ := lay_room hl hlt hs he'
      refine ⟨l.length - (i + 1), ((l, ((l.length : Int), (((i + 1 : Nat) : Int), ()))), (encs (l.take (i + 1)), ())), by omega, ⟨i + 1, rfl, hlt, rfl, small_snoc hlt hs he'⟩, ?_⟩
      simp only [opts_Lay_L5, c1, decide_true, cond_true, getI_lt l i hlt, Option.bind_some, he, decide_false, cond_false, c2, head_len he', r1, r2, encs_snoc hlt]
    ·left
     have c1 : ¬ ((i : Int) < (l.length : Int)) := by omega
     obtain ⟨e1, e2⟩ := lay_end hge hs
     exact ⟨.inr ((), (encs (l.take i), ())), by simp only [opts_Lay_L5, c1, decide_false, cond_false], by rw [e1, e2]⟩) N l.length ((l, ((l.length : Int), ((0 : Int), ()))), (([] : List Int), ())) (by omega) ⟨0, rfl, by omega, by omega, fun o ho => by cases ho⟩
  unfold opts_Lay_L5_R
  rw [h1, h2]
  unfold layO
  split <;> rfl
theorem ref_lay_ok (l : List Op) (hl : l.length ≤ 1000) (hN : 10000 ≤ N) : ref21_Lay N l = some (layS l) := by
 unfold ref21_Lay layS
 by_cases h32 : 32 < l.length
 ·have c0 : ((32 : Int) < (l.length : Int)) := by omega
  simp only [c0, h32, decide_true, cond_true, if_true]
 ·have c0 : ¬ ((32 : Int) < (l.length : Int)) := by omega
  simp only [c0, h32, decide_false, cond_false, if_false]
  obtain ⟨o, h1, h2⟩ := gl_inv (G := fun (X : (((List ((Int) × (List (Int)))) × ((Int) × Unit)) × ((List (Int)) × Unit)) → Option LayO) c => ref21_Lay_L5 N X c.1.1 c.1.2.1 c.2.1)
   (fun n c => ∃ i : Nat, c = ((l, ((i : Int), ())), (encs (l.take i), ())) ∧ i ≤ l.length ∧ n = l.length - i ∧ small (l.take i)) (fun o => o = layO l) (fun X n c ⟨i, hc, hi, hn, hs⟩ => by
    subst hc
    rcases Nat.lt_or_ge i l.length with hlt | hge
    ·have c1 : ((i : Int) < (l.length : Int)) := by omega
     have c2 : IntKind.wrap .i64 ((i : Int) + 1) = ((i + 1 : Nat) : Int) := by rw [wrap64 (by omega) (by omega)]; omega
     by_cases he : (253 : Int) < (l[i].2.length : Int)
     ·left
      exact ⟨_, by simp only [ref21_Lay_L5, c1, decide_true, cond_true, getI_lt l i hlt, Option.bind_some, he], (lay_big hlt (by omega)).symm⟩
     ·right
      have he' : l[i].2.length ≤ 253 := by omega
      obtain ⟨r1, r2⟩ := lay_room hl hlt hs he'
      refine ⟨l.length - (i + 1), ((l, (((i + 1 : Nat) : Int), ())), (encs (l.take (i + 1)), ())), by omega, ⟨i + 1, rfl, hlt, rfl, small_snoc hlt hs he'⟩, ?_⟩
      simp only [ref21_Lay_L5, c1, decide_true, cond_true, getI_lt l i hlt, Option.bind_some, he, decide_false, cond_false, c2, head_len he', r1, r2, encs_snoc hlt]
    ·left
     have c1 : ¬ ((i : Int) < (l.length : Int)) := by omega
     obtain ⟨e1, e2⟩ := lay_end hge hs
     exact ⟨.inr ((), (encs (l.take i), ())), by simp only [ref21_Lay_L5, c1, decide_false, cond_false], by rw [e1, e2]⟩) N l.length ((l, ((0 : Int), ())), (([] : List Int), ())) (by omega) ⟨0, rfl, by omega, by omega, fun o ho => by cases ho⟩
  unfold ref21_Lay_L5_R
  rw [h1, h2]
  unfold layO
  split <;> rfl
end
abbrev ParO := (((List Op) × ((Int) × Unit)) × Unit) ⊕ (Unit × ((List Op) × Unit))
def parE (e : Int) : ParO := .inl (([], (e, ())), ())
def par : Nat → List Int → List Op → ParO
 | 0, _, _ => parE 4
 | k + 1, b, acc =>
  if b.length = 0 then .inr ((), (acc, ())) else if acc.length = 32 then parE 5 else if b.length < 2 then parE 4 else if b.getD 1 0 < 2 then parE 3 else if (b.length : Int) < b.getD 1 0 then parE 4 else
   par k (b.drop (b.getD 1 0).toNat) (acc ++ [(b.getD 0 0, (b.drop 2).take ((b.getD 1 0).toNat - 2))])
theorem getD_lt {b : List Int} {i : Nat} (h : i < b.length) : b.getD i 0 = b[i] := by rw [List.getD_eq_getElem?_getD, List.getElem?_eq_getElem h]; rfl
section
variable {N : Nat}
theorem clone_ok (s : List Int) (h : s.length ≤ 1000000) : sLB N s = some s := by
 unfold sLB sLB_ne
 cases s with
 | nil => rfl
 | cons x s =>
  have : roomB (x :: s).length 1 = true := roomB_of (by have := big_len; omega) (by omega)
  first
   | (simp only [List.isEmpty_cons, cond_false, this, cond_true]; done)
   | (simp only [List.isEmpty_cons, cond_false, List.length_nil, Nat.zero_add, List.nil_append, this, cond_true]; done)
theorem par_prog : ∀ (k : Nat) (b : List Int) (acc : List Op), b.length < k → b.length ≤ 100000 → acc.length ≤ 32 → AllB b → gl (fun (X : (((List (Int)) × Unit) × ((List ((Int) × (List (Int)))) × Unit)) → Option ParO) c => opts_Parse_L2 N X c.1.1 c.2.1) k ((b, ()), (acc, ())) = some (par k b acc)
 | 0, b, acc, h, _, _, _ => by omega
 | k + 1, b, acc, h, hb, ha, hw => by
  rw [gl_succ]
  unfold par opts_Parse_L2
  by_cases h0 : b.length = 0
  ·have c1 : ¬ ((0 : Int) < (b.length : Int)) := by omega
   simp only [h0, if_true]
   simp only [Int.natCast_zero, Int.lt_irrefl, decide_false, cond_false]
  ·have c1 : ((0 : Int) < (b.length : Int)) := by omega
   simp only [c1, h0, decide_true, cond_true, if_false]
   by_cases h1 : acc.length = 32
   ·have c2 : ((acc.length : Int) = 32) := by omega
    simp only [c2, h1, decide_true, cond_true, if_true]
    rfl
   ·have c2 : ¬ ((acc.length : Int) = 32) := by omega
    simp only [c2, h1, decide_false, cond_false, if_false]
    unfold opts_first
    by_cases h2 : b.length < 2
    ·have c3 : ((b.length : Int) < 2) := by omega
     simp only [c3, h2, decide_true, cond_true, if_true, Option.bind_some]
     rfl
    ·have c3 : ¬ ((b.length : Int) < 2) := by omega
     have hx := hw.get 1 (by omega)
     have c4 : IntKind.wrap .i64 b[1] = b[1] := wrap64 (by omega) (by omega)
     rw [getI_at b (a := (1 : Int)) (i := 1) rfl (by omega), getD_lt (by omega : 1 < b.length), getD_lt (by omega : 0 < b.length)]
     simp only [c3, h2, decide_false, cond_false, if_false, Option.bind_some, c4]
     by_cases h3 : b[1] < 2
     ·simp only [h3, decide_true, cond_true, if_true, Option.bind_some]
      rfl
     ·simp only [h3, decide_false, cond_false, if_false, Option.bind_some]
      by_cases h4 : (b.length : Int) < b[1]
      ·simp only [h4, decide_true, cond_true, if_true, Option.bind_some]
       rfl
      ·have e1 : b[1] = ((b[1].toNat : Nat) : Int) := by omega
       have hn2 : 2 ≤ b[1].toNat := by omega
       have hnl : b[1].toNat ≤ b.length := by omega
       have c5 : roomB (acc.length + ([(b[0], (b.drop 2).take (b[1].toNat - 2))] : List Op).length) 32 = true := roomB_of (by have := big_len; simp; omega) (by simp; omega)
       have s1 := subI_nat b (a := (2 : Int)) (b := b[1]) (i := 2) (j := b[1].toNat) rfl e1 hn2 hnl
       have s2 := dropI_nat b (a := b[1]) (i := b[1].toNat) e1 hnl
       simp only [h4, decide_false, cond_false, if_false, Option.bind_some, decide_true, Bool.not_true]
       rw [getI_at b (a := (0 : Int)) (i := 0) rfl (by omega), Option.bind_some, s1, Option.bind_some, clone_ok _ (by rw [List.length_take, List.length_drop]; omega), Option.bind_some, c5, cond_true, s2, Option.bind_some]
       exact par_prog k _ _ (by rw [List.length_drop]; omega) (by rw [List.length_drop]; omega) (by simp; omega) (hw.drop _)
theorem par_ref : ∀ (k : Nat) (b : List Int) (at' : Nat) (acc : List Op), b.length - at' < k → at' ≤ b.length → b.length ≤ 100000 → acc.length ≤ 32 → AllB b → gl (fun (X : (((List (Int)) × ((Int) × Unit)) × ((List ((Int) × (List (Int)))) × Unit)) → Option ParO) c => ref21_Parse_L3 N X c.1.1 c.1.2.1 c.2.1) k ((b, ((at' : Int), ())), (acc, ())) = some (par k (b.drop at') acc)
 | 0, b, at', acc, h, _, _, _, _ => by omega
 | k + 1, b, at', acc, h, hat, hb, ha, hw => by
  rw [gl_succ]
  unfold par ref21_Parse_L3
  have hlen : (b.drop at').length = b.length - at' := List.length_drop
  by_cases h0 : (b.drop at').length = 0
  ·have c1 : ¬ ((at' : Int) < (b.length : Int)) := by omega
   simp only [h0, if_true, c1, decide_false, cond_false]
  ·have c1 : ((at' : Int) < (b.length : Int)) := by omega
   simp only [c1, h0, decide_true, cond_true, if_false]
   by_cases h1 : acc.length = 32
   ·have c2 : ((acc.length : Int) = 32) := by omega
    simp only [c2, h1, decide_true, cond_true, if_true]
    rfl
   ·have c2 : ¬ ((acc.length : Int) = 32) := by omega
    have e0 : IntKind.wrap .i64 ((b.length : Int) - (at' : Int)) = (((b.drop at').length : Nat) : Int) := by rw [wrap64 (by omega) (by omega), hlen]; omega
    simp only [c2, h1, decide_false, cond_false, if_false, e0]
    by_cases h2 : (b.drop at').length < 2
    ·have c3 : (((b.drop at').length : Int) < 2) := by omega
     simp only [c3, h2, decide_true, cond_true, if_true]
     rfl
    ·have c3 : ¬ (((b.drop at').length : Int) < 2) := by omega
     have hx := (hw.drop at').get 1 (by omega)
     have c4 : IntKind.wrap .i64 (b.drop at')[1] = (b.drop at')[1] := wrap64 (by omega) (by omega)
     have g1 : getI b (IntKind.wrap .i64 ((at' : Int) + 1)) = some (b.drop at')[1] := by
      rw [wrap64 (by omega) (by omega), getI_at b (i := at' + 1) (by omega) (by omega), List.getElem_drop]
     have g0 : getI b (at' : Int) = some (b.drop at')[0] := by
      rw [getI_at b (i := at') rfl (by omega), List.getElem_drop]; rfl
     rw [g1, getD_lt (by omega : 1 < (b.drop at').length), getD_lt (by omega : 0 < (b.drop at').length)]
     simp only [c3, h2, decide_false, cond_false, if_false, Option.bind_some, c4]
     generalize hd : (b.drop at')[1] = y at *
     by_cases h3 : y < 2
     ·simp only [h3, decide_true, cond_true, if_true, Option.bind_some]
      rfl
     ·simp only [h3, decide_false, cond_false, if_false, Option.bind_some]
      by_cases h4 : ((b.drop at').length : Int) < y
      ·simp only [h4, decide_true, cond_true, if_true, Option.bind_some]
       rfl
      ·have e1 : y = ((y.toNat : Nat) : Int) := by omega
       have c5 : roomB (acc.length + ([((b.drop at')[0], ((b.drop at').drop 2).take (y.toNat - 2))] : List Op).length) 32 = true := roomB_of (by have := big_len; simp; omega) (by simp; omega)
       have w2 : IntKind.wrap .i64 ((at' : Int) + 2) = ((at' + 2 : Nat) : Int) := by rw [wrap64 (by omega) (by omega)]; omega
       have w3 : IntKind.wrap .i64 ((at' : Int) + y) = ((at' + y.toNat : Nat) : Int) := by rw [wrap64 (by omega) (by omega)]; omega
       have s1 := subI_nat b (a := IntKind.wrap .i64 ((at' : Int) + 2)) (b := IntKind.wrap .i64 ((at' : Int) + y)) w2 w3 (by omega) (by omega)
       rw [show at' + y.toNat - (at' + 2) = y.toNat - 2 by omega, ← List.drop_drop] at s1
       simp only [h4, decide_false, cond_false, if_false]
       rw [g0, Option.bind_some, s1, Option.bind_some, c5, cond_true, w3]
       have q := par_ref k b (at' + y.toNat) (acc ++ [((b.drop at')[0], ((b.drop at').drop 2).take (y.toNat - 2))]) (by omega) (by omega) hb (by simp; omega) hw
       rw [← List.drop_drop] at q
       exact q
def fin (o : ParO) : List Op × Int := Sum.elim (fun v => (v.1.1, v.1.2.1)) (fun v => (v.2.1, 0)) o
theorem parse_ok (b : List Int) (hb : b.length ≤ 100000) (hw : AllB b) (hN : 100000 < N) : opts_Parse N b = some (fin (par N b [])) := by
 unfold opts_Parse opts_Parse_L2_R
 rw [par_prog N b [] (by omega) hb (by simp) hw]
 cases par N b [] <;> rfl
theorem ref_parse_ok (b : List Int) (hb : b.length ≤ 100000) (hw : AllB b) (hN : 100000 < N) : ref21_Parse N b = some (fin (par N b [])) := by
 unfold ref21_Parse ref21_Parse_L3_R
 have := par_ref (N := N) N b 0 [] (by omega) (by omega) hb (by simp) hw
 rw [List.drop_zero] at this
 rw [show ((0 : Int)) = ((0 : Nat) : Int) from rfl, this]
 cases par N b [] <;> rfl
end
theorem par_back : ∀ (k : Nat) (b : List Int) (acc : List Op), b.length < k → AllB b → small acc → acc.length ≤ 32 → (∃ e, par k b acc = parE e ∧ e ≠ 0) ∨ ∃ m, par k b acc = .inr ((), (m, ())) ∧ encs m = encs acc ++ b ∧ small m ∧ m.length ≤ 32
 | 0, b, acc, h, _, _, _ => by omega
 | k + 1, b, acc, h, hw, hs, ha => by
  unfold par
  by_cases h0 : b.length = 0
  ·right
   rw [if_pos h0]
   have := List.eq_nil_of_length_eq_zero h0
   exact ⟨acc, rfl, by rw [this, List.append_nil], hs, ha⟩
  ·rw [if_neg h0]
   by_cases h1 : acc.length = 32
   ·left; rw [if_pos h1]; exact ⟨5, rfl, by decide⟩
   ·rw [if_neg h1]
    by_cases h2 : b.length < 2
    ·left; rw [if_pos h2]; exact ⟨4, rfl, by decide⟩
    ·rw [if_neg h2, getD_lt (by omega : 1 < b.length), getD_lt (by omega : 0 < b.length)]
     have hx := hw.get 1 (by omega)
     by_cases h3 : b[1] < 2
     ·left; rw [if_pos h3]; exact ⟨3, rfl, by decide⟩
     ·rw [if_neg h3]
      by_cases h4 : (b.length : Int) < b[1]
      ·left; rw [if_pos h4]; exact ⟨4, rfl, by decide⟩
      ·rw [if_neg h4]
       have hlt : ((b.drop 2).take (b[1].toNat - 2)).length = b[1].toNat - 2 := by rw [List.length_take, List.length_drop]; omega
       rcases par_back k (b.drop b[1].toNat) (acc ++ [(b[0], (b.drop 2).take (b[1].toNat - 2))]) (by rw [List.length_drop]; omega) (hw.drop _) (fun o ho => by
        rcases List.mem_append.1 ho with ho | ho
        ·exact hs o ho
        ·simp only [List.mem_singleton] at ho; subst ho; show ((b.drop 2).take (b[1].toNat - 2)).length ≤ 253; omega) (by simp; omega) with h5 | ⟨m, m1, m2, m3, m4⟩
       ·exact .inl h5
       ·refine .inr ⟨m, m1, ?_, m3, m4⟩
        rw [m2, encs_append, List.append_assoc]
        congr 1
        have e2 : encs [(b[0], (b.drop 2).take (b[1].toNat - 2))] = b[0] :: b[1] :: (b.drop 2).take (b[1].toNat - 2) := by
         show _ :: (2 + (List.length _ : Int)) :: (_ ++ []) = _
         rw [hlt, List.append_nil]
         congr 2
         omega
        rw [e2]
        have e3 : b.drop b[1].toNat = (b.drop 2).drop (b[1].toNat - 2) := by rw [List.drop_drop]; congr 1; omega
        rw [e3, List.cons_append, List.cons_append, List.take_append_drop]
        match b, h2 with
        | x :: y :: r, _ => rfl
        | [_], h2 => exact absurd (by simp) h2
        | [], h2 => exact absurd (by simp) h2
theorem par_wf : ∀ (k : Nat) (b : List Int) (acc : List Op), AllB b → wfO acc → ∀ m, par k b acc = .inr ((), (m, ())) → wfO m
 | 0, b, acc, hw, hs, m, h => by cases h
 | k + 1, b, acc, hw, hs, m, h => by
  unfold par at h
  split at h
  ·injection h with h; injection h with _ h; injection h with h; subst h; exact hs
  ·split at h
   ·cases h
   ·split at h
    ·cases h
    ·rename_i h2
     split at h
     ·cases h
     ·split at h
      ·cases h
      ·refine par_wf k _ _ (hw.drop _) (fun o ho => ?_) m h
       rcases List.mem_append.1 ho with ho | ho
       ·exact hs o ho
       ·simp only [List.mem_singleton] at ho
        subst ho
        exact ⟨by rw [getD_lt (by omega : 0 < b.length)]; exact hw.get 0 (by omega), (hw.drop _).take _⟩
section
variable {N : Nat}
theorem equal_ok (x y : Op) (h1 : AllB x.2) (h2 : AllB y.2) : opts_equal N x y = some (decide (x = y)) := by
 unfold opts_equal bytes_Equal
 rw [toBy_map h1, toBy_map h2]
 simp only [Option.bind_some, bytes_dec h1 h2]
 obtain ⟨x1, x2⟩ := x
 obtain ⟨y1, y2⟩ := y
 by_cases e1 : x1 = y1 <;> by_cases e2 : x2 = y2 <;> simp [e1, e2]
theorem osame_ok (a b : List Op) (ha : wfO a) (hb : wfO b) (hl : a.length < 1000) (hN : 10000 ≤ N) : opts_Same N a b = some (decide (a = b)) := by
 unfold opts_Same
 by_cases hl' : a.length = b.length
 ·have c0 : ((a.length : Int) = (b.length : Int)) := by omega
  simp only [c0, decide_true, Bool.not_true, cond_false]
  obtain ⟨o, h1, h2⟩ := gl_inv (G := fun (X : (((List Op) × ((List Op) × ((Int) × ((Int) × Unit)))) × Unit) → Option (((((Bool) × Unit) × Unit) ⊕ (Unit × Unit)))) c => oSE_L4 N X c.1.1 c.1.2.1 c.1.2.2.1 c.1.2.2.2.1)
   (fun n c => ∃ i : Nat, c = ((b, (a, ((b.length : Int), ((i : Int), ())))), ()) ∧ i ≤ a.length ∧ n = a.length - i ∧ a.take i = b.take i) (fun o => o = if a = b then .inr ((), ()) else .inl ((false, ()), ())) (fun X n c ⟨i, hc, hi, hn, ht⟩ => by
   subst hc
   rcases Nat.lt_or_ge i a.length with hlt | hge
   ·have c1 : ((i : Int) < (b.length : Int)) := by omega
    have c2 : IntKind.wrap .i64 ((i : Int) + 1) = ((i + 1 : Nat) : Int) := by rw [wrap64 (by omega) (by omega)]; omega
    have eq : opts_equal N (a[i].1, a[i].2) ((b[i]'(by omega)).1, (b[i]'(by omega)).2) = some (decide (a[i] = b[i]'(by omega))) := equal_ok (N := N) a[i] (b[i]'(by omega)) (ha _ (List.getElem_mem hlt)).2 (hb _ (List.getElem_mem _)).2
    by_cases he : a[i] = b[i]'(by omega)
    ·right
     refine ⟨a.length - (i + 1), ((b, (a, ((b.length : Int), (((i + 1 : Nat) : Int), ())))), ()), by omega, ⟨i + 1, rfl, hlt, rfl, ?_⟩, ?_⟩
     ·rw [List.take_add_one, List.take_add_one, ht, List.getElem?_eq_getElem hlt, List.getElem?_eq_getElem (by omega), he]
     ·simp only [oSE_L4, c1, decide_true, cond_true, getI_lt a i hlt, getI_lt b i (by omega), Option.bind_some, eq]
      simp only [he, decide_true, Bool.not_true, cond_false, c2]
    ·left
     refine ⟨.inl ((false, ()), ()), ?_, ?_⟩
     ·simp only [oSE_L4, c1, decide_true, cond_true, getI_lt a i hlt, getI_lt b i (by omega), Option.bind_some, eq]
      simp only [he, decide_false, Bool.not_false, cond_true]
     ·rw [if_neg (fun h => he (by simp [h]))]
   ·left
    have c1 : ¬ ((i : Int) < (b.length : Int)) := by omega
    refine ⟨.inr ((), ()), by simp only [oSE_L4, c1, decide_false, cond_false], ?_⟩
    rw [List.take_of_length_le (by omega), List.take_of_length_le (by omega)] at ht
    rw [if_pos ht]) N a.length ((b, (a, ((b.length : Int), ((0 : Int), ())))), ()) (by omega) ⟨0, rfl, by omega, by omega, by simp⟩
  unfold oSE_L4_R
  rw [h1, h2]
  by_cases he : a = b <;> simp [he]
 ·have c0 : ¬ ((a.length : Int) = (b.length : Int)) := by omega
  have c1 : ¬ (a = b) := fun h' => hl' (by rw [h'])
  simp only [c0, c1, decide_false, Bool.not_false, cond_true]
end
section
variable {N : Nat}
theorem oput2 (n : Int) (h : 0 ≤ n ∧ n < 18446744073709551616) (hN : 10000 ≤ N) : octs_Put N n 2 false = some ([n / 256 % 256, n % 256], 0) := put2 (N := N) n h (by omega)
theorem ojoin (l : List (List Int)) (hl : l.length ≤ 1000) (hs : ∀ p ∈ l, p.length ≤ 100000) (hN : 10000 ≤ N) : oJn N l = some l.flatten := join_ok (N := N) l hl hs (by omega)
abbrev Ct := Int × Int × List Int
def wfC (c : Ct) : Prop := (0 ≤ c.1 ∧ c.1 < 256) ∧ (0 ≤ c.2.1 ∧ c.2.1 < 256) ∧ AllB c.2.2
def layC (c : Ct) : List Int × Int := if 4000 < c.2.2.length then ([], 8) else (c.1 :: c.2.1 :: ((4 + (c.2.2.length : Int)) / 256) :: ((4 + (c.2.2.length : Int)) % 256) :: c.2.2, 0)
theorem clay_ok (c : Ct) (hl : c.2.2.length ≤ 5000) (hN : 10000 ≤ N) : ctl_Lay N c = some (layC c) := by
 unfold ctl_Lay layC
 have w1 : IntKind.wrap .i64 ((4 : Int) + (c.2.2.length : Int)) = 4 + (c.2.2.length : Int) := wrap64 (by omega) (by omega)
 have w2 : IntKind.wrap .u64 ((4 : Int) + (c.2.2.length : Int)) = 4 + (c.2.2.length : Int) := wrapU64 (by omega) (by omega)
 by_cases hb : 4000 < c.2.2.length
 ·have c1 : (4000 : Int) < (c.2.2.length : Int) := by omega
  simp [c1, hb]
 ·have c1 : ¬ (4000 : Int) < (c.2.2.length : Int) := by omega
  rw [decide_eq_false c1, w1, w2, oput2 _ (by omega) hN]
  simp only [cond_false, Option.bind_some]
  rw [ojoin _ (by simp) (fun p hp => by
   simp only [List.mem_cons, List.not_mem_nil, or_false] at hp
   rcases hp with rfl | rfl | rfl
   ·simp
   ·simp
   ·omega) hN]
  have e1 : (4 + (c.2.2.length : Int)) / 256 % 256 = (4 + (c.2.2.length : Int)) / 256 := by omega
  simp [hb, e1]
theorem layC_wf (c : Ct) (hc : wfC c) (hl : c.2.2.length ≤ 5000) : (layC c).1.length ≤ 6000 ∧ AllB (layC c).1 := by
 unfold layC
 split
 ·exact ⟨by simp, AllB.nil⟩
 ·refine ⟨by simp only [List.length_cons]; omega, ?_⟩
  exact AllB.cons hc.1 (AllB.cons hc.2.1 (AllB.cons (by omega) (AllB.cons (by omega) hc.2.2)))
end
theorem wf_ct {c : Ct} (h : wfT (.pair (.int .u8) (.pair (.int .u8) (.sl (.int .u8)))) c) : wfC c := ⟨wf_u8 h.1, wf_u8 h.2.1, wf_bytes h.2.2⟩
section
variable {N : Nat}
def cutC (b : List Int) (most : Int) : List Int := if most ≤ 4 then [] else b.take (minI (b.length : Int) (most - 4)).toNat
theorem minI_r {a b : Int} (ha : 0 ≤ a) (hb : 0 ≤ b) : 0 ≤ minI a b ∧ minI a b ≤ a := by unfold minI; split <;> omega
theorem ccut_ok (b : List Int) (most : Int) (hm : -9223372036854775808 ≤ most ∧ most < 9223372036854775808) : ctl_cut N b most = some (cutC b most) := by
 unfold ctl_cut cutC
 by_cases h : most ≤ 4
 ·simp [h]
 ·have w : IntKind.wrap .i64 (most - 4) = most - 4 := wrap64 (by omega) (by omega)
  obtain ⟨r1, r2⟩ := minI_r (show (0 : Int) ≤ (b.length : Int) by omega) (show (0 : Int) ≤ most - 4 by omega)
  have t := takeI_nat b (a := minI (b.length : Int) (most - 4)) (i := (minI (b.length : Int) (most - 4)).toNat) (by omega) (by omega)
  simp [h, w, t]
theorem crcut_ok (b : List Int) (most : Int) (hm : -9223372036854775808 ≤ most ∧ most < 9223372036854775808) : ref22_cut N b most = some (cutC b most) := by
 unfold ref22_cut cutC
 by_cases h : most < 4
 ·have h' : most ≤ 4 := by omega
  simp [h, h']
 ·have w : IntKind.wrap .i64 (most - 4) = most - 4 := wrap64 (by omega) (by omega)
  obtain ⟨r1, r2⟩ := minI_r (show (0 : Int) ≤ (b.length : Int) by omega) (show (0 : Int) ≤ most - 4 by omega)
  have t := takeI_nat b (a := minI (b.length : Int) (most - 4)) (i := (minI (b.length : Int) (most - 4)).toNat) (by omega) (by omega)
  by_cases h4 : most = 4
  ·subst h4
   have e : (minI (b.length : Int) (4 - 4)).toNat = 0 := by unfold minI; split <;> omega
   simp only [h, decide_false, cond_false, w, t, Option.bind_some, e, List.take_zero]
   simp
  ·have h' : ¬ most ≤ 4 := by omega
   simp [h, h', w, t]
theorem cutC_wf {b : List Int} (hb : AllB b) (most : Int) : AllB (cutC b most) := by
 unfold cutC; split
 ·exact AllB.nil
 ·exact hb.take _
theorem crej_ok (id : Int) (c : Ct) (most : Int) (hl : c.2.2.length ≤ 5000) (hm : -9223372036854775808 ≤ most ∧ most < 9223372036854775808) (hN : 10000 ≤ N) : ctl_Reject N id c most = some (7, id, cutC (layC c).1 most) := by
 unfold ctl_Reject
 have e : ctl_Lay N (c.1, (c.2.1, c.2.2)) = some (layC c) := clay_ok c hl hN
 rw [e, Option.bind_some, ccut_ok _ _ hm, Option.bind_some]
def isC (code : Int) : Bool := decide (1 ≤ code ∧ code ≤ 4)
theorem chas_ok (code : Int) : ctl_hasOptions N code = some (isC code) := by
 unfold ctl_hasOptions isC
 by_cases h1 : (1 : Int) ≤ code <;> by_cases h2 : code ≤ (4 : Int) <;> simp [h1, h2]
theorem crhas_ok (code : Int) : ref22_conf N code = some (isC code) := by
 unfold ref22_conf isC
 by_cases h1 : (1 : Int) ≤ code <;> by_cases h2 : code ≤ (4 : Int) <;> simp [h1, h2]
def conC (code id : Int) (l : List Op) : Ct × Int := bif isC code then (bif decide ((layS l).2 = 0) then ((code, id, (layS l).1), 0) else ((0, 0, []), (layS l).2)) else ((0, 0, []), 9)
theorem ccon_ok (code id : Int) (l : List Op) (hl : l.length ≤ 1000) (hN : 10000 ≤ N) : ctl_Conf N code id l = some (conC code id l) := by
 unfold ctl_Conf conC
 rw [chas_ok, Option.bind_some, lay_ok l hl hN]
 cases isC code
 ·rfl
 ·by_cases h : (layS l).2 = 0 <;> simp [h]
theorem crcon_ok (code id : Int) (l : List Op) (hl : l.length ≤ 1000) (hN : 10000 ≤ N) : ref22_Conf N code id l = some (conC code id l) := by
 unfold ref22_Conf conC
 rw [crhas_ok, Option.bind_some, ref_lay_ok l hl hN]
 cases isC code
 ·rfl
 ·by_cases h : (layS l).2 = 0 <;> simp [h]
def optC (N : Nat) (c : Ct) : List Op × Int := bif isC c.1 then fin (par N c.2.2 []) else ([], 9)
theorem copt_ok (c : Ct) (hb : c.2.2.length ≤ 100000) (hw : AllB c.2.2) (hN : 100000 < N) : ctl_Options N c = some (optC N c) := by
 unfold ctl_Options optC
 rw [chas_ok, Option.bind_some, parse_ok c.2.2 hb hw hN]
 cases isC c.1 <;> rfl
theorem cropt_ok (c : Ct) (hb : c.2.2.length ≤ 100000) (hw : AllB c.2.2) (hN : 100000 < N) : ref22_Options N c = some (optC N c) := by
 unfold ref22_Options optC
 rw [crhas_ok, Option.bind_some, ref_parse_ok c.2.2 hb hw hN]
 cases isC c.1 <;> rfl
end
theorem optC_wf (c : Ct) (hl : c.2.2.length < 200000) (hw : AllB c.2.2) : wfO (optC 200000 c).1 ∧ (optC 200000 c).1.length ≤ 32 := by
 unfold optC
 cases isC c.1
 ·exact ⟨fun o ho => (by cases ho), Nat.zero_le _⟩
 ·simp only [cond_true]
  rcases par_back 200000 c.2.2 [] hl hw (fun o ho => (by cases ho)) (by simp) with ⟨e, h, he⟩ | ⟨m, h, _, _, hm⟩
  ·rw [h]; exact ⟨fun o ho => (by cases ho), Nat.zero_le _⟩
  ·have := par_wf 200000 c.2.2 [] hw (fun o ho => (by cases ho)) m h
   rw [h]; exact ⟨this, hm⟩
theorem layS_wf (l : List Op) (hw : wfO l) : AllB (layS l).1 ∧ (layS l).1.length ≤ 10000 := by
 unfold layS
 split
 ·exact ⟨AllB.nil, by simp⟩
 ·split
  ·rename_i h32 hs
   have hs := all_small.1 hs
   refine ⟨encs_all hs hw, ?_⟩
   have := encs_len hs
   show (encs l).length ≤ _
   omega
  ·exact ⟨AllB.nil, by simp⟩
end Go.Proofs.YtjomcoignnlghaaGreat
