/-
  Parts of my own, one behind the other: GCh, QCh1.
-/
import Derived.Test.YtfeggmghkhejcaaDoorMrg5
import Derived.Test.YtfeggmghkhejcaaDoorMrg4
/-
  Functions of the program as plain functions on typed data, and that they are so. Printed by a program of mine.
-/
namespace Go.Proofs.YtfeggmghkhejcaaDoor
open Go.RowKit
set_option linter.unusedVariables false
set_option maxRecDepth 100000
noncomputable def des_Box (N : Nat) (n0 : Int) (six1 : Int) : Option (Int) :=
 bif (decide (n0 < (1 : Int))) then
  some ((0 : Int))
 else
  bif (@cond Bool @Bool.false @Bool.true (decide ((8 : Int) < n0))) then
   some ((0 : Int))
  else
   Option.bind (getI (@Array.toList UInt8 (@List.toArray UInt8 (@List.append UInt8 (@List.append UInt8 (@List.append UInt8 ([(@OfNat.ofNat UInt8 (69 : Nat) (@UInt8.instOfNat (69 : Nat))), (@OfNat.ofNat UInt8 (52 : Nat) (@UInt8.instOfNat (52 : Nat))), (@OfNat.ofNat UInt8 (68 : Nat) (@UInt8.instOfNat (68 : Nat))), (@OfNat.ofNat UInt8 (49 : Nat) (@UInt8.instOfNat (49 : Nat))), (@OfNat.ofNat UInt8 (50 : Nat) (@UInt8.instOfNat (50 : Nat))), (@OfNat.ofNat UInt8 (70 : Nat) (@UInt8.instOfNat (70 : Nat))), (@OfNat.ofNat UInt8 (66 : Nat) (@UInt8.instOfNat (66 : Nat))), (@OfNat.ofNat UInt8 (56 : Nat) (@UInt8.instOfNat (56 : Nat))), (@OfNat.ofNat UInt8 (51 : Nat) (@UInt8.instOfNat (51 : Nat))), (@OfNat.ofNat UInt8 (65 : Nat) (@UInt8.instOfNat (65 : Nat))), (@OfNat.ofNat UInt8 (54 : Nat) (@UInt8.instOfNat (54 : Nat))), (@OfNat.ofNat UInt8 (67 : Nat) (@UInt8.instOfNat (67 : Nat))), (@OfNat.ofNat UInt8 (53 : Nat) (@UInt8.instOfNat (53 : Nat))), (@OfNat.ofNat UInt8 (57 : Nat) (@UInt8.instOfNat (57 : Nat))), (@OfNat.ofNat UInt8 (48 : Nat) (@UInt8.instOfNat (48 : Nat))), (@OfNat.ofNat UInt8 (55 : Nat) (@UInt8.instOfNat (55 : Nat))), (@OfNat.ofNat UInt8 (48 : Nat) (@UInt8.instOfNat (48 : Nat))), (@OfNat.ofNat UInt8 (70 : Nat) (@UInt8.instOfNat (70 : Nat))), (@OfNat.ofNat UInt8 (55 : Nat) (@UInt8.instOfNat (55 : Nat))), (@OfNat.ofNat UInt8 (52 : Nat) (@UInt8.instOfNat (52 : Nat))), (@OfNat.ofNat UInt8 (69 : Nat) (@UInt8.instOfNat (69 : Nat))), (@OfNat.ofNat UInt8 (50 : Nat) (@UInt8.instOfNat (50 : Nat))), (@OfNat.ofNat UInt8 (68 : Nat) (@UInt8.instOfNat (68 : Nat))), (@OfNat.ofNat UInt8 (49 : Nat) (@UInt8.instOfNat (49 : Nat))), (@OfNat.ofNat UInt8 (65 : Nat) (@UInt8.instOfNat (65 : Nat))), (@OfNat.ofNat UInt8 (54 : Nat) (@UInt8.instOfNat (54 : Nat))), (@OfNat.ofNat UInt8 (67 : Nat) (@UInt8.instOfNat (67 : Nat))), (@OfNat.ofNat UInt8 (66 : Nat) (@UInt8.instOfNat (66 : Nat))), (@OfNat.ofNat UInt8 (57 : Nat) (@UInt8.instOfNat (57 : Nat))), (@OfNat.ofNat UInt8 (53 : Nat) (@UInt8.instOfNat (53 : Nat))), (@OfNat.ofNat UInt8 (51 : Nat) (@UInt8.instOfNat (51 : Nat))), (@OfNat.ofNat UInt8 (56 : Nat) (@UInt8.instOfNat (56 : Nat))), (@OfNat.ofNat UInt8 (52 : Nat) (@UInt8.instOfNat (52 : Nat))), (@OfNat.ofNat UInt8 (49 : Nat) (@UInt8.instOfNat (49 : Nat))), (@OfNat.ofNat UInt8 (69 : Nat) (@UInt8.instOfNat (69 : Nat))), (@OfNat.ofNat UInt8 (56 : Nat) (@UInt8.instOfNat (56 : Nat))), (@OfNat.ofNat UInt8 (68 : Nat) (@UInt8.instOfNat (68 : Nat))), (@OfNat.ofNat UInt8 (54 : Nat) (@UInt8.instOfNat (54 : Nat))), (@OfNat.ofNat UInt8 (50 : Nat) (@UInt8.instOfNat (50 : Nat))), (@OfNat.ofNat UInt8 (66 : Nat) (@UInt8.instOfNat (66 : Nat))), (@OfNat.ofNat UInt8 (70 : Nat) (@UInt8.instOfNat (70 : Nat))), (@OfNat.ofNat UInt8 (67 : Nat) (@UInt8.instOfNat (67 : Nat))), (@OfNat.ofNat UInt8 (57 : Nat) (@UInt8.instOfNat (57 : Nat))), (@OfNat.ofNat UInt8 (55 : Nat) (@UInt8.instOfNat (55 : Nat))), (@OfNat.ofNat UInt8 (51 : Nat) (@UInt8.instOfNat (51 : Nat))), (@OfNat.ofNat UInt8 (65 : Nat) (@UInt8.instOfNat (65 : Nat))), (@OfNat.ofNat UInt8 (53 : Nat) (@UInt8.instOfNat (53 : Nat))), (@OfNat.ofNat UInt8 (48 : Nat) (@UInt8.instOfNat (48 : Nat))), (@OfNat.ofNat UInt8 (70 : Nat) (@UInt8.instOfNat (70 : Nat))), (@OfNat.ofNat UInt8 (67 : Nat) (@UInt8.instOfNat (67 : Nat))), (@OfNat.ofNat UInt8 (56 : Nat) (@UInt8.instOfNat (56 : Nat))), (@OfNat.ofNat UInt8 (50 : Nat) (@UInt8.instOfNat (50 : Nat))), (@OfNat.ofNat UInt8 (52 : Nat) (@UInt8.instOfNat (52 : Nat))), (@OfNat.ofNat UInt8 (57 : Nat) (@UInt8.instOfNat (57 : Nat))), (@OfNat.ofNat UInt8 (49 : Nat) (@UInt8.instOfNat (49 : Nat))), (@OfNat.ofNat UInt8 (55 : Nat) (@UInt8.instOfNat (55 : Nat))), (@OfNat.ofNat UInt8 (53 : Nat) (@UInt8.instOfNat (53 : Nat))), (@OfNat.ofNat UInt8 (66 : Nat) (@UInt8.instOfNat (66 : Nat))), (@OfNat.ofNat UInt8 (51 : Nat) (@UInt8.instOfNat (51 : Nat))), (@OfNat.ofNat UInt8 (69 : Nat) (@UInt8.instOfNat (69 : Nat))), (@OfNat.ofNat UInt8 (65 : Nat) (@UInt8.instOfNat (65 : Nat))), (@OfNat.ofNat UInt8 (48 : Nat) (@UInt8.instOfNat (48 : Nat))), (@OfNat.ofNat UInt8 (54 : Nat) (@UInt8.instOfNat (54 : Nat))), (@OfNat.ofNat UInt8 (68 : Nat) (@UInt8.instOfNat (68 : Nat)))] : List (UInt8)) ([(@OfNat.ofNat UInt8 (70 : Nat) (@UInt8.instOfNat (70 : Nat))), (@OfNat.ofNat UInt8 (49 : Nat) (@UInt8.instOfNat (49 : Nat))), (@OfNat.ofNat UInt8 (56 : Nat) (@UInt8.instOfNat (56 : Nat))), (@OfNat.ofNat UInt8 (69 : Nat) (@UInt8.instOfNat (69 : Nat))), (@OfNat.ofNat UInt8 (54 : Nat) (@UInt8.instOfNat (54 : Nat))), (@OfNat.ofNat UInt8 (66 : Nat) (@UInt8.instOfNat (66 : Nat))), (@OfNat.ofNat UInt8 (51 : Nat) (@UInt8.instOfNat (51 : Nat))), (@OfNat.ofNat UInt8 (52 : Nat) (@UInt8.instOfNat (52 : Nat))), (@OfNat.ofNat UInt8 (57 : Nat) (@UInt8.instOfNat (57 : Nat))), (@OfNat.ofNat UInt8 (55 : Nat) (@UInt8.instOfNat (55 : Nat))), (@OfNat.ofNat UInt8 (50 : Nat) (@UInt8.instOfNat (50 : Nat))), (@OfNat.ofNat UInt8 (68 : Nat) (@UInt8.instOfNat (68 : Nat))), (@OfNat.ofNat UInt8 (67 : Nat) (@UInt8.instOfNat (67 : Nat))), (@OfNat.ofNat UInt8 (48 : Nat) (@UInt8.instOfNat (48 : Nat))), (@OfNat.ofNat UInt8 (53 : Nat) (@UInt8.instOfNat (53 : Nat))), (@OfNat.ofNat UInt8 (65 : Nat) (@UInt8.instOfNat (65 : Nat))), (@OfNat.ofNat UInt8 (51 : Nat) (@UInt8.instOfNat (51 : Nat))), (@OfNat.ofNat UInt8 (68 : Nat) (@UInt8.instOfNat (68 : Nat))), (@OfNat.ofNat UInt8 (52 : Nat) (@UInt8.instOfNat (52 : Nat))), (@OfNat.ofNat UInt8 (55 : Nat) (@UInt8.instOfNat (55 : Nat))), (@OfNat.ofNat UInt8 (70 : Nat) (@UInt8.instOfNat (70 : Nat))), (@OfNat.ofNat UInt8 (50 : Nat) (@UInt8.instOfNat (50 : Nat))), (@OfNat.ofNat UInt8 (56 : Nat) (@UInt8.instOfNat (56 : Nat))), (@OfNat.ofNat UInt8 (69 : Nat) (@UInt8.instOfNat (69 : Nat))), (@OfNat.ofNat UInt8 (67 : Nat) (@UInt8.instOfNat (67 : Nat))), (@OfNat.ofNat UInt8 (48 : Nat) (@UInt8.instOfNat (48 : Nat))), (@OfNat.ofNat UInt8 (49 : Nat) (@UInt8.instOfNat (49 : Nat))), (@OfNat.ofNat UInt8 (65 : Nat) (@UInt8.instOfNat (65 : Nat))), (@OfNat.ofNat UInt8 (54 : Nat) (@UInt8.instOfNat (54 : Nat))), (@OfNat.ofNat UInt8 (57 : Nat) (@UInt8.instOfNat (57 : Nat))), (@OfNat.ofNat UInt8 (66 : Nat) (@UInt8.instOfNat (66 : Nat))), (@OfNat.ofNat UInt8 (53 : Nat) (@UInt8.instOfNat (53 : Nat))), (@OfNat.ofNat UInt8 (48 : Nat) (@UInt8.instOfNat (48 : Nat))), (@OfNat.ofNat UInt8 (69 : Nat) (@UInt8.instOfNat (69 : Nat))), (@OfNat.ofNat UInt8 (55 : Nat) (@UInt8.instOfNat (55 : Nat))), (@OfNat.ofNat UInt8 (66 : Nat) (@UInt8.instOfNat (66 : Nat))), (@OfNat.ofNat UInt8 (65 : Nat) (@UInt8.instOfNat (65 : Nat))), (@OfNat.ofNat UInt8 (52 : Nat) (@UInt8.instOfNat (52 : Nat))), (@OfNat.ofNat UInt8 (68 : Nat) (@UInt8.instOfNat (68 : Nat))), (@OfNat.ofNat UInt8 (49 : Nat) (@UInt8.instOfNat (49 : Nat))), (@OfNat.ofNat UInt8 (53 : Nat) (@UInt8.instOfNat (53 : Nat))), (@OfNat.ofNat UInt8 (56 : Nat) (@UInt8.instOfNat (56 : Nat))), (@OfNat.ofNat UInt8 (67 : Nat) (@UInt8.instOfNat (67 : Nat))), (@OfNat.ofNat UInt8 (54 : Nat) (@UInt8.instOfNat (54 : Nat))), (@OfNat.ofNat UInt8 (57 : Nat) (@UInt8.instOfNat (57 : Nat))), (@OfNat.ofNat UInt8 (51 : Nat) (@UInt8.instOfNat (51 : Nat))), (@OfNat.ofNat UInt8 (50 : Nat) (@UInt8.instOfNat (50 : Nat))), (@OfNat.ofNat UInt8 (70 : Nat) (@UInt8.instOfNat (70 : Nat))), (@OfNat.ofNat UInt8 (68 : Nat) (@UInt8.instOfNat (68 : Nat))), (@OfNat.ofNat UInt8 (56 : Nat) (@UInt8.instOfNat (56 : Nat))), (@OfNat.ofNat UInt8 (65 : Nat) (@UInt8.instOfNat (65 : Nat))), (@OfNat.ofNat UInt8 (49 : Nat) (@UInt8.instOfNat (49 : Nat))), (@OfNat.ofNat UInt8 (51 : Nat) (@UInt8.instOfNat (51 : Nat))), (@OfNat.ofNat UInt8 (70 : Nat) (@UInt8.instOfNat (70 : Nat))), (@OfNat.ofNat UInt8 (52 : Nat) (@UInt8.instOfNat (52 : Nat))), (@OfNat.ofNat UInt8 (50 : Nat) (@UInt8.instOfNat (50 : Nat))), (@OfNat.ofNat UInt8 (66 : Nat) (@UInt8.instOfNat (66 : Nat))), (@OfNat.ofNat UInt8 (54 : Nat) (@UInt8.instOfNat (54 : Nat))), (@OfNat.ofNat UInt8 (55 : Nat) (@UInt8.instOfNat (55 : Nat))), (@OfNat.ofNat UInt8 (67 : Nat) (@UInt8.instOfNat (67 : Nat))), (@OfNat.ofNat UInt8 (48 : Nat) (@UInt8.instOfNat (48 : Nat))), (@OfNat.ofNat UInt8 (53 : Nat) (@UInt8.instOfNat (53 : Nat))), (@OfNat.ofNat UInt8 (69 : Nat) (@UInt8.instOfNat (69 : Nat))), (@OfNat.ofNat UInt8 (57 : Nat) (@UInt8.instOfNat (57 : Nat)))] : List (UInt8))) (@List.append UInt8 ([(@OfNat.ofNat UInt8 (65 : Nat) (@UInt8.instOfNat (65 : Nat))), (@OfNat.ofNat UInt8 (48 : Nat) (@UInt8.instOfNat (48 : Nat))), (@OfNat.ofNat UInt8 (57 : Nat) (@UInt8.instOfNat (57 : Nat))), (@OfNat.ofNat UInt8 (69 : Nat) (@UInt8.instOfNat (69 : Nat))), (@OfNat.ofNat UInt8 (54 : Nat) (@UInt8.instOfNat (54 : Nat))), (@OfNat.ofNat UInt8 (51 : Nat) (@UInt8.instOfNat (51 : Nat))), (@OfNat.ofNat UInt8 (70 : Nat) (@UInt8.instOfNat (70 : Nat))), (@OfNat.ofNat UInt8 (53 : Nat) (@UInt8.instOfNat (53 : Nat))), (@OfNat.ofNat UInt8 (49 : Nat) (@UInt8.instOfNat (49 : Nat))), (@OfNat.ofNat UInt8 (68 : Nat) (@UInt8.instOfNat (68 : Nat))), (@OfNat.ofNat UInt8 (67 : Nat) (@UInt8.instOfNat (67 : Nat))), (@OfNat.ofNat UInt8 (55 : Nat) (@UInt8.instOfNat (55 : Nat))), (@OfNat.ofNat UInt8 (66 : Nat) (@UInt8.instOfNat (66 : Nat))), (@OfNat.ofNat UInt8 (52 : Nat) (@UInt8.instOfNat (52 : Nat))), (@OfNat.ofNat UInt8 (50 : Nat) (@UInt8.instOfNat (50 : Nat))), (@OfNat.ofNat UInt8 (56 : Nat) (@UInt8.instOfNat (56 : Nat))), (@OfNat.ofNat UInt8 (68 : Nat) (@UInt8.instOfNat (68 : Nat))), (@OfNat.ofNat UInt8 (55 : Nat) (@UInt8.instOfNat (55 : Nat))), (@OfNat.ofNat UInt8 (48 : Nat) (@UInt8.instOfNat (48 : Nat))), (@OfNat.ofNat UInt8 (57 : Nat) (@UInt8.instOfNat (57 : Nat))), (@OfNat.ofNat UInt8 (51 : Nat) (@UInt8.instOfNat (51 : Nat))), (@OfNat.ofNat UInt8 (52 : Nat) (@UInt8.instOfNat (52 : Nat))), (@OfNat.ofNat UInt8 (54 : Nat) (@UInt8.instOfNat (54 : Nat))), (@OfNat.ofNat UInt8 (65 : Nat) (@UInt8.instOfNat (65 : Nat))), (@OfNat.ofNat UInt8 (50 : Nat) (@UInt8.instOfNat (50 : Nat))), (@OfNat.ofNat UInt8 (56 : Nat) (@UInt8.instOfNat (56 : Nat))), (@OfNat.ofNat UInt8 (53 : Nat) (@UInt8.instOfNat (53 : Nat))), (@OfNat.ofNat UInt8 (69 : Nat) (@UInt8.instOfNat (69 : Nat))), (@OfNat.ofNat UInt8 (67 : Nat) (@UInt8.instOfNat (67 : Nat))), (@OfNat.ofNat UInt8 (66 : Nat) (@UInt8.instOfNat (66 : Nat))), (@OfNat.ofNat UInt8 (70 : Nat) (@UInt8.instOfNat (70 : Nat))), (@OfNat.ofNat UInt8 (49 : Nat) (@UInt8.instOfNat (49 : Nat))), (@OfNat.ofNat UInt8 (68 : Nat) (@UInt8.instOfNat (68 : Nat))), (@OfNat.ofNat UInt8 (54 : Nat) (@UInt8.instOfNat (54 : Nat))), (@OfNat.ofNat UInt8 (52 : Nat) (@UInt8.instOfNat (52 : Nat))), (@OfNat.ofNat UInt8 (57 : Nat) (@UInt8.instOfNat (57 : Nat))), (@OfNat.ofNat UInt8 (56 : Nat) (@UInt8.instOfNat (56 : Nat))), (@OfNat.ofNat UInt8 (70 : Nat) (@UInt8.instOfNat (70 : Nat))), (@OfNat.ofNat UInt8 (51 : Nat) (@UInt8.instOfNat (51 : Nat))), (@OfNat.ofNat UInt8 (48 : Nat) (@UInt8.instOfNat (48 : Nat))), (@OfNat.ofNat UInt8 (66 : Nat) (@UInt8.instOfNat (66 : Nat))), (@OfNat.ofNat UInt8 (49 : Nat) (@UInt8.instOfNat (49 : Nat))), (@OfNat.ofNat UInt8 (50 : Nat) (@UInt8.instOfNat (50 : Nat))), (@OfNat.ofNat UInt8 (67 : Nat) (@UInt8.instOfNat (67 : Nat))), (@OfNat.ofNat UInt8 (53 : Nat) (@UInt8.instOfNat (53 : Nat))), (@OfNat.ofNat UInt8 (65 : Nat) (@UInt8.instOfNat (65 : Nat))), (@OfNat.ofNat UInt8 (69 : Nat) (@UInt8.instOfNat (69 : Nat))), (@OfNat.ofNat UInt8 (55 : Nat) (@UInt8.instOfNat (55 : Nat))), (@OfNat.ofNat UInt8 (49 : Nat) (@UInt8.instOfNat (49 : Nat))), (@OfNat.ofNat UInt8 (65 : Nat) (@UInt8.instOfNat (65 : Nat))), (@OfNat.ofNat UInt8 (68 : Nat) (@UInt8.instOfNat (68 : Nat))), (@OfNat.ofNat UInt8 (48 : Nat) (@UInt8.instOfNat (48 : Nat))), (@OfNat.ofNat UInt8 (54 : Nat) (@UInt8.instOfNat (54 : Nat))), (@OfNat.ofNat UInt8 (57 : Nat) (@UInt8.instOfNat (57 : Nat))), (@OfNat.ofNat UInt8 (56 : Nat) (@UInt8.instOfNat (56 : Nat))), (@OfNat.ofNat UInt8 (55 : Nat) (@UInt8.instOfNat (55 : Nat))), (@OfNat.ofNat UInt8 (52 : Nat) (@UInt8.instOfNat (52 : Nat))), (@OfNat.ofNat UInt8 (70 : Nat) (@UInt8.instOfNat (70 : Nat))), (@OfNat.ofNat UInt8 (69 : Nat) (@UInt8.instOfNat (69 : Nat))), (@OfNat.ofNat UInt8 (51 : Nat) (@UInt8.instOfNat (51 : Nat))), (@OfNat.ofNat UInt8 (66 : Nat) (@UInt8.instOfNat (66 : Nat))), (@OfNat.ofNat UInt8 (53 : Nat) (@UInt8.instOfNat (53 : Nat))), (@OfNat.ofNat UInt8 (50 : Nat) (@UInt8.instOfNat (50 : Nat))), (@OfNat.ofNat UInt8 (67 : Nat) (@UInt8.instOfNat (67 : Nat)))] : List (UInt8)) ([(@OfNat.ofNat UInt8 (55 : Nat) (@UInt8.instOfNat (55 : Nat))), (@OfNat.ofNat UInt8 (68 : Nat) (@UInt8.instOfNat (68 : Nat))), (@OfNat.ofNat UInt8 (69 : Nat) (@UInt8.instOfNat (69 : Nat))), (@OfNat.ofNat UInt8 (51 : Nat) (@UInt8.instOfNat (51 : Nat))), (@OfNat.ofNat UInt8 (48 : Nat) (@UInt8.instOfNat (48 : Nat))), (@OfNat.ofNat UInt8 (54 : Nat) (@UInt8.instOfNat (54 : Nat))), (@OfNat.ofNat UInt8 (57 : Nat) (@UInt8.instOfNat (57 : Nat))), (@OfNat.ofNat UInt8 (65 : Nat) (@UInt8.instOfNat (65 : Nat))), (@OfNat.ofNat UInt8 (49 : Nat) (@UInt8.instOfNat (49 : Nat))), (@OfNat.ofNat UInt8 (50 : Nat) (@UInt8.instOfNat (50 : Nat))), (@OfNat.ofNat UInt8 (56 : Nat) (@UInt8.instOfNat (56 : Nat))), (@OfNat.ofNat UInt8 (53 : Nat) (@UInt8.instOfNat (53 : Nat))), (@OfNat.ofNat UInt8 (66 : Nat) (@UInt8.instOfNat (66 : Nat))), (@OfNat.ofNat UInt8 (67 : Nat) (@UInt8.instOfNat (67 : Nat))), (@OfNat.ofNat UInt8 (52 : Nat) (@UInt8.instOfNat (52 : Nat))), (@OfNat.ofNat UInt8 (70 : Nat) (@UInt8.instOfNat (70 : Nat))), (@OfNat.ofNat UInt8 (68 : Nat) (@UInt8.instOfNat (68 : Nat))), (@OfNat.ofNat UInt8 (56 : Nat) (@UInt8.instOfNat (56 : Nat))), (@OfNat.ofNat UInt8 (66 : Nat) (@UInt8.instOfNat (66 : Nat))), (@OfNat.ofNat UInt8 (53 : Nat) (@UInt8.instOfNat (53 : Nat))), (@OfNat.ofNat UInt8 (54 : Nat) (@UInt8.instOfNat (54 : Nat))), (@OfNat.ofNat UInt8 (70 : Nat) (@UInt8.instOfNat (70 : Nat))), (@OfNat.ofNat UInt8 (48 : Nat) (@UInt8.instOfNat (48 : Nat))), (@OfNat.ofNat UInt8 (51 : Nat) (@UInt8.instOfNat (51 : Nat))), (@OfNat.ofNat UInt8 (52 : Nat) (@UInt8.instOfNat (52 : Nat))), (@OfNat.ofNat UInt8 (55 : Nat) (@UInt8.instOfNat (55 : Nat))), (@OfNat.ofNat UInt8 (50 : Nat) (@UInt8.instOfNat (50 : Nat))), (@OfNat.ofNat UInt8 (67 : Nat) (@UInt8.instOfNat (67 : Nat))), (@OfNat.ofNat UInt8 (49 : Nat) (@UInt8.instOfNat (49 : Nat))), (@OfNat.ofNat UInt8 (65 : Nat) (@UInt8.instOfNat (65 : Nat))), (@OfNat.ofNat UInt8 (69 : Nat) (@UInt8.instOfNat (69 : Nat))), (@OfNat.ofNat UInt8 (57 : Nat) (@UInt8.instOfNat (57 : Nat))), (@OfNat.ofNat UInt8 (65 : Nat) (@UInt8.instOfNat (65 : Nat))), (@OfNat.ofNat UInt8 (54 : Nat) (@UInt8.instOfNat (54 : Nat))), (@OfNat.ofNat UInt8 (57 : Nat) (@UInt8.instOfNat (57 : Nat))), (@OfNat.ofNat UInt8 (48 : Nat) (@UInt8.instOfNat (48 : Nat))), (@OfNat.ofNat UInt8 (67 : Nat) (@UInt8.instOfNat (67 : Nat))), (@OfNat.ofNat UInt8 (66 : Nat) (@UInt8.instOfNat (66 : Nat))), (@OfNat.ofNat UInt8 (55 : Nat) (@UInt8.instOfNat (55 : Nat))), (@OfNat.ofNat UInt8 (68 : Nat) (@UInt8.instOfNat (68 : Nat))), (@OfNat.ofNat UInt8 (70 : Nat) (@UInt8.instOfNat (70 : Nat))), (@OfNat.ofNat UInt8 (49 : Nat) (@UInt8.instOfNat (49 : Nat))), (@OfNat.ofNat UInt8 (51 : Nat) (@UInt8.instOfNat (51 : Nat))), (@OfNat.ofNat UInt8 (69 : Nat) (@UInt8.instOfNat (69 : Nat))), (@OfNat.ofNat UInt8 (53 : Nat) (@UInt8.instOfNat (53 : Nat))), (@OfNat.ofNat UInt8 (50 : Nat) (@UInt8.instOfNat (50 : Nat))), (@OfNat.ofNat UInt8 (56 : Nat) (@UInt8.instOfNat (56 : Nat))), (@OfNat.ofNat UInt8 (52 : Nat) (@UInt8.instOfNat (52 : Nat))), (@OfNat.ofNat UInt8 (51 : Nat) (@UInt8.instOfNat (51 : Nat))), (@OfNat.ofNat UInt8 (70 : Nat) (@UInt8.instOfNat (70 : Nat))), (@OfNat.ofNat UInt8 (48 : Nat) (@UInt8.instOfNat (48 : Nat))), (@OfNat.ofNat UInt8 (54 : Nat) (@UInt8.instOfNat (54 : Nat))), (@OfNat.ofNat UInt8 (65 : Nat) (@UInt8.instOfNat (65 : Nat))), (@OfNat.ofNat UInt8 (49 : Nat) (@UInt8.instOfNat (49 : Nat))), (@OfNat.ofNat UInt8 (68 : Nat) (@UInt8.instOfNat (68 : Nat))), (@OfNat.ofNat UInt8 (56 : Nat) (@UInt8.instOfNat (56 : Nat))), (@OfNat.ofNat UInt8 (57 : Nat) (@UInt8.instOfNat (57 : Nat))), (@OfNat.ofNat UInt8 (52 : Nat) (@UInt8.instOfNat (52 : Nat))), (@OfNat.ofNat UInt8 (53 : Nat) (@UInt8.instOfNat (53 : Nat))), (@OfNat.ofNat UInt8 (66 : Nat) (@UInt8.instOfNat (66 : Nat))), (@OfNat.ofNat UInt8 (67 : Nat) (@UInt8.instOfNat (67 : Nat))), (@OfNat.ofNat UInt8 (55 : Nat) (@UInt8.instOfNat (55 : Nat))), (@OfNat.ofNat UInt8 (50 : Nat) (@UInt8.instOfNat (50 : Nat))), (@OfNat.ofNat UInt8 (69 : Nat) (@UInt8.instOfNat (69 : Nat)))] : List (UInt8)))) (@List.append UInt8 (@List.append UInt8 ([(@OfNat.ofNat UInt8 (50 : Nat) (@UInt8.instOfNat (50 : Nat))), (@OfNat.ofNat UInt8 (67 : Nat) (@UInt8.instOfNat (67 : Nat))), (@OfNat.ofNat UInt8 (52 : Nat) (@UInt8.instOfNat (52 : Nat))), (@OfNat.ofNat UInt8 (49 : Nat) (@UInt8.instOfNat (49 : Nat))), (@OfNat.ofNat UInt8 (55 : Nat) (@UInt8.instOfNat (55 : Nat))), (@OfNat.ofNat UInt8 (65 : Nat) (@UInt8.instOfNat (65 : Nat))), (@OfNat.ofNat UInt8 (66 : Nat) (@UInt8.instOfNat (66 : Nat))), (@OfNat.ofNat UInt8 (54 : Nat) (@UInt8.instOfNat (54 : Nat))), (@OfNat.ofNat UInt8 (56 : Nat) (@UInt8.instOfNat (56 : Nat))), (@OfNat.ofNat UInt8 (53 : Nat) (@UInt8.instOfNat (53 : Nat))), (@OfNat.ofNat UInt8 (51 : Nat) (@UInt8.instOfNat (51 : Nat))), (@OfNat.ofNat UInt8 (70 : Nat) (@UInt8.instOfNat (70 : Nat))), (@OfNat.ofNat UInt8 (68 : Nat) (@UInt8.instOfNat (68 : Nat))), (@OfNat.ofNat UInt8 (48 : Nat) (@UInt8.instOfNat (48 : Nat))), (@OfNat.ofNat UInt8 (69 : Nat) (@UInt8.instOfNat (69 : Nat))), (@OfNat.ofNat UInt8 (57 : Nat) (@UInt8.instOfNat (57 : Nat))), (@OfNat.ofNat UInt8 (69 : Nat) (@UInt8.instOfNat (69 : Nat))), (@OfNat.ofNat UInt8 (66 : Nat) (@UInt8.instOfNat (66 : Nat))), (@OfNat.ofNat UInt8 (50 : Nat) (@UInt8.instOfNat (50 : Nat))), (@OfNat.ofNat UInt8 (67 : Nat) (@UInt8.instOfNat (67 : Nat))), (@OfNat.ofNat UInt8 (52 : Nat) (@UInt8.instOfNat (52 : Nat))), (@OfNat.ofNat UInt8 (55 : Nat) (@UInt8.instOfNat (55 : Nat))), (@OfNat.ofNat UInt8 (68 : Nat) (@UInt8.instOfNat (68 : Nat))), (@OfNat.ofNat UInt8 (49 : Nat) (@UInt8.instOfNat (49 : Nat))), (@OfNat.ofNat UInt8 (53 : Nat) (@UInt8.instOfNat (53 : Nat))), (@OfNat.ofNat UInt8 (48 : Nat) (@UInt8.instOfNat (48 : Nat))), (@OfNat.ofNat UInt8 (70 : Nat) (@UInt8.instOfNat (70 : Nat))), (@OfNat.ofNat UInt8 (65 : Nat) (@UInt8.instOfNat (65 : Nat))), (@OfNat.ofNat UInt8 (51 : Nat) (@UInt8.instOfNat (51 : Nat))), (@OfNat.ofNat UInt8 (57 : Nat) (@UInt8.instOfNat (57 : Nat))), (@OfNat.ofNat UInt8 (56 : Nat) (@UInt8.instOfNat (56 : Nat))), (@OfNat.ofNat UInt8 (54 : Nat) (@UInt8.instOfNat (54 : Nat))), (@OfNat.ofNat UInt8 (52 : Nat) (@UInt8.instOfNat (52 : Nat))), (@OfNat.ofNat UInt8 (50 : Nat) (@UInt8.instOfNat (50 : Nat))), (@OfNat.ofNat UInt8 (49 : Nat) (@UInt8.instOfNat (49 : Nat))), (@OfNat.ofNat UInt8 (66 : Nat) (@UInt8.instOfNat (66 : Nat))), (@OfNat.ofNat UInt8 (65 : Nat) (@UInt8.instOfNat (65 : Nat))), (@OfNat.ofNat UInt8 (68 : Nat) (@UInt8.instOfNat (68 : Nat))), (@OfNat.ofNat UInt8 (55 : Nat) (@UInt8.instOfNat (55 : Nat))), (@OfNat.ofNat UInt8 (56 : Nat) (@UInt8.instOfNat (56 : Nat))), (@OfNat.ofNat UInt8 (70 : Nat) (@UInt8.instOfNat (70 : Nat))), (@OfNat.ofNat UInt8 (57 : Nat) (@UInt8.instOfNat (57 : Nat))), (@OfNat.ofNat UInt8 (67 : Nat) (@UInt8.instOfNat (67 : Nat))), (@OfNat.ofNat UInt8 (53 : Nat) (@UInt8.instOfNat (53 : Nat))), (@OfNat.ofNat UInt8 (54 : Nat) (@UInt8.instOfNat (54 : Nat))), (@OfNat.ofNat UInt8 (51 : Nat) (@UInt8.instOfNat (51 : Nat))), (@OfNat.ofNat UInt8 (48 : Nat) (@UInt8.instOfNat (48 : Nat))), (@OfNat.ofNat UInt8 (69 : Nat) (@UInt8.instOfNat (69 : Nat))), (@OfNat.ofNat UInt8 (66 : Nat) (@UInt8.instOfNat (66 : Nat))), (@OfNat.ofNat UInt8 (56 : Nat) (@UInt8.instOfNat (56 : Nat))), (@OfNat.ofNat UInt8 (67 : Nat) (@UInt8.instOfNat (67 : Nat))), (@OfNat.ofNat UInt8 (55 : Nat) (@UInt8.instOfNat (55 : Nat))), (@OfNat.ofNat UInt8 (49 : Nat) (@UInt8.instOfNat (49 : Nat))), (@OfNat.ofNat UInt8 (69 : Nat) (@UInt8.instOfNat (69 : Nat))), (@OfNat.ofNat UInt8 (50 : Nat) (@UInt8.instOfNat (50 : Nat))), (@OfNat.ofNat UInt8 (68 : Nat) (@UInt8.instOfNat (68 : Nat))), (@OfNat.ofNat UInt8 (54 : Nat) (@UInt8.instOfNat (54 : Nat))), (@OfNat.ofNat UInt8 (70 : Nat) (@UInt8.instOfNat (70 : Nat))), (@OfNat.ofNat UInt8 (48 : Nat) (@UInt8.instOfNat (48 : Nat))), (@OfNat.ofNat UInt8 (57 : Nat) (@UInt8.instOfNat (57 : Nat))), (@OfNat.ofNat UInt8 (65 : Nat) (@UInt8.instOfNat (65 : Nat))), (@OfNat.ofNat UInt8 (52 : Nat) (@UInt8.instOfNat (52 : Nat))), (@OfNat.ofNat UInt8 (53 : Nat) (@UInt8.instOfNat (53 : Nat))), (@OfNat.ofNat UInt8 (51 : Nat) (@UInt8.instOfNat (51 : Nat)))] : List (UInt8)) ([(@OfNat.ofNat UInt8 (67 : Nat) (@UInt8.instOfNat (67 : Nat))), (@OfNat.ofNat UInt8 (49 : Nat) (@UInt8.instOfNat (49 : Nat))), (@OfNat.ofNat UInt8 (65 : Nat) (@UInt8.instOfNat (65 : Nat))), (@OfNat.ofNat UInt8 (70 : Nat) (@UInt8.instOfNat (70 : Nat))), (@OfNat.ofNat UInt8 (57 : Nat) (@UInt8.instOfNat (57 : Nat))), (@OfNat.ofNat UInt8 (50 : Nat) (@UInt8.instOfNat (50 : Nat))), (@OfNat.ofNat UInt8 (54 : Nat) (@UInt8.instOfNat (54 : Nat))), (@OfNat.ofNat UInt8 (56 : Nat) (@UInt8.instOfNat (56 : Nat))), (@OfNat.ofNat UInt8 (48 : Nat) (@UInt8.instOfNat (48 : Nat))), (@OfNat.ofNat UInt8 (68 : Nat) (@UInt8.instOfNat (68 : Nat))), (@OfNat.ofNat UInt8 (51 : Nat) (@UInt8.instOfNat (51 : Nat))), (@OfNat.ofNat UInt8 (52 : Nat) (@UInt8.instOfNat (52 : Nat))), (@OfNat.ofNat UInt8 (69 : Nat) (@UInt8.instOfNat (69 : Nat))), (@OfNat.ofNat UInt8 (55 : Nat) (@UInt8.instOfNat (55 : Nat))), (@OfNat.ofNat UInt8 (53 : Nat) (@UInt8.instOfNat (53 : Nat))), (@OfNat.ofNat UInt8 (66 : Nat) (@UInt8.instOfNat (66 : Nat))), (@OfNat.ofNat UInt8 (65 : Nat) (@UInt8.instOfNat (65 : Nat))), (@OfNat.ofNat UInt8 (70 : Nat) (@UInt8.instOfNat (70 : Nat))), (@OfNat.ofNat UInt8 (52 : Nat) (@UInt8.instOfNat (52 : Nat))), (@OfNat.ofNat UInt8 (50 : Nat) (@UInt8.instOfNat (50 : Nat))), (@OfNat.ofNat UInt8 (55 : Nat) (@UInt8.instOfNat (55 : Nat))), (@OfNat.ofNat UInt8 (67 : Nat) (@UInt8.instOfNat (67 : Nat))), (@OfNat.ofNat UInt8 (57 : Nat) (@UInt8.instOfNat (57 : Nat))), (@OfNat.ofNat UInt8 (53 : Nat) (@UInt8.instOfNat (53 : Nat))), (@OfNat.ofNat UInt8 (54 : Nat) (@UInt8.instOfNat (54 : Nat))), (@OfNat.ofNat UInt8 (49 : Nat) (@UInt8.instOfNat (49 : Nat))), (@OfNat.ofNat UInt8 (68 : Nat) (@UInt8.instOfNat (68 : Nat))), (@OfNat.ofNat UInt8 (69 : Nat) (@UInt8.instOfNat (69 : Nat))), (@OfNat.ofNat UInt8 (48 : Nat) (@UInt8.instOfNat (48 : Nat))), (@OfNat.ofNat UInt8 (66 : Nat) (@UInt8.instOfNat (66 : Nat))), (@OfNat.ofNat UInt8 (51 : Nat) (@UInt8.instOfNat (51 : Nat))), (@OfNat.ofNat UInt8 (56 : Nat) (@UInt8.instOfNat (56 : Nat))), (@OfNat.ofNat UInt8 (57 : Nat) (@UInt8.instOfNat (57 : Nat))), (@OfNat.ofNat UInt8 (69 : Nat) (@UInt8.instOfNat (69 : Nat))), (@OfNat.ofNat UInt8 (70 : Nat) (@UInt8.instOfNat (70 : Nat))), (@OfNat.ofNat UInt8 (53 : Nat) (@UInt8.instOfNat (53 : Nat))), (@OfNat.ofNat UInt8 (50 : Nat) (@UInt8.instOfNat (50 : Nat))), (@OfNat.ofNat UInt8 (56 : Nat) (@UInt8.instOfNat (56 : Nat))), (@OfNat.ofNat UInt8 (67 : Nat) (@UInt8.instOfNat (67 : Nat))), (@OfNat.ofNat UInt8 (51 : Nat) (@UInt8.instOfNat (51 : Nat))), (@OfNat.ofNat UInt8 (55 : Nat) (@UInt8.instOfNat (55 : Nat))), (@OfNat.ofNat UInt8 (48 : Nat) (@UInt8.instOfNat (48 : Nat))), (@OfNat.ofNat UInt8 (52 : Nat) (@UInt8.instOfNat (52 : Nat))), (@OfNat.ofNat UInt8 (65 : Nat) (@UInt8.instOfNat (65 : Nat))), (@OfNat.ofNat UInt8 (49 : Nat) (@UInt8.instOfNat (49 : Nat))), (@OfNat.ofNat UInt8 (68 : Nat) (@UInt8.instOfNat (68 : Nat))), (@OfNat.ofNat UInt8 (66 : Nat) (@UInt8.instOfNat (66 : Nat))), (@OfNat.ofNat UInt8 (54 : Nat) (@UInt8.instOfNat (54 : Nat))), (@OfNat.ofNat UInt8 (52 : Nat) (@UInt8.instOfNat (52 : Nat))), (@OfNat.ofNat UInt8 (51 : Nat) (@UInt8.instOfNat (51 : Nat))), (@OfNat.ofNat UInt8 (50 : Nat) (@UInt8.instOfNat (50 : Nat))), (@OfNat.ofNat UInt8 (67 : Nat) (@UInt8.instOfNat (67 : Nat))), (@OfNat.ofNat UInt8 (57 : Nat) (@UInt8.instOfNat (57 : Nat))), (@OfNat.ofNat UInt8 (53 : Nat) (@UInt8.instOfNat (53 : Nat))), (@OfNat.ofNat UInt8 (70 : Nat) (@UInt8.instOfNat (70 : Nat))), (@OfNat.ofNat UInt8 (65 : Nat) (@UInt8.instOfNat (65 : Nat))), (@OfNat.ofNat UInt8 (66 : Nat) (@UInt8.instOfNat (66 : Nat))), (@OfNat.ofNat UInt8 (69 : Nat) (@UInt8.instOfNat (69 : Nat))), (@OfNat.ofNat UInt8 (49 : Nat) (@UInt8.instOfNat (49 : Nat))), (@OfNat.ofNat UInt8 (55 : Nat) (@UInt8.instOfNat (55 : Nat))), (@OfNat.ofNat UInt8 (54 : Nat) (@UInt8.instOfNat (54 : Nat))), (@OfNat.ofNat UInt8 (48 : Nat) (@UInt8.instOfNat (48 : Nat))), (@OfNat.ofNat UInt8 (56 : Nat) (@UInt8.instOfNat (56 : Nat))), (@OfNat.ofNat UInt8 (68 : Nat) (@UInt8.instOfNat (68 : Nat)))] : List (UInt8))) (@List.append UInt8 ([(@OfNat.ofNat UInt8 (52 : Nat) (@UInt8.instOfNat (52 : Nat))), (@OfNat.ofNat UInt8 (66 : Nat) (@UInt8.instOfNat (66 : Nat))), (@OfNat.ofNat UInt8 (50 : Nat) (@UInt8.instOfNat (50 : Nat))), (@OfNat.ofNat UInt8 (69 : Nat) (@UInt8.instOfNat (69 : Nat))), (@OfNat.ofNat UInt8 (70 : Nat) (@UInt8.instOfNat (70 : Nat))), (@OfNat.ofNat UInt8 (48 : Nat) (@UInt8.instOfNat (48 : Nat))), (@OfNat.ofNat UInt8 (56 : Nat) (@UInt8.instOfNat (56 : Nat))), (@OfNat.ofNat UInt8 (68 : Nat) (@UInt8.instOfNat (68 : Nat))), (@OfNat.ofNat UInt8 (51 : Nat) (@UInt8.instOfNat (51 : Nat))), (@OfNat.ofNat UInt8 (67 : Nat) (@UInt8.instOfNat (67 : Nat))), (@OfNat.ofNat UInt8 (57 : Nat) (@UInt8.instOfNat (57 : Nat))), (@OfNat.ofNat UInt8 (55 : Nat) (@UInt8.instOfNat (55 : Nat))), (@OfNat.ofNat UInt8 (53 : Nat) (@UInt8.instOfNat (53 : Nat))), (@OfNat.ofNat UInt8 (65 : Nat) (@UInt8.instOfNat (65 : Nat))), (@OfNat.ofNat UInt8 (54 : Nat) (@UInt8.instOfNat (54 : Nat))), (@OfNat.ofNat UInt8 (49 : Nat) (@UInt8.instOfNat (49 : Nat))), (@OfNat.ofNat UInt8 (68 : Nat) (@UInt8.instOfNat (68 : Nat))), (@OfNat.ofNat UInt8 (48 : Nat) (@UInt8.instOfNat (48 : Nat))), (@OfNat.ofNat UInt8 (66 : Nat) (@UInt8.instOfNat (66 : Nat))), (@OfNat.ofNat UInt8 (55 : Nat) (@UInt8.instOfNat (55 : Nat))), (@OfNat.ofNat UInt8 (52 : Nat) (@UInt8.instOfNat (52 : Nat))), (@OfNat.ofNat UInt8 (57 : Nat) (@UInt8.instOfNat (57 : Nat))), (@OfNat.ofNat UInt8 (49 : Nat) (@UInt8.instOfNat (49 : Nat))), (@OfNat.ofNat UInt8 (65 : Nat) (@UInt8.instOfNat (65 : Nat))), (@OfNat.ofNat UInt8 (69 : Nat) (@UInt8.instOfNat (69 : Nat))), (@OfNat.ofNat UInt8 (51 : Nat) (@UInt8.instOfNat (51 : Nat))), (@OfNat.ofNat UInt8 (53 : Nat) (@UInt8.instOfNat (53 : Nat))), (@OfNat.ofNat UInt8 (67 : Nat) (@UInt8.instOfNat (67 : Nat))), (@OfNat.ofNat UInt8 (50 : Nat) (@UInt8.instOfNat (50 : Nat))), (@OfNat.ofNat UInt8 (70 : Nat) (@UInt8.instOfNat (70 : Nat))), (@OfNat.ofNat UInt8 (56 : Nat) (@UInt8.instOfNat (56 : Nat))), (@OfNat.ofNat UInt8 (54 : Nat) (@UInt8.instOfNat (54 : Nat))), (@OfNat.ofNat UInt8 (49 : Nat) (@UInt8.instOfNat (49 : Nat))), (@OfNat.ofNat UInt8 (52 : Nat) (@UInt8.instOfNat (52 : Nat))), (@OfNat.ofNat UInt8 (66 : Nat) (@UInt8.instOfNat (66 : Nat))), (@OfNat.ofNat UInt8 (68 : Nat) (@UInt8.instOfNat (68 : Nat))), (@OfNat.ofNat UInt8 (67 : Nat) (@UInt8.instOfNat (67 : Nat))), (@OfNat.ofNat UInt8 (51 : Nat) (@UInt8.instOfNat (51 : Nat))), (@OfNat.ofNat UInt8 (55 : Nat) (@UInt8.instOfNat (55 : Nat))), (@OfNat.ofNat UInt8 (69 : Nat) (@UInt8.instOfNat (69 : Nat))), (@OfNat.ofNat UInt8 (65 : Nat) (@UInt8.instOfNat (65 : Nat))), (@OfNat.ofNat UInt8 (70 : Nat) (@UInt8.instOfNat (70 : Nat))), (@OfNat.ofNat UInt8 (54 : Nat) (@UInt8.instOfNat (54 : Nat))), (@OfNat.ofNat UInt8 (56 : Nat) (@UInt8.instOfNat (56 : Nat))), (@OfNat.ofNat UInt8 (48 : Nat) (@UInt8.instOfNat (48 : Nat))), (@OfNat.ofNat UInt8 (53 : Nat) (@UInt8.instOfNat (53 : Nat))), (@OfNat.ofNat UInt8 (57 : Nat) (@UInt8.instOfNat (57 : Nat))), (@OfNat.ofNat UInt8 (50 : Nat) (@UInt8.instOfNat (50 : Nat))), (@OfNat.ofNat UInt8 (54 : Nat) (@UInt8.instOfNat (54 : Nat))), (@OfNat.ofNat UInt8 (66 : Nat) (@UInt8.instOfNat (66 : Nat))), (@OfNat.ofNat UInt8 (68 : Nat) (@UInt8.instOfNat (68 : Nat))), (@OfNat.ofNat UInt8 (56 : Nat) (@UInt8.instOfNat (56 : Nat))), (@OfNat.ofNat UInt8 (49 : Nat) (@UInt8.instOfNat (49 : Nat))), (@OfNat.ofNat UInt8 (52 : Nat) (@UInt8.instOfNat (52 : Nat))), (@OfNat.ofNat UInt8 (65 : Nat) (@UInt8.instOfNat (65 : Nat))), (@OfNat.ofNat UInt8 (55 : Nat) (@UInt8.instOfNat (55 : Nat))), (@OfNat.ofNat UInt8 (57 : Nat) (@UInt8.instOfNat (57 : Nat))), (@OfNat.ofNat UInt8 (53 : Nat) (@UInt8.instOfNat (53 : Nat))), (@OfNat.ofNat UInt8 (48 : Nat) (@UInt8.instOfNat (48 : Nat))), (@OfNat.ofNat UInt8 (70 : Nat) (@UInt8.instOfNat (70 : Nat))), (@OfNat.ofNat UInt8 (69 : Nat) (@UInt8.instOfNat (69 : Nat))), (@OfNat.ofNat UInt8 (50 : Nat) (@UInt8.instOfNat (50 : Nat))), (@OfNat.ofNat UInt8 (51 : Nat) (@UInt8.instOfNat (51 : Nat))), (@OfNat.ofNat UInt8 (67 : Nat) (@UInt8.instOfNat (67 : Nat)))] : List (UInt8)) ([(@OfNat.ofNat UInt8 (68 : Nat) (@UInt8.instOfNat (68 : Nat))), (@OfNat.ofNat UInt8 (50 : Nat) (@UInt8.instOfNat (50 : Nat))), (@OfNat.ofNat UInt8 (56 : Nat) (@UInt8.instOfNat (56 : Nat))), (@OfNat.ofNat UInt8 (52 : Nat) (@UInt8.instOfNat (52 : Nat))), (@OfNat.ofNat UInt8 (54 : Nat) (@UInt8.instOfNat (54 : Nat))), (@OfNat.ofNat UInt8 (70 : Nat) (@UInt8.instOfNat (70 : Nat))), (@OfNat.ofNat UInt8 (66 : Nat) (@UInt8.instOfNat (66 : Nat))), (@OfNat.ofNat UInt8 (49 : Nat) (@UInt8.instOfNat (49 : Nat))), (@OfNat.ofNat UInt8 (65 : Nat) (@UInt8.instOfNat (65 : Nat))), (@OfNat.ofNat UInt8 (57 : Nat) (@UInt8.instOfNat (57 : Nat))), (@OfNat.ofNat UInt8 (51 : Nat) (@UInt8.instOfNat (51 : Nat))), (@OfNat.ofNat UInt8 (69 : Nat) (@UInt8.instOfNat (69 : Nat))), (@OfNat.ofNat UInt8 (53 : Nat) (@UInt8.instOfNat (53 : Nat))), (@OfNat.ofNat UInt8 (48 : Nat) (@UInt8.instOfNat (48 : Nat))), (@OfNat.ofNat UInt8 (67 : Nat) (@UInt8.instOfNat (67 : Nat))), (@OfNat.ofNat UInt8 (55 : Nat) (@UInt8.instOfNat (55 : Nat))), (@OfNat.ofNat UInt8 (49 : Nat) (@UInt8.instOfNat (49 : Nat))), (@OfNat.ofNat UInt8 (70 : Nat) (@UInt8.instOfNat (70 : Nat))), (@OfNat.ofNat UInt8 (68 : Nat) (@UInt8.instOfNat (68 : Nat))), (@OfNat.ofNat UInt8 (56 : Nat) (@UInt8.instOfNat (56 : Nat))), (@OfNat.ofNat UInt8 (65 : Nat) (@UInt8.instOfNat (65 : Nat))), (@OfNat.ofNat UInt8 (51 : Nat) (@UInt8.instOfNat (51 : Nat))), (@OfNat.ofNat UInt8 (55 : Nat) (@UInt8.instOfNat (55 : Nat))), (@OfNat.ofNat UInt8 (52 : Nat) (@UInt8.instOfNat (52 : Nat))), (@OfNat.ofNat UInt8 (67 : Nat) (@UInt8.instOfNat (67 : Nat))), (@OfNat.ofNat UInt8 (53 : Nat) (@UInt8.instOfNat (53 : Nat))), (@OfNat.ofNat UInt8 (54 : Nat) (@UInt8.instOfNat (54 : Nat))), (@OfNat.ofNat UInt8 (66 : Nat) (@UInt8.instOfNat (66 : Nat))), (@OfNat.ofNat UInt8 (48 : Nat) (@UInt8.instOfNat (48 : Nat))), (@OfNat.ofNat UInt8 (69 : Nat) (@UInt8.instOfNat (69 : Nat))), (@OfNat.ofNat UInt8 (57 : Nat) (@UInt8.instOfNat (57 : Nat))), (@OfNat.ofNat UInt8 (50 : Nat) (@UInt8.instOfNat (50 : Nat))), (@OfNat.ofNat UInt8 (55 : Nat) (@UInt8.instOfNat (55 : Nat))), (@OfNat.ofNat UInt8 (66 : Nat) (@UInt8.instOfNat (66 : Nat))), (@OfNat.ofNat UInt8 (52 : Nat) (@UInt8.instOfNat (52 : Nat))), (@OfNat.ofNat UInt8 (49 : Nat) (@UInt8.instOfNat (49 : Nat))), (@OfNat.ofNat UInt8 (57 : Nat) (@UInt8.instOfNat (57 : Nat))), (@OfNat.ofNat UInt8 (67 : Nat) (@UInt8.instOfNat (67 : Nat))), (@OfNat.ofNat UInt8 (69 : Nat) (@UInt8.instOfNat (69 : Nat))), (@OfNat.ofNat UInt8 (50 : Nat) (@UInt8.instOfNat (50 : Nat))), (@OfNat.ofNat UInt8 (48 : Nat) (@UInt8.instOfNat (48 : Nat))), (@OfNat.ofNat UInt8 (54 : Nat) (@UInt8.instOfNat (54 : Nat))), (@OfNat.ofNat UInt8 (65 : Nat) (@UInt8.instOfNat (65 : Nat))), (@OfNat.ofNat UInt8 (68 : Nat) (@UInt8.instOfNat (68 : Nat))), (@OfNat.ofNat UInt8 (70 : Nat) (@UInt8.instOfNat (70 : Nat))), (@OfNat.ofNat UInt8 (51 : Nat) (@UInt8.instOfNat (51 : Nat))), (@OfNat.ofNat UInt8 (53 : Nat) (@UInt8.instOfNat (53 : Nat))), (@OfNat.ofNat UInt8 (56 : Nat) (@UInt8.instOfNat (56 : Nat))), (@OfNat.ofNat UInt8 (50 : Nat) (@UInt8.instOfNat (50 : Nat))), (@OfNat.ofNat UInt8 (49 : Nat) (@UInt8.instOfNat (49 : Nat))), (@OfNat.ofNat UInt8 (69 : Nat) (@UInt8.instOfNat (69 : Nat))), (@OfNat.ofNat UInt8 (55 : Nat) (@UInt8.instOfNat (55 : Nat))), (@OfNat.ofNat UInt8 (52 : Nat) (@UInt8.instOfNat (52 : Nat))), (@OfNat.ofNat UInt8 (65 : Nat) (@UInt8.instOfNat (65 : Nat))), (@OfNat.ofNat UInt8 (56 : Nat) (@UInt8.instOfNat (56 : Nat))), (@OfNat.ofNat UInt8 (68 : Nat) (@UInt8.instOfNat (68 : Nat))), (@OfNat.ofNat UInt8 (70 : Nat) (@UInt8.instOfNat (70 : Nat))), (@OfNat.ofNat UInt8 (67 : Nat) (@UInt8.instOfNat (67 : Nat))), (@OfNat.ofNat UInt8 (57 : Nat) (@UInt8.instOfNat (57 : Nat))), (@OfNat.ofNat UInt8 (48 : Nat) (@UInt8.instOfNat (48 : Nat))), (@OfNat.ofNat UInt8 (51 : Nat) (@UInt8.instOfNat (51 : Nat))), (@OfNat.ofNat UInt8 (53 : Nat) (@UInt8.instOfNat (53 : Nat))), (@OfNat.ofNat UInt8 (54 : Nat) (@UInt8.instOfNat (54 : Nat))), (@OfNat.ofNat UInt8 (66 : Nat) (@UInt8.instOfNat (66 : Nat)))] : List (UInt8))))))) (Go.IntKind.wrap .u64 ((Go.IntKind.wrap .u64 ((Go.IntKind.wrap .u64 ((64 : Int) * (Go.IntKind.wrap .u64 (Go.IntKind.wrap .i64 (n0 - (1 : Int)))))) + (Go.IntKind.wrap .u64 ((16 : Int) * (@Go.bits @Go.BinOp.or @Go.IntKind.u64 (@Go.bits @Go.BinOp.and @Go.IntKind.u64 (@Int.fdiv six1 (@HPow.hPow Int Nat Int (@instHPow Int Nat (@instPowNat Int @Int.instNatPow)) (2 : Int) (@Min.min Nat @instMinNat (Int.toNat (4 : Int)) (@Go.IntKind.bits @Go.IntKind.u64)))) (2 : Int)) (@Go.bits @Go.BinOp.and @Go.IntKind.u64 six1 (1 : Int))))))) + (@Go.bits @Go.BinOp.and @Go.IntKind.u64 (@Int.fdiv six1 (@HPow.hPow Int Nat Int (@instHPow Int Nat (@instPowNat Int @Int.instNatPow)) (2 : Int) (@Min.min Nat @instMinNat (Int.toNat (1 : Int)) (@Go.IntKind.bits @Go.IntKind.u64)))) (15 : Int))))) fun (v3 : UInt8) =>
   some ((Go.IntKind.wrap .u64 (@idxB (@Array.toList UInt8 (@List.toArray UInt8 ([(@OfNat.ofNat UInt8 (48 : Nat) (@UInt8.instOfNat (48 : Nat))), (@OfNat.ofNat UInt8 (49 : Nat) (@UInt8.instOfNat (49 : Nat))), (@OfNat.ofNat UInt8 (50 : Nat) (@UInt8.instOfNat (50 : Nat))), (@OfNat.ofNat UInt8 (51 : Nat) (@UInt8.instOfNat (51 : Nat))), (@OfNat.ofNat UInt8 (52 : Nat) (@UInt8.instOfNat (52 : Nat))), (@OfNat.ofNat UInt8 (53 : Nat) (@UInt8.instOfNat (53 : Nat))), (@OfNat.ofNat UInt8 (54 : Nat) (@UInt8.instOfNat (54 : Nat))), (@OfNat.ofNat UInt8 (55 : Nat) (@UInt8.instOfNat (55 : Nat))), (@OfNat.ofNat UInt8 (56 : Nat) (@UInt8.instOfNat (56 : Nat))), (@OfNat.ofNat UInt8 (57 : Nat) (@UInt8.instOfNat (57 : Nat))), (@OfNat.ofNat UInt8 (65 : Nat) (@UInt8.instOfNat (65 : Nat))), (@OfNat.ofNat UInt8 (66 : Nat) (@UInt8.instOfNat (66 : Nat))), (@OfNat.ofNat UInt8 (67 : Nat) (@UInt8.instOfNat (67 : Nat))), (@OfNat.ofNat UInt8 (68 : Nat) (@UInt8.instOfNat (68 : Nat))), (@OfNat.ofNat UInt8 (69 : Nat) (@UInt8.instOfNat (69 : Nat))), (@OfNat.ofNat UInt8 (70 : Nat) (@UInt8.instOfNat (70 : Nat)))] : List (UInt8)))) (((@UInt8.toNat v3) : Nat) : Int))))
theorem des_Box_S (N : Nat) (n0 : Int) (six1 : Int) : (runK Go.Proofs.Tryd.prog (Ev82 N) 400 79 [(.int .i64), (.int .u64)] [(.int .u64)] (n0, six1, ())).run = des_Box N n0 six1 := by kernel_rfl
theorem des_Box_C (N : Nat) (n0 : Int) (six1 : Int) (y : Int) (h : des_Box N n0 six1 = some y) : CallsK Go.Proofs.Tryd.prog 79 (valA [(.int .i64), (.int .u64)] (n0, six1, ())) (tupV (valR [(.int .u64)] y)) := runK_ok hmx (Ev82_ok N _) (okFn_ok (by kernel_rfl)) (by rw [des_Box_S]; exact h)
noncomputable def Ev83 (N : Nat) : (R : Type) → Env R := Env.addFn (Ev82 N) 79 (fun R => fnK [(.int .i64), (.int .u64)] [(.int .u64)] (fun c => des_Box N c.1 c.2.1))
theorem Ev83_ok (N : Nat) (R : Type) : EnvOK Go.Proofs.Tryd.prog (Ev83 N R) := EnvOK.addFn hmx (Ev82_ok N R) (Ev82_ok N _) (by kernel_rfl) (fun c => des_Box_S N c.1 c.2.1)
noncomputable def Ev84 (N : Nat) : (R : Type) → Env R := Env.addMv (Ev83 N) [(72, 8), (72, 10)]
theorem Ev84_ok (N : Nat) (R : Type) : EnvOK Go.Proofs.Tryd.prog (Ev84 N R) := EnvOK.addMv (Ev83_ok N R) [(72, 8), (72, 10)]
noncomputable def des_ofKeys_8_des_falling_L2_I : LI := ⟨21, 1, [(0, 3)], ⟨[(0, .lit (.own 1)), (1, .ty (.int .i64)), (8, .ty (.int .i64)), (9, .ty (.int .i64))], [.dead, .own (.int .i64) 3]⟩, [(.exit 0, ⟨[(0, .lit (.own 1))], [.dead, .own (.int .i64) 3]⟩)]⟩
noncomputable def des_ofKeys_8_des_falling_L2 (N : Nat) (X : (((Int) × ((Int) × ((Int) × Unit))) × ((List (Int)) × Unit)) → Option ((Unit × ((List (Int)) × Unit)))) (x1 : Int) (x8 : Int) (x9 : Int) (h0 : List (Int)) : Option ((Unit × ((List (Int)) × Unit))) :=
 bif (decide (x9 < x8)) then
  bif (roomB ((List.length h0) + (List.length ([(Go.IntKind.wrap .i64 (x1 - (Go.IntKind.wrap .i64 ((8 : Int) * x9))))] : List (Int)))) 8) then
   (X ((x1, (x8, ((Go.IntKind.wrap .i64 (x9 + (1 : Int))), @Unit.unit))), ((h0 ++ ([(Go.IntKind.wrap .i64 (x1 - (Go.IntKind.wrap .i64 ((8 : Int) * x9))))] : List (Int))), @Unit.unit)))
  else
   none
 else
  some ((@Unit.unit, (h0, @Unit.unit)))
noncomputable def des_ofKeys_8_des_falling_L2_R (N : Nat) (c : (((Int) × ((Int) × ((Int) × Unit))) × ((List (Int)) × Unit))) : Option ((Unit × ((List (Int)) × Unit))) := gl (fun X c => des_ofKeys_8_des_falling_L2 N X c.1.1 c.1.2.1 c.1.2.2.1 c.2.1) N c
theorem des_ofKeys_8_des_falling_L2_S (N : Nat) (X : (((Int) × ((Int) × ((Int) × Unit))) × ((List (Int)) × Unit)) → Option ((Unit × ((List (Int)) × Unit)))) (x1 : Int) (x8 : Int) (x9 : Int) (h0 : List (Int)) : (roundK Go.Proofs.Tryd.prog (Ev84 N) 400 [78, 8, 72] des_ofKeys_8_des_falling_L2_I (loopAt Go.Proofs.Tryd.prog [78, 8, 72] 2) X ((x1, x8, x9, ()), (h0, ()))).run = des_ofKeys_8_des_falling_L2 N X x1 x8 x9 h0 := by kernel_rfl
noncomputable def Ev85 (N : Nat) : (R : Type) → Env R := Env.addLp (Ev84 N) [78, 8, 72] 1 2 (fun R => lpK Go.Proofs.Tryd.prog des_ofKeys_8_des_falling_L2_I (fun X c => des_ofKeys_8_des_falling_L2 N X c.1.1 c.1.2.1 c.1.2.2.1 c.2.1) N)
theorem Ev85_ok (N : Nat) (R : Type) : EnvOK Go.Proofs.Tryd.prog (Ev85 N R) := EnvOK.addLp (Ev84_ok N R) (by kernel_rfl) (lpK_ok (li := des_ofKeys_8_des_falling_L2_I) (G := fun X c => des_ofKeys_8_des_falling_L2 N X c.1.1 c.1.2.1 c.1.2.2.1 c.2.1) hmx (Ev84_ok N _) (by kernel_rfl) loopAt_sub (fun (X : CT des_ofKeys_8_des_falling_L2_I.sh → Option (OT des_ofKeys_8_des_falling_L2_I.outs)) (c : CT des_ofKeys_8_des_falling_L2_I.sh) => des_ofKeys_8_des_falling_L2_S N X c.1.1 c.1.2.1 c.1.2.2.1 c.2.1) N)
noncomputable def des_ofKeys_L6_I : LI := ⟨28, 0, [], ⟨[(1, .lit (.own 0)), (3, .adr (.arr 4 (.int .i64))), (8, .ty (.arr 2 (.arr 4 (.int .i64)))), (9, .ty (.int .i64)), (12, .ty (.sl (.int .i64))), (13, .ty (.int .i64)), (14, .ty (.int .i64))], [.own (.int .i64) 3]⟩, [(.exit 2, ⟨[(1, .lit (.own 0)), (3, .adr (.arr 4 (.int .i64))), (8, .ty (.arr 2 (.arr 4 (.int .i64)))), (9, .ty (.int .i64))], [.own (.int .i64) 3]⟩)]⟩
noncomputable def des_ofKeys_L6 (N : Nat) (X : (((Arr (Int) 4) × ((Arr (Arr (Int) 4) 2) × ((Int) × ((List (Int)) × ((Int) × ((Int) × Unit)))))) × ((List (Int)) × Unit)) → Option ((((Arr (Int) 4) × ((Arr (Arr (Int) 4) 2) × ((Int) × Unit))) × ((List (Int)) × Unit)))) (half3 : Arr (Int) 4) (x8 : Arr (Arr (Int) 4) 2) (x9 : Int) (x12 : List (Int)) (x13 : Int) (x14 : Int) (h0 : List (Int)) : Option ((((Arr (Int) 4) × ((Arr (Arr (Int) 4) 2) × ((Int) × Unit))) × ((List (Int)) × Unit))) :=
 bif (decide (x14 < x13)) then
  Option.bind (getI x12 x14) fun (v9 : Int) =>
  Option.bind (des_ofKeys_8_des_falling_L2_R N ((v9, ((8 : Int), ((0 : Int), @Unit.unit))), (h0, @Unit.unit))) fun (v10 : (Unit × ((List Int) × Unit))) =>
  (X ((half3, (x8, (x9, (x12, (x13, ((Go.IntKind.wrap .i64 (x14 + (1 : Int))), @Unit.unit)))))), (v10.2.1, @Unit.unit)))
 else
  some (((half3, (x8, (x9, @Unit.unit))), (h0, @Unit.unit)))
noncomputable def des_ofKeys_L6_R (N : Nat) (c : (((Arr (Int) 4) × ((Arr (Arr (Int) 4) 2) × ((Int) × ((List (Int)) × ((Int) × ((Int) × Unit)))))) × ((List (Int)) × Unit))) : Option ((((Arr (Int) 4) × ((Arr (Arr (Int) 4) 2) × ((Int) × Unit))) × ((List (Int)) × Unit))) := gl (fun X c => des_ofKeys_L6 N X c.1.1 c.1.2.1 c.1.2.2.1 c.1.2.2.2.1 c.1.2.2.2.2.1 c.1.2.2.2.2.2.1 c.2.1) N c
theorem des_ofKeys_L6_S (N : Nat) (X : (((Arr (Int) 4) × ((Arr (Arr (Int) 4) 2) × ((Int) × ((List (Int)) × ((Int) × ((Int) × Unit)))))) × ((List (Int)) × Unit)) → Option ((((Arr (Int) 4) × ((Arr (Arr (Int) 4) 2) × ((Int) × Unit))) × ((List (Int)) × Unit)))) (half3 : Arr (Int) 4) (x8 : Arr (Arr (Int) 4) 2) (x9 : Int) (x12 : List (Int)) (x13 : Int) (x14 : Int) (h0 : List (Int)) : (roundK Go.Proofs.Tryd.prog (Ev85 N) 400 [72] des_ofKeys_L6_I (loopAt Go.Proofs.Tryd.prog [72] 6) X ((half3, x8, x9, x12, x13, x14, ()), (h0, ()))).run = des_ofKeys_L6 N X half3 x8 x9 x12 x13 x14 h0 := by kernel_rfl
noncomputable def Ev86 (N : Nat) : (R : Type) → Env R := Env.addLp (Ev85 N) [72] 0 6 (fun R => lpK Go.Proofs.Tryd.prog des_ofKeys_L6_I (fun X c => des_ofKeys_L6 N X c.1.1 c.1.2.1 c.1.2.2.1 c.1.2.2.2.1 c.1.2.2.2.2.1 c.1.2.2.2.2.2.1 c.2.1) N)
theorem Ev86_ok (N : Nat) (R : Type) : EnvOK Go.Proofs.Tryd.prog (Ev86 N R) := EnvOK.addLp (Ev85_ok N R) (by kernel_rfl) (lpK_ok (li := des_ofKeys_L6_I) (G := fun X c => des_ofKeys_L6 N X c.1.1 c.1.2.1 c.1.2.2.1 c.1.2.2.2.1 c.1.2.2.2.2.1 c.1.2.2.2.2.2.1 c.2.1) hmx (Ev85_ok N _) (by kernel_rfl) loopAt_sub (fun (X : CT des_ofKeys_L6_I.sh → Option (OT des_ofKeys_L6_I.outs)) (c : CT des_ofKeys_L6_I.sh) => des_ofKeys_L6_S N X c.1.1 c.1.2.1 c.1.2.2.1 c.1.2.2.2.1 c.1.2.2.2.2.1 c.1.2.2.2.2.2.1 c.2.1) N)
noncomputable def des_ofKeys_10_des_falling_L2_I : LI := ⟨21, 1, [(0, 3)], ⟨[(0, .lit (.own 1)), (1, .ty (.int .i64)), (8, .ty (.int .i64)), (9, .ty (.int .i64))], [.dead, .own (.int .i64) 3]⟩, [(.exit 0, ⟨[(0, .lit (.own 1))], [.dead, .own (.int .i64) 3]⟩)]⟩
noncomputable def des_ofKeys_10_des_falling_L2 (N : Nat) (X : (((Int) × ((Int) × ((Int) × Unit))) × ((List (Int)) × Unit)) → Option ((Unit × ((List (Int)) × Unit)))) (x1 : Int) (x8 : Int) (x9 : Int) (h0 : List (Int)) : Option ((Unit × ((List (Int)) × Unit))) :=
 bif (decide (x9 < x8)) then
  bif (roomB ((List.length h0) + (List.length ([(Go.IntKind.wrap .i64 (x1 - (Go.IntKind.wrap .i64 ((8 : Int) * x9))))] : List (Int)))) 8) then
   (X ((x1, (x8, ((Go.IntKind.wrap .i64 (x9 + (1 : Int))), @Unit.unit))), ((h0 ++ ([(Go.IntKind.wrap .i64 (x1 - (Go.IntKind.wrap .i64 ((8 : Int) * x9))))] : List (Int))), @Unit.unit)))
  else
   none
 else
  some ((@Unit.unit, (h0, @Unit.unit)))
noncomputable def des_ofKeys_10_des_falling_L2_R (N : Nat) (c : (((Int) × ((Int) × ((Int) × Unit))) × ((List (Int)) × Unit))) : Option ((Unit × ((List (Int)) × Unit))) := gl (fun X c => des_ofKeys_10_des_falling_L2 N X c.1.1 c.1.2.1 c.1.2.2.1 c.2.1) N c
theorem des_ofKeys_10_des_falling_L2_S (N : Nat) (X : (((Int) × ((Int) × ((Int) × Unit))) × ((List (Int)) × Unit)) → Option ((Unit × ((List (Int)) × Unit)))) (x1 : Int) (x8 : Int) (x9 : Int) (h0 : List (Int)) : (roundK Go.Proofs.Tryd.prog (Ev86 N) 400 [78, 10, 72] des_ofKeys_10_des_falling_L2_I (loopAt Go.Proofs.Tryd.prog [78, 10, 72] 2) X ((x1, x8, x9, ()), (h0, ()))).run = des_ofKeys_10_des_falling_L2 N X x1 x8 x9 h0 := by kernel_rfl
noncomputable def Ev87 (N : Nat) : (R : Type) → Env R := Env.addLp (Ev86 N) [78, 10, 72] 1 2 (fun R => lpK Go.Proofs.Tryd.prog des_ofKeys_10_des_falling_L2_I (fun X c => des_ofKeys_10_des_falling_L2 N X c.1.1 c.1.2.1 c.1.2.2.1 c.2.1) N)
theorem Ev87_ok (N : Nat) (R : Type) : EnvOK Go.Proofs.Tryd.prog (Ev87 N R) := EnvOK.addLp (Ev86_ok N R) (by kernel_rfl) (lpK_ok (li := des_ofKeys_10_des_falling_L2_I) (G := fun X c => des_ofKeys_10_des_falling_L2 N X c.1.1 c.1.2.1 c.1.2.2.1 c.2.1) hmx (Ev86_ok N _) (by kernel_rfl) loopAt_sub (fun (X : CT des_ofKeys_10_des_falling_L2_I.sh → Option (OT des_ofKeys_10_des_falling_L2_I.outs)) (c : CT des_ofKeys_10_des_falling_L2_I.sh) => des_ofKeys_10_des_falling_L2_S N X c.1.1 c.1.2.1 c.1.2.2.1 c.2.1) N)
noncomputable def des_ofKeys_L3_I : LI := ⟨28, 0, [(1, 3)], ⟨[(1, .lit (.own 0)), (8, .ty (.arr 2 (.arr 4 (.int .i64)))), (9, .ty (.int .i64))], [.own (.int .i64) 3]⟩, [(.exit 0, ⟨[(1, .lit (.own 0))], [.own (.int .i64) 3]⟩)]⟩
noncomputable def des_ofKeys_L3 (N : Nat) (X : (((Arr (Arr (Int) 4) 2) × ((Int) × Unit)) × ((List (Int)) × Unit)) → Option ((Unit × ((List (Int)) × Unit)))) (x8 : Arr (Arr (Int) 4) 2) (x9 : Int) (h0 : List (Int)) : Option ((Unit × ((List (Int)) × Unit))) :=
 bif (decide (x9 < (2 : Int))) then
  Option.bind (getI x8.l x9) fun (v5 : (Arr Int 4)) =>
  Option.bind (takeI v5.l (3 : Int)) fun (v6 : (List Int)) =>
  Option.bind (des_ofKeys_L6_R N ((v5, (x8, (x9, (v6, ((((List.length v6) : Nat) : Int), ((0 : Int), @Unit.unit)))))), (h0, @Unit.unit))) fun (v7 : (((Arr Int 4) × ((Arr (Arr Int 4) 2) × (Int × Unit))) × ((List Int) × Unit))) =>
  Option.bind (getI v7.1.1.l (3 : Int)) fun (v8 : Int) =>
  Option.bind (des_ofKeys_10_des_falling_L2_R N ((v8, ((4 : Int), ((0 : Int), @Unit.unit))), (v7.2.1, @Unit.unit))) fun (v9 : (Unit × ((List Int) × Unit))) =>
  (X ((v7.1.2.1, ((Go.IntKind.wrap .i64 (v7.1.2.2.1 + (1 : Int))), @Unit.unit)), (v9.2.1, @Unit.unit)))
 else
  some ((@Unit.unit, (h0, @Unit.unit)))
noncomputable def des_ofKeys_L3_R (N : Nat) (c : (((Arr (Arr (Int) 4) 2) × ((Int) × Unit)) × ((List (Int)) × Unit))) : Option ((Unit × ((List (Int)) × Unit))) := gl (fun X c => des_ofKeys_L3 N X c.1.1 c.1.2.1 c.2.1) N c
theorem des_ofKeys_L3_S (N : Nat) (X : (((Arr (Arr (Int) 4) 2) × ((Int) × Unit)) × ((List (Int)) × Unit)) → Option ((Unit × ((List (Int)) × Unit)))) (x8 : Arr (Arr (Int) 4) 2) (x9 : Int) (h0 : List (Int)) : (roundK Go.Proofs.Tryd.prog (Ev87 N) 400 [72] des_ofKeys_L3_I (loopAt Go.Proofs.Tryd.prog [72] 3) X ((x8, x9, ()), (h0, ()))).run = des_ofKeys_L3 N X x8 x9 h0 := by kernel_rfl
noncomputable def Ev88 (N : Nat) : (R : Type) → Env R := Env.addLp (Ev87 N) [72] 0 3 (fun R => lpK Go.Proofs.Tryd.prog des_ofKeys_L3_I (fun X c => des_ofKeys_L3 N X c.1.1 c.1.2.1 c.2.1) N)
theorem Ev88_ok (N : Nat) (R : Type) : EnvOK Go.Proofs.Tryd.prog (Ev88 N R) := EnvOK.addLp (Ev87_ok N R) (by kernel_rfl) (lpK_ok (li := des_ofKeys_L3_I) (G := fun X c => des_ofKeys_L3 N X c.1.1 c.1.2.1 c.2.1) hmx (Ev87_ok N _) (by kernel_rfl) loopAt_sub (fun (X : CT des_ofKeys_L3_I.sh → Option (OT des_ofKeys_L3_I.outs)) (c : CT des_ofKeys_L3_I.sh) => des_ofKeys_L3_S N X c.1.1 c.1.2.1 c.2.1) N)
noncomputable def des_ofKeys (N : Nat) : Option (List (Int)) :=
 Option.bind (des_ofKeys_L3_R N (((@Arr.cons (Arr Int 4) (1 : Nat) (@Arr.cons Int (3 : Nat) (57 : Int) (@Arr.cons Int (2 : Nat) (58 : Int) (@Arr.cons Int (1 : Nat) (59 : Int) (@Arr.cons Int (0 : Nat) (60 : Int) (@Arr.nil Int))))) (@Arr.cons (Arr Int 4) (0 : Nat) (@Arr.cons Int (3 : Nat) (63 : Int) (@Arr.cons Int (2 : Nat) (62 : Int) (@Arr.cons Int (1 : Nat) (61 : Int) (@Arr.cons Int (0 : Nat) (28 : Int) (@Arr.nil Int))))) (@Arr.nil (Arr Int 4)))), ((0 : Int), @Unit.unit)), (([] : List (Int)), @Unit.unit))) fun (v1 : (Unit × ((List Int) × Unit))) =>
 some (v1.2.1)
theorem des_ofKeys_S (N : Nat) : (runK Go.Proofs.Tryd.prog (Ev88 N) 400 72 [] [(.sl (.int .i64))] ()).run = des_ofKeys N  := by kernel_rfl
noncomputable def Ev89 (N : Nat) : (R : Type) → Env R := Env.addFn (Ev88 N) 72 (fun R => fnK [] [(.sl (.int .i64))] (fun c => des_ofKeys N ))
theorem Ev89_ok (N : Nat) (R : Type) : EnvOK Go.Proofs.Tryd.prog (Ev89 N R) := EnvOK.addFn hmx (Ev88_ok N R) (Ev88_ok N _) (by kernel_rfl) (fun c => des_ofKeys_S N )
noncomputable def bitp_may (N : Nat) (width0 : Int) : Option (Bool) :=
 bif (decide ((1 : Int) ≤ width0)) then
  some ((@cond Bool @Bool.true (decide (width0 ≤ (64 : Int))) @Bool.false))
 else
  some (@Bool.false)
theorem bitp_may_S (N : Nat) (width0 : Int) : (runK Go.Proofs.Tryd.prog (Ev89 N) 400 80 [(.int .i64)] [.bool] (width0, ())).run = bitp_may N width0 := by kernel_rfl
noncomputable def Ev90 (N : Nat) : (R : Type) → Env R := Env.addFn (Ev89 N) 80 (fun R => fnK [(.int .i64)] [.bool] (fun c => bitp_may N c.1))
theorem Ev90_ok (N : Nat) (R : Type) : EnvOK Go.Proofs.Tryd.prog (Ev90 N R) := EnvOK.addFn hmx (Ev89_ok N R) (Ev89_ok N _) (by kernel_rfl) (fun c => bitp_may_S N c.1)
noncomputable def bitp_Permute_L4_I : LI := ⟨39, 0, [], ⟨[(0, .ty (.int .u64)), (1, .ty (.int .i64)), (2, .ty (.sl (.int .i64))), (19, .ty (.sl (.int .i64))), (20, .ty (.int .i64)), (21, .ty (.int .i64))], []⟩, [(.ret, ⟨[(6, .ty (.int .u64)), (7, .ty (.int .i64))], []⟩), (.exit 0, ⟨[(0, .ty (.int .u64)), (1, .ty (.int .i64)), (2, .ty (.sl (.int .i64)))], []⟩)]⟩
noncomputable def bitp_Permute_L4 (N : Nat) (X : (((Int) × ((Int) × ((List (Int)) × ((List (Int)) × ((Int) × ((Int) × Unit)))))) × Unit) → Option (((((Int) × ((Int) × Unit)) × Unit) ⊕ (((Int) × ((Int) × ((List (Int)) × Unit))) × Unit)))) (x0 : Int) (width1 : Int) (table2 : List (Int)) (x19 : List (Int)) (x20 : Int) (x21 : Int) : Option (((((Int) × ((Int) × Unit)) × Unit) ⊕ (((Int) × ((Int) × ((List (Int)) × Unit))) × Unit))) :=
 bif (decide (x21 < x20)) then
  Option.bind (getI x19 x21) fun (v8 : Int) =>
  bif (decide (v8 < (1 : Int))) then
   some ((.inl (((0 : Int), ((1 : Int), @Unit.unit)), @Unit.unit)))
  else
   bif (@cond Bool @Bool.false @Bool.true (decide (width1 < v8))) then
    some ((.inl (((0 : Int), ((1 : Int), @Unit.unit)), @Unit.unit)))
   else
    (X ((x0, (width1, (table2, (x19, (x20, ((Go.IntKind.wrap .i64 (x21 + (1 : Int))), @Unit.unit)))))), @Unit.unit))
 else
  some ((.inr ((x0, (width1, (table2, @Unit.unit))), @Unit.unit)))
noncomputable def bitp_Permute_L4_R (N : Nat) (c : (((Int) × ((Int) × ((List (Int)) × ((List (Int)) × ((Int) × ((Int) × Unit)))))) × Unit)) : Option (((((Int) × ((Int) × Unit)) × Unit) ⊕ (((Int) × ((Int) × ((List (Int)) × Unit))) × Unit))) := gl (fun X c => bitp_Permute_L4 N X c.1.1 c.1.2.1 c.1.2.2.1 c.1.2.2.2.1 c.1.2.2.2.2.1 c.1.2.2.2.2.2.1) N c
theorem bitp_Permute_L4_S (N : Nat) (X : (((Int) × ((Int) × ((List (Int)) × ((List (Int)) × ((Int) × ((Int) × Unit)))))) × Unit) → Option (((((Int) × ((Int) × Unit)) × Unit) ⊕ (((Int) × ((Int) × ((List (Int)) × Unit))) × Unit)))) (x0 : Int) (width1 : Int) (table2 : List (Int)) (x19 : List (Int)) (x20 : Int) (x21 : Int) : (roundK Go.Proofs.Tryd.prog (Ev90 N) 400 [77] bitp_Permute_L4_I (loopAt Go.Proofs.Tryd.prog [77] 4) X ((x0, width1, table2, x19, x20, x21, ()), ())).run = bitp_Permute_L4 N X x0 width1 table2 x19 x20 x21 := by kernel_rfl
noncomputable def Ev91 (N : Nat) : (R : Type) → Env R := Env.addLp (Ev90 N) [77] 0 4 (fun R => lpK Go.Proofs.Tryd.prog bitp_Permute_L4_I (fun X c => bitp_Permute_L4 N X c.1.1 c.1.2.1 c.1.2.2.1 c.1.2.2.2.1 c.1.2.2.2.2.1 c.1.2.2.2.2.2.1) N)
theorem Ev91_ok (N : Nat) (R : Type) : EnvOK Go.Proofs.Tryd.prog (Ev91 N R) := EnvOK.addLp (Ev90_ok N R) (by kernel_rfl) (lpK_ok (li := bitp_Permute_L4_I) (G := fun X c => bitp_Permute_L4 N X c.1.1 c.1.2.1 c.1.2.2.1 c.1.2.2.2.1 c.1.2.2.2.2.1 c.1.2.2.2.2.2.1) hmx (Ev90_ok N _) (by kernel_rfl) loopAt_sub (fun (X : CT bitp_Permute_L4_I.sh → Option (OT bitp_Permute_L4_I.outs)) (c : CT bitp_Permute_L4_I.sh) => bitp_Permute_L4_S N X c.1.1 c.1.2.1 c.1.2.2.1 c.1.2.2.2.1 c.1.2.2.2.2.1 c.1.2.2.2.2.2.1) N)
noncomputable def bitp_Bit (N : Nat) (x0 : Int) (width1 : Int) (i2 : Int) : Option (Int) :=
 Option.bind (@bitp_may N width1) fun (v4 : Bool) =>
 bif (!v4) then
  some ((0 : Int))
 else
  bif (@cond Bool @Bool.false @Bool.true (decide (i2 < (1 : Int)))) then
   some ((0 : Int))
  else
   bif (@cond Bool @Bool.false @Bool.true (decide (width1 < i2))) then
    some ((0 : Int))
   else
    bif (decide ((0 : Int) ≤ (Go.IntKind.wrap .i64 (width1 - i2)))) then
     some ((@Go.bits @Go.BinOp.and @Go.IntKind.u64 (@Int.fdiv x0 (@HPow.hPow Int Nat Int (@instHPow Int Nat (@instPowNat Int @Int.instNatPow)) (2 : Int) (@Min.min Nat @instMinNat (Int.toNat (Go.IntKind.wrap .i64 (width1 - i2))) (@Go.IntKind.bits @Go.IntKind.u64)))) (1 : Int)))
    else
     none
theorem bitp_Bit_S (N : Nat) (x0 : Int) (width1 : Int) (i2 : Int) : (runK Go.Proofs.Tryd.prog (Ev91 N) 400 89 [(.int .u64), (.int .i64), (.int .i64)] [(.int .u64)] (x0, width1, i2, ())).run = bitp_Bit N x0 width1 i2 := by kernel_rfl
noncomputable def Ev92 (N : Nat) : (R : Type) → Env R := Env.addFn (Ev91 N) 89 (fun R => fnK [(.int .u64), (.int .i64), (.int .i64)] [(.int .u64)] (fun c => bitp_Bit N c.1 c.2.1 c.2.2.1))
theorem Ev92_ok (N : Nat) (R : Type) : EnvOK Go.Proofs.Tryd.prog (Ev92 N R) := EnvOK.addFn hmx (Ev91_ok N R) (Ev91_ok N _) (by kernel_rfl) (fun c => bitp_Bit_S N c.1 c.2.1 c.2.2.1)
noncomputable def bitp_Permute_10_bitp_named_L1_I : LI := ⟨23, 1, [], ⟨[(0, .ty (.int .u64)), (1, .ty (.int .i64)), (3, .lit (.clo 86 [.box 0 0])), (10, .ty (.sl (.int .i64))), (11, .ty (.int .i64)), (12, .ty (.int .i64))], [.box 58 (.int .u64)]⟩, [(.exit 0, ⟨[], [.box 58 (.int .u64)]⟩)]⟩
noncomputable def bitp_Permute_10_bitp_named_L1 (N : Nat) (X : (((Int) × ((Int) × ((List (Int)) × ((Int) × ((Int) × Unit))))) × ((Int) × Unit)) → Option ((Unit × ((Int) × Unit)))) (x0 : Int) (width1 : Int) (x10 : List (Int)) (x11 : Int) (x12 : Int) (h0 : Int) : Option ((Unit × ((Int) × Unit))) :=
 bif (decide (x12 < x11)) then
  Option.bind (getI x10 x12) fun (v8 : Int) =>
  Option.bind (@bitp_Bit N x0 width1 v8) fun (v9 : Int) =>
  (X ((x0, (width1, (x10, (x11, ((Go.IntKind.wrap .i64 (x12 + (1 : Int))), @Unit.unit))))), ((@Go.bits @Go.BinOp.or @Go.IntKind.u64 (Go.IntKind.wrap .u64 (h0 * (@HPow.hPow Int Nat Int (@instHPow Int Nat (@instPowNat Int @Int.instNatPow)) (2 : Int) (@Min.min Nat @instMinNat (Int.toNat (1 : Int)) (@Go.IntKind.bits @Go.IntKind.u64))))) v9), @Unit.unit)))
 else
  some ((@Unit.unit, (h0, @Unit.unit)))
noncomputable def bitp_Permute_10_bitp_named_L1_R (N : Nat) (c : (((Int) × ((Int) × ((List (Int)) × ((Int) × ((Int) × Unit))))) × ((Int) × Unit))) : Option ((Unit × ((Int) × Unit))) := gl (fun X c => bitp_Permute_10_bitp_named_L1 N X c.1.1 c.1.2.1 c.1.2.2.1 c.1.2.2.2.1 c.1.2.2.2.2.1 c.2.1) N c
theorem bitp_Permute_10_bitp_named_L1_S (N : Nat) (X : (((Int) × ((Int) × ((List (Int)) × ((Int) × ((Int) × Unit))))) × ((Int) × Unit)) → Option ((Unit × ((Int) × Unit)))) (x0 : Int) (width1 : Int) (x10 : List (Int)) (x11 : Int) (x12 : Int) (h0 : Int) : (roundK Go.Proofs.Tryd.prog (Ev92 N) 400 [85, 10, 77] bitp_Permute_10_bitp_named_L1_I (loopAt Go.Proofs.Tryd.prog [85, 10, 77] 1) X ((x0, width1, x10, x11, x12, ()), (h0, ()))).run = bitp_Permute_10_bitp_named_L1 N X x0 width1 x10 x11 x12 h0 := by kernel_rfl
noncomputable def Ev93 (N : Nat) : (R : Type) → Env R := Env.addLp (Ev92 N) [85, 10, 77] 1 1 (fun R => lpK Go.Proofs.Tryd.prog bitp_Permute_10_bitp_named_L1_I (fun X c => bitp_Permute_10_bitp_named_L1 N X c.1.1 c.1.2.1 c.1.2.2.1 c.1.2.2.2.1 c.1.2.2.2.2.1 c.2.1) N)
theorem Ev93_ok (N : Nat) (R : Type) : EnvOK Go.Proofs.Tryd.prog (Ev93 N R) := EnvOK.addLp (Ev92_ok N R) (by kernel_rfl) (lpK_ok (li := bitp_Permute_10_bitp_named_L1_I) (G := fun X c => bitp_Permute_10_bitp_named_L1 N X c.1.1 c.1.2.1 c.1.2.2.1 c.1.2.2.2.1 c.1.2.2.2.2.1 c.2.1) hmx (Ev92_ok N _) (by kernel_rfl) loopAt_sub (fun (X : CT bitp_Permute_10_bitp_named_L1_I.sh → Option (OT bitp_Permute_10_bitp_named_L1_I.outs)) (c : CT bitp_Permute_10_bitp_named_L1_I.sh) => bitp_Permute_10_bitp_named_L1_S N X c.1.1 c.1.2.1 c.1.2.2.1 c.1.2.2.2.1 c.1.2.2.2.2.1 c.2.1) N)
noncomputable def bitp_Permute (N : Nat) (x0 : Int) (width1 : Int) (table2 : List (Int)) : Option ((Int) × Int) :=
 Option.bind (@bitp_may N width1) fun (v4 : Bool) =>
 bif (!v4) then
  some (((0 : Int), (1 : Int)))
 else
  bif (@cond Bool @Bool.false @Bool.true (decide ((64 : Int) < (((List.length table2) : Nat) : Int)))) then
   some (((0 : Int), (1 : Int)))
  else
   Option.bind (bitp_Permute_L4_R N ((x0, (width1, (table2, (table2, ((((List.length table2) : Nat) : Int), ((0 : Int), @Unit.unit)))))), @Unit.unit)) fun (v5 : (((Int × (Int × Unit)) × Unit) ⊕ ((Int × (Int × ((List Int) × Unit))) × Unit))) =>
   Sum.elim
    (fun (v6 : ((Int × (Int × Unit)) × Unit)) =>
    some ((v6.1.1, v6.1.2.1)))
    (fun (v6 : ((Int × (Int × ((List Int) × Unit))) × Unit)) =>
    Option.bind (bitp_Permute_10_bitp_named_L1_R N ((v6.1.1, (v6.1.2.1, (v6.1.2.2.1, ((((List.length v6.1.2.2.1) : Nat) : Int), ((0 : Int), @Unit.unit))))), ((0 : Int), @Unit.unit))) fun (v7 : (Unit × (Int × Unit))) =>
    some ((v7.2.1, (0 : Int)))) v5
theorem bitp_Permute_S (N : Nat) (x0 : Int) (width1 : Int) (table2 : List (Int)) : (runK Go.Proofs.Tryd.prog (Ev93 N) 400 77 [(.int .u64), (.int .i64), (.sl (.int .i64))] [(.int .u64), (.int .i64)] (x0, width1, table2, ())).run = bitp_Permute N x0 width1 table2 := by kernel_rfl
noncomputable def Ev94 (N : Nat) : (R : Type) → Env R := Env.addFn (Ev93 N) 77 (fun R => fnK [(.int .u64), (.int .i64), (.sl (.int .i64))] [(.int .u64), (.int .i64)] (fun c => bitp_Permute N c.1 c.2.1 c.2.2.1))
theorem Ev94_ok (N : Nat) (R : Type) : EnvOK Go.Proofs.Tryd.prog (Ev94 N R) := EnvOK.addFn hmx (Ev93_ok N R) (Ev93_ok N _) (by kernel_rfl) (fun c => bitp_Permute_S N c.1 c.2.1 c.2.2.1)
noncomputable def des_permuted (N : Nat) (x0 : Int) (width1 : Int) (table2 : List (Int)) : Option (Int) :=
 Option.bind (@bitp_Permute N x0 width1 table2) fun (v4 : (Int × Int)) =>
 some (v4.1)
theorem des_permuted_S (N : Nat) (x0 : Int) (width1 : Int) (table2 : List (Int)) : (runK Go.Proofs.Tryd.prog (Ev94 N) 400 67 [(.int .u64), (.int .i64), (.sl (.int .i64))] [(.int .u64)] (x0, width1, table2, ())).run = des_permuted N x0 width1 table2 := by kernel_rfl
noncomputable def Ev95 (N : Nat) : (R : Type) → Env R := Env.addFn (Ev94 N) 67 (fun R => fnK [(.int .u64), (.int .i64), (.sl (.int .i64))] [(.int .u64)] (fun c => des_permuted N c.1 c.2.1 c.2.2.1))
theorem Ev95_ok (N : Nat) (R : Type) : EnvOK Go.Proofs.Tryd.prog (Ev95 N R) := EnvOK.addFn hmx (Ev94_ok N R) (Ev94_ok N _) (by kernel_rfl) (fun c => des_permuted_S N c.1 c.2.1 c.2.2.1)
noncomputable def bitp_low (N : Nat) (x0 : Int) (many1 : Int) : Option (Int) :=
 bif (decide ((0 : Int) ≤ many1)) then
  some ((@Go.bits @Go.BinOp.and @Go.IntKind.u64 x0 (Go.IntKind.wrap .u64 ((Go.IntKind.wrap .u64 ((1 : Int) * (@HPow.hPow Int Nat Int (@instHPow Int Nat (@instPowNat Int @Int.instNatPow)) (2 : Int) (@Min.min Nat @instMinNat (Int.toNat many1) (@Go.IntKind.bits @Go.IntKind.u64))))) - (1 : Int)))))
 else
  none
theorem bitp_low_S (N : Nat) (x0 : Int) (many1 : Int) : (runK Go.Proofs.Tryd.prog (Ev95 N) 400 81 [(.int .u64), (.int .i64)] [(.int .u64)] (x0, many1, ())).run = bitp_low N x0 many1 := by kernel_rfl
noncomputable def Ev96 (N : Nat) : (R : Type) → Env R := Env.addFn (Ev95 N) 81 (fun R => fnK [(.int .u64), (.int .i64)] [(.int .u64)] (fun c => bitp_low N c.1 c.2.1))
theorem Ev96_ok (N : Nat) (R : Type) : EnvOK Go.Proofs.Tryd.prog (Ev96 N R) := EnvOK.addFn hmx (Ev95_ok N R) (Ev95_ok N _) (by kernel_rfl) (fun c => bitp_low_S N c.1 c.2.1)
noncomputable def bitp_Split (N : Nat) (x0 : Int) (width1 : Int) (x2 : Int) : Option ((Int) × (Int) × Int) :=
 Option.bind (@bitp_may N width1) fun (v4 : Bool) =>
 bif (!v4) then
  some (((0 : Int), ((0 : Int), (1 : Int))))
 else
  bif (@cond Bool @Bool.false @Bool.true (decide (x2 < (0 : Int)))) then
   some (((0 : Int), ((0 : Int), (1 : Int))))
  else
   bif (@cond Bool @Bool.false @Bool.true (decide (width1 < x2))) then
    some (((0 : Int), ((0 : Int), (1 : Int))))
   else
    Option.bind (@bitp_low N x0 width1) fun (v5 : Int) =>
    bif (decide ((0 : Int) ≤ (Go.IntKind.wrap .i64 (width1 - x2)))) then
     Option.bind (@bitp_low N v5 (Go.IntKind.wrap .i64 (width1 - x2))) fun (v6 : Int) =>
     some (((@Int.fdiv v5 (@HPow.hPow Int Nat Int (@instHPow Int Nat (@instPowNat Int @Int.instNatPow)) (2 : Int) (@Min.min Nat @instMinNat (Int.toNat (Go.IntKind.wrap .i64 (width1 - x2))) (@Go.IntKind.bits @Go.IntKind.u64)))), (v6, (0 : Int))))
    else
     none
theorem bitp_Split_S (N : Nat) (x0 : Int) (width1 : Int) (x2 : Int) : (runK Go.Proofs.Tryd.prog (Ev96 N) 400 71 [(.int .u64), (.int .i64), (.int .i64)] [(.int .u64), (.int .u64), (.int .i64)] (x0, width1, x2, ())).run = bitp_Split N x0 width1 x2 := by kernel_rfl
noncomputable def Ev97 (N : Nat) : (R : Type) → Env R := Env.addFn (Ev96 N) 71 (fun R => fnK [(.int .u64), (.int .i64), (.int .i64)] [(.int .u64), (.int .u64), (.int .i64)] (fun c => bitp_Split N c.1 c.2.1 c.2.2.1))
theorem Ev97_ok (N : Nat) (R : Type) : EnvOK Go.Proofs.Tryd.prog (Ev97 N R) := EnvOK.addFn hmx (Ev96_ok N R) (Ev96_ok N _) (by kernel_rfl) (fun c => bitp_Split_S N c.1 c.2.1 c.2.2.1)
noncomputable def des_ofRounds (N : Nat) : Option (List (Int)) :=
 some ((((([(14 : Int), (17 : Int), (11 : Int), (24 : Int), (1 : Int), (5 : Int), (3 : Int), (28 : Int), (15 : Int), (6 : Int), (21 : Int), (10 : Int)] : List (Int)) ++ ([(23 : Int), (19 : Int), (12 : Int), (4 : Int), (26 : Int), (8 : Int), (16 : Int), (7 : Int), (27 : Int), (20 : Int), (13 : Int), (2 : Int)] : List (Int))) ++ ([(41 : Int), (52 : Int), (31 : Int), (37 : Int), (47 : Int), (55 : Int), (30 : Int), (40 : Int), (51 : Int), (45 : Int), (33 : Int), (48 : Int)] : List (Int))) ++ ([(44 : Int), (49 : Int), (39 : Int), (56 : Int), (34 : Int), (53 : Int), (46 : Int), (42 : Int), (50 : Int), (36 : Int), (29 : Int), (32 : Int)] : List (Int))))
theorem des_ofRounds_S (N : Nat) : (runK Go.Proofs.Tryd.prog (Ev97 N) 400 73 [] [(.sl (.int .i64))] ()).run = des_ofRounds N  := by kernel_rfl
noncomputable def Ev98 (N : Nat) : (R : Type) → Env R := Env.addFn (Ev97 N) 73 (fun R => fnK [] [(.sl (.int .i64))] (fun c => des_ofRounds N ))
theorem Ev98_ok (N : Nat) (R : Type) : EnvOK Go.Proofs.Tryd.prog (Ev98 N R) := EnvOK.addFn hmx (Ev97_ok N R) (Ev97_ok N _) (by kernel_rfl) (fun c => des_ofRounds_S N )
noncomputable def des_turned_L3_I : LI := ⟨23, 0, [], ⟨[(0, .ty (.int .u64)), (1, .ty (.int .i64)), (5, .ty (.int .i64)), (8, .ty (.arr 4 (.int .i64))), (9, .ty (.int .i64))], []⟩, [(.exit 0, ⟨[(0, .ty (.int .u64)), (5, .ty (.int .i64))], []⟩)]⟩
noncomputable def des_turned_L3 (N : Nat) (X : (((Int) × ((Int) × ((Int) × ((Arr (Int) 4) × ((Int) × Unit))))) × Unit) → Option ((((Int) × ((Int) × Unit)) × Unit))) (half0 : Int) (round1 : Int) (x5 : Int) (x8 : Arr (Int) 4) (x9 : Int) : Option ((((Int) × ((Int) × Unit)) × Unit)) :=
 bif (decide (x9 < (4 : Int))) then
  Option.bind (getI x8.l x9) fun (v7 : Int) =>
  bif (decide (v7 = round1)) then
   (X ((half0, (round1, ((1 : Int), (x8, ((Go.IntKind.wrap .i64 (x9 + (1 : Int))), @Unit.unit))))), @Unit.unit))
  else
   (X ((half0, (round1, (x5, (x8, ((Go.IntKind.wrap .i64 (x9 + (1 : Int))), @Unit.unit))))), @Unit.unit))
 else
  some (((half0, (x5, @Unit.unit)), @Unit.unit))
noncomputable def des_turned_L3_R (N : Nat) (c : (((Int) × ((Int) × ((Int) × ((Arr (Int) 4) × ((Int) × Unit))))) × Unit)) : Option ((((Int) × ((Int) × Unit)) × Unit)) := gl (fun X c => des_turned_L3 N X c.1.1 c.1.2.1 c.1.2.2.1 c.1.2.2.2.1 c.1.2.2.2.2.1) N c
theorem des_turned_L3_S (N : Nat) (X : (((Int) × ((Int) × ((Int) × ((Arr (Int) 4) × ((Int) × Unit))))) × Unit) → Option ((((Int) × ((Int) × Unit)) × Unit))) (half0 : Int) (round1 : Int) (x5 : Int) (x8 : Arr (Int) 4) (x9 : Int) : (roundK Go.Proofs.Tryd.prog (Ev98 N) 400 [74] des_turned_L3_I (loopAt Go.Proofs.Tryd.prog [74] 3) X ((half0, round1, x5, x8, x9, ()), ())).run = des_turned_L3 N X half0 round1 x5 x8 x9 := by kernel_rfl
noncomputable def Ev99 (N : Nat) : (R : Type) → Env R := Env.addLp (Ev98 N) [74] 0 3 (fun R => lpK Go.Proofs.Tryd.prog des_turned_L3_I (fun X c => des_turned_L3 N X c.1.1 c.1.2.1 c.1.2.2.1 c.1.2.2.2.1 c.1.2.2.2.2.1) N)
theorem Ev99_ok (N : Nat) (R : Type) : EnvOK Go.Proofs.Tryd.prog (Ev99 N R) := EnvOK.addLp (Ev98_ok N R) (by kernel_rfl) (lpK_ok (li := des_turned_L3_I) (G := fun X c => des_turned_L3 N X c.1.1 c.1.2.1 c.1.2.2.1 c.1.2.2.2.1 c.1.2.2.2.2.1) hmx (Ev98_ok N _) (by kernel_rfl) loopAt_sub (fun (X : CT des_turned_L3_I.sh → Option (OT des_turned_L3_I.outs)) (c : CT des_turned_L3_I.sh) => des_turned_L3_S N X c.1.1 c.1.2.1 c.1.2.2.1 c.1.2.2.2.1 c.1.2.2.2.2.1) N)
noncomputable def bitp_Turn (N : Nat) (x0 : Int) (width1 : Int) (n2 : Int) : Option ((Int) × Int) :=
 Option.bind (@bitp_may N width1) fun (v4 : Bool) =>
 bif (!v4) then
  some (((0 : Int), (1 : Int)))
 else
  bif (decide (width1 = (0 : Int))) then
   none
  else
   bif (decide ((@Int.tmod n2 width1) < (0 : Int))) then
    Option.bind (@bitp_Split N x0 width1 (Go.IntKind.wrap .i64 ((@Int.tmod n2 width1) + width1))) fun (v5 : (Int × (Int × Int))) =>
    bif (decide ((0 : Int) ≤ (Go.IntKind.wrap .i64 ((@Int.tmod n2 width1) + width1)))) then
     some (((@Go.bits @Go.BinOp.or @Go.IntKind.u64 (Go.IntKind.wrap .u64 (v5.2.1 * (@HPow.hPow Int Nat Int (@instHPow Int Nat (@instPowNat Int @Int.instNatPow)) (2 : Int) (@Min.min Nat @instMinNat (Int.toNat (Go.IntKind.wrap .i64 ((@Int.tmod n2 width1) + width1))) (@Go.IntKind.bits @Go.IntKind.u64))))) v5.1), (0 : Int)))
    else
     none
   else
    Option.bind (@bitp_Split N x0 width1 (@Int.tmod n2 width1)) fun (v5 : (Int × (Int × Int))) =>
    bif (decide ((0 : Int) ≤ (@Int.tmod n2 width1))) then
     some (((@Go.bits @Go.BinOp.or @Go.IntKind.u64 (Go.IntKind.wrap .u64 (v5.2.1 * (@HPow.hPow Int Nat Int (@instHPow Int Nat (@instPowNat Int @Int.instNatPow)) (2 : Int) (@Min.min Nat @instMinNat (Int.toNat (@Int.tmod n2 width1)) (@Go.IntKind.bits @Go.IntKind.u64))))) v5.1), (0 : Int)))
    else
     none
theorem bitp_Turn_S (N : Nat) (x0 : Int) (width1 : Int) (n2 : Int) : (runK Go.Proofs.Tryd.prog (Ev99 N) 400 82 [(.int .u64), (.int .i64), (.int .i64)] [(.int .u64), (.int .i64)] (x0, width1, n2, ())).run = bitp_Turn N x0 width1 n2 := by kernel_rfl
noncomputable def Ev100 (N : Nat) : (R : Type) → Env R := Env.addFn (Ev99 N) 82 (fun R => fnK [(.int .u64), (.int .i64), (.int .i64)] [(.int .u64), (.int .i64)] (fun c => bitp_Turn N c.1 c.2.1 c.2.2.1))
theorem Ev100_ok (N : Nat) (R : Type) : EnvOK Go.Proofs.Tryd.prog (Ev100 N R) := EnvOK.addFn hmx (Ev99_ok N R) (Ev99_ok N _) (by kernel_rfl) (fun c => bitp_Turn_S N c.1 c.2.1 c.2.2.1)
noncomputable def des_turned (N : Nat) (half0 : Int) (round1 : Int) : Option (Int) :=
 Option.bind (des_turned_L3_R N ((half0, (round1, ((2 : Int), ((@Arr.mk Int (4 : Nat) ([(@OfNat.ofNat Int (1 : Nat) (@instOfNat (1 : Nat))), (@OfNat.ofNat Int (2 : Nat) (@instOfNat (2 : Nat))), (@OfNat.ofNat Int (9 : Nat) (@instOfNat (9 : Nat))), (@OfNat.ofNat Int (16 : Nat) (@instOfNat (16 : Nat)))] : List (Int)) @globVs._proof_7), ((0 : Int), @Unit.unit))))), @Unit.unit)) fun (v3 : ((Int × (Int × Unit)) × Unit)) =>
 Option.bind (@bitp_Turn N v3.1.1 (28 : Int) v3.1.2.1) fun (v4 : (Int × Int)) =>
 some (v4.1)
theorem des_turned_S (N : Nat) (half0 : Int) (round1 : Int) : (runK Go.Proofs.Tryd.prog (Ev100 N) 400 74 [(.int .u64), (.int .i64)] [(.int .u64)] (half0, round1, ())).run = des_turned N half0 round1 := by kernel_rfl
noncomputable def Ev101 (N : Nat) : (R : Type) → Env R := Env.addFn (Ev100 N) 74 (fun R => fnK [(.int .u64), (.int .i64)] [(.int .u64)] (fun c => des_turned N c.1 c.2.1))
theorem Ev101_ok (N : Nat) (R : Type) : EnvOK Go.Proofs.Tryd.prog (Ev101 N R) := EnvOK.addFn hmx (Ev100_ok N R) (Ev100_ok N _) (by kernel_rfl) (fun c => des_turned_S N c.1 c.2.1)
noncomputable def des_Keys_L5_I : LI := ⟨39, 0, [], ⟨[(2, .lit (.box 0 0)), (3, .ty (.int .u64)), (4, .ty (.int .u64)), (6, .ty (.sl (.int .i64))), (7, .lit (.box 1 0)), (18, .ty (.int .i64))], [.box 103 (.arr 16 (.int .u64)), .box 103 (.arr 16 (.int .u64))]⟩, [(.exit 0, ⟨[(2, .lit (.box 0 0)), (7, .lit (.box 1 0))], [.box 103 (.arr 16 (.int .u64)), .box 103 (.arr 16 (.int .u64))]⟩)]⟩
noncomputable def des_Keys_L5 (N : Nat) (X : (((Int) × ((Int) × ((List (Int)) × ((Int) × Unit)))) × ((Arr (Int) 16) × ((Arr (Int) 16) × Unit))) → Option ((Unit × ((Arr (Int) 16) × ((Arr (Int) 16) × Unit))))) (left3 : Int) (right4 : Int) (table6 : List (Int)) (x18 : Int) (h0 : Arr (Int) 16) (h1 : Arr (Int) 16) : Option ((Unit × ((Arr (Int) 16) × ((Arr (Int) 16) × Unit)))) :=
 bif (decide (x18 < (16 : Int))) then
  Option.bind (@des_turned N left3 (Go.IntKind.wrap .i64 (x18 + (1 : Int)))) fun (v8 : Int) =>
  Option.bind (@des_turned N right4 (Go.IntKind.wrap .i64 (x18 + (1 : Int)))) fun (v9 : Int) =>
  Option.bind (@des_permuted N (@Go.bits @Go.BinOp.or @Go.IntKind.u64 (Go.IntKind.wrap .u64 (v8 * (@HPow.hPow Int Nat Int (@instHPow Int Nat (@instPowNat Int @Int.instNatPow)) (2 : Int) (@Min.min Nat @instMinNat (Int.toNat (28 : Int)) (@Go.IntKind.bits @Go.IntKind.u64))))) v9) (56 : Int) table6) fun (v10 : Int) =>
  bif (decide ((0 : Int) ≤ x18 ∧ x18 < (((16 : Nat) : Nat) : Int))) then
   Option.bind (@GetElem?.getElem? (List Int) Nat Int (fun (as11 : (List Int)) => (fun (i12 : Nat) => (@LT.lt Nat @instLTNat i12 (List.length as11)))) (@List.instGetElem?NatLtLength Int) h1.l (Int.toNat x18)) fun (v11 : Int) =>
   (X ((v8, (v9, (table6, ((Go.IntKind.wrap .i64 (x18 + (1 : Int))), @Unit.unit)))), (h0, ((h1.set (Int.toNat x18) v10), @Unit.unit))))
  else
   none
 else
  some ((@Unit.unit, (h0, (h1, @Unit.unit))))
noncomputable def des_Keys_L5_R (N : Nat) (c : (((Int) × ((Int) × ((List (Int)) × ((Int) × Unit)))) × ((Arr (Int) 16) × ((Arr (Int) 16) × Unit)))) : Option ((Unit × ((Arr (Int) 16) × ((Arr (Int) 16) × Unit)))) := gl (fun X c => des_Keys_L5 N X c.1.1 c.1.2.1 c.1.2.2.1 c.1.2.2.2.1 c.2.1 c.2.2.1) N c
theorem des_Keys_L5_S (N : Nat) (X : (((Int) × ((Int) × ((List (Int)) × ((Int) × Unit)))) × ((Arr (Int) 16) × ((Arr (Int) 16) × Unit))) → Option ((Unit × ((Arr (Int) 16) × ((Arr (Int) 16) × Unit))))) (left3 : Int) (right4 : Int) (table6 : List (Int)) (x18 : Int) (h0 : Arr (Int) 16) (h1 : Arr (Int) 16) : (roundK Go.Proofs.Tryd.prog (Ev101 N) 400 [57] des_Keys_L5_I (loopAt Go.Proofs.Tryd.prog [57] 5) X ((left3, right4, table6, x18, ()), (h0, h1, ()))).run = des_Keys_L5 N X left3 right4 table6 x18 h0 h1 := by kernel_rfl
noncomputable def Ev102 (N : Nat) : (R : Type) → Env R := Env.addLp (Ev101 N) [57] 0 5 (fun R => lpK Go.Proofs.Tryd.prog des_Keys_L5_I (fun X c => des_Keys_L5 N X c.1.1 c.1.2.1 c.1.2.2.1 c.1.2.2.2.1 c.2.1 c.2.2.1) N)
theorem Ev102_ok (N : Nat) (R : Type) : EnvOK Go.Proofs.Tryd.prog (Ev102 N R) := EnvOK.addLp (Ev101_ok N R) (by kernel_rfl) (lpK_ok (li := des_Keys_L5_I) (G := fun X c => des_Keys_L5 N X c.1.1 c.1.2.1 c.1.2.2.1 c.1.2.2.2.1 c.2.1 c.2.2.1) hmx (Ev101_ok N _) (by kernel_rfl) loopAt_sub (fun (X : CT des_Keys_L5_I.sh → Option (OT des_Keys_L5_I.outs)) (c : CT des_Keys_L5_I.sh) => des_Keys_L5_S N X c.1.1 c.1.2.1 c.1.2.2.1 c.1.2.2.2.1 c.2.1 c.2.2.1) N)
noncomputable def des_Keys (N : Nat) (key0 : Int) : Option (Arr (Int) 16) :=
 Option.bind (@des_ofKeys N) fun (v2 : (List Int)) =>
 Option.bind (@des_permuted N key0 (64 : Int) v2) fun (v3 : Int) =>
 Option.bind (des_Keys_L5_R N (((@Int.fdiv (@Go.bits @Go.BinOp.and @Go.IntKind.u64 v3 (Go.IntKind.wrap .u64 ((Go.IntKind.wrap .u64 ((1 : Int) * (@HPow.hPow Int Nat Int (@instHPow Int Nat (@instPowNat Int @Int.instNatPow)) (2 : Int) (@Min.min Nat @instMinNat (Int.toNat (56 : Int)) (@Go.IntKind.bits @Go.IntKind.u64))))) - (1 : Int)))) (@HPow.hPow Int Nat Int (@instHPow Int Nat (@instPowNat Int @Int.instNatPow)) (2 : Int) (@Min.min Nat @instMinNat (Int.toNat (Go.IntKind.wrap .i64 ((56 : Int) - (28 : Int)))) (@Go.IntKind.bits @Go.IntKind.u64)))), ((@Go.bits @Go.BinOp.and @Go.IntKind.u64 (@Go.bits @Go.BinOp.and @Go.IntKind.u64 v3 (Go.IntKind.wrap .u64 ((Go.IntKind.wrap .u64 ((1 : Int) * (@HPow.hPow Int Nat Int (@instHPow Int Nat (@instPowNat Int @Int.instNatPow)) (2 : Int) (@Min.min Nat @instMinNat (Int.toNat (56 : Int)) (@Go.IntKind.bits @Go.IntKind.u64))))) - (1 : Int)))) (Go.IntKind.wrap .u64 ((Go.IntKind.wrap .u64 ((1 : Int) * (@HPow.hPow Int Nat Int (@instHPow Int Nat (@instPowNat Int @Int.instNatPow)) (2 : Int) (@Min.min Nat @instMinNat (Int.toNat (Go.IntKind.wrap .i64 ((56 : Int) - (28 : Int)))) (@Go.IntKind.bits @Go.IntKind.u64))))) - (1 : Int)))), ((((([(14 : Int), (17 : Int), (11 : Int), (24 : Int), (1 : Int), (5 : Int), (3 : Int), (28 : Int), (15 : Int), (6 : Int), (21 : Int), (10 : Int)] : List (Int)) ++ ([(23 : Int), (19 : Int), (12 : Int), (4 : Int), (26 : Int), (8 : Int), (16 : Int), (7 : Int), (27 : Int), (20 : Int), (13 : Int), (2 : Int)] : List (Int))) ++ ([(41 : Int), (52 : Int), (31 : Int), (37 : Int), (47 : Int), (55 : Int), (30 : Int), (40 : Int), (51 : Int), (45 : Int), (33 : Int), (48 : Int)] : List (Int))) ++ ([(44 : Int), (49 : Int), (39 : Int), (56 : Int), (34 : Int), (53 : Int), (46 : Int), (42 : Int), (50 : Int), (36 : Int), (29 : Int), (32 : Int)] : List (Int))), ((0 : Int), @Unit.unit)))), ((@Arr.cons Int (15 : Nat) (0 : Int) (@Arr.cons Int (14 : Nat) (0 : Int) (@Arr.cons Int (13 : Nat) (0 : Int) (@Arr.cons Int (12 : Nat) (0 : Int) (@Arr.cons Int (11 : Nat) (0 : Int) (@Arr.cons Int (10 : Nat) (0 : Int) (@Arr.cons Int (9 : Nat) (0 : Int) (@Arr.cons Int (8 : Nat) (0 : Int) (@Arr.cons Int (7 : Nat) (0 : Int) (@Arr.cons Int (6 : Nat) (0 : Int) (@Arr.cons Int (5 : Nat) (0 : Int) (@Arr.cons Int (4 : Nat) (0 : Int) (@Arr.cons Int (3 : Nat) (0 : Int) (@Arr.cons Int (2 : Nat) (0 : Int) (@Arr.cons Int (1 : Nat) (0 : Int) (@Arr.cons Int (0 : Nat) (0 : Int) (@Arr.nil Int))))))))))))))))), ((@Arr.cons Int (15 : Nat) (0 : Int) (@Arr.cons Int (14 : Nat) (0 : Int) (@Arr.cons Int (13 : Nat) (0 : Int) (@Arr.cons Int (12 : Nat) (0 : Int) (@Arr.cons Int (11 : Nat) (0 : Int) (@Arr.cons Int (10 : Nat) (0 : Int) (@Arr.cons Int (9 : Nat) (0 : Int) (@Arr.cons Int (8 : Nat) (0 : Int) (@Arr.cons Int (7 : Nat) (0 : Int) (@Arr.cons Int (6 : Nat) (0 : Int) (@Arr.cons Int (5 : Nat) (0 : Int) (@Arr.cons Int (4 : Nat) (0 : Int) (@Arr.cons Int (3 : Nat) (0 : Int) (@Arr.cons Int (2 : Nat) (0 : Int) (@Arr.cons Int (1 : Nat) (0 : Int) (@Arr.cons Int (0 : Nat) (0 : Int) (@Arr.nil Int))))))))))))))))), @Unit.unit)))) fun (v4 : (Unit × ((Arr Int 16) × ((Arr Int 16) × Unit)))) =>
 some (v4.2.2.1)
theorem des_Keys_S (N : Nat) (key0 : Int) : (runK Go.Proofs.Tryd.prog (Ev102 N) 400 57 [(.int .u64)] [(.arr 16 (.int .u64))] (key0, ())).run = des_Keys N key0 := by kernel_rfl
theorem des_Keys_C (N : Nat) (key0 : Int) (y : Arr (Int) 16) (h : des_Keys N key0 = some y) : CallsK Go.Proofs.Tryd.prog 57 (valA [(.int .u64)] (key0, ())) (tupV (valR [(.arr 16 (.int .u64))] y)) := runK_ok hmx (Ev102_ok N _) (okFn_ok (by kernel_rfl)) (by rw [des_Keys_S]; exact h)
noncomputable def Ev103 (N : Nat) : (R : Type) → Env R := Env.addFn (Ev102 N) 57 (fun R => fnK [(.int .u64)] [(.arr 16 (.int .u64))] (fun c => des_Keys N c.1))
theorem Ev103_ok (N : Nat) (R : Type) : EnvOK Go.Proofs.Tryd.prog (Ev103 N R) := EnvOK.addFn hmx (Ev102_ok N R) (Ev102_ok N _) (by kernel_rfl) (fun c => des_Keys_S N c.1)
noncomputable def Ev104 (N : Nat) : (R : Type) → Env R := Env.addBx (Ev103 N) [(56, 0)]
theorem Ev104_ok (N : Nat) (R : Type) : EnvOK Go.Proofs.Tryd.prog (Ev104 N R) := EnvOK.addBx (Ev103_ok N R) [(56, 0)]
noncomputable def Ev105 (N : Nat) : (R : Type) → Env R := Env.addMv (Ev104 N) [(65, 8)]
theorem Ev105_ok (N : Nat) (R : Type) : EnvOK Go.Proofs.Tryd.prog (Ev105 N R) := EnvOK.addMv (Ev104_ok N R) [(65, 8)]
noncomputable def des_wide_L6_I : LI := ⟨24, 0, [], ⟨[(1, .lit (.own 0)), (2, .ty (.int .i64)), (4, .ty (.int .i64)), (7, .ty (.int .i64))], [.own (.int .i64) 3]⟩, [(.exit 2, ⟨[(1, .lit (.own 0)), (4, .ty (.int .i64))], [.own (.int .i64) 3]⟩)]⟩
noncomputable def des_wide_L6 (N : Nat) (X : (((Int) × ((Int) × ((Int) × Unit))) × ((List (Int)) × Unit)) → Option ((((Int) × Unit) × ((List (Int)) × Unit)))) (row2 : Int) (x4 : Int) (x7 : Int) (h0 : List (Int)) : Option ((((Int) × Unit) × ((List (Int)) × Unit))) :=
 bif (decide (x7 < (6 : Int))) then
  bif (roomB ((List.length h0) + (List.length ([(Go.IntKind.wrap .i64 ((@Int.tmod (Go.IntKind.wrap .i64 ((Go.IntKind.wrap .i64 ((Go.IntKind.wrap .i64 ((Go.IntKind.wrap .i64 ((4 : Int) * row2)) + x7)) + (32 : Int))) - (1 : Int))) (32 : Int)) + (1 : Int)))] : List (Int)))) 8) then
   (X ((row2, (x4, ((Go.IntKind.wrap .i64 (x7 + (1 : Int))), @Unit.unit))), ((h0 ++ ([(Go.IntKind.wrap .i64 ((@Int.tmod (Go.IntKind.wrap .i64 ((Go.IntKind.wrap .i64 ((Go.IntKind.wrap .i64 ((Go.IntKind.wrap .i64 ((4 : Int) * row2)) + x7)) + (32 : Int))) - (1 : Int))) (32 : Int)) + (1 : Int)))] : List (Int))), @Unit.unit)))
  else
   none
 else
  some (((x4, @Unit.unit), (h0, @Unit.unit)))
noncomputable def des_wide_L6_R (N : Nat) (c : (((Int) × ((Int) × ((Int) × Unit))) × ((List (Int)) × Unit))) : Option ((((Int) × Unit) × ((List (Int)) × Unit))) := gl (fun X c => des_wide_L6 N X c.1.1 c.1.2.1 c.1.2.2.1 c.2.1) N c
theorem des_wide_L6_S (N : Nat) (X : (((Int) × ((Int) × ((Int) × Unit))) × ((List (Int)) × Unit)) → Option ((((Int) × Unit) × ((List (Int)) × Unit)))) (row2 : Int) (x4 : Int) (x7 : Int) (h0 : List (Int)) : (roundK Go.Proofs.Tryd.prog (Ev105 N) 400 [65] des_wide_L6_I (loopAt Go.Proofs.Tryd.prog [65] 6) X ((row2, x4, x7, ()), (h0, ()))).run = des_wide_L6 N X row2 x4 x7 h0 := by kernel_rfl
noncomputable def Ev106 (N : Nat) : (R : Type) → Env R := Env.addLp (Ev105 N) [65] 0 6 (fun R => lpK Go.Proofs.Tryd.prog des_wide_L6_I (fun X c => des_wide_L6 N X c.1.1 c.1.2.1 c.1.2.2.1 c.2.1) N)
theorem Ev106_ok (N : Nat) (R : Type) : EnvOK Go.Proofs.Tryd.prog (Ev106 N R) := EnvOK.addLp (Ev105_ok N R) (by kernel_rfl) (lpK_ok (li := des_wide_L6_I) (G := fun X c => des_wide_L6 N X c.1.1 c.1.2.1 c.1.2.2.1 c.2.1) hmx (Ev105_ok N _) (by kernel_rfl) loopAt_sub (fun (X : CT des_wide_L6_I.sh → Option (OT des_wide_L6_I.outs)) (c : CT des_wide_L6_I.sh) => des_wide_L6_S N X c.1.1 c.1.2.1 c.1.2.2.1 c.2.1) N)
noncomputable def des_wide_L3_I : LI := ⟨24, 0, [(1, 3)], ⟨[(1, .lit (.own 0)), (4, .ty (.int .i64))], [.own (.int .i64) 3]⟩, [(.exit 0, ⟨[(1, .lit (.own 0))], [.own (.int .i64) 3]⟩)]⟩
noncomputable def des_wide_L3 (N : Nat) (X : (((Int) × Unit) × ((List (Int)) × Unit)) → Option ((Unit × ((List (Int)) × Unit)))) (x4 : Int) (h0 : List (Int)) : Option ((Unit × ((List (Int)) × Unit))) :=
 bif (decide (x4 < (8 : Int))) then
  Option.bind (des_wide_L6_R N ((x4, (x4, ((0 : Int), @Unit.unit))), (h0, @Unit.unit))) fun (v4 : ((Int × Unit) × ((List Int) × Unit))) =>
  (X (((Go.IntKind.wrap .i64 (v4.1.1 + (1 : Int))), @Unit.unit), (v4.2.1, @Unit.unit)))
 else
  some ((@Unit.unit, (h0, @Unit.unit)))
noncomputable def des_wide_L3_R (N : Nat) (c : (((Int) × Unit) × ((List (Int)) × Unit))) : Option ((Unit × ((List (Int)) × Unit))) := gl (fun X c => des_wide_L3 N X c.1.1 c.2.1) N c
theorem des_wide_L3_S (N : Nat) (X : (((Int) × Unit) × ((List (Int)) × Unit)) → Option ((Unit × ((List (Int)) × Unit)))) (x4 : Int) (h0 : List (Int)) : (roundK Go.Proofs.Tryd.prog (Ev106 N) 400 [65] des_wide_L3_I (loopAt Go.Proofs.Tryd.prog [65] 3) X ((x4, ()), (h0, ()))).run = des_wide_L3 N X x4 h0 := by kernel_rfl
noncomputable def Ev107 (N : Nat) : (R : Type) → Env R := Env.addLp (Ev106 N) [65] 0 3 (fun R => lpK Go.Proofs.Tryd.prog des_wide_L3_I (fun X c => des_wide_L3 N X c.1.1 c.2.1) N)
theorem Ev107_ok (N : Nat) (R : Type) : EnvOK Go.Proofs.Tryd.prog (Ev107 N R) := EnvOK.addLp (Ev106_ok N R) (by kernel_rfl) (lpK_ok (li := des_wide_L3_I) (G := fun X c => des_wide_L3 N X c.1.1 c.2.1) hmx (Ev106_ok N _) (by kernel_rfl) loopAt_sub (fun (X : CT des_wide_L3_I.sh → Option (OT des_wide_L3_I.outs)) (c : CT des_wide_L3_I.sh) => des_wide_L3_S N X c.1.1 c.2.1) N)
noncomputable def des_wide (N : Nat) : Option (List (Int)) :=
 Option.bind (des_wide_L3_R N (((0 : Int), @Unit.unit), (([] : List (Int)), @Unit.unit))) fun (v1 : (Unit × ((List Int) × Unit))) =>
 some (v1.2.1)
theorem des_wide_S (N : Nat) : (runK Go.Proofs.Tryd.prog (Ev107 N) 400 65 [] [(.sl (.int .i64))] ()).run = des_wide N  := by kernel_rfl
noncomputable def Ev108 (N : Nat) : (R : Type) → Env R := Env.addFn (Ev107 N) 65 (fun R => fnK [] [(.sl (.int .i64))] (fun c => des_wide N ))
theorem Ev108_ok (N : Nat) (R : Type) : EnvOK Go.Proofs.Tryd.prog (Ev108 N R) := EnvOK.addFn hmx (Ev107_ok N R) (Ev107_ok N _) (by kernel_rfl) (fun c => des_wide_S N )
noncomputable def des_mixing (N : Nat) : Option (List (Int)) :=
 some ((((([(16 : Int), (7 : Int), (20 : Int), (21 : Int), (29 : Int), (12 : Int), (28 : Int), (17 : Int)] : List (Int)) ++ ([(1 : Int), (15 : Int), (23 : Int), (26 : Int), (5 : Int), (18 : Int), (31 : Int), (10 : Int)] : List (Int))) ++ ([(2 : Int), (8 : Int), (24 : Int), (14 : Int), (32 : Int), (27 : Int), (3 : Int), (9 : Int)] : List (Int))) ++ ([(19 : Int), (13 : Int), (30 : Int), (6 : Int), (22 : Int), (11 : Int), (4 : Int), (25 : Int)] : List (Int))))
theorem des_mixing_S (N : Nat) : (runK Go.Proofs.Tryd.prog (Ev108 N) 400 66 [] [(.sl (.int .i64))] ()).run = des_mixing N  := by kernel_rfl
noncomputable def Ev109 (N : Nat) : (R : Type) → Env R := Env.addFn (Ev108 N) 66 (fun R => fnK [] [(.sl (.int .i64))] (fun c => des_mixing N ))
theorem Ev109_ok (N : Nat) (R : Type) : EnvOK Go.Proofs.Tryd.prog (Ev109 N R) := EnvOK.addFn hmx (Ev108_ok N R) (Ev108_ok N _) (by kernel_rfl) (fun c => des_mixing_S N )
noncomputable def Ev110 (N : Nat) : (R : Type) → Env R := Env.addMv (Ev109 N) [(68, 5)]
theorem Ev110_ok (N : Nat) (R : Type) : EnvOK Go.Proofs.Tryd.prog (Ev110 N R) := EnvOK.addMv (Ev109_ok N R) [(68, 5)]
noncomputable def des_first_5_des_falling_L2_I : LI := ⟨21, 1, [(0, 3)], ⟨[(0, .lit (.own 1)), (1, .ty (.int .i64)), (8, .ty (.int .i64)), (9, .ty (.int .i64))], [.dead, .own (.int .i64) 3]⟩, [(.exit 0, ⟨[(0, .lit (.own 1))], [.dead, .own (.int .i64) 3]⟩)]⟩
noncomputable def des_first_5_des_falling_L2 (N : Nat) (X : (((Int) × ((Int) × ((Int) × Unit))) × ((List (Int)) × Unit)) → Option ((Unit × ((List (Int)) × Unit)))) (x1 : Int) (x8 : Int) (x9 : Int) (h0 : List (Int)) : Option ((Unit × ((List (Int)) × Unit))) :=
 bif (decide (x9 < x8)) then
  bif (roomB ((List.length h0) + (List.length ([(Go.IntKind.wrap .i64 (x1 - (Go.IntKind.wrap .i64 ((8 : Int) * x9))))] : List (Int)))) 8) then
   (X ((x1, (x8, ((Go.IntKind.wrap .i64 (x9 + (1 : Int))), @Unit.unit))), ((h0 ++ ([(Go.IntKind.wrap .i64 (x1 - (Go.IntKind.wrap .i64 ((8 : Int) * x9))))] : List (Int))), @Unit.unit)))
  else
   none
 else
  some ((@Unit.unit, (h0, @Unit.unit)))
noncomputable def des_first_5_des_falling_L2_R (N : Nat) (c : (((Int) × ((Int) × ((Int) × Unit))) × ((List (Int)) × Unit))) : Option ((Unit × ((List (Int)) × Unit))) := gl (fun X c => des_first_5_des_falling_L2 N X c.1.1 c.1.2.1 c.1.2.2.1 c.2.1) N c
theorem des_first_5_des_falling_L2_S (N : Nat) (X : (((Int) × ((Int) × ((Int) × Unit))) × ((List (Int)) × Unit)) → Option ((Unit × ((List (Int)) × Unit)))) (x1 : Int) (x8 : Int) (x9 : Int) (h0 : List (Int)) : (roundK Go.Proofs.Tryd.prog (Ev110 N) 400 [78, 5, 68] des_first_5_des_falling_L2_I (loopAt Go.Proofs.Tryd.prog [78, 5, 68] 2) X ((x1, x8, x9, ()), (h0, ()))).run = des_first_5_des_falling_L2 N X x1 x8 x9 h0 := by kernel_rfl
noncomputable def Ev111 (N : Nat) : (R : Type) → Env R := Env.addLp (Ev110 N) [78, 5, 68] 1 2 (fun R => lpK Go.Proofs.Tryd.prog des_first_5_des_falling_L2_I (fun X c => des_first_5_des_falling_L2 N X c.1.1 c.1.2.1 c.1.2.2.1 c.2.1) N)
theorem Ev111_ok (N : Nat) (R : Type) : EnvOK Go.Proofs.Tryd.prog (Ev111 N R) := EnvOK.addLp (Ev110_ok N R) (by kernel_rfl) (lpK_ok (li := des_first_5_des_falling_L2_I) (G := fun X c => des_first_5_des_falling_L2 N X c.1.1 c.1.2.1 c.1.2.2.1 c.2.1) hmx (Ev110_ok N _) (by kernel_rfl) loopAt_sub (fun (X : CT des_first_5_des_falling_L2_I.sh → Option (OT des_first_5_des_falling_L2_I.outs)) (c : CT des_first_5_des_falling_L2_I.sh) => des_first_5_des_falling_L2_S N X c.1.1 c.1.2.1 c.1.2.2.1 c.2.1) N)
noncomputable def des_first_L3_I : LI := ⟨13, 0, [(1, 3)], ⟨[(1, .lit (.own 0)), (4, .ty (.arr 8 (.int .i64))), (5, .ty (.int .i64))], [.own (.int .i64) 3]⟩, [(.exit 0, ⟨[(1, .lit (.own 0))], [.own (.int .i64) 3]⟩)]⟩
noncomputable def des_first_L3 (N : Nat) (X : (((Arr (Int) 8) × ((Int) × Unit)) × ((List (Int)) × Unit)) → Option ((Unit × ((List (Int)) × Unit)))) (x4 : Arr (Int) 8) (x5 : Int) (h0 : List (Int)) : Option ((Unit × ((List (Int)) × Unit))) :=
 bif (decide (x5 < (8 : Int))) then
  Option.bind (getI x4.l x5) fun (v5 : Int) =>
  Option.bind (des_first_5_des_falling_L2_R N ((v5, ((8 : Int), ((0 : Int), @Unit.unit))), (h0, @Unit.unit))) fun (v6 : (Unit × ((List Int) × Unit))) =>
  (X ((x4, ((Go.IntKind.wrap .i64 (x5 + (1 : Int))), @Unit.unit)), (v6.2.1, @Unit.unit)))
 else
  some ((@Unit.unit, (h0, @Unit.unit)))
noncomputable def des_first_L3_R (N : Nat) (c : (((Arr (Int) 8) × ((Int) × Unit)) × ((List (Int)) × Unit))) : Option ((Unit × ((List (Int)) × Unit))) := gl (fun X c => des_first_L3 N X c.1.1 c.1.2.1 c.2.1) N c
theorem des_first_L3_S (N : Nat) (X : (((Arr (Int) 8) × ((Int) × Unit)) × ((List (Int)) × Unit)) → Option ((Unit × ((List (Int)) × Unit)))) (x4 : Arr (Int) 8) (x5 : Int) (h0 : List (Int)) : (roundK Go.Proofs.Tryd.prog (Ev111 N) 400 [68] des_first_L3_I (loopAt Go.Proofs.Tryd.prog [68] 3) X ((x4, x5, ()), (h0, ()))).run = des_first_L3 N X x4 x5 h0 := by kernel_rfl
noncomputable def Ev112 (N : Nat) : (R : Type) → Env R := Env.addLp (Ev111 N) [68] 0 3 (fun R => lpK Go.Proofs.Tryd.prog des_first_L3_I (fun X c => des_first_L3 N X c.1.1 c.1.2.1 c.2.1) N)
theorem Ev112_ok (N : Nat) (R : Type) : EnvOK Go.Proofs.Tryd.prog (Ev112 N R) := EnvOK.addLp (Ev111_ok N R) (by kernel_rfl) (lpK_ok (li := des_first_L3_I) (G := fun X c => des_first_L3 N X c.1.1 c.1.2.1 c.2.1) hmx (Ev111_ok N _) (by kernel_rfl) loopAt_sub (fun (X : CT des_first_L3_I.sh → Option (OT des_first_L3_I.outs)) (c : CT des_first_L3_I.sh) => des_first_L3_S N X c.1.1 c.1.2.1 c.2.1) N)
noncomputable def des_first (N : Nat) : Option (List (Int)) :=
 Option.bind (des_first_L3_R N (((@Arr.cons Int (7 : Nat) (58 : Int) (@Arr.cons Int (6 : Nat) (60 : Int) (@Arr.cons Int (5 : Nat) (62 : Int) (@Arr.cons Int (4 : Nat) (64 : Int) (@Arr.cons Int (3 : Nat) (57 : Int) (@Arr.cons Int (2 : Nat) (59 : Int) (@Arr.cons Int (1 : Nat) (61 : Int) (@Arr.cons Int (0 : Nat) (63 : Int) (@Arr.nil Int))))))))), ((0 : Int), @Unit.unit)), (([] : List (Int)), @Unit.unit))) fun (v1 : (Unit × ((List Int) × Unit))) =>
 some (v1.2.1)
theorem des_first_S (N : Nat) : (runK Go.Proofs.Tryd.prog (Ev112 N) 400 68 [] [(.sl (.int .i64))] ()).run = des_first N  := by kernel_rfl
noncomputable def Ev113 (N : Nat) : (R : Type) → Env R := Env.addFn (Ev112 N) 68 (fun R => fnK [] [(.sl (.int .i64))] (fun c => des_first N ))
theorem Ev113_ok (N : Nat) (R : Type) : EnvOK Go.Proofs.Tryd.prog (Ev113 N R) := EnvOK.addFn hmx (Ev112_ok N R) (Ev112_ok N _) (by kernel_rfl) (fun c => des_first_S N )
noncomputable def des_word_L4_I : LI := ⟨36, 0, [], ⟨[(3, .ty (.sl (.int .i64))), (9, .ty (.int .u64)), (10, .ty (.int .u64)), (11, .ty (.int .i64))], []⟩, [(.exit 0, ⟨[(3, .ty (.sl (.int .i64))), (10, .ty (.int .u64))], []⟩)]⟩
noncomputable def des_word_L4 (N : Nat) (X : (((List (Int)) × ((Int) × ((Int) × ((Int) × Unit)))) × Unit) → Option ((((List (Int)) × ((Int) × Unit)) × Unit))) (mix3 : List (Int)) (six9 : Int) (digits10 : Int) (n11 : Int) : Option ((((List (Int)) × ((Int) × Unit)) × Unit)) :=
 bif (decide (n11 ≤ (8 : Int))) then
  bif (decide ((0 : Int) ≤ (Go.IntKind.wrap .i64 ((48 : Int) - (Go.IntKind.wrap .i64 ((6 : Int) * n11)))))) then
   Option.bind (@des_Box N n11 (@Int.fdiv six9 (@HPow.hPow Int Nat Int (@instHPow Int Nat (@instPowNat Int @Int.instNatPow)) (2 : Int) (@Min.min Nat @instMinNat (Int.toNat (Go.IntKind.wrap .i64 ((48 : Int) - (Go.IntKind.wrap .i64 ((6 : Int) * n11))))) (@Go.IntKind.bits @Go.IntKind.u64))))) fun (v6 : Int) =>
   (X ((mix3, (six9, ((@Go.bits @Go.BinOp.or @Go.IntKind.u64 (Go.IntKind.wrap .u64 (digits10 * (@HPow.hPow Int Nat Int (@instHPow Int Nat (@instPowNat Int @Int.instNatPow)) (2 : Int) (@Min.min Nat @instMinNat (Int.toNat (4 : Int)) (@Go.IntKind.bits @Go.IntKind.u64))))) v6), ((Go.IntKind.wrap .i64 (n11 + (1 : Int))), @Unit.unit)))), @Unit.unit))
  else
   none
 else
  some (((mix3, (digits10, @Unit.unit)), @Unit.unit))
noncomputable def des_word_L4_R (N : Nat) (c : (((List (Int)) × ((Int) × ((Int) × ((Int) × Unit)))) × Unit)) : Option ((((List (Int)) × ((Int) × Unit)) × Unit)) := gl (fun X c => des_word_L4 N X c.1.1 c.1.2.1 c.1.2.2.1 c.1.2.2.2.1) N c
theorem des_word_L4_S (N : Nat) (X : (((List (Int)) × ((Int) × ((Int) × ((Int) × Unit)))) × Unit) → Option ((((List (Int)) × ((Int) × Unit)) × Unit))) (mix3 : List (Int)) (six9 : Int) (digits10 : Int) (n11 : Int) : (roundK Go.Proofs.Tryd.prog (Ev113 N) 400 [69] des_word_L4_I (loopAt Go.Proofs.Tryd.prog [69] 4) X ((mix3, six9, digits10, n11, ()), ())).run = des_word_L4 N X mix3 six9 digits10 n11 := by kernel_rfl
noncomputable def Ev114 (N : Nat) : (R : Type) → Env R := Env.addLp (Ev113 N) [69] 0 4 (fun R => lpK Go.Proofs.Tryd.prog des_word_L4_I (fun X c => des_word_L4 N X c.1.1 c.1.2.1 c.1.2.2.1 c.1.2.2.2.1) N)
theorem Ev114_ok (N : Nat) (R : Type) : EnvOK Go.Proofs.Tryd.prog (Ev114 N R) := EnvOK.addLp (Ev113_ok N R) (by kernel_rfl) (lpK_ok (li := des_word_L4_I) (G := fun X c => des_word_L4 N X c.1.1 c.1.2.1 c.1.2.2.1 c.1.2.2.2.1) hmx (Ev113_ok N _) (by kernel_rfl) loopAt_sub (fun (X : CT des_word_L4_I.sh → Option (OT des_word_L4_I.outs)) (c : CT des_word_L4_I.sh) => des_word_L4_S N X c.1.1 c.1.2.1 c.1.2.2.1 c.1.2.2.2.1) N)
noncomputable def des_word (N : Nat) (half0 : Int) (key1 : Int) (widen2 : List (Int)) (mix3 : List (Int)) : Option (Int) :=
 Option.bind (@des_permuted N (Go.IntKind.wrap .u64 half0) (32 : Int) widen2) fun (v5 : Int) =>
 Option.bind (des_word_L4_R N ((mix3, ((@Go.bits @Go.BinOp.xor @Go.IntKind.u64 v5 key1), ((0 : Int), ((1 : Int), @Unit.unit)))), @Unit.unit)) fun (v6 : (((List Int) × (Int × Unit)) × Unit)) =>
 Option.bind (@des_permuted N v6.1.2.1 (32 : Int) v6.1.1) fun (v7 : Int) =>
 some ((Go.IntKind.wrap .u32 v7))
theorem des_word_S (N : Nat) (half0 : Int) (key1 : Int) (widen2 : List (Int)) (mix3 : List (Int)) : (runK Go.Proofs.Tryd.prog (Ev114 N) 400 69 [(.int .u32), (.int .u64), (.sl (.int .i64)), (.sl (.int .i64))] [(.int .u32)] (half0, key1, widen2, mix3, ())).run = des_word N half0 key1 widen2 mix3 := by kernel_rfl
noncomputable def Ev115 (N : Nat) : (R : Type) → Env R := Env.addFn (Ev114 N) 69 (fun R => fnK [(.int .u32), (.int .u64), (.sl (.int .i64)), (.sl (.int .i64))] [(.int .u32)] (fun c => des_word N c.1 c.2.1 c.2.2.1 c.2.2.2.1))
theorem Ev115_ok (N : Nat) (R : Type) : EnvOK Go.Proofs.Tryd.prog (Ev115 N R) := EnvOK.addFn hmx (Ev114_ok N R) (Ev114_ok N _) (by kernel_rfl) (fun c => des_word_S N c.1 c.2.1 c.2.2.1 c.2.2.2.1)
noncomputable def des_through_L5_I : LI := ⟨43, 0, [], ⟨[(5, .ty (.sl (.int .i64))), (6, .ty (.sl (.int .i64))), (8, .ty (.int .u32)), (9, .ty (.int .u32)), (22, .ty (.arr 16 (.int .u64))), (23, .ty (.int .i64))], []⟩, [(.exit 0, ⟨[(8, .ty (.int .u32)), (9, .ty (.int .u32))], []⟩)]⟩
noncomputable def des_through_L5 (N : Nat) (X : (((List (Int)) × ((List (Int)) × ((Int) × ((Int) × ((Arr (Int) 16) × ((Int) × Unit)))))) × Unit) → Option ((((Int) × ((Int) × Unit)) × Unit))) (widen5 : List (Int)) (mix6 : List (Int)) (left8 : Int) (right9 : Int) (x22 : Arr (Int) 16) (x23 : Int) : Option ((((Int) × ((Int) × Unit)) × Unit)) :=
 bif (decide (x23 < (16 : Int))) then
  Option.bind (getI x22.l x23) fun (v8 : Int) =>
  Option.bind (@des_word N right9 v8 widen5 mix6) fun (v9 : Int) =>
  (X ((widen5, (mix6, (right9, ((@Go.bits @Go.BinOp.xor @Go.IntKind.u32 left8 v9), (x22, ((Go.IntKind.wrap .i64 (x23 + (1 : Int))), @Unit.unit)))))), @Unit.unit))
 else
  some (((left8, (right9, @Unit.unit)), @Unit.unit))
noncomputable def des_through_L5_R (N : Nat) (c : (((List (Int)) × ((List (Int)) × ((Int) × ((Int) × ((Arr (Int) 16) × ((Int) × Unit)))))) × Unit)) : Option ((((Int) × ((Int) × Unit)) × Unit)) := gl (fun X c => des_through_L5 N X c.1.1 c.1.2.1 c.1.2.2.1 c.1.2.2.2.1 c.1.2.2.2.2.1 c.1.2.2.2.2.2.1) N c
theorem des_through_L5_S (N : Nat) (X : (((List (Int)) × ((List (Int)) × ((Int) × ((Int) × ((Arr (Int) 16) × ((Int) × Unit)))))) × Unit) → Option ((((Int) × ((Int) × Unit)) × Unit))) (widen5 : List (Int)) (mix6 : List (Int)) (left8 : Int) (right9 : Int) (x22 : Arr (Int) 16) (x23 : Int) : (roundK Go.Proofs.Tryd.prog (Ev115 N) 400 [56] des_through_L5_I (loopAt Go.Proofs.Tryd.prog [56] 5) X ((widen5, mix6, left8, right9, x22, x23, ()), ())).run = des_through_L5 N X widen5 mix6 left8 right9 x22 x23 := by kernel_rfl
noncomputable def Ev116 (N : Nat) : (R : Type) → Env R := Env.addLp (Ev115 N) [56] 0 5 (fun R => lpK Go.Proofs.Tryd.prog des_through_L5_I (fun X c => des_through_L5 N X c.1.1 c.1.2.1 c.1.2.2.1 c.1.2.2.2.1 c.1.2.2.2.2.1 c.1.2.2.2.2.2.1) N)
theorem Ev116_ok (N : Nat) (R : Type) : EnvOK Go.Proofs.Tryd.prog (Ev116 N R) := EnvOK.addLp (Ev115_ok N R) (by kernel_rfl) (lpK_ok (li := des_through_L5_I) (G := fun X c => des_through_L5 N X c.1.1 c.1.2.1 c.1.2.2.1 c.1.2.2.2.1 c.1.2.2.2.2.1 c.1.2.2.2.2.2.1) hmx (Ev115_ok N _) (by kernel_rfl) loopAt_sub (fun (X : CT des_through_L5_I.sh → Option (OT des_through_L5_I.outs)) (c : CT des_through_L5_I.sh) => des_through_L5_S N X c.1.1 c.1.2.1 c.1.2.2.1 c.1.2.2.2.1 c.1.2.2.2.2.1 c.1.2.2.2.2.2.1) N)
noncomputable def des_last_L3_I : LI := ⟨20, 0, [], ⟨[(1, .lit (.own 0)), (5, .ty (.sl (.int .i64))), (6, .ty (.int .i64)), (7, .ty (.int .i64))], [.own (.int .i64) 3]⟩, [(.exit 0, ⟨[(1, .lit (.own 0))], [.own (.int .i64) 3]⟩)]⟩
noncomputable def des_last_L3 (N : Nat) (X : (((List (Int)) × ((Int) × ((Int) × Unit))) × ((List (Int)) × Unit)) → Option ((Unit × ((List (Int)) × Unit)))) (x5 : List (Int)) (x6 : Int) (x7 : Int) (h0 : List (Int)) : Option ((Unit × ((List (Int)) × Unit))) :=
 bif (decide (x7 < x6)) then
  Option.bind (getI x5 x7) fun (v6 : Int) =>
  bif (decide ((0 : Int) ≤ (Go.IntKind.wrap .i64 (v6 - (1 : Int))) ∧ (Go.IntKind.wrap .i64 (v6 - (1 : Int))) < (((List.length h0) : Nat) : Int))) then
   Option.bind (@GetElem?.getElem? (List Int) Nat Int (fun (as7 : (List Int)) => (fun (i8 : Nat) => (@LT.lt Nat @instLTNat i8 (List.length as7)))) (@List.instGetElem?NatLtLength Int) h0 (Int.toNat (Go.IntKind.wrap .i64 (v6 - (1 : Int))))) fun (v7 : Int) =>
   (X ((x5, (x6, ((Go.IntKind.wrap .i64 (x7 + (1 : Int))), @Unit.unit))), ((@List.set Int h0 (Int.toNat (Go.IntKind.wrap .i64 (v6 - (1 : Int)))) (Go.IntKind.wrap .i64 (x7 + (1 : Int)))), @Unit.unit)))
  else
   none
 else
  some ((@Unit.unit, (h0, @Unit.unit)))
noncomputable def des_last_L3_R (N : Nat) (c : (((List (Int)) × ((Int) × ((Int) × Unit))) × ((List (Int)) × Unit))) : Option ((Unit × ((List (Int)) × Unit))) := gl (fun X c => des_last_L3 N X c.1.1 c.1.2.1 c.1.2.2.1 c.2.1) N c
theorem des_last_L3_S (N : Nat) (X : (((List (Int)) × ((Int) × ((Int) × Unit))) × ((List (Int)) × Unit)) → Option ((Unit × ((List (Int)) × Unit)))) (x5 : List (Int)) (x6 : Int) (x7 : Int) (h0 : List (Int)) : (roundK Go.Proofs.Tryd.prog (Ev116 N) 400 [70] des_last_L3_I (loopAt Go.Proofs.Tryd.prog [70] 3) X ((x5, x6, x7, ()), (h0, ()))).run = des_last_L3 N X x5 x6 x7 h0 := by kernel_rfl
noncomputable def Ev117 (N : Nat) : (R : Type) → Env R := Env.addLp (Ev116 N) [70] 0 3 (fun R => lpK Go.Proofs.Tryd.prog des_last_L3_I (fun X c => des_last_L3 N X c.1.1 c.1.2.1 c.1.2.2.1 c.2.1) N)
theorem Ev117_ok (N : Nat) (R : Type) : EnvOK Go.Proofs.Tryd.prog (Ev117 N R) := EnvOK.addLp (Ev116_ok N R) (by kernel_rfl) (lpK_ok (li := des_last_L3_I) (G := fun X c => des_last_L3 N X c.1.1 c.1.2.1 c.1.2.2.1 c.2.1) hmx (Ev116_ok N _) (by kernel_rfl) loopAt_sub (fun (X : CT des_last_L3_I.sh → Option (OT des_last_L3_I.outs)) (c : CT des_last_L3_I.sh) => des_last_L3_S N X c.1.1 c.1.2.1 c.1.2.2.1 c.2.1) N)
noncomputable def des_last (N : Nat) : Option (List (Int)) :=
 Option.bind (@des_first N) fun (v1 : (List Int)) =>
 Option.bind (des_last_L3_R N ((v1, ((((List.length v1) : Nat) : Int), ((0 : Int), @Unit.unit))), ((@List.replicate Int (Int.toNat (64 : Int)) (0 : Int)), @Unit.unit))) fun (v2 : (Unit × ((List Int) × Unit))) =>
 some (v2.2.1)
theorem des_last_S (N : Nat) : (runK Go.Proofs.Tryd.prog (Ev117 N) 400 70 [] [(.sl (.int .i64))] ()).run = des_last N  := by kernel_rfl
noncomputable def Ev118 (N : Nat) : (R : Type) → Env R := Env.addFn (Ev117 N) 70 (fun R => fnK [] [(.sl (.int .i64))] (fun c => des_last N ))
theorem Ev118_ok (N : Nat) (R : Type) : EnvOK Go.Proofs.Tryd.prog (Ev118 N R) := EnvOK.addFn hmx (Ev117_ok N R) (Ev117_ok N _) (by kernel_rfl) (fun c => des_last_S N )
noncomputable def des_through (N : Nat) (keys0 : Arr (Int) 16) (block1 : Int) : Option (Int) :=
 Option.bind (@des_wide N) fun (v3 : (List Int)) =>
 Option.bind (@des_first N) fun (v4 : (List Int)) =>
 Option.bind (@des_permuted N block1 (64 : Int) v4) fun (v5 : Int) =>
 Option.bind (des_through_L5_R N ((v3, ((((([(16 : Int), (7 : Int), (20 : Int), (21 : Int), (29 : Int), (12 : Int), (28 : Int), (17 : Int)] : List (Int)) ++ ([(1 : Int), (15 : Int), (23 : Int), (26 : Int), (5 : Int), (18 : Int), (31 : Int), (10 : Int)] : List (Int))) ++ ([(2 : Int), (8 : Int), (24 : Int), (14 : Int), (32 : Int), (27 : Int), (3 : Int), (9 : Int)] : List (Int))) ++ ([(19 : Int), (13 : Int), (30 : Int), (6 : Int), (22 : Int), (11 : Int), (4 : Int), (25 : Int)] : List (Int))), ((Go.IntKind.wrap .u32 (@Int.fdiv v5 (@HPow.hPow Int Nat Int (@instHPow Int Nat (@instPowNat Int @Int.instNatPow)) (2 : Int) (@Min.min Nat @instMinNat (Int.toNat (32 : Int)) (@Go.IntKind.bits @Go.IntKind.u64))))), ((Go.IntKind.wrap .u32 v5), (keys0, ((0 : Int), @Unit.unit)))))), @Unit.unit)) fun (v6 : ((Int × (Int × Unit)) × Unit)) =>
 Option.bind (@des_last N) fun (v7 : (List Int)) =>
 Option.bind (@des_permuted N (@Go.bits @Go.BinOp.or @Go.IntKind.u64 (Go.IntKind.wrap .u64 ((Go.IntKind.wrap .u64 v6.1.2.1) * (@HPow.hPow Int Nat Int (@instHPow Int Nat (@instPowNat Int @Int.instNatPow)) (2 : Int) (@Min.min Nat @instMinNat (Int.toNat (32 : Int)) (@Go.IntKind.bits @Go.IntKind.u64))))) (Go.IntKind.wrap .u64 v6.1.1)) (64 : Int) v7) fun (v8 : Int) =>
 some (v8)
theorem des_through_S (N : Nat) (keys0 : Arr (Int) 16) (block1 : Int) : (runK Go.Proofs.Tryd.prog (Ev118 N) 400 56 [(.arr 16 (.int .u64)), (.int .u64)] [(.int .u64)] (keys0, block1, ())).run = des_through N keys0 block1 := by kernel_rfl
noncomputable def Ev119 (N : Nat) : (R : Type) → Env R := Env.addFn (Ev118 N) 56 (fun R => fnK [(.arr 16 (.int .u64)), (.int .u64)] [(.int .u64)] (fun c => des_through N c.1 c.2.1))
theorem Ev119_ok (N : Nat) (R : Type) : EnvOK Go.Proofs.Tryd.prog (Ev119 N R) := EnvOK.addFn hmx (Ev118_ok N R) (Ev118_ok N _) (by kernel_rfl) (fun c => des_through_S N c.1 c.2.1)
noncomputable def des_Turn (N : Nat) (key0 : Int) (block1 : Int) : Option (Int) :=
 Option.bind (@des_Keys N key0) fun (v3 : (Arr Int 16)) =>
 Option.bind (@des_through N v3 block1) fun (v4 : Int) =>
 some (v4)
theorem des_Turn_S (N : Nat) (key0 : Int) (block1 : Int) : (runK Go.Proofs.Tryd.prog (Ev119 N) 400 41 [(.int .u64), (.int .u64)] [(.int .u64)] (key0, block1, ())).run = des_Turn N key0 block1 := by kernel_rfl
theorem des_Turn_C (N : Nat) (key0 : Int) (block1 : Int) (y : Int) (h : des_Turn N key0 block1 = some y) : CallsK Go.Proofs.Tryd.prog 41 (valA [(.int .u64), (.int .u64)] (key0, block1, ())) (tupV (valR [(.int .u64)] y)) := runK_ok hmx (Ev119_ok N _) (okFn_ok (by kernel_rfl)) (by rw [des_Turn_S]; exact h)
noncomputable def Ev120 (N : Nat) : (R : Type) → Env R := Env.addFn (Ev119 N) 41 (fun R => fnK [(.int .u64), (.int .u64)] [(.int .u64)] (fun c => des_Turn N c.1 c.2.1))
theorem Ev120_ok (N : Nat) (R : Type) : EnvOK Go.Proofs.Tryd.prog (Ev120 N R) := EnvOK.addFn hmx (Ev119_ok N R) (Ev119_ok N _) (by kernel_rfl) (fun c => des_Turn_S N c.1 c.2.1)
noncomputable def bitp_Spread_3_bitp_gathered_5_bitp_each_L4_I : LI := ⟨28, 4, [], ⟨[(1, .ty (.int .i64)), (2, .lit (.clo 62 [.box 2 0, .box 3 0, .box 0 0, .box 1 0])), (7, .ty (.int .u8)), (9, .ty (.sl (.int .u8))), (10, .ty (.int .i64)), (11, .ty (.int .i64)), (15, .ty (.int .i64)), (16, .ty (.int .i64))], [.box 3 (.int .i64), .boxp 24 [.own 4], .box 5 (.int .u8), .box 3 (.int .i64), .own (.int .u8) 5]⟩, [(.exit 2, ⟨[(1, .ty (.int .i64)), (2, .lit (.clo 62 [.box 2 0, .box 3 0, .box 0 0, .box 1 0])), (9, .ty (.sl (.int .u8))), (10, .ty (.int .i64)), (11, .ty (.int .i64))], [.box 3 (.int .i64), .boxp 24 [.own 4], .box 5 (.int .u8), .box 3 (.int .i64), .own (.int .u8) 5]⟩)]⟩
noncomputable def bitp_Spread_3_bitp_gathered_5_bitp_each_L4 (N : Nat) (X : (((Int) × ((Int) × ((List (Int)) × ((Int) × ((Int) × ((Int) × ((Int) × Unit))))))) × ((Int) × ((Int) × ((Int) × ((List (Int)) × Unit))))) → Option ((((Int) × ((List (Int)) × ((Int) × ((Int) × Unit)))) × ((Int) × ((Int) × ((Int) × ((List (Int)) × Unit))))))) (many1 : Int) (b7 : Int) (x9 : List (Int)) (x10 : Int) (x11 : Int) (x15 : Int) (x16 : Int) (h0 : Int) (h1 : Int) (h2 : Int) (h3 : List (Int)) : Option ((((Int) × ((List (Int)) × ((Int) × ((Int) × Unit)))) × ((Int) × ((Int) × ((Int) × ((List (Int)) × Unit)))))) :=
 bif (decide (x16 < x15)) then
  bif (decide ((0 : Int) ≤ (Go.IntKind.wrap .i64 ((7 : Int) - x16)))) then
   bif (decide ((Go.IntKind.wrap .i64 (h2 + (1 : Int))) = h0)) then
    bif (roomB ((List.length h3) + (List.length ([(@Go.bits @Go.BinOp.or @Go.IntKind.u8 (Go.IntKind.wrap .u8 (h1 * (@HPow.hPow Int Nat Int (@instHPow Int Nat (@instPowNat Int @Int.instNatPow)) (2 : Int) (@Min.min Nat @instMinNat (Int.toNat (1 : Int)) (@Go.IntKind.bits @Go.IntKind.u8))))) (@Go.bits @Go.BinOp.and @Go.IntKind.u8 (@Int.fdiv b7 (@HPow.hPow Int Nat Int (@instHPow Int Nat (@instPowNat Int @Int.instNatPow)) (2 : Int) (@Min.min Nat @instMinNat (Int.toNat (Go.IntKind.wrap .i64 ((7 : Int) - x16))) (@Go.IntKind.bits @Go.IntKind.u8)))) (1 : Int)))] : List (Int)))) 1) then
     (X ((many1, (b7, (x9, (x10, (x11, (x15, ((Go.IntKind.wrap .i64 (x16 + (1 : Int))), @Unit.unit))))))), (h0, ((0 : Int), ((0 : Int), ((h3 ++ ([(@Go.bits @Go.BinOp.or @Go.IntKind.u8 (Go.IntKind.wrap .u8 (h1 * (@HPow.hPow Int Nat Int (@instHPow Int Nat (@instPowNat Int @Int.instNatPow)) (2 : Int) (@Min.min Nat @instMinNat (Int.toNat (1 : Int)) (@Go.IntKind.bits @Go.IntKind.u8))))) (@Go.bits @Go.BinOp.and @Go.IntKind.u8 (@Int.fdiv b7 (@HPow.hPow Int Nat Int (@instHPow Int Nat (@instPowNat Int @Int.instNatPow)) (2 : Int) (@Min.min Nat @instMinNat (Int.toNat (Go.IntKind.wrap .i64 ((7 : Int) - x16))) (@Go.IntKind.bits @Go.IntKind.u8)))) (1 : Int)))] : List (Int))), @Unit.unit))))))
    else
     none
   else
    (X ((many1, (b7, (x9, (x10, (x11, (x15, ((Go.IntKind.wrap .i64 (x16 + (1 : Int))), @Unit.unit))))))), (h0, ((@Go.bits @Go.BinOp.or @Go.IntKind.u8 (Go.IntKind.wrap .u8 (h1 * (@HPow.hPow Int Nat Int (@instHPow Int Nat (@instPowNat Int @Int.instNatPow)) (2 : Int) (@Min.min Nat @instMinNat (Int.toNat (1 : Int)) (@Go.IntKind.bits @Go.IntKind.u8))))) (@Go.bits @Go.BinOp.and @Go.IntKind.u8 (@Int.fdiv b7 (@HPow.hPow Int Nat Int (@instHPow Int Nat (@instPowNat Int @Int.instNatPow)) (2 : Int) (@Min.min Nat @instMinNat (Int.toNat (Go.IntKind.wrap .i64 ((7 : Int) - x16))) (@Go.IntKind.bits @Go.IntKind.u8)))) (1 : Int))), ((Go.IntKind.wrap .i64 (h2 + (1 : Int))), (h3, @Unit.unit))))))
  else
   none
 else
  some (((many1, (x9, (x10, (x11, @Unit.unit)))), (h0, (h1, (h2, (h3, @Unit.unit))))))
noncomputable def bitp_Spread_3_bitp_gathered_5_bitp_each_L4_R (N : Nat) (c : (((Int) × ((Int) × ((List (Int)) × ((Int) × ((Int) × ((Int) × ((Int) × Unit))))))) × ((Int) × ((Int) × ((Int) × ((List (Int)) × Unit)))))) : Option ((((Int) × ((List (Int)) × ((Int) × ((Int) × Unit)))) × ((Int) × ((Int) × ((Int) × ((List (Int)) × Unit)))))) := gl (fun X c => bitp_Spread_3_bitp_gathered_5_bitp_each_L4 N X c.1.1 c.1.2.1 c.1.2.2.1 c.1.2.2.2.1 c.1.2.2.2.2.1 c.1.2.2.2.2.2.1 c.1.2.2.2.2.2.2.1 c.2.1 c.2.2.1 c.2.2.2.1 c.2.2.2.2.1) N c
theorem bitp_Spread_3_bitp_gathered_5_bitp_each_L4_S (N : Nat) (X : (((Int) × ((Int) × ((List (Int)) × ((Int) × ((Int) × ((Int) × ((Int) × Unit))))))) × ((Int) × ((Int) × ((Int) × ((List (Int)) × Unit))))) → Option ((((Int) × ((List (Int)) × ((Int) × ((Int) × Unit)))) × ((Int) × ((Int) × ((Int) × ((List (Int)) × Unit))))))) (many1 : Int) (b7 : Int) (x9 : List (Int)) (x10 : Int) (x11 : Int) (x15 : Int) (x16 : Int) (h0 : Int) (h1 : Int) (h2 : Int) (h3 : List (Int)) : (roundK Go.Proofs.Tryd.prog (Ev120 N) 400 [63, 5, 54, 3, 39] bitp_Spread_3_bitp_gathered_5_bitp_each_L4_I (loopAt Go.Proofs.Tryd.prog [63, 5, 54, 3, 39] 4) X ((many1, b7, x9, x10, x11, x15, x16, ()), (h0, h1, h2, h3, ()))).run = bitp_Spread_3_bitp_gathered_5_bitp_each_L4 N X many1 b7 x9 x10 x11 x15 x16 h0 h1 h2 h3 := by kernel_rfl
noncomputable def Ev121 (N : Nat) : (R : Type) → Env R := Env.addLp (Ev120 N) [63, 5, 54, 3, 39] 4 4 (fun R => lpK Go.Proofs.Tryd.prog bitp_Spread_3_bitp_gathered_5_bitp_each_L4_I (fun X c => bitp_Spread_3_bitp_gathered_5_bitp_each_L4 N X c.1.1 c.1.2.1 c.1.2.2.1 c.1.2.2.2.1 c.1.2.2.2.2.1 c.1.2.2.2.2.2.1 c.1.2.2.2.2.2.2.1 c.2.1 c.2.2.1 c.2.2.2.1 c.2.2.2.2.1) N)
theorem Ev121_ok (N : Nat) (R : Type) : EnvOK Go.Proofs.Tryd.prog (Ev121 N R) := EnvOK.addLp (Ev120_ok N R) (by kernel_rfl) (lpK_ok (li := bitp_Spread_3_bitp_gathered_5_bitp_each_L4_I) (G := fun X c => bitp_Spread_3_bitp_gathered_5_bitp_each_L4 N X c.1.1 c.1.2.1 c.1.2.2.1 c.1.2.2.2.1 c.1.2.2.2.2.1 c.1.2.2.2.2.2.1 c.1.2.2.2.2.2.2.1 c.2.1 c.2.2.1 c.2.2.2.1 c.2.2.2.2.1) hmx (Ev120_ok N _) (by kernel_rfl) loopAt_sub (fun (X : CT bitp_Spread_3_bitp_gathered_5_bitp_each_L4_I.sh → Option (OT bitp_Spread_3_bitp_gathered_5_bitp_each_L4_I.outs)) (c : CT bitp_Spread_3_bitp_gathered_5_bitp_each_L4_I.sh) => bitp_Spread_3_bitp_gathered_5_bitp_each_L4_S N X c.1.1 c.1.2.1 c.1.2.2.1 c.1.2.2.2.1 c.1.2.2.2.2.1 c.1.2.2.2.2.2.1 c.1.2.2.2.2.2.2.1 c.2.1 c.2.2.1 c.2.2.2.1 c.2.2.2.2.1) N)
noncomputable def bitp_Spread_3_bitp_gathered_5_bitp_each_L1_I : LI := ⟨28, 4, [], ⟨[(1, .ty (.int .i64)), (2, .lit (.clo 62 [.box 2 0, .box 3 0, .box 0 0, .box 1 0])), (9, .ty (.sl (.int .u8))), (10, .ty (.int .i64)), (11, .ty (.int .i64))], [.box 3 (.int .i64), .boxp 24 [.own 4], .box 5 (.int .u8), .box 3 (.int .i64), .own (.int .u8) 5]⟩, [(.exit 0, ⟨[], [.box 3 (.int .i64), .boxp 24 [.own 4], .box 5 (.int .u8), .box 3 (.int .i64), .own (.int .u8) 5]⟩)]⟩
noncomputable def bitp_Spread_3_bitp_gathered_5_bitp_each_L1 (N : Nat) (X : (((Int) × ((List (Int)) × ((Int) × ((Int) × Unit)))) × ((Int) × ((Int) × ((Int) × ((List (Int)) × Unit))))) → Option ((Unit × ((Int) × ((Int) × ((Int) × ((List (Int)) × Unit))))))) (many1 : Int) (x9 : List (Int)) (x10 : Int) (x11 : Int) (h0 : Int) (h1 : Int) (h2 : Int) (h3 : List (Int)) : Option ((Unit × ((Int) × ((Int) × ((Int) × ((List (Int)) × Unit)))))) :=
 bif (decide (x11 < x10)) then
  Option.bind (getI x9 x11) fun (v10 : Int) =>
  Option.bind (bitp_Spread_3_bitp_gathered_5_bitp_each_L4_R N ((many1, (v10, (x9, (x10, (x11, (many1, ((0 : Int), @Unit.unit))))))), (h0, (h1, (h2, (h3, @Unit.unit)))))) fun (v11 : ((Int × ((List Int) × (Int × (Int × Unit)))) × (Int × (Int × (Int × ((List Int) × Unit)))))) =>
  (X ((v11.1.1, (v11.1.2.1, (v11.1.2.2.1, ((Go.IntKind.wrap .i64 (v11.1.2.2.2.1 + (1 : Int))), @Unit.unit)))), (v11.2.1, ((v11.2).snd.1, ((v11.2).snd.2.1, ((v11.2).snd.2.2.1, @Unit.unit))))))
 else
  some ((@Unit.unit, (h0, (h1, (h2, (h3, @Unit.unit))))))
noncomputable def bitp_Spread_3_bitp_gathered_5_bitp_each_L1_R (N : Nat) (c : (((Int) × ((List (Int)) × ((Int) × ((Int) × Unit)))) × ((Int) × ((Int) × ((Int) × ((List (Int)) × Unit)))))) : Option ((Unit × ((Int) × ((Int) × ((Int) × ((List (Int)) × Unit)))))) := gl (fun X c => bitp_Spread_3_bitp_gathered_5_bitp_each_L1 N X c.1.1 c.1.2.1 c.1.2.2.1 c.1.2.2.2.1 c.2.1 c.2.2.1 c.2.2.2.1 c.2.2.2.2.1) N c
theorem bitp_Spread_3_bitp_gathered_5_bitp_each_L1_S (N : Nat) (X : (((Int) × ((List (Int)) × ((Int) × ((Int) × Unit)))) × ((Int) × ((Int) × ((Int) × ((List (Int)) × Unit))))) → Option ((Unit × ((Int) × ((Int) × ((Int) × ((List (Int)) × Unit))))))) (many1 : Int) (x9 : List (Int)) (x10 : Int) (x11 : Int) (h0 : Int) (h1 : Int) (h2 : Int) (h3 : List (Int)) : (roundK Go.Proofs.Tryd.prog (Ev121 N) 400 [63, 5, 54, 3, 39] bitp_Spread_3_bitp_gathered_5_bitp_each_L1_I (loopAt Go.Proofs.Tryd.prog [63, 5, 54, 3, 39] 1) X ((many1, x9, x10, x11, ()), (h0, h1, h2, h3, ()))).run = bitp_Spread_3_bitp_gathered_5_bitp_each_L1 N X many1 x9 x10 x11 h0 h1 h2 h3 := by kernel_rfl
noncomputable def Ev122 (N : Nat) : (R : Type) → Env R := Env.addLp (Ev121 N) [63, 5, 54, 3, 39] 4 1 (fun R => lpK Go.Proofs.Tryd.prog bitp_Spread_3_bitp_gathered_5_bitp_each_L1_I (fun X c => bitp_Spread_3_bitp_gathered_5_bitp_each_L1 N X c.1.1 c.1.2.1 c.1.2.2.1 c.1.2.2.2.1 c.2.1 c.2.2.1 c.2.2.2.1 c.2.2.2.2.1) N)
theorem Ev122_ok (N : Nat) (R : Type) : EnvOK Go.Proofs.Tryd.prog (Ev122 N R) := EnvOK.addLp (Ev121_ok N R) (by kernel_rfl) (lpK_ok (li := bitp_Spread_3_bitp_gathered_5_bitp_each_L1_I) (G := fun X c => bitp_Spread_3_bitp_gathered_5_bitp_each_L1 N X c.1.1 c.1.2.1 c.1.2.2.1 c.1.2.2.2.1 c.2.1 c.2.2.1 c.2.2.2.1 c.2.2.2.2.1) hmx (Ev121_ok N _) (by kernel_rfl) loopAt_sub (fun (X : CT bitp_Spread_3_bitp_gathered_5_bitp_each_L1_I.sh → Option (OT bitp_Spread_3_bitp_gathered_5_bitp_each_L1_I.outs)) (c : CT bitp_Spread_3_bitp_gathered_5_bitp_each_L1_I.sh) => bitp_Spread_3_bitp_gathered_5_bitp_each_L1_S N X c.1.1 c.1.2.1 c.1.2.2.1 c.1.2.2.2.1 c.2.1 c.2.2.1 c.2.2.2.1 c.2.2.2.2.1) N)
noncomputable def math_bits_OnesCount8 (N : Nat) (x0 : Int) : Option (Int) :=
 Option.bind (getI (@Array.toList UInt8 (@List.toArray UInt8 (@List.append UInt8 (@List.append UInt8 ([(@OfNat.ofNat UInt8 (0 : Nat) (@UInt8.instOfNat (0 : Nat))), (@OfNat.ofNat UInt8 (1 : Nat) (@UInt8.instOfNat (1 : Nat))), (@OfNat.ofNat UInt8 (1 : Nat) (@UInt8.instOfNat (1 : Nat))), (@OfNat.ofNat UInt8 (2 : Nat) (@UInt8.instOfNat (2 : Nat))), (@OfNat.ofNat UInt8 (1 : Nat) (@UInt8.instOfNat (1 : Nat))), (@OfNat.ofNat UInt8 (2 : Nat) (@UInt8.instOfNat (2 : Nat))), (@OfNat.ofNat UInt8 (2 : Nat) (@UInt8.instOfNat (2 : Nat))), (@OfNat.ofNat UInt8 (3 : Nat) (@UInt8.instOfNat (3 : Nat))), (@OfNat.ofNat UInt8 (1 : Nat) (@UInt8.instOfNat (1 : Nat))), (@OfNat.ofNat UInt8 (2 : Nat) (@UInt8.instOfNat (2 : Nat))), (@OfNat.ofNat UInt8 (2 : Nat) (@UInt8.instOfNat (2 : Nat))), (@OfNat.ofNat UInt8 (3 : Nat) (@UInt8.instOfNat (3 : Nat))), (@OfNat.ofNat UInt8 (2 : Nat) (@UInt8.instOfNat (2 : Nat))), (@OfNat.ofNat UInt8 (3 : Nat) (@UInt8.instOfNat (3 : Nat))), (@OfNat.ofNat UInt8 (3 : Nat) (@UInt8.instOfNat (3 : Nat))), (@OfNat.ofNat UInt8 (4 : Nat) (@UInt8.instOfNat (4 : Nat))), (@OfNat.ofNat UInt8 (1 : Nat) (@UInt8.instOfNat (1 : Nat))), (@OfNat.ofNat UInt8 (2 : Nat) (@UInt8.instOfNat (2 : Nat))), (@OfNat.ofNat UInt8 (2 : Nat) (@UInt8.instOfNat (2 : Nat))), (@OfNat.ofNat UInt8 (3 : Nat) (@UInt8.instOfNat (3 : Nat))), (@OfNat.ofNat UInt8 (2 : Nat) (@UInt8.instOfNat (2 : Nat))), (@OfNat.ofNat UInt8 (3 : Nat) (@UInt8.instOfNat (3 : Nat))), (@OfNat.ofNat UInt8 (3 : Nat) (@UInt8.instOfNat (3 : Nat))), (@OfNat.ofNat UInt8 (4 : Nat) (@UInt8.instOfNat (4 : Nat))), (@OfNat.ofNat UInt8 (2 : Nat) (@UInt8.instOfNat (2 : Nat))), (@OfNat.ofNat UInt8 (3 : Nat) (@UInt8.instOfNat (3 : Nat))), (@OfNat.ofNat UInt8 (3 : Nat) (@UInt8.instOfNat (3 : Nat))), (@OfNat.ofNat UInt8 (4 : Nat) (@UInt8.instOfNat (4 : Nat))), (@OfNat.ofNat UInt8 (3 : Nat) (@UInt8.instOfNat (3 : Nat))), (@OfNat.ofNat UInt8 (4 : Nat) (@UInt8.instOfNat (4 : Nat))), (@OfNat.ofNat UInt8 (4 : Nat) (@UInt8.instOfNat (4 : Nat))), (@OfNat.ofNat UInt8 (5 : Nat) (@UInt8.instOfNat (5 : Nat))), (@OfNat.ofNat UInt8 (1 : Nat) (@UInt8.instOfNat (1 : Nat))), (@OfNat.ofNat UInt8 (2 : Nat) (@UInt8.instOfNat (2 : Nat))), (@OfNat.ofNat UInt8 (2 : Nat) (@UInt8.instOfNat (2 : Nat))), (@OfNat.ofNat UInt8 (3 : Nat) (@UInt8.instOfNat (3 : Nat))), (@OfNat.ofNat UInt8 (2 : Nat) (@UInt8.instOfNat (2 : Nat))), (@OfNat.ofNat UInt8 (3 : Nat) (@UInt8.instOfNat (3 : Nat))), (@OfNat.ofNat UInt8 (3 : Nat) (@UInt8.instOfNat (3 : Nat))), (@OfNat.ofNat UInt8 (4 : Nat) (@UInt8.instOfNat (4 : Nat))), (@OfNat.ofNat UInt8 (2 : Nat) (@UInt8.instOfNat (2 : Nat))), (@OfNat.ofNat UInt8 (3 : Nat) (@UInt8.instOfNat (3 : Nat))), (@OfNat.ofNat UInt8 (3 : Nat) (@UInt8.instOfNat (3 : Nat))), (@OfNat.ofNat UInt8 (4 : Nat) (@UInt8.instOfNat (4 : Nat))), (@OfNat.ofNat UInt8 (3 : Nat) (@UInt8.instOfNat (3 : Nat))), (@OfNat.ofNat UInt8 (4 : Nat) (@UInt8.instOfNat (4 : Nat))), (@OfNat.ofNat UInt8 (4 : Nat) (@UInt8.instOfNat (4 : Nat))), (@OfNat.ofNat UInt8 (5 : Nat) (@UInt8.instOfNat (5 : Nat))), (@OfNat.ofNat UInt8 (2 : Nat) (@UInt8.instOfNat (2 : Nat))), (@OfNat.ofNat UInt8 (3 : Nat) (@UInt8.instOfNat (3 : Nat))), (@OfNat.ofNat UInt8 (3 : Nat) (@UInt8.instOfNat (3 : Nat))), (@OfNat.ofNat UInt8 (4 : Nat) (@UInt8.instOfNat (4 : Nat))), (@OfNat.ofNat UInt8 (3 : Nat) (@UInt8.instOfNat (3 : Nat))), (@OfNat.ofNat UInt8 (4 : Nat) (@UInt8.instOfNat (4 : Nat))), (@OfNat.ofNat UInt8 (4 : Nat) (@UInt8.instOfNat (4 : Nat))), (@OfNat.ofNat UInt8 (5 : Nat) (@UInt8.instOfNat (5 : Nat))), (@OfNat.ofNat UInt8 (3 : Nat) (@UInt8.instOfNat (3 : Nat))), (@OfNat.ofNat UInt8 (4 : Nat) (@UInt8.instOfNat (4 : Nat))), (@OfNat.ofNat UInt8 (4 : Nat) (@UInt8.instOfNat (4 : Nat))), (@OfNat.ofNat UInt8 (5 : Nat) (@UInt8.instOfNat (5 : Nat))), (@OfNat.ofNat UInt8 (4 : Nat) (@UInt8.instOfNat (4 : Nat))), (@OfNat.ofNat UInt8 (5 : Nat) (@UInt8.instOfNat (5 : Nat))), (@OfNat.ofNat UInt8 (5 : Nat) (@UInt8.instOfNat (5 : Nat))), (@OfNat.ofNat UInt8 (6 : Nat) (@UInt8.instOfNat (6 : Nat)))] : List (UInt8)) ([(@OfNat.ofNat UInt8 (1 : Nat) (@UInt8.instOfNat (1 : Nat))), (@OfNat.ofNat UInt8 (2 : Nat) (@UInt8.instOfNat (2 : Nat))), (@OfNat.ofNat UInt8 (2 : Nat) (@UInt8.instOfNat (2 : Nat))), (@OfNat.ofNat UInt8 (3 : Nat) (@UInt8.instOfNat (3 : Nat))), (@OfNat.ofNat UInt8 (2 : Nat) (@UInt8.instOfNat (2 : Nat))), (@OfNat.ofNat UInt8 (3 : Nat) (@UInt8.instOfNat (3 : Nat))), (@OfNat.ofNat UInt8 (3 : Nat) (@UInt8.instOfNat (3 : Nat))), (@OfNat.ofNat UInt8 (4 : Nat) (@UInt8.instOfNat (4 : Nat))), (@OfNat.ofNat UInt8 (2 : Nat) (@UInt8.instOfNat (2 : Nat))), (@OfNat.ofNat UInt8 (3 : Nat) (@UInt8.instOfNat (3 : Nat))), (@OfNat.ofNat UInt8 (3 : Nat) (@UInt8.instOfNat (3 : Nat))), (@OfNat.ofNat UInt8 (4 : Nat) (@UInt8.instOfNat (4 : Nat))), (@OfNat.ofNat UInt8 (3 : Nat) (@UInt8.instOfNat (3 : Nat))), (@OfNat.ofNat UInt8 (4 : Nat) (@UInt8.instOfNat (4 : Nat))), (@OfNat.ofNat UInt8 (4 : Nat) (@UInt8.instOfNat (4 : Nat))), (@OfNat.ofNat UInt8 (5 : Nat) (@UInt8.instOfNat (5 : Nat))), (@OfNat.ofNat UInt8 (2 : Nat) (@UInt8.instOfNat (2 : Nat))), (@OfNat.ofNat UInt8 (3 : Nat) (@UInt8.instOfNat (3 : Nat))), (@OfNat.ofNat UInt8 (3 : Nat) (@UInt8.instOfNat (3 : Nat))), (@OfNat.ofNat UInt8 (4 : Nat) (@UInt8.instOfNat (4 : Nat))), (@OfNat.ofNat UInt8 (3 : Nat) (@UInt8.instOfNat (3 : Nat))), (@OfNat.ofNat UInt8 (4 : Nat) (@UInt8.instOfNat (4 : Nat))), (@OfNat.ofNat UInt8 (4 : Nat) (@UInt8.instOfNat (4 : Nat))), (@OfNat.ofNat UInt8 (5 : Nat) (@UInt8.instOfNat (5 : Nat))), (@OfNat.ofNat UInt8 (3 : Nat) (@UInt8.instOfNat (3 : Nat))), (@OfNat.ofNat UInt8 (4 : Nat) (@UInt8.instOfNat (4 : Nat))), (@OfNat.ofNat UInt8 (4 : Nat) (@UInt8.instOfNat (4 : Nat))), (@OfNat.ofNat UInt8 (5 : Nat) (@UInt8.instOfNat (5 : Nat))), (@OfNat.ofNat UInt8 (4 : Nat) (@UInt8.instOfNat (4 : Nat))), (@OfNat.ofNat UInt8 (5 : Nat) (@UInt8.instOfNat (5 : Nat))), (@OfNat.ofNat UInt8 (5 : Nat) (@UInt8.instOfNat (5 : Nat))), (@OfNat.ofNat UInt8 (6 : Nat) (@UInt8.instOfNat (6 : Nat))), (@OfNat.ofNat UInt8 (2 : Nat) (@UInt8.instOfNat (2 : Nat))), (@OfNat.ofNat UInt8 (3 : Nat) (@UInt8.instOfNat (3 : Nat))), (@OfNat.ofNat UInt8 (3 : Nat) (@UInt8.instOfNat (3 : Nat))), (@OfNat.ofNat UInt8 (4 : Nat) (@UInt8.instOfNat (4 : Nat))), (@OfNat.ofNat UInt8 (3 : Nat) (@UInt8.instOfNat (3 : Nat))), (@OfNat.ofNat UInt8 (4 : Nat) (@UInt8.instOfNat (4 : Nat))), (@OfNat.ofNat UInt8 (4 : Nat) (@UInt8.instOfNat (4 : Nat))), (@OfNat.ofNat UInt8 (5 : Nat) (@UInt8.instOfNat (5 : Nat))), (@OfNat.ofNat UInt8 (3 : Nat) (@UInt8.instOfNat (3 : Nat))), (@OfNat.ofNat UInt8 (4 : Nat) (@UInt8.instOfNat (4 : Nat))), (@OfNat.ofNat UInt8 (4 : Nat) (@UInt8.instOfNat (4 : Nat))), (@OfNat.ofNat UInt8 (5 : Nat) (@UInt8.instOfNat (5 : Nat))), (@OfNat.ofNat UInt8 (4 : Nat) (@UInt8.instOfNat (4 : Nat))), (@OfNat.ofNat UInt8 (5 : Nat) (@UInt8.instOfNat (5 : Nat))), (@OfNat.ofNat UInt8 (5 : Nat) (@UInt8.instOfNat (5 : Nat))), (@OfNat.ofNat UInt8 (6 : Nat) (@UInt8.instOfNat (6 : Nat))), (@OfNat.ofNat UInt8 (3 : Nat) (@UInt8.instOfNat (3 : Nat))), (@OfNat.ofNat UInt8 (4 : Nat) (@UInt8.instOfNat (4 : Nat))), (@OfNat.ofNat UInt8 (4 : Nat) (@UInt8.instOfNat (4 : Nat))), (@OfNat.ofNat UInt8 (5 : Nat) (@UInt8.instOfNat (5 : Nat))), (@OfNat.ofNat UInt8 (4 : Nat) (@UInt8.instOfNat (4 : Nat))), (@OfNat.ofNat UInt8 (5 : Nat) (@UInt8.instOfNat (5 : Nat))), (@OfNat.ofNat UInt8 (5 : Nat) (@UInt8.instOfNat (5 : Nat))), (@OfNat.ofNat UInt8 (6 : Nat) (@UInt8.instOfNat (6 : Nat))), (@OfNat.ofNat UInt8 (4 : Nat) (@UInt8.instOfNat (4 : Nat))), (@OfNat.ofNat UInt8 (5 : Nat) (@UInt8.instOfNat (5 : Nat))), (@OfNat.ofNat UInt8 (5 : Nat) (@UInt8.instOfNat (5 : Nat))), (@OfNat.ofNat UInt8 (6 : Nat) (@UInt8.instOfNat (6 : Nat))), (@OfNat.ofNat UInt8 (5 : Nat) (@UInt8.instOfNat (5 : Nat))), (@OfNat.ofNat UInt8 (6 : Nat) (@UInt8.instOfNat (6 : Nat))), (@OfNat.ofNat UInt8 (6 : Nat) (@UInt8.instOfNat (6 : Nat))), (@OfNat.ofNat UInt8 (7 : Nat) (@UInt8.instOfNat (7 : Nat)))] : List (UInt8))) (@List.append UInt8 ([(@OfNat.ofNat UInt8 (1 : Nat) (@UInt8.instOfNat (1 : Nat))), (@OfNat.ofNat UInt8 (2 : Nat) (@UInt8.instOfNat (2 : Nat))), (@OfNat.ofNat UInt8 (2 : Nat) (@UInt8.instOfNat (2 : Nat))), (@OfNat.ofNat UInt8 (3 : Nat) (@UInt8.instOfNat (3 : Nat))), (@OfNat.ofNat UInt8 (2 : Nat) (@UInt8.instOfNat (2 : Nat))), (@OfNat.ofNat UInt8 (3 : Nat) (@UInt8.instOfNat (3 : Nat))), (@OfNat.ofNat UInt8 (3 : Nat) (@UInt8.instOfNat (3 : Nat))), (@OfNat.ofNat UInt8 (4 : Nat) (@UInt8.instOfNat (4 : Nat))), (@OfNat.ofNat UInt8 (2 : Nat) (@UInt8.instOfNat (2 : Nat))), (@OfNat.ofNat UInt8 (3 : Nat) (@UInt8.instOfNat (3 : Nat))), (@OfNat.ofNat UInt8 (3 : Nat) (@UInt8.instOfNat (3 : Nat))), (@OfNat.ofNat UInt8 (4 : Nat) (@UInt8.instOfNat (4 : Nat))), (@OfNat.ofNat UInt8 (3 : Nat) (@UInt8.instOfNat (3 : Nat))), (@OfNat.ofNat UInt8 (4 : Nat) (@UInt8.instOfNat (4 : Nat))), (@OfNat.ofNat UInt8 (4 : Nat) (@UInt8.instOfNat (4 : Nat))), (@OfNat.ofNat UInt8 (5 : Nat) (@UInt8.instOfNat (5 : Nat))), (@OfNat.ofNat UInt8 (2 : Nat) (@UInt8.instOfNat (2 : Nat))), (@OfNat.ofNat UInt8 (3 : Nat) (@UInt8.instOfNat (3 : Nat))), (@OfNat.ofNat UInt8 (3 : Nat) (@UInt8.instOfNat (3 : Nat))), (@OfNat.ofNat UInt8 (4 : Nat) (@UInt8.instOfNat (4 : Nat))), (@OfNat.ofNat UInt8 (3 : Nat) (@UInt8.instOfNat (3 : Nat))), (@OfNat.ofNat UInt8 (4 : Nat) (@UInt8.instOfNat (4 : Nat))), (@OfNat.ofNat UInt8 (4 : Nat) (@UInt8.instOfNat (4 : Nat))), (@OfNat.ofNat UInt8 (5 : Nat) (@UInt8.instOfNat (5 : Nat))), (@OfNat.ofNat UInt8 (3 : Nat) (@UInt8.instOfNat (3 : Nat))), (@OfNat.ofNat UInt8 (4 : Nat) (@UInt8.instOfNat (4 : Nat))), (@OfNat.ofNat UInt8 (4 : Nat) (@UInt8.instOfNat (4 : Nat))), (@OfNat.ofNat UInt8 (5 : Nat) (@UInt8.instOfNat (5 : Nat))), (@OfNat.ofNat UInt8 (4 : Nat) (@UInt8.instOfNat (4 : Nat))), (@OfNat.ofNat UInt8 (5 : Nat) (@UInt8.instOfNat (5 : Nat))), (@OfNat.ofNat UInt8 (5 : Nat) (@UInt8.instOfNat (5 : Nat))), (@OfNat.ofNat UInt8 (6 : Nat) (@UInt8.instOfNat (6 : Nat))), (@OfNat.ofNat UInt8 (2 : Nat) (@UInt8.instOfNat (2 : Nat))), (@OfNat.ofNat UInt8 (3 : Nat) (@UInt8.instOfNat (3 : Nat))), (@OfNat.ofNat UInt8 (3 : Nat) (@UInt8.instOfNat (3 : Nat))), (@OfNat.ofNat UInt8 (4 : Nat) (@UInt8.instOfNat (4 : Nat))), (@OfNat.ofNat UInt8 (3 : Nat) (@UInt8.instOfNat (3 : Nat))), (@OfNat.ofNat UInt8 (4 : Nat) (@UInt8.instOfNat (4 : Nat))), (@OfNat.ofNat UInt8 (4 : Nat) (@UInt8.instOfNat (4 : Nat))), (@OfNat.ofNat UInt8 (5 : Nat) (@UInt8.instOfNat (5 : Nat))), (@OfNat.ofNat UInt8 (3 : Nat) (@UInt8.instOfNat (3 : Nat))), (@OfNat.ofNat UInt8 (4 : Nat) (@UInt8.instOfNat (4 : Nat))), (@OfNat.ofNat UInt8 (4 : Nat) (@UInt8.instOfNat (4 : Nat))), (@OfNat.ofNat UInt8 (5 : Nat) (@UInt8.instOfNat (5 : Nat))), (@OfNat.ofNat UInt8 (4 : Nat) (@UInt8.instOfNat (4 : Nat))), (@OfNat.ofNat UInt8 (5 : Nat) (@UInt8.instOfNat (5 : Nat))), (@OfNat.ofNat UInt8 (5 : Nat) (@UInt8.instOfNat (5 : Nat))), (@OfNat.ofNat UInt8 (6 : Nat) (@UInt8.instOfNat (6 : Nat))), (@OfNat.ofNat UInt8 (3 : Nat) (@UInt8.instOfNat (3 : Nat))), (@OfNat.ofNat UInt8 (4 : Nat) (@UInt8.instOfNat (4 : Nat))), (@OfNat.ofNat UInt8 (4 : Nat) (@UInt8.instOfNat (4 : Nat))), (@OfNat.ofNat UInt8 (5 : Nat) (@UInt8.instOfNat (5 : Nat))), (@OfNat.ofNat UInt8 (4 : Nat) (@UInt8.instOfNat (4 : Nat))), (@OfNat.ofNat UInt8 (5 : Nat) (@UInt8.instOfNat (5 : Nat))), (@OfNat.ofNat UInt8 (5 : Nat) (@UInt8.instOfNat (5 : Nat))), (@OfNat.ofNat UInt8 (6 : Nat) (@UInt8.instOfNat (6 : Nat))), (@OfNat.ofNat UInt8 (4 : Nat) (@UInt8.instOfNat (4 : Nat))), (@OfNat.ofNat UInt8 (5 : Nat) (@UInt8.instOfNat (5 : Nat))), (@OfNat.ofNat UInt8 (5 : Nat) (@UInt8.instOfNat (5 : Nat))), (@OfNat.ofNat UInt8 (6 : Nat) (@UInt8.instOfNat (6 : Nat))), (@OfNat.ofNat UInt8 (5 : Nat) (@UInt8.instOfNat (5 : Nat))), (@OfNat.ofNat UInt8 (6 : Nat) (@UInt8.instOfNat (6 : Nat))), (@OfNat.ofNat UInt8 (6 : Nat) (@UInt8.instOfNat (6 : Nat))), (@OfNat.ofNat UInt8 (7 : Nat) (@UInt8.instOfNat (7 : Nat)))] : List (UInt8)) ([(@OfNat.ofNat UInt8 (2 : Nat) (@UInt8.instOfNat (2 : Nat))), (@OfNat.ofNat UInt8 (3 : Nat) (@UInt8.instOfNat (3 : Nat))), (@OfNat.ofNat UInt8 (3 : Nat) (@UInt8.instOfNat (3 : Nat))), (@OfNat.ofNat UInt8 (4 : Nat) (@UInt8.instOfNat (4 : Nat))), (@OfNat.ofNat UInt8 (3 : Nat) (@UInt8.instOfNat (3 : Nat))), (@OfNat.ofNat UInt8 (4 : Nat) (@UInt8.instOfNat (4 : Nat))), (@OfNat.ofNat UInt8 (4 : Nat) (@UInt8.instOfNat (4 : Nat))), (@OfNat.ofNat UInt8 (5 : Nat) (@UInt8.instOfNat (5 : Nat))), (@OfNat.ofNat UInt8 (3 : Nat) (@UInt8.instOfNat (3 : Nat))), (@OfNat.ofNat UInt8 (4 : Nat) (@UInt8.instOfNat (4 : Nat))), (@OfNat.ofNat UInt8 (4 : Nat) (@UInt8.instOfNat (4 : Nat))), (@OfNat.ofNat UInt8 (5 : Nat) (@UInt8.instOfNat (5 : Nat))), (@OfNat.ofNat UInt8 (4 : Nat) (@UInt8.instOfNat (4 : Nat))), (@OfNat.ofNat UInt8 (5 : Nat) (@UInt8.instOfNat (5 : Nat))), (@OfNat.ofNat UInt8 (5 : Nat) (@UInt8.instOfNat (5 : Nat))), (@OfNat.ofNat UInt8 (6 : Nat) (@UInt8.instOfNat (6 : Nat))), (@OfNat.ofNat UInt8 (3 : Nat) (@UInt8.instOfNat (3 : Nat))), (@OfNat.ofNat UInt8 (4 : Nat) (@UInt8.instOfNat (4 : Nat))), (@OfNat.ofNat UInt8 (4 : Nat) (@UInt8.instOfNat (4 : Nat))), (@OfNat.ofNat UInt8 (5 : Nat) (@UInt8.instOfNat (5 : Nat))), (@OfNat.ofNat UInt8 (4 : Nat) (@UInt8.instOfNat (4 : Nat))), (@OfNat.ofNat UInt8 (5 : Nat) (@UInt8.instOfNat (5 : Nat))), (@OfNat.ofNat UInt8 (5 : Nat) (@UInt8.instOfNat (5 : Nat))), (@OfNat.ofNat UInt8 (6 : Nat) (@UInt8.instOfNat (6 : Nat))), (@OfNat.ofNat UInt8 (4 : Nat) (@UInt8.instOfNat (4 : Nat))), (@OfNat.ofNat UInt8 (5 : Nat) (@UInt8.instOfNat (5 : Nat))), (@OfNat.ofNat UInt8 (5 : Nat) (@UInt8.instOfNat (5 : Nat))), (@OfNat.ofNat UInt8 (6 : Nat) (@UInt8.instOfNat (6 : Nat))), (@OfNat.ofNat UInt8 (5 : Nat) (@UInt8.instOfNat (5 : Nat))), (@OfNat.ofNat UInt8 (6 : Nat) (@UInt8.instOfNat (6 : Nat))), (@OfNat.ofNat UInt8 (6 : Nat) (@UInt8.instOfNat (6 : Nat))), (@OfNat.ofNat UInt8 (7 : Nat) (@UInt8.instOfNat (7 : Nat))), (@OfNat.ofNat UInt8 (3 : Nat) (@UInt8.instOfNat (3 : Nat))), (@OfNat.ofNat UInt8 (4 : Nat) (@UInt8.instOfNat (4 : Nat))), (@OfNat.ofNat UInt8 (4 : Nat) (@UInt8.instOfNat (4 : Nat))), (@OfNat.ofNat UInt8 (5 : Nat) (@UInt8.instOfNat (5 : Nat))), (@OfNat.ofNat UInt8 (4 : Nat) (@UInt8.instOfNat (4 : Nat))), (@OfNat.ofNat UInt8 (5 : Nat) (@UInt8.instOfNat (5 : Nat))), (@OfNat.ofNat UInt8 (5 : Nat) (@UInt8.instOfNat (5 : Nat))), (@OfNat.ofNat UInt8 (6 : Nat) (@UInt8.instOfNat (6 : Nat))), (@OfNat.ofNat UInt8 (4 : Nat) (@UInt8.instOfNat (4 : Nat))), (@OfNat.ofNat UInt8 (5 : Nat) (@UInt8.instOfNat (5 : Nat))), (@OfNat.ofNat UInt8 (5 : Nat) (@UInt8.instOfNat (5 : Nat))), (@OfNat.ofNat UInt8 (6 : Nat) (@UInt8.instOfNat (6 : Nat))), (@OfNat.ofNat UInt8 (5 : Nat) (@UInt8.instOfNat (5 : Nat))), (@OfNat.ofNat UInt8 (6 : Nat) (@UInt8.instOfNat (6 : Nat))), (@OfNat.ofNat UInt8 (6 : Nat) (@UInt8.instOfNat (6 : Nat))), (@OfNat.ofNat UInt8 (7 : Nat) (@UInt8.instOfNat (7 : Nat))), (@OfNat.ofNat UInt8 (4 : Nat) (@UInt8.instOfNat (4 : Nat))), (@OfNat.ofNat UInt8 (5 : Nat) (@UInt8.instOfNat (5 : Nat))), (@OfNat.ofNat UInt8 (5 : Nat) (@UInt8.instOfNat (5 : Nat))), (@OfNat.ofNat UInt8 (6 : Nat) (@UInt8.instOfNat (6 : Nat))), (@OfNat.ofNat UInt8 (5 : Nat) (@UInt8.instOfNat (5 : Nat))), (@OfNat.ofNat UInt8 (6 : Nat) (@UInt8.instOfNat (6 : Nat))), (@OfNat.ofNat UInt8 (6 : Nat) (@UInt8.instOfNat (6 : Nat))), (@OfNat.ofNat UInt8 (7 : Nat) (@UInt8.instOfNat (7 : Nat))), (@OfNat.ofNat UInt8 (5 : Nat) (@UInt8.instOfNat (5 : Nat))), (@OfNat.ofNat UInt8 (6 : Nat) (@UInt8.instOfNat (6 : Nat))), (@OfNat.ofNat UInt8 (6 : Nat) (@UInt8.instOfNat (6 : Nat))), (@OfNat.ofNat UInt8 (7 : Nat) (@UInt8.instOfNat (7 : Nat))), (@OfNat.ofNat UInt8 (6 : Nat) (@UInt8.instOfNat (6 : Nat))), (@OfNat.ofNat UInt8 (7 : Nat) (@UInt8.instOfNat (7 : Nat))), (@OfNat.ofNat UInt8 (7 : Nat) (@UInt8.instOfNat (7 : Nat))), (@OfNat.ofNat UInt8 (8 : Nat) (@UInt8.instOfNat (8 : Nat)))] : List (UInt8)))))) x0) fun (v2 : UInt8) =>
 some ((Go.IntKind.wrap .i64 (((@UInt8.toNat v2) : Nat) : Int)))
theorem math_bits_OnesCount8_S (N : Nat) (x0 : Int) : (runK Go.Proofs.Tryd.prog (Ev122 N) 400 64 [(.int .u8)] [(.int .i64)] (x0, ())).run = math_bits_OnesCount8 N x0 := by kernel_rfl
noncomputable def Ev123 (N : Nat) : (R : Type) → Env R := Env.addFn (Ev122 N) 64 (fun R => fnK [(.int .u8)] [(.int .i64)] (fun c => math_bits_OnesCount8 N c.1))
theorem Ev123_ok (N : Nat) (R : Type) : EnvOK Go.Proofs.Tryd.prog (Ev123 N R) := EnvOK.addFn hmx (Ev122_ok N R) (Ev122_ok N _) (by kernel_rfl) (fun c => math_bits_OnesCount8_S N c.1)
noncomputable def bitp_Odd (N : Nat) (b0 : Int) : Option (Int) :=
 Option.bind (@math_bits_OnesCount8 N (@Go.bits @Go.BinOp.andNot @Go.IntKind.u8 b0 (1 : Int))) fun (v2 : Int) =>
 bif (decide ((@Int.tmod v2 (2 : Int)) = (0 : Int))) then
  some ((@Go.bits @Go.BinOp.or @Go.IntKind.u8 (@Go.bits @Go.BinOp.andNot @Go.IntKind.u8 b0 (1 : Int)) (1 : Int)))
 else
  some ((@Go.bits @Go.BinOp.andNot @Go.IntKind.u8 b0 (1 : Int)))
theorem bitp_Odd_S (N : Nat) (b0 : Int) : (runK Go.Proofs.Tryd.prog (Ev123 N) 400 55 [(.int .u8)] [(.int .u8)] (b0, ())).run = bitp_Odd N b0 := by kernel_rfl
noncomputable def Ev124 (N : Nat) : (R : Type) → Env R := Env.addFn (Ev123 N) 55 (fun R => fnK [(.int .u8)] [(.int .u8)] (fun c => bitp_Odd N c.1))
theorem Ev124_ok (N : Nat) (R : Type) : EnvOK Go.Proofs.Tryd.prog (Ev124 N R) := EnvOK.addFn hmx (Ev123_ok N R) (Ev123_ok N _) (by kernel_rfl) (fun c => bitp_Odd_S N c.1)
noncomputable def bitp_Spread_L5_I : LI := ⟨27, 0, [], ⟨[(4, .lit (.own 0)), (12, .lit (.own 0)), (13, .ty (.int .i64)), (14, .ty (.int .i64))], [.own (.int .u8) 5]⟩, [(.exit 0, ⟨[(4, .lit (.own 0))], [.own (.int .u8) 5]⟩)]⟩
noncomputable def bitp_Spread_L5 (N : Nat) (X : (((Int) × ((Int) × Unit)) × ((List (Int)) × Unit)) → Option ((Unit × ((List (Int)) × Unit)))) (x13 : Int) (x14 : Int) (h0 : List (Int)) : Option ((Unit × ((List (Int)) × Unit))) :=
 bif (decide (x14 < x13)) then
  bif (decide ((0 : Int) ≤ x14 ∧ x14 < (((List.length h0) : Nat) : Int))) then
   Option.bind (@GetElem?.getElem? (List Int) Nat Int (fun (as5 : (List Int)) => (fun (i6 : Nat) => (@LT.lt Nat @instLTNat i6 (List.length as5)))) (@List.instGetElem?NatLtLength Int) h0 (Int.toNat x14)) fun (v5 : Int) =>
   Option.bind (@bitp_Odd N (Go.IntKind.wrap .u8 (v5 * (@HPow.hPow Int Nat Int (@instHPow Int Nat (@instPowNat Int @Int.instNatPow)) (2 : Int) (@Min.min Nat @instMinNat (Int.toNat (1 : Int)) (@Go.IntKind.bits @Go.IntKind.u8)))))) fun (v6 : Int) =>
   bif (decide ((0 : Int) ≤ x14 ∧ x14 < (((List.length h0) : Nat) : Int))) then
    Option.bind (@GetElem?.getElem? (List Int) Nat Int (fun (as7 : (List Int)) => (fun (i8 : Nat) => (@LT.lt Nat @instLTNat i8 (List.length as7)))) (@List.instGetElem?NatLtLength Int) h0 (Int.toNat x14)) fun (v7 : Int) =>
    (X ((x13, ((Go.IntKind.wrap .i64 (x14 + (1 : Int))), @Unit.unit)), ((@List.set Int h0 (Int.toNat x14) v6), @Unit.unit)))
   else
    none
  else
   none
 else
  some ((@Unit.unit, (h0, @Unit.unit)))
noncomputable def bitp_Spread_L5_R (N : Nat) (c : (((Int) × ((Int) × Unit)) × ((List (Int)) × Unit))) : Option ((Unit × ((List (Int)) × Unit))) := gl (fun X c => bitp_Spread_L5 N X c.1.1 c.1.2.1 c.2.1) N c
theorem bitp_Spread_L5_S (N : Nat) (X : (((Int) × ((Int) × Unit)) × ((List (Int)) × Unit)) → Option ((Unit × ((List (Int)) × Unit)))) (x13 : Int) (x14 : Int) (h0 : List (Int)) : (roundK Go.Proofs.Tryd.prog (Ev124 N) 400 [39] bitp_Spread_L5_I (loopAt Go.Proofs.Tryd.prog [39] 5) X ((x13, x14, ()), (h0, ()))).run = bitp_Spread_L5 N X x13 x14 h0 := by kernel_rfl
noncomputable def Ev125 (N : Nat) : (R : Type) → Env R := Env.addLp (Ev124 N) [39] 0 5 (fun R => lpK Go.Proofs.Tryd.prog bitp_Spread_L5_I (fun X c => bitp_Spread_L5 N X c.1.1 c.1.2.1 c.2.1) N)
theorem Ev125_ok (N : Nat) (R : Type) : EnvOK Go.Proofs.Tryd.prog (Ev125 N R) := EnvOK.addLp (Ev124_ok N R) (by kernel_rfl) (lpK_ok (li := bitp_Spread_L5_I) (G := fun X c => bitp_Spread_L5 N X c.1.1 c.1.2.1 c.2.1) hmx (Ev124_ok N _) (by kernel_rfl) loopAt_sub (fun (X : CT bitp_Spread_L5_I.sh → Option (OT bitp_Spread_L5_I.outs)) (c : CT bitp_Spread_L5_I.sh) => bitp_Spread_L5_S N X c.1.1 c.1.2.1 c.2.1) N)
noncomputable def bitp_Spread (N : Nat) (key0 : List (Int)) : Option ((List (Int)) × Int) :=
 bif (!(decide ((((List.length key0) : Nat) : Int) = (7 : Int)))) then
  some ((([] : List (Int)), (1 : Int)))
 else
  Option.bind (bitp_Spread_3_bitp_gathered_5_bitp_each_L1_R N (((8 : Int), (key0, ((((List.length key0) : Nat) : Int), ((0 : Int), @Unit.unit)))), ((7 : Int), ((0 : Int), ((0 : Int), (([] : List (Int)), @Unit.unit)))))) fun (v2 : (Unit × (Int × (Int × (Int × ((List Int) × Unit)))))) =>
  Option.bind (bitp_Spread_L5_R N (((((List.length (v2.2).snd.2.2.1) : Nat) : Int), ((0 : Int), @Unit.unit)), ((v2.2).snd.2.2.1, @Unit.unit))) fun (v3 : (Unit × ((List Int) × Unit))) =>
  some ((v3.2.1, (0 : Int)))
theorem bitp_Spread_S (N : Nat) (key0 : List (Int)) : (runK Go.Proofs.Tryd.prog (Ev125 N) 400 39 [(.sl (.int .u8))] [(.sl (.int .u8)), (.int .i64)] (key0, ())).run = bitp_Spread N key0 := by kernel_rfl
theorem bitp_Spread_C (N : Nat) (key0 : List (Int)) (y : (List (Int)) × Int) (h : bitp_Spread N key0 = some y) : CallsK Go.Proofs.Tryd.prog 39 (valA [(.sl (.int .u8))] (key0, ())) (tupV (valR [(.sl (.int .u8)), (.int .i64)] y)) := runK_ok hmx (Ev125_ok N _) (okFn_ok (by kernel_rfl)) (by rw [bitp_Spread_S]; exact h)
noncomputable def Ev126 (N : Nat) : (R : Type) → Env R := Env.addFn (Ev125 N) 39 (fun R => fnK [(.sl (.int .u8))] [(.sl (.int .u8)), (.int .i64)] (fun c => bitp_Spread N c.1))
theorem Ev126_ok (N : Nat) (R : Type) : EnvOK Go.Proofs.Tryd.prog (Ev126 N R) := EnvOK.addFn hmx (Ev125_ok N R) (Ev125_ok N _) (by kernel_rfl) (fun c => bitp_Spread_S N c.1)
noncomputable def des_Seven (N : Nat) (key0 : List (Int)) (block1 : List (Int)) : Option ((List (Int)) × Int) :=
 Option.bind (@bitp_Spread N key0) fun (v3 : ((List Int) × Int)) =>
 bif (!(decide (v3.2 = (0 : Int)))) then
  some ((([] : List (Int)), (1 : Int)))
 else
  bif (@cond Bool @Bool.false @Bool.true (!(decide ((((List.length block1) : Nat) : Int) = (8 : Int))))) then
   some ((([] : List (Int)), (1 : Int)))
  else
   Option.bind (@octs_Get N v3.1 @Bool.false) fun (v4 : (Int × Int)) =>
   Option.bind (@octs_Get N block1 @Bool.false) fun (v5 : (Int × Int)) =>
   Option.bind (@des_Turn N v4.1 v5.1) fun (v6 : Int) =>
   Option.bind (@octs_Put N v6 (8 : Int) @Bool.false) fun (v7 : ((List Int) × Int)) =>
   some ((v7.1, v7.2))
theorem des_Seven_S (N : Nat) (key0 : List (Int)) (block1 : List (Int)) : (runK Go.Proofs.Tryd.prog (Ev126 N) 400 23 [(.sl (.int .u8)), (.sl (.int .u8))] [(.sl (.int .u8)), (.int .i64)] (key0, block1, ())).run = des_Seven N key0 block1 := by kernel_rfl
theorem des_Seven_C (N : Nat) (key0 : List (Int)) (block1 : List (Int)) (y : (List (Int)) × Int) (h : des_Seven N key0 block1 = some y) : CallsK Go.Proofs.Tryd.prog 23 (valA [(.sl (.int .u8)), (.sl (.int .u8))] (key0, block1, ())) (tupV (valR [(.sl (.int .u8)), (.int .i64)] y)) := runK_ok hmx (Ev126_ok N _) (okFn_ok (by kernel_rfl)) (by rw [des_Seven_S]; exact h)
noncomputable def Ev127 (N : Nat) : (R : Type) → Env R := Env.addFn (Ev126 N) 23 (fun R => fnK [(.sl (.int .u8)), (.sl (.int .u8))] [(.sl (.int .u8)), (.int .i64)] (fun c => des_Seven N c.1 c.2.1))
theorem Ev127_ok (N : Nat) (R : Type) : EnvOK Go.Proofs.Tryd.prog (Ev127 N R) := EnvOK.addFn hmx (Ev126_ok N R) (Ev126_ok N _) (by kernel_rfl) (fun c => des_Seven_S N c.1 c.2.1)
noncomputable def ref01_Same_L4_I : LI := ⟨26, 0, [], ⟨[(0, .ty (.sl (.int .u8))), (1, .ty (.sl (.int .u8))), (5, .ty (.int .i64))], []⟩, [(.ret, ⟨[(4, .ty .bool)], []⟩), (.exit 0, ⟨[], []⟩)]⟩
noncomputable def ref01_Same_L4 (N : Nat) (X : (((List (Int)) × ((List (Int)) × ((Int) × Unit))) × Unit) → Option (((((Bool) × Unit) × Unit) ⊕ (Unit × Unit)))) (a0 : List (Int)) (b1 : List (Int)) (i5 : Int) : Option (((((Bool) × Unit) × Unit) ⊕ (Unit × Unit))) :=
 bif (decide (i5 < (((List.length a0) : Nat) : Int))) then
  Option.bind (getI a0 i5) fun (v5 : Int) =>
  Option.bind (getI b1 i5) fun (v6 : Int) =>
  bif (!(decide (v5 = v6))) then
   some ((.inl ((@Bool.false, @Unit.unit), @Unit.unit)))
  else
   (X ((a0, (b1, ((Go.IntKind.wrap .i64 (i5 + (1 : Int))), @Unit.unit))), @Unit.unit))
 else
  some ((.inr (@Unit.unit, @Unit.unit)))
noncomputable def ref01_Same_L4_R (N : Nat) (c : (((List (Int)) × ((List (Int)) × ((Int) × Unit))) × Unit)) : Option (((((Bool) × Unit) × Unit) ⊕ (Unit × Unit))) := gl (fun X c => ref01_Same_L4 N X c.1.1 c.1.2.1 c.1.2.2.1) N c
theorem ref01_Same_L4_S (N : Nat) (X : (((List (Int)) × ((List (Int)) × ((Int) × Unit))) × Unit) → Option (((((Bool) × Unit) × Unit) ⊕ (Unit × Unit)))) (a0 : List (Int)) (b1 : List (Int)) (i5 : Int) : (roundK Go.Proofs.Tryd.prog (Ev127 N) 400 [7] ref01_Same_L4_I (loopAt Go.Proofs.Tryd.prog [7] 4) X ((a0, b1, i5, ()), ())).run = ref01_Same_L4 N X a0 b1 i5 := by kernel_rfl
noncomputable def Ev128 (N : Nat) : (R : Type) → Env R := Env.addLp (Ev127 N) [7] 0 4 (fun R => lpK Go.Proofs.Tryd.prog ref01_Same_L4_I (fun X c => ref01_Same_L4 N X c.1.1 c.1.2.1 c.1.2.2.1) N)
theorem Ev128_ok (N : Nat) (R : Type) : EnvOK Go.Proofs.Tryd.prog (Ev128 N R) := EnvOK.addLp (Ev127_ok N R) (by kernel_rfl) (lpK_ok (li := ref01_Same_L4_I) (G := fun X c => ref01_Same_L4 N X c.1.1 c.1.2.1 c.1.2.2.1) hmx (Ev127_ok N _) (by kernel_rfl) loopAt_sub (fun (X : CT ref01_Same_L4_I.sh → Option (OT ref01_Same_L4_I.outs)) (c : CT ref01_Same_L4_I.sh) => ref01_Same_L4_S N X c.1.1 c.1.2.1 c.1.2.2.1) N)
noncomputable def ref01_Same (N : Nat) (a0 : List (Int)) (b1 : List (Int)) : Option (Bool) :=
 bif (!(decide ((((List.length a0) : Nat) : Int) = (((List.length b1) : Nat) : Int)))) then
  some (@Bool.false)
 else
  Option.bind (ref01_Same_L4_R N ((a0, (b1, ((0 : Int), @Unit.unit))), @Unit.unit)) fun (v3 : (((Bool × Unit) × Unit) ⊕ (Unit × Unit))) =>
  Sum.elim
   (fun (v4 : ((Bool × Unit) × Unit)) =>
   some (v4.1.1))
   (fun (v4 : (Unit × Unit)) =>
   some (@Bool.true)) v3
theorem ref01_Same_S (N : Nat) (a0 : List (Int)) (b1 : List (Int)) : (runK Go.Proofs.Tryd.prog (Ev128 N) 400 7 [(.sl (.int .u8)), (.sl (.int .u8))] [.bool] (a0, b1, ())).run = ref01_Same N a0 b1 := by kernel_rfl
theorem ref01_Same_C (N : Nat) (a0 : List (Int)) (b1 : List (Int)) (y : Bool) (h : ref01_Same N a0 b1 = some y) : CallsK Go.Proofs.Tryd.prog 7 (valA [(.sl (.int .u8)), (.sl (.int .u8))] (a0, b1, ())) (tupV (valR [.bool] y)) := runK_ok hmx (Ev128_ok N _) (okFn_ok (by kernel_rfl)) (by rw [ref01_Same_S]; exact h)
noncomputable def Ev129 (N : Nat) : (R : Type) → Env R := Env.addFn (Ev128 N) 7 (fun R => fnK [(.sl (.int .u8)), (.sl (.int .u8))] [.bool] (fun c => ref01_Same N c.1 c.2.1))
theorem Ev129_ok (N : Nat) (R : Type) : EnvOK Go.Proofs.Tryd.prog (Ev129 N R) := EnvOK.addFn hmx (Ev128_ok N R) (Ev128_ok N _) (by kernel_rfl) (fun c => ref01_Same_S N c.1 c.2.1)
noncomputable def octs_Same_L3_I : LI := ⟨35, 0, [], ⟨[(0, .ty (.sl (.int .u8))), (1, .ty (.sl (.int .u8))), (5, .ty (.int .i64)), (16, .ty (.int .i64)), (17, .ty (.int .i64))], []⟩, [(.exit 0, ⟨[(5, .ty (.int .i64))], []⟩)]⟩
noncomputable def octs_Same_L3 (N : Nat) (X : (((List (Int)) × ((List (Int)) × ((Int) × ((Int) × ((Int) × Unit))))) × Unit) → Option ((((Int) × Unit) × Unit))) (a0 : List (Int)) (b1 : List (Int)) (differ5 : Int) (x16 : Int) (x17 : Int) : Option ((((Int) × Unit) × Unit)) :=
 bif (decide (x17 < x16)) then
  Option.bind (getI a0 x17) fun (v7 : Int) =>
  Option.bind (getI b1 x17) fun (v8 : Int) =>
  (X ((a0, (b1, ((@Go.bits @Go.BinOp.or @Go.IntKind.i64 differ5 (Go.IntKind.wrap .i64 (@Go.bits @Go.BinOp.xor @Go.IntKind.u8 v7 v8))), (x16, ((Go.IntKind.wrap .i64 (x17 + (1 : Int))), @Unit.unit))))), @Unit.unit))
 else
  some (((differ5, @Unit.unit), @Unit.unit))
noncomputable def octs_Same_L3_R (N : Nat) (c : (((List (Int)) × ((List (Int)) × ((Int) × ((Int) × ((Int) × Unit))))) × Unit)) : Option ((((Int) × Unit) × Unit)) := gl (fun X c => octs_Same_L3 N X c.1.1 c.1.2.1 c.1.2.2.1 c.1.2.2.2.1 c.1.2.2.2.2.1) N c
theorem octs_Same_L3_S (N : Nat) (X : (((List (Int)) × ((List (Int)) × ((Int) × ((Int) × ((Int) × Unit))))) × Unit) → Option ((((Int) × Unit) × Unit))) (a0 : List (Int)) (b1 : List (Int)) (differ5 : Int) (x16 : Int) (x17 : Int) : (roundK Go.Proofs.Tryd.prog (Ev129 N) 400 [12] octs_Same_L3_I (loopAt Go.Proofs.Tryd.prog [12] 3) X ((a0, b1, differ5, x16, x17, ()), ())).run = octs_Same_L3 N X a0 b1 differ5 x16 x17 := by kernel_rfl
noncomputable def Ev130 (N : Nat) : (R : Type) → Env R := Env.addLp (Ev129 N) [12] 0 3 (fun R => lpK Go.Proofs.Tryd.prog octs_Same_L3_I (fun X c => octs_Same_L3 N X c.1.1 c.1.2.1 c.1.2.2.1 c.1.2.2.2.1 c.1.2.2.2.2.1) N)
theorem Ev130_ok (N : Nat) (R : Type) : EnvOK Go.Proofs.Tryd.prog (Ev130 N R) := EnvOK.addLp (Ev129_ok N R) (by kernel_rfl) (lpK_ok (li := octs_Same_L3_I) (G := fun X c => octs_Same_L3 N X c.1.1 c.1.2.1 c.1.2.2.1 c.1.2.2.2.1 c.1.2.2.2.2.1) hmx (Ev129_ok N _) (by kernel_rfl) loopAt_sub (fun (X : CT octs_Same_L3_I.sh → Option (OT octs_Same_L3_I.outs)) (c : CT octs_Same_L3_I.sh) => octs_Same_L3_S N X c.1.1 c.1.2.1 c.1.2.2.1 c.1.2.2.2.1 c.1.2.2.2.2.1) N)
noncomputable def octs_Same (N : Nat) (a0 : List (Int)) (b1 : List (Int)) : Option (Bool) :=
 Option.bind (octs_Same_L3_R N ((a0, (b1, ((@Go.bits @Go.BinOp.xor @Go.IntKind.i64 (((List.length a0) : Nat) : Int) (((List.length b1) : Nat) : Int)), ((@minI (((List.length a0) : Nat) : Int) (((List.length b1) : Nat) : Int)), ((0 : Int), @Unit.unit))))), @Unit.unit)) fun (v3 : ((Int × Unit) × Unit)) =>
 some ((decide (v3.1.1 = (0 : Int))))
theorem octs_Same_S (N : Nat) (a0 : List (Int)) (b1 : List (Int)) : (runK Go.Proofs.Tryd.prog (Ev130 N) 400 12 [(.sl (.int .u8)), (.sl (.int .u8))] [.bool] (a0, b1, ())).run = octs_Same N a0 b1 := by kernel_rfl
theorem octs_Same_C (N : Nat) (a0 : List (Int)) (b1 : List (Int)) (y : Bool) (h : octs_Same N a0 b1 = some y) : CallsK Go.Proofs.Tryd.prog 12 (valA [(.sl (.int .u8)), (.sl (.int .u8))] (a0, b1, ())) (tupV (valR [.bool] y)) := runK_ok hmx (Ev130_ok N _) (okFn_ok (by kernel_rfl)) (by rw [octs_Same_S]; exact h)
noncomputable def Ev131 (N : Nat) : (R : Type) → Env R := Env.addFn (Ev130 N) 12 (fun R => fnK [(.sl (.int .u8)), (.sl (.int .u8))] [.bool] (fun c => octs_Same N c.1 c.2.1))
theorem Ev131_ok (N : Nat) (R : Type) : EnvOK Go.Proofs.Tryd.prog (Ev131 N R) := EnvOK.addFn hmx (Ev130_ok N R) (Ev130_ok N _) (by kernel_rfl) (fun c => octs_Same_S N c.1 c.2.1)
noncomputable def Ev132 (N : Nat) : (R : Type) → Env R := Env.addMv (Ev131 N) [(19, 5)]
theorem Ev132_ok (N : Nat) (R : Type) : EnvOK Go.Proofs.Tryd.prog (Ev132 N R) := EnvOK.addMv (Ev131_ok N R) [(19, 5)]
noncomputable def octs_Hex_L3_I : LI := ⟨28, 0, [], ⟨[(3, .lit (.own 0)), (10, .ty (.sl (.int .u8))), (11, .ty (.int .i64)), (12, .ty (.int .i64))], [.own (.int .u8) 5]⟩, [(.exit 0, ⟨[(3, .lit (.own 0))], [.own (.int .u8) 5]⟩)]⟩
noncomputable def octs_Hex_L3 (N : Nat) (X : (((List (Int)) × ((Int) × ((Int) × Unit))) × ((List (Int)) × Unit)) → Option ((Unit × ((List (Int)) × Unit)))) (x10 : List (Int)) (x11 : Int) (x12 : Int) (h0 : List (Int)) : Option ((Unit × ((List (Int)) × Unit))) :=
 bif (decide (x12 < x11)) then
  Option.bind (getI x10 x12) fun (v6 : Int) =>
  Option.bind (getI (@Array.toList UInt8 (@List.toArray UInt8 ([(@OfNat.ofNat UInt8 (48 : Nat) (@UInt8.instOfNat (48 : Nat))), (@OfNat.ofNat UInt8 (49 : Nat) (@UInt8.instOfNat (49 : Nat))), (@OfNat.ofNat UInt8 (50 : Nat) (@UInt8.instOfNat (50 : Nat))), (@OfNat.ofNat UInt8 (51 : Nat) (@UInt8.instOfNat (51 : Nat))), (@OfNat.ofNat UInt8 (52 : Nat) (@UInt8.instOfNat (52 : Nat))), (@OfNat.ofNat UInt8 (53 : Nat) (@UInt8.instOfNat (53 : Nat))), (@OfNat.ofNat UInt8 (54 : Nat) (@UInt8.instOfNat (54 : Nat))), (@OfNat.ofNat UInt8 (55 : Nat) (@UInt8.instOfNat (55 : Nat))), (@OfNat.ofNat UInt8 (56 : Nat) (@UInt8.instOfNat (56 : Nat))), (@OfNat.ofNat UInt8 (57 : Nat) (@UInt8.instOfNat (57 : Nat))), (@OfNat.ofNat UInt8 (65 : Nat) (@UInt8.instOfNat (65 : Nat))), (@OfNat.ofNat UInt8 (66 : Nat) (@UInt8.instOfNat (66 : Nat))), (@OfNat.ofNat UInt8 (67 : Nat) (@UInt8.instOfNat (67 : Nat))), (@OfNat.ofNat UInt8 (68 : Nat) (@UInt8.instOfNat (68 : Nat))), (@OfNat.ofNat UInt8 (69 : Nat) (@UInt8.instOfNat (69 : Nat))), (@OfNat.ofNat UInt8 (70 : Nat) (@UInt8.instOfNat (70 : Nat)))] : List (UInt8)))) (@Int.fdiv v6 (@HPow.hPow Int Nat Int (@instHPow Int Nat (@instPowNat Int @Int.instNatPow)) (2 : Int) (@Min.min Nat @instMinNat (Int.toNat (4 : Int)) (@Go.IntKind.bits @Go.IntKind.u8))))) fun (v7 : UInt8) =>
  Option.bind (getI (@Array.toList UInt8 (@List.toArray UInt8 ([(@OfNat.ofNat UInt8 (48 : Nat) (@UInt8.instOfNat (48 : Nat))), (@OfNat.ofNat UInt8 (49 : Nat) (@UInt8.instOfNat (49 : Nat))), (@OfNat.ofNat UInt8 (50 : Nat) (@UInt8.instOfNat (50 : Nat))), (@OfNat.ofNat UInt8 (51 : Nat) (@UInt8.instOfNat (51 : Nat))), (@OfNat.ofNat UInt8 (52 : Nat) (@UInt8.instOfNat (52 : Nat))), (@OfNat.ofNat UInt8 (53 : Nat) (@UInt8.instOfNat (53 : Nat))), (@OfNat.ofNat UInt8 (54 : Nat) (@UInt8.instOfNat (54 : Nat))), (@OfNat.ofNat UInt8 (55 : Nat) (@UInt8.instOfNat (55 : Nat))), (@OfNat.ofNat UInt8 (56 : Nat) (@UInt8.instOfNat (56 : Nat))), (@OfNat.ofNat UInt8 (57 : Nat) (@UInt8.instOfNat (57 : Nat))), (@OfNat.ofNat UInt8 (65 : Nat) (@UInt8.instOfNat (65 : Nat))), (@OfNat.ofNat UInt8 (66 : Nat) (@UInt8.instOfNat (66 : Nat))), (@OfNat.ofNat UInt8 (67 : Nat) (@UInt8.instOfNat (67 : Nat))), (@OfNat.ofNat UInt8 (68 : Nat) (@UInt8.instOfNat (68 : Nat))), (@OfNat.ofNat UInt8 (69 : Nat) (@UInt8.instOfNat (69 : Nat))), (@OfNat.ofNat UInt8 (70 : Nat) (@UInt8.instOfNat (70 : Nat)))] : List (UInt8)))) (@Go.bits @Go.BinOp.and @Go.IntKind.u8 v6 (15 : Int))) fun (v8 : UInt8) =>
  bif (roomB ((List.length h0) + (List.length ([(((@UInt8.toNat v7) : Nat) : Int), (((@UInt8.toNat v8) : Nat) : Int)] : List (Int)))) 1) then
   (X ((x10, (x11, ((Go.IntKind.wrap .i64 (x12 + (1 : Int))), @Unit.unit))), ((h0 ++ ([(((@UInt8.toNat v7) : Nat) : Int), (((@UInt8.toNat v8) : Nat) : Int)] : List (Int))), @Unit.unit)))
  else
   none
 else
  some ((@Unit.unit, (h0, @Unit.unit)))
noncomputable def octs_Hex_L3_R (N : Nat) (c : (((List (Int)) × ((Int) × ((Int) × Unit))) × ((List (Int)) × Unit))) : Option ((Unit × ((List (Int)) × Unit))) := gl (fun X c => octs_Hex_L3 N X c.1.1 c.1.2.1 c.1.2.2.1 c.2.1) N c
theorem octs_Hex_L3_S (N : Nat) (X : (((List (Int)) × ((Int) × ((Int) × Unit))) × ((List (Int)) × Unit)) → Option ((Unit × ((List (Int)) × Unit)))) (x10 : List (Int)) (x11 : Int) (x12 : Int) (h0 : List (Int)) : (roundK Go.Proofs.Tryd.prog (Ev132 N) 400 [19] octs_Hex_L3_I (loopAt Go.Proofs.Tryd.prog [19] 3) X ((x10, x11, x12, ()), (h0, ()))).run = octs_Hex_L3 N X x10 x11 x12 h0 := by kernel_rfl
noncomputable def Ev133 (N : Nat) : (R : Type) → Env R := Env.addLp (Ev132 N) [19] 0 3 (fun R => lpK Go.Proofs.Tryd.prog octs_Hex_L3_I (fun X c => octs_Hex_L3 N X c.1.1 c.1.2.1 c.1.2.2.1 c.2.1) N)
theorem Ev133_ok (N : Nat) (R : Type) : EnvOK Go.Proofs.Tryd.prog (Ev133 N R) := EnvOK.addLp (Ev132_ok N R) (by kernel_rfl) (lpK_ok (li := octs_Hex_L3_I) (G := fun X c => octs_Hex_L3 N X c.1.1 c.1.2.1 c.1.2.2.1 c.2.1) hmx (Ev132_ok N _) (by kernel_rfl) loopAt_sub (fun (X : CT octs_Hex_L3_I.sh → Option (OT octs_Hex_L3_I.outs)) (c : CT octs_Hex_L3_I.sh) => octs_Hex_L3_S N X c.1.1 c.1.2.1 c.1.2.2.1 c.2.1) N)
noncomputable def octs_Hex (N : Nat) (b0 : List (Int)) : Option (List UInt8) :=
 bif ((decide ((0 : Int) ≤ (0 : Int) ∧ (0 : Int) ≤ (Go.IntKind.wrap .i64 ((2 : Int) * (((List.length b0) : Nat) : Int))))) && (roomB (Int.toNat (Go.IntKind.wrap .i64 ((2 : Int) * (((List.length b0) : Nat) : Int)))) 1)) then
  Option.bind (octs_Hex_L3_R N ((b0, ((((List.length b0) : Nat) : Int), ((0 : Int), @Unit.unit))), ((@List.replicate Int (Int.toNat (0 : Int)) (0 : Int)), @Unit.unit))) fun (v2 : (Unit × ((List Int) × Unit))) =>
  Option.bind (@toBy v2.2.1) fun (v3 : (List UInt8)) =>
  some (v3)
 else
  none
theorem octs_Hex_S (N : Nat) (b0 : List (Int)) : (runK Go.Proofs.Tryd.prog (Ev133 N) 400 19 [(.sl (.int .u8))] [.str] (b0, ())).run = octs_Hex N b0 := by kernel_rfl
theorem octs_Hex_C (N : Nat) (b0 : List (Int)) (y : List UInt8) (h : octs_Hex N b0 = some y) : CallsK Go.Proofs.Tryd.prog 19 (valA [(.sl (.int .u8))] (b0, ())) (tupV (valR [.str] y)) := runK_ok hmx (Ev133_ok N _) (okFn_ok (by kernel_rfl)) (by rw [octs_Hex_S]; exact h)
noncomputable def Ev134 (N : Nat) : (R : Type) → Env R := Env.addFn (Ev133 N) 19 (fun R => fnK [(.sl (.int .u8))] [.str] (fun c => octs_Hex N c.1))
theorem Ev134_ok (N : Nat) (R : Type) : EnvOK Go.Proofs.Tryd.prog (Ev134 N R) := EnvOK.addFn hmx (Ev133_ok N R) (Ev133_ok N _) (by kernel_rfl) (fun c => octs_Hex_S N c.1)
noncomputable def Ev135 (N : Nat) : (R : Type) → Env R := Env.addInl (Ev134 N) []
theorem Ev135_ok (N : Nat) (R : Type) : EnvOK Go.Proofs.Tryd.prog (Ev135 N R) := EnvOK.addInl (Ev134_ok N R) (by kernel_rfl)
noncomputable def octs_Join_L3_I : LI := ⟨33, 0, [], ⟨[(0, .ty (.sl (.sl (.int .u8)))), (3, .ty (.int .i64)), (9, .ty (.sl (.sl (.int .u8)))), (10, .ty (.int .i64)), (11, .ty (.int .i64))], []⟩, [(.exit 0, ⟨[(0, .ty (.sl (.sl (.int .u8)))), (3, .ty (.int .i64))], []⟩)]⟩
noncomputable def octs_Join_L3 (N : Nat) (X : (((List (List (Int))) × ((Int) × ((List (List (Int))) × ((Int) × ((Int) × Unit))))) × Unit) → Option ((((List (List (Int))) × ((Int) × Unit)) × Unit))) (parts0 : List (List (Int))) (size3 : Int) (x9 : List (List (Int))) (x10 : Int) (x11 : Int) : Option ((((List (List (Int))) × ((Int) × Unit)) × Unit)) :=
 bif (decide (x11 < x10)) then
  Option.bind (getI x9 x11) fun (v7 : (List Int)) =>
  (X ((parts0, ((Go.IntKind.wrap .i64 (size3 + (((List.length v7) : Nat) : Int))), (x9, (x10, ((Go.IntKind.wrap .i64 (x11 + (1 : Int))), @Unit.unit))))), @Unit.unit))
 else
  some (((parts0, (size3, @Unit.unit)), @Unit.unit))
noncomputable def octs_Join_L3_R (N : Nat) (c : (((List (List (Int))) × ((Int) × ((List (List (Int))) × ((Int) × ((Int) × Unit))))) × Unit)) : Option ((((List (List (Int))) × ((Int) × Unit)) × Unit)) := gl (fun X c => octs_Join_L3 N X c.1.1 c.1.2.1 c.1.2.2.1 c.1.2.2.2.1 c.1.2.2.2.2.1) N c
theorem octs_Join_L3_S (N : Nat) (X : (((List (List (Int))) × ((Int) × ((List (List (Int))) × ((Int) × ((Int) × Unit))))) × Unit) → Option ((((List (List (Int))) × ((Int) × Unit)) × Unit))) (parts0 : List (List (Int))) (size3 : Int) (x9 : List (List (Int))) (x10 : Int) (x11 : Int) : (roundK Go.Proofs.Tryd.prog (Ev135 N) 400 [13] octs_Join_L3_I (loopAt Go.Proofs.Tryd.prog [13] 3) X ((parts0, size3, x9, x10, x11, ()), ())).run = octs_Join_L3 N X parts0 size3 x9 x10 x11 := by kernel_rfl
noncomputable def Ev136 (N : Nat) : (R : Type) → Env R := Env.addLp (Ev135 N) [13] 0 3 (fun R => lpK Go.Proofs.Tryd.prog octs_Join_L3_I (fun X c => octs_Join_L3 N X c.1.1 c.1.2.1 c.1.2.2.1 c.1.2.2.2.1 c.1.2.2.2.2.1) N)
theorem Ev136_ok (N : Nat) (R : Type) : EnvOK Go.Proofs.Tryd.prog (Ev136 N R) := EnvOK.addLp (Ev135_ok N R) (by kernel_rfl) (lpK_ok (li := octs_Join_L3_I) (G := fun X c => octs_Join_L3 N X c.1.1 c.1.2.1 c.1.2.2.1 c.1.2.2.2.1 c.1.2.2.2.2.1) hmx (Ev135_ok N _) (by kernel_rfl) loopAt_sub (fun (X : CT octs_Join_L3_I.sh → Option (OT octs_Join_L3_I.outs)) (c : CT octs_Join_L3_I.sh) => octs_Join_L3_S N X c.1.1 c.1.2.1 c.1.2.2.1 c.1.2.2.2.1 c.1.2.2.2.2.1) N)
noncomputable def octs_Join_L9_I : LI := ⟨33, 0, [], ⟨[(6, .lit (.own 0)), (22, .ty (.sl (.sl (.int .u8)))), (23, .ty (.int .i64)), (24, .ty (.int .i64))], [.own (.int .u8) 5]⟩, [(.exit 2, ⟨[(6, .lit (.own 0))], [.own (.int .u8) 5]⟩)]⟩
noncomputable def octs_Join_L9 (N : Nat) (X : (((List (List (Int))) × ((Int) × ((Int) × Unit))) × ((List (Int)) × Unit)) → Option ((Unit × ((List (Int)) × Unit)))) (x22 : List (List (Int))) (x23 : Int) (x24 : Int) (h0 : List (Int)) : Option ((Unit × ((List (Int)) × Unit))) :=
 bif (decide (x24 < x23)) then
  Option.bind (getI x22 x24) fun (v6 : (List Int)) =>
  bif (roomB ((List.length h0) + (List.length v6)) 1) then
   (X ((x22, (x23, ((Go.IntKind.wrap .i64 (x24 + (1 : Int))), @Unit.unit))), ((h0 ++ v6), @Unit.unit)))
  else
   none
 else
  some ((@Unit.unit, (h0, @Unit.unit)))
noncomputable def octs_Join_L9_R (N : Nat) (c : (((List (List (Int))) × ((Int) × ((Int) × Unit))) × ((List (Int)) × Unit))) : Option ((Unit × ((List (Int)) × Unit))) := gl (fun X c => octs_Join_L9 N X c.1.1 c.1.2.1 c.1.2.2.1 c.2.1) N c
theorem octs_Join_L9_S (N : Nat) (X : (((List (List (Int))) × ((Int) × ((Int) × Unit))) × ((List (Int)) × Unit)) → Option ((Unit × ((List (Int)) × Unit)))) (x22 : List (List (Int))) (x23 : Int) (x24 : Int) (h0 : List (Int)) : (roundK Go.Proofs.Tryd.prog (Ev136 N) 400 [13] octs_Join_L9_I (loopAt Go.Proofs.Tryd.prog [13] 9) X ((x22, x23, x24, ()), (h0, ()))).run = octs_Join_L9 N X x22 x23 x24 h0 := by kernel_rfl
noncomputable def Ev137 (N : Nat) : (R : Type) → Env R := Env.addLp (Ev136 N) [13] 0 9 (fun R => lpK Go.Proofs.Tryd.prog octs_Join_L9_I (fun X c => octs_Join_L9 N X c.1.1 c.1.2.1 c.1.2.2.1 c.2.1) N)
theorem Ev137_ok (N : Nat) (R : Type) : EnvOK Go.Proofs.Tryd.prog (Ev137 N R) := EnvOK.addLp (Ev136_ok N R) (by kernel_rfl) (lpK_ok (li := octs_Join_L9_I) (G := fun X c => octs_Join_L9 N X c.1.1 c.1.2.1 c.1.2.2.1 c.2.1) hmx (Ev136_ok N _) (by kernel_rfl) loopAt_sub (fun (X : CT octs_Join_L9_I.sh → Option (OT octs_Join_L9_I.outs)) (c : CT octs_Join_L9_I.sh) => octs_Join_L9_S N X c.1.1 c.1.2.1 c.1.2.2.1 c.2.1) N)
noncomputable def octs_Join (N : Nat) (parts0 : List (List (Int))) : Option (List (Int)) :=
 Option.bind (octs_Join_L3_R N ((parts0, ((0 : Int), (parts0, ((((List.length parts0) : Nat) : Int), ((0 : Int), @Unit.unit))))), @Unit.unit)) fun (v2 : (((List (List Int)) × (Int × Unit)) × Unit)) =>
 bif ((decide ((0 : Int) ≤ (0 : Int) ∧ (0 : Int) ≤ v2.1.2.1)) && (roomB (Int.toNat v2.1.2.1) 1)) then
  Option.bind (octs_Join_L9_R N ((v2.1.1, ((((List.length v2.1.1) : Nat) : Int), ((0 : Int), @Unit.unit))), ((@List.replicate Int (Int.toNat (0 : Int)) (0 : Int)), @Unit.unit))) fun (v3 : (Unit × ((List Int) × Unit))) =>
  some (v3.2.1)
 else
  none
theorem octs_Join_S (N : Nat) (parts0 : List (List (Int))) : (runK Go.Proofs.Tryd.prog (Ev137 N) 400 13 [(.sl (.sl (.int .u8)))] [(.sl (.int .u8))] (parts0, ())).run = octs_Join N parts0 := by kernel_rfl
theorem octs_Join_C (N : Nat) (parts0 : List (List (Int))) (y : List (Int)) (h : octs_Join N parts0 = some y) : CallsK Go.Proofs.Tryd.prog 13 (valA [(.sl (.sl (.int .u8)))] (parts0, ())) (tupV (valR [(.sl (.int .u8))] y)) := runK_ok hmx (Ev137_ok N _) (okFn_ok (by kernel_rfl)) (by rw [octs_Join_S]; exact h)
noncomputable def Ev138 (N : Nat) : (R : Type) → Env R := Env.addFn (Ev137 N) 13 (fun R => fnK [(.sl (.sl (.int .u8)))] [(.sl (.int .u8))] (fun c => octs_Join N c.1))
theorem Ev138_ok (N : Nat) (R : Type) : EnvOK Go.Proofs.Tryd.prog (Ev138 N R) := EnvOK.addFn hmx (Ev137_ok N R) (Ev137_ok N _) (by kernel_rfl) (fun c => octs_Join_S N c.1)
noncomputable def bytealg_LastIndexByteString_L2_I : LI := ⟨19, 0, [], ⟨[(0, .ty .str), (1, .ty (.int .u8)), (5, .ty (.int .i64))], []⟩, [(.ret, ⟨[(4, .ty (.int .i64))], []⟩), (.exit 0, ⟨[], []⟩)]⟩
noncomputable def bytealg_LastIndexByteString_L2 (N : Nat) (X : (((List UInt8) × ((Int) × ((Int) × Unit))) × Unit) → Option (((((Int) × Unit) × Unit) ⊕ (Unit × Unit)))) (s0 : List UInt8) (c1 : Int) (i5 : Int) : Option (((((Int) × Unit) × Unit) ⊕ (Unit × Unit))) :=
 bif (decide ((0 : Int) ≤ i5)) then
  Option.bind (getI s0 i5) fun (v5 : UInt8) =>
  bif (decide ((((@UInt8.toNat v5) : Nat) : Int) = c1)) then
   some ((.inl ((i5, @Unit.unit), @Unit.unit)))
  else
   (X ((s0, (c1, ((Go.IntKind.wrap .i64 (i5 - (1 : Int))), @Unit.unit))), @Unit.unit))
 else
  some ((.inr (@Unit.unit, @Unit.unit)))
noncomputable def bytealg_LastIndexByteString_L2_R (N : Nat) (c : (((List UInt8) × ((Int) × ((Int) × Unit))) × Unit)) : Option (((((Int) × Unit) × Unit) ⊕ (Unit × Unit))) := gl (fun X c => bytealg_LastIndexByteString_L2 N X c.1.1 c.1.2.1 c.1.2.2.1) N c
theorem bytealg_LastIndexByteString_L2_S (N : Nat) (X : (((List UInt8) × ((Int) × ((Int) × Unit))) × Unit) → Option (((((Int) × Unit) × Unit) ⊕ (Unit × Unit)))) (s0 : List UInt8) (c1 : Int) (i5 : Int) : (roundK Go.Proofs.Tryd.prog (Ev138 N) 400 [58] bytealg_LastIndexByteString_L2_I (loopAt Go.Proofs.Tryd.prog [58] 2) X ((s0, c1, i5, ()), ())).run = bytealg_LastIndexByteString_L2 N X s0 c1 i5 := by kernel_rfl
noncomputable def Ev139 (N : Nat) : (R : Type) → Env R := Env.addLp (Ev138 N) [58] 0 2 (fun R => lpK Go.Proofs.Tryd.prog bytealg_LastIndexByteString_L2_I (fun X c => bytealg_LastIndexByteString_L2 N X c.1.1 c.1.2.1 c.1.2.2.1) N)
theorem Ev139_ok (N : Nat) (R : Type) : EnvOK Go.Proofs.Tryd.prog (Ev139 N R) := EnvOK.addLp (Ev138_ok N R) (by kernel_rfl) (lpK_ok (li := bytealg_LastIndexByteString_L2_I) (G := fun X c => bytealg_LastIndexByteString_L2 N X c.1.1 c.1.2.1 c.1.2.2.1) hmx (Ev138_ok N _) (by kernel_rfl) loopAt_sub (fun (X : CT bytealg_LastIndexByteString_L2_I.sh → Option (OT bytealg_LastIndexByteString_L2_I.outs)) (c : CT bytealg_LastIndexByteString_L2_I.sh) => bytealg_LastIndexByteString_L2_S N X c.1.1 c.1.2.1 c.1.2.2.1) N)
noncomputable def bytealg_LastIndexByteString (N : Nat) (s0 : List UInt8) (c1 : Int) : Option (Int) :=
 Option.bind (bytealg_LastIndexByteString_L2_R N ((s0, (c1, ((Go.IntKind.wrap .i64 ((((List.length s0) : Nat) : Int) - (1 : Int))), @Unit.unit))), @Unit.unit)) fun (v3 : (((Int × Unit) × Unit) ⊕ (Unit × Unit))) =>
 Sum.elim
  (fun (v4 : ((Int × Unit) × Unit)) =>
  some (v4.1.1))
  (fun (v4 : (Unit × Unit)) =>
  some ((-1 : Int))) v3
theorem bytealg_LastIndexByteString_S (N : Nat) (s0 : List UInt8) (c1 : Int) : (runK Go.Proofs.Tryd.prog (Ev139 N) 400 58 [.str, (.int .u8)] [(.int .i64)] (s0, c1, ())).run = bytealg_LastIndexByteString N s0 c1 := by kernel_rfl
noncomputable def Ev140 (N : Nat) : (R : Type) → Env R := Env.addFn (Ev139 N) 58 (fun R => fnK [.str, (.int .u8)] [(.int .i64)] (fun c => bytealg_LastIndexByteString N c.1 c.2.1))
theorem Ev140_ok (N : Nat) (R : Type) : EnvOK Go.Proofs.Tryd.prog (Ev140 N R) := EnvOK.addFn hmx (Ev139_ok N R) (Ev139_ok N _) (by kernel_rfl) (fun c => bytealg_LastIndexByteString_S N c.1 c.2.1)
noncomputable def strings_LastIndexByte (N : Nat) (s0 : List UInt8) (c1 : Int) : Option (Int) :=
 Option.bind (@bytealg_LastIndexByteString N s0 c1) fun (v3 : Int) =>
 some (v3)
theorem strings_LastIndexByte_S (N : Nat) (s0 : List UInt8) (c1 : Int) : (runK Go.Proofs.Tryd.prog (Ev140 N) 400 42 [.str, (.int .u8)] [(.int .i64)] (s0, c1, ())).run = strings_LastIndexByte N s0 c1 := by kernel_rfl
noncomputable def Ev141 (N : Nat) : (R : Type) → Env R := Env.addFn (Ev140 N) 42 (fun R => fnK [.str, (.int .u8)] [(.int .i64)] (fun c => strings_LastIndexByte N c.1 c.2.1))
theorem Ev141_ok (N : Nat) (R : Type) : EnvOK Go.Proofs.Tryd.prog (Ev141 N R) := EnvOK.addFn hmx (Ev140_ok N R) (Ev140_ok N _) (by kernel_rfl) (fun c => strings_LastIndexByte_S N c.1 c.2.1)
noncomputable def utf16_Bare (N : Nat) (name0 : List UInt8) : Option (List UInt8) :=
 Option.bind (@strings_LastIndexByte N name0 (92 : Int)) fun (v2 : Int) =>
 Option.bind (dropI name0 (Go.IntKind.wrap .i64 (v2 + (1 : Int)))) fun (v3 : (List UInt8)) =>
 some (v3)
theorem utf16_Bare_S (N : Nat) (name0 : List UInt8) : (runK Go.Proofs.Tryd.prog (Ev141 N) 400 24 [.str] [.str] (name0, ())).run = utf16_Bare N name0 := by kernel_rfl
theorem utf16_Bare_C (N : Nat) (name0 : List UInt8) (y : List UInt8) (h : utf16_Bare N name0 = some y) : CallsK Go.Proofs.Tryd.prog 24 (valA [.str] (name0, ())) (tupV (valR [.str] y)) := runK_ok hmx (Ev141_ok N _) (okFn_ok (by kernel_rfl)) (by rw [utf16_Bare_S]; exact h)
noncomputable def Ev142 (N : Nat) : (R : Type) → Env R := Env.addFn (Ev141 N) 24 (fun R => fnK [.str] [.str] (fun c => utf16_Bare N c.1))
theorem Ev142_ok (N : Nat) (R : Type) : EnvOK Go.Proofs.Tryd.prog (Ev142 N R) := EnvOK.addFn hmx (Ev141_ok N R) (Ev141_ok N _) (by kernel_rfl) (fun c => utf16_Bare_S N c.1)
noncomputable def Ev143 (N : Nat) : (R : Type) → Env R := Env.addBx (Ev142 N) [(8, 0)]
theorem Ev143_ok (N : Nat) (R : Type) : EnvOK Go.Proofs.Tryd.prog (Ev143 N R) := EnvOK.addBx (Ev142_ok N R) [(8, 0)]
noncomputable def chap2_Value (N : Nat) (peer0 : Arr (Int) 16) (response1 : Arr (Int) 24) : Option (List (Int)) :=
 Option.bind (@octs_Join N ([peer0.l, (@List.replicate Int (Int.toNat (8 : Int)) (0 : Int)), response1.l, ([(0 : Int)] : List (Int))] : List ((List Int)))) fun (v3 : (List Int)) =>
 some (v3)
theorem chap2_Value_S (N : Nat) (peer0 : Arr (Int) 16) (response1 : Arr (Int) 24) : (runK Go.Proofs.Tryd.prog (Ev143 N) 400 8 [(.arr 16 (.int .u8)), (.arr 24 (.int .u8))] [(.sl (.int .u8))] (peer0, response1, ())).run = chap2_Value N peer0 response1 := by kernel_rfl
theorem chap2_Value_C (N : Nat) (peer0 : Arr (Int) 16) (response1 : Arr (Int) 24) (y : List (Int)) (h : chap2_Value N peer0 response1 = some y) : CallsK Go.Proofs.Tryd.prog 8 (valA [(.arr 16 (.int .u8)), (.arr 24 (.int .u8))] (peer0, response1, ())) (tupV (valR [(.sl (.int .u8))] y)) := runK_ok hmx (Ev143_ok N _) (okFn_ok (by kernel_rfl)) (by rw [chap2_Value_S]; exact h)
noncomputable def Ev144 (N : Nat) : (R : Type) → Env R := Env.addFn (Ev143 N) 8 (fun R => fnK [(.arr 16 (.int .u8)), (.arr 24 (.int .u8))] [(.sl (.int .u8))] (fun c => chap2_Value N c.1 c.2.1))
theorem Ev144_ok (N : Nat) (R : Type) : EnvOK Go.Proofs.Tryd.prog (Ev144 N R) := EnvOK.addFn hmx (Ev143_ok N R) (Ev143_ok N _) (by kernel_rfl) (fun c => chap2_Value_S N c.1 c.2.1)
noncomputable def chap2_Parse (N : Nat) (value0 : List (Int)) : Option ((Arr (Int) 16) × (Arr (Int) 24) × Int) :=
 bif (!(decide ((((List.length value0) : Nat) : Int) = (49 : Int)))) then
  some (((@Arr.cons Int (15 : Nat) (0 : Int) (@Arr.cons Int (14 : Nat) (0 : Int) (@Arr.cons Int (13 : Nat) (0 : Int) (@Arr.cons Int (12 : Nat) (0 : Int) (@Arr.cons Int (11 : Nat) (0 : Int) (@Arr.cons Int (10 : Nat) (0 : Int) (@Arr.cons Int (9 : Nat) (0 : Int) (@Arr.cons Int (8 : Nat) (0 : Int) (@Arr.cons Int (7 : Nat) (0 : Int) (@Arr.cons Int (6 : Nat) (0 : Int) (@Arr.cons Int (5 : Nat) (0 : Int) (@Arr.cons Int (4 : Nat) (0 : Int) (@Arr.cons Int (3 : Nat) (0 : Int) (@Arr.cons Int (2 : Nat) (0 : Int) (@Arr.cons Int (1 : Nat) (0 : Int) (@Arr.cons Int (0 : Nat) (0 : Int) (@Arr.nil Int))))))))))))))))), ((@Arr.cons Int (23 : Nat) (0 : Int) (@Arr.cons Int (22 : Nat) (0 : Int) (@Arr.cons Int (21 : Nat) (0 : Int) (@Arr.cons Int (20 : Nat) (0 : Int) (@Arr.cons Int (19 : Nat) (0 : Int) (@Arr.cons Int (18 : Nat) (0 : Int) (@Arr.cons Int (17 : Nat) (0 : Int) (@Arr.cons Int (16 : Nat) (0 : Int) (@Arr.cons Int (15 : Nat) (0 : Int) (@Arr.cons Int (14 : Nat) (0 : Int) (@Arr.cons Int (13 : Nat) (0 : Int) (@Arr.cons Int (12 : Nat) (0 : Int) (@Arr.cons Int (11 : Nat) (0 : Int) (@Arr.cons Int (10 : Nat) (0 : Int) (@Arr.cons Int (9 : Nat) (0 : Int) (@Arr.cons Int (8 : Nat) (0 : Int) (@Arr.cons Int (7 : Nat) (0 : Int) (@Arr.cons Int (6 : Nat) (0 : Int) (@Arr.cons Int (5 : Nat) (0 : Int) (@Arr.cons Int (4 : Nat) (0 : Int) (@Arr.cons Int (3 : Nat) (0 : Int) (@Arr.cons Int (2 : Nat) (0 : Int) (@Arr.cons Int (1 : Nat) (0 : Int) (@Arr.cons Int (0 : Nat) (0 : Int) (@Arr.nil Int))))))))))))))))))))))))), (1 : Int))))
 else
  Option.bind (takeI value0 (16 : Int)) fun (v2 : (List Int)) =>
  Option.bind (@toArr Int (16 : Nat) v2) fun (v3 : (Arr Int 16)) =>
  Option.bind (subI value0 (24 : Int) (48 : Int)) fun (v4 : (List Int)) =>
  Option.bind (@toArr Int (24 : Nat) v4) fun (v5 : (Arr Int 24)) =>
  Option.bind (@chap2_Value N v3 v5) fun (v6 : (List Int)) =>
  Option.bind (@octs_Same N v6 value0) fun (v7 : Bool) =>
  bif (!v7) then
   some (((@Arr.cons Int (15 : Nat) (0 : Int) (@Arr.cons Int (14 : Nat) (0 : Int) (@Arr.cons Int (13 : Nat) (0 : Int) (@Arr.cons Int (12 : Nat) (0 : Int) (@Arr.cons Int (11 : Nat) (0 : Int) (@Arr.cons Int (10 : Nat) (0 : Int) (@Arr.cons Int (9 : Nat) (0 : Int) (@Arr.cons Int (8 : Nat) (0 : Int) (@Arr.cons Int (7 : Nat) (0 : Int) (@Arr.cons Int (6 : Nat) (0 : Int) (@Arr.cons Int (5 : Nat) (0 : Int) (@Arr.cons Int (4 : Nat) (0 : Int) (@Arr.cons Int (3 : Nat) (0 : Int) (@Arr.cons Int (2 : Nat) (0 : Int) (@Arr.cons Int (1 : Nat) (0 : Int) (@Arr.cons Int (0 : Nat) (0 : Int) (@Arr.nil Int))))))))))))))))), ((@Arr.cons Int (23 : Nat) (0 : Int) (@Arr.cons Int (22 : Nat) (0 : Int) (@Arr.cons Int (21 : Nat) (0 : Int) (@Arr.cons Int (20 : Nat) (0 : Int) (@Arr.cons Int (19 : Nat) (0 : Int) (@Arr.cons Int (18 : Nat) (0 : Int) (@Arr.cons Int (17 : Nat) (0 : Int) (@Arr.cons Int (16 : Nat) (0 : Int) (@Arr.cons Int (15 : Nat) (0 : Int) (@Arr.cons Int (14 : Nat) (0 : Int) (@Arr.cons Int (13 : Nat) (0 : Int) (@Arr.cons Int (12 : Nat) (0 : Int) (@Arr.cons Int (11 : Nat) (0 : Int) (@Arr.cons Int (10 : Nat) (0 : Int) (@Arr.cons Int (9 : Nat) (0 : Int) (@Arr.cons Int (8 : Nat) (0 : Int) (@Arr.cons Int (7 : Nat) (0 : Int) (@Arr.cons Int (6 : Nat) (0 : Int) (@Arr.cons Int (5 : Nat) (0 : Int) (@Arr.cons Int (4 : Nat) (0 : Int) (@Arr.cons Int (3 : Nat) (0 : Int) (@Arr.cons Int (2 : Nat) (0 : Int) (@Arr.cons Int (1 : Nat) (0 : Int) (@Arr.cons Int (0 : Nat) (0 : Int) (@Arr.nil Int))))))))))))))))))))))))), (3 : Int))))
  else
   some ((v3, (v5, (0 : Int))))
theorem chap2_Parse_S (N : Nat) (value0 : List (Int)) : (runK Go.Proofs.Tryd.prog (Ev144 N) 400 5 [(.sl (.int .u8))] [(.arr 16 (.int .u8)), (.arr 24 (.int .u8)), (.int .i64)] (value0, ())).run = chap2_Parse N value0 := by kernel_rfl
theorem chap2_Parse_C (N : Nat) (value0 : List (Int)) (y : (Arr (Int) 16) × (Arr (Int) 24) × Int) (h : chap2_Parse N value0 = some y) : CallsK Go.Proofs.Tryd.prog 5 (valA [(.sl (.int .u8))] (value0, ())) (tupV (valR [(.arr 16 (.int .u8)), (.arr 24 (.int .u8)), (.int .i64)] y)) := runK_ok hmx (Ev144_ok N _) (okFn_ok (by kernel_rfl)) (by rw [chap2_Parse_S]; exact h)
noncomputable def Ev145 (N : Nat) : (R : Type) → Env R := Env.addFn (Ev144 N) 5 (fun R => fnK [(.sl (.int .u8))] [(.arr 16 (.int .u8)), (.arr 24 (.int .u8)), (.int .i64)] (fun c => chap2_Parse N c.1))
theorem Ev145_ok (N : Nat) (R : Type) : EnvOK Go.Proofs.Tryd.prog (Ev145 N R) := EnvOK.addFn hmx (Ev144_ok N R) (Ev144_ok N _) (by kernel_rfl) (fun c => chap2_Parse_S N c.1)
noncomputable def Ev146 (N : Nat) : (R : Type) → Env R := Env.addBx (Ev145 N) [(16, 0)]
theorem Ev146_ok (N : Nat) (R : Type) : EnvOK Go.Proofs.Tryd.prog (Ev146 N R) := EnvOK.addBx (Ev145_ok N R) [(16, 0)]
noncomputable def chap2_Challenge (N : Nat) (peer0 : Arr (Int) 16) (auth1 : Arr (Int) 16) (name2 : List UInt8) : Option (Arr (Int) 8) :=
 Option.bind (@utf16_Bare N name2) fun (v4 : (List UInt8)) =>
 bif (roomB (List.length v4) 1) then
  Option.bind (@sha1_Of N ([peer0.l, auth1.l, (@ofB v4)] : List ((List Int)))) fun (v5 : (Arr Int 20)) =>
  Option.bind (takeI v5.l (8 : Int)) fun (v6 : (List Int)) =>
  Option.bind (@toArr Int (8 : Nat) v6) fun (v7 : (Arr Int 8)) =>
  some (v7)
 else
  none
theorem chap2_Challenge_S (N : Nat) (peer0 : Arr (Int) 16) (auth1 : Arr (Int) 16) (name2 : List UInt8) : (runK Go.Proofs.Tryd.prog (Ev146 N) 400 16 [(.arr 16 (.int .u8)), (.arr 16 (.int .u8)), .str] [(.arr 8 (.int .u8))] (peer0, auth1, name2, ())).run = chap2_Challenge N peer0 auth1 name2 := by kernel_rfl
theorem chap2_Challenge_C (N : Nat) (peer0 : Arr (Int) 16) (auth1 : Arr (Int) 16) (name2 : List UInt8) (y : Arr (Int) 8) (h : chap2_Challenge N peer0 auth1 name2 = some y) : CallsK Go.Proofs.Tryd.prog 16 (valA [(.arr 16 (.int .u8)), (.arr 16 (.int .u8)), .str] (peer0, auth1, name2, ())) (tupV (valR [(.arr 8 (.int .u8))] y)) := runK_ok hmx (Ev146_ok N _) (okFn_ok (by kernel_rfl)) (by rw [chap2_Challenge_S]; exact h)
noncomputable def Ev147 (N : Nat) : (R : Type) → Env R := Env.addFn (Ev146 N) 16 (fun R => fnK [(.arr 16 (.int .u8)), (.arr 16 (.int .u8)), .str] [(.arr 8 (.int .u8))] (fun c => chap2_Challenge N c.1 c.2.1 c.2.2.1))
theorem Ev147_ok (N : Nat) (R : Type) : EnvOK Go.Proofs.Tryd.prog (Ev147 N R) := EnvOK.addFn hmx (Ev146_ok N R) (Ev146_ok N _) (by kernel_rfl) (fun c => chap2_Challenge_S N c.1 c.2.1 c.2.2.1)
noncomputable def Ev148 (N : Nat) : (R : Type) → Env R := Env.addBx (Ev147 N) [(15, 0)]
theorem Ev148_ok (N : Nat) (R : Type) : EnvOK Go.Proofs.Tryd.prog (Ev148 N R) := EnvOK.addBx (Ev147_ok N R) [(15, 0)]
noncomputable def chap2_Response_L3_I : LI := ⟨28, 0, [(5, 5)], ⟨[(2, .adr (.arr 8 (.int .u8))), (4, .lit (.box 0 0)), (5, .lit (.own 1)), (11, .ty (.arr 3 (.arr 7 (.int .u8)))), (12, .ty (.int .i64))], [.box 23 (.arr 24 (.int .u8)), .own (.int .u8) 5]⟩, [(.exit 0, ⟨[(4, .lit (.box 0 0)), (5, .lit (.own 1))], [.box 23 (.arr 24 (.int .u8)), .own (.int .u8) 5]⟩)]⟩
noncomputable def chap2_Response_L3 (N : Nat) (X : (((Arr (Int) 8) × ((Arr (Arr (Int) 7) 3) × ((Int) × Unit))) × ((Arr (Int) 24) × ((List (Int)) × Unit))) → Option ((Unit × ((Arr (Int) 24) × ((List (Int)) × Unit))))) (c2 : Arr (Int) 8) (x11 : Arr (Arr (Int) 7) 3) (x12 : Int) (h0 : Arr (Int) 24) (h1 : List (Int)) : Option ((Unit × ((Arr (Int) 24) × ((List (Int)) × Unit)))) :=
 bif (decide (x12 < (3 : Int))) then
  Option.bind (getI x11.l x12) fun (v7 : (Arr Int 7)) =>
  Option.bind (@des_Seven N v7.l c2.l) fun (v8 : ((List Int) × Int)) =>
  bif (roomB ((List.length h1) + (List.length v8.1)) 1) then
   (X ((c2, (x11, ((Go.IntKind.wrap .i64 (x12 + (1 : Int))), @Unit.unit))), (h0, ((h1 ++ v8.1), @Unit.unit))))
  else
   none
 else
  some ((@Unit.unit, (h0, (h1, @Unit.unit))))
noncomputable def chap2_Response_L3_R (N : Nat) (c : (((Arr (Int) 8) × ((Arr (Arr (Int) 7) 3) × ((Int) × Unit))) × ((Arr (Int) 24) × ((List (Int)) × Unit)))) : Option ((Unit × ((Arr (Int) 24) × ((List (Int)) × Unit)))) := gl (fun X c => chap2_Response_L3 N X c.1.1 c.1.2.1 c.1.2.2.1 c.2.1 c.2.2.1) N c
theorem chap2_Response_L3_S (N : Nat) (X : (((Arr (Int) 8) × ((Arr (Arr (Int) 7) 3) × ((Int) × Unit))) × ((Arr (Int) 24) × ((List (Int)) × Unit))) → Option ((Unit × ((Arr (Int) 24) × ((List (Int)) × Unit))))) (c2 : Arr (Int) 8) (x11 : Arr (Arr (Int) 7) 3) (x12 : Int) (h0 : Arr (Int) 24) (h1 : List (Int)) : (roundK Go.Proofs.Tryd.prog (Ev148 N) 400 [15] chap2_Response_L3_I (loopAt Go.Proofs.Tryd.prog [15] 3) X ((c2, x11, x12, ()), (h0, h1, ()))).run = chap2_Response_L3 N X c2 x11 x12 h0 h1 := by kernel_rfl
noncomputable def Ev149 (N : Nat) : (R : Type) → Env R := Env.addLp (Ev148 N) [15] 0 3 (fun R => lpK Go.Proofs.Tryd.prog chap2_Response_L3_I (fun X c => chap2_Response_L3 N X c.1.1 c.1.2.1 c.1.2.2.1 c.2.1 c.2.2.1) N)
theorem Ev149_ok (N : Nat) (R : Type) : EnvOK Go.Proofs.Tryd.prog (Ev149 N R) := EnvOK.addLp (Ev148_ok N R) (by kernel_rfl) (lpK_ok (li := chap2_Response_L3_I) (G := fun X c => chap2_Response_L3 N X c.1.1 c.1.2.1 c.1.2.2.1 c.2.1 c.2.2.1) hmx (Ev148_ok N _) (by kernel_rfl) loopAt_sub (fun (X : CT chap2_Response_L3_I.sh → Option (OT chap2_Response_L3_I.outs)) (c : CT chap2_Response_L3_I.sh) => chap2_Response_L3_S N X c.1.1 c.1.2.1 c.1.2.2.1 c.2.1 c.2.2.1) N)
noncomputable def chap2_Response (N : Nat) (c0 : Arr (Int) 8) (h1 : Arr (Int) 16) : Option (Arr (Int) 24) :=
 Option.bind (@nthash_Thirds N h1) fun (v3 : (Arr (Arr Int 7) 3)) =>
 Option.bind (chap2_Response_L3_R N ((c0, (v3, ((0 : Int), @Unit.unit))), ((@Arr.cons Int (23 : Nat) (0 : Int) (@Arr.cons Int (22 : Nat) (0 : Int) (@Arr.cons Int (21 : Nat) (0 : Int) (@Arr.cons Int (20 : Nat) (0 : Int) (@Arr.cons Int (19 : Nat) (0 : Int) (@Arr.cons Int (18 : Nat) (0 : Int) (@Arr.cons Int (17 : Nat) (0 : Int) (@Arr.cons Int (16 : Nat) (0 : Int) (@Arr.cons Int (15 : Nat) (0 : Int) (@Arr.cons Int (14 : Nat) (0 : Int) (@Arr.cons Int (13 : Nat) (0 : Int) (@Arr.cons Int (12 : Nat) (0 : Int) (@Arr.cons Int (11 : Nat) (0 : Int) (@Arr.cons Int (10 : Nat) (0 : Int) (@Arr.cons Int (9 : Nat) (0 : Int) (@Arr.cons Int (8 : Nat) (0 : Int) (@Arr.cons Int (7 : Nat) (0 : Int) (@Arr.cons Int (6 : Nat) (0 : Int) (@Arr.cons Int (5 : Nat) (0 : Int) (@Arr.cons Int (4 : Nat) (0 : Int) (@Arr.cons Int (3 : Nat) (0 : Int) (@Arr.cons Int (2 : Nat) (0 : Int) (@Arr.cons Int (1 : Nat) (0 : Int) (@Arr.cons Int (0 : Nat) (0 : Int) (@Arr.nil Int))))))))))))))))))))))))), (([] : List (Int)), @Unit.unit)))) fun (v4 : (Unit × ((Arr Int 24) × ((List Int) × Unit)))) =>
 Option.bind (@toArr Int (24 : Nat) v4.2.2.1) fun (v5 : (Arr Int 24)) =>
 some (v5)
theorem chap2_Response_S (N : Nat) (c0 : Arr (Int) 8) (h1 : Arr (Int) 16) : (runK Go.Proofs.Tryd.prog (Ev149 N) 400 15 [(.arr 8 (.int .u8)), (.arr 16 (.int .u8))] [(.arr 24 (.int .u8))] (c0, h1, ())).run = chap2_Response N c0 h1 := by kernel_rfl
theorem chap2_Response_C (N : Nat) (c0 : Arr (Int) 8) (h1 : Arr (Int) 16) (y : Arr (Int) 24) (h : chap2_Response N c0 h1 = some y) : CallsK Go.Proofs.Tryd.prog 15 (valA [(.arr 8 (.int .u8)), (.arr 16 (.int .u8))] (c0, h1, ())) (tupV (valR [(.arr 24 (.int .u8))] y)) := runK_ok hmx (Ev149_ok N _) (okFn_ok (by kernel_rfl)) (by rw [chap2_Response_S]; exact h)
noncomputable def Ev150 (N : Nat) : (R : Type) → Env R := Env.addFn (Ev149 N) 15 (fun R => fnK [(.arr 8 (.int .u8)), (.arr 16 (.int .u8))] [(.arr 24 (.int .u8))] (fun c => chap2_Response N c.1 c.2.1))
theorem Ev150_ok (N : Nat) (R : Type) : EnvOK Go.Proofs.Tryd.prog (Ev150 N R) := EnvOK.addFn hmx (Ev149_ok N R) (Ev149_ok N _) (by kernel_rfl) (fun c => chap2_Response_S N c.1 c.2.1)
noncomputable def Ev151 (N : Nat) : (R : Type) → Env R := Env.addBx (Ev150 N) [(10, 0)]
theorem Ev151_ok (N : Nat) (R : Type) : EnvOK Go.Proofs.Tryd.prog (Ev151 N R) := EnvOK.addBx (Ev150_ok N R) [(10, 0)]
noncomputable def chap2_Prove (N : Nat) (peer0 : Arr (Int) 16) (auth1 : Arr (Int) 16) (name2 : List UInt8) (password3 : List UInt8) : Option ((Arr (Int) 24) × Int) :=
 Option.bind (@nthash_Of N password3) fun (v5 : ((Arr Int 16) × Int)) =>
 bif (!(decide (v5.2 = (0 : Int)))) then
  some (((@Arr.cons Int (23 : Nat) (0 : Int) (@Arr.cons Int (22 : Nat) (0 : Int) (@Arr.cons Int (21 : Nat) (0 : Int) (@Arr.cons Int (20 : Nat) (0 : Int) (@Arr.cons Int (19 : Nat) (0 : Int) (@Arr.cons Int (18 : Nat) (0 : Int) (@Arr.cons Int (17 : Nat) (0 : Int) (@Arr.cons Int (16 : Nat) (0 : Int) (@Arr.cons Int (15 : Nat) (0 : Int) (@Arr.cons Int (14 : Nat) (0 : Int) (@Arr.cons Int (13 : Nat) (0 : Int) (@Arr.cons Int (12 : Nat) (0 : Int) (@Arr.cons Int (11 : Nat) (0 : Int) (@Arr.cons Int (10 : Nat) (0 : Int) (@Arr.cons Int (9 : Nat) (0 : Int) (@Arr.cons Int (8 : Nat) (0 : Int) (@Arr.cons Int (7 : Nat) (0 : Int) (@Arr.cons Int (6 : Nat) (0 : Int) (@Arr.cons Int (5 : Nat) (0 : Int) (@Arr.cons Int (4 : Nat) (0 : Int) (@Arr.cons Int (3 : Nat) (0 : Int) (@Arr.cons Int (2 : Nat) (0 : Int) (@Arr.cons Int (1 : Nat) (0 : Int) (@Arr.cons Int (0 : Nat) (0 : Int) (@Arr.nil Int))))))))))))))))))))))))), v5.2))
 else
  Option.bind (@chap2_Challenge N peer0 auth1 name2) fun (v6 : (Arr Int 8)) =>
  Option.bind (@chap2_Response N v6 v5.1) fun (v7 : (Arr Int 24)) =>
  some ((v7, (0 : Int)))
theorem chap2_Prove_S (N : Nat) (peer0 : Arr (Int) 16) (auth1 : Arr (Int) 16) (name2 : List UInt8) (password3 : List UInt8) : (runK Go.Proofs.Tryd.prog (Ev151 N) 400 10 [(.arr 16 (.int .u8)), (.arr 16 (.int .u8)), .str, .str] [(.arr 24 (.int .u8)), (.int .i64)] (peer0, auth1, name2, password3, ())).run = chap2_Prove N peer0 auth1 name2 password3 := by kernel_rfl
theorem chap2_Prove_C (N : Nat) (peer0 : Arr (Int) 16) (auth1 : Arr (Int) 16) (name2 : List UInt8) (password3 : List UInt8) (y : (Arr (Int) 24) × Int) (h : chap2_Prove N peer0 auth1 name2 password3 = some y) : CallsK Go.Proofs.Tryd.prog 10 (valA [(.arr 16 (.int .u8)), (.arr 16 (.int .u8)), .str, .str] (peer0, auth1, name2, password3, ())) (tupV (valR [(.arr 24 (.int .u8)), (.int .i64)] y)) := runK_ok hmx (Ev151_ok N _) (okFn_ok (by kernel_rfl)) (by rw [chap2_Prove_S]; exact h)
noncomputable def Ev152 (N : Nat) : (R : Type) → Env R := Env.addFn (Ev151 N) 10 (fun R => fnK [(.arr 16 (.int .u8)), (.arr 16 (.int .u8)), .str, .str] [(.arr 24 (.int .u8)), (.int .i64)] (fun c => chap2_Prove N c.1 c.2.1 c.2.2.1 c.2.2.2.1))
theorem Ev152_ok (N : Nat) (R : Type) : EnvOK Go.Proofs.Tryd.prog (Ev152 N R) := EnvOK.addFn hmx (Ev151_ok N R) (Ev151_ok N _) (by kernel_rfl) (fun c => chap2_Prove_S N c.1 c.2.1 c.2.2.1 c.2.2.2.1)
noncomputable def Ev153 (N : Nat) : (R : Type) → Env R := Env.addBx (Ev152 N) [(11, 0)]
theorem Ev153_ok (N : Nat) (R : Type) : EnvOK Go.Proofs.Tryd.prog (Ev153 N R) := EnvOK.addBx (Ev152_ok N R) [(11, 0)]
noncomputable def chap2_Answer (N : Nat) (h0 : Arr (Int) 16) (response1 : Arr (Int) 24) (c2 : Arr (Int) 8) : Option (List UInt8) :=
 Option.bind (@nthash_Twice N h0) fun (v4 : (Arr Int 16)) =>
 Option.bind (@sha1_Of N ([v4.l, response1.l, ([(77 : Int), (97 : Int), (103 : Int), (105 : Int), (99 : Int), (32 : Int), (115 : Int), (101 : Int), (114 : Int), (118 : Int), (101 : Int), (114 : Int), (32 : Int), (116 : Int), (111 : Int), (32 : Int), (99 : Int), (108 : Int), (105 : Int), (101 : Int), (110 : Int), (116 : Int), (32 : Int), (115 : Int), (105 : Int), (103 : Int), (110 : Int), (105 : Int), (110 : Int), (103 : Int), (32 : Int), (99 : Int), (111 : Int), (110 : Int), (115 : Int), (116 : Int), (97 : Int), (110 : Int), (116 : Int)] : List (Int))] : List ((List Int)))) fun (v5 : (Arr Int 20)) =>
 Option.bind (@sha1_Of N ([v5.l, c2.l, ([(80 : Int), (97 : Int), (100 : Int), (32 : Int), (116 : Int), (111 : Int), (32 : Int), (109 : Int), (97 : Int), (107 : Int), (101 : Int), (32 : Int), (105 : Int), (116 : Int), (32 : Int), (100 : Int), (111 : Int), (32 : Int), (109 : Int), (111 : Int), (114 : Int), (101 : Int), (32 : Int), (116 : Int), (104 : Int), (97 : Int), (110 : Int), (32 : Int), (111 : Int), (110 : Int), (101 : Int), (32 : Int), (105 : Int), (116 : Int), (101 : Int), (114 : Int), (97 : Int), (116 : Int), (105 : Int), (111 : Int), (110 : Int)] : List (Int))] : List ((List Int)))) fun (v6 : (Arr Int 20)) =>
 Option.bind (@octs_Hex N v6.l) fun (v7 : (List UInt8)) =>
 bif (decide (((List.length (@Array.toList UInt8 (@List.toArray UInt8 ([(@OfNat.ofNat UInt8 (83 : Nat) (@UInt8.instOfNat (83 : Nat))), (@OfNat.ofNat UInt8 (61 : Nat) (@UInt8.instOfNat (61 : Nat)))] : List (UInt8))))) + (List.length v7)) ≤ @Go.maxLen)) then
  some (((@Array.toList UInt8 (@List.toArray UInt8 ([(@OfNat.ofNat UInt8 (83 : Nat) (@UInt8.instOfNat (83 : Nat))), (@OfNat.ofNat UInt8 (61 : Nat) (@UInt8.instOfNat (61 : Nat)))] : List (UInt8)))) ++ v7))
 else
  none
theorem chap2_Answer_S (N : Nat) (h0 : Arr (Int) 16) (response1 : Arr (Int) 24) (c2 : Arr (Int) 8) : (runK Go.Proofs.Tryd.prog (Ev153 N) 400 11 [(.arr 16 (.int .u8)), (.arr 24 (.int .u8)), (.arr 8 (.int .u8))] [.str] (h0, response1, c2, ())).run = chap2_Answer N h0 response1 c2 := by kernel_rfl
theorem chap2_Answer_C (N : Nat) (h0 : Arr (Int) 16) (response1 : Arr (Int) 24) (c2 : Arr (Int) 8) (y : List UInt8) (h : chap2_Answer N h0 response1 c2 = some y) : CallsK Go.Proofs.Tryd.prog 11 (valA [(.arr 16 (.int .u8)), (.arr 24 (.int .u8)), (.arr 8 (.int .u8))] (h0, response1, c2, ())) (tupV (valR [.str] y)) := runK_ok hmx (Ev153_ok N _) (okFn_ok (by kernel_rfl)) (by rw [chap2_Answer_S]; exact h)
noncomputable def Ev154 (N : Nat) : (R : Type) → Env R := Env.addFn (Ev153 N) 11 (fun R => fnK [(.arr 16 (.int .u8)), (.arr 24 (.int .u8)), (.arr 8 (.int .u8))] [.str] (fun c => chap2_Answer N c.1 c.2.1 c.2.2.1))
theorem Ev154_ok (N : Nat) (R : Type) : EnvOK Go.Proofs.Tryd.prog (Ev154 N R) := EnvOK.addFn hmx (Ev153_ok N R) (Ev153_ok N _) (by kernel_rfl) (fun c => chap2_Answer_S N c.1 c.2.1 c.2.2.1)
noncomputable def ref11_Parse_L6_I : LI := ⟨55, 0, [], ⟨[(0, .ty (.sl (.int .u8))), (2, .lit (.box 0 0)), (3, .lit (.box 1 0)), (5, .lit (.box 2 0)), (6, .lit (.box 3 0)), (7, .ty (.int .i64))], [.box 22 (.arr 16 (.int .u8)), .box 23 (.arr 24 (.int .u8)), .box 22 (.arr 16 (.int .u8)), .box 23 (.arr 24 (.int .u8))]⟩, [(.ret, ⟨[(2, .lit (.box 0 0)), (3, .lit (.box 1 0)), (4, .ty (.int .i64))], [.box 22 (.arr 16 (.int .u8)), .box 23 (.arr 24 (.int .u8))]⟩), (.exit 0, ⟨[(0, .ty (.sl (.int .u8))), (2, .lit (.box 0 0)), (3, .lit (.box 1 0)), (5, .lit (.box 2 0)), (6, .lit (.box 3 0))], [.box 22 (.arr 16 (.int .u8)), .box 23 (.arr 24 (.int .u8)), .box 22 (.arr 16 (.int .u8)), .box 23 (.arr 24 (.int .u8))]⟩)]⟩
noncomputable def ref11_Parse_L6 (N : Nat) (X : (((List (Int)) × ((Int) × Unit)) × ((Arr (Int) 16) × ((Arr (Int) 24) × ((Arr (Int) 16) × ((Arr (Int) 24) × Unit))))) → Option (((((Int) × Unit) × ((Arr (Int) 16) × ((Arr (Int) 24) × Unit))) ⊕ (((List (Int)) × Unit) × ((Arr (Int) 16) × ((Arr (Int) 24) × ((Arr (Int) 16) × ((Arr (Int) 24) × Unit)))))))) (value0 : List (Int)) (i7 : Int) (h0 : Arr (Int) 16) (h1 : Arr (Int) 24) (h2 : Arr (Int) 16) (h3 : Arr (Int) 24) : Option (((((Int) × Unit) × ((Arr (Int) 16) × ((Arr (Int) 24) × Unit))) ⊕ (((List (Int)) × Unit) × ((Arr (Int) 16) × ((Arr (Int) 24) × ((Arr (Int) 16) × ((Arr (Int) 24) × Unit))))))) :=
 bif (decide (i7 < (24 : Int))) then
  Option.bind (getI value0 i7) fun (v8 : Int) =>
  bif (!(decide (v8 = (0 : Int)))) then
   some ((.inl (((3 : Int), @Unit.unit), (h2, (h3, @Unit.unit)))))
  else
   (X ((value0, ((Go.IntKind.wrap .i64 (i7 + (1 : Int))), @Unit.unit)), (h0, (h1, (h2, (h3, @Unit.unit))))))
 else
  some ((.inr ((value0, @Unit.unit), (h0, (h1, (h2, (h3, @Unit.unit)))))))
noncomputable def ref11_Parse_L6_R (N : Nat) (c : (((List (Int)) × ((Int) × Unit)) × ((Arr (Int) 16) × ((Arr (Int) 24) × ((Arr (Int) 16) × ((Arr (Int) 24) × Unit)))))) : Option (((((Int) × Unit) × ((Arr (Int) 16) × ((Arr (Int) 24) × Unit))) ⊕ (((List (Int)) × Unit) × ((Arr (Int) 16) × ((Arr (Int) 24) × ((Arr (Int) 16) × ((Arr (Int) 24) × Unit))))))) := gl (fun X c => ref11_Parse_L6 N X c.1.1 c.1.2.1 c.2.1 c.2.2.1 c.2.2.2.1 c.2.2.2.2.1) N c
theorem ref11_Parse_L6_S (N : Nat) (X : (((List (Int)) × ((Int) × Unit)) × ((Arr (Int) 16) × ((Arr (Int) 24) × ((Arr (Int) 16) × ((Arr (Int) 24) × Unit))))) → Option (((((Int) × Unit) × ((Arr (Int) 16) × ((Arr (Int) 24) × Unit))) ⊕ (((List (Int)) × Unit) × ((Arr (Int) 16) × ((Arr (Int) 24) × ((Arr (Int) 16) × ((Arr (Int) 24) × Unit)))))))) (value0 : List (Int)) (i7 : Int) (h0 : Arr (Int) 16) (h1 : Arr (Int) 24) (h2 : Arr (Int) 16) (h3 : Arr (Int) 24) : (roundK Go.Proofs.Tryd.prog (Ev154 N) 400 [6] ref11_Parse_L6_I (loopAt Go.Proofs.Tryd.prog [6] 6) X ((value0, i7, ()), (h0, h1, h2, h3, ()))).run = ref11_Parse_L6 N X value0 i7 h0 h1 h2 h3 := by kernel_rfl
noncomputable def Ev155 (N : Nat) : (R : Type) → Env R := Env.addLp (Ev154 N) [6] 0 6 (fun R => lpK Go.Proofs.Tryd.prog ref11_Parse_L6_I (fun X c => ref11_Parse_L6 N X c.1.1 c.1.2.1 c.2.1 c.2.2.1 c.2.2.2.1 c.2.2.2.2.1) N)
theorem Ev155_ok (N : Nat) (R : Type) : EnvOK Go.Proofs.Tryd.prog (Ev155 N R) := EnvOK.addLp (Ev154_ok N R) (by kernel_rfl) (lpK_ok (li := ref11_Parse_L6_I) (G := fun X c => ref11_Parse_L6 N X c.1.1 c.1.2.1 c.2.1 c.2.2.1 c.2.2.2.1 c.2.2.2.2.1) hmx (Ev154_ok N _) (by kernel_rfl) loopAt_sub (fun (X : CT ref11_Parse_L6_I.sh → Option (OT ref11_Parse_L6_I.outs)) (c : CT ref11_Parse_L6_I.sh) => ref11_Parse_L6_S N X c.1.1 c.1.2.1 c.2.1 c.2.2.1 c.2.2.2.1 c.2.2.2.2.1) N)
noncomputable def ref11_Parse_L13_I : LI := ⟨55, 0, [], ⟨[(0, .ty (.sl (.int .u8))), (2, .lit (.box 0 0)), (3, .lit (.box 1 0)), (5, .lit (.box 2 0)), (6, .lit (.box 3 0)), (8, .ty (.int .i64))], [.box 22 (.arr 16 (.int .u8)), .box 23 (.arr 24 (.int .u8)), .box 22 (.arr 16 (.int .u8)), .box 23 (.arr 24 (.int .u8))]⟩, [(.exit 2, ⟨[(0, .ty (.sl (.int .u8))), (2, .lit (.box 0 0)), (3, .lit (.box 1 0)), (5, .lit (.box 2 0)), (6, .lit (.box 3 0))], [.box 22 (.arr 16 (.int .u8)), .box 23 (.arr 24 (.int .u8)), .box 22 (.arr 16 (.int .u8)), .box 23 (.arr 24 (.int .u8))]⟩)]⟩
noncomputable def ref11_Parse_L13 (N : Nat) (X : (((List (Int)) × ((Int) × Unit)) × ((Arr (Int) 16) × ((Arr (Int) 24) × ((Arr (Int) 16) × ((Arr (Int) 24) × Unit))))) → Option ((((List (Int)) × Unit) × ((Arr (Int) 16) × ((Arr (Int) 24) × ((Arr (Int) 16) × ((Arr (Int) 24) × Unit))))))) (value0 : List (Int)) (i8 : Int) (h0 : Arr (Int) 16) (h1 : Arr (Int) 24) (h2 : Arr (Int) 16) (h3 : Arr (Int) 24) : Option ((((List (Int)) × Unit) × ((Arr (Int) 16) × ((Arr (Int) 24) × ((Arr (Int) 16) × ((Arr (Int) 24) × Unit)))))) :=
 bif (decide (i8 < (16 : Int))) then
  Option.bind (getI value0 i8) fun (v8 : Int) =>
  bif (decide ((0 : Int) ≤ i8 ∧ i8 < (((16 : Nat) : Nat) : Int))) then
   Option.bind (@GetElem?.getElem? (List Int) Nat Int (fun (as9 : (List Int)) => (fun (i10 : Nat) => (@LT.lt Nat @instLTNat i10 (List.length as9)))) (@List.instGetElem?NatLtLength Int) h2.l (Int.toNat i8)) fun (v9 : Int) =>
   (X ((value0, ((Go.IntKind.wrap .i64 (i8 + (1 : Int))), @Unit.unit)), (h0, (h1, ((h2.set (Int.toNat i8) v8), (h3, @Unit.unit))))))
  else
   none
 else
  some (((value0, @Unit.unit), (h0, (h1, (h2, (h3, @Unit.unit))))))
noncomputable def ref11_Parse_L13_R (N : Nat) (c : (((List (Int)) × ((Int) × Unit)) × ((Arr (Int) 16) × ((Arr (Int) 24) × ((Arr (Int) 16) × ((Arr (Int) 24) × Unit)))))) : Option ((((List (Int)) × Unit) × ((Arr (Int) 16) × ((Arr (Int) 24) × ((Arr (Int) 16) × ((Arr (Int) 24) × Unit)))))) := gl (fun X c => ref11_Parse_L13 N X c.1.1 c.1.2.1 c.2.1 c.2.2.1 c.2.2.2.1 c.2.2.2.2.1) N c
theorem ref11_Parse_L13_S (N : Nat) (X : (((List (Int)) × ((Int) × Unit)) × ((Arr (Int) 16) × ((Arr (Int) 24) × ((Arr (Int) 16) × ((Arr (Int) 24) × Unit))))) → Option ((((List (Int)) × Unit) × ((Arr (Int) 16) × ((Arr (Int) 24) × ((Arr (Int) 16) × ((Arr (Int) 24) × Unit))))))) (value0 : List (Int)) (i8 : Int) (h0 : Arr (Int) 16) (h1 : Arr (Int) 24) (h2 : Arr (Int) 16) (h3 : Arr (Int) 24) : (roundK Go.Proofs.Tryd.prog (Ev155 N) 400 [6] ref11_Parse_L13_I (loopAt Go.Proofs.Tryd.prog [6] 13) X ((value0, i8, ()), (h0, h1, h2, h3, ()))).run = ref11_Parse_L13 N X value0 i8 h0 h1 h2 h3 := by kernel_rfl
noncomputable def Ev156 (N : Nat) : (R : Type) → Env R := Env.addLp (Ev155 N) [6] 0 13 (fun R => lpK Go.Proofs.Tryd.prog ref11_Parse_L13_I (fun X c => ref11_Parse_L13 N X c.1.1 c.1.2.1 c.2.1 c.2.2.1 c.2.2.2.1 c.2.2.2.2.1) N)
theorem Ev156_ok (N : Nat) (R : Type) : EnvOK Go.Proofs.Tryd.prog (Ev156 N R) := EnvOK.addLp (Ev155_ok N R) (by kernel_rfl) (lpK_ok (li := ref11_Parse_L13_I) (G := fun X c => ref11_Parse_L13 N X c.1.1 c.1.2.1 c.2.1 c.2.2.1 c.2.2.2.1 c.2.2.2.2.1) hmx (Ev155_ok N _) (by kernel_rfl) loopAt_sub (fun (X : CT ref11_Parse_L13_I.sh → Option (OT ref11_Parse_L13_I.outs)) (c : CT ref11_Parse_L13_I.sh) => ref11_Parse_L13_S N X c.1.1 c.1.2.1 c.2.1 c.2.2.1 c.2.2.2.1 c.2.2.2.2.1) N)
noncomputable def ref11_Parse_L17_I : LI := ⟨55, 0, [], ⟨[(0, .ty (.sl (.int .u8))), (2, .lit (.box 0 0)), (3, .lit (.box 1 0)), (5, .lit (.box 2 0)), (6, .lit (.box 3 0)), (9, .ty (.int .i64))], [.box 22 (.arr 16 (.int .u8)), .box 23 (.arr 24 (.int .u8)), .box 22 (.arr 16 (.int .u8)), .box 23 (.arr 24 (.int .u8))]⟩, [(.exit 4, ⟨[(2, .lit (.box 0 0)), (3, .lit (.box 1 0)), (5, .lit (.box 2 0)), (6, .lit (.box 3 0))], [.box 22 (.arr 16 (.int .u8)), .box 23 (.arr 24 (.int .u8)), .box 22 (.arr 16 (.int .u8)), .box 23 (.arr 24 (.int .u8))]⟩)]⟩
noncomputable def ref11_Parse_L17 (N : Nat) (X : (((List (Int)) × ((Int) × Unit)) × ((Arr (Int) 16) × ((Arr (Int) 24) × ((Arr (Int) 16) × ((Arr (Int) 24) × Unit))))) → Option ((Unit × ((Arr (Int) 16) × ((Arr (Int) 24) × ((Arr (Int) 16) × ((Arr (Int) 24) × Unit))))))) (value0 : List (Int)) (i9 : Int) (h0 : Arr (Int) 16) (h1 : Arr (Int) 24) (h2 : Arr (Int) 16) (h3 : Arr (Int) 24) : Option ((Unit × ((Arr (Int) 16) × ((Arr (Int) 24) × ((Arr (Int) 16) × ((Arr (Int) 24) × Unit)))))) :=
 bif (decide (i9 < (24 : Int))) then
  Option.bind (getI value0 (Go.IntKind.wrap .i64 ((24 : Int) + i9))) fun (v8 : Int) =>
  bif (decide ((0 : Int) ≤ i9 ∧ i9 < (((24 : Nat) : Nat) : Int))) then
   Option.bind (@GetElem?.getElem? (List Int) Nat Int (fun (as9 : (List Int)) => (fun (i10 : Nat) => (@LT.lt Nat @instLTNat i10 (List.length as9)))) (@List.instGetElem?NatLtLength Int) h3.l (Int.toNat i9)) fun (v9 : Int) =>
   (X ((value0, ((Go.IntKind.wrap .i64 (i9 + (1 : Int))), @Unit.unit)), (h0, (h1, (h2, ((h3.set (Int.toNat i9) v8), @Unit.unit))))))
  else
   none
 else
  some ((@Unit.unit, (h0, (h1, (h2, (h3, @Unit.unit))))))
noncomputable def ref11_Parse_L17_R (N : Nat) (c : (((List (Int)) × ((Int) × Unit)) × ((Arr (Int) 16) × ((Arr (Int) 24) × ((Arr (Int) 16) × ((Arr (Int) 24) × Unit)))))) : Option ((Unit × ((Arr (Int) 16) × ((Arr (Int) 24) × ((Arr (Int) 16) × ((Arr (Int) 24) × Unit)))))) := gl (fun X c => ref11_Parse_L17 N X c.1.1 c.1.2.1 c.2.1 c.2.2.1 c.2.2.2.1 c.2.2.2.2.1) N c
theorem ref11_Parse_L17_S (N : Nat) (X : (((List (Int)) × ((Int) × Unit)) × ((Arr (Int) 16) × ((Arr (Int) 24) × ((Arr (Int) 16) × ((Arr (Int) 24) × Unit))))) → Option ((Unit × ((Arr (Int) 16) × ((Arr (Int) 24) × ((Arr (Int) 16) × ((Arr (Int) 24) × Unit))))))) (value0 : List (Int)) (i9 : Int) (h0 : Arr (Int) 16) (h1 : Arr (Int) 24) (h2 : Arr (Int) 16) (h3 : Arr (Int) 24) : (roundK Go.Proofs.Tryd.prog (Ev156 N) 400 [6] ref11_Parse_L17_I (loopAt Go.Proofs.Tryd.prog [6] 17) X ((value0, i9, ()), (h0, h1, h2, h3, ()))).run = ref11_Parse_L17 N X value0 i9 h0 h1 h2 h3 := by kernel_rfl
noncomputable def Ev157 (N : Nat) : (R : Type) → Env R := Env.addLp (Ev156 N) [6] 0 17 (fun R => lpK Go.Proofs.Tryd.prog ref11_Parse_L17_I (fun X c => ref11_Parse_L17 N X c.1.1 c.1.2.1 c.2.1 c.2.2.1 c.2.2.2.1 c.2.2.2.2.1) N)
theorem Ev157_ok (N : Nat) (R : Type) : EnvOK Go.Proofs.Tryd.prog (Ev157 N R) := EnvOK.addLp (Ev156_ok N R) (by kernel_rfl) (lpK_ok (li := ref11_Parse_L17_I) (G := fun X c => ref11_Parse_L17 N X c.1.1 c.1.2.1 c.2.1 c.2.2.1 c.2.2.2.1 c.2.2.2.2.1) hmx (Ev156_ok N _) (by kernel_rfl) loopAt_sub (fun (X : CT ref11_Parse_L17_I.sh → Option (OT ref11_Parse_L17_I.outs)) (c : CT ref11_Parse_L17_I.sh) => ref11_Parse_L17_S N X c.1.1 c.1.2.1 c.2.1 c.2.2.1 c.2.2.2.1 c.2.2.2.2.1) N)
noncomputable def ref11_Parse (N : Nat) (value0 : List (Int)) : Option ((Arr (Int) 16) × (Arr (Int) 24) × Int) :=
 bif (!(decide ((((List.length value0) : Nat) : Int) = (49 : Int)))) then
  some (((@Arr.cons Int (15 : Nat) (0 : Int) (@Arr.cons Int (14 : Nat) (0 : Int) (@Arr.cons Int (13 : Nat) (0 : Int) (@Arr.cons Int (12 : Nat) (0 : Int) (@Arr.cons Int (11 : Nat) (0 : Int) (@Arr.cons Int (10 : Nat) (0 : Int) (@Arr.cons Int (9 : Nat) (0 : Int) (@Arr.cons Int (8 : Nat) (0 : Int) (@Arr.cons Int (7 : Nat) (0 : Int) (@Arr.cons Int (6 : Nat) (0 : Int) (@Arr.cons Int (5 : Nat) (0 : Int) (@Arr.cons Int (4 : Nat) (0 : Int) (@Arr.cons Int (3 : Nat) (0 : Int) (@Arr.cons Int (2 : Nat) (0 : Int) (@Arr.cons Int (1 : Nat) (0 : Int) (@Arr.cons Int (0 : Nat) (0 : Int) (@Arr.nil Int))))))))))))))))), ((@Arr.cons Int (23 : Nat) (0 : Int) (@Arr.cons Int (22 : Nat) (0 : Int) (@Arr.cons Int (21 : Nat) (0 : Int) (@Arr.cons Int (20 : Nat) (0 : Int) (@Arr.cons Int (19 : Nat) (0 : Int) (@Arr.cons Int (18 : Nat) (0 : Int) (@Arr.cons Int (17 : Nat) (0 : Int) (@Arr.cons Int (16 : Nat) (0 : Int) (@Arr.cons Int (15 : Nat) (0 : Int) (@Arr.cons Int (14 : Nat) (0 : Int) (@Arr.cons Int (13 : Nat) (0 : Int) (@Arr.cons Int (12 : Nat) (0 : Int) (@Arr.cons Int (11 : Nat) (0 : Int) (@Arr.cons Int (10 : Nat) (0 : Int) (@Arr.cons Int (9 : Nat) (0 : Int) (@Arr.cons Int (8 : Nat) (0 : Int) (@Arr.cons Int (7 : Nat) (0 : Int) (@Arr.cons Int (6 : Nat) (0 : Int) (@Arr.cons Int (5 : Nat) (0 : Int) (@Arr.cons Int (4 : Nat) (0 : Int) (@Arr.cons Int (3 : Nat) (0 : Int) (@Arr.cons Int (2 : Nat) (0 : Int) (@Arr.cons Int (1 : Nat) (0 : Int) (@Arr.cons Int (0 : Nat) (0 : Int) (@Arr.nil Int))))))))))))))))))))))))), (1 : Int))))
 else
  Option.bind (ref11_Parse_L6_R N ((value0, ((16 : Int), @Unit.unit)), ((@Arr.cons Int (15 : Nat) (0 : Int) (@Arr.cons Int (14 : Nat) (0 : Int) (@Arr.cons Int (13 : Nat) (0 : Int) (@Arr.cons Int (12 : Nat) (0 : Int) (@Arr.cons Int (11 : Nat) (0 : Int) (@Arr.cons Int (10 : Nat) (0 : Int) (@Arr.cons Int (9 : Nat) (0 : Int) (@Arr.cons Int (8 : Nat) (0 : Int) (@Arr.cons Int (7 : Nat) (0 : Int) (@Arr.cons Int (6 : Nat) (0 : Int) (@Arr.cons Int (5 : Nat) (0 : Int) (@Arr.cons Int (4 : Nat) (0 : Int) (@Arr.cons Int (3 : Nat) (0 : Int) (@Arr.cons Int (2 : Nat) (0 : Int) (@Arr.cons Int (1 : Nat) (0 : Int) (@Arr.cons Int (0 : Nat) (0 : Int) (@Arr.nil Int))))))))))))))))), ((@Arr.cons Int (23 : Nat) (0 : Int) (@Arr.cons Int (22 : Nat) (0 : Int) (@Arr.cons Int (21 : Nat) (0 : Int) (@Arr.cons Int (20 : Nat) (0 : Int) (@Arr.cons Int (19 : Nat) (0 : Int) (@Arr.cons Int (18 : Nat) (0 : Int) (@Arr.cons Int (17 : Nat) (0 : Int) (@Arr.cons Int (16 : Nat) (0 : Int) (@Arr.cons Int (15 : Nat) (0 : Int) (@Arr.cons Int (14 : Nat) (0 : Int) (@Arr.cons Int (13 : Nat) (0 : Int) (@Arr.cons Int (12 : Nat) (0 : Int) (@Arr.cons Int (11 : Nat) (0 : Int) (@Arr.cons Int (10 : Nat) (0 : Int) (@Arr.cons Int (9 : Nat) (0 : Int) (@Arr.cons Int (8 : Nat) (0 : Int) (@Arr.cons Int (7 : Nat) (0 : Int) (@Arr.cons Int (6 : Nat) (0 : Int) (@Arr.cons Int (5 : Nat) (0 : Int) (@Arr.cons Int (4 : Nat) (0 : Int) (@Arr.cons Int (3 : Nat) (0 : Int) (@Arr.cons Int (2 : Nat) (0 : Int) (@Arr.cons Int (1 : Nat) (0 : Int) (@Arr.cons Int (0 : Nat) (0 : Int) (@Arr.nil Int))))))))))))))))))))))))), ((@Arr.cons Int (15 : Nat) (0 : Int) (@Arr.cons Int (14 : Nat) (0 : Int) (@Arr.cons Int (13 : Nat) (0 : Int) (@Arr.cons Int (12 : Nat) (0 : Int) (@Arr.cons Int (11 : Nat) (0 : Int) (@Arr.cons Int (10 : Nat) (0 : Int) (@Arr.cons Int (9 : Nat) (0 : Int) (@Arr.cons Int (8 : Nat) (0 : Int) (@Arr.cons Int (7 : Nat) (0 : Int) (@Arr.cons Int (6 : Nat) (0 : Int) (@Arr.cons Int (5 : Nat) (0 : Int) (@Arr.cons Int (4 : Nat) (0 : Int) (@Arr.cons Int (3 : Nat) (0 : Int) (@Arr.cons Int (2 : Nat) (0 : Int) (@Arr.cons Int (1 : Nat) (0 : Int) (@Arr.cons Int (0 : Nat) (0 : Int) (@Arr.nil Int))))))))))))))))), ((@Arr.cons Int (23 : Nat) (0 : Int) (@Arr.cons Int (22 : Nat) (0 : Int) (@Arr.cons Int (21 : Nat) (0 : Int) (@Arr.cons Int (20 : Nat) (0 : Int) (@Arr.cons Int (19 : Nat) (0 : Int) (@Arr.cons Int (18 : Nat) (0 : Int) (@Arr.cons Int (17 : Nat) (0 : Int) (@Arr.cons Int (16 : Nat) (0 : Int) (@Arr.cons Int (15 : Nat) (0 : Int) (@Arr.cons Int (14 : Nat) (0 : Int) (@Arr.cons Int (13 : Nat) (0 : Int) (@Arr.cons Int (12 : Nat) (0 : Int) (@Arr.cons Int (11 : Nat) (0 : Int) (@Arr.cons Int (10 : Nat) (0 : Int) (@Arr.cons Int (9 : Nat) (0 : Int) (@Arr.cons Int (8 : Nat) (0 : Int) (@Arr.cons Int (7 : Nat) (0 : Int) (@Arr.cons Int (6 : Nat) (0 : Int) (@Arr.cons Int (5 : Nat) (0 : Int) (@Arr.cons Int (4 : Nat) (0 : Int) (@Arr.cons Int (3 : Nat) (0 : Int) (@Arr.cons Int (2 : Nat) (0 : Int) (@Arr.cons Int (1 : Nat) (0 : Int) (@Arr.cons Int (0 : Nat) (0 : Int) (@Arr.nil Int))))))))))))))))))))))))), @Unit.unit)))))) fun (v2 : (((Int × Unit) × ((Arr Int 16) × ((Arr Int 24) × Unit))) ⊕ (((List Int) × Unit) × ((Arr Int 16) × ((Arr Int 24) × ((Arr Int 16) × ((Arr Int 24) × Unit))))))) =>
  Sum.elim
   (fun (v3 : ((Int × Unit) × ((Arr Int 16) × ((Arr Int 24) × Unit)))) =>
   some ((v3.2.1, (v3.2.2.1, v3.1.1))))
   (fun (v3 : (((List Int) × Unit) × ((Arr Int 16) × ((Arr Int 24) × ((Arr Int 16) × ((Arr Int 24) × Unit)))))) =>
   Option.bind (getI v3.1.1 (48 : Int)) fun (v4 : Int) =>
   bif (!(decide (v4 = (0 : Int)))) then
    some ((v3.2.2.2.1, (v3.2.2.2.2.1, (3 : Int))))
   else
    Option.bind (ref11_Parse_L13_R N ((v3.1.1, ((0 : Int), @Unit.unit)), (v3.2.1, (v3.2.2.1, (v3.2.2.2.1, (v3.2.2.2.2.1, @Unit.unit)))))) fun (v5 : (((List Int) × Unit) × ((Arr Int 16) × ((Arr Int 24) × ((Arr Int 16) × ((Arr Int 24) × Unit)))))) =>
    Option.bind (ref11_Parse_L17_R N ((v5.1.1, ((0 : Int), @Unit.unit)), (v5.2.1, (v5.2.2.1, (v5.2.2.2.1, (v5.2.2.2.2.1, @Unit.unit)))))) fun (v6 : (Unit × ((Arr Int 16) × ((Arr Int 24) × ((Arr Int 16) × ((Arr Int 24) × Unit)))))) =>
    some ((v6.2.2.2.1, (v6.2.2.2.2.1, (0 : Int))))) v2
theorem ref11_Parse_S (N : Nat) (value0 : List (Int)) : (runK Go.Proofs.Tryd.prog (Ev157 N) 400 6 [(.sl (.int .u8))] [(.arr 16 (.int .u8)), (.arr 24 (.int .u8)), (.int .i64)] (value0, ())).run = ref11_Parse N value0 := by kernel_rfl
theorem ref11_Parse_C (N : Nat) (value0 : List (Int)) (y : (Arr (Int) 16) × (Arr (Int) 24) × Int) (h : ref11_Parse N value0 = some y) : CallsK Go.Proofs.Tryd.prog 6 (valA [(.sl (.int .u8))] (value0, ())) (tupV (valR [(.arr 16 (.int .u8)), (.arr 24 (.int .u8)), (.int .i64)] y)) := runK_ok hmx (Ev157_ok N _) (okFn_ok (by kernel_rfl)) (by rw [ref11_Parse_S]; exact h)
noncomputable def Ev158 (N : Nat) : (R : Type) → Env R := Env.addFn (Ev157 N) 6 (fun R => fnK [(.sl (.int .u8))] [(.arr 16 (.int .u8)), (.arr 24 (.int .u8)), (.int .i64)] (fun c => ref11_Parse N c.1))
theorem Ev158_ok (N : Nat) (R : Type) : EnvOK Go.Proofs.Tryd.prog (Ev158 N R) := EnvOK.addFn hmx (Ev157_ok N R) (Ev157_ok N _) (by kernel_rfl) (fun c => ref11_Parse_S N c.1)
noncomputable def Ev159 (N : Nat) : (R : Type) → Env R := Env.addBx (Ev158 N) [(9, 0)]
theorem Ev159_ok (N : Nat) (R : Type) : EnvOK Go.Proofs.Tryd.prog (Ev159 N R) := EnvOK.addBx (Ev158_ok N R) [(9, 0)]
noncomputable def ref11_Value (N : Nat) (peer0 : Arr (Int) 16) (response1 : Arr (Int) 24) : Option (List (Int)) :=
 bif (roomB (List.length peer0.l) 1) then
  bif (roomB ((List.length peer0.l) + (Int.toNat (8 : Int))) 1) then
   bif (roomB ((List.length (peer0.l ++ (@List.replicate Int (Int.toNat (8 : Int)) (0 : Int)))) + (List.length response1.l)) 1) then
    bif (roomB ((List.length ((peer0.l ++ (@List.replicate Int (Int.toNat (8 : Int)) (0 : Int))) ++ response1.l)) + (List.length ([(0 : Int)] : List (Int)))) 1) then
     some ((((peer0.l ++ (@List.replicate Int (Int.toNat (8 : Int)) (0 : Int))) ++ response1.l) ++ ([(0 : Int)] : List (Int))))
    else
     none
   else
    none
  else
   none
 else
  none
theorem ref11_Value_S (N : Nat) (peer0 : Arr (Int) 16) (response1 : Arr (Int) 24) : (runK Go.Proofs.Tryd.prog (Ev159 N) 400 9 [(.arr 16 (.int .u8)), (.arr 24 (.int .u8))] [(.sl (.int .u8))] (peer0, response1, ())).run = ref11_Value N peer0 response1 := by kernel_rfl
theorem ref11_Value_C (N : Nat) (peer0 : Arr (Int) 16) (response1 : Arr (Int) 24) (y : List (Int)) (h : ref11_Value N peer0 response1 = some y) : CallsK Go.Proofs.Tryd.prog 9 (valA [(.arr 16 (.int .u8)), (.arr 24 (.int .u8))] (peer0, response1, ())) (tupV (valR [(.sl (.int .u8))] y)) := runK_ok hmx (Ev159_ok N _) (okFn_ok (by kernel_rfl)) (by rw [ref11_Value_S]; exact h)
noncomputable def Ev160 (N : Nat) : (R : Type) → Env R := Env.addFn (Ev159 N) 9 (fun R => fnK [(.arr 16 (.int .u8)), (.arr 24 (.int .u8))] [(.sl (.int .u8))] (fun c => ref11_Value N c.1 c.2.1))
theorem Ev160_ok (N : Nat) (R : Type) : EnvOK Go.Proofs.Tryd.prog (Ev160 N R) := EnvOK.addFn hmx (Ev159_ok N R) (Ev159_ok N _) (by kernel_rfl) (fun c => ref11_Value_S N c.1 c.2.1)
noncomputable def law11_alive (N : Nat) : Option (Bool) :=
 Option.bind (@chap2_Prove N (@Arr.cons Int (15 : Nat) (33 : Int) (@Arr.cons Int (14 : Nat) (64 : Int) (@Arr.cons Int (13 : Nat) (35 : Int) (@Arr.cons Int (12 : Nat) (36 : Int) (@Arr.cons Int (11 : Nat) (37 : Int) (@Arr.cons Int (10 : Nat) (94 : Int) (@Arr.cons Int (9 : Nat) (38 : Int) (@Arr.cons Int (8 : Nat) (42 : Int) (@Arr.cons Int (7 : Nat) (40 : Int) (@Arr.cons Int (6 : Nat) (41 : Int) (@Arr.cons Int (5 : Nat) (95 : Int) (@Arr.cons Int (4 : Nat) (43 : Int) (@Arr.cons Int (3 : Nat) (58 : Int) (@Arr.cons Int (2 : Nat) (51 : Int) (@Arr.cons Int (1 : Nat) (124 : Int) (@Arr.cons Int (0 : Nat) (126 : Int) (@Arr.nil Int))))))))))))))))) (@Arr.cons Int (15 : Nat) (91 : Int) (@Arr.cons Int (14 : Nat) (93 : Int) (@Arr.cons Int (13 : Nat) (124 : Int) (@Arr.cons Int (12 : Nat) (125 : Int) (@Arr.cons Int (11 : Nat) (123 : Int) (@Arr.cons Int (10 : Nat) (63 : Int) (@Arr.cons Int (9 : Nat) (47 : Int) (@Arr.cons Int (8 : Nat) (62 : Int) (@Arr.cons Int (7 : Nat) (60 : Int) (@Arr.cons Int (6 : Nat) (44 : Int) (@Arr.cons Int (5 : Nat) (96 : Int) (@Arr.cons Int (4 : Nat) (33 : Int) (@Arr.cons Int (3 : Nat) (50 : Int) (@Arr.cons Int (2 : Nat) (38 : Int) (@Arr.cons Int (1 : Nat) (38 : Int) (@Arr.cons Int (0 : Nat) (40 : Int) (@Arr.nil Int))))))))))))))))) (@Array.toList UInt8 (@List.toArray UInt8 ([(@OfNat.ofNat UInt8 (85 : Nat) (@UInt8.instOfNat (85 : Nat))), (@OfNat.ofNat UInt8 (115 : Nat) (@UInt8.instOfNat (115 : Nat))), (@OfNat.ofNat UInt8 (101 : Nat) (@UInt8.instOfNat (101 : Nat))), (@OfNat.ofNat UInt8 (114 : Nat) (@UInt8.instOfNat (114 : Nat)))] : List (UInt8)))) (@Array.toList UInt8 (@List.toArray UInt8 ([(@OfNat.ofNat UInt8 (99 : Nat) (@UInt8.instOfNat (99 : Nat))), (@OfNat.ofNat UInt8 (108 : Nat) (@UInt8.instOfNat (108 : Nat))), (@OfNat.ofNat UInt8 (105 : Nat) (@UInt8.instOfNat (105 : Nat))), (@OfNat.ofNat UInt8 (101 : Nat) (@UInt8.instOfNat (101 : Nat))), (@OfNat.ofNat UInt8 (110 : Nat) (@UInt8.instOfNat (110 : Nat))), (@OfNat.ofNat UInt8 (116 : Nat) (@UInt8.instOfNat (116 : Nat))), (@OfNat.ofNat UInt8 (80 : Nat) (@UInt8.instOfNat (80 : Nat))), (@OfNat.ofNat UInt8 (97 : Nat) (@UInt8.instOfNat (97 : Nat))), (@OfNat.ofNat UInt8 (115 : Nat) (@UInt8.instOfNat (115 : Nat))), (@OfNat.ofNat UInt8 (115 : Nat) (@UInt8.instOfNat (115 : Nat)))] : List (UInt8))))) fun (v1 : ((Arr Int 24) × Int)) =>
 Option.bind (@chap2_Value N (@Arr.cons Int (15 : Nat) (33 : Int) (@Arr.cons Int (14 : Nat) (64 : Int) (@Arr.cons Int (13 : Nat) (35 : Int) (@Arr.cons Int (12 : Nat) (36 : Int) (@Arr.cons Int (11 : Nat) (37 : Int) (@Arr.cons Int (10 : Nat) (94 : Int) (@Arr.cons Int (9 : Nat) (38 : Int) (@Arr.cons Int (8 : Nat) (42 : Int) (@Arr.cons Int (7 : Nat) (40 : Int) (@Arr.cons Int (6 : Nat) (41 : Int) (@Arr.cons Int (5 : Nat) (95 : Int) (@Arr.cons Int (4 : Nat) (43 : Int) (@Arr.cons Int (3 : Nat) (58 : Int) (@Arr.cons Int (2 : Nat) (51 : Int) (@Arr.cons Int (1 : Nat) (124 : Int) (@Arr.cons Int (0 : Nat) (126 : Int) (@Arr.nil Int))))))))))))))))) v1.1) fun (v2 : (List Int)) =>
 Option.bind (@chap2_Parse N v2) fun (v3 : ((Arr Int 16) × ((Arr Int 24) × Int))) =>
 Option.bind (@GetElem?.getElem? (List Int) Nat Int (fun (as4 : (List Int)) => (fun (i5 : Nat) => (@LT.lt Nat @instLTNat i5 (List.length as4)))) (@List.instGetElem?NatLtLength Int) v1.1.l (Int.toNat (0 : Int))) fun (v4 : Int) =>
 bif (decide (v4 = (130 : Int))) then
  Option.bind (@GetElem?.getElem? (List Int) Nat Int (fun (as5 : (List Int)) => (fun (i6 : Nat) => (@LT.lt Nat @instLTNat i6 (List.length as5)))) (@List.instGetElem?NatLtLength Int) v1.1.l (Int.toNat (1 : Int))) fun (v5 : Int) =>
  bif (@cond Bool @Bool.true (decide (v5 = (48 : Int))) @Bool.false) then
   Option.bind (@GetElem?.getElem? (List Int) Nat Int (fun (as6 : (List Int)) => (fun (i7 : Nat) => (@LT.lt Nat @instLTNat i7 (List.length as6)))) (@List.instGetElem?NatLtLength Int) v1.1.l (Int.toNat (2 : Int))) fun (v6 : Int) =>
   bif (@cond Bool @Bool.true (decide (v6 = (158 : Int))) @Bool.false) then
    bif (@cond Bool @Bool.true (decide (v1.2 = (0 : Int))) @Bool.false) then
     bif ((@wfB (@Td.arr (16 : Nat) (@Td.int @Go.IntKind.u8)) v3.1) && (@wfB (@Td.arr (16 : Nat) (@Td.int @Go.IntKind.u8)) (@Arr.cons Int (15 : Nat) (33 : Int) (@Arr.cons Int (14 : Nat) (64 : Int) (@Arr.cons Int (13 : Nat) (35 : Int) (@Arr.cons Int (12 : Nat) (36 : Int) (@Arr.cons Int (11 : Nat) (37 : Int) (@Arr.cons Int (10 : Nat) (94 : Int) (@Arr.cons Int (9 : Nat) (38 : Int) (@Arr.cons Int (8 : Nat) (42 : Int) (@Arr.cons Int (7 : Nat) (40 : Int) (@Arr.cons Int (6 : Nat) (41 : Int) (@Arr.cons Int (5 : Nat) (95 : Int) (@Arr.cons Int (4 : Nat) (43 : Int) (@Arr.cons Int (3 : Nat) (58 : Int) (@Arr.cons Int (2 : Nat) (51 : Int) (@Arr.cons Int (1 : Nat) (124 : Int) (@Arr.cons Int (0 : Nat) (126 : Int) (@Arr.nil Int))))))))))))))))))) then
      bif (@cond Bool @Bool.true (@Decidable.decide (@Eq (Arr Int 16) v3.1 (@Arr.cons Int (15 : Nat) (33 : Int) (@Arr.cons Int (14 : Nat) (64 : Int) (@Arr.cons Int (13 : Nat) (35 : Int) (@Arr.cons Int (12 : Nat) (36 : Int) (@Arr.cons Int (11 : Nat) (37 : Int) (@Arr.cons Int (10 : Nat) (94 : Int) (@Arr.cons Int (9 : Nat) (38 : Int) (@Arr.cons Int (8 : Nat) (42 : Int) (@Arr.cons Int (7 : Nat) (40 : Int) (@Arr.cons Int (6 : Nat) (41 : Int) (@Arr.cons Int (5 : Nat) (95 : Int) (@Arr.cons Int (4 : Nat) (43 : Int) (@Arr.cons Int (3 : Nat) (58 : Int) (@Arr.cons Int (2 : Nat) (51 : Int) (@Arr.cons Int (1 : Nat) (124 : Int) (@Arr.cons Int (0 : Nat) (126 : Int) (@Arr.nil Int)))))))))))))))))) (@decT (@Td.arr (16 : Nat) (@Td.int @Go.IntKind.u8)) v3.1 (@Arr.cons Int (15 : Nat) (33 : Int) (@Arr.cons Int (14 : Nat) (64 : Int) (@Arr.cons Int (13 : Nat) (35 : Int) (@Arr.cons Int (12 : Nat) (36 : Int) (@Arr.cons Int (11 : Nat) (37 : Int) (@Arr.cons Int (10 : Nat) (94 : Int) (@Arr.cons Int (9 : Nat) (38 : Int) (@Arr.cons Int (8 : Nat) (42 : Int) (@Arr.cons Int (7 : Nat) (40 : Int) (@Arr.cons Int (6 : Nat) (41 : Int) (@Arr.cons Int (5 : Nat) (95 : Int) (@Arr.cons Int (4 : Nat) (43 : Int) (@Arr.cons Int (3 : Nat) (58 : Int) (@Arr.cons Int (2 : Nat) (51 : Int) (@Arr.cons Int (1 : Nat) (124 : Int) (@Arr.cons Int (0 : Nat) (126 : Int) (@Arr.nil Int))))))))))))))))))) @Bool.false) then
       bif ((@wfB (@Td.arr (24 : Nat) (@Td.int @Go.IntKind.u8)) v3.2.1) && (@wfB (@Td.arr (24 : Nat) (@Td.int @Go.IntKind.u8)) v1.1)) then
        bif (@cond Bool @Bool.true (@Decidable.decide (@Eq (Arr Int 24) v3.2.1 v1.1) (@decT (@Td.arr (24 : Nat) (@Td.int @Go.IntKind.u8)) v3.2.1 v1.1)) @Bool.false) then
         bif (@cond Bool @Bool.true (decide (v3.2.2 = (0 : Int))) @Bool.false) then
          Option.bind (@chap2_Answer N (@Arr.cons Int (15 : Nat) (0 : Int) (@Arr.cons Int (14 : Nat) (0 : Int) (@Arr.cons Int (13 : Nat) (0 : Int) (@Arr.cons Int (12 : Nat) (0 : Int) (@Arr.cons Int (11 : Nat) (0 : Int) (@Arr.cons Int (10 : Nat) (0 : Int) (@Arr.cons Int (9 : Nat) (0 : Int) (@Arr.cons Int (8 : Nat) (0 : Int) (@Arr.cons Int (7 : Nat) (0 : Int) (@Arr.cons Int (6 : Nat) (0 : Int) (@Arr.cons Int (5 : Nat) (0 : Int) (@Arr.cons Int (4 : Nat) (0 : Int) (@Arr.cons Int (3 : Nat) (0 : Int) (@Arr.cons Int (2 : Nat) (0 : Int) (@Arr.cons Int (1 : Nat) (0 : Int) (@Arr.cons Int (0 : Nat) (0 : Int) (@Arr.nil Int))))))))))))))))) v1.1 (@Arr.cons Int (7 : Nat) (0 : Int) (@Arr.cons Int (6 : Nat) (0 : Int) (@Arr.cons Int (5 : Nat) (0 : Int) (@Arr.cons Int (4 : Nat) (0 : Int) (@Arr.cons Int (3 : Nat) (0 : Int) (@Arr.cons Int (2 : Nat) (0 : Int) (@Arr.cons Int (1 : Nat) (0 : Int) (@Arr.cons Int (0 : Nat) (0 : Int) (@Arr.nil Int)))))))))) fun (v7 : (List UInt8)) =>
          some ((@cond Bool @Bool.true (decide ((((List.length v7) : Nat) : Int) = (42 : Int))) @Bool.false))
         else
          some (@Bool.false)
        else
         some (@Bool.false)
       else
        none
      else
       some (@Bool.false)
     else
      none
    else
     some (@Bool.false)
   else
    some (@Bool.false)
  else
   some (@Bool.false)
 else
  some (@Bool.false)
theorem law11_alive_S (N : Nat) : (runK Go.Proofs.Tryd.prog (Ev160 N) 400 4 [] [.bool] ()).run = law11_alive N  := by kernel_rfl
theorem law11_alive_C (N : Nat) (y : Bool) (h : law11_alive N  = some y) : CallsK Go.Proofs.Tryd.prog 4 (valA [] ()) (tupV (valR [.bool] y)) := runK_ok hmx (Ev160_ok N _) (okFn_ok (by kernel_rfl)) (by rw [law11_alive_S]; exact h)
noncomputable def Ev161 (N : Nat) : (R : Type) → Env R := Env.addFn (Ev160 N) 4 (fun R => fnK [] [.bool] (fun c => law11_alive N ))
theorem Ev161_ok (N : Nat) (R : Type) : EnvOK Go.Proofs.Tryd.prog (Ev161 N R) := EnvOK.addFn hmx (Ev160_ok N R) (Ev160_ok N _) (by kernel_rfl) (fun c => law11_alive_S N )
noncomputable def Ev162 (N : Nat) : (R : Type) → Env R := Env.addBx (Ev161 N) [(3, 0)]
theorem Ev162_ok (N : Nat) (R : Type) : EnvOK Go.Proofs.Tryd.prog (Ev162 N R) := EnvOK.addBx (Ev161_ok N R) [(3, 0)]
noncomputable def law11_Chap2Values (N : Nat) (peer0 : Arr (Int) 16) (response1 : Arr (Int) 24) (v2 : List (Int)) : Option (Bool) :=
 bif (decide ((200 : Int) < (((List.length v2) : Nat) : Int))) then
  Option.bind (@law11_alive N) fun (v4 : Bool) =>
  some (v4)
 else
  Option.bind (@chap2_Parse N v2) fun (v4 : ((Arr Int 16) × ((Arr Int 24) × Int))) =>
  Option.bind (@ref11_Parse N v2) fun (v5 : ((Arr Int 16) × ((Arr Int 24) × Int))) =>
  Option.bind (@chap2_Value N peer0 response1) fun (v6 : (List Int)) =>
  Option.bind (@ref11_Value N peer0 response1) fun (v7 : (List Int)) =>
  Option.bind (@ref01_Same N v6 v7) fun (v8 : Bool) =>
  bif v8 then
   bif ((@wfB (@Td.arr (16 : Nat) (@Td.int @Go.IntKind.u8)) v4.1) && (@wfB (@Td.arr (16 : Nat) (@Td.int @Go.IntKind.u8)) v5.1)) then
    bif (@cond Bool @Bool.true (@Decidable.decide (@Eq (Arr Int 16) v4.1 v5.1) (@decT (@Td.arr (16 : Nat) (@Td.int @Go.IntKind.u8)) v4.1 v5.1)) @Bool.false) then
     bif ((@wfB (@Td.arr (24 : Nat) (@Td.int @Go.IntKind.u8)) v4.2.1) && (@wfB (@Td.arr (24 : Nat) (@Td.int @Go.IntKind.u8)) v5.2.1)) then
      bif (@cond Bool @Bool.true (@Decidable.decide (@Eq (Arr Int 24) v4.2.1 v5.2.1) (@decT (@Td.arr (24 : Nat) (@Td.int @Go.IntKind.u8)) v4.2.1 v5.2.1)) @Bool.false) then
       bif (@cond Bool @Bool.true (decide (v4.2.2 = v5.2.2)) @Bool.false) then
        Option.bind (@law11_alive N) fun (v9 : Bool) =>
        some ((@cond Bool @Bool.true v9 @Bool.false))
       else
        some (@Bool.false)
      else
       some (@Bool.false)
     else
      none
    else
     some (@Bool.false)
   else
    none
  else
   some (@Bool.false)
theorem law11_Chap2Values_S (N : Nat) (peer0 : Arr (Int) 16) (response1 : Arr (Int) 24) (v2 : List (Int)) : (runK Go.Proofs.Tryd.prog (Ev162 N) 400 3 [(.arr 16 (.int .u8)), (.arr 24 (.int .u8)), (.sl (.int .u8))] [.bool] (peer0, response1, v2, ())).run = law11_Chap2Values N peer0 response1 v2 := by kernel_rfl
theorem law11_Chap2Values_C (N : Nat) (peer0 : Arr (Int) 16) (response1 : Arr (Int) 24) (v2 : List (Int)) (y : Bool) (h : law11_Chap2Values N peer0 response1 v2 = some y) : CallsK Go.Proofs.Tryd.prog 3 (valA [(.arr 16 (.int .u8)), (.arr 24 (.int .u8)), (.sl (.int .u8))] (peer0, response1, v2, ())) (tupV (valR [.bool] y)) := runK_ok hmx (Ev162_ok N _) (okFn_ok (by kernel_rfl)) (by rw [law11_Chap2Values_S]; exact h)
noncomputable def Ev163 (N : Nat) : (R : Type) → Env R := Env.addFn (Ev162 N) 3 (fun R => fnK [(.arr 16 (.int .u8)), (.arr 24 (.int .u8)), (.sl (.int .u8))] [.bool] (fun c => law11_Chap2Values N c.1 c.2.1 c.2.2.1))
theorem Ev163_ok (N : Nat) (R : Type) : EnvOK Go.Proofs.Tryd.prog (Ev163 N R) := EnvOK.addFn hmx (Ev162_ok N R) (Ev162_ok N _) (by kernel_rfl) (fun c => law11_Chap2Values_S N c.1 c.2.1 c.2.2.1)
end Go.Proofs.YtfeggmghkhejcaaDoor
/-
  Layer 11, on plain data: values; the law Chap2Values.
-/
namespace Go.Proofs.YtfeggmghkhejcaaDoor
set_option maxRecDepth 100000
open Go.RowKit
set_option linter.unusedVariables false
set_option linter.unusedSimpArgs false
set_option maxRecDepth 100000

/-! ### Bits -/
theorem q8_of (a : Nat) (ha : a < 256) : (BitVec.ofInt 8 (a : Int)).toNat = a := by
  rw [BitVec.ofInt_natCast, BitVec.toNat_ofNat]; exact Nat.mod_eq_of_lt (by omega)
theorem xor8 (a b : Nat) (ha : a < 256) (hb : b < 256) : bits .xor .u8 (a : Int) (b : Int) = ((a ^^^ b : Nat) : Int) := by
  have hx : a ^^^ b < 2 ^ 8 := Nat.xor_lt_two_pow (by omega) (by omega)
  show IntKind.u8.wrap ((BitVec.ofInt 8 (a : Int) ^^^ BitVec.ofInt 8 (b : Int)).toNat : Int) = _
  rw [BitVec.toNat_xor, q8_of a ha, q8_of b hb, IntKind.wrap_u8]
  omega
theorem xor64 (a b : Nat) (ha : a < 2 ^ 62) (hb : b < 2 ^ 62) : bits .xor .i64 (a : Int) (b : Int) = ((a ^^^ b : Nat) : Int) := by
  have hx : a ^^^ b < 2 ^ 62 := Nat.xor_lt_two_pow ha hb
  show IntKind.i64.wrap ((BitVec.ofInt 64 (a : Int) ^^^ BitVec.ofInt 64 (b : Int)).toNat : Int) = _
  rw [BitVec.toNat_xor, q64_of a (by omega), q64_of b (by omega), wrap64 (by omega) (by omega)]
theorem or64 (a b : Nat) (ha : a < 2 ^ 62) (hb : b < 2 ^ 62) : bits .or .i64 (a : Int) (b : Int) = ((a ||| b : Nat) : Int) := by
  have hx : a ||| b < 2 ^ 62 := Nat.or_lt_two_pow ha hb
  show IntKind.i64.wrap ((BitVec.ofInt 64 (a : Int) ||| BitVec.ofInt 64 (b : Int)).toNat : Int) = _
  rw [BitVec.toNat_or, q64_of a (by omega), q64_of b (by omega), wrap64 (by omega) (by omega)]
theorem xor_zero (a b : Nat) : a ^^^ b = 0 ↔ a = b := by
  constructor
  · intro h
    have h2 : a ^^^ b ^^^ b = b := by rw [h, Nat.zero_xor]
    rw [Nat.xor_assoc, Nat.xor_self, Nat.xor_zero] at h2
    exact h2
  · rintro rfl; exact Nat.xor_self a
theorem or_zero' (a b : Nat) : a ||| b = 0 ↔ a = 0 ∧ b = 0 := by
  constructor
  · intro h
    constructor
    · apply Nat.eq_of_testBit_eq; intro i
      have := congrArg (Nat.testBit · i) h
      simp at this ⊢; exact this.1
    · apply Nat.eq_of_testBit_eq; intro i
      have := congrArg (Nat.testBit · i) h
      simp at this ⊢; exact this.2
  · rintro ⟨rfl, rfl⟩; rfl
def dif (a b : List Int) : Nat → Nat
  | 0 => a.length ^^^ b.length
  | i + 1 => dif a b i ||| ((a.getD i 0).toNat ^^^ (b.getD i 0).toNat)
theorem b8 {a : List Int} (h : AllB a) (i : Nat) : 0 ≤ a.getD i 0 ∧ a.getD i 0 < 256 := by
  rw [List.getD_eq_getElem?_getD]
  rcases Nat.lt_or_ge i a.length with hi | hi
  · rw [List.getElem?_eq_getElem hi]; exact h.get i hi
  · rw [List.getElem?_eq_none hi]; exact ⟨Int.le_refl _, by decide⟩
theorem dif_lt {a b : List Int} (ha : AllB a) (hb : AllB b) (la : a.length < 100000) (lb : b.length < 100000) : ∀ i, dif a b i < 2 ^ 62
  | 0 => Nat.xor_lt_two_pow (by omega) (by omega)
  | i + 1 => by
    have h1 := b8 ha i
    have h2 := b8 hb i
    exact Nat.or_lt_two_pow (dif_lt ha hb la lb i) (Nat.xor_lt_two_pow (by omega) (by omega))
theorem dif_zero (a b : List Int) : ∀ i, dif a b i = 0 ↔ a.length = b.length ∧ ∀ j, j < i → (a.getD j 0).toNat = (b.getD j 0).toNat
  | 0 => by
    unfold dif
    rw [xor_zero]
    exact ⟨fun h => ⟨h, fun j hj => by omega⟩, fun h => h.1⟩
  | i + 1 => by
    unfold dif
    rw [or_zero', dif_zero a b i, xor_zero]
    constructor
    · rintro ⟨⟨h1, h2⟩, h3⟩
      refine ⟨h1, fun j hj => ?_⟩
      rcases Nat.lt_or_ge j i with h | h
      · exact h2 j h
      · have : j = i := by omega
        subst this; exact h3
    · rintro ⟨h1, h2⟩
      exact ⟨⟨h1, fun j hj => h2 j (by omega)⟩, h2 i (by omega)⟩
theorem osame (a b : List Int) (ha : AllB a) (hb : AllB b) (la : a.length < 100000) (lb : b.length < 100000) {N : Nat} (hN : 200000 ≤ N) : octs_Same N a b = some (decide (a = b)) := by
  obtain ⟨m, hm⟩ : ∃ m, m = min a.length b.length := ⟨_, rfl⟩
  have hmi : minI (a.length : Int) (b.length : Int) = (m : Int) := by unfold minI; split <;> omega
  have hloop : octs_Same_L3_R N ((a, (b, (((dif a b 0 : Nat) : Int), ((m : Int), ((0 : Int), ()))))), ()) = some ((((dif a b m : Nat) : Int), ()), ()) := by
    refine gl_run (G := fun X c => octs_Same_L3 N X c.1.1 c.1.2.1 c.1.2.2.1 c.1.2.2.2.1 c.1.2.2.2.2.1) (fun i => ((a, (b, (((dif a b i : Nat) : Int), ((m : Int), (((i : Nat) : Int), ()))))), ())) m _ (fun X i hi => ?_) (fun X => ?_) N 0 (Nat.zero_le _) (by omega)
    · have c1 : ((i : Int) < (m : Int)) := by omega
      have hia : i < a.length := by omega
      have hib : i < b.length := by omega
      have h1 := b8 ha i
      have h2 := b8 hb i
      have e1 : a[i] = ((a.getD i 0).toNat : Int) := by
        rw [Int.toNat_of_nonneg h1.1, List.getD_eq_getElem?_getD, List.getElem?_eq_getElem hia]; rfl
      have e2 : b[i] = ((b.getD i 0).toNat : Int) := by
        rw [Int.toNat_of_nonneg h2.1, List.getD_eq_getElem?_getD, List.getElem?_eq_getElem hib]; rfl
      have hx : (a.getD i 0).toNat ^^^ (b.getD i 0).toNat < 2 ^ 8 := Nat.xor_lt_two_pow (by omega) (by omega)
      have e3 : Go.IntKind.wrap .i64 ((i : Int) + 1) = ((i + 1 : Nat) : Int) := by rw [wrap64 (by omega) (by omega)]; omega
      simp only [octs_Same_L3, c1, decide_true, cond_true, getI_lt a i hia, getI_lt b i hib, Option.bind_some, e3]
      rw [e1, e2, xor8 _ _ (by omega) (by omega), wrap64 (by omega) (by omega), or64 _ _ (dif_lt ha hb la lb i) (by omega)]
      rfl
    · have c1 : ¬ ((m : Int) < (m : Int)) := by omega
      simp only [octs_Same_L3, c1, decide_false, cond_false]
  have hx : bits .xor .i64 (a.length : Int) (b.length : Int) = ((dif a b 0 : Nat) : Int) := xor64 _ _ (by omega) (by omega)
  unfold octs_Same
  rw [hx, hmi]
  refine (congrArg (fun o => Option.bind o _) hloop).trans ?_
  simp only [Option.bind_some, Option.some.injEq]
  have key : ((dif a b m : Nat) : Int) = 0 ↔ a = b := by
    rw [show (((dif a b m : Nat) : Int) = 0 ↔ dif a b m = 0) from by omega, dif_zero]
    constructor
    · rintro ⟨h1, h2⟩
      apply List.ext_getElem h1
      intro j hj1 hj2
      have h3 := h2 j (by omega)
      have q1 := b8 ha j
      have q2 := b8 hb j
      rw [List.getD_eq_getElem?_getD, List.getElem?_eq_getElem hj1, Option.getD_some] at h3 q1
      rw [List.getD_eq_getElem?_getD, List.getElem?_eq_getElem hj2, Option.getD_some] at h3 q2
      omega
    · rintro rfl; exact ⟨rfl, fun _ _ => rfl⟩
  exact decide_eq_decide.2 key


theorem Arr.eq {α : Type} {n : Nat} {a b : Arr α n} (h : a.l = b.l) : a = b := by
  cases a; cases b; simp only at h; subst h; rfl
theorem wfB_b {n : Nat} (a : Arr Int n) (h : AllB a.l) : wfB (.arr n (.int .u8)) a = true := List.all_eq_true.2 fun x hx => by
  have h1 := h x hx
  show (Lit.int .u8 x).wf = true
  simp only [Lit.wf, Bool.and_eq_true, decide_eq_true_eq, IntKind.min, IntKind.max, IntKind.signed, IntKind.bits]
  simp
  omega
theorem room_small {n : Nat} (h : n ≤ 100000) : roomB n 1 = true := roomB_of (by have := big_len; omega) (by omega)
theorem toArrN (n : Nat) (l : List Int) (h : l.length = n) : toArr n l = some ⟨l, h⟩ := by
  subst h
  unfold toArr
  rw [dif_pos (Nat.le_refl _)]
  congr 1
  exact Arr.ext' (List.take_of_length_le (Nat.le_refl _))
theorem rep_B (n : Nat) (x : Int) (h : 0 ≤ x ∧ x < 256) : AllB (List.replicate n x) := fun y hy => by rw [(List.mem_replicate.1 hy).2]; exact h
def valB (p r : List Int) : List Int := p ++ List.replicate 8 0 ++ r ++ [0]
theorem value_ok (p : Arr Int 16) (r : Arr Int 24) : chap2_Value 200000 p r = some (valB p.l r.l) := by
  have hp := p.h
  have hr := r.h
  have : octs_Join 200000 [p.l, List.replicate (Int.toNat 8) 0, r.l, [0]] = some ([p.l, List.replicate (Int.toNat 8) 0, r.l, [0]] : List (List Int)).flatten := join_ok (N := 200000) _ (by simp) (fun q hq => by
    simp only [List.mem_cons, List.not_mem_nil, or_false] at hq
    rcases hq with rfl | rfl | rfl | rfl
    · omega
    · simp
    · omega
    · simp) (by omega)
  unfold chap2_Value
  rw [this]
  simp [valB]
theorem rvalue_ok (p : Arr Int 16) (r : Arr Int 24) : ref11_Value 200000 p r = some (valB p.l r.l) := by
  have hp := p.h
  have hr := r.h
  unfold ref11_Value
  rw [room_small (by omega), room_small (by omega), room_small (by simp only [List.length_append, List.length_replicate]; omega), room_small (by simp only [List.length_append, List.length_replicate, List.length_cons, List.length_nil]; omega)]
  rfl
def z16 : Arr Int 16 := ⟨List.replicate 16 0, rfl⟩
def z24 : Arr Int 24 := ⟨List.replicate 24 0, rfl⟩
def peerOf (v : List Int) (h : v.length = 49) : Arr Int 16 := ⟨v.take 16, by rw [List.length_take]; omega⟩
def respOf (v : List Int) (h : v.length = 49) : Arr Int 24 := ⟨(v.drop 24).take 24, by rw [List.length_take, List.length_drop]; omega⟩
def fineV (v : List Int) : Prop := (v.drop 16).take 8 = List.replicate 8 0 ∧ v.drop 48 = [0]
instance (v : List Int) : Decidable (fineV v) := by unfold fineV; infer_instance
theorem split49 (v : List Int) (h : v.length = 49) : v = v.take 16 ++ (v.drop 16).take 8 ++ (v.drop 24).take 24 ++ v.drop 48 := by
  have e1 : (v.drop 16).take 8 ++ v.drop 24 = v.drop 16 := by
    have := List.take_append_drop 8 (v.drop 16)
    rw [List.drop_drop] at this; exact this
  have e2 : (v.drop 24).take 24 ++ v.drop 48 = v.drop 24 := by
    have := List.take_append_drop 24 (v.drop 24)
    rw [List.drop_drop] at this; exact this
  rw [List.append_assoc, List.append_assoc, e2, e1, List.take_append_drop]
theorem value_iff (v : List Int) (h : v.length = 49) : valB (peerOf v h).l (respOf v h).l = v ↔ fineV v := by
  show v.take 16 ++ List.replicate 8 0 ++ (v.drop 24).take 24 ++ [0] = v ↔ _
  constructor
  · intro e
    have h1 := split49 v h
    have l1 : ((v.drop 16).take 8).length = 8 := by rw [List.length_take, List.length_drop]; omega
    have l2 : (v.drop 48).length = 1 := by rw [List.length_drop]; omega
    have e2 : v.take 16 ++ List.replicate 8 0 ++ (v.drop 24).take 24 ++ [0] = v.take 16 ++ (v.drop 16).take 8 ++ (v.drop 24).take 24 ++ v.drop 48 := by rw [e]; exact h1
    have k1 := List.append_inj' e2 (by rw [l2]; rfl)
    have k2 := List.append_inj' k1.1 rfl
    have k3 := List.append_inj' k2.1 (by rw [l1]; simp)
    exact ⟨k3.2.symm, k1.2.symm⟩
  · rintro ⟨h1, h2⟩
    have := split49 v h
    rw [h1, h2] at this
    exact this.symm
theorem parse_ok (v : List Int) (hb : AllB v) (hl : v.length ≤ 200) : chap2_Parse 200000 v = some (if h : v.length = 49 then (if fineV v then (peerOf v h, respOf v h, 0) else (z16, z24, 3)) else (z16, z24, 1)) := by
  unfold chap2_Parse
  by_cases h : v.length = 49
  · have c1 : ((v.length : Int) = 49) := by omega
    have t1 : takeI v (16 : Int) = some (v.take 16) := takeI_nat v (i := 16) rfl (by omega)
    have t2 : toArr 16 (v.take 16) = some (peerOf v h) := toArrN 16 _ (peerOf v h).h
    have t3 : subI v (24 : Int) 48 = some ((v.drop 24).take 24) := subI_nat v (i := 24) (j := 48) rfl rfl (by omega) (by omega)
    have t4 : toArr 24 ((v.drop 24).take 24) = some (respOf v h) := toArrN 24 _ (respOf v h).h
    have hvl : (valB (peerOf v h).l (respOf v h).l).length = 49 := by
      have a1 := (peerOf v h).h
      have a2 := (respOf v h).h
      simp only [valB, List.length_append, List.length_replicate, List.length_cons, List.length_nil]; omega
    have hvB : AllB (valB (peerOf v h).l (respOf v h).l) := (((hb.take 16).append (rep_B 8 0 (by omega))).append ((hb.drop 24).take 24)).append (AllB.cons (by omega) AllB.nil)
    have hs : octs_Same 200000 (valB (peerOf v h).l (respOf v h).l) v = some (decide (valB (peerOf v h).l (respOf v h).l = v)) := osame _ _ hvB hb (by omega) (by omega) (by omega)
    rw [dif_pos h, decide_eq_true c1, t1, Option.bind_some, t2, Option.bind_some, t3, Option.bind_some, t4, Option.bind_some, value_ok, Option.bind_some, hs, Option.bind_some]
    by_cases hf : fineV v
    · rw [if_pos hf, decide_eq_true ((value_iff v h).2 hf)]; rfl
    · rw [if_neg hf, decide_eq_false (fun e => hf ((value_iff v h).1 e))]; rfl
  · have c1 : ¬ ((v.length : Int) = 49) := by omega
    rw [dif_neg h, decide_eq_false c1]; rfl
section
variable {N : Nat}
theorem zeroLoop (v : List Int) (hv : v.length = 49) (h0 : Arr Int 16) (h1 : Arr Int 24) (h2 : Arr Int 16) (h3 : Arr Int 24) : ∀ (k M i : Nat), k + i = 24 → k < M →
    gl (fun X c => ref11_Parse_L6 N X c.1.1 c.1.2.1 c.2.1 c.2.2.1 c.2.2.2.1 c.2.2.2.2.1) M ((v, ((i : Int), ())), (h0, (h1, (h2, (h3, ()))))) = some (if (v.drop i).take k = List.replicate k 0 then .inr ((v, ()), (h0, (h1, (h2, (h3, ()))))) else .inl ((3, ()), (h2, (h3, ()))))
  | 0, M + 1, i, hk, hM => by
    have c1 : ¬ ((i : Int) < 24) := by omega
    rw [gl_succ]
    simp only [ref11_Parse_L6, c1, decide_false, cond_false, List.take_zero, List.replicate_zero, if_true]
  | k + 1, M + 1, i, hk, hM => by
    have c1 : ((i : Int) < 24) := by omega
    have hi : i < v.length := by omega
    have e0 : Go.IntKind.wrap .i64 ((i : Int) + 1) = ((i + 1 : Nat) : Int) := by rw [wrap64 (by omega) (by omega)]; omega
    have ih := zeroLoop v hv h0 h1 h2 h3 k M (i + 1) (by omega) (by omega)
    have hd : (v.drop i).take (k + 1) = v[i] :: (v.drop (i + 1)).take k := by rw [List.drop_eq_getElem_cons hi, List.take_succ_cons]
    rw [gl_succ]
    simp only [ref11_Parse_L6, c1, decide_true, cond_true, getI_lt v i hi, Option.bind_some, e0]
    rw [hd, List.replicate_succ]
    by_cases hz : v[i] = 0
    · simp only [hz, decide_true, Bool.not_true, cond_false]
      refine Eq.trans ih ?_
      simp
    · simp [hz]
theorem fill16 (v : List Int) (hv : v.length = 49) (h0 : Arr Int 16) (h1 : Arr Int 24) (h3 : Arr Int 24) : ∀ (k M i : Nat) (o : Arr Int 16), k + i = 16 → k < M →
    ∃ K : Arr Int 16, K.l = o.l.take i ++ (v.take 16).drop i ∧ gl (fun X c => ref11_Parse_L13 N X c.1.1 c.1.2.1 c.2.1 c.2.2.1 c.2.2.2.1 c.2.2.2.2.1) M ((v, ((i : Int), ())), (h0, (h1, (o, (h3, ()))))) = some ((v, ()), (h0, (h1, (K, (h3, ())))))
  | 0, M + 1, i, o, hk, hM => by
    have c1 : ¬ ((i : Int) < 16) := by omega
    have hol := o.h
    have d1 : (v.take 16).drop i = [] := List.drop_eq_nil_of_le (by rw [List.length_take]; omega)
    refine ⟨o, ?_, ?_⟩
    · rw [List.take_of_length_le (by omega), d1, List.append_nil]
    · rw [gl_succ]
      simp only [ref11_Parse_L13, c1, decide_false, cond_false]
  | k + 1, M + 1, i, o, hk, hM => by
    have hol := o.h
    have c1 : ((i : Int) < 16) := by omega
    have hi : i < v.length := by omega
    have e0 : Go.IntKind.wrap .i64 ((i : Int) + 1) = ((i + 1 : Nat) : Int) := by rw [wrap64 (by omega) (by omega)]; omega
    have c3 : (0 : Int) ≤ (i : Int) ∧ (i : Int) < ((16 : Nat) : Int) := by omega
    have e1 : Int.toNat (i : Int) = i := Int.toNat_natCast i
    have g2 : o.l[i]? = some (o.l[i]'(by omega)) := List.getElem?_eq_getElem _
    obtain ⟨K, k1, k2⟩ := fill16 v hv h0 h1 h3 k M (i + 1) (o.set i v[i]) (by omega) (by omega)
    refine ⟨K, ?_, ?_⟩
    · rw [k1]
      have q1 : (o.set i v[i]).l.take (i + 1) = o.l.take i ++ [v[i]] := by
        show (o.l.set i _).take (i + 1) = _
        rw [List.take_add_one, List.take_set_of_le (Nat.le_refl _), List.getElem?_set_self (by omega)]
        rfl
      rw [q1, List.append_assoc]
      congr 1
      have hlt : i < (v.take 16).length := by rw [List.length_take]; omega
      rw [List.drop_eq_getElem_cons hlt, List.getElem_take]
      rfl
    · rw [gl_succ]
      simp only [ref11_Parse_L13, c1, decide_true, cond_true, getI_lt v i hi, Option.bind_some, c3, and_self, e1, g2, e0]
      exact k2
theorem fill24 (v : List Int) (hv : v.length = 49) (h0 : Arr Int 16) (h1 : Arr Int 24) (h2 : Arr Int 16) : ∀ (k M i : Nat) (o : Arr Int 24), k + i = 24 → k < M →
    ∃ K : Arr Int 24, K.l = o.l.take i ++ ((v.drop 24).take 24).drop i ∧ gl (fun X c => ref11_Parse_L17 N X c.1.1 c.1.2.1 c.2.1 c.2.2.1 c.2.2.2.1 c.2.2.2.2.1) M ((v, ((i : Int), ())), (h0, (h1, (h2, (o, ()))))) = some ((), (h0, (h1, (h2, (K, ())))))
  | 0, M + 1, i, o, hk, hM => by
    have c1 : ¬ ((i : Int) < 24) := by omega
    have hol := o.h
    have d1 : ((v.drop 24).take 24).drop i = [] := List.drop_eq_nil_of_le (by rw [List.length_take]; omega)
    refine ⟨o, ?_, ?_⟩
    · rw [List.take_of_length_le (by omega), d1, List.append_nil]
    · rw [gl_succ]
      simp only [ref11_Parse_L17, c1, decide_false, cond_false]
  | k + 1, M + 1, i, o, hk, hM => by
    have hol := o.h
    have c1 : ((i : Int) < 24) := by omega
    have hi : 24 + i < v.length := by omega
    have e0 : Go.IntKind.wrap .i64 ((i : Int) + 1) = ((i + 1 : Nat) : Int) := by rw [wrap64 (by omega) (by omega)]; omega
    have e2 : Go.IntKind.wrap .i64 ((24 : Int) + (i : Int)) = ((24 + i : Nat) : Int) := by rw [wrap64 (by omega) (by omega)]; omega
    have c3 : (0 : Int) ≤ (i : Int) ∧ (i : Int) < ((24 : Nat) : Int) := by omega
    have e1 : Int.toNat (i : Int) = i := Int.toNat_natCast i
    have g2 : o.l[i]? = some (o.l[i]'(by omega)) := List.getElem?_eq_getElem _
    obtain ⟨K, k1, k2⟩ := fill24 v hv h0 h1 h2 k M (i + 1) (o.set i (v[24 + i]'hi)) (by omega) (by omega)
    refine ⟨K, ?_, ?_⟩
    · rw [k1]
      have q1 : (o.set i (v[24 + i]'hi)).l.take (i + 1) = o.l.take i ++ [v[24 + i]'hi] := by
        show (o.l.set i _).take (i + 1) = _
        rw [List.take_add_one, List.take_set_of_le (Nat.le_refl _), List.getElem?_set_self (by omega)]
        rfl
      rw [q1, List.append_assoc]
      congr 1
      have hlt : i < ((v.drop 24).take 24).length := by rw [List.length_take, List.length_drop]; omega
      rw [List.drop_eq_getElem_cons hlt, List.getElem_take, List.getElem_drop]
      rfl
    · rw [gl_succ]
      simp only [ref11_Parse_L17, c1, decide_true, cond_true, e2, getI_lt v (24 + i) hi, Option.bind_some, c3, and_self, e1, g2, e0]
      exact k2
end
theorem rparse_ok (v : List Int) : ref11_Parse 200000 v = some (if h : v.length = 49 then (if fineV v then (peerOf v h, respOf v h, 0) else (z16, z24, 3)) else (z16, z24, 1)) := by
  unfold ref11_Parse
  by_cases h : v.length = 49
  · have c1 : ((v.length : Int) = 49) := by omega
    have hz : ref11_Parse_L6_R 200000 ((v, ((16 : Int), ())), (z16, (z24, (z16, (z24, ()))))) = some (if (v.drop 16).take 8 = List.replicate 8 0 then .inr ((v, ()), (z16, (z24, (z16, (z24, ()))))) else .inl ((3, ()), (z16, (z24, ())))) := zeroLoop (N := 200000) v h z16 z24 z16 z24 8 200000 16 (by omega) (by omega)
    obtain ⟨K, a1, a2⟩ := fill16 (N := 200000) v h z16 z24 z24 16 200000 0 z16 (by omega) (by omega)
    have hK : K = peerOf v h := Arr.eq (by rw [a1]; rfl)
    subst hK
    obtain ⟨J, b1, b2⟩ := fill24 (N := 200000) v h z16 z24 (peerOf v h) 24 200000 0 z24 (by omega) (by omega)
    have hJ : J = respOf v h := Arr.eq (by rw [b1]; rfl)
    subst hJ
    have a2' : ref11_Parse_L13_R 200000 ((v, ((0 : Int), ())), (z16, (z24, (z16, (z24, ()))))) = some ((v, ()), (z16, (z24, (peerOf v h, (z24, ()))))) := a2
    have b2' : ref11_Parse_L17_R 200000 ((v, ((0 : Int), ())), (z16, (z24, (peerOf v h, (z24, ()))))) = some ((), (z16, (z24, (peerOf v h, (respOf v h, ()))))) := b2
    have hd : v.drop 48 = [v[48]'(by omega)] := by
      rw [List.drop_eq_getElem_cons (by omega)]
      congr 1
      exact List.drop_eq_nil_of_le (by omega)
    have g48 : getI v (48 : Int) = some (v[48]'(by omega)) := getI_lt v 48 (by omega)
    rw [dif_pos h, decide_eq_true c1]
    simp only [Bool.not_true, cond_false]
    refine (congrArg (fun o => Option.bind o _) hz).trans ?_
    rw [Option.bind_some]
    by_cases hq : (v.drop 16).take 8 = List.replicate 8 0
    · rw [if_pos hq]
      simp only [Sum.elim_inr, g48, Option.bind_some]
      by_cases h0 : v[48]'(by omega) = 0
      · have hf : fineV v := ⟨hq, by rw [hd, h0]⟩
        rw [if_pos hf, h0]
        simp only [decide_true, Bool.not_true, cond_false]
        refine (congrArg (fun o => Option.bind o _) a2').trans ?_
        rw [Option.bind_some]
        refine (congrArg (fun o => Option.bind o _) b2').trans ?_
        rfl
      · have hf : ¬ fineV v := fun hh => h0 (by have := hh.2; rw [hd] at this; injection this)
        rw [if_neg hf, decide_eq_false h0]; rfl
    · have hf : ¬ fineV v := fun hh => hq hh.1
      rw [if_neg hq, if_neg hf]; rfl
  · have c1 : ¬ ((v.length : Int) = 49) := by omega
    rw [dif_neg h, decide_eq_false c1]; rfl
theorem alive11 : law11_alive 200000 = some true := by decide +kernel
theorem parts_B (v : List Int) (hb : AllB v) : AllB (if h : v.length = 49 then (if fineV v then (peerOf v h, respOf v h, (0 : Int)) else (z16, z24, 3)) else (z16, z24, 1)).1.l ∧ AllB (if h : v.length = 49 then (if fineV v then (peerOf v h, respOf v h, (0 : Int)) else (z16, z24, 3)) else (z16, z24, 1)).2.1.l := by
  have z : AllB z16.l ∧ AllB z24.l := ⟨rep_B 16 0 (by omega), rep_B 24 0 (by omega)⟩
  split
  · split
    · exact ⟨hb.take 16, (hb.drop 24).take 24⟩
    · exact z
  · exact z
theorem law_Chap2Values (p : Arr Int 16) (r : Arr Int 24) (v : List Int) (w1 : wfT (.arr 16 (.int .u8)) p) (w2 : wfT (.arr 24 (.int .u8)) r) (w3 : wfT (.sl (.int .u8)) v) : law11_Chap2Values 200000 p r v = some true := by
  have hb : AllB v := wf_bytes w3
  have hp := p.h
  have hr := r.h
  unfold law11_Chap2Values
  by_cases hl : (200 : Int) < (v.length : Int)
  · rw [decide_eq_true hl]
    simp only [cond_true, alive11, Option.bind_some]
  · have hd : ∀ (n : Nat) (x : Arr Int n), @Decidable.decide (@Eq (Arr Int n) x x) (@decT (.arr n (.int .u8)) x x) = true := fun n x => decide_eq_true rfl
    have hs : ref01_Same 200000 (valB p.l r.l) (valB p.l r.l) = some true := by
      have h1 : (valB p.l r.l).length = 49 := by simp only [valB, List.length_append, List.length_replicate, List.length_cons, List.length_nil]; omega
      have := sameF_ok (N := 200000) (a := valB p.l r.l) (b := valB p.l r.l) (by omega) (by omega)
      rw [decide_eq_true rfl] at this
      exact this
    obtain ⟨q1, q2⟩ := parts_B v hb
    rw [decide_eq_false hl, parse_ok v hb (by omega), rparse_ok v, value_ok, rvalue_ok]
    generalize (if h : v.length = 49 then (if fineV v then (peerOf v h, respOf v h, (0 : Int)) else (z16, z24, 3)) else (z16, z24, 1)) = y at q1 q2 ⊢
    simp only [cond_false, Option.bind_some, hs, cond_true, wfB_b _ q1, wfB_b _ q2, Bool.and_self, hd, decide_true, alive11]
end Go.Proofs.YtfeggmghkhejcaaDoor
