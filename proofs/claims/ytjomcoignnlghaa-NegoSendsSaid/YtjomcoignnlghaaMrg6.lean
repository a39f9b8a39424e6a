/-
  Parts of my own, one behind the other: QNg4, QNg5, QNg6, QNg7, QNg8.
-/
import Derived.Test.YtjomcoignnlghaaMrg5
namespace Go.Proofs.Ytjomcoignnlghaa
set_option maxRecDepth 100000
open Go.RowKit
set_option linter.unusedVariables false
set_option linter.unusedSimpArgs false
set_option maxRecDepth 100000
section
variable {N : Nat}
theorem conC_len (code id : Int) (l : List Op) (h : wfO l) : (conC code id l).1.2.2.length ≤ 20000 := by
 unfold conC
 cases isC code
 ·simp
 ·by_cases h0 : (layS l).2 = 0
  ·have := (layS_wf l h).2
   simp only [h0, decide_true, cond_true]
   omega
  ·simp [h0]
theorem nrm (pk : List Ct) (c : Ct) (h : pk.length ≤ 100) : roomB (pk.length + ([c] : List Ct).length) 32 = true := roomB_of (by have := big_len; simp; omega) (by simp; omega)
set_option maxHeartbeats 1000000 in
theorem act_is (next : Int) (acts : List Int) (i : Nat) (a : Int) (hi : acts[i]? = some a) (hal : acts.length ≤ 1000) (n z : Nt) (came ans : Ct) (h4 h5 h6 h7 f1 f2 f3 f4 : Bool) (h12 pk : List Ct) (hw : wfR n.1) (hc : came.2.2.length ≤ 5000) (ha : ans.2.2.length ≤ 20000) (hp : pk.length ≤ 100) (hN : 10000 ≤ N) (hN2 : N ≤ 1000000) (X) :
  nego_Nego_done_L7 N X next acts acts (acts.length : Int) (i : Int) n came ans z h4 h5 h6 h7 f1 f2 f3 f4 h12 pk =
   X ((next, (acts, (acts, ((acts.length : Int), (((i + 1 : Nat) : Int), ()))))), ((stepA acts came ans (n, (f1, f2, f3, f4), pk) a).1, (came, (ans, (z, (h4, (h5, (h6, (h7, ((stepA acts came ans (n, (f1, f2, f3, f4), pk) a).2.1.1, ((stepA acts came ans (n, (f1, f2, f3, f4), pk) a).2.1.2.1, ((stepA acts came ans (n, (f1, f2, f3, f4), pk) a).2.1.2.2.1, ((stepA acts came ans (n, (f1, f2, f3, f4), pk) a).2.1.2.2.2, (h12, ((stepA acts came ans (n, (f1, f2, f3, f4), pk) a).2.2, ()))))))))))))))) := by
 have hlt : i < acts.length := (List.getElem?_eq_some_iff.1 hi).1
 have c1 : decide ((i : Int) < (acts.length : Int)) = true := decide_eq_true (by omega)
 have c2 : IntKind.wrap .i64 ((i : Int) + 1) = ((i + 1 : Nat) : Int) := by rw [wrap64 (by omega) (by omega)]; omega
 have g : getI acts (i : Int) = some a := by rw [getI_nat]; exact hi
 have hask := asks_is (N := N) n hw hN
 have hwf := askS_wf n.1
 have hcont := cont_is (N := N) acts 10 (by omega) hN2
 have hsent := sent_is (N := N) n.2.2.1
 have lay := fun (c : Ct) (h : c.2.2.length ≤ 20000) => clay2 (N := N) c h hN
 have rm := fun (c : Ct) => nrm pk c hp
 by_cases e1 : a = 1
 ·have t1 : decide (a = (1 : Int)) = true := decide_eq_true e1
  have d2 : decide (a = (2 : Int)) = false := decide_eq_false (by omega)
  have d3 : decide (a = (3 : Int)) = false := decide_eq_false (by omega)
  have d4 : decide (a = (4 : Int)) = false := decide_eq_false (by omega)
  have d5 : decide (a = (5 : Int)) = false := decide_eq_false (by omega)
  have d6 : decide (a = (6 : Int)) = false := decide_eq_false (by omega)
  have d7 : decide (a = (7 : Int)) = false := decide_eq_false (by omega)
  have d10 : decide (a = (10 : Int)) = false := decide_eq_false (by omega)
  have d12 : decide (a = (12 : Int)) = false := decide_eq_false (by omega)
  have d8 : decide (a = (8 : Int)) = false := decide_eq_false (by omega)
  have d9 : decide (a = (9 : Int)) = false := decide_eq_false (by omega)
  have d11 : decide (a = (11 : Int)) = false := decide_eq_false (by omega)
  have hs : stepA acts came ans (n, (f1, f2, f3, f4), pk) a = (n, (true, f2, f3, f4), pk) := by unfold stepA; rw [if_pos e1]
  rw [hs]
  simp only [nego_Nego_done_L7, c1, c2, cond_true, cond_false, g, Option.bind_some, t1, d2, d3, d4, d5, d6, d7, d10, d12, d8, d9, d11]
 have n1 := e1
 by_cases e2 : a = 2
 ·have t2 : decide (a = (2 : Int)) = true := decide_eq_true e2
  have d1 : decide (a = (1 : Int)) = false := decide_eq_false n1
  have d3 : decide (a = (3 : Int)) = false := decide_eq_false (by omega)
  have d4 : decide (a = (4 : Int)) = false := decide_eq_false (by omega)
  have d5 : decide (a = (5 : Int)) = false := decide_eq_false (by omega)
  have d6 : decide (a = (6 : Int)) = false := decide_eq_false (by omega)
  have d7 : decide (a = (7 : Int)) = false := decide_eq_false (by omega)
  have d10 : decide (a = (10 : Int)) = false := decide_eq_false (by omega)
  have d12 : decide (a = (12 : Int)) = false := decide_eq_false (by omega)
  have d8 : decide (a = (8 : Int)) = false := decide_eq_false (by omega)
  have d9 : decide (a = (9 : Int)) = false := decide_eq_false (by omega)
  have d11 : decide (a = (11 : Int)) = false := decide_eq_false (by omega)
  have hs : stepA acts came ans (n, (f1, f2, f3, f4), pk) a = (n, (f1, true, f3, f4), pk) := by unfold stepA; rw [if_neg (show ¬ a = 1 by omega), if_pos e2]
  rw [hs]
  simp only [nego_Nego_done_L7, c1, c2, cond_true, cond_false, g, Option.bind_some, t2, d1, d3, d4, d5, d6, d7, d10, d12, d8, d9, d11]
 have n2 := e2
 by_cases e3 : a = 3
 ·have t3 : decide (a = (3 : Int)) = true := decide_eq_true e3
  have d1 : decide (a = (1 : Int)) = false := decide_eq_false n1
  have d2 : decide (a = (2 : Int)) = false := decide_eq_false n2
  have d4 : decide (a = (4 : Int)) = false := decide_eq_false (by omega)
  have d5 : decide (a = (5 : Int)) = false := decide_eq_false (by omega)
  have d6 : decide (a = (6 : Int)) = false := decide_eq_false (by omega)
  have d7 : decide (a = (7 : Int)) = false := decide_eq_false (by omega)
  have d10 : decide (a = (10 : Int)) = false := decide_eq_false (by omega)
  have d12 : decide (a = (12 : Int)) = false := decide_eq_false (by omega)
  have d8 : decide (a = (8 : Int)) = false := decide_eq_false (by omega)
  have d9 : decide (a = (9 : Int)) = false := decide_eq_false (by omega)
  have d11 : decide (a = (11 : Int)) = false := decide_eq_false (by omega)
  have hs : stepA acts came ans (n, (f1, f2, f3, f4), pk) a = (n, (f1, f2, true, f4), pk) := by unfold stepA; rw [if_neg (show ¬ a = 1 by omega), if_neg (show ¬ a = 2 by omega), if_pos e3]
  rw [hs]
  simp only [nego_Nego_done_L7, c1, c2, cond_true, cond_false, g, Option.bind_some, t3, d1, d2, d4, d5, d6, d7, d10, d12, d8, d9, d11]
 have n3 := e3
 by_cases e4 : a = 4
 ·have t4 : decide (a = (4 : Int)) = true := decide_eq_true e4
  have d1 : decide (a = (1 : Int)) = false := decide_eq_false n1
  have d2 : decide (a = (2 : Int)) = false := decide_eq_false n2
  have d3 : decide (a = (3 : Int)) = false := decide_eq_false n3
  have d5 : decide (a = (5 : Int)) = false := decide_eq_false (by omega)
  have d6 : decide (a = (6 : Int)) = false := decide_eq_false (by omega)
  have d7 : decide (a = (7 : Int)) = false := decide_eq_false (by omega)
  have d10 : decide (a = (10 : Int)) = false := decide_eq_false (by omega)
  have d12 : decide (a = (12 : Int)) = false := decide_eq_false (by omega)
  have d8 : decide (a = (8 : Int)) = false := decide_eq_false (by omega)
  have d9 : decide (a = (9 : Int)) = false := decide_eq_false (by omega)
  have d11 : decide (a = (11 : Int)) = false := decide_eq_false (by omega)
  have hs : stepA acts came ans (n, (f1, f2, f3, f4), pk) a = (n, (f1, f2, f3, true), pk) := by unfold stepA; rw [if_neg (show ¬ a = 1 by omega), if_neg (show ¬ a = 2 by omega), if_neg (show ¬ a = 3 by omega), if_pos e4]
  rw [hs]
  simp only [nego_Nego_done_L7, c1, c2, cond_true, cond_false, g, Option.bind_some, t4, d1, d2, d3, d5, d6, d7, d10, d12, d8, d9, d11]
 have n4 := e4
 by_cases e5 : a = 5
 ·have t5 : decide (a = (5 : Int)) = true := decide_eq_true e5
  have d1 : decide (a = (1 : Int)) = false := decide_eq_false n1
  have d2 : decide (a = (2 : Int)) = false := decide_eq_false n2
  have d3 : decide (a = (3 : Int)) = false := decide_eq_false n3
  have d4 : decide (a = (4 : Int)) = false := decide_eq_false n4
  have d6 : decide (a = (6 : Int)) = false := decide_eq_false (by omega)
  have d7 : decide (a = (7 : Int)) = false := decide_eq_false (by omega)
  have d10 : decide (a = (10 : Int)) = false := decide_eq_false (by omega)
  have d12 : decide (a = (12 : Int)) = false := decide_eq_false (by omega)
  have d8 : decide (a = (8 : Int)) = false := decide_eq_false (by omega)
  have d9 : decide (a = (9 : Int)) = false := decide_eq_false (by omega)
  have d11 : decide (a = (11 : Int)) = false := decide_eq_false (by omega)
  have hs : stepA acts came ans (n, (f1, f2, f3, f4), pk) a = ((n.1, n.2.1, initT n.2.2.1 (acts.contains 10), n.2.2.2), (f1, f2, f3, f4), pk) := by unfold stepA; rw [if_neg (show ¬ a = 1 by omega), if_neg (show ¬ a = 2 by omega), if_neg (show ¬ a = 3 by omega), if_neg (show ¬ a = 4 by omega), if_pos e5]
  rw [hs]
  simp only [nego_Nego_done_L7, c1, c2, cond_true, cond_false, g, Option.bind_some, t5, d1, d2, d3, d4, d6, d7, d10, d12, d8, d9, d11, hcont, init_is]
 have n5 := e5
 by_cases e6 : a = 6
 ·have t6 : decide (a = (6 : Int)) = true := decide_eq_true e6
  have d1 : decide (a = (1 : Int)) = false := decide_eq_false n1
  have d2 : decide (a = (2 : Int)) = false := decide_eq_false n2
  have d3 : decide (a = (3 : Int)) = false := decide_eq_false n3
  have d4 : decide (a = (4 : Int)) = false := decide_eq_false n4
  have d5 : decide (a = (5 : Int)) = false := decide_eq_false n5
  have d7 : decide (a = (7 : Int)) = false := decide_eq_false (by omega)
  have d10 : decide (a = (10 : Int)) = false := decide_eq_false (by omega)
  have d12 : decide (a = (12 : Int)) = false := decide_eq_false (by omega)
  have d8 : decide (a = (8 : Int)) = false := decide_eq_false (by omega)
  have d9 : decide (a = (9 : Int)) = false := decide_eq_false (by omega)
  have d11 : decide (a = (11 : Int)) = false := decide_eq_false (by omega)
  have hs : stepA acts came ans (n, (f1, f2, f3, f4), pk) a = ((n.1, n.2.1, (0, 3), n.2.2.2), (f1, f2, f3, f4), pk) := by unfold stepA; rw [if_neg (show ¬ a = 1 by omega), if_neg (show ¬ a = 2 by omega), if_neg (show ¬ a = 3 by omega), if_neg (show ¬ a = 4 by omega), if_neg (show ¬ a = 5 by omega), if_pos e6]
  rw [hs]
  simp only [nego_Nego_done_L7, c1, c2, cond_true, cond_false, g, Option.bind_some, t6, d1, d2, d3, d4, d5, d7, d10, d12, d8, d9, d11]
 have n6 := e6
 by_cases e7 : a = 7
 ·have t7 : decide (a = (7 : Int)) = true := decide_eq_true e7
  have d1 : decide (a = (1 : Int)) = false := decide_eq_false n1
  have d2 : decide (a = (2 : Int)) = false := decide_eq_false n2
  have d3 : decide (a = (3 : Int)) = false := decide_eq_false n3
  have d4 : decide (a = (4 : Int)) = false := decide_eq_false n4
  have d5 : decide (a = (5 : Int)) = false := decide_eq_false n5
  have d6 : decide (a = (6 : Int)) = false := decide_eq_false n6
  have d10 : decide (a = (10 : Int)) = false := decide_eq_false (by omega)
  have d12 : decide (a = (12 : Int)) = false := decide_eq_false (by omega)
  have d8 : decide (a = (8 : Int)) = false := decide_eq_false (by omega)
  have d9 : decide (a = (9 : Int)) = false := decide_eq_false (by omega)
  have d11 : decide (a = (11 : Int)) = false := decide_eq_false (by omega)
  have hs : stepA acts came ans (n, (f1, f2, f3, f4), pk) a = ((n.1, n.2.1, sentT n.2.2.1, idS n.2.2.2.1, askS n.1, n.2.2.2.2.2), (f1, f2, f3, f4), sndS pk (conC 1 (idS n.2.2.2.1) (askS n.1)).1) := by unfold stepA; rw [if_neg (show ¬ a = 1 by omega), if_neg (show ¬ a = 2 by omega), if_neg (show ¬ a = 3 by omega), if_neg (show ¬ a = 4 by omega), if_neg (show ¬ a = 5 by omega), if_neg (show ¬ a = 6 by omega), if_pos e7]
  rw [hs]
  have ho : nego_Nego_opens N (n.1, (n.2.1, (sentT n.2.2.1, (idS n.2.2.2.1, (askS n.1, n.2.2.2.2.2))))) a = some (conC 1 (idS n.2.2.2.1) (askS n.1)).1 := by
   rw [opens_is (N := N) _ a (by show (askS n.1).length ≤ 1000; omega) hN]
   unfold openS
   rw [if_neg (show ¬ a = 10 by omega)]
  have hl := lay (conC 1 (idS n.2.2.2.1) (askS n.1)).1 (conC_len 1 _ _ hwf.1)
  have hask' : nego_Nego_asks N ((n.1.1, ((n.1.2.1.1, (n.1.2.1.2.1, n.1.2.1.2.2)), (n.1.2.2.1, (n.1.2.2.2.1, (n.1.2.2.2.2.1, (n.1.2.2.2.2.2.1, (n.1.2.2.2.2.2.2.1, n.1.2.2.2.2.2.2.2))))))), (n.2.1, ((n.2.2.1.1, n.2.2.1.2), (n.2.2.2.1, (n.2.2.2.2.1, (n.2.2.2.2.2.1, n.2.2.2.2.2.2)))))) = some (askS n.1) := hask
  have hsent' : retry_Retry_Sent N (n.2.2.1.1, n.2.2.1.2) = some (sentT n.2.2.1) := hsent
  have ho' : nego_Nego_opens N ((n.1.1, ((n.1.2.1.1, (n.1.2.1.2.1, n.1.2.1.2.2)), (n.1.2.2.1, (n.1.2.2.2.1, (n.1.2.2.2.2.1, (n.1.2.2.2.2.2.1, (n.1.2.2.2.2.2.2.1, n.1.2.2.2.2.2.2.2))))))), (n.2.1, (((sentT n.2.2.1).1, (sentT n.2.2.1).2), ((IntKind.wrap .u8 (n.2.2.2.1 + 1)), (askS n.1, (n.2.2.2.2.2.1, n.2.2.2.2.2.2)))))) a = some (conC 1 (idS n.2.2.2.1) (askS n.1)).1 := ho
  simp only [nego_Nego_done_L7, c1, c2, cond_true, cond_false, g, Option.bind_some, t7, d1, d2, d3, d4, d5, d6, d10, d12, d8, d9, d11, hask', hsent', ho']
  generalize (conC 1 (idS n.2.2.2.1) (askS n.1)).1 = c at *
  have hl' : ctl_Lay N (c.1, (c.2.1, c.2.2)) = some (layC c) := hl
  unfold sndS
  by_cases hz : (layC c).2 = 0
  ·have z0 : decide ((layC c).2 = 0) = true := decide_eq_true hz
   rw [if_pos hz]
   simp only [hl', Option.bind_some, z0, cond_true, rm]
   (try rfl)
  ·have z0 : decide ((layC c).2 = 0) = false := decide_eq_false hz
   rw [if_neg hz]
   simp only [hl', Option.bind_some, z0, cond_false]
   (try rfl)
 have n7 := e7
 by_cases e10 : a = 10
 ·have t10 : decide (a = (10 : Int)) = true := decide_eq_true e10
  have d1 : decide (a = (1 : Int)) = false := decide_eq_false n1
  have d2 : decide (a = (2 : Int)) = false := decide_eq_false n2
  have d3 : decide (a = (3 : Int)) = false := decide_eq_false n3
  have d4 : decide (a = (4 : Int)) = false := decide_eq_false n4
  have d5 : decide (a = (5 : Int)) = false := decide_eq_false n5
  have d6 : decide (a = (6 : Int)) = false := decide_eq_false n6
  have d7 : decide (a = (7 : Int)) = false := decide_eq_false n7
  have d12 : decide (a = (12 : Int)) = false := decide_eq_false (by omega)
  have d8 : decide (a = (8 : Int)) = false := decide_eq_false (by omega)
  have d9 : decide (a = (9 : Int)) = false := decide_eq_false (by omega)
  have d11 : decide (a = (11 : Int)) = false := decide_eq_false (by omega)
  have hs : stepA acts came ans (n, (f1, f2, f3, f4), pk) a = ((n.1, n.2.1, sentT n.2.2.1, idS n.2.2.2.1, n.2.2.2.2), (f1, f2, f3, f4), sndS pk (5, idS n.2.2.2.1, [])) := by unfold stepA; rw [if_neg (show ¬ a = 1 by omega), if_neg (show ¬ a = 2 by omega), if_neg (show ¬ a = 3 by omega), if_neg (show ¬ a = 4 by omega), if_neg (show ¬ a = 5 by omega), if_neg (show ¬ a = 6 by omega), if_neg (show ¬ a = 7 by omega), if_pos e10]
  rw [hs]
  have hsent' : retry_Retry_Sent N (n.2.2.1.1, n.2.2.1.2) = some (sentT n.2.2.1) := hsent
  have ho' : nego_Nego_opens N ((n.1.1, ((n.1.2.1.1, (n.1.2.1.2.1, n.1.2.1.2.2)), (n.1.2.2.1, (n.1.2.2.2.1, (n.1.2.2.2.2.1, (n.1.2.2.2.2.2.1, (n.1.2.2.2.2.2.2.1, n.1.2.2.2.2.2.2.2))))))), (n.2.1, (((sentT n.2.2.1).1, (sentT n.2.2.1).2), ((IntKind.wrap .u8 (n.2.2.2.1 + 1)), (n.2.2.2.2.1, (n.2.2.2.2.2.1, n.2.2.2.2.2.2)))))) a = some (5, idS n.2.2.2.1, []) := by
   unfold nego_Nego_opens
   rw [t10]; rfl
  have hl := lay (5, idS n.2.2.2.1, []) (by simp)
  simp only [nego_Nego_done_L7, c1, c2, cond_true, cond_false, g, Option.bind_some, t10, d1, d2, d3, d4, d5, d6, d7, d12, d8, d9, d11, hsent', ho']
  generalize hcc : ((5, idS n.2.2.2.1, []) : Ct) = c at *
  have hl' : ctl_Lay N (c.1, (c.2.1, c.2.2)) = some (layC c) := hl
  unfold sndS
  by_cases hz : (layC c).2 = 0
  ·have z0 : decide ((layC c).2 = 0) = true := decide_eq_true hz
   rw [if_pos hz]
   simp only [hl', Option.bind_some, z0, cond_true, rm]
   (try rfl)
  ·have z0 : decide ((layC c).2 = 0) = false := decide_eq_false hz
   rw [if_neg hz]
   simp only [hl', Option.bind_some, z0, cond_false]
   (try rfl)
 have n10 := e10
 by_cases e12 : a = 12
 ·have t12 : decide (a = (12 : Int)) = true := decide_eq_true e12
  have d1 : decide (a = (1 : Int)) = false := decide_eq_false n1
  have d2 : decide (a = (2 : Int)) = false := decide_eq_false n2
  have d3 : decide (a = (3 : Int)) = false := decide_eq_false n3
  have d4 : decide (a = (4 : Int)) = false := decide_eq_false n4
  have d5 : decide (a = (5 : Int)) = false := decide_eq_false n5
  have d6 : decide (a = (6 : Int)) = false := decide_eq_false n6
  have d7 : decide (a = (7 : Int)) = false := decide_eq_false n7
  have d10 : decide (a = (10 : Int)) = false := decide_eq_false n10
  have d8 : decide (a = (8 : Int)) = false := decide_eq_false (by omega)
  have d9 : decide (a = (9 : Int)) = false := decide_eq_false (by omega)
  have d11 : decide (a = (11 : Int)) = false := decide_eq_false (by omega)
  have hs : stepA acts came ans (n, (f1, f2, f3, f4), pk) a = ((n.1, n.2.1, n.2.2.1, idS n.2.2.2.1, n.2.2.2.2), (f1, f2, f3, f4), sndS pk (7, idS n.2.2.2.1, cutC (layC came).1 1400)) := by unfold stepA; rw [if_neg (show ¬ a = 1 by omega), if_neg (show ¬ a = 2 by omega), if_neg (show ¬ a = 3 by omega), if_neg (show ¬ a = 4 by omega), if_neg (show ¬ a = 5 by omega), if_neg (show ¬ a = 6 by omega), if_neg (show ¬ a = 7 by omega), if_neg (show ¬ a = 10 by omega), if_pos e12]
  rw [hs]
  have hrej := crej_ok (N := N) (idS n.2.2.2.1) came 1400 hc (by omega) hN
  have hrej' : ctl_Reject N (IntKind.wrap .u8 (n.2.2.2.1 + 1)) (came.1, (came.2.1, came.2.2)) 1400 = some (7, idS n.2.2.2.1, cutC (layC came).1 1400) := hrej
  have hl := lay (7, idS n.2.2.2.1, cutC (layC came).1 1400) (by have h1 := cutC_len (layC came).1 1400; have h2 := layC_len came; show (cutC (layC came).1 1400).length ≤ 20000; omega)
  simp only [nego_Nego_done_L7, c1, c2, cond_true, cond_false, g, Option.bind_some, t12, d1, d2, d3, d4, d5, d6, d7, d10, d8, d9, d11, hrej']
  generalize hcc : ((7, idS n.2.2.2.1, cutC (layC came).1 1400) : Ct) = c at *
  have hl' : ctl_Lay N (c.1, (c.2.1, c.2.2)) = some (layC c) := hl
  unfold sndS
  by_cases hz : (layC c).2 = 0
  ·have z0 : decide ((layC c).2 = 0) = true := decide_eq_true hz
   rw [if_pos hz]
   simp only [hl', Option.bind_some, z0, cond_true, rm]
   (try rfl)
  ·have z0 : decide ((layC c).2 = 0) = false := decide_eq_false hz
   rw [if_neg hz]
   simp only [hl', Option.bind_some, z0, cond_false]
   (try rfl)
 have n12 := e12
 by_cases e8 : a = 8
 ·have t8 : decide (a = (8 : Int)) = true := decide_eq_true e8
  have d1 : decide (a = (1 : Int)) = false := decide_eq_false n1
  have d2 : decide (a = (2 : Int)) = false := decide_eq_false n2
  have d3 : decide (a = (3 : Int)) = false := decide_eq_false n3
  have d4 : decide (a = (4 : Int)) = false := decide_eq_false n4
  have d5 : decide (a = (5 : Int)) = false := decide_eq_false n5
  have d6 : decide (a = (6 : Int)) = false := decide_eq_false n6
  have d7 : decide (a = (7 : Int)) = false := decide_eq_false n7
  have d10 : decide (a = (10 : Int)) = false := decide_eq_false n10
  have d12 : decide (a = (12 : Int)) = false := decide_eq_false n12
  have d9 : decide (a = (9 : Int)) = false := decide_eq_false (by omega)
  have d11 : decide (a = (11 : Int)) = false := decide_eq_false (by omega)
  have hs : stepA acts came ans (n, (f1, f2, f3, f4), pk) a = (n, (f1, f2, f3, f4), sndS pk ans) := by unfold stepA; rw [if_neg (show ¬ a = 1 by omega), if_neg (show ¬ a = 2 by omega), if_neg (show ¬ a = 3 by omega), if_neg (show ¬ a = 4 by omega), if_neg (show ¬ a = 5 by omega), if_neg (show ¬ a = 6 by omega), if_neg (show ¬ a = 7 by omega), if_neg (show ¬ a = 10 by omega), if_neg (show ¬ a = 12 by omega), if_pos (show a = 8 ∨ a = 9 by omega)]
  rw [hs]
  have hl := lay ans ha
  simp only [nego_Nego_done_L7, c1, c2, cond_true, cond_false, g, Option.bind_some, t8, d1, d2, d3, d4, d5, d6, d7, d10, d12, d9, d11]
  generalize ans = c at *
  have hl' : ctl_Lay N (c.1, (c.2.1, c.2.2)) = some (layC c) := hl
  unfold sndS
  by_cases hz : (layC c).2 = 0
  ·have z0 : decide ((layC c).2 = 0) = true := decide_eq_true hz
   rw [if_pos hz]
   simp only [hl', Option.bind_some, z0, cond_true, rm]
   (try rfl)
  ·have z0 : decide ((layC c).2 = 0) = false := decide_eq_false hz
   rw [if_neg hz]
   simp only [hl', Option.bind_some, z0, cond_false]
   (try rfl)
 have n8 := e8
 by_cases e9 : a = 9
 ·have t9 : decide (a = (9 : Int)) = true := decide_eq_true e9
  have d1 : decide (a = (1 : Int)) = false := decide_eq_false n1
  have d2 : decide (a = (2 : Int)) = false := decide_eq_false n2
  have d3 : decide (a = (3 : Int)) = false := decide_eq_false n3
  have d4 : decide (a = (4 : Int)) = false := decide_eq_false n4
  have d5 : decide (a = (5 : Int)) = false := decide_eq_false n5
  have d6 : decide (a = (6 : Int)) = false := decide_eq_false n6
  have d7 : decide (a = (7 : Int)) = false := decide_eq_false n7
  have d10 : decide (a = (10 : Int)) = false := decide_eq_false n10
  have d12 : decide (a = (12 : Int)) = false := decide_eq_false n12
  have d8 : decide (a = (8 : Int)) = false := decide_eq_false n8
  have d11 : decide (a = (11 : Int)) = false := decide_eq_false (by omega)
  have hs : stepA acts came ans (n, (f1, f2, f3, f4), pk) a = (n, (f1, f2, f3, f4), sndS pk ans) := by unfold stepA; rw [if_neg (show ¬ a = 1 by omega), if_neg (show ¬ a = 2 by omega), if_neg (show ¬ a = 3 by omega), if_neg (show ¬ a = 4 by omega), if_neg (show ¬ a = 5 by omega), if_neg (show ¬ a = 6 by omega), if_neg (show ¬ a = 7 by omega), if_neg (show ¬ a = 10 by omega), if_neg (show ¬ a = 12 by omega), if_pos (show a = 8 ∨ a = 9 by omega)]
  rw [hs]
  have hl := lay ans ha
  simp only [nego_Nego_done_L7, c1, c2, cond_true, cond_false, g, Option.bind_some, t9, d1, d2, d3, d4, d5, d6, d7, d10, d12, d8, d11]
  generalize ans = c at *
  have hl' : ctl_Lay N (c.1, (c.2.1, c.2.2)) = some (layC c) := hl
  unfold sndS
  by_cases hz : (layC c).2 = 0
  ·have z0 : decide ((layC c).2 = 0) = true := decide_eq_true hz
   rw [if_pos hz]
   simp only [hl', Option.bind_some, z0, cond_true, rm]
   (try rfl)
  ·have z0 : decide ((layC c).2 = 0) = false := decide_eq_false hz
   rw [if_neg hz]
   simp only [hl', Option.bind_some, z0, cond_false]
   (try rfl)
 have n9 := e9
 by_cases e11 : a = 11
 ·have t11 : decide (a = (11 : Int)) = true := decide_eq_true e11
  have d1 : decide (a = (1 : Int)) = false := decide_eq_false n1
  have d2 : decide (a = (2 : Int)) = false := decide_eq_false n2
  have d3 : decide (a = (3 : Int)) = false := decide_eq_false n3
  have d4 : decide (a = (4 : Int)) = false := decide_eq_false n4
  have d5 : decide (a = (5 : Int)) = false := decide_eq_false n5
  have d6 : decide (a = (6 : Int)) = false := decide_eq_false n6
  have d7 : decide (a = (7 : Int)) = false := decide_eq_false n7
  have d10 : decide (a = (10 : Int)) = false := decide_eq_false n10
  have d12 : decide (a = (12 : Int)) = false := decide_eq_false n12
  have d8 : decide (a = (8 : Int)) = false := decide_eq_false n8
  have d9 : decide (a = (9 : Int)) = false := decide_eq_false n9
  have hs : stepA acts came ans (n, (f1, f2, f3, f4), pk) a = (n, (f1, f2, f3, f4), sndS pk (6, came.2.1, [])) := by unfold stepA; rw [if_neg (show ¬ a = 1 by omega), if_neg (show ¬ a = 2 by omega), if_neg (show ¬ a = 3 by omega), if_neg (show ¬ a = 4 by omega), if_neg (show ¬ a = 5 by omega), if_neg (show ¬ a = 6 by omega), if_neg (show ¬ a = 7 by omega), if_neg (show ¬ a = 10 by omega), if_neg (show ¬ a = 12 by omega), if_neg (show ¬ (a = 8 ∨ a = 9) by omega), if_pos e11]
  rw [hs]
  have hl := lay (6, came.2.1, []) (by simp)
  simp only [nego_Nego_done_L7, c1, c2, cond_true, cond_false, g, Option.bind_some, t11, d1, d2, d3, d4, d5, d6, d7, d10, d12, d8, d9]
  generalize hcc : ((6, came.2.1, []) : Ct) = c at *
  have hl' : ctl_Lay N (c.1, (c.2.1, c.2.2)) = some (layC c) := hl
  unfold sndS
  by_cases hz : (layC c).2 = 0
  ·have z0 : decide ((layC c).2 = 0) = true := decide_eq_true hz
   rw [if_pos hz]
   simp only [hl', Option.bind_some, z0, cond_true, rm]
   (try rfl)
  ·have z0 : decide ((layC c).2 = 0) = false := decide_eq_false hz
   rw [if_neg hz]
   simp only [hl', Option.bind_some, z0, cond_false]
   (try rfl)
 have n11 := e11
 have hs : stepA acts came ans (n, (f1, f2, f3, f4), pk) a = (n, (f1, f2, f3, f4), pk) := by
  unfold stepA
  rw [if_neg n1, if_neg n2, if_neg n3, if_neg n4, if_neg n5, if_neg n6, if_neg n7, if_neg n10, if_neg n12, if_neg (show ¬ (a = 8 ∨ a = 9) by omega), if_neg n11]
 rw [hs]
 have d1 : decide (a = (1 : Int)) = false := decide_eq_false n1
 have d2 : decide (a = (2 : Int)) = false := decide_eq_false n2
 have d3 : decide (a = (3 : Int)) = false := decide_eq_false n3
 have d4 : decide (a = (4 : Int)) = false := decide_eq_false n4
 have d5 : decide (a = (5 : Int)) = false := decide_eq_false n5
 have d6 : decide (a = (6 : Int)) = false := decide_eq_false n6
 have d7 : decide (a = (7 : Int)) = false := decide_eq_false n7
 have d10 : decide (a = (10 : Int)) = false := decide_eq_false n10
 have d12 : decide (a = (12 : Int)) = false := decide_eq_false n12
 have d8 : decide (a = (8 : Int)) = false := decide_eq_false n8
 have d9 : decide (a = (9 : Int)) = false := decide_eq_false n9
 have d11 : decide (a = (11 : Int)) = false := decide_eq_false n11
 simp only [nego_Nego_done_L7, c1, c2, cond_true, cond_false, g, Option.bind_some, d1, d2, d3, d4, d5, d6, d7, d10, d12, d8, d9, d11]
end
theorem sndS_spec (pk : List Ct) (c : Ct) : (sndS pk c).length ≤ pk.length + 1 ∧ ∀ d ∈ sndS pk c, d ∈ pk ∨ (layC d).2 = 0 := by
 unfold sndS
 split
 ·rename_i h
  refine ⟨by simp, fun d hd => ?_⟩
  rcases List.mem_append.1 hd with h1 | h1
  ·exact .inl h1
  ·rw [List.mem_singleton] at h1; subst h1; exact .inr h
 ·exact ⟨by omega, fun d hd => .inl hd⟩
theorem stepA_spec (acts : List Int) (came ans : Ct) (x : Nt × Ft × List Ct) (a : Int) :
  (stepA acts came ans x a).1.1 = x.1.1 ∧ (stepA acts came ans x a).1.2.1 = x.1.2.1 ∧ (stepA acts came ans x a).2.1.1 = (x.2.1.1 || (1 == a)) ∧ (stepA acts came ans x a).2.1.2.1 = (x.2.1.2.1 || (2 == a)) ∧
  (stepA acts came ans x a).2.2.length ≤ x.2.2.length + (if 7 ≤ a ∧ a ≤ 12 then 1 else 0) ∧ (∀ c ∈ (stepA acts came ans x a).2.2, c ∈ x.2.2 ∨ (layC c).2 = 0) ∧ ((stepA acts came ans x a).1.2.2.2.2.1 = x.1.2.2.2.2.1 ∨ (stepA acts came ans x a).1.2.2.2.2.1 = askS x.1.1) := by
 have e : ∀ k : Int, k ≠ a → (k == a) = false := fun k h => beq_eq_false_iff_ne.2 h
 by_cases h1 : a = 1
 ·subst h1; exact ⟨rfl, rfl, by simp [stepA], by simp [stepA], by simp [stepA], fun c hc => .inl hc, .inl rfl⟩
 have g1 := e 1 (by omega)
 by_cases h2 : a = 2
 ·subst h2; exact ⟨rfl, rfl, by simp [stepA], by simp [stepA], by simp [stepA], fun c hc => .inl hc, .inl rfl⟩
 have g2 := e 2 (by omega)
 rw [g1, g2, Bool.or_false, Bool.or_false]
 unfold stepA
 rw [if_neg h1, if_neg h2]
 by_cases h3 : a = 3
 ·rw [if_pos h3]; exact ⟨rfl, rfl, rfl, rfl, by simp, fun c hc => .inl hc, .inl rfl⟩
 rw [if_neg h3]
 by_cases h4 : a = 4
 ·rw [if_pos h4]; exact ⟨rfl, rfl, rfl, rfl, by simp, fun c hc => .inl hc, .inl rfl⟩
 rw [if_neg h4]
 by_cases h5 : a = 5
 ·rw [if_pos h5]; exact ⟨rfl, rfl, rfl, rfl, by simp, fun c hc => .inl hc, .inl rfl⟩
 rw [if_neg h5]
 by_cases h6 : a = 6
 ·rw [if_pos h6]; exact ⟨rfl, rfl, rfl, rfl, by simp, fun c hc => .inl hc, .inl rfl⟩
 rw [if_neg h6]
 by_cases h7 : a = 7
 ·rw [if_pos h7, if_pos (show 7 ≤ a ∧ a ≤ 12 by omega)]
  have hz := sndS_spec x.2.2 (conC 1 (idS x.1.2.2.2.1) (askS x.1.1)).1
  exact ⟨rfl, rfl, rfl, rfl, hz.1, hz.2, .inr rfl⟩
 rw [if_neg h7]
 by_cases h10 : a = 10
 ·rw [if_pos h10, if_pos (show 7 ≤ a ∧ a ≤ 12 by omega)]
  have hz := sndS_spec x.2.2 (5, idS x.1.2.2.2.1, [])
  exact ⟨rfl, rfl, rfl, rfl, hz.1, hz.2, .inl rfl⟩
 rw [if_neg h10]
 by_cases h12 : a = 12
 ·rw [if_pos h12, if_pos (show 7 ≤ a ∧ a ≤ 12 by omega)]
  have hz := sndS_spec x.2.2 (7, idS x.1.2.2.2.1, cutC (layC came).1 1400)
  exact ⟨rfl, rfl, rfl, rfl, hz.1, hz.2, .inl rfl⟩
 rw [if_neg h12]
 by_cases h89 : a = 8 ∨ a = 9
 ·rw [if_pos h89, if_pos (show 7 ≤ a ∧ a ≤ 12 by omega)]
  have hz := sndS_spec x.2.2 ans
  exact ⟨rfl, rfl, rfl, rfl, hz.1, hz.2, .inl rfl⟩
 rw [if_neg h89]
 by_cases h11 : a = 11
 ·rw [if_pos h11, if_pos (show 7 ≤ a ∧ a ≤ 12 by omega)]
  have hz := sndS_spec x.2.2 (6, came.2.1, [])
  exact ⟨rfl, rfl, rfl, rfl, hz.1, hz.2, .inl rfl⟩
 rw [if_neg h11]
 exact ⟨rfl, rfl, rfl, rfl, by simp, fun c hc => .inl hc, .inl rfl⟩
theorem fold_spec (acts : List Int) (came ans : Ct) : ∀ (l : List Int) (x : Nt × Ft × List Ct),
  (l.foldl (stepA acts came ans) x).1.1 = x.1.1 ∧ (l.foldl (stepA acts came ans) x).1.2.1 = x.1.2.1 ∧ (l.foldl (stepA acts came ans) x).2.1.1 = (x.2.1.1 || l.contains 1) ∧ (l.foldl (stepA acts came ans) x).2.1.2.1 = (x.2.1.2.1 || l.contains 2) ∧
  (l.foldl (stepA acts came ans) x).2.2.length ≤ x.2.2.length + (l.filter fun a => decide (7 ≤ a ∧ a ≤ 12)).length ∧ (∀ c ∈ (l.foldl (stepA acts came ans) x).2.2, c ∈ x.2.2 ∨ (layC c).2 = 0) ∧ ((l.foldl (stepA acts came ans) x).1.2.2.2.2.1 = x.1.2.2.2.2.1 ∨ (l.foldl (stepA acts came ans) x).1.2.2.2.2.1 = askS x.1.1)
 | [], x => ⟨rfl, rfl, by simp, by simp, by simp, fun c hc => .inl hc, .inl rfl⟩
 | a :: l, x => by
  obtain ⟨p1, p2, p3, p4, p5, p6, p7⟩ := stepA_spec acts came ans x a
  obtain ⟨q1, q2, q3, q4, q5, q6, q7⟩ := fold_spec acts came ans l (stepA acts came ans x a)
  rw [List.foldl_cons]
  refine ⟨q1.trans p1, q2.trans p2, ?_, ?_, ?_, fun c hc => ?_, ?_⟩
  ·rw [q3, p3, List.contains_cons, Bool.or_assoc]
  ·rw [q4, p4, List.contains_cons, Bool.or_assoc]
  ·rw [List.filter_cons]
   by_cases h : 7 ≤ a ∧ a ≤ 12
   ·rw [if_pos h] at p5
    rw [decide_eq_true h, if_pos rfl, List.length_cons]
    omega
   ·rw [if_neg h] at p5
    rw [decide_eq_false h, if_neg (by simp)]
    omega
  ·rcases q6 c hc with h | h
   ·exact p6 c h
   ·exact .inr h
  ·rcases q7 with h | h
   ·rcases p7 with h' | h'
    ·exact .inl (h.trans h')
    ·exact .inr (h.trans h')
   ·rw [p1] at h
    exact .inr h
section
variable {N : Nat}
abbrev InT := ((Int × (List Int × (List Int × (Int × (Int × Unit))))) × (Nt × (Ct × (Ct × (Nt × (Bool × (Bool × (Bool × (Bool × (Bool × (Bool × (Bool × (Bool × (List Ct × (List Ct × Unit)))))))))))))))
abbrev OutT := ((Int × Unit) × (Nt × (Nt × (Bool × (Bool × (Bool × (Bool × (Bool × (Bool × (Bool × (Bool × (List Ct × (List Ct × Unit)))))))))))))
def inX (next : Int) (acts : List Int) (came ans : Ct) (z : Nt) (h4 h5 h6 h7 : Bool) (h12 : List Ct) (i : Nat) (x : Nt × Ft × List Ct) : InT := ((next, acts, acts, (acts.length : Int), (i : Int), ()), x.1, came, ans, z, h4, h5, h6, h7, x.2.1.1, x.2.1.2.1, x.2.1.2.2.1, x.2.1.2.2.2, h12, x.2.2, ())
def outX (next : Int) (z : Nt) (h4 h5 h6 h7 : Bool) (h12 : List Ct) (y : Nt × Ft × List Ct) : OutT := ((next, ()), y.1, z, h4, h5, h6, h7, y.2.1.1, y.2.1.2.1, y.2.1.2.2.1, y.2.1.2.2.2, h12, y.2.2, ())
noncomputable def doneG (N : Nat) (X : InT → Option OutT) (c : InT) : Option OutT := nego_Nego_done_L7 N X c.1.1 c.1.2.1 c.1.2.2.1 c.1.2.2.2.1 c.1.2.2.2.2.1 c.2.1 c.2.2.1 c.2.2.2.1 c.2.2.2.2.1 c.2.2.2.2.2.1 c.2.2.2.2.2.2.1 c.2.2.2.2.2.2.2.1 c.2.2.2.2.2.2.2.2.1 c.2.2.2.2.2.2.2.2.2.1 c.2.2.2.2.2.2.2.2.2.2.1 c.2.2.2.2.2.2.2.2.2.2.2.1 c.2.2.2.2.2.2.2.2.2.2.2.2.1 c.2.2.2.2.2.2.2.2.2.2.2.2.2.1 c.2.2.2.2.2.2.2.2.2.2.2.2.2.2.1
theorem g_end (next : Int) (acts : List Int) (came ans : Ct) (z : Nt) (h4 h5 h6 h7 : Bool) (h12 : List Ct) (i : Nat) (x : Nt × Ft × List Ct) (hi : acts.length ≤ i) (X) : doneG N X (inX next acts came ans z h4 h5 h6 h7 h12 i x) = some (outX next z h4 h5 h6 h7 h12 x) := by
 have c1 : decide ((i : Int) < (acts.length : Int)) = false := decide_eq_false (by omega)
 unfold doneG inX outX nego_Nego_done_L7
 simp only [c1, cond_false]
theorem g_step (next : Int) (acts : List Int) (hal : acts.length ≤ 50) (came ans : Ct) (z : Nt) (h4 h5 h6 h7 : Bool) (h12 : List Ct) (hc : came.2.2.length ≤ 5000) (ha : ans.2.2.length ≤ 20000) (hN : 10000 ≤ N) (hN2 : N ≤ 1000000) (i : Nat) (a : Int) (hi : acts[i]? = some a) (x : Nt × Ft × List Ct) (hw : wfR x.1.1) (hp : x.2.2.length ≤ 100) (X) :
  doneG N X (inX next acts came ans z h4 h5 h6 h7 h12 i x) = X (inX next acts came ans z h4 h5 h6 h7 h12 (i + 1) (stepA acts came ans x a)) := act_is (N := N) next acts i a hi (by omega) x.1 z came ans h4 h5 h6 h7 x.2.1.1 x.2.1.2.1 x.2.1.2.2.1 x.2.1.2.2.2 h12 x.2.2 hw hc ha hp hN hN2 X
theorem run_is (next : Int) (acts : List Int) (hal : acts.length ≤ 50) (z : Nt) (came ans : Ct) (h4 h5 h6 h7 : Bool) (h12 : List Ct) (hc : came.2.2.length ≤ 5000) (ha : ans.2.2.length ≤ 20000) (hN : 10000 ≤ N) (hN2 : N ≤ 1000000) (m : Nat) : ∀ (M i : Nat) (x : Nt × Ft × List Ct), m + i = acts.length → m < M → wfR x.1.1 → x.2.2.length ≤ i →
  gl (doneG N) M (inX next acts came ans z h4 h5 h6 h7 h12 i x) = some (outX next z h4 h5 h6 h7 h12 ((acts.drop i).foldl (stepA acts came ans) x)) := by
 induction m with
 | zero =>
  intro M i x hm hM hw hp
  obtain ⟨M, rfl⟩ : ∃ k, M = k + 1 := ⟨M - 1, by omega⟩
  have h1 := g_end (N := N) next acts came ans z h4 h5 h6 h7 h12 i x (by omega) (gl (doneG N) M)
  have h2 : List.drop i acts = [] := List.drop_of_length_le (by omega)
  rw [h2, List.foldl_nil]
  exact h1
 | succ m ih =>
  intro M i x hm hM hw hp
  obtain ⟨M, rfl⟩ : ∃ k, M = k + 1 := ⟨M - 1, by omega⟩
  have hlt : i < acts.length := by omega
  have hi : acts[i]? = some acts[i] := List.getElem?_eq_getElem hlt
  obtain ⟨p1, p2, p3, p4, p5, p6, p7⟩ := stepA_spec acts came ans x acts[i]
  have h1 := g_step (N := N) next acts hal came ans z h4 h5 h6 h7 h12 hc ha hN hN2 i acts[i] hi x hw (by omega) (gl (doneG N) M)
  have h2 := ih M (i + 1) (stepA acts came ans x acts[i]) (by omega) (by omega) (by rw [p1]; exact hw) (by split at p5 <;> omega)
  rw [List.drop_eq_getElem_cons hlt, List.foldl_cons]
  exact h1.trans h2
structure WN (n : Nt) : Prop where
 r : wfR n.1
 s0 : 0 ≤ n.2.1
 s10 : n.2.1 < 10
 sw : wfO n.2.2.2.2.1
 sl : n.2.2.2.2.1.length ≤ 500
 sd : ∀ o ∈ n.2.2.2.2.1, o.2.length ≤ 500
theorem done_is (n : Nt) (e : Nat) (came ans : Ct) (hn : WN n) (he : e < 16) (hc : came.2.2.length ≤ 5000) (ha : ans.2.2.length ≤ 20000) : nego_Nego_done 200000 n (e : Int) came ans = some (doneS n e came ans) := by
 obtain ⟨s, hs⟩ : ∃ s : Nat, n.2.1 = (s : Int) := ⟨n.2.1.toNat, (Int.toNat_of_nonneg hn.s0).symm⟩
 have hs10 : s < 10 := by have := hn.s10; omega
 have hnx := next_all s hs10 e he
 have hck := chk_all s hs10 e he
 have hts : n.2.1.toNat = s := by rw [hs]; rfl
 unfold nego_Nego_done doneS
 rw [hs, hnx, Option.bind_some]
 simp only [Int.toNat_natCast]
 by_cases h0 : (nextS s e).2.2 = 0
 ·rw [decide_eq_true h0, Bool.not_true, cond_false, if_neg (by simp [h0])]
  unfold chkS at hck
  simp only [h0, ne_eq, not_true_eq_false, decide_false, Bool.false_or, Bool.and_eq_true, decide_eq_true_eq] at hck
  obtain ⟨⟨⟨⟨⟨k1, k2⟩, k3⟩, k4⟩, k5⟩, k6⟩ := hck
  have hrun := run_is (N := 200000) (nextS s e).1 (nextS s e).2.1 (by omega) ((false, ((0, (0, false)), (false, (false, (0, (0, (0, false))))))), (0, ((0, 0), (0, ([], ([], 0)))))) came ans false false false false [] hc ha (by omega) (by omega) (nextS s e).2.1.length 200000 0 ((n.1, (nextS s e).1, n.2.2), (false, false, false, false), []) (by omega) (by omega) hn.r (by simp)
  rw [List.drop_zero] at hrun
  refine (congrArg (fun o => Option.bind o _) (show nego_Nego_done_L7_R 200000 (inX (nextS s e).1 (nextS s e).2.1 came ans _ false false false false [] 0 _) = _ from hrun)).trans ?_
  rw [Option.bind_some]
  obtain ⟨t, ht⟩ : ∃ t : Nat, (nextS s e).1 = (t : Int) := ⟨(nextS s e).1.toNat, (Int.toNat_of_nonneg k1).symm⟩
  have ht10 : t < 10 := by omega
  have htm := timed_all t ht10
  generalize hy : List.foldl (stepA (nextS s e).2.1 came ans) ((n.1, (nextS s e).1, n.2.2), (false, false, false, false), []) (nextS s e).2.1 = y
  obtain ⟨m, f, pk⟩ := y
  simp only [outX, ht, htm, Option.bind_some, Int.toNat_natCast]
  cases timS t <;> rfl
 ·rw [decide_eq_false h0, Bool.not_false, cond_true, if_pos (by simp [h0]), ← hs]
theorem doneS_spec (n : Nt) (e : Nat) (came ans : Ct) (hn : WN n) (he : e < 16) : WN (doneS n e came ans).1 ∧ (doneS n e came ans).1.1 = n.1 ∧ (doneS n e came ans).2.2.1 = (decide (n.2.1 ≠ 9) && decide ((doneS n e came ans).1.2.1 = 9)) ∧ (doneS n e came ans).2.2.2.1 = (decide (n.2.1 = 9) && decide ((doneS n e came ans).1.2.1 ≠ 9)) ∧
  (doneS n e came ans).2.1.length ≤ 2 ∧ ∀ c ∈ (doneS n e came ans).2.1, (layC c).2 = 0 := by
 obtain ⟨s, hs⟩ : ∃ s : Nat, n.2.1 = (s : Int) := ⟨n.2.1.toNat, (Int.toNat_of_nonneg hn.s0).symm⟩
 have hs10 : s < 10 := by have := hn.s10; omega
 have hck := chk_all s hs10 e he
 have hts : n.2.1.toNat = s := by rw [hs]; rfl
 unfold doneS
 rw [hts]
 by_cases h0 : (nextS s e).2.2 = 0
 ·rw [if_neg (by simp [h0])]
  unfold chkS at hck
  simp only [h0, ne_eq, not_true_eq_false, decide_false, Bool.false_or, Bool.and_eq_true, decide_eq_true_eq] at hck
  obtain ⟨⟨⟨⟨⟨k1, k2⟩, k3⟩, k4⟩, k5⟩, k6⟩ := hck
  obtain ⟨q1, q2, q3, q4, q5, q6, q7⟩ := fold_spec (nextS s e).2.1 came ans (nextS s e).2.1 ((n.1, (nextS s e).1, n.2.2), (false, false, false, false), [])
  generalize hy : List.foldl (stepA (nextS s e).2.1 came ans) ((n.1, (nextS s e).1, n.2.2), (false, false, false, false), []) (nextS s e).2.1 = y at *
  obtain ⟨m, f, pk⟩ := y
  simp only at q1 q2 q3 q4 q5 q6 q7
  dsimp only
  have hwm : WN m := by
   refine ⟨by rw [q1]; exact hn.r, by rw [q2]; exact k1, by rw [q2]; exact k2, ?_, ?_, ?_⟩ <;> rcases q7 with h | h <;> rw [h]
   ·exact hn.sw
   ·exact (askS_wf _).1
   ·exact hn.sl
   ·have := (askS_wf n.1).2.1; omega
   ·exact hn.sd
   ·exact fun o ho => by have := (askS_wf n.1).2.2 o ho; omega
  have hup : f.1 = (decide (n.2.1 ≠ 9) && decide (m.2.1 = 9)) := by
   rw [q3, Bool.false_or, q2, hs]
   have := beq_iff_eq.1 k3
   rw [this]
   by_cases h9 : s = 9
   ·subst h9; simp
   ·have h9' : ¬ (s : Int) = 9 := by omega
    simp [h9, h9']
    by_cases h' : (nextS s e).1 = 9 <;> simp [h']
  have hdn : f.2.1 = (decide (n.2.1 = 9) && decide (m.2.1 ≠ 9)) := by
   rw [q4, Bool.false_or, q2, hs]
   have := beq_iff_eq.1 k4
   rw [this]
   by_cases h9 : s = 9
   ·subst h9
    by_cases h' : (nextS 9 e).1 = 9 <;> simp [h', bne]
   ·have h9' : ¬ (s : Int) = 9 := by omega
    simp [h9, h9']
  have hpk : pk.length ≤ 2 := by rw [List.length_nil, Nat.zero_add] at q5; omega
  have hgood : ∀ c ∈ pk, (layC c).2 = 0 := fun c hc => (q6 c hc).elim (fun h => by cases h) id
  split
  ·exact ⟨hwm, q1, hup, hdn, hpk, hgood⟩
  ·exact ⟨⟨hwm.r, hwm.s0, hwm.s10, hwm.sw, hwm.sl, hwm.sd⟩, q1, hup, hdn, hpk, hgood⟩
 ·rw [if_pos (by simp [h0])]
  refine ⟨hn, rfl, ?_, ?_, by simp, fun c hc => by cases hc⟩
  ·by_cases h : n.2.1 = 9 <;> simp [h]
  ·by_cases h : n.2.1 = 9 <;> simp [h]
end
section
variable {N : Nat}
theorem kinds_loop (l : List Op) (hl : l.length ≤ 1000) : ∀ (m M i : Nat), m + i = l.length → m < M → gl (fun X c => opts_Kinds_L3 N X c.1.1 c.1.2.1 c.1.2.2.1 c.2.1) M ((l, ((l.length : Int), ((i : Int), ()))), ((l.take i).map (·.1), ())) = some ((), (l.map (·.1), ()))
  | 0, M + 1, i, hm, hM => by
    have c1 : ¬ ((i : Int) < (l.length : Int)) := by omega
    rw [gl_succ, List.take_of_length_le (by omega)]
    simp only [opts_Kinds_L3, c1, decide_false, cond_false]
  | m + 1, M + 1, i, hm, hM => by
    have hlt : i < l.length := by omega
    have c1 : ((i : Int) < (l.length : Int)) := by omega
    have c2 : IntKind.wrap .i64 ((i : Int) + 1) = ((i + 1 : Nat) : Int) := by rw [wrap64 (by omega) (by omega)]; omega
    have ih := kinds_loop l hl m M (i + 1) (by omega) (by omega)
    have hr : roomB (((l.take i).map (·.1)).length + ([l[i].1] : List Int).length) 1 = true := roomB_of (by have := big_len; simp; omega) (by simp; omega)
    rw [take_snoc l i hlt, List.map_append] at ih
    have key : ∀ X, opts_Kinds_L3 N X l (l.length : Int) (i : Int) ((l.take i).map (·.1)) = X ((l, ((l.length : Int), (((i + 1 : Nat) : Int), ()))), ((l.take i).map (·.1) ++ [l[i].1], ())) := fun X => by
      simp only [opts_Kinds_L3, c1, decide_true, cond_true, getI_lt l i hlt, Option.bind_some, hr, c2]
    exact (key _).trans ih
theorem kinds_is (l : List Op) (hl : l.length ≤ 1000) (hN : 10000 ≤ N) : opts_Kinds N l = some (l.map (·.1)) := by
  have h := kinds_loop (N := N) l hl l.length N 0 (by omega) (by omega)
  unfold opts_Kinds
  exact (congrArg (fun o => Option.bind o _) (show opts_Kinds_L3_R N ((l, ((l.length : Int), ((0 : Int), ()))), (([] : List Int), ())) = _ from h)).trans rfl
theorem of_loop (l : List Op) (ks : List Int) (hl : l.length ≤ 1000) (hk : ks.length ≤ 1000) (hN : 10000 ≤ N) (hN2 : N ≤ 1000000) : ∀ (m M i : Nat), m + i = l.length → m < M → gl (fun X c => nego_of_L3 N X c.1.1 c.1.2.1 c.1.2.2.1 c.1.2.2.2.1 c.2.1) M ((ks, (l, ((l.length : Int), ((i : Int), ())))), ((l.take i).filter (fun o => ks.contains o.1), ())) = some ((), (l.filter (fun o => ks.contains o.1), ()))
  | 0, M + 1, i, hm, hM => by
    have c1 : ¬ ((i : Int) < (l.length : Int)) := by omega
    rw [gl_succ, List.take_of_length_le (by omega)]
    simp only [nego_of_L3, c1, decide_false, cond_false]
  | m + 1, M + 1, i, hm, hM => by
    have hlt : i < l.length := by omega
    have c1 : ((i : Int) < (l.length : Int)) := by omega
    have c2 : IntKind.wrap .i64 ((i : Int) + 1) = ((i + 1 : Nat) : Int) := by rw [wrap64 (by omega) (by omega)]; omega
    have ih := of_loop l ks hl hk hN hN2 m M (i + 1) (by omega) (by omega)
    have hlen : ((l.take i).filter (fun o => ks.contains o.1)).length ≤ i := Nat.le_trans (List.length_filter_le _ _) (by rw [List.length_take]; omega)
    have hr : roomB (((l.take i).filter (fun o => ks.contains o.1)).length + ([(l[i].1, l[i].2)] : List Op).length) 32 = true := roomB_of (by have := big_len; show _ + 1 ≤ _; omega) (by show (_ + 1) * 32 ≤ _; omega)
    have hc := contb_is (N := N) ks l[i].1 (by omega) hN2
    rw [take_snoc l i hlt, List.filter_append] at ih
    have key : ∀ X, nego_of_L3 N X ks l (l.length : Int) (i : Int) ((l.take i).filter (fun o => ks.contains o.1)) = X ((ks, (l, ((l.length : Int), (((i + 1 : Nat) : Int), ())))), ((l.take i).filter (fun o => ks.contains o.1) ++ [l[i]].filter (fun o => ks.contains o.1), ())) := fun X => by
      cases hb : ks.contains l[i].1 with
      | true =>
        have hf : [l[i]].filter (fun o => ks.contains o.1) = [l[i]] := by simp only [List.filter_cons, hb, if_true, List.filter_nil]
        rw [hf]
        simp only [nego_of_L3, c1, decide_true, cond_true, getI_lt l i hlt, Option.bind_some, hc, hb, hr, c2]
      | false =>
        have hf : [l[i]].filter (fun o => ks.contains o.1) = [] := by simp only [List.filter_cons, hb, Bool.false_eq_true, if_false, List.filter_nil]
        rw [hf, List.append_nil]
        simp only [nego_of_L3, c1, decide_true, cond_true, cond_false, getI_lt l i hlt, Option.bind_some, hc, hb, c2]
    exact (key _).trans ih
theorem nof_is (l : List Op) (ks : List Int) (hl : l.length ≤ 1000) (hk : ks.length ≤ 1000) (hN : 10000 ≤ N) (hN2 : N ≤ 1000000) : nego_of N l ks = some (l.filter (fun o => ks.contains o.1)) := by
  have h := of_loop (N := N) l ks hl hk hN hN2 l.length N 0 (by omega) (by omega)
  unfold nego_of
  exact (congrArg (fun o => Option.bind o _) (show nego_of_L3_R N ((ks, (l, ((l.length : Int), ((0 : Int), ())))), (([] : List Op), ())) = _ from h)).trans rfl
end
theorem optC_small (c : Ct) (hl : c.2.2.length < 200000) (hw : AllB c.2.2) : ∀ o ∈ (optC 200000 c).1, o.2.length ≤ 253 := by
  unfold optC
  cases isC c.1
  · exact fun o ho => (by cases ho)
  · simp only [cond_true]
    rcases par_back 200000 c.2.2 [] hl hw (fun o ho => (by cases ho)) (by simp) with ⟨e, h, he⟩ | ⟨m, h, _, hs, hm⟩
    · rw [h]; exact fun o ho => (by cases ho)
    · rw [h]; exact hs
def wf1 (x : Op) : Prop := (0 ≤ x.1 ∧ x.1 < 256) ∧ AllB x.2
theorem tell_wf (rj : List Op → Op → Bool) (nk : Op → Option Op) (l : List Op) (hw : wfO l) (hl : l.length ≤ 32) (hk : ∀ o ∈ l, ∀ x, nk o = some x → wf1 x) : wfO (tellS l (judS rj nk [] l)).2 ∧ (tellS l (judS rj nk [] l)).2.length ≤ 32 ∧ ((tellS l (judS rj nk [] l)).1 = 2 ∨ (tellS l (judS rj nk [] l)).1 = 3 ∨ (tellS l (judS rj nk [] l)).1 = 4) := by
  obtain ⟨h1, h2, h3⟩ := judS_sub rj nk l []
  unfold tellS
  split
  · exact ⟨wfO_sub hw h1, by have := h1.length_le; simp only; omega, .inr (.inr rfl)⟩
  · split
    · exact ⟨fun x hx => by obtain ⟨o, ho, he⟩ := h3 x hx; exact hk o ho x he, by simp only; omega, .inr (.inl rfl)⟩
    · exact ⟨hw, hl, .inl rfl⟩
theorem lnk_wf (own fresh : Int) (o x : Op) (h : lnk own fresh o = some x) : wf1 x := by
  unfold lnk at h
  split at h
  · rename_i hb
    injection h with h
    subst h
    unfold betS at hb ⊢
    split
    · exact ⟨by show (0 : Int) ≤ 1 ∧ (1 : Int) < 256; omega, b2_B _⟩
    · rename_i h1
      rw [if_neg h1] at hb
      split
      · exact ⟨by show (0 : Int) ≤ 3 ∧ (3 : Int) < 256; omega, chap_B⟩
      · rename_i h3
        rw [if_neg h3] at hb
        split
        · exact ⟨by show (0 : Int) ≤ 5 ∧ (5 : Int) < 256; omega, b4_B _⟩
        · rename_i h5
          rw [if_neg h5] at hb
          cases hb
  · cases h
theorem ink_wf (s : Sd) (o x : Op) (ho : 0 ≤ o.1 ∧ o.1 < 256) (h : ink s o = some x) : wf1 x := by
  unfold ink at h
  split at h
  · injection h with h
    subst h
    exact ⟨ho, b4_B _⟩
  · cases h
def judgedS (n : Nt) (l : List Op) : Int × List Op := if n.1.1 then ijudS n.1.2.2.2 l else ljudS l n.1.2.2.1 n.1.2.1.2.1 (frsS (IntKind.wrap .u32 (n.1.2.1.2.1 + (ofS l).2.1)))
theorem judged_is (n : Nt) (l : List Op) (hn : wfR n.1) (hw : wfO l) (hl : l.length ≤ 32) (hs : ∀ o ∈ l, o.2.length ≤ 253) : nego_Nego_judged 200000 n l = some (judgedS n l) ∧ wfO (judgedS n l).2 ∧ (judgedS n l).2.length ≤ 32 ∧ ((judgedS n l).1 = 2 ∨ (judgedS n l).1 = 3 ∨ (judgedS n l).1 = 4) := by
  unfold nego_Nego_judged judgedS
  cases hi : n.1.1 with
  | true =>
    rw [if_pos rfl]
    refine ⟨?_, tell_wf _ _ l hw hl fun o ho x hx => ink_wf n.1.2.2.2 o x (hw o ho).1 hx⟩
    have h := ijudge_is (N := 200000) n.1.2.2.2 l hw hn.2 (by omega) (fun o ho => by have := hs o ho; omega) (by omega)
    simp only [cond_true, h, Option.bind_some]
  | false =>
    rw [if_neg (by simp)]
    refine ⟨?_, tell_wf _ _ l hw hl fun o ho x hx => lnk_wf _ _ o x hx⟩
    obtain ⟨h1, h2⟩ := of_is (N := 200000) l hw (by omega) (by omega)
    have h3 := ljudge_is (N := 200000) l n.1.2.2.1 n.1.2.1.2.1 (frsS (IntKind.wrap .u32 (n.1.2.1.2.1 + (ofS l).2.1))) hw (by omega) (fun o ho => by have := hs o ho; omega) (frsS_r _) (by omega)
    simp only [cond_false, h1, Option.bind_some]
    refine (congrArg (fun o => Option.bind o _) h3).trans ?_
    simp only [Option.bind_some]
def nop (n : Nt) : Nt × List Ct × Ft := (n, [], (false, false, false, false))
def sAck (n : Nt) (l : List Op) : Nt := (n.1, n.2.1, n.2.2.1, n.2.2.2.1, n.2.2.2.2.1, l, n.2.2.2.2.2.2)
def sNak (n : Nt) (k : Int) : Nt := (n.1, n.2.1, n.2.2.1, n.2.2.2.1, n.2.2.2.2.1, n.2.2.2.2.2.1, k)
def sRul (n : Nt) (r : Rt) : Nt := (r, n.2)
def sTim (n : Nt) (t : Int × Int) : Nt := (n.1, n.2.1, t, n.2.2.2)
theorem WN.sAck {n : Nt} (h : WN n) (l : List Op) : WN (sAck n l) := ⟨h.r, h.s0, h.s10, h.sw, h.sl, h.sd⟩
theorem WN.sNak {n : Nt} (h : WN n) (k : Int) : WN (sNak n k) := ⟨h.r, h.s0, h.s10, h.sw, h.sl, h.sd⟩
theorem WN.sRul {n : Nt} (h : WN n) {r : Rt} (hr : wfR r) : WN (sRul n r) := ⟨hr, h.s0, h.s10, h.sw, h.sl, h.sd⟩
theorem WN.sTim {n : Nt} (h : WN n) (t : Int × Int) : WN (sTim n t) := ⟨h.r, h.s0, h.s10, h.sw, h.sl, h.sd⟩
def judgeS (n : Nt) (c : Ct) : Nt × List Ct × Ft :=
  if (optC 200000 c).2 ≠ 0 then nop n else
  if (judgedS n (optC 200000 c).1).1 = 2 then doneS (sAck n (optC 200000 c).1) 6 c (conC 2 c.2.1 (judgedS n (optC 200000 c).1).2).1 else
  if (judgedS n (optC 200000 c).1).1 = 3 then
    (if 5 < IntKind.wrap .i64 (n.2.2.2.2.2.2 + 1) then doneS (sNak n (IntKind.wrap .i64 (n.2.2.2.2.2.2 + 1))) 7 c (conC 4 c.2.1 ((optC 200000 c).1.filter fun o => ((judgedS n (optC 200000 c).1).2.map (·.1)).contains o.1)).1
     else doneS (sNak n (IntKind.wrap .i64 (n.2.2.2.2.2.2 + 1))) 7 c (conC 3 c.2.1 (judgedS n (optC 200000 c).1).2).1)
  else doneS n 7 c (conC (judgedS n (optC 200000 c).1).1 c.2.1 (judgedS n (optC 200000 c).1).2).1
theorem judge_is (n : Nt) (c : Ct) (hn : WN n) (hw : AllB c.2.2) (hl : c.2.2.length ≤ 5000) : nego_Nego_judge 200000 n c = some (judgeS n c) := by
  have hopt := copt_ok (N := 200000) c (by omega) hw (by omega)
  obtain ⟨ow, ol⟩ := optC_wf c (by omega) hw
  have os := optC_small c (by omega) hw
  unfold nego_Nego_judge judgeS
  generalize hq : optC 200000 c = q at *
  obtain ⟨l, e⟩ := q
  simp only at ow ol os
  have hopt' : ctl_Options 200000 (c.1, (c.2.1, c.2.2)) = some (l, e) := hopt
  by_cases he : e = 0
  · subst he
    obtain ⟨j1, j2, j3, j4⟩ := judged_is n l hn.r ow ol os
    have hj : nego_Nego_judged 200000 ((n.1.1, ((n.1.2.1.1, (n.1.2.1.2.1, n.1.2.1.2.2)), (n.1.2.2.1, (n.1.2.2.2.1, (n.1.2.2.2.2.1, (n.1.2.2.2.2.2.1, (n.1.2.2.2.2.2.2.1, n.1.2.2.2.2.2.2.2))))))), (n.2.1, ((n.2.2.1.1, n.2.2.1.2), (n.2.2.2.1, (n.2.2.2.2.1, (n.2.2.2.2.2.1, n.2.2.2.2.2.2)))))) l = some (judgedS n l) := j1
    simp only [hopt', Option.bind_some, decide_true, Bool.not_true, cond_false, hj, ne_eq, not_true_eq_false, if_false]
    generalize judgedS n l = r at *
    obtain ⟨code, told⟩ := r
    simp only at j2 j3 j4 ⊢
    have con := fun (k : Int) (m : List Op) (hm : m.length ≤ 1000) => ccon_ok (N := 200000) k c.2.1 m hm (by omega)
    have hfl : wfO (l.filter fun o => (told.map (·.1)).contains o.1) := wfO_sub ow List.filter_sublist
    by_cases h2 : code = 2
    · subst h2
      have hd := done_is (sAck n l) 6 c (conC 2 c.2.1 told).1 (hn.sAck l) (by omega) hl (conC_len _ _ _ j2)
      simp only [decide_true, cond_true, con 2 told (by omega), Option.bind_some, if_true]
      exact (congrArg (fun o => Option.bind o _) hd).trans rfl
    · have d2 : decide (code = 2) = false := decide_eq_false h2
      by_cases h3 : code = 3
      · subst h3
        simp only [d2, cond_false, decide_true, cond_true, if_true, if_neg h2]
        by_cases h5 : 5 < IntKind.wrap .i64 (n.2.2.2.2.2.2 + 1)
        · have hd := done_is (sNak n (IntKind.wrap .i64 (n.2.2.2.2.2.2 + 1))) 7 c (conC 4 c.2.1 (l.filter fun o => (told.map (·.1)).contains o.1)).1 (hn.sNak _) (by omega) hl (conC_len _ _ _ hfl)
          have hk := kinds_is (N := 200000) told (by omega) (by omega)
          have ho := nof_is (N := 200000) l (told.map (·.1)) (by omega) (by rw [List.length_map]; omega) (by omega) (by omega)
          have hfl2 : (l.filter fun o => (told.map (·.1)).contains o.1).length ≤ 1000 := Nat.le_trans (List.length_filter_le _ _) (by omega)
          simp only [decide_eq_true h5, cond_true, hk, ho, con 4 _ hfl2, Option.bind_some, if_pos h5]
          exact (congrArg (fun o => Option.bind o _) hd).trans rfl
        · have hd := done_is (sNak n (IntKind.wrap .i64 (n.2.2.2.2.2.2 + 1))) 7 c (conC 3 c.2.1 told).1 (hn.sNak _) (by omega) hl (conC_len _ _ _ j2)
          simp only [decide_eq_false h5, cond_false, con 3 told (by omega), Option.bind_some, if_neg h5]
          exact (congrArg (fun o => Option.bind o _) hd).trans rfl
      · have d3 : decide (code = 3) = false := decide_eq_false h3
        have hd := done_is n 7 c (conC code c.2.1 told).1 hn (by omega) hl (conC_len _ _ _ j2)
        simp only [d2, d3, cond_false, con code told (by omega), Option.bind_some, if_neg h2, if_neg h3]
        exact (congrArg (fun o => Option.bind o _) hd).trans rfl
  · have d0 : decide (e = 0) = false := decide_eq_false he
    simp only [hopt', Option.bind_some, d0, Bool.not_false, cond_true, ne_eq, he, not_false_eq_true, if_true]
    rfl
def zc : Ct := (0, 0, [])
def agreeS (n : Nt) (c : Ct) : Nt × List Ct × Ft :=
  if (optC 200000 c).2 ≠ 0 ∨ c.2.1 ≠ n.2.2.2.1 ∨ (optC 200000 c).1 ≠ n.2.2.2.2.1 then nop n else doneS (sNak n 0) 8 c zc
theorem agree_is (n : Nt) (c : Ct) (hn : WN n) (hw : AllB c.2.2) (hl : c.2.2.length ≤ 5000) : nego_Nego_agreed 200000 n c = some (agreeS n c) := by
  have hopt := copt_ok (N := 200000) c (by omega) hw (by omega)
  obtain ⟨ow, ol⟩ := optC_wf c (by omega) hw
  unfold nego_Nego_agreed agreeS
  generalize hq : optC 200000 c = q at *
  obtain ⟨l, e⟩ := q
  simp only at ow ol
  have hopt' : ctl_Options 200000 (c.1, (c.2.1, c.2.2)) = some (l, e) := hopt
  have hsame := osame_ok (N := 200000) l n.2.2.2.2.1 ow hn.sw (by omega) (by omega)
  have hd := done_is (sNak n 0) 8 c zc (hn.sNak 0) (by omega) hl (by simp [zc])
  by_cases he : e = 0
  · by_cases hid : c.2.1 = n.2.2.2.1
    · by_cases hs : l = n.2.2.2.2.1
      · simp only [hopt', Option.bind_some, decide_eq_true he, decide_eq_true hid, Bool.not_true, cond_false, hsame, decide_eq_true hs, if_neg (show ¬ (e ≠ 0 ∨ c.2.1 ≠ n.2.2.2.1 ∨ l ≠ n.2.2.2.2.1) by simp [he, hid, hs])]
        exact (congrArg (fun o => Option.bind o _) hd).trans rfl
      · simp only [hopt', Option.bind_some, decide_eq_true he, decide_eq_true hid, Bool.not_true, Bool.not_false, cond_false, cond_true, hsame, decide_eq_false hs, if_pos (show (e ≠ 0 ∨ c.2.1 ≠ n.2.2.2.1 ∨ l ≠ n.2.2.2.2.1) from .inr (.inr hs))]
        rfl
    · simp only [hopt', Option.bind_some, decide_eq_true he, decide_eq_false hid, Bool.not_true, Bool.not_false, cond_false, cond_true, if_pos (show (e ≠ 0 ∨ c.2.1 ≠ n.2.2.2.1 ∨ l ≠ n.2.2.2.2.1) from .inr (.inl hid))]
      rfl
  · simp only [hopt', Option.bind_some, decide_eq_false he, Bool.not_false, cond_true, if_pos (show (e ≠ 0 ∨ c.2.1 ≠ n.2.2.2.1 ∨ l ≠ n.2.2.2.2.1) from .inl he)]
    rfl
def turnS (r : Rt) (code : Int) (l : List Op) : Rt × Bool :=
  if code = 3 then (if r.1 then ((r.1, r.2.1, r.2.2.1, inkS r.2.2.2 l), true) else ((r.1, lnkS r.2.1 l (frsS r.2.1.2.1), r.2.2), true))
  else if r.1 then ((r.1, r.2.1, r.2.2.1, (irjS r.2.2.2 l).1), (irjS r.2.2.2 l).2) else ((r.1, (lrjS r.2.1 l).1, r.2.2), (lrjS r.2.1 l).2)
theorem turn_is (r : Rt) (code : Int) (l : List Op) (hr : wfR r) (hw : wfO l) (hl : l.length ≤ 1000) (hs : ∀ o ∈ l, o.2.length ≤ 1000) : nego_Rules_turned 200000 r code l = some (turnS r code l) ∧ wfR (turnS r code l).1 := by
  obtain ⟨n1, n2⟩ := lnaked_is (N := 200000) r.2.1 l (frsS r.2.1.2.1) hw hl hs (by omega)
  obtain ⟨m1, m2⟩ := lrej_is (N := 200000) r.2.1 l hl hs (by omega)
  obtain ⟨i1, i2⟩ := inaked_is (N := 200000) r.2.2.2 l hw hl (by omega)
  have k1 := irej_is (N := 200000) r.2.2.2 l hl hs (by omega)
  unfold nego_Rules_turned turnS
  by_cases h3 : code = 3
  · rw [if_pos h3]
    cases hi : r.1 with
    | true =>
      refine ⟨?_, hr.1, i2 hr.2⟩
      simp only [decide_eq_true h3, cond_true, Option.bind_some, i1, if_true]
    | false =>
      refine ⟨?_, n2 hr.1 (frsS_r _), hr.2⟩
      simp only [decide_eq_true h3, cond_true, cond_false, Option.bind_some, Bool.false_eq_true, if_false]
      exact (congrArg (fun o => Option.bind o _) n1).trans rfl
  · rw [if_neg h3]
    cases hi : r.1 with
    | true =>
      refine ⟨?_, hr.1, hr.2⟩
      simp only [decide_eq_false h3, cond_true, cond_false, Option.bind_some, k1, if_true]
    | false =>
      refine ⟨?_, m2 hr.1, hr.2⟩
      simp only [decide_eq_false h3, cond_false, Option.bind_some, Bool.false_eq_true, if_false]
      exact (congrArg (fun o => Option.bind o _) m1).trans rfl
def refuseS (n : Nt) (c : Ct) : Nt × List Ct × Ft :=
  if (optC 200000 c).2 ≠ 0 ∨ c.2.1 ≠ n.2.2.2.1 ∨ (optC 200000 c).1.length = 0 ∨ (c.1 = 4 ∧ amS (optC 200000 c).1 n.2.2.2.2.1 = false) then nop n else
  doneS (sRul n (turnS n.1 c.1 (optC 200000 c).1).1) (if (turnS n.1 c.1 (optC 200000 c).1).2 then 9 else 14) c zc
theorem refuse_is (n : Nt) (c : Ct) (hn : WN n) (hw : AllB c.2.2) (hl : c.2.2.length ≤ 5000) : nego_Nego_refused 200000 n c = some (refuseS n c) := by
  have hopt := copt_ok (N := 200000) c (by omega) hw (by omega)
  obtain ⟨ow, ol⟩ := optC_wf c (by omega) hw
  have os := optC_small c (by omega) hw
  unfold nego_Nego_refused refuseS
  generalize hq : optC 200000 c = q at *
  obtain ⟨l, e⟩ := q
  simp only at ow ol os
  have hopt' : ctl_Options 200000 (c.1, (c.2.1, c.2.2)) = some (l, e) := hopt
  have ham := among_ok (N := 200000) l n.2.2.2.2.1 ow hn.sw (by omega) (by have := hn.sl; omega) (by omega)
  obtain ⟨t1, t2⟩ := turn_is n.1 c.1 l hn.r ow (by omega) (fun o ho => by have := os o ho; omega)
  have t1' : nego_Rules_turned 200000 (n.1.1, ((n.1.2.1.1, (n.1.2.1.2.1, n.1.2.1.2.2)), (n.1.2.2.1, (n.1.2.2.2.1, (n.1.2.2.2.2.1, (n.1.2.2.2.2.2.1, (n.1.2.2.2.2.2.2.1, n.1.2.2.2.2.2.2.2))))))) c.1 l = some (turnS n.1 c.1 l) := t1
  simp only []
  by_cases he : e = 0
  · by_cases hid : c.2.1 = n.2.2.2.1
    · by_cases h0 : l.length = 0
      · have h0' : ((l.length : Nat) : Int) = 0 := by omega
        simp only [hopt', Option.bind_some, decide_eq_true he, decide_eq_true hid, Bool.not_true, cond_false, cond_true, decide_eq_true h0', if_pos (show (e ≠ 0 ∨ c.2.1 ≠ n.2.2.2.1 ∨ l.length = 0 ∨ (c.1 = 4 ∧ amS l n.2.2.2.2.1 = false)) from .inr (.inr (.inl h0)))]
        rfl
      · have h0' : ¬ ((l.length : Nat) : Int) = 0 := by omega
        by_cases h4 : c.1 = 4 ∧ amS l n.2.2.2.2.1 = false
        · rw [if_pos (show (e ≠ 0 ∨ c.2.1 ≠ n.2.2.2.1 ∨ l.length = 0 ∨ (c.1 = 4 ∧ amS l n.2.2.2.2.1 = false)) from .inr (.inr (.inr h4)))]
          simp only [hopt', Option.bind_some, decide_eq_true he, decide_eq_true hid, Bool.not_true, Bool.not_false, cond_false, cond_true, decide_eq_false h0', decide_eq_true h4.1, ham, h4.2]
          rfl
        · have hno : ¬ (e ≠ 0 ∨ c.2.1 ≠ n.2.2.2.1 ∨ l.length = 0 ∨ (c.1 = 4 ∧ amS l n.2.2.2.2.1 = false)) := by simp only [he, hid, h0, ne_eq, not_true_eq_false, false_or]; exact h4
          rw [if_neg hno]
          have hd : ∀ e : Nat, e < 16 → nego_Nego_done 200000 (sRul n (turnS n.1 c.1 l).1) (e : Int) c zc = some (doneS (sRul n (turnS n.1 c.1 l).1) e c zc) := fun e he => done_is _ e c zc (hn.sRul t2) he hl (by simp [zc])
          by_cases hc4 : c.1 = 4
          · have hat : amS l n.2.2.2.2.1 = true := by
              cases ha : amS l n.2.2.2.2.1 with
              | true => rfl
              | false => exact absurd ⟨hc4, ha⟩ h4
            simp only [hopt', Option.bind_some, decide_eq_true he, decide_eq_true hid, Bool.not_true, cond_false, cond_true, decide_eq_false h0', decide_eq_true hc4, ham, hat, t1']
            cases hb : (turnS n.1 c.1 l).2 with
            | true =>
              simp only [Bool.not_true, cond_false, if_true]
              exact (congrArg (fun o => Option.bind o _) (hd 9 (by omega))).trans rfl
            | false =>
              simp only [Bool.not_false, cond_true, Bool.false_eq_true, if_false]
              exact (congrArg (fun o => Option.bind o _) (hd 14 (by omega))).trans rfl
          · simp only [hopt', Option.bind_some, decide_eq_true he, decide_eq_true hid, Bool.not_true, cond_false, cond_true, decide_eq_false h0', decide_eq_false hc4, t1']
            cases hb : (turnS n.1 c.1 l).2 with
            | true =>
              simp only [Bool.not_true, cond_false, if_true]
              exact (congrArg (fun o => Option.bind o _) (hd 9 (by omega))).trans rfl
            | false =>
              simp only [Bool.not_false, cond_true, Bool.false_eq_true, if_false]
              exact (congrArg (fun o => Option.bind o _) (hd 14 (by omega))).trans rfl
    · simp only [hopt', Option.bind_some, decide_eq_true he, decide_eq_false hid, Bool.not_true, Bool.not_false, cond_false, cond_true, if_pos (show (e ≠ 0 ∨ c.2.1 ≠ n.2.2.2.1 ∨ l.length = 0 ∨ (c.1 = 4 ∧ amS l n.2.2.2.2.1 = false)) from .inr (.inl hid))]
      rfl
  · simp only [hopt', Option.bind_some, decide_eq_false he, Bool.not_false, cond_true, if_pos (show (e ≠ 0 ∨ c.2.1 ≠ n.2.2.2.1 ∨ l.length = 0 ∨ (c.1 = 4 ∧ amS l n.2.2.2.2.1 = false)) from .inl he)]
    rfl
def eventS (n : Nt) (c : Ct) : Nat :=
 if c.1 = 5 then 10 else if c.1 = 6 then 11 else if c.1 = 7 then (if 0 < c.2.2.length ∧ 1 ≤ c.2.2.getD 0 0 ∧ c.2.2.getD 0 0 ≤ 7 then 14 else 13) else if c.1 = 8 then (if n.1.1 then 12 else 13) else if c.1 = 9 ∨ c.1 = 10 ∨ c.1 = 11 then (if n.1.1 then 12 else 15) else 12
theorem eventS_lt (n : Nt) (c : Ct) : eventS n c < 16 := by
 unfold eventS
 split
 ·omega
 split
 ·omega
 split
 ·split <;> omega
 split
 ·split <;> omega
 split
 ·split <;> omega
 omega
theorem event_is (n : Nt) (c : Ct) : nego_Nego_event 200000 n c = some (eventS n c : Int) := by
 unfold nego_Nego_event eventS
 by_cases h5 : c.1 = 5
 ·simp only [decide_eq_true h5, cond_true, if_pos h5]; rfl
 simp only [decide_eq_false h5, cond_false, if_neg h5]
 by_cases h6 : c.1 = 6
 ·simp only [decide_eq_true h6, cond_true, if_pos h6]; rfl
 simp only [decide_eq_false h6, cond_false, if_neg h6]
 by_cases h7 : c.1 = 7
 ·simp only [decide_eq_true h7, cond_true, if_pos h7]
  by_cases hl : 0 < c.2.2.length
  ·have g := getI_lt c.2.2 0 hl
   have e : c.2.2.getD 0 0 = c.2.2[0] := getD_lt hl
   have g' : getI c.2.2 (0 : Int) = some c.2.2[0] := g
   have hl' : (0 : Int) < (c.2.2.length : Int) := by omega
   rw [e]
   generalize c.2.2[0] = d at g'
   by_cases h1 : 1 ≤ d <;> by_cases h2 : d ≤ 7 <;> simp [hl', g', h1, h2, hl]
  ·have hl' : ¬ (0 : Int) < (c.2.2.length : Int) := by omega
   simp only [decide_eq_false hl', cond_false, Option.bind_some, if_neg (show ¬ (0 < c.2.2.length ∧ 1 ≤ c.2.2.getD 0 0 ∧ c.2.2.getD 0 0 ≤ 7) from fun h => hl h.1)]; rfl
 simp only [decide_eq_false h7, cond_false, if_neg h7]
 by_cases h8 : c.1 = 8
 ·simp only [decide_eq_true h8, cond_true, if_pos h8]
  cases n.1.1 <;> rfl
 simp only [decide_eq_false h8, cond_false, if_neg h8]
 by_cases h9 : c.1 = 9
 ·simp only [decide_eq_true h9, cond_true, if_pos (show c.1 = 9 ∨ c.1 = 10 ∨ c.1 = 11 by omega)]
  cases n.1.1 <;> rfl
 simp only [decide_eq_false h9, cond_false]
 by_cases h10 : c.1 = 10
 ·simp only [decide_eq_true h10, cond_true, if_pos (show c.1 = 9 ∨ c.1 = 10 ∨ c.1 = 11 by omega)]
  cases n.1.1 <;> rfl
 simp only [decide_eq_false h10, cond_false]
 by_cases h11 : c.1 = 11
 ·simp only [decide_eq_true h11, cond_true, if_pos (show c.1 = 9 ∨ c.1 = 10 ∨ c.1 = 11 by omega)]
  cases n.1.1 <;> rfl
 simp only [decide_eq_false h11, cond_false, if_neg (show ¬ (c.1 = 9 ∨ c.1 = 10 ∨ c.1 = 11) by omega)]; rfl
def takeS (n : Nt) (c : Ct) : Nt × List Ct × Ft := if c.1 = 1 then judgeS n c else if c.1 = 2 then agreeS n c else if c.1 = 3 ∨ c.1 = 4 then refuseS n c else doneS n (eventS n c) c zc
theorem take_is (n : Nt) (c : Ct) (hn : WN n) (hw : AllB c.2.2) (hl : c.2.2.length ≤ 5000) : nego_Nego_Take 200000 n c = some (takeS n c) := by
 have a1 := judge_is n c hn hw hl
 have a2 := agree_is n c hn hw hl
 have a3 := refuse_is n c hn hw hl
 have a4 := event_is n c
 have a5 := done_is n (eventS n c) c zc hn (eventS_lt n c) hl (by simp [zc])
 unfold nego_Nego_Take takeS
 by_cases h1 : c.1 = 1
 ·rw [decide_eq_true h1, cond_true, if_pos h1]
  exact (congrArg (fun o => Option.bind o _) a1).trans rfl
 rw [decide_eq_false h1, cond_false, if_neg h1]
 by_cases h2 : c.1 = 2
 ·rw [decide_eq_true h2, cond_true, if_pos h2]
  exact (congrArg (fun o => Option.bind o _) a2).trans rfl
 rw [decide_eq_false h2, cond_false, if_neg h2]
 by_cases h3 : c.1 = 3
 ·rw [decide_eq_true h3, cond_true, cond_true, if_pos (.inl h3)]
  exact (congrArg (fun o => Option.bind o _) a3).trans rfl
 rw [decide_eq_false h3, cond_false]
 by_cases h4 : c.1 = 4
 ·rw [decide_eq_true h4, cond_true, if_pos (.inr h4)]
  exact (congrArg (fun o => Option.bind o _) a3).trans rfl
 rw [decide_eq_false h4, cond_false, if_neg (by omega)]
 refine (congrArg (fun o => Option.bind o _) a4).trans ?_
 rw [Option.bind_some]
 exact (congrArg (fun o => Option.bind o _) a5).trans rfl
def doS (n : Nt) (e : Int) : Nt × List Ct × Ft := if 0 ≤ e ∧ e ≤ 3 then doneS n e.toNat zc zc else nop n
theorem do_is (n : Nt) (e : Int) (hn : WN n) : nego_Nego_Do 200000 n e = some (doS n e) := by
 have d := fun (k : Nat) (hk : k < 16) => done_is n k zc zc hn hk (by simp [zc]) (by simp [zc])
 unfold nego_Nego_Do doS
 by_cases h0 : e = 0
 ·subst h0
  exact (congrArg (fun o => Option.bind o _) (d 0 (by omega))).trans rfl
 rw [decide_eq_false h0, cond_false]
 by_cases h1 : e = 1
 ·subst h1
  exact (congrArg (fun o => Option.bind o _) (d 1 (by omega))).trans rfl
 rw [decide_eq_false h1, cond_false]
 by_cases h2 : e = 2
 ·subst h2
  exact (congrArg (fun o => Option.bind o _) (d 2 (by omega))).trans rfl
 rw [decide_eq_false h2, cond_false]
 by_cases h3 : e = 3
 ·subst h3
  exact (congrArg (fun o => Option.bind o _) (d 3 (by omega))).trans rfl
 rw [decide_eq_false h3, cond_false, if_neg (by omega)]
 rfl
def tickT (t : Int × Int) : (Int × Int) × Bool := if 0 < t.2 then ((t.1, IntKind.wrap .i64 (t.2 - 1)), !decide (0 < IntKind.wrap .i64 (t.2 - 1))) else (t, false)
def tickS (n : Nt) : Nt × List Ct × Ft := if (tickT n.2.2.1).2 then (if 0 < (tickT n.2.2.1).1.1 then doneS (sTim n (tickT n.2.2.1).1) 4 zc zc else doneS (sTim n (tickT n.2.2.1).1) 5 zc zc) else nop (sTim n (tickT n.2.2.1).1)
theorem tick_is (n : Nt) (hn : WN n) : nego_Nego_Tick 200000 n = some (tickS n) := by
 have ht : retry_Retry_Tick 200000 (n.2.2.1.1, n.2.2.1.2) = some (tickT n.2.2.1) := by
  unfold retry_Retry_Tick tickT
  by_cases h : 0 < n.2.2.1.2
  ·rw [decide_eq_true h, if_pos h]; rfl
  ·rw [decide_eq_false h, if_neg h]; rfl
 have d := fun (k : Nat) (hk : k < 16) => done_is (sTim n (tickT n.2.2.1).1) k zc zc (hn.sTim _) hk (by simp [zc]) (by simp [zc])
 unfold nego_Nego_Tick tickS
 rw [ht, Option.bind_some]
 generalize tickT n.2.2.1 = t at *
 obtain ⟨t, b⟩ := t
 cases b with
 | false => rfl
 | true =>
  simp only [Bool.not_true, cond_false, if_true]
  by_cases h : 0 < t.1
  ·rw [decide_eq_true h, cond_true, if_pos h]
   exact (congrArg (fun o => Option.bind o _) (d 4 (by omega))).trans rfl
  ·rw [decide_eq_false h, cond_false, if_neg h]
   exact (congrArg (fun o => Option.bind o _) (d 5 (by omega))).trans rfl
structure Good (n : Nt) (y : Nt × List Ct × Ft) : Prop where
 w : WN y.1
 up : y.2.2.1 = (decide (n.2.1 ≠ 9) && decide (y.1.2.1 = 9))
 down : y.2.2.2.1 = (decide (n.2.1 = 9) && decide (y.1.2.1 ≠ 9))
 len : y.2.1.length ≤ 2
 laid : ∀ c ∈ y.2.1, (layC c).2 = 0
theorem good_done {n m : Nt} (h : m.2.1 = n.2.1) (hm : WN m) (e : Nat) (he : e < 16) (c a : Ct) : Good n (doneS m e c a) := by
 obtain ⟨h1, h2, h3, h4, h5, h6⟩ := doneS_spec m e c a hm he
 rw [h] at h3 h4
 exact ⟨h1, h3, h4, h5, h6⟩
theorem good_nop {n m : Nt} (h : m.2.1 = n.2.1) (hm : WN m) : Good n (nop m) := by
 refine ⟨hm, ?_, ?_, by simp [nop], fun c hc => by cases hc⟩
 ·show false = (decide (n.2.1 ≠ 9) && decide (m.2.1 = 9))
  rw [h]
  by_cases h9 : n.2.1 = 9 <;> simp [h9]
 ·show false = (decide (n.2.1 = 9) && decide (m.2.1 ≠ 9))
  rw [h]
  by_cases h9 : n.2.1 = 9 <;> simp [h9]
theorem good_sTim {n : Nt} (hn : WN n) (t : Int × Int) (e : Nat) (he : e < 16) (c a : Ct) : Good n (doneS (sTim n t) e c a) := good_done (n := n) (m := sTim n t) rfl (hn.sTim t) e he c a
theorem good_sNak {n : Nt} (hn : WN n) (t : Int) (e : Nat) (he : e < 16) (c a : Ct) : Good n (doneS (sNak n t) e c a) := good_done (n := n) (m := sNak n t) rfl (hn.sNak t) e he c a
theorem good_sAck {n : Nt} (hn : WN n) (t : List Op) (e : Nat) (he : e < 16) (c a : Ct) : Good n (doneS (sAck n t) e c a) := good_done (n := n) (m := sAck n t) rfl (hn.sAck t) e he c a
theorem good_sRul {n : Nt} (hn : WN n) {r : Rt} (hr : wfR r) (e : Nat) (he : e < 16) (c a : Ct) : Good n (doneS (sRul n r) e c a) := good_done (n := n) (m := sRul n r) rfl (hn.sRul hr) e he c a
theorem nop_sTim {n : Nt} (hn : WN n) (t : Int × Int) : Good n (nop (sTim n t)) := good_nop (n := n) (m := sTim n t) rfl (hn.sTim t)
theorem good_do {n : Nt} (hn : WN n) (e : Int) : Good n (doS n e) := by
 unfold doS
 split
 ·exact good_done rfl hn _ (by omega) _ _
 ·exact good_nop rfl hn
theorem good_tick {n : Nt} (hn : WN n) : Good n (tickS n) := by
 unfold tickS
 split
 ·split
  ·exact good_sTim hn _ 4 (by omega) _ _
  ·exact good_sTim hn _ 5 (by omega) _ _
 ·exact nop_sTim hn _
theorem good_take {n : Nt} (hn : WN n) (c : Ct) (hw : AllB c.2.2) (hl : c.2.2.length ≤ 5000) : Good n (takeS n c) := by
 unfold takeS
 split
 ·unfold judgeS
  split
  ·exact good_nop rfl hn
  ·split
   ·exact good_sAck hn _ 6 (by omega) _ _
   ·split
    ·split
     ·exact good_sNak hn _ 7 (by omega) _ _
     ·exact good_sNak hn _ 7 (by omega) _ _
    ·exact good_done rfl hn 7 (by omega) _ _
 ·split
  ·unfold agreeS
   split
   ·exact good_nop rfl hn
   ·exact good_sNak hn _ 8 (by omega) _ _
  ·split
   ·unfold refuseS
    split
    ·exact good_nop rfl hn
    ·obtain ⟨ow, ol⟩ := optC_wf c (by omega) hw
     have os := optC_small c (by omega) hw
     obtain ⟨t1, t2⟩ := turn_is n.1 c.1 (optC 200000 c).1 hn.r ow (by omega) (fun o ho => by have := os o ho; omega)
     refine good_sRul hn t2 _ ?_ _ _
     split <;> omega
   ·exact good_done rfl hn _ (eventS_lt n c) _ _
abbrev S7 := Int × Int × Bool × Bool × Int × Int × List Int
theorem alive27 : law27_alive 200000 = some true := by decide +kernel
theorem laid_len (c : Ct) (h : (layC c).2 = 0) : c.2.2.length ≤ 4000 := by
 unfold layC at h
 split at h
 ·cases h
 ·omega
theorem out_loop (l : List S7) (x i : Int) (n : Nt) (pk : List Ct) (hp : pk.length ≤ 1000) (hl : ∀ c ∈ pk, (layC c).2 = 0) : ∀ (m M j : Nat), m + j = pk.length → m < M → gl (fun X c => law27_NegoSends_L18 200000 X c.1.1 c.1.2.1 c.1.2.2.1 c.1.2.2.2.1 c.1.2.2.2.2.1 c.1.2.2.2.2.2.1 c.2.1) M ((l, (x, (i, (pk, ((pk.length : Int), ((j : Int), ())))))), (n, ())) = some (.inr ((l, (x, (i, ()))), (n, ())))
 | 0, M + 1, j, hm, hM => by
  have c1 : decide ((j : Int) < (pk.length : Int)) = false := decide_eq_false (by omega)
  rw [gl_succ]
  simp only [law27_NegoSends_L18, c1, cond_false]
 | m + 1, M + 1, j, hm, hM => by
  have hlt : j < pk.length := by omega
  have c1 : decide ((j : Int) < (pk.length : Int)) = true := decide_eq_true (by omega)
  have c2 : IntKind.wrap .i64 ((j : Int) + 1) = ((j + 1 : Nat) : Int) := by rw [wrap64 (by omega) (by omega)]; omega
  have ih := out_loop l x i n pk hp hl m M (j + 1) (by omega) (by omega)
  have h0 := hl pk[j] (List.getElem_mem hlt)
  have hy := clay2 (N := 200000) pk[j] (by have := laid_len _ h0; omega) (by omega)
  have key : ∀ X, law27_NegoSends_L18 200000 X l x i pk (pk.length : Int) (j : Int) n = X ((l, (x, (i, (pk, ((pk.length : Int), (((j + 1 : Nat) : Int), ())))))), (n, ())) := fun X => by
   simp only [law27_NegoSends_L18, c1, cond_true, getI_lt pk j hlt, Option.bind_some, hy, h0, decide_true, Bool.not_true, cond_false, c2]
  exact (key _).trans ih
theorem dec9 (x : Int) : (x = 9 ∧ decide (x = 9) = true) ∨ (¬ x = 9 ∧ decide (x = 9) = false) := by
 by_cases h : x = 9
 ·exact .inl ⟨h, decide_eq_true h⟩
 ·exact .inr ⟨h, decide_eq_false h⟩
def rndS (n : Nt) (s : S7) : Nt := if Int.tmod s.1 4 = 0 then (doS n s.2.1).1 else if Int.tmod s.1 4 = 1 then (tickS n).1 else (takeS n s.2.2.2.2).1
set_option maxHeartbeats 4000000 in
theorem round_is (l : List S7) (i : Nat) (hlt : i < l.length) (hL : l.length ≤ 1000) (n : Nt) (hn : WN n) (hw : AllB l[i].2.2.2.2.2.2) (hb : l[i].2.2.2.2.2.2.length ≤ 1000) : (∀ X, law27_NegoSends_L3 200000 X l (l.length : Int) (i : Int) n = X ((l, ((l.length : Int), (((i + 1 : Nat) : Int), ()))), (rndS n l[i], ()))) ∧ WN (rndS n l[i]) := by
 have c1 : decide ((i : Int) < (l.length : Int)) = true := decide_eq_true (by omega)
 have c2 : IntKind.wrap .i64 ((i : Int) + 1) = ((i + 1 : Nat) : Int) := by rw [wrap64 (by omega) (by omega)]; omega
 have g := getI_lt l i hlt
 have cb : decide ((1000 : Int) < (l[i].2.2.2.2.2.2.length : Int)) = false := decide_eq_false (by omega)
 generalize l[i] = s at *
 have loop : ∀ (y : Nt × List Ct × Ft), Good n y → law27_NegoSends_L18_R 200000 ((l, ((l.length : Int), ((i : Int), (y.2.1, ((y.2.1.length : Int), ((0 : Int), ())))))), (y.1, ())) = some (.inr ((l, ((l.length : Int), ((i : Int), ()))), (y.1, ()))) := fun y hy => out_loop l (l.length : Int) (i : Int) y.1 y.2.1 (by have := hy.len; omega) hy.laid y.2.1.length 200000 0 (by omega) (by have := hy.len; omega)
 have fin : ∀ (y : Nt × List Ct × Ft), Good n y → decide ((2 : Int) < (y.2.1.length : Int)) = false := fun y hy => decide_eq_false (by have := hy.len; omega)
 unfold rndS
 by_cases k0 : Int.tmod s.1 4 = 0
 ·rw [if_pos k0]
  have t0 := decide_eq_true k0
  have hd := do_is n s.2.1 hn
  have hg := good_do hn s.2.1
  generalize doS n s.2.1 = y at *
  have lp := loop y hg
  have fn := fin y hg
  refine ⟨fun X => ?_, hg.w⟩
  have hu := hg.up
  have hv := hg.down
  rcases dec9 n.2.1 with ⟨h9, e9⟩ | ⟨h9, e9⟩ <;> rcases dec9 y.1.2.1 with ⟨q9, r9⟩ | ⟨q9, r9⟩ <;> simp only [h9, q9, decide_true, ne_eq, not_true_eq_false, not_false_eq_true, decide_false, Bool.and_self, Bool.and_true, Bool.true_and, Bool.and_false, Bool.false_and] at hu hv <;>
   simp only [law27_NegoSends_L3, c1, c2, g, cb, t0, hd, e9, r9, hu, hv, lp, fn, Prod.eta, Option.bind_some, Sum.elim_inr, cond_true, cond_false, decide_true, decide_false, Bool.not_true, Bool.not_false, beq_self_eq_true]
 rw [if_neg k0]
 have t0 := decide_eq_false k0
 by_cases k1 : Int.tmod s.1 4 = 1
 ·rw [if_pos k1]
  have t1 := decide_eq_true k1
  have hd := tick_is n hn
  have hg := good_tick hn
  generalize tickS n = y at *
  have lp := loop y hg
  have fn := fin y hg
  refine ⟨fun X => ?_, hg.w⟩
  have hu := hg.up
  have hv := hg.down
  rcases dec9 n.2.1 with ⟨h9, e9⟩ | ⟨h9, e9⟩ <;> rcases dec9 y.1.2.1 with ⟨q9, r9⟩ | ⟨q9, r9⟩ <;> simp only [h9, q9, decide_true, ne_eq, not_true_eq_false, not_false_eq_true, decide_false, Bool.and_self, Bool.and_true, Bool.true_and, Bool.and_false, Bool.false_and] at hu hv <;>
   simp only [law27_NegoSends_L3, c1, c2, g, cb, t0, t1, hd, e9, r9, hu, hv, lp, fn, Prod.eta, Option.bind_some, Sum.elim_inr, cond_true, cond_false, decide_true, decide_false, Bool.not_true, Bool.not_false, beq_self_eq_true]
 ·rw [if_neg k1]
  have t1 := decide_eq_false k1
  have hd := take_is n s.2.2.2.2 hn hw (by omega)
  have hg := good_take hn s.2.2.2.2 hw (by omega)
  generalize takeS n s.2.2.2.2 = y at *
  have lp := loop y hg
  have fn := fin y hg
  refine ⟨fun X => ?_, hg.w⟩
  have hu := hg.up
  have hv := hg.down
  rcases dec9 n.2.1 with ⟨h9, e9⟩ | ⟨h9, e9⟩ <;> rcases dec9 y.1.2.1 with ⟨q9, r9⟩ | ⟨q9, r9⟩ <;> simp only [h9, q9, decide_true, ne_eq, not_true_eq_false, not_false_eq_true, decide_false, Bool.and_self, Bool.and_true, Bool.true_and, Bool.and_false, Bool.false_and] at hu hv <;>
   simp only [law27_NegoSends_L3, c1, c2, g, cb, t0, t1, hd, e9, r9, hu, hv, lp, fn, Prod.eta, Option.bind_some, Sum.elim_inr, cond_true, cond_false, decide_true, decide_false, Bool.not_true, Bool.not_false, beq_self_eq_true]
theorem far27 (l : List S7) (i : Nat) (hlt : i < l.length) (n : Nt) (hb : 1000 < l[i].2.2.2.2.2.2.length) (X) : law27_NegoSends_L3 200000 X l (l.length : Int) (i : Int) n = some (.inl ((true, ()), ())) := by
 have c1 : decide ((i : Int) < (l.length : Int)) = true := decide_eq_true (by omega)
 have g := getI_lt l i hlt
 have cb : decide ((1000 : Int) < (l[i].2.2.2.2.2.2.length : Int)) = true := decide_eq_true (by omega)
 simp only [law27_NegoSends_L3, c1, g, cb, Option.bind_some, cond_true, alive27]
theorem rounds_ok (l : List S7) (hL : l.length ≤ 1000) (hw : ∀ s ∈ l, AllB s.2.2.2.2.2.2) (m : Nat) : ∀ (M i : Nat) (n : Nt), m + i = l.length → m < M → WN n → gl (fun X c => law27_NegoSends_L3 200000 X c.1.1 c.1.2.1 c.1.2.2.1 c.2.1) M ((l, ((l.length : Int), ((i : Int), ()))), (n, ())) = some (.inl ((true, ()), ())) ∨ gl (fun X c => law27_NegoSends_L3 200000 X c.1.1 c.1.2.1 c.1.2.2.1 c.2.1) M ((l, ((l.length : Int), ((i : Int), ()))), (n, ())) = some (.inr ((), ())) := by
 induction m with
 | zero =>
  intro M i n hm hM hn
  obtain ⟨M, rfl⟩ : ∃ k, M = k + 1 := ⟨M - 1, by omega⟩
  have c1 : decide ((i : Int) < (l.length : Int)) = false := decide_eq_false (by omega)
  have key : ∀ X, law27_NegoSends_L3 200000 X l (l.length : Int) (i : Int) n = some (.inr ((), ())) := fun X => by
   simp only [law27_NegoSends_L3, c1, cond_false]
  exact .inr (key _)
 | succ m ih =>
  intro M i n hm hM hn
  obtain ⟨M, rfl⟩ : ∃ k, M = k + 1 := ⟨M - 1, by omega⟩
  have hlt : i < l.length := by omega
  by_cases hb : 1000 < l[i].2.2.2.2.2.2.length
  ·exact .inl (far27 l i hlt n hb _)
  ·obtain ⟨k1, k2⟩ := round_is l i hlt hL n hn (hw _ (List.getElem_mem hlt)) (by omega)
   rcases ih M (i + 1) (rndS n l[i]) (by omega) (by omega) k2 with h | h
   ·exact .inl ((k1 _).trans h)
   ·exact .inr ((k1 _).trans h)
theorem new_wn (r : Rt) (hr : wfR r) : WN (r, 0, (0, 0), 0, [], [], 0) := ⟨hr, by show (0 : Int) ≤ 0; omega, by show (0 : Int) < 10; omega, fun o ho => (by cases ho), by simp, fun o ho => (by cases ho)⟩
theorem take40 {α : Type} (d : List α) : takeI d (minI (d.length : Int) 40) = some (d.take 40) := by
 unfold minI
 split
 ·exact takeI_nat _ (i := 40) rfl (by omega)
 ·rw [takeI_nat d (i := d.length) rfl (by omega), List.take_of_length_le (by omega), List.take_of_length_le (by omega)]
theorem law_NegoSends (r : Rt) (l : List S7) (h1 : wfT (.pair .bool (.pair (.pair (.int .u16) (.pair (.int .u32) .bool)) (.pair .bool (.pair .bool (.pair (.int .u32) (.pair (.int .u32) (.pair (.int .u32) .bool))))))) r) (h2 : wfT (.sl (.pair (.int .u8) (.pair (.int .i64) (.pair .bool (.pair .bool (.pair (.int .u8) (.pair (.int .u8) (.sl (.int .u8)))))))))  l) : law27_NegoSends 200000 r l = some true := by
 have hr : wfR r := ⟨⟨wf_u16 h1.2.1.1, wf_u32' h1.2.1.2.1⟩, wf_u32' h1.2.2.2.2.1, wf_u32' h1.2.2.2.2.2.1, wf_u32' h1.2.2.2.2.2.2.1⟩
 have hw : ∀ s ∈ l.take 40, AllB s.2.2.2.2.2.2 := fun s hs => wf_bytes (h2.2 s (List.mem_of_mem_take hs)).2.2.2.2.2.2
 have ht := take40 l
 have hl : (l.take 40).length ≤ 40 := List.length_take_le _ _
 generalize l.take 40 = k at *
 have hk := rounds_ok k (by omega) hw k.length 200000 0 (r, 0, (0, 0), 0, [], [], 0) (by omega) (by omega) (new_wn r hr)
 unfold law27_NegoSends
 refine (congrArg (fun o => Option.bind o _) ht).trans ?_
 rw [Option.bind_some]
 rcases hk with h | h
 ·exact (congrArg (fun o => Option.bind o _) (show law27_NegoSends_L3_R 200000 ((k, ((k.length : Int), ((0 : Int), ()))), ((r, ((0 : Int), (((0 : Int), (0 : Int)), ((0 : Int), ([], ([], (0 : Int))))))), ())) = _ from h)).trans rfl
 ·refine (congrArg (fun o => Option.bind o _) (show law27_NegoSends_L3_R 200000 ((k, ((k.length : Int), ((0 : Int), ()))), ((r, ((0 : Int), (((0 : Int), (0 : Int)), ((0 : Int), ([], ([], (0 : Int))))))), ())) = _ from h)).trans ?_
  simp only [Option.bind_some, Sum.elim_inr, alive27]
end Go.Proofs.Ytjomcoignnlghaa
