/-
  Layer 18, on plain data: packets checked and made; there and back; the five laws.
-/
import Derived.Test.YtpijcgohhjgdbaaQRVP4
namespace Go.Proofs.Ytpijcgohhjgdbaa
set_option maxRecDepth 100000
open Go.RowKit
set_option linter.unusedVariables false
set_option linter.unusedSimpArgs false
set_option maxRecDepth 100000

theorem alive18 : law19_alive 200000 = some true := by decide +kernel
/-! ### Checked -/
/-- How many attributes of which kind. -/
def areB (l : List At2) (lo hi : Nat) (kind : Int) : Bool := (l.all fun a => decide (a.1 = kind)) && decide (lo ≤ l.length) && decide (l.length ≤ hi)
def fitB (kind : Int) (l : List At2) : Bool :=
  if kind = 1 then areB l 1 1 1 else if kind = 2 then areB l 1 1 4 else if kind = 3 then areB l 1 3 2 else if kind = 4 then areB l 1 1 3 else if kind = 5 ∨ kind = 6 then areB l 0 1 2 else decide (l.length = 0)
def badA : List At2 → Int
  | [] => 0
  | a :: r => if chk a = 0 then badA r else chk a
theorem badA_go {a : At2} {r : List At2} (h : chk a = 0) : badA (a :: r) = badA r := by unfold badA; rw [if_pos h]; cases r <;> rfl
theorem badA_bad {a : At2} {r : List At2} (h : ¬ chk a = 0) : badA (a :: r) = chk a := by unfold badA; rw [if_neg h]
def chkP (p : Pk) : Int := bif p.1 then (if p.2.1 < 1 ∨ 9 < p.2.1 then 9 else bif fitB p.2.1 p.2.2.1 then badA p.2.2.1 else 1) else 0
section
variable {N : Nat}
theorem map_rep (l : List At2) (kind : Int) (n : Nat) : (l.map Prod.fst = List.replicate n kind) ↔ ((l.all fun a => decide (a.1 = kind)) = true ∧ l.length = n) := by
  rw [List.eq_replicate_iff, List.length_map, List.all_eq_true]
  constructor
  · rintro ⟨h1, h2⟩
    exact ⟨fun a ha => decide_eq_true (h2 _ (List.mem_map_of_mem ha)), h1⟩
  · rintro ⟨h1, h2⟩
    refine ⟨h2, fun b hb => ?_⟩
    obtain ⟨a, ha, rfl⟩ := List.mem_map.1 hb
    exact of_decide_eq_true (h1 a ha)
theorem rep0 (l : List At2) (kind : Int) : decide (l.map Prod.fst = []) = ((l.all fun a => decide (a.1 = kind)) && decide (l.length = 0)) := by
  rw [Bool.eq_iff_iff, decide_eq_true_eq, Bool.and_eq_true, decide_eq_true_eq]
  exact map_rep l kind 0
theorem rep1 (l : List At2) (kind : Int) : decide (l.map Prod.fst = [kind]) = ((l.all fun a => decide (a.1 = kind)) && decide (l.length = 1)) := by
  rw [Bool.eq_iff_iff, decide_eq_true_eq, Bool.and_eq_true, decide_eq_true_eq]
  exact map_rep l kind 1
theorem rep2 (l : List At2) (kind : Int) : decide (l.map Prod.fst = [kind, kind]) = ((l.all fun a => decide (a.1 = kind)) && decide (l.length = 2)) := by
  rw [Bool.eq_iff_iff, decide_eq_true_eq, Bool.and_eq_true, decide_eq_true_eq]
  exact map_rep l kind 2
theorem rep3 (l : List At2) (kind : Int) : decide (l.map Prod.fst = [kind, kind, kind]) = ((l.all fun a => decide (a.1 = kind)) && decide (l.length = 3)) := by
  rw [Bool.eq_iff_iff, decide_eq_true_eq, Bool.and_eq_true, decide_eq_true_eq]
  exact map_rep l kind 3
theorem num1 (n : Nat) : (decide (1 ≤ n) && decide (n ≤ 1)) = decide (n = 1) := by rw [Bool.eq_iff_iff]; simp only [Bool.and_eq_true, decide_eq_true_eq]; omega
theorem num3 (n : Nat) : (decide (1 ≤ n) && decide (n ≤ 3)) = (decide (n = 1) || (decide (n = 2) || decide (n = 3))) := by rw [Bool.eq_iff_iff]; simp only [Bool.and_eq_true, Bool.or_eq_true, decide_eq_true_eq]; omega
theorem num01 (n : Nat) : (decide (0 ≤ n) && decide (n ≤ 1)) = (decide (n = 0) || decide (n = 1)) := by rw [Bool.eq_iff_iff]; simp only [Bool.and_eq_true, Bool.or_eq_true, decide_eq_true_eq]; omega
theorem of_ok (kind : Int) (l : List At2) (hl : l.length ≤ 12) (hs : ∀ a ∈ l, a.2.length ≤ 5000) (hN : 10000 ≤ N) : packet_Of N kind l = some (true, kind, l, []) := by
  have h := gl_run (G := fun (X : (((List ((Int) × (List (Int)))) × ((Int) × ((Int) × Unit))) × ((Bool) × ((Int) × ((List (Int)) × ((Bool) × ((Int) × ((List (Int)) × ((List ((Int) × (List (Int)))) × ((List ((Int) × (List (Int)))) × Unit))))))))) → Option ((Unit × ((Bool) × ((Int) × ((List (Int)) × ((Bool) × ((Int) × ((List (Int)) × ((List ((Int) × (List (Int)))) × ((List ((Int) × (List (Int)))) × Unit))))))))))) c => packet_Of_L3 N X c.1.1 c.1.2.1 c.1.2.2.1 c.2.1 c.2.2.1 c.2.2.2.1 c.2.2.2.2.1 c.2.2.2.2.2.1 c.2.2.2.2.2.2.1 c.2.2.2.2.2.2.2.1 c.2.2.2.2.2.2.2.2.1)
    (fun i => ((l, ((l.length : Int), ((i : Int), ()))), (false, ((0 : Int), (([] : List Int), (true, (kind, (([] : List Int), (([] : List At2), (l.take i, ())))))))))) l.length ((), (false, ((0 : Int), (([] : List Int), (true, (kind, (([] : List Int), (([] : List At2), (l, ()))))))))) (fun X i hi => by
    have c1 : ((i : Int) < (l.length : Int)) := by omega
    have hc : slices_Clone_byte_byte N l[i].2 = some l[i].2 := oclone _ (by have := hs _ (List.getElem_mem hi); omega)
    have r : roomB ((l.take i).length + ([(l[i].1, l[i].2)] : List At2).length) 32 = true := by
      have h1 : (l.take i).length ≤ 12 := by rw [List.length_take]; omega
      have h2 : ([(l[i].1, l[i].2)] : List At2).length = 1 := rfl
      exact roomB_of (by have := big_len; omega) (by omega)
    simp only [packet_Of_L3, c1, decide_true, cond_true, getI_lt l i hi, Option.bind_some, hc, r, up64 hi (by omega), take_up l hi, peta]) (fun X => by
    simp [packet_Of_L3]) N 0 (by omega) (by omega)
  unfold packet_Of packet_Of_L3_R
  simp only [Int.natCast_zero, List.take_zero] at h
  rw [h]
  rfl
theorem ofd_ok (b : List Int) (hb : b.length ≤ 1000000) : packet_OfData N b = some (false, 0, [], b) := by
  unfold packet_OfData
  rw [oclone b hb]; rfl
end
end Go.Proofs.Ytpijcgohhjgdbaa
