/-
  Contract: all parts, one behind the other.
-/
import Derived.Test.YtneapgelfknlgaaFacts
import Derived.Test.YtneapgelfknlgaaPlain01
namespace Go.Proofs.Ytneapgelfknlgaa
open Go.RowKit
set_option linter.unusedVariables false

/-- How long the parts are together. -/
def tot (ps : List (List UInt8)) : Nat := ps.flatten.length
theorem tot_snoc {ps : List (List UInt8)} {k : Nat} {p : List UInt8} (h : ps[k]? = some p) : tot (ps.take (k + 1)) = tot (ps.take k) + p.length := by
  rw [take_snoc h]; simp [tot]
theorem flat_snoc {ps : List (List UInt8)} {k : Nat} {p : List UInt8} (h : ps[k]? = some p) : (ps.take (k + 1)).flatten = (ps.take k).flatten ++ p := by
  rw [take_snoc h]; simp
theorem tot_take_le (ps : List (List UInt8)) (k : Nat) : tot (ps.take k) ≤ tot ps := by
  have : ps.flatten = (ps.take k).flatten ++ (ps.drop k).flatten := by rw [← List.flatten_append, List.take_append_drop]
  simp only [tot]; rw [this, List.length_append]; omega

set_option maxHeartbeats 800000 in
theorem octs_join (A : Option Addr) (n c : Nat) (ps : List (List UInt8)) (w : World) (hp : RPs w A n ps) (hn : n ≤ maxLen) (ht : tot ps ≤ 140737488355328) :
    Calls Try.prog 15 #[.slice A n c] w fun e w' => ∃ v, e = .returned v ∧ OB w' w.heap.size v (tot ps) ps.flatten ∧ Below w.heap.size w w' := by
  have lp := Lib.hid hp.len
  obtain ⟨T, hT⟩ : ∃ T, T = tot ps := ⟨_, rfl⟩
  have hmk := mk_bytes 0 T (by omega) (by omega) (by omega)
  have htk : ∀ k, tot (ps.take k) ≤ T := fun k => by rw [hT]; exact tot_take_le ps k
  have Htk := Lib.hid htk; clear htk
  rw [← hT] at ht ⊢
  have HT := Lib.hid hT; clear hT
  unfold maxLen at hn
  have Hmk := Lib.hid hmk; clear hmk
  go_enter Try.func15, Try.ntmps15
  go_wp2
  go_loopw [3, 11] (fun s i wr => ∃ k : Nat, k ≤ n ∧ i = .int .i64 k ∧ s = .int .i64 (tot (ps.take k) : Nat) ∧ Qt w wr) (fun _ i _ => n - (intOf i).toNat)
  case atStart => exact ⟨0, Nat.zero_le _, rfl, rfl, Qt.refl _⟩
  case round =>
    obtain ⟨k, hk, rfl, rfl, q, rfl⟩ := hrel
    have h1 := Htk.out k
    have h2 := Htk.out (k + 1)
    by_cases hlt : k < n
    · obtain ⟨ad, B, m, d, p, rfl, hpk, hcell, hmd, hdm, hrb⟩ := hp.at_ hlt
      have hsn := tot_snoc hpk
      rw [hrb.len] at hsn
      obtain ⟨S, hS⟩ : ∃ S, S = tot (ps.take k) := ⟨_, rfl⟩
      have Hsn := Lib.hid hsn
      have h3 : tot (ps.take k) + m ≤ T := by omega
      rw [← hS] at h1 h3 Hsn ⊢
      clear hsn h2 hS hpk hp hrb
      go_wp2
      go_roundw
      case rel => exact ⟨k + 1, by omega, by go_num, by rw [Hsn.out]; go_num, by first | exact Qt.d _ _ | exact Qt.dd _ _ _⟩
      case measure => simp [intOf]; omega
    · have hkn : k = n := by omega
      have hS : tot (ps.take k) = T := by rw [List.take_of_length_le (by rw [lp.out, hkn]; omega), ← HT.out]
      rw [hS]
      clear h1 h2 hS hkn
      have hmk := Hmk.out
      go_wp2
      clear hmk
      go_loopw [6, 24] (fun v i wr => ∃ k : Nat, k ≤ n ∧ i = .int .i64 k ∧ OB wr w.heap.size v (tot (ps.take k)) (ps.take k).flatten ∧ Below w.heap.size w wr) (fun _ i _ => n - (intOf i).toNat)
      case atStart =>
        refine ⟨0, Nat.zero_le _, rfl, ?_, (below_drewN (Below.refl _ _) q).alloc (Nat.le_refl _) _⟩
        exact OB.made (w.drewN q) w.heap.size 0 T (Nat.zero_le _) (by simp only [maxLen]; omega) (Nat.le_refl _)
      case round =>
        clear hlt hk
        obtain ⟨k, hk, rfl, hown, hbel⟩ := hrel
        have h2 := Htk.out (k + 1)
        by_cases hlt : k < n
        · obtain ⟨ad, B, m, d, p, rfl, hpk, hcell, hmd, hdm, hrb⟩ := (hp.below hbel).at_ hlt
          have hsn := tot_snoc hpk
          rw [hrb.len] at hsn
          have Hfl := Lib.hid (flat_snoc hpk)
          have Hsn := Lib.hid hsn
          have h3 : tot (ps.take k) + m ≤ 140737488355328 := by omega
          have hsz := hbel.size
          clear hsn h2 hpk hp
          have Hown := Lib.hid hown; clear hown
          have Hrb := Lib.hid hrb; clear hrb
          go_wp2_with (at_builtin; refine wpList_appb _ rfl (.tmp 28) (.tmp 29) rfl w.heap.size _ _ _ rfl Hown.out _ _ _ _ rfl Hrb.out h3 hsz ?_; intro v' w1 hown1 hg1 hat1; have Hown1 := Lib.hid hown1; clear hown1)
          go_roundw
          case rel =>
            refine ⟨k + 1, by omega, by go_num, by rw [Hsn.out, Hfl.out]; exact Hown1.out, hbel.grown hg1 hsz fun j hj => (Hown.out.lt j hj).1⟩
          case measure => simp [intOf]; omega
        · have hkn : k = n := by omega
          have hS : tot (ps.take k) = T := by rw [List.take_of_length_le (by rw [lp.out, hkn]; omega), ← HT.out]
          have hF : (ps.take k).flatten = ps.flatten := by rw [List.take_of_length_le (by rw [lp.out, hkn]; omega)]
          rw [hS, hF] at hown
          have Hown := Lib.hid hown; clear hown hS hF hkn
          go_wp2
          go_ret
          exact ⟨_, rfl, Hown.out, hbel⟩
end Go.Proofs.Ytneapgelfknlgaa
