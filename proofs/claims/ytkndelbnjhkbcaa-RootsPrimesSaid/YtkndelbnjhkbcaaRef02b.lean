/-
  Contract: products of rows of digits, by the document.
-/
import Derived.Test.YtkndelbnjhkbcaaRef02a
namespace Go.Proofs.Ytkndelbnjhkbcaa
open Go.RowKit
set_option linter.unusedVariables false

theorem map_set_uv (l : List Nat) (j x : Nat) : (l.map uv).set j (.int .u64 (x : Int)) = (l.set j x).map uv := by rw [List.map_set]; rfl

set_option maxRecDepth 100000 in
set_option maxHeartbeats 2000000 in
theorem ref_times (A B : Option Addr) (a b : List Nat) (c d : Nat) (w : World) (ha : RV w A a.length (a.map uv)) (hb : RV w B b.length (b.map uv)) (hda : Digs a) (hdb : Digs b) (hn : a.length ≤ 10000) (hm : b.length ≤ 10000) :
    Calls Try.prog 55 #[.slice A a.length c, .slice B b.length d] w (RetDig w fun l => nval l = nval a * nval b ∧ l.length = a.length + b.length + 1) := by
  obtain ⟨n, hN⟩ : ∃ n, n = a.length := ⟨_, rfl⟩
  obtain ⟨m, hM⟩ : ∃ m, m = b.length := ⟨_, rfl⟩
  obtain ⟨T, hT⟩ : ∃ T, T = n + m + 1 := ⟨_, rfl⟩
  have hT' : (n : Int) + (m : Int) + 1 = (T : Int) := by omega
  have hmk := mk_vals el_u64 T T (by omega) (by omega) (by omega)
  have hstart := TimesRow.start a b
  rw [← hN] at ha hn hstart ⊢
  rw [← hM] at hb hm hstart ⊢
  rw [← hT] at hstart
  have hz : (List.replicate T 0).map uv = List.replicate T (Value.int .u64 0) := by rw [List.map_replicate]; rfl
  have Hz := Lib.hid hz; clear hz
  have Hst := Lib.hid hstart; clear hstart
  have Hda := Lib.hid hda; clear hda
  have Hdb := Lib.hid hdb; clear hdb
  have HN := Lib.hid hN; clear hN
  have HM := Lib.hid hM; clear hM
  have HT := Lib.hid hT; clear hT
  go_enter Try.func55, Try.ntmps55
  go_wp2
  clear hmk
  go_loopw [6] (fun i wr => ∃ (i' : Nat) (out : List Nat), i' ≤ n ∧ i = .int .i64 i' ∧ OV 22 wr w.heap.size (.slice (some ⟨w.heap.size, 0, none⟩) T T) T (out.map uv) ∧ TimesRow a b out i' ∧ Below w.heap.size w wr) (fun i _ => n - (intOf i).toNat)
  case atStart =>
    refine ⟨0, List.replicate T 0, Nat.zero_le _, rfl, ?_, Hst.out, (Below.refl _ _).alloc (Nat.le_refl _) _⟩
    rw [Hz.out]
    exact OV.made _ _ _ _ _ _ (Nat.le_refl _) (by have := HT.out; simp [maxLen]; omega) (Nat.le_refl _)
  case round =>
    obtain ⟨i, out, hi, rfl, hown, hrow, hbel⟩ := hrel
    have Hown := Lib.hid hown; clear hown
    have Hrow := Lib.hid hrow; clear hrow
    by_cases hlt : i < n
    · obtain ⟨wo, hwo⟩ : ∃ wo : World, wo = wr := ⟨_, rfl⟩
      subst hwo
      have Hin := Lib.hid Hrow.out.in_
      go_wp2
      go_loopw [7, 8] (fun cy k wy => ∃ (k' C : Nat) (o2 : List Nat), k' ≤ m ∧ k = .int .i64 k' ∧ cy = .int .u64 C ∧ OV 22 wy w.heap.size (.slice (some ⟨w.heap.size, 0, none⟩) T T) T (o2.map uv) ∧ TimesAt a b o2 i k' C ∧ Below w.heap.size w wy) (fun _ k _ => m - (intOf k).toNat)
      case atStart => exact ⟨0, 0, out, Nat.zero_le _, rfl, rfl, Hown.out, Hin.out, hbel⟩
      case round =>
        clear hbel
        obtain ⟨k, C, o2, hk, rfl, rfl, hown2, hat, hbel⟩ := hrel
        have Hown2 := Lib.hid hown2; clear hown2
        have Hat := Lib.hid hat; clear hat
        have hC := Hat.out.2.2.2.2
        have hlen : o2.length = T := by rw [Hat.out.2.2.1, HT.out, HN.out, HM.out]
        obtain ⟨ad, p, rfl, hp, hpc⟩ := uv_at (ha.below hbel) hlt
        have hfz : ∀ j, wr.frozen? ⟨w.heap.size, j, none⟩ = false := fun j => Hown2.out.frozenAt j
        by_cases hkm : k < m
        · obtain ⟨be, q, rfl, hq, hqc⟩ := uv_at (hb.below hbel) hkm
          have hik : i + k < T := by have := HT.out; omega
          obtain ⟨o, ho⟩ : ∃ o, o2[i + k]? = some o := ⟨_, List.getElem?_eq_getElem (by omega)⟩
          have hoc := Hown2.out.cellAt (map_at (f := uv) ho)
          unfold uv at hoc
          obtain ⟨hst, hxl⟩ := Hat.out.step Hda.out Hdb.out ho hp hq
          obtain ⟨P, hP⟩ : ∃ P, P = p * q := ⟨_, rfl⟩
          obtain ⟨S, hS⟩ : ∃ S, S = o + P := ⟨_, rfl⟩
          obtain ⟨X, hX⟩ : ∃ X, X = S + C := ⟨_, rfl⟩
          rw [← hP, ← hS, ← hX] at hst hxl
          obtain ⟨R, hR⟩ : ∃ R, R = X % 65536 := ⟨_, rfl⟩
          obtain ⟨U, hU⟩ : ∃ U, U = X / 65536 := ⟨_, rfl⟩
          rw [← hR, ← hU] at hst
          have Hst := Lib.hid hst; clear hst
          have hPI : (P : Int) = (p : Int) * (q : Int) := by rw [hP]; simp
          have e1 : IntKind.u64.wrap ((p : Int) * (q : Int)) = (P : Int) := by rw [← hPI, IntKind.wrap_u64]; omega
          have e2 : IntKind.u64.wrap ((o : Int) + (P : Int)) = (S : Int) := by rw [IntKind.wrap_u64]; omega
          have e3 : IntKind.u64.wrap ((S : Int) + (C : Int)) = (X : Int) := by rw [IntKind.wrap_u64]; omega
          have e4 : (X : Int) % 65536 = (R : Int) := by omega
          have e5 : (X : Int) / 65536 = (U : Int) := by omega
          have s1 : IntKind.i64.wrap ((i : Int) + (k : Int)) = (i : Int) + (k : Int) := by rw [IntKind.wrap_i64]; omega
          have s2 : (0 : Int) ≤ (i : Int) + (k : Int) := by omega
          have s3 : ((i : Int) + (k : Int)).toNat = i + k := by omega
          have s4 : (i : Int) + (k : Int) < (T : Int) := by omega
          have HlR := Lib.hid hlen
          clear hPI hP hS hX hR hU hp hq ho hlen
          have hfk := hfz (i + k)
          clear hfz
          go_wp2
          go_quiet (fail)
          go_wp2
          go_roundw
          case rel =>
            refine ⟨k + 1, U, o2.set (i + k) R, by omega, by go_num, rfl, ?_, Hst.out, ?_⟩
            · rw [← map_set_uv]; exact Hown2.out.stored _ _
            · exact (below_drewN hbel _).setCell (Nat.le_refl _) _
          case measure => simp [intOf] <;> omega
        · obtain rfl : k = m := by omega
          have hat2 : TimesAt a b o2 i b.length C := by rw [← HM.out]; exact Hat.out
          have hr := hat2.row hp
          clear hat2
          rw [← HM.out] at hr
          obtain ⟨h0, hrow'⟩ := hr
          have hoc := Hown2.out.cellAt (map_at (f := uv) h0)
          unfold uv at hoc
          have hoc' : wr.cell? ⟨w.heap.size, i + k, none⟩ = some (.int .u64 0) := hoc
          have Hrow' := Lib.hid hrow'
          have s1 : IntKind.i64.wrap ((i : Int) + (k : Int)) = (i : Int) + (k : Int) := by rw [IntKind.wrap_i64]; omega
          have s2 : (0 : Int) ≤ (i : Int) + (k : Int) := by omega
          have s3 : ((i : Int) + (k : Int)).toNat = i + k := by omega
          have s4 : (i : Int) + (k : Int) < (T : Int) := by have := HT.out; omega
          have hfk := hfz (i + k)
          clear hfz h0 hrow' hoc hlen hp
          go_wp2
          go_roundw
          case rel =>
            refine ⟨i + 1, o2.set (i + k) C, by omega, by go_num, ?_, Hrow'.out, ?_⟩
            · rw [← map_set_uv]; exact Hown2.out.stored _ _
            · exact hbel.setCell (Nat.le_refl _) _
          case measure => simp [intOf] <;> omega
    · obtain rfl : i = n := by omega
      have hv : nval out = nval a * nval b := by
        have := Hrow.out
        rw [HN.out] at this
        exact this.last
      have Hv := Lib.hid hv; clear hv
      go_wp2
      go_ret
      have hl : out.length = T := by have := Hown.out.len; rwa [List.length_map] at this
      exact RetDig.of Hown.out Hrow.out.2.1 ⟨Hv.out, by rw [hl, HT.out]⟩ hbel
end Go.Proofs.Ytkndelbnjhkbcaa
