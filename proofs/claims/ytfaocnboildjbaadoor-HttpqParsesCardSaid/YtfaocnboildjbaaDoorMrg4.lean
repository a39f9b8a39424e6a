/-
  Parts of my own, one behind the other: Low, Shf, SC, Plain01, Nums, Hex, Unhex, Uhx, Ux, GWd, QBase2, QOctsD, QW1, QW2, QW5, QW7.
-/
import Derived.Test.YtfaocnboildjbaaDoorMrg3
import Derived.Lib.OthersKept
import Derived.Lib.ConvBytes
import Derived.ProofKit
import Derived.WalkKit
import Derived.Shelf.Strings.Trim
import Derived.Shelf.Small.Utf8
import Derived.Shelf.Small.Strs
import Derived.Shelf.Strings.Search1
import Derived.Shelf.Strings.Search2
import Derived.Shelf.Strings.Cut
import Derived.Shelf.LaysM
import Derived.Shelf.Strings.Shaped
import Derived.Shelf.Unicode.Decode
import Derived.Shelf.Strings.Runes
import Derived.Shelf.Strings.AsciiSet
import Derived.Shelf.Unicode.DecodeSlow
import Derived.Shelf.Unicode.DecodeAny
import Derived.Shelf.Unicode.DecodeLast
import Derived.Test.YtfaocnboildjbaaDoorProg
import Derived.Shelf.Strings.SlTrimAscii
import Derived.Lib.AppendIntMem
import Derived.Lib.ParseIntB
import Derived.Lib.ItoaNum
import Derived.BigCall
import Derived.BigGuard
import Derived.Test.YtfaocnboildjbaaDoorMrg1
namespace Go.Proofs.YtfaocnboildjbaaDoor
set_option maxRecDepth 100000
open Go.RowKit
set_option linter.unusedVariables false
set_option linter.unusedSimpArgs false
def sm (b : UInt8) : UInt8 := if 65 ≤ b.toNat ∧ b.toNat ≤ 90 then b + 32 else b
def lowS (s : List UInt8) : List UInt8 := s.map sm
theorem sm_up {b : UInt8} (h : 65 ≤ b.toNat ∧ b.toNat ≤ 90) : (sm b).toNat = b.toNat + 32 := by
 unfold sm
 rw [if_pos h, UInt8.toNat_add]
 have : (32 : UInt8).toNat = 32 := rfl
 rw [this]
 omega
theorem sm_id {b : UInt8} (h : ¬ (65 ≤ b.toNat ∧ b.toNat ≤ 90)) : sm b = b := by unfold sm; rw [if_neg h]
def curL (s : List UInt8) (p : Nat) (j : Nat) : Nat := if j < p then (sm (s.getD j 0)).toNat else (s.getD j 0).toNat
theorem cur_step {s : List UInt8} {p q : Nat} (h : p ≤ q) (hk : ∀ j, p ≤ j → j < q → ¬ (65 ≤ (s.getD j 0).toNat ∧ (s.getD j 0).toNat ≤ 90)) (j : Nat) : curL s q j = curL s p j := by
 unfold curL
 by_cases h1 : j < p
 ·rw [if_pos (by omega), if_pos h1]
 ·rw [if_neg h1]
  by_cases h2 : j < q
  ·rw [if_pos h2, sm_id (hk j (by omega) h2)]
  ·rw [if_neg h2]
theorem cell_same {w w' : World} {a : Addr} (h : w'.heap[a.block]? = w.heap[a.block]?) : w'.cell? a = w.cell? a := by unfold World.cell?; rw [h]
theorem frozen_same {w w' : World} {a : Addr} (h : w'.heap[a.block]? = w.heap[a.block]?) : w'.frozen? a = w.frozen? a := by unfold World.frozen?; rw [h]
theorem iter_old (w : World) (s : ByteArray) (p : Nat) {k : Nat} (hk : k < w.heap.size) : (w.iter s p).heap[k]? = w.heap[k]? := by
 show (w.heap.push _)[k]? = _
 rw [Array.getElem?_push]
 split
 ·omega
 ·rfl
theorem iter_size (w : World) (s : ByteArray) (p : Nat) : (w.iter s p).heap.size = w.heap.size + 1 := by
 show (w.heap.push _).size = _
 simp
structure LowI (n0 : Nat) (s : List UInt8) (p : Nat) (w wr : World) : Prop where
 cell : ∀ j, j < s.length → wr.cell? ⟨n0, j, none⟩ = some (.int .u8 (curL s p j : Nat))
 free : ∀ j, j < s.length → wr.frozen? ⟨n0, j, none⟩ = false
 it : wr.heap[n0 + 1]? = some (.stringIter ⟨s.toArray⟩ p)
 below : Below n0 w wr
 size : n0 + 2 ≤ wr.heap.size
set_option maxRecDepth 100000 in
set_option maxHeartbeats 3200000 in
theorem lower_walk (s : List UInt8) (hs : s.length ≤ 1000000) (w : World) :
  Calls Tryd.prog 35 #[.string ⟨s.toArray⟩] w fun e w' => e = .returned (.string ⟨(lowS s).toArray⟩) ∧ Below w.heap.size w w' := by
 have hsz : (ByteArray.mk s.toArray).size = s.length := by show s.toArray.size = _; simp
 have hl : (ByteArray.mk s.toArray).data.toList = s := by simp
 obtain ⟨c, hc⟩ : ∃ c, c = grownCap w (ByteArray.mk s.toArray).size 0 5 := ⟨_, rfl⟩
 have hcv := Lib.run_convert_string_bytes (P := Tryd.prog) w 9 26 5 ⟨s.toArray⟩ Tryd.underlying9 Tryd.underlying26 Tryd.underlying5
 rw [← hc, hsz] at hcv
 clear hc
 have hb0 : Below w.heap.size w (Lib.bytesWorld w 5 ⟨s.toArray⟩) := ⟨rfl, rfl, rfl, by rw [Lib.bytesWorld_size]; omega, fun k hk => Lib.bytesWorld_at_old _ _ _ k hk⟩
 have hs0 := Lib.bytesWorld_size w 5 ⟨s.toArray⟩
 have hn0 := Lib.bytesWorld_at_new w 5 ⟨s.toArray⟩
 have hc0 := Lib.bytesWorld_cell w 5 ⟨s.toArray⟩
 rw [hsz, hl] at hc0
 have hf0 : ∀ j, j < s.length → (Lib.bytesWorld w 5 ⟨s.toArray⟩).frozen? ⟨w.heap.size, j, none⟩ = false := fun j hj => by
  have h1 : (Lib.bytesCells w 5 ⟨s.toArray⟩).size ≥ s.length := by
   have := hc0 j hj
   simp [Lib.bytesCells, hsz]
  simp only [World.frozen?, hn0]
  have : ¬ ((Lib.bytesCells w 5 ⟨s.toArray⟩).size ≤ j) := by omega
  simp [this]
 clear hn0
 generalize Lib.bytesWorld w 5 ⟨s.toArray⟩ = W0 at hcv hb0 hs0 hc0 hf0
 go_enter Tryd.func35, Tryd.ntmps35
 go_wp2
 go_loopw [4, 5] (fun _ _ wr => ∃ p, p ≤ s.length ∧ LowI w.heap.size s p w wr) (fun _ _ wr => s.length - wr.iterPos (w.heap.size + 1))
 case atStart =>
  refine ⟨0, Nat.zero_le _, ?_, ?_, ?_, ?_, ?_⟩
  ·intro j hj
   have h := hc0 j hj
   simp only [curL, Nat.not_lt_zero, if_false]
   rw [cell_same (iter_old W0 _ _ (by show w.heap.size < _; omega))]
   exact h
  ·intro j hj
   rw [frozen_same (iter_old W0 _ _ (by show w.heap.size < _; omega))]
   exact hf0 j hj
  ·have := World.iter_heap W0 ⟨s.toArray⟩ 0
   rw [hs0] at this
   exact this
  ·exact hb0.trans ⟨rfl, rfl, rfl, by rw [iter_size]; omega, fun k hk => iter_old W0 _ _ (by omega)⟩
  ·rw [iter_size]; omega
 case round =>
  obtain ⟨p, hp, hI⟩ := hrel
  obtain ⟨hcell, hfree, hit, hbel, hsize⟩ := hI
  by_cases hlt : p < s.length
  ·have hnx : ∀ ty, (Instr.next (.pointer (some ⟨w.heap.size + 1, 0, none⟩)) true ty).run Tryd.prog wr = _ := fun ty => Lib.run_next_any_at wr (w.heap.size + 1) ⟨s.toArray⟩ p ty hit (by rw [hsz]; exact hlt)
   obtain ⟨d1, d2, d3, d4⟩ := dec_facts s p hlt
   generalize Utf8.decode ⟨s.toArray⟩ p = d at hnx d1 d2 d3 d4
   have hne : w.heap.size ≠ w.heap.size + 1 := by omega
   have hcell2 : ∀ j, j < s.length → (wr.iterAt (w.heap.size + 1) ⟨s.toArray⟩ (p + d.2)).cell? ⟨w.heap.size, j, none⟩ = some (.int .u8 (curL s p j : Nat)) := fun j hj => by
    rw [cell_same (Lib.iterAt_other wr (w.heap.size + 1) w.heap.size ⟨s.toArray⟩ (p + d.2) hne)]; exact hcell j hj
   have hfree2 : ∀ j, j < s.length → (wr.iterAt (w.heap.size + 1) ⟨s.toArray⟩ (p + d.2)).frozen? ⟨w.heap.size, j, none⟩ = false := fun j hj => by
    rw [frozen_same (Lib.iterAt_other wr (w.heap.size + 1) w.heap.size ⟨s.toArray⟩ (p + d.2) hne)]; exact hfree j hj
   have hit2 := Lib.iterAt_heap wr (w.heap.size + 1) ⟨s.toArray⟩ p (p + d.2) hit
   have hbel2 := Lib.below_iterAt hbel (k := w.heap.size + 1) (by omega) ⟨s.toArray⟩ (p + d.2)
   have hsize2 : w.heap.size + 2 ≤ (wr.iterAt (w.heap.size + 1) ⟨s.toArray⟩ (p + d.2)).heap.size := by rw [Lib.iterAt_size]; exact hsize
   clear hcell hfree hbel hsize
   generalize wr.iterAt (w.heap.size + 1) ⟨s.toArray⟩ (p + d.2) = W1 at hnx hcell2 hfree2 hit2 hbel2 hsize2
   have hip : W1.iterPos (w.heap.size + 1) = p + d.2 := by simp [World.iterPos, hit2]
   have hip0 : wr.iterPos (w.heap.size + 1) = p := by simp [World.iterPos, hit]
   obtain ⟨r, u⟩ := d
   simp only at hnx d1 d2 d3 d4 hit2 hip
   by_cases hup : 65 ≤ (s.getD p 0).toNat ∧ (s.getD p 0).toNat ≤ 90
   ·have hd := d3 (by omega)
    injection hd with hd1 hd2
    have hcp := hcell2 p hlt
    have hfp := hfree2 p hlt
    have hnew := sm_up hup
    have hcur : curL s p p = r := by unfold curL; rw [if_neg (Nat.lt_irrefl p), hd1]
    rw [hcur] at hcp
    rw [← hd1] at hup hnew
    have Hnew := Lib.hid hnew
    have Hd1 := Lib.hid hd1
    have Hd2 := Lib.hid hd2
    clear hnew hd1 hd2
    have g1 : (65 : Int) ≤ (r : Int) := by omega
    have g2 : (r : Int) ≤ 90 := by omega
    have g3 : (0 : Int) ≤ (p : Int) := by omega
    have g4 : (p : Int) < (s.length : Int) := by omega
    have F1 := Lib.hid hcell2
    have F2 := Lib.hid hfree2
    clear d3 d4 hup hcur hcell2 hfree2
    go_wp2
    go_roundw
    case rel =>
     have e1 := Hd1.out
     have e2 := Hd2.out
     have e3 := Hnew.out
     subst e2
     refine ⟨p + 1, d2, fun j hj => ?_, fun j hj => ?_, ?_, hbel2.setCell (Nat.le_refl _) _, by simpa using hsize2⟩
     ·by_cases hjp : j = p
      ·subst hjp
       rw [World.cell?_setCell_same _ _ _ hcp]
       unfold curL
       rw [if_pos (by omega), e3]
       congr 2
      ·rw [World.cell?_setCell_other _ _ _ _ (by intro h; injection h with h1 h2; omega), F1.out j hj]
       unfold curL
       by_cases h1 : j < p
       ·rw [if_pos h1, if_pos (by omega)]
       ·rw [if_neg h1, if_neg (by omega)]
     ·rw [World.frozen?_setCell]; exact F2.out j hj
     ·rw [Below.heap_setCell _ _ _ _ (by simp)]; exact hit2
    case measure =>
     have e : (W1.setCell ⟨w.heap.size, p, none⟩ (Value.int IntKind.u8 ((r : Int) + 32))).iterPos (w.heap.size + 1) = p + u := by
      simp only [World.iterPos]
      rw [Below.heap_setCell _ _ _ _ (by simp), hit2]
     rw [e, hip0]; omega
   ·have hne2 : (¬ (65 ≤ (r : Int))) ∨ (65 ≤ (r : Int) ∧ ¬ ((r : Int) ≤ 90)) := by
     rcases Nat.lt_or_ge (s.getD p 0).toNat 128 with hb | hb
     ·have hd := d3 hb
      injection hd with hd1 hd2
      rw [hd1]; omega
     ·have := (d4 hb).1; omega
    have hall : ∀ j, p ≤ j → j < p + u → ¬ (65 ≤ (s.getD j 0).toNat ∧ (s.getD j 0).toNat ≤ 90) := by
     rcases Nat.lt_or_ge (s.getD p 0).toNat 128 with hb | hb
     ·have hd := d3 hb
      injection hd with hd1 hd2
      intro j h1 h2
      have : j = p := by omega
      subst this
      exact hup
     ·intro j h1 h2
      have := (d4 hb).2 j h1 h2
      omega
    have fin : LowI w.heap.size s (p + u) w W1 := ⟨fun j hj => by rw [cur_step (Nat.le_add_right p u) hall]; exact hcell2 j hj, hfree2, hit2, hbel2, hsize2⟩
    clear d3 d4 hall hup hcell2 hfree2
    rcases hne2 with g1 | ⟨g1, g2⟩
    ·go_wp2
     go_roundw
     case rel => exact ⟨p + u, d2, fin⟩
     case measure => rw [hip, hip0]; omega
    ·go_wp2
     go_roundw
     case rel => exact ⟨p + u, d2, fin⟩
     case measure => rw [hip, hip0]; omega
  ·have hnx : ∀ ty, (Instr.next (.pointer (some ⟨w.heap.size + 1, 0, none⟩)) true ty).run Tryd.prog wr = _ := fun ty => Lib.run_next_end_at wr (w.heap.size + 1) ⟨s.toArray⟩ p ty hit (by rw [hsz]; exact hlt)
   have hpe : p = s.length := by omega
   have hcv2 : (convert 26 9 (.slice (some ⟨w.heap.size, 0, none⟩) s.length c)).run Tryd.prog wr = .ok (.string ⟨(lowS s).toArray⟩) wr := by
    have hlen : (lowS s).length = s.length := by simp [lowS]
    have h := run_convert_bytes_back (P := Tryd.prog) wr 26 9 5 ⟨w.heap.size, 0, none⟩ c (lowS s) Tryd.underlying26 Tryd.underlying5 Tryd.underlying9 (fun j hj => by
     have hj' : j < s.length := by omega
     have e : (⟨w.heap.size, 0, none⟩ : Addr).add j = ⟨w.heap.size, j, none⟩ := by simp [Addr.add]; omega
     rw [e, hcell j hj']
     have e2 : (lowS s)[j] = sm (s.getD j 0) := by simp [lowS, hj']
     rw [e2]
     unfold curL
     rw [if_pos (by omega)])
    rw [hlen] at h
    exact h
   clear hcell hfree
   go_wp2
   go_ret
   exact ⟨rfl, hbel⟩
def lowK {R : Type} (args : List V) (k : V → Tree R) : Tree R := match args with
 | [.str s] => .ite (decide (s.length ≤ 1000000)) (k (.str (lowS s))) .fail
 | _ => .fail
theorem low_ok {R : Type} : ∀ args (k : V → Tree R) res, (lowK args k).run = some res → ∃ r, (k r).run = some res ∧ r.plain = true ∧ (∀ l k, ex r ≠ .fresh l k) ∧ CallsV Tryd.prog 35 args r := by
 intro args k res h
 unfold lowK at h
 split at h
 ·rename_i s
  rcases Tree.run_ite h with ⟨hs, h⟩ | ⟨_, h⟩
  ·refine ⟨_, h, rfl, (fun l k h => by cases h), CallsK.toV (fun w B cargs _ hgl hlen hrel => ?_) (hasBody Tryd.func35 (by decide +kernel) (by kernel_rfl))⟩
   obtain ⟨a, rfl, h2⟩ := rel_one hlen hrel
   have h2 := Rel.ofC h2
   subst h2
   exact (lower_walk s (of_decide_eq_true hs) w).mono fun e w' ⟨he, hw⟩ => ⟨_, he, hw, .c _ _⟩
  ·cases h
 ·cases h
end Go.Proofs.YtfaocnboildjbaaDoor
namespace Go.Proofs
open Go.Shelf
def Tryd.lays160_ren : Go.Shelf.Ren := ⟨fun | 160 => 48 | 232 => 55 | 231 => 54 | 227 => 56 | 234 => 58 | 233 => 57 | 236 => 60 | 235 => 59 | 228 => 65 | 271 => 68 | 151 => 67 | 197 => 66 | 120 => 73 | 152 => 72 | 260 => 71 | 137 => 74 | 119 => 75 | 224 => 63 | 225 => 62 | 217 => 61 | 266 => 69 | n => n, fun | 9 => 9 | 4 => 4 | 3 => 3 | 5 => 5 | 117 => 88 | 116 => 87 | 0 => 0 | 124 => 91 | 21 => 21 | 105 => 93 | 46 => 74 | 119 => 100 | 139 => 103 | 138 => 102 | n => n, fun | 3 => 1 | 4 => 2 | n => n⟩
theorem Tryd.lays160 : Go.Proofs.Lays.n160 Tryd.prog Tryd.lays160_ren := {
 mixed := by kernel_rfl
 f119 := Tryd.func75.trans (congrArg some (by kernel_rfl))
 f120 := Tryd.func73.trans (congrArg some (by kernel_rfl))
 f137 := Tryd.func74.trans (congrArg some (by kernel_rfl))
 f151 := Tryd.func67.trans (congrArg some (by kernel_rfl))
 f152 := Tryd.func72.trans (congrArg some (by kernel_rfl))
 f160 := Tryd.func48.trans (congrArg some (by kernel_rfl))
 f197 := Tryd.func66.trans (congrArg some (by kernel_rfl))
 f217 := Tryd.func61.trans (congrArg some (by kernel_rfl))
 f224 := Tryd.func63.trans (congrArg some (by kernel_rfl))
 f225 := Tryd.func62.trans (congrArg some (by kernel_rfl))
 f227 := Tryd.func56.trans (congrArg some (by kernel_rfl))
 f228 := Tryd.func65.trans (congrArg some (by kernel_rfl))
 f231 := Tryd.func54.trans (congrArg some (by kernel_rfl))
 f232 := Tryd.func55.trans (congrArg some (by kernel_rfl))
 f233 := Tryd.func57.trans (congrArg some (by kernel_rfl))
 f234 := Tryd.func58.trans (congrArg some (by kernel_rfl))
 f235 := Tryd.func59.trans (congrArg some (by kernel_rfl))
 f236 := Tryd.func60.trans (congrArg some (by kernel_rfl))
 f260 := Tryd.func71.trans (congrArg some (by kernel_rfl))
 f266 := Tryd.func69.trans (congrArg some (by kernel_rfl))
 f271 := Tryd.func68.trans (congrArg some (by kernel_rfl))
 t0 := Tryd.underlying0
 a0 := Tryd.isAgg0
 z0 := Tryd.sizeOf0
 v0 := Tryd.zeroValue0
 t3 := Tryd.underlying3
 a3 := Tryd.isAgg3
 z3 := Tryd.sizeOf3
 v3 := Tryd.zeroValue3
 t4 := Tryd.underlying4
 a4 := Tryd.isAgg4
 z4 := Tryd.sizeOf4
 v4 := Tryd.zeroValue4
 t5 := Tryd.underlying5
 a5 := Tryd.isAgg5
 z5 := Tryd.sizeOf5
 v5 := Tryd.zeroValue5
 t9 := Tryd.underlying9
 a9 := Tryd.isAgg9
 z9 := Tryd.sizeOf9
 v9 := Tryd.zeroValue9
 t21 := Tryd.underlying21
 a21 := Tryd.isAgg21
 z21 := Tryd.sizeOf21
 v21 := Tryd.zeroValue21
 t46 := Tryd.underlying74
 a46 := Tryd.isAgg74
 z46 := Tryd.sizeOf74
 v46 := Tryd.zeroValue74
 t105 := Tryd.underlying93
 a105 := Tryd.isAgg93
 z105 := Tryd.sizeOf93
 v105 := Tryd.zeroValue93
 t116 := Tryd.underlying87
 a116 := Tryd.isAgg87
 z116 := Tryd.sizeOf87
 t117 := Tryd.underlying88
 a117 := Tryd.isAgg88
 z117 := Tryd.sizeOf88
 v117 := Tryd.zeroValue88
 t119 := Tryd.underlying100
 a119 := Tryd.isAgg100
 z119 := Tryd.sizeOf100
 t124 := Tryd.underlying91
 a124 := Tryd.isAgg91
 z124 := Tryd.sizeOf91
 v124 := Tryd.zeroValue91
 t138 := Tryd.underlying102
 a138 := Tryd.isAgg102
 z138 := Tryd.sizeOf102
 v138 := Tryd.zeroValue102
 t139 := Tryd.underlying103
 a139 := Tryd.isAgg103
 z139 := Tryd.sizeOf103
 v139 := Tryd.zeroValue103
 g3 := by kernel_rfl
 g4 := by kernel_rfl }
end Go.Proofs
namespace Go.Proofs.YtfaocnboildjbaaDoor
set_option maxRecDepth 100000
open Go.RowKit Go.Sort Go.Lib Go.Shelf
set_option linter.unusedVariables false
set_option linter.unusedSimpArgs false
def trK {R : Type} (args : List V) (k : V → Tree R) : Tree R := match args with
 | [.str s, .c (.string c)] => if c.data.toList.all (fun b => decide (b.toNat < 128)) = true ∧ c.data.toList.length < 4294967281 then .ite (decide (s.length ≤ 281474976710656)) (k (.str (Lib.trimS s c.data.toList))) .fail else .fail
 | [.str s, .str c] => if c.all (fun b => decide (b.toNat < 128)) = true ∧ c.length < 4294967281 then .ite (decide (s.length ≤ 281474976710656)) (k (.str (Lib.trimS s c))) .fail else .fail
 | _ => .fail
theorem tr_ok {R : Type} : ∀ args (k : V → Tree R) res, (trK args k).run = some res → ∃ r, (k r).run = some res ∧ r.plain = true ∧ (∀ l k, ex r ≠ .fresh l k) ∧ CallsV Tryd.prog 48 args r := by
 intro args k res h
 have hb : ∃ fn, Tryd.prog.funcs[48]? = some fn ∧ fn.name ≠ "runtime.NumGoroutine" ∧ fn.body ≠ none := hasBody Tryd.func48 (by decide +kernel) (by kernel_rfl)
 have key : ∀ (s c : List UInt8) (y : V), ex y = .c (.string ⟨c.toArray⟩) → c.all (fun b => decide (b.toNat < 128)) = true → c.length < 4294967281 → s.length ≤ 281474976710656 → CallsV Tryd.prog 48 [.str s, y] (.str (Lib.trimS s c)) := fun s c y hy h1 h2 h3 => CallsK.toV (fun w B cargs _ hgl hlen hrel => by
  obtain ⟨a, b, rfl, r1, r2⟩ := rel_two hlen hrel
  rw [hy] at r2
  have r1 := Rel.ofC r1
  have r2 := Rel.ofC r2
  subst r1 r2
  have hsz : (ByteArray.mk s.toArray).size = s.length := by show s.toArray.size = _; simp
  have hcz : (ByteArray.mk c.toArray).size = c.length := by show c.toArray.size = _; simp
  have hl : (ByteArray.mk s.toArray).data.toList = s := by simp
  have hc : (ByteArray.mk c.toArray).data.toList = c := by simp
  have := Any.strings_Trim_laid Tryd.lays160 (by kernel_rfl) ⟨s.toArray⟩ ⟨c.toArray⟩ w (by rw [hsz]; omega) (by rw [hcz]; omega) (by rw [hc]; exact ascii_of_all h1)
  rw [hl, hc] at this
  exact this.mono fun e w' ⟨he, hw⟩ => ⟨_, he, hw, .c _ _⟩) hb
 unfold trK at h
 split at h
 ·rename_i s c
  split at h
  ·rename_i hc
   rcases Tree.run_ite h with ⟨hs, h⟩ | ⟨_, h⟩
   ·exact ⟨_, h, rfl, (fun l k h => by cases h), key s c.data.toList _ (by simp [ex, ex0]) hc.1 hc.2 (of_decide_eq_true hs)⟩
   ·cases h
  ·cases h
 ·rename_i s c
  split at h
  ·rename_i hc
   rcases Tree.run_ite h with ⟨hs, h⟩ | ⟨_, h⟩
   ·exact ⟨_, h, rfl, (fun l k h => by cases h), key s c _ rfl hc.1 hc.2 (of_decide_eq_true hs)⟩
   ·cases h
  ·cases h
 ·cases h
end Go.Proofs.YtfaocnboildjbaaDoor
namespace Go.Proofs.YtfaocnboildjbaaDoor
set_option maxRecDepth 100000
def leb : Nat → Nat → List UInt8
 | 0, _ => []
 | w + 1, n => UInt8.ofNat n :: leb w (n / 256)
def laid (w n : Nat) (little : Bool) : List UInt8 := if little then leb w n else (leb w n).reverse
def nle : List UInt8 → Nat
 | [] => 0
 | b :: r => b.toNat + 256 * nle r
def num (bs : List UInt8) (little : Bool) : Nat := if little then nle bs else nle bs.reverse
end Go.Proofs.YtfaocnboildjbaaDoor
namespace Go.Proofs.YtfaocnboildjbaaDoor
set_option maxRecDepth 100000
open Go.RowKit
set_option linter.unusedVariables false
def InW (n : Int) : Prop := 1 ≤ n ∧ n ≤ 8
instance (n : Int) : Decidable (InW n) := by unfold InW; infer_instance
def RetBE (w : World) (bs : List UInt8) (err : Int) (e : Ending) (w' : World) : Prop :=
 ∃ A n c, e = .returned (.tuple #[.slice A n c, .int .i64 err]) ∧ n ≤ c ∧ c ≤ maxLen ∧ RB w' A n bs ∧ Below w.heap.size w w'
theorem RetBE.of {w w' : World} {v : Value} {n : Nat} {bs : List UInt8} {base : Nat} {err : Int} (ho : OB w' base v n bs) (hb : Below w.heap.size w w') : RetBE w bs err (.returned (.tuple #[v, .int .i64 err])) w' := by
 obtain ⟨A, c, rfl, h1, h2, h3⟩ := ho.shape
 exact ⟨A, n, c, rfl, h1, h2, h3, hb⟩
theorem RetBE.nil (w : World) (err : Int) : RetBE w [] err (.returned (.tuple #[.slice none 0 0, .int .i64 err])) w :=
 ⟨none, 0, 0, rfl, Nat.le_refl _, by simp [maxLen], RB.nil _ _, Below.refl _ _⟩
def hv (c : UInt8) : Nat := if 48 ≤ c.toNat ∧ c.toNat ≤ 57 then c.toNat - 48 else if 65 ≤ c.toNat ∧ c.toNat ≤ 70 then c.toNat - 55 else if 97 ≤ c.toNat ∧ c.toNat ≤ 102 then c.toNat - 87 else 16
theorem hv_le (c : UInt8) : hv c ≤ 16 := by unfold hv; split <;> (try split) <;> (try split) <;> omega
theorem hv_cases (c : UInt8) : (c.toNat < 48 ∧ hv c = 16) ∨ (48 ≤ c.toNat ∧ c.toNat ≤ 57 ∧ hv c = c.toNat - 48) ∨ (57 < c.toNat ∧ c.toNat < 65 ∧ hv c = 16) ∨ (65 ≤ c.toNat ∧ c.toNat ≤ 70 ∧ hv c = c.toNat - 55) ∨
  (70 < c.toNat ∧ c.toNat < 97 ∧ hv c = 16) ∨ (97 ≤ c.toNat ∧ c.toNat ≤ 102 ∧ hv c = c.toNat - 87) ∨ (102 < c.toNat ∧ hv c = 16) := by
 unfold hv; split <;> (try split) <;> (try split) <;> omega
def unhexL : List UInt8 → Option (List UInt8)
 | [] => some []
 | [_] => none
 | a :: b :: r => if hv a < 16 ∧ hv b < 16 then (unhexL r).map (UInt8.ofNat (16 * hv a + hv b) :: ·) else none
set_option maxHeartbeats 1000000 in
theorem octs_worth (c : UInt8) (w : World) : Calls Tryd.prog 34 #[.int .u8 (c.toNat : Int)] w fun e w' => e = .returned (.int .u8 (hv c : Nat)) ∧ w = w' := by
 have hc := c.toNat_lt
 have HV := hv_cases c
 obtain ⟨v, hv'⟩ : ∃ v, v = hv c := ⟨_, rfl⟩
 obtain ⟨x, hx'⟩ : ∃ x, x = c.toNat := ⟨_, rfl⟩
 rw [← hv', ← hx'] at HV
 rw [← hx'] at hc
 rw [← hv', ← hx']
 clear hv' hx'
 rcases HV with ⟨h1, h2⟩ | ⟨h0, h1, h2⟩ | ⟨h0, h1, h2⟩ | ⟨h0, h1, h2⟩ | ⟨h0, h1, h2⟩ | ⟨h0, h1, h2⟩ | ⟨h1, h2⟩
 all_goals
  have H2 := Lib.hid h2; clear h2
  go_enter Tryd.func34, Tryd.ntmps34
  go_wp2
  go_ret
  exact ⟨ret_int (by rw [H2.out]; omega), rfl⟩
set_option maxHeartbeats 1000000 in
theorem ref_digit (c : UInt8) (w : World) : Calls Tryd.prog 36 #[.int .u8 (c.toNat : Int)] w fun e w' => e = .returned (.int .u8 (hv c : Nat)) ∧ w = w' := by
 have hc := c.toNat_lt
 have HV := hv_cases c
 obtain ⟨v, hv'⟩ : ∃ v, v = hv c := ⟨_, rfl⟩
 obtain ⟨x, hx'⟩ : ∃ x, x = c.toNat := ⟨_, rfl⟩
 rw [← hv', ← hx'] at HV
 rw [← hx'] at hc
 rw [← hv', ← hx']
 clear hv' hx'
 rcases HV with ⟨h1, h2⟩ | ⟨h0, h1, h2⟩ | ⟨h0, h1, h2⟩ | ⟨h0, h1, h2⟩ | ⟨h0, h1, h2⟩ | ⟨h0, h1, h2⟩ | ⟨h1, h2⟩
 all_goals
  have H2 := Lib.hid h2; clear h2
  go_enter Tryd.func36, Tryd.ntmps36
  go_wp2
  go_ret
  exact ⟨ret_int (by rw [H2.out]; omega), rfl⟩
theorem unhexL_odd : ∀ l : List UInt8, l.length % 2 = 1 → unhexL l = none
 | [], h => by simp at h
 | [_], _ => rfl
 | a :: b :: r, h => by
  have := unhexL_odd r (by simp at h; omega)
  simp [unhexL, this]
theorem drop_two {l : List UInt8} {i : Nat} {a b : UInt8} (ha : l[i]? = some a) (hb : l[i + 1]? = some b) : l.drop i = a :: b :: l.drop (i + 2) := by
 have h1 := (List.getElem?_eq_some_iff.1 ha).1
 have h2 := (List.getElem?_eq_some_iff.1 hb).1
 rw [List.drop_eq_getElem_cons h1, List.drop_eq_getElem_cons h2, (List.getElem?_eq_some_iff.1 ha).2, (List.getElem?_eq_some_iff.1 hb).2]
def UnhexAt (l : List UInt8) (i : Nat) (acc : List UInt8) : Prop := unhexL l = (unhexL (l.drop i)).map (acc ++ ·)
theorem UnhexAt.start (l : List UInt8) : UnhexAt l 0 [] := by simp [UnhexAt]
theorem UnhexAt.step {l acc : List UInt8} {i : Nat} {a b : UInt8} (h : UnhexAt l i acc) (ha : l[i]? = some a) (hb : l[i + 1]? = some b) (h1 : hv a < 16) (h2 : hv b < 16) :
  UnhexAt l (i + 2) (acc ++ [UInt8.ofNat (16 * hv a + hv b)]) := by
 unfold UnhexAt at h ⊢
 rw [h, drop_two ha hb, unhexL, if_pos ⟨h1, h2⟩, Option.map_map]
 congr 1
 funext r
 simp
theorem UnhexAt.bad {l acc : List UInt8} {i : Nat} {a b : UInt8} (h : UnhexAt l i acc) (ha : l[i]? = some a) (hb : l[i + 1]? = some b) (h1 : ¬ (hv a < 16 ∧ hv b < 16)) : unhexL l = none := by
 rw [h, drop_two ha hb, unhexL, if_neg h1]; rfl
theorem UnhexAt.last {l acc : List UInt8} {i : Nat} (h : UnhexAt l i acc) (hi : l.length ≤ i) : unhexL l = some acc := by
 rw [h, List.drop_of_length_le hi]; simp [unhexL]
def UnhexPost (l : List UInt8) (w : World) (e : Ending) (w' : World) : Prop :=
 Below w.heap.size w w' ∧ ((unhexL l = none ∧ e = .returned (.tuple #[.slice none 0 0, .int .i64 3])) ∨
  ∃ bs v, unhexL l = some bs ∧ e = .returned (.tuple #[v, .int .i64 0]) ∧ OB w' w.heap.size v bs.length bs)
theorem UnhexPost.no {l : List UInt8} {w w' : World} (h : unhexL l = none) (hb : Below w.heap.size w w') : UnhexPost l w (.returned (.tuple #[.slice none 0 0, .int .i64 3])) w' := ⟨hb, .inl ⟨h, rfl⟩⟩
theorem UnhexPost.yes {l bs : List UInt8} {v : Value} {n : Nat} {w w' : World} (h : unhexL l = some bs) (ho : OB w' w.heap.size v n bs) (hb : Below w.heap.size w w') :
  UnhexPost l w (.returned (.tuple #[v, .int .i64 0])) w' := ⟨hb, .inr ⟨bs, v, h, rfl, by rw [ho.len]; exact ho⟩⟩
theorem str_at {s : ByteArray} {k : Nat} {b : UInt8} (h : s.data.toList[k]? = some b) (w : World) :
  (Instr.index 9 (.string s) (.int .i64 (k : Int))).run Tryd.prog w = .ok (.int .u8 (b.toNat : Int)) w := by
 have hk : k < s.size := by
  have := (List.getElem?_eq_some_iff.1 h).1
  simpa using this
 rw [run_index_string (P := Tryd.prog) (w := w) _ _ _ _ Tryd.underlying9, dif_pos ⟨by omega, by omega⟩]
 have : s[k] = b := by
  have h2 := (List.getElem?_eq_some_iff.1 h).2
  rw [← h2]; rfl
 simp [this]
theorem str_at1 {s : ByteArray} {k : Nat} {b : UInt8} (h : s.data.toList[k + 1]? = some b) (w : World) :
  (Instr.index 9 (.string s) (.int .i64 ((k : Int) + 1))).run Tryd.prog w = .ok (.int .u8 (b.toNat : Int)) w := by
 have := str_at h w
 rwa [show (((k + 1 : Nat)) : Int) = (k : Int) + 1 by omega] at this
theorem str_some {s : ByteArray} {k : Nat} (h : k < s.size) : ∃ b : UInt8, s.data.toList[k]? = some b :=
 ⟨s.data.toList[k]'(by simpa using h), List.getElem?_eq_getElem _⟩
theorem u8_16 (a b : Nat) (ha : a < 16) (hb : b < 16) : (16 * (a : Int) + (b : Int)) = ((UInt8.ofNat (16 * a + b)).toNat : Int) := by
 rw [UInt8.toNat_ofNat']; omega
set_option maxHeartbeats 1000000 in
theorem ref_unhex (s : ByteArray) (w : World) (hs : s.size ≤ 1000000) :
  Calls Tryd.prog 23 #[.string s] w (UnhexPost s.data.toList w) := by
 have hl : s.data.toList.length = s.size := by rw [Array.length_toList]; rfl
 have Hl := Lib.hid hl; clear hl
 by_cases hodd : s.size % 2 = 1
 ·have Hno := Lib.hid (unhexL_odd s.data.toList (by rw [Hl.out]; exact hodd))
  have h1 : ((s.size : Int) % 2 != 0) = true := by simp; omega
  clear hodd
  go_enter Tryd.func23, Tryd.ntmps23
  go_wp2
  go_ret2
  exact UnhexPost.no Hno.out (Below.refl _ _)
 ·have h1 : ((s.size : Int) % 2 != 0) = false := by simp; omega
  have Hev := Lib.hid hodd; clear hodd
  go_enter Tryd.func23, Tryd.ntmps23
  go_wp2
  go_loopw [4, 5] (fun v i wr => ∃ (k : Nat) (acc : List UInt8), k ≤ s.size ∧ 2 * acc.length = k ∧ i = .int .i64 k ∧ OB wr w.heap.size v acc.length acc ∧ UnhexAt s.data.toList k acc ∧ Below w.heap.size w wr) (fun _ i _ => s.size - (intOf i).toNat)
  case atStart => exact ⟨0, [], Nat.zero_le _, rfl, rfl, OB.nil _ _, UnhexAt.start _, Below.refl _ _⟩
  case round =>
   obtain ⟨k, acc, hk, hka, rfl, hown, hat, hbel⟩ := hrel
   have Hown := Lib.hid hown; clear hown
   have Hka := Lib.hid hka; clear hka
   have Hat := Lib.hid hat; clear hat
   by_cases hlt : k < s.size
   ·have hlt1 : k + 1 < s.size := by have := Hev.out; have := Hka.out; omega
    obtain ⟨a, ha⟩ := str_some hlt
    obtain ⟨b, hb⟩ := str_some hlt1
    have hia := str_at ha
    have hib := str_at1 hb
    have Ha := Lib.hid ha; clear ha
    have Hb := Lib.hid hb; clear hb
    have ga := hv_le a
    have gb := hv_le b
    by_cases hgood : hv a < 16 ∧ hv b < 16
    ·obtain ⟨hga, hgb⟩ := hgood
     have Hst := Lib.hid (Hat.out.step Ha.out Hb.out hga hgb)
     have hsz := hbel.size
     go_wp2
     go_quiet ((go_at_call 36; exact quiet_left (ref_digit _ _)))
     have hz1 := u8_16 (hv a) (hv b) hga hgb
     obtain ⟨z, hz⟩ : ∃ z, z = UInt8.ofNat (16 * hv a + hv b) := ⟨_, rfl⟩
     rw [← hz] at hz1 Hst
     clear hz
     have h3 : acc.length + 1 ≤ 140737488355328 := by have := Hka.out; omega
     clear hia hib ga gb
     go_wp2_with (at_builtin; refine wpList_appb _ rfl (.tmp 33) (.tmp 38) rfl w.heap.size _ _ _ rfl ((Hown.out.drewN _).alloc _) _ _ _ _ rfl (RB.new1 _ z _ (by simp)) h3 (by simp; omega) ?_; intro v' w1 hown1 hg1 hat1; have Hown1 := Lib.hid hown1; clear hown1)
     go_roundw
     case rel =>
      refine ⟨k + 2, acc ++ [z], by omega, by rw [List.length_append, List.length_singleton]; have := Hka.out; omega, by go_num, by rw [List.length_append, List.length_singleton]; exact Hown1.out, Hst.out, ?_⟩
      exact ((below_drewN hbel _).alloc (by simp; omega) _).grown hg1 (by simp; omega) fun j hj => (Hown.out.lt j hj).1
     case measure => simp [intOf]; omega
    ·have Hbad := Lib.hid (Hat.out.bad Ha.out Hb.out hgood)
     by_cases hga : hv a < 16
     ·have hgb : 15 < hv b := by omega
      clear hgood
      go_wp2
      go_quiet ((go_at_call 36; exact quiet_left (ref_digit _ _)))
      go_wp2
      go_ret2
      exact UnhexPost.no Hbad.out (below_drewN hbel _)
     ·have hga' : 15 < hv a := by omega
      clear hgood
      go_wp2
      go_quiet ((go_at_call 36; exact quiet_left (ref_digit _ _)))
      go_wp2
      go_ret2
      exact UnhexPost.no Hbad.out (below_drewN hbel _)
   ·have Hlast := Lib.hid (Hat.out.last (by rw [Hl.out]; omega))
    go_wp2
    go_ret2
    exact UnhexPost.yes Hlast.out Hown.out hbel
theorem u8_shl' (a b : Nat) (ha : a < 16) (hb : b < 16) : bits .or .u8 ((a : Int) * 16) (b : Int) = ((UInt8.ofNat (16 * a + b)).toNat : Int) := by
 rw [show (a : Int) * 16 = ((a * 16 : Nat) : Int) by omega, u8_or_nat _ _ (by omega) (by omega), nat_join 4 _ _ (by omega) hb, UInt8.toNat_ofNat']
 omega
theorem u8_shl (a b : Nat) (ha : a < 16) (hb : b < 16) : bits .or .u8 (IntKind.u8.wrap ((a : Int) * 16)) (b : Int) = ((UInt8.ofNat (16 * a + b)).toNat : Int) := by
 rw [IntKind.wrap_u8, Int.emod_eq_of_lt (by omega) (by omega), show (a : Int) * 16 = ((a * 16 : Nat) : Int) by omega, u8_or_nat _ _ (by omega) (by omega),
  nat_join 4 _ _ (by omega) hb, UInt8.toNat_ofNat']
 omega
set_option maxHeartbeats 2000000 in
set_option maxRecDepth 100000 in
theorem octs_unhex (s : ByteArray) (w : World) (hs : s.size ≤ 1000000) :
  Calls Tryd.prog 21 #[.string s] w (UnhexPost s.data.toList w) := by
 have hl : s.data.toList.length = s.size := by rw [Array.length_toList]; rfl
 have Hl := Lib.hid hl; clear hl
 by_cases hodd : s.size % 2 = 1
 ·have Hno := Lib.hid (unhexL_odd s.data.toList (by rw [Hl.out]; exact hodd))
  have h1 : ((s.size : Int) % 2 != 0) = true := by simp; omega
  clear hodd
  go_enter Tryd.func21, Tryd.ntmps21
  go_wp2
  go_step3
  go_wp2
  rw [Exit.noGoto_ret]
  go_ret2
  exact UnhexPost.no Hno.out (Below.refl _ _)
 ·have h1 : ((s.size : Int) % 2 != 0) = false := by simp; omega
  have Hev := Lib.hid hodd; clear hodd
  have hmk := mk_bytes 0 ((s.size : Int) / 2) (by omega) (by omega) (by omega)
  have hown0 := OB.made w w.heap.size 0 (s.size / 2) (by omega) (by simp only [maxLen]; omega) (Nat.le_refl _)
  have hbel0 := (Below.refl w.heap.size w).alloc (Nat.le_refl _) (.cells (madeCells #[.int .u8 0] (s.size / 2)) 5)
  go_enter Tryd.func21, Tryd.ntmps21
  go_wp2
  refine wp_scope_jumps 0 (fun a' wr => ∃ (k : Nat) (acc : List UInt8) (v u6 u7 u8 u9 u10 u11 u12 u13 u14 u15 u16 u17 u18 u19 u20 u21 u22 u23 u24 u25 u26 u27 u28 u29 u30 u31 u32 u33 u34 u35 u36 u37 u38 u39 u40 u41 u42 u43 u44 : Value), a' = { tmps := #[.string s, undef, .slice none 0 0, .int .i64 0, v, .int .i64 (k : Int), u6, u7, u8, u9, u10, u11, u12, u13, u14, u15, u16, u17, u18, u19, u20, u21, u22, u23, u24, u25, u26, u27, u28, u29, u30, u31, u32, u33, u34, u35, u36, u37, u38, u39, u40, u41, u42, u43, u44], defers := [] } ∧
   k ≤ s.size ∧ 2 * acc.length = k ∧ OB wr w.heap.size v acc.length acc ∧ UnhexAt s.data.toList k acc ∧ Below w.heap.size w wr) (fun a' _ => s.size - (intOf (a'.tmps.getD 5 undef)).toNat) rfl ?_ ?_
  ·have Hown0 := Lib.hid hown0
   have Hbel0 := Lib.hid hbel0
   clear hown0 hbel0
   by_cases hlt : 0 < s.size
   ·have hlt1 : 0 + 1 < s.size := by have := Hev.out;  omega
    have hne : ((0 : Int) == (s.size : Int)) = false := by simp; omega
    obtain ⟨a, ha⟩ := str_some hlt
    obtain ⟨b, hb⟩ := str_some hlt1
    have hia : ∀ w, (Instr.index 9 (.string s) (.int .i64 0)).run Tryd.prog w = .ok (.int .u8 (a.toNat : Int)) w := str_at ha
    have hib : ∀ w, (Instr.index 9 (.string s) (.int .i64 1)).run Tryd.prog w = .ok (.int .u8 (b.toNat : Int)) w := str_at1 hb
    have Ha := Lib.hid ha; clear ha
    have Hb := Lib.hid hb; clear hb
    have ga := hv_le a
    have gb := hv_le b
    by_cases hgood : hv a < 16 ∧ hv b < 16
    ·obtain ⟨hga, hgb⟩ := hgood
     have Hst := Lib.hid ((UnhexAt.start s.data.toList).step Ha.out Hb.out hga hgb)
     skip
     have hz1 := u8_shl (hv a) (hv b) hga hgb
     have hz2 := u8_shl' (hv a) (hv b) hga hgb
     have e1 : ((hv a : Int) == 16) = false := by simp; omega
     have e2 : ((hv b : Int) == 16) = false := by simp; omega
     obtain ⟨z, hz⟩ : ∃ z, z = UInt8.ofNat (16 * hv a + hv b) := ⟨_, rfl⟩
     rw [← hz] at hz1 hz2 Hst
     clear hz
     go_wp2
     go_step3
     go_wp2
     go_quiet ((go_at_call 34; exact quiet_left (octs_worth _ _)))
     clear hia hib ga gb
     go_wp2_with (at_builtin; refine wpList_appb _ rfl (.tmp 36) (.tmp 41) rfl w.heap.size _ _ _ rfl ((Hown0.out.drewN _).alloc _) _ _ _ _ rfl (RB.new1 _ z _ (by simp)) (by omega) (by simp; omega) ?_; intro v' w1 hown1 hg1 hat1; have Hown1 := Lib.hid hown1; clear hown1)
     go_step3
     refine ⟨rfl, 2, [z], v', _, _, _, _, _, _, _, _, _, _, _, _, _, _, _, _, _, _, _, _, _, _, _, _, _, _, _, _, _, _, _, _, _, _, _, _, _, _, _, rfl, by omega, rfl, Hown1.out, Hst.out, ?_⟩
     exact ((below_drewN Hbel0.out _).alloc (by simp) _).grown hg1 (by simp; omega) fun j hj => (Hown0.out.lt j hj).1
    ·have Hbad := Lib.hid ((UnhexAt.start s.data.toList).bad Ha.out Hb.out hgood)
     by_cases hga : hv a < 16
     ·have hgb : hv b = 16 := by omega
      have e1 : ((hv a : Int) == 16) = false := by simp; omega
      have e2 : ((hv b : Int) == 16) = true := by simp; omega
      clear hgood hgb
      go_wp2
      go_step3
      go_wp2
      go_quiet ((go_at_call 34; exact quiet_left (octs_worth _ _)))
      go_wp2
      simp only [Exit.jump]
      go_ret2
      exact UnhexPost.no Hbad.out (below_drewN Hbel0.out _)
     ·have e1 : ((hv a : Int) == 16) = true := by simp; omega
      clear hgood
      go_wp2
      go_step3
      go_wp2
      go_quiet ((go_at_call 34; exact quiet_left (octs_worth _ _)))
      go_wp2
      simp only [Exit.jump]
      go_ret2
      exact UnhexPost.no Hbad.out (below_drewN Hbel0.out _)
   ·have hne : ((0 : Int) == (s.size : Int)) = true := by simp; omega
    have Hlast := Lib.hid ((UnhexAt.start s.data.toList).last (by rw [Hl.out]; omega))
    go_wp2
    go_step3
    go_wp2
    simp only [Exit.jump]
    go_ret2
    exact UnhexPost.yes Hlast.out Hown0.out Hbel0.out
  ·rintro a' wr ⟨k, acc, v, u6, u7, u8, u9, u10, u11, u12, u13, u14, u15, u16, u17, u18, u19, u20, u21, u22, u23, u24, u25, u26, u27, u28, u29, u30, u31, u32, u33, u34, u35, u36, u37, u38, u39, u40, u41, u42, u43, u44, rfl, hk, hka, hown, hat, hbel⟩
   have Hown := Lib.hid hown; clear hown
   have Hka := Lib.hid hka; clear hka
   have Hat := Lib.hid hat; clear hat
   clear hmk hown0 hbel0
   by_cases hlt : k < s.size
   ·have hlt1 : k + 1 < s.size := by have := Hev.out; have := Hka.out; omega
    have hne : ((k : Int) == (s.size : Int)) = false := by simp; omega
    obtain ⟨a, ha⟩ := str_some hlt
    obtain ⟨b, hb⟩ := str_some hlt1
    have hia  := str_at ha
    have hib  := str_at1 hb
    have Ha := Lib.hid ha; clear ha
    have Hb := Lib.hid hb; clear hb
    have ga := hv_le a
    have gb := hv_le b
    by_cases hgood : hv a < 16 ∧ hv b < 16
    ·obtain ⟨hga, hgb⟩ := hgood
     have Hst := Lib.hid (Hat.out.step Ha.out Hb.out hga hgb)
     have hsz := hbel.size
     have h3 : acc.length + 1 ≤ 140737488355328 := by have := Hka.out; omega
     have hz1 := u8_shl (hv a) (hv b) hga hgb
     have hz2 := u8_shl' (hv a) (hv b) hga hgb
     have e1 : ((hv a : Int) == 16) = false := by simp; omega
     have e2 : ((hv b : Int) == 16) = false := by simp; omega
     obtain ⟨z, hz⟩ : ∃ z, z = UInt8.ofNat (16 * hv a + hv b) := ⟨_, rfl⟩
     rw [← hz] at hz1 hz2 Hst
     clear hz
     go_wp2
     go_quiet ((go_at_call 34; exact quiet_left (octs_worth _ _)))
     clear hia hib ga gb
     go_wp2_with (at_builtin; refine wpList_appb _ rfl (.tmp 36) (.tmp 41) rfl w.heap.size _ _ _ rfl ((Hown.out.drewN _).alloc _) _ _ _ _ rfl (RB.new1 _ z _ (by simp)) h3 (by simp; omega) ?_; intro v' w1 hown1 hg1 hat1; have Hown1 := Lib.hid hown1; clear hown1)
     go_step3
     refine ⟨rfl, ⟨k + 2, acc ++ [z], v', _, _, _, _, _, _, _, _, _, _, _, _, _, _, _, _, _, _, _, _, _, _, _, _, _, _, _, _, _, _, _, _, _, _, _, _, _, _, _, rfl, by omega, by rw [List.length_append, List.length_singleton]; have := Hka.out; omega, by rw [List.length_append, List.length_singleton]; exact Hown1.out, Hst.out, ?_⟩, by simp [intOf]; omega⟩
     exact ((below_drewN hbel _).alloc (by simp; omega) _).grown hg1 (by simp; omega) fun j hj => (Hown.out.lt j hj).1
    ·have Hbad := Lib.hid (Hat.out.bad Ha.out Hb.out hgood)
     by_cases hga : hv a < 16
     ·have hgb : hv b = 16 := by omega
      have e1 : ((hv a : Int) == 16) = false := by simp; omega
      have e2 : ((hv b : Int) == 16) = true := by simp; omega
      clear hgood hgb
      go_wp2
      go_quiet ((go_at_call 34; exact quiet_left (octs_worth _ _)))
      go_wp2
      simp only [Exit.jump]
      go_ret2
      exact UnhexPost.no Hbad.out (below_drewN hbel _)
     ·have e1 : ((hv a : Int) == 16) = true := by simp; omega
      clear hgood
      go_wp2
      go_quiet ((go_at_call 34; exact quiet_left (octs_worth _ _)))
      go_wp2
      simp only [Exit.jump]
      go_ret2
      exact UnhexPost.no Hbad.out (below_drewN hbel _)
   ·have hne : ((k : Int) == (s.size : Int)) = true := by simp; omega
    have Hlast := Lib.hid (Hat.out.last (by rw [Hl.out]; omega))
    go_wp2
    simp only [Exit.jump]
    go_ret2
    exact UnhexPost.yes Hlast.out Hown.out hbel
def unhexErr (l : List UInt8) : Int := if (unhexL l).isSome then 0 else 3
theorem UnhexPost.ret {l : List UInt8} {w w' : World} {e : Ending} (h : UnhexPost l w e w') : RetBE w ((unhexL l).getD []) (unhexErr l) e w' := by
 obtain ⟨hb, ⟨h1, rfl⟩ | ⟨bs, v, h1, rfl, ho⟩⟩ := h
 ·rw [unhexErr, h1]
  exact ⟨none, 0, 0, rfl, Nat.le_refl _, by simp [maxLen], RB.nil _ _, hb⟩
 ·rw [unhexErr, h1]
  exact RetBE.of ho hb
end Go.Proofs.YtfaocnboildjbaaDoor
namespace Go.Proofs.YtfaocnboildjbaaDoor
set_option maxRecDepth 100000
open Go.RowKit
set_option linter.unusedVariables false
set_option linter.unusedSimpArgs false
def unhexR (s : List UInt8) : List Int := ofB ((unhexL s).getD [])
def unhexE (s : List UInt8) : Int := if (unhexL s).isSome then 0 else 3
def uhK {R : Type} (args : List V) (k : V → Tree R) : Tree R := match args with
 | [.str s] => .ite (decide (s.length ≤ 1000000)) (k (.tup [.lst (.int .u8) (unhexR s), .c (.int .i64 (unhexE s))])) .fail
 | _ => .fail
theorem rel_own {w : World} {B : List Nat} {base n : Nat} {v : Value} {bs : List UInt8} (hB : ∀ b ∈ B, b < base) (h : OB w base v n bs) : Rel w B [] (.sl (flat (.int .u8) (ofB bs)) 1) v := by
 have hlen : (flat (.int .u8) (ofB bs)).length = bs.length := by rw [flat_length, ofB_length, show wd (.int .u8) = 1 by kernel_rfl, Nat.mul_one]
 have hl := h.len
 rcases h.2 with ⟨rfl, h0⟩ | ⟨g, cap, cur, rfl, hb, hg, h1, h2, h3, h4⟩
 ·have : bs = [] := List.eq_nil_of_length_eq_zero (by omega)
  subst this
  exact rel_nil_sl (Nat.le_refl 1) (.c _ _)
 ·refine .sl _ _ _ _ _ _ (fun j => .int .u8 ((bs.getD j 0).toNat : Int)) (Nat.le_refl 1) (by rw [hlen]; omega) h1 h2 (fun _ => ⟨_, rfl, rfl, (Array.getElem?_eq_some_iff.1 hg).1, fun hc => by have := hB _ hc; simp only at this; omega, fun j hj => ?_⟩) (fun j x hx => ?_)
  ·rw [hlen] at hj
   have e : (⟨g, 0, none⟩ : Addr).add j = ⟨g, j, none⟩ := by simp [Addr.add]; omega
   rw [e, cell_of_row w g j cur 5 (0, 0) hg]
   have : (cur.toList.take (n * 1))[j]? = some (.int .u8 ((bs.getD j 0).toNat : Int)) := by
    rw [h4, List.getElem?_map, List.getElem?_eq_getElem hj, List.getD_eq_getElem?_getD, List.getElem?_eq_getElem hj]
    rfl
   rw [List.getElem?_take, if_pos (by omega)] at this
   simpa using this
  ·rw [flat_u8, ofB, List.map_map, List.getElem?_map, Option.map_eq_some_iff] at hx
   obtain ⟨b, hb1, rfl⟩ := hx
   rw [List.getD_eq_getElem?_getD, hb1]
   exact .c _ _
theorem rel_tup2v {w : World} {B : List Nat} {x y : Value} {a b : AV} (h1 : Rel w B [] a x) (h2 : Rel w B [] b y) : Rel w B [] (.tup [a, b]) (.tuple #[x, y]) :=
 .tup _ _ _ (fun i => [x, y].getD i undef) rfl (fun i z hz => by
  match i, hz with
  | 0, _ => rfl
  | 1, _ => rfl) (fun i z hz => by
  match i, hz with
  | 0, hz => simp at hz; subst hz; exact h1
  | 1, hz => simp at hz; subst hz; exact h2)
theorem uh_post {w : World} {B : List Nat} {s : List UInt8} {e : Ending} {w' : World} (hB : ∀ b ∈ B, b < w.heap.size) (h : UnhexPost s w e w') : ∃ v, e = .returned v ∧ Gr w w' ∧ Rel w' B [] (ex (.tup [.lst (.int .u8) (unhexR s), .c (.int .i64 (unhexE s))])) v := by
 obtain ⟨hb, ⟨h1, rfl⟩ | ⟨bs, v, h1, rfl, ho⟩⟩ := h
 ·refine ⟨_, rfl, hb, rel_tup2v ?_ ?_⟩
  ·unfold unhexR; rw [h1]; exact rel_nil_sl (Nat.le_refl 1) (.c _ _)
  ·unfold unhexE; rw [h1]; exact .c _ _
 ·refine ⟨_, rfl, hb, rel_tup2v ?_ ?_⟩
  ·unfold unhexR; rw [h1]; exact rel_own hB ho
  ·unfold unhexE; rw [h1]; exact .c _ _
theorem uh_any {R : Type} {f : FuncId} (hf : ∃ fn, Tryd.prog.funcs[f]? = some fn ∧ fn.name ≠ "runtime.NumGoroutine" ∧ fn.body ≠ none) (hc : ∀ (s : ByteArray) (w : World), s.size ≤ 1000000 → Calls Tryd.prog f #[.string s] w (UnhexPost s.data.toList w)) :
  ∀ args (k : V → Tree R) res, (uhK args k).run = some res → ∃ r, (k r).run = some res ∧ r.plain = true ∧ (∀ l k, ex r ≠ .fresh l k) ∧ CallsV Tryd.prog f args r := by
 intro args k res h
 unfold uhK at h
 split at h
 ·rename_i s
  rcases Tree.run_ite h with ⟨hs, h⟩ | ⟨_, h⟩
  ·refine ⟨_, h, rfl, (fun l k h => by cases h), CallsK.toV (fun w B cargs hB hgl hlen hrel => ?_) hf⟩
   obtain ⟨a, rfl, h2⟩ := rel_one hlen hrel
   have h2 := Rel.ofC h2
   subst h2
   have hl : (ByteArray.mk s.toArray).data.toList = s := by simp
   have hsz : (ByteArray.mk s.toArray).size = s.length := by show s.toArray.size = _; simp
   have := hc ⟨s.toArray⟩ w (by rw [hsz]; exact of_decide_eq_true hs)
   rw [hl] at this
   exact this.mono fun e w' hp => uh_post hB hp
  ·cases h
 ·cases h
theorem uh_ok {R : Type} : ∀ args (k : V → Tree R) res, (uhK args k).run = some res → ∃ r, (k r).run = some res ∧ r.plain = true ∧ (∀ l k, ex r ≠ .fresh l k) ∧ CallsV Tryd.prog 21 args r :=
 uh_any (hasBody Tryd.func21 (by decide +kernel) (by kernel_rfl)) octs_unhex
theorem ruh_ok {R : Type} : ∀ args (k : V → Tree R) res, (uhK args k).run = some res → ∃ r, (k r).run = some res ∧ r.plain = true ∧ (∀ l k, ex r ≠ .fresh l k) ∧ CallsV Tryd.prog 23 args r :=
 uh_any (hasBody Tryd.func23 (by decide +kernel) (by kernel_rfl)) ref_unhex
end Go.Proofs.YtfaocnboildjbaaDoor
namespace Go.Proofs.YtfaocnboildjbaaDoor
open Go.RowKit
set_option linter.unusedVariables false
set_option maxRecDepth 100000
section
variable (N : Nat)
theorem hmx : Tryd.prog.follows .mixedOrders = true := by kernel_rfl
noncomputable def Ev0 (N : Nat) : (R : Type) → Env R := Env.addInl env0 [39, 46, 52, 61]
theorem Ev0_ok (R : Type) : EnvOK Tryd.prog (Ev0 N R) := EnvOK.addInl (env0_ok R) (by kernel_rfl)
noncomputable def Ev1 : (R : Type) → Env R := Env.addFn (Ev0 N) 35 (fun R => lowK)
theorem Ev1_ok (R : Type) : EnvOK Tryd.prog (Ev1 N R) := EnvOK.addExt (Ev0_ok N R) low_ok
noncomputable def words_Alike (N : Nat) (a0 : List UInt8) (b1 : List UInt8) : Option Bool :=
 bif (decide ((List.length a0) ≤ (1000000 : Nat))) then
  bif (decide ((List.length b1) ≤ (1000000 : Nat))) then
   some ((decide ((@lowS a0) = (@lowS b1))))
  else
   none
 else
  none
theorem words_Alike_S (a0 : List UInt8) (b1 : List UInt8) : (runK Tryd.prog (Ev1 N) 400 22 [.str, .str] [.bool] (a0, b1, ())).run = words_Alike N a0 b1 := by kernel_rfl
noncomputable def Ev2 : (R : Type) → Env R := Env.addFn (Ev1 N) 22 (fun R => fnK [.str, .str] [.bool] (fun c => words_Alike N c.1 c.2.1))
theorem Ev2_ok (R : Type) : EnvOK Tryd.prog (Ev2 N R) := EnvOK.addFn hmx (Ev1_ok N R) (Ev1_ok N _) (by kernel_rfl) (fun c => words_Alike_S N c.1 c.2.1)
noncomputable def words_isDigit (N : Nat) (sign0 : Int) : Option Bool :=
 Option.bind (bif (decide ((48 : Int) ≤ sign0)) then
   some ((cond true (decide (sign0 ≤ (57 : Int))) false))
  else
   some (false)) fun (v2 : Bool) =>
 some (v2)
theorem words_isDigit_S (sign0 : Int) : (runK Tryd.prog (Ev2 N) 400 53 [(.int .i32)] [.bool] (sign0, ())).run = words_isDigit N sign0 := by kernel_rfl
noncomputable def Ev3 : (R : Type) → Env R := Env.addFn (Ev2 N) 53 (fun R => fnK [(.int .i32)] [.bool] (fun c => words_isDigit N c.1))
theorem Ev3_ok (R : Type) : EnvOK Tryd.prog (Ev3 N R) := EnvOK.addFn hmx (Ev2_ok N R) (Ev2_ok N _) (by kernel_rfl) (fun c => words_isDigit_S N c.1)
noncomputable def words_inToken (sign0 : Int) : Option Bool :=
 bif (decide (sign0 = (45 : Int))) then
  bif (decide (sign0 = (45 : Int))) then
   some (true)
  else
   Option.bind (words_isDigit N sign0) fun v2 =>
   Option.bind (bif v2 then
     some (true)
    else
     bif (decide ((65 : Int) ≤ sign0)) then
      some ((cond false true (cond true (decide (sign0 ≤ (90 : Int))) false)))
     else
      some ((cond false true false))) fun (v3 : Bool) =>
   Option.bind (bif v3 then
     some (true)
    else
     bif (decide ((97 : Int) ≤ sign0)) then
      some ((cond false true (cond true (decide (sign0 ≤ (122 : Int))) false)))
     else
      some ((cond false true false))) fun (v4 : Bool) =>
   some (v4)
 else
  bif (decide (sign0 = (95 : Int))) then
   bif (decide (sign0 = (95 : Int))) then
    some (true)
   else
    Option.bind (words_isDigit N sign0) fun v2 =>
    Option.bind (bif v2 then
      some (true)
     else
      bif (decide ((65 : Int) ≤ sign0)) then
       some ((cond false true (cond true (decide (sign0 ≤ (90 : Int))) false)))
      else
       some ((cond false true false))) fun (v3 : Bool) =>
    Option.bind (bif v3 then
      some (true)
     else
      bif (decide ((97 : Int) ≤ sign0)) then
       some ((cond false true (cond true (decide (sign0 ≤ (122 : Int))) false)))
      else
       some ((cond false true false))) fun (v4 : Bool) =>
    some (v4)
  else
   bif (decide (sign0 = (46 : Int))) then
    bif (decide (sign0 = (46 : Int))) then
     some (true)
    else
     Option.bind (words_isDigit N sign0) fun v2 =>
     Option.bind (bif v2 then
       some (true)
      else
       bif (decide ((65 : Int) ≤ sign0)) then
        some ((cond false true (cond true (decide (sign0 ≤ (90 : Int))) false)))
       else
        some ((cond false true false))) fun (v3 : Bool) =>
     Option.bind (bif v3 then
       some (true)
      else
       bif (decide ((97 : Int) ≤ sign0)) then
        some ((cond false true (cond true (decide (sign0 ≤ (122 : Int))) false)))
       else
        some ((cond false true false))) fun (v4 : Bool) =>
     some (v4)
   else
    bif (decide (sign0 = (123 : Int))) then
     bif (decide (sign0 = (123 : Int))) then
      some (true)
     else
      Option.bind (words_isDigit N sign0) fun v2 =>
      Option.bind (bif v2 then
        some (true)
       else
        bif (decide ((65 : Int) ≤ sign0)) then
         some ((cond false true (cond true (decide (sign0 ≤ (90 : Int))) false)))
        else
         some ((cond false true false))) fun (v3 : Bool) =>
      Option.bind (bif v3 then
        some (true)
       else
        bif (decide ((97 : Int) ≤ sign0)) then
         some ((cond false true (cond true (decide (sign0 ≤ (122 : Int))) false)))
        else
         some ((cond false true false))) fun (v4 : Bool) =>
      some (v4)
    else
     bif (decide (sign0 = (125 : Int))) then
      bif (decide (sign0 = (125 : Int))) then
       some (true)
      else
       Option.bind (words_isDigit N sign0) fun v2 =>
       Option.bind (bif v2 then
         some (true)
        else
         bif (decide ((65 : Int) ≤ sign0)) then
          some ((cond false true (cond true (decide (sign0 ≤ (90 : Int))) false)))
         else
          some ((cond false true false))) fun (v3 : Bool) =>
       Option.bind (bif v3 then
         some (true)
        else
         bif (decide ((97 : Int) ≤ sign0)) then
          some ((cond false true (cond true (decide (sign0 ≤ (122 : Int))) false)))
         else
          some ((cond false true false))) fun (v4 : Bool) =>
       some (v4)
     else
      bif (decide (sign0 = (47 : Int))) then
       some (true)
      else
       Option.bind (words_isDigit N sign0) fun v2 =>
       Option.bind (bif v2 then
         some (true)
        else
         bif (decide ((65 : Int) ≤ sign0)) then
          some ((cond false true (cond true (decide (sign0 ≤ (90 : Int))) false)))
         else
          some ((cond false true false))) fun (v3 : Bool) =>
       Option.bind (bif v3 then
         some (true)
        else
         bif (decide ((97 : Int) ≤ sign0)) then
          some ((cond false true (cond true (decide (sign0 ≤ (122 : Int))) false)))
         else
          some ((cond false true false))) fun (v4 : Bool) =>
       some (v4)
theorem words_inToken_S (sign0 : Int) : (runK Tryd.prog (Ev3 N) 400 47 [(.int .i32)] [.bool] (sign0, ())).run = words_inToken N sign0 := by kernel_rfl
noncomputable def Ev4 : (R : Type) → Env R := Env.addFn (Ev3 N) 47 (fun R => fnK [(.int .i32)] [.bool] (fun c => words_inToken N c.1))
theorem Ev4_ok (R : Type) : EnvOK Tryd.prog (Ev4 N R) := EnvOK.addFn hmx (Ev3_ok N R) (Ev3_ok N _) (by kernel_rfl) (fun c => words_inToken_S N c.1)
noncomputable def words_Token_L2_I : LI := ⟨21, 0, [], ⟨[(0, .ty .str), (6, .lit (.box 0 0))], [.itr]⟩, [(.ret, ⟨[(2, .ty .bool)], []⟩), (.exit 0, ⟨[(0, .ty .str)], []⟩)]⟩
noncomputable def words_Token_L2 (X : ((List UInt8 × Unit) × (List UInt8 × (Int × Unit))) → Option ((((Bool × Unit) × Unit) ⊕ ((List UInt8 × Unit) × Unit)))) (s0 : List UInt8) (h0 : List UInt8) (h1 : Int) : Option ((((Bool × Unit) × Unit) ⊕ ((List UInt8 × Unit) × Unit))) :=
 bif (decide ((Int.toNat h1) < (List.length h0))) then
  Option.bind (words_inToken N (@rdec h0 h1).1) fun v5 =>
  bif (!v5) then
   some ((.inl ((false, ()), ())))
  else
   (X ((s0, ()), (h0, (((((Int.toNat h1) : Nat) : Int) + (@rdec h0 h1).2), ()))))
 else
  some ((.inr ((s0, ()), ())))
noncomputable def words_Token_L2_R (c : ((List UInt8 × Unit) × (List UInt8 × (Int × Unit)))) : Option ((((Bool × Unit) × Unit) ⊕ ((List UInt8 × Unit) × Unit))) := gl (fun X c => words_Token_L2 N X c.1.1 c.2.1 c.2.2.1) N c
theorem words_Token_L2_S (X : ((List UInt8 × Unit) × (List UInt8 × (Int × Unit))) → Option ((((Bool × Unit) × Unit) ⊕ ((List UInt8 × Unit) × Unit)))) (s0 : List UInt8) (h0 : List UInt8) (h1 : Int) : (roundK Tryd.prog (Ev4 N) 400 [40] words_Token_L2_I (loopAt Tryd.prog [40] 2) X ((s0, ()), (h0, h1, ()))).run = words_Token_L2 N X s0 h0 h1 := by kernel_rfl
noncomputable def Ev5 : (R : Type) → Env R := Env.addLp (Ev4 N) [40] 0 2 (fun R => lpK Tryd.prog words_Token_L2_I (fun X c => words_Token_L2 N X c.1.1 c.2.1 c.2.2.1) N)
theorem Ev5_ok (R : Type) : EnvOK Tryd.prog (Ev5 N R) := EnvOK.addLp (Ev4_ok N R) (by kernel_rfl) (lpK_ok (li := words_Token_L2_I) (G := fun X c => words_Token_L2 N X c.1.1 c.2.1 c.2.2.1) hmx (Ev4_ok N _) (by kernel_rfl) loopAt_sub (fun (X : CT words_Token_L2_I.sh → Option (OT words_Token_L2_I.outs)) (c : CT words_Token_L2_I.sh) => words_Token_L2_S N X c.1.1 c.2.1 c.2.2.1) N)
noncomputable def words_Token (s0 : List UInt8) : Option Bool :=
 Option.bind (words_Token_L2_R N ((s0, ()), (s0, ((0 : Int), ())))) fun v2 =>
 Sum.elim
  (fun (v3 : ((Bool × Unit) × Unit)) =>
  some (v3.1.1))
  (fun (v3 : ((List UInt8 × Unit) × Unit)) =>
  bif (decide ((1 : Int) ≤ (((List.length v3.1.1) : Nat) : Int))) then
   Option.bind (some ((cond true (decide ((((List.length v3.1.1) : Nat) : Int) ≤ (64 : Int))) false))) fun (v4 : Bool) =>
   some (v4)
  else
   Option.bind (some (false)) fun (v4 : Bool) =>
   some (v4)) v2
theorem words_Token_S (s0 : List UInt8) : (runK Tryd.prog (Ev5 N) 400 40 [.str] [.bool] (s0, ())).run = words_Token N s0 := by kernel_rfl
noncomputable def Ev6 : (R : Type) → Env R := Env.addFn (Ev5 N) 40 (fun R => fnK [.str] [.bool] (fun c => words_Token N c.1))
theorem Ev6_ok (R : Type) : EnvOK Tryd.prog (Ev6 N R) := EnvOK.addFn hmx (Ev5_ok N R) (Ev5_ok N _) (by kernel_rfl) (fun c => words_Token_S N c.1)
noncomputable def Ev7 : (R : Type) → Env R := Env.addFn (Ev6 N) 48 (fun R => trK)
theorem Ev7_ok (R : Type) : EnvOK Tryd.prog (Ev7 N R) := EnvOK.addExt (Ev6_ok N R) tr_ok
noncomputable def words_Trim (N : Nat) (s0 : List UInt8) : Option (List UInt8) :=
 bif (decide ((List.length s0) ≤ (281474976710656 : Nat))) then
  some ((@Go.Lib.trimS s0 (Array.toList (List.toArray ([32, 9] : List UInt8)))))
 else
  none
theorem words_Trim_S (s0 : List UInt8) : (runK Tryd.prog (Ev7 N) 400 41 [.str] [.str] (s0, ())).run = words_Trim N s0 := by kernel_rfl
noncomputable def Ev8 : (R : Type) → Env R := Env.addFn (Ev7 N) 41 (fun R => fnK [.str] [.str] (fun c => words_Trim N c.1))
theorem Ev8_ok (R : Type) : EnvOK Tryd.prog (Ev8 N R) := EnvOK.addFn hmx (Ev7_ok N R) (Ev7_ok N _) (by kernel_rfl) (fun c => words_Trim_S N c.1)
noncomputable def words_may (N : Nat) (seen0 : List (Int)) (i1 : Int) : Option Bool :=
 Option.bind (getI seen0 i1) fun (v3 : Int) =>
 bif (decide (v3 = (13 : Int))) then
  Option.bind (bif (decide ((IntKind.wrap .i64 (i1 + 1)) = (((List.length seen0) : Nat) : Int))) then
    some (true)
   else
    Option.bind (getI seen0 (IntKind.wrap .i64 (i1 + 1))) fun (v4 : Int) =>
    some ((cond false true (decide (v4 = (10 : Int)))))) fun (v4 : Bool) =>
  some (v4)
 else
  bif (decide (v3 = (10 : Int))) then
   Option.bind (bif (decide ((0 : Int) < i1)) then
     Option.bind (getI seen0 (IntKind.wrap .i64 (i1 - 1))) fun (v4 : Int) =>
     some ((cond true (decide (v4 = (13 : Int))) false))
    else
     some (false)) fun (v4 : Bool) =>
   some (v4)
  else
   Option.bind (bif (decide (v3 = (9 : Int))) then
     some (true)
    else
     bif (decide ((32 : Int) ≤ v3)) then
      some ((cond false true (cond true (decide (v3 ≤ (126 : Int))) false)))
     else
      some ((cond false true false))) fun (v4 : Bool) =>
   some (v4)
theorem words_may_S (seen0 : List (Int)) (i1 : Int) : (runK Tryd.prog (Ev8 N) 400 37 [(.sl (.int .u8)), (.int .i64)] [.bool] (seen0, i1, ())).run = words_may N seen0 i1 := by kernel_rfl
noncomputable def Ev9 : (R : Type) → Env R := Env.addFn (Ev8 N) 37 (fun R => fnK [(.sl (.int .u8)), (.int .i64)] [.bool] (fun c => words_may N c.1 c.2.1))
theorem Ev9_ok (R : Type) : EnvOK Tryd.prog (Ev9 N R) := EnvOK.addFn hmx (Ev8_ok N R) (Ev8_ok N _) (by kernel_rfl) (fun c => words_may_S N c.1 c.2.1)
noncomputable def Ev10 : (R : Type) → Env R := Env.addMv (Ev9 N) [(26, 14)]
theorem Ev10_ok (R : Type) : EnvOK Tryd.prog (Ev10 N R) := EnvOK.addMv (Ev9_ok N R) [(26, 14)]
noncomputable def words_Head_L5_I : LI := ⟨49, 0, [(6, 9)], ⟨[(0, .ty (.sl (.int .u8))), (5, .ty (.sl (.int .u8))), (6, .lit (.own 0)), (7, .ty (.int .i64)), (16, .ty (.sl (.int .u8))), (17, .ty (.int .i64)), (18, .ty (.int .i64))], [.own .str 9]⟩, [(.ret, ⟨[(2, .ty (.sl .str)), (3, .ty (.int .i64)), (4, .ty (.int .i64))], []⟩), (.exit 0, ⟨[(0, .ty (.sl (.int .u8)))], []⟩)]⟩
noncomputable def words_Head_L5 (X : (((List Int) × ((List Int) × (Int × ((List Int) × (Int × (Int × Unit)))))) × ((List (List UInt8)) × Unit)) → Option (((((List (List UInt8)) × (Int × (Int × Unit))) × Unit) ⊕ (((List Int) × Unit) × Unit)))) (b0 : List (Int)) (seen5 : List (Int)) (start7 : Int) (x16 : List (Int)) (x17 : Int) (x18 : Int) (h0 : List (List UInt8)) : Option (((((List (List UInt8)) × (Int × (Int × Unit))) × Unit) ⊕ (((List Int) × Unit) × Unit))) :=
 bif (decide (x18 < x17)) then
  Option.bind (getI x16 x18) fun (v9 : Int) =>
  Option.bind (words_may N seen5 x18) fun v10 =>
  bif (!v10) then
   some ((.inl ((([] : List ((List UInt8))), ((0 : Int), ((3 : Int), ()))), ())))
  else
   bif (!(decide (v9 = (10 : Int)))) then
    (X ((b0, (seen5, (start7, (x16, (x17, ((IntKind.wrap .i64 (x18 + 1)), ())))))), (h0, ())))
   else
    Option.bind (subI seen5 start7 (IntKind.wrap .i64 (x18 - 1))) fun (v11 : (List Int)) =>
    Option.bind (@toBy v11) fun (v12 : (List UInt8)) =>
    bif (decide (v12 = (Array.toList (List.toArray ([] : List UInt8))))) then
     some ((.inl ((h0, ((IntKind.wrap .i64 (x18 + 1)), ((0 : Int), ()))), ())))
    else
     bif (roomB ((List.length h0) + (List.length ([v12] : List ((List UInt8))))) 16) then
      (X ((b0, (seen5, ((IntKind.wrap .i64 (x18 + 1)), (x16, (x17, ((IntKind.wrap .i64 (x18 + 1)), ())))))), ((h0 ++ ([v12] : List ((List UInt8)))), ())))
     else
      none
 else
  some ((.inr ((b0, ()), ())))
noncomputable def words_Head_L5_R (c : (((List Int) × ((List Int) × (Int × ((List Int) × (Int × (Int × Unit)))))) × ((List (List UInt8)) × Unit))) : Option (((((List (List UInt8)) × (Int × (Int × Unit))) × Unit) ⊕ (((List Int) × Unit) × Unit))) := gl (fun X c => words_Head_L5 N X c.1.1 c.1.2.1 c.1.2.2.1 c.1.2.2.2.1 c.1.2.2.2.2.1 c.1.2.2.2.2.2.1 c.2.1) N c
theorem words_Head_L5_S (X : (((List Int) × ((List Int) × (Int × ((List Int) × (Int × (Int × Unit)))))) × ((List (List UInt8)) × Unit)) → Option (((((List (List UInt8)) × (Int × (Int × Unit))) × Unit) ⊕ (((List Int) × Unit) × Unit)))) (b0 : List (Int)) (seen5 : List (Int)) (start7 : Int) (x16 : List (Int)) (x17 : Int) (x18 : Int) (h0 : List (List UInt8)) : (roundK Tryd.prog (Ev10 N) 400 [26] words_Head_L5_I (loopAt Tryd.prog [26] 5) X ((b0, seen5, start7, x16, x17, x18, ()), (h0, ()))).run = words_Head_L5 N X b0 seen5 start7 x16 x17 x18 h0 := by kernel_rfl
noncomputable def Ev11 : (R : Type) → Env R := Env.addLp (Ev10 N) [26] 0 5 (fun R => lpK Tryd.prog words_Head_L5_I (fun X c => words_Head_L5 N X c.1.1 c.1.2.1 c.1.2.2.1 c.1.2.2.2.1 c.1.2.2.2.2.1 c.1.2.2.2.2.2.1 c.2.1) N)
theorem Ev11_ok (R : Type) : EnvOK Tryd.prog (Ev11 N R) := EnvOK.addLp (Ev10_ok N R) (by kernel_rfl) (lpK_ok (li := words_Head_L5_I) (G := fun X c => words_Head_L5 N X c.1.1 c.1.2.1 c.1.2.2.1 c.1.2.2.2.1 c.1.2.2.2.2.1 c.1.2.2.2.2.2.1 c.2.1) hmx (Ev10_ok N _) (by kernel_rfl) loopAt_sub (fun (X : CT words_Head_L5_I.sh → Option (OT words_Head_L5_I.outs)) (c : CT words_Head_L5_I.sh) => words_Head_L5_S N X c.1.1 c.1.2.1 c.1.2.2.1 c.1.2.2.2.1 c.1.2.2.2.2.1 c.1.2.2.2.2.2.1 c.2.1) N)
noncomputable def words_Head (b0 : List (Int)) : Option ((List (List UInt8)) × Int × Int) :=
 Option.bind (takeI b0 (@minI (((List.length b0) : Nat) : Int) (2048 : Int))) fun (v2 : (List Int)) =>
 Option.bind (words_Head_L5_R N ((b0, (v2, ((0 : Int), (v2, ((((List.length v2) : Nat) : Int), ((0 : Int), ())))))), (([] : List ((List UInt8))), ()))) fun v3 =>
 Sum.elim
  (fun (v4 : (((List (List UInt8)) × (Int × (Int × Unit))) × Unit)) =>
  some ((v4.1.1, (v4.1.2.1, v4.1.2.2.1))))
  (fun (v4 : (((List Int) × Unit) × Unit)) =>
  bif (decide ((((List.length v4.1.1) : Nat) : Int) < (2048 : Int))) then
   some ((([] : List ((List UInt8))), ((0 : Int), (4 : Int))))
  else
   some ((([] : List ((List UInt8))), ((0 : Int), (8 : Int))))) v3
theorem words_Head_S (b0 : List (Int)) : (runK Tryd.prog (Ev11 N) 400 26 [(.sl (.int .u8))] [(.sl .str), (.int .i64), (.int .i64)] (b0, ())).run = words_Head N b0 := by kernel_rfl
noncomputable def Ev12 : (R : Type) → Env R := Env.addFn (Ev11 N) 26 (fun R => fnK [(.sl (.int .u8))] [(.sl .str), (.int .i64), (.int .i64)] (fun c => words_Head N c.1))
theorem Ev12_ok (R : Type) : EnvOK Tryd.prog (Ev12 N R) := EnvOK.addFn hmx (Ev11_ok N R) (Ev11_ok N _) (by kernel_rfl) (fun c => words_Head_S N c.1)
noncomputable def Ev13 : (R : Type) → Env R := Env.addMv (Ev12 N) [(28, 10)]
theorem Ev13_ok (R : Type) : EnvOK Tryd.prog (Ev13 N R) := EnvOK.addMv (Ev12_ok N R) [(28, 10)]
noncomputable def Ev14 : (R : Type) → Env R := Env.addFn (Ev13 N) 69 (fun R => ixK)
theorem Ev14_ok (R : Type) : EnvOK Tryd.prog (Ev14 N R) := EnvOK.addExt (Ev13_ok N R) (ix_ok (fn := Go.Proofs.Tryd.f69) (by kernel_rfl) (by kernel_rfl) (by decide +kernel) (by kernel_rfl) (by kernel_rfl))
noncomputable def words_Fields_L5_I : LI := ⟨41, 0, [(4, 79)], ⟨[(4, .lit (.own 0)), (13, .ty (.sl .str)), (14, .ty (.int .i64)), (15, .ty (.int .i64))], [.own (.pair .str .str) 79]⟩, [(.ret, ⟨[(2, .ty (.sl (.pair .str .str))), (3, .ty (.int .i64))], []⟩), (.exit 0, ⟨[(4, .lit (.own 0))], [.own (.pair .str .str) 79]⟩)]⟩
noncomputable def words_Fields_L5 (X : (((List (List UInt8)) × (Int × (Int × Unit))) × ((List (List UInt8 × (List UInt8))) × Unit)) → Option (((((List (List UInt8 × (List UInt8))) × (Int × Unit)) × Unit) ⊕ (Unit × ((List (List UInt8 × (List UInt8))) × Unit))))) (x13 : List (List UInt8)) (x14 : Int) (x15 : Int) (h0 : List (List UInt8 × (List UInt8))) : Option (((((List (List UInt8 × (List UInt8))) × (Int × Unit)) × Unit) ⊕ (Unit × ((List (List UInt8 × (List UInt8))) × Unit)))) :=
 bif (decide (x15 < x14)) then
  Option.bind (getI x13 x15) fun (v6 : (List UInt8)) =>
  Option.bind (some ((cond false true (decide ((Array.toList (List.toArray ([58] : List UInt8))) = v6))))) fun (v7 : Bool) =>
  bif v7 then
   Option.bind (dropI v6 (IntKind.wrap .i64 ((0 : Int) + (((List.length (Array.toList (List.toArray ([58] : List UInt8)))) : Nat) : Int)))) fun (v8 : (List UInt8)) =>
   Option.bind (words_Token N (@List.take UInt8 (Int.toNat (0 : Int)) v6)) fun v9 =>
   Option.bind (some ((cond false true (!v9)))) fun (v10 : Bool) =>
   bif v10 then
    some ((.inl ((([] : List ((List UInt8 × (List UInt8)))), ((3 : Int), ())), ())))
   else
    Option.bind (words_Trim N v8) fun v11 =>
    bif (roomB ((List.length h0) + (List.length ([((@List.take UInt8 (Int.toNat (0 : Int)) v6), v11)] : List ((List UInt8 × (List UInt8)))))) 32) then
     (X ((x13, (x14, ((IntKind.wrap .i64 (x15 + 1)), ()))), ((h0 ++ ([((@List.take UInt8 (Int.toNat (0 : Int)) v6), v11)] : List ((List UInt8 × (List UInt8))))), ())))
    else
     none
  else
   bif (decide ((0 : Int) ≤ (@idxB v6 (((@UInt8.toNat (58 : UInt8)) : Nat) : Int)))) then
    Option.bind (takeI v6 (@idxB v6 (((@UInt8.toNat (58 : UInt8)) : Nat) : Int))) fun (v8 : (List UInt8)) =>
    Option.bind (dropI v6 (IntKind.wrap .i64 ((@idxB v6 (((@UInt8.toNat (58 : UInt8)) : Nat) : Int)) + (((List.length (Array.toList (List.toArray ([58] : List UInt8)))) : Nat) : Int)))) fun (v9 : (List UInt8)) =>
    Option.bind (words_Token N v8) fun v10 =>
    Option.bind (some ((cond false true (!v10)))) fun (v11 : Bool) =>
    bif v11 then
     some ((.inl ((([] : List ((List UInt8 × (List UInt8)))), ((3 : Int), ())), ())))
    else
     Option.bind (words_Trim N v9) fun v12 =>
     bif (roomB ((List.length h0) + (List.length ([(v8, v12)] : List ((List UInt8 × (List UInt8)))))) 32) then
      (X ((x13, (x14, ((IntKind.wrap .i64 (x15 + 1)), ()))), ((h0 ++ ([(v8, v12)] : List ((List UInt8 × (List UInt8))))), ())))
     else
      none
   else
    Option.bind (some (true)) fun (v8 : Bool) =>
    bif v8 then
     some ((.inl ((([] : List ((List UInt8 × (List UInt8)))), ((3 : Int), ())), ())))
    else
     bif (roomB ((List.length h0) + (List.length ([(v6, (@Go.Lib.trimS (Array.toList (List.toArray ([] : List UInt8))) (Array.toList (List.toArray ([32, 9] : List UInt8)))))] : List ((List UInt8 × (List UInt8)))))) 32) then
      (X ((x13, (x14, ((IntKind.wrap .i64 (x15 + 1)), ()))), ((h0 ++ ([(v6, (@Go.Lib.trimS (Array.toList (List.toArray ([] : List UInt8))) (Array.toList (List.toArray ([32, 9] : List UInt8)))))] : List ((List UInt8 × (List UInt8))))), ())))
     else
      none
 else
  some ((.inr ((), (h0, ()))))
noncomputable def words_Fields_L5_R (c : (((List (List UInt8)) × (Int × (Int × Unit))) × ((List (List UInt8 × (List UInt8))) × Unit))) : Option (((((List (List UInt8 × (List UInt8))) × (Int × Unit)) × Unit) ⊕ (Unit × ((List (List UInt8 × (List UInt8))) × Unit)))) := gl (fun X c => words_Fields_L5 N X c.1.1 c.1.2.1 c.1.2.2.1 c.2.1) N c
theorem words_Fields_L5_S (X : (((List (List UInt8)) × (Int × (Int × Unit))) × ((List (List UInt8 × (List UInt8))) × Unit)) → Option (((((List (List UInt8 × (List UInt8))) × (Int × Unit)) × Unit) ⊕ (Unit × ((List (List UInt8 × (List UInt8))) × Unit))))) (x13 : List (List UInt8)) (x14 : Int) (x15 : Int) (h0 : List (List UInt8 × (List UInt8))) : (roundK Tryd.prog (Ev14 N) 400 [28] words_Fields_L5_I (loopAt Tryd.prog [28] 5) X ((x13, x14, x15, ()), (h0, ()))).run = words_Fields_L5 N X x13 x14 x15 h0 := by kernel_rfl
noncomputable def Ev15 : (R : Type) → Env R := Env.addLp (Ev14 N) [28] 0 5 (fun R => lpK Tryd.prog words_Fields_L5_I (fun X c => words_Fields_L5 N X c.1.1 c.1.2.1 c.1.2.2.1 c.2.1) N)
theorem Ev15_ok (R : Type) : EnvOK Tryd.prog (Ev15 N R) := EnvOK.addLp (Ev14_ok N R) (by kernel_rfl) (lpK_ok (li := words_Fields_L5_I) (G := fun X c => words_Fields_L5 N X c.1.1 c.1.2.1 c.1.2.2.1 c.2.1) hmx (Ev14_ok N _) (by kernel_rfl) loopAt_sub (fun (X : CT words_Fields_L5_I.sh → Option (OT words_Fields_L5_I.outs)) (c : CT words_Fields_L5_I.sh) => words_Fields_L5_S N X c.1.1 c.1.2.1 c.1.2.2.1 c.2.1) N)
noncomputable def words_Fields (lines0 : List (List UInt8)) : Option ((List (List UInt8 × (List UInt8))) × Int) :=
 bif (decide ((32 : Int) < (((List.length lines0) : Nat) : Int))) then
  some ((([] : List ((List UInt8 × (List UInt8)))), (5 : Int)))
 else
  Option.bind (words_Fields_L5_R N ((lines0, ((((List.length lines0) : Nat) : Int), ((0 : Int), ()))), (([] : List ((List UInt8 × (List UInt8)))), ()))) fun v2 =>
  Sum.elim
   (fun (v3 : (((List (List UInt8 × (List UInt8))) × (Int × Unit)) × Unit)) =>
   some ((v3.1.1, v3.1.2.1)))
   (fun (v3 : (Unit × ((List (List UInt8 × (List UInt8))) × Unit))) =>
   some ((v3.2.1, (0 : Int)))) v2
theorem words_Fields_S (lines0 : List (List UInt8)) : (runK Tryd.prog (Ev15 N) 400 28 [(.sl .str)] [(.sl (.pair .str .str)), (.int .i64)] (lines0, ())).run = words_Fields N lines0 := by kernel_rfl
noncomputable def Ev16 : (R : Type) → Env R := Env.addFn (Ev15 N) 28 (fun R => fnK [(.sl .str)] [(.sl (.pair .str .str)), (.int .i64)] (fun c => words_Fields N c.1))
theorem Ev16_ok (R : Type) : EnvOK Tryd.prog (Ev16 N R) := EnvOK.addFn hmx (Ev15_ok N R) (Ev15_ok N _) (by kernel_rfl) (fun c => words_Fields_S N c.1)
noncomputable def words_Find_L3_I : LI := ⟨31, 0, [], ⟨[(1, .ty .str), (6, .ty .str), (7, .ty (.int .i64)), (10, .ty (.sl (.pair .str .str))), (11, .ty (.int .i64)), (12, .ty (.int .i64))], []⟩, [(.exit 0, ⟨[(6, .ty .str), (7, .ty (.int .i64))], []⟩)]⟩
noncomputable def words_Find_L3 (X : ((List UInt8 × (List UInt8 × (Int × ((List (List UInt8 × (List UInt8))) × (Int × (Int × Unit)))))) × Unit) → Option (((List UInt8 × (Int × Unit)) × Unit))) (name1 : List UInt8) (value6 : List UInt8) (many7 : Int) (x10 : List (List UInt8 × (List UInt8))) (x11 : Int) (x12 : Int) : Option (((List UInt8 × (Int × Unit)) × Unit)) :=
 bif (decide (x12 < x11)) then
  Option.bind (getI x10 x12) fun (v8 : (List UInt8 × (List UInt8))) =>
  Option.bind (words_Alike N v8.1 name1) fun v9 =>
  bif v9 then
   (X ((name1, (v8.2, ((IntKind.wrap .i64 (many7 + 1)), (x10, (x11, ((IntKind.wrap .i64 (x12 + 1)), ())))))), ()))
  else
   (X ((name1, (value6, (many7, (x10, (x11, ((IntKind.wrap .i64 (x12 + 1)), ())))))), ()))
 else
  some (((value6, (many7, ())), ()))
noncomputable def words_Find_L3_R (c : ((List UInt8 × (List UInt8 × (Int × ((List (List UInt8 × (List UInt8))) × (Int × (Int × Unit)))))) × Unit)) : Option (((List UInt8 × (Int × Unit)) × Unit)) := gl (fun X c => words_Find_L3 N X c.1.1 c.1.2.1 c.1.2.2.1 c.1.2.2.2.1 c.1.2.2.2.2.1 c.1.2.2.2.2.2.1) N c
theorem words_Find_L3_S (X : ((List UInt8 × (List UInt8 × (Int × ((List (List UInt8 × (List UInt8))) × (Int × (Int × Unit)))))) × Unit) → Option (((List UInt8 × (Int × Unit)) × Unit))) (name1 : List UInt8) (value6 : List UInt8) (many7 : Int) (x10 : List (List UInt8 × (List UInt8))) (x11 : Int) (x12 : Int) : (roundK Tryd.prog (Ev16 N) 400 [42] words_Find_L3_I (loopAt Tryd.prog [42] 3) X ((name1, value6, many7, x10, x11, x12, ()), ())).run = words_Find_L3 N X name1 value6 many7 x10 x11 x12 := by kernel_rfl
noncomputable def Ev17 : (R : Type) → Env R := Env.addLp (Ev16 N) [42] 0 3 (fun R => lpK Tryd.prog words_Find_L3_I (fun X c => words_Find_L3 N X c.1.1 c.1.2.1 c.1.2.2.1 c.1.2.2.2.1 c.1.2.2.2.2.1 c.1.2.2.2.2.2.1) N)
theorem Ev17_ok (R : Type) : EnvOK Tryd.prog (Ev17 N R) := EnvOK.addLp (Ev16_ok N R) (by kernel_rfl) (lpK_ok (li := words_Find_L3_I) (G := fun X c => words_Find_L3 N X c.1.1 c.1.2.1 c.1.2.2.1 c.1.2.2.2.1 c.1.2.2.2.2.1 c.1.2.2.2.2.2.1) hmx (Ev16_ok N _) (by kernel_rfl) loopAt_sub (fun (X : CT words_Find_L3_I.sh → Option (OT words_Find_L3_I.outs)) (c : CT words_Find_L3_I.sh) => words_Find_L3_S N X c.1.1 c.1.2.1 c.1.2.2.1 c.1.2.2.2.1 c.1.2.2.2.2.1 c.1.2.2.2.2.2.1) N)
noncomputable def words_Find (l0 : List (List UInt8 × (List UInt8))) (name1 : List UInt8) : Option (List UInt8 × Int) :=
 Option.bind (words_Find_L3_R N ((name1, ((Array.toList (List.toArray ([] : List UInt8))), ((0 : Int), (l0, ((((List.length l0) : Nat) : Int), ((0 : Int), ())))))), ())) fun v3 =>
 bif (decide (v3.1.2.1 = (0 : Int))) then
  some (((Array.toList (List.toArray ([] : List UInt8))), (6 : Int)))
 else
  bif (decide (v3.1.2.1 = (1 : Int))) then
   some ((v3.1.1, (0 : Int)))
  else
   some (((Array.toList (List.toArray ([] : List UInt8))), (7 : Int)))
theorem words_Find_S (l0 : List (List UInt8 × (List UInt8))) (name1 : List UInt8) : (runK Tryd.prog (Ev17 N) 400 42 [(.sl (.pair .str .str)), .str] [.str, (.int .i64)] (l0, name1, ())).run = words_Find N l0 name1 := by kernel_rfl
noncomputable def Ev18 : (R : Type) → Env R := Env.addFn (Ev17 N) 42 (fun R => fnK [(.sl (.pair .str .str)), .str] [.str, (.int .i64)] (fun c => words_Find N c.1 c.2.1))
theorem Ev18_ok (R : Type) : EnvOK Tryd.prog (Ev18 N R) := EnvOK.addFn hmx (Ev17_ok N R) (Ev17_ok N _) (by kernel_rfl) (fun c => words_Find_S N c.1 c.2.1)
noncomputable def ref14_small (N : Nat) (c0 : Int) : Option Int :=
 Option.bind (bif (decide ((65 : Int) ≤ c0)) then
   some ((cond true (decide (c0 ≤ (90 : Int))) false))
  else
   some (false)) fun (v2 : Bool) =>
 bif v2 then
  some ((IntKind.wrap .u8 (c0 + 32)))
 else
  some (c0)
theorem ref14_small_S (c0 : Int) : (runK Tryd.prog (Ev18 N) 400 49 [(.int .u8)] [(.int .u8)] (c0, ())).run = ref14_small N c0 := by kernel_rfl
noncomputable def Ev19 : (R : Type) → Env R := Env.addFn (Ev18 N) 49 (fun R => fnK [(.int .u8)] [(.int .u8)] (fun c => ref14_small N c.1))
theorem Ev19_ok (R : Type) : EnvOK Tryd.prog (Ev19 N R) := EnvOK.addFn hmx (Ev18_ok N R) (Ev18_ok N _) (by kernel_rfl) (fun c => ref14_small_S N c.1)
noncomputable def ref14_Lower_L3_I : LI := ⟨23, 0, [], ⟨[(0, .ty .str), (3, .lit (.own 0)), (4, .ty (.int .i64))], [.own (.int .u8) 5]⟩, [(.exit 0, ⟨[(3, .lit (.own 0))], [.own (.int .u8) 5]⟩)]⟩
noncomputable def ref14_Lower_L3 (X : ((List UInt8 × (Int × Unit)) × ((List Int) × Unit)) → Option ((Unit × ((List Int) × Unit)))) (s0 : List UInt8) (i4 : Int) (h0 : List (Int)) : Option ((Unit × ((List Int) × Unit))) :=
 bif (decide (i4 < (((List.length s0) : Nat) : Int))) then
  Option.bind (getI s0 i4) fun (v5 : UInt8) =>
  Option.bind (ref14_small N (((@UInt8.toNat v5) : Nat) : Int)) fun v6 =>
  bif (decide ((0 : Int) ≤ i4 ∧ i4 < (((List.length h0) : Nat) : Int))) then
   Option.bind (h0[Int.toNat i4]?) fun (v7 : Int) =>
   (X ((s0, ((IntKind.wrap .i64 (i4 + 1)), ())), ((@List.set Int h0 (Int.toNat i4) v6), ())))
  else
   none
 else
  some (((), (h0, ())))
noncomputable def ref14_Lower_L3_R (c : ((List UInt8 × (Int × Unit)) × ((List Int) × Unit))) : Option ((Unit × ((List Int) × Unit))) := gl (fun X c => ref14_Lower_L3 N X c.1.1 c.1.2.1 c.2.1) N c
theorem ref14_Lower_L3_S (X : ((List UInt8 × (Int × Unit)) × ((List Int) × Unit)) → Option ((Unit × ((List Int) × Unit)))) (s0 : List UInt8) (i4 : Int) (h0 : List (Int)) : (roundK Tryd.prog (Ev19 N) 400 [51] ref14_Lower_L3_I (loopAt Tryd.prog [51] 3) X ((s0, i4, ()), (h0, ()))).run = ref14_Lower_L3 N X s0 i4 h0 := by kernel_rfl
noncomputable def Ev20 : (R : Type) → Env R := Env.addLp (Ev19 N) [51] 0 3 (fun R => lpK Tryd.prog ref14_Lower_L3_I (fun X c => ref14_Lower_L3 N X c.1.1 c.1.2.1 c.2.1) N)
theorem Ev20_ok (R : Type) : EnvOK Tryd.prog (Ev20 N R) := EnvOK.addLp (Ev19_ok N R) (by kernel_rfl) (lpK_ok (li := ref14_Lower_L3_I) (G := fun X c => ref14_Lower_L3 N X c.1.1 c.1.2.1 c.2.1) hmx (Ev19_ok N _) (by kernel_rfl) loopAt_sub (fun (X : CT ref14_Lower_L3_I.sh → Option (OT ref14_Lower_L3_I.outs)) (c : CT ref14_Lower_L3_I.sh) => ref14_Lower_L3_S N X c.1.1 c.1.2.1 c.2.1) N)
noncomputable def ref14_Lower (s0 : List UInt8) : Option (List UInt8) :=
 bif ((decide ((0 : Int) ≤ (((List.length s0) : Nat) : Int) ∧ (((List.length s0) : Nat) : Int) ≤ (((List.length s0) : Nat) : Int))) && (roomB (Int.toNat (((List.length s0) : Nat) : Int)) 1)) then
  Option.bind (ref14_Lower_L3_R N ((s0, ((0 : Int), ())), ((@List.replicate Int (Int.toNat (((List.length s0) : Nat) : Int)) (0 : Int)), ()))) fun v2 =>
  Option.bind (@toBy v2.2.1) fun (v3 : (List UInt8)) =>
  some (v3)
 else
  none
theorem ref14_Lower_S (s0 : List UInt8) : (runK Tryd.prog (Ev20 N) 400 51 [.str] [.str] (s0, ())).run = ref14_Lower N s0 := by kernel_rfl
noncomputable def Ev21 : (R : Type) → Env R := Env.addFn (Ev20 N) 51 (fun R => fnK [.str] [.str] (fun c => ref14_Lower N c.1))
theorem Ev21_ok (R : Type) : EnvOK Tryd.prog (Ev21 N R) := EnvOK.addFn hmx (Ev20_ok N R) (Ev20_ok N _) (by kernel_rfl) (fun c => ref14_Lower_S N c.1)
noncomputable def ref14_Alike (a0 : List UInt8) (b1 : List UInt8) : Option Bool :=
 Option.bind (ref14_Lower N a0) fun v3 =>
 Option.bind (ref14_Lower N b1) fun v4 =>
 some ((decide (v3 = v4)))
theorem ref14_Alike_S (a0 : List UInt8) (b1 : List UInt8) : (runK Tryd.prog (Ev21 N) 400 45 [.str, .str] [.bool] (a0, b1, ())).run = ref14_Alike N a0 b1 := by kernel_rfl
noncomputable def Ev22 : (R : Type) → Env R := Env.addFn (Ev21 N) 45 (fun R => fnK [.str, .str] [.bool] (fun c => ref14_Alike N c.1 c.2.1))
theorem Ev22_ok (R : Type) : EnvOK Tryd.prog (Ev22 N R) := EnvOK.addFn hmx (Ev21_ok N R) (Ev21_ok N _) (by kernel_rfl) (fun c => ref14_Alike_S N c.1 c.2.1)
noncomputable def ref14_Token_L2_I : LI := ⟨62, 0, [], ⟨[(0, .ty .str), (3, .ty (.int .i64))], []⟩, [(.ret, ⟨[(2, .ty .bool)], []⟩), (.exit 0, ⟨[(0, .ty .str)], []⟩)]⟩
noncomputable def ref14_Token_L2 (X : ((List UInt8 × (Int × Unit)) × Unit) → Option ((((Bool × Unit) × Unit) ⊕ ((List UInt8 × Unit) × Unit)))) (s0 : List UInt8) (i3 : Int) : Option ((((Bool × Unit) × Unit) ⊕ ((List UInt8 × Unit) × Unit))) :=
 bif (decide (i3 < (((List.length s0) : Nat) : Int))) then
  Option.bind (getI s0 i3) fun (v4 : UInt8) =>
  Option.bind (ref14_small N (((@UInt8.toNat v4) : Nat) : Int)) fun v5 =>
  Option.bind (bif (decide ((97 : Int) ≤ v5)) then
    some ((cond true (decide (v5 ≤ (122 : Int))) false))
   else
    some (false)) fun (v6 : Bool) =>
  Option.bind (bif v6 then
    some (true)
   else
    bif (decide ((48 : Int) ≤ v5)) then
     some ((cond false true (cond true (decide (v5 ≤ (57 : Int))) false)))
    else
     some ((cond false true false))) fun (v7 : Bool) =>
  Option.bind (bif v7 then
    some (true)
   else
    some ((cond false true (decide (v5 = (45 : Int)))))) fun (v8 : Bool) =>
  Option.bind (bif v8 then
    some (true)
   else
    some ((cond false true (decide (v5 = (95 : Int)))))) fun (v9 : Bool) =>
  Option.bind (bif v9 then
    some (true)
   else
    some ((cond false true (decide (v5 = (46 : Int)))))) fun (v10 : Bool) =>
  Option.bind (bif v10 then
    some (true)
   else
    some ((cond false true (decide (v5 = (123 : Int)))))) fun (v11 : Bool) =>
  Option.bind (bif v11 then
    some (true)
   else
    some ((cond false true (decide (v5 = (125 : Int)))))) fun (v12 : Bool) =>
  Option.bind (bif v12 then
    some (true)
   else
    some ((cond false true (decide (v5 = (47 : Int)))))) fun (v13 : Bool) =>
  bif (!v13) then
   some ((.inl ((false, ()), ())))
  else
   (X ((s0, ((IntKind.wrap .i64 (i3 + 1)), ())), ()))
 else
  some ((.inr ((s0, ()), ())))
noncomputable def ref14_Token_L2_R (c : ((List UInt8 × (Int × Unit)) × Unit)) : Option ((((Bool × Unit) × Unit) ⊕ ((List UInt8 × Unit) × Unit))) := gl (fun X c => ref14_Token_L2 N X c.1.1 c.1.2.1) N c
theorem ref14_Token_L2_S (X : ((List UInt8 × (Int × Unit)) × Unit) → Option ((((Bool × Unit) × Unit) ⊕ ((List UInt8 × Unit) × Unit)))) (s0 : List UInt8) (i3 : Int) : (roundK Tryd.prog (Ev22 N) 400 [43] ref14_Token_L2_I (loopAt Tryd.prog [43] 2) X ((s0, i3, ()), ())).run = ref14_Token_L2 N X s0 i3 := by kernel_rfl
noncomputable def Ev23 : (R : Type) → Env R := Env.addLp (Ev22 N) [43] 0 2 (fun R => lpK Tryd.prog ref14_Token_L2_I (fun X c => ref14_Token_L2 N X c.1.1 c.1.2.1) N)
theorem Ev23_ok (R : Type) : EnvOK Tryd.prog (Ev23 N R) := EnvOK.addLp (Ev22_ok N R) (by kernel_rfl) (lpK_ok (li := ref14_Token_L2_I) (G := fun X c => ref14_Token_L2 N X c.1.1 c.1.2.1) hmx (Ev22_ok N _) (by kernel_rfl) loopAt_sub (fun (X : CT ref14_Token_L2_I.sh → Option (OT ref14_Token_L2_I.outs)) (c : CT ref14_Token_L2_I.sh) => ref14_Token_L2_S N X c.1.1 c.1.2.1) N)
noncomputable def ref14_Token (s0 : List UInt8) : Option Bool :=
 Option.bind (ref14_Token_L2_R N ((s0, ((0 : Int), ())), ())) fun v2 =>
 Sum.elim
  (fun (v3 : ((Bool × Unit) × Unit)) =>
  some (v3.1.1))
  (fun (v3 : ((List UInt8 × Unit) × Unit)) =>
  bif (decide ((1 : Int) ≤ (((List.length v3.1.1) : Nat) : Int))) then
   Option.bind (some ((cond true (decide ((((List.length v3.1.1) : Nat) : Int) ≤ (64 : Int))) false))) fun (v4 : Bool) =>
   some (v4)
  else
   Option.bind (some (false)) fun (v4 : Bool) =>
   some (v4)) v2
theorem ref14_Token_S (s0 : List UInt8) : (runK Tryd.prog (Ev23 N) 400 43 [.str] [.bool] (s0, ())).run = ref14_Token N s0 := by kernel_rfl
noncomputable def Ev24 : (R : Type) → Env R := Env.addFn (Ev23 N) 43 (fun R => fnK [.str] [.bool] (fun c => ref14_Token N c.1))
theorem Ev24_ok (R : Type) : EnvOK Tryd.prog (Ev24 N R) := EnvOK.addFn hmx (Ev23_ok N R) (Ev23_ok N _) (by kernel_rfl) (fun c => ref14_Token_S N c.1)
noncomputable def ref14_blank (N : Nat) (c0 : Int) : Option Bool :=
 Option.bind (bif (decide (c0 = (32 : Int))) then
   some (true)
  else
   some ((cond false true (decide (c0 = (9 : Int)))))) fun (v2 : Bool) =>
 some (v2)
theorem ref14_blank_S (c0 : Int) : (runK Tryd.prog (Ev24 N) 400 50 [(.int .u8)] [.bool] (c0, ())).run = ref14_blank N c0 := by kernel_rfl
noncomputable def Ev25 : (R : Type) → Env R := Env.addFn (Ev24 N) 50 (fun R => fnK [(.int .u8)] [.bool] (fun c => ref14_blank N c.1))
theorem Ev25_ok (R : Type) : EnvOK Tryd.prog (Ev25 N R) := EnvOK.addFn hmx (Ev24_ok N R) (Ev24_ok N _) (by kernel_rfl) (fun c => ref14_blank_S N c.1)
noncomputable def ref14_Trim_L1_I : LI := ⟨30, 0, [], ⟨[(0, .ty .str)], []⟩, [(.exit 0, ⟨[(0, .ty .str)], []⟩)]⟩
noncomputable def ref14_Trim_L1 (X : ((List UInt8 × Unit) × Unit) → Option (((List UInt8 × Unit) × Unit))) (s0 : List UInt8) : Option (((List UInt8 × Unit) × Unit)) :=
 bif (decide ((0 : Int) < (((List.length s0) : Nat) : Int))) then
  Option.bind (getI s0 (0 : Int)) fun (v3 : UInt8) =>
  Option.bind (ref14_blank N (((@UInt8.toNat v3) : Nat) : Int)) fun v4 =>
  bif (cond true v4 false) then
   Option.bind (dropI s0 (1 : Int)) fun (v5 : (List UInt8)) =>
   (X ((v5, ()), ()))
  else
   some (((s0, ()), ()))
 else
  some (((s0, ()), ()))
noncomputable def ref14_Trim_L1_R (c : ((List UInt8 × Unit) × Unit)) : Option (((List UInt8 × Unit) × Unit)) := gl (fun X c => ref14_Trim_L1 N X c.1.1) N c
theorem ref14_Trim_L1_S (X : ((List UInt8 × Unit) × Unit) → Option (((List UInt8 × Unit) × Unit))) (s0 : List UInt8) : (roundK Tryd.prog (Ev25 N) 400 [44] ref14_Trim_L1_I (loopAt Tryd.prog [44] 1) X ((s0, ()), ())).run = ref14_Trim_L1 N X s0 := by kernel_rfl
noncomputable def Ev26 : (R : Type) → Env R := Env.addLp (Ev25 N) [44] 0 1 (fun R => lpK Tryd.prog ref14_Trim_L1_I (fun X c => ref14_Trim_L1 N X c.1.1) N)
theorem Ev26_ok (R : Type) : EnvOK Tryd.prog (Ev26 N R) := EnvOK.addLp (Ev25_ok N R) (by kernel_rfl) (lpK_ok (li := ref14_Trim_L1_I) (G := fun X c => ref14_Trim_L1 N X c.1.1) hmx (Ev25_ok N _) (by kernel_rfl) loopAt_sub (fun (X : CT ref14_Trim_L1_I.sh → Option (OT ref14_Trim_L1_I.outs)) (c : CT ref14_Trim_L1_I.sh) => ref14_Trim_L1_S N X c.1.1) N)
noncomputable def ref14_Trim_L3_I : LI := ⟨30, 0, [], ⟨[(0, .ty .str)], []⟩, [(.exit 2, ⟨[(0, .ty .str)], []⟩)]⟩
noncomputable def ref14_Trim_L3 (X : ((List UInt8 × Unit) × Unit) → Option (((List UInt8 × Unit) × Unit))) (s0 : List UInt8) : Option (((List UInt8 × Unit) × Unit)) :=
 bif (decide ((0 : Int) < (((List.length s0) : Nat) : Int))) then
  Option.bind (getI s0 (IntKind.wrap .i64 ((((List.length s0) : Nat) : Int) - 1))) fun (v3 : UInt8) =>
  Option.bind (ref14_blank N (((@UInt8.toNat v3) : Nat) : Int)) fun v4 =>
  bif (cond true v4 false) then
   Option.bind (takeI s0 (IntKind.wrap .i64 ((((List.length s0) : Nat) : Int) - 1))) fun (v5 : (List UInt8)) =>
   (X ((v5, ()), ()))
  else
   some (((s0, ()), ()))
 else
  some (((s0, ()), ()))
noncomputable def ref14_Trim_L3_R (c : ((List UInt8 × Unit) × Unit)) : Option (((List UInt8 × Unit) × Unit)) := gl (fun X c => ref14_Trim_L3 N X c.1.1) N c
theorem ref14_Trim_L3_S (X : ((List UInt8 × Unit) × Unit) → Option (((List UInt8 × Unit) × Unit))) (s0 : List UInt8) : (roundK Tryd.prog (Ev26 N) 400 [44] ref14_Trim_L3_I (loopAt Tryd.prog [44] 3) X ((s0, ()), ())).run = ref14_Trim_L3 N X s0 := by kernel_rfl
noncomputable def Ev27 : (R : Type) → Env R := Env.addLp (Ev26 N) [44] 0 3 (fun R => lpK Tryd.prog ref14_Trim_L3_I (fun X c => ref14_Trim_L3 N X c.1.1) N)
theorem Ev27_ok (R : Type) : EnvOK Tryd.prog (Ev27 N R) := EnvOK.addLp (Ev26_ok N R) (by kernel_rfl) (lpK_ok (li := ref14_Trim_L3_I) (G := fun X c => ref14_Trim_L3 N X c.1.1) hmx (Ev26_ok N _) (by kernel_rfl) loopAt_sub (fun (X : CT ref14_Trim_L3_I.sh → Option (OT ref14_Trim_L3_I.outs)) (c : CT ref14_Trim_L3_I.sh) => ref14_Trim_L3_S N X c.1.1) N)
noncomputable def ref14_Trim (s0 : List UInt8) : Option (List UInt8) :=
 Option.bind (ref14_Trim_L1_R N ((s0, ()), ())) fun v2 =>
 Option.bind (ref14_Trim_L3_R N ((v2.1.1, ()), ())) fun v3 =>
 some (v3.1.1)
theorem ref14_Trim_S (s0 : List UInt8) : (runK Tryd.prog (Ev27 N) 400 44 [.str] [.str] (s0, ())).run = ref14_Trim N s0 := by kernel_rfl
noncomputable def Ev28 : (R : Type) → Env R := Env.addFn (Ev27 N) 44 (fun R => fnK [.str] [.str] (fun c => ref14_Trim N c.1))
theorem Ev28_ok (R : Type) : EnvOK Tryd.prog (Ev28 N R) := EnvOK.addFn hmx (Ev27_ok N R) (Ev27_ok N _) (by kernel_rfl) (fun c => ref14_Trim_S N c.1)
noncomputable def Ev29 : (R : Type) → Env R := Env.addMv (Ev28 N) [(30, 14)]
theorem Ev29_ok (R : Type) : EnvOK Tryd.prog (Ev29 N R) := EnvOK.addMv (Ev28_ok N R) [(30, 14)]
noncomputable def ref14_Head_L4_I : LI := ⟨89, 0, [(5, 9)], ⟨[(0, .ty (.sl (.int .u8))), (5, .lit (.own 0)), (6, .ty .str), (7, .ty (.int .i64))], [.own .str 9]⟩, [(.ret, ⟨[(2, .ty (.sl .str)), (3, .ty (.int .i64)), (4, .ty (.int .i64))], []⟩), (.exit 0, ⟨[(0, .ty (.sl (.int .u8)))], []⟩)]⟩
noncomputable def ref14_Head_L4 (N : Nat) (X : (((List Int) × (List UInt8 × (Int × Unit))) × ((List (List UInt8)) × Unit)) → Option (((((List (List UInt8)) × (Int × (Int × Unit))) × Unit) ⊕ (((List Int) × Unit) × Unit)))) (b0 : List (Int)) (line6 : List UInt8) (i7 : Int) (h0 : List (List UInt8)) : Option (((((List (List UInt8)) × (Int × (Int × Unit))) × Unit) ⊕ (((List Int) × Unit) × Unit))) :=
 Option.bind (bif (decide (i7 < (((List.length b0) : Nat) : Int))) then
   some ((cond true (decide (i7 < (2048 : Int))) false))
  else
   some (false)) fun (v6 : Bool) =>
 bif v6 then
  Option.bind (getI b0 i7) fun (v7 : Int) =>
  Option.bind (bif (decide ((32 : Int) ≤ v7)) then
    some ((cond true (decide (v7 ≤ (126 : Int))) false))
   else
    some (false)) fun (v8 : Bool) =>
  Option.bind (bif v8 then
    some (true)
   else
    some ((cond false true (decide (v7 = (9 : Int)))))) fun (v9 : Bool) =>
  bif v9 then
   Option.bind (subI b0 i7 (IntKind.wrap .i64 (i7 + 1))) fun (v10 : (List Int)) =>
   Option.bind (@toBy v10) fun (v11 : (List UInt8)) =>
   bif (decide (((List.length line6) + (List.length v11)) ≤ maxLen)) then
    (X ((b0, ((line6 ++ v11), ((IntKind.wrap .i64 (i7 + 1)), ()))), (h0, ())))
   else
    none
  else
   bif (decide (v7 = (13 : Int))) then
    Option.bind (bif (decide ((IntKind.wrap .i64 (i7 + 1)) = (((List.length b0) : Nat) : Int))) then
      some ((cond true true false))
     else
      bif (cond false true (decide ((IntKind.wrap .i64 (i7 + 1)) = (2048 : Int)))) then
       some ((cond true true false))
      else
       Option.bind (getI b0 (IntKind.wrap .i64 (i7 + 1))) fun (v10 : Int) =>
       some ((cond true (cond false true (decide (v10 = (10 : Int)))) false))) fun (v10 : Bool) =>
    bif v10 then
     (X ((b0, (line6, ((IntKind.wrap .i64 (i7 + 1)), ()))), (h0, ())))
    else
     Option.bind (bif (!(decide (v7 = (10 : Int)))) then
       some (true)
      else
       some ((cond false true (decide (i7 = (0 : Int)))))) fun (v11 : Bool) =>
     Option.bind (bif v11 then
       some (true)
      else
       Option.bind (getI b0 (IntKind.wrap .i64 (i7 - 1))) fun (v12 : Int) =>
       some ((cond false true (!(decide (v12 = (13 : Int))))))) fun (v12 : Bool) =>
     bif v12 then
      some ((.inl ((([] : List ((List UInt8))), ((0 : Int), ((3 : Int), ()))), ())))
     else
      bif (decide (line6 = (Array.toList (List.toArray ([] : List UInt8))))) then
       some ((.inl ((h0, ((IntKind.wrap .i64 (i7 + 1)), ((0 : Int), ()))), ())))
      else
       bif (roomB ((List.length h0) + (List.length ([line6] : List ((List UInt8))))) 16) then
        (X ((b0, ((Array.toList (List.toArray ([] : List UInt8))), ((IntKind.wrap .i64 (i7 + 1)), ()))), ((h0 ++ ([line6] : List ((List UInt8)))), ())))
       else
        none
   else
    Option.bind (some (false)) fun (v10 : Bool) =>
    bif v10 then
     (X ((b0, (line6, ((IntKind.wrap .i64 (i7 + 1)), ()))), (h0, ())))
    else
     Option.bind (bif (!(decide (v7 = (10 : Int)))) then
       some (true)
      else
       some ((cond false true (decide (i7 = (0 : Int)))))) fun (v11 : Bool) =>
     Option.bind (bif v11 then
       some (true)
      else
       Option.bind (getI b0 (IntKind.wrap .i64 (i7 - 1))) fun (v12 : Int) =>
       some ((cond false true (!(decide (v12 = (13 : Int))))))) fun (v12 : Bool) =>
     bif v12 then
      some ((.inl ((([] : List ((List UInt8))), ((0 : Int), ((3 : Int), ()))), ())))
     else
      bif (decide (line6 = (Array.toList (List.toArray ([] : List UInt8))))) then
       some ((.inl ((h0, ((IntKind.wrap .i64 (i7 + 1)), ((0 : Int), ()))), ())))
      else
       bif (roomB ((List.length h0) + (List.length ([line6] : List ((List UInt8))))) 16) then
        (X ((b0, ((Array.toList (List.toArray ([] : List UInt8))), ((IntKind.wrap .i64 (i7 + 1)), ()))), ((h0 ++ ([line6] : List ((List UInt8)))), ())))
       else
        none
 else
  some ((.inr ((b0, ()), ())))
noncomputable def ref14_Head_L4_R (c : (((List Int) × (List UInt8 × (Int × Unit))) × ((List (List UInt8)) × Unit))) : Option (((((List (List UInt8)) × (Int × (Int × Unit))) × Unit) ⊕ (((List Int) × Unit) × Unit))) := gl (fun X c => ref14_Head_L4 N X c.1.1 c.1.2.1 c.1.2.2.1 c.2.1) N c
theorem ref14_Head_L4_S (X : (((List Int) × (List UInt8 × (Int × Unit))) × ((List (List UInt8)) × Unit)) → Option (((((List (List UInt8)) × (Int × (Int × Unit))) × Unit) ⊕ (((List Int) × Unit) × Unit)))) (b0 : List (Int)) (line6 : List UInt8) (i7 : Int) (h0 : List (List UInt8)) : (roundK Tryd.prog (Ev29 N) 400 [30] ref14_Head_L4_I (loopAt Tryd.prog [30] 4) X ((b0, line6, i7, ()), (h0, ()))).run = ref14_Head_L4 N X b0 line6 i7 h0 := by kernel_rfl
noncomputable def Ev30 : (R : Type) → Env R := Env.addLp (Ev29 N) [30] 0 4 (fun R => lpK Tryd.prog ref14_Head_L4_I (fun X c => ref14_Head_L4 N X c.1.1 c.1.2.1 c.1.2.2.1 c.2.1) N)
theorem Ev30_ok (R : Type) : EnvOK Tryd.prog (Ev30 N R) := EnvOK.addLp (Ev29_ok N R) (by kernel_rfl) (lpK_ok (li := ref14_Head_L4_I) (G := fun X c => ref14_Head_L4 N X c.1.1 c.1.2.1 c.1.2.2.1 c.2.1) hmx (Ev29_ok N _) (by kernel_rfl) loopAt_sub (fun (X : CT ref14_Head_L4_I.sh → Option (OT ref14_Head_L4_I.outs)) (c : CT ref14_Head_L4_I.sh) => ref14_Head_L4_S N X c.1.1 c.1.2.1 c.1.2.2.1 c.2.1) N)
noncomputable def ref14_Head (b0 : List (Int)) : Option ((List (List UInt8)) × Int × Int) :=
 Option.bind (ref14_Head_L4_R N ((b0, ((Array.toList (List.toArray ([] : List UInt8))), ((0 : Int), ()))), (([] : List ((List UInt8))), ()))) fun v2 =>
 Sum.elim
  (fun (v3 : (((List (List UInt8)) × (Int × (Int × Unit))) × Unit)) =>
  some ((v3.1.1, (v3.1.2.1, v3.1.2.2.1))))
  (fun (v3 : (((List Int) × Unit) × Unit)) =>
  bif (decide ((((List.length v3.1.1) : Nat) : Int) < (2048 : Int))) then
   some ((([] : List ((List UInt8))), ((0 : Int), (4 : Int))))
  else
   some ((([] : List ((List UInt8))), ((0 : Int), (8 : Int))))) v2
theorem ref14_Head_S (b0 : List (Int)) : (runK Tryd.prog (Ev30 N) 400 30 [(.sl (.int .u8))] [(.sl .str), (.int .i64), (.int .i64)] (b0, ())).run = ref14_Head N b0 := by kernel_rfl
noncomputable def Ev31 : (R : Type) → Env R := Env.addFn (Ev30 N) 30 (fun R => fnK [(.sl (.int .u8))] [(.sl .str), (.int .i64), (.int .i64)] (fun c => ref14_Head N c.1))
theorem Ev31_ok (R : Type) : EnvOK Tryd.prog (Ev31 N R) := EnvOK.addFn hmx (Ev30_ok N R) (Ev30_ok N _) (by kernel_rfl) (fun c => ref14_Head_S N c.1)
noncomputable def ref14_Fields_L8_I : LI := ⟨70, 0, [], ⟨[(0, .ty (.sl .str)), (4, .lit (.own 0)), (5, .ty (.int .i64)), (6, .ty (.int .i64))], [.own (.pair .str .str) 81]⟩, [(.exit 2, ⟨[(0, .ty (.sl .str)), (4, .lit (.own 0)), (5, .ty (.int .i64)), (6, .ty (.int .i64))], [.own (.pair .str .str) 81]⟩)]⟩
noncomputable def ref14_Fields_L8 (N : Nat) (X : (((List (List UInt8)) × (Int × (Int × Unit))) × ((List (List UInt8 × (List UInt8))) × Unit)) → Option ((((List (List UInt8)) × (Int × (Int × Unit))) × ((List (List UInt8 × (List UInt8))) × Unit)))) (lines0 : List (List UInt8)) (i5 : Int) (x6 : Int) (h0 : List (List UInt8 × (List UInt8))) : Option ((((List (List UInt8)) × (Int × (Int × Unit))) × ((List (List UInt8 × (List UInt8))) × Unit))) :=
 Option.bind (getI lines0 i5) fun (v6 : (List UInt8)) =>
 Option.bind (bif (decide (x6 < (((List.length v6) : Nat) : Int))) then
   Option.bind (getI lines0 i5) fun (v7 : (List UInt8)) =>
   Option.bind (getI v7 x6) fun (v8 : UInt8) =>
   some ((cond true (!(decide ((((@UInt8.toNat v8) : Nat) : Int) = (58 : Int)))) false))
  else
   some (false)) fun (v7 : Bool) =>
 bif v7 then
  (X ((lines0, (i5, ((IntKind.wrap .i64 (x6 + 1)), ()))), (h0, ())))
 else
  some (((lines0, (i5, (x6, ()))), (h0, ())))
noncomputable def ref14_Fields_L8_R (c : (((List (List UInt8)) × (Int × (Int × Unit))) × ((List (List UInt8 × (List UInt8))) × Unit))) : Option ((((List (List UInt8)) × (Int × (Int × Unit))) × ((List (List UInt8 × (List UInt8))) × Unit))) := gl (fun X c => ref14_Fields_L8 N X c.1.1 c.1.2.1 c.1.2.2.1 c.2.1) N c
theorem ref14_Fields_L8_S (X : (((List (List UInt8)) × (Int × (Int × Unit))) × ((List (List UInt8 × (List UInt8))) × Unit)) → Option ((((List (List UInt8)) × (Int × (Int × Unit))) × ((List (List UInt8 × (List UInt8))) × Unit)))) (lines0 : List (List UInt8)) (i5 : Int) (x6 : Int) (h0 : List (List UInt8 × (List UInt8))) : (roundK Tryd.prog (Ev31 N) 400 [32] ref14_Fields_L8_I (loopAt Tryd.prog [32] 8) X ((lines0, i5, x6, ()), (h0, ()))).run = ref14_Fields_L8 N X lines0 i5 x6 h0 := by kernel_rfl
noncomputable def Ev32 : (R : Type) → Env R := Env.addLp (Ev31 N) [32] 0 8 (fun R => lpK Tryd.prog ref14_Fields_L8_I (fun X c => ref14_Fields_L8 N X c.1.1 c.1.2.1 c.1.2.2.1 c.2.1) N)
theorem Ev32_ok (R : Type) : EnvOK Tryd.prog (Ev32 N R) := EnvOK.addLp (Ev31_ok N R) (by kernel_rfl) (lpK_ok (li := ref14_Fields_L8_I) (G := fun X c => ref14_Fields_L8 N X c.1.1 c.1.2.1 c.1.2.2.1 c.2.1) hmx (Ev31_ok N _) (by kernel_rfl) loopAt_sub (fun (X : CT ref14_Fields_L8_I.sh → Option (OT ref14_Fields_L8_I.outs)) (c : CT ref14_Fields_L8_I.sh) => ref14_Fields_L8_S N X c.1.1 c.1.2.1 c.1.2.2.1 c.2.1) N)
noncomputable def ref14_Fields_L5_I : LI := ⟨70, 0, [(4, 81)], ⟨[(0, .ty (.sl .str)), (4, .lit (.own 0)), (5, .ty (.int .i64))], [.own (.pair .str .str) 81]⟩, [(.ret, ⟨[(2, .ty (.sl (.pair .str .str))), (3, .ty (.int .i64))], []⟩), (.exit 0, ⟨[(4, .lit (.own 0))], [.own (.pair .str .str) 81]⟩)]⟩
noncomputable def ref14_Fields_L5 (X : (((List (List UInt8)) × (Int × Unit)) × ((List (List UInt8 × (List UInt8))) × Unit)) → Option (((((List (List UInt8 × (List UInt8))) × (Int × Unit)) × Unit) ⊕ (Unit × ((List (List UInt8 × (List UInt8))) × Unit))))) (lines0 : List (List UInt8)) (i5 : Int) (h0 : List (List UInt8 × (List UInt8))) : Option (((((List (List UInt8 × (List UInt8))) × (Int × Unit)) × Unit) ⊕ (Unit × ((List (List UInt8 × (List UInt8))) × Unit)))) :=
 bif (decide (i5 < (((List.length lines0) : Nat) : Int))) then
  Option.bind (ref14_Fields_L8_R N ((lines0, (i5, ((0 : Int), ()))), (h0, ()))) fun v5 =>
  Option.bind (getI v5.1.1 v5.1.2.1) fun (v6 : (List UInt8)) =>
  bif (decide (v5.1.2.2.1 = (((List.length v6) : Nat) : Int))) then
   Option.bind (some (true)) fun (v7 : Bool) =>
   bif v7 then
    some ((.inl ((([] : List ((List UInt8 × (List UInt8)))), ((3 : Int), ())), ())))
   else
    Option.bind (getI v5.1.1 v5.1.2.1) fun (v8 : (List UInt8)) =>
    Option.bind (takeI v8 v5.1.2.2.1) fun (v9 : (List UInt8)) =>
    Option.bind (getI v5.1.1 v5.1.2.1) fun (v10 : (List UInt8)) =>
    Option.bind (dropI v10 (IntKind.wrap .i64 (v5.1.2.2.1 + 1))) fun (v11 : (List UInt8)) =>
    Option.bind (ref14_Trim N v11) fun v12 =>
    bif (roomB ((List.length v5.2.1) + (List.length ([(v9, v12)] : List ((List UInt8 × (List UInt8)))))) 32) then
     (X ((v5.1.1, ((IntKind.wrap .i64 (v5.1.2.1 + 1)), ())), ((v5.2.1 ++ ([(v9, v12)] : List ((List UInt8 × (List UInt8))))), ())))
    else
     none
  else
   Option.bind (getI v5.1.1 v5.1.2.1) fun (v7 : (List UInt8)) =>
   Option.bind (takeI v7 v5.1.2.2.1) fun (v8 : (List UInt8)) =>
   Option.bind (ref14_Token N v8) fun v9 =>
   Option.bind (some ((cond false true (!v9)))) fun (v10 : Bool) =>
   bif v10 then
    some ((.inl ((([] : List ((List UInt8 × (List UInt8)))), ((3 : Int), ())), ())))
   else
    Option.bind (getI v5.1.1 v5.1.2.1) fun (v11 : (List UInt8)) =>
    Option.bind (takeI v11 v5.1.2.2.1) fun (v12 : (List UInt8)) =>
    Option.bind (getI v5.1.1 v5.1.2.1) fun (v13 : (List UInt8)) =>
    Option.bind (dropI v13 (IntKind.wrap .i64 (v5.1.2.2.1 + 1))) fun (v14 : (List UInt8)) =>
    Option.bind (ref14_Trim N v14) fun v15 =>
    bif (roomB ((List.length v5.2.1) + (List.length ([(v12, v15)] : List ((List UInt8 × (List UInt8)))))) 32) then
     (X ((v5.1.1, ((IntKind.wrap .i64 (v5.1.2.1 + 1)), ())), ((v5.2.1 ++ ([(v12, v15)] : List ((List UInt8 × (List UInt8))))), ())))
    else
     none
 else
  some ((.inr ((), (h0, ()))))
noncomputable def ref14_Fields_L5_R (c : (((List (List UInt8)) × (Int × Unit)) × ((List (List UInt8 × (List UInt8))) × Unit))) : Option (((((List (List UInt8 × (List UInt8))) × (Int × Unit)) × Unit) ⊕ (Unit × ((List (List UInt8 × (List UInt8))) × Unit)))) := gl (fun X c => ref14_Fields_L5 N X c.1.1 c.1.2.1 c.2.1) N c
theorem ref14_Fields_L5_S (X : (((List (List UInt8)) × (Int × Unit)) × ((List (List UInt8 × (List UInt8))) × Unit)) → Option (((((List (List UInt8 × (List UInt8))) × (Int × Unit)) × Unit) ⊕ (Unit × ((List (List UInt8 × (List UInt8))) × Unit))))) (lines0 : List (List UInt8)) (i5 : Int) (h0 : List (List UInt8 × (List UInt8))) : (roundK Tryd.prog (Ev32 N) 400 [32] ref14_Fields_L5_I (loopAt Tryd.prog [32] 5) X ((lines0, i5, ()), (h0, ()))).run = ref14_Fields_L5 N X lines0 i5 h0 := by kernel_rfl
noncomputable def Ev33 : (R : Type) → Env R := Env.addLp (Ev32 N) [32] 0 5 (fun R => lpK Tryd.prog ref14_Fields_L5_I (fun X c => ref14_Fields_L5 N X c.1.1 c.1.2.1 c.2.1) N)
theorem Ev33_ok (R : Type) : EnvOK Tryd.prog (Ev33 N R) := EnvOK.addLp (Ev32_ok N R) (by kernel_rfl) (lpK_ok (li := ref14_Fields_L5_I) (G := fun X c => ref14_Fields_L5 N X c.1.1 c.1.2.1 c.2.1) hmx (Ev32_ok N _) (by kernel_rfl) loopAt_sub (fun (X : CT ref14_Fields_L5_I.sh → Option (OT ref14_Fields_L5_I.outs)) (c : CT ref14_Fields_L5_I.sh) => ref14_Fields_L5_S N X c.1.1 c.1.2.1 c.2.1) N)
noncomputable def ref14_Fields (lines0 : List (List UInt8)) : Option ((List (List UInt8 × (List UInt8))) × Int) :=
 bif (decide ((32 : Int) < (((List.length lines0) : Nat) : Int))) then
  some ((([] : List ((List UInt8 × (List UInt8)))), (5 : Int)))
 else
  Option.bind (ref14_Fields_L5_R N ((lines0, ((0 : Int), ())), (([] : List ((List UInt8 × (List UInt8)))), ()))) fun v2 =>
  Sum.elim
   (fun (v3 : (((List (List UInt8 × (List UInt8))) × (Int × Unit)) × Unit)) =>
   some ((v3.1.1, v3.1.2.1)))
   (fun (v3 : (Unit × ((List (List UInt8 × (List UInt8))) × Unit))) =>
   some ((v3.2.1, (0 : Int)))) v2
theorem ref14_Fields_S (lines0 : List (List UInt8)) : (runK Tryd.prog (Ev33 N) 400 32 [(.sl .str)] [(.sl (.pair .str .str)), (.int .i64)] (lines0, ())).run = ref14_Fields N lines0 := by kernel_rfl
noncomputable def Ev34 : (R : Type) → Env R := Env.addFn (Ev33 N) 32 (fun R => fnK [(.sl .str)] [(.sl (.pair .str .str)), (.int .i64)] (fun c => ref14_Fields N c.1))
theorem Ev34_ok (R : Type) : EnvOK Tryd.prog (Ev34 N R) := EnvOK.addFn hmx (Ev33_ok N R) (Ev33_ok N _) (by kernel_rfl) (fun c => ref14_Fields_S N c.1)
noncomputable def ref14_Find_L3_I : LI := ⟨34, 0, [], ⟨[(0, .ty (.sl (.pair .str .str))), (1, .ty .str), (6, .ty (.int .i64)), (7, .ty .str), (8, .ty (.int .i64))], []⟩, [(.exit 0, ⟨[(6, .ty (.int .i64)), (7, .ty .str)], []⟩)]⟩
noncomputable def ref14_Find_L3 (X : (((List (List UInt8 × (List UInt8))) × (List UInt8 × (Int × (List UInt8 × (Int × Unit))))) × Unit) → Option (((Int × (List UInt8 × Unit)) × Unit))) (l0 : List (List UInt8 × (List UInt8))) (name1 : List UInt8) (many6 : Int) (value7 : List UInt8) (i8 : Int) : Option (((Int × (List UInt8 × Unit)) × Unit)) :=
 bif (decide (i8 < (((List.length l0) : Nat) : Int))) then
  Option.bind (getI l0 i8) fun (v7 : (List UInt8 × (List UInt8))) =>
  Option.bind (ref14_Alike N v7.1 name1) fun v8 =>
  bif v8 then
   Option.bind (getI l0 i8) fun (v9 : (List UInt8 × (List UInt8))) =>
   (X ((l0, (name1, ((IntKind.wrap .i64 (many6 + 1)), (v9.2, ((IntKind.wrap .i64 (i8 + 1)), ()))))), ()))
  else
   (X ((l0, (name1, (many6, (value7, ((IntKind.wrap .i64 (i8 + 1)), ()))))), ()))
 else
  some (((many6, (value7, ())), ()))
noncomputable def ref14_Find_L3_R (c : (((List (List UInt8 × (List UInt8))) × (List UInt8 × (Int × (List UInt8 × (Int × Unit))))) × Unit)) : Option (((Int × (List UInt8 × Unit)) × Unit)) := gl (fun X c => ref14_Find_L3 N X c.1.1 c.1.2.1 c.1.2.2.1 c.1.2.2.2.1 c.1.2.2.2.2.1) N c
theorem ref14_Find_L3_S (X : (((List (List UInt8 × (List UInt8))) × (List UInt8 × (Int × (List UInt8 × (Int × Unit))))) × Unit) → Option (((Int × (List UInt8 × Unit)) × Unit))) (l0 : List (List UInt8 × (List UInt8))) (name1 : List UInt8) (many6 : Int) (value7 : List UInt8) (i8 : Int) : (roundK Tryd.prog (Ev34 N) 400 [33] ref14_Find_L3_I (loopAt Tryd.prog [33] 3) X ((l0, name1, many6, value7, i8, ()), ())).run = ref14_Find_L3 N X l0 name1 many6 value7 i8 := by kernel_rfl
noncomputable def Ev35 : (R : Type) → Env R := Env.addLp (Ev34 N) [33] 0 3 (fun R => lpK Tryd.prog ref14_Find_L3_I (fun X c => ref14_Find_L3 N X c.1.1 c.1.2.1 c.1.2.2.1 c.1.2.2.2.1 c.1.2.2.2.2.1) N)
theorem Ev35_ok (R : Type) : EnvOK Tryd.prog (Ev35 N R) := EnvOK.addLp (Ev34_ok N R) (by kernel_rfl) (lpK_ok (li := ref14_Find_L3_I) (G := fun X c => ref14_Find_L3 N X c.1.1 c.1.2.1 c.1.2.2.1 c.1.2.2.2.1 c.1.2.2.2.2.1) hmx (Ev34_ok N _) (by kernel_rfl) loopAt_sub (fun (X : CT ref14_Find_L3_I.sh → Option (OT ref14_Find_L3_I.outs)) (c : CT ref14_Find_L3_I.sh) => ref14_Find_L3_S N X c.1.1 c.1.2.1 c.1.2.2.1 c.1.2.2.2.1 c.1.2.2.2.2.1) N)
noncomputable def ref14_Find (l0 : List (List UInt8 × (List UInt8))) (name1 : List UInt8) : Option (List UInt8 × Int) :=
 Option.bind (ref14_Find_L3_R N ((l0, (name1, ((0 : Int), ((Array.toList (List.toArray ([] : List UInt8))), ((0 : Int), ()))))), ())) fun v3 =>
 bif (decide (v3.1.1 = (0 : Int))) then
  some (((Array.toList (List.toArray ([] : List UInt8))), (6 : Int)))
 else
  bif (decide ((1 : Int) < v3.1.1)) then
   some (((Array.toList (List.toArray ([] : List UInt8))), (7 : Int)))
  else
   some ((v3.1.2.1, (0 : Int)))
theorem ref14_Find_S (l0 : List (List UInt8 × (List UInt8))) (name1 : List UInt8) : (runK Tryd.prog (Ev35 N) 400 33 [(.sl (.pair .str .str)), .str] [.str, (.int .i64)] (l0, name1, ())).run = ref14_Find N l0 name1 := by kernel_rfl
noncomputable def Ev36 : (R : Type) → Env R := Env.addFn (Ev35 N) 33 (fun R => fnK [(.sl (.pair .str .str)), .str] [.str, (.int .i64)] (fun c => ref14_Find N c.1 c.2.1))
theorem Ev36_ok (R : Type) : EnvOK Tryd.prog (Ev36 N R) := EnvOK.addFn hmx (Ev35_ok N R) (Ev35_ok N _) (by kernel_rfl) (fun c => ref14_Find_S N c.1 c.2.1)
noncomputable def ref01_Same_L4_I : LI := ⟨26, 0, [], ⟨[(0, .ty (.sl (.int .u8))), (1, .ty (.sl (.int .u8))), (5, .ty (.int .i64))], []⟩, [(.ret, ⟨[(4, .ty .bool)], []⟩), (.exit 0, ⟨[], []⟩)]⟩
noncomputable def ref01_Same_L4 (N : Nat) (X : (((List Int) × ((List Int) × (Int × Unit))) × Unit) → Option ((((Bool × Unit) × Unit) ⊕ (Unit × Unit)))) (a0 : List (Int)) (b1 : List (Int)) (i5 : Int) : Option ((((Bool × Unit) × Unit) ⊕ (Unit × Unit))) :=
 bif (decide (i5 < (((List.length a0) : Nat) : Int))) then
  Option.bind (getI a0 i5) fun (v5 : Int) =>
  Option.bind (getI b1 i5) fun (v6 : Int) =>
  bif (!(decide (v5 = v6))) then
   some ((.inl ((false, ()), ())))
  else
   (X ((a0, (b1, ((IntKind.wrap .i64 (i5 + 1)), ()))), ()))
 else
  some ((.inr ((), ())))
noncomputable def ref01_Same_L4_R (c : (((List Int) × ((List Int) × (Int × Unit))) × Unit)) : Option ((((Bool × Unit) × Unit) ⊕ (Unit × Unit))) := gl (fun X c => ref01_Same_L4 N X c.1.1 c.1.2.1 c.1.2.2.1) N c
theorem ref01_Same_L4_S (X : (((List Int) × ((List Int) × (Int × Unit))) × Unit) → Option ((((Bool × Unit) × Unit) ⊕ (Unit × Unit)))) (a0 : List (Int)) (b1 : List (Int)) (i5 : Int) : (roundK Tryd.prog (Ev36 N) 400 [11] ref01_Same_L4_I (loopAt Tryd.prog [11] 4) X ((a0, b1, i5, ()), ())).run = ref01_Same_L4 N X a0 b1 i5 := by kernel_rfl
noncomputable def Ev37 : (R : Type) → Env R := Env.addLp (Ev36 N) [11] 0 4 (fun R => lpK Tryd.prog ref01_Same_L4_I (fun X c => ref01_Same_L4 N X c.1.1 c.1.2.1 c.1.2.2.1) N)
theorem Ev37_ok (R : Type) : EnvOK Tryd.prog (Ev37 N R) := EnvOK.addLp (Ev36_ok N R) (by kernel_rfl) (lpK_ok (li := ref01_Same_L4_I) (G := fun X c => ref01_Same_L4 N X c.1.1 c.1.2.1 c.1.2.2.1) hmx (Ev36_ok N _) (by kernel_rfl) loopAt_sub (fun (X : CT ref01_Same_L4_I.sh → Option (OT ref01_Same_L4_I.outs)) (c : CT ref01_Same_L4_I.sh) => ref01_Same_L4_S N X c.1.1 c.1.2.1 c.1.2.2.1) N)
noncomputable def ref01_Same (a0 : List (Int)) (b1 : List (Int)) : Option Bool :=
 bif (!(decide ((((List.length a0) : Nat) : Int) = (((List.length b1) : Nat) : Int)))) then
  some (false)
 else
  Option.bind (ref01_Same_L4_R N ((a0, (b1, ((0 : Int), ()))), ())) fun v3 =>
  Sum.elim
   (fun (v4 : ((Bool × Unit) × Unit)) =>
   some (v4.1.1))
   (fun (v4 : (Unit × Unit)) =>
   some (true)) v3
theorem ref01_Same_S (a0 : List (Int)) (b1 : List (Int)) : (runK Tryd.prog (Ev37 N) 400 11 [(.sl (.int .u8)), (.sl (.int .u8))] [.bool] (a0, b1, ())).run = ref01_Same N a0 b1 := by kernel_rfl
noncomputable def Ev38 : (R : Type) → Env R := Env.addFn (Ev37 N) 11 (fun R => fnK [(.sl (.int .u8)), (.sl (.int .u8))] [.bool] (fun c => ref01_Same N c.1 c.2.1))
theorem Ev38_ok (R : Type) : EnvOK Tryd.prog (Ev38 N R) := EnvOK.addFn hmx (Ev37_ok N R) (Ev37_ok N _) (by kernel_rfl) (fun c => ref01_Same_S N c.1 c.2.1)
noncomputable def Ev39 : (R : Type) → Env R := Env.addMv (Ev38 N) [(24, 5)]
theorem Ev39_ok (R : Type) : EnvOK Tryd.prog (Ev39 N R) := EnvOK.addMv (Ev38_ok N R) [(24, 5)]
noncomputable def octs_Hex_L3_I : LI := ⟨28, 0, [], ⟨[(3, .lit (.own 0)), (10, .ty (.sl (.int .u8))), (11, .ty (.int .i64)), (12, .ty (.int .i64))], [.own (.int .u8) 5]⟩, [(.exit 0, ⟨[(3, .lit (.own 0))], [.own (.int .u8) 5]⟩)]⟩
noncomputable def octs_Hex_L3 (N : Nat) (X : (((List Int) × (Int × (Int × Unit))) × ((List Int) × Unit)) → Option ((Unit × ((List Int) × Unit)))) (x10 : List (Int)) (x11 : Int) (x12 : Int) (h0 : List (Int)) : Option ((Unit × ((List Int) × Unit))) :=
 bif (decide (x12 < x11)) then
  Option.bind (getI x10 x12) fun (v6 : Int) =>
  Option.bind (getI (Array.toList (List.toArray ([48, 49, 50, 51, 52, 53, 54, 55, 56, 57, 65, 66, 67, 68, 69, 70] : List UInt8))) (@Int.fdiv v6 ((2 : Int) ^ (min (Int.toNat (4 : Int)) (IntKind.bits .u8))))) fun (v7 : UInt8) =>
  Option.bind (getI (Array.toList (List.toArray ([48, 49, 50, 51, 52, 53, 54, 55, 56, 57, 65, 66, 67, 68, 69, 70] : List UInt8))) (bits .and .u8 v6 (15 : Int))) fun (v8 : UInt8) =>
  bif (roomB ((List.length h0) + (List.length ([(((@UInt8.toNat v7) : Nat) : Int), (((@UInt8.toNat v8) : Nat) : Int)] : List (Int)))) 1) then
   (X ((x10, (x11, ((IntKind.wrap .i64 (x12 + 1)), ()))), ((h0 ++ ([(((@UInt8.toNat v7) : Nat) : Int), (((@UInt8.toNat v8) : Nat) : Int)] : List (Int))), ())))
  else
   none
 else
  some (((), (h0, ())))
noncomputable def octs_Hex_L3_R (c : (((List Int) × (Int × (Int × Unit))) × ((List Int) × Unit))) : Option ((Unit × ((List Int) × Unit))) := gl (fun X c => octs_Hex_L3 N X c.1.1 c.1.2.1 c.1.2.2.1 c.2.1) N c
theorem octs_Hex_L3_S (X : (((List Int) × (Int × (Int × Unit))) × ((List Int) × Unit)) → Option ((Unit × ((List Int) × Unit)))) (x10 : List (Int)) (x11 : Int) (x12 : Int) (h0 : List (Int)) : (roundK Tryd.prog (Ev39 N) 400 [24] octs_Hex_L3_I (loopAt Tryd.prog [24] 3) X ((x10, x11, x12, ()), (h0, ()))).run = octs_Hex_L3 N X x10 x11 x12 h0 := by kernel_rfl
noncomputable def Ev40 : (R : Type) → Env R := Env.addLp (Ev39 N) [24] 0 3 (fun R => lpK Tryd.prog octs_Hex_L3_I (fun X c => octs_Hex_L3 N X c.1.1 c.1.2.1 c.1.2.2.1 c.2.1) N)
theorem Ev40_ok (R : Type) : EnvOK Tryd.prog (Ev40 N R) := EnvOK.addLp (Ev39_ok N R) (by kernel_rfl) (lpK_ok (li := octs_Hex_L3_I) (G := fun X c => octs_Hex_L3 N X c.1.1 c.1.2.1 c.1.2.2.1 c.2.1) hmx (Ev39_ok N _) (by kernel_rfl) loopAt_sub (fun (X : CT octs_Hex_L3_I.sh → Option (OT octs_Hex_L3_I.outs)) (c : CT octs_Hex_L3_I.sh) => octs_Hex_L3_S N X c.1.1 c.1.2.1 c.1.2.2.1 c.2.1) N)
noncomputable def octs_Hex (b0 : List (Int)) : Option (List UInt8) :=
 bif ((decide ((0 : Int) ≤ (0 : Int) ∧ (0 : Int) ≤ (IntKind.wrap .i64 ((2 : Int) * (((List.length b0) : Nat) : Int))))) && (roomB (Int.toNat (IntKind.wrap .i64 ((2 : Int) * (((List.length b0) : Nat) : Int)))) 1)) then
  Option.bind (octs_Hex_L3_R N ((b0, ((((List.length b0) : Nat) : Int), ((0 : Int), ()))), ((@List.replicate Int (Int.toNat (0 : Int)) (0 : Int)), ()))) fun v2 =>
  Option.bind (@toBy v2.2.1) fun (v3 : (List UInt8)) =>
  some (v3)
 else
  none
theorem octs_Hex_S (b0 : List (Int)) : (runK Tryd.prog (Ev40 N) 400 24 [(.sl (.int .u8))] [.str] (b0, ())).run = octs_Hex N b0 := by kernel_rfl
noncomputable def Ev41 : (R : Type) → Env R := Env.addFn (Ev40 N) 24 (fun R => fnK [(.sl (.int .u8))] [.str] (fun c => octs_Hex N c.1))
theorem Ev41_ok (R : Type) : EnvOK Tryd.prog (Ev41 N R) := EnvOK.addFn hmx (Ev40_ok N R) (Ev40_ok N _) (by kernel_rfl) (fun c => octs_Hex_S N c.1)
noncomputable def ref01_Hex_L4_I : LI := ⟨40, 0, [], ⟨[(0, .ty (.sl (.int .u8))), (3, .ty .str), (4, .ty .str), (5, .ty (.int .i64))], []⟩, [(.exit 0, ⟨[(4, .ty .str)], []⟩)]⟩
noncomputable def ref01_Hex_L4 (N : Nat) (X : (((List Int) × (List UInt8 × (List UInt8 × (Int × Unit)))) × Unit) → Option (((List UInt8 × Unit) × Unit))) (b0 : List (Int)) (all3 : List UInt8) (s4 : List UInt8) (i5 : Int) : Option (((List UInt8 × Unit) × Unit)) :=
 bif (decide (i5 < (((List.length b0) : Nat) : Int))) then
  Option.bind (getI b0 i5) fun (v6 : Int) =>
  Option.bind (getI b0 i5) fun (v7 : Int) =>
  Option.bind (subI all3 (IntKind.wrap .i64 (IntKind.wrap .u8 (@Int.tdiv v6 (16 : Int)))) (IntKind.wrap .i64 ((IntKind.wrap .i64 (IntKind.wrap .u8 (@Int.tdiv v6 (16 : Int)))) + 1))) fun (v8 : (List UInt8)) =>
  Option.bind (subI all3 (IntKind.wrap .i64 (@Int.tmod v7 (16 : Int))) (IntKind.wrap .i64 ((IntKind.wrap .i64 (@Int.tmod v7 (16 : Int))) + 1))) fun (v9 : (List UInt8)) =>
  bif (decide (((List.length v8) + (List.length v9)) ≤ maxLen)) then
   bif (decide (((List.length s4) + (List.length (v8 ++ v9))) ≤ maxLen)) then
    (X ((b0, (all3, ((s4 ++ (v8 ++ v9)), ((IntKind.wrap .i64 (i5 + 1)), ())))), ()))
   else
    none
  else
   none
 else
  some (((s4, ()), ()))
noncomputable def ref01_Hex_L4_R (c : (((List Int) × (List UInt8 × (List UInt8 × (Int × Unit)))) × Unit)) : Option (((List UInt8 × Unit) × Unit)) := gl (fun X c => ref01_Hex_L4 N X c.1.1 c.1.2.1 c.1.2.2.1 c.1.2.2.2.1) N c
theorem ref01_Hex_L4_S (X : (((List Int) × (List UInt8 × (List UInt8 × (Int × Unit)))) × Unit) → Option (((List UInt8 × Unit) × Unit))) (b0 : List (Int)) (all3 : List UInt8) (s4 : List UInt8) (i5 : Int) : (roundK Tryd.prog (Ev41 N) 400 [25] ref01_Hex_L4_I (loopAt Tryd.prog [25] 4) X ((b0, all3, s4, i5, ()), ())).run = ref01_Hex_L4 N X b0 all3 s4 i5 := by kernel_rfl
noncomputable def Ev42 : (R : Type) → Env R := Env.addLp (Ev41 N) [25] 0 4 (fun R => lpK Tryd.prog ref01_Hex_L4_I (fun X c => ref01_Hex_L4 N X c.1.1 c.1.2.1 c.1.2.2.1 c.1.2.2.2.1) N)
theorem Ev42_ok (R : Type) : EnvOK Tryd.prog (Ev42 N R) := EnvOK.addLp (Ev41_ok N R) (by kernel_rfl) (lpK_ok (li := ref01_Hex_L4_I) (G := fun X c => ref01_Hex_L4 N X c.1.1 c.1.2.1 c.1.2.2.1 c.1.2.2.2.1) hmx (Ev41_ok N _) (by kernel_rfl) loopAt_sub (fun (X : CT ref01_Hex_L4_I.sh → Option (OT ref01_Hex_L4_I.outs)) (c : CT ref01_Hex_L4_I.sh) => ref01_Hex_L4_S N X c.1.1 c.1.2.1 c.1.2.2.1 c.1.2.2.2.1) N)
noncomputable def ref01_Hex (b0 : List (Int)) : Option (List UInt8) :=
 Option.bind (ref01_Hex_L4_R N ((b0, ((Array.toList (List.toArray ([48, 49, 50, 51, 52, 53, 54, 55, 56, 57, 65, 66, 67, 68, 69, 70] : List UInt8))), ((Array.toList (List.toArray ([] : List UInt8))), ((0 : Int), ())))), ())) fun v2 =>
 some (v2.1.1)
theorem ref01_Hex_S (b0 : List (Int)) : (runK Tryd.prog (Ev42 N) 400 25 [(.sl (.int .u8))] [.str] (b0, ())).run = ref01_Hex N b0 := by kernel_rfl
noncomputable def Ev43 : (R : Type) → Env R := Env.addFn (Ev42 N) 25 (fun R => fnK [(.sl (.int .u8))] [.str] (fun c => ref01_Hex N c.1))
theorem Ev43_ok (R : Type) : EnvOK Tryd.prog (Ev43 N R) := EnvOK.addFn hmx (Ev42_ok N R) (Ev42_ok N _) (by kernel_rfl) (fun c => ref01_Hex_S N c.1)
noncomputable def httpq_isHost_L2_I : LI := ⟨26, 0, [], ⟨[(0, .ty .str), (6, .ty (.sl (.int .u8))), (7, .ty (.int .i64)), (8, .ty (.int .i64))], []⟩, [(.ret, ⟨[(2, .ty .bool)], []⟩), (.exit 0, ⟨[(0, .ty .str)], []⟩)]⟩
noncomputable def httpq_isHost_L2 (N : Nat) (X : ((List UInt8 × ((List Int) × (Int × (Int × Unit)))) × Unit) → Option ((((Bool × Unit) × Unit) ⊕ ((List UInt8 × Unit) × Unit)))) (s0 : List UInt8) (x6 : List (Int)) (x7 : Int) (x8 : Int) : Option ((((Bool × Unit) × Unit) ⊕ ((List UInt8 × Unit) × Unit))) :=
 bif (decide (x8 < x7)) then
  Option.bind (getI x6 x8) fun (v6 : Int) =>
  Option.bind (bif (decide (v6 < (33 : Int))) then
    some (true)
   else
    some ((cond false true (decide ((126 : Int) < v6))))) fun (v7 : Bool) =>
  bif v7 then
   some ((.inl ((false, ()), ())))
  else
   (X ((s0, (x6, (x7, ((IntKind.wrap .i64 (x8 + 1)), ())))), ()))
 else
  some ((.inr ((s0, ()), ())))
noncomputable def httpq_isHost_L2_R (c : ((List UInt8 × ((List Int) × (Int × (Int × Unit)))) × Unit)) : Option ((((Bool × Unit) × Unit) ⊕ ((List UInt8 × Unit) × Unit))) := gl (fun X c => httpq_isHost_L2 N X c.1.1 c.1.2.1 c.1.2.2.1 c.1.2.2.2.1) N c
theorem httpq_isHost_L2_S (X : ((List UInt8 × ((List Int) × (Int × (Int × Unit)))) × Unit) → Option ((((Bool × Unit) × Unit) ⊕ ((List UInt8 × Unit) × Unit)))) (s0 : List UInt8) (x6 : List (Int)) (x7 : Int) (x8 : Int) : (roundK Tryd.prog (Ev43 N) 400 [18] httpq_isHost_L2_I (loopAt Tryd.prog [18] 2) X ((s0, x6, x7, x8, ()), ())).run = httpq_isHost_L2 N X s0 x6 x7 x8 := by kernel_rfl
noncomputable def Ev44 : (R : Type) → Env R := Env.addLp (Ev43 N) [18] 0 2 (fun R => lpK Tryd.prog httpq_isHost_L2_I (fun X c => httpq_isHost_L2 N X c.1.1 c.1.2.1 c.1.2.2.1 c.1.2.2.2.1) N)
theorem Ev44_ok (R : Type) : EnvOK Tryd.prog (Ev44 N R) := EnvOK.addLp (Ev43_ok N R) (by kernel_rfl) (lpK_ok (li := httpq_isHost_L2_I) (G := fun X c => httpq_isHost_L2 N X c.1.1 c.1.2.1 c.1.2.2.1 c.1.2.2.2.1) hmx (Ev43_ok N _) (by kernel_rfl) loopAt_sub (fun (X : CT httpq_isHost_L2_I.sh → Option (OT httpq_isHost_L2_I.outs)) (c : CT httpq_isHost_L2_I.sh) => httpq_isHost_L2_S N X c.1.1 c.1.2.1 c.1.2.2.1 c.1.2.2.2.1) N)
noncomputable def httpq_isHost (s0 : List UInt8) : Option Bool :=
 bif (roomB (List.length s0) 1) then
  Option.bind (httpq_isHost_L2_R N ((s0, ((@ofB s0), ((((List.length (@ofB s0)) : Nat) : Int), ((0 : Int), ())))), ())) fun v2 =>
  Sum.elim
   (fun (v3 : ((Bool × Unit) × Unit)) =>
   some (v3.1.1))
   (fun (v3 : ((List UInt8 × Unit) × Unit)) =>
   bif (!(decide (v3.1.1 = (Array.toList (List.toArray ([] : List UInt8)))))) then
    Option.bind (some ((cond true (decide ((((List.length v3.1.1) : Nat) : Int) ≤ (255 : Int))) false))) fun (v4 : Bool) =>
    some (v4)
   else
    Option.bind (some (false)) fun (v4 : Bool) =>
    some (v4)) v2
 else
  none
theorem httpq_isHost_S (s0 : List UInt8) : (runK Tryd.prog (Ev44 N) 400 18 [.str] [.bool] (s0, ())).run = httpq_isHost N s0 := by kernel_rfl
noncomputable def Ev45 : (R : Type) → Env R := Env.addFn (Ev44 N) 18 (fun R => fnK [.str] [.bool] (fun c => httpq_isHost N c.1))
theorem Ev45_ok (R : Type) : EnvOK Tryd.prog (Ev45 N R) := EnvOK.addFn hmx (Ev44_ok N R) (Ev44_ok N _) (by kernel_rfl) (fun c => httpq_isHost_S N c.1)
noncomputable def httpq_line (N : Nat) (name0 : List UInt8) (value1 : List UInt8) : Option (List UInt8) :=
 bif (decide (((List.length name0) + (List.length (Array.toList (List.toArray ([58, 32] : List UInt8))))) ≤ maxLen)) then
  bif (decide (((List.length (name0 ++ (Array.toList (List.toArray ([58, 32] : List UInt8))))) + (List.length value1)) ≤ maxLen)) then
   bif (decide (((List.length ((name0 ++ (Array.toList (List.toArray ([58, 32] : List UInt8)))) ++ value1)) + (List.length (Array.toList (List.toArray ([13, 10] : List UInt8))))) ≤ maxLen)) then
    some ((((name0 ++ (Array.toList (List.toArray ([58, 32] : List UInt8)))) ++ value1) ++ (Array.toList (List.toArray ([13, 10] : List UInt8)))))
   else
    none
  else
   none
 else
  none
theorem httpq_line_S (name0 : List UInt8) (value1 : List UInt8) : (runK Tryd.prog (Ev45 N) 400 19 [.str, .str] [.str] (name0, value1, ())).run = httpq_line N name0 value1 := by kernel_rfl
noncomputable def Ev46 : (R : Type) → Env R := Env.addFn (Ev45 N) 19 (fun R => fnK [.str, .str] [.str] (fun c => httpq_line N c.1 c.2.1))
theorem Ev46_ok (R : Type) : EnvOK Tryd.prog (Ev46 N R) := EnvOK.addFn hmx (Ev45_ok N R) (Ev45_ok N _) (by kernel_rfl) (fun c => httpq_line_S N c.1 c.2.1)
noncomputable def Ev47 : (R : Type) → Env R := Env.addBx (Ev46 N) [(12, 0)]
theorem Ev47_ok (R : Type) : EnvOK Tryd.prog (Ev47 N R) := EnvOK.addBx (Ev46_ok N R) [(12, 0)]
noncomputable def httpq_Guid (id0 : Arr Int 16) : Option (List UInt8) :=
 Option.bind (octs_Hex N id0.l) fun v2 =>
 Option.bind (takeI v2 (8 : Int)) fun (v3 : (List UInt8)) =>
 bif (decide (((List.length (Array.toList (List.toArray ([123] : List UInt8)))) + (List.length v3)) ≤ maxLen)) then
  bif (decide (((List.length ((Array.toList (List.toArray ([123] : List UInt8))) ++ v3)) + (List.length (Array.toList (List.toArray ([45] : List UInt8))))) ≤ maxLen)) then
   Option.bind (subI v2 (8 : Int) (12 : Int)) fun (v4 : (List UInt8)) =>
   bif (decide (((List.length (((Array.toList (List.toArray ([123] : List UInt8))) ++ v3) ++ (Array.toList (List.toArray ([45] : List UInt8))))) + (List.length v4)) ≤ maxLen)) then
    bif (decide (((List.length ((((Array.toList (List.toArray ([123] : List UInt8))) ++ v3) ++ (Array.toList (List.toArray ([45] : List UInt8)))) ++ v4)) + (List.length (Array.toList (List.toArray ([45] : List UInt8))))) ≤ maxLen)) then
     Option.bind (subI v2 (12 : Int) (16 : Int)) fun (v5 : (List UInt8)) =>
     bif (decide (((List.length (((((Array.toList (List.toArray ([123] : List UInt8))) ++ v3) ++ (Array.toList (List.toArray ([45] : List UInt8)))) ++ v4) ++ (Array.toList (List.toArray ([45] : List UInt8))))) + (List.length v5)) ≤ maxLen)) then
      bif (decide (((List.length ((((((Array.toList (List.toArray ([123] : List UInt8))) ++ v3) ++ (Array.toList (List.toArray ([45] : List UInt8)))) ++ v4) ++ (Array.toList (List.toArray ([45] : List UInt8)))) ++ v5)) + (List.length (Array.toList (List.toArray ([45] : List UInt8))))) ≤ maxLen)) then
       Option.bind (subI v2 (16 : Int) (20 : Int)) fun (v6 : (List UInt8)) =>
       bif (decide (((List.length (((((((Array.toList (List.toArray ([123] : List UInt8))) ++ v3) ++ (Array.toList (List.toArray ([45] : List UInt8)))) ++ v4) ++ (Array.toList (List.toArray ([45] : List UInt8)))) ++ v5) ++ (Array.toList (List.toArray ([45] : List UInt8))))) + (List.length v6)) ≤ maxLen)) then
        bif (decide (((List.length ((((((((Array.toList (List.toArray ([123] : List UInt8))) ++ v3) ++ (Array.toList (List.toArray ([45] : List UInt8)))) ++ v4) ++ (Array.toList (List.toArray ([45] : List UInt8)))) ++ v5) ++ (Array.toList (List.toArray ([45] : List UInt8)))) ++ v6)) + (List.length (Array.toList (List.toArray ([45] : List UInt8))))) ≤ maxLen)) then
         Option.bind (dropI v2 (20 : Int)) fun (v7 : (List UInt8)) =>
         bif (decide (((List.length (((((((((Array.toList (List.toArray ([123] : List UInt8))) ++ v3) ++ (Array.toList (List.toArray ([45] : List UInt8)))) ++ v4) ++ (Array.toList (List.toArray ([45] : List UInt8)))) ++ v5) ++ (Array.toList (List.toArray ([45] : List UInt8)))) ++ v6) ++ (Array.toList (List.toArray ([45] : List UInt8))))) + (List.length v7)) ≤ maxLen)) then
          bif (decide (((List.length ((((((((((Array.toList (List.toArray ([123] : List UInt8))) ++ v3) ++ (Array.toList (List.toArray ([45] : List UInt8)))) ++ v4) ++ (Array.toList (List.toArray ([45] : List UInt8)))) ++ v5) ++ (Array.toList (List.toArray ([45] : List UInt8)))) ++ v6) ++ (Array.toList (List.toArray ([45] : List UInt8)))) ++ v7)) + (List.length (Array.toList (List.toArray ([125] : List UInt8))))) ≤ maxLen)) then
           some ((((((((((((Array.toList (List.toArray ([123] : List UInt8))) ++ v3) ++ (Array.toList (List.toArray ([45] : List UInt8)))) ++ v4) ++ (Array.toList (List.toArray ([45] : List UInt8)))) ++ v5) ++ (Array.toList (List.toArray ([45] : List UInt8)))) ++ v6) ++ (Array.toList (List.toArray ([45] : List UInt8)))) ++ v7) ++ (Array.toList (List.toArray ([125] : List UInt8)))))
          else
           none
         else
          none
        else
         none
       else
        none
      else
       none
     else
      none
    else
     none
   else
    none
  else
   none
 else
  none
theorem httpq_Guid_S (id0 : Arr Int 16) : (runK Tryd.prog (Ev47 N) 400 12 [(.arr 16 (.int .u8))] [.str] (id0, ())).run = httpq_Guid N id0 := by kernel_rfl
noncomputable def Ev48 : (R : Type) → Env R := Env.addFn (Ev47 N) 12 (fun R => fnK [(.arr 16 (.int .u8))] [.str] (fun c => httpq_Guid N c.1))
theorem Ev48_ok (R : Type) : EnvOK Tryd.prog (Ev48 N R) := EnvOK.addFn hmx (Ev47_ok N R) (Ev47_ok N _) (by kernel_rfl) (fun c => httpq_Guid_S N c.1)
noncomputable def Ev49 : (R : Type) → Env R := Env.addFn (Ev48 N) 21 (fun R => uhK)
theorem Ev49_ok (R : Type) : EnvOK Tryd.prog (Ev49 N R) := EnvOK.addExt (Ev48_ok N R) uh_ok
noncomputable def httpq_Id (s0 : List UInt8) : Option ((Arr Int 16) × Int) :=
 bif (!(decide ((((List.length s0) : Nat) : Int) = (38 : Int)))) then
  some (((@Arr.cons Int 15 0 (@Arr.cons Int 14 0 (@Arr.cons Int 13 0 (@Arr.cons Int 12 0 (@Arr.cons Int 11 0 (@Arr.cons Int 10 0 (@Arr.cons Int 9 0 (@Arr.cons Int 8 0 (@Arr.cons Int 7 0 (@Arr.cons Int 6 0 (@Arr.cons Int 5 0 (@Arr.cons Int 4 0 (@Arr.cons Int 3 0 (@Arr.cons Int 2 0 (@Arr.cons Int 1 0 (@Arr.cons Int 0 0 (@Arr.nil Int))))))))))))))))), (3 : Int)))
 else
  Option.bind (subI s0 (1 : Int) (9 : Int)) fun (v2 : (List UInt8)) =>
  Option.bind (subI s0 (10 : Int) (14 : Int)) fun (v3 : (List UInt8)) =>
  bif (decide (((List.length v2) + (List.length v3)) ≤ maxLen)) then
   Option.bind (subI s0 (15 : Int) (19 : Int)) fun (v4 : (List UInt8)) =>
   bif (decide (((List.length (v2 ++ v3)) + (List.length v4)) ≤ maxLen)) then
    Option.bind (subI s0 (20 : Int) (24 : Int)) fun (v5 : (List UInt8)) =>
    bif (decide (((List.length ((v2 ++ v3) ++ v4)) + (List.length v5)) ≤ maxLen)) then
     Option.bind (subI s0 (25 : Int) (37 : Int)) fun (v6 : (List UInt8)) =>
     bif (decide (((List.length (((v2 ++ v3) ++ v4) ++ v5)) + (List.length v6)) ≤ maxLen)) then
      bif (decide ((List.length ((((v2 ++ v3) ++ v4) ++ v5) ++ v6)) ≤ (1000000 : Nat))) then
       bif (!(decide ((@unhexE ((((v2 ++ v3) ++ v4) ++ v5) ++ v6)) = (0 : Int)))) then
        some (((@Arr.cons Int 15 0 (@Arr.cons Int 14 0 (@Arr.cons Int 13 0 (@Arr.cons Int 12 0 (@Arr.cons Int 11 0 (@Arr.cons Int 10 0 (@Arr.cons Int 9 0 (@Arr.cons Int 8 0 (@Arr.cons Int 7 0 (@Arr.cons Int 6 0 (@Arr.cons Int 5 0 (@Arr.cons Int 4 0 (@Arr.cons Int 3 0 (@Arr.cons Int 2 0 (@Arr.cons Int 1 0 (@Arr.cons Int 0 0 (@Arr.nil Int))))))))))))))))), (3 : Int)))
       else
        Option.bind (@toArr Int (16 : Nat) (@unhexR ((((v2 ++ v3) ++ v4) ++ v5) ++ v6))) fun (v7 : (Arr Int 16)) =>
        Option.bind (httpq_Guid N v7) fun v8 =>
        Option.bind (words_Alike N s0 v8) fun v9 =>
        bif (!v9) then
         some (((@Arr.cons Int 15 0 (@Arr.cons Int 14 0 (@Arr.cons Int 13 0 (@Arr.cons Int 12 0 (@Arr.cons Int 11 0 (@Arr.cons Int 10 0 (@Arr.cons Int 9 0 (@Arr.cons Int 8 0 (@Arr.cons Int 7 0 (@Arr.cons Int 6 0 (@Arr.cons Int 5 0 (@Arr.cons Int 4 0 (@Arr.cons Int 3 0 (@Arr.cons Int 2 0 (@Arr.cons Int 1 0 (@Arr.cons Int 0 0 (@Arr.nil Int))))))))))))))))), (3 : Int)))
        else
         some ((v7, (0 : Int)))
      else
       none
     else
      none
    else
     none
   else
    none
  else
   none
theorem httpq_Id_S (s0 : List UInt8) : (runK Tryd.prog (Ev49 N) 400 9 [.str] [(.arr 16 (.int .u8)), (.int .i64)] (s0, ())).run = httpq_Id N s0 := by kernel_rfl
noncomputable def Ev50 : (R : Type) → Env R := Env.addFn (Ev49 N) 9 (fun R => fnK [.str] [(.arr 16 (.int .u8)), (.int .i64)] (fun c => httpq_Id N c.1))
theorem Ev50_ok (R : Type) : EnvOK Tryd.prog (Ev50 N R) := EnvOK.addFn hmx (Ev49_ok N R) (Ev49_ok N _) (by kernel_rfl) (fun c => httpq_Id_S N c.1)
noncomputable def Ev51 : (R : Type) → Env R := Env.addBx (Ev50 N) [(7, 0)]
theorem Ev51_ok (R : Type) : EnvOK Tryd.prog (Ev51 N R) := EnvOK.addBx (Ev50_ok N R) [(7, 0)]
noncomputable def httpq_Lay (r0 : List UInt8 × (List UInt8)) : Option ((List Int) × Int) :=
 Option.bind (httpq_isHost N r0.1) fun v2 =>
 bif (!v2) then
  some ((([] : List Int), (3 : Int)))
 else
  Option.bind (httpq_line N (Array.toList (List.toArray ([72, 111, 115, 116] : List UInt8))) r0.1) fun v3 =>
  bif (decide (((List.length (Array.toList (List.toArray (@List.append UInt8 ([83, 83, 84, 80, 95, 68, 85, 80, 76, 69, 88, 95, 80, 79, 83, 84, 32, 47, 115, 114, 97, 95, 123, 66, 65, 49, 57, 53, 57, 56, 48, 45, 67, 68, 52, 57] : List UInt8) ([45, 52, 53, 56, 98, 45, 57, 69, 50, 51, 45, 67, 56, 52, 69, 69, 48, 65, 68, 67, 68, 55, 53, 125, 47, 32, 72, 84, 84, 80, 47, 49, 46, 49, 13, 10] : List UInt8))))) + (List.length v3)) ≤ maxLen)) then
   bif (decide (((List.length ((Array.toList (List.toArray (@List.append UInt8 ([83, 83, 84, 80, 95, 68, 85, 80, 76, 69, 88, 95, 80, 79, 83, 84, 32, 47, 115, 114, 97, 95, 123, 66, 65, 49, 57, 53, 57, 56, 48, 45, 67, 68, 52, 57] : List UInt8) ([45, 52, 53, 56, 98, 45, 57, 69, 50, 51, 45, 67, 56, 52, 69, 69, 48, 65, 68, 67, 68, 55, 53, 125, 47, 32, 72, 84, 84, 80, 47, 49, 46, 49, 13, 10] : List UInt8)))) ++ v3)) + (List.length ((((Array.toList (List.toArray ([67, 111, 110, 116, 101, 110, 116, 45, 76, 101, 110, 103, 116, 104] : List UInt8))) ++ (Array.toList (List.toArray ([58, 32] : List UInt8)))) ++ (Array.toList (List.toArray ([49, 56, 52, 52, 54, 55, 52, 52, 48, 55, 51, 55, 48, 57, 53, 53, 49, 54, 49, 53] : List UInt8)))) ++ (Array.toList (List.toArray ([13, 10] : List UInt8)))))) ≤ maxLen)) then
    bif (!(decide (r0.2 = (Array.toList (List.toArray ([] : List UInt8)))))) then
     Option.bind (httpq_Id N r0.2) fun v4 =>
     bif (!(decide (v4.2 = (0 : Int)))) then
      some ((([] : List Int), v4.2))
     else
      Option.bind (httpq_line N (Array.toList (List.toArray ([83, 83, 84, 80, 67, 79, 82, 82, 69, 76, 65, 84, 73, 79, 78, 73, 68] : List UInt8))) r0.2) fun v5 =>
      bif (decide (((List.length (((Array.toList (List.toArray (@List.append UInt8 ([83, 83, 84, 80, 95, 68, 85, 80, 76, 69, 88, 95, 80, 79, 83, 84, 32, 47, 115, 114, 97, 95, 123, 66, 65, 49, 57, 53, 57, 56, 48, 45, 67, 68, 52, 57] : List UInt8) ([45, 52, 53, 56, 98, 45, 57, 69, 50, 51, 45, 67, 56, 52, 69, 69, 48, 65, 68, 67, 68, 55, 53, 125, 47, 32, 72, 84, 84, 80, 47, 49, 46, 49, 13, 10] : List UInt8)))) ++ v3) ++ ((((Array.toList (List.toArray ([67, 111, 110, 116, 101, 110, 116, 45, 76, 101, 110, 103, 116, 104] : List UInt8))) ++ (Array.toList (List.toArray ([58, 32] : List UInt8)))) ++ (Array.toList (List.toArray ([49, 56, 52, 52, 54, 55, 52, 52, 48, 55, 51, 55, 48, 57, 53, 53, 49, 54, 49, 53] : List UInt8)))) ++ (Array.toList (List.toArray ([13, 10] : List UInt8)))))) + (List.length v5)) ≤ maxLen)) then
       bif (decide (((List.length ((((Array.toList (List.toArray (@List.append UInt8 ([83, 83, 84, 80, 95, 68, 85, 80, 76, 69, 88, 95, 80, 79, 83, 84, 32, 47, 115, 114, 97, 95, 123, 66, 65, 49, 57, 53, 57, 56, 48, 45, 67, 68, 52, 57] : List UInt8) ([45, 52, 53, 56, 98, 45, 57, 69, 50, 51, 45, 67, 56, 52, 69, 69, 48, 65, 68, 67, 68, 55, 53, 125, 47, 32, 72, 84, 84, 80, 47, 49, 46, 49, 13, 10] : List UInt8)))) ++ v3) ++ ((((Array.toList (List.toArray ([67, 111, 110, 116, 101, 110, 116, 45, 76, 101, 110, 103, 116, 104] : List UInt8))) ++ (Array.toList (List.toArray ([58, 32] : List UInt8)))) ++ (Array.toList (List.toArray ([49, 56, 52, 52, 54, 55, 52, 52, 48, 55, 51, 55, 48, 57, 53, 53, 49, 54, 49, 53] : List UInt8)))) ++ (Array.toList (List.toArray ([13, 10] : List UInt8))))) ++ v5)) + (List.length (Array.toList (List.toArray ([13, 10] : List UInt8))))) ≤ maxLen)) then
        bif (roomB (List.length (((((Array.toList (List.toArray (@List.append UInt8 ([83, 83, 84, 80, 95, 68, 85, 80, 76, 69, 88, 95, 80, 79, 83, 84, 32, 47, 115, 114, 97, 95, 123, 66, 65, 49, 57, 53, 57, 56, 48, 45, 67, 68, 52, 57] : List UInt8) ([45, 52, 53, 56, 98, 45, 57, 69, 50, 51, 45, 67, 56, 52, 69, 69, 48, 65, 68, 67, 68, 55, 53, 125, 47, 32, 72, 84, 84, 80, 47, 49, 46, 49, 13, 10] : List UInt8)))) ++ v3) ++ ((((Array.toList (List.toArray ([67, 111, 110, 116, 101, 110, 116, 45, 76, 101, 110, 103, 116, 104] : List UInt8))) ++ (Array.toList (List.toArray ([58, 32] : List UInt8)))) ++ (Array.toList (List.toArray ([49, 56, 52, 52, 54, 55, 52, 52, 48, 55, 51, 55, 48, 57, 53, 53, 49, 54, 49, 53] : List UInt8)))) ++ (Array.toList (List.toArray ([13, 10] : List UInt8))))) ++ v5) ++ (Array.toList (List.toArray ([13, 10] : List UInt8))))) 1) then
         some (((@ofB (((((Array.toList (List.toArray (@List.append UInt8 ([83, 83, 84, 80, 95, 68, 85, 80, 76, 69, 88, 95, 80, 79, 83, 84, 32, 47, 115, 114, 97, 95, 123, 66, 65, 49, 57, 53, 57, 56, 48, 45, 67, 68, 52, 57] : List UInt8) ([45, 52, 53, 56, 98, 45, 57, 69, 50, 51, 45, 67, 56, 52, 69, 69, 48, 65, 68, 67, 68, 55, 53, 125, 47, 32, 72, 84, 84, 80, 47, 49, 46, 49, 13, 10] : List UInt8)))) ++ v3) ++ ((((Array.toList (List.toArray ([67, 111, 110, 116, 101, 110, 116, 45, 76, 101, 110, 103, 116, 104] : List UInt8))) ++ (Array.toList (List.toArray ([58, 32] : List UInt8)))) ++ (Array.toList (List.toArray ([49, 56, 52, 52, 54, 55, 52, 52, 48, 55, 51, 55, 48, 57, 53, 53, 49, 54, 49, 53] : List UInt8)))) ++ (Array.toList (List.toArray ([13, 10] : List UInt8))))) ++ v5) ++ (Array.toList (List.toArray ([13, 10] : List UInt8))))), (0 : Int)))
        else
         none
       else
        none
      else
       none
    else
     bif (decide (((List.length (((Array.toList (List.toArray (@List.append UInt8 ([83, 83, 84, 80, 95, 68, 85, 80, 76, 69, 88, 95, 80, 79, 83, 84, 32, 47, 115, 114, 97, 95, 123, 66, 65, 49, 57, 53, 57, 56, 48, 45, 67, 68, 52, 57] : List UInt8) ([45, 52, 53, 56, 98, 45, 57, 69, 50, 51, 45, 67, 56, 52, 69, 69, 48, 65, 68, 67, 68, 55, 53, 125, 47, 32, 72, 84, 84, 80, 47, 49, 46, 49, 13, 10] : List UInt8)))) ++ v3) ++ ((((Array.toList (List.toArray ([67, 111, 110, 116, 101, 110, 116, 45, 76, 101, 110, 103, 116, 104] : List UInt8))) ++ (Array.toList (List.toArray ([58, 32] : List UInt8)))) ++ (Array.toList (List.toArray ([49, 56, 52, 52, 54, 55, 52, 52, 48, 55, 51, 55, 48, 57, 53, 53, 49, 54, 49, 53] : List UInt8)))) ++ (Array.toList (List.toArray ([13, 10] : List UInt8)))))) + (List.length (Array.toList (List.toArray ([13, 10] : List UInt8))))) ≤ maxLen)) then
      bif (roomB (List.length ((((Array.toList (List.toArray (@List.append UInt8 ([83, 83, 84, 80, 95, 68, 85, 80, 76, 69, 88, 95, 80, 79, 83, 84, 32, 47, 115, 114, 97, 95, 123, 66, 65, 49, 57, 53, 57, 56, 48, 45, 67, 68, 52, 57] : List UInt8) ([45, 52, 53, 56, 98, 45, 57, 69, 50, 51, 45, 67, 56, 52, 69, 69, 48, 65, 68, 67, 68, 55, 53, 125, 47, 32, 72, 84, 84, 80, 47, 49, 46, 49, 13, 10] : List UInt8)))) ++ v3) ++ ((((Array.toList (List.toArray ([67, 111, 110, 116, 101, 110, 116, 45, 76, 101, 110, 103, 116, 104] : List UInt8))) ++ (Array.toList (List.toArray ([58, 32] : List UInt8)))) ++ (Array.toList (List.toArray ([49, 56, 52, 52, 54, 55, 52, 52, 48, 55, 51, 55, 48, 57, 53, 53, 49, 54, 49, 53] : List UInt8)))) ++ (Array.toList (List.toArray ([13, 10] : List UInt8))))) ++ (Array.toList (List.toArray ([13, 10] : List UInt8))))) 1) then
       some (((@ofB ((((Array.toList (List.toArray (@List.append UInt8 ([83, 83, 84, 80, 95, 68, 85, 80, 76, 69, 88, 95, 80, 79, 83, 84, 32, 47, 115, 114, 97, 95, 123, 66, 65, 49, 57, 53, 57, 56, 48, 45, 67, 68, 52, 57] : List UInt8) ([45, 52, 53, 56, 98, 45, 57, 69, 50, 51, 45, 67, 56, 52, 69, 69, 48, 65, 68, 67, 68, 55, 53, 125, 47, 32, 72, 84, 84, 80, 47, 49, 46, 49, 13, 10] : List UInt8)))) ++ v3) ++ ((((Array.toList (List.toArray ([67, 111, 110, 116, 101, 110, 116, 45, 76, 101, 110, 103, 116, 104] : List UInt8))) ++ (Array.toList (List.toArray ([58, 32] : List UInt8)))) ++ (Array.toList (List.toArray ([49, 56, 52, 52, 54, 55, 52, 52, 48, 55, 51, 55, 48, 57, 53, 53, 49, 54, 49, 53] : List UInt8)))) ++ (Array.toList (List.toArray ([13, 10] : List UInt8))))) ++ (Array.toList (List.toArray ([13, 10] : List UInt8))))), (0 : Int)))
      else
       none
     else
      none
   else
    none
  else
   none
theorem httpq_Lay_S (r0 : List UInt8 × (List UInt8)) : (runK Tryd.prog (Ev51 N) 400 7 [(.pair .str .str)] [(.sl (.int .u8)), (.int .i64)] (r0, ())).run = httpq_Lay N r0 := by kernel_rfl
noncomputable def Ev52 : (R : Type) → Env R := Env.addFn (Ev51 N) 7 (fun R => fnK [(.pair .str .str)] [(.sl (.int .u8)), (.int .i64)] (fun c => httpq_Lay N c.1))
theorem Ev52_ok (R : Type) : EnvOK Tryd.prog (Ev52 N R) := EnvOK.addFn hmx (Ev51_ok N R) (Ev51_ok N _) (by kernel_rfl) (fun c => httpq_Lay_S N c.1)
noncomputable def Ev53 : (R : Type) → Env R := Env.addMv (Ev52 N) [(38, 5)]
theorem Ev53_ok (R : Type) : EnvOK Tryd.prog (Ev53 N R) := EnvOK.addMv (Ev52_ok N R) [(38, 5)]
noncomputable def httpq_parts_L2_I : LI := ⟨23, 0, [(3, 9)], ⟨[(0, .ty .str), (3, .lit (.own 0))], [.own .str 9]⟩, [(.ret, ⟨[(2, .ty (.sl .str))], []⟩), (.exit 0, ⟨[(3, .lit (.own 0))], [.own .str 9]⟩)]⟩
noncomputable def httpq_parts_L2 (N : Nat) (X : ((List UInt8 × Unit) × ((List (List UInt8)) × Unit)) → Option (((((List (List UInt8)) × Unit) × Unit) ⊕ (Unit × ((List (List UInt8)) × Unit))))) (line0 : List UInt8) (h0 : List (List UInt8)) : Option (((((List (List UInt8)) × Unit) × Unit) ⊕ (Unit × ((List (List UInt8)) × Unit)))) :=
 Option.bind (some ((cond false true (decide ((Array.toList (List.toArray ([32] : List UInt8))) = line0))))) fun (v4 : Bool) =>
 bif v4 then
  Option.bind (dropI line0 (IntKind.wrap .i64 ((0 : Int) + (((List.length (Array.toList (List.toArray ([32] : List UInt8)))) : Nat) : Int)))) fun (v5 : (List UInt8)) =>
  some ((.inl ((([] : List ((List UInt8))), ()), ())))
 else
  bif (decide ((0 : Int) ≤ (@idxB line0 (((@UInt8.toNat (32 : UInt8)) : Nat) : Int)))) then
   Option.bind (takeI line0 (@idxB line0 (((@UInt8.toNat (32 : UInt8)) : Nat) : Int))) fun (v5 : (List UInt8)) =>
   Option.bind (dropI line0 (IntKind.wrap .i64 ((@idxB line0 (((@UInt8.toNat (32 : UInt8)) : Nat) : Int)) + (((List.length (Array.toList (List.toArray ([32] : List UInt8)))) : Nat) : Int)))) fun (v6 : (List UInt8)) =>
   bif (decide (v5 = (Array.toList (List.toArray ([] : List UInt8))))) then
    some ((.inl ((([] : List ((List UInt8))), ()), ())))
   else
    bif (roomB ((List.length h0) + (List.length ([v5] : List ((List UInt8))))) 16) then
     (X ((v6, ()), ((h0 ++ ([v5] : List ((List UInt8)))), ())))
    else
     none
  else
   bif (decide (line0 = (Array.toList (List.toArray ([] : List UInt8))))) then
    some ((.inl ((([] : List ((List UInt8))), ()), ())))
   else
    bif (roomB ((List.length h0) + (List.length ([line0] : List ((List UInt8))))) 16) then
     some ((.inr ((), ((h0 ++ ([line0] : List ((List UInt8)))), ()))))
    else
     none
noncomputable def httpq_parts_L2_R (c : ((List UInt8 × Unit) × ((List (List UInt8)) × Unit))) : Option (((((List (List UInt8)) × Unit) × Unit) ⊕ (Unit × ((List (List UInt8)) × Unit)))) := gl (fun X c => httpq_parts_L2 N X c.1.1 c.2.1) N c
theorem httpq_parts_L2_S (X : ((List UInt8 × Unit) × ((List (List UInt8)) × Unit)) → Option (((((List (List UInt8)) × Unit) × Unit) ⊕ (Unit × ((List (List UInt8)) × Unit))))) (line0 : List UInt8) (h0 : List (List UInt8)) : (roundK Tryd.prog (Ev53 N) 400 [38] httpq_parts_L2_I (loopAt Tryd.prog [38] 2) X ((line0, ()), (h0, ()))).run = httpq_parts_L2 N X line0 h0 := by kernel_rfl
noncomputable def Ev54 : (R : Type) → Env R := Env.addLp (Ev53 N) [38] 0 2 (fun R => lpK Tryd.prog httpq_parts_L2_I (fun X c => httpq_parts_L2 N X c.1.1 c.2.1) N)
theorem Ev54_ok (R : Type) : EnvOK Tryd.prog (Ev54 N R) := EnvOK.addLp (Ev53_ok N R) (by kernel_rfl) (lpK_ok (li := httpq_parts_L2_I) (G := fun X c => httpq_parts_L2 N X c.1.1 c.2.1) hmx (Ev53_ok N _) (by kernel_rfl) loopAt_sub (fun (X : CT httpq_parts_L2_I.sh → Option (OT httpq_parts_L2_I.outs)) (c : CT httpq_parts_L2_I.sh) => httpq_parts_L2_S N X c.1.1 c.2.1) N)
noncomputable def httpq_parts (line0 : List UInt8) : Option (List (List UInt8)) :=
 Option.bind (httpq_parts_L2_R N ((line0, ()), (([] : List ((List UInt8))), ()))) fun v2 =>
 Sum.elim
  (fun (v3 : (((List (List UInt8)) × Unit) × Unit)) =>
  some (v3.1.1))
  (fun (v3 : (Unit × ((List (List UInt8)) × Unit))) =>
  some (v3.2.1)) v2
theorem httpq_parts_S (line0 : List UInt8) : (runK Tryd.prog (Ev54 N) 400 38 [.str] [(.sl .str)] (line0, ())).run = httpq_parts N line0 := by kernel_rfl
noncomputable def Ev55 : (R : Type) → Env R := Env.addFn (Ev54 N) 38 (fun R => fnK [.str] [(.sl .str)] (fun c => httpq_parts N c.1))
theorem Ev55_ok (R : Type) : EnvOK Tryd.prog (Ev55 N R) := EnvOK.addFn hmx (Ev54_ok N R) (Ev54_ok N _) (by kernel_rfl) (fun c => httpq_parts_S N c.1)
noncomputable def httpq_first (lines0 : List (List UInt8)) : Option (List UInt8 × Int) :=
 bif (decide ((((List.length lines0) : Nat) : Int) = (0 : Int))) then
  some (((Array.toList (List.toArray ([] : List UInt8))), (3 : Int)))
 else
  Option.bind (getI lines0 (0 : Int)) fun (v2 : (List UInt8)) =>
  Option.bind (httpq_parts N v2) fun v3 =>
  bif (!(decide ((((List.length v3) : Nat) : Int) = (3 : Int)))) then
   some (((Array.toList (List.toArray ([] : List UInt8))), (3 : Int)))
  else
   Option.bind (getI v3 (0 : Int)) fun (v4 : (List UInt8)) =>
   bif (!(decide (v4 = (Array.toList (List.toArray ([83, 83, 84, 80, 95, 68, 85, 80, 76, 69, 88, 95, 80, 79, 83, 84] : List UInt8)))))) then
    some (((Array.toList (List.toArray ([] : List UInt8))), (9 : Int)))
   else
    Option.bind (getI v3 (2 : Int)) fun (v5 : (List UInt8)) =>
    bif (!(decide (v5 = (Array.toList (List.toArray ([72, 84, 84, 80, 47, 49, 46, 49] : List UInt8)))))) then
     some (((Array.toList (List.toArray ([] : List UInt8))), (15 : Int)))
    else
     Option.bind (getI v3 (1 : Int)) fun (v6 : (List UInt8)) =>
     some ((v6, (0 : Int)))
theorem httpq_first_S (lines0 : List (List UInt8)) : (runK Tryd.prog (Ev55 N) 400 27 [(.sl .str)] [.str, (.int .i64)] (lines0, ())).run = httpq_first N lines0 := by kernel_rfl
noncomputable def Ev56 : (R : Type) → Env R := Env.addFn (Ev55 N) 27 (fun R => fnK [(.sl .str)] [.str, (.int .i64)] (fun c => httpq_first N c.1))
theorem Ev56_ok (R : Type) : EnvOK Tryd.prog (Ev56 N R) := EnvOK.addFn hmx (Ev55_ok N R) (Ev55_ok N _) (by kernel_rfl) (fun c => httpq_first_S N c.1)
noncomputable def httpq_asked (fields0 : List (List UInt8 × (List UInt8))) : Option ((List UInt8 × (List UInt8)) × Int) :=
 Option.bind (words_Find N fields0 (Array.toList (List.toArray ([72, 111, 115, 116] : List UInt8)))) fun v2 =>
 bif (!(decide (v2.2 = (0 : Int)))) then
  some ((((Array.toList (List.toArray ([] : List UInt8))), (Array.toList (List.toArray ([] : List UInt8)))), v2.2))
 else
  Option.bind (httpq_isHost N v2.1) fun v3 =>
  bif (!v3) then
   some ((((Array.toList (List.toArray ([] : List UInt8))), (Array.toList (List.toArray ([] : List UInt8)))), (3 : Int)))
  else
   Option.bind (words_Find N fields0 (Array.toList (List.toArray ([67, 111, 110, 116, 101, 110, 116, 45, 76, 101, 110, 103, 116, 104] : List UInt8)))) fun v4 =>
   bif (!(decide (v4.2 = (0 : Int)))) then
    some ((((Array.toList (List.toArray ([] : List UInt8))), (Array.toList (List.toArray ([] : List UInt8)))), v4.2))
   else
    bif (!(decide (v4.1 = (Array.toList (List.toArray ([49, 56, 52, 52, 54, 55, 52, 52, 48, 55, 51, 55, 48, 57, 53, 53, 49, 54, 49, 53] : List UInt8)))))) then
     some ((((Array.toList (List.toArray ([] : List UInt8))), (Array.toList (List.toArray ([] : List UInt8)))), (3 : Int)))
    else
     Option.bind (words_Find N fields0 (Array.toList (List.toArray ([83, 83, 84, 80, 67, 79, 82, 82, 69, 76, 65, 84, 73, 79, 78, 73, 68] : List UInt8)))) fun v5 =>
     bif (decide (v5.2 = (6 : Int))) then
      some (((v2.1, (Array.toList (List.toArray ([] : List UInt8)))), (0 : Int)))
     else
      bif (decide (v5.2 = (0 : Int))) then
       Option.bind (httpq_Id N v5.1) fun v6 =>
       bif (!(decide (v6.2 = (0 : Int)))) then
        some ((((Array.toList (List.toArray ([] : List UInt8))), (Array.toList (List.toArray ([] : List UInt8)))), v6.2))
       else
        some (((v2.1, v5.1), (0 : Int)))
      else
       bif (!(decide (v5.2 = (0 : Int)))) then
        some ((((Array.toList (List.toArray ([] : List UInt8))), (Array.toList (List.toArray ([] : List UInt8)))), v5.2))
       else
        some (((v2.1, v5.1), (0 : Int)))
theorem httpq_asked_S (fields0 : List (List UInt8 × (List UInt8))) : (runK Tryd.prog (Ev56 N) 400 29 [(.sl (.pair .str .str))] [(.pair .str .str), (.int .i64)] (fields0, ())).run = httpq_asked N fields0 := by kernel_rfl
noncomputable def Ev57 : (R : Type) → Env R := Env.addFn (Ev56 N) 29 (fun R => fnK [(.sl (.pair .str .str))] [(.pair .str .str), (.int .i64)] (fun c => httpq_asked N c.1))
theorem Ev57_ok (R : Type) : EnvOK Tryd.prog (Ev57 N R) := EnvOK.addFn hmx (Ev56_ok N R) (Ev56_ok N _) (by kernel_rfl) (fun c => httpq_asked_S N c.1)
noncomputable def httpq_Parse (b0 : List (Int)) : Option ((List UInt8 × (List UInt8)) × Int × Int) :=
 Option.bind (words_Head N b0) fun v2 =>
 bif (!(decide (v2.2.2 = (0 : Int)))) then
  some ((((Array.toList (List.toArray ([] : List UInt8))), (Array.toList (List.toArray ([] : List UInt8)))), ((0 : Int), v2.2.2)))
 else
  Option.bind (httpq_first N v2.1) fun v3 =>
  bif (!(decide (v3.2 = (0 : Int)))) then
   some ((((Array.toList (List.toArray ([] : List UInt8))), (Array.toList (List.toArray ([] : List UInt8)))), ((0 : Int), v3.2)))
  else
   Option.bind (dropI v2.1 (1 : Int)) fun (v4 : (List (List UInt8))) =>
   Option.bind (words_Fields N v4) fun v5 =>
   bif (!(decide (v5.2 = (0 : Int)))) then
    some ((((Array.toList (List.toArray ([] : List UInt8))), (Array.toList (List.toArray ([] : List UInt8)))), ((0 : Int), v5.2)))
   else
    bif (!(decide (v3.1 = (Array.toList (List.toArray ([47, 115, 114, 97, 95, 123, 66, 65, 49, 57, 53, 57, 56, 48, 45, 67, 68, 52, 57, 45, 52, 53, 56, 98, 45, 57, 69, 50, 51, 45, 67, 56, 52, 69, 69, 48, 65, 68, 67, 68, 55, 53, 125, 47] : List UInt8)))))) then
     some ((((Array.toList (List.toArray ([] : List UInt8))), (Array.toList (List.toArray ([] : List UInt8)))), ((0 : Int), (6 : Int))))
    else
     Option.bind (httpq_asked N v5.1) fun v6 =>
     bif (!(decide (v6.2 = (0 : Int)))) then
      some ((((Array.toList (List.toArray ([] : List UInt8))), (Array.toList (List.toArray ([] : List UInt8)))), ((0 : Int), v6.2)))
     else
      some (((v6.1.1, v6.1.2), (v2.2.1, (0 : Int))))
theorem httpq_Parse_S (b0 : List (Int)) : (runK Tryd.prog (Ev57 N) 400 14 [(.sl (.int .u8))] [(.pair .str .str), (.int .i64), (.int .i64)] (b0, ())).run = httpq_Parse N b0 := by kernel_rfl
noncomputable def Ev58 : (R : Type) → Env R := Env.addFn (Ev57 N) 14 (fun R => fnK [(.sl (.int .u8))] [(.pair .str .str), (.int .i64), (.int .i64)] (fun c => httpq_Parse N c.1))
theorem Ev58_ok (R : Type) : EnvOK Tryd.prog (Ev58 N R) := EnvOK.addFn hmx (Ev57_ok N R) (Ev57_ok N _) (by kernel_rfl) (fun c => httpq_Parse_S N c.1)
noncomputable def httpq_Status (N : Nat) (e0 : Int) : Option Int :=
 bif (decide (e0 = (0 : Int))) then
  some ((200 : Int))
 else
  bif (decide (e0 = (6 : Int))) then
   some ((404 : Int))
  else
   bif (decide (e0 = (9 : Int))) then
    some ((405 : Int))
   else
    bif (decide (e0 = (15 : Int))) then
     some ((505 : Int))
    else
     bif (decide (e0 = (8 : Int))) then
      bif (decide (e0 = (8 : Int))) then
       some ((431 : Int))
      else
       bif (decide (e0 = (4 : Int))) then
        some ((0 : Int))
       else
        some ((400 : Int))
     else
      bif (decide (e0 = (5 : Int))) then
       some ((431 : Int))
      else
       bif (decide (e0 = (4 : Int))) then
        some ((0 : Int))
       else
        some ((400 : Int))
theorem httpq_Status_S (e0 : Int) : (runK Tryd.prog (Ev58 N) 400 16 [(.int .i64)] [(.int .i64)] (e0, ())).run = httpq_Status N e0 := by kernel_rfl
noncomputable def Ev59 : (R : Type) → Env R := Env.addFn (Ev58 N) 16 (fun R => fnK [(.int .i64)] [(.int .i64)] (fun c => httpq_Status N c.1))
theorem Ev59_ok (R : Type) : EnvOK Tryd.prog (Ev59 N R) := EnvOK.addFn hmx (Ev58_ok N R) (Ev58_ok N _) (by kernel_rfl) (fun c => httpq_Status_S N c.1)
noncomputable def ref15_host_L2_I : LI := ⟨28, 0, [], ⟨[(0, .ty .str), (3, .ty (.int .i64))], []⟩, [(.ret, ⟨[(2, .ty .bool)], []⟩), (.exit 0, ⟨[(0, .ty .str)], []⟩)]⟩
noncomputable def ref15_host_L2 (N : Nat) (X : ((List UInt8 × (Int × Unit)) × Unit) → Option ((((Bool × Unit) × Unit) ⊕ ((List UInt8 × Unit) × Unit)))) (s0 : List UInt8) (i3 : Int) : Option ((((Bool × Unit) × Unit) ⊕ ((List UInt8 × Unit) × Unit))) :=
 bif (decide (i3 < (((List.length s0) : Nat) : Int))) then
  Option.bind (getI s0 i3) fun (v4 : UInt8) =>
  Option.bind (bif (decide ((((@UInt8.toNat v4) : Nat) : Int) < (33 : Int))) then
    some (true)
   else
    Option.bind (getI s0 i3) fun (v5 : UInt8) =>
    some ((cond false true (decide ((126 : Int) < (((@UInt8.toNat v5) : Nat) : Int)))))) fun (v5 : Bool) =>
  bif v5 then
   some ((.inl ((false, ()), ())))
  else
   (X ((s0, ((IntKind.wrap .i64 (i3 + 1)), ())), ()))
 else
  some ((.inr ((s0, ()), ())))
noncomputable def ref15_host_L2_R (c : ((List UInt8 × (Int × Unit)) × Unit)) : Option ((((Bool × Unit) × Unit) ⊕ ((List UInt8 × Unit) × Unit))) := gl (fun X c => ref15_host_L2 N X c.1.1 c.1.2.1) N c
theorem ref15_host_L2_S (X : ((List UInt8 × (Int × Unit)) × Unit) → Option ((((Bool × Unit) × Unit) ⊕ ((List UInt8 × Unit) × Unit)))) (s0 : List UInt8) (i3 : Int) : (roundK Tryd.prog (Ev59 N) 400 [20] ref15_host_L2_I (loopAt Tryd.prog [20] 2) X ((s0, i3, ()), ())).run = ref15_host_L2 N X s0 i3 := by kernel_rfl
noncomputable def Ev60 : (R : Type) → Env R := Env.addLp (Ev59 N) [20] 0 2 (fun R => lpK Tryd.prog ref15_host_L2_I (fun X c => ref15_host_L2 N X c.1.1 c.1.2.1) N)
theorem Ev60_ok (R : Type) : EnvOK Tryd.prog (Ev60 N R) := EnvOK.addLp (Ev59_ok N R) (by kernel_rfl) (lpK_ok (li := ref15_host_L2_I) (G := fun X c => ref15_host_L2 N X c.1.1 c.1.2.1) hmx (Ev59_ok N _) (by kernel_rfl) loopAt_sub (fun (X : CT ref15_host_L2_I.sh → Option (OT ref15_host_L2_I.outs)) (c : CT ref15_host_L2_I.sh) => ref15_host_L2_S N X c.1.1 c.1.2.1) N)
noncomputable def ref15_host (s0 : List UInt8) : Option Bool :=
 Option.bind (ref15_host_L2_R N ((s0, ((0 : Int), ())), ())) fun v2 =>
 Sum.elim
  (fun (v3 : ((Bool × Unit) × Unit)) =>
  some (v3.1.1))
  (fun (v3 : ((List UInt8 × Unit) × Unit)) =>
  bif (decide ((1 : Int) ≤ (((List.length v3.1.1) : Nat) : Int))) then
   Option.bind (some ((cond true (decide ((((List.length v3.1.1) : Nat) : Int) ≤ (255 : Int))) false))) fun (v4 : Bool) =>
   some (v4)
  else
   Option.bind (some (false)) fun (v4 : Bool) =>
   some (v4)) v2
theorem ref15_host_S (s0 : List UInt8) : (runK Tryd.prog (Ev60 N) 400 20 [.str] [.bool] (s0, ())).run = ref15_host N s0 := by kernel_rfl
noncomputable def Ev61 : (R : Type) → Env R := Env.addFn (Ev60 N) 20 (fun R => fnK [.str] [.bool] (fun c => ref15_host N c.1))
theorem Ev61_ok (R : Type) : EnvOK Tryd.prog (Ev61 N R) := EnvOK.addFn hmx (Ev60_ok N R) (Ev60_ok N _) (by kernel_rfl) (fun c => ref15_host_S N c.1)
noncomputable def Ev62 : (R : Type) → Env R := Env.addMv (Ev61 N) [(31, 1)]
theorem Ev62_ok (R : Type) : EnvOK Tryd.prog (Ev62 N R) := EnvOK.addMv (Ev61_ok N R) [(31, 1)]
noncomputable def ref15_parts_L3_I : LI := ⟨33, 0, [], ⟨[(0, .ty .str), (3, .lit (.own 0)), (4, .ty (.int .i64))], [.own .str 9]⟩, [(.exit 0, ⟨[(3, .lit (.own 0))], [.own .str 9]⟩)]⟩
noncomputable def ref15_parts_L3 (N : Nat) (X : ((List UInt8 × (Int × Unit)) × ((List (List UInt8)) × Unit)) → Option ((Unit × ((List (List UInt8)) × Unit)))) (s0 : List UInt8) (i4 : Int) (h0 : List (List UInt8)) : Option ((Unit × ((List (List UInt8)) × Unit))) :=
 bif (decide (i4 < (((List.length s0) : Nat) : Int))) then
  Option.bind (getI s0 i4) fun (v5 : UInt8) =>
  bif (decide ((((@UInt8.toNat v5) : Nat) : Int) = (32 : Int))) then
   bif (roomB ((List.length h0) + (List.length ([(Array.toList (List.toArray ([] : List UInt8)))] : List ((List UInt8))))) 16) then
    (X ((s0, ((IntKind.wrap .i64 (i4 + 1)), ())), ((h0 ++ ([(Array.toList (List.toArray ([] : List UInt8)))] : List ((List UInt8)))), ())))
   else
    none
  else
   bif (decide ((0 : Int) ≤ (IntKind.wrap .i64 ((((List.length h0) : Nat) : Int) - 1)) ∧ (IntKind.wrap .i64 ((((List.length h0) : Nat) : Int) - 1)) < (((List.length h0) : Nat) : Int))) then
    Option.bind (@GetElem?.getElem? (List (List UInt8)) Nat (List UInt8) (fun (as6 : (List (List UInt8))) => (fun (i7 : Nat) => (@LT.lt Nat @instLTNat i7 (List.length as6)))) (@List.instGetElem?NatLtLength (List UInt8)) h0 (Int.toNat (IntKind.wrap .i64 ((((List.length h0) : Nat) : Int) - 1)))) fun (v6 : (List UInt8)) =>
    Option.bind (subI s0 i4 (IntKind.wrap .i64 (i4 + 1))) fun (v7 : (List UInt8)) =>
    bif (decide (((List.length v6) + (List.length v7)) ≤ maxLen)) then
     bif (decide ((0 : Int) ≤ (IntKind.wrap .i64 ((((List.length h0) : Nat) : Int) - 1)) ∧ (IntKind.wrap .i64 ((((List.length h0) : Nat) : Int) - 1)) < (((List.length h0) : Nat) : Int))) then
      Option.bind (@GetElem?.getElem? (List (List UInt8)) Nat (List UInt8) (fun (as8 : (List (List UInt8))) => (fun (i9 : Nat) => (@LT.lt Nat @instLTNat i9 (List.length as8)))) (@List.instGetElem?NatLtLength (List UInt8)) h0 (Int.toNat (IntKind.wrap .i64 ((((List.length h0) : Nat) : Int) - 1)))) fun (v8 : (List UInt8)) =>
      (X ((s0, ((IntKind.wrap .i64 (i4 + 1)), ())), ((@List.set (List UInt8) h0 (Int.toNat (IntKind.wrap .i64 ((((List.length h0) : Nat) : Int) - 1))) (v6 ++ v7)), ())))
     else
      none
    else
     none
   else
    none
 else
  some (((), (h0, ())))
noncomputable def ref15_parts_L3_R (c : ((List UInt8 × (Int × Unit)) × ((List (List UInt8)) × Unit))) : Option ((Unit × ((List (List UInt8)) × Unit))) := gl (fun X c => ref15_parts_L3 N X c.1.1 c.1.2.1 c.2.1) N c
theorem ref15_parts_L3_S (X : ((List UInt8 × (Int × Unit)) × ((List (List UInt8)) × Unit)) → Option ((Unit × ((List (List UInt8)) × Unit)))) (s0 : List UInt8) (i4 : Int) (h0 : List (List UInt8)) : (roundK Tryd.prog (Ev62 N) 400 [31] ref15_parts_L3_I (loopAt Tryd.prog [31] 3) X ((s0, i4, ()), (h0, ()))).run = ref15_parts_L3 N X s0 i4 h0 := by kernel_rfl
noncomputable def Ev63 : (R : Type) → Env R := Env.addLp (Ev62 N) [31] 0 3 (fun R => lpK Tryd.prog ref15_parts_L3_I (fun X c => ref15_parts_L3 N X c.1.1 c.1.2.1 c.2.1) N)
theorem Ev63_ok (R : Type) : EnvOK Tryd.prog (Ev63 N R) := EnvOK.addLp (Ev62_ok N R) (by kernel_rfl) (lpK_ok (li := ref15_parts_L3_I) (G := fun X c => ref15_parts_L3 N X c.1.1 c.1.2.1 c.2.1) hmx (Ev62_ok N _) (by kernel_rfl) loopAt_sub (fun (X : CT ref15_parts_L3_I.sh → Option (OT ref15_parts_L3_I.outs)) (c : CT ref15_parts_L3_I.sh) => ref15_parts_L3_S N X c.1.1 c.1.2.1 c.2.1) N)
noncomputable def ref15_parts (s0 : List UInt8) : Option (List (List UInt8)) :=
 Option.bind (ref15_parts_L3_R N ((s0, ((0 : Int), ())), (([(Array.toList (List.toArray ([] : List UInt8)))] : List ((List UInt8))), ()))) fun v2 =>
 some (v2.2.1)
theorem ref15_parts_S (s0 : List UInt8) : (runK Tryd.prog (Ev63 N) 400 31 [.str] [(.sl .str)] (s0, ())).run = ref15_parts N s0 := by kernel_rfl
noncomputable def Ev64 : (R : Type) → Env R := Env.addFn (Ev63 N) 31 (fun R => fnK [.str] [(.sl .str)] (fun c => ref15_parts N c.1))
theorem Ev64_ok (R : Type) : EnvOK Tryd.prog (Ev64 N R) := EnvOK.addFn hmx (Ev63_ok N R) (Ev63_ok N _) (by kernel_rfl) (fun c => ref15_parts_S N c.1)
noncomputable def Ev65 : (R : Type) → Env R := Env.addBx (Ev64 N) [(13, 0)]
theorem Ev65_ok (R : Type) : EnvOK Tryd.prog (Ev65 N R) := EnvOK.addBx (Ev64_ok N R) [(13, 0)]
noncomputable def ref15_Guid (id0 : Arr Int 16) : Option (List UInt8) :=
 Option.bind (ref01_Hex N id0.l) fun v2 =>
 Option.bind (takeI v2 (8 : Int)) fun (v3 : (List UInt8)) =>
 bif (decide (((List.length (Array.toList (List.toArray ([123] : List UInt8)))) + (List.length v3)) ≤ maxLen)) then
  bif (decide (((List.length ((Array.toList (List.toArray ([123] : List UInt8))) ++ v3)) + (List.length (Array.toList (List.toArray ([45] : List UInt8))))) ≤ maxLen)) then
   Option.bind (subI v2 (8 : Int) (12 : Int)) fun (v4 : (List UInt8)) =>
   bif (decide (((List.length (((Array.toList (List.toArray ([123] : List UInt8))) ++ v3) ++ (Array.toList (List.toArray ([45] : List UInt8))))) + (List.length v4)) ≤ maxLen)) then
    bif (decide (((List.length ((((Array.toList (List.toArray ([123] : List UInt8))) ++ v3) ++ (Array.toList (List.toArray ([45] : List UInt8)))) ++ v4)) + (List.length (Array.toList (List.toArray ([45] : List UInt8))))) ≤ maxLen)) then
     Option.bind (subI v2 (12 : Int) (16 : Int)) fun (v5 : (List UInt8)) =>
     bif (decide (((List.length (((((Array.toList (List.toArray ([123] : List UInt8))) ++ v3) ++ (Array.toList (List.toArray ([45] : List UInt8)))) ++ v4) ++ (Array.toList (List.toArray ([45] : List UInt8))))) + (List.length v5)) ≤ maxLen)) then
      bif (decide (((List.length ((((((Array.toList (List.toArray ([123] : List UInt8))) ++ v3) ++ (Array.toList (List.toArray ([45] : List UInt8)))) ++ v4) ++ (Array.toList (List.toArray ([45] : List UInt8)))) ++ v5)) + (List.length (Array.toList (List.toArray ([45] : List UInt8))))) ≤ maxLen)) then
       Option.bind (subI v2 (16 : Int) (20 : Int)) fun (v6 : (List UInt8)) =>
       bif (decide (((List.length (((((((Array.toList (List.toArray ([123] : List UInt8))) ++ v3) ++ (Array.toList (List.toArray ([45] : List UInt8)))) ++ v4) ++ (Array.toList (List.toArray ([45] : List UInt8)))) ++ v5) ++ (Array.toList (List.toArray ([45] : List UInt8))))) + (List.length v6)) ≤ maxLen)) then
        bif (decide (((List.length ((((((((Array.toList (List.toArray ([123] : List UInt8))) ++ v3) ++ (Array.toList (List.toArray ([45] : List UInt8)))) ++ v4) ++ (Array.toList (List.toArray ([45] : List UInt8)))) ++ v5) ++ (Array.toList (List.toArray ([45] : List UInt8)))) ++ v6)) + (List.length (Array.toList (List.toArray ([45] : List UInt8))))) ≤ maxLen)) then
         Option.bind (dropI v2 (20 : Int)) fun (v7 : (List UInt8)) =>
         bif (decide (((List.length (((((((((Array.toList (List.toArray ([123] : List UInt8))) ++ v3) ++ (Array.toList (List.toArray ([45] : List UInt8)))) ++ v4) ++ (Array.toList (List.toArray ([45] : List UInt8)))) ++ v5) ++ (Array.toList (List.toArray ([45] : List UInt8)))) ++ v6) ++ (Array.toList (List.toArray ([45] : List UInt8))))) + (List.length v7)) ≤ maxLen)) then
          bif (decide (((List.length ((((((((((Array.toList (List.toArray ([123] : List UInt8))) ++ v3) ++ (Array.toList (List.toArray ([45] : List UInt8)))) ++ v4) ++ (Array.toList (List.toArray ([45] : List UInt8)))) ++ v5) ++ (Array.toList (List.toArray ([45] : List UInt8)))) ++ v6) ++ (Array.toList (List.toArray ([45] : List UInt8)))) ++ v7)) + (List.length (Array.toList (List.toArray ([125] : List UInt8))))) ≤ maxLen)) then
           some ((((((((((((Array.toList (List.toArray ([123] : List UInt8))) ++ v3) ++ (Array.toList (List.toArray ([45] : List UInt8)))) ++ v4) ++ (Array.toList (List.toArray ([45] : List UInt8)))) ++ v5) ++ (Array.toList (List.toArray ([45] : List UInt8)))) ++ v6) ++ (Array.toList (List.toArray ([45] : List UInt8)))) ++ v7) ++ (Array.toList (List.toArray ([125] : List UInt8)))))
          else
           none
         else
          none
        else
         none
       else
        none
      else
       none
     else
      none
    else
     none
   else
    none
  else
   none
 else
  none
theorem ref15_Guid_S (id0 : Arr Int 16) : (runK Tryd.prog (Ev65 N) 400 13 [(.arr 16 (.int .u8))] [.str] (id0, ())).run = ref15_Guid N id0 := by kernel_rfl
noncomputable def Ev66 : (R : Type) → Env R := Env.addFn (Ev65 N) 13 (fun R => fnK [(.arr 16 (.int .u8))] [.str] (fun c => ref15_Guid N c.1))
theorem Ev66_ok (R : Type) : EnvOK Tryd.prog (Ev66 N R) := EnvOK.addFn hmx (Ev65_ok N R) (Ev65_ok N _) (by kernel_rfl) (fun c => ref15_Guid_S N c.1)
noncomputable def Ev67 : (R : Type) → Env R := Env.addFn (Ev66 N) 23 (fun R => uhK)
theorem Ev67_ok (R : Type) : EnvOK Tryd.prog (Ev67 N R) := EnvOK.addExt (Ev66_ok N R) ruh_ok
noncomputable def ref15_Id_L8_I : LI := ⟨74, 0, [], ⟨[(2, .lit (.box 0 0)), (4, .lit (.box 1 0)), (5, .ty (.sl (.int .u8))), (7, .ty (.int .i64))], [.box 24 (.arr 16 (.int .u8)), .box 24 (.arr 16 (.int .u8))]⟩, [(.exit 0, ⟨[(2, .lit (.box 0 0)), (4, .lit (.box 1 0))], [.box 24 (.arr 16 (.int .u8)), .box 24 (.arr 16 (.int .u8))]⟩)]⟩
noncomputable def ref15_Id_L8 (N : Nat) (X : (((List Int) × (Int × Unit)) × ((Arr Int 16) × ((Arr Int 16) × Unit))) → Option ((Unit × ((Arr Int 16) × ((Arr Int 16) × Unit))))) (b5 : List (Int)) (i7 : Int) (h0 : Arr Int 16) (h1 : Arr Int 16) : Option ((Unit × ((Arr Int 16) × ((Arr Int 16) × Unit)))) :=
 bif (decide (i7 < (16 : Int))) then
  Option.bind (getI b5 i7) fun (v6 : Int) =>
  bif (decide ((0 : Int) ≤ i7 ∧ i7 < ((16 : Nat) : Int))) then
   Option.bind (h1.l[Int.toNat i7]?) fun (v7 : Int) =>
   (X ((b5, ((IntKind.wrap .i64 (i7 + 1)), ())), (h0, ((h1.set (Int.toNat i7) v6), ()))))
  else
   none
 else
  some (((), (h0, (h1, ()))))
noncomputable def ref15_Id_L8_R (c : (((List Int) × (Int × Unit)) × ((Arr Int 16) × ((Arr Int 16) × Unit)))) : Option ((Unit × ((Arr Int 16) × ((Arr Int 16) × Unit)))) := gl (fun X c => ref15_Id_L8 N X c.1.1 c.1.2.1 c.2.1 c.2.2.1) N c
theorem ref15_Id_L8_S (X : (((List Int) × (Int × Unit)) × ((Arr Int 16) × ((Arr Int 16) × Unit))) → Option ((Unit × ((Arr Int 16) × ((Arr Int 16) × Unit))))) (b5 : List (Int)) (i7 : Int) (h0 : Arr Int 16) (h1 : Arr Int 16) : (roundK Tryd.prog (Ev67 N) 400 [10] ref15_Id_L8_I (loopAt Tryd.prog [10] 8) X ((b5, i7, ()), (h0, h1, ()))).run = ref15_Id_L8 N X b5 i7 h0 h1 := by kernel_rfl
noncomputable def Ev68 : (R : Type) → Env R := Env.addLp (Ev67 N) [10] 0 8 (fun R => lpK Tryd.prog ref15_Id_L8_I (fun X c => ref15_Id_L8 N X c.1.1 c.1.2.1 c.2.1 c.2.2.1) N)
theorem Ev68_ok (R : Type) : EnvOK Tryd.prog (Ev68 N R) := EnvOK.addLp (Ev67_ok N R) (by kernel_rfl) (lpK_ok (li := ref15_Id_L8_I) (G := fun X c => ref15_Id_L8 N X c.1.1 c.1.2.1 c.2.1 c.2.2.1) hmx (Ev67_ok N _) (by kernel_rfl) loopAt_sub (fun (X : CT ref15_Id_L8_I.sh → Option (OT ref15_Id_L8_I.outs)) (c : CT ref15_Id_L8_I.sh) => ref15_Id_L8_S N X c.1.1 c.1.2.1 c.2.1 c.2.2.1) N)
noncomputable def ref15_Id (s0 : List UInt8) : Option ((Arr Int 16) × Int) :=
 Option.bind (bif (!(decide ((((List.length s0) : Nat) : Int) = (38 : Int)))) then
   some (true)
  else
   Option.bind (getI s0 (0 : Int)) fun (v2 : UInt8) =>
   some ((cond false true (!(decide ((((@UInt8.toNat v2) : Nat) : Int) = (123 : Int))))))) fun (v2 : Bool) =>
 Option.bind (bif v2 then
   some (true)
  else
   Option.bind (getI s0 (37 : Int)) fun (v3 : UInt8) =>
   some ((cond false true (!(decide ((((@UInt8.toNat v3) : Nat) : Int) = (125 : Int))))))) fun (v3 : Bool) =>
 Option.bind (bif v3 then
   some (true)
  else
   Option.bind (getI s0 (9 : Int)) fun (v4 : UInt8) =>
   some ((cond false true (!(decide ((((@UInt8.toNat v4) : Nat) : Int) = (45 : Int))))))) fun (v4 : Bool) =>
 Option.bind (bif v4 then
   some (true)
  else
   Option.bind (getI s0 (14 : Int)) fun (v5 : UInt8) =>
   some ((cond false true (!(decide ((((@UInt8.toNat v5) : Nat) : Int) = (45 : Int))))))) fun (v5 : Bool) =>
 Option.bind (bif v5 then
   some (true)
  else
   Option.bind (getI s0 (19 : Int)) fun (v6 : UInt8) =>
   some ((cond false true (!(decide ((((@UInt8.toNat v6) : Nat) : Int) = (45 : Int))))))) fun (v6 : Bool) =>
 Option.bind (bif v6 then
   some (true)
  else
   Option.bind (getI s0 (24 : Int)) fun (v7 : UInt8) =>
   some ((cond false true (!(decide ((((@UInt8.toNat v7) : Nat) : Int) = (45 : Int))))))) fun (v7 : Bool) =>
 bif v7 then
  some (((@Arr.cons Int 15 0 (@Arr.cons Int 14 0 (@Arr.cons Int 13 0 (@Arr.cons Int 12 0 (@Arr.cons Int 11 0 (@Arr.cons Int 10 0 (@Arr.cons Int 9 0 (@Arr.cons Int 8 0 (@Arr.cons Int 7 0 (@Arr.cons Int 6 0 (@Arr.cons Int 5 0 (@Arr.cons Int 4 0 (@Arr.cons Int 3 0 (@Arr.cons Int 2 0 (@Arr.cons Int 1 0 (@Arr.cons Int 0 0 (@Arr.nil Int))))))))))))))))), (3 : Int)))
 else
  Option.bind (subI s0 (1 : Int) (9 : Int)) fun (v8 : (List UInt8)) =>
  Option.bind (subI s0 (10 : Int) (14 : Int)) fun (v9 : (List UInt8)) =>
  bif (decide (((List.length v8) + (List.length v9)) ≤ maxLen)) then
   Option.bind (subI s0 (15 : Int) (19 : Int)) fun (v10 : (List UInt8)) =>
   bif (decide (((List.length (v8 ++ v9)) + (List.length v10)) ≤ maxLen)) then
    Option.bind (subI s0 (20 : Int) (24 : Int)) fun (v11 : (List UInt8)) =>
    bif (decide (((List.length ((v8 ++ v9) ++ v10)) + (List.length v11)) ≤ maxLen)) then
     Option.bind (subI s0 (25 : Int) (37 : Int)) fun (v12 : (List UInt8)) =>
     bif (decide (((List.length (((v8 ++ v9) ++ v10) ++ v11)) + (List.length v12)) ≤ maxLen)) then
      bif (decide ((List.length ((((v8 ++ v9) ++ v10) ++ v11) ++ v12)) ≤ (1000000 : Nat))) then
       bif (!(decide ((@unhexE ((((v8 ++ v9) ++ v10) ++ v11) ++ v12)) = (0 : Int)))) then
        some (((@Arr.cons Int 15 0 (@Arr.cons Int 14 0 (@Arr.cons Int 13 0 (@Arr.cons Int 12 0 (@Arr.cons Int 11 0 (@Arr.cons Int 10 0 (@Arr.cons Int 9 0 (@Arr.cons Int 8 0 (@Arr.cons Int 7 0 (@Arr.cons Int 6 0 (@Arr.cons Int 5 0 (@Arr.cons Int 4 0 (@Arr.cons Int 3 0 (@Arr.cons Int 2 0 (@Arr.cons Int 1 0 (@Arr.cons Int 0 0 (@Arr.nil Int))))))))))))))))), (3 : Int)))
       else
        Option.bind (ref15_Id_L8_R N (((@unhexR ((((v8 ++ v9) ++ v10) ++ v11) ++ v12)), ((0 : Int), ())), ((@Arr.cons Int 15 0 (@Arr.cons Int 14 0 (@Arr.cons Int 13 0 (@Arr.cons Int 12 0 (@Arr.cons Int 11 0 (@Arr.cons Int 10 0 (@Arr.cons Int 9 0 (@Arr.cons Int 8 0 (@Arr.cons Int 7 0 (@Arr.cons Int 6 0 (@Arr.cons Int 5 0 (@Arr.cons Int 4 0 (@Arr.cons Int 3 0 (@Arr.cons Int 2 0 (@Arr.cons Int 1 0 (@Arr.cons Int 0 0 (@Arr.nil Int))))))))))))))))), ((@Arr.cons Int 15 0 (@Arr.cons Int 14 0 (@Arr.cons Int 13 0 (@Arr.cons Int 12 0 (@Arr.cons Int 11 0 (@Arr.cons Int 10 0 (@Arr.cons Int 9 0 (@Arr.cons Int 8 0 (@Arr.cons Int 7 0 (@Arr.cons Int 6 0 (@Arr.cons Int 5 0 (@Arr.cons Int 4 0 (@Arr.cons Int 3 0 (@Arr.cons Int 2 0 (@Arr.cons Int 1 0 (@Arr.cons Int 0 0 (@Arr.nil Int))))))))))))))))), ())))) fun v13 =>
        some ((v13.2.2.1, (0 : Int)))
      else
       none
     else
      none
    else
     none
   else
    none
  else
   none
theorem ref15_Id_S (s0 : List UInt8) : (runK Tryd.prog (Ev68 N) 400 10 [.str] [(.arr 16 (.int .u8)), (.int .i64)] (s0, ())).run = ref15_Id N s0 := by kernel_rfl
noncomputable def Ev69 : (R : Type) → Env R := Env.addFn (Ev68 N) 10 (fun R => fnK [.str] [(.arr 16 (.int .u8)), (.int .i64)] (fun c => ref15_Id N c.1))
theorem Ev69_ok (R : Type) : EnvOK Tryd.prog (Ev69 N R) := EnvOK.addFn hmx (Ev68_ok N R) (Ev68_ok N _) (by kernel_rfl) (fun c => ref15_Id_S N c.1)
noncomputable def Ev70 : (R : Type) → Env R := Env.addBx (Ev69 N) [(8, 0)]
theorem Ev70_ok (R : Type) : EnvOK Tryd.prog (Ev70 N R) := EnvOK.addBx (Ev69_ok N R) [(8, 0)]
noncomputable def ref15_Lay (r0 : List UInt8 × (List UInt8)) : Option ((List Int) × Int) :=
 bif (decide (((List.length (Array.toList (List.toArray (@List.append UInt8 ([83, 83, 84, 80, 95, 68, 85, 80, 76, 69, 88, 95, 80, 79, 83, 84, 32, 47, 115, 114, 97, 95, 123, 66, 65, 49, 57, 53, 57, 56, 48, 45, 67, 68, 52, 57, 45, 52, 53] : List UInt8) ([56, 98, 45, 57, 69, 50, 51, 45, 67, 56, 52, 69, 69, 48, 65, 68, 67, 68, 55, 53, 125, 47, 32, 72, 84, 84, 80, 47, 49, 46, 49, 13, 10, 72, 111, 115, 116, 58, 32] : List UInt8))))) + (List.length r0.1)) ≤ maxLen)) then
  bif (decide (((List.length ((Array.toList (List.toArray (@List.append UInt8 ([83, 83, 84, 80, 95, 68, 85, 80, 76, 69, 88, 95, 80, 79, 83, 84, 32, 47, 115, 114, 97, 95, 123, 66, 65, 49, 57, 53, 57, 56, 48, 45, 67, 68, 52, 57, 45, 52, 53] : List UInt8) ([56, 98, 45, 57, 69, 50, 51, 45, 67, 56, 52, 69, 69, 48, 65, 68, 67, 68, 55, 53, 125, 47, 32, 72, 84, 84, 80, 47, 49, 46, 49, 13, 10, 72, 111, 115, 116, 58, 32] : List UInt8)))) ++ r0.1)) + (List.length (Array.toList (List.toArray ([13, 10, 67, 111, 110, 116, 101, 110, 116, 45, 76, 101, 110, 103, 116, 104, 58, 32, 49, 56, 52, 52, 54, 55, 52, 52, 48, 55, 51, 55, 48, 57, 53, 53, 49, 54, 49, 53, 13, 10] : List UInt8))))) ≤ maxLen)) then
   bif (!(decide (r0.2 = (Array.toList (List.toArray ([] : List UInt8)))))) then
    Option.bind (ref15_Id N r0.2) fun v2 =>
    bif (!(decide (v2.2 = (0 : Int)))) then
     some ((([] : List Int), (3 : Int)))
    else
     bif (decide (((List.length (Array.toList (List.toArray ([83, 83, 84, 80, 67, 79, 82, 82, 69, 76, 65, 84, 73, 79, 78, 73, 68, 58, 32] : List UInt8)))) + (List.length r0.2)) ≤ maxLen)) then
      bif (decide (((List.length ((Array.toList (List.toArray ([83, 83, 84, 80, 67, 79, 82, 82, 69, 76, 65, 84, 73, 79, 78, 73, 68, 58, 32] : List UInt8))) ++ r0.2)) + (List.length (Array.toList (List.toArray ([13, 10] : List UInt8))))) ≤ maxLen)) then
       bif (decide (((List.length (((Array.toList (List.toArray (@List.append UInt8 ([83, 83, 84, 80, 95, 68, 85, 80, 76, 69, 88, 95, 80, 79, 83, 84, 32, 47, 115, 114, 97, 95, 123, 66, 65, 49, 57, 53, 57, 56, 48, 45, 67, 68, 52, 57, 45, 52, 53] : List UInt8) ([56, 98, 45, 57, 69, 50, 51, 45, 67, 56, 52, 69, 69, 48, 65, 68, 67, 68, 55, 53, 125, 47, 32, 72, 84, 84, 80, 47, 49, 46, 49, 13, 10, 72, 111, 115, 116, 58, 32] : List UInt8)))) ++ r0.1) ++ (Array.toList (List.toArray ([13, 10, 67, 111, 110, 116, 101, 110, 116, 45, 76, 101, 110, 103, 116, 104, 58, 32, 49, 56, 52, 52, 54, 55, 52, 52, 48, 55, 51, 55, 48, 57, 53, 53, 49, 54, 49, 53, 13, 10] : List UInt8))))) + (List.length (((Array.toList (List.toArray ([83, 83, 84, 80, 67, 79, 82, 82, 69, 76, 65, 84, 73, 79, 78, 73, 68, 58, 32] : List UInt8))) ++ r0.2) ++ (Array.toList (List.toArray ([13, 10] : List UInt8)))))) ≤ maxLen)) then
        Option.bind (ref15_host N r0.1) fun v3 =>
        bif (!v3) then
         some ((([] : List Int), (3 : Int)))
        else
         bif (decide (((List.length ((((Array.toList (List.toArray (@List.append UInt8 ([83, 83, 84, 80, 95, 68, 85, 80, 76, 69, 88, 95, 80, 79, 83, 84, 32, 47, 115, 114, 97, 95, 123, 66, 65, 49, 57, 53, 57, 56, 48, 45, 67, 68, 52, 57, 45, 52, 53] : List UInt8) ([56, 98, 45, 57, 69, 50, 51, 45, 67, 56, 52, 69, 69, 48, 65, 68, 67, 68, 55, 53, 125, 47, 32, 72, 84, 84, 80, 47, 49, 46, 49, 13, 10, 72, 111, 115, 116, 58, 32] : List UInt8)))) ++ r0.1) ++ (Array.toList (List.toArray ([13, 10, 67, 111, 110, 116, 101, 110, 116, 45, 76, 101, 110, 103, 116, 104, 58, 32, 49, 56, 52, 52, 54, 55, 52, 52, 48, 55, 51, 55, 48, 57, 53, 53, 49, 54, 49, 53, 13, 10] : List UInt8)))) ++ (((Array.toList (List.toArray ([83, 83, 84, 80, 67, 79, 82, 82, 69, 76, 65, 84, 73, 79, 78, 73, 68, 58, 32] : List UInt8))) ++ r0.2) ++ (Array.toList (List.toArray ([13, 10] : List UInt8)))))) + (List.length (Array.toList (List.toArray ([13, 10] : List UInt8))))) ≤ maxLen)) then
          bif (roomB (List.length (((((Array.toList (List.toArray (@List.append UInt8 ([83, 83, 84, 80, 95, 68, 85, 80, 76, 69, 88, 95, 80, 79, 83, 84, 32, 47, 115, 114, 97, 95, 123, 66, 65, 49, 57, 53, 57, 56, 48, 45, 67, 68, 52, 57, 45, 52, 53] : List UInt8) ([56, 98, 45, 57, 69, 50, 51, 45, 67, 56, 52, 69, 69, 48, 65, 68, 67, 68, 55, 53, 125, 47, 32, 72, 84, 84, 80, 47, 49, 46, 49, 13, 10, 72, 111, 115, 116, 58, 32] : List UInt8)))) ++ r0.1) ++ (Array.toList (List.toArray ([13, 10, 67, 111, 110, 116, 101, 110, 116, 45, 76, 101, 110, 103, 116, 104, 58, 32, 49, 56, 52, 52, 54, 55, 52, 52, 48, 55, 51, 55, 48, 57, 53, 53, 49, 54, 49, 53, 13, 10] : List UInt8)))) ++ (((Array.toList (List.toArray ([83, 83, 84, 80, 67, 79, 82, 82, 69, 76, 65, 84, 73, 79, 78, 73, 68, 58, 32] : List UInt8))) ++ r0.2) ++ (Array.toList (List.toArray ([13, 10] : List UInt8))))) ++ (Array.toList (List.toArray ([13, 10] : List UInt8))))) 1) then
           some (((@ofB (((((Array.toList (List.toArray (@List.append UInt8 ([83, 83, 84, 80, 95, 68, 85, 80, 76, 69, 88, 95, 80, 79, 83, 84, 32, 47, 115, 114, 97, 95, 123, 66, 65, 49, 57, 53, 57, 56, 48, 45, 67, 68, 52, 57, 45, 52, 53] : List UInt8) ([56, 98, 45, 57, 69, 50, 51, 45, 67, 56, 52, 69, 69, 48, 65, 68, 67, 68, 55, 53, 125, 47, 32, 72, 84, 84, 80, 47, 49, 46, 49, 13, 10, 72, 111, 115, 116, 58, 32] : List UInt8)))) ++ r0.1) ++ (Array.toList (List.toArray ([13, 10, 67, 111, 110, 116, 101, 110, 116, 45, 76, 101, 110, 103, 116, 104, 58, 32, 49, 56, 52, 52, 54, 55, 52, 52, 48, 55, 51, 55, 48, 57, 53, 53, 49, 54, 49, 53, 13, 10] : List UInt8)))) ++ (((Array.toList (List.toArray ([83, 83, 84, 80, 67, 79, 82, 82, 69, 76, 65, 84, 73, 79, 78, 73, 68, 58, 32] : List UInt8))) ++ r0.2) ++ (Array.toList (List.toArray ([13, 10] : List UInt8))))) ++ (Array.toList (List.toArray ([13, 10] : List UInt8))))), (0 : Int)))
          else
           none
         else
          none
       else
        none
      else
       none
     else
      none
   else
    Option.bind (ref15_host N r0.1) fun v2 =>
    bif (!v2) then
     some ((([] : List Int), (3 : Int)))
    else
     bif (decide (((List.length (((Array.toList (List.toArray (@List.append UInt8 ([83, 83, 84, 80, 95, 68, 85, 80, 76, 69, 88, 95, 80, 79, 83, 84, 32, 47, 115, 114, 97, 95, 123, 66, 65, 49, 57, 53, 57, 56, 48, 45, 67, 68, 52, 57, 45, 52, 53] : List UInt8) ([56, 98, 45, 57, 69, 50, 51, 45, 67, 56, 52, 69, 69, 48, 65, 68, 67, 68, 55, 53, 125, 47, 32, 72, 84, 84, 80, 47, 49, 46, 49, 13, 10, 72, 111, 115, 116, 58, 32] : List UInt8)))) ++ r0.1) ++ (Array.toList (List.toArray ([13, 10, 67, 111, 110, 116, 101, 110, 116, 45, 76, 101, 110, 103, 116, 104, 58, 32, 49, 56, 52, 52, 54, 55, 52, 52, 48, 55, 51, 55, 48, 57, 53, 53, 49, 54, 49, 53, 13, 10] : List UInt8))))) + (List.length (Array.toList (List.toArray ([13, 10] : List UInt8))))) ≤ maxLen)) then
      bif (roomB (List.length ((((Array.toList (List.toArray (@List.append UInt8 ([83, 83, 84, 80, 95, 68, 85, 80, 76, 69, 88, 95, 80, 79, 83, 84, 32, 47, 115, 114, 97, 95, 123, 66, 65, 49, 57, 53, 57, 56, 48, 45, 67, 68, 52, 57, 45, 52, 53] : List UInt8) ([56, 98, 45, 57, 69, 50, 51, 45, 67, 56, 52, 69, 69, 48, 65, 68, 67, 68, 55, 53, 125, 47, 32, 72, 84, 84, 80, 47, 49, 46, 49, 13, 10, 72, 111, 115, 116, 58, 32] : List UInt8)))) ++ r0.1) ++ (Array.toList (List.toArray ([13, 10, 67, 111, 110, 116, 101, 110, 116, 45, 76, 101, 110, 103, 116, 104, 58, 32, 49, 56, 52, 52, 54, 55, 52, 52, 48, 55, 51, 55, 48, 57, 53, 53, 49, 54, 49, 53, 13, 10] : List UInt8)))) ++ (Array.toList (List.toArray ([13, 10] : List UInt8))))) 1) then
       some (((@ofB ((((Array.toList (List.toArray (@List.append UInt8 ([83, 83, 84, 80, 95, 68, 85, 80, 76, 69, 88, 95, 80, 79, 83, 84, 32, 47, 115, 114, 97, 95, 123, 66, 65, 49, 57, 53, 57, 56, 48, 45, 67, 68, 52, 57, 45, 52, 53] : List UInt8) ([56, 98, 45, 57, 69, 50, 51, 45, 67, 56, 52, 69, 69, 48, 65, 68, 67, 68, 55, 53, 125, 47, 32, 72, 84, 84, 80, 47, 49, 46, 49, 13, 10, 72, 111, 115, 116, 58, 32] : List UInt8)))) ++ r0.1) ++ (Array.toList (List.toArray ([13, 10, 67, 111, 110, 116, 101, 110, 116, 45, 76, 101, 110, 103, 116, 104, 58, 32, 49, 56, 52, 52, 54, 55, 52, 52, 48, 55, 51, 55, 48, 57, 53, 53, 49, 54, 49, 53, 13, 10] : List UInt8)))) ++ (Array.toList (List.toArray ([13, 10] : List UInt8))))), (0 : Int)))
      else
       none
     else
      none
  else
   none
 else
  none
theorem ref15_Lay_S (r0 : List UInt8 × (List UInt8)) : (runK Tryd.prog (Ev70 N) 400 8 [(.pair .str .str)] [(.sl (.int .u8)), (.int .i64)] (r0, ())).run = ref15_Lay N r0 := by kernel_rfl
noncomputable def Ev71 : (R : Type) → Env R := Env.addFn (Ev70 N) 8 (fun R => fnK [(.pair .str .str)] [(.sl (.int .u8)), (.int .i64)] (fun c => ref15_Lay N c.1))
theorem Ev71_ok (R : Type) : EnvOK Tryd.prog (Ev71 N R) := EnvOK.addFn hmx (Ev70_ok N R) (Ev70_ok N _) (by kernel_rfl) (fun c => ref15_Lay_S N c.1)
noncomputable def ref15_Parse (b0 : List (Int)) : Option ((List UInt8 × (List UInt8)) × Int × Int) :=
 Option.bind (ref14_Head N b0) fun v2 =>
 bif (!(decide (v2.2.2 = (0 : Int)))) then
  some ((((Array.toList (List.toArray ([] : List UInt8))), (Array.toList (List.toArray ([] : List UInt8)))), ((0 : Int), v2.2.2)))
 else
  bif (decide ((((List.length v2.1) : Nat) : Int) = (0 : Int))) then
   some ((((Array.toList (List.toArray ([] : List UInt8))), (Array.toList (List.toArray ([] : List UInt8)))), ((0 : Int), (3 : Int))))
  else
   Option.bind (getI v2.1 (0 : Int)) fun (v3 : (List UInt8)) =>
   Option.bind (ref15_parts N v3) fun v4 =>
   Option.bind (bif (!(decide ((((List.length v4) : Nat) : Int) = (3 : Int)))) then
     some (true)
    else
     Option.bind (getI v4 (0 : Int)) fun (v5 : (List UInt8)) =>
     some ((cond false true (decide (v5 = (Array.toList (List.toArray ([] : List UInt8)))))))) fun (v5 : Bool) =>
   Option.bind (bif v5 then
     some (true)
    else
     Option.bind (getI v4 (1 : Int)) fun (v6 : (List UInt8)) =>
     some ((cond false true (decide (v6 = (Array.toList (List.toArray ([] : List UInt8)))))))) fun (v6 : Bool) =>
   Option.bind (bif v6 then
     some (true)
    else
     Option.bind (getI v4 (2 : Int)) fun (v7 : (List UInt8)) =>
     some ((cond false true (decide (v7 = (Array.toList (List.toArray ([] : List UInt8)))))))) fun (v7 : Bool) =>
   bif v7 then
    some ((((Array.toList (List.toArray ([] : List UInt8))), (Array.toList (List.toArray ([] : List UInt8)))), ((0 : Int), (3 : Int))))
   else
    Option.bind (getI v4 (0 : Int)) fun (v8 : (List UInt8)) =>
    bif (!(decide (v8 = (Array.toList (List.toArray ([83, 83, 84, 80, 95, 68, 85, 80, 76, 69, 88, 95, 80, 79, 83, 84] : List UInt8)))))) then
     some ((((Array.toList (List.toArray ([] : List UInt8))), (Array.toList (List.toArray ([] : List UInt8)))), ((0 : Int), (9 : Int))))
    else
     Option.bind (getI v4 (2 : Int)) fun (v9 : (List UInt8)) =>
     bif (!(decide (v9 = (Array.toList (List.toArray ([72, 84, 84, 80, 47, 49, 46, 49] : List UInt8)))))) then
      some ((((Array.toList (List.toArray ([] : List UInt8))), (Array.toList (List.toArray ([] : List UInt8)))), ((0 : Int), (15 : Int))))
     else
      Option.bind (dropI v2.1 (1 : Int)) fun (v10 : (List (List UInt8))) =>
      Option.bind (ref14_Fields N v10) fun v11 =>
      bif (!(decide (v11.2 = (0 : Int)))) then
       some ((((Array.toList (List.toArray ([] : List UInt8))), (Array.toList (List.toArray ([] : List UInt8)))), ((0 : Int), v11.2)))
      else
       Option.bind (getI v4 (1 : Int)) fun (v12 : (List UInt8)) =>
       bif (!(decide (v12 = (Array.toList (List.toArray ([47, 115, 114, 97, 95, 123, 66, 65, 49, 57, 53, 57, 56, 48, 45, 67, 68, 52, 57, 45, 52, 53, 56, 98, 45, 57, 69, 50, 51, 45, 67, 56, 52, 69, 69, 48, 65, 68, 67, 68, 55, 53, 125, 47] : List UInt8)))))) then
        some ((((Array.toList (List.toArray ([] : List UInt8))), (Array.toList (List.toArray ([] : List UInt8)))), ((0 : Int), (6 : Int))))
       else
        Option.bind (ref14_Find N v11.1 (Array.toList (List.toArray ([72, 111, 115, 116] : List UInt8)))) fun v13 =>
        bif (!(decide (v13.2 = (0 : Int)))) then
         some ((((Array.toList (List.toArray ([] : List UInt8))), (Array.toList (List.toArray ([] : List UInt8)))), ((0 : Int), v13.2)))
        else
         Option.bind (ref15_host N v13.1) fun v14 =>
         bif (!v14) then
          some ((((Array.toList (List.toArray ([] : List UInt8))), (Array.toList (List.toArray ([] : List UInt8)))), ((0 : Int), (3 : Int))))
         else
          Option.bind (ref14_Find N v11.1 (Array.toList (List.toArray ([67, 111, 110, 116, 101, 110, 116, 45, 76, 101, 110, 103, 116, 104] : List UInt8)))) fun v15 =>
          bif (!(decide (v15.2 = (0 : Int)))) then
           some ((((Array.toList (List.toArray ([] : List UInt8))), (Array.toList (List.toArray ([] : List UInt8)))), ((0 : Int), v15.2)))
          else
           bif (!(decide (v15.1 = (Array.toList (List.toArray ([49, 56, 52, 52, 54, 55, 52, 52, 48, 55, 51, 55, 48, 57, 53, 53, 49, 54, 49, 53] : List UInt8)))))) then
            some ((((Array.toList (List.toArray ([] : List UInt8))), (Array.toList (List.toArray ([] : List UInt8)))), ((0 : Int), (3 : Int))))
           else
            Option.bind (ref14_Find N v11.1 (Array.toList (List.toArray ([83, 83, 84, 80, 67, 79, 82, 82, 69, 76, 65, 84, 73, 79, 78, 73, 68] : List UInt8)))) fun v16 =>
            bif (decide (v16.2 = (7 : Int))) then
             some ((((Array.toList (List.toArray ([] : List UInt8))), (Array.toList (List.toArray ([] : List UInt8)))), ((0 : Int), (7 : Int))))
            else
             Option.bind (ref15_Id N v16.1) fun v17 =>
             Option.bind (bif (decide (v16.2 = (0 : Int))) then
               some ((cond true (!(decide (v17.2 = (0 : Int)))) false))
              else
               some (false)) fun (v18 : Bool) =>
             bif v18 then
              some ((((Array.toList (List.toArray ([] : List UInt8))), (Array.toList (List.toArray ([] : List UInt8)))), ((0 : Int), (3 : Int))))
             else
              some (((v13.1, v16.1), (v2.2.1, (0 : Int))))
theorem ref15_Parse_S (b0 : List (Int)) : (runK Tryd.prog (Ev71 N) 400 15 [(.sl (.int .u8))] [(.pair .str .str), (.int .i64), (.int .i64)] (b0, ())).run = ref15_Parse N b0 := by kernel_rfl
noncomputable def Ev72 : (R : Type) → Env R := Env.addFn (Ev71 N) 15 (fun R => fnK [(.sl (.int .u8))] [(.pair .str .str), (.int .i64), (.int .i64)] (fun c => ref15_Parse N c.1))
theorem Ev72_ok (R : Type) : EnvOK Tryd.prog (Ev72 N R) := EnvOK.addFn hmx (Ev71_ok N R) (Ev71_ok N _) (by kernel_rfl) (fun c => ref15_Parse_S N c.1)
noncomputable def ref15_Status (N : Nat) (e0 : Int) : Option Int :=
 bif (decide (e0 = (0 : Int))) then
  some ((200 : Int))
 else
  bif (decide (e0 = (6 : Int))) then
   some ((404 : Int))
  else
   bif (decide (e0 = (9 : Int))) then
    some ((405 : Int))
   else
    bif (decide (e0 = (15 : Int))) then
     some ((505 : Int))
    else
     bif (decide (e0 = (8 : Int))) then
      bif (decide (e0 = (8 : Int))) then
       some ((431 : Int))
      else
       bif (decide (e0 = (4 : Int))) then
        some ((0 : Int))
       else
        some ((400 : Int))
     else
      bif (decide (e0 = (5 : Int))) then
       some ((431 : Int))
      else
       bif (decide (e0 = (4 : Int))) then
        some ((0 : Int))
       else
        some ((400 : Int))
theorem ref15_Status_S (e0 : Int) : (runK Tryd.prog (Ev72 N) 400 17 [(.int .i64)] [(.int .i64)] (e0, ())).run = ref15_Status N e0 := by kernel_rfl
noncomputable def Ev73 : (R : Type) → Env R := Env.addFn (Ev72 N) 17 (fun R => fnK [(.int .i64)] [(.int .i64)] (fun c => ref15_Status N c.1))
theorem Ev73_ok (R : Type) : EnvOK Tryd.prog (Ev73 N R) := EnvOK.addFn hmx (Ev72_ok N R) (Ev72_ok N _) (by kernel_rfl) (fun c => ref15_Status_S N c.1)
noncomputable def law15_alive : Option Bool :=
 Option.bind (httpq_Lay N ((Array.toList (List.toArray ([104] : List UInt8))), (Array.toList (List.toArray ([] : List UInt8))))) fun v1 =>
 Option.bind (httpq_Parse N v1.1) fun v2 =>
 Option.bind (httpq_Guid N (@Arr.cons Int 15 1 (@Arr.cons Int 14 2 (@Arr.cons Int 13 0 (@Arr.cons Int 12 0 (@Arr.cons Int 11 0 (@Arr.cons Int 10 0 (@Arr.cons Int 9 0 (@Arr.cons Int 8 0 (@Arr.cons Int 7 0 (@Arr.cons Int 6 0 (@Arr.cons Int 5 0 (@Arr.cons Int 4 0 (@Arr.cons Int 3 0 (@Arr.cons Int 2 0 (@Arr.cons Int 1 0 (@Arr.cons Int 0 0 (@Arr.nil Int)))))))))))))))))) fun v3 =>
 Option.bind (httpq_Id N v3) fun v4 =>
 Option.bind (bif (decide ((100 : Int) < (((List.length v1.1) : Nat) : Int))) then
   some ((cond true (decide (v1.2 = (0 : Int))) false))
  else
   some (false)) fun (v5 : Bool) =>
 Option.bind (bif v5 then
   some ((cond true (decide (v2.1.1 = (Array.toList (List.toArray ([104] : List UInt8))))) false))
  else
   some (false)) fun (v6 : Bool) =>
 bif v6 then
  Option.bind (some ((cond true (decide (v2.2.1 = (((List.length v1.1) : Nat) : Int))) false))) fun (v7 : Bool) =>
  Option.bind (bif v7 then
    some ((cond true (decide (v2.2.2 = (0 : Int))) false))
   else
    some (false)) fun (v8 : Bool) =>
  bif v8 then
   Option.bind (bif ((@wfB (@Td.arr (16 : Nat) (@Td.int @IntKind.u8)) v4.1) && (@wfB (@Td.arr (16 : Nat) (@Td.int @IntKind.u8)) (@Arr.cons Int 15 1 (@Arr.cons Int 14 2 (@Arr.cons Int 13 0 (@Arr.cons Int 12 0 (@Arr.cons Int 11 0 (@Arr.cons Int 10 0 (@Arr.cons Int 9 0 (@Arr.cons Int 8 0 (@Arr.cons Int 7 0 (@Arr.cons Int 6 0 (@Arr.cons Int 5 0 (@Arr.cons Int 4 0 (@Arr.cons Int 3 0 (@Arr.cons Int 2 0 (@Arr.cons Int 1 0 (@Arr.cons Int 0 0 (@Arr.nil Int))))))))))))))))))) then
     some ((cond true (@Decidable.decide (@Eq (Arr Int 16) v4.1 (@Arr.cons Int 15 1 (@Arr.cons Int 14 2 (@Arr.cons Int 13 0 (@Arr.cons Int 12 0 (@Arr.cons Int 11 0 (@Arr.cons Int 10 0 (@Arr.cons Int 9 0 (@Arr.cons Int 8 0 (@Arr.cons Int 7 0 (@Arr.cons Int 6 0 (@Arr.cons Int 5 0 (@Arr.cons Int 4 0 (@Arr.cons Int 3 0 (@Arr.cons Int 2 0 (@Arr.cons Int 1 0 (@Arr.cons Int 0 0 (@Arr.nil Int)))))))))))))))))) (@decT (@Td.arr (16 : Nat) (@Td.int @IntKind.u8)) v4.1 (@Arr.cons Int 15 1 (@Arr.cons Int 14 2 (@Arr.cons Int 13 0 (@Arr.cons Int 12 0 (@Arr.cons Int 11 0 (@Arr.cons Int 10 0 (@Arr.cons Int 9 0 (@Arr.cons Int 8 0 (@Arr.cons Int 7 0 (@Arr.cons Int 6 0 (@Arr.cons Int 5 0 (@Arr.cons Int 4 0 (@Arr.cons Int 3 0 (@Arr.cons Int 2 0 (@Arr.cons Int 1 0 (@Arr.cons Int 0 0 (@Arr.nil Int))))))))))))))))))) false))
    else
     none) fun (v9 : Bool) =>
   Option.bind (bif v9 then
     some ((cond true (decide (v4.2 = (0 : Int))) false))
    else
     some (false)) fun (v10 : Bool) =>
   bif v10 then
    Option.bind (some ((cond true (decide ((200 : Int) = (200 : Int))) false))) fun (v11 : Bool) =>
    some ((cond (cond v11 true false) true false))
   else
    Option.bind (some (false)) fun (v11 : Bool) =>
    some ((cond (cond v11 true false) true false))
  else
   Option.bind (some (false)) fun (v9 : Bool) =>
   Option.bind (bif v9 then
     some ((cond true (decide (v4.2 = (0 : Int))) false))
    else
     some (false)) fun (v10 : Bool) =>
   bif v10 then
    Option.bind (some ((cond true (decide ((200 : Int) = (200 : Int))) false))) fun (v11 : Bool) =>
    some ((cond (cond v11 true false) true false))
   else
    Option.bind (some (false)) fun (v11 : Bool) =>
    some ((cond (cond v11 true false) true false))
 else
  Option.bind (some (false)) fun (v7 : Bool) =>
  Option.bind (bif v7 then
    some ((cond true (decide (v2.2.2 = (0 : Int))) false))
   else
    some (false)) fun (v8 : Bool) =>
  bif v8 then
   Option.bind (bif ((@wfB (@Td.arr (16 : Nat) (@Td.int @IntKind.u8)) v4.1) && (@wfB (@Td.arr (16 : Nat) (@Td.int @IntKind.u8)) (@Arr.cons Int 15 1 (@Arr.cons Int 14 2 (@Arr.cons Int 13 0 (@Arr.cons Int 12 0 (@Arr.cons Int 11 0 (@Arr.cons Int 10 0 (@Arr.cons Int 9 0 (@Arr.cons Int 8 0 (@Arr.cons Int 7 0 (@Arr.cons Int 6 0 (@Arr.cons Int 5 0 (@Arr.cons Int 4 0 (@Arr.cons Int 3 0 (@Arr.cons Int 2 0 (@Arr.cons Int 1 0 (@Arr.cons Int 0 0 (@Arr.nil Int))))))))))))))))))) then
     some ((cond true (@Decidable.decide (@Eq (Arr Int 16) v4.1 (@Arr.cons Int 15 1 (@Arr.cons Int 14 2 (@Arr.cons Int 13 0 (@Arr.cons Int 12 0 (@Arr.cons Int 11 0 (@Arr.cons Int 10 0 (@Arr.cons Int 9 0 (@Arr.cons Int 8 0 (@Arr.cons Int 7 0 (@Arr.cons Int 6 0 (@Arr.cons Int 5 0 (@Arr.cons Int 4 0 (@Arr.cons Int 3 0 (@Arr.cons Int 2 0 (@Arr.cons Int 1 0 (@Arr.cons Int 0 0 (@Arr.nil Int)))))))))))))))))) (@decT (@Td.arr (16 : Nat) (@Td.int @IntKind.u8)) v4.1 (@Arr.cons Int 15 1 (@Arr.cons Int 14 2 (@Arr.cons Int 13 0 (@Arr.cons Int 12 0 (@Arr.cons Int 11 0 (@Arr.cons Int 10 0 (@Arr.cons Int 9 0 (@Arr.cons Int 8 0 (@Arr.cons Int 7 0 (@Arr.cons Int 6 0 (@Arr.cons Int 5 0 (@Arr.cons Int 4 0 (@Arr.cons Int 3 0 (@Arr.cons Int 2 0 (@Arr.cons Int 1 0 (@Arr.cons Int 0 0 (@Arr.nil Int))))))))))))))))))) false))
    else
     none) fun (v9 : Bool) =>
   Option.bind (bif v9 then
     some ((cond true (decide (v4.2 = (0 : Int))) false))
    else
     some (false)) fun (v10 : Bool) =>
   bif v10 then
    Option.bind (some ((cond true (decide ((200 : Int) = (200 : Int))) false))) fun (v11 : Bool) =>
    some ((cond (cond v11 true false) true false))
   else
    Option.bind (some (false)) fun (v11 : Bool) =>
    some ((cond (cond v11 true false) true false))
  else
   Option.bind (some (false)) fun (v9 : Bool) =>
   Option.bind (bif v9 then
     some ((cond true (decide (v4.2 = (0 : Int))) false))
    else
     some (false)) fun (v10 : Bool) =>
   bif v10 then
    Option.bind (some ((cond true (decide ((200 : Int) = (200 : Int))) false))) fun (v11 : Bool) =>
    some ((cond (cond v11 true false) true false))
   else
    Option.bind (some (false)) fun (v11 : Bool) =>
    some ((cond (cond v11 true false) true false))
theorem law15_alive_S : (runK Tryd.prog (Ev73 N) 400 6 [] [.bool] ()).run = law15_alive N  := by kernel_rfl
noncomputable def Ev74 : (R : Type) → Env R := Env.addFn (Ev73 N) 6 (fun R => fnK [] [.bool] (fun c => law15_alive N ))
theorem Ev74_ok (R : Type) : EnvOK Tryd.prog (Ev74 N R) := EnvOK.addFn hmx (Ev73_ok N R) (Ev73_ok N _) (by kernel_rfl) (fun c => law15_alive_S N )
noncomputable def Ev75 : (R : Type) → Env R := Env.addBx (Ev74 N) [(3, 0)]
theorem Ev75_ok (R : Type) : EnvOK Tryd.prog (Ev75 N R) := EnvOK.addBx (Ev74_ok N R) [(3, 0)]
noncomputable def law15_HttpqLays (r0 : List UInt8 × (List UInt8)) (id1 : Arr Int 16) : Option Bool :=
 bif (decide ((600 : Int) < (((List.length r0.1) : Nat) : Int))) then
  Option.bind (some (true)) fun (v3 : Bool) =>
  bif v3 then
   Option.bind (@law15_alive N) fun (v4 : Bool) =>
   some (v4)
  else
   Option.bind (httpq_Lay N (r0.1, r0.2)) fun v4 =>
   Option.bind (ref15_Lay N (r0.1, r0.2)) fun v5 =>
   Option.bind (httpq_Id N r0.2) fun v6 =>
   Option.bind (ref15_Id N r0.2) fun v7 =>
   Option.bind (ref01_Same N v4.1 v5.1) fun v8 =>
   bif v8 then
    bif (cond true (decide (v4.2 = v5.2)) false) then
     Option.bind (httpq_Guid N id1) fun v9 =>
     Option.bind (ref15_Guid N id1) fun v10 =>
     bif (cond true (decide (v9 = v10)) false) then
      bif ((@wfB (@Td.arr (16 : Nat) (@Td.int @IntKind.u8)) v6.1) && (@wfB (@Td.arr (16 : Nat) (@Td.int @IntKind.u8)) v7.1)) then
       bif (cond true (@Decidable.decide (@Eq (Arr Int 16) v6.1 v7.1) (@decT (@Td.arr (16 : Nat) (@Td.int @IntKind.u8)) v6.1 v7.1)) false) then
        bif (cond (cond true (decide (v6.2 = v7.2)) false) true false) then
         Option.bind (@law15_alive N) fun (v11 : Bool) =>
         some ((cond true v11 false))
        else
         some (false)
       else
        some (false)
      else
       none
     else
      some (false)
    else
     some (false)
   else
    some (false)
 else
  Option.bind (some ((cond false true (decide ((200 : Int) < (((List.length r0.2) : Nat) : Int)))))) fun (v3 : Bool) =>
  bif v3 then
   Option.bind (@law15_alive N) fun (v4 : Bool) =>
   some (v4)
  else
   Option.bind (httpq_Lay N (r0.1, r0.2)) fun v4 =>
   Option.bind (ref15_Lay N (r0.1, r0.2)) fun v5 =>
   Option.bind (httpq_Id N r0.2) fun v6 =>
   Option.bind (ref15_Id N r0.2) fun v7 =>
   Option.bind (ref01_Same N v4.1 v5.1) fun v8 =>
   bif v8 then
    bif (cond true (decide (v4.2 = v5.2)) false) then
     Option.bind (httpq_Guid N id1) fun v9 =>
     Option.bind (ref15_Guid N id1) fun v10 =>
     bif (cond true (decide (v9 = v10)) false) then
      bif ((@wfB (@Td.arr (16 : Nat) (@Td.int @IntKind.u8)) v6.1) && (@wfB (@Td.arr (16 : Nat) (@Td.int @IntKind.u8)) v7.1)) then
       bif (cond true (@Decidable.decide (@Eq (Arr Int 16) v6.1 v7.1) (@decT (@Td.arr (16 : Nat) (@Td.int @IntKind.u8)) v6.1 v7.1)) false) then
        bif (cond (cond true (decide (v6.2 = v7.2)) false) true false) then
         Option.bind (@law15_alive N) fun (v11 : Bool) =>
         some ((cond true v11 false))
        else
         some (false)
       else
        some (false)
      else
       none
     else
      some (false)
    else
     some (false)
   else
    some (false)
theorem law15_HttpqLays_S (r0 : List UInt8 × (List UInt8)) (id1 : Arr Int 16) : (runK Tryd.prog (Ev75 N) 400 3 [(.pair .str .str), (.arr 16 (.int .u8))] [.bool] (r0, id1, ())).run = law15_HttpqLays N r0 id1 := by kernel_rfl
noncomputable def Ev76 : (R : Type) → Env R := Env.addFn (Ev75 N) 3 (fun R => fnK [(.pair .str .str), (.arr 16 (.int .u8))] [.bool] (fun c => law15_HttpqLays N c.1 c.2.1))
theorem Ev76_ok (R : Type) : EnvOK Tryd.prog (Ev76 N R) := EnvOK.addFn hmx (Ev75_ok N R) (Ev75_ok N _) (by kernel_rfl) (fun c => law15_HttpqLays_S N c.1 c.2.1)
noncomputable def law15_HttpqParses (b0 : List (Int)) (code1 : Int) : Option Bool :=
 bif (decide ((3000 : Int) < (((List.length b0) : Nat) : Int))) then
  Option.bind (@law15_alive N) fun (v3 : Bool) =>
  some (v3)
 else
  Option.bind (httpq_Parse N b0) fun v3 =>
  Option.bind (ref15_Parse N b0) fun v4 =>
  bif ((@wfB (@Td.pair @Td.str @Td.str) (v3.1.1, v3.1.2)) && (@wfB (@Td.pair @Td.str @Td.str) (v4.1.1, v4.1.2))) then
   Option.bind (bif (@Decidable.decide (@Eq (List UInt8 × (List UInt8)) (v3.1.1, v3.1.2) (v4.1.1, v4.1.2)) (@decT (@Td.pair @Td.str @Td.str) (v3.1.1, v3.1.2) (v4.1.1, v4.1.2))) then
     some ((cond true (decide (v3.2.1 = v4.2.1)) false))
    else
     some (false)) fun (v5 : Bool) =>
   Option.bind (bif v5 then
     some ((cond true (decide (v3.2.2 = v4.2.2)) false))
    else
     some (false)) fun (v6 : Bool) =>
   bif v6 then
    Option.bind (httpq_Status N v3.2.2) fun v7 =>
    Option.bind (ref15_Status N v4.2.2) fun v8 =>
    Option.bind (some ((cond true (decide (v7 = v8)) false))) fun (v9 : Bool) =>
    bif v9 then
     Option.bind (httpq_Status N code1) fun v10 =>
     Option.bind (ref15_Status N code1) fun v11 =>
     Option.bind (some ((cond true (decide (v10 = v11)) false))) fun (v12 : Bool) =>
     bif v12 then
      Option.bind (@law15_alive N) fun (v13 : Bool) =>
      some ((cond true v13 false))
     else
      some (false)
    else
     Option.bind (some (false)) fun (v10 : Bool) =>
     bif v10 then
      Option.bind (@law15_alive N) fun (v11 : Bool) =>
      some ((cond true v11 false))
     else
      some (false)
   else
    Option.bind (some (false)) fun (v7 : Bool) =>
    bif v7 then
     Option.bind (httpq_Status N code1) fun v8 =>
     Option.bind (ref15_Status N code1) fun v9 =>
     Option.bind (some ((cond true (decide (v8 = v9)) false))) fun (v10 : Bool) =>
     bif v10 then
      Option.bind (@law15_alive N) fun (v11 : Bool) =>
      some ((cond true v11 false))
     else
      some (false)
    else
     Option.bind (some (false)) fun (v8 : Bool) =>
     bif v8 then
      Option.bind (@law15_alive N) fun (v9 : Bool) =>
      some ((cond true v9 false))
     else
      some (false)
  else
   none
theorem law15_HttpqParses_S (b0 : List (Int)) (code1 : Int) : (runK Tryd.prog (Ev76 N) 400 4 [(.sl (.int .u8)), (.int .i64)] [.bool] (b0, code1, ())).run = law15_HttpqParses N b0 code1 := by kernel_rfl
theorem law15_HttpqParses_C (b0 : List (Int)) (code1 : Int) (y : Bool) (h : law15_HttpqParses N b0 code1 = some y) : CallsK Tryd.prog 4 (valA [(.sl (.int .u8)), (.int .i64)] (b0, code1, ())) (tupV (valR [.bool] y)) := runK_ok hmx (Ev76_ok N _) (okFn_ok (by kernel_rfl)) (by rw [law15_HttpqParses_S]; exact h)
end
end Go.Proofs.YtfaocnboildjbaaDoor
namespace Go.Proofs.YtfaocnboildjbaaDoor
set_option maxRecDepth 100000
open Go.RowKit
set_option linter.unusedVariables false
set_option linter.unusedSimpArgs false
def AllB (l : List Int) : Prop := ∀ x ∈ l, 0 ≤ x ∧ x < 256
theorem AllB.nil : AllB [] := fun _ h => by cases h
theorem AllB.cons {x : Int} {l : List Int} (h1 : 0 ≤ x ∧ x < 256) (h2 : AllB l) : AllB (x :: l) := fun y hy => by
  rcases List.mem_cons.1 hy with rfl | hy
  · exact h1
  · exact h2 y hy
theorem AllB.append {l m : List Int} (h1 : AllB l) (h2 : AllB m) : AllB (l ++ m) := fun y hy => by
  rcases List.mem_append.1 hy with hy | hy
  · exact h1 y hy
  · exact h2 y hy
theorem AllB.drop {l : List Int} (h : AllB l) (n : Nat) : AllB (l.drop n) := fun y hy => h y (List.mem_of_mem_drop hy)
theorem AllB.take {l : List Int} (h : AllB l) (n : Nat) : AllB (l.take n) := fun y hy => h y (List.mem_of_mem_take hy)
theorem AllB.get {l : List Int} (h : AllB l) (i : Nat) (hi : i < l.length) : 0 ≤ l[i] ∧ l[i] < 256 := h _ (List.getElem_mem hi)
theorem wf_u8 {n : Int} (h : (Lit.int .u8 n).wf = true) : 0 ≤ n ∧ n < 256 := by
  simp only [Lit.wf, Bool.and_eq_true, decide_eq_true_eq, IntKind.min, IntKind.max, IntKind.signed, IntKind.bits] at h
  simp at h
  omega
theorem wf_bytes {l : List Int} (h : wfT (.sl (.int .u8)) l) : AllB l := fun x hx => wf_u8 (h.2 x hx)
def byteOf (x : Int) : UInt8 := UInt8.ofNat x.toNat
theorem toBy_map : ∀ {l : List Int}, AllB l → toBy l = some (l.map byteOf)
  | [], _ => rfl
  | x :: l, h => by
    have h1 := h x List.mem_cons_self
    unfold toBy
    rw [if_pos h1, toBy_map (fun y hy => h y (List.mem_cons_of_mem _ hy))]
    rfl
theorem subI_nat {α : Type} (l : List α) {a b : Int} {i j : Nat} (ha : a = i) (hb : b = j) (h1 : i ≤ j) (h2 : j ≤ l.length) : subI l a b = some ((l.drop i).take (j - i)) := by
  subst ha hb
  unfold subI
  rw [if_pos ⟨by omega, by omega, by omega⟩, Int.toNat_natCast, Int.toNat_natCast]
theorem dropI_nat {α : Type} (l : List α) {a : Int} {i : Nat} (ha : a = i) (h1 : i ≤ l.length) : dropI l a = some (l.drop i) := by
  subst ha
  unfold dropI
  rw [if_pos ⟨by omega, by omega⟩, Int.toNat_natCast]
theorem takeI_nat {α : Type} (l : List α) {a : Int} {i : Nat} (ha : a = i) (h1 : i ≤ l.length) : takeI l a = some (l.take i) := by
  subst ha
  unfold takeI
  rw [if_pos ⟨by omega, by omega⟩, Int.toNat_natCast]
end Go.Proofs.YtfaocnboildjbaaDoor
namespace Go.Proofs.YtfaocnboildjbaaDoor
set_option maxRecDepth 100000
open Go.RowKit
set_option linter.unusedVariables false
set_option linter.unusedSimpArgs false
set_option maxRecDepth 100000
theorem wrap8 (x : Int) (h0 : 0 ≤ x) (h1 : x < 256) : IntKind.wrap .u8 x = x := wrapU8 h0 h1
theorem small_ok (N : Nat) (b : UInt8) : ref14_small N ((b.toNat : Nat) : Int) = some (((sm b).toNat : Nat) : Int) := by
 unfold ref14_small
 have hb := UInt8.toNat_lt b
 by_cases h1 : (65 : Int) ≤ ((b.toNat : Nat) : Int)
 ·by_cases h2 : ((b.toNat : Nat) : Int) ≤ 90
  ·simp only [decide_eq_true h1, decide_eq_true h2, cond_true, Option.bind_some]
   rw [wrap8 _ (by omega) (by omega), sm_up ⟨by omega, by omega⟩]
   congr 1
  ·simp only [decide_eq_true h1, decide_eq_false h2, cond_true, Option.bind_some, cond_false]
   rw [sm_id (by omega)]
 ·simp only [decide_eq_false h1, cond_false, Option.bind_some]
  rw [sm_id (by omega)]
theorem toBy_nat : ∀ l : List UInt8, toBy (l.map fun b => ((b.toNat : Nat) : Int)) = some l := fun l => by
 have h : AllB (l.map fun b => ((b.toNat : Nat) : Int)) := fun x hx => by
  obtain ⟨b, _, rfl⟩ := List.mem_map.1 hx
  have := UInt8.toNat_lt b
  omega
 rw [toBy_map h, List.map_map]
 congr 1
 have : ∀ b : UInt8, byteOf ((b.toNat : Nat) : Int) = b := fun b => by unfold byteOf; simp
 induction l with
 | nil => rfl
 | cons a l ih => rw [List.map_cons, Function.comp, this, ih (fun x hx => h x (by simp at hx ⊢; exact .inr hx))]
theorem rlower_ok {N : Nat} (s : List UInt8) (h : s.length < N) (hb : s.length < 1000000000) : ref14_Lower N s = some (lowS s) := by
 have hr : roomB (Int.toNat (((List.length s) : Nat) : Int)) 1 = true := by rw [Int.toNat_natCast]; exact roomB_of (by have := big_len; omega) (by omega)
 have hl : ref14_Lower_L3_R N ((s, ((0 : Int), ())), (List.replicate (Int.toNat (((List.length s) : Nat) : Int)) (0 : Int), ())) = some ((), (s.map fun b => (((sm b).toNat : Nat) : Int), ())) := by
  rw [Int.toNat_natCast]
  unfold ref14_Lower_L3_R
  have := gl_run (G := fun X c => ref14_Lower_L3 N X c.1.1 c.1.2.1 c.2.1) (fun i => ((s, ((i : Int), ())), ((s.take i).map (fun b => (((sm b).toNat : Nat) : Int)) ++ List.replicate (s.length - i) 0, ()))) s.length ((), (s.map fun b => (((sm b).toNat : Nat) : Int), ())) (fun X i hi => ?_) (fun X => ?_) N 0 (Nat.zero_le _) (by omega)
  ·simpa using this
  ·have c1 : ((i : Int) < (((List.length s) : Nat) : Int)) := by omega
   have e3 : IntKind.wrap .i64 ((i : Int) + 1) = ((i + 1 : Nat) : Int) := by rw [wrap64 (by omega) (by omega)]; omega
   have hlen : ((s.take i).map (fun b => (((sm b).toNat : Nat) : Int)) ++ List.replicate (s.length - i) (0 : Int)).length = s.length := by simp; omega
   have c2 : ((0 : Int) ≤ (i : Int) ∧ (i : Int) < (((List.length ((s.take i).map (fun b => (((sm b).toNat : Nat) : Int)) ++ List.replicate (s.length - i) (0 : Int))) : Nat) : Int)) := by rw [hlen]; omega
   have e4 : ((s.take i).map (fun b => (((sm b).toNat : Nat) : Int)) ++ List.replicate (s.length - i) (0 : Int)).set i (((sm s[i]).toNat : Nat) : Int) = (s.take (i + 1)).map (fun b => (((sm b).toNat : Nat) : Int)) ++ List.replicate (s.length - (i + 1)) 0 := by
    have h1 : ((s.take i).map (fun b => (((sm b).toNat : Nat) : Int))).length = i := by simp; omega
    rw [List.set_append_right _ _ (by omega), h1, Nat.sub_self]
    obtain ⟨m, hm⟩ : ∃ m, s.length - i = m + 1 := ⟨s.length - i - 1, by omega⟩
    rw [hm, List.replicate_succ, List.set_cons_zero, show s.length - (i + 1) = m by omega, List.take_succ_eq_append_getElem hi, List.map_append]
    simp
   have e5 : ∃ v, ((s.take i).map (fun b => (((sm b).toNat : Nat) : Int)) ++ List.replicate (s.length - i) (0 : Int))[i]? = some v := ⟨_, List.getElem?_eq_getElem (by rw [hlen]; exact hi)⟩
   obtain ⟨v, e5⟩ := e5
   simp only [ref14_Lower_L3, decide_eq_true c1, cond_true, getI_lt s i hi, Option.bind_some, small_ok, decide_eq_true c2, Int.toNat_natCast, e5, e3, e4]
  ·have c1 : ¬ ((((List.length s) : Nat) : Int) < (((List.length s) : Nat) : Int)) := by omega
   simp only [ref14_Lower_L3, decide_eq_false c1, cond_false, Nat.sub_self, List.replicate_zero, List.append_nil, List.take_length]
 unfold ref14_Lower
 have c : ((0 : Int) ≤ (((List.length s) : Nat) : Int) ∧ (((List.length s) : Nat) : Int) ≤ (((List.length s) : Nat) : Int)) := by omega
 have h2 := toBy_nat (lowS s)
 unfold lowS at h2
 rw [List.map_map] at h2
 simp only [decide_eq_true c, hr, Bool.and_self, cond_true, hl, Option.bind_some]
 rw [show (s.map fun b => (((sm b).toNat : Nat) : Int)) = s.map ((fun b : UInt8 => ((b.toNat : Nat) : Int)) ∘ sm) from rfl, h2]
 rfl
theorem alike_ok {N : Nat} (a b : List UInt8) (h1 : a.length ≤ 1000000) (h2 : b.length ≤ 1000000) : words_Alike N a b = some (decide (lowS a = lowS b)) := by
 unfold words_Alike
 simp only [decide_eq_true h1, decide_eq_true h2, cond_true, Option.bind_some]
theorem ralike_ok {N : Nat} (a b : List UInt8) (h1 : a.length < N) (h2 : b.length < N) (h3 : a.length < 1000000) (h4 : b.length < 1000000) : ref14_Alike N a b = some (decide (lowS a = lowS b)) := by
 unfold ref14_Alike
 rw [rlower_ok a h1 (by omega), rlower_ok b h2 (by omega)]
 simp only [Option.bind_some]
def tokI (r : Int) : Bool := decide (r = 45 ∨ r = 95 ∨ r = 46 ∨ r = 123 ∨ r = 125 ∨ r = 47 ∨ (48 ≤ r ∧ r ≤ 57) ∨ (65 ≤ r ∧ r ≤ 90) ∨ (97 ≤ r ∧ r ≤ 122))
def digI (r : Int) : Bool := decide (48 ≤ r ∧ r ≤ 57)
theorem digit_ok (N : Nat) (r : Int) : words_isDigit N r = some (digI r) := by
 unfold words_isDigit digI
 by_cases h1 : (48 : Int) ≤ r
 ·by_cases h2 : r ≤ 57
  ·simp [h1, h2]
  ·simp [h1, h2]
 ·simp [h1]
theorem inTok_ok (N : Nat) (r : Int) : words_inToken N r = some (tokI r) := by
 unfold words_inToken
 simp only [digit_ok, Option.bind_some]
 by_cases h1 : r = 45
 ·subst h1; rfl
 by_cases h2 : r = 95
 ·subst h2; rfl
 by_cases h3 : r = 46
 ·subst h3; rfl
 by_cases h4 : r = 123
 ·subst h4; rfl
 by_cases h5 : r = 125
 ·subst h5; rfl
 by_cases h6 : r = 47
 ·subst h6; rfl
 simp only [decide_eq_false h1, decide_eq_false h2, decide_eq_false h3, decide_eq_false h4, decide_eq_false h5, decide_eq_false h6, cond_false]
 unfold tokI digI
 by_cases a1 : (48 : Int) ≤ r <;> by_cases a2 : r ≤ 57 <;> by_cases a3 : (65 : Int) ≤ r <;> by_cases a4 : r ≤ 90 <;> by_cases a5 : (97 : Int) ≤ r <;> by_cases a6 : r ≤ 122 <;>
  simp [a1, a2, a3, a4, a5, a6, h1, h2, h3, h4, h5, h6]
def tokC (b : UInt8) : Bool := tokI (b.toNat : Int)
theorem tokI_hi {r : Int} (h : 128 ≤ r) : tokI r = false := decide_eq_false (by omega)
theorem getD_at {s : List UInt8} {p : Nat} (h : p < s.length) : s.getD p 0 = s[p] := by rw [List.getD_eq_getElem?_getD, List.getElem?_eq_getElem h, Option.getD_some]
theorem ptok_loop (N : Nat) (s : List UInt8) : ∀ (n p : Nat), p ≤ s.length → s.length - p < n → gl (fun X c => words_Token_L2 N X c.1.1 c.2.1 c.2.2.1) n ((s, ()), (s, ((p : Int), ()))) = some (if (s.drop p).all tokC = true then .inr ((s, ()), ()) else .inl ((false, ()), ()))
 | 0, p, _, h => by omega
 | n + 1, p, hp, h => by
  rw [gl_succ]
  rcases Nat.lt_or_ge p s.length with hlt | hge
  ·have c1 : Int.toNat (p : Int) < List.length s := by rw [Int.toNat_natCast]; exact hlt
   rw [List.drop_eq_getElem_cons hlt, List.all_cons]
   rcases dec_ge s p hlt with ⟨h1, h2⟩ | ⟨h1, h2, h3, h4, h5⟩
   ·have ht : words_inToken N (rdec s (p : Int)).1 = some (tokC s[p]) := by rw [h2, inTok_ok, getD_at hlt]; rfl
    have e1 : (((Int.toNat (p : Int)) : Nat) : Int) + (rdec s (p : Int)).2 = ((p + 1 : Nat) : Int) := by rw [h2, Int.toNat_natCast]; omega
    simp only [words_Token_L2, decide_eq_true c1, cond_true, ht, Option.bind_some, e1]
    cases hc : tokC s[p] with
    | false => simp
    | true =>
     simp only [Bool.not_true, cond_false, Bool.true_and]
     exact ptok_loop N s n (p + 1) (by omega) (by omega)
   ·have ht : words_inToken N (rdec s (p : Int)).1 = some false := by rw [inTok_ok, tokI_hi h2]
    have hc : tokC s[p] = false := by rw [← getD_at hlt]; exact tokI_hi (by omega)
    simp only [words_Token_L2, decide_eq_true c1, cond_true, ht, Option.bind_some, Bool.not_false, hc, Bool.false_and]
    rfl
  ·have c1 : ¬ (Int.toNat (p : Int) < List.length s) := by rw [Int.toNat_natCast]; omega
   rw [List.drop_of_length_le hge]
   simp only [words_Token_L2, decide_eq_false c1, cond_false, List.all_nil, if_true]
def tokB (s : List UInt8) : Bool := s.all tokC && decide (1 ≤ s.length ∧ s.length ≤ 64)
theorem tok_end (s : List UInt8) (o : (((Bool × Unit) × Unit) ⊕ (((List UInt8) × Unit) × Unit))) (ho : o = if s.all tokC = true then .inr ((s, ()), ()) else .inl ((false, ()), ())) :
  Sum.elim (fun (v3 : ((Bool × Unit) × Unit)) => some (v3.1.1)) (fun (v3 : (((List UInt8) × Unit) × Unit)) =>
   bif (decide ((1 : Int) ≤ (((List.length v3.1.1) : Nat) : Int))) then Option.bind (some ((@cond Bool Bool.true (decide ((((List.length v3.1.1) : Nat) : Int) ≤ (64 : Int))) Bool.false))) fun (v4 : Bool) => some (v4)
   else Option.bind (some (Bool.false)) fun (v4 : Bool) => some (v4)) o = some (tokB s) := by
 subst ho
 unfold tokB
 cases hc : s.all tokC with
 | false => simp
 | true =>
  by_cases h1 : 1 ≤ s.length
  ·have c1 : (1 : Int) ≤ (((List.length s) : Nat) : Int) := by omega
   by_cases h2 : s.length ≤ 64
   ·have c2 : (((List.length s) : Nat) : Int) ≤ 64 := by omega
    simp only [if_true, Sum.elim_inr, decide_eq_true c1, decide_eq_true c2, cond_true, Option.bind_some, Bool.true_and]
    congr 1
    exact (decide_eq_true ⟨h1, h2⟩).symm
   ·have c2 : ¬ ((((List.length s) : Nat) : Int) ≤ 64) := by omega
    simp only [if_true, Sum.elim_inr, decide_eq_true c1, decide_eq_false c2, cond_true, Option.bind_some, Bool.true_and]
    congr 1
    exact (decide_eq_false (fun h => h2 h.2)).symm
  ·have c1 : ¬ ((1 : Int) ≤ (((List.length s) : Nat) : Int)) := by omega
   simp only [if_true, Sum.elim_inr, decide_eq_false c1, cond_false, Option.bind_some, Bool.true_and]
   congr 1
   exact (decide_eq_false (fun h => h1 h.1)).symm
theorem token_ok {N : Nat} (s : List UInt8) (h : s.length < N) : words_Token N s = some (tokB s) := by
 unfold words_Token words_Token_L2_R
 have := ptok_loop N s N 0 (Nat.zero_le _) (by omega)
 rw [List.drop_zero] at this
 rw [show ((0 : Int)) = ((0 : Nat) : Int) from rfl, this, Option.bind_some]
 exact tok_end s _ rfl
theorem rtok_loop (N : Nat) (s : List UInt8) (hb : s.length < 1000000) : ∀ (n p : Nat), p ≤ s.length → s.length - p < n → gl (fun X c => ref14_Token_L2 N X c.1.1 c.1.2.1) n ((s, ((p : Int), ())), ()) = some (if (s.drop p).all tokC = true then .inr ((s, ()), ()) else .inl ((false, ()), ()))
 | 0, p, _, h => by omega
 | n + 1, p, hp, h => by
  rw [gl_succ]
  rcases Nat.lt_or_ge p s.length with hlt | hge
  ·have c1 : (p : Int) < (((List.length s) : Nat) : Int) := by omega
   have e3 : IntKind.wrap .i64 ((p : Int) + 1) = ((p + 1 : Nat) : Int) := by rw [wrap64 (by omega) (by omega)]; omega
   rw [List.drop_eq_getElem_cons hlt, List.all_cons]
   have key : ∀ X, ref14_Token_L2 N X s (p : Int) = bif (!(tokC s[p])) then some (.inl ((false, ()), ())) else X ((s, (((p + 1 : Nat) : Int), ())), ()) := fun X => by
    simp only [ref14_Token_L2, decide_eq_true c1, cond_true, getI_lt s p hlt, Option.bind_some, small_ok, e3]
    generalize s[p] = b
    have hb := UInt8.toNat_lt b
    have key2 : ∀ z : Int, z = (((sm b).toNat : Nat) : Int) → ((97 ≤ z ∧ z ≤ 122) ∨ (48 ≤ z ∧ z ≤ 57) ∨ z = 45 ∨ z = 95 ∨ z = 46 ∨ z = 123 ∨ z = 125 ∨ z = 47 ↔ tokC b = true) := fun z hz => by
     unfold tokC tokI
     rw [decide_eq_true_iff]
     by_cases hu : 65 ≤ b.toNat ∧ b.toNat ≤ 90
     ·rw [sm_up hu] at hz; omega
     ·rw [sm_id hu] at hz; omega
    generalize hz : (((sm b).toNat : Nat) : Int) = z
    have k2 := key2 z hz.symm
    cases ht : tokC b with
    | true =>
     have := k2.2 ht
     by_cases a1 : (97 : Int) ≤ z <;> by_cases a2 : z ≤ 122 <;> by_cases a3 : (48 : Int) ≤ z <;> by_cases a4 : z ≤ 57 <;> by_cases a5 : z = 45 <;> by_cases a6 : z = 95 <;> by_cases a7 : z = 46 <;> by_cases a8 : z = 123 <;> by_cases a9 : z = 125 <;> by_cases a0 : z = 47 <;>
      first | (exfalso; omega) | simp [a1, a2, a3, a4, a5, a6, a7, a8, a9, a0]
    | false =>
     have hn : ¬ ((97 ≤ z ∧ z ≤ 122) ∨ (48 ≤ z ∧ z ≤ 57) ∨ z = 45 ∨ z = 95 ∨ z = 46 ∨ z = 123 ∨ z = 125 ∨ z = 47) := fun hc => by rw [k2.1 hc] at ht; cases ht
     have a5 : ¬ z = 45 := by omega
     have a6 : ¬ z = 95 := by omega
     have a7 : ¬ z = 46 := by omega
     have a8 : ¬ z = 123 := by omega
     have a9 : ¬ z = 125 := by omega
     have a0 : ¬ z = 47 := by omega
     by_cases a1 : (97 : Int) ≤ z <;> by_cases a2 : z ≤ 122 <;> by_cases a3 : (48 : Int) ≤ z <;> by_cases a4 : z ≤ 57 <;>
      first | (exfalso; omega) | simp [a1, a2, a3, a4, a5, a6, a7, a8, a9, a0]
   show ref14_Token_L2 N _ s (p : Int) = _
   rw [key]
   cases hc : tokC s[p] with
   | false => simp
   | true =>
    simp only [Bool.not_true, cond_false, Bool.true_and]
    exact rtok_loop N s hb n (p + 1) (by omega) (by omega)
  ·have c1 : ¬ ((p : Int) < (((List.length s) : Nat) : Int)) := by omega
   rw [List.drop_of_length_le hge]
   show ref14_Token_L2 N _ s (p : Int) = _
   simp only [ref14_Token_L2, decide_eq_false c1, cond_false, List.all_nil, if_true]
theorem rtoken_ok {N : Nat} (s : List UInt8) (h : s.length < N) (hb : s.length < 1000000) : ref14_Token N s = some (tokB s) := by
 unfold ref14_Token ref14_Token_L2_R
 have := rtok_loop N s hb N 0 (Nat.zero_le _) (by omega)
 rw [List.drop_zero] at this
 rw [show ((0 : Int)) = ((0 : Nat) : Int) from rfl, this, Option.bind_some]
 exact tok_end s _ rfl
def blk (b : UInt8) : Bool := [32, 9].contains b
theorem blank_ok (N : Nat) (b : UInt8) : ref14_blank N ((b.toNat : Nat) : Int) = some (blk b) := by
 unfold ref14_blank
 have h1 : (((b.toNat : Nat) : Int) = 32) ↔ b = 32 := ⟨fun h => UInt8.toNat_inj.1 (by have : (32 : UInt8).toNat = 32 := rfl; omega), fun h => by subst h; rfl⟩
 have h2 : (((b.toNat : Nat) : Int) = 9) ↔ b = 9 := ⟨fun h => UInt8.toNat_inj.1 (by have : (9 : UInt8).toNat = 9 := rfl; omega), fun h => by subst h; rfl⟩
 by_cases a1 : b = 32
 ·simp only [decide_eq_true (h1.2 a1), cond_true, Option.bind_some]
  subst a1; rfl
 ·by_cases a2 : b = 9
  ·simp only [decide_eq_false (fun h => a1 (h1.1 h)), decide_eq_true (h2.2 a2), cond_false, Option.bind_some]
   subst a2; rfl
  ·simp only [decide_eq_false (fun h => a1 (h1.1 h)), decide_eq_false (fun h => a2 (h2.1 h)), cond_false, Option.bind_some]
   congr 1
   symm
   unfold blk
   simp [a1, a2]
theorem trimL_loop (N : Nat) : ∀ (n : Nat) (s : List UInt8), s.length < n → gl (fun X c => ref14_Trim_L1 N X c.1.1) n ((s, ()), ()) = some ((s.dropWhile blk, ()), ())
 | 0, s, h => by omega
 | n + 1, [], h => by
  rw [gl_succ]
  rfl
 | n + 1, b :: s, h => by
  rw [gl_succ]
  have c1 : (0 : Int) < (((List.length (b :: s)) : Nat) : Int) := by simp only [List.length_cons]; omega
  have hg : getI (b :: s) (0 : Int) = some b := rfl
  have hd : dropI (b :: s) (1 : Int) = some s := by
   have := dropI_nat (b :: s) (a := (1 : Int)) (i := 1) rfl (by simp)
   exact this
  have key : ∀ X, ref14_Trim_L1 N X (b :: s) = bif blk b then X ((s, ()), ()) else some ((b :: s, ()), ()) := fun X => by
   simp only [ref14_Trim_L1, decide_eq_true c1, cond_true, hg, Option.bind_some, blank_ok]
   cases hb : blk b with
   | true => simp only [cond_true, hd, Option.bind_some]
   | false => simp only [cond_false, cond_true]
  show ref14_Trim_L1 N _ (b :: s) = _
  rw [key]
  cases hb : blk b with
  | true =>
   rw [cond_true, trimL_loop N n s (by simp only [List.length_cons] at h; omega), List.dropWhile_cons_of_pos hb]
  | false =>
   rw [cond_false, List.dropWhile_cons_of_neg (by simp [hb])]
def tailW (s : List UInt8) : List UInt8 := (s.reverse.dropWhile blk).reverse
theorem tailW_app (s : List UInt8) (b : UInt8) : tailW (s ++ [b]) = if blk b = true then tailW s else s ++ [b] := by
 unfold tailW
 rw [List.reverse_append]
 simp only [List.reverse_cons, List.reverse_nil, List.nil_append, List.singleton_append]
 by_cases hb : blk b = true
 ·rw [List.dropWhile_cons_of_pos hb, if_pos hb]
 ·rw [List.dropWhile_cons_of_neg hb, if_neg hb]
  simp
theorem trimR_loop (N : Nat) : ∀ (n : Nat) (s : List UInt8), s.length < n → s.length < 1000000 → gl (fun X c => ref14_Trim_L3 N X c.1.1) n ((s, ()), ()) = some ((tailW s, ()), ())
 | 0, s, h, _ => by omega
 | n + 1, s, h, hb => by
  rw [gl_succ]
  show ref14_Trim_L3 N _ s = _
  rcases Nat.eq_zero_or_pos s.length with h0 | h0
  ·have : s = [] := List.eq_nil_of_length_eq_zero h0
   subst this; rfl
  ·obtain ⟨t, b, rfl⟩ : ∃ t b, s = t ++ [b] := ⟨s.dropLast, s.getLast (by intro hc; subst hc; simp at h0), (List.dropLast_concat_getLast _).symm⟩
   have hl : (t ++ [b]).length = t.length + 1 := by simp
   have c1 : (0 : Int) < (((List.length (t ++ [b])) : Nat) : Int) := by omega
   have e1 : IntKind.wrap .i64 ((((List.length (t ++ [b])) : Nat) : Int) - 1) = ((t.length : Nat) : Int) := by rw [wrap64 (by omega) (by omega)]; omega
   have hg : getI (t ++ [b]) ((t.length : Nat) : Int) = some b := by rw [getI_nat]; simp
   have hd : takeI (t ++ [b]) ((t.length : Nat) : Int) = some t := by rw [takeI_nat (i := t.length) _ rfl (by omega)]; simp
   have key : ∀ X, ref14_Trim_L3 N X (t ++ [b]) = bif blk b then X ((t, ()), ()) else some ((t ++ [b], ()), ()) := fun X => by
    simp only [ref14_Trim_L3, decide_eq_true c1, cond_true, e1, hg, Option.bind_some, blank_ok]
    cases hb : blk b with
    | true => simp only [cond_true, hd, Option.bind_some]
    | false => simp only [cond_false, cond_true]
   rw [key, tailW_app]
   cases hb : blk b with
   | true =>
    rw [cond_true, if_pos rfl]
    exact trimR_loop N n t (by omega) (by omega)
   | false =>
    rw [cond_false]
    rfl
theorem drop_app (p : UInt8 → Bool) : ∀ (a m : List UInt8) (x : UInt8), a.all p = true → p x = false → (a ++ x :: m).dropWhile p = x :: m
 | [], m, x, _, hx => by simp [hx]
 | y :: a, m, x, ha, hx => by
  simp only [List.all_cons, Bool.and_eq_true] at ha
  rw [List.cons_append, List.dropWhile_cons_of_pos ha.1]
  exact drop_app p a m x ha.2 hx
theorem split_first (p : UInt8 → Bool) : ∀ s : List UInt8, s.all p = true ∨ ∃ a x m, s = a ++ x :: m ∧ a.all p = true ∧ p x = false
 | [] => .inl rfl
 | y :: s => by
  cases hy : p y with
  | false => exact .inr ⟨[], y, s, rfl, rfl, hy⟩
  | true =>
   rcases split_first p s with h | ⟨a, x, m, h1, h2, h3⟩
   ·exact .inl (by simp [hy, h])
   ·exact .inr ⟨y :: a, x, m, by rw [h1]; rfl, by simp [hy, h2], h3⟩
theorem all_drop (p : UInt8 → Bool) (s : List UInt8) (h : s.all p = true) : s.dropWhile p = [] := by
 induction s with
 | nil => rfl
 | cons y s ih =>
  simp only [List.all_cons, Bool.and_eq_true] at h
  rw [List.dropWhile_cons_of_pos h.1, ih h.2]
theorem both_ends (s : List UInt8) : tailW (s.dropWhile blk) = (tailW s).dropWhile blk := by
 rcases split_first blk s with h | ⟨a, x, m, rfl, h2, h3⟩
 ·have hr : (s.reverse).all blk = true := by rw [List.all_reverse]; exact h
  have e1 : tailW s = [] := by unfold tailW; rw [all_drop _ _ hr]; rfl
  rw [all_drop _ _ h, e1]; rfl
 ·rw [drop_app _ _ _ _ h2 h3]
  rcases split_first blk (m.reverse) with hm | ⟨c, y, r, hm, hc, hy⟩
  ·have hm' : m.all blk = true := by rw [← List.all_reverse]; exact hm
   have e1 : tailW (x :: m) = [x] := by
    unfold tailW
    rw [List.reverse_cons, drop_app _ _ _ _ hm h3]; rfl
   have e2 : tailW (a ++ x :: m) = a ++ [x] := by
    unfold tailW
    rw [List.reverse_append, List.reverse_cons, List.append_assoc, List.singleton_append, drop_app _ _ _ _ hm h3]
    simp
   rw [e1, e2, drop_app _ _ _ _ h2 h3]
  ·have e0 : m = r.reverse ++ y :: c.reverse := by
    have := congrArg List.reverse hm
    simpa using this
   have e1 : tailW (x :: m) = x :: (r.reverse ++ [y]) := by
    unfold tailW
    rw [List.reverse_cons, hm, List.append_assoc, List.cons_append, drop_app _ _ _ _ hc hy]
    simp
   have e2 : tailW (a ++ x :: m) = a ++ x :: (r.reverse ++ [y]) := by
    unfold tailW
    rw [List.reverse_append, List.reverse_cons, hm, List.append_assoc, List.append_assoc, List.cons_append, drop_app _ _ _ _ hc hy]
    simp
   rw [e1, e2, drop_app _ _ _ _ h2 h3]
def trimB (s : List UInt8) : List UInt8 := Go.Lib.trimS s [32, 9]
theorem rtrim_ok {N : Nat} (s : List UInt8) (h : s.length < N) (hb : s.length < 1000000) : ref14_Trim N s = some (trimB s) := by
 unfold ref14_Trim ref14_Trim_L1_R ref14_Trim_L3_R
 rw [trimL_loop N N s h, Option.bind_some]
 have hl : (s.dropWhile blk).length ≤ s.length := (List.dropWhile_sublist _).length_le
 rw [trimR_loop N N _ (by show (s.dropWhile blk).length < N; omega) (by show (s.dropWhile blk).length < 1000000; omega), Option.bind_some]
 show some (tailW (s.dropWhile blk)) = _
 rw [both_ends]
 rfl
theorem trim_ok {N : Nat} (s : List UInt8) (h : s.length ≤ 281474976710656) : words_Trim N s = some (trimB s) := by
 unfold words_Trim
 simp only [decide_eq_true h, cond_true]
 rfl
def mayB (seen : List Int) (i : Nat) : Bool :=
 if seen.getD i 0 = 13 then decide (i + 1 = seen.length) || decide (seen.getD (i + 1) 0 = 10)
 else if seen.getD i 0 = 10 then decide (0 < i) && decide (seen.getD (i - 1) 0 = 13)
 else decide (seen.getD i 0 = 9) || decide (32 ≤ seen.getD i 0 ∧ seen.getD i 0 ≤ 126)
theorem getDI {s : List Int} {p : Nat} (h : p < s.length) : getI s (p : Int) = some (s.getD p 0) := by rw [getI_lt s p h, List.getD_eq_getElem?_getD, List.getElem?_eq_getElem h, Option.getD_some]
theorem may_ok (N : Nat) (seen : List Int) (i : Nat) (h : i < seen.length) (hb : seen.length < 1000000) : words_may N seen (i : Int) = some (mayB seen i) := by
 have e3 : IntKind.wrap .i64 ((i : Int) + 1) = ((i + 1 : Nat) : Int) := by rw [wrap64 (by omega) (by omega)]; omega
 unfold words_may mayB
 rw [getDI h, Option.bind_some, e3]
 by_cases h1 : seen.getD i 0 = 13
 ·rw [decide_eq_true h1, cond_true, if_pos h1]
  by_cases h2 : i + 1 = seen.length
  ·have c : (((i + 1 : Nat)) : Int) = (((List.length seen) : Nat) : Int) := by rw [h2]
   rw [decide_eq_true c, cond_true, decide_eq_true h2, Bool.true_or]; rfl
  ·have c : ¬ ((((i + 1 : Nat)) : Int) = (((List.length seen) : Nat) : Int)) := by omega
   rw [decide_eq_false c, cond_false, decide_eq_false h2, Bool.false_or, getDI (by omega)]; rfl
 ·rw [decide_eq_false h1, cond_false, if_neg h1]
  by_cases h3 : seen.getD i 0 = 10
  ·rw [decide_eq_true h3, cond_true, if_pos h3]
   by_cases h4 : 0 < i
   ·have e4 : IntKind.wrap .i64 ((i : Int) - 1) = ((i - 1 : Nat) : Int) := by rw [wrap64 (by omega) (by omega)]; omega
    have c : (0 : Int) < (i : Int) := by omega
    rw [decide_eq_true c, cond_true, decide_eq_true h4, e4, getDI (by omega), Bool.true_and]
    simp only [Option.bind_some, cond_true]
   ·have c : ¬ ((0 : Int) < (i : Int)) := by omega
    rw [decide_eq_false c, cond_false, decide_eq_false h4, Bool.false_and]; rfl
  ·rw [decide_eq_false h3, cond_false, if_neg h3]
   by_cases h5 : seen.getD i 0 = 9
   ·rw [decide_eq_true h5]; rfl
   ·rw [decide_eq_false h5, cond_false, Bool.false_or]
    by_cases h6 : (32 : Int) ≤ seen.getD i 0
    ·rw [decide_eq_true h6, cond_true]
     by_cases h7 : seen.getD i 0 ≤ 126
     ·rw [decide_eq_true h7, decide_eq_true ⟨h6, h7⟩]; rfl
     ·rw [decide_eq_false h7, decide_eq_false (fun hx => h7 hx.2)]; rfl
    ·rw [decide_eq_false h6, cond_false, decide_eq_false (fun hx => h6 hx.1)]; rfl
def seg (seen : List Int) (a b : Nat) : List UInt8 := ((seen.drop a).take (b - a)).map byteOf
theorem seg_self (seen : List Int) (a : Nat) : seg seen a a = [] := by unfold seg; rw [Nat.sub_self, List.take_zero]; rfl
theorem seg_length (seen : List Int) (a b : Nat) (h : b ≤ seen.length) : (seg seen a b).length = b - a := by unfold seg; simp; omega
theorem seg_succ (seen : List Int) (a b : Nat) (hab : a ≤ b) (h : b < seen.length) : seg seen a (b + 1) = seg seen a b ++ [byteOf (seen.getD b 0)] := by
 unfold seg
 rw [show b + 1 - a = (b - a) + 1 by omega, List.take_add_one, List.map_append, List.getElem?_drop, show a + (b - a) = b by omega, List.getElem?_eq_getElem h, List.getD_eq_getElem?_getD, List.getElem?_eq_getElem h]
 rfl
def hdS (seen : List Int) : Nat → Nat → Nat → List (List UInt8) → (List (List UInt8) × (Int × Int)) ⊕ Unit
 | 0, _, _, _ => .inr ()
 | f + 1, i, start, ls => if i < seen.length then (if mayB seen i = true then (if seen.getD i 0 = 10 then
   (if seg seen start (i - 1) = [] then .inl (ls, (((i + 1 : Nat) : Int), 0)) else hdS seen f (i + 1) (i + 1) (ls ++ [seg seen start (i - 1)]))
   else hdS seen f (i + 1) start ls) else .inl ([], (0, 3))) else .inr ()
def Beg (seen : List Int) (start : Nat) : Prop := start = 0 ∨ seen.getD (start - 1) 0 = 10
theorem beg_lt {seen : List Int} {start i : Nat} (hB : Beg seen start) (hs : start ≤ i) (hm : mayB seen i = true) (h10 : seen.getD i 0 = 10) : start + 1 ≤ i ∧ seen.getD (i - 1) 0 = 13 := by
 unfold mayB at hm
 rw [if_neg (by omega), if_pos h10, Bool.and_eq_true] at hm
 have h1 := of_decide_eq_true hm.1
 have h2 := of_decide_eq_true hm.2
 refine ⟨?_, h2⟩
 rcases Nat.lt_or_ge start i with h | h
 ·exact h
 ·have : start = i := by omega
  subst this
  rcases hB with h3 | h3 <;> omega
def outH (b : List Int) : (List (List UInt8) × (Int × Int)) ⊕ Unit → (((List (List UInt8) × (Int × (Int × Unit))) × Unit) ⊕ ((List Int × Unit) × Unit))
 | .inl r => .inl ((r.1, (r.2.1, (r.2.2, ()))), ())
 | .inr () => .inr ((b, ()), ())
theorem head_loop (N : Nat) (b seen : List Int) (ha : AllB seen) (hb : seen.length < 1000000) : ∀ (n i start : Nat) (ls : List (List UInt8)), i ≤ seen.length → start ≤ i → Beg seen start → ls.length ≤ i → seen.length - i < n →
  gl (fun X c => words_Head_L5 N X c.1.1 c.1.2.1 c.1.2.2.1 c.1.2.2.2.1 c.1.2.2.2.2.1 c.1.2.2.2.2.2.1 c.2.1) n ((b, (seen, ((start : Int), (seen, (((seen.length : Nat) : Int), ((i : Int), ())))))), (ls, ())) = some (outH b (hdS seen n i start ls))
 | 0, i, start, ls, _, _, _, _, h => by omega
 | n + 1, i, start, ls, hi, hs, hB, hls, h => by
  rw [gl_succ]
  show words_Head_L5 N _ b seen (start : Int) seen ((seen.length : Nat) : Int) (i : Int) ls = _
  unfold hdS
  have e3 : IntKind.wrap .i64 ((i : Int) + 1) = ((i + 1 : Nat) : Int) := by rw [wrap64 (by omega) (by omega)]; omega
  rcases Nat.lt_or_ge i seen.length with hlt | hge
  ·have c1 : (i : Int) < ((seen.length : Nat) : Int) := by omega
   rw [if_pos hlt]
   cases hm : mayB seen i with
   | false =>
    simp only [words_Head_L5, decide_eq_true c1, cond_true, getDI hlt, Option.bind_some, may_ok N seen i hlt hb, hm, Bool.not_false]
    rfl
   | true =>
    rw [if_pos rfl]
    by_cases h10 : seen.getD i 0 = 10
    ·obtain ⟨hlt2, h13⟩ := beg_lt hB hs hm h10
     have e4 : IntKind.wrap .i64 ((i : Int) - 1) = ((i - 1 : Nat) : Int) := by rw [wrap64 (by omega) (by omega)]; omega
     have hsub : subI seen (start : Int) ((i - 1 : Nat) : Int) = some ((seen.drop start).take (i - 1 - start)) := subI_nat seen rfl rfl (by omega) (by omega)
     have hby : toBy ((seen.drop start).take (i - 1 - start)) = some (seg seen start (i - 1)) := toBy_map ((ha.drop _).take _)
     rw [if_pos h10]
     by_cases hz : seg seen start (i - 1) = []
     ·rw [if_pos hz]
      have hz2 : decide (seg seen start (i - 1) = ([] : List UInt8)) = true := decide_eq_true hz
      simp only [words_Head_L5, decide_eq_true c1, cond_true, getDI hlt, Option.bind_some, may_ok N seen i hlt hb, hm, Bool.not_true, cond_false, decide_eq_true h10, e4, hsub, hby, hz2, e3]
      rfl
     ·rw [if_neg hz]
      have hz2 : decide (seg seen start (i - 1) = ([] : List UInt8)) = false := decide_eq_false hz
      have hr : roomB ((List.length ls) + (List.length ([seg seen start (i - 1)] : List (List UInt8)))) 16 = true := roomB_of (by have := big_len; simp only [List.length_singleton]; omega) (by simp only [List.length_singleton]; omega)
      have key : ∀ X, words_Head_L5 N X b seen (start : Int) seen ((seen.length : Nat) : Int) (i : Int) ls = X ((b, (seen, (((i + 1 : Nat) : Int), (seen, (((seen.length : Nat) : Int), (((i + 1 : Nat) : Int), ())))))), (ls ++ [seg seen start (i - 1)], ())) := fun X => by
       simp only [words_Head_L5, decide_eq_true c1, cond_true, getDI hlt, Option.bind_some, may_ok N seen i hlt hb, hm, Bool.not_true, cond_false, decide_eq_true h10, e4, hsub, hby, hz2, e3, hr]
      rw [key]
      exact head_loop N b seen ha hb n (i + 1) (i + 1) _ (by omega) (Nat.le_refl _) (.inr (by rw [Nat.add_sub_cancel]; exact h10)) (by simp; omega) (by omega)
    ·rw [if_neg h10]
     have key : ∀ X, words_Head_L5 N X b seen (start : Int) seen ((seen.length : Nat) : Int) (i : Int) ls = X ((b, (seen, ((start : Int), (seen, (((seen.length : Nat) : Int), (((i + 1 : Nat) : Int), ())))))), (ls, ())) := fun X => by
      simp only [words_Head_L5, decide_eq_true c1, cond_true, getDI hlt, Option.bind_some, may_ok N seen i hlt hb, hm, Bool.not_true, cond_false, decide_eq_false h10, Bool.not_false, e3]
     rw [key]
     exact head_loop N b seen ha hb n (i + 1) start ls (by omega) (by omega) hB (by omega) (by omega)
  ·have c1 : ¬ ((i : Int) < ((seen.length : Nat) : Int)) := by omega
   rw [if_neg (by omega)]
   simp only [words_Head_L5, decide_eq_false c1, cond_false]
   rfl
def headR (b : List Int) : List (List UInt8) × (Int × Int) := match hdS (b.take 2048) 200000 0 0 [] with
 | .inl r => r
 | .inr () => if b.length < 2048 then ([], (0, 4)) else ([], (0, 8))
theorem head_end (b : List Int) (o : (List (List UInt8) × (Int × Int)) ⊕ Unit) :
  Sum.elim (fun (v4 : (((List (List UInt8)) × (Int × (Int × Unit))) × Unit)) => some ((v4.1.1, (v4.1.2.1, v4.1.2.2.1)))) (fun (v4 : (((List Int) × Unit) × Unit)) =>
   bif (decide ((((List.length v4.1.1) : Nat) : Int) < (2048 : Int))) then some ((([] : List ((List UInt8))), ((0 : Int), (4 : Int)))) else some ((([] : List ((List UInt8))), ((0 : Int), (8 : Int))))) (outH b o) = some (match o with | .inl r => r | .inr () => if b.length < 2048 then ([], (0, 4)) else ([], (0, 8))) := by
 cases o with
 | inl r => rfl
 | inr u =>
  simp only [outH, Sum.elim_inr]
  by_cases h : b.length < 2048
  ·have c : (((List.length b) : Nat) : Int) < (2048 : Int) := by omega
   rw [decide_eq_true c, if_pos h]; rfl
  ·have c : ¬ ((((List.length b) : Nat) : Int) < (2048 : Int)) := by omega
   rw [decide_eq_false c, if_neg h]; rfl
theorem head_ok (b : List Int) (ha : AllB b) (hb : b.length ≤ 100000) : words_Head 200000 b = some (headR b) := by
 unfold words_Head words_Head_L5_R headR
 have hmin : minI (((List.length b) : Nat) : Int) (2048 : Int) = ((min b.length 2048 : Nat) : Int) := by unfold minI; split <;> omega
 have htk : takeI b ((min b.length 2048 : Nat) : Int) = some (b.take 2048) := by
  rw [takeI_nat (i := min b.length 2048) b rfl (by omega)]
  congr 1
  rcases Nat.le_total b.length 2048 with h | h
  ·rw [Nat.min_eq_left h, List.take_length, List.take_of_length_le h]
  ·rw [Nat.min_eq_right h]
 rw [hmin, htk, Option.bind_some]
 have hl : (b.take 2048).length ≤ b.length := by simp; omega
 have := head_loop 200000 b (b.take 2048) (ha.take _) (by omega) 200000 0 0 [] (Nat.zero_le _) (Nat.le_refl _) (.inl rfl) (by simp) (by omega)
 rw [show ((b, (List.take 2048 b, ((0 : Int), (List.take 2048 b, ((((List.length (List.take 2048 b)) : Nat) : Int), ((0 : Int), Unit.unit)))))), (([] : List (List UInt8)), Unit.unit)) = ((b, (List.take 2048 b, (((0 : Nat) : Int), (List.take 2048 b, ((((List.take 2048 b).length : Nat) : Int), (((0 : Nat) : Int), ())))))), ([], ())) from rfl, this, Option.bind_some]
 exact head_end b _
def lineAt (seen : List Int) (start i : Nat) : List UInt8 := seg seen start (if start < i ∧ seen.getD (i - 1) 0 = 13 then i - 1 else i)
theorem rhead_loop (N : Nat) (b : List Int) (ha : AllB b) (hb : b.length < 1000000) : ∀ (n i start : Nat) (ls : List (List UInt8)), i ≤ (b.take 2048).length → start ≤ i → Beg (b.take 2048) start → ls.length ≤ i → (b.take 2048).length - i < n →
  (start < i → (b.take 2048).getD (i - 1) 0 = 13 → i < (b.take 2048).length → (b.take 2048).getD i 0 = 10) →
  gl (fun X c => ref14_Head_L4 N X c.1.1 c.1.2.1 c.1.2.2.1 c.2.1) n ((b, (lineAt (b.take 2048) start i, ((i : Int), ()))), (ls, ())) = some (outH b (hdS (b.take 2048) n i start ls))
 | 0, i, start, ls, _, _, _, _, h, _ => by omega
 | n + 1, i, start, ls, hi, hs, hB, hls, h, hpre => by
  rw [gl_succ]
  have hsl : (b.take 2048).length = min 2048 b.length := by simp
  have hget : ∀ j, j < (b.take 2048).length → b.getD j 0 = (b.take 2048).getD j 0 := fun j hj => by
   rw [List.getD_eq_getElem?_getD, List.getD_eq_getElem?_getD, List.getElem?_take, if_pos (by omega)]
  have e3 : IntKind.wrap .i64 ((i : Int) + 1) = ((i + 1 : Nat) : Int) := by rw [wrap64 (by omega) (by omega)]; omega
  generalize hseen : b.take 2048 = seen at *
  generalize hline : lineAt seen start i = line
  show ref14_Head_L4 N _ b line (i : Int) ls = _
  unfold hdS
  rcases Nat.lt_or_ge i seen.length with hlt | hge
  ·have c1 : (i : Int) < (((List.length b) : Nat) : Int) := by omega
   have c2 : (i : Int) < 2048 := by omega
   have hgi : getI b (i : Int) = some (seen.getD i 0) := by rw [getDI (by omega), hget i hlt]
   have hAB : 0 ≤ seen.getD i 0 ∧ seen.getD i 0 < 256 := by
    have hx := (ha.take 2048)
    rw [hseen] at hx
    have := hx.get i hlt
    rw [List.getD_eq_getElem?_getD, List.getElem?_eq_getElem hlt, Option.getD_some]; exact this
   rw [if_pos hlt]
   -- a sign
   by_cases hpr : seen.getD i 0 = 9 ∨ (32 ≤ seen.getD i 0 ∧ seen.getD i 0 ≤ 126)
   ·have n13 : ¬ seen.getD i 0 = 13 := by omega
    have n10 : ¬ seen.getD i 0 = 10 := by omega
    have hm : mayB seen i = true := by
     unfold mayB
     rw [if_neg n13, if_neg n10]
     rcases hpr with h9 | h32
     ·rw [decide_eq_true h9, Bool.true_or]
     ·rw [decide_eq_true h32, Bool.or_true]
    have hl2 : line = seg seen start i := by
     rw [← hline]; unfold lineAt
     rw [if_neg (fun hx => n10 (hpre hx.1 hx.2 hlt))]
    have hsub : subI b (i : Int) ((i + 1 : Nat) : Int) = some [seen.getD i 0] := by
     rw [subI_nat b rfl rfl (by omega) (by omega), show i + 1 - i = 1 by omega]
     congr 1
     have hib : i < b.length := by omega
     rw [List.drop_eq_getElem_cons hib, List.take_succ_cons, List.take_zero]
     have := hget i hlt
     rw [List.getD_eq_getElem?_getD, List.getElem?_eq_getElem hib, Option.getD_some] at this
     rw [this]
    have hby : toBy [seen.getD i 0] = some [byteOf (seen.getD i 0)] := toBy_map (AllB.cons hAB AllB.nil)
    have hll : line.length ≤ i := by rw [hl2, seg_length _ _ _ hi]; omega
    have hrm : (List.length line) + (List.length [byteOf (seen.getD i 0)]) ≤ Go.maxLen := by have := big_len; simp only [List.length_singleton]; omega
    have key : ∀ X, ref14_Head_L4 N X b line (i : Int) ls = X ((b, (line ++ [byteOf (seen.getD i 0)], (((i + 1 : Nat) : Int), ()))), (ls, ())) := fun X => by
     unfold ref14_Head_L4
     rw [decide_eq_true c1, cond_true, decide_eq_true c2, Option.bind_some]
     simp only [cond_true, hgi, Option.bind_some, e3, hsub, hby, decide_eq_true hrm]
     by_cases a1 : (32 : Int) ≤ seen.getD i 0
     ·by_cases a2 : seen.getD i 0 ≤ 126
      ·simp only [decide_eq_true a1, decide_eq_true a2, cond_true, Option.bind_some]
      ·have a3 : seen.getD i 0 = 9 := by omega
       simp only [decide_eq_true a1, decide_eq_false a2, decide_eq_true a3, cond_true, cond_false, Option.bind_some]
     ·have a3 : seen.getD i 0 = 9 := by omega
      simp only [decide_eq_false a1, decide_eq_true a3, cond_true, cond_false, Option.bind_some]
    rw [key, hm, if_pos rfl, if_neg n10, hl2, ← seg_succ seen start i hs hlt]
    have := rhead_loop N b ha hb n (i + 1) start ls
    rw [hseen] at this
    have hla : lineAt seen start (i + 1) = seg seen start (i + 1) := by
     unfold lineAt
     rw [if_neg (fun hx => n13 (by have := hx.2; rwa [Nat.add_sub_cancel] at this))]
    rw [hla] at this
    exact this (by omega) (by omega) hB (by omega) (by omega) (fun _ hx => absurd (by rwa [Nat.add_sub_cancel] at hx) n13)
   ·-- no sign
    have np : ∀ {α : Type} (f : Bool → Option α), (Option.bind (bif (decide ((32 : Int) ≤ seen.getD i 0)) then some (decide (seen.getD i 0 ≤ (126 : Int))) else some (Bool.false)) fun (v8 : Bool) => Option.bind (bif v8 then some (Bool.true) else some ((@cond Bool Bool.false Bool.true (decide (seen.getD i 0 = (9 : Int)))))) f) = f false := fun f => by
     have a3 : ¬ seen.getD i 0 = 9 := fun hx => hpr (.inl hx)
     by_cases a1 : (32 : Int) ≤ seen.getD i 0
     ·have a2 : ¬ seen.getD i 0 ≤ 126 := fun hx => hpr (.inr ⟨a1, hx⟩)
      simp only [decide_eq_true a1, decide_eq_false a2, decide_eq_false a3, cond_true, cond_false, Option.bind_some]
     ·simp only [decide_eq_false a1, decide_eq_false a3, cond_true, cond_false, Option.bind_some]
    by_cases h13 : seen.getD i 0 = 13
    ·have n10 : ¬ seen.getD i 0 = 10 := by omega
     by_cases hok : i + 1 = seen.length ∨ seen.getD (i + 1) 0 = 10
     ·have hm : mayB seen i = true := by
       unfold mayB
       rw [if_pos h13]
       rcases hok with hx | hx
       ·rw [decide_eq_true hx, Bool.true_or]
       ·rw [decide_eq_true hx, Bool.or_true]
      have hl2 : line = seg seen start i := by
       rw [← hline]; unfold lineAt
       rw [if_neg (fun hx => n10 (hpre hx.1 hx.2 hlt))]
      have key : ∀ X, ref14_Head_L4 N X b line (i : Int) ls = X ((b, (line, (((i + 1 : Nat) : Int), ()))), (ls, ())) := fun X => by
       unfold ref14_Head_L4
       rw [decide_eq_true c1, cond_true, decide_eq_true c2, Option.bind_some]
       simp only [cond_true, hgi, Option.bind_some, e3]
       rw [np]
       simp only [cond_false, decide_eq_true h13, cond_true]
       by_cases b1 : (((i + 1 : Nat)) : Int) = (((List.length b) : Nat) : Int)
       ·simp only [decide_eq_true b1, cond_true, Option.bind_some]
       ·by_cases b2 : (((i + 1 : Nat)) : Int) = 2048
        ·simp only [decide_eq_false b1, decide_eq_true b2, cond_true, cond_false, Option.bind_some]
        ·have b3 : i + 1 < seen.length := by omega
         have b4 : seen.getD (i + 1) 0 = 10 := by rcases hok with hx | hx <;> omega
         have b5 : getI b ((i + 1 : Nat) : Int) = some (seen.getD (i + 1) 0) := by rw [getDI (by omega), hget _ b3]
         simp only [decide_eq_false b1, decide_eq_false b2, cond_true, cond_false, b5, Option.bind_some, decide_eq_true b4]
      rw [key, hm, if_pos rfl, if_neg n10, hl2]
      have := rhead_loop N b ha hb n (i + 1) start ls
      rw [hseen] at this
      have hla : lineAt seen start (i + 1) = seg seen start i := by
       unfold lineAt
       rw [if_pos ⟨by omega, by rw [Nat.add_sub_cancel]; exact h13⟩, Nat.add_sub_cancel]
      rw [hla] at this
      exact this (by omega) (by omega) hB (by omega) (by omega) (fun _ _ hx => by rcases hok with hy | hy <;> omega)
     ·have hm : mayB seen i = false := by
       unfold mayB
       rw [if_pos h13, decide_eq_false (fun hx => hok (.inl hx)), decide_eq_false (fun hx => hok (.inr hx))]; rfl
      rw [hm, if_neg (by simp)]
      unfold ref14_Head_L4
      rw [decide_eq_true c1, cond_true, decide_eq_true c2, Option.bind_some]
      simp only [cond_true, hgi, Option.bind_some, e3]
      rw [np]
      have b1 : ¬ ((((i + 1 : Nat)) : Int) = (((List.length b) : Nat) : Int)) := fun hx => hok (.inl (by omega))
      have b2 : ¬ ((((i + 1 : Nat)) : Int) = 2048) := fun hx => hok (.inl (by omega))
      have b3 : i + 1 < seen.length := by omega
      have b4 : ¬ seen.getD (i + 1) 0 = 10 := fun hx => hok (.inr hx)
      have b5 : getI b ((i + 1 : Nat) : Int) = some (seen.getD (i + 1) 0) := by rw [getDI (by omega), hget _ b3]
      simp only [cond_false, decide_eq_true h13, cond_true, decide_eq_false b1, decide_eq_false b2, b5, Option.bind_some, decide_eq_false b4, decide_eq_false n10, Bool.not_false]
      rfl
    ·-- an end, or nothing that may be
     have tail : ∀ X, ref14_Head_L4 N X b line (i : Int) ls = (Option.bind (bif (!(decide (seen.getD i 0 = (10 : Int)))) then some (Bool.true) else some ((@cond Bool Bool.false Bool.true (decide ((i : Int) = (0 : Int)))))) fun (v11 : Bool) =>
       Option.bind (bif v11 then some (Bool.true) else Option.bind (getI b (IntKind.wrap .i64 ((i : Int) - (1 : Int)))) fun (v12 : Int) => some ((@cond Bool Bool.false Bool.true (!(decide (v12 = (13 : Int))))))) fun (v12 : Bool) =>
       bif v12 then some ((.inl ((([] : List ((List UInt8))), ((0 : Int), ((3 : Int), Unit.unit))), Unit.unit)))
       else bif (decide (line = ([] : List UInt8))) then some ((.inl ((ls, (((i + 1 : Nat) : Int), ((0 : Int), Unit.unit))), Unit.unit)))
       else bif (roomB ((List.length ls) + (List.length ([line] : List ((List UInt8))))) 16) then (X ((b, (([] : List UInt8), (((i + 1 : Nat) : Int), Unit.unit))), ((ls ++ ([line] : List ((List UInt8)))), Unit.unit))) else none) := fun X => by
      unfold ref14_Head_L4
      rw [decide_eq_true c1, cond_true, decide_eq_true c2, Option.bind_some]
      simp only [cond_true, hgi, Option.bind_some, e3]
      rw [np]
      simp only [cond_false, decide_eq_false h13, Option.bind_some]
     rw [tail]
     by_cases h10 : seen.getD i 0 = 10
     ·rw [decide_eq_true h10, Bool.not_true, cond_false]
      cases hm : mayB seen i with
      | true =>
       obtain ⟨hlt2, hp13⟩ := beg_lt hB hs hm h10
       have e4 : IntKind.wrap .i64 ((i : Int) - 1) = ((i - 1 : Nat) : Int) := by rw [wrap64 (by omega) (by omega)]; omega
       have i0 : ¬ ((i : Int) = 0) := by omega
       have b5 : getI b ((i - 1 : Nat) : Int) = some (seen.getD (i - 1) 0) := by rw [getDI (by omega), hget _ (by omega)]
       have hl2 : line = seg seen start (i - 1) := by
        rw [← hline]; unfold lineAt
        rw [if_pos ⟨by omega, hp13⟩]
       rw [if_pos rfl, if_pos h10]
       simp only [decide_eq_false i0, cond_false, Option.bind_some, e4, b5, decide_eq_true hp13, Bool.not_true]
       rw [← hl2]
       by_cases hz : line = []
       ·rw [decide_eq_true hz, if_pos hz]; rfl
       ·have hr : roomB ((List.length ls) + (List.length ([line] : List ((List UInt8))))) 16 = true := roomB_of (by have := big_len; simp only [List.length_singleton]; omega) (by simp only [List.length_singleton]; omega)
        rw [decide_eq_false hz, if_neg hz, cond_false, hr, cond_true]
        have := rhead_loop N b ha hb n (i + 1) (i + 1) (ls ++ [line])
        rw [hseen] at this
        have hla : lineAt seen (i + 1) (i + 1) = [] := by
         unfold lineAt
         rw [if_neg (fun hx => by omega), seg_self]
        rw [hla] at this
        exact this (by omega) (Nat.le_refl _) (.inr (by rw [Nat.add_sub_cancel]; exact h10)) (by simp; omega) (by omega) (fun hx => by omega)
      | false =>
       rw [if_neg (by simp)]
       unfold mayB at hm
       rw [if_neg h13, if_pos h10] at hm
       by_cases i0 : i = 0
       ·subst i0; rfl
       ·have i0' : ¬ ((i : Int) = 0) := by omega
        have e4 : IntKind.wrap .i64 ((i : Int) - 1) = ((i - 1 : Nat) : Int) := by rw [wrap64 (by omega) (by omega)]; omega
        have b5 : getI b ((i - 1 : Nat) : Int) = some (seen.getD (i - 1) 0) := by rw [getDI (by omega), hget _ (by omega)]
        rw [decide_eq_true (show 0 < i by omega), Bool.true_and] at hm
        simp only [decide_eq_false i0', cond_false, Option.bind_some, e4, b5, hm, Bool.not_false, cond_true]
        rfl
     ·have hm : mayB seen i = false := by
       unfold mayB
       rw [if_neg h13, if_neg h10, decide_eq_false (fun hx => hpr (.inl hx)), decide_eq_false (fun hx => hpr (.inr hx))]; rfl
      rw [hm, if_neg (by simp), decide_eq_false h10]
      rfl
  ·rw [if_neg (by omega)]
   unfold ref14_Head_L4
   by_cases c1 : (i : Int) < (((List.length b) : Nat) : Int)
   ·have c2 : ¬ ((i : Int) < 2048) := by omega
    rw [decide_eq_true c1, cond_true, decide_eq_false c2]; rfl
   ·rw [decide_eq_false c1]; rfl
theorem rhead_ok (b : List Int) (ha : AllB b) (hb : b.length ≤ 100000) : ref14_Head 200000 b = some (headR b) := by
 unfold ref14_Head ref14_Head_L4_R headR
 have hl : (b.take 2048).length ≤ b.length := by simp; omega
 have := rhead_loop 200000 b ha (by omega) 200000 0 0 [] (Nat.zero_le _) (Nat.le_refl _) (.inl rfl) (by simp) (by omega) (fun hx => by omega)
 have hla : lineAt (b.take 2048) 0 0 = [] := by
  unfold lineAt
  rw [if_neg (fun hx => by omega), seg_self]
 rw [hla] at this
 rw [show ((b, (([] : List UInt8), ((0 : Int), Unit.unit))), (([] : List (List UInt8)), Unit.unit)) = ((b, ([], (((0 : Nat) : Int), ()))), ([], ())) from rfl, this, Option.bind_some]
 exact head_end b _
def ix (s : List UInt8) (c : UInt8) : Option Nat := s.findIdx? (fun b => b == c)
theorem idx_eq (s : List UInt8) (c : UInt8) : idxB s (((c.toNat : Nat)) : Int) = (match ix s c with | some i => ((i : Nat) : Int) | none => -1) := by
 unfold idxB ix
 rw [show ((((c.toNat : Nat)) : Int)).toNat.toUInt8 = c by simp]
 cases s.findIdx? (fun b => b == c) <;> rfl
theorem ix_some {s : List UInt8} {c : UInt8} {i : Nat} (h : ix s c = some i) : ∃ hi : i < s.length, s[i] = c ∧ ∀ j (hj : j < i), s[j]'(Nat.lt_trans hj hi) ≠ c := by
 unfold ix at h
 rw [List.findIdx?_eq_some_iff_getElem] at h
 obtain ⟨h1, h2, h3⟩ := h
 exact ⟨h1, by simpa using h2, fun j hj => by simpa using h3 j hj⟩
theorem ix_none {s : List UInt8} {c : UInt8} (h : ix s c = none) : ∀ j (hj : j < s.length), s[j] ≠ c := by
 unfold ix at h
 rw [List.findIdx?_eq_none_iff] at h
 intro j hj hc
 have := h s[j] (List.getElem_mem hj)
 rw [hc] at this
 simp at this
def spn (s : List UInt8) (c : UInt8) : Nat := (ix s c).getD s.length
theorem spn_le (s : List UInt8) (c : UInt8) : spn s c ≤ s.length := by
 unfold spn
 cases h : ix s c with
 | none => simp
 | some i => obtain ⟨h1, _⟩ := ix_some h; simp; omega
theorem spn_lt {s : List UInt8} {c : UInt8} {j : Nat} (h : j < spn s c) (hj : j < s.length) : s[j] ≠ c := by
 unfold spn at h
 cases hi : ix s c with
 | none => exact ix_none hi j hj
 | some i =>
  rw [hi] at h
  obtain ⟨h1, _, h3⟩ := ix_some hi
  exact h3 j h
theorem spn_at {s : List UInt8} {c : UInt8} (h : spn s c < s.length) : s[spn s c] = c ∧ ix s c = some (spn s c) := by
 cases hi : ix s c with
 | none => unfold spn at h; rw [hi] at h; simp at h
 | some i =>
  have e : spn s c = i := by unfold spn; rw [hi]; rfl
  obtain ⟨h1, h2, _⟩ := ix_some hi
  exact ⟨by simp only [e]; exact h2, by rw [e]⟩
theorem spn_end {s : List UInt8} {c : UInt8} (h : spn s c = s.length) : ix s c = none := by
 cases hi : ix s c with
 | none => rfl
 | some i =>
  have e : spn s c = i := by unfold spn; rw [hi]; rfl
  obtain ⟨h1, _⟩ := ix_some hi
  omega
theorem u8_eq (b c : UInt8) : ((((b.toNat : Nat)) : Int) = ((c.toNat : Nat) : Int)) ↔ b = c := ⟨fun h => UInt8.toNat_inj.1 (by omega), fun h => by rw [h]⟩
def fieldOf (l : List UInt8) : Option (List UInt8 × List UInt8) := match ix l 58 with
 | none => none
 | some i => if tokB (l.take i) = true then some (l.take i, trimB (l.drop (i + 1))) else none
def allF : List (List UInt8) → Option (List (List UInt8 × List UInt8))
 | [] => some []
 | l :: r => match fieldOf l, allF r with
  | some f, some m => some (f :: m)
  | _, _ => none
def fieldsR (l : List (List UInt8)) : List (List UInt8 × List UInt8) × Int := if 32 < l.length then ([], 5) else match allF l with
 | some m => (m, 0)
 | none => ([], 3)
theorem field_key (N : Nat) (hN : 100000 ≤ N) (l : List (List UInt8)) (i : Nat) (hi : i < l.length) (hl : l.length < 100000) (hb : ∀ x ∈ l, x.length < 100000) (acc : List (List UInt8 × List UInt8)) (ha : acc.length ≤ i) (X) :
  words_Fields_L5 N X l ((l.length : Nat) : Int) (i : Int) acc = (match fieldOf l[i] with | some f => X ((l, (((l.length : Nat) : Int), (((i + 1 : Nat) : Int), ()))), (acc ++ [f], ())) | none => some (.inl (([], (3, ())), ()))) := by
 have c1 : (i : Int) < ((l.length : Nat) : Int) := by omega
 have e3 : IntKind.wrap .i64 ((i : Int) + 1) = ((i + 1 : Nat) : Int) := by rw [wrap64 (by omega) (by omega)]; omega
 have hx := hb _ (List.getElem_mem hi)
 have hrm : ∀ f : List UInt8 × List UInt8, roomB ((List.length acc) + (List.length ([f] : List (List UInt8 × List UInt8)))) 32 = true := fun f => roomB_of (by have := big_len; simp only [List.length_singleton]; omega) (by simp only [List.length_singleton]; omega)
 have h58 : idxB l[i] ((((58 : UInt8).toNat : Nat)) : Int) = (match ix l[i] 58 with | some k => ((k : Nat) : Int) | none => -1) := idx_eq _ 58
 unfold words_Fields_L5
 rw [decide_eq_true c1, cond_true, getI_lt l i hi, Option.bind_some]
 generalize hline : l[i] = v at hx h58 ⊢
 unfold fieldOf
 by_cases h1 : v = [58]
 ·subst h1
  have ht0 : words_Token N [] = some (tokB []) := token_ok [] (by simp; omega)
  have htk : tokB [] = false := by decide
  simp only [decide_eq_true (show ([58] : List UInt8) = [58] from rfl), cond_true, cond_false, Option.bind_some]
  have hd : dropI ([58] : List UInt8) (IntKind.wrap .i64 ((0 : Int) + (((List.length ([58] : List UInt8)) : Nat) : Int))) = some [] := by decide +kernel
  have htk0 : List.take (Int.toNat (0 : Int)) ([58] : List UInt8) = [] := rfl
  simp only [hd, Option.bind_some, htk0, ht0, htk, Bool.not_false, cond_true]
  rfl
 ·have hne : ¬ (([58] : List UInt8) = v) := fun h => h1 h.symm
  simp only [decide_eq_false hne, cond_true, cond_false, Option.bind_some]
  cases hix : ix v 58 with
  | none =>
   rw [hix] at h58
   simp only at h58
   have c0 : ¬ ((0 : Int) ≤ -1) := by omega
   simp only [h58, decide_eq_false c0, cond_false, Option.bind_some, cond_true]
  | some k =>
   rw [hix] at h58
   simp only at h58
   obtain ⟨hk, hk2, hk3⟩ := ix_some hix
   have c0 : (0 : Int) ≤ ((k : Nat) : Int) := by omega
   have t1 : takeI v ((k : Nat) : Int) = some (v.take k) := takeI_nat v rfl (by omega)
   have e5 : IntKind.wrap .i64 (((k : Nat) : Int) + (((List.length ([58] : List UInt8)) : Nat) : Int)) = ((k + 1 : Nat) : Int) := by simp only [List.length_singleton]; rw [wrap64 (by omega) (by omega)]; omega
   have t2 : dropI v ((k + 1 : Nat) : Int) = some (v.drop (k + 1)) := dropI_nat v rfl (by omega)
   have tk : words_Token N (v.take k) = some (tokB (v.take k)) := token_ok _ (by simp; omega)
   have tr : words_Trim N (v.drop (k + 1)) = some (trimB (v.drop (k + 1))) := trim_ok _ (by simp; omega)
   simp only [h58, decide_eq_true c0, cond_true, t1, Option.bind_some, e5, t2, tk]
   cases hb : tokB (v.take k) with
   | false => simp only [Bool.not_false, cond_false, cond_true, Option.bind_some]; rfl
   | true => simp only [Bool.not_true, cond_false, Option.bind_some, tr, hrm, cond_true, e3, if_true]
theorem fields_loop (N : Nat) (hN : 100000 ≤ N) (l : List (List UInt8)) (hl : l.length < 100000) (hb : ∀ x ∈ l, x.length < 100000) : ∀ (n i : Nat) (acc : List (List UInt8 × List UInt8)), i ≤ l.length → acc.length ≤ i → l.length - i < n →
  gl (fun X c => words_Fields_L5 N X c.1.1 c.1.2.1 c.1.2.2.1 c.2.1) n ((l, (((l.length : Nat) : Int), ((i : Int), ()))), (acc, ())) = some (match allF (l.drop i) with | some m => .inr ((), (acc ++ m, ())) | none => .inl (([], (3, ())), ()))
 | 0, i, acc, _, _, h => by omega
 | n + 1, i, acc, hi, ha, h => by
  rw [gl_succ]
  show words_Fields_L5 N _ l ((l.length : Nat) : Int) (i : Int) acc = _
  rcases Nat.lt_or_ge i l.length with hlt | hge
  ·rw [field_key N hN l i hlt hl hb acc ha, List.drop_eq_getElem_cons hlt]
   unfold allF
   cases hf : fieldOf l[i] with
   | none => rfl
   | some f =>
    simp only
    rw [fields_loop N hN l hl hb n (i + 1) (acc ++ [f]) (by omega) (by simp; omega) (by omega)]
    cases allF (l.drop (i + 1)) with
    | none => rfl
    | some m => simp
  ·have c1 : ¬ ((i : Int) < ((l.length : Nat) : Int)) := by omega
   rw [List.drop_of_length_le hge]
   unfold words_Fields_L5
   rw [decide_eq_false c1, cond_false]
   simp [allF]
theorem fields_end (l : List (List UInt8)) (o : ((((List ((List UInt8) × (List UInt8))) × (Int × Unit)) × Unit) ⊕ (Unit × ((List ((List UInt8) × (List UInt8))) × Unit)))) (ho : o = (match allF l with | some m => .inr ((), ([] ++ m, ())) | none => .inl (([], (3, ())), ()))) :
  Sum.elim (fun (v3 : (((List ((List UInt8) × (List UInt8))) × (Int × Unit)) × Unit)) => some ((v3.1.1, v3.1.2.1))) (fun (v3 : (Unit × ((List ((List UInt8) × (List UInt8))) × Unit))) => some ((v3.2.1, (0 : Int)))) o = some (match allF l with | some m => (m, 0) | none => ([], 3)) := by
 subst ho
 cases allF l <;> rfl
theorem fields_ok {N : Nat} (hN : 100000 ≤ N) (l : List (List UInt8)) (hb : ∀ x ∈ l, x.length < 100000) : words_Fields N l = some (fieldsR l) := by
 unfold words_Fields words_Fields_L5_R fieldsR
 by_cases h : 32 < l.length
 ·have c : (32 : Int) < (((List.length l) : Nat) : Int) := by omega
  rw [decide_eq_true c, if_pos h]; rfl
 ·have c : ¬ ((32 : Int) < (((List.length l) : Nat) : Int)) := by omega
  have := fields_loop N hN l (by omega) hb N 0 [] (Nat.zero_le _) (by simp) (by omega)
  rw [List.drop_zero] at this
  rw [decide_eq_false c, if_neg h, cond_false, show ((l, ((((List.length l) : Nat) : Int), ((0 : Int), Unit.unit))), (([] : List (List UInt8 × List UInt8)), Unit.unit)) = ((l, (((l.length : Nat) : Int), (((0 : Nat) : Int), ()))), ([], ())) from rfl, this, Option.bind_some]
  exact fields_end l _ rfl
theorem rspan (N : Nat) (l : List (List UInt8)) (i : Nat) (hi : i < l.length) (hb : (l[i]).length < 100000) (acc : List (List UInt8 × List UInt8)) : ∀ (n p : Nat), p ≤ spn l[i] 58 → spn l[i] 58 - p < n →
  gl (fun X c => ref14_Fields_L8 N X c.1.1 c.1.2.1 c.1.2.2.1 c.2.1) n ((l, ((i : Int), ((p : Int), ()))), (acc, ())) = some ((l, ((i : Int), (((spn l[i] 58 : Nat) : Int), ()))), (acc, ()))
 | 0, p, _, h => by omega
 | n + 1, p, hp, h => by
  rw [gl_succ]
  show ref14_Fields_L8 N _ l (i : Int) (p : Int) acc = _
  have hle := spn_le l[i] 58
  rcases Nat.lt_or_ge p (spn l[i] 58) with hlt | hge
  ·have hpl : p < (l[i]).length := by omega
   have c1 : (p : Int) < (((List.length l[i]) : Nat) : Int) := by omega
   have e3 : IntKind.wrap .i64 ((p : Int) + 1) = ((p + 1 : Nat) : Int) := by rw [wrap64 (by omega) (by omega)]; omega
   have hne : ¬ ((((((l[i])[p]).toNat : Nat)) : Int) = 58) := fun hc => spn_lt hlt hpl ((u8_eq _ 58).1 hc)
   have key : ∀ X, ref14_Fields_L8 N X l (i : Int) (p : Int) acc = X ((l, ((i : Int), (((p + 1 : Nat) : Int), ()))), (acc, ())) := fun X => by
    simp only [ref14_Fields_L8, getI_lt l i hi, Option.bind_some, decide_eq_true c1, cond_true, getI_lt l[i] p hpl, decide_eq_false hne, Bool.not_false, e3]
   rw [key]
   exact rspan N l i hi hb acc n (p + 1) (by omega) (by omega)
  ·have hpe : p = spn l[i] 58 := by omega
   subst hpe
   by_cases c : spn l[i] 58 < (l[i]).length
   ·have c1 : ((spn l[i] 58 : Nat) : Int) < (((List.length l[i]) : Nat) : Int) := by omega
    have heq : (((((l[i])[spn l[i] 58]).toNat : Nat)) : Int) = 58 := (u8_eq _ 58).2 (spn_at c).1
    simp only [ref14_Fields_L8, getI_lt l i hi, Option.bind_some, decide_eq_true c1, cond_true, getI_lt l[i] _ c, decide_eq_true heq, Bool.not_true, cond_false]
   ·have c1 : ¬ (((spn l[i] 58 : Nat) : Int) < (((List.length l[i]) : Nat) : Int)) := by omega
    simp only [ref14_Fields_L8, getI_lt l i hi, Option.bind_some, decide_eq_false c1, cond_false]
theorem rfield_key (N : Nat) (hN : 110000 ≤ N) (l : List (List UInt8)) (i : Nat) (hi : i < l.length) (hl : l.length < 100000) (hb : ∀ x ∈ l, x.length < 100000) (acc : List (List UInt8 × List UInt8)) (ha : acc.length ≤ i) (X) :
  ref14_Fields_L5 N X l (i : Int) acc = (match fieldOf l[i] with | some f => X ((l, (((i + 1 : Nat) : Int), ())), (acc ++ [f], ())) | none => some (.inl (([], (3, ())), ()))) := by
 have c1 : (i : Int) < ((l.length : Nat) : Int) := by omega
 have e3 : IntKind.wrap .i64 ((i : Int) + 1) = ((i + 1 : Nat) : Int) := by rw [wrap64 (by omega) (by omega)]; omega
 have hx := hb _ (List.getElem_mem hi)
 have hrm : ∀ f : List UInt8 × List UInt8, roomB ((List.length acc) + (List.length ([f] : List (List UInt8 × List UInt8)))) 32 = true := fun f => roomB_of (by have := big_len; simp only [List.length_singleton]; omega) (by simp only [List.length_singleton]; omega)
 have hsp : ref14_Fields_L8_R N ((l, ((i : Int), ((0 : Int), ()))), (acc, ())) = some ((l, ((i : Int), (((spn l[i] 58 : Nat) : Int), ()))), (acc, ())) := rspan N l i hi hx acc N 0 (Nat.zero_le _) (by have := spn_le l[i] 58; omega)
 unfold ref14_Fields_L5
 rw [decide_eq_true c1, cond_true, hsp, Option.bind_some]
 simp only [getI_lt l i hi, Option.bind_some]
 unfold fieldOf
 by_cases h : spn l[i] 58 < (l[i]).length
 ·have hix := (spn_at h).2
  have c2 : ¬ (((spn l[i] 58 : Nat) : Int) = (((List.length l[i]) : Nat) : Int)) := by omega
  have t1 : takeI l[i] ((spn l[i] 58 : Nat) : Int) = some ((l[i]).take (spn l[i] 58)) := takeI_nat _ rfl (by omega)
  have e5 : IntKind.wrap .i64 (((spn l[i] 58 : Nat) : Int) + 1) = ((spn l[i] 58 + 1 : Nat) : Int) := by rw [wrap64 (by omega) (by omega)]; omega
  have t2 : dropI l[i] ((spn l[i] 58 + 1 : Nat) : Int) = some ((l[i]).drop (spn l[i] 58 + 1)) := dropI_nat _ rfl (by omega)
  have tk : ref14_Token N ((l[i]).take (spn l[i] 58)) = some (tokB ((l[i]).take (spn l[i] 58))) := rtoken_ok _ (by simp; omega) (by simp; omega)
  have tr : ref14_Trim N ((l[i]).drop (spn l[i] 58 + 1)) = some (trimB ((l[i]).drop (spn l[i] 58 + 1))) := rtrim_ok _ (by simp; omega) (by simp; omega)
  rw [hix]
  simp only [decide_eq_false c2, cond_false, t1, Option.bind_some, tk]
  cases hb : tokB ((l[i]).take (spn l[i] 58)) with
  | false => simp only [Bool.not_false, cond_false, cond_true, Option.bind_some]; rfl
  | true => simp only [Bool.not_true, cond_false, Option.bind_some, e5, t2, tr, hrm, cond_true, e3, if_true]
 ·have he : spn l[i] 58 = (l[i]).length := by have := spn_le l[i] 58; omega
  have c2 : ((spn l[i] 58 : Nat) : Int) = (((List.length l[i]) : Nat) : Int) := by omega
  rw [spn_end he]
  simp only [decide_eq_true c2, cond_true, Option.bind_some]
theorem rfields_loop (N : Nat) (hN : 110000 ≤ N) (l : List (List UInt8)) (hl : l.length < 100000) (hb : ∀ x ∈ l, x.length < 100000) : ∀ (n i : Nat) (acc : List (List UInt8 × List UInt8)), i ≤ l.length → acc.length ≤ i → l.length - i < n →
  gl (fun X c => ref14_Fields_L5 N X c.1.1 c.1.2.1 c.2.1) n ((l, ((i : Int), ())), (acc, ())) = some (match allF (l.drop i) with | some m => .inr ((), (acc ++ m, ())) | none => .inl (([], (3, ())), ()))
 | 0, i, acc, _, _, h => by omega
 | n + 1, i, acc, hi, ha, h => by
  rw [gl_succ]
  show ref14_Fields_L5 N _ l (i : Int) acc = _
  rcases Nat.lt_or_ge i l.length with hlt | hge
  ·rw [rfield_key N hN l i hlt hl hb acc ha, List.drop_eq_getElem_cons hlt]
   unfold allF
   cases hf : fieldOf l[i] with
   | none => rfl
   | some f =>
    simp only
    rw [rfields_loop N hN l hl hb n (i + 1) (acc ++ [f]) (by omega) (by simp; omega) (by omega)]
    cases allF (l.drop (i + 1)) with
    | none => rfl
    | some m => simp
  ·have c1 : ¬ ((i : Int) < ((l.length : Nat) : Int)) := by omega
   rw [List.drop_of_length_le hge]
   unfold ref14_Fields_L5
   rw [decide_eq_false c1, cond_false]
   simp [allF]
theorem rfields_ok {N : Nat} (hN : 110000 ≤ N) (l : List (List UInt8)) (hb : ∀ x ∈ l, x.length < 100000) : ref14_Fields N l = some (fieldsR l) := by
 unfold ref14_Fields ref14_Fields_L5_R fieldsR
 by_cases h : 32 < l.length
 ·have c : (32 : Int) < (((List.length l) : Nat) : Int) := by omega
  rw [decide_eq_true c, if_pos h]; rfl
 ·have c : ¬ ((32 : Int) < (((List.length l) : Nat) : Int)) := by omega
  have := rfields_loop N hN l (by omega) hb N 0 [] (Nat.zero_le _) (by simp) (by omega)
  rw [List.drop_zero] at this
  rw [decide_eq_false c, if_neg h, cond_false, show ((l, ((0 : Int), Unit.unit)), (([] : List (List UInt8 × List UInt8)), Unit.unit)) = ((l, (((0 : Nat) : Int), ())), ([], ())) from rfl, this, Option.bind_some]
  exact fields_end l _ rfl
def foldF (name : List UInt8) : List (List UInt8 × List UInt8) → Nat → List UInt8 → Nat × List UInt8
 | [], m, v => (m, v)
 | f :: r, m, v => if lowS f.1 = lowS name then foldF name r (m + 1) f.2 else foldF name r m v
def findR (l : List (List UInt8 × List UInt8)) (name : List UInt8) : List UInt8 × Int := if (foldF name l 0 []).1 = 0 then ([], 6) else if (foldF name l 0 []).1 = 1 then ((foldF name l 0 []).2, 0) else ([], 7)
theorem find_loop (N : Nat) (l : List (List UInt8 × List UInt8)) (name : List UInt8) (hl : l.length < 100000) (hn : name.length ≤ 100000) (hb : ∀ x ∈ l, x.1.length ≤ 100000) : ∀ (n i m : Nat) (v : List UInt8), i ≤ l.length → m ≤ i → l.length - i < n →
  gl (fun X c => words_Find_L3 N X c.1.1 c.1.2.1 c.1.2.2.1 c.1.2.2.2.1 c.1.2.2.2.2.1 c.1.2.2.2.2.2.1) n ((name, (v, (((m : Nat) : Int), (l, (((l.length : Nat) : Int), ((i : Int), ())))))), ()) = some (((foldF name (l.drop i) m v).2, ((((foldF name (l.drop i) m v).1 : Nat) : Int), ())), ())
 | 0, i, m, v, _, _, h => by omega
 | n + 1, i, m, v, hi, hm, h => by
  rw [gl_succ]
  show words_Find_L3 N _ name v ((m : Nat) : Int) l ((l.length : Nat) : Int) (i : Int) = _
  rcases Nat.lt_or_ge i l.length with hlt | hge
  ·have c1 : (i : Int) < ((l.length : Nat) : Int) := by omega
   have e3 : IntKind.wrap .i64 ((i : Int) + 1) = ((i + 1 : Nat) : Int) := by rw [wrap64 (by omega) (by omega)]; omega
   have e4 : IntKind.wrap .i64 (((m : Nat) : Int) + 1) = ((m + 1 : Nat) : Int) := by rw [wrap64 (by omega) (by omega)]; omega
   have hal : words_Alike N (l[i]).1 name = some (decide (lowS (l[i]).1 = lowS name)) := alike_ok _ _ (by have := hb _ (List.getElem_mem hlt); omega) (by omega)
   rw [List.drop_eq_getElem_cons hlt]
   unfold foldF
   by_cases hx : lowS (l[i]).1 = lowS name
   ·have key : ∀ X, words_Find_L3 N X name v ((m : Nat) : Int) l ((l.length : Nat) : Int) (i : Int) = X ((name, ((l[i]).2, (((m + 1 : Nat) : Int), (l, (((l.length : Nat) : Int), (((i + 1 : Nat) : Int), ())))))), ()) := fun X => by
     simp only [words_Find_L3, decide_eq_true c1, cond_true, getI_lt l i hlt, Option.bind_some, hal, decide_eq_true hx, e3, e4]
    rw [key, if_pos hx]
    exact find_loop N l name hl hn hb n (i + 1) (m + 1) _ (by omega) (by omega) (by omega)
   ·have key : ∀ X, words_Find_L3 N X name v ((m : Nat) : Int) l ((l.length : Nat) : Int) (i : Int) = X ((name, (v, (((m : Nat) : Int), (l, (((l.length : Nat) : Int), (((i + 1 : Nat) : Int), ())))))), ()) := fun X => by
     simp only [words_Find_L3, decide_eq_true c1, cond_true, getI_lt l i hlt, Option.bind_some, hal, decide_eq_false hx, cond_false, e3]
    rw [key, if_neg hx]
    exact find_loop N l name hl hn hb n (i + 1) m _ (by omega) (by omega) (by omega)
  ·have c1 : ¬ ((i : Int) < ((l.length : Nat) : Int)) := by omega
   rw [List.drop_of_length_le hge]
   simp only [words_Find_L3, decide_eq_false c1, cond_false, foldF]
theorem find_ok {N : Nat} (l : List (List UInt8 × List UInt8)) (name : List UInt8) (hl : l.length < 100000) (hN : 100000 ≤ N) (hn : name.length ≤ 100000) (hb : ∀ x ∈ l, x.1.length ≤ 100000) : words_Find N l name = some (findR l name) := by
 unfold words_Find words_Find_L3_R findR
 have := find_loop N l name hl hn hb N 0 0 [] (Nat.zero_le _) (Nat.le_refl _) (by omega)
 rw [List.drop_zero] at this
 rw [show ((name, ((@Array.toList UInt8 (@List.toArray UInt8 ([] : List UInt8))), ((0 : Int), (l, ((((List.length l) : Nat) : Int), ((0 : Int), Unit.unit)))))), Unit.unit) = ((name, ([], (((0 : Nat) : Int), (l, (((l.length : Nat) : Int), (((0 : Nat) : Int), ())))))), ()) from rfl, this, Option.bind_some]
 generalize foldF name l 0 [] = r
 by_cases h0 : r.1 = 0
 ·have c : ((r.1 : Nat) : Int) = 0 := by omega
  simp only [decide_eq_true c, cond_true, if_pos h0]
 ·have c : ¬ (((r.1 : Nat) : Int) = 0) := by omega
  by_cases h1 : r.1 = 1
  ·have c2 : ((r.1 : Nat) : Int) = 1 := by omega
   simp only [decide_eq_false c, cond_false, decide_eq_true c2, cond_true, if_neg h0, if_pos h1]
  ·have c2 : ¬ (((r.1 : Nat) : Int) = 1) := by omega
   simp only [decide_eq_false c, cond_false, decide_eq_false c2, if_neg h0, if_neg h1]
theorem rfind_loop (N : Nat) (l : List (List UInt8 × List UInt8)) (name : List UInt8) (hN : 110000 ≤ N) (hl : l.length < 100000) (hn : name.length ≤ 100000) (hb : ∀ x ∈ l, x.1.length ≤ 100000) : ∀ (n i m : Nat) (v : List UInt8), i ≤ l.length → m ≤ i → l.length - i < n →
  gl (fun X c => ref14_Find_L3 N X c.1.1 c.1.2.1 c.1.2.2.1 c.1.2.2.2.1 c.1.2.2.2.2.1) n ((l, (name, (((m : Nat) : Int), (v, ((i : Int), ()))))), ()) = some ((((((foldF name (l.drop i) m v).1 : Nat) : Int)), ((foldF name (l.drop i) m v).2, ())), ())
 | 0, i, m, v, _, _, h => by omega
 | n + 1, i, m, v, hi, hm, h => by
  rw [gl_succ]
  show ref14_Find_L3 N _ l name ((m : Nat) : Int) v (i : Int) = _
  rcases Nat.lt_or_ge i l.length with hlt | hge
  ·have c1 : (i : Int) < ((l.length : Nat) : Int) := by omega
   have e3 : IntKind.wrap .i64 ((i : Int) + 1) = ((i + 1 : Nat) : Int) := by rw [wrap64 (by omega) (by omega)]; omega
   have e4 : IntKind.wrap .i64 (((m : Nat) : Int) + 1) = ((m + 1 : Nat) : Int) := by rw [wrap64 (by omega) (by omega)]; omega
   have hal : ref14_Alike N (l[i]).1 name = some (decide (lowS (l[i]).1 = lowS name)) := by
    have := hb _ (List.getElem_mem hlt)
    exact ralike_ok _ _ (by omega) (by omega) (by omega) (by omega)
   rw [List.drop_eq_getElem_cons hlt]
   unfold foldF
   by_cases hx : lowS (l[i]).1 = lowS name
   ·have key : ∀ X, ref14_Find_L3 N X l name ((m : Nat) : Int) v (i : Int) = X ((l, (name, (((m + 1 : Nat) : Int), ((l[i]).2, (((i + 1 : Nat) : Int), ()))))), ()) := fun X => by
     simp only [ref14_Find_L3, decide_eq_true c1, cond_true, getI_lt l i hlt, Option.bind_some, hal, decide_eq_true hx, e3, e4]
    rw [key, if_pos hx]
    exact rfind_loop N l name hN hl hn hb n (i + 1) (m + 1) _ (by omega) (by omega) (by omega)
   ·have key : ∀ X, ref14_Find_L3 N X l name ((m : Nat) : Int) v (i : Int) = X ((l, (name, (((m : Nat) : Int), (v, (((i + 1 : Nat) : Int), ()))))), ()) := fun X => by
     simp only [ref14_Find_L3, decide_eq_true c1, cond_true, getI_lt l i hlt, Option.bind_some, hal, decide_eq_false hx, cond_false, e3]
    rw [key, if_neg hx]
    exact rfind_loop N l name hN hl hn hb n (i + 1) m _ (by omega) (by omega) (by omega)
  ·have c1 : ¬ ((i : Int) < ((l.length : Nat) : Int)) := by omega
   rw [List.drop_of_length_le hge]
   simp only [ref14_Find_L3, decide_eq_false c1, cond_false, foldF]
theorem rfind_ok {N : Nat} (l : List (List UInt8 × List UInt8)) (name : List UInt8) (hl : l.length < 100000) (hN : 110000 ≤ N) (hn : name.length ≤ 100000) (hb : ∀ x ∈ l, x.1.length ≤ 100000) : ref14_Find N l name = some (findR l name) := by
 unfold ref14_Find ref14_Find_L3_R findR
 have := rfind_loop N l name hN hl hn hb N 0 0 [] (Nat.zero_le _) (Nat.le_refl _) (by omega)
 rw [List.drop_zero] at this
 rw [show ((l, (name, ((0 : Int), ((@Array.toList UInt8 (@List.toArray UInt8 ([] : List UInt8))), ((0 : Int), Unit.unit))))), Unit.unit) = ((l, (name, (((0 : Nat) : Int), ([], (((0 : Nat) : Int), ()))))), ()) from rfl, this, Option.bind_some]
 generalize foldF name l 0 [] = r
 by_cases h0 : r.1 = 0
 ·have c : ((r.1 : Nat) : Int) = 0 := by omega
  simp only [decide_eq_true c, cond_true, if_pos h0]
 ·have c : ¬ (((r.1 : Nat) : Int) = 0) := by omega
  by_cases h1 : r.1 = 1
  ·have c2 : ¬ ((1 : Int) < ((r.1 : Nat) : Int)) := by omega
   simp only [decide_eq_false c, cond_false, decide_eq_false c2, if_neg h0, if_pos h1]
  ·have c2 : (1 : Int) < ((r.1 : Nat) : Int) := by omega
   simp only [decide_eq_false c, cond_false, decide_eq_true c2, cond_true, if_neg h0, if_neg h1]
theorem fieldOf_len {l : List UInt8} {f : List UInt8 × List UInt8} (h : fieldOf l = some f) : f.1.length ≤ l.length := by
 unfold fieldOf at h
 cases hi : ix l 58 with
 | none => rw [hi] at h; cases h
 | some i =>
  rw [hi] at h
  simp only at h
  split at h
  ·injection h with h; subst h; simp; omega
  ·cases h
theorem allF_len : ∀ {l : List (List UInt8)} {m : List (List UInt8 × List UInt8)} {B : Nat}, allF l = some m → (∀ x ∈ l, x.length ≤ B) → m.length = l.length ∧ ∀ f ∈ m, f.1.length ≤ B
 | [], m, B, h, _ => by simp only [allF, Option.some.injEq] at h; subst h; exact ⟨rfl, fun f hf => by cases hf⟩
 | l :: r, m, B, h, hb => by
  unfold allF at h
  cases hf : fieldOf l with
  | none => rw [hf] at h; cases h
  | some f =>
   rw [hf] at h
   cases hr : allF r with
   | none => rw [hr] at h; cases h
   | some m' =>
    rw [hr] at h
    injection h with h
    subst h
    obtain ⟨h1, h2⟩ := allF_len hr (fun x hx => hb x (by simp [hx]))
    refine ⟨by simp [h1], fun g hg => ?_⟩
    rcases List.mem_cons.1 hg with rfl | hg
    ·have h3 := fieldOf_len hf; have h4 := hb l (by simp); omega
    ·exact h2 g hg
theorem fieldsR_len (l : List (List UInt8)) {B : Nat} (hb : ∀ x ∈ l, x.length ≤ B) : (fieldsR l).1.length ≤ l.length ∧ ∀ f ∈ (fieldsR l).1, f.1.length ≤ B := by
 unfold fieldsR
 split
 ·exact ⟨by simp, fun f hf => by cases hf⟩
 ·cases hm : allF l with
  | none => exact ⟨by simp, fun f hf => by cases hf⟩
  | some m => obtain ⟨h1, h2⟩ := allF_len hm hb; exact ⟨by simp [h1], h2⟩
theorem hd_len (s : List Int) : ∀ (f i start : Nat) (ls : List (List UInt8)) (r : List (List UInt8) × (Int × Int)), hdS s f i start ls = .inl r → (∀ l ∈ ls, l.length ≤ s.length) → ls.length ≤ i → i ≤ s.length → r.1.length ≤ s.length ∧ ∀ l ∈ r.1, l.length ≤ s.length
 | 0, i, start, ls, r, h, _, _, _ => by cases h
 | f + 1, i, start, ls, r, h, hb, hl, hi => by
  unfold hdS at h
  split at h
  ·rename_i hlt
   split at h
   ·split at h
    ·split at h
     ·injection h with h; subst h; exact ⟨by simp only; omega, hb⟩
     ·refine hd_len s f _ _ _ r h (fun l hm => ?_) (by simp; omega) (by omega)
      rcases List.mem_append.1 hm with h1 | h1
      ·exact hb l h1
      ·rw [List.mem_singleton.1 h1, seg_length _ _ _ (by omega)]; omega
    ·exact hd_len s f _ _ _ r h hb (by omega) (by omega)
   ·injection h with h; subst h; exact ⟨by simp, fun l hl => by cases hl⟩
  ·cases h
theorem headR_len (b : List Int) : (headR b).1.length ≤ b.length ∧ ∀ l ∈ (headR b).1, l.length ≤ b.length := by
 unfold headR
 cases hh : hdS (b.take 2048) 200000 0 0 [] with
 | inl r =>
  obtain ⟨h1, h2⟩ := hd_len _ _ _ _ _ r hh (fun l hl => by cases hl) (by simp) (Nat.zero_le _)
  have hl : (b.take 2048).length ≤ b.length := by simp; omega
  exact ⟨by simp only; omega, fun l hm => by have := h2 l hm; omega⟩
 | inr u =>
  simp only
  split <;> exact ⟨by simp, fun l hl => by cases hl⟩
end Go.Proofs.YtfaocnboildjbaaDoor
