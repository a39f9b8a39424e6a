/-
  Parts of my own, one behind the other: Unhex, Uhx, Ux, GWd, QBase2, QOctsD, QW1, QW2.
-/
import Derived.Test.YtfaocnboildjbaaDoorMrg1
import Derived.Test.YtfaocnboildjbaaDoorMrg4
/-
  Contracts: the bytes of digits.
-/
namespace Go.Proofs.YtfaocnboildjbaaDoor
set_option maxRecDepth 100000
open Go.RowKit
set_option linter.unusedVariables false

/-- What a digit is worth; 16: it is none. -/
def hv (c : UInt8) : Nat := if 48 ≤ c.toNat ∧ c.toNat ≤ 57 then c.toNat - 48 else if 65 ≤ c.toNat ∧ c.toNat ≤ 70 then c.toNat - 55 else if 97 ≤ c.toNat ∧ c.toNat ≤ 102 then c.toNat - 87 else 16
theorem hv_le (c : UInt8) : hv c ≤ 16 := by unfold hv; split <;> (try split) <;> (try split) <;> omega
theorem hv_cases (c : UInt8) : (c.toNat < 48 ∧ hv c = 16) ∨ (48 ≤ c.toNat ∧ c.toNat ≤ 57 ∧ hv c = c.toNat - 48) ∨ (57 < c.toNat ∧ c.toNat < 65 ∧ hv c = 16) ∨ (65 ≤ c.toNat ∧ c.toNat ≤ 70 ∧ hv c = c.toNat - 55) ∨
    (70 < c.toNat ∧ c.toNat < 97 ∧ hv c = 16) ∨ (97 ≤ c.toNat ∧ c.toNat ≤ 102 ∧ hv c = c.toNat - 87) ∨ (102 < c.toNat ∧ hv c = 16) := by
  unfold hv; split <;> (try split) <;> (try split) <;> omega
/-- The bytes of digits, if they are pairs of digits. -/
def unhexL : List UInt8 → Option (List UInt8)
  | [] => some []
  | [_] => none
  | a :: b :: r => if hv a < 16 ∧ hv b < 16 then (unhexL r).map (UInt8.ofNat (16 * hv a + hv b) :: ·) else none

set_option maxHeartbeats 1000000 in
theorem octs_worth (c : UInt8) (w : World) : Calls Tryd.prog 34 #[.int .u8 (c.toNat : Int)] w fun e w' => e = .returned (.int .u8 (hv c : Nat)) ∧ w = w' := by
  have hc := c.toNat_lt
  have HV := hv_cases c
  obtain ⟨v, hv'⟩ : ∃ v, v = hv c := ⟨_, rfl⟩
  obtain ⟨x, hx'⟩ : ∃ x, x = c.toNat := ⟨_, rfl⟩
  rw [← hv', ← hx'] at HV
  rw [← hx'] at hc
  rw [← hv', ← hx']
  clear hv' hx'
  rcases HV with ⟨h1, h2⟩ | ⟨h0, h1, h2⟩ | ⟨h0, h1, h2⟩ | ⟨h0, h1, h2⟩ | ⟨h0, h1, h2⟩ | ⟨h0, h1, h2⟩ | ⟨h1, h2⟩
  all_goals
    have H2 := Lib.hid h2; clear h2
    go_enter Tryd.func34, Tryd.ntmps34
    go_wp2
    go_ret
    exact ⟨ret_int (by rw [H2.out]; omega), rfl⟩

set_option maxHeartbeats 1000000 in
theorem ref_digit (c : UInt8) (w : World) : Calls Tryd.prog 36 #[.int .u8 (c.toNat : Int)] w fun e w' => e = .returned (.int .u8 (hv c : Nat)) ∧ w = w' := by
  have hc := c.toNat_lt
  have HV := hv_cases c
  obtain ⟨v, hv'⟩ : ∃ v, v = hv c := ⟨_, rfl⟩
  obtain ⟨x, hx'⟩ : ∃ x, x = c.toNat := ⟨_, rfl⟩
  rw [← hv', ← hx'] at HV
  rw [← hx'] at hc
  rw [← hv', ← hx']
  clear hv' hx'
  rcases HV with ⟨h1, h2⟩ | ⟨h0, h1, h2⟩ | ⟨h0, h1, h2⟩ | ⟨h0, h1, h2⟩ | ⟨h0, h1, h2⟩ | ⟨h0, h1, h2⟩ | ⟨h1, h2⟩
  all_goals
    have H2 := Lib.hid h2; clear h2
    go_enter Tryd.func36, Tryd.ntmps36
    go_wp2
    go_ret
    exact ⟨ret_int (by rw [H2.out]; omega), rfl⟩


theorem unhexL_odd : ∀ l : List UInt8, l.length % 2 = 1 → unhexL l = none
  | [], h => by simp at h
  | [_], _ => rfl
  | a :: b :: r, h => by
    have := unhexL_odd r (by simp at h; omega)
    simp [unhexL, this]
theorem drop_two {l : List UInt8} {i : Nat} {a b : UInt8} (ha : l[i]? = some a) (hb : l[i + 1]? = some b) : l.drop i = a :: b :: l.drop (i + 2) := by
  have h1 := (List.getElem?_eq_some_iff.1 ha).1
  have h2 := (List.getElem?_eq_some_iff.1 hb).1
  rw [List.drop_eq_getElem_cons h1, List.drop_eq_getElem_cons h2, (List.getElem?_eq_some_iff.1 ha).2, (List.getElem?_eq_some_iff.1 hb).2]
/-- acc is what the first i digits are. -/
def UnhexAt (l : List UInt8) (i : Nat) (acc : List UInt8) : Prop := unhexL l = (unhexL (l.drop i)).map (acc ++ ·)
theorem UnhexAt.start (l : List UInt8) : UnhexAt l 0 [] := by simp [UnhexAt]
theorem UnhexAt.step {l acc : List UInt8} {i : Nat} {a b : UInt8} (h : UnhexAt l i acc) (ha : l[i]? = some a) (hb : l[i + 1]? = some b) (h1 : hv a < 16) (h2 : hv b < 16) :
    UnhexAt l (i + 2) (acc ++ [UInt8.ofNat (16 * hv a + hv b)]) := by
  unfold UnhexAt at h ⊢
  rw [h, drop_two ha hb, unhexL, if_pos ⟨h1, h2⟩, Option.map_map]
  congr 1
  funext r
  simp
theorem UnhexAt.bad {l acc : List UInt8} {i : Nat} {a b : UInt8} (h : UnhexAt l i acc) (ha : l[i]? = some a) (hb : l[i + 1]? = some b) (h1 : ¬ (hv a < 16 ∧ hv b < 16)) : unhexL l = none := by
  rw [h, drop_two ha hb, unhexL, if_neg h1]; rfl
theorem UnhexAt.last {l acc : List UInt8} {i : Nat} (h : UnhexAt l i acc) (hi : l.length ≤ i) : unhexL l = some acc := by
  rw [h, List.drop_of_length_le hi]; simp [unhexL]
/-- What the call hands back. -/
def UnhexPost (l : List UInt8) (w : World) (e : Ending) (w' : World) : Prop :=
  Below w.heap.size w w' ∧ ((unhexL l = none ∧ e = .returned (.tuple #[.slice none 0 0, .int .i64 3])) ∨
    ∃ bs v, unhexL l = some bs ∧ e = .returned (.tuple #[v, .int .i64 0]) ∧ OB w' w.heap.size v bs.length bs)
theorem UnhexPost.no {l : List UInt8} {w w' : World} (h : unhexL l = none) (hb : Below w.heap.size w w') : UnhexPost l w (.returned (.tuple #[.slice none 0 0, .int .i64 3])) w' := ⟨hb, .inl ⟨h, rfl⟩⟩
theorem UnhexPost.yes {l bs : List UInt8} {v : Value} {n : Nat} {w w' : World} (h : unhexL l = some bs) (ho : OB w' w.heap.size v n bs) (hb : Below w.heap.size w w') :
    UnhexPost l w (.returned (.tuple #[v, .int .i64 0])) w' := ⟨hb, .inr ⟨bs, v, h, rfl, by rw [ho.len]; exact ho⟩⟩

theorem str_at {s : ByteArray} {k : Nat} {b : UInt8} (h : s.data.toList[k]? = some b) (w : World) :
    (Instr.index 9 (.string s) (.int .i64 (k : Int))).run Tryd.prog w = .ok (.int .u8 (b.toNat : Int)) w := by
  have hk : k < s.size := by
    have := (List.getElem?_eq_some_iff.1 h).1
    simpa using this
  rw [run_index_string (P := Tryd.prog) (w := w) _ _ _ _ Tryd.underlying9, dif_pos ⟨by omega, by omega⟩]
  have : s[k] = b := by
    have h2 := (List.getElem?_eq_some_iff.1 h).2
    rw [← h2]; rfl
  simp [this]
theorem str_at1 {s : ByteArray} {k : Nat} {b : UInt8} (h : s.data.toList[k + 1]? = some b) (w : World) :
    (Instr.index 9 (.string s) (.int .i64 ((k : Int) + 1))).run Tryd.prog w = .ok (.int .u8 (b.toNat : Int)) w := by
  have := str_at h w
  rwa [show (((k + 1 : Nat)) : Int) = (k : Int) + 1 by omega] at this
theorem str_some {s : ByteArray} {k : Nat} (h : k < s.size) : ∃ b : UInt8, s.data.toList[k]? = some b :=
  ⟨s.data.toList[k]'(by simpa using h), List.getElem?_eq_getElem _⟩
theorem u8_16 (a b : Nat) (ha : a < 16) (hb : b < 16) : (16 * (a : Int) + (b : Int)) = ((UInt8.ofNat (16 * a + b)).toNat : Int) := by
  rw [UInt8.toNat_ofNat']; omega

set_option maxHeartbeats 1000000 in
theorem ref_unhex (s : ByteArray) (w : World) (hs : s.size ≤ 1000000) :
    Calls Tryd.prog 23 #[.string s] w (UnhexPost s.data.toList w) := by
  have hl : s.data.toList.length = s.size := by rw [Array.length_toList]; rfl
  have Hl := Lib.hid hl; clear hl
  by_cases hodd : s.size % 2 = 1
  · have Hno := Lib.hid (unhexL_odd s.data.toList (by rw [Hl.out]; exact hodd))
    have h1 : ((s.size : Int) % 2 != 0) = true := by simp; omega
    clear hodd
    go_enter Tryd.func23, Tryd.ntmps23
    go_wp2
    go_ret2
    exact UnhexPost.no Hno.out (Below.refl _ _)
  · have h1 : ((s.size : Int) % 2 != 0) = false := by simp; omega
    have Hev := Lib.hid hodd; clear hodd
    go_enter Tryd.func23, Tryd.ntmps23
    go_wp2
    go_loopw [4, 5] (fun v i wr => ∃ (k : Nat) (acc : List UInt8), k ≤ s.size ∧ 2 * acc.length = k ∧ i = .int .i64 k ∧ OB wr w.heap.size v acc.length acc ∧ UnhexAt s.data.toList k acc ∧ Below w.heap.size w wr) (fun _ i _ => s.size - (intOf i).toNat)
    case atStart => exact ⟨0, [], Nat.zero_le _, rfl, rfl, OB.nil _ _, UnhexAt.start _, Below.refl _ _⟩
    case round =>
      obtain ⟨k, acc, hk, hka, rfl, hown, hat, hbel⟩ := hrel
      have Hown := Lib.hid hown; clear hown
      have Hka := Lib.hid hka; clear hka
      have Hat := Lib.hid hat; clear hat
      by_cases hlt : k < s.size
      · have hlt1 : k + 1 < s.size := by have := Hev.out; have := Hka.out; omega
        obtain ⟨a, ha⟩ := str_some hlt
        obtain ⟨b, hb⟩ := str_some hlt1
        have hia := str_at ha
        have hib := str_at1 hb
        have Ha := Lib.hid ha; clear ha
        have Hb := Lib.hid hb; clear hb
        have ga := hv_le a
        have gb := hv_le b
        by_cases hgood : hv a < 16 ∧ hv b < 16
        · obtain ⟨hga, hgb⟩ := hgood
          have Hst := Lib.hid (Hat.out.step Ha.out Hb.out hga hgb)
          have hsz := hbel.size
          go_wp2
          go_quiet ((go_at_call 36; exact quiet_left (ref_digit _ _)))
          have hz1 := u8_16 (hv a) (hv b) hga hgb
          obtain ⟨z, hz⟩ : ∃ z, z = UInt8.ofNat (16 * hv a + hv b) := ⟨_, rfl⟩
          rw [← hz] at hz1 Hst
          clear hz
          have h3 : acc.length + 1 ≤ 140737488355328 := by have := Hka.out; omega
          clear hia hib ga gb
          go_wp2_with (at_builtin; refine wpList_appb _ rfl (.tmp 33) (.tmp 38) rfl w.heap.size _ _ _ rfl ((Hown.out.drewN _).alloc _) _ _ _ _ rfl (RB.new1 _ z _ (by simp)) h3 (by simp; omega) ?_; intro v' w1 hown1 hg1 hat1; have Hown1 := Lib.hid hown1; clear hown1)
          go_roundw
          case rel =>
            refine ⟨k + 2, acc ++ [z], by omega, by rw [List.length_append, List.length_singleton]; have := Hka.out; omega, by go_num, by rw [List.length_append, List.length_singleton]; exact Hown1.out, Hst.out, ?_⟩
            exact ((below_drewN hbel _).alloc (by simp; omega) _).grown hg1 (by simp; omega) fun j hj => (Hown.out.lt j hj).1
          case measure => simp [intOf]; omega
        · have Hbad := Lib.hid (Hat.out.bad Ha.out Hb.out hgood)
          by_cases hga : hv a < 16
          · have hgb : 15 < hv b := by omega
            clear hgood
            go_wp2
            go_quiet ((go_at_call 36; exact quiet_left (ref_digit _ _)))
            go_wp2
            go_ret2
            exact UnhexPost.no Hbad.out (below_drewN hbel _)
          · have hga' : 15 < hv a := by omega
            clear hgood
            go_wp2
            go_quiet ((go_at_call 36; exact quiet_left (ref_digit _ _)))
            go_wp2
            go_ret2
            exact UnhexPost.no Hbad.out (below_drewN hbel _)
      · have Hlast := Lib.hid (Hat.out.last (by rw [Hl.out]; omega))
        go_wp2
        go_ret2
        exact UnhexPost.yes Hlast.out Hown.out hbel

theorem u8_shl' (a b : Nat) (ha : a < 16) (hb : b < 16) : bits .or .u8 ((a : Int) * 16) (b : Int) = ((UInt8.ofNat (16 * a + b)).toNat : Int) := by
  rw [show (a : Int) * 16 = ((a * 16 : Nat) : Int) by omega, u8_or_nat _ _ (by omega) (by omega), nat_join 4 _ _ (by omega) hb, UInt8.toNat_ofNat']
  omega
theorem u8_shl (a b : Nat) (ha : a < 16) (hb : b < 16) : bits .or .u8 (IntKind.u8.wrap ((a : Int) * 16)) (b : Int) = ((UInt8.ofNat (16 * a + b)).toNat : Int) := by
  rw [IntKind.wrap_u8, Int.emod_eq_of_lt (by omega) (by omega), show (a : Int) * 16 = ((a * 16 : Nat) : Int) by omega, u8_or_nat _ _ (by omega) (by omega),
    nat_join 4 _ _ (by omega) hb, UInt8.toNat_ofNat']
  omega

set_option maxHeartbeats 2000000 in
set_option maxRecDepth 100000 in
theorem octs_unhex (s : ByteArray) (w : World) (hs : s.size ≤ 1000000) :
    Calls Tryd.prog 21 #[.string s] w (UnhexPost s.data.toList w) := by
  have hl : s.data.toList.length = s.size := by rw [Array.length_toList]; rfl
  have Hl := Lib.hid hl; clear hl
  by_cases hodd : s.size % 2 = 1
  · have Hno := Lib.hid (unhexL_odd s.data.toList (by rw [Hl.out]; exact hodd))
    have h1 : ((s.size : Int) % 2 != 0) = true := by simp; omega
    clear hodd
    go_enter Tryd.func21, Tryd.ntmps21
    go_wp2
    go_step3
    go_wp2
    rw [Exit.noGoto_ret]
    go_ret2
    exact UnhexPost.no Hno.out (Below.refl _ _)
  · have h1 : ((s.size : Int) % 2 != 0) = false := by simp; omega
    have Hev := Lib.hid hodd; clear hodd
    have hmk := mk_bytes 0 ((s.size : Int) / 2) (by omega) (by omega) (by omega)
    have hown0 := OB.made w w.heap.size 0 (s.size / 2) (by omega) (by simp only [maxLen]; omega) (Nat.le_refl _)
    have hbel0 := (Below.refl w.heap.size w).alloc (Nat.le_refl _) (.cells (madeCells #[.int .u8 0] (s.size / 2)) 5)
    go_enter Tryd.func21, Tryd.ntmps21
    go_wp2
    refine wp_scope_jumps 0 (fun a' wr => ∃ (k : Nat) (acc : List UInt8) (v u6 u7 u8 u9 u10 u11 u12 u13 u14 u15 u16 u17 u18 u19 u20 u21 u22 u23 u24 u25 u26 u27 u28 u29 u30 u31 u32 u33 u34 u35 u36 u37 u38 u39 u40 u41 u42 u43 u44 : Value), a' = { tmps := #[.string s, undef, .slice none 0 0, .int .i64 0, v, .int .i64 (k : Int), u6, u7, u8, u9, u10, u11, u12, u13, u14, u15, u16, u17, u18, u19, u20, u21, u22, u23, u24, u25, u26, u27, u28, u29, u30, u31, u32, u33, u34, u35, u36, u37, u38, u39, u40, u41, u42, u43, u44], defers := [] } ∧
      k ≤ s.size ∧ 2 * acc.length = k ∧ OB wr w.heap.size v acc.length acc ∧ UnhexAt s.data.toList k acc ∧ Below w.heap.size w wr) (fun a' _ => s.size - (intOf (a'.tmps.getD 5 undef)).toNat) rfl ?_ ?_
    · have Hown0 := Lib.hid hown0
      have Hbel0 := Lib.hid hbel0
      clear hown0 hbel0
      by_cases hlt : 0 < s.size
      · have hlt1 : 0 + 1 < s.size := by have := Hev.out;  omega
        have hne : ((0 : Int) == (s.size : Int)) = false := by simp; omega
        obtain ⟨a, ha⟩ := str_some hlt
        obtain ⟨b, hb⟩ := str_some hlt1
        have hia : ∀ w, (Instr.index 9 (.string s) (.int .i64 0)).run Tryd.prog w = .ok (.int .u8 (a.toNat : Int)) w := str_at ha
        have hib : ∀ w, (Instr.index 9 (.string s) (.int .i64 1)).run Tryd.prog w = .ok (.int .u8 (b.toNat : Int)) w := str_at1 hb
        have Ha := Lib.hid ha; clear ha
        have Hb := Lib.hid hb; clear hb
        have ga := hv_le a
        have gb := hv_le b
        by_cases hgood : hv a < 16 ∧ hv b < 16
        · obtain ⟨hga, hgb⟩ := hgood
          have Hst := Lib.hid ((UnhexAt.start s.data.toList).step Ha.out Hb.out hga hgb)
          skip
          have hz1 := u8_shl (hv a) (hv b) hga hgb
          have hz2 := u8_shl' (hv a) (hv b) hga hgb
          have e1 : ((hv a : Int) == 16) = false := by simp; omega
          have e2 : ((hv b : Int) == 16) = false := by simp; omega
          obtain ⟨z, hz⟩ : ∃ z, z = UInt8.ofNat (16 * hv a + hv b) := ⟨_, rfl⟩
          rw [← hz] at hz1 hz2 Hst
          clear hz
          go_wp2
          go_step3
          go_wp2
          go_quiet ((go_at_call 34; exact quiet_left (octs_worth _ _)))
          clear hia hib ga gb
          go_wp2_with (at_builtin; refine wpList_appb _ rfl (.tmp 36) (.tmp 41) rfl w.heap.size _ _ _ rfl ((Hown0.out.drewN _).alloc _) _ _ _ _ rfl (RB.new1 _ z _ (by simp)) (by omega) (by simp; omega) ?_; intro v' w1 hown1 hg1 hat1; have Hown1 := Lib.hid hown1; clear hown1)
          go_step3
          refine ⟨rfl, 2, [z], v', _, _, _, _, _, _, _, _, _, _, _, _, _, _, _, _, _, _, _, _, _, _, _, _, _, _, _, _, _, _, _, _, _, _, _, _, _, _, _, rfl, by omega, rfl, Hown1.out, Hst.out, ?_⟩
          exact ((below_drewN Hbel0.out _).alloc (by simp) _).grown hg1 (by simp; omega) fun j hj => (Hown0.out.lt j hj).1
        · have Hbad := Lib.hid ((UnhexAt.start s.data.toList).bad Ha.out Hb.out hgood)
          by_cases hga : hv a < 16
          · have hgb : hv b = 16 := by omega
            have e1 : ((hv a : Int) == 16) = false := by simp; omega
            have e2 : ((hv b : Int) == 16) = true := by simp; omega
            clear hgood hgb
            go_wp2
            go_step3
            go_wp2
            go_quiet ((go_at_call 34; exact quiet_left (octs_worth _ _)))
            go_wp2
            simp only [Exit.jump]
            go_ret2
            exact UnhexPost.no Hbad.out (below_drewN Hbel0.out _)
          · have e1 : ((hv a : Int) == 16) = true := by simp; omega
            clear hgood
            go_wp2
            go_step3
            go_wp2
            go_quiet ((go_at_call 34; exact quiet_left (octs_worth _ _)))
            go_wp2
            simp only [Exit.jump]
            go_ret2
            exact UnhexPost.no Hbad.out (below_drewN Hbel0.out _)
      · have hne : ((0 : Int) == (s.size : Int)) = true := by simp; omega
        have Hlast := Lib.hid ((UnhexAt.start s.data.toList).last (by rw [Hl.out]; omega))
        go_wp2
        go_step3
        go_wp2
        simp only [Exit.jump]
        go_ret2
        exact UnhexPost.yes Hlast.out Hown0.out Hbel0.out
    · rintro a' wr ⟨k, acc, v, u6, u7, u8, u9, u10, u11, u12, u13, u14, u15, u16, u17, u18, u19, u20, u21, u22, u23, u24, u25, u26, u27, u28, u29, u30, u31, u32, u33, u34, u35, u36, u37, u38, u39, u40, u41, u42, u43, u44, rfl, hk, hka, hown, hat, hbel⟩
      have Hown := Lib.hid hown; clear hown
      have Hka := Lib.hid hka; clear hka
      have Hat := Lib.hid hat; clear hat
      clear hmk hown0 hbel0
      by_cases hlt : k < s.size
      · have hlt1 : k + 1 < s.size := by have := Hev.out; have := Hka.out; omega
        have hne : ((k : Int) == (s.size : Int)) = false := by simp; omega
        obtain ⟨a, ha⟩ := str_some hlt
        obtain ⟨b, hb⟩ := str_some hlt1
        have hia  := str_at ha
        have hib  := str_at1 hb
        have Ha := Lib.hid ha; clear ha
        have Hb := Lib.hid hb; clear hb
        have ga := hv_le a
        have gb := hv_le b
        by_cases hgood : hv a < 16 ∧ hv b < 16
        · obtain ⟨hga, hgb⟩ := hgood
          have Hst := Lib.hid (Hat.out.step Ha.out Hb.out hga hgb)
          have hsz := hbel.size
          have h3 : acc.length + 1 ≤ 140737488355328 := by have := Hka.out; omega
          have hz1 := u8_shl (hv a) (hv b) hga hgb
          have hz2 := u8_shl' (hv a) (hv b) hga hgb
          have e1 : ((hv a : Int) == 16) = false := by simp; omega
          have e2 : ((hv b : Int) == 16) = false := by simp; omega
          obtain ⟨z, hz⟩ : ∃ z, z = UInt8.ofNat (16 * hv a + hv b) := ⟨_, rfl⟩
          rw [← hz] at hz1 hz2 Hst
          clear hz
          go_wp2
          go_quiet ((go_at_call 34; exact quiet_left (octs_worth _ _)))
          clear hia hib ga gb
          go_wp2_with (at_builtin; refine wpList_appb _ rfl (.tmp 36) (.tmp 41) rfl w.heap.size _ _ _ rfl ((Hown.out.drewN _).alloc _) _ _ _ _ rfl (RB.new1 _ z _ (by simp)) h3 (by simp; omega) ?_; intro v' w1 hown1 hg1 hat1; have Hown1 := Lib.hid hown1; clear hown1)
          go_step3
          refine ⟨rfl, ⟨k + 2, acc ++ [z], v', _, _, _, _, _, _, _, _, _, _, _, _, _, _, _, _, _, _, _, _, _, _, _, _, _, _, _, _, _, _, _, _, _, _, _, _, _, _, _, rfl, by omega, by rw [List.length_append, List.length_singleton]; have := Hka.out; omega, by rw [List.length_append, List.length_singleton]; exact Hown1.out, Hst.out, ?_⟩, by simp [intOf]; omega⟩
          exact ((below_drewN hbel _).alloc (by simp; omega) _).grown hg1 (by simp; omega) fun j hj => (Hown.out.lt j hj).1
        · have Hbad := Lib.hid (Hat.out.bad Ha.out Hb.out hgood)
          by_cases hga : hv a < 16
          · have hgb : hv b = 16 := by omega
            have e1 : ((hv a : Int) == 16) = false := by simp; omega
            have e2 : ((hv b : Int) == 16) = true := by simp; omega
            clear hgood hgb
            go_wp2
            go_quiet ((go_at_call 34; exact quiet_left (octs_worth _ _)))
            go_wp2
            simp only [Exit.jump]
            go_ret2
            exact UnhexPost.no Hbad.out (below_drewN hbel _)
          · have e1 : ((hv a : Int) == 16) = true := by simp; omega
            clear hgood
            go_wp2
            go_quiet ((go_at_call 34; exact quiet_left (octs_worth _ _)))
            go_wp2
            simp only [Exit.jump]
            go_ret2
            exact UnhexPost.no Hbad.out (below_drewN hbel _)
      · have hne : ((k : Int) == (s.size : Int)) = true := by simp; omega
        have Hlast := Lib.hid (Hat.out.last (by rw [Hl.out]; omega))
        go_wp2
        simp only [Exit.jump]
        go_ret2
        exact UnhexPost.yes Hlast.out Hown.out hbel

def unhexErr (l : List UInt8) : Int := if (unhexL l).isSome then 0 else 3
theorem UnhexPost.ret {l : List UInt8} {w w' : World} {e : Ending} (h : UnhexPost l w e w') : RetBE w ((unhexL l).getD []) (unhexErr l) e w' := by
  obtain ⟨hb, ⟨h1, rfl⟩ | ⟨bs, v, h1, rfl, ho⟩⟩ := h
  · rw [unhexErr, h1]
    exact ⟨none, 0, 0, rfl, Nat.le_refl _, by simp [maxLen], RB.nil _ _, hb⟩
  · rw [unhexErr, h1]
    exact RetBE.of ho hb
theorem octs_unhex_all (s : ByteArray) (w : World) (hs : s.size ≤ 1000000) : Calls Tryd.prog 21 #[.string s] w (RetBE w ((unhexL s.data.toList).getD []) (unhexErr s.data.toList)) :=
  (octs_unhex s w hs).mono fun _ _ h => h.ret
theorem ref_unhex_all (s : ByteArray) (w : World) (hs : s.size ≤ 1000000) : Calls Tryd.prog 23 #[.string s] w (RetBE w ((unhexL s.data.toList).getD []) (unhexErr s.data.toList)) :=
  (ref_unhex s w hs).mono fun _ _ h => h.ret
end Go.Proofs.YtfaocnboildjbaaDoor
/-
  octs.Unhex, and the document's, as plain functions on typed data.
-/
namespace Go.Proofs.YtfaocnboildjbaaDoor
set_option maxRecDepth 100000
open Go.RowKit
set_option linter.unusedVariables false
set_option linter.unusedSimpArgs false

def unhexR (s : List UInt8) : List Int := ofB ((unhexL s).getD [])
def unhexE (s : List UInt8) : Int := if (unhexL s).isSome then 0 else 3
def uhK {R : Type} (args : List V) (k : V → Tree R) : Tree R := match args with
  | [.str s] => .ite (decide (s.length ≤ 1000000)) (k (.tup [.lst (.int .u8) (unhexR s), .c (.int .i64 (unhexE s))])) .fail
  | _ => .fail
theorem rel_own {w : World} {B : List Nat} {base n : Nat} {v : Value} {bs : List UInt8} (hB : ∀ b ∈ B, b < base) (h : OB w base v n bs) : Rel w B [] (.sl (flat (.int .u8) (ofB bs)) 1) v := by
  have hlen : (flat (.int .u8) (ofB bs)).length = bs.length := by rw [flat_length, ofB_length, show wd (.int .u8) = 1 by kernel_rfl, Nat.mul_one]
  have hl := h.len
  rcases h.2 with ⟨rfl, h0⟩ | ⟨g, cap, cur, rfl, hb, hg, h1, h2, h3, h4⟩
  · have : bs = [] := List.eq_nil_of_length_eq_zero (by omega)
    subst this
    exact rel_nil_sl (Nat.le_refl 1) (.c _ _)
  · refine .sl _ _ _ _ _ _ (fun j => .int .u8 ((bs.getD j 0).toNat : Int)) (Nat.le_refl 1) (by rw [hlen]; omega) h1 h2 (fun _ => ⟨_, rfl, rfl, (Array.getElem?_eq_some_iff.1 hg).1, fun hc => by have := hB _ hc; simp only at this; omega, fun j hj => ?_⟩) (fun j x hx => ?_)
    · rw [hlen] at hj
      have e : (⟨g, 0, none⟩ : Addr).add j = ⟨g, j, none⟩ := by simp [Addr.add]; omega
      rw [e, cell_of_row w g j cur 5 (0, 0) hg]
      have : (cur.toList.take (n * 1))[j]? = some (.int .u8 ((bs.getD j 0).toNat : Int)) := by
        rw [h4, List.getElem?_map, List.getElem?_eq_getElem hj, List.getD_eq_getElem?_getD, List.getElem?_eq_getElem hj]
        rfl
      rw [List.getElem?_take, if_pos (by omega)] at this
      simpa using this
    · rw [flat_u8, ofB, List.map_map, List.getElem?_map, Option.map_eq_some_iff] at hx
      obtain ⟨b, hb1, rfl⟩ := hx
      rw [List.getD_eq_getElem?_getD, hb1]
      exact .c _ _
theorem rel_tup2v {w : World} {B : List Nat} {x y : Value} {a b : AV} (h1 : Rel w B [] a x) (h2 : Rel w B [] b y) : Rel w B [] (.tup [a, b]) (.tuple #[x, y]) :=
  .tup _ _ _ (fun i => [x, y].getD i undef) rfl (fun i z hz => by
    match i, hz with
    | 0, _ => rfl
    | 1, _ => rfl) (fun i z hz => by
    match i, hz with
    | 0, hz => simp at hz; subst hz; exact h1
    | 1, hz => simp at hz; subst hz; exact h2)
theorem uh_post {w : World} {B : List Nat} {s : List UInt8} {e : Ending} {w' : World} (hB : ∀ b ∈ B, b < w.heap.size) (h : UnhexPost s w e w') : ∃ v, e = .returned v ∧ Gr w w' ∧ Rel w' B [] (ex (.tup [.lst (.int .u8) (unhexR s), .c (.int .i64 (unhexE s))])) v := by
  obtain ⟨hb, ⟨h1, rfl⟩ | ⟨bs, v, h1, rfl, ho⟩⟩ := h
  · refine ⟨_, rfl, hb, rel_tup2v ?_ ?_⟩
    · unfold unhexR; rw [h1]; exact rel_nil_sl (Nat.le_refl 1) (.c _ _)
    · unfold unhexE; rw [h1]; exact .c _ _
  · refine ⟨_, rfl, hb, rel_tup2v ?_ ?_⟩
    · unfold unhexR; rw [h1]; exact rel_own hB ho
    · unfold unhexE; rw [h1]; exact .c _ _
theorem uh_any {R : Type} {f : FuncId} (hf : ∃ fn, Tryd.prog.funcs[f]? = some fn ∧ fn.name ≠ "runtime.NumGoroutine" ∧ fn.body ≠ none) (hc : ∀ (s : ByteArray) (w : World), s.size ≤ 1000000 → Calls Tryd.prog f #[.string s] w (UnhexPost s.data.toList w)) :
    ∀ args (k : V → Tree R) res, (uhK args k).run = some res → ∃ r, (k r).run = some res ∧ r.plain = true ∧ (∀ l k, ex r ≠ .fresh l k) ∧ CallsV Tryd.prog f args r := by
  intro args k res h
  unfold uhK at h
  split at h
  · rename_i s
    rcases Tree.run_ite h with ⟨hs, h⟩ | ⟨_, h⟩
    · refine ⟨_, h, rfl, (fun l k h => by cases h), CallsK.toV (fun w B cargs hB hgl hlen hrel => ?_) hf⟩
      obtain ⟨a, rfl, h2⟩ := rel_one hlen hrel
      have h2 := Rel.ofC h2
      subst h2
      have hl : (ByteArray.mk s.toArray).data.toList = s := by simp
      have hsz : (ByteArray.mk s.toArray).size = s.length := by show s.toArray.size = _; simp
      have := hc ⟨s.toArray⟩ w (by rw [hsz]; exact of_decide_eq_true hs)
      rw [hl] at this
      exact this.mono fun e w' hp => uh_post hB hp
    · cases h
  · cases h
theorem uh_ok {R : Type} : ∀ args (k : V → Tree R) res, (uhK args k).run = some res → ∃ r, (k r).run = some res ∧ r.plain = true ∧ (∀ l k, ex r ≠ .fresh l k) ∧ CallsV Tryd.prog 21 args r :=
  uh_any (hasBody Tryd.func21 (by decide +kernel) (by kernel_rfl)) octs_unhex
theorem ruh_ok {R : Type} : ∀ args (k : V → Tree R) res, (uhK args k).run = some res → ∃ r, (k r).run = some res ∧ r.plain = true ∧ (∀ l k, ex r ≠ .fresh l k) ∧ CallsV Tryd.prog 23 args r :=
  uh_any (hasBody Tryd.func23 (by decide +kernel) (by kernel_rfl)) ref_unhex
end Go.Proofs.YtfaocnboildjbaaDoor
/-
  What the functions of layer 15 may name of the hand contracts.
-/
/-
  Functions of the program as plain functions on typed data, and that they are so. Printed by a program of mine.
-/
namespace Go.Proofs.YtfaocnboildjbaaDoor
open Go.RowKit
set_option linter.unusedVariables false
set_option maxRecDepth 100000
section
variable (N : Nat)
theorem hmx : Tryd.prog.follows .mixedOrders = true := by kernel_rfl
noncomputable def Ev0 (N : Nat) : (R : Type) → Env R := Env.addInl env0 [39, 46, 52, 61]
theorem Ev0_ok (R : Type) : EnvOK Tryd.prog (Ev0 N R) := EnvOK.addInl (env0_ok R) (by kernel_rfl)
noncomputable def Ev1 : (R : Type) → Env R := Env.addFn (Ev0 N) 35 (fun R => lowK)
theorem Ev1_ok (R : Type) : EnvOK Tryd.prog (Ev1 N R) := EnvOK.addExt (Ev0_ok N R) low_ok
noncomputable def words_Alike (N : Nat) (a0 : List UInt8) (b1 : List UInt8) : Option Bool :=
 bif (decide ((List.length a0) ≤ (1000000 : Nat))) then
  bif (decide ((List.length b1) ≤ (1000000 : Nat))) then
   some ((decide ((@lowS a0) = (@lowS b1))))
  else
   none
 else
  none
theorem words_Alike_S (a0 : List UInt8) (b1 : List UInt8) : (runK Tryd.prog (Ev1 N) 400 22 [.str, .str] [.bool] (a0, b1, ())).run = words_Alike N a0 b1 := by kernel_rfl
theorem words_Alike_C (a0 : List UInt8) (b1 : List UInt8) (y : Bool) (h : words_Alike N a0 b1 = some y) : CallsK Tryd.prog 22 (valA [.str, .str] (a0, b1, ())) (tupV (valR [.bool] y)) := runK_ok hmx (Ev1_ok N _) (okFn_ok (by kernel_rfl)) (by rw [words_Alike_S]; exact h)
noncomputable def Ev2 : (R : Type) → Env R := Env.addFn (Ev1 N) 22 (fun R => fnK [.str, .str] [.bool] (fun c => words_Alike N c.1 c.2.1))
theorem Ev2_ok (R : Type) : EnvOK Tryd.prog (Ev2 N R) := EnvOK.addFn hmx (Ev1_ok N R) (Ev1_ok N _) (by kernel_rfl) (fun c => words_Alike_S N c.1 c.2.1)
noncomputable def words_isDigit (N : Nat) (sign0 : Int) : Option Bool :=
 Option.bind (bif (decide ((48 : Int) ≤ sign0)) then
   some ((cond true (decide (sign0 ≤ (57 : Int))) false))
  else
   some (false)) fun (v2 : Bool) =>
 some (v2)
theorem words_isDigit_S (sign0 : Int) : (runK Tryd.prog (Ev2 N) 400 53 [(.int .i32)] [.bool] (sign0, ())).run = words_isDigit N sign0 := by kernel_rfl
noncomputable def Ev3 : (R : Type) → Env R := Env.addFn (Ev2 N) 53 (fun R => fnK [(.int .i32)] [.bool] (fun c => words_isDigit N c.1))
theorem Ev3_ok (R : Type) : EnvOK Tryd.prog (Ev3 N R) := EnvOK.addFn hmx (Ev2_ok N R) (Ev2_ok N _) (by kernel_rfl) (fun c => words_isDigit_S N c.1)
noncomputable def words_inToken (sign0 : Int) : Option Bool :=
 bif (decide (sign0 = (45 : Int))) then
  bif (decide (sign0 = (45 : Int))) then
   some (true)
  else
   Option.bind (words_isDigit N sign0) fun v2 =>
   Option.bind (bif v2 then
     some (true)
    else
     bif (decide ((65 : Int) ≤ sign0)) then
      some ((cond false true (cond true (decide (sign0 ≤ (90 : Int))) false)))
     else
      some ((cond false true false))) fun (v3 : Bool) =>
   Option.bind (bif v3 then
     some (true)
    else
     bif (decide ((97 : Int) ≤ sign0)) then
      some ((cond false true (cond true (decide (sign0 ≤ (122 : Int))) false)))
     else
      some ((cond false true false))) fun (v4 : Bool) =>
   some (v4)
 else
  bif (decide (sign0 = (95 : Int))) then
   bif (decide (sign0 = (95 : Int))) then
    some (true)
   else
    Option.bind (words_isDigit N sign0) fun v2 =>
    Option.bind (bif v2 then
      some (true)
     else
      bif (decide ((65 : Int) ≤ sign0)) then
       some ((cond false true (cond true (decide (sign0 ≤ (90 : Int))) false)))
      else
       some ((cond false true false))) fun (v3 : Bool) =>
    Option.bind (bif v3 then
      some (true)
     else
      bif (decide ((97 : Int) ≤ sign0)) then
       some ((cond false true (cond true (decide (sign0 ≤ (122 : Int))) false)))
      else
       some ((cond false true false))) fun (v4 : Bool) =>
    some (v4)
  else
   bif (decide (sign0 = (46 : Int))) then
    bif (decide (sign0 = (46 : Int))) then
     some (true)
    else
     Option.bind (words_isDigit N sign0) fun v2 =>
     Option.bind (bif v2 then
       some (true)
      else
       bif (decide ((65 : Int) ≤ sign0)) then
        some ((cond false true (cond true (decide (sign0 ≤ (90 : Int))) false)))
       else
        some ((cond false true false))) fun (v3 : Bool) =>
     Option.bind (bif v3 then
       some (true)
      else
       bif (decide ((97 : Int) ≤ sign0)) then
        some ((cond false true (cond true (decide (sign0 ≤ (122 : Int))) false)))
       else
        some ((cond false true false))) fun (v4 : Bool) =>
     some (v4)
   else
    bif (decide (sign0 = (123 : Int))) then
     bif (decide (sign0 = (123 : Int))) then
      some (true)
     else
      Option.bind (words_isDigit N sign0) fun v2 =>
      Option.bind (bif v2 then
        some (true)
       else
        bif (decide ((65 : Int) ≤ sign0)) then
         some ((cond false true (cond true (decide (sign0 ≤ (90 : Int))) false)))
        else
         some ((cond false true false))) fun (v3 : Bool) =>
      Option.bind (bif v3 then
        some (true)
       else
        bif (decide ((97 : Int) ≤ sign0)) then
         some ((cond false true (cond true (decide (sign0 ≤ (122 : Int))) false)))
        else
         some ((cond false true false))) fun (v4 : Bool) =>
      some (v4)
    else
     bif (decide (sign0 = (125 : Int))) then
      bif (decide (sign0 = (125 : Int))) then
       some (true)
      else
       Option.bind (words_isDigit N sign0) fun v2 =>
       Option.bind (bif v2 then
         some (true)
        else
         bif (decide ((65 : Int) ≤ sign0)) then
          some ((cond false true (cond true (decide (sign0 ≤ (90 : Int))) false)))
         else
          some ((cond false true false))) fun (v3 : Bool) =>
       Option.bind (bif v3 then
         some (true)
        else
         bif (decide ((97 : Int) ≤ sign0)) then
          some ((cond false true (cond true (decide (sign0 ≤ (122 : Int))) false)))
         else
          some ((cond false true false))) fun (v4 : Bool) =>
       some (v4)
     else
      bif (decide (sign0 = (47 : Int))) then
       some (true)
      else
       Option.bind (words_isDigit N sign0) fun v2 =>
       Option.bind (bif v2 then
         some (true)
        else
         bif (decide ((65 : Int) ≤ sign0)) then
          some ((cond false true (cond true (decide (sign0 ≤ (90 : Int))) false)))
         else
          some ((cond false true false))) fun (v3 : Bool) =>
       Option.bind (bif v3 then
         some (true)
        else
         bif (decide ((97 : Int) ≤ sign0)) then
          some ((cond false true (cond true (decide (sign0 ≤ (122 : Int))) false)))
         else
          some ((cond false true false))) fun (v4 : Bool) =>
       some (v4)
theorem words_inToken_S (sign0 : Int) : (runK Tryd.prog (Ev3 N) 400 47 [(.int .i32)] [.bool] (sign0, ())).run = words_inToken N sign0 := by kernel_rfl
theorem words_inToken_C (sign0 : Int) (y : Bool) (h : words_inToken N sign0 = some y) : CallsK Tryd.prog 47 (valA [(.int .i32)] (sign0, ())) (tupV (valR [.bool] y)) := runK_ok hmx (Ev3_ok N _) (okFn_ok (by kernel_rfl)) (by rw [words_inToken_S]; exact h)
noncomputable def Ev4 : (R : Type) → Env R := Env.addFn (Ev3 N) 47 (fun R => fnK [(.int .i32)] [.bool] (fun c => words_inToken N c.1))
theorem Ev4_ok (R : Type) : EnvOK Tryd.prog (Ev4 N R) := EnvOK.addFn hmx (Ev3_ok N R) (Ev3_ok N _) (by kernel_rfl) (fun c => words_inToken_S N c.1)
noncomputable def words_Token_L2_I : LI := ⟨21, 0, [], ⟨[(0, .ty .str), (6, .lit (.box 0 0))], [.itr]⟩, [(.ret, ⟨[(2, .ty .bool)], []⟩), (.exit 0, ⟨[(0, .ty .str)], []⟩)]⟩
noncomputable def words_Token_L2 (X : ((List UInt8 × Unit) × (List UInt8 × (Int × Unit))) → Option ((((Bool × Unit) × Unit) ⊕ ((List UInt8 × Unit) × Unit)))) (s0 : List UInt8) (h0 : List UInt8) (h1 : Int) : Option ((((Bool × Unit) × Unit) ⊕ ((List UInt8 × Unit) × Unit))) :=
 bif (decide ((Int.toNat h1) < (List.length h0))) then
  Option.bind (words_inToken N (@rdec h0 h1).1) fun v5 =>
  bif (!v5) then
   some ((.inl ((false, ()), ())))
  else
   (X ((s0, ()), (h0, (((((Int.toNat h1) : Nat) : Int) + (@rdec h0 h1).2), ()))))
 else
  some ((.inr ((s0, ()), ())))
noncomputable def words_Token_L2_R (c : ((List UInt8 × Unit) × (List UInt8 × (Int × Unit)))) : Option ((((Bool × Unit) × Unit) ⊕ ((List UInt8 × Unit) × Unit))) := gl (fun X c => words_Token_L2 N X c.1.1 c.2.1 c.2.2.1) N c
theorem words_Token_L2_S (X : ((List UInt8 × Unit) × (List UInt8 × (Int × Unit))) → Option ((((Bool × Unit) × Unit) ⊕ ((List UInt8 × Unit) × Unit)))) (s0 : List UInt8) (h0 : List UInt8) (h1 : Int) : (roundK Tryd.prog (Ev4 N) 400 [40] words_Token_L2_I (loopAt Tryd.prog [40] 2) X ((s0, ()), (h0, h1, ()))).run = words_Token_L2 N X s0 h0 h1 := by kernel_rfl
noncomputable def Ev5 : (R : Type) → Env R := Env.addLp (Ev4 N) [40] 0 2 (fun R => lpK Tryd.prog words_Token_L2_I (fun X c => words_Token_L2 N X c.1.1 c.2.1 c.2.2.1) N)
theorem Ev5_ok (R : Type) : EnvOK Tryd.prog (Ev5 N R) := EnvOK.addLp (Ev4_ok N R) (by kernel_rfl) (lpK_ok (li := words_Token_L2_I) (G := fun X c => words_Token_L2 N X c.1.1 c.2.1 c.2.2.1) hmx (Ev4_ok N _) (by kernel_rfl) loopAt_sub (fun (X : CT words_Token_L2_I.sh → Option (OT words_Token_L2_I.outs)) (c : CT words_Token_L2_I.sh) => words_Token_L2_S N X c.1.1 c.2.1 c.2.2.1) N)
noncomputable def words_Token (s0 : List UInt8) : Option Bool :=
 Option.bind (words_Token_L2_R N ((s0, ()), (s0, ((0 : Int), ())))) fun v2 =>
 Sum.elim
  (fun (v3 : ((Bool × Unit) × Unit)) =>
  some (v3.1.1))
  (fun (v3 : ((List UInt8 × Unit) × Unit)) =>
  bif (decide ((1 : Int) ≤ (((List.length v3.1.1) : Nat) : Int))) then
   Option.bind (some ((cond true (decide ((((List.length v3.1.1) : Nat) : Int) ≤ (64 : Int))) false))) fun (v4 : Bool) =>
   some (v4)
  else
   Option.bind (some (false)) fun (v4 : Bool) =>
   some (v4)) v2
theorem words_Token_S (s0 : List UInt8) : (runK Tryd.prog (Ev5 N) 400 40 [.str] [.bool] (s0, ())).run = words_Token N s0 := by kernel_rfl
theorem words_Token_C (s0 : List UInt8) (y : Bool) (h : words_Token N s0 = some y) : CallsK Tryd.prog 40 (valA [.str] (s0, ())) (tupV (valR [.bool] y)) := runK_ok hmx (Ev5_ok N _) (okFn_ok (by kernel_rfl)) (by rw [words_Token_S]; exact h)
noncomputable def Ev6 : (R : Type) → Env R := Env.addFn (Ev5 N) 40 (fun R => fnK [.str] [.bool] (fun c => words_Token N c.1))
theorem Ev6_ok (R : Type) : EnvOK Tryd.prog (Ev6 N R) := EnvOK.addFn hmx (Ev5_ok N R) (Ev5_ok N _) (by kernel_rfl) (fun c => words_Token_S N c.1)
noncomputable def Ev7 : (R : Type) → Env R := Env.addFn (Ev6 N) 48 (fun R => trK)
theorem Ev7_ok (R : Type) : EnvOK Tryd.prog (Ev7 N R) := EnvOK.addExt (Ev6_ok N R) tr_ok
noncomputable def words_Trim (N : Nat) (s0 : List UInt8) : Option (List UInt8) :=
 bif (decide ((List.length s0) ≤ (281474976710656 : Nat))) then
  some ((@Go.Lib.trimS s0 (Array.toList (List.toArray ([32, 9] : List UInt8)))))
 else
  none
theorem words_Trim_S (s0 : List UInt8) : (runK Tryd.prog (Ev7 N) 400 41 [.str] [.str] (s0, ())).run = words_Trim N s0 := by kernel_rfl
theorem words_Trim_C (s0 : List UInt8) (y : List UInt8) (h : words_Trim N s0 = some y) : CallsK Tryd.prog 41 (valA [.str] (s0, ())) (tupV (valR [.str] y)) := runK_ok hmx (Ev7_ok N _) (okFn_ok (by kernel_rfl)) (by rw [words_Trim_S]; exact h)
noncomputable def Ev8 : (R : Type) → Env R := Env.addFn (Ev7 N) 41 (fun R => fnK [.str] [.str] (fun c => words_Trim N c.1))
theorem Ev8_ok (R : Type) : EnvOK Tryd.prog (Ev8 N R) := EnvOK.addFn hmx (Ev7_ok N R) (Ev7_ok N _) (by kernel_rfl) (fun c => words_Trim_S N c.1)
noncomputable def words_may (N : Nat) (seen0 : List (Int)) (i1 : Int) : Option Bool :=
 Option.bind (getI seen0 i1) fun (v3 : Int) =>
 bif (decide (v3 = (13 : Int))) then
  Option.bind (bif (decide ((IntKind.wrap .i64 (i1 + 1)) = (((List.length seen0) : Nat) : Int))) then
    some (true)
   else
    Option.bind (getI seen0 (IntKind.wrap .i64 (i1 + 1))) fun (v4 : Int) =>
    some ((cond false true (decide (v4 = (10 : Int)))))) fun (v4 : Bool) =>
  some (v4)
 else
  bif (decide (v3 = (10 : Int))) then
   Option.bind (bif (decide ((0 : Int) < i1)) then
     Option.bind (getI seen0 (IntKind.wrap .i64 (i1 - 1))) fun (v4 : Int) =>
     some ((cond true (decide (v4 = (13 : Int))) false))
    else
     some (false)) fun (v4 : Bool) =>
   some (v4)
  else
   Option.bind (bif (decide (v3 = (9 : Int))) then
     some (true)
    else
     bif (decide ((32 : Int) ≤ v3)) then
      some ((cond false true (cond true (decide (v3 ≤ (126 : Int))) false)))
     else
      some ((cond false true false))) fun (v4 : Bool) =>
   some (v4)
theorem words_may_S (seen0 : List (Int)) (i1 : Int) : (runK Tryd.prog (Ev8 N) 400 37 [(.sl (.int .u8)), (.int .i64)] [.bool] (seen0, i1, ())).run = words_may N seen0 i1 := by kernel_rfl
theorem words_may_C (seen0 : List (Int)) (i1 : Int) (y : Bool) (h : words_may N seen0 i1 = some y) : CallsK Tryd.prog 37 (valA [(.sl (.int .u8)), (.int .i64)] (seen0, i1, ())) (tupV (valR [.bool] y)) := runK_ok hmx (Ev8_ok N _) (okFn_ok (by kernel_rfl)) (by rw [words_may_S]; exact h)
noncomputable def Ev9 : (R : Type) → Env R := Env.addFn (Ev8 N) 37 (fun R => fnK [(.sl (.int .u8)), (.int .i64)] [.bool] (fun c => words_may N c.1 c.2.1))
theorem Ev9_ok (R : Type) : EnvOK Tryd.prog (Ev9 N R) := EnvOK.addFn hmx (Ev8_ok N R) (Ev8_ok N _) (by kernel_rfl) (fun c => words_may_S N c.1 c.2.1)
noncomputable def Ev10 : (R : Type) → Env R := Env.addMv (Ev9 N) [(26, 14)]
theorem Ev10_ok (R : Type) : EnvOK Tryd.prog (Ev10 N R) := EnvOK.addMv (Ev9_ok N R) [(26, 14)]
noncomputable def words_Head_L5_I : LI := ⟨49, 0, [(6, 9)], ⟨[(0, .ty (.sl (.int .u8))), (5, .ty (.sl (.int .u8))), (6, .lit (.own 0)), (7, .ty (.int .i64)), (16, .ty (.sl (.int .u8))), (17, .ty (.int .i64)), (18, .ty (.int .i64))], [.own .str 9]⟩, [(.ret, ⟨[(2, .ty (.sl .str)), (3, .ty (.int .i64)), (4, .ty (.int .i64))], []⟩), (.exit 0, ⟨[(0, .ty (.sl (.int .u8)))], []⟩)]⟩
noncomputable def words_Head_L5 (X : (((List Int) × ((List Int) × (Int × ((List Int) × (Int × (Int × Unit)))))) × ((List (List UInt8)) × Unit)) → Option (((((List (List UInt8)) × (Int × (Int × Unit))) × Unit) ⊕ (((List Int) × Unit) × Unit)))) (b0 : List (Int)) (seen5 : List (Int)) (start7 : Int) (x16 : List (Int)) (x17 : Int) (x18 : Int) (h0 : List (List UInt8)) : Option (((((List (List UInt8)) × (Int × (Int × Unit))) × Unit) ⊕ (((List Int) × Unit) × Unit))) :=
 bif (decide (x18 < x17)) then
  Option.bind (getI x16 x18) fun (v9 : Int) =>
  Option.bind (words_may N seen5 x18) fun v10 =>
  bif (!v10) then
   some ((.inl ((([] : List ((List UInt8))), ((0 : Int), ((3 : Int), ()))), ())))
  else
   bif (!(decide (v9 = (10 : Int)))) then
    (X ((b0, (seen5, (start7, (x16, (x17, ((IntKind.wrap .i64 (x18 + 1)), ())))))), (h0, ())))
   else
    Option.bind (subI seen5 start7 (IntKind.wrap .i64 (x18 - 1))) fun (v11 : (List Int)) =>
    Option.bind (@toBy v11) fun (v12 : (List UInt8)) =>
    bif (decide (v12 = (Array.toList (List.toArray ([] : List UInt8))))) then
     some ((.inl ((h0, ((IntKind.wrap .i64 (x18 + 1)), ((0 : Int), ()))), ())))
    else
     bif (roomB ((List.length h0) + (List.length ([v12] : List ((List UInt8))))) 16) then
      (X ((b0, (seen5, ((IntKind.wrap .i64 (x18 + 1)), (x16, (x17, ((IntKind.wrap .i64 (x18 + 1)), ())))))), ((h0 ++ ([v12] : List ((List UInt8)))), ())))
     else
      none
 else
  some ((.inr ((b0, ()), ())))
noncomputable def words_Head_L5_R (c : (((List Int) × ((List Int) × (Int × ((List Int) × (Int × (Int × Unit)))))) × ((List (List UInt8)) × Unit))) : Option (((((List (List UInt8)) × (Int × (Int × Unit))) × Unit) ⊕ (((List Int) × Unit) × Unit))) := gl (fun X c => words_Head_L5 N X c.1.1 c.1.2.1 c.1.2.2.1 c.1.2.2.2.1 c.1.2.2.2.2.1 c.1.2.2.2.2.2.1 c.2.1) N c
theorem words_Head_L5_S (X : (((List Int) × ((List Int) × (Int × ((List Int) × (Int × (Int × Unit)))))) × ((List (List UInt8)) × Unit)) → Option (((((List (List UInt8)) × (Int × (Int × Unit))) × Unit) ⊕ (((List Int) × Unit) × Unit)))) (b0 : List (Int)) (seen5 : List (Int)) (start7 : Int) (x16 : List (Int)) (x17 : Int) (x18 : Int) (h0 : List (List UInt8)) : (roundK Tryd.prog (Ev10 N) 400 [26] words_Head_L5_I (loopAt Tryd.prog [26] 5) X ((b0, seen5, start7, x16, x17, x18, ()), (h0, ()))).run = words_Head_L5 N X b0 seen5 start7 x16 x17 x18 h0 := by kernel_rfl
noncomputable def Ev11 : (R : Type) → Env R := Env.addLp (Ev10 N) [26] 0 5 (fun R => lpK Tryd.prog words_Head_L5_I (fun X c => words_Head_L5 N X c.1.1 c.1.2.1 c.1.2.2.1 c.1.2.2.2.1 c.1.2.2.2.2.1 c.1.2.2.2.2.2.1 c.2.1) N)
theorem Ev11_ok (R : Type) : EnvOK Tryd.prog (Ev11 N R) := EnvOK.addLp (Ev10_ok N R) (by kernel_rfl) (lpK_ok (li := words_Head_L5_I) (G := fun X c => words_Head_L5 N X c.1.1 c.1.2.1 c.1.2.2.1 c.1.2.2.2.1 c.1.2.2.2.2.1 c.1.2.2.2.2.2.1 c.2.1) hmx (Ev10_ok N _) (by kernel_rfl) loopAt_sub (fun (X : CT words_Head_L5_I.sh → Option (OT words_Head_L5_I.outs)) (c : CT words_Head_L5_I.sh) => words_Head_L5_S N X c.1.1 c.1.2.1 c.1.2.2.1 c.1.2.2.2.1 c.1.2.2.2.2.1 c.1.2.2.2.2.2.1 c.2.1) N)
noncomputable def words_Head (b0 : List (Int)) : Option ((List (List UInt8)) × Int × Int) :=
 Option.bind (takeI b0 (@minI (((List.length b0) : Nat) : Int) (2048 : Int))) fun (v2 : (List Int)) =>
 Option.bind (words_Head_L5_R N ((b0, (v2, ((0 : Int), (v2, ((((List.length v2) : Nat) : Int), ((0 : Int), ())))))), (([] : List ((List UInt8))), ()))) fun v3 =>
 Sum.elim
  (fun (v4 : (((List (List UInt8)) × (Int × (Int × Unit))) × Unit)) =>
  some ((v4.1.1, (v4.1.2.1, v4.1.2.2.1))))
  (fun (v4 : (((List Int) × Unit) × Unit)) =>
  bif (decide ((((List.length v4.1.1) : Nat) : Int) < (2048 : Int))) then
   some ((([] : List ((List UInt8))), ((0 : Int), (4 : Int))))
  else
   some ((([] : List ((List UInt8))), ((0 : Int), (8 : Int))))) v3
theorem words_Head_S (b0 : List (Int)) : (runK Tryd.prog (Ev11 N) 400 26 [(.sl (.int .u8))] [(.sl .str), (.int .i64), (.int .i64)] (b0, ())).run = words_Head N b0 := by kernel_rfl
theorem words_Head_C (b0 : List (Int)) (y : (List (List UInt8)) × Int × Int) (h : words_Head N b0 = some y) : CallsK Tryd.prog 26 (valA [(.sl (.int .u8))] (b0, ())) (tupV (valR [(.sl .str), (.int .i64), (.int .i64)] y)) := runK_ok hmx (Ev11_ok N _) (okFn_ok (by kernel_rfl)) (by rw [words_Head_S]; exact h)
noncomputable def Ev12 : (R : Type) → Env R := Env.addFn (Ev11 N) 26 (fun R => fnK [(.sl (.int .u8))] [(.sl .str), (.int .i64), (.int .i64)] (fun c => words_Head N c.1))
theorem Ev12_ok (R : Type) : EnvOK Tryd.prog (Ev12 N R) := EnvOK.addFn hmx (Ev11_ok N R) (Ev11_ok N _) (by kernel_rfl) (fun c => words_Head_S N c.1)
noncomputable def Ev13 : (R : Type) → Env R := Env.addMv (Ev12 N) [(28, 10)]
theorem Ev13_ok (R : Type) : EnvOK Tryd.prog (Ev13 N R) := EnvOK.addMv (Ev12_ok N R) [(28, 10)]
noncomputable def Ev14 : (R : Type) → Env R := Env.addFn (Ev13 N) 69 (fun R => ixK)
theorem Ev14_ok (R : Type) : EnvOK Tryd.prog (Ev14 N R) := EnvOK.addExt (Ev13_ok N R) (ix_ok (fn := Go.Proofs.Tryd.f69) (by kernel_rfl) (by kernel_rfl) (by decide +kernel) (by kernel_rfl) (by kernel_rfl))
noncomputable def words_Fields_L5_I : LI := ⟨41, 0, [(4, 79)], ⟨[(4, .lit (.own 0)), (13, .ty (.sl .str)), (14, .ty (.int .i64)), (15, .ty (.int .i64))], [.own (.pair .str .str) 79]⟩, [(.ret, ⟨[(2, .ty (.sl (.pair .str .str))), (3, .ty (.int .i64))], []⟩), (.exit 0, ⟨[(4, .lit (.own 0))], [.own (.pair .str .str) 79]⟩)]⟩
noncomputable def words_Fields_L5 (X : (((List (List UInt8)) × (Int × (Int × Unit))) × ((List (List UInt8 × (List UInt8))) × Unit)) → Option (((((List (List UInt8 × (List UInt8))) × (Int × Unit)) × Unit) ⊕ (Unit × ((List (List UInt8 × (List UInt8))) × Unit))))) (x13 : List (List UInt8)) (x14 : Int) (x15 : Int) (h0 : List (List UInt8 × (List UInt8))) : Option (((((List (List UInt8 × (List UInt8))) × (Int × Unit)) × Unit) ⊕ (Unit × ((List (List UInt8 × (List UInt8))) × Unit)))) :=
 bif (decide (x15 < x14)) then
  Option.bind (getI x13 x15) fun (v6 : (List UInt8)) =>
  Option.bind (some ((cond false true (decide ((Array.toList (List.toArray ([58] : List UInt8))) = v6))))) fun (v7 : Bool) =>
  bif v7 then
   Option.bind (dropI v6 (IntKind.wrap .i64 ((0 : Int) + (((List.length (Array.toList (List.toArray ([58] : List UInt8)))) : Nat) : Int)))) fun (v8 : (List UInt8)) =>
   Option.bind (words_Token N (@List.take UInt8 (Int.toNat (0 : Int)) v6)) fun v9 =>
   Option.bind (some ((cond false true (!v9)))) fun (v10 : Bool) =>
   bif v10 then
    some ((.inl ((([] : List ((List UInt8 × (List UInt8)))), ((3 : Int), ())), ())))
   else
    Option.bind (words_Trim N v8) fun v11 =>
    bif (roomB ((List.length h0) + (List.length ([((@List.take UInt8 (Int.toNat (0 : Int)) v6), v11)] : List ((List UInt8 × (List UInt8)))))) 32) then
     (X ((x13, (x14, ((IntKind.wrap .i64 (x15 + 1)), ()))), ((h0 ++ ([((@List.take UInt8 (Int.toNat (0 : Int)) v6), v11)] : List ((List UInt8 × (List UInt8))))), ())))
    else
     none
  else
   bif (decide ((0 : Int) ≤ (@idxB v6 (((@UInt8.toNat (58 : UInt8)) : Nat) : Int)))) then
    Option.bind (takeI v6 (@idxB v6 (((@UInt8.toNat (58 : UInt8)) : Nat) : Int))) fun (v8 : (List UInt8)) =>
    Option.bind (dropI v6 (IntKind.wrap .i64 ((@idxB v6 (((@UInt8.toNat (58 : UInt8)) : Nat) : Int)) + (((List.length (Array.toList (List.toArray ([58] : List UInt8)))) : Nat) : Int)))) fun (v9 : (List UInt8)) =>
    Option.bind (words_Token N v8) fun v10 =>
    Option.bind (some ((cond false true (!v10)))) fun (v11 : Bool) =>
    bif v11 then
     some ((.inl ((([] : List ((List UInt8 × (List UInt8)))), ((3 : Int), ())), ())))
    else
     Option.bind (words_Trim N v9) fun v12 =>
     bif (roomB ((List.length h0) + (List.length ([(v8, v12)] : List ((List UInt8 × (List UInt8)))))) 32) then
      (X ((x13, (x14, ((IntKind.wrap .i64 (x15 + 1)), ()))), ((h0 ++ ([(v8, v12)] : List ((List UInt8 × (List UInt8))))), ())))
     else
      none
   else
    Option.bind (some (true)) fun (v8 : Bool) =>
    bif v8 then
     some ((.inl ((([] : List ((List UInt8 × (List UInt8)))), ((3 : Int), ())), ())))
    else
     bif (roomB ((List.length h0) + (List.length ([(v6, (@Go.Lib.trimS (Array.toList (List.toArray ([] : List UInt8))) (Array.toList (List.toArray ([32, 9] : List UInt8)))))] : List ((List UInt8 × (List UInt8)))))) 32) then
      (X ((x13, (x14, ((IntKind.wrap .i64 (x15 + 1)), ()))), ((h0 ++ ([(v6, (@Go.Lib.trimS (Array.toList (List.toArray ([] : List UInt8))) (Array.toList (List.toArray ([32, 9] : List UInt8)))))] : List ((List UInt8 × (List UInt8))))), ())))
     else
      none
 else
  some ((.inr ((), (h0, ()))))
noncomputable def words_Fields_L5_R (c : (((List (List UInt8)) × (Int × (Int × Unit))) × ((List (List UInt8 × (List UInt8))) × Unit))) : Option (((((List (List UInt8 × (List UInt8))) × (Int × Unit)) × Unit) ⊕ (Unit × ((List (List UInt8 × (List UInt8))) × Unit)))) := gl (fun X c => words_Fields_L5 N X c.1.1 c.1.2.1 c.1.2.2.1 c.2.1) N c
theorem words_Fields_L5_S (X : (((List (List UInt8)) × (Int × (Int × Unit))) × ((List (List UInt8 × (List UInt8))) × Unit)) → Option (((((List (List UInt8 × (List UInt8))) × (Int × Unit)) × Unit) ⊕ (Unit × ((List (List UInt8 × (List UInt8))) × Unit))))) (x13 : List (List UInt8)) (x14 : Int) (x15 : Int) (h0 : List (List UInt8 × (List UInt8))) : (roundK Tryd.prog (Ev14 N) 400 [28] words_Fields_L5_I (loopAt Tryd.prog [28] 5) X ((x13, x14, x15, ()), (h0, ()))).run = words_Fields_L5 N X x13 x14 x15 h0 := by kernel_rfl
noncomputable def Ev15 : (R : Type) → Env R := Env.addLp (Ev14 N) [28] 0 5 (fun R => lpK Tryd.prog words_Fields_L5_I (fun X c => words_Fields_L5 N X c.1.1 c.1.2.1 c.1.2.2.1 c.2.1) N)
theorem Ev15_ok (R : Type) : EnvOK Tryd.prog (Ev15 N R) := EnvOK.addLp (Ev14_ok N R) (by kernel_rfl) (lpK_ok (li := words_Fields_L5_I) (G := fun X c => words_Fields_L5 N X c.1.1 c.1.2.1 c.1.2.2.1 c.2.1) hmx (Ev14_ok N _) (by kernel_rfl) loopAt_sub (fun (X : CT words_Fields_L5_I.sh → Option (OT words_Fields_L5_I.outs)) (c : CT words_Fields_L5_I.sh) => words_Fields_L5_S N X c.1.1 c.1.2.1 c.1.2.2.1 c.2.1) N)
noncomputable def words_Fields (lines0 : List (List UInt8)) : Option ((List (List UInt8 × (List UInt8))) × Int) :=
 bif (decide ((32 : Int) < (((List.length lines0) : Nat) : Int))) then
  some ((([] : List ((List UInt8 × (List UInt8)))), (5 : Int)))
 else
  Option.bind (words_Fields_L5_R N ((lines0, ((((List.length lines0) : Nat) : Int), ((0 : Int), ()))), (([] : List ((List UInt8 × (List UInt8)))), ()))) fun v2 =>
  Sum.elim
   (fun (v3 : (((List (List UInt8 × (List UInt8))) × (Int × Unit)) × Unit)) =>
   some ((v3.1.1, v3.1.2.1)))
   (fun (v3 : (Unit × ((List (List UInt8 × (List UInt8))) × Unit))) =>
   some ((v3.2.1, (0 : Int)))) v2
theorem words_Fields_S (lines0 : List (List UInt8)) : (runK Tryd.prog (Ev15 N) 400 28 [(.sl .str)] [(.sl (.pair .str .str)), (.int .i64)] (lines0, ())).run = words_Fields N lines0 := by kernel_rfl
theorem words_Fields_C (lines0 : List (List UInt8)) (y : (List (List UInt8 × (List UInt8))) × Int) (h : words_Fields N lines0 = some y) : CallsK Tryd.prog 28 (valA [(.sl .str)] (lines0, ())) (tupV (valR [(.sl (.pair .str .str)), (.int .i64)] y)) := runK_ok hmx (Ev15_ok N _) (okFn_ok (by kernel_rfl)) (by rw [words_Fields_S]; exact h)
noncomputable def Ev16 : (R : Type) → Env R := Env.addFn (Ev15 N) 28 (fun R => fnK [(.sl .str)] [(.sl (.pair .str .str)), (.int .i64)] (fun c => words_Fields N c.1))
theorem Ev16_ok (R : Type) : EnvOK Tryd.prog (Ev16 N R) := EnvOK.addFn hmx (Ev15_ok N R) (Ev15_ok N _) (by kernel_rfl) (fun c => words_Fields_S N c.1)
noncomputable def words_Find_L3_I : LI := ⟨31, 0, [], ⟨[(1, .ty .str), (6, .ty .str), (7, .ty (.int .i64)), (10, .ty (.sl (.pair .str .str))), (11, .ty (.int .i64)), (12, .ty (.int .i64))], []⟩, [(.exit 0, ⟨[(6, .ty .str), (7, .ty (.int .i64))], []⟩)]⟩
noncomputable def words_Find_L3 (X : ((List UInt8 × (List UInt8 × (Int × ((List (List UInt8 × (List UInt8))) × (Int × (Int × Unit)))))) × Unit) → Option (((List UInt8 × (Int × Unit)) × Unit))) (name1 : List UInt8) (value6 : List UInt8) (many7 : Int) (x10 : List (List UInt8 × (List UInt8))) (x11 : Int) (x12 : Int) : Option (((List UInt8 × (Int × Unit)) × Unit)) :=
 bif (decide (x12 < x11)) then
  Option.bind (getI x10 x12) fun (v8 : (List UInt8 × (List UInt8))) =>
  Option.bind (words_Alike N v8.1 name1) fun v9 =>
  bif v9 then
   (X ((name1, (v8.2, ((IntKind.wrap .i64 (many7 + 1)), (x10, (x11, ((IntKind.wrap .i64 (x12 + 1)), ())))))), ()))
  else
   (X ((name1, (value6, (many7, (x10, (x11, ((IntKind.wrap .i64 (x12 + 1)), ())))))), ()))
 else
  some (((value6, (many7, ())), ()))
noncomputable def words_Find_L3_R (c : ((List UInt8 × (List UInt8 × (Int × ((List (List UInt8 × (List UInt8))) × (Int × (Int × Unit)))))) × Unit)) : Option (((List UInt8 × (Int × Unit)) × Unit)) := gl (fun X c => words_Find_L3 N X c.1.1 c.1.2.1 c.1.2.2.1 c.1.2.2.2.1 c.1.2.2.2.2.1 c.1.2.2.2.2.2.1) N c
theorem words_Find_L3_S (X : ((List UInt8 × (List UInt8 × (Int × ((List (List UInt8 × (List UInt8))) × (Int × (Int × Unit)))))) × Unit) → Option (((List UInt8 × (Int × Unit)) × Unit))) (name1 : List UInt8) (value6 : List UInt8) (many7 : Int) (x10 : List (List UInt8 × (List UInt8))) (x11 : Int) (x12 : Int) : (roundK Tryd.prog (Ev16 N) 400 [42] words_Find_L3_I (loopAt Tryd.prog [42] 3) X ((name1, value6, many7, x10, x11, x12, ()), ())).run = words_Find_L3 N X name1 value6 many7 x10 x11 x12 := by kernel_rfl
noncomputable def Ev17 : (R : Type) → Env R := Env.addLp (Ev16 N) [42] 0 3 (fun R => lpK Tryd.prog words_Find_L3_I (fun X c => words_Find_L3 N X c.1.1 c.1.2.1 c.1.2.2.1 c.1.2.2.2.1 c.1.2.2.2.2.1 c.1.2.2.2.2.2.1) N)
theorem Ev17_ok (R : Type) : EnvOK Tryd.prog (Ev17 N R) := EnvOK.addLp (Ev16_ok N R) (by kernel_rfl) (lpK_ok (li := words_Find_L3_I) (G := fun X c => words_Find_L3 N X c.1.1 c.1.2.1 c.1.2.2.1 c.1.2.2.2.1 c.1.2.2.2.2.1 c.1.2.2.2.2.2.1) hmx (Ev16_ok N _) (by kernel_rfl) loopAt_sub (fun (X : CT words_Find_L3_I.sh → Option (OT words_Find_L3_I.outs)) (c : CT words_Find_L3_I.sh) => words_Find_L3_S N X c.1.1 c.1.2.1 c.1.2.2.1 c.1.2.2.2.1 c.1.2.2.2.2.1 c.1.2.2.2.2.2.1) N)
noncomputable def words_Find (l0 : List (List UInt8 × (List UInt8))) (name1 : List UInt8) : Option (List UInt8 × Int) :=
 Option.bind (words_Find_L3_R N ((name1, ((Array.toList (List.toArray ([] : List UInt8))), ((0 : Int), (l0, ((((List.length l0) : Nat) : Int), ((0 : Int), ())))))), ())) fun v3 =>
 bif (decide (v3.1.2.1 = (0 : Int))) then
  some (((Array.toList (List.toArray ([] : List UInt8))), (6 : Int)))
 else
  bif (decide (v3.1.2.1 = (1 : Int))) then
   some ((v3.1.1, (0 : Int)))
  else
   some (((Array.toList (List.toArray ([] : List UInt8))), (7 : Int)))
theorem words_Find_S (l0 : List (List UInt8 × (List UInt8))) (name1 : List UInt8) : (runK Tryd.prog (Ev17 N) 400 42 [(.sl (.pair .str .str)), .str] [.str, (.int .i64)] (l0, name1, ())).run = words_Find N l0 name1 := by kernel_rfl
theorem words_Find_C (l0 : List (List UInt8 × (List UInt8))) (name1 : List UInt8) (y : List UInt8 × Int) (h : words_Find N l0 name1 = some y) : CallsK Tryd.prog 42 (valA [(.sl (.pair .str .str)), .str] (l0, name1, ())) (tupV (valR [.str, (.int .i64)] y)) := runK_ok hmx (Ev17_ok N _) (okFn_ok (by kernel_rfl)) (by rw [words_Find_S]; exact h)
noncomputable def Ev18 : (R : Type) → Env R := Env.addFn (Ev17 N) 42 (fun R => fnK [(.sl (.pair .str .str)), .str] [.str, (.int .i64)] (fun c => words_Find N c.1 c.2.1))
theorem Ev18_ok (R : Type) : EnvOK Tryd.prog (Ev18 N R) := EnvOK.addFn hmx (Ev17_ok N R) (Ev17_ok N _) (by kernel_rfl) (fun c => words_Find_S N c.1 c.2.1)
noncomputable def ref14_small (N : Nat) (c0 : Int) : Option Int :=
 Option.bind (bif (decide ((65 : Int) ≤ c0)) then
   some ((cond true (decide (c0 ≤ (90 : Int))) false))
  else
   some (false)) fun (v2 : Bool) =>
 bif v2 then
  some ((IntKind.wrap .u8 (c0 + 32)))
 else
  some (c0)
theorem ref14_small_S (c0 : Int) : (runK Tryd.prog (Ev18 N) 400 49 [(.int .u8)] [(.int .u8)] (c0, ())).run = ref14_small N c0 := by kernel_rfl
theorem ref14_small_C (c0 : Int) (y : Int) (h : ref14_small N c0 = some y) : CallsK Tryd.prog 49 (valA [(.int .u8)] (c0, ())) (tupV (valR [(.int .u8)] y)) := runK_ok hmx (Ev18_ok N _) (okFn_ok (by kernel_rfl)) (by rw [ref14_small_S]; exact h)
noncomputable def Ev19 : (R : Type) → Env R := Env.addFn (Ev18 N) 49 (fun R => fnK [(.int .u8)] [(.int .u8)] (fun c => ref14_small N c.1))
theorem Ev19_ok (R : Type) : EnvOK Tryd.prog (Ev19 N R) := EnvOK.addFn hmx (Ev18_ok N R) (Ev18_ok N _) (by kernel_rfl) (fun c => ref14_small_S N c.1)
noncomputable def ref14_Lower_L3_I : LI := ⟨23, 0, [], ⟨[(0, .ty .str), (3, .lit (.own 0)), (4, .ty (.int .i64))], [.own (.int .u8) 5]⟩, [(.exit 0, ⟨[(3, .lit (.own 0))], [.own (.int .u8) 5]⟩)]⟩
noncomputable def ref14_Lower_L3 (X : ((List UInt8 × (Int × Unit)) × ((List Int) × Unit)) → Option ((Unit × ((List Int) × Unit)))) (s0 : List UInt8) (i4 : Int) (h0 : List (Int)) : Option ((Unit × ((List Int) × Unit))) :=
 bif (decide (i4 < (((List.length s0) : Nat) : Int))) then
  Option.bind (getI s0 i4) fun (v5 : UInt8) =>
  Option.bind (ref14_small N (((@UInt8.toNat v5) : Nat) : Int)) fun v6 =>
  bif (decide ((0 : Int) ≤ i4 ∧ i4 < (((List.length h0) : Nat) : Int))) then
   Option.bind (h0[Int.toNat i4]?) fun (v7 : Int) =>
   (X ((s0, ((IntKind.wrap .i64 (i4 + 1)), ())), ((@List.set Int h0 (Int.toNat i4) v6), ())))
  else
   none
 else
  some (((), (h0, ())))
noncomputable def ref14_Lower_L3_R (c : ((List UInt8 × (Int × Unit)) × ((List Int) × Unit))) : Option ((Unit × ((List Int) × Unit))) := gl (fun X c => ref14_Lower_L3 N X c.1.1 c.1.2.1 c.2.1) N c
theorem ref14_Lower_L3_S (X : ((List UInt8 × (Int × Unit)) × ((List Int) × Unit)) → Option ((Unit × ((List Int) × Unit)))) (s0 : List UInt8) (i4 : Int) (h0 : List (Int)) : (roundK Tryd.prog (Ev19 N) 400 [51] ref14_Lower_L3_I (loopAt Tryd.prog [51] 3) X ((s0, i4, ()), (h0, ()))).run = ref14_Lower_L3 N X s0 i4 h0 := by kernel_rfl
noncomputable def Ev20 : (R : Type) → Env R := Env.addLp (Ev19 N) [51] 0 3 (fun R => lpK Tryd.prog ref14_Lower_L3_I (fun X c => ref14_Lower_L3 N X c.1.1 c.1.2.1 c.2.1) N)
theorem Ev20_ok (R : Type) : EnvOK Tryd.prog (Ev20 N R) := EnvOK.addLp (Ev19_ok N R) (by kernel_rfl) (lpK_ok (li := ref14_Lower_L3_I) (G := fun X c => ref14_Lower_L3 N X c.1.1 c.1.2.1 c.2.1) hmx (Ev19_ok N _) (by kernel_rfl) loopAt_sub (fun (X : CT ref14_Lower_L3_I.sh → Option (OT ref14_Lower_L3_I.outs)) (c : CT ref14_Lower_L3_I.sh) => ref14_Lower_L3_S N X c.1.1 c.1.2.1 c.2.1) N)
noncomputable def ref14_Lower (s0 : List UInt8) : Option (List UInt8) :=
 bif ((decide ((0 : Int) ≤ (((List.length s0) : Nat) : Int) ∧ (((List.length s0) : Nat) : Int) ≤ (((List.length s0) : Nat) : Int))) && (roomB (Int.toNat (((List.length s0) : Nat) : Int)) 1)) then
  Option.bind (ref14_Lower_L3_R N ((s0, ((0 : Int), ())), ((@List.replicate Int (Int.toNat (((List.length s0) : Nat) : Int)) (0 : Int)), ()))) fun v2 =>
  Option.bind (@toBy v2.2.1) fun (v3 : (List UInt8)) =>
  some (v3)
 else
  none
theorem ref14_Lower_S (s0 : List UInt8) : (runK Tryd.prog (Ev20 N) 400 51 [.str] [.str] (s0, ())).run = ref14_Lower N s0 := by kernel_rfl
theorem ref14_Lower_C (s0 : List UInt8) (y : List UInt8) (h : ref14_Lower N s0 = some y) : CallsK Tryd.prog 51 (valA [.str] (s0, ())) (tupV (valR [.str] y)) := runK_ok hmx (Ev20_ok N _) (okFn_ok (by kernel_rfl)) (by rw [ref14_Lower_S]; exact h)
noncomputable def Ev21 : (R : Type) → Env R := Env.addFn (Ev20 N) 51 (fun R => fnK [.str] [.str] (fun c => ref14_Lower N c.1))
theorem Ev21_ok (R : Type) : EnvOK Tryd.prog (Ev21 N R) := EnvOK.addFn hmx (Ev20_ok N R) (Ev20_ok N _) (by kernel_rfl) (fun c => ref14_Lower_S N c.1)
noncomputable def ref14_Alike (a0 : List UInt8) (b1 : List UInt8) : Option Bool :=
 Option.bind (ref14_Lower N a0) fun v3 =>
 Option.bind (ref14_Lower N b1) fun v4 =>
 some ((decide (v3 = v4)))
theorem ref14_Alike_S (a0 : List UInt8) (b1 : List UInt8) : (runK Tryd.prog (Ev21 N) 400 45 [.str, .str] [.bool] (a0, b1, ())).run = ref14_Alike N a0 b1 := by kernel_rfl
theorem ref14_Alike_C (a0 : List UInt8) (b1 : List UInt8) (y : Bool) (h : ref14_Alike N a0 b1 = some y) : CallsK Tryd.prog 45 (valA [.str, .str] (a0, b1, ())) (tupV (valR [.bool] y)) := runK_ok hmx (Ev21_ok N _) (okFn_ok (by kernel_rfl)) (by rw [ref14_Alike_S]; exact h)
noncomputable def Ev22 : (R : Type) → Env R := Env.addFn (Ev21 N) 45 (fun R => fnK [.str, .str] [.bool] (fun c => ref14_Alike N c.1 c.2.1))
theorem Ev22_ok (R : Type) : EnvOK Tryd.prog (Ev22 N R) := EnvOK.addFn hmx (Ev21_ok N R) (Ev21_ok N _) (by kernel_rfl) (fun c => ref14_Alike_S N c.1 c.2.1)
noncomputable def ref14_Token_L2_I : LI := ⟨62, 0, [], ⟨[(0, .ty .str), (3, .ty (.int .i64))], []⟩, [(.ret, ⟨[(2, .ty .bool)], []⟩), (.exit 0, ⟨[(0, .ty .str)], []⟩)]⟩
noncomputable def ref14_Token_L2 (X : ((List UInt8 × (Int × Unit)) × Unit) → Option ((((Bool × Unit) × Unit) ⊕ ((List UInt8 × Unit) × Unit)))) (s0 : List UInt8) (i3 : Int) : Option ((((Bool × Unit) × Unit) ⊕ ((List UInt8 × Unit) × Unit))) :=
 bif (decide (i3 < (((List.length s0) : Nat) : Int))) then
  Option.bind (getI s0 i3) fun (v4 : UInt8) =>
  Option.bind (ref14_small N (((@UInt8.toNat v4) : Nat) : Int)) fun v5 =>
  Option.bind (bif (decide ((97 : Int) ≤ v5)) then
    some ((cond true (decide (v5 ≤ (122 : Int))) false))
   else
    some (false)) fun (v6 : Bool) =>
  Option.bind (bif v6 then
    some (true)
   else
    bif (decide ((48 : Int) ≤ v5)) then
     some ((cond false true (cond true (decide (v5 ≤ (57 : Int))) false)))
    else
     some ((cond false true false))) fun (v7 : Bool) =>
  Option.bind (bif v7 then
    some (true)
   else
    some ((cond false true (decide (v5 = (45 : Int)))))) fun (v8 : Bool) =>
  Option.bind (bif v8 then
    some (true)
   else
    some ((cond false true (decide (v5 = (95 : Int)))))) fun (v9 : Bool) =>
  Option.bind (bif v9 then
    some (true)
   else
    some ((cond false true (decide (v5 = (46 : Int)))))) fun (v10 : Bool) =>
  Option.bind (bif v10 then
    some (true)
   else
    some ((cond false true (decide (v5 = (123 : Int)))))) fun (v11 : Bool) =>
  Option.bind (bif v11 then
    some (true)
   else
    some ((cond false true (decide (v5 = (125 : Int)))))) fun (v12 : Bool) =>
  Option.bind (bif v12 then
    some (true)
   else
    some ((cond false true (decide (v5 = (47 : Int)))))) fun (v13 : Bool) =>
  bif (!v13) then
   some ((.inl ((false, ()), ())))
  else
   (X ((s0, ((IntKind.wrap .i64 (i3 + 1)), ())), ()))
 else
  some ((.inr ((s0, ()), ())))
noncomputable def ref14_Token_L2_R (c : ((List UInt8 × (Int × Unit)) × Unit)) : Option ((((Bool × Unit) × Unit) ⊕ ((List UInt8 × Unit) × Unit))) := gl (fun X c => ref14_Token_L2 N X c.1.1 c.1.2.1) N c
theorem ref14_Token_L2_S (X : ((List UInt8 × (Int × Unit)) × Unit) → Option ((((Bool × Unit) × Unit) ⊕ ((List UInt8 × Unit) × Unit)))) (s0 : List UInt8) (i3 : Int) : (roundK Tryd.prog (Ev22 N) 400 [43] ref14_Token_L2_I (loopAt Tryd.prog [43] 2) X ((s0, i3, ()), ())).run = ref14_Token_L2 N X s0 i3 := by kernel_rfl
noncomputable def Ev23 : (R : Type) → Env R := Env.addLp (Ev22 N) [43] 0 2 (fun R => lpK Tryd.prog ref14_Token_L2_I (fun X c => ref14_Token_L2 N X c.1.1 c.1.2.1) N)
theorem Ev23_ok (R : Type) : EnvOK Tryd.prog (Ev23 N R) := EnvOK.addLp (Ev22_ok N R) (by kernel_rfl) (lpK_ok (li := ref14_Token_L2_I) (G := fun X c => ref14_Token_L2 N X c.1.1 c.1.2.1) hmx (Ev22_ok N _) (by kernel_rfl) loopAt_sub (fun (X : CT ref14_Token_L2_I.sh → Option (OT ref14_Token_L2_I.outs)) (c : CT ref14_Token_L2_I.sh) => ref14_Token_L2_S N X c.1.1 c.1.2.1) N)
noncomputable def ref14_Token (s0 : List UInt8) : Option Bool :=
 Option.bind (ref14_Token_L2_R N ((s0, ((0 : Int), ())), ())) fun v2 =>
 Sum.elim
  (fun (v3 : ((Bool × Unit) × Unit)) =>
  some (v3.1.1))
  (fun (v3 : ((List UInt8 × Unit) × Unit)) =>
  bif (decide ((1 : Int) ≤ (((List.length v3.1.1) : Nat) : Int))) then
   Option.bind (some ((cond true (decide ((((List.length v3.1.1) : Nat) : Int) ≤ (64 : Int))) false))) fun (v4 : Bool) =>
   some (v4)
  else
   Option.bind (some (false)) fun (v4 : Bool) =>
   some (v4)) v2
theorem ref14_Token_S (s0 : List UInt8) : (runK Tryd.prog (Ev23 N) 400 43 [.str] [.bool] (s0, ())).run = ref14_Token N s0 := by kernel_rfl
theorem ref14_Token_C (s0 : List UInt8) (y : Bool) (h : ref14_Token N s0 = some y) : CallsK Tryd.prog 43 (valA [.str] (s0, ())) (tupV (valR [.bool] y)) := runK_ok hmx (Ev23_ok N _) (okFn_ok (by kernel_rfl)) (by rw [ref14_Token_S]; exact h)
noncomputable def Ev24 : (R : Type) → Env R := Env.addFn (Ev23 N) 43 (fun R => fnK [.str] [.bool] (fun c => ref14_Token N c.1))
theorem Ev24_ok (R : Type) : EnvOK Tryd.prog (Ev24 N R) := EnvOK.addFn hmx (Ev23_ok N R) (Ev23_ok N _) (by kernel_rfl) (fun c => ref14_Token_S N c.1)
noncomputable def ref14_blank (N : Nat) (c0 : Int) : Option Bool :=
 Option.bind (bif (decide (c0 = (32 : Int))) then
   some (true)
  else
   some ((cond false true (decide (c0 = (9 : Int)))))) fun (v2 : Bool) =>
 some (v2)
theorem ref14_blank_S (c0 : Int) : (runK Tryd.prog (Ev24 N) 400 50 [(.int .u8)] [.bool] (c0, ())).run = ref14_blank N c0 := by kernel_rfl
theorem ref14_blank_C (c0 : Int) (y : Bool) (h : ref14_blank N c0 = some y) : CallsK Tryd.prog 50 (valA [(.int .u8)] (c0, ())) (tupV (valR [.bool] y)) := runK_ok hmx (Ev24_ok N _) (okFn_ok (by kernel_rfl)) (by rw [ref14_blank_S]; exact h)
noncomputable def Ev25 : (R : Type) → Env R := Env.addFn (Ev24 N) 50 (fun R => fnK [(.int .u8)] [.bool] (fun c => ref14_blank N c.1))
theorem Ev25_ok (R : Type) : EnvOK Tryd.prog (Ev25 N R) := EnvOK.addFn hmx (Ev24_ok N R) (Ev24_ok N _) (by kernel_rfl) (fun c => ref14_blank_S N c.1)
noncomputable def ref14_Trim_L1_I : LI := ⟨30, 0, [], ⟨[(0, .ty .str)], []⟩, [(.exit 0, ⟨[(0, .ty .str)], []⟩)]⟩
noncomputable def ref14_Trim_L1 (X : ((List UInt8 × Unit) × Unit) → Option (((List UInt8 × Unit) × Unit))) (s0 : List UInt8) : Option (((List UInt8 × Unit) × Unit)) :=
 bif (decide ((0 : Int) < (((List.length s0) : Nat) : Int))) then
  Option.bind (getI s0 (0 : Int)) fun (v3 : UInt8) =>
  Option.bind (ref14_blank N (((@UInt8.toNat v3) : Nat) : Int)) fun v4 =>
  bif (cond true v4 false) then
   Option.bind (dropI s0 (1 : Int)) fun (v5 : (List UInt8)) =>
   (X ((v5, ()), ()))
  else
   some (((s0, ()), ()))
 else
  some (((s0, ()), ()))
noncomputable def ref14_Trim_L1_R (c : ((List UInt8 × Unit) × Unit)) : Option (((List UInt8 × Unit) × Unit)) := gl (fun X c => ref14_Trim_L1 N X c.1.1) N c
theorem ref14_Trim_L1_S (X : ((List UInt8 × Unit) × Unit) → Option (((List UInt8 × Unit) × Unit))) (s0 : List UInt8) : (roundK Tryd.prog (Ev25 N) 400 [44] ref14_Trim_L1_I (loopAt Tryd.prog [44] 1) X ((s0, ()), ())).run = ref14_Trim_L1 N X s0 := by kernel_rfl
noncomputable def Ev26 : (R : Type) → Env R := Env.addLp (Ev25 N) [44] 0 1 (fun R => lpK Tryd.prog ref14_Trim_L1_I (fun X c => ref14_Trim_L1 N X c.1.1) N)
theorem Ev26_ok (R : Type) : EnvOK Tryd.prog (Ev26 N R) := EnvOK.addLp (Ev25_ok N R) (by kernel_rfl) (lpK_ok (li := ref14_Trim_L1_I) (G := fun X c => ref14_Trim_L1 N X c.1.1) hmx (Ev25_ok N _) (by kernel_rfl) loopAt_sub (fun (X : CT ref14_Trim_L1_I.sh → Option (OT ref14_Trim_L1_I.outs)) (c : CT ref14_Trim_L1_I.sh) => ref14_Trim_L1_S N X c.1.1) N)
noncomputable def ref14_Trim_L3_I : LI := ⟨30, 0, [], ⟨[(0, .ty .str)], []⟩, [(.exit 2, ⟨[(0, .ty .str)], []⟩)]⟩
noncomputable def ref14_Trim_L3 (X : ((List UInt8 × Unit) × Unit) → Option (((List UInt8 × Unit) × Unit))) (s0 : List UInt8) : Option (((List UInt8 × Unit) × Unit)) :=
 bif (decide ((0 : Int) < (((List.length s0) : Nat) : Int))) then
  Option.bind (getI s0 (IntKind.wrap .i64 ((((List.length s0) : Nat) : Int) - 1))) fun (v3 : UInt8) =>
  Option.bind (ref14_blank N (((@UInt8.toNat v3) : Nat) : Int)) fun v4 =>
  bif (cond true v4 false) then
   Option.bind (takeI s0 (IntKind.wrap .i64 ((((List.length s0) : Nat) : Int) - 1))) fun (v5 : (List UInt8)) =>
   (X ((v5, ()), ()))
  else
   some (((s0, ()), ()))
 else
  some (((s0, ()), ()))
noncomputable def ref14_Trim_L3_R (c : ((List UInt8 × Unit) × Unit)) : Option (((List UInt8 × Unit) × Unit)) := gl (fun X c => ref14_Trim_L3 N X c.1.1) N c
theorem ref14_Trim_L3_S (X : ((List UInt8 × Unit) × Unit) → Option (((List UInt8 × Unit) × Unit))) (s0 : List UInt8) : (roundK Tryd.prog (Ev26 N) 400 [44] ref14_Trim_L3_I (loopAt Tryd.prog [44] 3) X ((s0, ()), ())).run = ref14_Trim_L3 N X s0 := by kernel_rfl
noncomputable def Ev27 : (R : Type) → Env R := Env.addLp (Ev26 N) [44] 0 3 (fun R => lpK Tryd.prog ref14_Trim_L3_I (fun X c => ref14_Trim_L3 N X c.1.1) N)
theorem Ev27_ok (R : Type) : EnvOK Tryd.prog (Ev27 N R) := EnvOK.addLp (Ev26_ok N R) (by kernel_rfl) (lpK_ok (li := ref14_Trim_L3_I) (G := fun X c => ref14_Trim_L3 N X c.1.1) hmx (Ev26_ok N _) (by kernel_rfl) loopAt_sub (fun (X : CT ref14_Trim_L3_I.sh → Option (OT ref14_Trim_L3_I.outs)) (c : CT ref14_Trim_L3_I.sh) => ref14_Trim_L3_S N X c.1.1) N)
noncomputable def ref14_Trim (s0 : List UInt8) : Option (List UInt8) :=
 Option.bind (ref14_Trim_L1_R N ((s0, ()), ())) fun v2 =>
 Option.bind (ref14_Trim_L3_R N ((v2.1.1, ()), ())) fun v3 =>
 some (v3.1.1)
theorem ref14_Trim_S (s0 : List UInt8) : (runK Tryd.prog (Ev27 N) 400 44 [.str] [.str] (s0, ())).run = ref14_Trim N s0 := by kernel_rfl
theorem ref14_Trim_C (s0 : List UInt8) (y : List UInt8) (h : ref14_Trim N s0 = some y) : CallsK Tryd.prog 44 (valA [.str] (s0, ())) (tupV (valR [.str] y)) := runK_ok hmx (Ev27_ok N _) (okFn_ok (by kernel_rfl)) (by rw [ref14_Trim_S]; exact h)
noncomputable def Ev28 : (R : Type) → Env R := Env.addFn (Ev27 N) 44 (fun R => fnK [.str] [.str] (fun c => ref14_Trim N c.1))
theorem Ev28_ok (R : Type) : EnvOK Tryd.prog (Ev28 N R) := EnvOK.addFn hmx (Ev27_ok N R) (Ev27_ok N _) (by kernel_rfl) (fun c => ref14_Trim_S N c.1)
noncomputable def Ev29 : (R : Type) → Env R := Env.addMv (Ev28 N) [(30, 14)]
theorem Ev29_ok (R : Type) : EnvOK Tryd.prog (Ev29 N R) := EnvOK.addMv (Ev28_ok N R) [(30, 14)]
noncomputable def ref14_Head_L4_I : LI := ⟨89, 0, [(5, 9)], ⟨[(0, .ty (.sl (.int .u8))), (5, .lit (.own 0)), (6, .ty .str), (7, .ty (.int .i64))], [.own .str 9]⟩, [(.ret, ⟨[(2, .ty (.sl .str)), (3, .ty (.int .i64)), (4, .ty (.int .i64))], []⟩), (.exit 0, ⟨[(0, .ty (.sl (.int .u8)))], []⟩)]⟩
noncomputable def ref14_Head_L4 (N : Nat) (X : (((List Int) × (List UInt8 × (Int × Unit))) × ((List (List UInt8)) × Unit)) → Option (((((List (List UInt8)) × (Int × (Int × Unit))) × Unit) ⊕ (((List Int) × Unit) × Unit)))) (b0 : List (Int)) (line6 : List UInt8) (i7 : Int) (h0 : List (List UInt8)) : Option (((((List (List UInt8)) × (Int × (Int × Unit))) × Unit) ⊕ (((List Int) × Unit) × Unit))) :=
 Option.bind (bif (decide (i7 < (((List.length b0) : Nat) : Int))) then
   some ((cond true (decide (i7 < (2048 : Int))) false))
  else
   some (false)) fun (v6 : Bool) =>
 bif v6 then
  Option.bind (getI b0 i7) fun (v7 : Int) =>
  Option.bind (bif (decide ((32 : Int) ≤ v7)) then
    some ((cond true (decide (v7 ≤ (126 : Int))) false))
   else
    some (false)) fun (v8 : Bool) =>
  Option.bind (bif v8 then
    some (true)
   else
    some ((cond false true (decide (v7 = (9 : Int)))))) fun (v9 : Bool) =>
  bif v9 then
   Option.bind (subI b0 i7 (IntKind.wrap .i64 (i7 + 1))) fun (v10 : (List Int)) =>
   Option.bind (@toBy v10) fun (v11 : (List UInt8)) =>
   bif (decide (((List.length line6) + (List.length v11)) ≤ maxLen)) then
    (X ((b0, ((line6 ++ v11), ((IntKind.wrap .i64 (i7 + 1)), ()))), (h0, ())))
   else
    none
  else
   bif (decide (v7 = (13 : Int))) then
    Option.bind (bif (decide ((IntKind.wrap .i64 (i7 + 1)) = (((List.length b0) : Nat) : Int))) then
      some ((cond true true false))
     else
      bif (cond false true (decide ((IntKind.wrap .i64 (i7 + 1)) = (2048 : Int)))) then
       some ((cond true true false))
      else
       Option.bind (getI b0 (IntKind.wrap .i64 (i7 + 1))) fun (v10 : Int) =>
       some ((cond true (cond false true (decide (v10 = (10 : Int)))) false))) fun (v10 : Bool) =>
    bif v10 then
     (X ((b0, (line6, ((IntKind.wrap .i64 (i7 + 1)), ()))), (h0, ())))
    else
     Option.bind (bif (!(decide (v7 = (10 : Int)))) then
       some (true)
      else
       some ((cond false true (decide (i7 = (0 : Int)))))) fun (v11 : Bool) =>
     Option.bind (bif v11 then
       some (true)
      else
       Option.bind (getI b0 (IntKind.wrap .i64 (i7 - 1))) fun (v12 : Int) =>
       some ((cond false true (!(decide (v12 = (13 : Int))))))) fun (v12 : Bool) =>
     bif v12 then
      some ((.inl ((([] : List ((List UInt8))), ((0 : Int), ((3 : Int), ()))), ())))
     else
      bif (decide (line6 = (Array.toList (List.toArray ([] : List UInt8))))) then
       some ((.inl ((h0, ((IntKind.wrap .i64 (i7 + 1)), ((0 : Int), ()))), ())))
      else
       bif (roomB ((List.length h0) + (List.length ([line6] : List ((List UInt8))))) 16) then
        (X ((b0, ((Array.toList (List.toArray ([] : List UInt8))), ((IntKind.wrap .i64 (i7 + 1)), ()))), ((h0 ++ ([line6] : List ((List UInt8)))), ())))
       else
        none
   else
    Option.bind (some (false)) fun (v10 : Bool) =>
    bif v10 then
     (X ((b0, (line6, ((IntKind.wrap .i64 (i7 + 1)), ()))), (h0, ())))
    else
     Option.bind (bif (!(decide (v7 = (10 : Int)))) then
       some (true)
      else
       some ((cond false true (decide (i7 = (0 : Int)))))) fun (v11 : Bool) =>
     Option.bind (bif v11 then
       some (true)
      else
       Option.bind (getI b0 (IntKind.wrap .i64 (i7 - 1))) fun (v12 : Int) =>
       some ((cond false true (!(decide (v12 = (13 : Int))))))) fun (v12 : Bool) =>
     bif v12 then
      some ((.inl ((([] : List ((List UInt8))), ((0 : Int), ((3 : Int), ()))), ())))
     else
      bif (decide (line6 = (Array.toList (List.toArray ([] : List UInt8))))) then
       some ((.inl ((h0, ((IntKind.wrap .i64 (i7 + 1)), ((0 : Int), ()))), ())))
      else
       bif (roomB ((List.length h0) + (List.length ([line6] : List ((List UInt8))))) 16) then
        (X ((b0, ((Array.toList (List.toArray ([] : List UInt8))), ((IntKind.wrap .i64 (i7 + 1)), ()))), ((h0 ++ ([line6] : List ((List UInt8)))), ())))
       else
        none
 else
  some ((.inr ((b0, ()), ())))
noncomputable def ref14_Head_L4_R (c : (((List Int) × (List UInt8 × (Int × Unit))) × ((List (List UInt8)) × Unit))) : Option (((((List (List UInt8)) × (Int × (Int × Unit))) × Unit) ⊕ (((List Int) × Unit) × Unit))) := gl (fun X c => ref14_Head_L4 N X c.1.1 c.1.2.1 c.1.2.2.1 c.2.1) N c
theorem ref14_Head_L4_S (X : (((List Int) × (List UInt8 × (Int × Unit))) × ((List (List UInt8)) × Unit)) → Option (((((List (List UInt8)) × (Int × (Int × Unit))) × Unit) ⊕ (((List Int) × Unit) × Unit)))) (b0 : List (Int)) (line6 : List UInt8) (i7 : Int) (h0 : List (List UInt8)) : (roundK Tryd.prog (Ev29 N) 400 [30] ref14_Head_L4_I (loopAt Tryd.prog [30] 4) X ((b0, line6, i7, ()), (h0, ()))).run = ref14_Head_L4 N X b0 line6 i7 h0 := by kernel_rfl
noncomputable def Ev30 : (R : Type) → Env R := Env.addLp (Ev29 N) [30] 0 4 (fun R => lpK Tryd.prog ref14_Head_L4_I (fun X c => ref14_Head_L4 N X c.1.1 c.1.2.1 c.1.2.2.1 c.2.1) N)
theorem Ev30_ok (R : Type) : EnvOK Tryd.prog (Ev30 N R) := EnvOK.addLp (Ev29_ok N R) (by kernel_rfl) (lpK_ok (li := ref14_Head_L4_I) (G := fun X c => ref14_Head_L4 N X c.1.1 c.1.2.1 c.1.2.2.1 c.2.1) hmx (Ev29_ok N _) (by kernel_rfl) loopAt_sub (fun (X : CT ref14_Head_L4_I.sh → Option (OT ref14_Head_L4_I.outs)) (c : CT ref14_Head_L4_I.sh) => ref14_Head_L4_S N X c.1.1 c.1.2.1 c.1.2.2.1 c.2.1) N)
noncomputable def ref14_Head (b0 : List (Int)) : Option ((List (List UInt8)) × Int × Int) :=
 Option.bind (ref14_Head_L4_R N ((b0, ((Array.toList (List.toArray ([] : List UInt8))), ((0 : Int), ()))), (([] : List ((List UInt8))), ()))) fun v2 =>
 Sum.elim
  (fun (v3 : (((List (List UInt8)) × (Int × (Int × Unit))) × Unit)) =>
  some ((v3.1.1, (v3.1.2.1, v3.1.2.2.1))))
  (fun (v3 : (((List Int) × Unit) × Unit)) =>
  bif (decide ((((List.length v3.1.1) : Nat) : Int) < (2048 : Int))) then
   some ((([] : List ((List UInt8))), ((0 : Int), (4 : Int))))
  else
   some ((([] : List ((List UInt8))), ((0 : Int), (8 : Int))))) v2
theorem ref14_Head_S (b0 : List (Int)) : (runK Tryd.prog (Ev30 N) 400 30 [(.sl (.int .u8))] [(.sl .str), (.int .i64), (.int .i64)] (b0, ())).run = ref14_Head N b0 := by kernel_rfl
theorem ref14_Head_C (b0 : List (Int)) (y : (List (List UInt8)) × Int × Int) (h : ref14_Head N b0 = some y) : CallsK Tryd.prog 30 (valA [(.sl (.int .u8))] (b0, ())) (tupV (valR [(.sl .str), (.int .i64), (.int .i64)] y)) := runK_ok hmx (Ev30_ok N _) (okFn_ok (by kernel_rfl)) (by rw [ref14_Head_S]; exact h)
noncomputable def Ev31 : (R : Type) → Env R := Env.addFn (Ev30 N) 30 (fun R => fnK [(.sl (.int .u8))] [(.sl .str), (.int .i64), (.int .i64)] (fun c => ref14_Head N c.1))
theorem Ev31_ok (R : Type) : EnvOK Tryd.prog (Ev31 N R) := EnvOK.addFn hmx (Ev30_ok N R) (Ev30_ok N _) (by kernel_rfl) (fun c => ref14_Head_S N c.1)
noncomputable def ref14_Fields_L8_I : LI := ⟨70, 0, [], ⟨[(0, .ty (.sl .str)), (4, .lit (.own 0)), (5, .ty (.int .i64)), (6, .ty (.int .i64))], [.own (.pair .str .str) 81]⟩, [(.exit 2, ⟨[(0, .ty (.sl .str)), (4, .lit (.own 0)), (5, .ty (.int .i64)), (6, .ty (.int .i64))], [.own (.pair .str .str) 81]⟩)]⟩
noncomputable def ref14_Fields_L8 (N : Nat) (X : (((List (List UInt8)) × (Int × (Int × Unit))) × ((List (List UInt8 × (List UInt8))) × Unit)) → Option ((((List (List UInt8)) × (Int × (Int × Unit))) × ((List (List UInt8 × (List UInt8))) × Unit)))) (lines0 : List (List UInt8)) (i5 : Int) (x6 : Int) (h0 : List (List UInt8 × (List UInt8))) : Option ((((List (List UInt8)) × (Int × (Int × Unit))) × ((List (List UInt8 × (List UInt8))) × Unit))) :=
 Option.bind (getI lines0 i5) fun (v6 : (List UInt8)) =>
 Option.bind (bif (decide (x6 < (((List.length v6) : Nat) : Int))) then
   Option.bind (getI lines0 i5) fun (v7 : (List UInt8)) =>
   Option.bind (getI v7 x6) fun (v8 : UInt8) =>
   some ((cond true (!(decide ((((@UInt8.toNat v8) : Nat) : Int) = (58 : Int)))) false))
  else
   some (false)) fun (v7 : Bool) =>
 bif v7 then
  (X ((lines0, (i5, ((IntKind.wrap .i64 (x6 + 1)), ()))), (h0, ())))
 else
  some (((lines0, (i5, (x6, ()))), (h0, ())))
noncomputable def ref14_Fields_L8_R (c : (((List (List UInt8)) × (Int × (Int × Unit))) × ((List (List UInt8 × (List UInt8))) × Unit))) : Option ((((List (List UInt8)) × (Int × (Int × Unit))) × ((List (List UInt8 × (List UInt8))) × Unit))) := gl (fun X c => ref14_Fields_L8 N X c.1.1 c.1.2.1 c.1.2.2.1 c.2.1) N c
theorem ref14_Fields_L8_S (X : (((List (List UInt8)) × (Int × (Int × Unit))) × ((List (List UInt8 × (List UInt8))) × Unit)) → Option ((((List (List UInt8)) × (Int × (Int × Unit))) × ((List (List UInt8 × (List UInt8))) × Unit)))) (lines0 : List (List UInt8)) (i5 : Int) (x6 : Int) (h0 : List (List UInt8 × (List UInt8))) : (roundK Tryd.prog (Ev31 N) 400 [32] ref14_Fields_L8_I (loopAt Tryd.prog [32] 8) X ((lines0, i5, x6, ()), (h0, ()))).run = ref14_Fields_L8 N X lines0 i5 x6 h0 := by kernel_rfl
noncomputable def Ev32 : (R : Type) → Env R := Env.addLp (Ev31 N) [32] 0 8 (fun R => lpK Tryd.prog ref14_Fields_L8_I (fun X c => ref14_Fields_L8 N X c.1.1 c.1.2.1 c.1.2.2.1 c.2.1) N)
theorem Ev32_ok (R : Type) : EnvOK Tryd.prog (Ev32 N R) := EnvOK.addLp (Ev31_ok N R) (by kernel_rfl) (lpK_ok (li := ref14_Fields_L8_I) (G := fun X c => ref14_Fields_L8 N X c.1.1 c.1.2.1 c.1.2.2.1 c.2.1) hmx (Ev31_ok N _) (by kernel_rfl) loopAt_sub (fun (X : CT ref14_Fields_L8_I.sh → Option (OT ref14_Fields_L8_I.outs)) (c : CT ref14_Fields_L8_I.sh) => ref14_Fields_L8_S N X c.1.1 c.1.2.1 c.1.2.2.1 c.2.1) N)
noncomputable def ref14_Fields_L5_I : LI := ⟨70, 0, [(4, 81)], ⟨[(0, .ty (.sl .str)), (4, .lit (.own 0)), (5, .ty (.int .i64))], [.own (.pair .str .str) 81]⟩, [(.ret, ⟨[(2, .ty (.sl (.pair .str .str))), (3, .ty (.int .i64))], []⟩), (.exit 0, ⟨[(4, .lit (.own 0))], [.own (.pair .str .str) 81]⟩)]⟩
noncomputable def ref14_Fields_L5 (X : (((List (List UInt8)) × (Int × Unit)) × ((List (List UInt8 × (List UInt8))) × Unit)) → Option (((((List (List UInt8 × (List UInt8))) × (Int × Unit)) × Unit) ⊕ (Unit × ((List (List UInt8 × (List UInt8))) × Unit))))) (lines0 : List (List UInt8)) (i5 : Int) (h0 : List (List UInt8 × (List UInt8))) : Option (((((List (List UInt8 × (List UInt8))) × (Int × Unit)) × Unit) ⊕ (Unit × ((List (List UInt8 × (List UInt8))) × Unit)))) :=
 bif (decide (i5 < (((List.length lines0) : Nat) : Int))) then
  Option.bind (ref14_Fields_L8_R N ((lines0, (i5, ((0 : Int), ()))), (h0, ()))) fun v5 =>
  Option.bind (getI v5.1.1 v5.1.2.1) fun (v6 : (List UInt8)) =>
  bif (decide (v5.1.2.2.1 = (((List.length v6) : Nat) : Int))) then
   Option.bind (some (true)) fun (v7 : Bool) =>
   bif v7 then
    some ((.inl ((([] : List ((List UInt8 × (List UInt8)))), ((3 : Int), ())), ())))
   else
    Option.bind (getI v5.1.1 v5.1.2.1) fun (v8 : (List UInt8)) =>
    Option.bind (takeI v8 v5.1.2.2.1) fun (v9 : (List UInt8)) =>
    Option.bind (getI v5.1.1 v5.1.2.1) fun (v10 : (List UInt8)) =>
    Option.bind (dropI v10 (IntKind.wrap .i64 (v5.1.2.2.1 + 1))) fun (v11 : (List UInt8)) =>
    Option.bind (ref14_Trim N v11) fun v12 =>
    bif (roomB ((List.length v5.2.1) + (List.length ([(v9, v12)] : List ((List UInt8 × (List UInt8)))))) 32) then
     (X ((v5.1.1, ((IntKind.wrap .i64 (v5.1.2.1 + 1)), ())), ((v5.2.1 ++ ([(v9, v12)] : List ((List UInt8 × (List UInt8))))), ())))
    else
     none
  else
   Option.bind (getI v5.1.1 v5.1.2.1) fun (v7 : (List UInt8)) =>
   Option.bind (takeI v7 v5.1.2.2.1) fun (v8 : (List UInt8)) =>
   Option.bind (ref14_Token N v8) fun v9 =>
   Option.bind (some ((cond false true (!v9)))) fun (v10 : Bool) =>
   bif v10 then
    some ((.inl ((([] : List ((List UInt8 × (List UInt8)))), ((3 : Int), ())), ())))
   else
    Option.bind (getI v5.1.1 v5.1.2.1) fun (v11 : (List UInt8)) =>
    Option.bind (takeI v11 v5.1.2.2.1) fun (v12 : (List UInt8)) =>
    Option.bind (getI v5.1.1 v5.1.2.1) fun (v13 : (List UInt8)) =>
    Option.bind (dropI v13 (IntKind.wrap .i64 (v5.1.2.2.1 + 1))) fun (v14 : (List UInt8)) =>
    Option.bind (ref14_Trim N v14) fun v15 =>
    bif (roomB ((List.length v5.2.1) + (List.length ([(v12, v15)] : List ((List UInt8 × (List UInt8)))))) 32) then
     (X ((v5.1.1, ((IntKind.wrap .i64 (v5.1.2.1 + 1)), ())), ((v5.2.1 ++ ([(v12, v15)] : List ((List UInt8 × (List UInt8))))), ())))
    else
     none
 else
  some ((.inr ((), (h0, ()))))
noncomputable def ref14_Fields_L5_R (c : (((List (List UInt8)) × (Int × Unit)) × ((List (List UInt8 × (List UInt8))) × Unit))) : Option (((((List (List UInt8 × (List UInt8))) × (Int × Unit)) × Unit) ⊕ (Unit × ((List (List UInt8 × (List UInt8))) × Unit)))) := gl (fun X c => ref14_Fields_L5 N X c.1.1 c.1.2.1 c.2.1) N c
theorem ref14_Fields_L5_S (X : (((List (List UInt8)) × (Int × Unit)) × ((List (List UInt8 × (List UInt8))) × Unit)) → Option (((((List (List UInt8 × (List UInt8))) × (Int × Unit)) × Unit) ⊕ (Unit × ((List (List UInt8 × (List UInt8))) × Unit))))) (lines0 : List (List UInt8)) (i5 : Int) (h0 : List (List UInt8 × (List UInt8))) : (roundK Tryd.prog (Ev32 N) 400 [32] ref14_Fields_L5_I (loopAt Tryd.prog [32] 5) X ((lines0, i5, ()), (h0, ()))).run = ref14_Fields_L5 N X lines0 i5 h0 := by kernel_rfl
noncomputable def Ev33 : (R : Type) → Env R := Env.addLp (Ev32 N) [32] 0 5 (fun R => lpK Tryd.prog ref14_Fields_L5_I (fun X c => ref14_Fields_L5 N X c.1.1 c.1.2.1 c.2.1) N)
theorem Ev33_ok (R : Type) : EnvOK Tryd.prog (Ev33 N R) := EnvOK.addLp (Ev32_ok N R) (by kernel_rfl) (lpK_ok (li := ref14_Fields_L5_I) (G := fun X c => ref14_Fields_L5 N X c.1.1 c.1.2.1 c.2.1) hmx (Ev32_ok N _) (by kernel_rfl) loopAt_sub (fun (X : CT ref14_Fields_L5_I.sh → Option (OT ref14_Fields_L5_I.outs)) (c : CT ref14_Fields_L5_I.sh) => ref14_Fields_L5_S N X c.1.1 c.1.2.1 c.2.1) N)
noncomputable def ref14_Fields (lines0 : List (List UInt8)) : Option ((List (List UInt8 × (List UInt8))) × Int) :=
 bif (decide ((32 : Int) < (((List.length lines0) : Nat) : Int))) then
  some ((([] : List ((List UInt8 × (List UInt8)))), (5 : Int)))
 else
  Option.bind (ref14_Fields_L5_R N ((lines0, ((0 : Int), ())), (([] : List ((List UInt8 × (List UInt8)))), ()))) fun v2 =>
  Sum.elim
   (fun (v3 : (((List (List UInt8 × (List UInt8))) × (Int × Unit)) × Unit)) =>
   some ((v3.1.1, v3.1.2.1)))
   (fun (v3 : (Unit × ((List (List UInt8 × (List UInt8))) × Unit))) =>
   some ((v3.2.1, (0 : Int)))) v2
theorem ref14_Fields_S (lines0 : List (List UInt8)) : (runK Tryd.prog (Ev33 N) 400 32 [(.sl .str)] [(.sl (.pair .str .str)), (.int .i64)] (lines0, ())).run = ref14_Fields N lines0 := by kernel_rfl
theorem ref14_Fields_C (lines0 : List (List UInt8)) (y : (List (List UInt8 × (List UInt8))) × Int) (h : ref14_Fields N lines0 = some y) : CallsK Tryd.prog 32 (valA [(.sl .str)] (lines0, ())) (tupV (valR [(.sl (.pair .str .str)), (.int .i64)] y)) := runK_ok hmx (Ev33_ok N _) (okFn_ok (by kernel_rfl)) (by rw [ref14_Fields_S]; exact h)
noncomputable def Ev34 : (R : Type) → Env R := Env.addFn (Ev33 N) 32 (fun R => fnK [(.sl .str)] [(.sl (.pair .str .str)), (.int .i64)] (fun c => ref14_Fields N c.1))
theorem Ev34_ok (R : Type) : EnvOK Tryd.prog (Ev34 N R) := EnvOK.addFn hmx (Ev33_ok N R) (Ev33_ok N _) (by kernel_rfl) (fun c => ref14_Fields_S N c.1)
noncomputable def ref14_Find_L3_I : LI := ⟨34, 0, [], ⟨[(0, .ty (.sl (.pair .str .str))), (1, .ty .str), (6, .ty (.int .i64)), (7, .ty .str), (8, .ty (.int .i64))], []⟩, [(.exit 0, ⟨[(6, .ty (.int .i64)), (7, .ty .str)], []⟩)]⟩
noncomputable def ref14_Find_L3 (X : (((List (List UInt8 × (List UInt8))) × (List UInt8 × (Int × (List UInt8 × (Int × Unit))))) × Unit) → Option (((Int × (List UInt8 × Unit)) × Unit))) (l0 : List (List UInt8 × (List UInt8))) (name1 : List UInt8) (many6 : Int) (value7 : List UInt8) (i8 : Int) : Option (((Int × (List UInt8 × Unit)) × Unit)) :=
 bif (decide (i8 < (((List.length l0) : Nat) : Int))) then
  Option.bind (getI l0 i8) fun (v7 : (List UInt8 × (List UInt8))) =>
  Option.bind (ref14_Alike N v7.1 name1) fun v8 =>
  bif v8 then
   Option.bind (getI l0 i8) fun (v9 : (List UInt8 × (List UInt8))) =>
   (X ((l0, (name1, ((IntKind.wrap .i64 (many6 + 1)), (v9.2, ((IntKind.wrap .i64 (i8 + 1)), ()))))), ()))
  else
   (X ((l0, (name1, (many6, (value7, ((IntKind.wrap .i64 (i8 + 1)), ()))))), ()))
 else
  some (((many6, (value7, ())), ()))
noncomputable def ref14_Find_L3_R (c : (((List (List UInt8 × (List UInt8))) × (List UInt8 × (Int × (List UInt8 × (Int × Unit))))) × Unit)) : Option (((Int × (List UInt8 × Unit)) × Unit)) := gl (fun X c => ref14_Find_L3 N X c.1.1 c.1.2.1 c.1.2.2.1 c.1.2.2.2.1 c.1.2.2.2.2.1) N c
theorem ref14_Find_L3_S (X : (((List (List UInt8 × (List UInt8))) × (List UInt8 × (Int × (List UInt8 × (Int × Unit))))) × Unit) → Option (((Int × (List UInt8 × Unit)) × Unit))) (l0 : List (List UInt8 × (List UInt8))) (name1 : List UInt8) (many6 : Int) (value7 : List UInt8) (i8 : Int) : (roundK Tryd.prog (Ev34 N) 400 [33] ref14_Find_L3_I (loopAt Tryd.prog [33] 3) X ((l0, name1, many6, value7, i8, ()), ())).run = ref14_Find_L3 N X l0 name1 many6 value7 i8 := by kernel_rfl
noncomputable def Ev35 : (R : Type) → Env R := Env.addLp (Ev34 N) [33] 0 3 (fun R => lpK Tryd.prog ref14_Find_L3_I (fun X c => ref14_Find_L3 N X c.1.1 c.1.2.1 c.1.2.2.1 c.1.2.2.2.1 c.1.2.2.2.2.1) N)
theorem Ev35_ok (R : Type) : EnvOK Tryd.prog (Ev35 N R) := EnvOK.addLp (Ev34_ok N R) (by kernel_rfl) (lpK_ok (li := ref14_Find_L3_I) (G := fun X c => ref14_Find_L3 N X c.1.1 c.1.2.1 c.1.2.2.1 c.1.2.2.2.1 c.1.2.2.2.2.1) hmx (Ev34_ok N _) (by kernel_rfl) loopAt_sub (fun (X : CT ref14_Find_L3_I.sh → Option (OT ref14_Find_L3_I.outs)) (c : CT ref14_Find_L3_I.sh) => ref14_Find_L3_S N X c.1.1 c.1.2.1 c.1.2.2.1 c.1.2.2.2.1 c.1.2.2.2.2.1) N)
noncomputable def ref14_Find (l0 : List (List UInt8 × (List UInt8))) (name1 : List UInt8) : Option (List UInt8 × Int) :=
 Option.bind (ref14_Find_L3_R N ((l0, (name1, ((0 : Int), ((Array.toList (List.toArray ([] : List UInt8))), ((0 : Int), ()))))), ())) fun v3 =>
 bif (decide (v3.1.1 = (0 : Int))) then
  some (((Array.toList (List.toArray ([] : List UInt8))), (6 : Int)))
 else
  bif (decide ((1 : Int) < v3.1.1)) then
   some (((Array.toList (List.toArray ([] : List UInt8))), (7 : Int)))
  else
   some ((v3.1.2.1, (0 : Int)))
theorem ref14_Find_S (l0 : List (List UInt8 × (List UInt8))) (name1 : List UInt8) : (runK Tryd.prog (Ev35 N) 400 33 [(.sl (.pair .str .str)), .str] [.str, (.int .i64)] (l0, name1, ())).run = ref14_Find N l0 name1 := by kernel_rfl
theorem ref14_Find_C (l0 : List (List UInt8 × (List UInt8))) (name1 : List UInt8) (y : List UInt8 × Int) (h : ref14_Find N l0 name1 = some y) : CallsK Tryd.prog 33 (valA [(.sl (.pair .str .str)), .str] (l0, name1, ())) (tupV (valR [.str, (.int .i64)] y)) := runK_ok hmx (Ev35_ok N _) (okFn_ok (by kernel_rfl)) (by rw [ref14_Find_S]; exact h)
noncomputable def Ev36 : (R : Type) → Env R := Env.addFn (Ev35 N) 33 (fun R => fnK [(.sl (.pair .str .str)), .str] [.str, (.int .i64)] (fun c => ref14_Find N c.1 c.2.1))
theorem Ev36_ok (R : Type) : EnvOK Tryd.prog (Ev36 N R) := EnvOK.addFn hmx (Ev35_ok N R) (Ev35_ok N _) (by kernel_rfl) (fun c => ref14_Find_S N c.1 c.2.1)
noncomputable def ref01_Same_L4_I : LI := ⟨26, 0, [], ⟨[(0, .ty (.sl (.int .u8))), (1, .ty (.sl (.int .u8))), (5, .ty (.int .i64))], []⟩, [(.ret, ⟨[(4, .ty .bool)], []⟩), (.exit 0, ⟨[], []⟩)]⟩
noncomputable def ref01_Same_L4 (N : Nat) (X : (((List Int) × ((List Int) × (Int × Unit))) × Unit) → Option ((((Bool × Unit) × Unit) ⊕ (Unit × Unit)))) (a0 : List (Int)) (b1 : List (Int)) (i5 : Int) : Option ((((Bool × Unit) × Unit) ⊕ (Unit × Unit))) :=
 bif (decide (i5 < (((List.length a0) : Nat) : Int))) then
  Option.bind (getI a0 i5) fun (v5 : Int) =>
  Option.bind (getI b1 i5) fun (v6 : Int) =>
  bif (!(decide (v5 = v6))) then
   some ((.inl ((false, ()), ())))
  else
   (X ((a0, (b1, ((IntKind.wrap .i64 (i5 + 1)), ()))), ()))
 else
  some ((.inr ((), ())))
noncomputable def ref01_Same_L4_R (c : (((List Int) × ((List Int) × (Int × Unit))) × Unit)) : Option ((((Bool × Unit) × Unit) ⊕ (Unit × Unit))) := gl (fun X c => ref01_Same_L4 N X c.1.1 c.1.2.1 c.1.2.2.1) N c
theorem ref01_Same_L4_S (X : (((List Int) × ((List Int) × (Int × Unit))) × Unit) → Option ((((Bool × Unit) × Unit) ⊕ (Unit × Unit)))) (a0 : List (Int)) (b1 : List (Int)) (i5 : Int) : (roundK Tryd.prog (Ev36 N) 400 [11] ref01_Same_L4_I (loopAt Tryd.prog [11] 4) X ((a0, b1, i5, ()), ())).run = ref01_Same_L4 N X a0 b1 i5 := by kernel_rfl
noncomputable def Ev37 : (R : Type) → Env R := Env.addLp (Ev36 N) [11] 0 4 (fun R => lpK Tryd.prog ref01_Same_L4_I (fun X c => ref01_Same_L4 N X c.1.1 c.1.2.1 c.1.2.2.1) N)
theorem Ev37_ok (R : Type) : EnvOK Tryd.prog (Ev37 N R) := EnvOK.addLp (Ev36_ok N R) (by kernel_rfl) (lpK_ok (li := ref01_Same_L4_I) (G := fun X c => ref01_Same_L4 N X c.1.1 c.1.2.1 c.1.2.2.1) hmx (Ev36_ok N _) (by kernel_rfl) loopAt_sub (fun (X : CT ref01_Same_L4_I.sh → Option (OT ref01_Same_L4_I.outs)) (c : CT ref01_Same_L4_I.sh) => ref01_Same_L4_S N X c.1.1 c.1.2.1 c.1.2.2.1) N)
noncomputable def ref01_Same (a0 : List (Int)) (b1 : List (Int)) : Option Bool :=
 bif (!(decide ((((List.length a0) : Nat) : Int) = (((List.length b1) : Nat) : Int)))) then
  some (false)
 else
  Option.bind (ref01_Same_L4_R N ((a0, (b1, ((0 : Int), ()))), ())) fun v3 =>
  Sum.elim
   (fun (v4 : ((Bool × Unit) × Unit)) =>
   some (v4.1.1))
   (fun (v4 : (Unit × Unit)) =>
   some (true)) v3
theorem ref01_Same_S (a0 : List (Int)) (b1 : List (Int)) : (runK Tryd.prog (Ev37 N) 400 11 [(.sl (.int .u8)), (.sl (.int .u8))] [.bool] (a0, b1, ())).run = ref01_Same N a0 b1 := by kernel_rfl
theorem ref01_Same_C (a0 : List (Int)) (b1 : List (Int)) (y : Bool) (h : ref01_Same N a0 b1 = some y) : CallsK Tryd.prog 11 (valA [(.sl (.int .u8)), (.sl (.int .u8))] (a0, b1, ())) (tupV (valR [.bool] y)) := runK_ok hmx (Ev37_ok N _) (okFn_ok (by kernel_rfl)) (by rw [ref01_Same_S]; exact h)
noncomputable def Ev38 : (R : Type) → Env R := Env.addFn (Ev37 N) 11 (fun R => fnK [(.sl (.int .u8)), (.sl (.int .u8))] [.bool] (fun c => ref01_Same N c.1 c.2.1))
theorem Ev38_ok (R : Type) : EnvOK Tryd.prog (Ev38 N R) := EnvOK.addFn hmx (Ev37_ok N R) (Ev37_ok N _) (by kernel_rfl) (fun c => ref01_Same_S N c.1 c.2.1)
noncomputable def Ev39 : (R : Type) → Env R := Env.addMv (Ev38 N) [(24, 5)]
theorem Ev39_ok (R : Type) : EnvOK Tryd.prog (Ev39 N R) := EnvOK.addMv (Ev38_ok N R) [(24, 5)]
noncomputable def octs_Hex_L3_I : LI := ⟨28, 0, [], ⟨[(3, .lit (.own 0)), (10, .ty (.sl (.int .u8))), (11, .ty (.int .i64)), (12, .ty (.int .i64))], [.own (.int .u8) 5]⟩, [(.exit 0, ⟨[(3, .lit (.own 0))], [.own (.int .u8) 5]⟩)]⟩
noncomputable def octs_Hex_L3 (N : Nat) (X : (((List Int) × (Int × (Int × Unit))) × ((List Int) × Unit)) → Option ((Unit × ((List Int) × Unit)))) (x10 : List (Int)) (x11 : Int) (x12 : Int) (h0 : List (Int)) : Option ((Unit × ((List Int) × Unit))) :=
 bif (decide (x12 < x11)) then
  Option.bind (getI x10 x12) fun (v6 : Int) =>
  Option.bind (getI (Array.toList (List.toArray ([48, 49, 50, 51, 52, 53, 54, 55, 56, 57, 65, 66, 67, 68, 69, 70] : List UInt8))) (@Int.fdiv v6 ((2 : Int) ^ (min (Int.toNat (4 : Int)) (IntKind.bits .u8))))) fun (v7 : UInt8) =>
  Option.bind (getI (Array.toList (List.toArray ([48, 49, 50, 51, 52, 53, 54, 55, 56, 57, 65, 66, 67, 68, 69, 70] : List UInt8))) (bits .and .u8 v6 (15 : Int))) fun (v8 : UInt8) =>
  bif (roomB ((List.length h0) + (List.length ([(((@UInt8.toNat v7) : Nat) : Int), (((@UInt8.toNat v8) : Nat) : Int)] : List (Int)))) 1) then
   (X ((x10, (x11, ((IntKind.wrap .i64 (x12 + 1)), ()))), ((h0 ++ ([(((@UInt8.toNat v7) : Nat) : Int), (((@UInt8.toNat v8) : Nat) : Int)] : List (Int))), ())))
  else
   none
 else
  some (((), (h0, ())))
noncomputable def octs_Hex_L3_R (c : (((List Int) × (Int × (Int × Unit))) × ((List Int) × Unit))) : Option ((Unit × ((List Int) × Unit))) := gl (fun X c => octs_Hex_L3 N X c.1.1 c.1.2.1 c.1.2.2.1 c.2.1) N c
theorem octs_Hex_L3_S (X : (((List Int) × (Int × (Int × Unit))) × ((List Int) × Unit)) → Option ((Unit × ((List Int) × Unit)))) (x10 : List (Int)) (x11 : Int) (x12 : Int) (h0 : List (Int)) : (roundK Tryd.prog (Ev39 N) 400 [24] octs_Hex_L3_I (loopAt Tryd.prog [24] 3) X ((x10, x11, x12, ()), (h0, ()))).run = octs_Hex_L3 N X x10 x11 x12 h0 := by kernel_rfl
noncomputable def Ev40 : (R : Type) → Env R := Env.addLp (Ev39 N) [24] 0 3 (fun R => lpK Tryd.prog octs_Hex_L3_I (fun X c => octs_Hex_L3 N X c.1.1 c.1.2.1 c.1.2.2.1 c.2.1) N)
theorem Ev40_ok (R : Type) : EnvOK Tryd.prog (Ev40 N R) := EnvOK.addLp (Ev39_ok N R) (by kernel_rfl) (lpK_ok (li := octs_Hex_L3_I) (G := fun X c => octs_Hex_L3 N X c.1.1 c.1.2.1 c.1.2.2.1 c.2.1) hmx (Ev39_ok N _) (by kernel_rfl) loopAt_sub (fun (X : CT octs_Hex_L3_I.sh → Option (OT octs_Hex_L3_I.outs)) (c : CT octs_Hex_L3_I.sh) => octs_Hex_L3_S N X c.1.1 c.1.2.1 c.1.2.2.1 c.2.1) N)
noncomputable def octs_Hex (b0 : List (Int)) : Option (List UInt8) :=
 bif ((decide ((0 : Int) ≤ (0 : Int) ∧ (0 : Int) ≤ (IntKind.wrap .i64 ((2 : Int) * (((List.length b0) : Nat) : Int))))) && (roomB (Int.toNat (IntKind.wrap .i64 ((2 : Int) * (((List.length b0) : Nat) : Int)))) 1)) then
  Option.bind (octs_Hex_L3_R N ((b0, ((((List.length b0) : Nat) : Int), ((0 : Int), ()))), ((@List.replicate Int (Int.toNat (0 : Int)) (0 : Int)), ()))) fun v2 =>
  Option.bind (@toBy v2.2.1) fun (v3 : (List UInt8)) =>
  some (v3)
 else
  none
theorem octs_Hex_S (b0 : List (Int)) : (runK Tryd.prog (Ev40 N) 400 24 [(.sl (.int .u8))] [.str] (b0, ())).run = octs_Hex N b0 := by kernel_rfl
theorem octs_Hex_C (b0 : List (Int)) (y : List UInt8) (h : octs_Hex N b0 = some y) : CallsK Tryd.prog 24 (valA [(.sl (.int .u8))] (b0, ())) (tupV (valR [.str] y)) := runK_ok hmx (Ev40_ok N _) (okFn_ok (by kernel_rfl)) (by rw [octs_Hex_S]; exact h)
noncomputable def Ev41 : (R : Type) → Env R := Env.addFn (Ev40 N) 24 (fun R => fnK [(.sl (.int .u8))] [.str] (fun c => octs_Hex N c.1))
theorem Ev41_ok (R : Type) : EnvOK Tryd.prog (Ev41 N R) := EnvOK.addFn hmx (Ev40_ok N R) (Ev40_ok N _) (by kernel_rfl) (fun c => octs_Hex_S N c.1)
noncomputable def ref01_Hex_L4_I : LI := ⟨40, 0, [], ⟨[(0, .ty (.sl (.int .u8))), (3, .ty .str), (4, .ty .str), (5, .ty (.int .i64))], []⟩, [(.exit 0, ⟨[(4, .ty .str)], []⟩)]⟩
noncomputable def ref01_Hex_L4 (N : Nat) (X : (((List Int) × (List UInt8 × (List UInt8 × (Int × Unit)))) × Unit) → Option (((List UInt8 × Unit) × Unit))) (b0 : List (Int)) (all3 : List UInt8) (s4 : List UInt8) (i5 : Int) : Option (((List UInt8 × Unit) × Unit)) :=
 bif (decide (i5 < (((List.length b0) : Nat) : Int))) then
  Option.bind (getI b0 i5) fun (v6 : Int) =>
  Option.bind (getI b0 i5) fun (v7 : Int) =>
  Option.bind (subI all3 (IntKind.wrap .i64 (IntKind.wrap .u8 (@Int.tdiv v6 (16 : Int)))) (IntKind.wrap .i64 ((IntKind.wrap .i64 (IntKind.wrap .u8 (@Int.tdiv v6 (16 : Int)))) + 1))) fun (v8 : (List UInt8)) =>
  Option.bind (subI all3 (IntKind.wrap .i64 (@Int.tmod v7 (16 : Int))) (IntKind.wrap .i64 ((IntKind.wrap .i64 (@Int.tmod v7 (16 : Int))) + 1))) fun (v9 : (List UInt8)) =>
  bif (decide (((List.length v8) + (List.length v9)) ≤ maxLen)) then
   bif (decide (((List.length s4) + (List.length (v8 ++ v9))) ≤ maxLen)) then
    (X ((b0, (all3, ((s4 ++ (v8 ++ v9)), ((IntKind.wrap .i64 (i5 + 1)), ())))), ()))
   else
    none
  else
   none
 else
  some (((s4, ()), ()))
noncomputable def ref01_Hex_L4_R (c : (((List Int) × (List UInt8 × (List UInt8 × (Int × Unit)))) × Unit)) : Option (((List UInt8 × Unit) × Unit)) := gl (fun X c => ref01_Hex_L4 N X c.1.1 c.1.2.1 c.1.2.2.1 c.1.2.2.2.1) N c
theorem ref01_Hex_L4_S (X : (((List Int) × (List UInt8 × (List UInt8 × (Int × Unit)))) × Unit) → Option (((List UInt8 × Unit) × Unit))) (b0 : List (Int)) (all3 : List UInt8) (s4 : List UInt8) (i5 : Int) : (roundK Tryd.prog (Ev41 N) 400 [25] ref01_Hex_L4_I (loopAt Tryd.prog [25] 4) X ((b0, all3, s4, i5, ()), ())).run = ref01_Hex_L4 N X b0 all3 s4 i5 := by kernel_rfl
noncomputable def Ev42 : (R : Type) → Env R := Env.addLp (Ev41 N) [25] 0 4 (fun R => lpK Tryd.prog ref01_Hex_L4_I (fun X c => ref01_Hex_L4 N X c.1.1 c.1.2.1 c.1.2.2.1 c.1.2.2.2.1) N)
theorem Ev42_ok (R : Type) : EnvOK Tryd.prog (Ev42 N R) := EnvOK.addLp (Ev41_ok N R) (by kernel_rfl) (lpK_ok (li := ref01_Hex_L4_I) (G := fun X c => ref01_Hex_L4 N X c.1.1 c.1.2.1 c.1.2.2.1 c.1.2.2.2.1) hmx (Ev41_ok N _) (by kernel_rfl) loopAt_sub (fun (X : CT ref01_Hex_L4_I.sh → Option (OT ref01_Hex_L4_I.outs)) (c : CT ref01_Hex_L4_I.sh) => ref01_Hex_L4_S N X c.1.1 c.1.2.1 c.1.2.2.1 c.1.2.2.2.1) N)
noncomputable def ref01_Hex (b0 : List (Int)) : Option (List UInt8) :=
 Option.bind (ref01_Hex_L4_R N ((b0, ((Array.toList (List.toArray ([48, 49, 50, 51, 52, 53, 54, 55, 56, 57, 65, 66, 67, 68, 69, 70] : List UInt8))), ((Array.toList (List.toArray ([] : List UInt8))), ((0 : Int), ())))), ())) fun v2 =>
 some (v2.1.1)
theorem ref01_Hex_S (b0 : List (Int)) : (runK Tryd.prog (Ev42 N) 400 25 [(.sl (.int .u8))] [.str] (b0, ())).run = ref01_Hex N b0 := by kernel_rfl
theorem ref01_Hex_C (b0 : List (Int)) (y : List UInt8) (h : ref01_Hex N b0 = some y) : CallsK Tryd.prog 25 (valA [(.sl (.int .u8))] (b0, ())) (tupV (valR [.str] y)) := runK_ok hmx (Ev42_ok N _) (okFn_ok (by kernel_rfl)) (by rw [ref01_Hex_S]; exact h)
noncomputable def Ev43 : (R : Type) → Env R := Env.addFn (Ev42 N) 25 (fun R => fnK [(.sl (.int .u8))] [.str] (fun c => ref01_Hex N c.1))
theorem Ev43_ok (R : Type) : EnvOK Tryd.prog (Ev43 N R) := EnvOK.addFn hmx (Ev42_ok N R) (Ev42_ok N _) (by kernel_rfl) (fun c => ref01_Hex_S N c.1)
noncomputable def httpq_isHost_L2_I : LI := ⟨26, 0, [], ⟨[(0, .ty .str), (6, .ty (.sl (.int .u8))), (7, .ty (.int .i64)), (8, .ty (.int .i64))], []⟩, [(.ret, ⟨[(2, .ty .bool)], []⟩), (.exit 0, ⟨[(0, .ty .str)], []⟩)]⟩
noncomputable def httpq_isHost_L2 (N : Nat) (X : ((List UInt8 × ((List Int) × (Int × (Int × Unit)))) × Unit) → Option ((((Bool × Unit) × Unit) ⊕ ((List UInt8 × Unit) × Unit)))) (s0 : List UInt8) (x6 : List (Int)) (x7 : Int) (x8 : Int) : Option ((((Bool × Unit) × Unit) ⊕ ((List UInt8 × Unit) × Unit))) :=
 bif (decide (x8 < x7)) then
  Option.bind (getI x6 x8) fun (v6 : Int) =>
  Option.bind (bif (decide (v6 < (33 : Int))) then
    some (true)
   else
    some ((cond false true (decide ((126 : Int) < v6))))) fun (v7 : Bool) =>
  bif v7 then
   some ((.inl ((false, ()), ())))
  else
   (X ((s0, (x6, (x7, ((IntKind.wrap .i64 (x8 + 1)), ())))), ()))
 else
  some ((.inr ((s0, ()), ())))
noncomputable def httpq_isHost_L2_R (c : ((List UInt8 × ((List Int) × (Int × (Int × Unit)))) × Unit)) : Option ((((Bool × Unit) × Unit) ⊕ ((List UInt8 × Unit) × Unit))) := gl (fun X c => httpq_isHost_L2 N X c.1.1 c.1.2.1 c.1.2.2.1 c.1.2.2.2.1) N c
theorem httpq_isHost_L2_S (X : ((List UInt8 × ((List Int) × (Int × (Int × Unit)))) × Unit) → Option ((((Bool × Unit) × Unit) ⊕ ((List UInt8 × Unit) × Unit)))) (s0 : List UInt8) (x6 : List (Int)) (x7 : Int) (x8 : Int) : (roundK Tryd.prog (Ev43 N) 400 [18] httpq_isHost_L2_I (loopAt Tryd.prog [18] 2) X ((s0, x6, x7, x8, ()), ())).run = httpq_isHost_L2 N X s0 x6 x7 x8 := by kernel_rfl
noncomputable def Ev44 : (R : Type) → Env R := Env.addLp (Ev43 N) [18] 0 2 (fun R => lpK Tryd.prog httpq_isHost_L2_I (fun X c => httpq_isHost_L2 N X c.1.1 c.1.2.1 c.1.2.2.1 c.1.2.2.2.1) N)
theorem Ev44_ok (R : Type) : EnvOK Tryd.prog (Ev44 N R) := EnvOK.addLp (Ev43_ok N R) (by kernel_rfl) (lpK_ok (li := httpq_isHost_L2_I) (G := fun X c => httpq_isHost_L2 N X c.1.1 c.1.2.1 c.1.2.2.1 c.1.2.2.2.1) hmx (Ev43_ok N _) (by kernel_rfl) loopAt_sub (fun (X : CT httpq_isHost_L2_I.sh → Option (OT httpq_isHost_L2_I.outs)) (c : CT httpq_isHost_L2_I.sh) => httpq_isHost_L2_S N X c.1.1 c.1.2.1 c.1.2.2.1 c.1.2.2.2.1) N)
noncomputable def httpq_isHost (s0 : List UInt8) : Option Bool :=
 bif (roomB (List.length s0) 1) then
  Option.bind (httpq_isHost_L2_R N ((s0, ((@ofB s0), ((((List.length (@ofB s0)) : Nat) : Int), ((0 : Int), ())))), ())) fun v2 =>
  Sum.elim
   (fun (v3 : ((Bool × Unit) × Unit)) =>
   some (v3.1.1))
   (fun (v3 : ((List UInt8 × Unit) × Unit)) =>
   bif (!(decide (v3.1.1 = (Array.toList (List.toArray ([] : List UInt8)))))) then
    Option.bind (some ((cond true (decide ((((List.length v3.1.1) : Nat) : Int) ≤ (255 : Int))) false))) fun (v4 : Bool) =>
    some (v4)
   else
    Option.bind (some (false)) fun (v4 : Bool) =>
    some (v4)) v2
 else
  none
theorem httpq_isHost_S (s0 : List UInt8) : (runK Tryd.prog (Ev44 N) 400 18 [.str] [.bool] (s0, ())).run = httpq_isHost N s0 := by kernel_rfl
theorem httpq_isHost_C (s0 : List UInt8) (y : Bool) (h : httpq_isHost N s0 = some y) : CallsK Tryd.prog 18 (valA [.str] (s0, ())) (tupV (valR [.bool] y)) := runK_ok hmx (Ev44_ok N _) (okFn_ok (by kernel_rfl)) (by rw [httpq_isHost_S]; exact h)
noncomputable def Ev45 : (R : Type) → Env R := Env.addFn (Ev44 N) 18 (fun R => fnK [.str] [.bool] (fun c => httpq_isHost N c.1))
theorem Ev45_ok (R : Type) : EnvOK Tryd.prog (Ev45 N R) := EnvOK.addFn hmx (Ev44_ok N R) (Ev44_ok N _) (by kernel_rfl) (fun c => httpq_isHost_S N c.1)
noncomputable def httpq_line (N : Nat) (name0 : List UInt8) (value1 : List UInt8) : Option (List UInt8) :=
 bif (decide (((List.length name0) + (List.length (Array.toList (List.toArray ([58, 32] : List UInt8))))) ≤ maxLen)) then
  bif (decide (((List.length (name0 ++ (Array.toList (List.toArray ([58, 32] : List UInt8))))) + (List.length value1)) ≤ maxLen)) then
   bif (decide (((List.length ((name0 ++ (Array.toList (List.toArray ([58, 32] : List UInt8)))) ++ value1)) + (List.length (Array.toList (List.toArray ([13, 10] : List UInt8))))) ≤ maxLen)) then
    some ((((name0 ++ (Array.toList (List.toArray ([58, 32] : List UInt8)))) ++ value1) ++ (Array.toList (List.toArray ([13, 10] : List UInt8)))))
   else
    none
  else
   none
 else
  none
theorem httpq_line_S (name0 : List UInt8) (value1 : List UInt8) : (runK Tryd.prog (Ev45 N) 400 19 [.str, .str] [.str] (name0, value1, ())).run = httpq_line N name0 value1 := by kernel_rfl
theorem httpq_line_C (name0 : List UInt8) (value1 : List UInt8) (y : List UInt8) (h : httpq_line N name0 value1 = some y) : CallsK Tryd.prog 19 (valA [.str, .str] (name0, value1, ())) (tupV (valR [.str] y)) := runK_ok hmx (Ev45_ok N _) (okFn_ok (by kernel_rfl)) (by rw [httpq_line_S]; exact h)
noncomputable def Ev46 : (R : Type) → Env R := Env.addFn (Ev45 N) 19 (fun R => fnK [.str, .str] [.str] (fun c => httpq_line N c.1 c.2.1))
theorem Ev46_ok (R : Type) : EnvOK Tryd.prog (Ev46 N R) := EnvOK.addFn hmx (Ev45_ok N R) (Ev45_ok N _) (by kernel_rfl) (fun c => httpq_line_S N c.1 c.2.1)
noncomputable def Ev47 : (R : Type) → Env R := Env.addBx (Ev46 N) [(12, 0)]
theorem Ev47_ok (R : Type) : EnvOK Tryd.prog (Ev47 N R) := EnvOK.addBx (Ev46_ok N R) [(12, 0)]
noncomputable def httpq_Guid (id0 : Arr Int 16) : Option (List UInt8) :=
 Option.bind (octs_Hex N id0.l) fun v2 =>
 Option.bind (takeI v2 (8 : Int)) fun (v3 : (List UInt8)) =>
 bif (decide (((List.length (Array.toList (List.toArray ([123] : List UInt8)))) + (List.length v3)) ≤ maxLen)) then
  bif (decide (((List.length ((Array.toList (List.toArray ([123] : List UInt8))) ++ v3)) + (List.length (Array.toList (List.toArray ([45] : List UInt8))))) ≤ maxLen)) then
   Option.bind (subI v2 (8 : Int) (12 : Int)) fun (v4 : (List UInt8)) =>
   bif (decide (((List.length (((Array.toList (List.toArray ([123] : List UInt8))) ++ v3) ++ (Array.toList (List.toArray ([45] : List UInt8))))) + (List.length v4)) ≤ maxLen)) then
    bif (decide (((List.length ((((Array.toList (List.toArray ([123] : List UInt8))) ++ v3) ++ (Array.toList (List.toArray ([45] : List UInt8)))) ++ v4)) + (List.length (Array.toList (List.toArray ([45] : List UInt8))))) ≤ maxLen)) then
     Option.bind (subI v2 (12 : Int) (16 : Int)) fun (v5 : (List UInt8)) =>
     bif (decide (((List.length (((((Array.toList (List.toArray ([123] : List UInt8))) ++ v3) ++ (Array.toList (List.toArray ([45] : List UInt8)))) ++ v4) ++ (Array.toList (List.toArray ([45] : List UInt8))))) + (List.length v5)) ≤ maxLen)) then
      bif (decide (((List.length ((((((Array.toList (List.toArray ([123] : List UInt8))) ++ v3) ++ (Array.toList (List.toArray ([45] : List UInt8)))) ++ v4) ++ (Array.toList (List.toArray ([45] : List UInt8)))) ++ v5)) + (List.length (Array.toList (List.toArray ([45] : List UInt8))))) ≤ maxLen)) then
       Option.bind (subI v2 (16 : Int) (20 : Int)) fun (v6 : (List UInt8)) =>
       bif (decide (((List.length (((((((Array.toList (List.toArray ([123] : List UInt8))) ++ v3) ++ (Array.toList (List.toArray ([45] : List UInt8)))) ++ v4) ++ (Array.toList (List.toArray ([45] : List UInt8)))) ++ v5) ++ (Array.toList (List.toArray ([45] : List UInt8))))) + (List.length v6)) ≤ maxLen)) then
        bif (decide (((List.length ((((((((Array.toList (List.toArray ([123] : List UInt8))) ++ v3) ++ (Array.toList (List.toArray ([45] : List UInt8)))) ++ v4) ++ (Array.toList (List.toArray ([45] : List UInt8)))) ++ v5) ++ (Array.toList (List.toArray ([45] : List UInt8)))) ++ v6)) + (List.length (Array.toList (List.toArray ([45] : List UInt8))))) ≤ maxLen)) then
         Option.bind (dropI v2 (20 : Int)) fun (v7 : (List UInt8)) =>
         bif (decide (((List.length (((((((((Array.toList (List.toArray ([123] : List UInt8))) ++ v3) ++ (Array.toList (List.toArray ([45] : List UInt8)))) ++ v4) ++ (Array.toList (List.toArray ([45] : List UInt8)))) ++ v5) ++ (Array.toList (List.toArray ([45] : List UInt8)))) ++ v6) ++ (Array.toList (List.toArray ([45] : List UInt8))))) + (List.length v7)) ≤ maxLen)) then
          bif (decide (((List.length ((((((((((Array.toList (List.toArray ([123] : List UInt8))) ++ v3) ++ (Array.toList (List.toArray ([45] : List UInt8)))) ++ v4) ++ (Array.toList (List.toArray ([45] : List UInt8)))) ++ v5) ++ (Array.toList (List.toArray ([45] : List UInt8)))) ++ v6) ++ (Array.toList (List.toArray ([45] : List UInt8)))) ++ v7)) + (List.length (Array.toList (List.toArray ([125] : List UInt8))))) ≤ maxLen)) then
           some ((((((((((((Array.toList (List.toArray ([123] : List UInt8))) ++ v3) ++ (Array.toList (List.toArray ([45] : List UInt8)))) ++ v4) ++ (Array.toList (List.toArray ([45] : List UInt8)))) ++ v5) ++ (Array.toList (List.toArray ([45] : List UInt8)))) ++ v6) ++ (Array.toList (List.toArray ([45] : List UInt8)))) ++ v7) ++ (Array.toList (List.toArray ([125] : List UInt8)))))
          else
           none
         else
          none
        else
         none
       else
        none
      else
       none
     else
      none
    else
     none
   else
    none
  else
   none
 else
  none
theorem httpq_Guid_S (id0 : Arr Int 16) : (runK Tryd.prog (Ev47 N) 400 12 [(.arr 16 (.int .u8))] [.str] (id0, ())).run = httpq_Guid N id0 := by kernel_rfl
theorem httpq_Guid_C (id0 : Arr Int 16) (y : List UInt8) (h : httpq_Guid N id0 = some y) : CallsK Tryd.prog 12 (valA [(.arr 16 (.int .u8))] (id0, ())) (tupV (valR [.str] y)) := runK_ok hmx (Ev47_ok N _) (okFn_ok (by kernel_rfl)) (by rw [httpq_Guid_S]; exact h)
noncomputable def Ev48 : (R : Type) → Env R := Env.addFn (Ev47 N) 12 (fun R => fnK [(.arr 16 (.int .u8))] [.str] (fun c => httpq_Guid N c.1))
theorem Ev48_ok (R : Type) : EnvOK Tryd.prog (Ev48 N R) := EnvOK.addFn hmx (Ev47_ok N R) (Ev47_ok N _) (by kernel_rfl) (fun c => httpq_Guid_S N c.1)
noncomputable def Ev49 : (R : Type) → Env R := Env.addFn (Ev48 N) 21 (fun R => uhK)
theorem Ev49_ok (R : Type) : EnvOK Tryd.prog (Ev49 N R) := EnvOK.addExt (Ev48_ok N R) uh_ok
noncomputable def httpq_Id (s0 : List UInt8) : Option ((Arr Int 16) × Int) :=
 bif (!(decide ((((List.length s0) : Nat) : Int) = (38 : Int)))) then
  some (((@Arr.cons Int 15 0 (@Arr.cons Int 14 0 (@Arr.cons Int 13 0 (@Arr.cons Int 12 0 (@Arr.cons Int 11 0 (@Arr.cons Int 10 0 (@Arr.cons Int 9 0 (@Arr.cons Int 8 0 (@Arr.cons Int 7 0 (@Arr.cons Int 6 0 (@Arr.cons Int 5 0 (@Arr.cons Int 4 0 (@Arr.cons Int 3 0 (@Arr.cons Int 2 0 (@Arr.cons Int 1 0 (@Arr.cons Int 0 0 (@Arr.nil Int))))))))))))))))), (3 : Int)))
 else
  Option.bind (subI s0 (1 : Int) (9 : Int)) fun (v2 : (List UInt8)) =>
  Option.bind (subI s0 (10 : Int) (14 : Int)) fun (v3 : (List UInt8)) =>
  bif (decide (((List.length v2) + (List.length v3)) ≤ maxLen)) then
   Option.bind (subI s0 (15 : Int) (19 : Int)) fun (v4 : (List UInt8)) =>
   bif (decide (((List.length (v2 ++ v3)) + (List.length v4)) ≤ maxLen)) then
    Option.bind (subI s0 (20 : Int) (24 : Int)) fun (v5 : (List UInt8)) =>
    bif (decide (((List.length ((v2 ++ v3) ++ v4)) + (List.length v5)) ≤ maxLen)) then
     Option.bind (subI s0 (25 : Int) (37 : Int)) fun (v6 : (List UInt8)) =>
     bif (decide (((List.length (((v2 ++ v3) ++ v4) ++ v5)) + (List.length v6)) ≤ maxLen)) then
      bif (decide ((List.length ((((v2 ++ v3) ++ v4) ++ v5) ++ v6)) ≤ (1000000 : Nat))) then
       bif (!(decide ((@unhexE ((((v2 ++ v3) ++ v4) ++ v5) ++ v6)) = (0 : Int)))) then
        some (((@Arr.cons Int 15 0 (@Arr.cons Int 14 0 (@Arr.cons Int 13 0 (@Arr.cons Int 12 0 (@Arr.cons Int 11 0 (@Arr.cons Int 10 0 (@Arr.cons Int 9 0 (@Arr.cons Int 8 0 (@Arr.cons Int 7 0 (@Arr.cons Int 6 0 (@Arr.cons Int 5 0 (@Arr.cons Int 4 0 (@Arr.cons Int 3 0 (@Arr.cons Int 2 0 (@Arr.cons Int 1 0 (@Arr.cons Int 0 0 (@Arr.nil Int))))))))))))))))), (3 : Int)))
       else
        Option.bind (@toArr Int (16 : Nat) (@unhexR ((((v2 ++ v3) ++ v4) ++ v5) ++ v6))) fun (v7 : (Arr Int 16)) =>
        Option.bind (httpq_Guid N v7) fun v8 =>
        Option.bind (words_Alike N s0 v8) fun v9 =>
        bif (!v9) then
         some (((@Arr.cons Int 15 0 (@Arr.cons Int 14 0 (@Arr.cons Int 13 0 (@Arr.cons Int 12 0 (@Arr.cons Int 11 0 (@Arr.cons Int 10 0 (@Arr.cons Int 9 0 (@Arr.cons Int 8 0 (@Arr.cons Int 7 0 (@Arr.cons Int 6 0 (@Arr.cons Int 5 0 (@Arr.cons Int 4 0 (@Arr.cons Int 3 0 (@Arr.cons Int 2 0 (@Arr.cons Int 1 0 (@Arr.cons Int 0 0 (@Arr.nil Int))))))))))))))))), (3 : Int)))
        else
         some ((v7, (0 : Int)))
      else
       none
     else
      none
    else
     none
   else
    none
  else
   none
theorem httpq_Id_S (s0 : List UInt8) : (runK Tryd.prog (Ev49 N) 400 9 [.str] [(.arr 16 (.int .u8)), (.int .i64)] (s0, ())).run = httpq_Id N s0 := by kernel_rfl
theorem httpq_Id_C (s0 : List UInt8) (y : (Arr Int 16) × Int) (h : httpq_Id N s0 = some y) : CallsK Tryd.prog 9 (valA [.str] (s0, ())) (tupV (valR [(.arr 16 (.int .u8)), (.int .i64)] y)) := runK_ok hmx (Ev49_ok N _) (okFn_ok (by kernel_rfl)) (by rw [httpq_Id_S]; exact h)
noncomputable def Ev50 : (R : Type) → Env R := Env.addFn (Ev49 N) 9 (fun R => fnK [.str] [(.arr 16 (.int .u8)), (.int .i64)] (fun c => httpq_Id N c.1))
theorem Ev50_ok (R : Type) : EnvOK Tryd.prog (Ev50 N R) := EnvOK.addFn hmx (Ev49_ok N R) (Ev49_ok N _) (by kernel_rfl) (fun c => httpq_Id_S N c.1)
noncomputable def Ev51 : (R : Type) → Env R := Env.addBx (Ev50 N) [(7, 0)]
theorem Ev51_ok (R : Type) : EnvOK Tryd.prog (Ev51 N R) := EnvOK.addBx (Ev50_ok N R) [(7, 0)]
noncomputable def httpq_Lay (r0 : List UInt8 × (List UInt8)) : Option ((List Int) × Int) :=
 Option.bind (httpq_isHost N r0.1) fun v2 =>
 bif (!v2) then
  some ((([] : List Int), (3 : Int)))
 else
  Option.bind (httpq_line N (Array.toList (List.toArray ([72, 111, 115, 116] : List UInt8))) r0.1) fun v3 =>
  bif (decide (((List.length (Array.toList (List.toArray (@List.append UInt8 ([83, 83, 84, 80, 95, 68, 85, 80, 76, 69, 88, 95, 80, 79, 83, 84, 32, 47, 115, 114, 97, 95, 123, 66, 65, 49, 57, 53, 57, 56, 48, 45, 67, 68, 52, 57] : List UInt8) ([45, 52, 53, 56, 98, 45, 57, 69, 50, 51, 45, 67, 56, 52, 69, 69, 48, 65, 68, 67, 68, 55, 53, 125, 47, 32, 72, 84, 84, 80, 47, 49, 46, 49, 13, 10] : List UInt8))))) + (List.length v3)) ≤ maxLen)) then
   bif (decide (((List.length ((Array.toList (List.toArray (@List.append UInt8 ([83, 83, 84, 80, 95, 68, 85, 80, 76, 69, 88, 95, 80, 79, 83, 84, 32, 47, 115, 114, 97, 95, 123, 66, 65, 49, 57, 53, 57, 56, 48, 45, 67, 68, 52, 57] : List UInt8) ([45, 52, 53, 56, 98, 45, 57, 69, 50, 51, 45, 67, 56, 52, 69, 69, 48, 65, 68, 67, 68, 55, 53, 125, 47, 32, 72, 84, 84, 80, 47, 49, 46, 49, 13, 10] : List UInt8)))) ++ v3)) + (List.length ((((Array.toList (List.toArray ([67, 111, 110, 116, 101, 110, 116, 45, 76, 101, 110, 103, 116, 104] : List UInt8))) ++ (Array.toList (List.toArray ([58, 32] : List UInt8)))) ++ (Array.toList (List.toArray ([49, 56, 52, 52, 54, 55, 52, 52, 48, 55, 51, 55, 48, 57, 53, 53, 49, 54, 49, 53] : List UInt8)))) ++ (Array.toList (List.toArray ([13, 10] : List UInt8)))))) ≤ maxLen)) then
    bif (!(decide (r0.2 = (Array.toList (List.toArray ([] : List UInt8)))))) then
     Option.bind (httpq_Id N r0.2) fun v4 =>
     bif (!(decide (v4.2 = (0 : Int)))) then
      some ((([] : List Int), v4.2))
     else
      Option.bind (httpq_line N (Array.toList (List.toArray ([83, 83, 84, 80, 67, 79, 82, 82, 69, 76, 65, 84, 73, 79, 78, 73, 68] : List UInt8))) r0.2) fun v5 =>
      bif (decide (((List.length (((Array.toList (List.toArray (@List.append UInt8 ([83, 83, 84, 80, 95, 68, 85, 80, 76, 69, 88, 95, 80, 79, 83, 84, 32, 47, 115, 114, 97, 95, 123, 66, 65, 49, 57, 53, 57, 56, 48, 45, 67, 68, 52, 57] : List UInt8) ([45, 52, 53, 56, 98, 45, 57, 69, 50, 51, 45, 67, 56, 52, 69, 69, 48, 65, 68, 67, 68, 55, 53, 125, 47, 32, 72, 84, 84, 80, 47, 49, 46, 49, 13, 10] : List UInt8)))) ++ v3) ++ ((((Array.toList (List.toArray ([67, 111, 110, 116, 101, 110, 116, 45, 76, 101, 110, 103, 116, 104] : List UInt8))) ++ (Array.toList (List.toArray ([58, 32] : List UInt8)))) ++ (Array.toList (List.toArray ([49, 56, 52, 52, 54, 55, 52, 52, 48, 55, 51, 55, 48, 57, 53, 53, 49, 54, 49, 53] : List UInt8)))) ++ (Array.toList (List.toArray ([13, 10] : List UInt8)))))) + (List.length v5)) ≤ maxLen)) then
       bif (decide (((List.length ((((Array.toList (List.toArray (@List.append UInt8 ([83, 83, 84, 80, 95, 68, 85, 80, 76, 69, 88, 95, 80, 79, 83, 84, 32, 47, 115, 114, 97, 95, 123, 66, 65, 49, 57, 53, 57, 56, 48, 45, 67, 68, 52, 57] : List UInt8) ([45, 52, 53, 56, 98, 45, 57, 69, 50, 51, 45, 67, 56, 52, 69, 69, 48, 65, 68, 67, 68, 55, 53, 125, 47, 32, 72, 84, 84, 80, 47, 49, 46, 49, 13, 10] : List UInt8)))) ++ v3) ++ ((((Array.toList (List.toArray ([67, 111, 110, 116, 101, 110, 116, 45, 76, 101, 110, 103, 116, 104] : List UInt8))) ++ (Array.toList (List.toArray ([58, 32] : List UInt8)))) ++ (Array.toList (List.toArray ([49, 56, 52, 52, 54, 55, 52, 52, 48, 55, 51, 55, 48, 57, 53, 53, 49, 54, 49, 53] : List UInt8)))) ++ (Array.toList (List.toArray ([13, 10] : List UInt8))))) ++ v5)) + (List.length (Array.toList (List.toArray ([13, 10] : List UInt8))))) ≤ maxLen)) then
        bif (roomB (List.length (((((Array.toList (List.toArray (@List.append UInt8 ([83, 83, 84, 80, 95, 68, 85, 80, 76, 69, 88, 95, 80, 79, 83, 84, 32, 47, 115, 114, 97, 95, 123, 66, 65, 49, 57, 53, 57, 56, 48, 45, 67, 68, 52, 57] : List UInt8) ([45, 52, 53, 56, 98, 45, 57, 69, 50, 51, 45, 67, 56, 52, 69, 69, 48, 65, 68, 67, 68, 55, 53, 125, 47, 32, 72, 84, 84, 80, 47, 49, 46, 49, 13, 10] : List UInt8)))) ++ v3) ++ ((((Array.toList (List.toArray ([67, 111, 110, 116, 101, 110, 116, 45, 76, 101, 110, 103, 116, 104] : List UInt8))) ++ (Array.toList (List.toArray ([58, 32] : List UInt8)))) ++ (Array.toList (List.toArray ([49, 56, 52, 52, 54, 55, 52, 52, 48, 55, 51, 55, 48, 57, 53, 53, 49, 54, 49, 53] : List UInt8)))) ++ (Array.toList (List.toArray ([13, 10] : List UInt8))))) ++ v5) ++ (Array.toList (List.toArray ([13, 10] : List UInt8))))) 1) then
         some (((@ofB (((((Array.toList (List.toArray (@List.append UInt8 ([83, 83, 84, 80, 95, 68, 85, 80, 76, 69, 88, 95, 80, 79, 83, 84, 32, 47, 115, 114, 97, 95, 123, 66, 65, 49, 57, 53, 57, 56, 48, 45, 67, 68, 52, 57] : List UInt8) ([45, 52, 53, 56, 98, 45, 57, 69, 50, 51, 45, 67, 56, 52, 69, 69, 48, 65, 68, 67, 68, 55, 53, 125, 47, 32, 72, 84, 84, 80, 47, 49, 46, 49, 13, 10] : List UInt8)))) ++ v3) ++ ((((Array.toList (List.toArray ([67, 111, 110, 116, 101, 110, 116, 45, 76, 101, 110, 103, 116, 104] : List UInt8))) ++ (Array.toList (List.toArray ([58, 32] : List UInt8)))) ++ (Array.toList (List.toArray ([49, 56, 52, 52, 54, 55, 52, 52, 48, 55, 51, 55, 48, 57, 53, 53, 49, 54, 49, 53] : List UInt8)))) ++ (Array.toList (List.toArray ([13, 10] : List UInt8))))) ++ v5) ++ (Array.toList (List.toArray ([13, 10] : List UInt8))))), (0 : Int)))
        else
         none
       else
        none
      else
       none
    else
     bif (decide (((List.length (((Array.toList (List.toArray (@List.append UInt8 ([83, 83, 84, 80, 95, 68, 85, 80, 76, 69, 88, 95, 80, 79, 83, 84, 32, 47, 115, 114, 97, 95, 123, 66, 65, 49, 57, 53, 57, 56, 48, 45, 67, 68, 52, 57] : List UInt8) ([45, 52, 53, 56, 98, 45, 57, 69, 50, 51, 45, 67, 56, 52, 69, 69, 48, 65, 68, 67, 68, 55, 53, 125, 47, 32, 72, 84, 84, 80, 47, 49, 46, 49, 13, 10] : List UInt8)))) ++ v3) ++ ((((Array.toList (List.toArray ([67, 111, 110, 116, 101, 110, 116, 45, 76, 101, 110, 103, 116, 104] : List UInt8))) ++ (Array.toList (List.toArray ([58, 32] : List UInt8)))) ++ (Array.toList (List.toArray ([49, 56, 52, 52, 54, 55, 52, 52, 48, 55, 51, 55, 48, 57, 53, 53, 49, 54, 49, 53] : List UInt8)))) ++ (Array.toList (List.toArray ([13, 10] : List UInt8)))))) + (List.length (Array.toList (List.toArray ([13, 10] : List UInt8))))) ≤ maxLen)) then
      bif (roomB (List.length ((((Array.toList (List.toArray (@List.append UInt8 ([83, 83, 84, 80, 95, 68, 85, 80, 76, 69, 88, 95, 80, 79, 83, 84, 32, 47, 115, 114, 97, 95, 123, 66, 65, 49, 57, 53, 57, 56, 48, 45, 67, 68, 52, 57] : List UInt8) ([45, 52, 53, 56, 98, 45, 57, 69, 50, 51, 45, 67, 56, 52, 69, 69, 48, 65, 68, 67, 68, 55, 53, 125, 47, 32, 72, 84, 84, 80, 47, 49, 46, 49, 13, 10] : List UInt8)))) ++ v3) ++ ((((Array.toList (List.toArray ([67, 111, 110, 116, 101, 110, 116, 45, 76, 101, 110, 103, 116, 104] : List UInt8))) ++ (Array.toList (List.toArray ([58, 32] : List UInt8)))) ++ (Array.toList (List.toArray ([49, 56, 52, 52, 54, 55, 52, 52, 48, 55, 51, 55, 48, 57, 53, 53, 49, 54, 49, 53] : List UInt8)))) ++ (Array.toList (List.toArray ([13, 10] : List UInt8))))) ++ (Array.toList (List.toArray ([13, 10] : List UInt8))))) 1) then
       some (((@ofB ((((Array.toList (List.toArray (@List.append UInt8 ([83, 83, 84, 80, 95, 68, 85, 80, 76, 69, 88, 95, 80, 79, 83, 84, 32, 47, 115, 114, 97, 95, 123, 66, 65, 49, 57, 53, 57, 56, 48, 45, 67, 68, 52, 57] : List UInt8) ([45, 52, 53, 56, 98, 45, 57, 69, 50, 51, 45, 67, 56, 52, 69, 69, 48, 65, 68, 67, 68, 55, 53, 125, 47, 32, 72, 84, 84, 80, 47, 49, 46, 49, 13, 10] : List UInt8)))) ++ v3) ++ ((((Array.toList (List.toArray ([67, 111, 110, 116, 101, 110, 116, 45, 76, 101, 110, 103, 116, 104] : List UInt8))) ++ (Array.toList (List.toArray ([58, 32] : List UInt8)))) ++ (Array.toList (List.toArray ([49, 56, 52, 52, 54, 55, 52, 52, 48, 55, 51, 55, 48, 57, 53, 53, 49, 54, 49, 53] : List UInt8)))) ++ (Array.toList (List.toArray ([13, 10] : List UInt8))))) ++ (Array.toList (List.toArray ([13, 10] : List UInt8))))), (0 : Int)))
      else
       none
     else
      none
   else
    none
  else
   none
theorem httpq_Lay_S (r0 : List UInt8 × (List UInt8)) : (runK Tryd.prog (Ev51 N) 400 7 [(.pair .str .str)] [(.sl (.int .u8)), (.int .i64)] (r0, ())).run = httpq_Lay N r0 := by kernel_rfl
theorem httpq_Lay_C (r0 : List UInt8 × (List UInt8)) (y : (List Int) × Int) (h : httpq_Lay N r0 = some y) : CallsK Tryd.prog 7 (valA [(.pair .str .str)] (r0, ())) (tupV (valR [(.sl (.int .u8)), (.int .i64)] y)) := runK_ok hmx (Ev51_ok N _) (okFn_ok (by kernel_rfl)) (by rw [httpq_Lay_S]; exact h)
noncomputable def Ev52 : (R : Type) → Env R := Env.addFn (Ev51 N) 7 (fun R => fnK [(.pair .str .str)] [(.sl (.int .u8)), (.int .i64)] (fun c => httpq_Lay N c.1))
theorem Ev52_ok (R : Type) : EnvOK Tryd.prog (Ev52 N R) := EnvOK.addFn hmx (Ev51_ok N R) (Ev51_ok N _) (by kernel_rfl) (fun c => httpq_Lay_S N c.1)
noncomputable def Ev53 : (R : Type) → Env R := Env.addMv (Ev52 N) [(38, 5)]
theorem Ev53_ok (R : Type) : EnvOK Tryd.prog (Ev53 N R) := EnvOK.addMv (Ev52_ok N R) [(38, 5)]
noncomputable def httpq_parts_L2_I : LI := ⟨23, 0, [(3, 9)], ⟨[(0, .ty .str), (3, .lit (.own 0))], [.own .str 9]⟩, [(.ret, ⟨[(2, .ty (.sl .str))], []⟩), (.exit 0, ⟨[(3, .lit (.own 0))], [.own .str 9]⟩)]⟩
noncomputable def httpq_parts_L2 (N : Nat) (X : ((List UInt8 × Unit) × ((List (List UInt8)) × Unit)) → Option (((((List (List UInt8)) × Unit) × Unit) ⊕ (Unit × ((List (List UInt8)) × Unit))))) (line0 : List UInt8) (h0 : List (List UInt8)) : Option (((((List (List UInt8)) × Unit) × Unit) ⊕ (Unit × ((List (List UInt8)) × Unit)))) :=
 Option.bind (some ((cond false true (decide ((Array.toList (List.toArray ([32] : List UInt8))) = line0))))) fun (v4 : Bool) =>
 bif v4 then
  Option.bind (dropI line0 (IntKind.wrap .i64 ((0 : Int) + (((List.length (Array.toList (List.toArray ([32] : List UInt8)))) : Nat) : Int)))) fun (v5 : (List UInt8)) =>
  some ((.inl ((([] : List ((List UInt8))), ()), ())))
 else
  bif (decide ((0 : Int) ≤ (@idxB line0 (((@UInt8.toNat (32 : UInt8)) : Nat) : Int)))) then
   Option.bind (takeI line0 (@idxB line0 (((@UInt8.toNat (32 : UInt8)) : Nat) : Int))) fun (v5 : (List UInt8)) =>
   Option.bind (dropI line0 (IntKind.wrap .i64 ((@idxB line0 (((@UInt8.toNat (32 : UInt8)) : Nat) : Int)) + (((List.length (Array.toList (List.toArray ([32] : List UInt8)))) : Nat) : Int)))) fun (v6 : (List UInt8)) =>
   bif (decide (v5 = (Array.toList (List.toArray ([] : List UInt8))))) then
    some ((.inl ((([] : List ((List UInt8))), ()), ())))
   else
    bif (roomB ((List.length h0) + (List.length ([v5] : List ((List UInt8))))) 16) then
     (X ((v6, ()), ((h0 ++ ([v5] : List ((List UInt8)))), ())))
    else
     none
  else
   bif (decide (line0 = (Array.toList (List.toArray ([] : List UInt8))))) then
    some ((.inl ((([] : List ((List UInt8))), ()), ())))
   else
    bif (roomB ((List.length h0) + (List.length ([line0] : List ((List UInt8))))) 16) then
     some ((.inr ((), ((h0 ++ ([line0] : List ((List UInt8)))), ()))))
    else
     none
noncomputable def httpq_parts_L2_R (c : ((List UInt8 × Unit) × ((List (List UInt8)) × Unit))) : Option (((((List (List UInt8)) × Unit) × Unit) ⊕ (Unit × ((List (List UInt8)) × Unit)))) := gl (fun X c => httpq_parts_L2 N X c.1.1 c.2.1) N c
theorem httpq_parts_L2_S (X : ((List UInt8 × Unit) × ((List (List UInt8)) × Unit)) → Option (((((List (List UInt8)) × Unit) × Unit) ⊕ (Unit × ((List (List UInt8)) × Unit))))) (line0 : List UInt8) (h0 : List (List UInt8)) : (roundK Tryd.prog (Ev53 N) 400 [38] httpq_parts_L2_I (loopAt Tryd.prog [38] 2) X ((line0, ()), (h0, ()))).run = httpq_parts_L2 N X line0 h0 := by kernel_rfl
noncomputable def Ev54 : (R : Type) → Env R := Env.addLp (Ev53 N) [38] 0 2 (fun R => lpK Tryd.prog httpq_parts_L2_I (fun X c => httpq_parts_L2 N X c.1.1 c.2.1) N)
theorem Ev54_ok (R : Type) : EnvOK Tryd.prog (Ev54 N R) := EnvOK.addLp (Ev53_ok N R) (by kernel_rfl) (lpK_ok (li := httpq_parts_L2_I) (G := fun X c => httpq_parts_L2 N X c.1.1 c.2.1) hmx (Ev53_ok N _) (by kernel_rfl) loopAt_sub (fun (X : CT httpq_parts_L2_I.sh → Option (OT httpq_parts_L2_I.outs)) (c : CT httpq_parts_L2_I.sh) => httpq_parts_L2_S N X c.1.1 c.2.1) N)
noncomputable def httpq_parts (line0 : List UInt8) : Option (List (List UInt8)) :=
 Option.bind (httpq_parts_L2_R N ((line0, ()), (([] : List ((List UInt8))), ()))) fun v2 =>
 Sum.elim
  (fun (v3 : (((List (List UInt8)) × Unit) × Unit)) =>
  some (v3.1.1))
  (fun (v3 : (Unit × ((List (List UInt8)) × Unit))) =>
  some (v3.2.1)) v2
theorem httpq_parts_S (line0 : List UInt8) : (runK Tryd.prog (Ev54 N) 400 38 [.str] [(.sl .str)] (line0, ())).run = httpq_parts N line0 := by kernel_rfl
theorem httpq_parts_C (line0 : List UInt8) (y : List (List UInt8)) (h : httpq_parts N line0 = some y) : CallsK Tryd.prog 38 (valA [.str] (line0, ())) (tupV (valR [(.sl .str)] y)) := runK_ok hmx (Ev54_ok N _) (okFn_ok (by kernel_rfl)) (by rw [httpq_parts_S]; exact h)
noncomputable def Ev55 : (R : Type) → Env R := Env.addFn (Ev54 N) 38 (fun R => fnK [.str] [(.sl .str)] (fun c => httpq_parts N c.1))
theorem Ev55_ok (R : Type) : EnvOK Tryd.prog (Ev55 N R) := EnvOK.addFn hmx (Ev54_ok N R) (Ev54_ok N _) (by kernel_rfl) (fun c => httpq_parts_S N c.1)
noncomputable def httpq_first (lines0 : List (List UInt8)) : Option (List UInt8 × Int) :=
 bif (decide ((((List.length lines0) : Nat) : Int) = (0 : Int))) then
  some (((Array.toList (List.toArray ([] : List UInt8))), (3 : Int)))
 else
  Option.bind (getI lines0 (0 : Int)) fun (v2 : (List UInt8)) =>
  Option.bind (httpq_parts N v2) fun v3 =>
  bif (!(decide ((((List.length v3) : Nat) : Int) = (3 : Int)))) then
   some (((Array.toList (List.toArray ([] : List UInt8))), (3 : Int)))
  else
   Option.bind (getI v3 (0 : Int)) fun (v4 : (List UInt8)) =>
   bif (!(decide (v4 = (Array.toList (List.toArray ([83, 83, 84, 80, 95, 68, 85, 80, 76, 69, 88, 95, 80, 79, 83, 84] : List UInt8)))))) then
    some (((Array.toList (List.toArray ([] : List UInt8))), (9 : Int)))
   else
    Option.bind (getI v3 (2 : Int)) fun (v5 : (List UInt8)) =>
    bif (!(decide (v5 = (Array.toList (List.toArray ([72, 84, 84, 80, 47, 49, 46, 49] : List UInt8)))))) then
     some (((Array.toList (List.toArray ([] : List UInt8))), (15 : Int)))
    else
     Option.bind (getI v3 (1 : Int)) fun (v6 : (List UInt8)) =>
     some ((v6, (0 : Int)))
theorem httpq_first_S (lines0 : List (List UInt8)) : (runK Tryd.prog (Ev55 N) 400 27 [(.sl .str)] [.str, (.int .i64)] (lines0, ())).run = httpq_first N lines0 := by kernel_rfl
theorem httpq_first_C (lines0 : List (List UInt8)) (y : List UInt8 × Int) (h : httpq_first N lines0 = some y) : CallsK Tryd.prog 27 (valA [(.sl .str)] (lines0, ())) (tupV (valR [.str, (.int .i64)] y)) := runK_ok hmx (Ev55_ok N _) (okFn_ok (by kernel_rfl)) (by rw [httpq_first_S]; exact h)
noncomputable def Ev56 : (R : Type) → Env R := Env.addFn (Ev55 N) 27 (fun R => fnK [(.sl .str)] [.str, (.int .i64)] (fun c => httpq_first N c.1))
theorem Ev56_ok (R : Type) : EnvOK Tryd.prog (Ev56 N R) := EnvOK.addFn hmx (Ev55_ok N R) (Ev55_ok N _) (by kernel_rfl) (fun c => httpq_first_S N c.1)
noncomputable def httpq_asked (fields0 : List (List UInt8 × (List UInt8))) : Option ((List UInt8 × (List UInt8)) × Int) :=
 Option.bind (words_Find N fields0 (Array.toList (List.toArray ([72, 111, 115, 116] : List UInt8)))) fun v2 =>
 bif (!(decide (v2.2 = (0 : Int)))) then
  some ((((Array.toList (List.toArray ([] : List UInt8))), (Array.toList (List.toArray ([] : List UInt8)))), v2.2))
 else
  Option.bind (httpq_isHost N v2.1) fun v3 =>
  bif (!v3) then
   some ((((Array.toList (List.toArray ([] : List UInt8))), (Array.toList (List.toArray ([] : List UInt8)))), (3 : Int)))
  else
   Option.bind (words_Find N fields0 (Array.toList (List.toArray ([67, 111, 110, 116, 101, 110, 116, 45, 76, 101, 110, 103, 116, 104] : List UInt8)))) fun v4 =>
   bif (!(decide (v4.2 = (0 : Int)))) then
    some ((((Array.toList (List.toArray ([] : List UInt8))), (Array.toList (List.toArray ([] : List UInt8)))), v4.2))
   else
    bif (!(decide (v4.1 = (Array.toList (List.toArray ([49, 56, 52, 52, 54, 55, 52, 52, 48, 55, 51, 55, 48, 57, 53, 53, 49, 54, 49, 53] : List UInt8)))))) then
     some ((((Array.toList (List.toArray ([] : List UInt8))), (Array.toList (List.toArray ([] : List UInt8)))), (3 : Int)))
    else
     Option.bind (words_Find N fields0 (Array.toList (List.toArray ([83, 83, 84, 80, 67, 79, 82, 82, 69, 76, 65, 84, 73, 79, 78, 73, 68] : List UInt8)))) fun v5 =>
     bif (decide (v5.2 = (6 : Int))) then
      some (((v2.1, (Array.toList (List.toArray ([] : List UInt8)))), (0 : Int)))
     else
      bif (decide (v5.2 = (0 : Int))) then
       Option.bind (httpq_Id N v5.1) fun v6 =>
       bif (!(decide (v6.2 = (0 : Int)))) then
        some ((((Array.toList (List.toArray ([] : List UInt8))), (Array.toList (List.toArray ([] : List UInt8)))), v6.2))
       else
        some (((v2.1, v5.1), (0 : Int)))
      else
       bif (!(decide (v5.2 = (0 : Int)))) then
        some ((((Array.toList (List.toArray ([] : List UInt8))), (Array.toList (List.toArray ([] : List UInt8)))), v5.2))
       else
        some (((v2.1, v5.1), (0 : Int)))
theorem httpq_asked_S (fields0 : List (List UInt8 × (List UInt8))) : (runK Tryd.prog (Ev56 N) 400 29 [(.sl (.pair .str .str))] [(.pair .str .str), (.int .i64)] (fields0, ())).run = httpq_asked N fields0 := by kernel_rfl
theorem httpq_asked_C (fields0 : List (List UInt8 × (List UInt8))) (y : (List UInt8 × (List UInt8)) × Int) (h : httpq_asked N fields0 = some y) : CallsK Tryd.prog 29 (valA [(.sl (.pair .str .str))] (fields0, ())) (tupV (valR [(.pair .str .str), (.int .i64)] y)) := runK_ok hmx (Ev56_ok N _) (okFn_ok (by kernel_rfl)) (by rw [httpq_asked_S]; exact h)
noncomputable def Ev57 : (R : Type) → Env R := Env.addFn (Ev56 N) 29 (fun R => fnK [(.sl (.pair .str .str))] [(.pair .str .str), (.int .i64)] (fun c => httpq_asked N c.1))
theorem Ev57_ok (R : Type) : EnvOK Tryd.prog (Ev57 N R) := EnvOK.addFn hmx (Ev56_ok N R) (Ev56_ok N _) (by kernel_rfl) (fun c => httpq_asked_S N c.1)
noncomputable def httpq_Parse (b0 : List (Int)) : Option ((List UInt8 × (List UInt8)) × Int × Int) :=
 Option.bind (words_Head N b0) fun v2 =>
 bif (!(decide (v2.2.2 = (0 : Int)))) then
  some ((((Array.toList (List.toArray ([] : List UInt8))), (Array.toList (List.toArray ([] : List UInt8)))), ((0 : Int), v2.2.2)))
 else
  Option.bind (httpq_first N v2.1) fun v3 =>
  bif (!(decide (v3.2 = (0 : Int)))) then
   some ((((Array.toList (List.toArray ([] : List UInt8))), (Array.toList (List.toArray ([] : List UInt8)))), ((0 : Int), v3.2)))
  else
   Option.bind (dropI v2.1 (1 : Int)) fun (v4 : (List (List UInt8))) =>
   Option.bind (words_Fields N v4) fun v5 =>
   bif (!(decide (v5.2 = (0 : Int)))) then
    some ((((Array.toList (List.toArray ([] : List UInt8))), (Array.toList (List.toArray ([] : List UInt8)))), ((0 : Int), v5.2)))
   else
    bif (!(decide (v3.1 = (Array.toList (List.toArray ([47, 115, 114, 97, 95, 123, 66, 65, 49, 57, 53, 57, 56, 48, 45, 67, 68, 52, 57, 45, 52, 53, 56, 98, 45, 57, 69, 50, 51, 45, 67, 56, 52, 69, 69, 48, 65, 68, 67, 68, 55, 53, 125, 47] : List UInt8)))))) then
     some ((((Array.toList (List.toArray ([] : List UInt8))), (Array.toList (List.toArray ([] : List UInt8)))), ((0 : Int), (6 : Int))))
    else
     Option.bind (httpq_asked N v5.1) fun v6 =>
     bif (!(decide (v6.2 = (0 : Int)))) then
      some ((((Array.toList (List.toArray ([] : List UInt8))), (Array.toList (List.toArray ([] : List UInt8)))), ((0 : Int), v6.2)))
     else
      some (((v6.1.1, v6.1.2), (v2.2.1, (0 : Int))))
theorem httpq_Parse_S (b0 : List (Int)) : (runK Tryd.prog (Ev57 N) 400 14 [(.sl (.int .u8))] [(.pair .str .str), (.int .i64), (.int .i64)] (b0, ())).run = httpq_Parse N b0 := by kernel_rfl
theorem httpq_Parse_C (b0 : List (Int)) (y : (List UInt8 × (List UInt8)) × Int × Int) (h : httpq_Parse N b0 = some y) : CallsK Tryd.prog 14 (valA [(.sl (.int .u8))] (b0, ())) (tupV (valR [(.pair .str .str), (.int .i64), (.int .i64)] y)) := runK_ok hmx (Ev57_ok N _) (okFn_ok (by kernel_rfl)) (by rw [httpq_Parse_S]; exact h)
noncomputable def Ev58 : (R : Type) → Env R := Env.addFn (Ev57 N) 14 (fun R => fnK [(.sl (.int .u8))] [(.pair .str .str), (.int .i64), (.int .i64)] (fun c => httpq_Parse N c.1))
theorem Ev58_ok (R : Type) : EnvOK Tryd.prog (Ev58 N R) := EnvOK.addFn hmx (Ev57_ok N R) (Ev57_ok N _) (by kernel_rfl) (fun c => httpq_Parse_S N c.1)
noncomputable def httpq_Status (N : Nat) (e0 : Int) : Option Int :=
 bif (decide (e0 = (0 : Int))) then
  some ((200 : Int))
 else
  bif (decide (e0 = (6 : Int))) then
   some ((404 : Int))
  else
   bif (decide (e0 = (9 : Int))) then
    some ((405 : Int))
   else
    bif (decide (e0 = (15 : Int))) then
     some ((505 : Int))
    else
     bif (decide (e0 = (8 : Int))) then
      bif (decide (e0 = (8 : Int))) then
       some ((431 : Int))
      else
       bif (decide (e0 = (4 : Int))) then
        some ((0 : Int))
       else
        some ((400 : Int))
     else
      bif (decide (e0 = (5 : Int))) then
       some ((431 : Int))
      else
       bif (decide (e0 = (4 : Int))) then
        some ((0 : Int))
       else
        some ((400 : Int))
theorem httpq_Status_S (e0 : Int) : (runK Tryd.prog (Ev58 N) 400 16 [(.int .i64)] [(.int .i64)] (e0, ())).run = httpq_Status N e0 := by kernel_rfl
theorem httpq_Status_C (e0 : Int) (y : Int) (h : httpq_Status N e0 = some y) : CallsK Tryd.prog 16 (valA [(.int .i64)] (e0, ())) (tupV (valR [(.int .i64)] y)) := runK_ok hmx (Ev58_ok N _) (okFn_ok (by kernel_rfl)) (by rw [httpq_Status_S]; exact h)
noncomputable def Ev59 : (R : Type) → Env R := Env.addFn (Ev58 N) 16 (fun R => fnK [(.int .i64)] [(.int .i64)] (fun c => httpq_Status N c.1))
theorem Ev59_ok (R : Type) : EnvOK Tryd.prog (Ev59 N R) := EnvOK.addFn hmx (Ev58_ok N R) (Ev58_ok N _) (by kernel_rfl) (fun c => httpq_Status_S N c.1)
noncomputable def ref15_host_L2_I : LI := ⟨28, 0, [], ⟨[(0, .ty .str), (3, .ty (.int .i64))], []⟩, [(.ret, ⟨[(2, .ty .bool)], []⟩), (.exit 0, ⟨[(0, .ty .str)], []⟩)]⟩
noncomputable def ref15_host_L2 (N : Nat) (X : ((List UInt8 × (Int × Unit)) × Unit) → Option ((((Bool × Unit) × Unit) ⊕ ((List UInt8 × Unit) × Unit)))) (s0 : List UInt8) (i3 : Int) : Option ((((Bool × Unit) × Unit) ⊕ ((List UInt8 × Unit) × Unit))) :=
 bif (decide (i3 < (((List.length s0) : Nat) : Int))) then
  Option.bind (getI s0 i3) fun (v4 : UInt8) =>
  Option.bind (bif (decide ((((@UInt8.toNat v4) : Nat) : Int) < (33 : Int))) then
    some (true)
   else
    Option.bind (getI s0 i3) fun (v5 : UInt8) =>
    some ((cond false true (decide ((126 : Int) < (((@UInt8.toNat v5) : Nat) : Int)))))) fun (v5 : Bool) =>
  bif v5 then
   some ((.inl ((false, ()), ())))
  else
   (X ((s0, ((IntKind.wrap .i64 (i3 + 1)), ())), ()))
 else
  some ((.inr ((s0, ()), ())))
noncomputable def ref15_host_L2_R (c : ((List UInt8 × (Int × Unit)) × Unit)) : Option ((((Bool × Unit) × Unit) ⊕ ((List UInt8 × Unit) × Unit))) := gl (fun X c => ref15_host_L2 N X c.1.1 c.1.2.1) N c
theorem ref15_host_L2_S (X : ((List UInt8 × (Int × Unit)) × Unit) → Option ((((Bool × Unit) × Unit) ⊕ ((List UInt8 × Unit) × Unit)))) (s0 : List UInt8) (i3 : Int) : (roundK Tryd.prog (Ev59 N) 400 [20] ref15_host_L2_I (loopAt Tryd.prog [20] 2) X ((s0, i3, ()), ())).run = ref15_host_L2 N X s0 i3 := by kernel_rfl
noncomputable def Ev60 : (R : Type) → Env R := Env.addLp (Ev59 N) [20] 0 2 (fun R => lpK Tryd.prog ref15_host_L2_I (fun X c => ref15_host_L2 N X c.1.1 c.1.2.1) N)
theorem Ev60_ok (R : Type) : EnvOK Tryd.prog (Ev60 N R) := EnvOK.addLp (Ev59_ok N R) (by kernel_rfl) (lpK_ok (li := ref15_host_L2_I) (G := fun X c => ref15_host_L2 N X c.1.1 c.1.2.1) hmx (Ev59_ok N _) (by kernel_rfl) loopAt_sub (fun (X : CT ref15_host_L2_I.sh → Option (OT ref15_host_L2_I.outs)) (c : CT ref15_host_L2_I.sh) => ref15_host_L2_S N X c.1.1 c.1.2.1) N)
noncomputable def ref15_host (s0 : List UInt8) : Option Bool :=
 Option.bind (ref15_host_L2_R N ((s0, ((0 : Int), ())), ())) fun v2 =>
 Sum.elim
  (fun (v3 : ((Bool × Unit) × Unit)) =>
  some (v3.1.1))
  (fun (v3 : ((List UInt8 × Unit) × Unit)) =>
  bif (decide ((1 : Int) ≤ (((List.length v3.1.1) : Nat) : Int))) then
   Option.bind (some ((cond true (decide ((((List.length v3.1.1) : Nat) : Int) ≤ (255 : Int))) false))) fun (v4 : Bool) =>
   some (v4)
  else
   Option.bind (some (false)) fun (v4 : Bool) =>
   some (v4)) v2
theorem ref15_host_S (s0 : List UInt8) : (runK Tryd.prog (Ev60 N) 400 20 [.str] [.bool] (s0, ())).run = ref15_host N s0 := by kernel_rfl
theorem ref15_host_C (s0 : List UInt8) (y : Bool) (h : ref15_host N s0 = some y) : CallsK Tryd.prog 20 (valA [.str] (s0, ())) (tupV (valR [.bool] y)) := runK_ok hmx (Ev60_ok N _) (okFn_ok (by kernel_rfl)) (by rw [ref15_host_S]; exact h)
noncomputable def Ev61 : (R : Type) → Env R := Env.addFn (Ev60 N) 20 (fun R => fnK [.str] [.bool] (fun c => ref15_host N c.1))
theorem Ev61_ok (R : Type) : EnvOK Tryd.prog (Ev61 N R) := EnvOK.addFn hmx (Ev60_ok N R) (Ev60_ok N _) (by kernel_rfl) (fun c => ref15_host_S N c.1)
noncomputable def Ev62 : (R : Type) → Env R := Env.addMv (Ev61 N) [(31, 1)]
theorem Ev62_ok (R : Type) : EnvOK Tryd.prog (Ev62 N R) := EnvOK.addMv (Ev61_ok N R) [(31, 1)]
noncomputable def ref15_parts_L3_I : LI := ⟨33, 0, [], ⟨[(0, .ty .str), (3, .lit (.own 0)), (4, .ty (.int .i64))], [.own .str 9]⟩, [(.exit 0, ⟨[(3, .lit (.own 0))], [.own .str 9]⟩)]⟩
noncomputable def ref15_parts_L3 (N : Nat) (X : ((List UInt8 × (Int × Unit)) × ((List (List UInt8)) × Unit)) → Option ((Unit × ((List (List UInt8)) × Unit)))) (s0 : List UInt8) (i4 : Int) (h0 : List (List UInt8)) : Option ((Unit × ((List (List UInt8)) × Unit))) :=
 bif (decide (i4 < (((List.length s0) : Nat) : Int))) then
  Option.bind (getI s0 i4) fun (v5 : UInt8) =>
  bif (decide ((((@UInt8.toNat v5) : Nat) : Int) = (32 : Int))) then
   bif (roomB ((List.length h0) + (List.length ([(Array.toList (List.toArray ([] : List UInt8)))] : List ((List UInt8))))) 16) then
    (X ((s0, ((IntKind.wrap .i64 (i4 + 1)), ())), ((h0 ++ ([(Array.toList (List.toArray ([] : List UInt8)))] : List ((List UInt8)))), ())))
   else
    none
  else
   bif (decide ((0 : Int) ≤ (IntKind.wrap .i64 ((((List.length h0) : Nat) : Int) - 1)) ∧ (IntKind.wrap .i64 ((((List.length h0) : Nat) : Int) - 1)) < (((List.length h0) : Nat) : Int))) then
    Option.bind (@GetElem?.getElem? (List (List UInt8)) Nat (List UInt8) (fun (as6 : (List (List UInt8))) => (fun (i7 : Nat) => (@LT.lt Nat @instLTNat i7 (List.length as6)))) (@List.instGetElem?NatLtLength (List UInt8)) h0 (Int.toNat (IntKind.wrap .i64 ((((List.length h0) : Nat) : Int) - 1)))) fun (v6 : (List UInt8)) =>
    Option.bind (subI s0 i4 (IntKind.wrap .i64 (i4 + 1))) fun (v7 : (List UInt8)) =>
    bif (decide (((List.length v6) + (List.length v7)) ≤ maxLen)) then
     bif (decide ((0 : Int) ≤ (IntKind.wrap .i64 ((((List.length h0) : Nat) : Int) - 1)) ∧ (IntKind.wrap .i64 ((((List.length h0) : Nat) : Int) - 1)) < (((List.length h0) : Nat) : Int))) then
      Option.bind (@GetElem?.getElem? (List (List UInt8)) Nat (List UInt8) (fun (as8 : (List (List UInt8))) => (fun (i9 : Nat) => (@LT.lt Nat @instLTNat i9 (List.length as8)))) (@List.instGetElem?NatLtLength (List UInt8)) h0 (Int.toNat (IntKind.wrap .i64 ((((List.length h0) : Nat) : Int) - 1)))) fun (v8 : (List UInt8)) =>
      (X ((s0, ((IntKind.wrap .i64 (i4 + 1)), ())), ((@List.set (List UInt8) h0 (Int.toNat (IntKind.wrap .i64 ((((List.length h0) : Nat) : Int) - 1))) (v6 ++ v7)), ())))
     else
      none
    else
     none
   else
    none
 else
  some (((), (h0, ())))
noncomputable def ref15_parts_L3_R (c : ((List UInt8 × (Int × Unit)) × ((List (List UInt8)) × Unit))) : Option ((Unit × ((List (List UInt8)) × Unit))) := gl (fun X c => ref15_parts_L3 N X c.1.1 c.1.2.1 c.2.1) N c
theorem ref15_parts_L3_S (X : ((List UInt8 × (Int × Unit)) × ((List (List UInt8)) × Unit)) → Option ((Unit × ((List (List UInt8)) × Unit)))) (s0 : List UInt8) (i4 : Int) (h0 : List (List UInt8)) : (roundK Tryd.prog (Ev62 N) 400 [31] ref15_parts_L3_I (loopAt Tryd.prog [31] 3) X ((s0, i4, ()), (h0, ()))).run = ref15_parts_L3 N X s0 i4 h0 := by kernel_rfl
noncomputable def Ev63 : (R : Type) → Env R := Env.addLp (Ev62 N) [31] 0 3 (fun R => lpK Tryd.prog ref15_parts_L3_I (fun X c => ref15_parts_L3 N X c.1.1 c.1.2.1 c.2.1) N)
theorem Ev63_ok (R : Type) : EnvOK Tryd.prog (Ev63 N R) := EnvOK.addLp (Ev62_ok N R) (by kernel_rfl) (lpK_ok (li := ref15_parts_L3_I) (G := fun X c => ref15_parts_L3 N X c.1.1 c.1.2.1 c.2.1) hmx (Ev62_ok N _) (by kernel_rfl) loopAt_sub (fun (X : CT ref15_parts_L3_I.sh → Option (OT ref15_parts_L3_I.outs)) (c : CT ref15_parts_L3_I.sh) => ref15_parts_L3_S N X c.1.1 c.1.2.1 c.2.1) N)
noncomputable def ref15_parts (s0 : List UInt8) : Option (List (List UInt8)) :=
 Option.bind (ref15_parts_L3_R N ((s0, ((0 : Int), ())), (([(Array.toList (List.toArray ([] : List UInt8)))] : List ((List UInt8))), ()))) fun v2 =>
 some (v2.2.1)
theorem ref15_parts_S (s0 : List UInt8) : (runK Tryd.prog (Ev63 N) 400 31 [.str] [(.sl .str)] (s0, ())).run = ref15_parts N s0 := by kernel_rfl
theorem ref15_parts_C (s0 : List UInt8) (y : List (List UInt8)) (h : ref15_parts N s0 = some y) : CallsK Tryd.prog 31 (valA [.str] (s0, ())) (tupV (valR [(.sl .str)] y)) := runK_ok hmx (Ev63_ok N _) (okFn_ok (by kernel_rfl)) (by rw [ref15_parts_S]; exact h)
noncomputable def Ev64 : (R : Type) → Env R := Env.addFn (Ev63 N) 31 (fun R => fnK [.str] [(.sl .str)] (fun c => ref15_parts N c.1))
theorem Ev64_ok (R : Type) : EnvOK Tryd.prog (Ev64 N R) := EnvOK.addFn hmx (Ev63_ok N R) (Ev63_ok N _) (by kernel_rfl) (fun c => ref15_parts_S N c.1)
noncomputable def Ev65 : (R : Type) → Env R := Env.addBx (Ev64 N) [(13, 0)]
theorem Ev65_ok (R : Type) : EnvOK Tryd.prog (Ev65 N R) := EnvOK.addBx (Ev64_ok N R) [(13, 0)]
noncomputable def ref15_Guid (id0 : Arr Int 16) : Option (List UInt8) :=
 Option.bind (ref01_Hex N id0.l) fun v2 =>
 Option.bind (takeI v2 (8 : Int)) fun (v3 : (List UInt8)) =>
 bif (decide (((List.length (Array.toList (List.toArray ([123] : List UInt8)))) + (List.length v3)) ≤ maxLen)) then
  bif (decide (((List.length ((Array.toList (List.toArray ([123] : List UInt8))) ++ v3)) + (List.length (Array.toList (List.toArray ([45] : List UInt8))))) ≤ maxLen)) then
   Option.bind (subI v2 (8 : Int) (12 : Int)) fun (v4 : (List UInt8)) =>
   bif (decide (((List.length (((Array.toList (List.toArray ([123] : List UInt8))) ++ v3) ++ (Array.toList (List.toArray ([45] : List UInt8))))) + (List.length v4)) ≤ maxLen)) then
    bif (decide (((List.length ((((Array.toList (List.toArray ([123] : List UInt8))) ++ v3) ++ (Array.toList (List.toArray ([45] : List UInt8)))) ++ v4)) + (List.length (Array.toList (List.toArray ([45] : List UInt8))))) ≤ maxLen)) then
     Option.bind (subI v2 (12 : Int) (16 : Int)) fun (v5 : (List UInt8)) =>
     bif (decide (((List.length (((((Array.toList (List.toArray ([123] : List UInt8))) ++ v3) ++ (Array.toList (List.toArray ([45] : List UInt8)))) ++ v4) ++ (Array.toList (List.toArray ([45] : List UInt8))))) + (List.length v5)) ≤ maxLen)) then
      bif (decide (((List.length ((((((Array.toList (List.toArray ([123] : List UInt8))) ++ v3) ++ (Array.toList (List.toArray ([45] : List UInt8)))) ++ v4) ++ (Array.toList (List.toArray ([45] : List UInt8)))) ++ v5)) + (List.length (Array.toList (List.toArray ([45] : List UInt8))))) ≤ maxLen)) then
       Option.bind (subI v2 (16 : Int) (20 : Int)) fun (v6 : (List UInt8)) =>
       bif (decide (((List.length (((((((Array.toList (List.toArray ([123] : List UInt8))) ++ v3) ++ (Array.toList (List.toArray ([45] : List UInt8)))) ++ v4) ++ (Array.toList (List.toArray ([45] : List UInt8)))) ++ v5) ++ (Array.toList (List.toArray ([45] : List UInt8))))) + (List.length v6)) ≤ maxLen)) then
        bif (decide (((List.length ((((((((Array.toList (List.toArray ([123] : List UInt8))) ++ v3) ++ (Array.toList (List.toArray ([45] : List UInt8)))) ++ v4) ++ (Array.toList (List.toArray ([45] : List UInt8)))) ++ v5) ++ (Array.toList (List.toArray ([45] : List UInt8)))) ++ v6)) + (List.length (Array.toList (List.toArray ([45] : List UInt8))))) ≤ maxLen)) then
         Option.bind (dropI v2 (20 : Int)) fun (v7 : (List UInt8)) =>
         bif (decide (((List.length (((((((((Array.toList (List.toArray ([123] : List UInt8))) ++ v3) ++ (Array.toList (List.toArray ([45] : List UInt8)))) ++ v4) ++ (Array.toList (List.toArray ([45] : List UInt8)))) ++ v5) ++ (Array.toList (List.toArray ([45] : List UInt8)))) ++ v6) ++ (Array.toList (List.toArray ([45] : List UInt8))))) + (List.length v7)) ≤ maxLen)) then
          bif (decide (((List.length ((((((((((Array.toList (List.toArray ([123] : List UInt8))) ++ v3) ++ (Array.toList (List.toArray ([45] : List UInt8)))) ++ v4) ++ (Array.toList (List.toArray ([45] : List UInt8)))) ++ v5) ++ (Array.toList (List.toArray ([45] : List UInt8)))) ++ v6) ++ (Array.toList (List.toArray ([45] : List UInt8)))) ++ v7)) + (List.length (Array.toList (List.toArray ([125] : List UInt8))))) ≤ maxLen)) then
           some ((((((((((((Array.toList (List.toArray ([123] : List UInt8))) ++ v3) ++ (Array.toList (List.toArray ([45] : List UInt8)))) ++ v4) ++ (Array.toList (List.toArray ([45] : List UInt8)))) ++ v5) ++ (Array.toList (List.toArray ([45] : List UInt8)))) ++ v6) ++ (Array.toList (List.toArray ([45] : List UInt8)))) ++ v7) ++ (Array.toList (List.toArray ([125] : List UInt8)))))
          else
           none
         else
          none
        else
         none
       else
        none
      else
       none
     else
      none
    else
     none
   else
    none
  else
   none
 else
  none
theorem ref15_Guid_S (id0 : Arr Int 16) : (runK Tryd.prog (Ev65 N) 400 13 [(.arr 16 (.int .u8))] [.str] (id0, ())).run = ref15_Guid N id0 := by kernel_rfl
theorem ref15_Guid_C (id0 : Arr Int 16) (y : List UInt8) (h : ref15_Guid N id0 = some y) : CallsK Tryd.prog 13 (valA [(.arr 16 (.int .u8))] (id0, ())) (tupV (valR [.str] y)) := runK_ok hmx (Ev65_ok N _) (okFn_ok (by kernel_rfl)) (by rw [ref15_Guid_S]; exact h)
noncomputable def Ev66 : (R : Type) → Env R := Env.addFn (Ev65 N) 13 (fun R => fnK [(.arr 16 (.int .u8))] [.str] (fun c => ref15_Guid N c.1))
theorem Ev66_ok (R : Type) : EnvOK Tryd.prog (Ev66 N R) := EnvOK.addFn hmx (Ev65_ok N R) (Ev65_ok N _) (by kernel_rfl) (fun c => ref15_Guid_S N c.1)
noncomputable def Ev67 : (R : Type) → Env R := Env.addFn (Ev66 N) 23 (fun R => uhK)
theorem Ev67_ok (R : Type) : EnvOK Tryd.prog (Ev67 N R) := EnvOK.addExt (Ev66_ok N R) ruh_ok
noncomputable def ref15_Id_L8_I : LI := ⟨74, 0, [], ⟨[(2, .lit (.box 0 0)), (4, .lit (.box 1 0)), (5, .ty (.sl (.int .u8))), (7, .ty (.int .i64))], [.box 24 (.arr 16 (.int .u8)), .box 24 (.arr 16 (.int .u8))]⟩, [(.exit 0, ⟨[(2, .lit (.box 0 0)), (4, .lit (.box 1 0))], [.box 24 (.arr 16 (.int .u8)), .box 24 (.arr 16 (.int .u8))]⟩)]⟩
noncomputable def ref15_Id_L8 (N : Nat) (X : (((List Int) × (Int × Unit)) × ((Arr Int 16) × ((Arr Int 16) × Unit))) → Option ((Unit × ((Arr Int 16) × ((Arr Int 16) × Unit))))) (b5 : List (Int)) (i7 : Int) (h0 : Arr Int 16) (h1 : Arr Int 16) : Option ((Unit × ((Arr Int 16) × ((Arr Int 16) × Unit)))) :=
 bif (decide (i7 < (16 : Int))) then
  Option.bind (getI b5 i7) fun (v6 : Int) =>
  bif (decide ((0 : Int) ≤ i7 ∧ i7 < ((16 : Nat) : Int))) then
   Option.bind (h1.l[Int.toNat i7]?) fun (v7 : Int) =>
   (X ((b5, ((IntKind.wrap .i64 (i7 + 1)), ())), (h0, ((h1.set (Int.toNat i7) v6), ()))))
  else
   none
 else
  some (((), (h0, (h1, ()))))
noncomputable def ref15_Id_L8_R (c : (((List Int) × (Int × Unit)) × ((Arr Int 16) × ((Arr Int 16) × Unit)))) : Option ((Unit × ((Arr Int 16) × ((Arr Int 16) × Unit)))) := gl (fun X c => ref15_Id_L8 N X c.1.1 c.1.2.1 c.2.1 c.2.2.1) N c
theorem ref15_Id_L8_S (X : (((List Int) × (Int × Unit)) × ((Arr Int 16) × ((Arr Int 16) × Unit))) → Option ((Unit × ((Arr Int 16) × ((Arr Int 16) × Unit))))) (b5 : List (Int)) (i7 : Int) (h0 : Arr Int 16) (h1 : Arr Int 16) : (roundK Tryd.prog (Ev67 N) 400 [10] ref15_Id_L8_I (loopAt Tryd.prog [10] 8) X ((b5, i7, ()), (h0, h1, ()))).run = ref15_Id_L8 N X b5 i7 h0 h1 := by kernel_rfl
noncomputable def Ev68 : (R : Type) → Env R := Env.addLp (Ev67 N) [10] 0 8 (fun R => lpK Tryd.prog ref15_Id_L8_I (fun X c => ref15_Id_L8 N X c.1.1 c.1.2.1 c.2.1 c.2.2.1) N)
theorem Ev68_ok (R : Type) : EnvOK Tryd.prog (Ev68 N R) := EnvOK.addLp (Ev67_ok N R) (by kernel_rfl) (lpK_ok (li := ref15_Id_L8_I) (G := fun X c => ref15_Id_L8 N X c.1.1 c.1.2.1 c.2.1 c.2.2.1) hmx (Ev67_ok N _) (by kernel_rfl) loopAt_sub (fun (X : CT ref15_Id_L8_I.sh → Option (OT ref15_Id_L8_I.outs)) (c : CT ref15_Id_L8_I.sh) => ref15_Id_L8_S N X c.1.1 c.1.2.1 c.2.1 c.2.2.1) N)
noncomputable def ref15_Id (s0 : List UInt8) : Option ((Arr Int 16) × Int) :=
 Option.bind (bif (!(decide ((((List.length s0) : Nat) : Int) = (38 : Int)))) then
   some (true)
  else
   Option.bind (getI s0 (0 : Int)) fun (v2 : UInt8) =>
   some ((cond false true (!(decide ((((@UInt8.toNat v2) : Nat) : Int) = (123 : Int))))))) fun (v2 : Bool) =>
 Option.bind (bif v2 then
   some (true)
  else
   Option.bind (getI s0 (37 : Int)) fun (v3 : UInt8) =>
   some ((cond false true (!(decide ((((@UInt8.toNat v3) : Nat) : Int) = (125 : Int))))))) fun (v3 : Bool) =>
 Option.bind (bif v3 then
   some (true)
  else
   Option.bind (getI s0 (9 : Int)) fun (v4 : UInt8) =>
   some ((cond false true (!(decide ((((@UInt8.toNat v4) : Nat) : Int) = (45 : Int))))))) fun (v4 : Bool) =>
 Option.bind (bif v4 then
   some (true)
  else
   Option.bind (getI s0 (14 : Int)) fun (v5 : UInt8) =>
   some ((cond false true (!(decide ((((@UInt8.toNat v5) : Nat) : Int) = (45 : Int))))))) fun (v5 : Bool) =>
 Option.bind (bif v5 then
   some (true)
  else
   Option.bind (getI s0 (19 : Int)) fun (v6 : UInt8) =>
   some ((cond false true (!(decide ((((@UInt8.toNat v6) : Nat) : Int) = (45 : Int))))))) fun (v6 : Bool) =>
 Option.bind (bif v6 then
   some (true)
  else
   Option.bind (getI s0 (24 : Int)) fun (v7 : UInt8) =>
   some ((cond false true (!(decide ((((@UInt8.toNat v7) : Nat) : Int) = (45 : Int))))))) fun (v7 : Bool) =>
 bif v7 then
  some (((@Arr.cons Int 15 0 (@Arr.cons Int 14 0 (@Arr.cons Int 13 0 (@Arr.cons Int 12 0 (@Arr.cons Int 11 0 (@Arr.cons Int 10 0 (@Arr.cons Int 9 0 (@Arr.cons Int 8 0 (@Arr.cons Int 7 0 (@Arr.cons Int 6 0 (@Arr.cons Int 5 0 (@Arr.cons Int 4 0 (@Arr.cons Int 3 0 (@Arr.cons Int 2 0 (@Arr.cons Int 1 0 (@Arr.cons Int 0 0 (@Arr.nil Int))))))))))))))))), (3 : Int)))
 else
  Option.bind (subI s0 (1 : Int) (9 : Int)) fun (v8 : (List UInt8)) =>
  Option.bind (subI s0 (10 : Int) (14 : Int)) fun (v9 : (List UInt8)) =>
  bif (decide (((List.length v8) + (List.length v9)) ≤ maxLen)) then
   Option.bind (subI s0 (15 : Int) (19 : Int)) fun (v10 : (List UInt8)) =>
   bif (decide (((List.length (v8 ++ v9)) + (List.length v10)) ≤ maxLen)) then
    Option.bind (subI s0 (20 : Int) (24 : Int)) fun (v11 : (List UInt8)) =>
    bif (decide (((List.length ((v8 ++ v9) ++ v10)) + (List.length v11)) ≤ maxLen)) then
     Option.bind (subI s0 (25 : Int) (37 : Int)) fun (v12 : (List UInt8)) =>
     bif (decide (((List.length (((v8 ++ v9) ++ v10) ++ v11)) + (List.length v12)) ≤ maxLen)) then
      bif (decide ((List.length ((((v8 ++ v9) ++ v10) ++ v11) ++ v12)) ≤ (1000000 : Nat))) then
       bif (!(decide ((@unhexE ((((v8 ++ v9) ++ v10) ++ v11) ++ v12)) = (0 : Int)))) then
        some (((@Arr.cons Int 15 0 (@Arr.cons Int 14 0 (@Arr.cons Int 13 0 (@Arr.cons Int 12 0 (@Arr.cons Int 11 0 (@Arr.cons Int 10 0 (@Arr.cons Int 9 0 (@Arr.cons Int 8 0 (@Arr.cons Int 7 0 (@Arr.cons Int 6 0 (@Arr.cons Int 5 0 (@Arr.cons Int 4 0 (@Arr.cons Int 3 0 (@Arr.cons Int 2 0 (@Arr.cons Int 1 0 (@Arr.cons Int 0 0 (@Arr.nil Int))))))))))))))))), (3 : Int)))
       else
        Option.bind (ref15_Id_L8_R N (((@unhexR ((((v8 ++ v9) ++ v10) ++ v11) ++ v12)), ((0 : Int), ())), ((@Arr.cons Int 15 0 (@Arr.cons Int 14 0 (@Arr.cons Int 13 0 (@Arr.cons Int 12 0 (@Arr.cons Int 11 0 (@Arr.cons Int 10 0 (@Arr.cons Int 9 0 (@Arr.cons Int 8 0 (@Arr.cons Int 7 0 (@Arr.cons Int 6 0 (@Arr.cons Int 5 0 (@Arr.cons Int 4 0 (@Arr.cons Int 3 0 (@Arr.cons Int 2 0 (@Arr.cons Int 1 0 (@Arr.cons Int 0 0 (@Arr.nil Int))))))))))))))))), ((@Arr.cons Int 15 0 (@Arr.cons Int 14 0 (@Arr.cons Int 13 0 (@Arr.cons Int 12 0 (@Arr.cons Int 11 0 (@Arr.cons Int 10 0 (@Arr.cons Int 9 0 (@Arr.cons Int 8 0 (@Arr.cons Int 7 0 (@Arr.cons Int 6 0 (@Arr.cons Int 5 0 (@Arr.cons Int 4 0 (@Arr.cons Int 3 0 (@Arr.cons Int 2 0 (@Arr.cons Int 1 0 (@Arr.cons Int 0 0 (@Arr.nil Int))))))))))))))))), ())))) fun v13 =>
        some ((v13.2.2.1, (0 : Int)))
      else
       none
     else
      none
    else
     none
   else
    none
  else
   none
theorem ref15_Id_S (s0 : List UInt8) : (runK Tryd.prog (Ev68 N) 400 10 [.str] [(.arr 16 (.int .u8)), (.int .i64)] (s0, ())).run = ref15_Id N s0 := by kernel_rfl
theorem ref15_Id_C (s0 : List UInt8) (y : (Arr Int 16) × Int) (h : ref15_Id N s0 = some y) : CallsK Tryd.prog 10 (valA [.str] (s0, ())) (tupV (valR [(.arr 16 (.int .u8)), (.int .i64)] y)) := runK_ok hmx (Ev68_ok N _) (okFn_ok (by kernel_rfl)) (by rw [ref15_Id_S]; exact h)
noncomputable def Ev69 : (R : Type) → Env R := Env.addFn (Ev68 N) 10 (fun R => fnK [.str] [(.arr 16 (.int .u8)), (.int .i64)] (fun c => ref15_Id N c.1))
theorem Ev69_ok (R : Type) : EnvOK Tryd.prog (Ev69 N R) := EnvOK.addFn hmx (Ev68_ok N R) (Ev68_ok N _) (by kernel_rfl) (fun c => ref15_Id_S N c.1)
noncomputable def Ev70 : (R : Type) → Env R := Env.addBx (Ev69 N) [(8, 0)]
theorem Ev70_ok (R : Type) : EnvOK Tryd.prog (Ev70 N R) := EnvOK.addBx (Ev69_ok N R) [(8, 0)]
noncomputable def ref15_Lay (r0 : List UInt8 × (List UInt8)) : Option ((List Int) × Int) :=
 bif (decide (((List.length (Array.toList (List.toArray (@List.append UInt8 ([83, 83, 84, 80, 95, 68, 85, 80, 76, 69, 88, 95, 80, 79, 83, 84, 32, 47, 115, 114, 97, 95, 123, 66, 65, 49, 57, 53, 57, 56, 48, 45, 67, 68, 52, 57, 45, 52, 53] : List UInt8) ([56, 98, 45, 57, 69, 50, 51, 45, 67, 56, 52, 69, 69, 48, 65, 68, 67, 68, 55, 53, 125, 47, 32, 72, 84, 84, 80, 47, 49, 46, 49, 13, 10, 72, 111, 115, 116, 58, 32] : List UInt8))))) + (List.length r0.1)) ≤ maxLen)) then
  bif (decide (((List.length ((Array.toList (List.toArray (@List.append UInt8 ([83, 83, 84, 80, 95, 68, 85, 80, 76, 69, 88, 95, 80, 79, 83, 84, 32, 47, 115, 114, 97, 95, 123, 66, 65, 49, 57, 53, 57, 56, 48, 45, 67, 68, 52, 57, 45, 52, 53] : List UInt8) ([56, 98, 45, 57, 69, 50, 51, 45, 67, 56, 52, 69, 69, 48, 65, 68, 67, 68, 55, 53, 125, 47, 32, 72, 84, 84, 80, 47, 49, 46, 49, 13, 10, 72, 111, 115, 116, 58, 32] : List UInt8)))) ++ r0.1)) + (List.length (Array.toList (List.toArray ([13, 10, 67, 111, 110, 116, 101, 110, 116, 45, 76, 101, 110, 103, 116, 104, 58, 32, 49, 56, 52, 52, 54, 55, 52, 52, 48, 55, 51, 55, 48, 57, 53, 53, 49, 54, 49, 53, 13, 10] : List UInt8))))) ≤ maxLen)) then
   bif (!(decide (r0.2 = (Array.toList (List.toArray ([] : List UInt8)))))) then
    Option.bind (ref15_Id N r0.2) fun v2 =>
    bif (!(decide (v2.2 = (0 : Int)))) then
     some ((([] : List Int), (3 : Int)))
    else
     bif (decide (((List.length (Array.toList (List.toArray ([83, 83, 84, 80, 67, 79, 82, 82, 69, 76, 65, 84, 73, 79, 78, 73, 68, 58, 32] : List UInt8)))) + (List.length r0.2)) ≤ maxLen)) then
      bif (decide (((List.length ((Array.toList (List.toArray ([83, 83, 84, 80, 67, 79, 82, 82, 69, 76, 65, 84, 73, 79, 78, 73, 68, 58, 32] : List UInt8))) ++ r0.2)) + (List.length (Array.toList (List.toArray ([13, 10] : List UInt8))))) ≤ maxLen)) then
       bif (decide (((List.length (((Array.toList (List.toArray (@List.append UInt8 ([83, 83, 84, 80, 95, 68, 85, 80, 76, 69, 88, 95, 80, 79, 83, 84, 32, 47, 115, 114, 97, 95, 123, 66, 65, 49, 57, 53, 57, 56, 48, 45, 67, 68, 52, 57, 45, 52, 53] : List UInt8) ([56, 98, 45, 57, 69, 50, 51, 45, 67, 56, 52, 69, 69, 48, 65, 68, 67, 68, 55, 53, 125, 47, 32, 72, 84, 84, 80, 47, 49, 46, 49, 13, 10, 72, 111, 115, 116, 58, 32] : List UInt8)))) ++ r0.1) ++ (Array.toList (List.toArray ([13, 10, 67, 111, 110, 116, 101, 110, 116, 45, 76, 101, 110, 103, 116, 104, 58, 32, 49, 56, 52, 52, 54, 55, 52, 52, 48, 55, 51, 55, 48, 57, 53, 53, 49, 54, 49, 53, 13, 10] : List UInt8))))) + (List.length (((Array.toList (List.toArray ([83, 83, 84, 80, 67, 79, 82, 82, 69, 76, 65, 84, 73, 79, 78, 73, 68, 58, 32] : List UInt8))) ++ r0.2) ++ (Array.toList (List.toArray ([13, 10] : List UInt8)))))) ≤ maxLen)) then
        Option.bind (ref15_host N r0.1) fun v3 =>
        bif (!v3) then
         some ((([] : List Int), (3 : Int)))
        else
         bif (decide (((List.length ((((Array.toList (List.toArray (@List.append UInt8 ([83, 83, 84, 80, 95, 68, 85, 80, 76, 69, 88, 95, 80, 79, 83, 84, 32, 47, 115, 114, 97, 95, 123, 66, 65, 49, 57, 53, 57, 56, 48, 45, 67, 68, 52, 57, 45, 52, 53] : List UInt8) ([56, 98, 45, 57, 69, 50, 51, 45, 67, 56, 52, 69, 69, 48, 65, 68, 67, 68, 55, 53, 125, 47, 32, 72, 84, 84, 80, 47, 49, 46, 49, 13, 10, 72, 111, 115, 116, 58, 32] : List UInt8)))) ++ r0.1) ++ (Array.toList (List.toArray ([13, 10, 67, 111, 110, 116, 101, 110, 116, 45, 76, 101, 110, 103, 116, 104, 58, 32, 49, 56, 52, 52, 54, 55, 52, 52, 48, 55, 51, 55, 48, 57, 53, 53, 49, 54, 49, 53, 13, 10] : List UInt8)))) ++ (((Array.toList (List.toArray ([83, 83, 84, 80, 67, 79, 82, 82, 69, 76, 65, 84, 73, 79, 78, 73, 68, 58, 32] : List UInt8))) ++ r0.2) ++ (Array.toList (List.toArray ([13, 10] : List UInt8)))))) + (List.length (Array.toList (List.toArray ([13, 10] : List UInt8))))) ≤ maxLen)) then
          bif (roomB (List.length (((((Array.toList (List.toArray (@List.append UInt8 ([83, 83, 84, 80, 95, 68, 85, 80, 76, 69, 88, 95, 80, 79, 83, 84, 32, 47, 115, 114, 97, 95, 123, 66, 65, 49, 57, 53, 57, 56, 48, 45, 67, 68, 52, 57, 45, 52, 53] : List UInt8) ([56, 98, 45, 57, 69, 50, 51, 45, 67, 56, 52, 69, 69, 48, 65, 68, 67, 68, 55, 53, 125, 47, 32, 72, 84, 84, 80, 47, 49, 46, 49, 13, 10, 72, 111, 115, 116, 58, 32] : List UInt8)))) ++ r0.1) ++ (Array.toList (List.toArray ([13, 10, 67, 111, 110, 116, 101, 110, 116, 45, 76, 101, 110, 103, 116, 104, 58, 32, 49, 56, 52, 52, 54, 55, 52, 52, 48, 55, 51, 55, 48, 57, 53, 53, 49, 54, 49, 53, 13, 10] : List UInt8)))) ++ (((Array.toList (List.toArray ([83, 83, 84, 80, 67, 79, 82, 82, 69, 76, 65, 84, 73, 79, 78, 73, 68, 58, 32] : List UInt8))) ++ r0.2) ++ (Array.toList (List.toArray ([13, 10] : List UInt8))))) ++ (Array.toList (List.toArray ([13, 10] : List UInt8))))) 1) then
           some (((@ofB (((((Array.toList (List.toArray (@List.append UInt8 ([83, 83, 84, 80, 95, 68, 85, 80, 76, 69, 88, 95, 80, 79, 83, 84, 32, 47, 115, 114, 97, 95, 123, 66, 65, 49, 57, 53, 57, 56, 48, 45, 67, 68, 52, 57, 45, 52, 53] : List UInt8) ([56, 98, 45, 57, 69, 50, 51, 45, 67, 56, 52, 69, 69, 48, 65, 68, 67, 68, 55, 53, 125, 47, 32, 72, 84, 84, 80, 47, 49, 46, 49, 13, 10, 72, 111, 115, 116, 58, 32] : List UInt8)))) ++ r0.1) ++ (Array.toList (List.toArray ([13, 10, 67, 111, 110, 116, 101, 110, 116, 45, 76, 101, 110, 103, 116, 104, 58, 32, 49, 56, 52, 52, 54, 55, 52, 52, 48, 55, 51, 55, 48, 57, 53, 53, 49, 54, 49, 53, 13, 10] : List UInt8)))) ++ (((Array.toList (List.toArray ([83, 83, 84, 80, 67, 79, 82, 82, 69, 76, 65, 84, 73, 79, 78, 73, 68, 58, 32] : List UInt8))) ++ r0.2) ++ (Array.toList (List.toArray ([13, 10] : List UInt8))))) ++ (Array.toList (List.toArray ([13, 10] : List UInt8))))), (0 : Int)))
          else
           none
         else
          none
       else
        none
      else
       none
     else
      none
   else
    Option.bind (ref15_host N r0.1) fun v2 =>
    bif (!v2) then
     some ((([] : List Int), (3 : Int)))
    else
     bif (decide (((List.length (((Array.toList (List.toArray (@List.append UInt8 ([83, 83, 84, 80, 95, 68, 85, 80, 76, 69, 88, 95, 80, 79, 83, 84, 32, 47, 115, 114, 97, 95, 123, 66, 65, 49, 57, 53, 57, 56, 48, 45, 67, 68, 52, 57, 45, 52, 53] : List UInt8) ([56, 98, 45, 57, 69, 50, 51, 45, 67, 56, 52, 69, 69, 48, 65, 68, 67, 68, 55, 53, 125, 47, 32, 72, 84, 84, 80, 47, 49, 46, 49, 13, 10, 72, 111, 115, 116, 58, 32] : List UInt8)))) ++ r0.1) ++ (Array.toList (List.toArray ([13, 10, 67, 111, 110, 116, 101, 110, 116, 45, 76, 101, 110, 103, 116, 104, 58, 32, 49, 56, 52, 52, 54, 55, 52, 52, 48, 55, 51, 55, 48, 57, 53, 53, 49, 54, 49, 53, 13, 10] : List UInt8))))) + (List.length (Array.toList (List.toArray ([13, 10] : List UInt8))))) ≤ maxLen)) then
      bif (roomB (List.length ((((Array.toList (List.toArray (@List.append UInt8 ([83, 83, 84, 80, 95, 68, 85, 80, 76, 69, 88, 95, 80, 79, 83, 84, 32, 47, 115, 114, 97, 95, 123, 66, 65, 49, 57, 53, 57, 56, 48, 45, 67, 68, 52, 57, 45, 52, 53] : List UInt8) ([56, 98, 45, 57, 69, 50, 51, 45, 67, 56, 52, 69, 69, 48, 65, 68, 67, 68, 55, 53, 125, 47, 32, 72, 84, 84, 80, 47, 49, 46, 49, 13, 10, 72, 111, 115, 116, 58, 32] : List UInt8)))) ++ r0.1) ++ (Array.toList (List.toArray ([13, 10, 67, 111, 110, 116, 101, 110, 116, 45, 76, 101, 110, 103, 116, 104, 58, 32, 49, 56, 52, 52, 54, 55, 52, 52, 48, 55, 51, 55, 48, 57, 53, 53, 49, 54, 49, 53, 13, 10] : List UInt8)))) ++ (Array.toList (List.toArray ([13, 10] : List UInt8))))) 1) then
       some (((@ofB ((((Array.toList (List.toArray (@List.append UInt8 ([83, 83, 84, 80, 95, 68, 85, 80, 76, 69, 88, 95, 80, 79, 83, 84, 32, 47, 115, 114, 97, 95, 123, 66, 65, 49, 57, 53, 57, 56, 48, 45, 67, 68, 52, 57, 45, 52, 53] : List UInt8) ([56, 98, 45, 57, 69, 50, 51, 45, 67, 56, 52, 69, 69, 48, 65, 68, 67, 68, 55, 53, 125, 47, 32, 72, 84, 84, 80, 47, 49, 46, 49, 13, 10, 72, 111, 115, 116, 58, 32] : List UInt8)))) ++ r0.1) ++ (Array.toList (List.toArray ([13, 10, 67, 111, 110, 116, 101, 110, 116, 45, 76, 101, 110, 103, 116, 104, 58, 32, 49, 56, 52, 52, 54, 55, 52, 52, 48, 55, 51, 55, 48, 57, 53, 53, 49, 54, 49, 53, 13, 10] : List UInt8)))) ++ (Array.toList (List.toArray ([13, 10] : List UInt8))))), (0 : Int)))
      else
       none
     else
      none
  else
   none
 else
  none
theorem ref15_Lay_S (r0 : List UInt8 × (List UInt8)) : (runK Tryd.prog (Ev70 N) 400 8 [(.pair .str .str)] [(.sl (.int .u8)), (.int .i64)] (r0, ())).run = ref15_Lay N r0 := by kernel_rfl
theorem ref15_Lay_C (r0 : List UInt8 × (List UInt8)) (y : (List Int) × Int) (h : ref15_Lay N r0 = some y) : CallsK Tryd.prog 8 (valA [(.pair .str .str)] (r0, ())) (tupV (valR [(.sl (.int .u8)), (.int .i64)] y)) := runK_ok hmx (Ev70_ok N _) (okFn_ok (by kernel_rfl)) (by rw [ref15_Lay_S]; exact h)
noncomputable def Ev71 : (R : Type) → Env R := Env.addFn (Ev70 N) 8 (fun R => fnK [(.pair .str .str)] [(.sl (.int .u8)), (.int .i64)] (fun c => ref15_Lay N c.1))
theorem Ev71_ok (R : Type) : EnvOK Tryd.prog (Ev71 N R) := EnvOK.addFn hmx (Ev70_ok N R) (Ev70_ok N _) (by kernel_rfl) (fun c => ref15_Lay_S N c.1)
noncomputable def ref15_Parse (b0 : List (Int)) : Option ((List UInt8 × (List UInt8)) × Int × Int) :=
 Option.bind (ref14_Head N b0) fun v2 =>
 bif (!(decide (v2.2.2 = (0 : Int)))) then
  some ((((Array.toList (List.toArray ([] : List UInt8))), (Array.toList (List.toArray ([] : List UInt8)))), ((0 : Int), v2.2.2)))
 else
  bif (decide ((((List.length v2.1) : Nat) : Int) = (0 : Int))) then
   some ((((Array.toList (List.toArray ([] : List UInt8))), (Array.toList (List.toArray ([] : List UInt8)))), ((0 : Int), (3 : Int))))
  else
   Option.bind (getI v2.1 (0 : Int)) fun (v3 : (List UInt8)) =>
   Option.bind (ref15_parts N v3) fun v4 =>
   Option.bind (bif (!(decide ((((List.length v4) : Nat) : Int) = (3 : Int)))) then
     some (true)
    else
     Option.bind (getI v4 (0 : Int)) fun (v5 : (List UInt8)) =>
     some ((cond false true (decide (v5 = (Array.toList (List.toArray ([] : List UInt8)))))))) fun (v5 : Bool) =>
   Option.bind (bif v5 then
     some (true)
    else
     Option.bind (getI v4 (1 : Int)) fun (v6 : (List UInt8)) =>
     some ((cond false true (decide (v6 = (Array.toList (List.toArray ([] : List UInt8)))))))) fun (v6 : Bool) =>
   Option.bind (bif v6 then
     some (true)
    else
     Option.bind (getI v4 (2 : Int)) fun (v7 : (List UInt8)) =>
     some ((cond false true (decide (v7 = (Array.toList (List.toArray ([] : List UInt8)))))))) fun (v7 : Bool) =>
   bif v7 then
    some ((((Array.toList (List.toArray ([] : List UInt8))), (Array.toList (List.toArray ([] : List UInt8)))), ((0 : Int), (3 : Int))))
   else
    Option.bind (getI v4 (0 : Int)) fun (v8 : (List UInt8)) =>
    bif (!(decide (v8 = (Array.toList (List.toArray ([83, 83, 84, 80, 95, 68, 85, 80, 76, 69, 88, 95, 80, 79, 83, 84] : List UInt8)))))) then
     some ((((Array.toList (List.toArray ([] : List UInt8))), (Array.toList (List.toArray ([] : List UInt8)))), ((0 : Int), (9 : Int))))
    else
     Option.bind (getI v4 (2 : Int)) fun (v9 : (List UInt8)) =>
     bif (!(decide (v9 = (Array.toList (List.toArray ([72, 84, 84, 80, 47, 49, 46, 49] : List UInt8)))))) then
      some ((((Array.toList (List.toArray ([] : List UInt8))), (Array.toList (List.toArray ([] : List UInt8)))), ((0 : Int), (15 : Int))))
     else
      Option.bind (dropI v2.1 (1 : Int)) fun (v10 : (List (List UInt8))) =>
      Option.bind (ref14_Fields N v10) fun v11 =>
      bif (!(decide (v11.2 = (0 : Int)))) then
       some ((((Array.toList (List.toArray ([] : List UInt8))), (Array.toList (List.toArray ([] : List UInt8)))), ((0 : Int), v11.2)))
      else
       Option.bind (getI v4 (1 : Int)) fun (v12 : (List UInt8)) =>
       bif (!(decide (v12 = (Array.toList (List.toArray ([47, 115, 114, 97, 95, 123, 66, 65, 49, 57, 53, 57, 56, 48, 45, 67, 68, 52, 57, 45, 52, 53, 56, 98, 45, 57, 69, 50, 51, 45, 67, 56, 52, 69, 69, 48, 65, 68, 67, 68, 55, 53, 125, 47] : List UInt8)))))) then
        some ((((Array.toList (List.toArray ([] : List UInt8))), (Array.toList (List.toArray ([] : List UInt8)))), ((0 : Int), (6 : Int))))
       else
        Option.bind (ref14_Find N v11.1 (Array.toList (List.toArray ([72, 111, 115, 116] : List UInt8)))) fun v13 =>
        bif (!(decide (v13.2 = (0 : Int)))) then
         some ((((Array.toList (List.toArray ([] : List UInt8))), (Array.toList (List.toArray ([] : List UInt8)))), ((0 : Int), v13.2)))
        else
         Option.bind (ref15_host N v13.1) fun v14 =>
         bif (!v14) then
          some ((((Array.toList (List.toArray ([] : List UInt8))), (Array.toList (List.toArray ([] : List UInt8)))), ((0 : Int), (3 : Int))))
         else
          Option.bind (ref14_Find N v11.1 (Array.toList (List.toArray ([67, 111, 110, 116, 101, 110, 116, 45, 76, 101, 110, 103, 116, 104] : List UInt8)))) fun v15 =>
          bif (!(decide (v15.2 = (0 : Int)))) then
           some ((((Array.toList (List.toArray ([] : List UInt8))), (Array.toList (List.toArray ([] : List UInt8)))), ((0 : Int), v15.2)))
          else
           bif (!(decide (v15.1 = (Array.toList (List.toArray ([49, 56, 52, 52, 54, 55, 52, 52, 48, 55, 51, 55, 48, 57, 53, 53, 49, 54, 49, 53] : List UInt8)))))) then
            some ((((Array.toList (List.toArray ([] : List UInt8))), (Array.toList (List.toArray ([] : List UInt8)))), ((0 : Int), (3 : Int))))
           else
            Option.bind (ref14_Find N v11.1 (Array.toList (List.toArray ([83, 83, 84, 80, 67, 79, 82, 82, 69, 76, 65, 84, 73, 79, 78, 73, 68] : List UInt8)))) fun v16 =>
            bif (decide (v16.2 = (7 : Int))) then
             some ((((Array.toList (List.toArray ([] : List UInt8))), (Array.toList (List.toArray ([] : List UInt8)))), ((0 : Int), (7 : Int))))
            else
             Option.bind (ref15_Id N v16.1) fun v17 =>
             Option.bind (bif (decide (v16.2 = (0 : Int))) then
               some ((cond true (!(decide (v17.2 = (0 : Int)))) false))
              else
               some (false)) fun (v18 : Bool) =>
             bif v18 then
              some ((((Array.toList (List.toArray ([] : List UInt8))), (Array.toList (List.toArray ([] : List UInt8)))), ((0 : Int), (3 : Int))))
             else
              some (((v13.1, v16.1), (v2.2.1, (0 : Int))))
theorem ref15_Parse_S (b0 : List (Int)) : (runK Tryd.prog (Ev71 N) 400 15 [(.sl (.int .u8))] [(.pair .str .str), (.int .i64), (.int .i64)] (b0, ())).run = ref15_Parse N b0 := by kernel_rfl
theorem ref15_Parse_C (b0 : List (Int)) (y : (List UInt8 × (List UInt8)) × Int × Int) (h : ref15_Parse N b0 = some y) : CallsK Tryd.prog 15 (valA [(.sl (.int .u8))] (b0, ())) (tupV (valR [(.pair .str .str), (.int .i64), (.int .i64)] y)) := runK_ok hmx (Ev71_ok N _) (okFn_ok (by kernel_rfl)) (by rw [ref15_Parse_S]; exact h)
noncomputable def Ev72 : (R : Type) → Env R := Env.addFn (Ev71 N) 15 (fun R => fnK [(.sl (.int .u8))] [(.pair .str .str), (.int .i64), (.int .i64)] (fun c => ref15_Parse N c.1))
theorem Ev72_ok (R : Type) : EnvOK Tryd.prog (Ev72 N R) := EnvOK.addFn hmx (Ev71_ok N R) (Ev71_ok N _) (by kernel_rfl) (fun c => ref15_Parse_S N c.1)
noncomputable def ref15_Status (N : Nat) (e0 : Int) : Option Int :=
 bif (decide (e0 = (0 : Int))) then
  some ((200 : Int))
 else
  bif (decide (e0 = (6 : Int))) then
   some ((404 : Int))
  else
   bif (decide (e0 = (9 : Int))) then
    some ((405 : Int))
   else
    bif (decide (e0 = (15 : Int))) then
     some ((505 : Int))
    else
     bif (decide (e0 = (8 : Int))) then
      bif (decide (e0 = (8 : Int))) then
       some ((431 : Int))
      else
       bif (decide (e0 = (4 : Int))) then
        some ((0 : Int))
       else
        some ((400 : Int))
     else
      bif (decide (e0 = (5 : Int))) then
       some ((431 : Int))
      else
       bif (decide (e0 = (4 : Int))) then
        some ((0 : Int))
       else
        some ((400 : Int))
theorem ref15_Status_S (e0 : Int) : (runK Tryd.prog (Ev72 N) 400 17 [(.int .i64)] [(.int .i64)] (e0, ())).run = ref15_Status N e0 := by kernel_rfl
theorem ref15_Status_C (e0 : Int) (y : Int) (h : ref15_Status N e0 = some y) : CallsK Tryd.prog 17 (valA [(.int .i64)] (e0, ())) (tupV (valR [(.int .i64)] y)) := runK_ok hmx (Ev72_ok N _) (okFn_ok (by kernel_rfl)) (by rw [ref15_Status_S]; exact h)
noncomputable def Ev73 : (R : Type) → Env R := Env.addFn (Ev72 N) 17 (fun R => fnK [(.int .i64)] [(.int .i64)] (fun c => ref15_Status N c.1))
theorem Ev73_ok (R : Type) : EnvOK Tryd.prog (Ev73 N R) := EnvOK.addFn hmx (Ev72_ok N R) (Ev72_ok N _) (by kernel_rfl) (fun c => ref15_Status_S N c.1)
noncomputable def law15_alive : Option Bool :=
 Option.bind (httpq_Lay N ((Array.toList (List.toArray ([104] : List UInt8))), (Array.toList (List.toArray ([] : List UInt8))))) fun v1 =>
 Option.bind (httpq_Parse N v1.1) fun v2 =>
 Option.bind (httpq_Guid N (@Arr.cons Int 15 1 (@Arr.cons Int 14 2 (@Arr.cons Int 13 0 (@Arr.cons Int 12 0 (@Arr.cons Int 11 0 (@Arr.cons Int 10 0 (@Arr.cons Int 9 0 (@Arr.cons Int 8 0 (@Arr.cons Int 7 0 (@Arr.cons Int 6 0 (@Arr.cons Int 5 0 (@Arr.cons Int 4 0 (@Arr.cons Int 3 0 (@Arr.cons Int 2 0 (@Arr.cons Int 1 0 (@Arr.cons Int 0 0 (@Arr.nil Int)))))))))))))))))) fun v3 =>
 Option.bind (httpq_Id N v3) fun v4 =>
 Option.bind (bif (decide ((100 : Int) < (((List.length v1.1) : Nat) : Int))) then
   some ((cond true (decide (v1.2 = (0 : Int))) false))
  else
   some (false)) fun (v5 : Bool) =>
 Option.bind (bif v5 then
   some ((cond true (decide (v2.1.1 = (Array.toList (List.toArray ([104] : List UInt8))))) false))
  else
   some (false)) fun (v6 : Bool) =>
 bif v6 then
  Option.bind (some ((cond true (decide (v2.2.1 = (((List.length v1.1) : Nat) : Int))) false))) fun (v7 : Bool) =>
  Option.bind (bif v7 then
    some ((cond true (decide (v2.2.2 = (0 : Int))) false))
   else
    some (false)) fun (v8 : Bool) =>
  bif v8 then
   Option.bind (bif ((@wfB (@Td.arr (16 : Nat) (@Td.int @IntKind.u8)) v4.1) && (@wfB (@Td.arr (16 : Nat) (@Td.int @IntKind.u8)) (@Arr.cons Int 15 1 (@Arr.cons Int 14 2 (@Arr.cons Int 13 0 (@Arr.cons Int 12 0 (@Arr.cons Int 11 0 (@Arr.cons Int 10 0 (@Arr.cons Int 9 0 (@Arr.cons Int 8 0 (@Arr.cons Int 7 0 (@Arr.cons Int 6 0 (@Arr.cons Int 5 0 (@Arr.cons Int 4 0 (@Arr.cons Int 3 0 (@Arr.cons Int 2 0 (@Arr.cons Int 1 0 (@Arr.cons Int 0 0 (@Arr.nil Int))))))))))))))))))) then
     some ((cond true (@Decidable.decide (@Eq (Arr Int 16) v4.1 (@Arr.cons Int 15 1 (@Arr.cons Int 14 2 (@Arr.cons Int 13 0 (@Arr.cons Int 12 0 (@Arr.cons Int 11 0 (@Arr.cons Int 10 0 (@Arr.cons Int 9 0 (@Arr.cons Int 8 0 (@Arr.cons Int 7 0 (@Arr.cons Int 6 0 (@Arr.cons Int 5 0 (@Arr.cons Int 4 0 (@Arr.cons Int 3 0 (@Arr.cons Int 2 0 (@Arr.cons Int 1 0 (@Arr.cons Int 0 0 (@Arr.nil Int)))))))))))))))))) (@decT (@Td.arr (16 : Nat) (@Td.int @IntKind.u8)) v4.1 (@Arr.cons Int 15 1 (@Arr.cons Int 14 2 (@Arr.cons Int 13 0 (@Arr.cons Int 12 0 (@Arr.cons Int 11 0 (@Arr.cons Int 10 0 (@Arr.cons Int 9 0 (@Arr.cons Int 8 0 (@Arr.cons Int 7 0 (@Arr.cons Int 6 0 (@Arr.cons Int 5 0 (@Arr.cons Int 4 0 (@Arr.cons Int 3 0 (@Arr.cons Int 2 0 (@Arr.cons Int 1 0 (@Arr.cons Int 0 0 (@Arr.nil Int))))))))))))))))))) false))
    else
     none) fun (v9 : Bool) =>
   Option.bind (bif v9 then
     some ((cond true (decide (v4.2 = (0 : Int))) false))
    else
     some (false)) fun (v10 : Bool) =>
   bif v10 then
    Option.bind (some ((cond true (decide ((200 : Int) = (200 : Int))) false))) fun (v11 : Bool) =>
    some ((cond (cond v11 true false) true false))
   else
    Option.bind (some (false)) fun (v11 : Bool) =>
    some ((cond (cond v11 true false) true false))
  else
   Option.bind (some (false)) fun (v9 : Bool) =>
   Option.bind (bif v9 then
     some ((cond true (decide (v4.2 = (0 : Int))) false))
    else
     some (false)) fun (v10 : Bool) =>
   bif v10 then
    Option.bind (some ((cond true (decide ((200 : Int) = (200 : Int))) false))) fun (v11 : Bool) =>
    some ((cond (cond v11 true false) true false))
   else
    Option.bind (some (false)) fun (v11 : Bool) =>
    some ((cond (cond v11 true false) true false))
 else
  Option.bind (some (false)) fun (v7 : Bool) =>
  Option.bind (bif v7 then
    some ((cond true (decide (v2.2.2 = (0 : Int))) false))
   else
    some (false)) fun (v8 : Bool) =>
  bif v8 then
   Option.bind (bif ((@wfB (@Td.arr (16 : Nat) (@Td.int @IntKind.u8)) v4.1) && (@wfB (@Td.arr (16 : Nat) (@Td.int @IntKind.u8)) (@Arr.cons Int 15 1 (@Arr.cons Int 14 2 (@Arr.cons Int 13 0 (@Arr.cons Int 12 0 (@Arr.cons Int 11 0 (@Arr.cons Int 10 0 (@Arr.cons Int 9 0 (@Arr.cons Int 8 0 (@Arr.cons Int 7 0 (@Arr.cons Int 6 0 (@Arr.cons Int 5 0 (@Arr.cons Int 4 0 (@Arr.cons Int 3 0 (@Arr.cons Int 2 0 (@Arr.cons Int 1 0 (@Arr.cons Int 0 0 (@Arr.nil Int))))))))))))))))))) then
     some ((cond true (@Decidable.decide (@Eq (Arr Int 16) v4.1 (@Arr.cons Int 15 1 (@Arr.cons Int 14 2 (@Arr.cons Int 13 0 (@Arr.cons Int 12 0 (@Arr.cons Int 11 0 (@Arr.cons Int 10 0 (@Arr.cons Int 9 0 (@Arr.cons Int 8 0 (@Arr.cons Int 7 0 (@Arr.cons Int 6 0 (@Arr.cons Int 5 0 (@Arr.cons Int 4 0 (@Arr.cons Int 3 0 (@Arr.cons Int 2 0 (@Arr.cons Int 1 0 (@Arr.cons Int 0 0 (@Arr.nil Int)))))))))))))))))) (@decT (@Td.arr (16 : Nat) (@Td.int @IntKind.u8)) v4.1 (@Arr.cons Int 15 1 (@Arr.cons Int 14 2 (@Arr.cons Int 13 0 (@Arr.cons Int 12 0 (@Arr.cons Int 11 0 (@Arr.cons Int 10 0 (@Arr.cons Int 9 0 (@Arr.cons Int 8 0 (@Arr.cons Int 7 0 (@Arr.cons Int 6 0 (@Arr.cons Int 5 0 (@Arr.cons Int 4 0 (@Arr.cons Int 3 0 (@Arr.cons Int 2 0 (@Arr.cons Int 1 0 (@Arr.cons Int 0 0 (@Arr.nil Int))))))))))))))))))) false))
    else
     none) fun (v9 : Bool) =>
   Option.bind (bif v9 then
     some ((cond true (decide (v4.2 = (0 : Int))) false))
    else
     some (false)) fun (v10 : Bool) =>
   bif v10 then
    Option.bind (some ((cond true (decide ((200 : Int) = (200 : Int))) false))) fun (v11 : Bool) =>
    some ((cond (cond v11 true false) true false))
   else
    Option.bind (some (false)) fun (v11 : Bool) =>
    some ((cond (cond v11 true false) true false))
  else
   Option.bind (some (false)) fun (v9 : Bool) =>
   Option.bind (bif v9 then
     some ((cond true (decide (v4.2 = (0 : Int))) false))
    else
     some (false)) fun (v10 : Bool) =>
   bif v10 then
    Option.bind (some ((cond true (decide ((200 : Int) = (200 : Int))) false))) fun (v11 : Bool) =>
    some ((cond (cond v11 true false) true false))
   else
    Option.bind (some (false)) fun (v11 : Bool) =>
    some ((cond (cond v11 true false) true false))
theorem law15_alive_S : (runK Tryd.prog (Ev73 N) 400 6 [] [.bool] ()).run = law15_alive N  := by kernel_rfl
theorem law15_alive_C (y : Bool) (h : law15_alive N  = some y) : CallsK Tryd.prog 6 (valA [] ()) (tupV (valR [.bool] y)) := runK_ok hmx (Ev73_ok N _) (okFn_ok (by kernel_rfl)) (by rw [law15_alive_S]; exact h)
noncomputable def Ev74 : (R : Type) → Env R := Env.addFn (Ev73 N) 6 (fun R => fnK [] [.bool] (fun c => law15_alive N ))
theorem Ev74_ok (R : Type) : EnvOK Tryd.prog (Ev74 N R) := EnvOK.addFn hmx (Ev73_ok N R) (Ev73_ok N _) (by kernel_rfl) (fun c => law15_alive_S N )
noncomputable def Ev75 : (R : Type) → Env R := Env.addBx (Ev74 N) [(3, 0)]
theorem Ev75_ok (R : Type) : EnvOK Tryd.prog (Ev75 N R) := EnvOK.addBx (Ev74_ok N R) [(3, 0)]
noncomputable def law15_HttpqLays (r0 : List UInt8 × (List UInt8)) (id1 : Arr Int 16) : Option Bool :=
 bif (decide ((600 : Int) < (((List.length r0.1) : Nat) : Int))) then
  Option.bind (some (true)) fun (v3 : Bool) =>
  bif v3 then
   Option.bind (@law15_alive N) fun (v4 : Bool) =>
   some (v4)
  else
   Option.bind (httpq_Lay N (r0.1, r0.2)) fun v4 =>
   Option.bind (ref15_Lay N (r0.1, r0.2)) fun v5 =>
   Option.bind (httpq_Id N r0.2) fun v6 =>
   Option.bind (ref15_Id N r0.2) fun v7 =>
   Option.bind (ref01_Same N v4.1 v5.1) fun v8 =>
   bif v8 then
    bif (cond true (decide (v4.2 = v5.2)) false) then
     Option.bind (httpq_Guid N id1) fun v9 =>
     Option.bind (ref15_Guid N id1) fun v10 =>
     bif (cond true (decide (v9 = v10)) false) then
      bif ((@wfB (@Td.arr (16 : Nat) (@Td.int @IntKind.u8)) v6.1) && (@wfB (@Td.arr (16 : Nat) (@Td.int @IntKind.u8)) v7.1)) then
       bif (cond true (@Decidable.decide (@Eq (Arr Int 16) v6.1 v7.1) (@decT (@Td.arr (16 : Nat) (@Td.int @IntKind.u8)) v6.1 v7.1)) false) then
        bif (cond (cond true (decide (v6.2 = v7.2)) false) true false) then
         Option.bind (@law15_alive N) fun (v11 : Bool) =>
         some ((cond true v11 false))
        else
         some (false)
       else
        some (false)
      else
       none
     else
      some (false)
    else
     some (false)
   else
    some (false)
 else
  Option.bind (some ((cond false true (decide ((200 : Int) < (((List.length r0.2) : Nat) : Int)))))) fun (v3 : Bool) =>
  bif v3 then
   Option.bind (@law15_alive N) fun (v4 : Bool) =>
   some (v4)
  else
   Option.bind (httpq_Lay N (r0.1, r0.2)) fun v4 =>
   Option.bind (ref15_Lay N (r0.1, r0.2)) fun v5 =>
   Option.bind (httpq_Id N r0.2) fun v6 =>
   Option.bind (ref15_Id N r0.2) fun v7 =>
   Option.bind (ref01_Same N v4.1 v5.1) fun v8 =>
   bif v8 then
    bif (cond true (decide (v4.2 = v5.2)) false) then
     Option.bind (httpq_Guid N id1) fun v9 =>
     Option.bind (ref15_Guid N id1) fun v10 =>
     bif (cond true (decide (v9 = v10)) false) then
      bif ((@wfB (@Td.arr (16 : Nat) (@Td.int @IntKind.u8)) v6.1) && (@wfB (@Td.arr (16 : Nat) (@Td.int @IntKind.u8)) v7.1)) then
       bif (cond true (@Decidable.decide (@Eq (Arr Int 16) v6.1 v7.1) (@decT (@Td.arr (16 : Nat) (@Td.int @IntKind.u8)) v6.1 v7.1)) false) then
        bif (cond (cond true (decide (v6.2 = v7.2)) false) true false) then
         Option.bind (@law15_alive N) fun (v11 : Bool) =>
         some ((cond true v11 false))
        else
         some (false)
       else
        some (false)
      else
       none
     else
      some (false)
    else
     some (false)
   else
    some (false)
theorem law15_HttpqLays_S (r0 : List UInt8 × (List UInt8)) (id1 : Arr Int 16) : (runK Tryd.prog (Ev75 N) 400 3 [(.pair .str .str), (.arr 16 (.int .u8))] [.bool] (r0, id1, ())).run = law15_HttpqLays N r0 id1 := by kernel_rfl
theorem law15_HttpqLays_C (r0 : List UInt8 × (List UInt8)) (id1 : Arr Int 16) (y : Bool) (h : law15_HttpqLays N r0 id1 = some y) : CallsK Tryd.prog 3 (valA [(.pair .str .str), (.arr 16 (.int .u8))] (r0, id1, ())) (tupV (valR [.bool] y)) := runK_ok hmx (Ev75_ok N _) (okFn_ok (by kernel_rfl)) (by rw [law15_HttpqLays_S]; exact h)
noncomputable def Ev76 : (R : Type) → Env R := Env.addFn (Ev75 N) 3 (fun R => fnK [(.pair .str .str), (.arr 16 (.int .u8))] [.bool] (fun c => law15_HttpqLays N c.1 c.2.1))
theorem Ev76_ok (R : Type) : EnvOK Tryd.prog (Ev76 N R) := EnvOK.addFn hmx (Ev75_ok N R) (Ev75_ok N _) (by kernel_rfl) (fun c => law15_HttpqLays_S N c.1 c.2.1)
noncomputable def law15_HttpqParses (b0 : List (Int)) (code1 : Int) : Option Bool :=
 bif (decide ((3000 : Int) < (((List.length b0) : Nat) : Int))) then
  Option.bind (@law15_alive N) fun (v3 : Bool) =>
  some (v3)
 else
  Option.bind (httpq_Parse N b0) fun v3 =>
  Option.bind (ref15_Parse N b0) fun v4 =>
  bif ((@wfB (@Td.pair @Td.str @Td.str) (v3.1.1, v3.1.2)) && (@wfB (@Td.pair @Td.str @Td.str) (v4.1.1, v4.1.2))) then
   Option.bind (bif (@Decidable.decide (@Eq (List UInt8 × (List UInt8)) (v3.1.1, v3.1.2) (v4.1.1, v4.1.2)) (@decT (@Td.pair @Td.str @Td.str) (v3.1.1, v3.1.2) (v4.1.1, v4.1.2))) then
     some ((cond true (decide (v3.2.1 = v4.2.1)) false))
    else
     some (false)) fun (v5 : Bool) =>
   Option.bind (bif v5 then
     some ((cond true (decide (v3.2.2 = v4.2.2)) false))
    else
     some (false)) fun (v6 : Bool) =>
   bif v6 then
    Option.bind (httpq_Status N v3.2.2) fun v7 =>
    Option.bind (ref15_Status N v4.2.2) fun v8 =>
    Option.bind (some ((cond true (decide (v7 = v8)) false))) fun (v9 : Bool) =>
    bif v9 then
     Option.bind (httpq_Status N code1) fun v10 =>
     Option.bind (ref15_Status N code1) fun v11 =>
     Option.bind (some ((cond true (decide (v10 = v11)) false))) fun (v12 : Bool) =>
     bif v12 then
      Option.bind (@law15_alive N) fun (v13 : Bool) =>
      some ((cond true v13 false))
     else
      some (false)
    else
     Option.bind (some (false)) fun (v10 : Bool) =>
     bif v10 then
      Option.bind (@law15_alive N) fun (v11 : Bool) =>
      some ((cond true v11 false))
     else
      some (false)
   else
    Option.bind (some (false)) fun (v7 : Bool) =>
    bif v7 then
     Option.bind (httpq_Status N code1) fun v8 =>
     Option.bind (ref15_Status N code1) fun v9 =>
     Option.bind (some ((cond true (decide (v8 = v9)) false))) fun (v10 : Bool) =>
     bif v10 then
      Option.bind (@law15_alive N) fun (v11 : Bool) =>
      some ((cond true v11 false))
     else
      some (false)
    else
     Option.bind (some (false)) fun (v8 : Bool) =>
     bif v8 then
      Option.bind (@law15_alive N) fun (v9 : Bool) =>
      some ((cond true v9 false))
     else
      some (false)
  else
   none
theorem law15_HttpqParses_S (b0 : List (Int)) (code1 : Int) : (runK Tryd.prog (Ev76 N) 400 4 [(.sl (.int .u8)), (.int .i64)] [.bool] (b0, code1, ())).run = law15_HttpqParses N b0 code1 := by kernel_rfl
theorem law15_HttpqParses_C (b0 : List (Int)) (code1 : Int) (y : Bool) (h : law15_HttpqParses N b0 code1 = some y) : CallsK Tryd.prog 4 (valA [(.sl (.int .u8)), (.int .i64)] (b0, code1, ())) (tupV (valR [.bool] y)) := runK_ok hmx (Ev76_ok N _) (okFn_ok (by kernel_rfl)) (by rw [law15_HttpqParses_S]; exact h)
noncomputable def Ev77 : (R : Type) → Env R := Env.addFn (Ev76 N) 4 (fun R => fnK [(.sl (.int .u8)), (.int .i64)] [.bool] (fun c => law15_HttpqParses N c.1 c.2.1))
theorem Ev77_ok (R : Type) : EnvOK Tryd.prog (Ev77 N R) := EnvOK.addFn hmx (Ev76_ok N R) (Ev76_ok N _) (by kernel_rfl) (fun c => law15_HttpqParses_S N c.1 c.2.1)
noncomputable def Ev78 : (R : Type) → Env R := Env.addBx (Ev77 N) [(5, 0)]
theorem Ev78_ok (R : Type) : EnvOK Tryd.prog (Ev78 N R) := EnvOK.addBx (Ev77_ok N R) [(5, 0)]
noncomputable def law15_HttpqBack (r0 : List UInt8 × (List UInt8)) (behind1 : List (Int)) (x2 : Int) : Option Bool :=
 bif (decide ((600 : Int) < (((List.length r0.1) : Nat) : Int))) then
  Option.bind (some (true)) fun (v4 : Bool) =>
  bif v4 then
   Option.bind (some (true)) fun (v5 : Bool) =>
   bif v5 then
    Option.bind (@law15_alive N) fun (v6 : Bool) =>
    some (v6)
   else
    Option.bind (httpq_Lay N (r0.1, r0.2)) fun v6 =>
    bif (!(decide (v6.2 = (0 : Int)))) then
     Option.bind (some (true)) fun (v7 : Bool) =>
     bif v7 then
      bif (!(decide (v6.2 = (0 : Int)))) then
       Option.bind (some ((cond true (decide ((((List.length v6.1) : Nat) : Int) = (0 : Int))) false))) fun (v8 : Bool) =>
       bif v8 then
        Option.bind (@law15_alive N) fun (v9 : Bool) =>
        some ((cond true v9 false))
       else
        some (false)
      else
       Option.bind (some (false)) fun (v8 : Bool) =>
       bif v8 then
        Option.bind (@law15_alive N) fun (v9 : Bool) =>
        some ((cond true v9 false))
       else
        some (false)
     else
      bif (roomB (List.length v6.1) 1) then
       bif (roomB ((List.length v6.1) + (List.length behind1)) 1) then
        Option.bind (httpq_Parse N (v6.1 ++ behind1)) fun v8 =>
        bif (decide ((((List.length v6.1) : Nat) : Int) = (0 : Int))) then
         none
        else
         Option.bind (takeI v6.1 (@Int.tmod (IntKind.wrap .i64 x2) (((List.length v6.1) : Nat) : Int))) fun (v9 : (List Int)) =>
         Option.bind (httpq_Parse N v9) fun v10 =>
         bif ((@wfB (@Td.pair @Td.str @Td.str) (v8.1.1, v8.1.2)) && (@wfB (@Td.pair @Td.str @Td.str) (r0.1, r0.2))) then
          bif (@Decidable.decide (@Eq (List UInt8 × (List UInt8)) (v8.1.1, v8.1.2) (r0.1, r0.2)) (@decT (@Td.pair @Td.str @Td.str) (v8.1.1, v8.1.2) (r0.1, r0.2))) then
           Option.bind (some ((cond true (decide (v8.2.1 = (((List.length v6.1) : Nat) : Int))) false))) fun (v11 : Bool) =>
           Option.bind (bif v11 then
             some ((cond true (decide (v8.2.2 = (0 : Int))) false))
            else
             some (false)) fun (v12 : Bool) =>
           Option.bind (bif v12 then
             some ((cond true (decide (v10.2.1 = (0 : Int))) false))
            else
             some (false)) fun (v13 : Bool) =>
           Option.bind (bif v13 then
             some ((cond true (decide (v10.2.2 = (4 : Int))) false))
            else
             some (false)) fun (v14 : Bool) =>
           bif v14 then
            Option.bind (@law15_alive N) fun (v15 : Bool) =>
            some ((cond true v15 false))
           else
            some (false)
          else
           Option.bind (some (false)) fun (v11 : Bool) =>
           Option.bind (bif v11 then
             some ((cond true (decide (v8.2.2 = (0 : Int))) false))
            else
             some (false)) fun (v12 : Bool) =>
           Option.bind (bif v12 then
             some ((cond true (decide (v10.2.1 = (0 : Int))) false))
            else
             some (false)) fun (v13 : Bool) =>
           Option.bind (bif v13 then
             some ((cond true (decide (v10.2.2 = (4 : Int))) false))
            else
             some (false)) fun (v14 : Bool) =>
           bif v14 then
            Option.bind (@law15_alive N) fun (v15 : Bool) =>
            some ((cond true v15 false))
           else
            some (false)
         else
          none
       else
        none
      else
       none
    else
     Option.bind (some ((cond false true (decide ((((List.length v6.1) : Nat) : Int) = (0 : Int)))))) fun (v7 : Bool) =>
     bif v7 then
      bif (!(decide (v6.2 = (0 : Int)))) then
       Option.bind (some ((cond true (decide ((((List.length v6.1) : Nat) : Int) = (0 : Int))) false))) fun (v8 : Bool) =>
       bif v8 then
        Option.bind (@law15_alive N) fun (v9 : Bool) =>
        some ((cond true v9 false))
       else
        some (false)
      else
       Option.bind (some (false)) fun (v8 : Bool) =>
       bif v8 then
        Option.bind (@law15_alive N) fun (v9 : Bool) =>
        some ((cond true v9 false))
       else
        some (false)
     else
      bif (roomB (List.length v6.1) 1) then
       bif (roomB ((List.length v6.1) + (List.length behind1)) 1) then
        Option.bind (httpq_Parse N (v6.1 ++ behind1)) fun v8 =>
        bif (decide ((((List.length v6.1) : Nat) : Int) = (0 : Int))) then
         none
        else
         Option.bind (takeI v6.1 (@Int.tmod (IntKind.wrap .i64 x2) (((List.length v6.1) : Nat) : Int))) fun (v9 : (List Int)) =>
         Option.bind (httpq_Parse N v9) fun v10 =>
         bif ((@wfB (@Td.pair @Td.str @Td.str) (v8.1.1, v8.1.2)) && (@wfB (@Td.pair @Td.str @Td.str) (r0.1, r0.2))) then
          bif (@Decidable.decide (@Eq (List UInt8 × (List UInt8)) (v8.1.1, v8.1.2) (r0.1, r0.2)) (@decT (@Td.pair @Td.str @Td.str) (v8.1.1, v8.1.2) (r0.1, r0.2))) then
           Option.bind (some ((cond true (decide (v8.2.1 = (((List.length v6.1) : Nat) : Int))) false))) fun (v11 : Bool) =>
           Option.bind (bif v11 then
             some ((cond true (decide (v8.2.2 = (0 : Int))) false))
            else
             some (false)) fun (v12 : Bool) =>
           Option.bind (bif v12 then
             some ((cond true (decide (v10.2.1 = (0 : Int))) false))
            else
             some (false)) fun (v13 : Bool) =>
           Option.bind (bif v13 then
             some ((cond true (decide (v10.2.2 = (4 : Int))) false))
            else
             some (false)) fun (v14 : Bool) =>
           bif v14 then
            Option.bind (@law15_alive N) fun (v15 : Bool) =>
            some ((cond true v15 false))
           else
            some (false)
          else
           Option.bind (some (false)) fun (v11 : Bool) =>
           Option.bind (bif v11 then
             some ((cond true (decide (v8.2.2 = (0 : Int))) false))
            else
             some (false)) fun (v12 : Bool) =>
           Option.bind (bif v12 then
             some ((cond true (decide (v10.2.1 = (0 : Int))) false))
            else
             some (false)) fun (v13 : Bool) =>
           Option.bind (bif v13 then
             some ((cond true (decide (v10.2.2 = (4 : Int))) false))
            else
             some (false)) fun (v14 : Bool) =>
           bif v14 then
            Option.bind (@law15_alive N) fun (v15 : Bool) =>
            some ((cond true v15 false))
           else
            some (false)
         else
          none
       else
        none
      else
       none
  else
   Option.bind (some ((cond false true (decide ((300 : Int) < (((List.length behind1) : Nat) : Int)))))) fun (v5 : Bool) =>
   bif v5 then
    Option.bind (@law15_alive N) fun (v6 : Bool) =>
    some (v6)
   else
    Option.bind (httpq_Lay N (r0.1, r0.2)) fun v6 =>
    bif (!(decide (v6.2 = (0 : Int)))) then
     Option.bind (some (true)) fun (v7 : Bool) =>
     bif v7 then
      bif (!(decide (v6.2 = (0 : Int)))) then
       Option.bind (some ((cond true (decide ((((List.length v6.1) : Nat) : Int) = (0 : Int))) false))) fun (v8 : Bool) =>
       bif v8 then
        Option.bind (@law15_alive N) fun (v9 : Bool) =>
        some ((cond true v9 false))
       else
        some (false)
      else
       Option.bind (some (false)) fun (v8 : Bool) =>
       bif v8 then
        Option.bind (@law15_alive N) fun (v9 : Bool) =>
        some ((cond true v9 false))
       else
        some (false)
     else
      bif (roomB (List.length v6.1) 1) then
       bif (roomB ((List.length v6.1) + (List.length behind1)) 1) then
        Option.bind (httpq_Parse N (v6.1 ++ behind1)) fun v8 =>
        bif (decide ((((List.length v6.1) : Nat) : Int) = (0 : Int))) then
         none
        else
         Option.bind (takeI v6.1 (@Int.tmod (IntKind.wrap .i64 x2) (((List.length v6.1) : Nat) : Int))) fun (v9 : (List Int)) =>
         Option.bind (httpq_Parse N v9) fun v10 =>
         bif ((@wfB (@Td.pair @Td.str @Td.str) (v8.1.1, v8.1.2)) && (@wfB (@Td.pair @Td.str @Td.str) (r0.1, r0.2))) then
          bif (@Decidable.decide (@Eq (List UInt8 × (List UInt8)) (v8.1.1, v8.1.2) (r0.1, r0.2)) (@decT (@Td.pair @Td.str @Td.str) (v8.1.1, v8.1.2) (r0.1, r0.2))) then
           Option.bind (some ((cond true (decide (v8.2.1 = (((List.length v6.1) : Nat) : Int))) false))) fun (v11 : Bool) =>
           Option.bind (bif v11 then
             some ((cond true (decide (v8.2.2 = (0 : Int))) false))
            else
             some (false)) fun (v12 : Bool) =>
           Option.bind (bif v12 then
             some ((cond true (decide (v10.2.1 = (0 : Int))) false))
            else
             some (false)) fun (v13 : Bool) =>
           Option.bind (bif v13 then
             some ((cond true (decide (v10.2.2 = (4 : Int))) false))
            else
             some (false)) fun (v14 : Bool) =>
           bif v14 then
            Option.bind (@law15_alive N) fun (v15 : Bool) =>
            some ((cond true v15 false))
           else
            some (false)
          else
           Option.bind (some (false)) fun (v11 : Bool) =>
           Option.bind (bif v11 then
             some ((cond true (decide (v8.2.2 = (0 : Int))) false))
            else
             some (false)) fun (v12 : Bool) =>
           Option.bind (bif v12 then
             some ((cond true (decide (v10.2.1 = (0 : Int))) false))
            else
             some (false)) fun (v13 : Bool) =>
           Option.bind (bif v13 then
             some ((cond true (decide (v10.2.2 = (4 : Int))) false))
            else
             some (false)) fun (v14 : Bool) =>
           bif v14 then
            Option.bind (@law15_alive N) fun (v15 : Bool) =>
            some ((cond true v15 false))
           else
            some (false)
         else
          none
       else
        none
      else
       none
    else
     Option.bind (some ((cond false true (decide ((((List.length v6.1) : Nat) : Int) = (0 : Int)))))) fun (v7 : Bool) =>
     bif v7 then
      bif (!(decide (v6.2 = (0 : Int)))) then
       Option.bind (some ((cond true (decide ((((List.length v6.1) : Nat) : Int) = (0 : Int))) false))) fun (v8 : Bool) =>
       bif v8 then
        Option.bind (@law15_alive N) fun (v9 : Bool) =>
        some ((cond true v9 false))
       else
        some (false)
      else
       Option.bind (some (false)) fun (v8 : Bool) =>
       bif v8 then
        Option.bind (@law15_alive N) fun (v9 : Bool) =>
        some ((cond true v9 false))
       else
        some (false)
     else
      bif (roomB (List.length v6.1) 1) then
       bif (roomB ((List.length v6.1) + (List.length behind1)) 1) then
        Option.bind (httpq_Parse N (v6.1 ++ behind1)) fun v8 =>
        bif (decide ((((List.length v6.1) : Nat) : Int) = (0 : Int))) then
         none
        else
         Option.bind (takeI v6.1 (@Int.tmod (IntKind.wrap .i64 x2) (((List.length v6.1) : Nat) : Int))) fun (v9 : (List Int)) =>
         Option.bind (httpq_Parse N v9) fun v10 =>
         bif ((@wfB (@Td.pair @Td.str @Td.str) (v8.1.1, v8.1.2)) && (@wfB (@Td.pair @Td.str @Td.str) (r0.1, r0.2))) then
          bif (@Decidable.decide (@Eq (List UInt8 × (List UInt8)) (v8.1.1, v8.1.2) (r0.1, r0.2)) (@decT (@Td.pair @Td.str @Td.str) (v8.1.1, v8.1.2) (r0.1, r0.2))) then
           Option.bind (some ((cond true (decide (v8.2.1 = (((List.length v6.1) : Nat) : Int))) false))) fun (v11 : Bool) =>
           Option.bind (bif v11 then
             some ((cond true (decide (v8.2.2 = (0 : Int))) false))
            else
             some (false)) fun (v12 : Bool) =>
           Option.bind (bif v12 then
             some ((cond true (decide (v10.2.1 = (0 : Int))) false))
            else
             some (false)) fun (v13 : Bool) =>
           Option.bind (bif v13 then
             some ((cond true (decide (v10.2.2 = (4 : Int))) false))
            else
             some (false)) fun (v14 : Bool) =>
           bif v14 then
            Option.bind (@law15_alive N) fun (v15 : Bool) =>
            some ((cond true v15 false))
           else
            some (false)
          else
           Option.bind (some (false)) fun (v11 : Bool) =>
           Option.bind (bif v11 then
             some ((cond true (decide (v8.2.2 = (0 : Int))) false))
            else
             some (false)) fun (v12 : Bool) =>
           Option.bind (bif v12 then
             some ((cond true (decide (v10.2.1 = (0 : Int))) false))
            else
             some (false)) fun (v13 : Bool) =>
           Option.bind (bif v13 then
             some ((cond true (decide (v10.2.2 = (4 : Int))) false))
            else
             some (false)) fun (v14 : Bool) =>
           bif v14 then
            Option.bind (@law15_alive N) fun (v15 : Bool) =>
            some ((cond true v15 false))
           else
            some (false)
         else
          none
       else
        none
      else
       none
 else
  Option.bind (some ((cond false true (decide ((200 : Int) < (((List.length r0.2) : Nat) : Int)))))) fun (v4 : Bool) =>
  bif v4 then
   Option.bind (some (true)) fun (v5 : Bool) =>
   bif v5 then
    Option.bind (@law15_alive N) fun (v6 : Bool) =>
    some (v6)
   else
    Option.bind (httpq_Lay N (r0.1, r0.2)) fun v6 =>
    bif (!(decide (v6.2 = (0 : Int)))) then
     Option.bind (some (true)) fun (v7 : Bool) =>
     bif v7 then
      bif (!(decide (v6.2 = (0 : Int)))) then
       Option.bind (some ((cond true (decide ((((List.length v6.1) : Nat) : Int) = (0 : Int))) false))) fun (v8 : Bool) =>
       bif v8 then
        Option.bind (@law15_alive N) fun (v9 : Bool) =>
        some ((cond true v9 false))
       else
        some (false)
      else
       Option.bind (some (false)) fun (v8 : Bool) =>
       bif v8 then
        Option.bind (@law15_alive N) fun (v9 : Bool) =>
        some ((cond true v9 false))
       else
        some (false)
     else
      bif (roomB (List.length v6.1) 1) then
       bif (roomB ((List.length v6.1) + (List.length behind1)) 1) then
        Option.bind (httpq_Parse N (v6.1 ++ behind1)) fun v8 =>
        bif (decide ((((List.length v6.1) : Nat) : Int) = (0 : Int))) then
         none
        else
         Option.bind (takeI v6.1 (@Int.tmod (IntKind.wrap .i64 x2) (((List.length v6.1) : Nat) : Int))) fun (v9 : (List Int)) =>
         Option.bind (httpq_Parse N v9) fun v10 =>
         bif ((@wfB (@Td.pair @Td.str @Td.str) (v8.1.1, v8.1.2)) && (@wfB (@Td.pair @Td.str @Td.str) (r0.1, r0.2))) then
          bif (@Decidable.decide (@Eq (List UInt8 × (List UInt8)) (v8.1.1, v8.1.2) (r0.1, r0.2)) (@decT (@Td.pair @Td.str @Td.str) (v8.1.1, v8.1.2) (r0.1, r0.2))) then
           Option.bind (some ((cond true (decide (v8.2.1 = (((List.length v6.1) : Nat) : Int))) false))) fun (v11 : Bool) =>
           Option.bind (bif v11 then
             some ((cond true (decide (v8.2.2 = (0 : Int))) false))
            else
             some (false)) fun (v12 : Bool) =>
           Option.bind (bif v12 then
             some ((cond true (decide (v10.2.1 = (0 : Int))) false))
            else
             some (false)) fun (v13 : Bool) =>
           Option.bind (bif v13 then
             some ((cond true (decide (v10.2.2 = (4 : Int))) false))
            else
             some (false)) fun (v14 : Bool) =>
           bif v14 then
            Option.bind (@law15_alive N) fun (v15 : Bool) =>
            some ((cond true v15 false))
           else
            some (false)
          else
           Option.bind (some (false)) fun (v11 : Bool) =>
           Option.bind (bif v11 then
             some ((cond true (decide (v8.2.2 = (0 : Int))) false))
            else
             some (false)) fun (v12 : Bool) =>
           Option.bind (bif v12 then
             some ((cond true (decide (v10.2.1 = (0 : Int))) false))
            else
             some (false)) fun (v13 : Bool) =>
           Option.bind (bif v13 then
             some ((cond true (decide (v10.2.2 = (4 : Int))) false))
            else
             some (false)) fun (v14 : Bool) =>
           bif v14 then
            Option.bind (@law15_alive N) fun (v15 : Bool) =>
            some ((cond true v15 false))
           else
            some (false)
         else
          none
       else
        none
      else
       none
    else
     Option.bind (some ((cond false true (decide ((((List.length v6.1) : Nat) : Int) = (0 : Int)))))) fun (v7 : Bool) =>
     bif v7 then
      bif (!(decide (v6.2 = (0 : Int)))) then
       Option.bind (some ((cond true (decide ((((List.length v6.1) : Nat) : Int) = (0 : Int))) false))) fun (v8 : Bool) =>
       bif v8 then
        Option.bind (@law15_alive N) fun (v9 : Bool) =>
        some ((cond true v9 false))
       else
        some (false)
      else
       Option.bind (some (false)) fun (v8 : Bool) =>
       bif v8 then
        Option.bind (@law15_alive N) fun (v9 : Bool) =>
        some ((cond true v9 false))
       else
        some (false)
     else
      bif (roomB (List.length v6.1) 1) then
       bif (roomB ((List.length v6.1) + (List.length behind1)) 1) then
        Option.bind (httpq_Parse N (v6.1 ++ behind1)) fun v8 =>
        bif (decide ((((List.length v6.1) : Nat) : Int) = (0 : Int))) then
         none
        else
         Option.bind (takeI v6.1 (@Int.tmod (IntKind.wrap .i64 x2) (((List.length v6.1) : Nat) : Int))) fun (v9 : (List Int)) =>
         Option.bind (httpq_Parse N v9) fun v10 =>
         bif ((@wfB (@Td.pair @Td.str @Td.str) (v8.1.1, v8.1.2)) && (@wfB (@Td.pair @Td.str @Td.str) (r0.1, r0.2))) then
          bif (@Decidable.decide (@Eq (List UInt8 × (List UInt8)) (v8.1.1, v8.1.2) (r0.1, r0.2)) (@decT (@Td.pair @Td.str @Td.str) (v8.1.1, v8.1.2) (r0.1, r0.2))) then
           Option.bind (some ((cond true (decide (v8.2.1 = (((List.length v6.1) : Nat) : Int))) false))) fun (v11 : Bool) =>
           Option.bind (bif v11 then
             some ((cond true (decide (v8.2.2 = (0 : Int))) false))
            else
             some (false)) fun (v12 : Bool) =>
           Option.bind (bif v12 then
             some ((cond true (decide (v10.2.1 = (0 : Int))) false))
            else
             some (false)) fun (v13 : Bool) =>
           Option.bind (bif v13 then
             some ((cond true (decide (v10.2.2 = (4 : Int))) false))
            else
             some (false)) fun (v14 : Bool) =>
           bif v14 then
            Option.bind (@law15_alive N) fun (v15 : Bool) =>
            some ((cond true v15 false))
           else
            some (false)
          else
           Option.bind (some (false)) fun (v11 : Bool) =>
           Option.bind (bif v11 then
             some ((cond true (decide (v8.2.2 = (0 : Int))) false))
            else
             some (false)) fun (v12 : Bool) =>
           Option.bind (bif v12 then
             some ((cond true (decide (v10.2.1 = (0 : Int))) false))
            else
             some (false)) fun (v13 : Bool) =>
           Option.bind (bif v13 then
             some ((cond true (decide (v10.2.2 = (4 : Int))) false))
            else
             some (false)) fun (v14 : Bool) =>
           bif v14 then
            Option.bind (@law15_alive N) fun (v15 : Bool) =>
            some ((cond true v15 false))
           else
            some (false)
         else
          none
       else
        none
      else
       none
  else
   Option.bind (some ((cond false true (decide ((300 : Int) < (((List.length behind1) : Nat) : Int)))))) fun (v5 : Bool) =>
   bif v5 then
    Option.bind (@law15_alive N) fun (v6 : Bool) =>
    some (v6)
   else
    Option.bind (httpq_Lay N (r0.1, r0.2)) fun v6 =>
    bif (!(decide (v6.2 = (0 : Int)))) then
     Option.bind (some (true)) fun (v7 : Bool) =>
     bif v7 then
      bif (!(decide (v6.2 = (0 : Int)))) then
       Option.bind (some ((cond true (decide ((((List.length v6.1) : Nat) : Int) = (0 : Int))) false))) fun (v8 : Bool) =>
       bif v8 then
        Option.bind (@law15_alive N) fun (v9 : Bool) =>
        some ((cond true v9 false))
       else
        some (false)
      else
       Option.bind (some (false)) fun (v8 : Bool) =>
       bif v8 then
        Option.bind (@law15_alive N) fun (v9 : Bool) =>
        some ((cond true v9 false))
       else
        some (false)
     else
      bif (roomB (List.length v6.1) 1) then
       bif (roomB ((List.length v6.1) + (List.length behind1)) 1) then
        Option.bind (httpq_Parse N (v6.1 ++ behind1)) fun v8 =>
        bif (decide ((((List.length v6.1) : Nat) : Int) = (0 : Int))) then
         none
        else
         Option.bind (takeI v6.1 (@Int.tmod (IntKind.wrap .i64 x2) (((List.length v6.1) : Nat) : Int))) fun (v9 : (List Int)) =>
         Option.bind (httpq_Parse N v9) fun v10 =>
         bif ((@wfB (@Td.pair @Td.str @Td.str) (v8.1.1, v8.1.2)) && (@wfB (@Td.pair @Td.str @Td.str) (r0.1, r0.2))) then
          bif (@Decidable.decide (@Eq (List UInt8 × (List UInt8)) (v8.1.1, v8.1.2) (r0.1, r0.2)) (@decT (@Td.pair @Td.str @Td.str) (v8.1.1, v8.1.2) (r0.1, r0.2))) then
           Option.bind (some ((cond true (decide (v8.2.1 = (((List.length v6.1) : Nat) : Int))) false))) fun (v11 : Bool) =>
           Option.bind (bif v11 then
             some ((cond true (decide (v8.2.2 = (0 : Int))) false))
            else
             some (false)) fun (v12 : Bool) =>
           Option.bind (bif v12 then
             some ((cond true (decide (v10.2.1 = (0 : Int))) false))
            else
             some (false)) fun (v13 : Bool) =>
           Option.bind (bif v13 then
             some ((cond true (decide (v10.2.2 = (4 : Int))) false))
            else
             some (false)) fun (v14 : Bool) =>
           bif v14 then
            Option.bind (@law15_alive N) fun (v15 : Bool) =>
            some ((cond true v15 false))
           else
            some (false)
          else
           Option.bind (some (false)) fun (v11 : Bool) =>
           Option.bind (bif v11 then
             some ((cond true (decide (v8.2.2 = (0 : Int))) false))
            else
             some (false)) fun (v12 : Bool) =>
           Option.bind (bif v12 then
             some ((cond true (decide (v10.2.1 = (0 : Int))) false))
            else
             some (false)) fun (v13 : Bool) =>
           Option.bind (bif v13 then
             some ((cond true (decide (v10.2.2 = (4 : Int))) false))
            else
             some (false)) fun (v14 : Bool) =>
           bif v14 then
            Option.bind (@law15_alive N) fun (v15 : Bool) =>
            some ((cond true v15 false))
           else
            some (false)
         else
          none
       else
        none
      else
       none
    else
     Option.bind (some ((cond false true (decide ((((List.length v6.1) : Nat) : Int) = (0 : Int)))))) fun (v7 : Bool) =>
     bif v7 then
      bif (!(decide (v6.2 = (0 : Int)))) then
       Option.bind (some ((cond true (decide ((((List.length v6.1) : Nat) : Int) = (0 : Int))) false))) fun (v8 : Bool) =>
       bif v8 then
        Option.bind (@law15_alive N) fun (v9 : Bool) =>
        some ((cond true v9 false))
       else
        some (false)
      else
       Option.bind (some (false)) fun (v8 : Bool) =>
       bif v8 then
        Option.bind (@law15_alive N) fun (v9 : Bool) =>
        some ((cond true v9 false))
       else
        some (false)
     else
      bif (roomB (List.length v6.1) 1) then
       bif (roomB ((List.length v6.1) + (List.length behind1)) 1) then
        Option.bind (httpq_Parse N (v6.1 ++ behind1)) fun v8 =>
        bif (decide ((((List.length v6.1) : Nat) : Int) = (0 : Int))) then
         none
        else
         Option.bind (takeI v6.1 (@Int.tmod (IntKind.wrap .i64 x2) (((List.length v6.1) : Nat) : Int))) fun (v9 : (List Int)) =>
         Option.bind (httpq_Parse N v9) fun v10 =>
         bif ((@wfB (@Td.pair @Td.str @Td.str) (v8.1.1, v8.1.2)) && (@wfB (@Td.pair @Td.str @Td.str) (r0.1, r0.2))) then
          bif (@Decidable.decide (@Eq (List UInt8 × (List UInt8)) (v8.1.1, v8.1.2) (r0.1, r0.2)) (@decT (@Td.pair @Td.str @Td.str) (v8.1.1, v8.1.2) (r0.1, r0.2))) then
           Option.bind (some ((cond true (decide (v8.2.1 = (((List.length v6.1) : Nat) : Int))) false))) fun (v11 : Bool) =>
           Option.bind (bif v11 then
             some ((cond true (decide (v8.2.2 = (0 : Int))) false))
            else
             some (false)) fun (v12 : Bool) =>
           Option.bind (bif v12 then
             some ((cond true (decide (v10.2.1 = (0 : Int))) false))
            else
             some (false)) fun (v13 : Bool) =>
           Option.bind (bif v13 then
             some ((cond true (decide (v10.2.2 = (4 : Int))) false))
            else
             some (false)) fun (v14 : Bool) =>
           bif v14 then
            Option.bind (@law15_alive N) fun (v15 : Bool) =>
            some ((cond true v15 false))
           else
            some (false)
          else
           Option.bind (some (false)) fun (v11 : Bool) =>
           Option.bind (bif v11 then
             some ((cond true (decide (v8.2.2 = (0 : Int))) false))
            else
             some (false)) fun (v12 : Bool) =>
           Option.bind (bif v12 then
             some ((cond true (decide (v10.2.1 = (0 : Int))) false))
            else
             some (false)) fun (v13 : Bool) =>
           Option.bind (bif v13 then
             some ((cond true (decide (v10.2.2 = (4 : Int))) false))
            else
             some (false)) fun (v14 : Bool) =>
           bif v14 then
            Option.bind (@law15_alive N) fun (v15 : Bool) =>
            some ((cond true v15 false))
           else
            some (false)
         else
          none
       else
        none
      else
       none
theorem law15_HttpqBack_S (r0 : List UInt8 × (List UInt8)) (behind1 : List (Int)) (x2 : Int) : (runK Tryd.prog (Ev78 N) 400 5 [(.pair .str .str), (.sl (.int .u8)), (.int .u16)] [.bool] (r0, behind1, x2, ())).run = law15_HttpqBack N r0 behind1 x2 := by kernel_rfl
theorem law15_HttpqBack_C (r0 : List UInt8 × (List UInt8)) (behind1 : List (Int)) (x2 : Int) (y : Bool) (h : law15_HttpqBack N r0 behind1 x2 = some y) : CallsK Tryd.prog 5 (valA [(.pair .str .str), (.sl (.int .u8)), (.int .u16)] (r0, behind1, x2, ())) (tupV (valR [.bool] y)) := runK_ok hmx (Ev78_ok N _) (okFn_ok (by kernel_rfl)) (by rw [law15_HttpqBack_S]; exact h)
noncomputable def Ev79 : (R : Type) → Env R := Env.addFn (Ev78 N) 5 (fun R => fnK [(.pair .str .str), (.sl (.int .u8)), (.int .u16)] [.bool] (fun c => law15_HttpqBack N c.1 c.2.1 c.2.2.1))
theorem Ev79_ok (R : Type) : EnvOK Tryd.prog (Ev79 N R) := EnvOK.addFn hmx (Ev78_ok N R) (Ev78_ok N _) (by kernel_rfl) (fun c => law15_HttpqBack_S N c.1 c.2.1 c.2.2.1)
end
end Go.Proofs.YtfaocnboildjbaaDoor
/-
  Plain functions: bytes, and whether two rows are the same.
-/
namespace Go.Proofs.YtfaocnboildjbaaDoor
set_option maxRecDepth 100000
open Go.RowKit
set_option linter.unusedVariables false
set_option linter.unusedSimpArgs false

def AllB (l : List Int) : Prop := ∀ x ∈ l, 0 ≤ x ∧ x < 256
theorem AllB.nil : AllB [] := fun _ h => by cases h
theorem AllB.cons {x : Int} {l : List Int} (h1 : 0 ≤ x ∧ x < 256) (h2 : AllB l) : AllB (x :: l) := fun y hy => by
  rcases List.mem_cons.1 hy with rfl | hy
  · exact h1
  · exact h2 y hy
theorem AllB.append {l m : List Int} (h1 : AllB l) (h2 : AllB m) : AllB (l ++ m) := fun y hy => by
  rcases List.mem_append.1 hy with hy | hy
  · exact h1 y hy
  · exact h2 y hy
theorem AllB.drop {l : List Int} (h : AllB l) (n : Nat) : AllB (l.drop n) := fun y hy => h y (List.mem_of_mem_drop hy)
theorem AllB.take {l : List Int} (h : AllB l) (n : Nat) : AllB (l.take n) := fun y hy => h y (List.mem_of_mem_take hy)
theorem AllB.get {l : List Int} (h : AllB l) (i : Nat) (hi : i < l.length) : 0 ≤ l[i] ∧ l[i] < 256 := h _ (List.getElem_mem hi)
theorem wf_u8 {n : Int} (h : (Lit.int .u8 n).wf = true) : 0 ≤ n ∧ n < 256 := by
  simp only [Lit.wf, Bool.and_eq_true, decide_eq_true_eq, IntKind.min, IntKind.max, IntKind.signed, IntKind.bits] at h
  simp at h
  omega
theorem wf_bytes {l : List Int} (h : wfT (.sl (.int .u8)) l) : AllB l := fun x hx => wf_u8 (h.2 x hx)
def byteOf (x : Int) : UInt8 := UInt8.ofNat x.toNat
theorem toBy_map : ∀ {l : List Int}, AllB l → toBy l = some (l.map byteOf)
  | [], _ => rfl
  | x :: l, h => by
    have h1 := h x List.mem_cons_self
    unfold toBy
    rw [if_pos h1, toBy_map (fun y hy => h y (List.mem_cons_of_mem _ hy))]
    rfl
theorem byte_inj {x y : Int} (h1 : 0 ≤ x ∧ x < 256) (h2 : 0 ≤ y ∧ y < 256) (h : byteOf x = byteOf y) : x = y := by
  unfold byteOf at h
  have := congrArg UInt8.toNat h
  simp only [UInt8.toNat_ofNat'] at this
  omega
theorem bytes_inj : ∀ {a b : List Int}, AllB a → AllB b → a.map byteOf = b.map byteOf → a = b
  | [], [], _, _, _ => rfl
  | [], _ :: _, _, _, h => by cases h
  | _ :: _, [], _, _, h => by cases h
  | x :: a, y :: b, h1, h2, h => by
    simp only [List.map_cons, List.cons.injEq] at h
    rw [byte_inj (h1 x List.mem_cons_self) (h2 y List.mem_cons_self) h.1, bytes_inj (fun z hz => h1 z (List.mem_cons_of_mem _ hz)) (fun z hz => h2 z (List.mem_cons_of_mem _ hz)) h.2]
theorem bytes_dec {a b : List Int} (h1 : AllB a) (h2 : AllB b) : decide (a.map byteOf = b.map byteOf) = decide (a = b) := by
  by_cases h : a = b
  · subst h; simp
  · rw [decide_eq_false h, decide_eq_false (fun h' => h (bytes_inj h1 h2 h'))]
theorem subI_nat {α : Type} (l : List α) {a b : Int} {i j : Nat} (ha : a = i) (hb : b = j) (h1 : i ≤ j) (h2 : j ≤ l.length) : subI l a b = some ((l.drop i).take (j - i)) := by
  subst ha hb
  unfold subI
  rw [if_pos ⟨by omega, by omega, by omega⟩, Int.toNat_natCast, Int.toNat_natCast]
theorem dropI_nat {α : Type} (l : List α) {a : Int} {i : Nat} (ha : a = i) (h1 : i ≤ l.length) : dropI l a = some (l.drop i) := by
  subst ha
  unfold dropI
  rw [if_pos ⟨by omega, by omega⟩, Int.toNat_natCast]
theorem takeI_nat {α : Type} (l : List α) {a : Int} {i : Nat} (ha : a = i) (h1 : i ≤ l.length) : takeI l a = some (l.take i) := by
  subst ha
  unfold takeI
  rw [if_pos ⟨by omega, by omega⟩, Int.toNat_natCast]
theorem getI_at {α : Type} (l : List α) {a : Int} {i : Nat} (ha : a = i) (h1 : i < l.length) : getI l a = some l[i] := by subst ha; exact getI_lt l i h1
/-- Are two rows of numbers the same? -/
def sameB (X : (((List (Int)) × ((List (Int)) × ((Int) × Unit))) × Unit) → Option (((((Bool) × Unit) × Unit) ⊕ (Unit × Unit)))) (a0 : List (Int)) (b1 : List (Int)) (i5 : Int) : Option (((((Bool) × Unit) × Unit) ⊕ (Unit × Unit))) :=
 bif (decide (i5 < (((List.length a0) : Nat) : Int))) then
  Option.bind (getI a0 i5) fun (v5 : Int) =>
  Option.bind (getI b1 i5) fun (v6 : Int) =>
  bif (!(decide (v5 = v6))) then
   some ((.inl ((Bool.false, Unit.unit), Unit.unit)))
  else
   (X ((a0, (b1, ((Go.IntKind.wrap .i64 (i5 + (1 : Int))), Unit.unit))), Unit.unit))
 else
  some ((.inr (Unit.unit, Unit.unit)))
def sameF (N : Nat) (a0 : List (Int)) (b1 : List (Int)) : Option (Bool) :=
 bif (!(decide ((((List.length a0) : Nat) : Int) = (((List.length b1) : Nat) : Int)))) then
  some (Bool.false)
 else
  Option.bind (gl (fun X c => sameB X c.1.1 c.1.2.1 c.1.2.2.1) N ((a0, (b1, ((0 : Int), Unit.unit))), Unit.unit)) fun (v3 : (((Bool × Unit) × Unit) ⊕ (Unit × Unit))) =>
  Sum.elim
   (fun (v4 : ((Bool × Unit) × Unit)) =>
   some (v4.1.1))
   (fun (v4 : (Unit × Unit)) =>
   some (Bool.true)) v3
theorem sameF_ok {N : Nat} {a b : List Int} (h : a.length < N) (hb : a.length < 1000000000) : sameF N a b = some (decide (a = b)) := by
  unfold sameF
  by_cases hl : a.length = b.length
  · have c0 : ((a.length : Int) = (b.length : Int)) := by omega
    simp only [c0, decide_true, Bool.not_true, cond_false]
    obtain ⟨o, h1, h2⟩ := gl_inv (G := fun (X : (((List (Int)) × ((List (Int)) × ((Int) × Unit))) × Unit) → Option (((((Bool) × Unit) × Unit) ⊕ (Unit × Unit)))) c => sameB X c.1.1 c.1.2.1 c.1.2.2.1)
      (fun n c => ∃ i : Nat, c = ((a, (b, ((i : Int), ()))), ()) ∧ i ≤ a.length ∧ n = a.length - i ∧ a.take i = b.take i) (fun o => o = if a = b then .inr ((), ()) else .inl ((false, ()), ())) (fun X n c ⟨i, hc, hi, hn, ht⟩ => by
      subst hc
      rcases Nat.lt_or_ge i a.length with hlt | hge
      · have c1 : ((i : Int) < (a.length : Int)) := by omega
        have c2 : Go.IntKind.wrap .i64 ((i : Int) + 1) = ((i + 1 : Nat) : Int) := by rw [wrap64 (by omega) (by omega)]; omega
        by_cases he : a[i] = b[i]'(by omega)
        · right
          refine ⟨a.length - (i + 1), ((a, (b, (((i + 1 : Nat) : Int), ()))), ()), by omega, ⟨i + 1, rfl, hlt, rfl, ?_⟩, ?_⟩
          · rw [List.take_add_one, List.take_add_one, ht, List.getElem?_eq_getElem hlt, List.getElem?_eq_getElem (by omega), he]
          · simp only [sameB, c1, decide_true, cond_true, getI_lt a i hlt, getI_lt b i (by omega), Option.bind_some, he, Bool.not_true, cond_false, c2]
        · left
          refine ⟨.inl ((false, ()), ()), ?_, ?_⟩
          · simp only [sameB, c1, decide_true, cond_true, getI_lt a i hlt, getI_lt b i (by omega), Option.bind_some, he, decide_false, Bool.not_false]
          · rw [if_neg (fun h => he (by simp [h]))]
      · left
        have c1 : ¬ ((i : Int) < (a.length : Int)) := by omega
        refine ⟨.inr ((), ()), by simp only [sameB, c1, decide_false, cond_false], ?_⟩
        rw [List.take_of_length_le (by omega), List.take_of_length_le (by omega)] at ht
        rw [if_pos ht]) N a.length ((a, (b, ((0 : Int), ()))), ()) h ⟨0, rfl, by omega, by omega, by simp⟩
    rw [h1, h2]
    by_cases he : a = b <;> simp [he]
  · have c0 : ¬ ((a.length : Int) = (b.length : Int)) := by omega
    have c1 : ¬ (a = b) := fun h' => hl (by rw [h'])
    simp only [c0, c1, decide_false, Bool.not_false, cond_true]
end Go.Proofs.YtfaocnboildjbaaDoor
/-
  Numbers as bytes, on plain data: the functions that lay and read them, as they are printed of the program, under names of their own.
-/
namespace Go.Proofs.YtfaocnboildjbaaDoor
set_option maxRecDepth 100000
open Go.RowKit
set_option linter.unusedVariables false
set_option linter.unusedSimpArgs false

def qOplace (N : Nat) (i0 : Int) (width1 : Int) (little2 : Bool) : Option (Int) :=
 bif little2 then
  some (i0)
 else
  some ((Go.IntKind.wrap .i64 ((Go.IntKind.wrap .i64 (width1 - (1 : Int))) - i0)))
def qOPutL5 (N : Nat) (X : (((Int) × ((Int) × ((Bool) × ((Int) × ((Int) × Unit))))) × ((List (Int)) × Unit)) → Option ((Unit × ((List (Int)) × Unit)))) (n0 : Int) (width1 : Int) (little2 : Bool) (x19 : Int) (x20 : Int) (h0 : List (Int)) : Option ((Unit × ((List (Int)) × Unit))) :=
 bif (decide (x20 < x19)) then
  Option.bind (qOplace N x20 width1 little2) fun (v8 : Int) =>
  bif (decide ((0 : Int) ≤ v8 ∧ v8 < (((List.length h0) : Nat) : Int))) then
   Option.bind (@GetElem?.getElem? (List Int) Nat Int (fun (as9 : (List Int)) => (fun (i10 : Nat) => (@LT.lt Nat @instLTNat i10 (List.length as9)))) (@List.instGetElem?NatLtLength Int) h0 (Int.toNat v8)) fun (v9 : Int) =>
   (X (((@Int.fdiv n0 (@HPow.hPow Int Nat Int (@instHPow Int Nat (@instPowNat Int @Int.instNatPow)) (2 : Int) (@Min.min Nat @instMinNat (Int.toNat (8 : Int)) (@Go.IntKind.bits @Go.IntKind.u64)))), (width1, (little2, (x19, ((Go.IntKind.wrap .i64 (x20 + (1 : Int))), @Unit.unit))))), ((@List.set Int h0 (Int.toNat v8) (Go.IntKind.wrap .u8 n0)), @Unit.unit)))
  else
   none
 else
  some ((@Unit.unit, (h0, @Unit.unit)))
def qOPutL5R (N : Nat) (c : (((Int) × ((Int) × ((Bool) × ((Int) × ((Int) × Unit))))) × ((List (Int)) × Unit))) : Option ((Unit × ((List (Int)) × Unit))) := gl (fun X c => qOPutL5 N X c.1.1 c.1.2.1 c.1.2.2.1 c.1.2.2.2.1 c.1.2.2.2.2.1 c.2.1) N c
def qOPut (N : Nat) (n0 : Int) (width1 : Int) (little2 : Bool) : Option ((List (Int)) × Int) :=
 bif (decide (width1 < (1 : Int))) then
  some ((([] : List (Int)), (1 : Int)))
 else
  bif (@cond Bool @Bool.false @Bool.true (decide ((8 : Int) < width1))) then
   some ((([] : List (Int)), (1 : Int)))
  else
   bif ((decide ((0 : Int) ≤ width1 ∧ width1 ≤ width1)) && (roomB (Int.toNat width1) 1)) then
    Option.bind (qOPutL5R N ((n0, (width1, (little2, ((((List.length (@List.replicate Int (Int.toNat width1) (0 : Int))) : Nat) : Int), ((0 : Int), @Unit.unit))))), ((@List.replicate Int (Int.toNat width1) (0 : Int)), @Unit.unit))) fun (v4 : (Unit × ((List Int) × Unit))) =>
    some ((v4.2.1, (0 : Int)))
   else
    none
def qOJoinL3 (N : Nat) (X : (((List (List (Int))) × ((Int) × ((List (List (Int))) × ((Int) × ((Int) × Unit))))) × Unit) → Option ((((List (List (Int))) × ((Int) × Unit)) × Unit))) (parts0 : List (List (Int))) (size3 : Int) (x9 : List (List (Int))) (x10 : Int) (x11 : Int) : Option ((((List (List (Int))) × ((Int) × Unit)) × Unit)) :=
 bif (decide (x11 < x10)) then
  Option.bind (getI x9 x11) fun (v7 : (List Int)) =>
  (X ((parts0, ((Go.IntKind.wrap .i64 (size3 + (((List.length v7) : Nat) : Int))), (x9, (x10, ((Go.IntKind.wrap .i64 (x11 + (1 : Int))), @Unit.unit))))), @Unit.unit))
 else
  some (((parts0, (size3, @Unit.unit)), @Unit.unit))
def qOJoinL3R (N : Nat) (c : (((List (List (Int))) × ((Int) × ((List (List (Int))) × ((Int) × ((Int) × Unit))))) × Unit)) : Option ((((List (List (Int))) × ((Int) × Unit)) × Unit)) := gl (fun X c => qOJoinL3 N X c.1.1 c.1.2.1 c.1.2.2.1 c.1.2.2.2.1 c.1.2.2.2.2.1) N c
def qOJoinL9 (N : Nat) (X : (((List (List (Int))) × ((Int) × ((Int) × Unit))) × ((List (Int)) × Unit)) → Option ((Unit × ((List (Int)) × Unit)))) (x22 : List (List (Int))) (x23 : Int) (x24 : Int) (h0 : List (Int)) : Option ((Unit × ((List (Int)) × Unit))) :=
 bif (decide (x24 < x23)) then
  Option.bind (getI x22 x24) fun (v6 : (List Int)) =>
  bif (roomB ((List.length h0) + (List.length v6)) 1) then
   (X ((x22, (x23, ((Go.IntKind.wrap .i64 (x24 + (1 : Int))), @Unit.unit))), ((h0 ++ v6), @Unit.unit)))
  else
   none
 else
  some ((@Unit.unit, (h0, @Unit.unit)))
def qOJoinL9R (N : Nat) (c : (((List (List (Int))) × ((Int) × ((Int) × Unit))) × ((List (Int)) × Unit))) : Option ((Unit × ((List (Int)) × Unit))) := gl (fun X c => qOJoinL9 N X c.1.1 c.1.2.1 c.1.2.2.1 c.2.1) N c
def qOJoin (N : Nat) (parts0 : List (List (Int))) : Option (List (Int)) :=
 Option.bind (qOJoinL3R N ((parts0, ((0 : Int), (parts0, ((((List.length parts0) : Nat) : Int), ((0 : Int), @Unit.unit))))), @Unit.unit)) fun (v2 : (((List (List Int)) × (Int × Unit)) × Unit)) =>
 bif ((decide ((0 : Int) ≤ (0 : Int) ∧ (0 : Int) ≤ v2.1.2.1)) && (roomB (Int.toNat v2.1.2.1) 1)) then
  Option.bind (qOJoinL9R N ((v2.1.1, ((((List.length v2.1.1) : Nat) : Int), ((0 : Int), @Unit.unit))), ((@List.replicate Int (Int.toNat (0 : Int)) (0 : Int)), @Unit.unit))) fun (v3 : (Unit × ((List Int) × Unit))) =>
  some (v3.2.1)
 else
  none
def qOGetL5 (N : Nat) (X : (((List (Int)) × ((Bool) × ((Int) × ((Int) × ((Int) × Unit))))) × Unit) → Option ((((Int) × Unit) × Unit))) (b0 : List (Int)) (little1 : Bool) (n6 : Int) (x17 : Int) (x18 : Int) : Option ((((Int) × Unit) × Unit)) :=
 bif (decide (x18 < x17)) then
  Option.bind (qOplace N x18 (((List.length b0) : Nat) : Int) little1) fun (v7 : Int) =>
  Option.bind (getI b0 v7) fun (v8 : Int) =>
  bif (decide ((0 : Int) ≤ (Go.IntKind.wrap .i64 ((8 : Int) * x18)))) then
   (X ((b0, (little1, ((@Go.bits @Go.BinOp.or @Go.IntKind.u64 n6 (Go.IntKind.wrap .u64 ((Go.IntKind.wrap .u64 v8) * (@HPow.hPow Int Nat Int (@instHPow Int Nat (@instPowNat Int @Int.instNatPow)) (2 : Int) (@Min.min Nat @instMinNat (Int.toNat (Go.IntKind.wrap .i64 ((8 : Int) * x18))) (@Go.IntKind.bits @Go.IntKind.u64)))))), (x17, ((Go.IntKind.wrap .i64 (x18 + (1 : Int))), @Unit.unit))))), @Unit.unit))
  else
   none
 else
  some (((n6, @Unit.unit), @Unit.unit))
def qOGetL5R (N : Nat) (c : (((List (Int)) × ((Bool) × ((Int) × ((Int) × ((Int) × Unit))))) × Unit)) : Option ((((Int) × Unit) × Unit)) := gl (fun X c => qOGetL5 N X c.1.1 c.1.2.1 c.1.2.2.1 c.1.2.2.2.1 c.1.2.2.2.2.1) N c
def qOGet (N : Nat) (b0 : List (Int)) (little1 : Bool) : Option ((Int) × Int) :=
 bif (decide ((((List.length b0) : Nat) : Int) < (1 : Int))) then
  some (((0 : Int), (1 : Int)))
 else
  bif (@cond Bool @Bool.false @Bool.true (decide ((8 : Int) < (((List.length b0) : Nat) : Int)))) then
   some (((0 : Int), (1 : Int)))
  else
   Option.bind (qOGetL5R N ((b0, (little1, ((0 : Int), ((((List.length b0) : Nat) : Int), ((0 : Int), @Unit.unit))))), @Unit.unit)) fun (v3 : ((Int × Unit) × Unit)) =>
   some ((v3.1.1, (0 : Int)))
def qRBigL3 (N : Nat) (X : (((Int) × ((Int) × Unit)) × ((List (Int)) × Unit)) → Option ((Unit × ((List (Int)) × Unit)))) (n0 : Int) (i6 : Int) (h0 : List (Int)) : Option ((Unit × ((List (Int)) × Unit))) :=
 bif (decide ((0 : Int) ≤ i6)) then
  bif (decide ((0 : Int) ≤ i6 ∧ i6 < (((List.length h0) : Nat) : Int))) then
   Option.bind (@GetElem?.getElem? (List Int) Nat Int (fun (as5 : (List Int)) => (fun (i6 : Nat) => (@LT.lt Nat @instLTNat i6 (List.length as5)))) (@List.instGetElem?NatLtLength Int) h0 (Int.toNat i6)) fun (v5 : Int) =>
   (X (((Go.IntKind.wrap .u64 (@Int.tdiv n0 (256 : Int))), ((Go.IntKind.wrap .i64 (i6 - (1 : Int))), @Unit.unit)), ((@List.set Int h0 (Int.toNat i6) (Go.IntKind.wrap .u8 (@Int.tmod n0 (256 : Int)))), @Unit.unit)))
  else
   none
 else
  some ((@Unit.unit, (h0, @Unit.unit)))
def qRBigL3R (N : Nat) (c : (((Int) × ((Int) × Unit)) × ((List (Int)) × Unit))) : Option ((Unit × ((List (Int)) × Unit))) := gl (fun X c => qRBigL3 N X c.1.1 c.1.2.1 c.2.1) N c
def qRBig (N : Nat) (n0 : Int) (width1 : Int) : Option (List (Int)) :=
 bif ((decide ((0 : Int) ≤ width1 ∧ width1 ≤ width1)) && (roomB (Int.toNat width1) 1)) then
  Option.bind (qRBigL3R N ((n0, ((Go.IntKind.wrap .i64 (width1 - (1 : Int))), @Unit.unit)), ((@List.replicate Int (Int.toNat width1) (0 : Int)), @Unit.unit))) fun (v3 : (Unit × ((List Int) × Unit))) =>
  some (v3.2.1)
 else
  none
def qRNumL3 (N : Nat) (X : (((List (Int)) × ((Int) × ((Int) × Unit))) × Unit) → Option ((((Int) × Unit) × Unit))) (b0 : List (Int)) (n3 : Int) (i4 : Int) : Option ((((Int) × Unit) × Unit)) :=
 bif (decide (i4 < (((List.length b0) : Nat) : Int))) then
  Option.bind (getI b0 i4) fun (v5 : Int) =>
  (X ((b0, ((Go.IntKind.wrap .u64 ((Go.IntKind.wrap .u64 (n3 * (256 : Int))) + (Go.IntKind.wrap .u64 v5))), ((Go.IntKind.wrap .i64 (i4 + (1 : Int))), @Unit.unit))), @Unit.unit))
 else
  some (((n3, @Unit.unit), @Unit.unit))
def qRNumL3R (N : Nat) (c : (((List (Int)) × ((Int) × ((Int) × Unit))) × Unit)) : Option ((((Int) × Unit) × Unit)) := gl (fun X c => qRNumL3 N X c.1.1 c.1.2.1 c.1.2.2.1) N c
def qRNum (N : Nat) (b0 : List (Int)) : Option (Int) :=
 Option.bind (qRNumL3R N ((b0, ((0 : Int), ((0 : Int), @Unit.unit))), @Unit.unit)) fun (v2 : ((Int × Unit) × Unit)) =>
 some (v2.1.1)
end Go.Proofs.YtfaocnboildjbaaDoor
/-
  Layer 14, on plain data: small letters, tokens, blanks.
-/
namespace Go.Proofs.YtfaocnboildjbaaDoor
set_option maxRecDepth 100000
open Go.RowKit
set_option linter.unusedVariables false
set_option linter.unusedSimpArgs false
set_option maxRecDepth 100000

theorem wrap8 (x : Int) (h0 : 0 ≤ x) (h1 : x < 256) : Go.IntKind.wrap .u8 x = x := wrapU8 h0 h1
theorem small_ok (N : Nat) (b : UInt8) : ref14_small N ((b.toNat : Nat) : Int) = some (((sm b).toNat : Nat) : Int) := by
  unfold ref14_small
  have hb := UInt8.toNat_lt b
  by_cases h1 : (65 : Int) ≤ ((b.toNat : Nat) : Int)
  · by_cases h2 : ((b.toNat : Nat) : Int) ≤ 90
    · simp only [decide_eq_true h1, decide_eq_true h2, cond_true, Option.bind_some]
      rw [wrap8 _ (by omega) (by omega), sm_up ⟨by omega, by omega⟩]
      congr 1
    · simp only [decide_eq_true h1, decide_eq_false h2, cond_true, Option.bind_some, cond_false]
      rw [sm_id (by omega)]
  · simp only [decide_eq_false h1, cond_false, Option.bind_some]
    rw [sm_id (by omega)]
theorem toBy_nat : ∀ l : List UInt8, toBy (l.map fun b => ((b.toNat : Nat) : Int)) = some l := fun l => by
  have h : AllB (l.map fun b => ((b.toNat : Nat) : Int)) := fun x hx => by
    obtain ⟨b, _, rfl⟩ := List.mem_map.1 hx
    have := UInt8.toNat_lt b
    omega
  rw [toBy_map h, List.map_map]
  congr 1
  have : ∀ b : UInt8, byteOf ((b.toNat : Nat) : Int) = b := fun b => by unfold byteOf; simp
  induction l with
  | nil => rfl
  | cons a l ih => rw [List.map_cons, Function.comp, this, ih (fun x hx => h x (by simp at hx ⊢; exact .inr hx))]
theorem lowS_length (s : List UInt8) : (lowS s).length = s.length := by simp [lowS]
theorem rlower_ok {N : Nat} (s : List UInt8) (h : s.length < N) (hb : s.length < 1000000000) : ref14_Lower N s = some (lowS s) := by
  have hr : roomB (Int.toNat (((List.length s) : Nat) : Int)) 1 = true := by rw [Int.toNat_natCast]; exact roomB_of (by have := big_len; omega) (by omega)
  have hl : ref14_Lower_L3_R N ((s, ((0 : Int), ())), (List.replicate (Int.toNat (((List.length s) : Nat) : Int)) (0 : Int), ())) = some ((), (s.map fun b => (((sm b).toNat : Nat) : Int), ())) := by
    rw [Int.toNat_natCast]
    unfold ref14_Lower_L3_R
    have := gl_run (G := fun X c => ref14_Lower_L3 N X c.1.1 c.1.2.1 c.2.1) (fun i => ((s, ((i : Int), ())), ((s.take i).map (fun b => (((sm b).toNat : Nat) : Int)) ++ List.replicate (s.length - i) 0, ()))) s.length ((), (s.map fun b => (((sm b).toNat : Nat) : Int), ())) (fun X i hi => ?_) (fun X => ?_) N 0 (Nat.zero_le _) (by omega)
    · simpa using this
    · have c1 : ((i : Int) < (((List.length s) : Nat) : Int)) := by omega
      have e3 : Go.IntKind.wrap .i64 ((i : Int) + 1) = ((i + 1 : Nat) : Int) := by rw [wrap64 (by omega) (by omega)]; omega
      have hlen : ((s.take i).map (fun b => (((sm b).toNat : Nat) : Int)) ++ List.replicate (s.length - i) (0 : Int)).length = s.length := by simp; omega
      have c2 : ((0 : Int) ≤ (i : Int) ∧ (i : Int) < (((List.length ((s.take i).map (fun b => (((sm b).toNat : Nat) : Int)) ++ List.replicate (s.length - i) (0 : Int))) : Nat) : Int)) := by rw [hlen]; omega
      have e4 : ((s.take i).map (fun b => (((sm b).toNat : Nat) : Int)) ++ List.replicate (s.length - i) (0 : Int)).set i (((sm s[i]).toNat : Nat) : Int) = (s.take (i + 1)).map (fun b => (((sm b).toNat : Nat) : Int)) ++ List.replicate (s.length - (i + 1)) 0 := by
        have h1 : ((s.take i).map (fun b => (((sm b).toNat : Nat) : Int))).length = i := by simp; omega
        rw [List.set_append_right _ _ (by omega), h1, Nat.sub_self]
        obtain ⟨m, hm⟩ : ∃ m, s.length - i = m + 1 := ⟨s.length - i - 1, by omega⟩
        rw [hm, List.replicate_succ, List.set_cons_zero, show s.length - (i + 1) = m by omega, List.take_succ_eq_append_getElem hi, List.map_append]
        simp
      have e5 : ∃ v, ((s.take i).map (fun b => (((sm b).toNat : Nat) : Int)) ++ List.replicate (s.length - i) (0 : Int))[i]? = some v := ⟨_, List.getElem?_eq_getElem (by rw [hlen]; exact hi)⟩
      obtain ⟨v, e5⟩ := e5
      simp only [ref14_Lower_L3, decide_eq_true c1, cond_true, getI_lt s i hi, Option.bind_some, small_ok, decide_eq_true c2, Int.toNat_natCast, e5, e3, e4]
    · have c1 : ¬ ((((List.length s) : Nat) : Int) < (((List.length s) : Nat) : Int)) := by omega
      simp only [ref14_Lower_L3, decide_eq_false c1, cond_false, Nat.sub_self, List.replicate_zero, List.append_nil, List.take_length]
  unfold ref14_Lower
  have c : ((0 : Int) ≤ (((List.length s) : Nat) : Int) ∧ (((List.length s) : Nat) : Int) ≤ (((List.length s) : Nat) : Int)) := by omega
  have h2 := toBy_nat (lowS s)
  unfold lowS at h2
  rw [List.map_map] at h2
  simp only [decide_eq_true c, hr, Bool.and_self, cond_true, hl, Option.bind_some]
  rw [show (s.map fun b => (((sm b).toNat : Nat) : Int)) = s.map ((fun b : UInt8 => ((b.toNat : Nat) : Int)) ∘ sm) from rfl, h2]
  rfl
theorem alike_ok {N : Nat} (a b : List UInt8) (h1 : a.length ≤ 1000000) (h2 : b.length ≤ 1000000) : words_Alike N a b = some (decide (lowS a = lowS b)) := by
  unfold words_Alike
  simp only [decide_eq_true h1, decide_eq_true h2, cond_true, Option.bind_some]
theorem ralike_ok {N : Nat} (a b : List UInt8) (h1 : a.length < N) (h2 : b.length < N) (h3 : a.length < 1000000) (h4 : b.length < 1000000) : ref14_Alike N a b = some (decide (lowS a = lowS b)) := by
  unfold ref14_Alike
  rw [rlower_ok a h1 (by omega), rlower_ok b h2 (by omega)]
  simp only [Option.bind_some]

/-! ### Signs of a token -/
def tokI (r : Int) : Bool := decide (r = 45 ∨ r = 95 ∨ r = 46 ∨ r = 123 ∨ r = 125 ∨ r = 47 ∨ (48 ≤ r ∧ r ≤ 57) ∨ (65 ≤ r ∧ r ≤ 90) ∨ (97 ≤ r ∧ r ≤ 122))
def digI (r : Int) : Bool := decide (48 ≤ r ∧ r ≤ 57)
theorem digit_ok (N : Nat) (r : Int) : words_isDigit N r = some (digI r) := by
  unfold words_isDigit digI
  by_cases h1 : (48 : Int) ≤ r
  · by_cases h2 : r ≤ 57
    · simp [h1, h2]
    · simp [h1, h2]
  · simp [h1]
theorem inTok_ok (N : Nat) (r : Int) : words_inToken N r = some (tokI r) := by
  unfold words_inToken
  simp only [digit_ok, Option.bind_some]
  by_cases h1 : r = 45
  · subst h1; rfl
  by_cases h2 : r = 95
  · subst h2; rfl
  by_cases h3 : r = 46
  · subst h3; rfl
  by_cases h4 : r = 123
  · subst h4; rfl
  by_cases h5 : r = 125
  · subst h5; rfl
  by_cases h6 : r = 47
  · subst h6; rfl
  simp only [decide_eq_false h1, decide_eq_false h2, decide_eq_false h3, decide_eq_false h4, decide_eq_false h5, decide_eq_false h6, cond_false]
  unfold tokI digI
  by_cases a1 : (48 : Int) ≤ r <;> by_cases a2 : r ≤ 57 <;> by_cases a3 : (65 : Int) ≤ r <;> by_cases a4 : r ≤ 90 <;> by_cases a5 : (97 : Int) ≤ r <;> by_cases a6 : r ≤ 122 <;>
    simp [a1, a2, a3, a4, a5, a6, h1, h2, h3, h4, h5, h6]
def tokC (b : UInt8) : Bool := tokI (b.toNat : Int)
def digC (b : UInt8) : Bool := digI (b.toNat : Int)
theorem tokI_hi {r : Int} (h : 128 ≤ r) : tokI r = false := decide_eq_false (by omega)
theorem digI_hi {r : Int} (h : 128 ≤ r) : digI r = false := decide_eq_false (by omega)
theorem getD_at {s : List UInt8} {p : Nat} (h : p < s.length) : s.getD p 0 = s[p] := by rw [List.getD_eq_getElem?_getD, List.getElem?_eq_getElem h, Option.getD_some]
theorem ptok_loop (N : Nat) (s : List UInt8) : ∀ (n p : Nat), p ≤ s.length → s.length - p < n → gl (fun X c => words_Token_L2 N X c.1.1 c.2.1 c.2.2.1) n ((s, ()), (s, ((p : Int), ()))) = some (if (s.drop p).all tokC = true then .inr ((s, ()), ()) else .inl ((false, ()), ()))
  | 0, p, _, h => by omega
  | n + 1, p, hp, h => by
    rw [gl_succ]
    rcases Nat.lt_or_ge p s.length with hlt | hge
    · have c1 : Int.toNat (p : Int) < List.length s := by rw [Int.toNat_natCast]; exact hlt
      rw [List.drop_eq_getElem_cons hlt, List.all_cons]
      rcases dec_ge s p hlt with ⟨h1, h2⟩ | ⟨h1, h2, h3, h4, h5⟩
      · have ht : words_inToken N (rdec s (p : Int)).1 = some (tokC s[p]) := by rw [h2, inTok_ok, getD_at hlt]; rfl
        have e1 : (((Int.toNat (p : Int)) : Nat) : Int) + (rdec s (p : Int)).2 = ((p + 1 : Nat) : Int) := by rw [h2, Int.toNat_natCast]; omega
        simp only [words_Token_L2, decide_eq_true c1, cond_true, ht, Option.bind_some, e1]
        cases hc : tokC s[p] with
        | false => simp
        | true =>
          simp only [Bool.not_true, cond_false, Bool.true_and]
          exact ptok_loop N s n (p + 1) (by omega) (by omega)
      · have ht : words_inToken N (rdec s (p : Int)).1 = some false := by rw [inTok_ok, tokI_hi h2]
        have hc : tokC s[p] = false := by rw [← getD_at hlt]; exact tokI_hi (by omega)
        simp only [words_Token_L2, decide_eq_true c1, cond_true, ht, Option.bind_some, Bool.not_false, hc, Bool.false_and]
        rfl
    · have c1 : ¬ (Int.toNat (p : Int) < List.length s) := by rw [Int.toNat_natCast]; omega
      rw [List.drop_of_length_le hge]
      simp only [words_Token_L2, decide_eq_false c1, cond_false, List.all_nil, if_true]
def tokB (s : List UInt8) : Bool := s.all tokC && decide (1 ≤ s.length ∧ s.length ≤ 64)
theorem tok_end (s : List UInt8) (o : (((Bool × Unit) × Unit) ⊕ (((List UInt8) × Unit) × Unit))) (ho : o = if s.all tokC = true then .inr ((s, ()), ()) else .inl ((false, ()), ())) :
    Sum.elim (fun (v3 : ((Bool × Unit) × Unit)) => some (v3.1.1)) (fun (v3 : (((List UInt8) × Unit) × Unit)) =>
      bif (decide ((1 : Int) ≤ (((List.length v3.1.1) : Nat) : Int))) then Option.bind (some ((@cond Bool Bool.true (decide ((((List.length v3.1.1) : Nat) : Int) ≤ (64 : Int))) Bool.false))) fun (v4 : Bool) => some (v4)
      else Option.bind (some (Bool.false)) fun (v4 : Bool) => some (v4)) o = some (tokB s) := by
  subst ho
  unfold tokB
  cases hc : s.all tokC with
  | false => simp
  | true =>
    by_cases h1 : 1 ≤ s.length
    · have c1 : (1 : Int) ≤ (((List.length s) : Nat) : Int) := by omega
      by_cases h2 : s.length ≤ 64
      · have c2 : (((List.length s) : Nat) : Int) ≤ 64 := by omega
        simp only [if_true, Sum.elim_inr, decide_eq_true c1, decide_eq_true c2, cond_true, Option.bind_some, Bool.true_and]
        congr 1
        exact (decide_eq_true ⟨h1, h2⟩).symm
      · have c2 : ¬ ((((List.length s) : Nat) : Int) ≤ 64) := by omega
        simp only [if_true, Sum.elim_inr, decide_eq_true c1, decide_eq_false c2, cond_true, Option.bind_some, Bool.true_and]
        congr 1
        exact (decide_eq_false (fun h => h2 h.2)).symm
    · have c1 : ¬ ((1 : Int) ≤ (((List.length s) : Nat) : Int)) := by omega
      simp only [if_true, Sum.elim_inr, decide_eq_false c1, cond_false, Option.bind_some, Bool.true_and]
      congr 1
      exact (decide_eq_false (fun h => h1 h.1)).symm
theorem token_ok {N : Nat} (s : List UInt8) (h : s.length < N) : words_Token N s = some (tokB s) := by
  unfold words_Token words_Token_L2_R
  have := ptok_loop N s N 0 (Nat.zero_le _) (by omega)
  rw [List.drop_zero] at this
  rw [show ((0 : Int)) = ((0 : Nat) : Int) from rfl, this, Option.bind_some]
  exact tok_end s _ rfl
theorem rtok_loop (N : Nat) (s : List UInt8) (hb : s.length < 1000000) : ∀ (n p : Nat), p ≤ s.length → s.length - p < n → gl (fun X c => ref14_Token_L2 N X c.1.1 c.1.2.1) n ((s, ((p : Int), ())), ()) = some (if (s.drop p).all tokC = true then .inr ((s, ()), ()) else .inl ((false, ()), ()))
  | 0, p, _, h => by omega
  | n + 1, p, hp, h => by
    rw [gl_succ]
    rcases Nat.lt_or_ge p s.length with hlt | hge
    · have c1 : (p : Int) < (((List.length s) : Nat) : Int) := by omega
      have e3 : Go.IntKind.wrap .i64 ((p : Int) + 1) = ((p + 1 : Nat) : Int) := by rw [wrap64 (by omega) (by omega)]; omega
      rw [List.drop_eq_getElem_cons hlt, List.all_cons]
      have key : ∀ X, ref14_Token_L2 N X s (p : Int) = bif (!(tokC s[p])) then some (.inl ((false, ()), ())) else X ((s, (((p + 1 : Nat) : Int), ())), ()) := fun X => by
        simp only [ref14_Token_L2, decide_eq_true c1, cond_true, getI_lt s p hlt, Option.bind_some, small_ok, e3]
        generalize s[p] = b
        have hb := UInt8.toNat_lt b
        have key2 : ∀ z : Int, z = (((sm b).toNat : Nat) : Int) → ((97 ≤ z ∧ z ≤ 122) ∨ (48 ≤ z ∧ z ≤ 57) ∨ z = 45 ∨ z = 95 ∨ z = 46 ∨ z = 123 ∨ z = 125 ∨ z = 47 ↔ tokC b = true) := fun z hz => by
          unfold tokC tokI
          rw [decide_eq_true_iff]
          by_cases hu : 65 ≤ b.toNat ∧ b.toNat ≤ 90
          · rw [sm_up hu] at hz; omega
          · rw [sm_id hu] at hz; omega
        generalize hz : (((sm b).toNat : Nat) : Int) = z
        have k2 := key2 z hz.symm
        cases ht : tokC b with
        | true =>
          have := k2.2 ht
          by_cases a1 : (97 : Int) ≤ z <;> by_cases a2 : z ≤ 122 <;> by_cases a3 : (48 : Int) ≤ z <;> by_cases a4 : z ≤ 57 <;> by_cases a5 : z = 45 <;> by_cases a6 : z = 95 <;> by_cases a7 : z = 46 <;> by_cases a8 : z = 123 <;> by_cases a9 : z = 125 <;> by_cases a0 : z = 47 <;>
            first | (exfalso; omega) | simp [a1, a2, a3, a4, a5, a6, a7, a8, a9, a0]
        | false =>
          have hn : ¬ ((97 ≤ z ∧ z ≤ 122) ∨ (48 ≤ z ∧ z ≤ 57) ∨ z = 45 ∨ z = 95 ∨ z = 46 ∨ z = 123 ∨ z = 125 ∨ z = 47) := fun hc => by rw [k2.1 hc] at ht; cases ht
          have a5 : ¬ z = 45 := by omega
          have a6 : ¬ z = 95 := by omega
          have a7 : ¬ z = 46 := by omega
          have a8 : ¬ z = 123 := by omega
          have a9 : ¬ z = 125 := by omega
          have a0 : ¬ z = 47 := by omega
          by_cases a1 : (97 : Int) ≤ z <;> by_cases a2 : z ≤ 122 <;> by_cases a3 : (48 : Int) ≤ z <;> by_cases a4 : z ≤ 57 <;>
            first | (exfalso; omega) | simp [a1, a2, a3, a4, a5, a6, a7, a8, a9, a0]
      show ref14_Token_L2 N _ s (p : Int) = _
      rw [key]
      cases hc : tokC s[p] with
      | false => simp
      | true =>
        simp only [Bool.not_true, cond_false, Bool.true_and]
        exact rtok_loop N s hb n (p + 1) (by omega) (by omega)
    · have c1 : ¬ ((p : Int) < (((List.length s) : Nat) : Int)) := by omega
      rw [List.drop_of_length_le hge]
      show ref14_Token_L2 N _ s (p : Int) = _
      simp only [ref14_Token_L2, decide_eq_false c1, cond_false, List.all_nil, if_true]
theorem rtoken_ok {N : Nat} (s : List UInt8) (h : s.length < N) (hb : s.length < 1000000) : ref14_Token N s = some (tokB s) := by
  unfold ref14_Token ref14_Token_L2_R
  have := rtok_loop N s hb N 0 (Nat.zero_le _) (by omega)
  rw [List.drop_zero] at this
  rw [show ((0 : Int)) = ((0 : Nat) : Int) from rfl, this, Option.bind_some]
  exact tok_end s _ rfl
end Go.Proofs.YtfaocnboildjbaaDoor
/-
  Layer 14, on plain data: blanks, and numbers.
-/
namespace Go.Proofs.YtfaocnboildjbaaDoor
set_option maxRecDepth 100000
open Go.RowKit
set_option linter.unusedVariables false
set_option linter.unusedSimpArgs false
set_option maxRecDepth 100000

/-! ### Blanks -/
def blk (b : UInt8) : Bool := [32, 9].contains b
theorem blank_ok (N : Nat) (b : UInt8) : ref14_blank N ((b.toNat : Nat) : Int) = some (blk b) := by
  unfold ref14_blank
  have h1 : (((b.toNat : Nat) : Int) = 32) ↔ b = 32 := ⟨fun h => UInt8.toNat_inj.1 (by have : (32 : UInt8).toNat = 32 := rfl; omega), fun h => by subst h; rfl⟩
  have h2 : (((b.toNat : Nat) : Int) = 9) ↔ b = 9 := ⟨fun h => UInt8.toNat_inj.1 (by have : (9 : UInt8).toNat = 9 := rfl; omega), fun h => by subst h; rfl⟩
  by_cases a1 : b = 32
  · simp only [decide_eq_true (h1.2 a1), cond_true, Option.bind_some]
    subst a1; rfl
  · by_cases a2 : b = 9
    · simp only [decide_eq_false (fun h => a1 (h1.1 h)), decide_eq_true (h2.2 a2), cond_false, Option.bind_some]
      subst a2; rfl
    · simp only [decide_eq_false (fun h => a1 (h1.1 h)), decide_eq_false (fun h => a2 (h2.1 h)), cond_false, Option.bind_some]
      congr 1
      symm
      unfold blk
      simp [a1, a2]
theorem trimL_loop (N : Nat) : ∀ (n : Nat) (s : List UInt8), s.length < n → gl (fun X c => ref14_Trim_L1 N X c.1.1) n ((s, ()), ()) = some ((s.dropWhile blk, ()), ())
  | 0, s, h => by omega
  | n + 1, [], h => by
    rw [gl_succ]
    rfl
  | n + 1, b :: s, h => by
    rw [gl_succ]
    have c1 : (0 : Int) < (((List.length (b :: s)) : Nat) : Int) := by simp only [List.length_cons]; omega
    have hg : getI (b :: s) (0 : Int) = some b := rfl
    have hd : dropI (b :: s) (1 : Int) = some s := by
      have := dropI_nat (b :: s) (a := (1 : Int)) (i := 1) rfl (by simp)
      exact this
    have key : ∀ X, ref14_Trim_L1 N X (b :: s) = bif blk b then X ((s, ()), ()) else some ((b :: s, ()), ()) := fun X => by
      simp only [ref14_Trim_L1, decide_eq_true c1, cond_true, hg, Option.bind_some, blank_ok]
      cases hb : blk b with
      | true => simp only [cond_true, hd, Option.bind_some]
      | false => simp only [cond_false, cond_true]
    show ref14_Trim_L1 N _ (b :: s) = _
    rw [key]
    cases hb : blk b with
    | true =>
      rw [cond_true, trimL_loop N n s (by simp only [List.length_cons] at h; omega), List.dropWhile_cons_of_pos hb]
    | false =>
      rw [cond_false, List.dropWhile_cons_of_neg (by simp [hb])]
def tailW (s : List UInt8) : List UInt8 := (s.reverse.dropWhile blk).reverse
theorem tailW_app (s : List UInt8) (b : UInt8) : tailW (s ++ [b]) = if blk b = true then tailW s else s ++ [b] := by
  unfold tailW
  rw [List.reverse_append]
  simp only [List.reverse_cons, List.reverse_nil, List.nil_append, List.singleton_append]
  by_cases hb : blk b = true
  · rw [List.dropWhile_cons_of_pos hb, if_pos hb]
  · rw [List.dropWhile_cons_of_neg hb, if_neg hb]
    simp
theorem trimR_loop (N : Nat) : ∀ (n : Nat) (s : List UInt8), s.length < n → s.length < 1000000 → gl (fun X c => ref14_Trim_L3 N X c.1.1) n ((s, ()), ()) = some ((tailW s, ()), ())
  | 0, s, h, _ => by omega
  | n + 1, s, h, hb => by
    rw [gl_succ]
    show ref14_Trim_L3 N _ s = _
    rcases Nat.eq_zero_or_pos s.length with h0 | h0
    · have : s = [] := List.eq_nil_of_length_eq_zero h0
      subst this; rfl
    · obtain ⟨t, b, rfl⟩ : ∃ t b, s = t ++ [b] := ⟨s.dropLast, s.getLast (by intro hc; subst hc; simp at h0), (List.dropLast_concat_getLast _).symm⟩
      have hl : (t ++ [b]).length = t.length + 1 := by simp
      have c1 : (0 : Int) < (((List.length (t ++ [b])) : Nat) : Int) := by omega
      have e1 : Go.IntKind.wrap .i64 ((((List.length (t ++ [b])) : Nat) : Int) - 1) = ((t.length : Nat) : Int) := by rw [wrap64 (by omega) (by omega)]; omega
      have hg : getI (t ++ [b]) ((t.length : Nat) : Int) = some b := by rw [getI_nat]; simp
      have hd : takeI (t ++ [b]) ((t.length : Nat) : Int) = some t := by rw [takeI_nat (i := t.length) _ rfl (by omega)]; simp
      have key : ∀ X, ref14_Trim_L3 N X (t ++ [b]) = bif blk b then X ((t, ()), ()) else some ((t ++ [b], ()), ()) := fun X => by
        simp only [ref14_Trim_L3, decide_eq_true c1, cond_true, e1, hg, Option.bind_some, blank_ok]
        cases hb : blk b with
        | true => simp only [cond_true, hd, Option.bind_some]
        | false => simp only [cond_false, cond_true]
      rw [key, tailW_app]
      cases hb : blk b with
      | true =>
        rw [cond_true, if_pos rfl]
        exact trimR_loop N n t (by omega) (by omega)
      | false =>
        rw [cond_false]
        rfl
theorem drop_app (p : UInt8 → Bool) : ∀ (a m : List UInt8) (x : UInt8), a.all p = true → p x = false → (a ++ x :: m).dropWhile p = x :: m
  | [], m, x, _, hx => by simp [hx]
  | y :: a, m, x, ha, hx => by
    simp only [List.all_cons, Bool.and_eq_true] at ha
    rw [List.cons_append, List.dropWhile_cons_of_pos ha.1]
    exact drop_app p a m x ha.2 hx
theorem split_first (p : UInt8 → Bool) : ∀ s : List UInt8, s.all p = true ∨ ∃ a x m, s = a ++ x :: m ∧ a.all p = true ∧ p x = false
  | [] => .inl rfl
  | y :: s => by
    cases hy : p y with
    | false => exact .inr ⟨[], y, s, rfl, rfl, hy⟩
    | true =>
      rcases split_first p s with h | ⟨a, x, m, h1, h2, h3⟩
      · exact .inl (by simp [hy, h])
      · exact .inr ⟨y :: a, x, m, by rw [h1]; rfl, by simp [hy, h2], h3⟩
theorem all_drop (p : UInt8 → Bool) (s : List UInt8) (h : s.all p = true) : s.dropWhile p = [] := by
  induction s with
  | nil => rfl
  | cons y s ih =>
    simp only [List.all_cons, Bool.and_eq_true] at h
    rw [List.dropWhile_cons_of_pos h.1, ih h.2]
/-- Both ends, in either order. -/
theorem both_ends (s : List UInt8) : tailW (s.dropWhile blk) = (tailW s).dropWhile blk := by
  rcases split_first blk s with h | ⟨a, x, m, rfl, h2, h3⟩
  · have hr : (s.reverse).all blk = true := by rw [List.all_reverse]; exact h
    have e1 : tailW s = [] := by unfold tailW; rw [all_drop _ _ hr]; rfl
    rw [all_drop _ _ h, e1]; rfl
  · rw [drop_app _ _ _ _ h2 h3]
    rcases split_first blk (m.reverse) with hm | ⟨c, y, r, hm, hc, hy⟩
    · have hm' : m.all blk = true := by rw [← List.all_reverse]; exact hm
      have e1 : tailW (x :: m) = [x] := by
        unfold tailW
        rw [List.reverse_cons, drop_app _ _ _ _ hm h3]; rfl
      have e2 : tailW (a ++ x :: m) = a ++ [x] := by
        unfold tailW
        rw [List.reverse_append, List.reverse_cons, List.append_assoc, List.singleton_append, drop_app _ _ _ _ hm h3]
        simp
      rw [e1, e2, drop_app _ _ _ _ h2 h3]
    · have e0 : m = r.reverse ++ y :: c.reverse := by
        have := congrArg List.reverse hm
        simpa using this
      have e1 : tailW (x :: m) = x :: (r.reverse ++ [y]) := by
        unfold tailW
        rw [List.reverse_cons, hm, List.append_assoc, List.cons_append, drop_app _ _ _ _ hc hy]
        simp
      have e2 : tailW (a ++ x :: m) = a ++ x :: (r.reverse ++ [y]) := by
        unfold tailW
        rw [List.reverse_append, List.reverse_cons, hm, List.append_assoc, List.append_assoc, List.cons_append, drop_app _ _ _ _ hc hy]
        simp
      rw [e1, e2, drop_app _ _ _ _ h2 h3]
def trimB (s : List UInt8) : List UInt8 := Go.Lib.trimS s [32, 9]
theorem rtrim_ok {N : Nat} (s : List UInt8) (h : s.length < N) (hb : s.length < 1000000) : ref14_Trim N s = some (trimB s) := by
  unfold ref14_Trim ref14_Trim_L1_R ref14_Trim_L3_R
  rw [trimL_loop N N s h, Option.bind_some]
  have hl : (s.dropWhile blk).length ≤ s.length := (List.dropWhile_sublist _).length_le
  rw [trimR_loop N N _ (by show (s.dropWhile blk).length < N; omega) (by show (s.dropWhile blk).length < 1000000; omega), Option.bind_some]
  show some (tailW (s.dropWhile blk)) = _
  rw [both_ends]
  rfl
theorem trim_ok {N : Nat} (s : List UInt8) (h : s.length ≤ 281474976710656) : words_Trim N s = some (trimB s) := by
  unfold words_Trim
  simp only [decide_eq_true h, cond_true]
  rfl
end Go.Proofs.YtfaocnboildjbaaDoor
