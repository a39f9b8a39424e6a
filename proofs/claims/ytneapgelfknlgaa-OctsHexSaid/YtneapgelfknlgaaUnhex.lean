/-
  Contracts: the bytes of digits.
-/
import Derived.Test.YtneapgelfknlgaaFacts
import Derived.Test.YtneapgelfknlgaaNums
import Derived.Test.YtneapgelfknlgaaHex
namespace Go.Proofs.Ytneapgelfknlgaa
open Go.RowKit
set_option linter.unusedVariables false

/-- What a digit is worth; 16: it is none. -/
def hv (c : UInt8) : Nat := if 48 ≤ c.toNat ∧ c.toNat ≤ 57 then c.toNat - 48 else if 65 ≤ c.toNat ∧ c.toNat ≤ 70 then c.toNat - 55 else if 97 ≤ c.toNat ∧ c.toNat ≤ 102 then c.toNat - 87 else 16
theorem hv_le (c : UInt8) : hv c ≤ 16 := by unfold hv; split <;> (try split) <;> (try split) <;> omega
theorem hv_cases (c : UInt8) : (c.toNat < 48 ∧ hv c = 16) ∨ (48 ≤ c.toNat ∧ c.toNat ≤ 57 ∧ hv c = c.toNat - 48) ∨ (57 < c.toNat ∧ c.toNat < 65 ∧ hv c = 16) ∨ (65 ≤ c.toNat ∧ c.toNat ≤ 70 ∧ hv c = c.toNat - 55) ∨
    (70 < c.toNat ∧ c.toNat < 97 ∧ hv c = 16) ∨ (97 ≤ c.toNat ∧ c.toNat ≤ 102 ∧ hv c = c.toNat - 87) ∨ (102 < c.toNat ∧ hv c = 16) := by
  unfold hv; split <;> (try split) <;> (try split) <;> omega
/-- The bytes of digits, if they are pairs of digits. -/
def unhexL : List UInt8 → Option (List UInt8)
  | [] => some []
  | [_] => none
  | a :: b :: r => if hv a < 16 ∧ hv b < 16 then (unhexL r).map (UInt8.ofNat (16 * hv a + hv b) :: ·) else none

set_option maxHeartbeats 1000000 in
theorem octs_worth (c : UInt8) (w : World) : Calls Try.prog 25 #[.int .u8 (c.toNat : Int)] w fun e w' => e = .returned (.int .u8 (hv c : Nat)) ∧ w = w' := by
  have hc := c.toNat_lt
  have HV := hv_cases c
  obtain ⟨v, hv'⟩ : ∃ v, v = hv c := ⟨_, rfl⟩
  obtain ⟨x, hx'⟩ : ∃ x, x = c.toNat := ⟨_, rfl⟩
  rw [← hv', ← hx'] at HV
  rw [← hx'] at hc
  rw [← hv', ← hx']
  clear hv' hx'
  rcases HV with ⟨h1, h2⟩ | ⟨h0, h1, h2⟩ | ⟨h0, h1, h2⟩ | ⟨h0, h1, h2⟩ | ⟨h0, h1, h2⟩ | ⟨h0, h1, h2⟩ | ⟨h1, h2⟩
  all_goals
    have H2 := Lib.hid h2; clear h2
    go_enter Try.func25, Try.ntmps25
    go_wp2
    go_ret
    exact ⟨ret_int (by rw [H2.out]; omega), rfl⟩

set_option maxHeartbeats 1000000 in
theorem ref_digit (c : UInt8) (w : World) : Calls Try.prog 26 #[.int .u8 (c.toNat : Int)] w fun e w' => e = .returned (.int .u8 (hv c : Nat)) ∧ w = w' := by
  have hc := c.toNat_lt
  have HV := hv_cases c
  obtain ⟨v, hv'⟩ : ∃ v, v = hv c := ⟨_, rfl⟩
  obtain ⟨x, hx'⟩ : ∃ x, x = c.toNat := ⟨_, rfl⟩
  rw [← hv', ← hx'] at HV
  rw [← hx'] at hc
  rw [← hv', ← hx']
  clear hv' hx'
  rcases HV with ⟨h1, h2⟩ | ⟨h0, h1, h2⟩ | ⟨h0, h1, h2⟩ | ⟨h0, h1, h2⟩ | ⟨h0, h1, h2⟩ | ⟨h0, h1, h2⟩ | ⟨h1, h2⟩
  all_goals
    have H2 := Lib.hid h2; clear h2
    go_enter Try.func26, Try.ntmps26
    go_wp2
    go_ret
    exact ⟨ret_int (by rw [H2.out]; omega), rfl⟩


theorem unhexL_odd : ∀ l : List UInt8, l.length % 2 = 1 → unhexL l = none
  | [], h => by simp at h
  | [_], _ => rfl
  | a :: b :: r, h => by
    have := unhexL_odd r (by simp at h; omega)
    simp [unhexL, this]
theorem drop_two {l : List UInt8} {i : Nat} {a b : UInt8} (ha : l[i]? = some a) (hb : l[i + 1]? = some b) : l.drop i = a :: b :: l.drop (i + 2) := by
  have h1 := (List.getElem?_eq_some_iff.1 ha).1
  have h2 := (List.getElem?_eq_some_iff.1 hb).1
  rw [List.drop_eq_getElem_cons h1, List.drop_eq_getElem_cons h2, (List.getElem?_eq_some_iff.1 ha).2, (List.getElem?_eq_some_iff.1 hb).2]
/-- acc is what the first i digits are. -/
def UnhexAt (l : List UInt8) (i : Nat) (acc : List UInt8) : Prop := unhexL l = (unhexL (l.drop i)).map (acc ++ ·)
theorem UnhexAt.start (l : List UInt8) : UnhexAt l 0 [] := by simp [UnhexAt]
theorem UnhexAt.step {l acc : List UInt8} {i : Nat} {a b : UInt8} (h : UnhexAt l i acc) (ha : l[i]? = some a) (hb : l[i + 1]? = some b) (h1 : hv a < 16) (h2 : hv b < 16) :
    UnhexAt l (i + 2) (acc ++ [UInt8.ofNat (16 * hv a + hv b)]) := by
  unfold UnhexAt at h ⊢
  rw [h, drop_two ha hb, unhexL, if_pos ⟨h1, h2⟩, Option.map_map]
  congr 1
  funext r
  simp
theorem UnhexAt.bad {l acc : List UInt8} {i : Nat} {a b : UInt8} (h : UnhexAt l i acc) (ha : l[i]? = some a) (hb : l[i + 1]? = some b) (h1 : ¬ (hv a < 16 ∧ hv b < 16)) : unhexL l = none := by
  rw [h, drop_two ha hb, unhexL, if_neg h1]; rfl
theorem UnhexAt.last {l acc : List UInt8} {i : Nat} (h : UnhexAt l i acc) (hi : l.length ≤ i) : unhexL l = some acc := by
  rw [h, List.drop_of_length_le hi]; simp [unhexL]
/-- What the call hands back. -/
def UnhexPost (l : List UInt8) (w : World) (e : Ending) (w' : World) : Prop :=
  Below w.heap.size w w' ∧ ((unhexL l = none ∧ e = .returned (.tuple #[.slice none 0 0, .int .i64 3])) ∨
    ∃ bs v, unhexL l = some bs ∧ e = .returned (.tuple #[v, .int .i64 0]) ∧ OB w' w.heap.size v bs.length bs)
theorem UnhexPost.no {l : List UInt8} {w w' : World} (h : unhexL l = none) (hb : Below w.heap.size w w') : UnhexPost l w (.returned (.tuple #[.slice none 0 0, .int .i64 3])) w' := ⟨hb, .inl ⟨h, rfl⟩⟩
theorem UnhexPost.yes {l bs : List UInt8} {v : Value} {n : Nat} {w w' : World} (h : unhexL l = some bs) (ho : OB w' w.heap.size v n bs) (hb : Below w.heap.size w w') :
    UnhexPost l w (.returned (.tuple #[v, .int .i64 0])) w' := ⟨hb, .inr ⟨bs, v, h, rfl, by rw [ho.len]; exact ho⟩⟩

theorem str_at {s : ByteArray} {k : Nat} {b : UInt8} (h : s.data.toList[k]? = some b) (w : World) :
    (Instr.index 9 (.string s) (.int .i64 (k : Int))).run Try.prog w = .ok (.int .u8 (b.toNat : Int)) w := by
  have hk : k < s.size := by
    have := (List.getElem?_eq_some_iff.1 h).1
    simpa using this
  rw [run_index_string (P := Try.prog) (w := w) _ _ _ _ Try.underlying9, dif_pos ⟨by omega, by omega⟩]
  have : s[k] = b := by
    have h2 := (List.getElem?_eq_some_iff.1 h).2
    rw [← h2]; rfl
  simp [this]
theorem str_at1 {s : ByteArray} {k : Nat} {b : UInt8} (h : s.data.toList[k + 1]? = some b) (w : World) :
    (Instr.index 9 (.string s) (.int .i64 ((k : Int) + 1))).run Try.prog w = .ok (.int .u8 (b.toNat : Int)) w := by
  have := str_at h w
  rwa [show (((k + 1 : Nat)) : Int) = (k : Int) + 1 by omega] at this
theorem str_some {s : ByteArray} {k : Nat} (h : k < s.size) : ∃ b : UInt8, s.data.toList[k]? = some b :=
  ⟨s.data.toList[k]'(by simpa using h), List.getElem?_eq_getElem _⟩
theorem u8_16 (a b : Nat) (ha : a < 16) (hb : b < 16) : (16 * (a : Int) + (b : Int)) = ((UInt8.ofNat (16 * a + b)).toNat : Int) := by
  rw [UInt8.toNat_ofNat']; omega

set_option maxHeartbeats 1000000 in
theorem ref_unhex (s : ByteArray) (w : World) (hs : s.size ≤ 1000000) :
    Calls Try.prog 18 #[.string s] w (UnhexPost s.data.toList w) := by
  have hl : s.data.toList.length = s.size := by rw [Array.length_toList]; rfl
  have Hl := Lib.hid hl; clear hl
  by_cases hodd : s.size % 2 = 1
  · have Hno := Lib.hid (unhexL_odd s.data.toList (by rw [Hl.out]; exact hodd))
    have h1 : ((s.size : Int) % 2 != 0) = true := by simp; omega
    clear hodd
    go_enter Try.func18, Try.ntmps18
    go_wp2
    go_ret2
    exact UnhexPost.no Hno.out (Below.refl _ _)
  · have h1 : ((s.size : Int) % 2 != 0) = false := by simp; omega
    have Hev := Lib.hid hodd; clear hodd
    go_enter Try.func18, Try.ntmps18
    go_wp2
    go_loopw [4, 5] (fun v i wr => ∃ (k : Nat) (acc : List UInt8), k ≤ s.size ∧ 2 * acc.length = k ∧ i = .int .i64 k ∧ OB wr w.heap.size v acc.length acc ∧ UnhexAt s.data.toList k acc ∧ Below w.heap.size w wr) (fun _ i _ => s.size - (intOf i).toNat)
    case atStart => exact ⟨0, [], Nat.zero_le _, rfl, rfl, OB.nil _ _, UnhexAt.start _, Below.refl _ _⟩
    case round =>
      obtain ⟨k, acc, hk, hka, rfl, hown, hat, hbel⟩ := hrel
      have Hown := Lib.hid hown; clear hown
      have Hka := Lib.hid hka; clear hka
      have Hat := Lib.hid hat; clear hat
      by_cases hlt : k < s.size
      · have hlt1 : k + 1 < s.size := by have := Hev.out; have := Hka.out; omega
        obtain ⟨a, ha⟩ := str_some hlt
        obtain ⟨b, hb⟩ := str_some hlt1
        have hia := str_at ha
        have hib := str_at1 hb
        have Ha := Lib.hid ha; clear ha
        have Hb := Lib.hid hb; clear hb
        have ga := hv_le a
        have gb := hv_le b
        by_cases hgood : hv a < 16 ∧ hv b < 16
        · obtain ⟨hga, hgb⟩ := hgood
          have Hst := Lib.hid (Hat.out.step Ha.out Hb.out hga hgb)
          have hsz := hbel.size
          go_wp2
          go_quiet ((go_at_call 26; exact quiet_left (ref_digit _ _)))
          have hz1 := u8_16 (hv a) (hv b) hga hgb
          obtain ⟨z, hz⟩ : ∃ z, z = UInt8.ofNat (16 * hv a + hv b) := ⟨_, rfl⟩
          rw [← hz] at hz1 Hst
          clear hz
          have h3 : acc.length + 1 ≤ 140737488355328 := by have := Hka.out; omega
          clear hia hib ga gb
          go_wp2_with (at_builtin; refine wpList_appb _ rfl (.tmp 33) (.tmp 38) rfl w.heap.size _ _ _ rfl ((Hown.out.drewN _).alloc _) _ _ _ _ rfl (RB.new1 _ z _ (by simp)) h3 (by simp; omega) ?_; intro v' w1 hown1 hg1 hat1; have Hown1 := Lib.hid hown1; clear hown1)
          go_roundw
          case rel =>
            refine ⟨k + 2, acc ++ [z], by omega, by rw [List.length_append, List.length_singleton]; have := Hka.out; omega, by go_num, by rw [List.length_append, List.length_singleton]; exact Hown1.out, Hst.out, ?_⟩
            exact ((below_drewN hbel _).alloc (by simp; omega) _).grown hg1 (by simp; omega) fun j hj => (Hown.out.lt j hj).1
          case measure => simp [intOf]; omega
        · have Hbad := Lib.hid (Hat.out.bad Ha.out Hb.out hgood)
          by_cases hga : hv a < 16
          · have hgb : 15 < hv b := by omega
            clear hgood
            go_wp2
            go_quiet ((go_at_call 26; exact quiet_left (ref_digit _ _)))
            go_wp2
            go_ret2
            exact UnhexPost.no Hbad.out (below_drewN hbel _)
          · have hga' : 15 < hv a := by omega
            clear hgood
            go_wp2
            go_quiet ((go_at_call 26; exact quiet_left (ref_digit _ _)))
            go_wp2
            go_ret2
            exact UnhexPost.no Hbad.out (below_drewN hbel _)
      · have Hlast := Lib.hid (Hat.out.last (by rw [Hl.out]; omega))
        go_wp2
        go_ret2
        exact UnhexPost.yes Hlast.out Hown.out hbel

theorem u8_shl' (a b : Nat) (ha : a < 16) (hb : b < 16) : bits .or .u8 ((a : Int) * 16) (b : Int) = ((UInt8.ofNat (16 * a + b)).toNat : Int) := by
  rw [show (a : Int) * 16 = ((a * 16 : Nat) : Int) by omega, u8_or_nat _ _ (by omega) (by omega), nat_join 4 _ _ (by omega) hb, UInt8.toNat_ofNat']
  omega
theorem u8_shl (a b : Nat) (ha : a < 16) (hb : b < 16) : bits .or .u8 (IntKind.u8.wrap ((a : Int) * 16)) (b : Int) = ((UInt8.ofNat (16 * a + b)).toNat : Int) := by
  rw [IntKind.wrap_u8, Int.emod_eq_of_lt (by omega) (by omega), show (a : Int) * 16 = ((a * 16 : Nat) : Int) by omega, u8_or_nat _ _ (by omega) (by omega),
    nat_join 4 _ _ (by omega) hb, UInt8.toNat_ofNat']
  omega

set_option maxHeartbeats 2000000 in
set_option maxRecDepth 100000 in
theorem octs_unhex (s : ByteArray) (w : World) (hs : s.size ≤ 1000000) :
    Calls Try.prog 17 #[.string s] w (UnhexPost s.data.toList w) := by
  have hl : s.data.toList.length = s.size := by rw [Array.length_toList]; rfl
  have Hl := Lib.hid hl; clear hl
  by_cases hodd : s.size % 2 = 1
  · have Hno := Lib.hid (unhexL_odd s.data.toList (by rw [Hl.out]; exact hodd))
    have h1 : ((s.size : Int) % 2 != 0) = true := by simp; omega
    clear hodd
    go_enter Try.func17, Try.ntmps17
    go_wp2
    go_step3
    go_wp2
    rw [Exit.noGoto_ret]
    go_ret2
    exact UnhexPost.no Hno.out (Below.refl _ _)
  · have h1 : ((s.size : Int) % 2 != 0) = false := by simp; omega
    have Hev := Lib.hid hodd; clear hodd
    have hmk := mk_bytes 0 ((s.size : Int) / 2) (by omega) (by omega) (by omega)
    have hown0 := OB.made w w.heap.size 0 (s.size / 2) (by omega) (by simp only [maxLen]; omega) (Nat.le_refl _)
    have hbel0 := (Below.refl w.heap.size w).alloc (Nat.le_refl _) (.cells (madeCells #[.int .u8 0] (s.size / 2)) 5)
    go_enter Try.func17, Try.ntmps17
    go_wp2
    refine wp_scope_jumps 0 (fun a' wr => ∃ (k : Nat) (acc : List UInt8) (v u6 u7 u8 u9 u10 u11 u12 u13 u14 u15 u16 u17 u18 u19 u20 u21 u22 u23 u24 u25 u26 u27 u28 u29 u30 u31 u32 u33 u34 u35 u36 u37 u38 u39 u40 u41 u42 u43 u44 : Value), a' = { tmps := #[.string s, undef, .slice none 0 0, .int .i64 0, v, .int .i64 (k : Int), u6, u7, u8, u9, u10, u11, u12, u13, u14, u15, u16, u17, u18, u19, u20, u21, u22, u23, u24, u25, u26, u27, u28, u29, u30, u31, u32, u33, u34, u35, u36, u37, u38, u39, u40, u41, u42, u43, u44], defers := [] } ∧
      k ≤ s.size ∧ 2 * acc.length = k ∧ OB wr w.heap.size v acc.length acc ∧ UnhexAt s.data.toList k acc ∧ Below w.heap.size w wr) (fun a' _ => s.size - (intOf (a'.tmps.getD 5 undef)).toNat) rfl ?_ ?_
    · have Hown0 := Lib.hid hown0
      have Hbel0 := Lib.hid hbel0
      clear hown0 hbel0
      by_cases hlt : 0 < s.size
      · have hlt1 : 0 + 1 < s.size := by have := Hev.out;  omega
        have hne : ((0 : Int) == (s.size : Int)) = false := by simp; omega
        obtain ⟨a, ha⟩ := str_some hlt
        obtain ⟨b, hb⟩ := str_some hlt1
        have hia : ∀ w, (Instr.index 9 (.string s) (.int .i64 0)).run Try.prog w = .ok (.int .u8 (a.toNat : Int)) w := str_at ha
        have hib : ∀ w, (Instr.index 9 (.string s) (.int .i64 1)).run Try.prog w = .ok (.int .u8 (b.toNat : Int)) w := str_at1 hb
        have Ha := Lib.hid ha; clear ha
        have Hb := Lib.hid hb; clear hb
        have ga := hv_le a
        have gb := hv_le b
        by_cases hgood : hv a < 16 ∧ hv b < 16
        · obtain ⟨hga, hgb⟩ := hgood
          have Hst := Lib.hid ((UnhexAt.start s.data.toList).step Ha.out Hb.out hga hgb)
          skip
          have hz1 := u8_shl (hv a) (hv b) hga hgb
          have hz2 := u8_shl' (hv a) (hv b) hga hgb
          have e1 : ((hv a : Int) == 16) = false := by simp; omega
          have e2 : ((hv b : Int) == 16) = false := by simp; omega
          obtain ⟨z, hz⟩ : ∃ z, z = UInt8.ofNat (16 * hv a + hv b) := ⟨_, rfl⟩
          rw [← hz] at hz1 hz2 Hst
          clear hz
          go_wp2
          go_step3
          go_wp2
          go_quiet ((go_at_call 25; exact quiet_left (octs_worth _ _)))
          clear hia hib ga gb
          go_wp2_with (at_builtin; refine wpList_appb _ rfl (.tmp 36) (.tmp 41) rfl w.heap.size _ _ _ rfl ((Hown0.out.drewN _).alloc _) _ _ _ _ rfl (RB.new1 _ z _ (by simp)) (by omega) (by simp; omega) ?_; intro v' w1 hown1 hg1 hat1; have Hown1 := Lib.hid hown1; clear hown1)
          go_step3
          refine ⟨rfl, 2, [z], v', _, _, _, _, _, _, _, _, _, _, _, _, _, _, _, _, _, _, _, _, _, _, _, _, _, _, _, _, _, _, _, _, _, _, _, _, _, _, _, rfl, by omega, rfl, Hown1.out, Hst.out, ?_⟩
          exact ((below_drewN Hbel0.out _).alloc (by simp) _).grown hg1 (by simp; omega) fun j hj => (Hown0.out.lt j hj).1
        · have Hbad := Lib.hid ((UnhexAt.start s.data.toList).bad Ha.out Hb.out hgood)
          by_cases hga : hv a < 16
          · have hgb : hv b = 16 := by omega
            have e1 : ((hv a : Int) == 16) = false := by simp; omega
            have e2 : ((hv b : Int) == 16) = true := by simp; omega
            clear hgood hgb
            go_wp2
            go_step3
            go_wp2
            go_quiet ((go_at_call 25; exact quiet_left (octs_worth _ _)))
            go_wp2
            simp only [Exit.jump]
            go_ret2
            exact UnhexPost.no Hbad.out (below_drewN Hbel0.out _)
          · have e1 : ((hv a : Int) == 16) = true := by simp; omega
            clear hgood
            go_wp2
            go_step3
            go_wp2
            go_quiet ((go_at_call 25; exact quiet_left (octs_worth _ _)))
            go_wp2
            simp only [Exit.jump]
            go_ret2
            exact UnhexPost.no Hbad.out (below_drewN Hbel0.out _)
      · have hne : ((0 : Int) == (s.size : Int)) = true := by simp; omega
        have Hlast := Lib.hid ((UnhexAt.start s.data.toList).last (by rw [Hl.out]; omega))
        go_wp2
        go_step3
        go_wp2
        simp only [Exit.jump]
        go_ret2
        exact UnhexPost.yes Hlast.out Hown0.out Hbel0.out
    · rintro a' wr ⟨k, acc, v, u6, u7, u8, u9, u10, u11, u12, u13, u14, u15, u16, u17, u18, u19, u20, u21, u22, u23, u24, u25, u26, u27, u28, u29, u30, u31, u32, u33, u34, u35, u36, u37, u38, u39, u40, u41, u42, u43, u44, rfl, hk, hka, hown, hat, hbel⟩
      have Hown := Lib.hid hown; clear hown
      have Hka := Lib.hid hka; clear hka
      have Hat := Lib.hid hat; clear hat
      clear hmk hown0 hbel0
      by_cases hlt : k < s.size
      · have hlt1 : k + 1 < s.size := by have := Hev.out; have := Hka.out; omega
        have hne : ((k : Int) == (s.size : Int)) = false := by simp; omega
        obtain ⟨a, ha⟩ := str_some hlt
        obtain ⟨b, hb⟩ := str_some hlt1
        have hia  := str_at ha
        have hib  := str_at1 hb
        have Ha := Lib.hid ha; clear ha
        have Hb := Lib.hid hb; clear hb
        have ga := hv_le a
        have gb := hv_le b
        by_cases hgood : hv a < 16 ∧ hv b < 16
        · obtain ⟨hga, hgb⟩ := hgood
          have Hst := Lib.hid (Hat.out.step Ha.out Hb.out hga hgb)
          have hsz := hbel.size
          have h3 : acc.length + 1 ≤ 140737488355328 := by have := Hka.out; omega
          have hz1 := u8_shl (hv a) (hv b) hga hgb
          have hz2 := u8_shl' (hv a) (hv b) hga hgb
          have e1 : ((hv a : Int) == 16) = false := by simp; omega
          have e2 : ((hv b : Int) == 16) = false := by simp; omega
          obtain ⟨z, hz⟩ : ∃ z, z = UInt8.ofNat (16 * hv a + hv b) := ⟨_, rfl⟩
          rw [← hz] at hz1 hz2 Hst
          clear hz
          go_wp2
          go_quiet ((go_at_call 25; exact quiet_left (octs_worth _ _)))
          clear hia hib ga gb
          go_wp2_with (at_builtin; refine wpList_appb _ rfl (.tmp 36) (.tmp 41) rfl w.heap.size _ _ _ rfl ((Hown.out.drewN _).alloc _) _ _ _ _ rfl (RB.new1 _ z _ (by simp)) h3 (by simp; omega) ?_; intro v' w1 hown1 hg1 hat1; have Hown1 := Lib.hid hown1; clear hown1)
          go_step3
          refine ⟨rfl, ⟨k + 2, acc ++ [z], v', _, _, _, _, _, _, _, _, _, _, _, _, _, _, _, _, _, _, _, _, _, _, _, _, _, _, _, _, _, _, _, _, _, _, _, _, _, _, _, rfl, by omega, by rw [List.length_append, List.length_singleton]; have := Hka.out; omega, by rw [List.length_append, List.length_singleton]; exact Hown1.out, Hst.out, ?_⟩, by simp [intOf]; omega⟩
          exact ((below_drewN hbel _).alloc (by simp; omega) _).grown hg1 (by simp; omega) fun j hj => (Hown.out.lt j hj).1
        · have Hbad := Lib.hid (Hat.out.bad Ha.out Hb.out hgood)
          by_cases hga : hv a < 16
          · have hgb : hv b = 16 := by omega
            have e1 : ((hv a : Int) == 16) = false := by simp; omega
            have e2 : ((hv b : Int) == 16) = true := by simp; omega
            clear hgood hgb
            go_wp2
            go_quiet ((go_at_call 25; exact quiet_left (octs_worth _ _)))
            go_wp2
            simp only [Exit.jump]
            go_ret2
            exact UnhexPost.no Hbad.out (below_drewN hbel _)
          · have e1 : ((hv a : Int) == 16) = true := by simp; omega
            clear hgood
            go_wp2
            go_quiet ((go_at_call 25; exact quiet_left (octs_worth _ _)))
            go_wp2
            simp only [Exit.jump]
            go_ret2
            exact UnhexPost.no Hbad.out (below_drewN hbel _)
      · have hne : ((k : Int) == (s.size : Int)) = true := by simp; omega
        have Hlast := Lib.hid (Hat.out.last (by rw [Hl.out]; omega))
        go_wp2
        simp only [Exit.jump]
        go_ret2
        exact UnhexPost.yes Hlast.out Hown.out hbel

def unhexErr (l : List UInt8) : Int := if (unhexL l).isSome then 0 else 3
theorem UnhexPost.ret {l : List UInt8} {w w' : World} {e : Ending} (h : UnhexPost l w e w') : RetBE w ((unhexL l).getD []) (unhexErr l) e w' := by
  obtain ⟨hb, ⟨h1, rfl⟩ | ⟨bs, v, h1, rfl, ho⟩⟩ := h
  · rw [unhexErr, h1]
    exact ⟨none, 0, 0, rfl, Nat.le_refl _, by simp [maxLen], RB.nil _ _, hb⟩
  · rw [unhexErr, h1]
    exact RetBE.of ho hb
theorem octs_unhex_all (s : ByteArray) (w : World) (hs : s.size ≤ 1000000) : Calls Try.prog 17 #[.string s] w (RetBE w ((unhexL s.data.toList).getD []) (unhexErr s.data.toList)) :=
  (octs_unhex s w hs).mono fun _ _ h => h.ret
theorem ref_unhex_all (s : ByteArray) (w : World) (hs : s.size ≤ 1000000) : Calls Try.prog 18 #[.string s] w (RetBE w ((unhexL s.data.toList).getD []) (unhexErr s.data.toList)) :=
  (ref_unhex s w hs).mono fun _ _ h => h.ret
end Go.Proofs.Ytneapgelfknlgaa
