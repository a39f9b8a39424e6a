/-
  Frames are laid, or refused; frames are parsed.
-/
import Derived.Test.YtecnclcendcfmaaPppf2
namespace Go.Proofs.Ytecnclcendcfmaa
set_option maxRecDepth 100000
open Go.RowKit
set_option linter.unusedVariables false
set_option linter.unusedSimpArgs false

def layR (p : Nat) (data : List UInt8) (bare short : Bool) : List UInt8 := if protoB p = true ∧ data.length ≤ 4000 then layF p data bare short else []

set_option maxHeartbeats 400000 in
theorem pppf_lay_form (p : Nat) (A : Option Addr) (n c : Nat) (bare short : Bool) (w : World) (hp : p < 65536) (h : protoB p = false) :
    Calls Try.prog 12 #[.agg #[.int .u16 p, .slice A n c], .bool bare, .bool short] w (RetBE w [] 3) := by
  go_enter Try.func12, Try.ntmps12
  go_wp2_with fail
  refine (pppf_may _ _ hp).mono ?_
  rw [h]
  rintro e w0 ⟨rfl, hw0⟩
  subst hw0
  go_wp2
  go_ret2
  exact ⟨none, 0, 0, rfl, Nat.le_refl _, by simp [maxLen], RB.nil _ _, by (repeat (first | exact Gr.refl _ | assumption | (refine gr_alloc ?_ _) | (refine gr_drewN ?_ _) | (refine gr_drew ?_) | (refine gr_set ?_ (by first | (simp; done) | omega | (simp; omega) | (simp at *; omega)) _) | (refine Gr.trans ?_ (by assumption))))⟩
set_option maxHeartbeats 400000 in
theorem pppf_lay_big (p : Nat) (A : Option Addr) (n c : Nat) (bare short : Bool) (w : World) (hp : p < 65536) (h : protoB p = true) (hn : 4000 < n) :
    Calls Try.prog 12 #[.agg #[.int .u16 p, .slice A n c], .bool bare, .bool short] w (RetBE w [] 8) := by
  go_enter Try.func12, Try.ntmps12
  go_wp2_with fail
  refine (pppf_may _ _ hp).mono ?_
  rw [h]
  rintro e w0 ⟨rfl, hw0⟩
  subst hw0
  clear h
  go_wp2
  go_ret2
  exact ⟨none, 0, 0, rfl, Nat.le_refl _, by simp [maxLen], RB.nil _ _, by (repeat (first | exact Gr.refl _ | assumption | (refine gr_alloc ?_ _) | (refine gr_drewN ?_ _) | (refine gr_drew ?_) | (refine gr_set ?_ (by first | (simp; done) | omega | (simp; omega) | (simp at *; omega)) _) | (refine Gr.trans ?_ (by assumption))))⟩
theorem pppf_lay_all (p : Nat) (A : Option Addr) (n c : Nat) (xs : List UInt8) (bare short : Bool) (w : World) (hp : p < 65536) (hx : RB w A n xs) (hnc : n ≤ c) :
    Calls Try.prog 12 #[.agg #[.int .u16 p, .slice A n c], .bool bare, .bool short] w (RetBE w (layR p xs bare short) (layE p n)) := by
  have hl := hx.len
  unfold layR layE
  rw [hl]
  cases hpr : protoB p with
  | false => simpa [hpr] using pppf_lay_form p A n c bare short w hp hpr
  | true =>
    by_cases hn : n ≤ 4000
    · simp only [hn, and_self, if_true]
      cases short with
      | false =>
        cases bare with
        | true => exact pppf_lay_true_all p A n c xs w hp hpr hx hn hnc
        | false => exact pppf_lay_false_all p A n c xs w hp hpr hx hn hnc
      | true =>
        by_cases hq : p < 256
        · cases bare with
          | true => exact pppf_lay_true_no p A n c xs w hp hpr hq hx hn hnc
          | false => exact pppf_lay_false_no p A n c xs w hp hpr hq hx hn hnc
        · cases bare with
          | true => exact pppf_lay_true_big p A n c xs w hp hpr hq hx hn hnc
          | false => exact pppf_lay_false_big p A n c xs w hp hpr hq hx hn hnc
    · simpa [hn] using pppf_lay_big p A n c bare short w hp hpr (by omega)

set_option maxHeartbeats 400000 in
theorem ref20_lay_form (p : Nat) (A : Option Addr) (n c : Nat) (bare short : Bool) (w : World) (hp : p < 65536) (h : protoB p = false) :
    Calls Try.prog 14 #[.agg #[.int .u16 p, .slice A n c], .bool bare, .bool short] w (RetBE w [] 3) := by
  go_enter Try.func14, Try.ntmps14
  go_wp2_with fail
  refine (ref20_may _ _ hp).mono ?_
  rw [h]
  rintro e w0 ⟨rfl, hw0⟩
  subst hw0
  go_wp2
  go_ret2
  exact ⟨none, 0, 0, rfl, Nat.le_refl _, by simp [maxLen], RB.nil _ _, by (repeat (first | exact Gr.refl _ | assumption | (refine gr_alloc ?_ _) | (refine gr_drewN ?_ _) | (refine gr_drew ?_) | (refine gr_set ?_ (by first | (simp; done) | omega | (simp; omega) | (simp at *; omega)) _) | (refine Gr.trans ?_ (by assumption))))⟩
set_option maxHeartbeats 400000 in
theorem ref20_lay_big (p : Nat) (A : Option Addr) (n c : Nat) (bare short : Bool) (w : World) (hp : p < 65536) (h : protoB p = true) (hn : 4000 < n) :
    Calls Try.prog 14 #[.agg #[.int .u16 p, .slice A n c], .bool bare, .bool short] w (RetBE w [] 8) := by
  go_enter Try.func14, Try.ntmps14
  go_wp2_with fail
  refine (ref20_may _ _ hp).mono ?_
  rw [h]
  rintro e w0 ⟨rfl, hw0⟩
  subst hw0
  clear h
  go_wp2
  go_ret2
  exact ⟨none, 0, 0, rfl, Nat.le_refl _, by simp [maxLen], RB.nil _ _, by (repeat (first | exact Gr.refl _ | assumption | (refine gr_alloc ?_ _) | (refine gr_drewN ?_ _) | (refine gr_drew ?_) | (refine gr_set ?_ (by first | (simp; done) | omega | (simp; omega) | (simp at *; omega)) _) | (refine Gr.trans ?_ (by assumption))))⟩
theorem ref20_lay_all (p : Nat) (A : Option Addr) (n c : Nat) (xs : List UInt8) (bare short : Bool) (w : World) (hp : p < 65536) (hx : RB w A n xs) (hnc : n ≤ c) :
    Calls Try.prog 14 #[.agg #[.int .u16 p, .slice A n c], .bool bare, .bool short] w (RetBE w (layR p xs bare short) (layE p n)) := by
  have hl := hx.len
  unfold layR layE
  rw [hl]
  cases hpr : protoB p with
  | false => simpa [hpr] using ref20_lay_form p A n c bare short w hp hpr
  | true =>
    by_cases hn : n ≤ 4000
    · simp only [hn, and_self, if_true]
      cases short with
      | false =>
        cases bare with
        | true => exact ref20_lay_true_all p A n c xs w hp hpr hx hn hnc
        | false => exact ref20_lay_false_all p A n c xs w hp hpr hx hn hnc
      | true =>
        by_cases hq : p < 256
        · cases bare with
          | true => exact ref20_lay_true_no p A n c xs w hp hpr hq hx hn hnc
          | false => exact ref20_lay_false_no p A n c xs w hp hpr hq hx hn hnc
        · cases bare with
          | true => exact ref20_lay_true_big p A n c xs w hp hpr hq hx hn hnc
          | false => exact ref20_lay_false_big p A n c xs w hp hpr hq hx hn hnc
    · simpa [hn] using ref20_lay_big p A n c bare short w hp hpr (by omega)

def finR (p : Nat) (d : List UInt8) : Nat × List UInt8 × Int := if protoB p then (if d.length ≤ 4000 then (p, d, 0) else (0, [], 8)) else (0, [], 3)
def parseL : List UInt8 → Nat × List UInt8 × Int
  | [] => (0, [], 4)
  | [x] => if x.toNat % 2 = 1 then finR x.toNat [] else (0, [], 4)
  | x :: y :: t => if x.toNat % 2 = 1 then finR x.toNat (y :: t) else finR (256 * x.toNat + y.toNat) t
def parseF (xs : List UInt8) : Nat × List UInt8 × Int := parseL (strip2 255 3 xs)
/-- A frame with an error's number is handed back; nothing that was there has turned. -/
def RetF (w : World) (r : Nat × List UInt8 × Int) (e : Ending) (w' : World) : Prop :=
  ∃ A n c, e = .returned (.tuple #[.agg #[.int .u16 r.1, .slice A n c], .int .i64 r.2.2]) ∧ n ≤ c ∧ c ≤ maxLen ∧ RB w' A n r.2.1 ∧ Gr w w'
theorem RetF.err {w w' : World} (err : Int) (g : Gr w w') : RetF w (0, [], err) (.returned (.tuple #[.agg #[.int .u16 0, .slice none 0 0], .int .i64 err])) w' :=
  ⟨none, 0, 0, rfl, Nat.le_refl _, by simp [maxLen], RB.nil _ _, g⟩
theorem getNum_one (x : UInt8) : getNum [x] false = x.toNat := by
  unfold getNum; rw [if_pos (by unfold InW; simp)]; simp [num, nle]
theorem getNum_two (x y : UInt8) : getNum [x, y] false = 256 * x.toNat + y.toNat := by
  unfold getNum; rw [if_pos (by unfold InW; simp)]; simp [num, nle]; omega
theorem u8_and1' (x : UInt8) : bits .and .u8 (x.toNat : Int) 1 = ((x.toNat % 2 : Nat) : Int) := u8_and1 x.toNat x.toNat_lt

set_option maxHeartbeats 4000000 in
theorem pppf_parse_nil (A : Option Addr) (n c : Nat) (xs : List UInt8)  (w : World) (hx : RB w A n xs) (hnc : n ≤ c) (hcm : c ≤ maxLen) (hss : strip2 255 3 xs = [])  :
    Calls Try.prog 15 #[.slice A n c] w (RetF w (0, [], 4)) := by
  have ht := fun B d w (h : RB w A n xs) (hy : RB w B 2 [255, 3]) => trimPrefix_two A B n c d xs 255 3 w h hy hnc hcm
  rw [hss] at ht
  clear hss
  have Ht := Lib.hid ht; clear ht
  go_enter Try.func15, Try.ntmps15
  go_wp2_with fail
  refine (pppf_ahead _).mono ?_
  rintro e w1 ⟨rfl, o1, hb1⟩
  have G0 : Gr w w1 := by (repeat (first | exact Gr.refl _ | assumption | (refine gr_alloc ?_ _) | (refine gr_drewN ?_ _) | (refine gr_drew ?_) | (refine gr_set ?_ (by first | (simp; done) | omega | (simp; omega) | (simp at *; omega)) _) | (refine Gr.trans ?_ (by assumption))))
  have s0 := (StA.new w [.int .u16 0, .slice none 0 0] 39).gr hb1
  have hy1 := (RB.ofOwn o1).1
  simp only [alloc_size, drew_size, setCell_size] at hy1
  have hx1 := hx.gr G0
  have s0c0 := s0.cell 0 _ rfl
  have s0f0 := s0.free 0 _ rfl
  have s0c1 := s0.cell 1 _ rfl
  have s0f1 := s0.free 1 _ rfl
  clear hb1 o1
  go_wp2_with fail
  refine (Ht.out _ 2 w1 hx1 hy1).mono ?_
  rintro e w2 ⟨A', n', c', rfl, h1, h2, h3, rfl⟩
  have H2 := Lib.hid h2
  unfold maxLen at h2
  clear hy1
  obtain rfl : n' = 0 := by have := h3.len; simpa using this.symm
  go_wp2
  refine name_post fun W hW => ?_
  have s : StA W w.heap.size [.int .u16 0, .slice none 0 0] := by rw [hW]; exact s0.set (us := [.int .u16 0, .slice none 0 0]) rfl
  have G : Gr w W := by rw [hW]; exact Below.trans G0 (setCells_below [.int .u16 0, .slice none 0 0] (Nat.le_refl _) s0.lt)
  skip
  clear hW
  have k0 := s.cell 0 _ rfl
  have k1 := s.cell 1 _ rfl
  refine bodyPost_ret (v := .tuple #[.agg #[.int .u16 0, .slice none 0 0], .int .i64 4]) (by simp [results, Try.results15, go_sem, k0, k1]) rfl (RetF.err 4 G)

set_option maxHeartbeats 4000000 in
theorem pppf_parse_odd (A : Option Addr) (n c : Nat) (xs : List UInt8) (x : UInt8) (t : List UInt8) (w : World) (hx : RB w A n xs) (hnc : n ≤ c) (hcm : c ≤ maxLen) (hss : strip2 255 3 xs = x :: t) (hodd : x.toNat % 2 = 1) :
    Calls Try.prog 15 #[.slice A n c] w (RetF w (finR x.toNat t)) := by
  have ht := fun B d w (h : RB w A n xs) (hy : RB w B 2 [255, 3]) => trimPrefix_two A B n c d xs 255 3 w h hy hnc hcm
  rw [hss] at ht
  clear hss
  have Ht := Lib.hid ht; clear ht
  have k1 := u8_and1' x
  rw [hodd] at k1
  clear hodd
  go_enter Try.func15, Try.ntmps15
  go_wp2_with fail
  refine (pppf_ahead _).mono ?_
  rintro e w1 ⟨rfl, o1, hb1⟩
  have G0 : Gr w w1 := by (repeat (first | exact Gr.refl _ | assumption | (refine gr_alloc ?_ _) | (refine gr_drewN ?_ _) | (refine gr_drew ?_) | (refine gr_set ?_ (by first | (simp; done) | omega | (simp; omega) | (simp at *; omega)) _) | (refine Gr.trans ?_ (by assumption))))
  have s0 := (StA.new w [.int .u16 0, .slice none 0 0] 39).gr hb1
  have hy1 := (RB.ofOwn o1).1
  simp only [alloc_size, drew_size, setCell_size] at hy1
  have hx1 := hx.gr G0
  have s0c0 := s0.cell 0 _ rfl
  have s0f0 := s0.free 0 _ rfl
  have s0c1 := s0.cell 1 _ rfl
  have s0f1 := s0.free 1 _ rfl
  clear hb1 o1
  go_wp2_with fail
  refine (Ht.out _ 2 w1 hx1 hy1).mono ?_
  rintro e w2 ⟨A', n', c', rfl, h1, h2, h3, rfl⟩
  have H2 := Lib.hid h2
  unfold maxLen at h2
  clear hy1
  have hlen := h3.len
  have hn' : 1 ≤ n' := by simp at hlen; omega
  have hrl : t.length = n' - 1 := by simp at hlen; omega
  have Hrl := Lib.hid hrl; clear hrl hlen
  have hd := h3.from_ (k := 1) hn' h1
  rw [show List.drop 1 (x :: t) = t from rfl] at hd
  have hu := h3.upto hn'
  rw [show List.take 1 (x :: t) = [x] from rfl] at hu
  obtain ⟨ad, rfl, had, hcell⟩ := h3.2 (by omega)
  have d0 := hcell 0 x rfl
  rw [show ad.add 0 = ad from rfl] at d0
  have hn0 : ¬ ((n' : Int) = 0) := by omega
  have hnk : ¬ n' < 1 := by omega
  have HU := Lib.hid hu; clear hu
  have HD := Lib.hid hd; clear hd
  clear hcell
  obtain ⟨M, hM⟩ : ∃ M, M = getNum [x] false := ⟨_, rfl⟩
  have hM' : M < 65536 := by rw [hM, getNum_one]; have := x.toNat_lt; omega
  have hget := fun w (h : RB w (some ad) 1 [x]) c => octs_get_all (some ad) 1 c [x] false w h (by simp [maxLen])
  rw [← hM] at hget
  have Hget := Lib.hid hget; clear hget
  rw [getNum_one] at hM
  have HM := Lib.hid hM; clear hM
  cases hpr : protoB M with
  | false =>
    by_cases hck : c' = 1
    all_goals
      have hck' := hck
      go_wp2_with fail
      refine (Hget.out _ HU.out _).mono ?_
      rintro e w3 ⟨rfl, hb3⟩
      replace s0 := s0.gr hb3
      replace G0 := G0.trans hb3
      clear s0c0 s0f0 s0c1 s0f1
      have s0c0 := s0.cell 0 _ rfl
      have s0f0 := s0.free 0 _ rfl
      have s0c1 := s0.cell 1 _ rfl
      have s0f1 := s0.free 1 _ rfl
      go_wp2_with fail
      refine (pppf_may M _ hM').mono ?_
      rw [hpr]
      rintro e w4 ⟨rfl, hw4⟩
      subst hw4
      go_wp2
      refine name_post fun W hW => ?_
      have s : StA W w.heap.size [.int .u16 0, .slice none 0 0] := by rw [hW]; exact s0.set (us := [.int .u16 0, .slice none 0 0]) rfl
      have G : Gr w W := by rw [hW]; exact Below.trans G0 (setCells_below [.int .u16 0, .slice none 0 0] (Nat.le_refl _) s0.lt)
      skip
      clear hW
      have k0 := s.cell 0 _ rfl
      have k1 := s.cell 1 _ rfl
      refine bodyPost_ret (v := .tuple #[.agg #[.int .u16 0, .slice none 0 0], .int .i64 3]) (by simp [results, Try.results15, go_sem, k0, k1]) rfl (by rw [show finR (x.toNat) t = (0, [], 3) by rw [← HM.out]; unfold finR; rw [hpr]; rfl]; exact RetF.err 3 G)

  | true =>
    by_cases hbig : n' - 1 ≤ 4000
    · have hbig' : ¬ (4000 : Int) < (n' : Int) - 1 := by omega
      have hbig'' : ¬ 4000 < n' - 1 := by omega
      by_cases hck : c' = 1
      all_goals
        have hck' := hck
        have hd := HD.out
        first | rw [if_pos hck] at hd | rw [if_neg hck] at hd
        have HD' := Lib.hid hd; clear hd
        go_wp2_with fail
        refine (Hget.out _ HU.out _).mono ?_
        rintro e w3 ⟨rfl, hb3⟩
        replace s0 := s0.gr hb3
        replace G0 := G0.trans hb3
        have HD3 := Lib.hid (HD'.out.gr hb3)
        clear s0c0 s0f0 s0c1 s0f1
        have s0c0 := s0.cell 0 _ rfl
        have s0f0 := s0.free 0 _ rfl
        have s0c1 := s0.cell 1 _ rfl
        have s0f1 := s0.free 1 _ rfl
        clear hb3
        go_wp2_with fail
        refine (pppf_may M _ hM').mono ?_
        rw [hpr]
        rintro e w4 ⟨rfl, hw4⟩
        subst hw4
        go_wp2_with fail
        refine (bytes_clone _ _ _ _ _ HD3.out (by omega)).mono ?_
        rintro e w5 ⟨v5, rfl, o5, hb5⟩
        have sh := o5.shape
        obtain ⟨A5, c5, rfl, h51, h52, hr5⟩ := sh
        clear hr5
        have o5' := Lib.hid (o5.more (b' := w.heap.size + 1) s0.lt); clear o5
        replace s0 := s0.gr hb5
        replace G0 := G0.trans hb5
        clear s0c0 s0f0 s0c1 s0f1
        have s0c0 := s0.cell 0 _ rfl
        have s0f0 := s0.free 0 _ rfl
        have s0c1 := s0.cell 1 _ rfl
        have s0f1 := s0.free 1 _ rfl
        have H52 := Lib.hid h52; clear h52
        go_wp2
        refine name_post fun W hW => ?_
        have s : StA W w.heap.size [.int .u16 M, .slice A5 t.length c5] := by rw [hW]; exact s0.set (us := [.int .u16 M, .slice A5 t.length c5]) rfl
        have G : Gr w W := by rw [hW]; exact Below.trans G0 (setCells_below [.int .u16 M, .slice A5 t.length c5] (Nat.le_refl _) s0.lt)
        have hr : OB W (w.heap.size + 1) (.slice A5 t.length c5) t.length t := by rw [hW]; exact o5'.out.set_block (us := [.int .u16 M, .slice A5 t.length c5]) (Nat.lt_succ_self _) s0.lt
        clear hW
        have k0 := s.cell 0 _ rfl
        have k1 := s.cell 1 _ rfl
        refine bodyPost_ret (v := .tuple #[.agg #[.int .u16 M, .slice A5 t.length c5], .int .i64 0]) (by simp [results, Try.results15, go_sem, k0, k1]) rfl (by rw [show finR (x.toNat) t = (M, t, 0) by rw [← HM.out]; unfold finR; rw [hpr, Hrl.out, if_pos rfl, if_pos hbig]]; exact ⟨A5, _, c5, rfl, h51, H52.out, (RB.ofOwn hr).1, G⟩)

    · have hbig' : (4000 : Int) < (n' : Int) - 1 := by omega
      have hbig'' : 4000 < n' - 1 := by omega
      have hck : ¬ c' = 1 := by omega
      focus
        have hck' := hck
        go_wp2_with fail
        refine (Hget.out _ HU.out _).mono ?_
        rintro e w3 ⟨rfl, hb3⟩
        replace s0 := s0.gr hb3
        replace G0 := G0.trans hb3
        clear s0c0 s0f0 s0c1 s0f1
        have s0c0 := s0.cell 0 _ rfl
        have s0f0 := s0.free 0 _ rfl
        have s0c1 := s0.cell 1 _ rfl
        have s0f1 := s0.free 1 _ rfl
        go_wp2_with fail
        refine (pppf_may M _ hM').mono ?_
        rw [hpr]
        rintro e w4 ⟨rfl, hw4⟩
        subst hw4
        go_wp2
        refine name_post fun W hW => ?_
        have s : StA W w.heap.size [.int .u16 0, .slice none 0 0] := by rw [hW]; exact s0.set (us := [.int .u16 0, .slice none 0 0]) rfl
        have G : Gr w W := by rw [hW]; exact Below.trans G0 (setCells_below [.int .u16 0, .slice none 0 0] (Nat.le_refl _) s0.lt)
        skip
        clear hW
        have k0 := s.cell 0 _ rfl
        have k1 := s.cell 1 _ rfl
        refine bodyPost_ret (v := .tuple #[.agg #[.int .u16 0, .slice none 0 0], .int .i64 8]) (by simp [results, Try.results15, go_sem, k0, k1]) rfl (by rw [show finR (x.toNat) t = (0, [], 8) by rw [← HM.out]; unfold finR; rw [hpr, Hrl.out, if_pos rfl, if_neg hbig]]; exact RetF.err 8 G)

set_option maxHeartbeats 4000000 in
theorem pppf_parse_even (A : Option Addr) (n c : Nat) (xs : List UInt8) (x y : UInt8) (t : List UInt8) (w : World) (hx : RB w A n xs) (hnc : n ≤ c) (hcm : c ≤ maxLen) (hss : strip2 255 3 xs = x :: y :: t) (hodd : x.toNat % 2 = 0) :
    Calls Try.prog 15 #[.slice A n c] w (RetF w (finR (256 * x.toNat + y.toNat) t)) := by
  have ht := fun B d w (h : RB w A n xs) (hy : RB w B 2 [255, 3]) => trimPrefix_two A B n c d xs 255 3 w h hy hnc hcm
  rw [hss] at ht
  clear hss
  have Ht := Lib.hid ht; clear ht
  have k1 := u8_and1' x
  rw [hodd] at k1
  clear hodd
  go_enter Try.func15, Try.ntmps15
  go_wp2_with fail
  refine (pppf_ahead _).mono ?_
  rintro e w1 ⟨rfl, o1, hb1⟩
  have G0 : Gr w w1 := by (repeat (first | exact Gr.refl _ | assumption | (refine gr_alloc ?_ _) | (refine gr_drewN ?_ _) | (refine gr_drew ?_) | (refine gr_set ?_ (by first | (simp; done) | omega | (simp; omega) | (simp at *; omega)) _) | (refine Gr.trans ?_ (by assumption))))
  have s0 := (StA.new w [.int .u16 0, .slice none 0 0] 39).gr hb1
  have hy1 := (RB.ofOwn o1).1
  simp only [alloc_size, drew_size, setCell_size] at hy1
  have hx1 := hx.gr G0
  have s0c0 := s0.cell 0 _ rfl
  have s0f0 := s0.free 0 _ rfl
  have s0c1 := s0.cell 1 _ rfl
  have s0f1 := s0.free 1 _ rfl
  clear hb1 o1
  go_wp2_with fail
  refine (Ht.out _ 2 w1 hx1 hy1).mono ?_
  rintro e w2 ⟨A', n', c', rfl, h1, h2, h3, rfl⟩
  have H2 := Lib.hid h2
  unfold maxLen at h2
  clear hy1
  have hlen := h3.len
  have hn' : 2 ≤ n' := by simp at hlen; omega
  have hrl : t.length = n' - 2 := by simp at hlen; omega
  have Hrl := Lib.hid hrl; clear hrl hlen
  have hd := h3.from_ (k := 2) hn' h1
  rw [show List.drop 2 (x :: y :: t) = t from rfl] at hd
  have hu := h3.upto hn'
  rw [show List.take 2 (x :: y :: t) = [x, y] from rfl] at hu
  obtain ⟨ad, rfl, had, hcell⟩ := h3.2 (by omega)
  have d0 := hcell 0 x rfl
  rw [show ad.add 0 = ad from rfl] at d0
  have hn0 : ¬ ((n' : Int) = 0) := by omega
  have hnk : ¬ n' < 2 := by omega
  have HU := Lib.hid hu; clear hu
  have HD := Lib.hid hd; clear hd
  clear hcell
  obtain ⟨M, hM⟩ : ∃ M, M = getNum [x, y] false := ⟨_, rfl⟩
  have hM' : M < 65536 := by rw [hM, getNum_two]; have := x.toNat_lt; have := y.toNat_lt; omega
  have hget := fun w (h : RB w (some ad) 2 [x, y]) c => octs_get_all (some ad) 2 c [x, y] false w h (by simp [maxLen])
  rw [← hM] at hget
  have Hget := Lib.hid hget; clear hget
  rw [getNum_two] at hM
  have HM := Lib.hid hM; clear hM
  cases hpr : protoB M with
  | false =>
    by_cases hck : c' = 2
    all_goals
      have hck' := hck
      go_wp2_with fail
      refine (Hget.out _ HU.out _).mono ?_
      rintro e w3 ⟨rfl, hb3⟩
      replace s0 := s0.gr hb3
      replace G0 := G0.trans hb3
      clear s0c0 s0f0 s0c1 s0f1
      have s0c0 := s0.cell 0 _ rfl
      have s0f0 := s0.free 0 _ rfl
      have s0c1 := s0.cell 1 _ rfl
      have s0f1 := s0.free 1 _ rfl
      go_wp2_with fail
      refine (pppf_may M _ hM').mono ?_
      rw [hpr]
      rintro e w4 ⟨rfl, hw4⟩
      subst hw4
      go_wp2
      refine name_post fun W hW => ?_
      have s : StA W w.heap.size [.int .u16 0, .slice none 0 0] := by rw [hW]; exact s0.set (us := [.int .u16 0, .slice none 0 0]) rfl
      have G : Gr w W := by rw [hW]; exact Below.trans G0 (setCells_below [.int .u16 0, .slice none 0 0] (Nat.le_refl _) s0.lt)
      skip
      clear hW
      have k0 := s.cell 0 _ rfl
      have k1 := s.cell 1 _ rfl
      refine bodyPost_ret (v := .tuple #[.agg #[.int .u16 0, .slice none 0 0], .int .i64 3]) (by simp [results, Try.results15, go_sem, k0, k1]) rfl (by rw [show finR (256 * x.toNat + y.toNat) t = (0, [], 3) by rw [← HM.out]; unfold finR; rw [hpr]; rfl]; exact RetF.err 3 G)

  | true =>
    by_cases hbig : n' - 2 ≤ 4000
    · have hbig' : ¬ (4000 : Int) < (n' : Int) - 2 := by omega
      have hbig'' : ¬ 4000 < n' - 2 := by omega
      by_cases hck : c' = 2
      all_goals
        have hck' := hck
        have hd := HD.out
        first | rw [if_pos hck] at hd | rw [if_neg hck] at hd
        have HD' := Lib.hid hd; clear hd
        go_wp2_with fail
        refine (Hget.out _ HU.out _).mono ?_
        rintro e w3 ⟨rfl, hb3⟩
        replace s0 := s0.gr hb3
        replace G0 := G0.trans hb3
        have HD3 := Lib.hid (HD'.out.gr hb3)
        clear s0c0 s0f0 s0c1 s0f1
        have s0c0 := s0.cell 0 _ rfl
        have s0f0 := s0.free 0 _ rfl
        have s0c1 := s0.cell 1 _ rfl
        have s0f1 := s0.free 1 _ rfl
        clear hb3
        go_wp2_with fail
        refine (pppf_may M _ hM').mono ?_
        rw [hpr]
        rintro e w4 ⟨rfl, hw4⟩
        subst hw4
        go_wp2_with fail
        refine (bytes_clone _ _ _ _ _ HD3.out (by omega)).mono ?_
        rintro e w5 ⟨v5, rfl, o5, hb5⟩
        have sh := o5.shape
        obtain ⟨A5, c5, rfl, h51, h52, hr5⟩ := sh
        clear hr5
        have o5' := Lib.hid (o5.more (b' := w.heap.size + 1) s0.lt); clear o5
        replace s0 := s0.gr hb5
        replace G0 := G0.trans hb5
        clear s0c0 s0f0 s0c1 s0f1
        have s0c0 := s0.cell 0 _ rfl
        have s0f0 := s0.free 0 _ rfl
        have s0c1 := s0.cell 1 _ rfl
        have s0f1 := s0.free 1 _ rfl
        have H52 := Lib.hid h52; clear h52
        go_wp2
        refine name_post fun W hW => ?_
        have s : StA W w.heap.size [.int .u16 M, .slice A5 t.length c5] := by rw [hW]; exact s0.set (us := [.int .u16 M, .slice A5 t.length c5]) rfl
        have G : Gr w W := by rw [hW]; exact Below.trans G0 (setCells_below [.int .u16 M, .slice A5 t.length c5] (Nat.le_refl _) s0.lt)
        have hr : OB W (w.heap.size + 1) (.slice A5 t.length c5) t.length t := by rw [hW]; exact o5'.out.set_block (us := [.int .u16 M, .slice A5 t.length c5]) (Nat.lt_succ_self _) s0.lt
        clear hW
        have k0 := s.cell 0 _ rfl
        have k1 := s.cell 1 _ rfl
        refine bodyPost_ret (v := .tuple #[.agg #[.int .u16 M, .slice A5 t.length c5], .int .i64 0]) (by simp [results, Try.results15, go_sem, k0, k1]) rfl (by rw [show finR (256 * x.toNat + y.toNat) t = (M, t, 0) by rw [← HM.out]; unfold finR; rw [hpr, Hrl.out, if_pos rfl, if_pos hbig]]; exact ⟨A5, _, c5, rfl, h51, H52.out, (RB.ofOwn hr).1, G⟩)

    · have hbig' : (4000 : Int) < (n' : Int) - 2 := by omega
      have hbig'' : 4000 < n' - 2 := by omega
      have hck : ¬ c' = 2 := by omega
      focus
        have hck' := hck
        go_wp2_with fail
        refine (Hget.out _ HU.out _).mono ?_
        rintro e w3 ⟨rfl, hb3⟩
        replace s0 := s0.gr hb3
        replace G0 := G0.trans hb3
        clear s0c0 s0f0 s0c1 s0f1
        have s0c0 := s0.cell 0 _ rfl
        have s0f0 := s0.free 0 _ rfl
        have s0c1 := s0.cell 1 _ rfl
        have s0f1 := s0.free 1 _ rfl
        go_wp2_with fail
        refine (pppf_may M _ hM').mono ?_
        rw [hpr]
        rintro e w4 ⟨rfl, hw4⟩
        subst hw4
        go_wp2
        refine name_post fun W hW => ?_
        have s : StA W w.heap.size [.int .u16 0, .slice none 0 0] := by rw [hW]; exact s0.set (us := [.int .u16 0, .slice none 0 0]) rfl
        have G : Gr w W := by rw [hW]; exact Below.trans G0 (setCells_below [.int .u16 0, .slice none 0 0] (Nat.le_refl _) s0.lt)
        skip
        clear hW
        have k0 := s.cell 0 _ rfl
        have k1 := s.cell 1 _ rfl
        refine bodyPost_ret (v := .tuple #[.agg #[.int .u16 0, .slice none 0 0], .int .i64 8]) (by simp [results, Try.results15, go_sem, k0, k1]) rfl (by rw [show finR (256 * x.toNat + y.toNat) t = (0, [], 8) by rw [← HM.out]; unfold finR; rw [hpr, Hrl.out, if_pos rfl, if_neg hbig]]; exact RetF.err 8 G)

set_option maxHeartbeats 4000000 in
theorem pppf_parse_short (A : Option Addr) (n c : Nat) (xs : List UInt8) (x : UInt8) (w : World) (hx : RB w A n xs) (hnc : n ≤ c) (hcm : c ≤ maxLen) (hss : strip2 255 3 xs = [x]) (hodd : x.toNat % 2 = 0) :
    Calls Try.prog 15 #[.slice A n c] w (RetF w (0, [], 4)) := by
  have ht := fun B d w (h : RB w A n xs) (hy : RB w B 2 [255, 3]) => trimPrefix_two A B n c d xs 255 3 w h hy hnc hcm
  rw [hss] at ht
  clear hss
  have Ht := Lib.hid ht; clear ht
  have k1 := u8_and1' x
  rw [hodd] at k1
  clear hodd
  go_enter Try.func15, Try.ntmps15
  go_wp2_with fail
  refine (pppf_ahead _).mono ?_
  rintro e w1 ⟨rfl, o1, hb1⟩
  have G0 : Gr w w1 := by (repeat (first | exact Gr.refl _ | assumption | (refine gr_alloc ?_ _) | (refine gr_drewN ?_ _) | (refine gr_drew ?_) | (refine gr_set ?_ (by first | (simp; done) | omega | (simp; omega) | (simp at *; omega)) _) | (refine Gr.trans ?_ (by assumption))))
  have s0 := (StA.new w [.int .u16 0, .slice none 0 0] 39).gr hb1
  have hy1 := (RB.ofOwn o1).1
  simp only [alloc_size, drew_size, setCell_size] at hy1
  have hx1 := hx.gr G0
  have s0c0 := s0.cell 0 _ rfl
  have s0f0 := s0.free 0 _ rfl
  have s0c1 := s0.cell 1 _ rfl
  have s0f1 := s0.free 1 _ rfl
  clear hb1 o1
  go_wp2_with fail
  refine (Ht.out _ 2 w1 hx1 hy1).mono ?_
  rintro e w2 ⟨A', n', c', rfl, h1, h2, h3, rfl⟩
  have H2 := Lib.hid h2
  unfold maxLen at h2
  clear hy1
  obtain rfl : n' = 1 := by have := h3.len; simpa using this.symm
  obtain ⟨ad, rfl, had, hcell⟩ := h3.2 (by omega)
  have d0 := hcell 0 x rfl
  rw [show ad.add 0 = ad from rfl] at d0
  clear hcell
  go_wp2
  refine name_post fun W hW => ?_
  have s : StA W w.heap.size [.int .u16 0, .slice none 0 0] := by rw [hW]; exact s0.set (us := [.int .u16 0, .slice none 0 0]) rfl
  have G : Gr w W := by rw [hW]; exact Below.trans G0 (setCells_below [.int .u16 0, .slice none 0 0] (Nat.le_refl _) s0.lt)
  skip
  clear hW
  have k0 := s.cell 0 _ rfl
  have k1 := s.cell 1 _ rfl
  refine bodyPost_ret (v := .tuple #[.agg #[.int .u16 0, .slice none 0 0], .int .i64 4]) (by simp [results, Try.results15, go_sem, k0, k1]) rfl (RetF.err 4 G)

theorem pppf_parse (A : Option Addr) (n c : Nat) (xs : List UInt8) (w : World) (hx : RB w A n xs) (hnc : n ≤ c) (hcm : c ≤ maxLen) :
    Calls Try.prog 15 #[.slice A n c] w (RetF w (parseF xs)) := by
  unfold parseF
  cases h : strip2 255 3 xs with
  | nil => exact pppf_parse_nil A n c xs w hx hnc hcm h
  | cons x t =>
    by_cases ho : x.toNat % 2 = 1
    · have e : parseL (x :: t) = finR x.toNat t := by cases t <;> simp [parseL, ho]
      rw [e]; exact pppf_parse_odd A n c xs x t w hx hnc hcm h ho
    · cases t with
      | nil =>
        have e : parseL [x] = (0, [], 4) := by simp [parseL, ho]
        rw [e]; exact pppf_parse_short A n c xs x w hx hnc hcm h (by omega)
      | cons y t =>
        have e : parseL (x :: y :: t) = finR (256 * x.toNat + y.toNat) t := by simp [parseL, ho]
        rw [e]; exact pppf_parse_even A n c xs x y t w hx hnc hcm h (by omega)
end Go.Proofs.Ytecnclcendcfmaa
