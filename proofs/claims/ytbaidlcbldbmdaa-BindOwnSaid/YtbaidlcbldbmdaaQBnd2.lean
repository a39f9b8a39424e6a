/-
  Layer 34, on plain data: what is bound; the laws BindMakes and BindOwn.
-/
import Derived.Test.YtbaidlcbldbmdaaQBnd1
namespace Go.Proofs.Ytbaidlcbldbmdaa
set_option maxRecDepth 100000
open Go.RowKit
set_option linter.unusedVariables false
set_option linter.unusedSimpArgs false
set_option maxRecDepth 100000

def bpk (m : Int) (n h s : A32) : Pk := (true, 4, [(3, bdat m n h s)], [])
def apk (n : A32) : Pk := (true, 2, [(4, adat 2 n)], [])
theorem bpk_wf {n h s : A32} (hn : AllB n.l) (hh : AllB h.l) (hs : AllB s.l) : wfP (bpk 2 n h s) := ⟨(by decide : (0 : Int) ≤ 4 ∧ (4 : Int) < 65536), fun a ha => (by
  rcases List.mem_singleton.1 ha with rfl
  exact ⟨(by decide : (0 : Int) ≤ 3 ∧ (3 : Int) < 256), bdat_B (by decide) hn hh hs⟩), AllB.nil⟩
theorem bpk_ok (n h s : A32) : okP (bpk 2 n h s) := ⟨(by decide : 1 ≤ 12), fun a ha => (by
  rcases List.mem_singleton.1 ha with rfl
  show (bdat 2 n h s).length ≤ 5000
  rw [bdat_len]; decide), Nat.zero_le _⟩
theorem apk_wf {n : A32} (hn : AllB n.l) : wfP (apk n) := ⟨(by decide : (0 : Int) ≤ 2 ∧ (2 : Int) < 65536), fun a ha => (by
  rcases List.mem_singleton.1 ha with rfl
  exact ⟨(by decide : (0 : Int) ≤ 4 ∧ (4 : Int) < 256), adat_B (by decide) hn⟩), AllB.nil⟩
theorem apk_ok (n : A32) : okP (apk n) := ⟨(by decide : 1 ≤ 12), fun a ha => (by
  rcases List.mem_singleton.1 ha with rfl
  show (adat 2 n).length ≤ 5000
  rw [adat_len]; decide), Nat.zero_le _⟩
theorem bpk_chk (n h s : A32) : chkP (bpk 2 n h s) = 0 := by
  unfold chkP bpk
  have hb : badA [((3 : Int), bdat 2 n h s)] = 0 := by
    rw [badA_go (bdat_chk n h s)]; rfl
  have hf : fitB 4 [((3 : Int), bdat 2 n h s)] = true := by
    unfold fitB areB
    simp
  simp [hf, hb]
theorem apk_chk (n : A32) : chkP (apk n) = 0 := by
  unfold chkP apk
  have hb : badA [((4 : Int), adat 2 n)] = 0 := by
    rw [badA_go (adat_chk n)]; rfl
  have hf : fitB 2 [((4 : Int), adat 2 n)] = true := by
    unfold fitB areB
    simp
  simp [hf, hb]
theorem bpk_lay {n h s : A32} (hn : AllB n.l) (hh : AllB h.l) (hs : AllB s.l) : (layPk (bpk 2 n h s)).1.length ≤ 3000 ∧ AllB (layPk (bpk 2 n h s)).1 := by
  have e1 : layA (3, bdat 2 n h s) = (0 :: 3 :: ((4 + ((bdat 2 n h s).length : Int)) / 256) :: ((4 + ((bdat 2 n h s).length : Int)) % 256) :: bdat 2 n h s, 0) := by
    unfold layA
    rw [if_neg (by show ¬ kindB 3 = false; decide), if_neg (by show ¬ 4091 < (bdat 2 n h s).length; rw [bdat_len]; decide)]
  have e2 : encL [((3 : Int), bdat 2 n h s)] = ((layA (3, bdat 2 n h s)).1 ++ [], 0) := by
    rw [encL_cons, e1]; rfl
  have l1 : (layA (3, bdat 2 n h s)).1.length = 104 := by rw [e1]; simp only [List.length_cons, bdat_len]
  have hB : AllB (layA (3, bdat 2 n h s)).1 := by
    rw [e1]
    exact AllB.cons (by decide) (AllB.cons (by decide) (AllB.cons (by rw [bdat_len]; decide) (AllB.cons (by rw [bdat_len]; decide) (bdat_B (by decide) hn hh hs))))
  have hE : bodyS (bpk 2 n h s) = (headP (bpk 2 n h s) ++ ((layA (3, bdat 2 n h s)).1 ++ []), 0) := by
    unfold bodyS
    show (bif true then (if 8 < [((3 : Int), bdat 2 n h s)].length then ([], 5) else encW (headP (bpk 2 n h s)) (encL [((3 : Int), bdat 2 n h s)])) else _) = _
    simp only [cond_true]
    rw [if_neg (by simp), e2]
    rfl
  have hh4 : (headP (bpk 2 n h s)).length = 4 := rfl
  have hhB : AllB (headP (bpk 2 n h s)) := by
    unfold headP
    exact AllB.cons (by show 0 ≤ (4 : Int) / 256 % 256 ∧ (4 : Int) / 256 % 256 < 256; decide) (AllB.cons (by show 0 ≤ (4 : Int) % 256 ∧ (4 : Int) % 256 < 256; decide) (AllB.cons (by omega) (AllB.cons (by omega) AllB.nil)))
  have hlen : (headP (bpk 2 n h s) ++ ((layA (3, bdat 2 n h s)).1 ++ [])).length = 108 := by rw [List.append_nil, List.length_append, hh4, l1]
  have hAll : AllB (headP (bpk 2 n h s) ++ ((layA (3, bdat 2 n h s)).1 ++ [])) := by rw [List.append_nil]; exact hhB.append hB
  unfold layPk wrapP
  rw [hE]
  generalize headP (bpk 2 n h s) ++ ((layA (3, bdat 2 n h s)).1 ++ []) = L at hlen hAll ⊢
  simp only [if_true, hlen]
  rw [if_neg (by decide)]
  exact ⟨by simp only [List.length_cons, hlen]; decide, AllB.cons (by decide) (AllB.cons (by cases (bpk 2 n h s).1 <;> decide) (AllB.cons (by decide) (AllB.cons (by decide) hAll)))⟩
/-- The seal of a binding. -/
noncomputable def sv (u n h : A32) : A32 := hm (kb (bd u).l) (layPk (bpk 2 n h z32)).1
theorem sv_B {u n h : A32} (hn : AllB n.l) (hh : AllB h.l) : AllB (sv u n h).l := hm_B (bpk_lay hn hh z32_B).1 (bpk_lay hn hh z32_B).2
section
theorem bof_ok (n h s : A32) : bind_of 200000 (2, n, h, s) = some (bpk 2 n h s) := by
  unfold bind_of
  try simp only [peta]
  rw [ofb_ok 2 n h s (by omega), Option.bind_some]
  try simp only [peta]
  rw [pof_ok 4 [(3, bdat 2 n h s)] (by simp) (fun a ha => by
    rcases List.mem_singleton.1 ha with rfl
    show (bdat 2 n h s).length ≤ 5000
    rw [bdat_len]; decide) (by omega)]
  rfl
theorem bseal_ok (u n h s : A32) (hu : AllB u.l) (hn : AllB n.l) (hh : AllB h.l) : bind_seal 200000 (2, n, h, s) u = some (sv u n h) := by
  unfold bind_seal
  try simp only
  rw [z32_lit, bof_ok n h z32, Option.bind_some]
  try simp only [peta]
  rw [play_ok _ (bpk_wf hn hh z32_B) (bpk_ok n h z32) (by omega), Option.bind_some, pbind_ok u hu, Option.bind_some, seal_ok (bd u) (bd_B u) _ (bpk_lay hn hh z32_B).1 (bpk_lay hn hh z32_B).2]
  rfl
theorem bcon_ok (u n h : A32) (hu : AllB u.l) (hn : AllB n.l) (hh : AllB h.l) : bind_Connected 200000 u n h = some (bpk 2 n h (sv u n h)) := by
  unfold bind_Connected
  rw [z32_lit, bseal_ok u n h z32 hu hn hh, Option.bind_some, bof_ok, Option.bind_some]
theorem rpk_ok (n h s : A32) : ref34_packet 200000 2 n h s = some (bpk 2 n h s) := by
  unfold ref34_packet
  rw [rofb_ok]; rfl
theorem rcon_ok (u n h : A32) (hu : AllB u.l) (hn : AllB n.l) (hh : AllB h.l) : ref34_Connected 200000 u n h = some (bpk 2 n h (sv u n h)) := by
  unfold ref34_Connected
  rw [z32_lit, rpk_ok, Option.bind_some]
  have hs : ref34_sealed 200000 (bpk 2 n h z32) u = some (sv u n h) := by
    unfold ref34_sealed
    simp only [peta]
    rw [prlay_ok _ (bpk_wf hn hh z32_B) (bpk_ok n h z32) (by omega), Option.bind_some, rbind_ok u hu, Option.bind_some, rof_ok (bd u).l (by rw [(bd u).h]; decide) (bd_B u) _ (bpk_lay hn hh z32_B).1 (bpk_lay hn hh z32_B).2]
    rfl
  try simp only [peta]
  rw [hs, Option.bind_some, rpk_ok]
  rfl
theorem bbind_ok (n h s : A32) (hn : AllB n.l) (hh : AllB h.l) (hs : AllB s.l) : bind_binding 200000 (bpk 2 n h s) = some ((2, n, h, s), 0) := by
  unfold bind_binding
  try simp only [peta]
  rw [pchk_ok _ (bpk_wf hn hh hs) (bpk_ok n h s) (by omega), Option.bind_some, bpk_chk]
  have e1 : (bpk 2 n h s).1 = true := rfl
  have e2 : (bpk 2 n h s).2.1 = 4 := rfl
  have e3 : getI (bpk 2 n h s).2.2.1 0 = some (3, bdat 2 n h s) := rfl
  simp only [e1, e2, e3, decide_true, Bool.not_true, cond_true, cond_false, Option.bind_some, tob_ok n h s hn hh hs]
theorem bbare_ok (n h s : A32) (hn : AllB n.l) (hh : AllB h.l) (hs : AllB s.l) : bind_Bare 200000 (bpk 2 n h s) = some (bpk 2 n h z32, 0) := by
  unfold bind_Bare
  try simp only [peta]
  rw [bbind_ok n h s hn hh hs, Option.bind_some]
  simp only [decide_true, Bool.not_true, cond_false]
  rw [z32_lit, bof_ok]; rfl
theorem bSeal_ok (u n h s : A32) (hu : AllB u.l) (hn : AllB n.l) (hh : AllB h.l) (hs : AllB s.l) : bind_Seal 200000 (bpk 2 n h s) u = some (sv u n h, 0) := by
  unfold bind_Seal
  try simp only [peta]
  rw [bbind_ok n h s hn hh hs, Option.bind_some]
  simp only [decide_true, Bool.not_true, cond_false]
  rw [bseal_ok u n h s hu hn hh]; rfl
theorem eqA (a b : A32) : (@Decidable.decide (@Eq (Arr Int 32) a b) (decT (.arr 32 (.int .u8)) a b)) = decide (a.l = b.l) := by
  rw [decide_eq_decide]
  exact ⟨fun h => by rw [h], fun h => Arr.eq h⟩
theorem wfA32 {a : A32} (h : AllB a.l) : wfB (.arr 32 (.int .u8)) a = true := wfB_b a h
theorem bcheck_ok (u n h s n' h' : A32) (hu : AllB u.l) (hn : AllB n.l) (hh : AllB h.l) (hs : AllB s.l) (hn' : AllB n'.l) (hh' : AllB h'.l) : bind_Check 200000 (bpk 2 n h s) u n' h' = some (if n.l = n'.l then (if h.l = h'.l then (if s.l = (sv u n h).l then 0 else 14) else 14) else 10) := by
  unfold bind_Check
  try simp only [peta]
  rw [bbind_ok n h s hn hh hs, Option.bind_some]
  simp only [decide_true, Bool.not_true, cond_false]
  rw [bseal_ok u n h s hu hn hh, Option.bind_some]
  have hsv := sv_B (u := u) hn hh
  have ho : octs_Same 200000 s.l (sv u n h).l = some (decide (s.l = (sv u n h).l)) := osame _ _ hs hsv (by rw [s.h]; decide) (by rw [(sv u n h).h]; decide) (by omega)
  simp only [wfA32 hn, wfA32 hn', wfA32 hh, wfA32 hh', Bool.and_self, cond_true, eqA, ho, Option.bind_some]
  by_cases h1 : n.l = n'.l
  · by_cases h2 : h.l = h'.l
    · by_cases h3 : s.l = (sv u n h).l
      · simp only [h1, h2, decide_true, Bool.not_true, cond_false, if_true]
        rw [decide_eq_true h3, if_pos h3]; rfl
      · simp only [h1, h2, decide_true, Bool.not_true, cond_false, if_true]
        rw [decide_eq_false h3, if_neg h3]; rfl
    · simp [h1, h2]
  · simp [h1]
theorem bask_ok (n : A32) : bind_Ask 200000 n = some (apk n) := by
  unfold bind_Ask
  rw [ofa_ok 2 n (by omega), Option.bind_some]
  try simp only [peta]
  rw [pof_ok 2 [(4, adat 2 n)] (by simp) (fun a ha => by
    rcases List.mem_singleton.1 ha with rfl
    show (adat 2 n).length ≤ 5000
    rw [adat_len]; decide) (by omega)]
  rfl
theorem rask_ok (n : A32) : ref34_Ask 200000 n = some (apk n) := by
  unfold ref34_Ask
  rw [rofa_ok]; rfl
theorem basked_ok (n : A32) (hn : AllB n.l) : bind_Asked 200000 (apk n) = some (n, 0) := by
  unfold bind_Asked
  try simp only [peta]
  rw [pchk_ok _ (apk_wf hn) (apk_ok n) (by omega), Option.bind_some, apk_chk]
  have e1 : (apk n).1 = true := rfl
  have e2 : (apk n).2.1 = 2 := rfl
  have e3 : getI (apk n).2.2.1 0 = some (4, adat 2 n) := rfl
  have e4 : decide (Go.bits .and .u8 (2 : Int) 2 = 0) = false := by decide
  simp only [e1, e2, e3, e4, decide_true, Bool.not_true, cond_true, cond_false, Option.bind_some, toa_ok n hn]
theorem alive34 : law34_alive 200000 = some true := by
  unfold law34_alive
  have hz : ∀ (x : Int) (_ : 0 ≤ x ∧ x < 256), AllB (x :: List.replicate 31 0) := fun x hx => AllB.cons hx (fun y hy => by rw [List.eq_of_mem_replicate hy]; decide)
  have l1 : ∀ x : Int, (Arr.cons x (Arr.cons 0 (Arr.cons 0 (Arr.cons 0 (Arr.cons 0 (Arr.cons 0 (Arr.cons 0 (Arr.cons 0 (Arr.cons 0 (Arr.cons 0 (Arr.cons 0 (Arr.cons 0 (Arr.cons 0 (Arr.cons 0 (Arr.cons 0 (Arr.cons 0 (Arr.cons 0 (Arr.cons 0 (Arr.cons 0 (Arr.cons 0 (Arr.cons 0 (Arr.cons 0 (Arr.cons 0 (Arr.cons 0 (Arr.cons 0 (Arr.cons 0 (Arr.cons 0 (Arr.cons 0 (Arr.cons 0 (Arr.cons 0 (Arr.cons 0 (Arr.cons (0 : Int) Arr.nil))))))))))))))))))))))))))))))) : A32) = ⟨x :: List.replicate 31 0, rfl⟩ := fun x => rfl
  simp only [l1]
  have q : ∀ x : Int, (⟨x :: List.replicate 31 0, rfl⟩ : A32).l = x :: List.replicate 31 0 := fun x => rfl
  have b1 : AllB (⟨1 :: List.replicate 31 0, rfl⟩ : A32).l := hz 1 (by decide)
  have b2 : AllB (⟨2 :: List.replicate 31 0, rfl⟩ : A32).l := hz 2 (by decide)
  have b3 : AllB (⟨3 :: List.replicate 31 0, rfl⟩ : A32).l := hz 3 (by decide)
  have b4 : AllB (⟨4 :: List.replicate 31 0, rfl⟩ : A32).l := hz 4 (by decide)
  have b5 : AllB (⟨5 :: List.replicate 31 0, rfl⟩ : A32).l := hz 5 (by decide)
  rw [bcon_ok _ _ _ b1 b2 b3, Option.bind_some, bask_ok, Option.bind_some]
  try simp only [peta]
  rw [basked_ok _ b4, Option.bind_some, bcheck_ok _ _ _ _ _ _ b1 b2 b3 (sv_B b2 b3) b2 b3, Option.bind_some, bcheck_ok _ _ _ _ _ _ b1 b2 b3 (sv_B b2 b3) b5 b3]
  have e25 : ¬ ((2 : Int) :: List.replicate 31 0 = 5 :: List.replicate 31 0) := by decide
  simp only [if_true, decide_true, cond_true, Option.bind_some, e25, if_false, wfA32 b4, Bool.and_self, eqA]
  rfl
end
abbrev K3 := A32 × A32 × A32
theorem law_BindMakes (k : K3) (h1 : wfT (.pair (.arr 32 (.int .u8)) (.pair (.arr 32 (.int .u8)) (.arr 32 (.int .u8)))) k) : law34_BindMakes 200000 k = some true := by
  obtain ⟨u, n, h⟩ := k
  have hu : AllB u.l := fun x hx => wf_u8 (h1.1 x hx)
  have hn : AllB n.l := fun x hx => wf_u8 (h1.2.1 x hx)
  have hh : AllB h.l := fun x hx => wf_u8 (h1.2.2 x hx)
  have hs := sv_B (u := u) hn hh
  unfold law34_BindMakes
  try simp only [peta]
  rw [bcon_ok u n h hu hn hh, Option.bind_some, rcon_ok u n h hu hn hh, Option.bind_some, theirs_ok _ (by have := (bpk_ok n h (sv u n h)).1; omega) (by omega), Option.bind_some, psame_ok _ _ (bpk_wf hn hh hs) (bpk_wf hn hh hs) (bpk_ok _ _ _) (bpk_ok _ _ _) (by omega), Option.bind_some, bask_ok, Option.bind_some, rask_ok, Option.bind_some, theirs_ok _ (by have := (apk_ok n).1; omega) (by omega), Option.bind_some, psame_ok _ _ (apk_wf hn) (apk_wf hn) (apk_ok _) (apk_ok _) (by omega), Option.bind_some, alive34]
  simp
theorem law_BindOwn (k o : K3) (h1 : wfT (.pair (.arr 32 (.int .u8)) (.pair (.arr 32 (.int .u8)) (.arr 32 (.int .u8)))) k) (h2 : wfT (.pair (.arr 32 (.int .u8)) (.pair (.arr 32 (.int .u8)) (.arr 32 (.int .u8)))) o) : law34_BindOwn 200000 k o = some true := by
  obtain ⟨u, n, h⟩ := k
  obtain ⟨u', n', h'⟩ := o
  have hu : AllB u.l := fun x hx => wf_u8 (h1.1 x hx)
  have hn : AllB n.l := fun x hx => wf_u8 (h1.2.1 x hx)
  have hh : AllB h.l := fun x hx => wf_u8 (h1.2.2 x hx)
  have hn' : AllB n'.l := fun x hx => wf_u8 (h2.2.1 x hx)
  have hh' : AllB h'.l := fun x hx => wf_u8 (h2.2.2 x hx)
  have hs := sv_B (u := u) hn hh
  unfold law34_BindOwn
  try simp only [peta]
  rw [bcon_ok u n h hu hn hh, Option.bind_some]
  simp only [bcheck_ok u n h (sv u n h) n h hu hn hh hs hn hh, bcheck_ok u n h (sv u n h) n' h hu hn hh hs hn' hh, bcheck_ok u n h (sv u n h) n h' hu hn hh hs hn hh', bbare_ok n h (sv u n h) hn hh hs, bSeal_ok u n h (sv u n h) hu hn hh hs, bSeal_ok u n h z32 hu hn hh z32_B, Option.bind_some, if_true, decide_true, Bool.not_true, cond_false, cond_true, wfA32 hn, wfA32 hn', wfA32 hh, wfA32 hh', wfA32 hs, Bool.and_self, eqA, alive34]
  by_cases c1 : n'.l = n.l
  · by_cases c2 : h'.l = h.l
    · simp [c1, c2]
    · have c2' : ¬ h.l = h'.l := fun e => c2 e.symm
      simp [c1, c2, c2']
  · have c1' : ¬ n.l = n'.l := fun e => c1 e.symm
    by_cases c2 : h'.l = h.l
    · simp [c1, c1', c2]
    · have c2' : ¬ h.l = h'.l := fun e => c2 e.symm
      simp [c1, c1', c2, c2']
end Go.Proofs.Ytbaidlcbldbmdaa
