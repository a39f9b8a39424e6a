/-
  Parts of my own, one behind the other: QK3.
-/
import Derived.Test.YtobcpglaeonklaaGreatDoorMrg9
import Derived.Test.YtobcpglaeonklaaGreatDoorMrg10
import Derived.Test.YtobcpglaeonklaaGreatDoorMrg11
namespace Go.Proofs.YtobcpglaeonklaaGreatDoor
set_option maxRecDepth 100000
open Go.RowKit
set_option linter.unusedVariables false
set_option linter.unusedSimpArgs false
set_option maxRecDepth 100000
theorem parts29 : ∃ (h : Arr Int 16) (c : Arr Int 8) (r : Arr Int 24) (k : Arr Int 32) (a : List UInt8), nthash_Of 200000 [112] = some (h, 0) ∧ chap2_Challenge 200000 pf af [117] = some c ∧ chap2_Response 200000 c h = some r ∧ chap2_Prove 200000 pf af [117] [112] = some (r, 0) ∧ mppe_From 200000 h r true = some k ∧ chap2_Answer 200000 h r c = some a ∧ a.length ≤ 1000 ∧ AllB r.l ∧ k.l ≠ List.replicate 32 0 ∧ wfB (.arr 32 (.int .u8)) k = true := by
 have e1 := key29
 have e2 := ans29
 rw [show pe = pf from rfl, show au = af from rfl] at e1
 obtain ⟨x, hx, e1⟩ := Option.bind_eq_some_iff.1 e1
 obtain ⟨h, hh, e1⟩ := Option.bind_eq_some_iff.1 e1
 rw [hx, hh] at e2
 simp only [Option.bind_some] at e2
 obtain ⟨c, hc, e2⟩ := Option.bind_eq_some_iff.1 e2
 obtain ⟨k, hk, e1⟩ := Option.map_eq_some_iff.1 e1
 obtain ⟨a, ha, e2⟩ := Option.map_eq_some_iff.1 e2
 simp only [Bool.and_eq_true, decide_eq_true_eq] at e1 e2
 obtain ⟨⟨x2, h2⟩, k1, k2⟩ := e1
 obtain ⟨a1, r1⟩ := e2
 have hx2 := hx
 unfold chap2_Prove at hx2
 obtain ⟨h', hh', hx3⟩ := Option.bind_eq_some_iff.1 hx2
 have hhe : h' = h := Option.some.inj (hh'.symm.trans hh)
 subst hhe
 rw [decide_eq_true h2] at hx3
 simp only [Bool.not_true, cond_false] at hx3
 obtain ⟨c', hc', hx4⟩ := Option.bind_eq_some_iff.1 hx3
 have hce : c' = c := Option.some.inj (hc'.symm.trans hc)
 subst hce
 obtain ⟨r, hr, hx5⟩ := Option.bind_eq_some_iff.1 hx4
 simp only [Option.some.injEq] at hx5
 subst hx5
 obtain ⟨h1, h3⟩ := h'
 simp only at h2 hr hk ha
 subst h2
 refine ⟨h1, c', r, k, a, hh, hc, hr, hx, hk, ha, a1, fun y hy => ?_, k1, k2⟩
 have := List.all_eq_true.1 r1 y hy
 simpa using this
theorem par29 (V : List Int) (h : V.length = 49) (hb : AllB V) : chaps_Parse 200000 (layK 2 1 V [117]) = some (V, ([117], 0)) := by
 have e : (layK 2 1 V [117]).2.2 = 49 :: (V ++ [117]) := by
  unfold layK
  have : min V.length 255 = V.length := by omega
  rw [this, List.take_length, h]
  rfl
 have hl : (49 :: (V ++ [(117 : Int)])).length = 51 := by simp; omega
 rw [(par_p _ (layK_B 2 1 V [117] hb) (by rw [e, hl]; omega)).1]
 congr 1
 unfold parK
 rw [e, hl]
 have g : (49 :: (V ++ [(117 : Int)])).getD 0 0 = 49 := rfl
 rw [g, if_neg (by omega)]
 have t1 : ((49 :: (V ++ [(117 : Int)])).drop 1).take (49 : Int).toNat = V := by
  show (V ++ [(117 : Int)]).take 49 = V
  rw [← h, List.take_left]
 have t2 : (49 :: (V ++ [(117 : Int)])).drop (1 + (49 : Int).toNat) = [117] := by
  show (V ++ [(117 : Int)]).drop 49 = [117]
  rw [← h, List.drop_left]
 rw [t1, t2]
 rfl
theorem bclone (l : List Int) (h : l.length ≤ 10000) : bytes_Clone 200000 l = some l := by
 unfold bytes_Clone bytes_Clone_ne
 cases l with
 | nil => rfl
 | cons x l => exact (bvn rfl).trans ((bvn rfl).trans ((rpos (by omega) (by omega)).trans rfl))
abbrev As : Type := List UInt8 × (List Us × (Int × (Int × (Arr Int 16 × (Int × (Int × (List Int × (Int × (List UInt8 × Arr Int 32)))))))))
def z32 : Arr Int 32 := ⟨List.replicate 32 0, rfl⟩
def st1 : As := ([115], ([([117], [112])], (1, (1, (af, (1, (3, ([], (0, ([], z32))))))))))
def st2 (m : List Int) (k : Arr Int 32) : As := ([115], ([([117], [112])], (2, (1, (af, (1, (3, (m, (3, ([117], k))))))))))
theorem suc29 (a : List UInt8) (h : a.length ≤ 1000) : ∃ m, chap2_Success 200000 a [87, 101, 108, 99, 111, 109, 101] = some m ∧ m.length ≤ 10000 := by
 have hb := big_len
 refine ⟨ofB (a ++ [32, 77, 61] ++ [87, 101, 108, 99, 111, 109, 101]), ?_, ?_⟩
 ·unfold chap2_Success
  refine (bpos ?_).trans ((bpos ?_).trans ((rpos ?_ (by omega)).trans rfl))
  ·show a.length + 3 ≤ maxLen
   omega
  ·show (a ++ [32, 77, 61]).length + 7 ≤ maxLen
   rw [List.length_append]; simp only [List.length_cons, List.length_nil]; omega
  ·show ((a ++ [32, 77, 61]) ++ [87, 101, 108, 99, 111, 109, 101]).length ≤ 100000
   simp only [List.length_append, List.length_cons, List.length_nil]; omega
 ·rw [ofB_length]; simp only [List.length_append, List.length_cons, List.length_nil]; omega
theorem judge29 : ∃ (r : Arr Int 24) (m : List Int) (k : Arr Int 32), chap2_Prove 200000 pf af [117] [112] = some (r, 0) ∧ k.l ≠ List.replicate 32 0 ∧ wfB (.arr 32 (.int .u8)) k = true ∧ AllB r.l ∧
  chaps_Asker_judge 200000 st1 (layK 2 1 (valB pf.l r.l) [117]) = some (st2 m k, [(3, (1, m))]) := by
 obtain ⟨h, c, r, k, a, p1, p2, p3, p4, p5, p6, p7, p8, p9, p10⟩ := parts29
 obtain ⟨m, m1, m2⟩ := suc29 a p7
 refine ⟨r, m, k, p4, p9, p10, p8, ?_⟩
 have hpB : AllB pf.l := by unfold pf; exact AllB.cons (by omega) (rep_B 15 0 (by omega))
 have hV : (valB pf.l r.l).length = 49 := by
  have := r.h
  simp only [valB, List.length_append, List.length_replicate, List.length_cons, List.length_nil, pf.h]; omega
 have hVB : AllB (valB pf.l r.l) := ((hpB.append (rep_B 8 0 (by omega))).append p8).append (AllB.cons (by omega) AllB.nil)
 have hpar := par29 _ hV hVB
 have hval : chap2_Parse 200000 (valB pf.l r.l) = some (pf, (r, 0)) := by
  have hpl := pf.h
  have e1 : (valB pf.l r.l).take 16 = pf.l := by
   unfold valB
   rw [List.append_assoc, List.append_assoc, List.take_append_of_le_length (by omega), List.take_of_length_le (by omega)]
  have e2 : ((valB pf.l r.l).drop 24).take 24 = r.l := by
   have := r.h
   unfold valB
   rw [List.append_assoc, List.drop_append_of_le_length (by simp only [List.length_append, List.length_replicate]; omega), List.drop_eq_nil_of_le (by simp only [List.length_append, List.length_replicate]; omega), List.nil_append, List.take_append_of_le_length (by omega), List.take_of_length_le (by omega)]
  have q1 : peerOf _ hV = pf := Arr.eq e1
  have q2 : respOf _ hV = r := Arr.eq e2
  rw [parse_ok _ hVB (by omega), dif_pos hV, if_pos ((value_iff _ hV).1 (by rw [q1, q2])), q1, q2]
 have hproof : chaps_Asker_proof 200000 st1 pf r [117] = some (h, true) := by
  unfold chaps_Asker_proof
  refine (bnd (v := ((([117], [112]) : Us), true)) (by kernel_rfl)).trans ?_
  refine (bvn rfl).trans ?_
  refine (bnd p1).trans ?_
  refine (bvn rfl).trans ?_
  refine (bnd p2).trans ?_
  refine (bnd p3).trans ?_
  have := r.h
  refine (bnd (osame r.l r.l p8 p8 (by omega) (by omega) (by omega))).trans ?_
  rw [decide_eq_true rfl]
  rfl
 have htold : chaps_Asker_told 200000 (st2 m k) = some [(3, (1, m))] := by
  unfold chaps_Asker_told
  refine (bneg (by show ¬ (3 : Int) = 0; omega)).trans ?_
  exact (bnd (bclone m m2)).trans rfl
 unfold chaps_Asker_judge
 refine (bnd hpar).trans ?_
 refine (bvn rfl).trans ?_
 refine (bnd hval).trans ?_
 refine (bvn rfl).trans ?_
 refine (bnd hproof).trans ?_
 refine (bvn rfl).trans ?_
 refine (bnd p5).trans ?_
 refine (bnd p2).trans ?_
 refine (bnd p6).trans ?_
 refine (bnd m1).trans ?_
 refine (bnd htold).trans ?_
 rfl
theorem alive29 : law29_alive 200000 = some true := by
 obtain ⟨r, m, k, p1, p2, p3, p4, p5⟩ := judge29
 have htake : chaps_Asker_Take 200000 st1 (layK 2 1 (valB pf.l r.l) [117]) = some (st2 m k, [(3, (1, m))]) := by
  unfold chaps_Asker_Take
  refine (bnd (v := false) rfl).trans ?_
  refine (bvn rfl).trans ?_
  refine (bpos rfl).trans ?_
  exact (bnd p5).trans rfl
 unfold law29_alive
 refine (bnd (v := (st1, [((1 : Int), ((1 : Int), 16 :: (af.l ++ [115])))])) (by kernel_rfl)).trans ?_
 refine (bnd (v := false) (by kernel_rfl)).trans ?_
 refine (bnd (v := false) (by kernel_rfl)).trans ?_
 refine (bvn rfl).trans ?_
 refine (bnd p1).trans ?_
 refine (bnd (value_ok pf r)).trans ?_
 refine (bnd (lay_p 2 1 (valB pf.l r.l) [117] (by simp))).trans ?_
 refine (bnd htake).trans ?_
 refine (bpos rfl).trans ?_
 refine (bnd (v := true) rfl).trans ?_
 refine (bnd (v := true) rfl).trans ?_
 refine (bvp rfl).trans ?_
 refine (bnd (v := true) rfl).trans ?_
 refine (bvp rfl).trans ?_
 refine (bnd (v := true) (by kernel_rfl)).trans ?_
 refine (bvp rfl).trans ?_
 have hz : wfB (.arr 32 (.int .u8)) z32 = true := by kernel_rfl
 have hne : ¬ k = z32 := fun e => p2 (by rw [e]; rfl)
 refine (bnd (v := true) ?_).trans rfl
 refine (bvp ?_).trans ?_
 ·show (wfB (.arr 32 (.int .u8)) k && wfB (.arr 32 (.int .u8)) z32) = true
  rw [p3, hz]
  rfl
 ·show some (cond true (!(@Decidable.decide (k = z32) _)) false) = some true
  rw [decide_eq_false hne]
  rfl
theorem law_ChapsPackets (h : Arr Int 2) (v : List Int) (s : List UInt8 × (List Us × (Int × (Int × List Int)))) (w1 : wfT (.arr 2 (.int .u8)) h) (w2 : wfT (.sl (.int .u8)) v) (w3 : wfT TN s) : law29_ChapsPackets 200000 h v s = some true := law_of_alive alive29 h v s w1 w2 w3
end Go.Proofs.YtobcpglaeonklaaGreatDoor
