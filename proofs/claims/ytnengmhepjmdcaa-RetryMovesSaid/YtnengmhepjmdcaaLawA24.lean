/-
  What layer 24 says of itself at once; one that was sent.
-/
import Derived.Test.YtnengmhepjmdcaaRef24
namespace Go.Proofs.Ytnengmhepjmdcaa
set_option maxRecDepth 100000
open Go.RowKit
set_option linter.unusedVariables false
set_option linter.unusedSimpArgs false

set_option maxRecDepth 100000 in
set_option maxHeartbeats 1000000 in
theorem alive24 (w : World) : Calls Try.prog 15 #[] w fun e w' => e = .returned (.bool true) ∧ Gr w w' := by
  go_enter Try.func15, Try.ntmps15
  go_wp2_with fail
  refine (retry_init 0 0 false _).mono ?_
  rintro e w1 ⟨rfl, hb1⟩
  go_wp2_with fail
  refine (retry_sent_yes 10 0 _ (by omega) (by omega)).mono ?_
  rintro e w2 ⟨rfl, hb2⟩
  have G := hb1.trans hb2
  clear hb1 hb2
  have s := StA.new w2 [.int .i64 9, .int .i64 3] 24
  go_wp2_with fail
  refine (retry_on_yes 9 3 _ (by omega)).mono ?_
  rintro e w3 ⟨rfl, hb3⟩
  (try clear sc0 sf0 sc1 sf1)
  replace s := StA.gr s hb3
  have sc0 := s.cell 0 _ rfl
  have sf0 := s.free 0 _ rfl
  have sc1 := s.cell 1 _ rfl
  have sf1 := s.free 1 _ rfl
  go_wp2_with fail
  refine (retry_more_yes 9 3 _ (by omega)).mono ?_
  rintro e w4 ⟨rfl, hb4⟩
  (try clear sc0 sf0 sc1 sf1)
  replace s := StA.gr s hb4
  have sc0 := s.cell 0 _ rfl
  have sf0 := s.free 0 _ rfl
  have sc1 := s.cell 1 _ rfl
  have sf1 := s.free 1 _ rfl
  go_wp2_with fail
  refine (retry_may 9 3 _).mono ?_
  rintro e w5 ⟨rfl, hb5⟩
  have hm : mayR 9 3 = true := by decide
  (try clear sc0 sf0 sc1 sf1)
  replace s := StA.gr s hb5
  have sc0 := s.cell 0 _ rfl
  have sf0 := s.free 0 _ rfl
  have sc1 := s.cell 1 _ rfl
  have sf1 := s.free 1 _ rfl
  go_wp2_with fail
  refine (retry_longest_lt 10 _ (by omega) (by omega)).mono ?_
  rintro e w6 ⟨rfl, hb6⟩
  go_wp2
  go_ret
  exact ⟨rfl, (((((G.trans ((Gr.refl _).alloc (Nat.le_refl _) _)).trans hb3).trans hb4).trans hb5).trans hb6)⟩
end Go.Proofs.Ytnengmhepjmdcaa
