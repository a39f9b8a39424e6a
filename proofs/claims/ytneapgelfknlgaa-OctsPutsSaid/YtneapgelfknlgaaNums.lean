/-
  Contracts: numbers as bytes, and bytes as numbers.
-/
import Derived.Test.YtneapgelfknlgaaFacts
import Derived.Test.YtneapgelfknlgaaPlain01
namespace Go.Proofs.Ytneapgelfknlgaa
open Go.RowKit
set_option linter.unusedVariables false

set_option maxHeartbeats 400000 in
theorem ref_turned (A : Option Addr) (n c : Nat) (xs : List UInt8) (w : World) (hx : RB w A n xs) (hn : n ≤ 140737488355328) :
    Calls Try.prog 22 #[.slice A n c] w fun e w' => ∃ v, e = .returned v ∧ OB w' w.heap.size v n xs.reverse ∧ Below w.heap.size w w' := by
  have hmk := mk_bytes n n (by omega) (by omega) (by omega)
  have hm0 : n ≤ maxLen := by simp only [maxLen]; omega
  have lx := Lib.hid hx.len
  go_enter Try.func22, Try.ntmps22
  go_wp2
  clear hmk
  go_loopw [4] (fun i wr => ∃ (k : Nat) (cur : List UInt8), k ≤ n ∧ i = .int .i64 k ∧ OB wr w.heap.size (.slice (some ⟨w.heap.size, 0, none⟩) n n) n cur ∧ cur.drop (n - k) = xs.reverse.drop (n - k) ∧ Below w.heap.size w wr) (fun i _ => n - (intOf i).toNat)
  case atStart => exact ⟨0, List.replicate n 0, Nat.zero_le _, rfl, OB.made _ _ _ _ (Nat.le_refl _) hm0 (Nat.le_refl _), by rw [List.drop_of_length_le (by simp), List.drop_of_length_le (by simp [lx.out])], (Below.refl _ _).alloc (Nat.le_refl _) _⟩
  case round =>
    obtain ⟨k, cur, hk, rfl, hown, heq, hbel⟩ := hrel
    have Heq := Lib.hid heq; clear heq
    by_cases hlt : k < n
    · obtain ⟨ad, x, rfl, _, hxk, hxc, hx0, hx1⟩ := (hx.below hbel).at_ hlt
      have Hxk := Lib.hid hxk; clear hxk
      have hcl := Lib.hid hown.len
      have hfz := hown.frozenAt (n - 1 - k)
      obtain ⟨y, hy⟩ : ∃ y, cur[n - 1 - k]? = some y := ⟨_, List.getElem?_eq_getElem (by rw [hcl.out]; omega)⟩
      have hcc := hown.cellAt hy
      clear hy hx
      go_wp2
      go_roundw
      case rel =>
        refine ⟨k + 1, cur.set (n - 1 - k) x, by omega, by go_num, hown.stored _ _, ?_, hbel.setCell (Nat.le_refl _) _⟩
        have e : n - k = n - (k + 1) + 1 := by omega
        have e2 : n - 1 - k = n - (k + 1) := by omega
        rw [e2]
        refine set_drop (by rw [← e]; exact Heq.out) (by rw [hcl.out]; omega) ?_
        rw [List.getElem?_reverse (by rw [lx.out]; omega), lx.out, ← e2, show n - 1 - (n - 1 - k) = k by omega]
        exact Hxk.out
      case measure => simp [intOf]; omega
    · have hkn : k = n := by omega
      have Hkn := Lib.hid hkn; clear hkn
      go_wp2
      go_ret
      refine ⟨_, rfl, ?_, hbel⟩
      have h := Heq.out
      rw [Hkn.out, Nat.sub_self, List.drop_zero, List.drop_zero] at h
      rw [← h]; exact hown

set_option maxHeartbeats 400000 in
theorem ref_big (N : Nat) (n : Nat) (w : World) (hn : n ≤ 8) (hN : N < 18446744073709551616) :
    Calls Try.prog 23 #[.int .u64 N, .int .i64 n] w fun e w' => ∃ v, e = .returned v ∧ OB w' w.heap.size v n (laid n N false) ∧ Below w.heap.size w w' := by
  have hmk := mk_bytes n n (by omega) (by omega) (by omega)
  have hm0 : n ≤ maxLen := by simp only [maxLen]; omega
  go_enter Try.func23, Try.ntmps23
  go_wp2
  clear hmk
  go_loopw [0, 6] (fun m i wr => ∃ (k : Nat) (cur : List UInt8), k ≤ n ∧ i = .int .i64 ((n : Int) - 1 - k) ∧ m = .int .u64 ((N / 256 ^ k : Nat) : Int) ∧ OB wr w.heap.size (.slice (some ⟨w.heap.size, 0, none⟩) n n) n cur ∧ cur.drop (n - k) = (laid n N false).drop (n - k) ∧ Below w.heap.size w wr) (fun _ i _ => (intOf i + 1).toNat)
  case atStart => exact ⟨0, List.replicate n 0, Nat.zero_le _, by simp, by simp, OB.made _ _ _ _ (Nat.le_refl _) hm0 (Nat.le_refl _), by rw [List.drop_of_length_le (by simp), List.drop_of_length_le (by simp [laid_length])], (Below.refl _ _).alloc (Nat.le_refl _) _⟩
  case round =>
    obtain ⟨k, cur, hk, rfl, rfl, hown, heq, hbel⟩ := hrel
    have Heq := Lib.hid heq; clear heq
    have hM : N / 256 ^ k ≤ N := Nat.div_le_self _ _
    obtain ⟨M, hMe⟩ : ∃ M, M = N / 256 ^ k := ⟨_, rfl⟩
    rw [← hMe] at hM ⊢
    have HM := Lib.hid hMe; clear hMe
    by_cases hlt : k < n
    · have hcl := Lib.hid hown.len
      have hfz := hown.frozenAt (n - 1 - k)
      obtain ⟨y, hy⟩ : ∃ y, cur[n - 1 - k]? = some y := ⟨_, List.getElem?_eq_getElem (by rw [hcl.out]; omega)⟩
      have hcc := hown.cellAt hy
      clear hy
      go_wp2
      go_roundw
      case rel =>
        refine ⟨k + 1, cur.set (n - 1 - k) (UInt8.ofNat (N / 256 ^ k)), by omega, by go_num, ?_, ?_, ?_, ?_⟩
        · rw [← div_pow_succ, ← HM.out]; rfl
        · rw [u8c, HM.out]; exact hown.stored _ _
        · have e : n - k = n - (k + 1) + 1 := by omega
          have e2 : n - 1 - k = n - (k + 1) := by omega
          rw [e2]
          refine set_drop (by rw [← e]; exact Heq.out) (by rw [hcl.out]; omega) ?_
          rw [← e2]; exact laid_big_at _ _ _ hlt
        · exact hbel.setCell (Nat.le_refl _) _
      case measure => simp [intOf]; omega
    · have hkn : k = n := by omega
      have Hkn := Lib.hid hkn; clear hkn
      go_wp2
      go_ret
      refine ⟨_, rfl, ?_, hbel⟩
      have h := Heq.out
      rw [Hkn.out, Nat.sub_self, List.drop_zero, List.drop_zero] at h
      rw [← h]; exact hown

set_option maxHeartbeats 400000 in
theorem octs_put (N n : Nat) (l : Bool) (w : World) (h1 : 1 ≤ n) (hn : n ≤ 8) (hN : N < 18446744073709551616) :
    Calls Try.prog 8 #[.int .u64 N, .int .i64 n, .bool l] w fun e w' => ∃ v, e = .returned (.tuple #[v, .int .i64 0]) ∧ OB w' w.heap.size v n (laid n N l) ∧ Below w.heap.size w w' := by
  have hmk := mk_bytes n n (by omega) (by omega) (by omega)
  have hm0 : n ≤ maxLen := by simp only [maxLen]; omega
  cases l with
  | false =>
    go_enter Try.func8, Try.ntmps8
    go_wp2
    clear hmk
    go_loopw [0, 20] (fun m i wr => ∃ (k : Nat) (cur : List UInt8), k ≤ n ∧ i = .int .i64 k ∧ m = .int .u64 ((N / 256 ^ k : Nat) : Int) ∧ OB wr w.heap.size (.slice (some ⟨w.heap.size, 0, none⟩) n n) n cur ∧ cur.drop (n - k) = (laid n N false).drop (n - k) ∧ Below w.heap.size w wr) (fun _ i _ => n - (intOf i).toNat)
    case atStart => exact ⟨0, List.replicate n 0, Nat.zero_le _, by simp, by simp, OB.made _ _ _ _ (Nat.le_refl _) hm0 (Nat.le_refl _), by rw [List.drop_of_length_le (by simp), List.drop_of_length_le (by simp [laid_length])], (Below.refl _ _).alloc (Nat.le_refl _) _⟩
    case round =>
      obtain ⟨k, cur, hk, rfl, rfl, hown, heq, hbel⟩ := hrel
      have Heq := Lib.hid heq; clear heq
      have hM : N / 256 ^ k ≤ N := Nat.div_le_self _ _
      obtain ⟨M, hMe⟩ : ∃ M, M = N / 256 ^ k := ⟨_, rfl⟩
      rw [← hMe] at hM ⊢
      have HM := Lib.hid hMe; clear hMe
      by_cases hlt : k < n
      · have hcl := Lib.hid hown.len
        have hfz := hown.frozenAt (n - 1 - k)
        obtain ⟨y, hy⟩ : ∃ y, cur[n - 1 - k]? = some y := ⟨_, List.getElem?_eq_getElem (by rw [hcl.out]; omega)⟩
        have hcc := hown.cellAt hy
        clear hy
        go_wp2
        go_roundw
        case rel =>
          refine ⟨k + 1, cur.set (n - 1 - k) (UInt8.ofNat (N / 256 ^ k)), by omega, by go_num, ?_, ?_, ?_, ?_⟩
          · rw [← div_pow_succ, ← HM.out]; rfl
          · rw [u8c, HM.out]; exact hown.stored _ _
          · have e : n - k = n - (k + 1) + 1 := by omega
            have e2 : n - 1 - k = n - (k + 1) := by omega
            rw [e2]
            refine set_drop (by rw [← e]; exact Heq.out) (by rw [hcl.out]; omega) ?_
            rw [← e2]; exact laid_big_at _ _ _ hlt
          · exact hbel.setCell (Nat.le_refl _) _
        case measure => simp [intOf]; omega
      · have hkn : k = n := by omega
        have Hkn := Lib.hid hkn; clear hkn
        go_wp2
        go_ret2
        refine ⟨_, rfl, ?_, hbel⟩
        have h := Heq.out
        rw [Hkn.out, Nat.sub_self, List.drop_zero, List.drop_zero] at h
        rw [← h]; exact hown
  | true =>
    go_enter Try.func8, Try.ntmps8
    go_wp2
    clear hmk
    go_loopw [0, 20] (fun m i wr => ∃ (k : Nat) (cur : List UInt8), k ≤ n ∧ i = .int .i64 k ∧ m = .int .u64 ((N / 256 ^ k : Nat) : Int) ∧ OB wr w.heap.size (.slice (some ⟨w.heap.size, 0, none⟩) n n) n cur ∧ cur.take k = (laid n N true).take k ∧ Below w.heap.size w wr) (fun _ i _ => n - (intOf i).toNat)
    case atStart => exact ⟨0, List.replicate n 0, Nat.zero_le _, by simp, by simp, OB.made _ _ _ _ (Nat.le_refl _) hm0 (Nat.le_refl _), by simp, (Below.refl _ _).alloc (Nat.le_refl _) _⟩
    case round =>
      obtain ⟨k, cur, hk, rfl, rfl, hown, heq, hbel⟩ := hrel
      have Heq := Lib.hid heq; clear heq
      have hM : N / 256 ^ k ≤ N := Nat.div_le_self _ _
      obtain ⟨M, hMe⟩ : ∃ M, M = N / 256 ^ k := ⟨_, rfl⟩
      rw [← hMe] at hM ⊢
      have HM := Lib.hid hMe; clear hMe
      by_cases hlt : k < n
      · have hcl := Lib.hid hown.len
        have hfz := hown.frozenAt k
        obtain ⟨y, hy⟩ : ∃ y, cur[k]? = some y := ⟨_, List.getElem?_eq_getElem (by rw [hcl.out]; omega)⟩
        have hcc := hown.cellAt hy
        clear hy
        go_wp2
        go_roundw
        case rel =>
          refine ⟨k + 1, cur.set k (UInt8.ofNat (N / 256 ^ k)), by omega, by go_num, ?_, ?_, ?_, ?_⟩
          · rw [← div_pow_succ, ← HM.out]; rfl
          · rw [u8c, HM.out]; exact hown.stored _ _
          · exact set_take Heq.out (by rw [hcl.out]; omega) (laid_little_at _ _ _ hlt)
          · exact hbel.setCell (Nat.le_refl _) _
        case measure => simp [intOf]; omega
      · have hkn : k = n := by omega
        have Hkn := Lib.hid hkn; clear hkn
        go_wp2
        go_ret2
        refine ⟨_, rfl, ?_, hbel⟩
        have h := Heq.out
        rw [Hkn.out, List.take_of_length_le (by rw [hown.len]; omega), List.take_of_length_le (by rw [laid_length]; omega)] at h
        rw [← h]; exact hown

set_option maxHeartbeats 400000 in
theorem octs_put_no (N n : Int) (l : Bool) (w : World) (h : n < 1 ∨ 8 < n) :
    Calls Try.prog 8 #[.int .u64 N, .int .i64 n, .bool l] w fun e w' => e = .returned (.tuple #[.slice none 0 0, .int .i64 1]) ∧ w = w' := by
  rcases h with h | h
  · go_enter Try.func8, Try.ntmps8
    go_wp2
    go_ret2
    exact ⟨rfl, rfl⟩
  · go_enter Try.func8, Try.ntmps8
    go_wp2
    go_ret2
    exact ⟨rfl, rfl⟩

set_option maxHeartbeats 400000 in
theorem ref_num (A : Option Addr) (n c : Nat) (xs : List UInt8) (w : World) (hx : RB w A n xs) (hn : n ≤ 8) :
    Calls Try.prog 24 #[.slice A n c] w fun e w' => e = .returned (.int .u64 (nbe xs : Nat)) ∧ Qt w w' := by
  have lx := Lib.hid hx.len
  go_enter Try.func24, Try.ntmps24
  go_wp2
  go_loopw [3, 4] (fun m i wr => ∃ k : Nat, k ≤ n ∧ i = .int .i64 k ∧ m = .int .u64 (nbe (xs.take k) : Nat) ∧ Qt w wr) (fun _ i _ => n - (intOf i).toNat)
  case atStart => exact ⟨0, Nat.zero_le _, rfl, rfl, Qt.refl _⟩
  case round =>
    obtain ⟨k, hk, rfl, rfl, q, rfl⟩ := hrel
    have hlt1 := nbe_lt (xs.take k)
    rw [List.length_take, lx.out, Nat.min_eq_left hk] at hlt1
    obtain ⟨M, hMe⟩ : ∃ M, M = nbe (xs.take k) := ⟨_, rfl⟩
    rw [← hMe] at hlt1 ⊢
    have HM := Lib.hid hMe; clear hMe
    by_cases hlt : k < n
    · obtain ⟨ad, x, rfl, _, hxk, hxc, hx0, hx1⟩ := hx.at_ hlt
      have Hxk := Lib.hid hxk; clear hxk
      have hM : M < 72057594037927936 := Nat.lt_of_lt_of_le hlt1 (pow256_le (by omega))
      clear hlt1 hx
      go_wp2
      go_roundw
      case rel =>
        refine ⟨k + 1, by omega, by go_num, ?_, by first | exact Qt.d _ _ | exact Qt.dd _ _ _⟩
        rw [take_snoc Hxk.out, nbe_snoc, ← HM.out]; go_num
      case measure => simp [intOf]; omega
    · have hkn : k = n := by omega
      have Hkn := Lib.hid hkn; clear hkn hlt1
      go_wp2
      go_ret
      refine ⟨ret_int ?_, Qt.d _ _⟩
      rw [HM.out, List.take_of_length_le (by rw [lx.out, Hkn.out]; omega)]

theorem or_shl (M x k : Nat) (hM : M < 256 ^ k) (hx : x < 256) (hk : k ≤ 7) : bits .or .u64 (M : Int) (IntKind.u64.wrap ((x : Int) * 2 ^ (8 * k))) = ((M + x * 256 ^ k : Nat) : Int) := by
  have e : (2 : Int) ^ (8 * k) = ((256 ^ k : Nat) : Int) := by rw [Int.pow_mul]; simp
  have hp := pow256_le hk
  have hxp : x * 256 ^ k ≤ 255 * 256 ^ k := Nat.mul_le_mul_right _ (by omega)
  rw [e, ← Int.natCast_mul, IntKind.wrap_u64, Int.emod_eq_of_lt (by omega) (by omega), u64_or_nat _ _ (by omega) (by omega), or_add hM]
theorem nle_take_snoc {xs : List UInt8} {k : Nat} {b : UInt8} (h : xs[k]? = some b) : nle (xs.take (k + 1)) = nle (xs.take k) + b.toNat * 256 ^ k := by
  have hk := (List.getElem?_eq_some_iff.1 h).1
  rw [take_snoc h, nle_snoc, List.length_take, Nat.min_eq_left (by omega)]
theorem nle_take_lt (xs : List UInt8) (k : Nat) (h : k ≤ xs.length) : nle (xs.take k) < 256 ^ k := by
  have hl := nle_lt (xs.take k)
  rwa [List.length_take, Nat.min_eq_left h] at hl

set_option maxHeartbeats 400000 in
theorem octs_get (A : Option Addr) (n c : Nat) (xs : List UInt8) (l : Bool) (w : World) (hx : RB w A n xs) (h1 : 1 ≤ n) (hn : n ≤ 8) :
    Calls Try.prog 10 #[.slice A n c, .bool l] w fun e w' => e = .returned (.tuple #[.int .u64 (num xs l : Nat), .int .i64 0]) ∧ Qt w w' := by
  have lx := Lib.hid hx.len
  cases l with
  | true =>
    go_enter Try.func10, Try.ntmps10
    go_wp2
    go_loopw [6, 18] (fun m i wr => ∃ k : Nat, k ≤ n ∧ i = .int .i64 k ∧ m = .int .u64 (nle (xs.take k) : Nat) ∧ Qt w wr) (fun _ i _ => n - (intOf i).toNat)
    case atStart => exact ⟨0, Nat.zero_le _, rfl, rfl, Qt.refl _⟩
    case round =>
      obtain ⟨k, hk, rfl, rfl, q, rfl⟩ := hrel
      have HL := Lib.hid (nle_take_lt xs k (by rw [lx.out]; exact hk))
      obtain ⟨M, hMe⟩ : ∃ M, M = nle (xs.take k) := ⟨_, rfl⟩
      rw [← hMe] at HL ⊢
      have HM := Lib.hid hMe; clear hMe
      by_cases hlt : k < n
      · obtain ⟨ad, x, rfl, _, hxk, hxc, hx0, hx1⟩ := hx.at_ hlt
        have Hxk := Lib.hid hxk; clear hxk
        clear hx
        go_wp2
        go_roundw
        case rel =>
          refine ⟨k + 1, by omega, by go_num, ?_, by first | exact Qt.d _ _ | exact Qt.dd _ _ _⟩
          rw [or_shl _ _ _ HL.out x.toNat_lt (by omega), nle_take_snoc Hxk.out, HM.out]
        case measure => simp [intOf]; omega
      · have hkn : k = n := by omega
        have Hkn := Lib.hid hkn; clear hkn
        go_wp2
        go_ret2
        refine ⟨?_, Qt.d _ _⟩
        rw [HM.out, List.take_of_length_le (by rw [lx.out, Hkn.out]; omega)]; rfl
  | false =>
    go_enter Try.func10, Try.ntmps10
    go_wp2
    go_loopw [6, 18] (fun m i wr => ∃ k : Nat, k ≤ n ∧ i = .int .i64 k ∧ m = .int .u64 (nle (xs.reverse.take k) : Nat) ∧ Qt w wr) (fun _ i _ => n - (intOf i).toNat)
    case atStart => exact ⟨0, Nat.zero_le _, rfl, rfl, Qt.refl _⟩
    case round =>
      obtain ⟨k, hk, rfl, rfl, q, rfl⟩ := hrel
      have HL := Lib.hid (nle_take_lt xs.reverse k (by rw [List.length_reverse, lx.out]; exact hk))
      obtain ⟨M, hMe⟩ : ∃ M, M = nle (xs.reverse.take k) := ⟨_, rfl⟩
      rw [← hMe] at HL ⊢
      have HM := Lib.hid hMe; clear hMe
      by_cases hlt : k < n
      · obtain ⟨ad, x, rfl, _, hxk, hxc, hx0, hx1⟩ := hx.at_ (k := n - 1 - k) (by omega)
        have hxr : xs.reverse[k]? = some x := by rw [List.getElem?_reverse (by rw [lx.out]; omega), lx.out]; exact hxk
        have Hxk := Lib.hid hxr; clear hxk hxr
        clear hx
        go_wp2
        go_roundw
        case rel =>
          refine ⟨k + 1, by omega, by go_num, ?_, by first | exact Qt.d _ _ | exact Qt.dd _ _ _⟩
          rw [or_shl _ _ _ HL.out x.toNat_lt (by omega), nle_take_snoc Hxk.out, HM.out]
        case measure => simp [intOf]; omega
      · have hkn : k = n := by omega
        have Hkn := Lib.hid hkn; clear hkn
        go_wp2
        go_ret2
        refine ⟨?_, Qt.d _ _⟩
        rw [HM.out, List.take_of_length_le (by rw [List.length_reverse, lx.out, Hkn.out]; omega)]; rfl

set_option maxHeartbeats 400000 in
theorem octs_get_no (A : Option Addr) (n c : Nat) (l : Bool) (w : World) (h : n < 1 ∨ 8 < n) (hn : n ≤ maxLen) :
    Calls Try.prog 10 #[.slice A n c, .bool l] w fun e w' => e = .returned (.tuple #[.int .u64 0, .int .i64 1]) ∧ w = w' := by
  unfold maxLen at hn
  rcases h with h | h
  · go_enter Try.func10, Try.ntmps10
    go_wp2
    go_ret2
    exact ⟨rfl, rfl⟩
  · go_enter Try.func10, Try.ntmps10
    go_wp2
    go_ret2
    exact ⟨rfl, rfl⟩

set_option maxHeartbeats 400000 in
theorem ref_put (N n : Nat) (l : Bool) (w : World) (h1 : 1 ≤ n) (hn : n ≤ 8) (hN : N < 18446744073709551616) :
    Calls Try.prog 9 #[.int .u64 N, .int .i64 n, .bool l] w fun e w' => ∃ v, e = .returned (.tuple #[v, .int .i64 0]) ∧ OB w' w.heap.size v n (laid n N l) ∧ Below w.heap.size w w' := by
  cases l with
  | false =>
    go_enter Try.func9, Try.ntmps9
    go_wp2_with fail
    refine (ref_big N n _ hn hN).mono ?_
    rintro e w1 ⟨v, rfl, ho, hb⟩
    go_wp2
    go_ret2
    exact ⟨v, rfl, ho, hb⟩
  | true =>
    go_enter Try.func9, Try.ntmps9
    go_wp2_with fail
    refine (ref_big N n _ hn hN).mono ?_
    rintro e w1 ⟨v, rfl, ho, hb⟩
    obtain ⟨A, c, rfl, hnc, hcm, hr⟩ := ho.shape
    go_wp2_with fail
    refine (ref_turned A n c _ _ hr (by omega)).mono ?_
    rintro e w2 ⟨v2, rfl, ho2, hb2⟩
    go_wp2
    go_ret2
    refine ⟨v2, rfl, ?_, hb.trans (hb2.mono hb.size)⟩
    have e : (laid n N false).reverse = laid n N true := by simp [laid]
    rw [← e]; exact ho2.more hb.size

set_option maxHeartbeats 400000 in
theorem ref_put_no (N n : Int) (l : Bool) (w : World) (h : n < 1 ∨ 8 < n) :
    Calls Try.prog 9 #[.int .u64 N, .int .i64 n, .bool l] w fun e w' => e = .returned (.tuple #[.slice none 0 0, .int .i64 1]) ∧ w = w' := by
  rcases h with h | h
  · go_enter Try.func9, Try.ntmps9
    go_wp2
    go_ret2
    exact ⟨rfl, rfl⟩
  · go_enter Try.func9, Try.ntmps9
    go_wp2
    go_ret2
    exact ⟨rfl, rfl⟩

set_option maxHeartbeats 400000 in
theorem ref_get (A : Option Addr) (n c : Nat) (xs : List UInt8) (l : Bool) (w : World) (hx : RB w A n xs) (h1 : 1 ≤ n) (hn : n ≤ 8) :
    Calls Try.prog 11 #[.slice A n c, .bool l] w fun e w' => e = .returned (.tuple #[.int .u64 (num xs l : Nat), .int .i64 0]) ∧ Below w.heap.size w w' := by
  have e1 : num xs false = nbe xs := by rw [nbe_eq]; rfl
  have e2 : num xs true = nbe xs.reverse := by rw [nbe_eq]; simp [num]
  have E1 := Lib.hid e1; clear e1
  have E2 := Lib.hid e2; clear e2
  cases l with
  | false =>
    go_enter Try.func11, Try.ntmps11
    go_wp2_with fail
    refine (ref_num A n c xs _ hx hn).mono ?_
    rintro e w1 ⟨rfl, hq⟩
    go_wp2
    go_ret2
    exact ⟨ret2 (int_eq (by rw [E1.out])) rfl, hq.below _⟩
  | true =>
    go_enter Try.func11, Try.ntmps11
    go_wp2_with fail
    refine (ref_turned A n c xs _ hx (by omega)).mono ?_
    rintro e w1 ⟨v, rfl, ho, hb⟩
    obtain ⟨A1, c1, rfl, hnc, hcm, hr⟩ := ho.shape
    go_wp2_with fail
    refine (ref_num A1 n c1 _ _ hr hn).mono ?_
    rintro e w2 ⟨rfl, hq⟩
    go_wp2
    go_ret2
    exact ⟨ret2 (int_eq (by rw [E2.out])) rfl, below_qt hb hq⟩

set_option maxHeartbeats 400000 in
theorem ref_get_no (A : Option Addr) (n c : Nat) (l : Bool) (w : World) (h : n < 1 ∨ 8 < n) (hn : n ≤ maxLen) :
    Calls Try.prog 11 #[.slice A n c, .bool l] w fun e w' => e = .returned (.tuple #[.int .u64 0, .int .i64 1]) ∧ w = w' := by
  unfold maxLen at hn
  rcases h with h | h
  · go_enter Try.func11, Try.ntmps11
    go_wp2
    go_ret2
    exact ⟨rfl, rfl⟩
  · go_enter Try.func11, Try.ntmps11
    go_wp2
    go_ret2
    exact ⟨rfl, rfl⟩

/-! ### What Put and Get hand back, whatever comes in -/
def InW (n : Int) : Prop := 1 ≤ n ∧ n ≤ 8
instance (n : Int) : Decidable (InW n) := by unfold InW; infer_instance
def putErr (n : Int) : Int := if InW n then 0 else 1
def putBytes (N : Nat) (n : Int) (l : Bool) : List UInt8 := if InW n then laid n.toNat N l else []
/-- A slice of bytes with an error's number is handed back; nothing that was there has turned. -/
def RetBE (w : World) (bs : List UInt8) (err : Int) (e : Ending) (w' : World) : Prop :=
  ∃ A n c, e = .returned (.tuple #[.slice A n c, .int .i64 err]) ∧ n ≤ c ∧ c ≤ maxLen ∧ RB w' A n bs ∧ Below w.heap.size w w'
theorem RetBE.of {w w' : World} {v : Value} {n : Nat} {bs : List UInt8} {base : Nat} {err : Int} (ho : OB w' base v n bs) (hb : Below w.heap.size w w') : RetBE w bs err (.returned (.tuple #[v, .int .i64 err])) w' := by
  obtain ⟨A, c, rfl, h1, h2, h3⟩ := ho.shape
  exact ⟨A, n, c, rfl, h1, h2, h3, hb⟩
theorem RetBE.nil (w : World) (err : Int) : RetBE w [] err (.returned (.tuple #[.slice none 0 0, .int .i64 err])) w :=
  ⟨none, 0, 0, rfl, Nat.le_refl _, by simp [maxLen], RB.nil _ _, Below.refl _ _⟩
theorem octs_put_all (N : Nat) (n : Int) (l : Bool) (w : World) (hN : N < 18446744073709551616) :
    Calls Try.prog 8 #[.int .u64 N, .int .i64 n, .bool l] w (RetBE w (putBytes N n l) (putErr n)) := by
  by_cases h : InW n
  · obtain ⟨m, rfl⟩ := Int.eq_ofNat_of_zero_le (show 0 ≤ n by unfold InW at h; omega)
    simp only [putBytes, putErr, if_pos h, Int.toNat_natCast]
    exact (octs_put N m l w (by unfold InW at h; omega) (by unfold InW at h; omega) hN).mono fun e w' ⟨v, he, ho, hb⟩ => by subst he; exact RetBE.of ho hb
  · simp only [putBytes, putErr, if_neg h]
    exact (octs_put_no N n l w (by unfold InW at h; omega)).mono fun e w' ⟨he, hw⟩ => by subst he hw; exact RetBE.nil _ _
theorem ref_put_all (N : Nat) (n : Int) (l : Bool) (w : World) (hN : N < 18446744073709551616) :
    Calls Try.prog 9 #[.int .u64 N, .int .i64 n, .bool l] w (RetBE w (putBytes N n l) (putErr n)) := by
  by_cases h : InW n
  · obtain ⟨m, rfl⟩ := Int.eq_ofNat_of_zero_le (show 0 ≤ n by unfold InW at h; omega)
    simp only [putBytes, putErr, if_pos h, Int.toNat_natCast]
    exact (ref_put N m l w (by unfold InW at h; omega) (by unfold InW at h; omega) hN).mono fun e w' ⟨v, he, ho, hb⟩ => by subst he; exact RetBE.of ho hb
  · simp only [putBytes, putErr, if_neg h]
    exact (ref_put_no N n l w (by unfold InW at h; omega)).mono fun e w' ⟨he, hw⟩ => by subst he hw; exact RetBE.nil _ _
def getNum (xs : List UInt8) (l : Bool) : Nat := if InW xs.length then num xs l else 0
theorem octs_get_all (A : Option Addr) (n c : Nat) (xs : List UInt8) (l : Bool) (w : World) (hx : RB w A n xs) (hn : n ≤ maxLen) :
    Calls Try.prog 10 #[.slice A n c, .bool l] w fun e w' => e = .returned (.tuple #[.int .u64 (getNum xs l : Nat), .int .i64 (putErr n)]) ∧ Below w.heap.size w w' := by
  have hl := hx.len
  by_cases h : InW n
  · simp only [getNum, putErr, if_pos h, hl]
    exact (octs_get A n c xs l w hx (by unfold InW at h; omega) (by unfold InW at h; omega)).mono fun e w' ⟨he, hq⟩ => ⟨he, hq.below _⟩
  · simp only [getNum, putErr, if_neg h, hl]
    exact (octs_get_no A n c l w (by unfold InW at h; omega) hn).mono fun e w' ⟨he, hq⟩ => ⟨he, by subst hq; exact Below.refl _ _⟩
theorem ref_get_all (A : Option Addr) (n c : Nat) (xs : List UInt8) (l : Bool) (w : World) (hx : RB w A n xs) (hn : n ≤ maxLen) :
    Calls Try.prog 11 #[.slice A n c, .bool l] w fun e w' => e = .returned (.tuple #[.int .u64 (getNum xs l : Nat), .int .i64 (putErr n)]) ∧ Below w.heap.size w w' := by
  have hl := hx.len
  by_cases h : InW n
  · simp only [getNum, putErr, if_pos h, hl]
    exact (ref_get A n c xs l w hx (by unfold InW at h; omega) (by unfold InW at h; omega)).mono fun e w' ⟨he, hq⟩ => ⟨he, hq⟩
  · simp only [getNum, putErr, if_neg h, hl]
    exact (ref_get_no A n c l w (by unfold InW at h; omega) hn).mono fun e w' ⟨he, hq⟩ => ⟨he, by subst hq; exact Below.refl _ _⟩
end Go.Proofs.Ytneapgelfknlgaa
