/-
  The walk of the law KeysSlices: it returns true and turns nothing that was there; for texts of at most 2^47 bytes, every number, slice and class.
-/
import Derived.Test.YtnlmeeijellfaaaWSlices
namespace Go.Proofs.Ytnlmeeijellfaaa
open Go.RowKit
open Math
set_option linter.unusedVariables false

theorem unslice_is (n c : Nat) (l : List UInt8) (w : World) (hc1 : 1 ≤ c) (hc2 : c ≤ 9) (hn : n < 18446744073709551616) (hl : ubs n (min c 8) = l) :
    Calls Try.prog 18 #[.int .u64 (n : Int), .int .i64 (c : Int)] w fun e w' => e = .returned (.string ⟨l.toArray⟩) ∧ Below w.heap.size w w' := by
  subst hl; exact unslice_yes n c w hc1 hc2 hn

set_option maxHeartbeats 800000 in
theorem slices_1_no (s : ByteArray) (hs : s.size ≤ 140737488355328) (i : Nat) (hi : 8 * i < s.size) (n c : Int) (hc : c < 1 ∨ 9 < c) (w : World) :
    Calls Try.prog 5 #[.string s, .int .i64 (i : Int), .int .u64 n, .int .i64 c] w fun e w' => e = .returned (.bool true) ∧ Below w.heap.size w w' := by
  go_enter Try.func5, Try.ntmps5
  go_wp2_with fail
  refine (slice_yes _ _ _ hs hi).mono ?_
  rintro e w' ⟨rfl, rfl⟩
  go_wp2_with fail
  refine (refslice_yes _ _ _ hs hi).mono ?_
  rintro e w' ⟨rfl, rfl⟩
  go_wp2_with fail
  refine (awake_any _).mono ?_
  rintro e w' ⟨rfl, rfl⟩
  go_wp2_with fail
  refine (unslice_no _ _ _ hc).mono ?_
  rintro e w' ⟨rfl, rfl⟩
  go_wp2_with fail
  refine (refunslice_no _ _ _ hc).mono ?_
  rintro e w' ⟨rfl, rfl⟩
  go_wp2_with fail
  go_ret
  exact ⟨rfl, Below.refl _ _⟩

set_option maxHeartbeats 800000 in
theorem slices_1_small (s : ByteArray) (hs : s.size ≤ 140737488355328) (i : Nat) (hi : 8 * i < s.size) (n c : Nat) (hn : n < 18446744073709551616) (hc1 : 1 ≤ c) (hc2 : c ≤ 8) (hm : Hid (ubs n (min c 8) = ubs n c)) (w : World) :
    Calls Try.prog 5 #[.string s, .int .i64 (i : Int), .int .u64 (n : Int), .int .i64 (c : Int)] w fun e w' => e = .returned (.bool true) ∧ Below w.heap.size w w' := by
  go_enter Try.func5, Try.ntmps5
  go_wp2_with fail
  refine (slice_yes _ _ _ hs hi).mono ?_
  rintro e w' ⟨rfl, rfl⟩
  go_wp2_with fail
  refine (refslice_yes _ _ _ hs hi).mono ?_
  rintro e w' ⟨rfl, rfl⟩
  go_wp2_with fail
  refine (awake_any _).mono ?_
  rintro e w' ⟨rfl, rfl⟩
  go_wp2_with fail
  refine (unslice_is _ _ _ _ hc1 (by omega) hn hm.out).mono ?_
  rintro e w1 ⟨rfl, hb1⟩
  go_wp2_with fail
  refine (refunslice_small _ _ _ hc1 hc2 hn).mono ?_
  rintro e w2 ⟨rfl, hb2⟩
  go_wp2_with fail
  go_ret
  exact ⟨rfl, hb1.trans (hb2.mono hb1.size)⟩

set_option maxHeartbeats 800000 in
theorem slices_1_nine (s : ByteArray) (hs : s.size ≤ 140737488355328) (i : Nat) (hi : 8 * i < s.size) (n : Nat) (hn : n < 18446744073709551616) (w : World) :
    Calls Try.prog 5 #[.string s, .int .i64 (i : Int), .int .u64 (n : Int), .int .i64 9] w fun e w' => e = .returned (.bool true) ∧ Below w.heap.size w w' := by
  go_enter Try.func5, Try.ntmps5
  go_wp2_with fail
  refine (slice_yes _ _ _ hs hi).mono ?_
  rintro e w' ⟨rfl, rfl⟩
  go_wp2_with fail
  refine (refslice_yes _ _ _ hs hi).mono ?_
  rintro e w' ⟨rfl, rfl⟩
  go_wp2_with fail
  refine (awake_any _).mono ?_
  rintro e w' ⟨rfl, rfl⟩
  go_wp2_with fail
  refine (unslice_is _ 9 _ _ (by omega) (by omega) hn rfl).mono ?_
  rintro e w1 ⟨rfl, hb1⟩
  go_wp2_with fail
  refine (refunslice_nine _ _ hn).mono ?_
  rintro e w2 ⟨rfl, hb2⟩
  go_wp2_with fail
  go_ret
  exact ⟨rfl, hb1.trans (hb2.mono hb1.size)⟩

set_option maxHeartbeats 800000 in
theorem slices_0_no (s : ByteArray) (hs : s.size ≤ 140737488355328) (i : Int) (hi : i < 0 ∨ (s.size : Int) ≤ 8 * i) (n c : Int) (hc : c < 1 ∨ 9 < c) (w : World) :
    Calls Try.prog 5 #[.string s, .int .i64 i, .int .u64 n, .int .i64 c] w fun e w' => e = .returned (.bool true) ∧ Below w.heap.size w w' := by
  go_enter Try.func5, Try.ntmps5
  go_wp2_with fail
  refine (slice_no _ _ _ hs hi).mono ?_
  rintro e w' ⟨rfl, rfl⟩
  go_wp2_with fail
  refine (refslice_no _ _ _ hs hi).mono ?_
  rintro e w' ⟨rfl, rfl⟩
  go_wp2_with fail
  refine (awake_any _).mono ?_
  rintro e w' ⟨rfl, rfl⟩
  go_wp2_with fail
  refine (unslice_no _ _ _ hc).mono ?_
  rintro e w' ⟨rfl, rfl⟩
  go_wp2_with fail
  refine (refunslice_no _ _ _ hc).mono ?_
  rintro e w' ⟨rfl, rfl⟩
  go_wp2_with fail
  go_ret
  exact ⟨rfl, Below.refl _ _⟩

set_option maxHeartbeats 800000 in
theorem slices_0_small (s : ByteArray) (hs : s.size ≤ 140737488355328) (i : Int) (hi : i < 0 ∨ (s.size : Int) ≤ 8 * i) (n c : Nat) (hn : n < 18446744073709551616) (hc1 : 1 ≤ c) (hc2 : c ≤ 8) (hm : Hid (ubs n (min c 8) = ubs n c)) (w : World) :
    Calls Try.prog 5 #[.string s, .int .i64 i, .int .u64 (n : Int), .int .i64 (c : Int)] w fun e w' => e = .returned (.bool true) ∧ Below w.heap.size w w' := by
  go_enter Try.func5, Try.ntmps5
  go_wp2_with fail
  refine (slice_no _ _ _ hs hi).mono ?_
  rintro e w' ⟨rfl, rfl⟩
  go_wp2_with fail
  refine (refslice_no _ _ _ hs hi).mono ?_
  rintro e w' ⟨rfl, rfl⟩
  go_wp2_with fail
  refine (awake_any _).mono ?_
  rintro e w' ⟨rfl, rfl⟩
  go_wp2_with fail
  refine (unslice_is _ _ _ _ hc1 (by omega) hn hm.out).mono ?_
  rintro e w1 ⟨rfl, hb1⟩
  go_wp2_with fail
  refine (refunslice_small _ _ _ hc1 hc2 hn).mono ?_
  rintro e w2 ⟨rfl, hb2⟩
  go_wp2_with fail
  go_ret
  exact ⟨rfl, hb1.trans (hb2.mono hb1.size)⟩

set_option maxHeartbeats 800000 in
theorem slices_0_nine (s : ByteArray) (hs : s.size ≤ 140737488355328) (i : Int) (hi : i < 0 ∨ (s.size : Int) ≤ 8 * i) (n : Nat) (hn : n < 18446744073709551616) (w : World) :
    Calls Try.prog 5 #[.string s, .int .i64 i, .int .u64 (n : Int), .int .i64 9] w fun e w' => e = .returned (.bool true) ∧ Below w.heap.size w w' := by
  go_enter Try.func5, Try.ntmps5
  go_wp2_with fail
  refine (slice_no _ _ _ hs hi).mono ?_
  rintro e w' ⟨rfl, rfl⟩
  go_wp2_with fail
  refine (refslice_no _ _ _ hs hi).mono ?_
  rintro e w' ⟨rfl, rfl⟩
  go_wp2_with fail
  refine (awake_any _).mono ?_
  rintro e w' ⟨rfl, rfl⟩
  go_wp2_with fail
  refine (unslice_is _ 9 _ _ (by omega) (by omega) hn rfl).mono ?_
  rintro e w1 ⟨rfl, hb1⟩
  go_wp2_with fail
  refine (refunslice_nine _ _ hn).mono ?_
  rintro e w2 ⟨rfl, hb2⟩
  go_wp2_with fail
  go_ret
  exact ⟨rfl, hb1.trans (hb2.mono hb1.size)⟩

theorem slices_any (s : ByteArray) (hs : s.size ≤ 140737488355328) (i n c : Int) (hn0 : 0 ≤ n) (hn1 : n < 18446744073709551616) (w : World) :
    Calls Try.prog 5 #[.string s, .int .i64 i, .int .u64 n, .int .i64 c] w fun e w' => e = .returned (.bool true) ∧ Below w.heap.size w w' := by
  by_cases hi : i < 0 ∨ (s.size : Int) ≤ 8 * i
  · by_cases hc : c < 1 ∨ 9 < c
    · exact slices_0_no s hs i hi n c hc w
    · obtain ⟨m, rfl⟩ := Int.eq_ofNat_of_zero_le hn0
      by_cases h9 : c = 9
      · subst h9; exact slices_0_nine s hs i hi m (by omega) w
      · obtain ⟨d, rfl⟩ := Int.eq_ofNat_of_zero_le (show 0 ≤ c by omega)
        exact slices_0_small s hs i hi m d (by omega) (by omega) (by omega) (Lib.hid (by rw [Nat.min_eq_left (by omega)])) w
  · obtain ⟨k, rfl⟩ := Int.eq_ofNat_of_zero_le (show 0 ≤ i by omega)
    by_cases hc : c < 1 ∨ 9 < c
    · exact slices_1_no s hs k (by omega) n c hc w
    · obtain ⟨m, rfl⟩ := Int.eq_ofNat_of_zero_le hn0
      by_cases h9 : c = 9
      · subst h9; exact slices_1_nine s hs k (by omega) m (by omega) w
      · obtain ⟨d, rfl⟩ := Int.eq_ofNat_of_zero_le (show 0 ≤ c by omega)
        exact slices_1_small s hs k (by omega) m d (by omega) (by omega) (by omega) (Lib.hid (by rw [Nat.min_eq_left (by omega)])) w
end Go.Proofs.Ytnlmeeijellfaaa

