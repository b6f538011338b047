/-
  The walk of the law KeysNext: it returns true and turns nothing that was there; for texts of any size that a string may have.
-/
import Derived.Test.YtnlmeeijellfaaaWalksB
namespace Go.Proofs.Ytnlmeeijellfaaa
open Go.RowKit
open Math
set_option linter.unusedVariables false

theorem apdata (a : ByteArray) : (a ++ ⟨#[0]⟩ : ByteArray).data.toList = a.data.toList ++ [0] := by simp [ByteArray.data_append]

theorem common_is (a b : ByteArray) (c : Nat) (h : com a.data.toList b.data.toList = c) (w : World) (ha : a.size ≤ 140737488355328) (hb : b.size ≤ 140737488355328) :
    Calls Try.prog 13 #[.string a, .string b] w fun e w' => e = .returned (.int .i64 (c : Int)) ∧ ∃ n, w' = w.drewN n := by
  subst h; exact common_any a b w ha hb

set_option maxHeartbeats 1000000 in
theorem next_small (a0 : ByteArray) (a1 : ByteArray) (h0 : a0.size ≤ 2000) (h1 : a1.size ≤ 2000) (p q r : Int) (w : World)
    (hp : Hid (cmp a0.data.toList a1.data.toList = p)) (hq : Hid (cmp a1.data.toList a0.data.toList = q)) (hr : Hid (cmp a1.data.toList (a0 ++ ⟨#[0]⟩ : ByteArray).data.toList = r))
    (hs : Hid (cmp (a0 ++ ⟨#[0]⟩ : ByteArray).data.toList (a1 ++ ⟨#[0]⟩ : ByteArray).data.toList = p))
    (hx : Hid (cmp a0.data.toList (a0 ++ ⟨#[0]⟩ : ByteArray).data.toList = -1)) (hcom : Hid (com a0.data.toList (a0 ++ ⟨#[0]⟩ : ByteArray).data.toList = a0.size))
    (hpqr : (p = -1 ∧ q = 1 ∧ (r = 0 ∨ r = 1)) ∨ (p = 0 ∧ q = 0 ∧ r = -1) ∨ (p = 1 ∧ q = -1 ∧ r = -1)) :
    Calls Try.prog 9 #[.string a0, .string a1] w fun e w' => e = .returned (.bool true) ∧ Below w.heap.size w w' := by
  rcases hpqr with ⟨rfl, rfl, rfl | rfl⟩ | ⟨rfl, rfl, rfl⟩ | ⟨rfl, rfl, rfl⟩
  · go_enter Try.func9, Try.ntmps9
    go_wp2_with fail
    refine (awake_any _).mono ?_
    rintro e w' ⟨rfl, rfl⟩
    go_wp2_with fail
    refine (after_any _ _ (by omega)).mono ?_
    rintro e w' ⟨rfl, rfl⟩
    go_wp2_with fail
    refine (compare_is _ _ _ hx.out _).mono ?_
    rintro e w' ⟨rfl, rfl⟩
    go_wp2_with fail
    refine (common_is _ _ _ hcom.out _ (by omega) (by rw [ByteArray.size_append', show (⟨#[0]⟩ : ByteArray).size = 1 from rfl]; omega)).mono ?_
    rintro e w' ⟨rfl, n, rfl⟩
    go_wp2_with fail
    refine (compare_is _ _ _ hp.out _).mono ?_
    rintro e w' ⟨rfl, rfl⟩
    go_wp2_with fail
    refine (compare_is _ _ _ hr.out _).mono ?_
    rintro e w' ⟨rfl, rfl⟩
    go_wp2_with fail
    refine (compare_is _ _ _ hp.out _).mono ?_
    rintro e w' ⟨rfl, rfl⟩
    go_wp2_with fail
    refine (after_any _ _ (by omega)).mono ?_
    rintro e w' ⟨rfl, rfl⟩
    go_wp2_with fail
    refine (compare_is _ _ _ hs.out _).mono ?_
    rintro e w' ⟨rfl, rfl⟩
    go_wp2_with fail
    refine (compare_is _ _ _ hq.out _).mono ?_
    rintro e w' ⟨rfl, rfl⟩
    go_wp2_with fail
    refine (compare_is _ _ _ hr.out _).mono ?_
    rintro e w' ⟨rfl, rfl⟩
    go_wp2_with fail
    go_ret
    exact ⟨rfl, below_drewN (Below.refl _ _) _⟩
  · go_enter Try.func9, Try.ntmps9
    go_wp2_with fail
    refine (awake_any _).mono ?_
    rintro e w' ⟨rfl, rfl⟩
    go_wp2_with fail
    refine (after_any _ _ (by omega)).mono ?_
    rintro e w' ⟨rfl, rfl⟩
    go_wp2_with fail
    refine (compare_is _ _ _ hx.out _).mono ?_
    rintro e w' ⟨rfl, rfl⟩
    go_wp2_with fail
    refine (common_is _ _ _ hcom.out _ (by omega) (by rw [ByteArray.size_append', show (⟨#[0]⟩ : ByteArray).size = 1 from rfl]; omega)).mono ?_
    rintro e w' ⟨rfl, n, rfl⟩
    go_wp2_with fail
    refine (compare_is _ _ _ hp.out _).mono ?_
    rintro e w' ⟨rfl, rfl⟩
    go_wp2_with fail
    refine (compare_is _ _ _ hr.out _).mono ?_
    rintro e w' ⟨rfl, rfl⟩
    go_wp2_with fail
    refine (compare_is _ _ _ hp.out _).mono ?_
    rintro e w' ⟨rfl, rfl⟩
    go_wp2_with fail
    refine (after_any _ _ (by omega)).mono ?_
    rintro e w' ⟨rfl, rfl⟩
    go_wp2_with fail
    refine (compare_is _ _ _ hs.out _).mono ?_
    rintro e w' ⟨rfl, rfl⟩
    go_wp2_with fail
    refine (compare_is _ _ _ hq.out _).mono ?_
    rintro e w' ⟨rfl, rfl⟩
    go_wp2_with fail
    refine (compare_is _ _ _ hr.out _).mono ?_
    rintro e w' ⟨rfl, rfl⟩
    go_wp2_with fail
    go_ret
    exact ⟨rfl, below_drewN (Below.refl _ _) _⟩
  · go_enter Try.func9, Try.ntmps9
    go_wp2_with fail
    refine (awake_any _).mono ?_
    rintro e w' ⟨rfl, rfl⟩
    go_wp2_with fail
    refine (after_any _ _ (by omega)).mono ?_
    rintro e w' ⟨rfl, rfl⟩
    go_wp2_with fail
    refine (compare_is _ _ _ hx.out _).mono ?_
    rintro e w' ⟨rfl, rfl⟩
    go_wp2_with fail
    refine (common_is _ _ _ hcom.out _ (by omega) (by rw [ByteArray.size_append', show (⟨#[0]⟩ : ByteArray).size = 1 from rfl]; omega)).mono ?_
    rintro e w' ⟨rfl, n, rfl⟩
    go_wp2_with fail
    refine (compare_is _ _ _ hp.out _).mono ?_
    rintro e w' ⟨rfl, rfl⟩
    go_wp2_with fail
    refine (compare_is _ _ _ hp.out _).mono ?_
    rintro e w' ⟨rfl, rfl⟩
    go_wp2_with fail
    refine (after_any _ _ (by omega)).mono ?_
    rintro e w' ⟨rfl, rfl⟩
    go_wp2_with fail
    refine (compare_is _ _ _ hs.out _).mono ?_
    rintro e w' ⟨rfl, rfl⟩
    go_wp2_with fail
    refine (compare_is _ _ _ hq.out _).mono ?_
    rintro e w' ⟨rfl, rfl⟩
    go_wp2_with fail
    refine (compare_is _ _ _ hr.out _).mono ?_
    rintro e w' ⟨rfl, rfl⟩
    go_wp2_with fail
    go_ret
    exact ⟨rfl, below_drewN (Below.refl _ _) _⟩
  · go_enter Try.func9, Try.ntmps9
    go_wp2_with fail
    refine (awake_any _).mono ?_
    rintro e w' ⟨rfl, rfl⟩
    go_wp2_with fail
    refine (after_any _ _ (by omega)).mono ?_
    rintro e w' ⟨rfl, rfl⟩
    go_wp2_with fail
    refine (compare_is _ _ _ hx.out _).mono ?_
    rintro e w' ⟨rfl, rfl⟩
    go_wp2_with fail
    refine (common_is _ _ _ hcom.out _ (by omega) (by rw [ByteArray.size_append', show (⟨#[0]⟩ : ByteArray).size = 1 from rfl]; omega)).mono ?_
    rintro e w' ⟨rfl, n, rfl⟩
    go_wp2_with fail
    refine (compare_is _ _ _ hp.out _).mono ?_
    rintro e w' ⟨rfl, rfl⟩
    go_wp2_with fail
    refine (compare_is _ _ _ hp.out _).mono ?_
    rintro e w' ⟨rfl, rfl⟩
    go_wp2_with fail
    refine (after_any _ _ (by omega)).mono ?_
    rintro e w' ⟨rfl, rfl⟩
    go_wp2_with fail
    refine (compare_is _ _ _ hs.out _).mono ?_
    rintro e w' ⟨rfl, rfl⟩
    go_wp2_with fail
    refine (compare_is _ _ _ hq.out _).mono ?_
    rintro e w' ⟨rfl, rfl⟩
    go_wp2_with fail
    refine (compare_is _ _ _ hr.out _).mono ?_
    rintro e w' ⟨rfl, rfl⟩
    go_wp2_with fail
    go_ret
    exact ⟨rfl, below_drewN (Below.refl _ _) _⟩

theorem next_big (a0 : ByteArray) (a1 : ByteArray) (h : 2000 < a0.size ∨ 2000 < a1.size) (w : World) :
    Calls Try.prog 9 #[.string a0, .string a1] w fun e w' => e = .returned (.bool true) ∧ Below w.heap.size w w' := by
  by_cases h0 : 2000 < a0.size
  · have d0 : decide ((2000 : Int) < (a0.size : Int)) = true := by simp; omega
    go_enter Try.func9, Try.ntmps9
    go_wp2_with fail
    refine (awake_any _).mono ?_
    rintro e w' ⟨rfl, rfl⟩
    go_wp2_with fail
    go_ret
    exact ⟨rfl, Below.refl _ _⟩
  · have d0 : decide ((2000 : Int) < (a0.size : Int)) = false := by simp; omega
    have d1 : decide ((2000 : Int) < (a1.size : Int)) = true := by simp; omega
    go_enter Try.func9, Try.ntmps9
    go_wp2_with fail
    refine (awake_any _).mono ?_
    rintro e w' ⟨rfl, rfl⟩
    go_wp2_with fail
    go_ret
    exact ⟨rfl, Below.refl _ _⟩

theorem next_any (a0 : ByteArray) (a1 : ByteArray) (w : World) :
    Calls Try.prog 9 #[.string a0, .string a1] w fun e w' => e = .returned (.bool true) ∧ Below w.heap.size w w' := by
  by_cases h : 2000 < a0.size ∨ 2000 < a1.size
  · exact next_big a0 a1 h w
  · refine next_small a0 a1 (by omega) (by omega) _ _ _ w (Lib.hid rfl) (Lib.hid rfl) (Lib.hid rfl) (Lib.hid ?_) (Lib.hid ?_) (Lib.hid ?_) ?_
    · rw [apdata, apdata]; exact cmp_snoc_snoc _ _
    · rw [apdata]; exact cmp_snoc _
    · rw [apdata, com_snoc]; exact Array.length_toList
    · rw [apdata]
      have e := cmp_anti a1.data.toList a0.data.toList
      have i := cmp_snoc_iff a0.data.toList a1.data.toList
      have r1 := cmp_range a0.data.toList a1.data.toList
      have r2 := cmp_range a1.data.toList (a0.data.toList ++ [0])
      omega
end Go.Proofs.Ytnlmeeijellfaaa
