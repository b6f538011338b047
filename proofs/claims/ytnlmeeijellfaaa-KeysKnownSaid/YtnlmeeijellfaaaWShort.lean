/-
  The walk of the law KeysShort: it returns true and turns nothing that was there; for texts of any size that a string may have.
-/
import Derived.Test.YtnlmeeijellfaaaWNext
namespace Go.Proofs.Ytnlmeeijellfaaa
open Go.RowKit
open Math
set_option linter.unusedVariables false

theorem between_is (a b x : ByteArray) (w : World) (ha : a.size ≤ 140737488355328) (hb : b.size ≤ 140737488355328) (h : cmp a.data.toList b.data.toList = -1) (hx : b.extract 0 (com a.data.toList b.data.toList + 1) = x) :
    Calls Try.prog 11 #[.string a, .string b] w fun e w' => e = .returned (.tuple #[.string x, .bool true]) ∧ Below w.heap.size w w' := by
  subst hx
  have hl := com_lt _ _ h
  have hl' : b.data.toList.length = b.size := Array.length_toList
  exact between_yes a b w ha hb (by omega) (by omega)

set_option maxHeartbeats 1000000 in
theorem short_yes (a0 a1 a2 x : ByteArray) (h0 : a0.size ≤ 2000) (h1 : a1.size ≤ 2000) (h2 : a2.size ≤ 2000) (k : Nat) (r s t : Int) (w : World)
    (hp : Hid (cmp a0.data.toList a1.data.toList = -1)) (hx : Hid (a1.extract 0 (com a0.data.toList a1.data.toList + 1) = x)) (hk : Hid (com a0.data.toList a1.data.toList = k))
    (hax : Hid (cmp a0.data.toList x.data.toList = -1)) (hxb : Hid (cmp x.data.toList a1.data.toList = r)) (hr : r ≤ 0) (hxs : Hid (x.size = k + 1)) (hkl : k + 1 ≤ a1.size)
    (hs : Hid (cmp a0.data.toList a2.data.toList = s)) (ht : Hid (cmp a2.data.toList a1.data.toList = t)) (hst : s < 0 → t ≤ 0 → k + 1 ≤ a2.size) :
    Calls Try.prog 8 #[.string a0, .string a1, .string a2] w fun e w' => e = .returned (.bool true) ∧ Below w.heap.size w w' := by
  have hxl : x.size ≤ a1.size := by rw [hxs.out]; exact hkl
  have hx1 : x.size ≤ k + 1 := by rw [hxs.out]; exact Nat.le_refl _
  have hx2 : k + 1 ≤ x.size := by rw [hxs.out]; exact Nat.le_refl _
  have d0 : decide ((2000 : Int) < (a0.size : Int)) = false := by simp; omega
  have d1 : decide ((2000 : Int) < (a1.size : Int)) = false := by simp; omega
  have d2 : decide ((2000 : Int) < (a2.size : Int)) = false := by simp; omega
  have e1 : decide (0 < r) = false := by simp; omega
  have e2 : ((a1.extract 0 (k + 1)).toList == x.toList) = true := by rw [← hk.out, hx.out]; simp
  by_cases hs0 : s < 0
  · have e3 : decide (s < 0) = true := by simpa using hs0
    by_cases ht0 : t ≤ 0
    · have e4 : decide (t ≤ 0) = true := by simpa using ht0
      have h3 := hst hs0 ht0
      have e5 : decide ((k : Int) + 1 ≤ (a2.size : Int)) = true := by simp; omega
      clear hst
      go_enter Try.func8, Try.ntmps8
      go_wp2_with fail
      refine (awake_any _).mono ?_
      rintro e w' ⟨rfl, rfl⟩
      go_wp2_with fail
      refine (between_is _ _ _ _ (by omega) (by omega) hp.out hx.out).mono ?_
      rintro e w1 ⟨rfl, hb1⟩
      go_wp2_with fail
      refine (compare_is _ _ _ hp.out _).mono ?_
      rintro e w' ⟨rfl, rfl⟩
      go_wp2_with fail
      refine (compare_is _ _ _ hax.out _).mono ?_
      rintro e w' ⟨rfl, rfl⟩
      go_wp2_with fail
      refine (compare_is _ _ _ hxb.out _).mono ?_
      rintro e w' ⟨rfl, rfl⟩
      go_wp2_with fail
      refine (common_is _ _ _ hk.out _ (by omega) (by omega)).mono ?_
      rintro e w' ⟨rfl, n, rfl⟩
      go_wp2_with fail
      refine (compare_is _ _ _ hs.out _).mono ?_
      rintro e w' ⟨rfl, rfl⟩
      go_wp2_with fail
      refine (compare_is _ _ _ ht.out _).mono ?_
      rintro e w' ⟨rfl, rfl⟩
      go_wp2_with fail
      go_ret
      exact ⟨rfl, below_drewN hb1 _⟩
    · have e4 : decide (t ≤ 0) = false := by simpa using ht0
      clear hst
      go_enter Try.func8, Try.ntmps8
      go_wp2_with fail
      refine (awake_any _).mono ?_
      rintro e w' ⟨rfl, rfl⟩
      go_wp2_with fail
      refine (between_is _ _ _ _ (by omega) (by omega) hp.out hx.out).mono ?_
      rintro e w1 ⟨rfl, hb1⟩
      go_wp2_with fail
      refine (compare_is _ _ _ hp.out _).mono ?_
      rintro e w' ⟨rfl, rfl⟩
      go_wp2_with fail
      refine (compare_is _ _ _ hax.out _).mono ?_
      rintro e w' ⟨rfl, rfl⟩
      go_wp2_with fail
      refine (compare_is _ _ _ hxb.out _).mono ?_
      rintro e w' ⟨rfl, rfl⟩
      go_wp2_with fail
      refine (common_is _ _ _ hk.out _ (by omega) (by omega)).mono ?_
      rintro e w' ⟨rfl, n, rfl⟩
      go_wp2_with fail
      refine (compare_is _ _ _ hs.out _).mono ?_
      rintro e w' ⟨rfl, rfl⟩
      go_wp2_with fail
      refine (compare_is _ _ _ ht.out _).mono ?_
      rintro e w' ⟨rfl, rfl⟩
      go_wp2_with fail
      go_ret
      exact ⟨rfl, below_drewN hb1 _⟩
  · have e3 : decide (s < 0) = false := by simpa using hs0
    clear hst
    go_enter Try.func8, Try.ntmps8
    go_wp2_with fail
    refine (awake_any _).mono ?_
    rintro e w' ⟨rfl, rfl⟩
    go_wp2_with fail
    refine (between_is _ _ _ _ (by omega) (by omega) hp.out hx.out).mono ?_
    rintro e w1 ⟨rfl, hb1⟩
    go_wp2_with fail
    refine (compare_is _ _ _ hp.out _).mono ?_
    rintro e w' ⟨rfl, rfl⟩
    go_wp2_with fail
    refine (compare_is _ _ _ hax.out _).mono ?_
    rintro e w' ⟨rfl, rfl⟩
    go_wp2_with fail
    refine (compare_is _ _ _ hxb.out _).mono ?_
    rintro e w' ⟨rfl, rfl⟩
    go_wp2_with fail
    refine (common_is _ _ _ hk.out _ (by omega) (by omega)).mono ?_
    rintro e w' ⟨rfl, n, rfl⟩
    go_wp2_with fail
    refine (compare_is _ _ _ hs.out _).mono ?_
    rintro e w' ⟨rfl, rfl⟩
    go_wp2_with fail
    go_ret
    exact ⟨rfl, below_drewN hb1 _⟩

theorem short_no (a0 a1 a2 : ByteArray) (h0 : a0.size ≤ 2000) (h1 : a1.size ≤ 2000) (h2 : a2.size ≤ 2000) (p : Int) (w : World)
    (hp : Hid (cmp a0.data.toList a1.data.toList = p)) (hp0 : 0 ≤ p) :
    Calls Try.prog 8 #[.string a0, .string a1, .string a2] w fun e w' => e = .returned (.bool true) ∧ Below w.heap.size w w' := by
  have d0 : decide ((2000 : Int) < (a0.size : Int)) = false := by simp; omega
  have d1 : decide ((2000 : Int) < (a1.size : Int)) = false := by simp; omega
  have d2 : decide ((2000 : Int) < (a2.size : Int)) = false := by simp; omega
  have d3 : decide (p < 0) = false := by simp; omega
  go_enter Try.func8, Try.ntmps8
  go_wp2_with fail
  refine (awake_any _).mono ?_
  rintro e w' ⟨rfl, rfl⟩
  go_wp2_with fail
  refine (between_no _ _ _ (by rw [hp.out]; exact hp0)).mono ?_
  rintro e w1 ⟨rfl, rfl⟩
  go_wp2_with fail
  refine (compare_is _ _ _ hp.out _).mono ?_
  rintro e w' ⟨rfl, rfl⟩
  go_wp2_with fail
  go_ret
  exact ⟨rfl, Below.refl _ _⟩

theorem short_big (a0 a1 a2 : ByteArray) (h : 2000 < a0.size ∨ 2000 < a1.size ∨ 2000 < a2.size) (w : World) :
    Calls Try.prog 8 #[.string a0, .string a1, .string a2] w fun e w' => e = .returned (.bool true) ∧ Below w.heap.size w w' := by
  by_cases h0 : 2000 < a0.size
  · have d0 : decide ((2000 : Int) < (a0.size : Int)) = true := by simp; omega
    go_enter Try.func8, Try.ntmps8
    go_wp2_with fail
    refine (awake_any _).mono ?_
    rintro e w' ⟨rfl, rfl⟩
    go_wp2_with fail
    go_ret
    exact ⟨rfl, Below.refl _ _⟩
  · have d0 : decide ((2000 : Int) < (a0.size : Int)) = false := by simp; omega
    by_cases h1 : 2000 < a1.size
    · have d1 : decide ((2000 : Int) < (a1.size : Int)) = true := by simp; omega
      go_enter Try.func8, Try.ntmps8
      go_wp2_with fail
      refine (awake_any _).mono ?_
      rintro e w' ⟨rfl, rfl⟩
      go_wp2_with fail
      go_ret
      exact ⟨rfl, Below.refl _ _⟩
    · have d1 : decide ((2000 : Int) < (a1.size : Int)) = false := by simp; omega
      have d2 : decide ((2000 : Int) < (a2.size : Int)) = true := by simp; omega
      go_enter Try.func8, Try.ntmps8
      go_wp2_with fail
      refine (awake_any _).mono ?_
      rintro e w' ⟨rfl, rfl⟩
      go_wp2_with fail
      go_ret
      exact ⟨rfl, Below.refl _ _⟩

theorem exdata (b : ByteArray) (k : Nat) : (b.extract 0 k).data.toList = b.data.toList.take k := by simp [ByteArray.data_extract]

theorem short_any (a0 a1 a2 : ByteArray) (w : World) :
    Calls Try.prog 8 #[.string a0, .string a1, .string a2] w fun e w' => e = .returned (.bool true) ∧ Below w.heap.size w w' := by
  by_cases h : 2000 < a0.size ∨ 2000 < a1.size ∨ 2000 < a2.size
  · exact short_big a0 a1 a2 h w
  · by_cases hp : cmp a0.data.toList a1.data.toList = -1
    · have hl := com_lt _ _ hp
      have hl' : a1.data.toList.length = a1.size := Array.length_toList
      have hl2 : a2.data.toList.length = a2.size := Array.length_toList
      refine short_yes a0 a1 a2 _ (by omega) (by omega) (by omega) _ _ _ _ w (Lib.hid hp) (Lib.hid rfl) (Lib.hid rfl) (Lib.hid ?_) (Lib.hid rfl) ?_ (Lib.hid ?_) ?_ (Lib.hid rfl) (Lib.hid rfl) ?_
      · rw [exdata]; exact cmp_between _ _ hp
      · rw [exdata]; exact cmp_take _ _
      · rw [ByteArray.size_extract]; omega
      · omega
      · intro g1 g2
        have r := cmp_range a0.data.toList a2.data.toList
        have := short a0.data.toList a1.data.toList a2.data.toList (by omega) g2
        omega
    · have r := cmp_range a0.data.toList a1.data.toList
      exact short_no a0 a1 a2 (by omega) (by omega) (by omega) _ w (Lib.hid rfl) (by omega)
end Go.Proofs.Ytnlmeeijellfaaa
