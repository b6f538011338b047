/-
  The walk of the law KeysOrder: it returns true and turns nothing that was there; for texts of any size that a string may have.
-/
import Derived.Test.YtnlmeeijellfaaaWShort
namespace Go.Proofs.Ytnlmeeijellfaaa
open Go.RowKit
open Math
set_option linter.unusedVariables false

set_option maxRecDepth 100000 in
set_option maxHeartbeats 2000000 in
theorem order_l0 (a0 a1 a2 x : ByteArray) (h0 : a0.size ≤ 10000) (h1 : a1.size ≤ 10000) (h2 : a2.size ≤ 10000) (u y r : Int) (k : Nat) (w : World)
    (hp : Hid (cmp a0.data.toList a1.data.toList = -1)) (hq : Hid (cmp a1.data.toList a0.data.toList = 1))
    (hy : Hid (cmp a1.data.toList a2.data.toList = -1)) (hz : Hid (cmp a0.data.toList a2.data.toList = -1))
    (hup : Hid (cmp a0.data.toList (a0 ++ ⟨#[0]⟩ : ByteArray).data.toList = -1))
    (hu : Hid (cmp a1.data.toList (a0 ++ ⟨#[0]⟩ : ByteArray).data.toList = u)) (hu0 : 0 ≤ u)
    (hx : Hid (a1.extract 0 (com a0.data.toList a1.data.toList + 1) = x)) (hk : Hid (com a0.data.toList a1.data.toList = k)) (hxk : Hid (x.size = k + 1)) (hkl : k + 1 ≤ a1.size)
    (hax : Hid (cmp a0.data.toList x.data.toList = -1)) (hxb : Hid (cmp x.data.toList a1.data.toList = r)) (hr : r ≤ 0) (hxc : Hid (com x.data.toList a1.data.toList = x.size))
    (heq : (a0.toList == a1.toList) = false) :
    Calls Try.prog 6 #[.string a0, .string a1, .string a2] w fun e w' => e = .returned (.bool true) ∧ Below w.heap.size w w' := by
  have d0 : decide ((10000 : Int) < (a0.size : Int)) = false := by simp; omega
  have d1 : decide ((10000 : Int) < (a1.size : Int)) = false := by simp; omega
  have d2 : decide ((10000 : Int) < (a2.size : Int)) = false := by simp; omega
  have du : (u == -1) = false := by simp; omega
  have dr : decide (r ≤ 0) = true := by simpa using hr
  have hx1 : x.size ≤ k + 1 := by rw [hxk.out]; exact Nat.le_refl _
  have hx2 : k + 1 ≤ x.size := by rw [hxk.out]; exact Nat.le_refl _
  have hx3 : x.size ≤ a1.size := by rw [hxk.out]; exact hkl
  have hkx : ((k : Int) == (x.size : Int) - 1) = true := by simp; omega
  go_enter Try.func6, Try.ntmps6
  go_wp2_with fail
  refine (awake_any _).mono ?_
  rintro e w' ⟨rfl, rfl⟩
  go_wp2_with fail
  refine (compare_is _ _ _ hp.out _).mono ?_
  rintro e w' ⟨rfl, rfl⟩
  go_wp2_with fail
  refine (compare_is _ _ _ hy.out _).mono ?_
  rintro e w' ⟨rfl, rfl⟩
  go_wp2_with fail
  refine (compare_is _ _ _ hq.out _).mono ?_
  rintro e w' ⟨rfl, rfl⟩
  go_wp2_with fail
  refine (compare_is _ _ _ hz.out _).mono ?_
  rintro e w' ⟨rfl, rfl⟩
  go_wp2_with fail
  refine (after_any _ _ (by omega)).mono ?_
  rintro e w' ⟨rfl, rfl⟩
  go_wp2_with fail
  refine (compare_is _ _ _ hup.out _).mono ?_
  rintro e w' ⟨rfl, rfl⟩
  go_wp2_with fail
  refine (compare_is _ _ _ hp.out _).mono ?_
  rintro e w' ⟨rfl, rfl⟩
  go_wp2_with fail
  refine (compare_is _ _ _ hu.out _).mono ?_
  rintro e w' ⟨rfl, rfl⟩
  go_wp2_with fail
  refine (between_is _ _ _ _ (by omega) (by omega) hp.out hx.out).mono ?_
  rintro e w1 ⟨rfl, hb1⟩
  go_wp2_with fail
  refine (compare_is _ _ _ hax.out _).mono ?_
  rintro e w' ⟨rfl, rfl⟩
  go_wp2_with fail
  refine (compare_is _ _ _ hxb.out _).mono ?_
  rintro e w' ⟨rfl, rfl⟩
  go_wp2_with fail
  refine (common_is _ _ _ hxc.out _ (by omega) (by omega)).mono ?_
  rintro e w' ⟨rfl, n, rfl⟩
  go_wp2_with fail
  refine (common_is _ _ _ hk.out _ (by omega) (by omega)).mono ?_
  rintro e w' ⟨rfl, m, rfl⟩
  go_wp2_with fail
  go_ret
  exact ⟨rfl, below_drewN hb1 _⟩


set_option maxRecDepth 100000 in
set_option maxHeartbeats 2000000 in
theorem order_l1 (a0 a1 a2 x : ByteArray) (h0 : a0.size ≤ 10000) (h1 : a1.size ≤ 10000) (h2 : a2.size ≤ 10000) (u y r : Int) (k : Nat) (w : World)
    (hp : Hid (cmp a0.data.toList a1.data.toList = -1)) (hq : Hid (cmp a1.data.toList a0.data.toList = 1))
    (hy : Hid (cmp a1.data.toList a2.data.toList = 0)) (hz : Hid (cmp a0.data.toList a2.data.toList = -1))
    (hup : Hid (cmp a0.data.toList (a0 ++ ⟨#[0]⟩ : ByteArray).data.toList = -1))
    (hu : Hid (cmp a1.data.toList (a0 ++ ⟨#[0]⟩ : ByteArray).data.toList = u)) (hu0 : 0 ≤ u)
    (hx : Hid (a1.extract 0 (com a0.data.toList a1.data.toList + 1) = x)) (hk : Hid (com a0.data.toList a1.data.toList = k)) (hxk : Hid (x.size = k + 1)) (hkl : k + 1 ≤ a1.size)
    (hax : Hid (cmp a0.data.toList x.data.toList = -1)) (hxb : Hid (cmp x.data.toList a1.data.toList = r)) (hr : r ≤ 0) (hxc : Hid (com x.data.toList a1.data.toList = x.size))
    (heq : (a0.toList == a1.toList) = false) :
    Calls Try.prog 6 #[.string a0, .string a1, .string a2] w fun e w' => e = .returned (.bool true) ∧ Below w.heap.size w w' := by
  have d0 : decide ((10000 : Int) < (a0.size : Int)) = false := by simp; omega
  have d1 : decide ((10000 : Int) < (a1.size : Int)) = false := by simp; omega
  have d2 : decide ((10000 : Int) < (a2.size : Int)) = false := by simp; omega
  have du : (u == -1) = false := by simp; omega
  have dr : decide (r ≤ 0) = true := by simpa using hr
  have hx1 : x.size ≤ k + 1 := by rw [hxk.out]; exact Nat.le_refl _
  have hx2 : k + 1 ≤ x.size := by rw [hxk.out]; exact Nat.le_refl _
  have hx3 : x.size ≤ a1.size := by rw [hxk.out]; exact hkl
  have hkx : ((k : Int) == (x.size : Int) - 1) = true := by simp; omega
  go_enter Try.func6, Try.ntmps6
  go_wp2_with fail
  refine (awake_any _).mono ?_
  rintro e w' ⟨rfl, rfl⟩
  go_wp2_with fail
  refine (compare_is _ _ _ hp.out _).mono ?_
  rintro e w' ⟨rfl, rfl⟩
  go_wp2_with fail
  refine (compare_is _ _ _ hy.out _).mono ?_
  rintro e w' ⟨rfl, rfl⟩
  go_wp2_with fail
  refine (compare_is _ _ _ hq.out _).mono ?_
  rintro e w' ⟨rfl, rfl⟩
  go_wp2_with fail
  refine (compare_is _ _ _ hz.out _).mono ?_
  rintro e w' ⟨rfl, rfl⟩
  go_wp2_with fail
  refine (after_any _ _ (by omega)).mono ?_
  rintro e w' ⟨rfl, rfl⟩
  go_wp2_with fail
  refine (compare_is _ _ _ hup.out _).mono ?_
  rintro e w' ⟨rfl, rfl⟩
  go_wp2_with fail
  refine (compare_is _ _ _ hp.out _).mono ?_
  rintro e w' ⟨rfl, rfl⟩
  go_wp2_with fail
  refine (compare_is _ _ _ hu.out _).mono ?_
  rintro e w' ⟨rfl, rfl⟩
  go_wp2_with fail
  refine (between_is _ _ _ _ (by omega) (by omega) hp.out hx.out).mono ?_
  rintro e w1 ⟨rfl, hb1⟩
  go_wp2_with fail
  refine (compare_is _ _ _ hax.out _).mono ?_
  rintro e w' ⟨rfl, rfl⟩
  go_wp2_with fail
  refine (compare_is _ _ _ hxb.out _).mono ?_
  rintro e w' ⟨rfl, rfl⟩
  go_wp2_with fail
  refine (common_is _ _ _ hxc.out _ (by omega) (by omega)).mono ?_
  rintro e w' ⟨rfl, n, rfl⟩
  go_wp2_with fail
  refine (common_is _ _ _ hk.out _ (by omega) (by omega)).mono ?_
  rintro e w' ⟨rfl, m, rfl⟩
  go_wp2_with fail
  go_ret
  exact ⟨rfl, below_drewN hb1 _⟩


set_option maxRecDepth 100000 in
set_option maxHeartbeats 2000000 in
theorem order_l2 (a0 a1 a2 x : ByteArray) (h0 : a0.size ≤ 10000) (h1 : a1.size ≤ 10000) (h2 : a2.size ≤ 10000) (u y r : Int) (k : Nat) (w : World)
    (hp : Hid (cmp a0.data.toList a1.data.toList = -1)) (hq : Hid (cmp a1.data.toList a0.data.toList = 1))
    (hy : Hid (cmp a1.data.toList a2.data.toList = y)) (hy1 : 0 < y)
    (hup : Hid (cmp a0.data.toList (a0 ++ ⟨#[0]⟩ : ByteArray).data.toList = -1))
    (hu : Hid (cmp a1.data.toList (a0 ++ ⟨#[0]⟩ : ByteArray).data.toList = u)) (hu0 : 0 ≤ u)
    (hx : Hid (a1.extract 0 (com a0.data.toList a1.data.toList + 1) = x)) (hk : Hid (com a0.data.toList a1.data.toList = k)) (hxk : Hid (x.size = k + 1)) (hkl : k + 1 ≤ a1.size)
    (hax : Hid (cmp a0.data.toList x.data.toList = -1)) (hxb : Hid (cmp x.data.toList a1.data.toList = r)) (hr : r ≤ 0) (hxc : Hid (com x.data.toList a1.data.toList = x.size))
    (heq : (a0.toList == a1.toList) = false) :
    Calls Try.prog 6 #[.string a0, .string a1, .string a2] w fun e w' => e = .returned (.bool true) ∧ Below w.heap.size w w' := by
  have d0 : decide ((10000 : Int) < (a0.size : Int)) = false := by simp; omega
  have d1 : decide ((10000 : Int) < (a1.size : Int)) = false := by simp; omega
  have d2 : decide ((10000 : Int) < (a2.size : Int)) = false := by simp; omega
  have dy : decide (y ≤ 0) = false := by simp; omega
  have du : (u == -1) = false := by simp; omega
  have dr : decide (r ≤ 0) = true := by simpa using hr
  have hx1 : x.size ≤ k + 1 := by rw [hxk.out]; exact Nat.le_refl _
  have hx2 : k + 1 ≤ x.size := by rw [hxk.out]; exact Nat.le_refl _
  have hx3 : x.size ≤ a1.size := by rw [hxk.out]; exact hkl
  have hkx : ((k : Int) == (x.size : Int) - 1) = true := by simp; omega
  go_enter Try.func6, Try.ntmps6
  go_wp2_with fail
  refine (awake_any _).mono ?_
  rintro e w' ⟨rfl, rfl⟩
  go_wp2_with fail
  refine (compare_is _ _ _ hp.out _).mono ?_
  rintro e w' ⟨rfl, rfl⟩
  go_wp2_with fail
  refine (compare_is _ _ _ hy.out _).mono ?_
  rintro e w' ⟨rfl, rfl⟩
  go_wp2_with fail
  refine (compare_is _ _ _ hq.out _).mono ?_
  rintro e w' ⟨rfl, rfl⟩
  go_wp2_with fail
  refine (after_any _ _ (by omega)).mono ?_
  rintro e w' ⟨rfl, rfl⟩
  go_wp2_with fail
  refine (compare_is _ _ _ hup.out _).mono ?_
  rintro e w' ⟨rfl, rfl⟩
  go_wp2_with fail
  refine (compare_is _ _ _ hp.out _).mono ?_
  rintro e w' ⟨rfl, rfl⟩
  go_wp2_with fail
  refine (compare_is _ _ _ hu.out _).mono ?_
  rintro e w' ⟨rfl, rfl⟩
  go_wp2_with fail
  refine (between_is _ _ _ _ (by omega) (by omega) hp.out hx.out).mono ?_
  rintro e w1 ⟨rfl, hb1⟩
  go_wp2_with fail
  refine (compare_is _ _ _ hax.out _).mono ?_
  rintro e w' ⟨rfl, rfl⟩
  go_wp2_with fail
  refine (compare_is _ _ _ hxb.out _).mono ?_
  rintro e w' ⟨rfl, rfl⟩
  go_wp2_with fail
  refine (common_is _ _ _ hxc.out _ (by omega) (by omega)).mono ?_
  rintro e w' ⟨rfl, n, rfl⟩
  go_wp2_with fail
  refine (common_is _ _ _ hk.out _ (by omega) (by omega)).mono ?_
  rintro e w' ⟨rfl, m, rfl⟩
  go_wp2_with fail
  go_ret
  exact ⟨rfl, below_drewN hb1 _⟩


set_option maxRecDepth 100000 in
set_option maxHeartbeats 2000000 in
theorem order_e0 (a0 a1 a2 : ByteArray) (h0 : a0.size ≤ 10000) (h1 : a1.size ≤ 10000) (h2 : a2.size ≤ 10000) (u y r : Int) (k : Nat) (w : World)
    (hp : Hid (cmp a0.data.toList a1.data.toList = 0)) (hq : Hid (cmp a1.data.toList a0.data.toList = 0))
    (hy : Hid (cmp a1.data.toList a2.data.toList = -1)) (hz : Hid (cmp a0.data.toList a2.data.toList = -1))
    (hup : Hid (cmp a0.data.toList (a0 ++ ⟨#[0]⟩ : ByteArray).data.toList = -1))
    (heq : (a0.toList == a1.toList) = true) :
    Calls Try.prog 6 #[.string a0, .string a1, .string a2] w fun e w' => e = .returned (.bool true) ∧ Below w.heap.size w w' := by
  have d0 : decide ((10000 : Int) < (a0.size : Int)) = false := by simp; omega
  have d1 : decide ((10000 : Int) < (a1.size : Int)) = false := by simp; omega
  have d2 : decide ((10000 : Int) < (a2.size : Int)) = false := by simp; omega
  go_enter Try.func6, Try.ntmps6
  go_wp2_with fail
  refine (awake_any _).mono ?_
  rintro e w' ⟨rfl, rfl⟩
  go_wp2_with fail
  refine (compare_is _ _ _ hp.out _).mono ?_
  rintro e w' ⟨rfl, rfl⟩
  go_wp2_with fail
  refine (compare_is _ _ _ hy.out _).mono ?_
  rintro e w' ⟨rfl, rfl⟩
  go_wp2_with fail
  refine (compare_is _ _ _ hq.out _).mono ?_
  rintro e w' ⟨rfl, rfl⟩
  go_wp2_with fail
  refine (compare_is _ _ _ hz.out _).mono ?_
  rintro e w' ⟨rfl, rfl⟩
  go_wp2_with fail
  refine (after_any _ _ (by omega)).mono ?_
  rintro e w' ⟨rfl, rfl⟩
  go_wp2_with fail
  refine (compare_is _ _ _ hup.out _).mono ?_
  rintro e w' ⟨rfl, rfl⟩
  go_wp2_with fail
  refine (compare_is _ _ _ hp.out _).mono ?_
  rintro e w' ⟨rfl, rfl⟩
  go_wp2_with fail
  refine (between_no _ _ _ (by rw [hp.out]; omega)).mono ?_
  rintro e w1 ⟨rfl, rfl⟩
  go_wp2_with fail
  go_ret
  exact ⟨rfl, Below.refl _ _⟩


set_option maxRecDepth 100000 in
set_option maxHeartbeats 2000000 in
theorem order_e1 (a0 a1 a2 : ByteArray) (h0 : a0.size ≤ 10000) (h1 : a1.size ≤ 10000) (h2 : a2.size ≤ 10000) (u y r : Int) (k : Nat) (w : World)
    (hp : Hid (cmp a0.data.toList a1.data.toList = 0)) (hq : Hid (cmp a1.data.toList a0.data.toList = 0))
    (hy : Hid (cmp a1.data.toList a2.data.toList = 0)) (hz : Hid (cmp a0.data.toList a2.data.toList = 0))
    (hup : Hid (cmp a0.data.toList (a0 ++ ⟨#[0]⟩ : ByteArray).data.toList = -1))
    (heq : (a0.toList == a1.toList) = true) :
    Calls Try.prog 6 #[.string a0, .string a1, .string a2] w fun e w' => e = .returned (.bool true) ∧ Below w.heap.size w w' := by
  have d0 : decide ((10000 : Int) < (a0.size : Int)) = false := by simp; omega
  have d1 : decide ((10000 : Int) < (a1.size : Int)) = false := by simp; omega
  have d2 : decide ((10000 : Int) < (a2.size : Int)) = false := by simp; omega
  go_enter Try.func6, Try.ntmps6
  go_wp2_with fail
  refine (awake_any _).mono ?_
  rintro e w' ⟨rfl, rfl⟩
  go_wp2_with fail
  refine (compare_is _ _ _ hp.out _).mono ?_
  rintro e w' ⟨rfl, rfl⟩
  go_wp2_with fail
  refine (compare_is _ _ _ hy.out _).mono ?_
  rintro e w' ⟨rfl, rfl⟩
  go_wp2_with fail
  refine (compare_is _ _ _ hq.out _).mono ?_
  rintro e w' ⟨rfl, rfl⟩
  go_wp2_with fail
  refine (compare_is _ _ _ hz.out _).mono ?_
  rintro e w' ⟨rfl, rfl⟩
  go_wp2_with fail
  refine (after_any _ _ (by omega)).mono ?_
  rintro e w' ⟨rfl, rfl⟩
  go_wp2_with fail
  refine (compare_is _ _ _ hup.out _).mono ?_
  rintro e w' ⟨rfl, rfl⟩
  go_wp2_with fail
  refine (compare_is _ _ _ hp.out _).mono ?_
  rintro e w' ⟨rfl, rfl⟩
  go_wp2_with fail
  refine (between_no _ _ _ (by rw [hp.out]; omega)).mono ?_
  rintro e w1 ⟨rfl, rfl⟩
  go_wp2_with fail
  go_ret
  exact ⟨rfl, Below.refl _ _⟩


set_option maxRecDepth 100000 in
set_option maxHeartbeats 2000000 in
theorem order_e2 (a0 a1 a2 : ByteArray) (h0 : a0.size ≤ 10000) (h1 : a1.size ≤ 10000) (h2 : a2.size ≤ 10000) (u y r : Int) (k : Nat) (w : World)
    (hp : Hid (cmp a0.data.toList a1.data.toList = 0)) (hq : Hid (cmp a1.data.toList a0.data.toList = 0))
    (hy : Hid (cmp a1.data.toList a2.data.toList = y)) (hy1 : 0 < y)
    (hup : Hid (cmp a0.data.toList (a0 ++ ⟨#[0]⟩ : ByteArray).data.toList = -1))
    (heq : (a0.toList == a1.toList) = true) :
    Calls Try.prog 6 #[.string a0, .string a1, .string a2] w fun e w' => e = .returned (.bool true) ∧ Below w.heap.size w w' := by
  have d0 : decide ((10000 : Int) < (a0.size : Int)) = false := by simp; omega
  have d1 : decide ((10000 : Int) < (a1.size : Int)) = false := by simp; omega
  have d2 : decide ((10000 : Int) < (a2.size : Int)) = false := by simp; omega
  have dy : decide (y ≤ 0) = false := by simp; omega
  go_enter Try.func6, Try.ntmps6
  go_wp2_with fail
  refine (awake_any _).mono ?_
  rintro e w' ⟨rfl, rfl⟩
  go_wp2_with fail
  refine (compare_is _ _ _ hp.out _).mono ?_
  rintro e w' ⟨rfl, rfl⟩
  go_wp2_with fail
  refine (compare_is _ _ _ hy.out _).mono ?_
  rintro e w' ⟨rfl, rfl⟩
  go_wp2_with fail
  refine (compare_is _ _ _ hq.out _).mono ?_
  rintro e w' ⟨rfl, rfl⟩
  go_wp2_with fail
  refine (after_any _ _ (by omega)).mono ?_
  rintro e w' ⟨rfl, rfl⟩
  go_wp2_with fail
  refine (compare_is _ _ _ hup.out _).mono ?_
  rintro e w' ⟨rfl, rfl⟩
  go_wp2_with fail
  refine (compare_is _ _ _ hp.out _).mono ?_
  rintro e w' ⟨rfl, rfl⟩
  go_wp2_with fail
  refine (between_no _ _ _ (by rw [hp.out]; omega)).mono ?_
  rintro e w1 ⟨rfl, rfl⟩
  go_wp2_with fail
  go_ret
  exact ⟨rfl, Below.refl _ _⟩


set_option maxRecDepth 100000 in
set_option maxHeartbeats 2000000 in
theorem order_g (a0 a1 a2 : ByteArray) (h0 : a0.size ≤ 10000) (h1 : a1.size ≤ 10000) (h2 : a2.size ≤ 10000) (u y r : Int) (k : Nat) (w : World)
    (hp : Hid (cmp a0.data.toList a1.data.toList = 1)) (hq : Hid (cmp a1.data.toList a0.data.toList = -1))
    (hy : Hid (cmp a1.data.toList a2.data.toList = y)) 
    (hup : Hid (cmp a0.data.toList (a0 ++ ⟨#[0]⟩ : ByteArray).data.toList = -1))
    (heq : (a0.toList == a1.toList) = false) :
    Calls Try.prog 6 #[.string a0, .string a1, .string a2] w fun e w' => e = .returned (.bool true) ∧ Below w.heap.size w w' := by
  have d0 : decide ((10000 : Int) < (a0.size : Int)) = false := by simp; omega
  have d1 : decide ((10000 : Int) < (a1.size : Int)) = false := by simp; omega
  have d2 : decide ((10000 : Int) < (a2.size : Int)) = false := by simp; omega
  go_enter Try.func6, Try.ntmps6
  go_wp2_with fail
  refine (awake_any _).mono ?_
  rintro e w' ⟨rfl, rfl⟩
  go_wp2_with fail
  refine (compare_is _ _ _ hp.out _).mono ?_
  rintro e w' ⟨rfl, rfl⟩
  go_wp2_with fail
  refine (compare_is _ _ _ hy.out _).mono ?_
  rintro e w' ⟨rfl, rfl⟩
  go_wp2_with fail
  refine (compare_is _ _ _ hq.out _).mono ?_
  rintro e w' ⟨rfl, rfl⟩
  go_wp2_with fail
  refine (after_any _ _ (by omega)).mono ?_
  rintro e w' ⟨rfl, rfl⟩
  go_wp2_with fail
  refine (compare_is _ _ _ hup.out _).mono ?_
  rintro e w' ⟨rfl, rfl⟩
  go_wp2_with fail
  refine (compare_is _ _ _ hp.out _).mono ?_
  rintro e w' ⟨rfl, rfl⟩
  go_wp2_with fail
  refine (between_no _ _ _ (by rw [hp.out]; omega)).mono ?_
  rintro e w1 ⟨rfl, rfl⟩
  go_wp2_with fail
  go_ret
  exact ⟨rfl, Below.refl _ _⟩


theorem order_big (a0 a1 a2 : ByteArray) (h : 10000 < a0.size ∨ 10000 < a1.size ∨ 10000 < a2.size) (w : World) :
    Calls Try.prog 6 #[.string a0, .string a1, .string a2] w fun e w' => e = .returned (.bool true) ∧ Below w.heap.size w w' := by
  by_cases h0 : 10000 < a0.size
  · have d0 : decide ((10000 : Int) < (a0.size : Int)) = true := by simp; omega
    go_enter Try.func6, Try.ntmps6
    go_wp2_with fail
    refine (awake_any _).mono ?_
    rintro e w' ⟨rfl, rfl⟩
    go_wp2_with fail
    go_ret
    exact ⟨rfl, Below.refl _ _⟩
  · have d0 : decide ((10000 : Int) < (a0.size : Int)) = false := by simp; omega
    by_cases h1 : 10000 < a1.size
    · have d1 : decide ((10000 : Int) < (a1.size : Int)) = true := by simp; omega
      go_enter Try.func6, Try.ntmps6
      go_wp2_with fail
      refine (awake_any _).mono ?_
      rintro e w' ⟨rfl, rfl⟩
      go_wp2_with fail
      go_ret
      exact ⟨rfl, Below.refl _ _⟩
    · have d1 : decide ((10000 : Int) < (a1.size : Int)) = false := by simp; omega
      have d2 : decide ((10000 : Int) < (a2.size : Int)) = true := by simp; omega
      go_enter Try.func6, Try.ntmps6
      go_wp2_with fail
      refine (awake_any _).mono ?_
      rintro e w' ⟨rfl, rfl⟩
      go_wp2_with fail
      go_ret
      exact ⟨rfl, Below.refl _ _⟩

theorem toList_data (a : ByteArray) : a.toList = a.data.toList := ByteArray.toList_eq a

theorem order_any (a0 a1 a2 : ByteArray) (w : World) :
    Calls Try.prog 6 #[.string a0, .string a1, .string a2] w fun e w' => e = .returned (.bool true) ∧ Below w.heap.size w w' := by
  by_cases h : 10000 < a0.size ∨ 10000 < a1.size ∨ 10000 < a2.size
  · exact order_big a0 a1 a2 h w
  have hq := cmp_anti a1.data.toList a0.data.toList
  have hup : cmp a0.data.toList (a0 ++ ⟨#[0]⟩ : ByteArray).data.toList = -1 := by rw [apdata]; exact cmp_snoc _
  have ht := cmp_trans a0.data.toList a1.data.toList a2.data.toList
  have hi := cmp_snoc_iff a0.data.toList a1.data.toList
  rw [← apdata] at hi
  have hl' : a1.data.toList.length = a1.size := Array.length_toList
  rcases cmp_range a0.data.toList a1.data.toList with hp | hp | hp
  · have hl := com_lt _ _ hp
    have hne : (a0.toList == a1.toList) = false := by
      rw [toList_data, toList_data, beq_eq_false_iff_ne]
      intro e
      rw [e, cmp_self] at hp
      omega
    have f1 : cmp a0.data.toList (a1.extract 0 (com a0.data.toList a1.data.toList + 1)).data.toList = -1 := by rw [exdata]; exact cmp_between _ _ hp
    have f2 : cmp (a1.extract 0 (com a0.data.toList a1.data.toList + 1)).data.toList a1.data.toList ≤ 0 := by rw [exdata]; exact cmp_take _ _
    have f3 : com (a1.extract 0 (com a0.data.toList a1.data.toList + 1)).data.toList a1.data.toList = (a1.extract 0 (com a0.data.toList a1.data.toList + 1)).size := by
      rw [exdata, com_take_self, ← exdata]; exact Array.length_toList
    have f4 : (a1.extract 0 (com a0.data.toList a1.data.toList + 1)).size = com a0.data.toList a1.data.toList + 1 := by rw [ByteArray.size_extract]; omega
    rcases cmp_range a1.data.toList a2.data.toList with hy | hy | hy
    · exact order_l0 a0 a1 a2 _ (by omega) (by omega) (by omega) _ 0 _ _ w (Lib.hid hp) (Lib.hid (by omega)) (Lib.hid hy) (Lib.hid (by omega)) (Lib.hid hup) (Lib.hid rfl) (by omega) (Lib.hid rfl) (Lib.hid rfl) (Lib.hid f4) (by omega) (Lib.hid f1) (Lib.hid rfl) f2 (Lib.hid f3) hne
    · exact order_l1 a0 a1 a2 _ (by omega) (by omega) (by omega) _ 0 _ _ w (Lib.hid hp) (Lib.hid (by omega)) (Lib.hid hy) (Lib.hid (by omega)) (Lib.hid hup) (Lib.hid rfl) (by omega) (Lib.hid rfl) (Lib.hid rfl) (Lib.hid f4) (by omega) (Lib.hid f1) (Lib.hid rfl) f2 (Lib.hid f3) hne
    · exact order_l2 a0 a1 a2 _ (by omega) (by omega) (by omega) _ _ _ _ w (Lib.hid hp) (Lib.hid (by omega)) (Lib.hid hy) (by omega) (Lib.hid hup) (Lib.hid rfl) (by omega) (Lib.hid rfl) (Lib.hid rfl) (Lib.hid f4) (by omega) (Lib.hid f1) (Lib.hid rfl) f2 (Lib.hid f3) hne
  · have hne : (a0.toList == a1.toList) = true := by
      rw [toList_data, toList_data, (cmp_zero _ _).1 hp]
      simp
    rcases cmp_range a1.data.toList a2.data.toList with hy | hy | hy
    · exact order_e0 a0 a1 a2 (by omega) (by omega) (by omega) 0 0 0 0 w (Lib.hid hp) (Lib.hid (by omega)) (Lib.hid hy) (Lib.hid (by omega)) (Lib.hid hup) hne
    · exact order_e1 a0 a1 a2 (by omega) (by omega) (by omega) 0 0 0 0 w (Lib.hid hp) (Lib.hid (by omega)) (Lib.hid hy) (Lib.hid (by omega)) (Lib.hid hup) hne
    · exact order_e2 a0 a1 a2 (by omega) (by omega) (by omega) 0 _ 0 0 w (Lib.hid hp) (Lib.hid (by omega)) (Lib.hid hy) (by omega) (Lib.hid hup) hne
  · have hne : (a0.toList == a1.toList) = false := by
      rw [toList_data, toList_data, beq_eq_false_iff_ne]
      intro e
      rw [e, cmp_self] at hp
      omega
    exact order_g a0 a1 a2 (by omega) (by omega) (by omega) 0 _ 0 0 w (Lib.hid hp) (Lib.hid (by omega)) (Lib.hid rfl) (Lib.hid hup) hne
end Go.Proofs.Ytnlmeeijellfaaa

