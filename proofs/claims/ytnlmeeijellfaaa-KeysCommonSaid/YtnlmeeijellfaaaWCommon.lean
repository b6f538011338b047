/-
  The walk of the law KeysCommon: it returns true and turns nothing that was there; for texts of any size that a string may have.
-/
import Derived.Test.YtnlmeeijellfaaaWOrder
namespace Go.Proofs.Ytnlmeeijellfaaa
open Go.RowKit
open Math
set_option linter.unusedVariables false

theorem common_quiet (a b : ByteArray) (c : Nat) (h : com a.data.toList b.data.toList = c) (w : World) (n : Nat) (ha : a.size ≤ 140737488355328) (hb : b.size ≤ 140737488355328) :
    Calls Try.prog 13 #[.string a, .string b] (w.drewN n) fun e w' => e = .returned (.int .i64 (c : Int)) ∧ ∃ m, w' = w.drewN m :=
  (common_is a b c h (w.drewN n) ha hb).mono fun e w' ⟨he, m, hm⟩ => ⟨he, n + m, by rw [hm, World.drewN_drewN]⟩

set_option maxRecDepth 100000 in
set_option maxHeartbeats 2000000 in
theorem common_small (a0 a1 a2 : ByteArray) (h0 : a0.size ≤ 2000) (h1 : a1.size ≤ 2000) (h2 : a2.size ≤ 2000) (n m l : Nat) (w : World)
    (hn : Hid (com a0.data.toList a1.data.toList = n)) (hn' : Hid (com a1.data.toList a0.data.toList = n)) (haa : Hid (com a0.data.toList a0.data.toList = a0.size))
    (hm : Hid (com a0.data.toList a2.data.toList = m)) (hl : Hid (com a1.data.toList a2.data.toList = l)) (hmin : min n l ≤ m) (hna : n ≤ a0.size) (hnb : n ≤ a1.size)
    (heq : ((a0.extract 0 n).toList == (a1.extract 0 n).toList) = true) (hne : ∀ (p : n < a0.size) (q : n < a1.size), ((a0[n].toNat : Int) == (a1[n].toNat : Int)) = false) :
    Calls Try.prog 10 #[.string a0, .string a1, .string a2] w fun e w' => e = .returned (.bool true) ∧ Below w.heap.size w w' := by
  have d0 : decide ((2000 : Int) < (a0.size : Int)) = false := by simp; omega
  have d1 : decide ((2000 : Int) < (a1.size : Int)) = false := by simp; omega
  have d2 : decide ((2000 : Int) < (a2.size : Int)) = false := by simp; omega
  have c0 : decide ((a0.size : Int) < (n : Int)) = false := by simp; omega
  have c1 : decide ((a1.size : Int) < (n : Int)) = false := by simp; omega
  have c2 : decide ((n : Int) < 0) = false := by simp
  have c0' : decide (a0.size < n) = false := by simp; omega
  have c1' : decide (a1.size < n) = false := by simp; omega
  by_cases k0 : n < a0.size
  · by_cases k1 : n < a1.size
    · have e1 := hne k0 k1
      have f0 : decide ((n : Int) < (a0.size : Int)) = true := by simp; omega
      have f1 : decide ((n : Int) < (a1.size : Int)) = true := by simp; omega
      have f1' : decide (n < a1.size) = true := by simp; omega
      have f0' : decide (n < a0.size) = true := by simp; omega
      clear hne
      have Q1 := Lib.hid fun (w : World) (n : Nat) => common_quiet a1 a0 _ hn'.out w n (by omega) (by omega)
      have Q2 := Lib.hid fun (w : World) (n : Nat) => common_quiet a0 a0 _ haa.out w n (by omega) (by omega)
      have g0 : decide (min (n : Int) (l : Int) ≤ (m : Int)) = true := by simp; omega
      go_enter Try.func10, Try.ntmps10
      go_wp2_with fail
      refine (awake_any _).mono ?_
      rintro e w' ⟨rfl, rfl⟩
      go_wp2_with fail
      refine (common_is _ _ _ hn.out _ (by omega) (by omega)).mono ?_
      rintro e w' ⟨rfl, q, rfl⟩
      have hb1 : Below w.heap.size w (w.drewN q) := below_drewN (Below.refl _ _) _
      generalize w.drewN q = w1 at hb1 ⊢
      go_wp2_with fail
      go_quiet (first | (go_at_call 13; with_reducible exact Q1.out _ _) | (go_at_call 13; with_reducible exact Q2.out _ _))
      go_wp2_with fail
      refine (common_is _ _ _ hm.out _ (by omega) (by omega)).mono ?_
      rintro e w' ⟨rfl, q2, rfl⟩
      go_wp2_with fail
      refine (common_is _ _ _ hl.out _ (by omega) (by omega)).mono ?_
      rintro e w' ⟨rfl, q3, rfl⟩
      go_wp2_with fail
      go_ret
      exact ⟨rfl, below_drewN hb1 _⟩
    · have f0 : decide ((n : Int) < (a0.size : Int)) = true := by simp; omega
      have f1 : decide ((n : Int) < (a1.size : Int)) = false := by simp; omega
      have f1' : decide (n < a1.size) = false := by simp; omega
      have f0' : decide (n < a0.size) = true := by simp; omega
      clear hne
      have Q1 := Lib.hid fun (w : World) (n : Nat) => common_quiet a1 a0 _ hn'.out w n (by omega) (by omega)
      have Q2 := Lib.hid fun (w : World) (n : Nat) => common_quiet a0 a0 _ haa.out w n (by omega) (by omega)
      have g0 : decide (min (n : Int) (l : Int) ≤ (m : Int)) = true := by simp; omega
      go_enter Try.func10, Try.ntmps10
      go_wp2_with fail
      refine (awake_any _).mono ?_
      rintro e w' ⟨rfl, rfl⟩
      go_wp2_with fail
      refine (common_is _ _ _ hn.out _ (by omega) (by omega)).mono ?_
      rintro e w' ⟨rfl, q, rfl⟩
      have hb1 : Below w.heap.size w (w.drewN q) := below_drewN (Below.refl _ _) _
      generalize w.drewN q = w1 at hb1 ⊢
      go_wp2_with fail
      go_quiet (first | (go_at_call 13; with_reducible exact Q1.out _ _) | (go_at_call 13; with_reducible exact Q2.out _ _))
      go_wp2_with fail
      refine (common_is _ _ _ hm.out _ (by omega) (by omega)).mono ?_
      rintro e w' ⟨rfl, q2, rfl⟩
      go_wp2_with fail
      refine (common_is _ _ _ hl.out _ (by omega) (by omega)).mono ?_
      rintro e w' ⟨rfl, q3, rfl⟩
      go_wp2_with fail
      go_ret
      exact ⟨rfl, below_drewN hb1 _⟩
  · have f0 : decide ((n : Int) < (a0.size : Int)) = false := by simp; omega
    have f0' : decide (n < a0.size) = false := by simp; omega
    clear hne
    have Q1 := Lib.hid fun (w : World) (n : Nat) => common_quiet a1 a0 _ hn'.out w n (by omega) (by omega)
    have Q2 := Lib.hid fun (w : World) (n : Nat) => common_quiet a0 a0 _ haa.out w n (by omega) (by omega)
    have g0 : decide (min (n : Int) (l : Int) ≤ (m : Int)) = true := by simp; omega
    go_enter Try.func10, Try.ntmps10
    go_wp2_with fail
    refine (awake_any _).mono ?_
    rintro e w' ⟨rfl, rfl⟩
    go_wp2_with fail
    refine (common_is _ _ _ hn.out _ (by omega) (by omega)).mono ?_
    rintro e w' ⟨rfl, q, rfl⟩
    have hb1 : Below w.heap.size w (w.drewN q) := below_drewN (Below.refl _ _) _
    generalize w.drewN q = w1 at hb1 ⊢
    go_wp2_with fail
    go_quiet (first | (go_at_call 13; with_reducible exact Q1.out _ _) | (go_at_call 13; with_reducible exact Q2.out _ _))
    go_wp2_with fail
    refine (common_is _ _ _ hm.out _ (by omega) (by omega)).mono ?_
    rintro e w' ⟨rfl, q2, rfl⟩
    go_wp2_with fail
    refine (common_is _ _ _ hl.out _ (by omega) (by omega)).mono ?_
    rintro e w' ⟨rfl, q3, rfl⟩
    go_wp2_with fail
    go_ret
    exact ⟨rfl, below_drewN hb1 _⟩

theorem common_big (a0 a1 a2 : ByteArray) (h : 2000 < a0.size ∨ 2000 < a1.size ∨ 2000 < a2.size) (w : World) :
    Calls Try.prog 10 #[.string a0, .string a1, .string a2] w fun e w' => e = .returned (.bool true) ∧ Below w.heap.size w w' := by
  by_cases h0 : 2000 < a0.size
  · have d0 : decide ((2000 : Int) < (a0.size : Int)) = true := by simp; omega
    go_enter Try.func10, Try.ntmps10
    go_wp2_with fail
    refine (awake_any _).mono ?_
    rintro e w' ⟨rfl, rfl⟩
    go_wp2_with fail
    go_ret
    exact ⟨rfl, Below.refl _ _⟩
  · have d0 : decide ((2000 : Int) < (a0.size : Int)) = false := by simp; omega
    by_cases h1 : 2000 < a1.size
    · have d1 : decide ((2000 : Int) < (a1.size : Int)) = true := by simp; omega
      go_enter Try.func10, Try.ntmps10
      go_wp2_with fail
      refine (awake_any _).mono ?_
      rintro e w' ⟨rfl, rfl⟩
      go_wp2_with fail
      go_ret
      exact ⟨rfl, Below.refl _ _⟩
    · have d1 : decide ((2000 : Int) < (a1.size : Int)) = false := by simp; omega
      have d2 : decide ((2000 : Int) < (a2.size : Int)) = true := by simp; omega
      go_enter Try.func10, Try.ntmps10
      go_wp2_with fail
      refine (awake_any _).mono ?_
      rintro e w' ⟨rfl, rfl⟩
      go_wp2_with fail
      go_ret
      exact ⟨rfl, Below.refl _ _⟩

theorem common_law (a0 a1 a2 : ByteArray) (w : World) :
    Calls Try.prog 10 #[.string a0, .string a1, .string a2] w fun e w' => e = .returned (.bool true) ∧ Below w.heap.size w w' := by
  by_cases h : 2000 < a0.size ∨ 2000 < a1.size ∨ 2000 < a2.size
  · exact common_big a0 a1 a2 h w
  have l0 : a0.data.toList.length = a0.size := Array.length_toList
  have l1 : a1.data.toList.length = a1.size := Array.length_toList
  have hle := com_le a0.data.toList a1.data.toList
  refine common_small a0 a1 a2 (by omega) (by omega) (by omega) _ _ _ w (Lib.hid rfl) (Lib.hid (com_comm _ _)) (Lib.hid ((com_self _).trans l0)) (Lib.hid rfl) (Lib.hid rfl) (com_tri _ _ _) (by omega) (by omega) ?_ ?_
  · rw [toList_data, toList_data, exdata, exdata, com_take, beq_self_eq_true]
  · intro p q
    have g := com_ne a0.data.toList a1.data.toList (by omega) (by omega)
    rw [getD_at a0 _ p, getD_at a1 _ q] at g
    rw [beq_eq_false_iff_ne]
    intro e
    exact g (UInt8.toNat_inj.1 (by omega))
end Go.Proofs.Ytnlmeeijellfaaa

