/-
  The walk of the law KeysTells, and of the document's own answers that it calls: it returns true and turns nothing that was there; for texts of any size that a string may have.
-/
import Derived.Test.YtnlmeeijellfaaaWOrder
import Derived.Test.YtnlmeeijellfaaaMathB
namespace Go.Proofs.Ytnlmeeijellfaaa
open Go.RowKit
open Math
set_option linter.unusedVariables false

theorem ret_bool {a b : Bool} (h : a = b) : Ending.returned (.bool a) = .returned (.bool b) := by rw [h]

theorem less_at {a b : ByteArray} {k : Nat} (h1 : k < a.size) (h2 : k < b.size) (hs : ∀ j, j < k → a.data.toList.getD j 0 = b.data.toList.getD j 0) (hne : ((a[k].toNat : Int) != (b[k].toNat : Int)) = true) :
    decide (a[k].toNat < b[k].toNat) = lt a.data.toList b.data.toList := by
  have l1 : a.data.toList.length = a.size := Array.length_toList
  have l2 : b.data.toList.length = b.size := Array.length_toList
  have hn : a[k].toNat ≠ b[k].toNat := by intro e; rw [e] at hne; simp at hne
  by_cases h : a[k].toNat < b[k].toNat
  · rw [lt_true (cmp_at_lt k _ _ (by omega) (by omega) hs (by rw [getD_at a k h1, getD_at b k h2]; exact UInt8.lt_iff_toNat_lt.2 h))]
    simpa using h
  · rw [lt_false]
    · simpa using h
    · rw [cmp_at_gt k _ _ (by omega) (by omega) hs (by rw [getD_at a k h1, getD_at b k h2]; exact UInt8.lt_iff_toNat_lt.2 (by omega))]
      decide

theorem less_end {a b : ByteArray} {k : Nat} (ha : k ≤ a.size) (hb : k ≤ b.size) (h : ¬ k < a.size ∨ ¬ k < b.size) (hs : ∀ j, j < k → a.data.toList.getD j 0 = b.data.toList.getD j 0) :
    decide (a.size < b.size) = lt a.data.toList b.data.toList := by
  have l1 : a.data.toList.length = a.size := Array.length_toList
  have l2 : b.data.toList.length = b.size := Array.length_toList
  by_cases g : a.size < b.size
  · rw [lt_true (cmp_end_lt k _ _ (by omega) (by omega) hs)]
    simpa using g
  · have := cmp_end_ge k a.data.toList b.data.toList (by omega) (by omega) hs
    rw [lt_false (by omega)]
    simpa using g

set_option maxHeartbeats 400000 in
/-- The document's Less: it only reads. -/
theorem less_any (a b : ByteArray) (w : World) (ha : a.size ≤ 140737488355328) (hb : b.size ≤ 140737488355328) :
    Calls Try.prog 34 #[.string a, .string b] w fun e w' => e = .returned (.bool (lt a.data.toList b.data.toList)) ∧ ∃ n, w' = w.drewN n := by
  go_enter Try.func34, Try.ntmps34
  go_wp2
  go_loopw [5] (fun i wr => ComRel a b w i wr) (fun i _ => a.size - (intOf i).toNat)
  case atStart => exact ⟨0, 0, Nat.zero_le _, Nat.zero_le _, rfl, fun j hj => by omega, rfl⟩
  case round =>
    obtain ⟨k, n, hka, hkb, rfl, hs, rfl⟩ := hrel
    have HS := Lib.hid hs
    clear hs
    by_cases h1 : k < a.size
    · have d1 : decide ((k : Int) < (a.size : Int)) = true := by simp; omega
      by_cases h2 : k < b.size
      · have d2 : decide ((k : Int) < (b.size : Int)) = true := by simp; omega
        go_wp2
        go_quiet (fail)
        go_wp2
        · have hne : ((a[k].toNat : Int) != (b[k].toNat : Int)) = true := by assumption
          go_quiet (fail)
          go_wp2
          go_ret
          exact ⟨ret_bool (less_at h1 h2 HS.out hne), _, by rw [World.drewN_drewN, World.drewN_drewN]⟩
        · have hne : ((a[k].toNat : Int) != (b[k].toNat : Int)) = false := by assumption
          refine ⟨⟨k + 1, n + nq, by omega, by omega, by go_num, fun j hj => ?_, rfl⟩, by simp [intOf]; omega⟩
          by_cases e : j = k
          · subst e; exact alike_of h1 h2 hne
          · exact HS.out j (by omega)
      · have d2 : decide ((k : Int) < (b.size : Int)) = false := by simp; omega
        go_wp2
        go_ret
        exact ⟨ret_bool (less_end hka hkb (.inr h2) HS.out), n, rfl⟩
    · have d1 : decide ((k : Int) < (a.size : Int)) = false := by simp; omega
      go_wp2
      go_ret
      exact ⟨ret_bool (less_end hka hkb (.inl h1) HS.out), n, rfl⟩

theorem less_yes (a b : ByteArray) (w : World) (ha : a.size ≤ 140737488355328) (hb : b.size ≤ 140737488355328) (h : cmp a.data.toList b.data.toList = -1) :
    Calls Try.prog 34 #[.string a, .string b] w fun e w' => e = .returned (.bool true) ∧ ∃ n, w' = w.drewN n :=
  (less_any a b w ha hb).mono fun e w' ⟨he, hw⟩ => ⟨by rw [he, lt_true h], hw⟩
theorem less_no (a b : ByteArray) (w : World) (ha : a.size ≤ 140737488355328) (hb : b.size ≤ 140737488355328) (h : cmp a.data.toList b.data.toList ≠ -1) :
    Calls Try.prog 34 #[.string a, .string b] w fun e w' => e = .returned (.bool false) ∧ ∃ n, w' = w.drewN n :=
  (less_any a b w ha hb).mono fun e w' ⟨he, hw⟩ => ⟨by rw [he, lt_false h], hw⟩

theorem refcmp_any (a b : ByteArray) (w : World) (ha : a.size ≤ 140737488355328) (hb : b.size ≤ 140737488355328) :
    Calls Try.prog 21 #[.string a, .string b] w fun e w' => e = .returned (.int .i64 (cmp a.data.toList b.data.toList)) ∧ ∃ n, w' = w.drewN n := by
  have hanti := Lib.hid (cmp_anti b.data.toList a.data.toList)
  rcases cmp_range a.data.toList b.data.toList with h | h | h
  · rw [h]
    have H := Lib.hid h
    clear h
    go_enter Try.func21, Try.ntmps21
    go_wp2_with fail
    refine (less_yes _ _ _ ha hb H.out).mono ?_
    rintro e w' ⟨rfl, n, rfl⟩
    go_wp2_with fail
    go_ret
    exact ⟨rfl, n, rfl⟩
  · rw [h]
    have H := Lib.hid h
    clear h
    go_enter Try.func21, Try.ntmps21
    go_wp2_with fail
    refine (less_no _ _ _ ha hb (by rw [H.out]; decide)).mono ?_
    rintro e w' ⟨rfl, n, rfl⟩
    go_wp2_with fail
    refine (less_no _ _ _ hb ha (by rw [hanti.out, H.out]; decide)).mono ?_
    rintro e w' ⟨rfl, m, rfl⟩
    go_wp2_with fail
    go_ret
    exact ⟨rfl, _, rfl⟩
  · rw [h]
    have H := Lib.hid h
    clear h
    go_enter Try.func21, Try.ntmps21
    go_wp2_with fail
    refine (less_no _ _ _ ha hb (by rw [H.out]; decide)).mono ?_
    rintro e w' ⟨rfl, n, rfl⟩
    go_wp2_with fail
    refine (less_yes _ _ _ hb ha (by rw [hanti.out, H.out])).mono ?_
    rintro e w' ⟨rfl, m, rfl⟩
    go_wp2_with fail
    go_ret
    exact ⟨rfl, _, rfl⟩

set_option maxHeartbeats 400000 in
theorem refcom_any (a b : ByteArray) (w : World) (ha : a.size ≤ 140737488355328) (hb : b.size ≤ 140737488355328) :
    Calls Try.prog 22 #[.string a, .string b] w fun e w' => e = .returned (.int .i64 (com a.data.toList b.data.toList)) ∧ ∃ n, w' = w.drewN n := by
  go_enter Try.func22, Try.ntmps22
  go_wp2
  go_loopw [5] (fun i wr => ComRel a b w i wr) (fun i _ => a.size - (intOf i).toNat)
  case atStart => exact ⟨0, 0, Nat.zero_le _, Nat.zero_le _, rfl, fun j hj => by omega, rfl⟩
  case round =>
    obtain ⟨k, n, hka, hkb, rfl, hs, rfl⟩ := hrel
    have HS := Lib.hid hs
    clear hs
    by_cases h1 : k < a.size
    · have d1 : decide ((k : Int) < (a.size : Int)) = true := by simp; omega
      by_cases h2 : k < b.size
      · have d2 : decide ((k : Int) < (b.size : Int)) = true := by simp; omega
        cases d3 : ((a[k].toNat : Int) == (b[k].toNat : Int))
        · go_wp2
          go_quiet (fail)
          go_wp2
          go_ret
          exact ⟨ret_int (by rw [com_of k _ _ (by simpa using hka) (by simpa using hkb) HS.out (.inr (.inr (other_of h1 h2 (by rw [bne, d3]; rfl))))]), n + nq, World.drewN_drewN _ _ _⟩
        · go_wp2
          go_quiet (fail)
          go_wp2
          refine ⟨⟨k + 1, n + nq, by omega, by omega, by go_num, fun j hj => ?_, rfl⟩, by simp [intOf]; omega⟩
          by_cases e : j = k
          · subst e; exact alike_of h1 h2 (by rw [bne, d3]; rfl)
          · exact HS.out j (by omega)
      · have d2 : decide ((k : Int) < (b.size : Int)) = false := by simp; omega
        go_wp2
        go_quiet (fail)
        go_wp2
        go_ret
        exact ⟨ret_int (by rw [com_of k _ _ (by simpa using hka) (by simpa using hkb) HS.out (by simp; omega)]), n + nq, World.drewN_drewN _ _ _⟩
    · have d1 : decide ((k : Int) < (a.size : Int)) = false := by simp; omega
      go_wp2
      go_quiet (fail)
      go_wp2
      go_ret
      exact ⟨ret_int (by rw [com_of k _ _ (by simpa using hka) (by simpa using hkb) HS.out (by simp; omega)]), n + nq, World.drewN_drewN _ _ _⟩

def BetRel (b : ByteArray) (w : World) (m : Nat) (i : Value) (wr : World) : Prop :=
  ∃ k n : Nat, k ≤ m ∧ i = .int .i64 (k : Int) ∧ wr = w.drewN n

set_option maxHeartbeats 400000 in
theorem refbet_yes (a b x : ByteArray) (w : World) (ha : a.size ≤ 140737488355328) (hb : b.size ≤ 140737488355328) (h : Hid (cmp a.data.toList b.data.toList = -1)) (c : Nat) (hc : Hid (com a.data.toList b.data.toList = c)) (hcb : c < b.size)
    (hx : Hid (b.extract 0 (com a.data.toList b.data.toList + 1) = x)) :
    Calls Try.prog 20 #[.string a, .string b] w fun e w' => e = .returned (.tuple #[.string x, .bool true]) ∧ ∃ n, w' = w.drewN n := by
  go_enter Try.func20, Try.ntmps20
  go_wp2
  go_loopw [6] (fun i wr => BetRel b w (c + 1) i wr) (fun i _ => c + 2 - (intOf i).toNat)
  case atStart => exact ⟨0, 0, by omega, rfl, rfl⟩
  case round =>
    obtain ⟨k, n, hk, rfl, rfl⟩ := hrel
    have d0 : decide ((k : Int) ≤ (b.size : Int)) = true := by simp; omega
    go_wp2_with fail
    by_cases hlt : k < c + 1
    · refine (less_no _ _ _ ha (by rw [ByteArray.size_extract]; omega) ?_).mono ?_
      · rw [exdata]; intro g; have := ((lt_take _ _ _).1 g).2; rw [hc.out] at this; omega
      rintro e w' ⟨rfl, m, rfl⟩
      go_wp2_with fail
      exact ⟨⟨k + 1, n + m, by omega, by go_num, rfl⟩, by simp [intOf]; omega⟩
    · obtain rfl : k = c + 1 := by omega
      refine (less_yes _ _ _ ha (by rw [ByteArray.size_extract]; omega) ?_).mono ?_
      · rw [exdata]; exact (lt_take _ _ _).2 ⟨h.out, by rw [hc.out]; omega⟩
      rintro e w' ⟨rfl, m, rfl⟩
      go_wp2_with fail
      go_ret2
      have e := hx.out
      rw [hc.out] at e
      rw [← e]
      exact ⟨rfl, _, rfl⟩

set_option maxHeartbeats 400000 in
theorem refbet_no (a b : ByteArray) (w : World) (ha : a.size ≤ 140737488355328) (hb : b.size ≤ 140737488355328) (h : Hid (cmp a.data.toList b.data.toList ≠ -1)) :
    Calls Try.prog 20 #[.string a, .string b] w fun e w' => e = .returned (.tuple #[.string ⟨#[]⟩, .bool false]) ∧ ∃ n, w' = w.drewN n := by
  go_enter Try.func20, Try.ntmps20
  go_wp2
  go_loopw [6] (fun i wr => BetRel b w (b.size + 1) i wr) (fun i _ => b.size + 2 - (intOf i).toNat)
  case atStart => exact ⟨0, 0, by omega, rfl, rfl⟩
  case round =>
    obtain ⟨k, n, hk, rfl, rfl⟩ := hrel
    by_cases hlt : k < b.size + 1
    · have d0 : decide ((k : Int) ≤ (b.size : Int)) = true := by simp; omega
      go_wp2_with fail
      refine (less_no _ _ _ ha (by rw [ByteArray.size_extract]; omega) ?_).mono ?_
      · rw [exdata]; intro g; exact h.out ((lt_take _ _ _).1 g).1
      rintro e w' ⟨rfl, m, rfl⟩
      go_wp2_with fail
      exact ⟨⟨k + 1, n + m, by omega, by go_num, rfl⟩, by simp [intOf]; omega⟩
    · have d0 : decide ((k : Int) ≤ (b.size : Int)) = false := by simp; omega
      go_wp2_with fail
      go_ret2
      exact ⟨rfl, n, rfl⟩

theorem refcmp_is (a b : ByteArray) (c : Int) (h : cmp a.data.toList b.data.toList = c) (w : World) (ha : a.size ≤ 140737488355328) (hb : b.size ≤ 140737488355328) :
    Calls Try.prog 21 #[.string a, .string b] w fun e w' => e = .returned (.int .i64 c) ∧ ∃ n, w' = w.drewN n := by
  subst h; exact refcmp_any a b w ha hb
theorem refcom_is (a b : ByteArray) (c : Nat) (h : com a.data.toList b.data.toList = c) (w : World) (ha : a.size ≤ 140737488355328) (hb : b.size ≤ 140737488355328) :
    Calls Try.prog 22 #[.string a, .string b] w fun e w' => e = .returned (.int .i64 (c : Int)) ∧ ∃ n, w' = w.drewN n := by
  subst h; exact refcom_any a b w ha hb

set_option maxHeartbeats 1000000 in
theorem tells_yes (a0 a1 x : ByteArray) (h0 : a0.size ≤ 10000) (h1 : a1.size ≤ 10000) (k : Nat) (w : World)
    (hp : Hid (cmp a0.data.toList a1.data.toList = -1)) (hx : Hid (a1.extract 0 (com a0.data.toList a1.data.toList + 1) = x)) (hk : Hid (com a0.data.toList a1.data.toList = k)) (hkl : k < a1.size) :
    Calls Try.prog 4 #[.string a0, .string a1] w fun e w' => e = .returned (.bool true) ∧ Below w.heap.size w w' := by
  have d0 : decide ((10000 : Int) < (a0.size : Int)) = false := by simp; omega
  have d1 : decide ((10000 : Int) < (a1.size : Int)) = false := by simp; omega
  go_enter Try.func4, Try.ntmps4
  go_wp2_with fail
  refine (awake_any _).mono ?_
  rintro e w' ⟨rfl, rfl⟩
  go_wp2_with fail
  refine (between_is _ _ _ _ (by omega) (by omega) hp.out hx.out).mono ?_
  rintro e w1 ⟨rfl, hb1⟩
  go_wp2_with fail
  refine (refbet_yes _ _ _ _ (by omega) (by omega) hp _ hk hkl hx).mono ?_
  rintro e w' ⟨rfl, n1, rfl⟩
  go_wp2_with fail
  refine (compare_is _ _ _ hp.out _).mono ?_
  rintro e w' ⟨rfl, rfl⟩
  go_wp2_with fail
  refine (refcmp_is _ _ _ hp.out _ (by omega) (by omega)).mono ?_
  rintro e w' ⟨rfl, n2, rfl⟩
  go_wp2_with fail
  refine (common_is _ _ _ hk.out _ (by omega) (by omega)).mono ?_
  rintro e w' ⟨rfl, n3, rfl⟩
  go_wp2_with fail
  refine (refcom_is _ _ _ hk.out _ (by omega) (by omega)).mono ?_
  rintro e w' ⟨rfl, n4, rfl⟩
  go_wp2_with fail
  refine (after_any _ _ (by omega)).mono ?_
  rintro e w' ⟨rfl, rfl⟩
  go_wp2_with fail
  go_ret
  exact ⟨rfl, below_drewN hb1 _⟩

set_option maxHeartbeats 1000000 in
theorem tells_no (a0 a1 : ByteArray) (h0 : a0.size ≤ 10000) (h1 : a1.size ≤ 10000) (k : Nat) (p : Int) (w : World)
    (hp : Hid (cmp a0.data.toList a1.data.toList = p)) (hp0 : 0 ≤ p) (hk : Hid (com a0.data.toList a1.data.toList = k)) :
    Calls Try.prog 4 #[.string a0, .string a1] w fun e w' => e = .returned (.bool true) ∧ Below w.heap.size w w' := by
  have d0 : decide ((10000 : Int) < (a0.size : Int)) = false := by simp; omega
  have d1 : decide ((10000 : Int) < (a1.size : Int)) = false := by simp; omega
  go_enter Try.func4, Try.ntmps4
  go_wp2_with fail
  refine (awake_any _).mono ?_
  rintro e w' ⟨rfl, rfl⟩
  go_wp2_with fail
  refine (between_no _ _ _ (by rw [hp.out]; exact hp0)).mono ?_
  rintro e w1 ⟨rfl, rfl⟩
  go_wp2_with fail
  refine (refbet_no _ _ _ (by omega) (by omega) (Lib.hid (by rw [hp.out]; omega))).mono ?_
  rintro e w' ⟨rfl, n1, rfl⟩
  go_wp2_with fail
  refine (compare_is _ _ _ hp.out _).mono ?_
  rintro e w' ⟨rfl, rfl⟩
  go_wp2_with fail
  refine (refcmp_is _ _ _ hp.out _ (by omega) (by omega)).mono ?_
  rintro e w' ⟨rfl, n2, rfl⟩
  go_wp2_with fail
  refine (common_is _ _ _ hk.out _ (by omega) (by omega)).mono ?_
  rintro e w' ⟨rfl, n3, rfl⟩
  go_wp2_with fail
  refine (refcom_is _ _ _ hk.out _ (by omega) (by omega)).mono ?_
  rintro e w' ⟨rfl, n4, rfl⟩
  go_wp2_with fail
  refine (after_any _ _ (by omega)).mono ?_
  rintro e w' ⟨rfl, rfl⟩
  go_wp2_with fail
  go_ret
  exact ⟨rfl, below_drewN (Below.refl _ _) _⟩

theorem tells_big (a0 a1 : ByteArray) (h : 10000 < a0.size ∨ 10000 < a1.size) (w : World) :
    Calls Try.prog 4 #[.string a0, .string a1] w fun e w' => e = .returned (.bool true) ∧ Below w.heap.size w w' := by
  by_cases h0 : 10000 < a0.size
  · have d0 : decide ((10000 : Int) < (a0.size : Int)) = true := by simp; omega
    go_enter Try.func4, Try.ntmps4
    go_wp2_with fail
    refine (awake_any _).mono ?_
    rintro e w' ⟨rfl, rfl⟩
    go_wp2_with fail
    go_ret
    exact ⟨rfl, Below.refl _ _⟩
  · have d0 : decide ((10000 : Int) < (a0.size : Int)) = false := by simp; omega
    have d1 : decide ((10000 : Int) < (a1.size : Int)) = true := by simp; omega
    go_enter Try.func4, Try.ntmps4
    go_wp2_with fail
    refine (awake_any _).mono ?_
    rintro e w' ⟨rfl, rfl⟩
    go_wp2_with fail
    go_ret
    exact ⟨rfl, Below.refl _ _⟩

theorem tells_any (a0 a1 : ByteArray) (w : World) :
    Calls Try.prog 4 #[.string a0, .string a1] w fun e w' => e = .returned (.bool true) ∧ Below w.heap.size w w' := by
  by_cases h : 10000 < a0.size ∨ 10000 < a1.size
  · exact tells_big a0 a1 h w
  by_cases hp : cmp a0.data.toList a1.data.toList = -1
  · have hl := com_lt _ _ hp
    have hl' : a1.data.toList.length = a1.size := Array.length_toList
    exact tells_yes a0 a1 _ (by omega) (by omega) _ w (Lib.hid hp) (Lib.hid rfl) (Lib.hid rfl) (by omega)
  · have r := cmp_range a0.data.toList a1.data.toList
    exact tells_no a0 a1 (by omega) (by omega) _ _ w (Lib.hid rfl) (by omega) (Lib.hid rfl)
end Go.Proofs.Ytnlmeeijellfaaa
