/-
  HistoryOrder's walk, where there is no event.
-/
import Derived.Test.YthopiamiipmobaaRt
import Derived.Test.YthopiamiipmobaaWGreat
import Derived.Test.YthopiamiipmobaaArgs
namespace Go.Proofs.Ythopiamiipmobaa
open Go.RowKit Go.Lib
set_option linter.unusedVariables false
set_option linter.unusedSimpArgs false

theorem check_empty (A : Option Addr) (cap : Nat) (w : World) : Calls Try.prog 18 #[.slice A 0 cap] w fun r w' => r = .returned (.tuple #[.int .i64 (-1), .int .i64 0]) ∧ Turn No w w' := by
  refine (check_any [] A cap w (by simpa [ecs] using Row.nil w A) (by simp) (by simp)).mono ?_
  rintro e w' ⟨a, c, rfl, hc, ht⟩
  obtain ⟨rfl, rfl⟩ := hc.of_right .nil
  exact ⟨rfl, ht⟩
theorem great_empty (A : Option Addr) (cap : Nat) (w : World) : Calls Try.prog 8 #[.slice A 0 cap] w fun r w' => w' = w ∧ ∃ b, r = .returned (.bool b) := by
  refine (great_any [] A cap w (by simpa [ecs] using Row.nil w A) (by simp) (by simp)).mono ?_
  rintro e w' ⟨rfl, h | ⟨h, _⟩⟩
  · exact ⟨rfl, _, h⟩
  · exact ⟨rfl, _, h⟩
theorem marks_empty (A : Option Addr) (cap : Nat) (w : World) : Calls Try.prog 23 #[.slice A 0 cap] w fun r w' => ∃ B c, r = .returned (.slice B 0 c) ∧ Turn No w w' := by
  refine (marks_any [] A cap w (by simpa [ecs] using Row.nil w A) (by simp)).mono ?_
  rintro e w' ⟨B, c, rfl, hi⟩
  exact ⟨B, c, rfl, hi.tu⟩
set_option maxHeartbeats 1000000 in
set_option maxRecDepth 100000 in
theorem order_none (cap : Nat) (w : World) : Calls Try.prog 5 #[.slice none 0 cap] w fun r w' => r = .returned (.bool true) ∧ Turn No w w' := by
  have CW := Lib.hid wakes_any
  have CG := Lib.hid (great_empty none cap w)
  have CC : Hid (∀ W A c, Calls Try.prog 18 #[.slice A 0 c] W fun r w' => r = .returned (.tuple #[.int .i64 (-1), .int .i64 0]) ∧ Turn No W w') := Lib.hid fun W A c => check_empty A c W
  have CM := Lib.hid (marks_empty none cap)
  go_enter Try.func5, Try.ntmps5
  go_upto_if 15 with (go_at_call 8; refine CG.out.mono ?_; rintro e w1 ⟨rfl, b, rfl⟩; cases b)
  case false =>
    go_upto_region 9 with (go_at_call 18; refine (CC.out _ _ _).mono ?_; rintro e w2 ⟨rfl, ht⟩; have HT := Lib.hid ht; clear ht)
    go_loopw [5] (fun i wr => ∃ kk : Nat, kk ≤ 1 ∧ i = .int .i64 (kk : Int) ∧ Hid (Turn No w1 wr)) (fun i _ => 1 - (RowKit.intOf i).toNat)
    case atStart => exact ⟨0, Nat.zero_le _, rfl, HT⟩
    case round =>
      obtain ⟨kk, hk, rfl, HP⟩ := hrel
      clear HT
      by_cases hk0 : kk = 0
      · subst hk0
        go_wp2_with (go_at_call 18; refine (CC.out _ _ _).mono ?_; rintro e w3 ⟨rfl, ht⟩; have HT := Lib.hid (HP.out.trans ht); clear ht)
        exact ⟨⟨1, Nat.le_refl _, rfl, HT⟩, by simp [RowKit.intOf]⟩
      · obtain rfl : kk = 1 := by omega
        go_upto_region 16 with (go_at_call 23; refine (CM.out _).mono ?_; rintro e w3 ⟨B, c, rfl, ht⟩; have HT := Lib.hid (HP.out.trans ht); clear ht)
        go_loopw [9] (fun i wr => i = .int .i64 0 ∧ Hid (Turn No w1 wr)) (fun _ _ => 0)
        case atStart => exact ⟨rfl, HT⟩
        case round =>
          obtain ⟨rfl, HQ⟩ := hrel
          clear HT
          go_wp2_with (go_at_call 9; refine (CW.out _).mono ?_; rintro e w5 ⟨rfl, ht⟩; have HT := Lib.hid (HQ.out.trans ht); clear ht)
          go_ret
          exact ⟨rfl, HT.out⟩
  · go_wp2_with (go_at_call 9; refine (CW.out _).mono ?_; rintro e w2 ⟨rfl, ht⟩; have HT := Lib.hid ht; clear ht)
    go_ret
    exact ⟨rfl, HT.out⟩
set_option maxHeartbeats 1000000 in
set_option maxRecDepth 100000 in
theorem order_spot (b0 off : Nat) (sp : Option Nat) (cap : Nat) (w : World) : Calls Try.prog 5 #[.slice (some ⟨b0, off, sp⟩) 0 cap] w fun r w' => r = .returned (.bool true) ∧ Turn No w w' := by
  have CW := Lib.hid wakes_any
  have CG := Lib.hid (great_empty (some ⟨b0, off, sp⟩) cap w)
  have CC : Hid (∀ W A c, Calls Try.prog 18 #[.slice A 0 c] W fun r w' => r = .returned (.tuple #[.int .i64 (-1), .int .i64 0]) ∧ Turn No W w') := Lib.hid fun W A c => check_empty A c W
  have CM := Lib.hid (marks_empty (some ⟨b0, off, sp⟩) cap)
  go_enter Try.func5, Try.ntmps5
  go_upto_if 15 with (go_at_call 8; refine CG.out.mono ?_; rintro e w1 ⟨rfl, b, rfl⟩; cases b)
  case false =>
    go_upto_region 9 with (go_at_call 18; refine (CC.out _ _ _).mono ?_; rintro e w2 ⟨rfl, ht⟩; have HT := Lib.hid ht; clear ht)
    go_loopw [5] (fun i wr => ∃ kk : Nat, kk ≤ 1 ∧ i = .int .i64 (kk : Int) ∧ Hid (Turn No w1 wr)) (fun i _ => 1 - (RowKit.intOf i).toNat)
    case atStart => exact ⟨0, Nat.zero_le _, rfl, HT⟩
    case round =>
      obtain ⟨kk, hk, rfl, HP⟩ := hrel
      clear HT
      by_cases hk0 : kk = 0
      · subst hk0
        go_wp2_with (go_at_call 18; refine (CC.out _ _ _).mono ?_; rintro e w3 ⟨rfl, ht⟩; have HT := Lib.hid (HP.out.trans ht); clear ht)
        exact ⟨⟨1, Nat.le_refl _, rfl, HT⟩, by simp [RowKit.intOf]⟩
      · obtain rfl : kk = 1 := by omega
        go_upto_region 16 with (go_at_call 23; refine (CM.out _).mono ?_; rintro e w3 ⟨B, c, rfl, ht⟩; have HT := Lib.hid (HP.out.trans ht); clear ht)
        go_loopw [9] (fun i wr => i = .int .i64 0 ∧ Hid (Turn No w1 wr)) (fun _ _ => 0)
        case atStart => exact ⟨rfl, HT⟩
        case round =>
          obtain ⟨rfl, HQ⟩ := hrel
          clear HT
          go_wp2_with (go_at_call 9; refine (CW.out _).mono ?_; rintro e w5 ⟨rfl, ht⟩; have HT := Lib.hid (HQ.out.trans ht); clear ht)
          go_ret
          exact ⟨rfl, HT.out⟩
  · go_wp2_with (go_at_call 9; refine (CW.out _).mono ?_; rintro e w2 ⟨rfl, ht⟩; have HT := Lib.hid ht; clear ht)
    go_ret
    exact ⟨rfl, HT.out⟩
end Go.Proofs.Ythopiamiipmobaa
