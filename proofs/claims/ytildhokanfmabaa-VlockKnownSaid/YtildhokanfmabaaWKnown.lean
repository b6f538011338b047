/-
  VlockKnown, walked.
-/
import Derived.Test.YtildhokanfmabaaWAwake
namespace Go.Proofs.Ytildhokanfmabaa
open Go.RowKit
set_option linter.unusedVariables false

set_option maxRecDepth 100000 in
theorem known_any (w : World) : Calls Try.prog 3 #[] w fun e w' => e = .returned (.bool true) ∧ Below w.heap.size w w' := by
  go_enter Try.func3, Try.ntmps3
  have X1 : Hid (Calls Try.prog 9 #[.int .u64 8] w fun e w' => e = .returned (.tuple #[.int .u64 8, .bool true]) ∧ w' = w) := Lib.hid (begin_any 8 (by decide) w)
  go_wp2_with fail
  refine X1.out.mono ?_
  rintro _ q1 ⟨rfl, hq⟩
  have hq := hq.symm
  subst hq
  clear X1
  have X2 : Hid (Calls Try.prog 9 #[.int .u64 9] w fun e w' => e = .returned (.tuple #[.int .u64 0, .bool false]) ∧ w' = w) := Lib.hid (begin_any 9 (by decide) w)
  go_wp2_with fail
  refine X2.out.mono ?_
  rintro _ q2 ⟨rfl, hq⟩
  have hq := hq.symm
  subst hq
  clear X2
  have X3 : Hid (Calls Try.prog 9 #[.int .u64 10] w fun e w' => e = .returned (.tuple #[.int .u64 0, .bool false]) ∧ w' = w) := Lib.hid (begin_any 10 (by decide) w)
  go_wp2_with fail
  refine X3.out.mono ?_
  rintro _ q3 ⟨rfl, hq⟩
  have hq := hq.symm
  subst hq
  clear X3
  have X4 : Hid (Calls Try.prog 10 #[.int .u64 8] w fun e w' => e = .returned (.tuple #[.int .u64 9, .bool true]) ∧ w' = w) := Lib.hid (lock_any 8 (by decide) w)
  go_wp2_with fail
  refine X4.out.mono ?_
  rintro _ q4 ⟨rfl, hq⟩
  have hq := hq.symm
  subst hq
  clear X4
  have X5 : Hid (Calls Try.prog 10 #[.int .u64 9] w fun e w' => e = .returned (.tuple #[.int .u64 9, .bool false]) ∧ w' = w) := Lib.hid (lock_any 9 (by decide) w)
  go_wp2_with fail
  refine X5.out.mono ?_
  rintro _ q5 ⟨rfl, hq⟩
  have hq := hq.symm
  subst hq
  clear X5
  have X6 : Hid (Calls Try.prog 11 #[.int .u64 8, .int .u64 8] w fun e w' => e = .returned (.bool true) ∧ w' = w) := Lib.hid (valid_any 8 8 (by decide) w)
  go_wp2_with fail
  refine X6.out.mono ?_
  rintro _ q6 ⟨rfl, hq⟩
  have hq := hq.symm
  subst hq
  clear X6
  have X7 : Hid (Calls Try.prog 11 #[.int .u64 12, .int .u64 8] w fun e w' => e = .returned (.bool false) ∧ w' = w) := Lib.hid (valid_any 12 8 (by decide) w)
  go_wp2_with fail
  refine X7.out.mono ?_
  rintro _ q7 ⟨rfl, hq⟩
  have hq := hq.symm
  subst hq
  clear X7
  have X8 : Hid (Calls Try.prog 12 #[.int .u64 9] w fun e w' => e = .returned (.int .u64 12) ∧ w' = w) := Lib.hid (unlock_any 9 (by decide) w)
  go_wp2_with fail
  refine X8.out.mono ?_
  rintro _ q8 ⟨rfl, hq⟩
  have hq := hq.symm
  subst hq
  clear X8
  have X9 : Hid (Calls Try.prog 12 #[.int .u64 8] w fun e w' => e = .returned (.int .u64 8) ∧ w' = w) := Lib.hid (unlock_any 8 (by decide) w)
  go_wp2_with fail
  refine X9.out.mono ?_
  rintro _ q9 ⟨rfl, hq⟩
  have hq := hq.symm
  subst hq
  clear X9
  have X10 : Hid (Calls Try.prog 13 #[.int .u64 9] w fun e w' => e = .returned (.int .u64 14) ∧ w' = w) := Lib.hid (kill_any 9 (by decide) w)
  go_wp2_with fail
  refine X10.out.mono ?_
  rintro _ q10 ⟨rfl, hq⟩
  have hq := hq.symm
  subst hq
  clear X10
  have X11 : Hid (Calls Try.prog 13 #[.int .u64 8] w fun e w' => e = .returned (.int .u64 14) ∧ w' = w) := Lib.hid (kill_any 8 (by decide) w)
  go_wp2_with fail
  refine X11.out.mono ?_
  rintro _ q11 ⟨rfl, hq⟩
  have hq := hq.symm
  subst hq
  clear X11
  have C0 : Hid (Cel (w.alloc (.cells #[.int .u64 0] 34)) w.heap.size 0) := Lib.hid (Cel.made w)
  have T0 : Hid (Turn (· = w.heap.size) w (w.alloc (.cells #[.int .u64 0] 34))) := Lib.hid (made_turn w _ _)
  have X12 : Hid (Calls Try.prog 14 #[.pointer (some ⟨w.heap.size, 0, none⟩)] (w.alloc (.cells #[.int .u64 0] 34)) fun e w' => e = .returned (.tuple #[.int .u64 0, .bool true]) ∧ Cel w' w.heap.size 1 ∧ Turn (· = w.heap.size) (w.alloc (.cells #[.int .u64 0] 34)) w') := Lib.hid (take_yes C0.out rfl)
  go_wp2_with fail
  refine X12.out.mono ?_
  rintro e w12 ⟨rfl, hc, ht⟩
  have C12 := Lib.hid hc
  have T12 := Lib.hid (T0.out.trans ht)
  clear hc ht X12 C0 T0
  have X13 : Hid (Calls Try.prog 14 #[.pointer (some ⟨w.heap.size, 0, none⟩)] w12 fun e w' => e = .returned (.tuple #[.int .u64 1, .bool false]) ∧ w' = w12) := Lib.hid (take_no C12.out rfl)
  go_wp2_with fail
  refine X13.out.mono ?_
  rintro _ q13 ⟨rfl, hq⟩
  have hq := hq.symm
  subst hq
  clear X13
  have X14 : Hid (Calls Try.prog 15 #[.pointer (some ⟨w.heap.size, 0, none⟩)] w12 fun e w' => e = .returned (.bool true) ∧ Cel w' w.heap.size 4 ∧ Turn (· = w.heap.size) w12 w') := Lib.hid (give_yes C12.out rfl)
  go_wp2_with fail
  refine X14.out.mono ?_
  rintro e w14 ⟨rfl, hc, ht⟩
  have C14 := Lib.hid hc
  have T14 := Lib.hid (T12.out.trans ht)
  clear hc ht X14 C12 T12
  have X15 : Hid (Calls Try.prog 16 #[.pointer (some ⟨w.heap.size, 0, none⟩)] w14 fun e w' => e = .returned (.int .u64 4) ∧ w' = w14) := Lib.hid (load_any C14.out)
  go_wp2_with fail
  refine X15.out.mono ?_
  rintro _ q15 ⟨rfl, hq⟩
  have hq := hq.symm
  subst hq
  clear X15
  have X16 : Hid (Calls Try.prog 14 #[.pointer (some ⟨w.heap.size, 0, none⟩)] w14 fun e w' => e = .returned (.tuple #[.int .u64 4, .bool true]) ∧ Cel w' w.heap.size 5 ∧ Turn (· = w.heap.size) w14 w') := Lib.hid (take_yes C14.out rfl)
  go_wp2_with fail
  refine X16.out.mono ?_
  rintro e w16 ⟨rfl, hc, ht⟩
  have C16 := Lib.hid hc
  have T16 := Lib.hid (T14.out.trans ht)
  clear hc ht X16 C14 T14
  have AW := Lib.hid (awake_any w16)
  go_wp2_with fail
  refine AW.out.mono ?_
  rintro e wa ⟨rfl, ht⟩
  have C99 := Lib.hid (C16.out.turn ht (fun h => h))
  have T99 := Lib.hid (T16.out.then ht (fun i hi h => h.elim))
  clear ht AW C16 T16
  have X17 : Hid (Calls Try.prog 18 #[.pointer (some ⟨w.heap.size, 0, none⟩)] wa fun e w' => e = .returned (.bool true) ∧ Cel w' w.heap.size 10 ∧ Turn (· = w.heap.size) wa w') := Lib.hid (end_yes C99.out rfl)
  go_wp2_with fail
  refine X17.out.mono ?_
  rintro e w17 ⟨rfl, hc, ht⟩
  have C17 := Lib.hid hc
  have T17 := Lib.hid (T99.out.trans ht)
  clear hc ht X17 C99 T99
  have X18 : Hid (Calls Try.prog 16 #[.pointer (some ⟨w.heap.size, 0, none⟩)] w17 fun e w' => e = .returned (.int .u64 10) ∧ w' = w17) := Lib.hid (load_any C17.out)
  go_wp2_with fail
  refine X18.out.mono ?_
  rintro _ q18 ⟨rfl, hq⟩
  have hq := hq.symm
  subst hq
  clear X18
  have X19 : Hid (Calls Try.prog 15 #[.pointer (some ⟨w.heap.size, 0, none⟩)] w17 fun e w' => e = .returned (.bool false) ∧ w' = w17) := Lib.hid (give_no C17.out rfl)
  go_wp2_with fail
  refine X19.out.mono ?_
  rintro _ q19 ⟨rfl, hq⟩
  have hq := hq.symm
  subst hq
  clear X19
  have X20 : Hid (Calls Try.prog 18 #[.pointer (some ⟨w.heap.size, 0, none⟩)] w17 fun e w' => e = .returned (.bool false) ∧ w' = w17) := Lib.hid (end_no C17.out rfl)
  go_wp2_with fail
  refine X20.out.mono ?_
  rintro _ q20 ⟨rfl, hq⟩
  have hq := hq.symm
  subst hq
  clear X20
  go_wp2_with fail
  go_ret
  exact ⟨rfl, (T17.out.news (Nat.le_refl _)).below (Nat.le_refl _) (fun _ _ h => h)⟩
end Go.Proofs.Ytildhokanfmabaa
