/-
  What the laws' first test comes to: true, whatever the world; all that it turns is new.
-/
import Derived.Test.YtildhokanfmabaaWCell
namespace Go.Proofs.Ytildhokanfmabaa
open Go.RowKit
set_option linter.unusedVariables false

theorem Cel.made (w : World) : Cel (w.alloc (.cells #[.int .u64 0] 34)) w.heap.size 0 := ⟨At.new w _, by decide⟩
theorem made_turn (w : World) (o : Obj) (X : Nat → Prop) : Turn X w (w.alloc o) := (Turn.refl _ w).alloc _
theorem Turn.news {w w' : World} {g : Nat} (h : Turn (· = g) w w') (hg : w.heap.size ≤ g) : Turn (fun _ => False) w w' := h.mono fun k hk e => by omega

set_option maxRecDepth 100000 in
theorem awake_any (w : World) : Calls Try.prog 17 #[] w fun e w' => e = .returned (.bool true) ∧ Turn (fun _ => False) w w' := by
  go_enter Try.func17, Try.ntmps17
  have C0 : Hid (Cel (w.alloc (.cells #[.int .u64 0] 34)) w.heap.size 0) := Lib.hid (Cel.made w)
  have T0 : Hid (Turn (· = w.heap.size) w (w.alloc (.cells #[.int .u64 0] 34))) := Lib.hid (made_turn w _ _)
  have X1 : Hid (Calls Try.prog 14 #[.pointer (some ⟨w.heap.size, 0, none⟩)] (w.alloc (.cells #[.int .u64 0] 34)) fun e w' => e = .returned (.tuple #[.int .u64 0, .bool true]) ∧ Cel w' w.heap.size 1 ∧ Turn (· = w.heap.size) (w.alloc (.cells #[.int .u64 0] 34)) w') := Lib.hid (take_yes C0.out rfl)
  go_wp2_with fail
  refine X1.out.mono ?_
  rintro e w1 ⟨rfl, hc, ht⟩
  have C1 := Lib.hid hc
  have T1 := Lib.hid (T0.out.trans ht)
  clear hc ht X1 C0 T0
  have X2 : Hid (Calls Try.prog 14 #[.pointer (some ⟨w.heap.size, 0, none⟩)] w1 fun e w' => e = .returned (.tuple #[.int .u64 1, .bool false]) ∧ w' = w1) := Lib.hid (take_no C1.out rfl)
  go_wp2_with fail
  refine X2.out.mono ?_
  rintro _ q2 ⟨rfl, hq⟩
  have hq := hq.symm
  subst hq
  clear X2
  have X3 : Hid (Calls Try.prog 16 #[.pointer (some ⟨w.heap.size, 0, none⟩)] w1 fun e w' => e = .returned (.int .u64 1) ∧ w' = w1) := Lib.hid (load_any C1.out)
  go_wp2_with fail
  refine X3.out.mono ?_
  rintro _ q3 ⟨rfl, hq⟩
  have hq := hq.symm
  subst hq
  clear X3
  have X4 : Hid (Calls Try.prog 15 #[.pointer (some ⟨w.heap.size, 0, none⟩)] w1 fun e w' => e = .returned (.bool true) ∧ Cel w' w.heap.size 4 ∧ Turn (· = w.heap.size) w1 w') := Lib.hid (give_yes C1.out rfl)
  go_wp2_with fail
  refine X4.out.mono ?_
  rintro e w4 ⟨rfl, hc, ht⟩
  have C4 := Lib.hid hc
  have T4 := Lib.hid (T1.out.trans ht)
  clear hc ht X4 C1 T1
  have X5 : Hid (Calls Try.prog 16 #[.pointer (some ⟨w.heap.size, 0, none⟩)] w4 fun e w' => e = .returned (.int .u64 4) ∧ w' = w4) := Lib.hid (load_any C4.out)
  go_wp2_with fail
  refine X5.out.mono ?_
  rintro _ q5 ⟨rfl, hq⟩
  have hq := hq.symm
  subst hq
  clear X5
  go_wp2_with fail
  go_ret
  exact ⟨rfl, T4.out.news (Nat.le_refl _)⟩
end Go.Proofs.Ytildhokanfmabaa
