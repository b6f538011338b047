/-
  From of a nil node.
-/
import Derived.Test.YtijlcehjlacihaaAlI
namespace Go.Proofs.Ytijlcehjlacihaa
open Go.RowKit Go.Lib
set_option linter.unusedVariables false
set_option maxRecDepth 20000
set_option linter.unusedSimpArgs false

namespace NI

theorem from_nilneg (w : World) (b : Int) (hb : b < 0) : Calls Try.prog 15 #[.pointer none, .int .i64 b] w fun e w' => e = .returned (.tuple #[.int .u8 0, Value.int .i64 0, .bool false]) ∧ Turn No w w' := by
  have CN := Lib.hid (now_nil w)
  have hent : ∀ (args : Array Value) (w : World), (callFunc 63 args).run Try.prog w = .ok (.enter 63 args) w := eLfrom
  have hm := fun g w => mPFOURfrom g w
  go_enter Try.func15, Try.ntmps15
  go_wp2_with (first | (go_at_call 29; (with_reducible refine CN.out.mono ?_); rintro e w1 ⟨g, rfl, hs, ht⟩; have C0 : Hid (Calls Try.prog 63 #[.pointer (some ⟨g, 0, none⟩), .int .i64 0] w1 fun e w' => e = .returned (.tuple #[.int .u8 0, Value.int .i64 0, .bool false]) ∧ Turn No w1 w') := Lib.hid (by obtain ⟨A, B, ca, cb, h⟩ := sh4 hs; exact lfrom_any h (by simp) 0); replace ht := Lib.hid ht) | (go_at_call 63; (with_reducible refine C0.out.mono ?_); rintro e w2 ⟨rfl, h2⟩; replace h2 := Lib.hid h2))
  all_goals go_ret3
  all_goals exact ⟨rfl, ht.out.trans h2.out⟩
theorem from_nilzero (w : World)  : Calls Try.prog 15 #[.pointer none, .int .i64 0] w fun e w' => e = .returned (.tuple #[.int .u8 0, Value.int .i64 0, .bool false]) ∧ Turn No w w' := by
  have CN := Lib.hid (now_nil w)
  have hent : ∀ (args : Array Value) (w : World), (callFunc 63 args).run Try.prog w = .ok (.enter 63 args) w := eLfrom
  have hm := fun g w => mPFOURfrom g w
  go_enter Try.func15, Try.ntmps15
  go_wp2_with (first | (go_at_call 29; (with_reducible refine CN.out.mono ?_); rintro e w1 ⟨g, rfl, hs, ht⟩; have C0 : Hid (Calls Try.prog 63 #[.pointer (some ⟨g, 0, none⟩), .int .i64 0] w1 fun e w' => e = .returned (.tuple #[.int .u8 0, Value.int .i64 0, .bool false]) ∧ Turn No w1 w') := Lib.hid (by obtain ⟨A, B, ca, cb, h⟩ := sh4 hs; exact lfrom_any h (by simp) 0); replace ht := Lib.hid ht) | (go_at_call 63; (with_reducible refine C0.out.mono ?_); rintro e w2 ⟨rfl, h2⟩; replace h2 := Lib.hid h2))
  all_goals go_ret3
  all_goals exact ⟨rfl, ht.out.trans h2.out⟩
theorem from_nilpos (w : World) (n : Nat) (hn : 0 < n) : Calls Try.prog 15 #[.pointer none, .int .i64 (n : Int)] w fun e w' => e = .returned (.tuple #[.int .u8 0, Value.int .i64 0, .bool false]) ∧ Turn No w w' := by
  have CN := Lib.hid (now_nil w)
  have hent : ∀ (args : Array Value) (w : World), (callFunc 63 args).run Try.prog w = .ok (.enter 63 args) w := eLfrom
  have hm := fun g w => mPFOURfrom g w
  have hn1 : ¬ ((n : Int) < 0) := by omega
  have hn2 : (0 : Int) < (n : Int) := by omega
  go_enter Try.func15, Try.ntmps15
  go_wp2_with (first | (go_at_call 29; (with_reducible refine CN.out.mono ?_); rintro e w1 ⟨g, rfl, hs, ht⟩; have C0 : Hid (Calls Try.prog 63 #[.pointer (some ⟨g, 0, none⟩), .int .i64 (n : Int)] w1 fun e w' => e = .returned (.tuple #[.int .u8 0, Value.int .i64 0, .bool false]) ∧ Turn No w1 w') := Lib.hid (by obtain ⟨A, B, ca, cb, h⟩ := sh4 hs; exact lfrom_any h (by simp) n); replace ht := Lib.hid ht) | (go_at_call 63; (with_reducible refine C0.out.mono ?_); rintro e w2 ⟨rfl, h2⟩; replace h2 := Lib.hid h2))
  all_goals go_ret3
  all_goals exact ⟨rfl, ht.out.trans h2.out⟩
theorem from_nil (w : World) (b : Int) : Calls Try.prog 15 #[.pointer none, .int .i64 b] w fun e w' => e = .returned (.tuple #[.int .u8 0, Value.int .i64 0, .bool false]) ∧ Turn No w w' := by
  rcases Int.lt_trichotomy b 0 with hb | hb | hb
  · exact from_nilneg w b hb
  · subst hb; exact from_nilzero w
  · obtain ⟨n, rfl⟩ : ∃ n : Nat, b = (n : Int) := ⟨b.toNat, by omega⟩
    exact from_nilpos w n (by omega)
end NI
end Go.Proofs.Ytijlcehjlacihaa
