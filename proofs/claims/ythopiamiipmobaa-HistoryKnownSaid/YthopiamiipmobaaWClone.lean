/-
  strings.Clone, cloneAnswer: what they give, and that they make new memory alone.
-/
import Derived.Test.YthopiamiipmobaaProg
import Derived.Test.YthopiamiipmobaaShelf
import Derived.Test.YthopiamiipmobaaEvs
import Derived.WalkKit
import Derived.WalkSpells
import Derived.WalkLawsBesides
import Derived.Deep.QuietTactic
import Derived.Deep.RegionHeld3
import Derived.BigQuiet
import Derived.Deep.Cut
import Derived.Deep.CutBlock
import Derived.Lib.Hide
namespace Go.Proofs.Ythopiamiipmobaa
open Go.RowKit
set_option linter.unusedVariables false

theorem below_of_drewN {B : Nat} {w w' : World} {n : Nat} (h : Below B (w.drewN n) w') : Below B w w' := ⟨h.os, h.tape, h.output, h.size, h.block⟩
theorem below_drewN {B : Nat} {a w : World} (h : Below B a w) (n : Nat) : Below B a (w.drewN n) := ⟨h.os, h.tape, h.output, h.size, h.block⟩

/-- strings.Clone -/
theorem clone_any (a : ByteArray) (w : World) (h : a.size ≤ 140737488355328) :
    Calls Try.prog 41 #[.string a] w fun e w' => e = .returned (.string a) ∧ Below w.heap.size w w' := by
  go_enter Try.func41, Try.ntmps41
  go_wp2_with (go_at_call 42; refine (Try.stringslite_Clone _ _ (by omega)).mono ?_; rintro e w' ⟨rfl, hb⟩)
  go_ret
  exact ⟨rfl, hb⟩


theorem clone_turn (a : ByteArray) (hf : Fit a) {X : Nat → Prop} {w0 : World} (w : World) (h : Turn X w0 w) :
    Calls Try.prog 41 #[.string a] w fun e w' => e = .returned (.string a) ∧ Turn (fun _ => False) w w' ∧ Turn X w0 w' := by
  refine (clone_any a w hf).mono ?_
  rintro e w' ⟨rfl, hb⟩
  exact ⟨rfl, Turn.of_below hb, h.trans (Turn.of_below hb)⟩
end Go.Proofs.Ythopiamiipmobaa
