/-
  State, whatever the row.
-/
import Derived.Test.YthopiamiipmobaaWStA
import Derived.Test.YthopiamiipmobaaWStB
import Derived.Test.YthopiamiipmobaaWStC
namespace Go.Proofs.Ythopiamiipmobaa
open Go.RowKit Go.Lib
set_option linter.unusedVariables false

theorem state_any (id0 : Int) (l : List Ev) (ps : List (List Wr)) (A : Option Addr) (cap : Nat) (w : World) (hR : Row w A (ecs l)) (hW : Rws w l ps) (hl : l.length ≤ 100000) :
    Calls Try.prog 20 #[.slice A l.length cap, .int .i64 id0] w fun r w' => ∃ o : Opx, r = .returned (.tuple #[o.val, (stA l id0).val, .int .i64 (stN l id0)]) ∧ Turn No w w' ∧ o.pure = stO l id0 ∧ w'.ownsRow w.heap.size 53 3 (.slice o.A o.len o.cap) o.len (wcs (stW l ps id0)) := by
  cases h1 : firstAt 1 id0 l with
  | none =>
    have e : stN l id0 = 0 := by simp [stN, h1]
    rw [e]
    cases h2 : firstAt 2 id0 l with
    | none => exact state_000 id0 l ps A cap w hR hW hl h1 h2
    | some m => exact state_010 id0 l ps A cap w hR hW hl m h1 h2
  | some n =>
    cases h2 : firstAt 2 id0 l with
    | none =>
      have e : stN l id0 = 1 := by simp [stN, h1, h2]
      rw [e]
      exact state_100 id0 l ps A cap w hR hW hl n h1 h2
    | some m =>
      cases h3 : firstAt 3 id0 l with
      | none =>
        have e : stN l id0 = 2 := by simp [stN, h1, h2, h3]
        rw [e]
        exact state_110 id0 l ps A cap w hR hW hl n m h1 h2 h3
      | some q =>
        have e : stN l id0 = 3 := by simp [stN, h1, h2, h3]
        rw [e]
        exact state_111 id0 l ps A cap w hR hW hl n m q h1 h2 h3
end Go.Proofs.Ythopiamiipmobaa
