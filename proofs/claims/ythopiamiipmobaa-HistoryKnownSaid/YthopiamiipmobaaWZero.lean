/-
  isZero and bare: whether an operation is none.
-/
import Derived.Test.YthopiamiipmobaaWOp
import Derived.Test.YthopiamiipmobaaKn
namespace Go.Proofs.Ythopiamiipmobaa
open Go.RowKit Go.Lib
set_option linter.unusedVariables false
set_option linter.unusedSimpArgs false


set_option maxHeartbeats 1000000 in
theorem iszero_any (kind : Int) (k v o : ByteArray) (had aft : Bool) (A : Option Addr) (len cap : Nat) (w : World) :
    Calls Try.prog 38 #[.agg #[.int .u8 kind, .string k, .string v, .string o, .bool had, .bool aft, .slice A len cap]] w fun e w' =>
      e = .returned (.bool (zeroB kind k v o had aft len)) ∧ Turn No w w' := by
  go_enter Try.func38, Try.ntmps38
  go_wp2_with fail
  all_goals
    go_ret
    refine ⟨?_, (Turn.refl _ _).alloc _⟩
    simp_all [zeroB]

set_option maxHeartbeats 1000000 in
theorem bare_any (kind : Int) (k v o : ByteArray) (had aft : Bool) (A : Option Addr) (len cap : Nat) (w : World) :
    Calls Try.prog 31 #[.agg #[.int .u8 kind, .string k, .string v, .string o, .bool had, .bool aft, .slice A len cap]] w fun e w' =>
      e = .returned (.bool (zeroB kind k v o had aft len)) ∧ Turn No w w' := by
  go_enter Try.func31, Try.ntmps31
  go_wp2_with fail
  all_goals
    go_ret
    refine ⟨?_, (Turn.refl _ _).alloc _⟩
    simp_all [zeroB]
end Go.Proofs.Ythopiamiipmobaa
