/-
  The list's methods.
-/
import Derived.Test.YtijlcehjlacihaaWdI
namespace Go.Proofs.Ytijlcehjlacihaa
open Go.RowKit Go.Lib
set_option linter.unusedVariables false
set_option maxRecDepth 20000
set_option linter.unusedSimpArgs false

namespace NI

theorem getV_of (o : Option Int) : getV o = .tuple #[Value.int .i64 (o.getD 0), .bool o.isSome] := rfl
theorem vcs_at {w : World} {B : Option Addr} {L : List (Nat × Int)} (h : Row w B (ics (vsC L))) {j : Nat} {p : Nat × Int} (hj : L[j]? = some p) : ∃ b o, B = some ⟨b, o, none⟩ ∧ w.cell? ⟨b, o + j, none⟩ = some (Value.int .i64 p.2) := ics_get h (vs_get hj)
section
variable {w : World} {Z : Dom} {t : TypeId} {g : Nat} {L : List (Nat × Int)} {A B : Option Addr} {ca cb : Nat}
set_option maxHeartbeats 1000000 in
theorem lget_any (h : Lst w Z t g L A B ca cb) (hn : L.length ≤ 1000) (b : Nat) :
    Calls Try.prog 64 #[.pointer (some ⟨g, 0, none⟩), .int .u8 (b : Int)] w fun e w' => e = .returned (getV (getC L b)) ∧ Turn No w w' := by
  have HB := Lib.hid (bs_no L h.asc A ca b w (row_of_own h.bs) (by omega))
  have HL := Lib.hid h
  have c0 := h.at_.cell 0
  simp at c0
  have hO : Hid (∀ y, getC L b = some y → (lowC L b).length < L.length ∧ L[(lowC L b).length]? = some (b, y)) := Lib.hid fun y hg => low_lt h.asc hg
  clear h
  obtain ⟨n, hnn⟩ : ∃ n, L.length = n := ⟨_, rfl⟩
  rw [hnn] at c0 HB
  have HN := Lib.hid hnn
  clear hnn hn
  cases hg : getC L b with
  | none =>
    rw [hg] at HB
    clear hO hg
    go_enter Try.func64, Try.ntmps64
    go_wp2_with (go_at_call 67; (with_reducible refine HB.out.mono ?_); rintro e w1 ⟨rfl, ht⟩; replace ht := Lib.hid ht)
    go_ret2
    exact ⟨rfl, ht.out⟩
  | some y =>
    rw [hg] at HB
    obtain ⟨h1, h2⟩ := hO.out y hg
    clear hO hg
    obtain ⟨i, hi⟩ : ∃ i, (lowC L b).length = i := ⟨_, rfl⟩
    rw [hi] at h1 h2 HB
    rw [HN.out] at h1
    obtain ⟨bb, o, hB, c2⟩ := vcs_at (row_of_own HL.out.xs) h2
    subst hB
    have c1 := HL.out.at_.cell 1
    rw [HN.out] at c1
    simp at c1 c2
    have C2 := Lib.hid c2
    have C1 := Lib.hid c1
    have HC := Lib.hid fun (W : World) (a : Addr) (u : Value) (T : Turn No w W) (hc : w.cell? a = some u) => (show W.cell? a = some u from by
      have hlt : a.block < w.heap.size := by
        unfold World.cell? at hc
        cases hh : w.heap[a.block]? with
        | none => rw [hh] at hc; cases hc
        | some o => exact (Array.getElem?_eq_some_iff.1 hh).1
      rw [World.cell?_of_block (T.block _ hlt (fun h => h))]; exact hc)
    clear h2 c1 c2 hi
    go_enter Try.func64, Try.ntmps64
    go_wp2_with (go_at_call 67; (with_reducible refine HB.out.mono ?_); rintro e w1 ⟨rfl, ht⟩; have d1 := HC.out w1 _ _ ht C1.out; have d2 := HC.out w1 _ _ ht C2.out; replace ht := Lib.hid ht)
    go_ret2
    exact ⟨rfl, ht.out⟩
theorem llen_any (h : Lst w Z t g L A B ca cb) : Calls Try.prog 65 #[.pointer (some ⟨g, 0, none⟩)] w fun e w' => e = .returned (.int .i64 (L.length : Int)) ∧ w' = w := by
  have c0 := h.at_.cell 0
  simp at c0
  clear h
  go_enter Try.func65, Try.ntmps65
  go_wp2
  go_ret
  exact ⟨rfl, rfl⟩
end
end NI
end Go.Proofs.Ytijlcehjlacihaa
