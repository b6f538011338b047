/-
  HistoryOrder's walk, whatever the row.
-/
import Derived.Test.YthopiamiipmobaaWOrder
import Derived.Test.YthopiamiipmobaaWOrdE
import Derived.Below
namespace Go.Proofs.Ythopiamiipmobaa
open Go.RowKit Go.Lib
theorem Turn.bel {w w' : World} (h : Turn No w w') : Below w.heap.size w w' := h.below (Nat.le_refl _) fun _ _ h => h
theorem order_law (A : Option Addr) (len cap : Nat) (l : List Ev) (ps : List (List Wr)) (w : World) (h : Inp w A len cap l ps) :
    Calls Try.prog 5 #[.slice A len cap] w fun r w' => r = .returned (.bool true) ∧ Below w.heap.size w w' := by
  have main : Calls Try.prog 5 #[.slice A len cap] w fun r w' => r = .returned (.bool true) ∧ Turn No w w' := by
    by_cases h0 : len = 0
    · subst h0
      match A with
      | none => exact order_none cap w
      | some ⟨b, o, sp⟩ => exact order_spot b o sp cap w
    · obtain ⟨e, he⟩ : ∃ e, l[0]? = some e := ⟨l[0]'(by have := h.hlen; omega), List.getElem?_eq_getElem _⟩
      obtain ⟨b, o, rfl, _⟩ := h.row.ev he
      exact order_row b o len cap l ps w h
  exact main.mono fun e w' h => ⟨h.1, h.2.bel⟩
end Go.Proofs.Ythopiamiipmobaa
