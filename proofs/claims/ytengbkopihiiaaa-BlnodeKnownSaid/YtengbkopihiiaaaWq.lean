/-
  A drawn region whose callees make memory, and leave what is there.
-/
import Derived.Test.YtengbkopihiiaaaHp
import Derived.BigQuiet
namespace Go.Proofs.Ytengbkopihiiaaa
open Go.RowKit Go.Lib
set_option linter.unusedVariables false
set_option maxRecDepth 20000
set_option linter.unusedSimpArgs false

/-- A world that is w but for new blocks. -/
structure Wx (w : World) where
  wr : World
  t : Turn No w wr

instance (w : World) : Nonempty (Wx w) := ⟨⟨w, Turn.refl _ w⟩⟩

/-- A region whose operations leave all that was there as it was: one walk, in the order of the text. -/
theorem wp_region_wx {P : Program} {id : Nat} {Q : Exit → Act → World → Prop} {a : Act} {w w0 : World} {l : List Oper} (hm : P.follows .mixedOrders = true) (hB : Region.lexB .any l.toArray = true)
    (hC : Turn No w0 w)
    (h : wpQuiet P l.toArray (fun w' => ∃ n : Wx w0, w' = n.wr) (fun a' => ∀ w', (∃ n : Wx w0, w' = n.wr) → Q .normal a' w') l a) : (Code.region id l.toArray true).wp P Q a w :=
  wp_region_quiet (C := fun w' => ∃ n : Wx w0, w' = n.wr) hm hB ⟨⟨w.drew, hC.drew⟩, rfl⟩ (by simpa using h)
theorem quietWx {P : Program} {w0 : World} {f : Nat} {args : Array Value} {n : Wx w0} {v : Value} (h : Calls P f args n.wr fun e w' => e = .returned v ∧ Turn No n.wr w') : Calls P f args n.wr fun e w'' => e = .returned v ∧ ∃ m : Wx w0, w'' = m.wr :=
  h.mono fun _ w' ⟨he, t⟩ => ⟨he, ⟨w', n.t.trans t⟩, rfl⟩
/-- An answer that says whether p holds. -/
theorem quietB {P : Program} {w0 : World} {f : Nat} {args : Array Value} {n : Wx w0} {p : Prop} {b : Bool} (hb : b = true ↔ p) (h : Calls P f args n.wr fun e w' => BRes p n.wr e w') : Calls P f args n.wr fun e w'' => e = .returned (.bool b) ∧ ∃ m : Wx w0, w'' = m.wr :=
  h.mono fun _ w' ⟨c, he, hc, t⟩ => ⟨by rw [he]; congr 2; exact Bool.eq_iff_iff.2 (hc.trans hb.symm), ⟨w', n.t.trans t⟩, rfl⟩
end Go.Proofs.Ytengbkopihiiaaa
