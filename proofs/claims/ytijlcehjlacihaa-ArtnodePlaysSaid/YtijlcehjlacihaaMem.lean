/-
  Words on memory: worlds that part in some blocks alone; a block known whole.
-/
import Derived.Below
import Derived.Laws.Rows
import Derived.Deep.Draws
import Derived.WalkKit
import Derived.Lib.Hide
namespace Go.Proofs.Ytijlcehjlacihaa
open Go.RowKit Go.Lib
set_option linter.unusedVariables false
set_option maxRecDepth 20000

/-- w' is w but for the blocks of X, and for new ones. -/
structure Turn (X : Nat → Prop) (w w' : World) : Prop where
  os : w'.os = w.os
  tape : w'.tape = w.tape
  output : w'.output = w.output
  size : w.heap.size ≤ w'.heap.size
  block : ∀ k, k < w.heap.size → ¬ X k → w'.heap[k]? = w.heap[k]?

theorem Turn.refl (X : Nat → Prop) (w : World) : Turn X w w := ⟨rfl, rfl, rfl, Nat.le_refl _, fun _ _ _ => rfl⟩
theorem Turn.then {X Y : Nat → Prop} {a b c : World} (h : Turn X a b) (k : Turn Y b c) (hs : ∀ i, i < a.heap.size → Y i → X i) : Turn X a c :=
  ⟨k.os.trans h.os, k.tape.trans h.tape, k.output.trans h.output, Nat.le_trans h.size k.size, fun i hi hn => (k.block i (Nat.lt_of_lt_of_le hi h.size) (fun hy => hn (hs i hi hy))).trans (h.block i hi hn)⟩
theorem Turn.trans {X : Nat → Prop} {a b c : World} (h : Turn X a b) (k : Turn X b c) : Turn X a c := h.then k fun _ _ hx => hx
theorem Turn.mono {X Y : Nat → Prop} {w w' : World} (h : Turn X w w') (hs : ∀ k, k < w.heap.size → X k → Y k) : Turn Y w w' :=
  (Turn.refl Y w).then h hs
theorem Turn.alloc {X : Nat → Prop} {a w : World} (h : Turn X a w) (o : Obj) : Turn X a (w.alloc o) :=
  h.trans ⟨rfl, rfl, rfl, by simp, fun k hk _ => Below.heap_alloc _ _ _ hk⟩
theorem Turn.drew {X : Nat → Prop} {a w : World} (h : Turn X a w) : Turn X a w.drew := ⟨h.os, h.tape, h.output, h.size, h.block⟩
theorem Turn.drewN {X : Nat → Prop} {a w : World} (h : Turn X a w) (n : Nat) : Turn X a (w.drewN n) := ⟨h.os, h.tape, h.output, h.size, h.block⟩
theorem Turn.of_drewN {X : Nat → Prop} {a w : World} {n : Nat} (h : Turn X (a.drewN n) w) : Turn X a w := ⟨h.os, h.tape, h.output, h.size, h.block⟩
theorem Turn.setCell {X : Nat → Prop} {a w : World} (h : Turn X a w) {p : Addr} (hp : X p.block ∨ a.heap.size ≤ p.block) (u : Value) : Turn X a (w.setCell p u) :=
  h.then (Y := fun i => i = p.block) ⟨rfl, rfl, rfl, by simp [World.setCell], fun k _ hk => Below.heap_setCell _ _ _ _ hk⟩ (by
    intro i hi he
    subst he
    rcases hp with hp | hp
    · exact hp
    · omega)
theorem Turn.grown {X : Nat → Prop} {a w w' : World} {row : Option Nat} (h : Turn X a w) (hg : w.grownBy w' row) (hr : ∀ k, row = some k → X k ∨ a.heap.size ≤ k) : Turn X a w' :=
  h.then (Y := fun i => some i = row) ⟨hg.os, hg.tape, hg.output, hg.size, fun k hk hn => hg.block k hk hn⟩ (by
    intro i hi he
    rcases hr i he.symm with hp | hp
    · exact hp
    · omega)
theorem Turn.below {X : Nat → Prop} {w w' : World} (h : Turn X w w') {B : Nat} (hB : B ≤ w.heap.size) (hX : ∀ k, k < B → ¬ X k) : Below B w w' :=
  ⟨h.os, h.tape, h.output, h.size, fun k hk => h.block k (by omega) (hX k hk)⟩
theorem Turn.of_below {X : Nat → Prop} {w w' : World} (h : Below w.heap.size w w') : Turn X w w' := ⟨h.os, h.tape, h.output, h.size, fun k hk _ => h.block k hk⟩

/-- Block g is the object o. -/
def At (w : World) (g : Nat) (o : Obj) : Prop := w.heap[g]? = some o
section
variable {w w' : World} {g : Nat} {o : Obj} {c : Array Value} {t : TypeId} {f : Nat × Nat}
theorem At.lt (h : At w g o) : g < w.heap.size := (Array.getElem?_eq_some_iff.1 h).1
theorem At.turn {X : Nat → Prop} (h : At w g o) (k : Turn X w w') (hg : ¬ X g) : At w' g o := (k.block g h.lt hg).trans h
theorem At.cell (h : At w g (.cells c t f)) (i : Nat) : w.cell? ⟨g, i, none⟩ = c[i]? := by
  unfold At at h
  simp [World.cell?, h]
theorem At.thawed (h : At w g (.cells c t (0, 0))) (i : Nat) : w.frozen? ⟨g, i, none⟩ = false := by
  unfold At at h
  simp [World.frozen?, h]
theorem At.new (w : World) (o : Obj) : At (w.alloc o) w.heap.size o := by
  show (w.heap.push o)[w.heap.size]? = _
  rw [Array.getElem?_push, if_pos rfl]
theorem At.set (h : At w g (.cells c t f)) (i : Nat) (u : Value) : At (w.setCell ⟨g, i, none⟩ u) g (.cells (c.setIfInBounds i u) t f) := by
  unfold At at h ⊢
  simp [World.setCell, Array.getElem?_modify, h]
theorem At.eq {o' : Obj} (h : At w g o) (h' : At w g o') : o = o' := Option.some.inj (h.symm.trans h')
theorem At.ne {g' : Nat} {o' : Obj} (h : At w g o) (h' : At w g' o') (hne : o ≠ o') : g ≠ g' := fun e => hne (by subst e; exact h.eq h')
end

end Go.Proofs.Ytijlcehjlacihaa
