/-
  The map of what is known, in memory.
-/
import Derived.Test.YthopiamiipmobaaKn
import Derived.Test.YthopiamiipmobaaOwn
import Derived.Maps.Own
import Derived.Laws.EntriesVeiled
namespace Go.Proofs.Ythopiamiipmobaa
open Go.RowKit Go.Lib Go.Maps
set_option linter.unusedVariables false
theorem law3 : Keyed Try.prog 3 := int_keyed Try.underlying3
theorem u57 : Try.prog.underlying 57 = some (.map 3 62) := Try.underlying57
theorem zero62 (w : World) : (zeroValue 62).run Try.prog w = .ok kn0.val w := by rfl

/-- The map m has what a right row tells. -/
def Mp (w : World) (m : Option Nat) (l : List Ev) : Prop :=
  (m = none ∧ l = []) ∨ ∃ b n, m = some b ∧ n ≤ l.length ∧ IMap Try.prog 3 w b (kmap l) n
def In64 (i : Int) : Prop := -9223372036854775808 ≤ i ∧ i ≤ 9223372036854775807
section
variable {w w' : World} {m : Option Nat} {l : List Ev}
theorem Mp.turn {X : Nat → Prop} (h : Mp w m l) (t : Turn X w w') (hX : ∀ b, m = some b → ¬ X b) : Mp w' m l := by
  rcases h with h | ⟨b, n, hm, hn, hI⟩
  · exact .inl h
  · exact .inr ⟨b, n, hm, hn, hI.turn t (hX b hm)⟩
theorem Mp.no (h : Mp w m l) (t : Turn No w w') : Mp w' m l := h.turn t fun _ _ h => h
theorem Mp.lt (h : Mp w m l) : ∀ b, m = some b → b < w.heap.size := by
  rintro b rfl
  rcases h with ⟨h, _⟩ | ⟨b', n, hm, hn, hI⟩
  · cases h
  · cases hm; exact hI.lt
theorem Mp.look (h : Mp w m l) (hr : Right l) (i : Int) (hi : In64 i) : (Instr.lookup 57 (.map m) (.int .i64 i) false).run Try.prog w = .ok (kn l i).val w := by
  rcases h with ⟨rfl, rfl⟩ | ⟨b, n, rfl, _, hI⟩
  · rw [Maps.look_nil false law3 u57 (z := kn0.val) (zero62 w) (keyOf_int_mk Try.underlying3 (wf64 hi.1 hi.2))]
    rfl
  · rw [hI.look1 law3 Try.underlying3 u57 (zero62 w) (wf64 hi.1 hi.2), kmap_getD hr]
theorem Mp.made (w : World) : Mp (w.alloc (.map #[] 0)) (some w.heap.size) [] := .inr ⟨_, 0, rfl, Nat.zero_le _, IMap.congr (fun i => rfl) (IMap.made Try.prog 3 w)⟩
theorem Mp.note {b : Nat} (h : Mp w (some b) l) (e : Ev) (hf : fits l e = true) (hi : In64 e.id) (hl : l.length < 1000000) :
    ∃ w', (Instr.mapUpdate 57 (.map (some b)) (.int .i64 e.id) (Kn.val ⟨e.kind, e.an⟩)).run Try.prog w = .ok () w' ∧ Mp w' (some b) (l ++ [e]) ∧ Turn (· = b) w w' := by
  rcases h with ⟨h, _⟩ | ⟨b', n, hm, hn, hI⟩
  · cases h
  · cases hm
    obtain ⟨w', q, hI', t⟩ := hI.store law3 Try.underlying3 u57 (by omega) (wf64 hi.1 hi.2) (Kn.val ⟨e.kind, e.an⟩)
    refine ⟨w', q, .inr ⟨b, _, rfl, ?_, IMap.congr (fun i => ?_) hI'⟩, t⟩
    · simp only [List.length_append, List.length_cons, List.length_nil]
      split <;> omega
    · rw [kmap_snoc hf]
      rfl
end
end Go.Proofs.Ythopiamiipmobaa
