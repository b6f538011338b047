/-
  OmapKnown: the walk up to its rows.
-/
import Derived.Test.YtjjmooegpoeomaaKno
import Derived.BigRegion
namespace Go.Proofs.Ytjjmooegpoeomaa
open Go.RowKit Go.Lib
set_option linter.unusedVariables false
set_option linter.unusedSimpArgs false

abbrev mz9 : Array Value := #[.string ⟨#[]⟩, .string ⟨#[]⟩, .bool false]
theorem info46 : (Try.prog.info? 46).map (fun i => (i.zero, i.size, i.bytes)) = some (some (.agg mz9), 3, 40) := by kernel_rfl
theorem sz3 (w : World) (a b : Obj) : ((w.alloc a).alloc b).heap.size = w.heap.size + 1 + 1 := by simp
theorem made9 : madeCells mz9 27 = (wcs kw9).toArray := by kernel_rfl
theorem make9 (W : World) : (Instr.makeSlice 37 (.int .i64 9) (.int .i64 9)).run Try.prog W = .ok (.slice (some ⟨W.heap.size, 0, none⟩) 9 9) (W.alloc (.cells (wcs kw9).toArray 46)) := by
  rw [← made9]
  obtain ⟨i0, hi0, hz0, hz1, hz2⟩ := info_parts info46
  have := run_make (P := Try.prog) W 37 46 i0 _ Try.underlying37 hi0 hz0 .i64 .i64 9 9 (by decide) (by decide) (by rw [hz2]; decide) (by decide)
  simpa [hz1, Value.cells] using this
/-- What the region leaves. -/
structure Kw (w wx : World) (mb : Nat) (r : Option Nat) (wb zb rb : Nat) : Prop where
  so : So w wx mb r []
  h3 : At wx wb (.cells (wcs kw3).toArray 46 (0, 0))
  h9 : At wx zb (.cells (wcs kw9).toArray 46 (0, 0))
  hr : At wx rb (.cells (kcs (krs wb zb)).toArray 52 (0, 0))
theorem kw_of {w w1 : World} {mb : Nat} {r : Option Nat} (h : So w w1 mb r []) :
    Kw w (((w1.alloc (.cells (wcs kw3).toArray 46)).alloc (.cells (wcs kw9).toArray 46)).alloc (.cells (kcs (krs w1.heap.size (w1.heap.size + 1))).toArray 52)).drew mb r w1.heap.size (w1.heap.size + 1) (w1.heap.size + 1 + 1) ∧
    Kw w (((w1.alloc (.cells (wcs kw9).toArray 46)).alloc (.cells (wcs kw3).toArray 46)).alloc (.cells (kcs (krs (w1.heap.size + 1) w1.heap.size)).toArray 52)).drew mb r (w1.heap.size + 1) w1.heap.size (w1.heap.size + 1 + 1) := by
  constructor
  · refine ⟨h.no ((((Turn.refl _ _).alloc _).alloc _).alloc _).drew, (At.new w1 _).no ((((Turn.refl _ _).alloc _).alloc _)).drew, (At.new2 w1 _ _).no (((Turn.refl _ _).alloc _)).drew, ?_⟩
    have := At.new ((w1.alloc (.cells (wcs kw3).toArray 46)).alloc (.cells (wcs kw9).toArray 46)) (.cells (kcs (krs w1.heap.size (w1.heap.size + 1))).toArray 52)
    rw [sz3] at this
    exact this.no (Turn.refl _ _).drew
  · refine ⟨h.no ((((Turn.refl _ _).alloc _).alloc _).alloc _).drew, (At.new2 w1 _ _).no (((Turn.refl _ _).alloc _)).drew, (At.new w1 _).no ((((Turn.refl _ _).alloc _).alloc _)).drew, ?_⟩
    have := At.new ((w1.alloc (.cells (wcs kw9).toArray 46)).alloc (.cells (wcs kw3).toArray 46)) (.cells (kcs (krs (w1.heap.size + 1) w1.heap.size)).toArray 52)
    rw [sz3] at this
    exact this.no (Turn.refl _ _).drew
end Go.Proofs.Ytjjmooegpoeomaa
