/-
  The law LinearKnown: the chapter's examples.
-/
import Derived.Test.YtllppkfeiifklaaKno
namespace Go.Proofs.Ytllppkfeiifklaa
open Go.RowKit Go.Lib
set_option linter.unusedVariables false
set_option maxRecDepth 20000
set_option linter.unusedSimpArgs false

set_option maxHeartbeats 4000000 in
theorem krow_any (p g : Ans) (g1 g2 : Nat) (w : World) (h1 : At w g1 (.cells smP.cs.toArray 34 (0, 0))) (h2 : At w g2 (.cells smG.cs.toArray 34 (0, 0))) :
    Calls Try.prog 24 #[.agg #[.int .i64 p.code, .bool p.found, .string p.k, .string p.v], .agg #[.int .i64 g.code, .bool g.found, .string g.k, .string g.v], .pointer (some ⟨g1, 0, none⟩), .pointer (some ⟨g2, 0, none⟩)] w fun e w' => ∃ b, e = .returned (.slice (some ⟨b, 0, none⟩) 6 6) ∧ At w' b (.cells (ecs (kL p g)).toArray 40 (0, 0)) ∧ Turn No w w' := by
  obtain ⟨pc, pf, pk, pv⟩ := p
  obtain ⟨gc, gf, gk, gv⟩ := g
  have HB : Hid (Turn No w ((w.alloc (.cells #[.int .i64 pc, .bool pf, .string pk, .string pv] 38)).alloc (.cells #[.int .i64 gc, .bool gf, .string gk, .string gv] 38)) ∧ At ((w.alloc (.cells #[.int .i64 pc, .bool pf, .string pk, .string pv] 38)).alloc (.cells #[.int .i64 gc, .bool gf, .string gk, .string gv] 38)) w.heap.size (.cells #[.int .i64 pc, .bool pf, .string pk, .string pv] 38 (0, 0)) ∧ At ((w.alloc (.cells #[.int .i64 pc, .bool pf, .string pk, .string pv] 38)).alloc (.cells #[.int .i64 gc, .bool gf, .string gk, .string gv] 38)) (w.heap.size + 1) (.cells #[.int .i64 gc, .bool gf, .string gk, .string gv] 38 (0, 0))) := Lib.hid ⟨((Turn.refl _ _).alloc _).alloc _, (At.new _ _).no ((Turn.refl _ _).alloc _), At.new2 _ _ _⟩
  have HO : Hid (At ((w.alloc (.cells #[.int .i64 pc, .bool pf, .string pk, .string pv] 38)).alloc (.cells #[.int .i64 gc, .bool gf, .string gk, .string gv] 38)) g1 (.cells smP.cs.toArray 34 (0, 0)) ∧ At ((w.alloc (.cells #[.int .i64 pc, .bool pf, .string pk, .string pv] 38)).alloc (.cells #[.int .i64 gc, .bool gf, .string gk, .string gv] 38)) g2 (.cells smG.cs.toArray 34 (0, 0))) := Lib.hid ⟨h1.no HB.out.1, h2.no HB.out.1⟩
  clear h1 h2
  simp only
  go_enter Try.func24, Try.ntmps24
  go_upto_region 1 with fail
  generalize (w.alloc (.cells #[.int .i64 pc, .bool pf, .string pk, .string pv] 38)).alloc (.cells #[.int .i64 gc, .bool gf, .string gk, .string gv] 38) = w1 at HB HO ⊢
  obtain ⟨q1, hq1⟩ : ∃ q, w.heap.size = q := ⟨_, rfl⟩
  rw [hq1] at HB ⊢
  clear hq1
  obtain ⟨q2, hq2⟩ : ∃ q, q1 + 1 = q := ⟨_, rfl⟩
  rw [hq2] at HB ⊢
  clear hq2
  have d0 := HB.out.2.1.cell 0
  have d1 := HB.out.2.1.cell 1
  have d2 := HB.out.2.1.cell 2
  have d3 := HB.out.2.1.cell 3
  have f0 := HB.out.2.2.cell 0
  have f1 := HB.out.2.2.cell 1
  have f2 := HB.out.2.2.cell 2
  have f3 := HB.out.2.2.cell 3
  simp at d0 d1 d2 d3 f0 f1 f2 f3
  have a0 : w1.cell? ⟨g1, 0, none⟩ = some (.int .u8 2) := HO.out.1.cell 0
  have a1 : w1.cell? ⟨g1, 1, none⟩ = some (.string ⟨#[97]⟩) := HO.out.1.cell 1
  have a2 : w1.cell? ⟨g1, 2, none⟩ = some (.string ⟨#[49]⟩) := HO.out.1.cell 2
  have a3 : w1.cell? ⟨g1, 3, none⟩ = some (.string ⟨#[]⟩) := HO.out.1.cell 3
  have a4 : w1.cell? ⟨g1, 4, none⟩ = some (.bool false) := HO.out.1.cell 4
  have a5 : w1.cell? ⟨g1, 5, none⟩ = some (.bool false) := HO.out.1.cell 5
  have a6 : w1.cell? ⟨g1, 6, none⟩ = some (.slice none 0 0) := HO.out.1.cell 6
  have b0 : w1.cell? ⟨g2, 0, none⟩ = some (.int .u8 1) := HO.out.2.cell 0
  have b1 : w1.cell? ⟨g2, 1, none⟩ = some (.string ⟨#[97]⟩) := HO.out.2.cell 1
  have b2 : w1.cell? ⟨g2, 2, none⟩ = some (.string ⟨#[]⟩) := HO.out.2.cell 2
  have b3 : w1.cell? ⟨g2, 3, none⟩ = some (.string ⟨#[]⟩) := HO.out.2.cell 3
  have b4 : w1.cell? ⟨g2, 4, none⟩ = some (.bool false) := HO.out.2.cell 4
  have b5 : w1.cell? ⟨g2, 5, none⟩ = some (.bool false) := HO.out.2.cell 5
  have b6 : w1.cell? ⟨g2, 6, none⟩ = some (.slice none 0 0) := HO.out.2.cell 6
  go_wp2_with fail
  go_ret
  exact ⟨_, rfl, At.new _ _, HB.out.1.alloc _⟩
section
variable {w : World} {g : Nat}
theorem kchk {l : List Ev} {a c : Int} (hr : Right l) (hl : Lin l smW (news []) a c) (h : InE w (some ⟨g, 0, none⟩) 6 l smW) (hn : l.length = 6) : Calls Try.prog 11 #[.slice none 0 0, .slice (some ⟨g, 0, none⟩) 6 6] w fun e w' => e = .returned (.tuple #[.int .i64 a, .int .i64 c]) ∧ Turn No w w' := by
  have := lcheck_any [] none 0 l smW (some ⟨g, 0, none⟩) 6 w (inp0 w) (by decide) h
  rw [hn] at this
  refine this.mono ?_
  rintro e w' ⟨⟨a2, c2, rfl, hl2⟩, ht⟩
  obtain ⟨rfl, rfl⟩ := hl2.uniq (.inr ⟨hr, hl⟩)
  exact ⟨rfl, ht⟩
theorem ksome {l : List Ev} {b : Bool} (hs : b = true ↔ SomeP l smW []) (h : InE w (some ⟨g, 0, none⟩) 6 l smW) (hn : l.length = 6) : Calls Try.prog 19 #[.slice none 0 0, .slice (some ⟨g, 0, none⟩) 6 6] w fun e w' => e = .returned (.bool b) ∧ Turn No w w' := by
  have := some_any [] none 0 l smW (some ⟨g, 0, none⟩) 6 w (inp0 w) (by decide) h
  rw [hn] at this
  refine this.mono ?_
  intro e w' hres
  obtain ⟨r, rfl, hi, ht⟩ := hres
  have : r = b := by rw [Bool.eq_iff_iff, hi, hs]
  rw [this]
  exact ⟨rfl, ht⟩
theorem kaft {l : List Ev} {X : List Pr} (hr : Right l) (hx : lnM l smW (news []) l.length = X) (h : InE w (some ⟨g, 0, none⟩) 6 l smW) (hn : l.length = 6) : Calls Try.prog 17 #[.slice none 0 0, .slice (some ⟨g, 0, none⟩) 6 6] w fun e w' => ∃ B c, e = .returned (.slice B X.length c) ∧ Row w' B (pcs X) ∧ Turn No w w' := by
  have := lafter_any [] none 0 l smW (some ⟨g, 0, none⟩) 6 w (inp0 w) (by decide) h
  rw [hn] at this
  refine this.mono ?_
  rintro e w' ⟨Y, B, c, rfl, h4, ht, h5⟩
  rcases h5 with ⟨_, h6⟩ | ⟨h6, _⟩
  · rw [hn] at hx
    rw [hx] at h6
    subst h6
    exact ⟨B, c, rfl, h4, ht⟩
  · exact absurd hr h6
end
end Go.Proofs.Ytllppkfeiifklaa
