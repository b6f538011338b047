/-
  slices.Insert of one pair inside a row that has no room: a new row.
-/
import Derived.Test.YtjjmooegpoeomaaWIns
namespace Go.Proofs.Ytjjmooegpoeomaa
open Go.RowKit Go.Lib
set_option linter.unusedVariables false
set_option linter.unusedSimpArgs false

set_option maxHeartbeats 1000000 in
theorem insert_grow {w : World} {g cap : Nat} {cur : List Value} (X Y : List Pr) (h : Hd w g cap cur (X ++ Y)) (hn : X.length + Y.length ≤ 100000) (hY : 0 < Y.length) (vb : Nat) (p : Pr) (hp : At w vb (.cells #[.string p.k, .string p.v] 50 (0, 0))) (hroom : cap < X.length + Y.length + 1) :
    Calls Try.prog 52 #[.slice (some ⟨g, 0, none⟩) (X.length + Y.length) cap, .int .i64 (X.length : Int), .slice (some ⟨vb, 0, none⟩) 1 1] w fun e w' => ∃ cap' cur', cap' ≤ maxLen ∧
      e = .returned (.slice (some ⟨w.heap.size, 0, none⟩) (X.length + Y.length + 1) cap') ∧ Hd w' w.heap.size cap' cur' (X ++ p :: Y) ∧ Turn No w w' := by
  have hfit : X.length + Y.length ≤ cap := by simpa using h.fits
  obtain ⟨i0, hi0, hz0, hz1, hz2⟩ := info_parts info50
  obtain ⟨G, hG⟩ : ∃ G, grownCap w (X.length + Y.length + 1) cap 50 = G := ⟨_, rfl⟩
  have hGn : X.length + Y.length + 1 ≤ G := by rw [← hG]; exact grownCap_ge w _ _ _
  have hGm : G ≤ maxLen := by rw [← hG]; exact grownCap_le_maxLen w _ _ _ (by unfold maxLen; omega)
  obtain ⟨R, hR⟩ : ∃ R : List Value, ((pcs X).toArray ++ Builtin.zeroCells pz.cells (Y.length + 1) ++ Builtin.zeroCells pz.cells (G - (X.length + Y.length + 1))).toList = R := ⟨_, rfl⟩
  have hRl : R.length = G * 2 := by
    rw [← hR]
    simp [pcs_length, Builtin.zeroCells, Value.cells]
    omega
  have hRp : R.take (X.length * 2) = pcs X := by
    rw [← hR]
    simp only [Array.toList_append, List.append_assoc]
    rw [List.take_left' (pcs_length X)]
  have hrz : BRun2 .append #[22, 3] 22 (.slice (some ⟨g, 0, none⟩) X.length cap) (.int .i64 ((Y.length : Int) + 1)) (.slice (some ⟨w.heap.size, 0, none⟩) (X.length + Y.length + 1) G) w (w.drew.alloc (.cells R.toArray 50)) := ⟨fun q => by
    have hold : (Builtin.firstCells i0.size X.length (.slice (some ⟨g, 0, none⟩) X.length cap)).run Try.prog w.drew = .ok (pcs X).toArray w.drew := by
      rw [hz1]
      exact run_firstCells_some w.drew 2 X.length ⟨g, 0, none⟩ X.length cap (pcs X) (by rw [pcs_length]) (fun j v hj => by
        rw [add_lit0, Nat.zero_add]
        exact h.cell (by rw [pcs_append, List.getElem?_append_left (List.getElem?_eq_some_iff.1 hj).1]; exact hj))
    have := Lib.run_append_grow_zeros (P := Try.prog) w 22 3 22 50 i0 pz .i64 .i64 Try.underlying22 Try.underlying3 hi0 hz0 (some ⟨g, 0, none⟩) X.length cap (pcs X) hold (Y.length + 1) (by omega) (by rw [hz1]; decide) (by omega) (by omega) (by rw [hz2]; omega) (by rw [hz2]; exact growslice_fits (by omega) (by omega))
    rw [show X.length + (Y.length + 1) = X.length + Y.length + 1 by omega, hG] at this
    rw [show ((Y.length : Int) + 1) = ((Y.length + 1 : Nat) : Int) by omega]
    simp only [builtin, Sem.run_bind, this, Result.andThen_ok, Sem.run_pure]
    rw [← hR]⟩
  have hb : Blk (w.drew.alloc (.cells R.toArray 50)) w.heap.size R := At.new w.drew _
  have t1 : Turn No w (w.drew.alloc (.cells R.toArray 50)) := (Turn.refl _ w).drew.alloc _
  have hp1 := hp.no t1
  have h1 : ∀ j v, (pcs Y)[j]? = some v → (w.drew.alloc (.cells R.toArray 50)).cell? ⟨g, X.length * 2 + j, none⟩ = some v := fun j v hj => by
    rw [World.cell?_of_block (t1.block g h.blk.lt (fun h => h))]
    exact h.src j v hj
  have hgl : g < w.heap.size := h.blk.lt
  have hvl : vb < w.heap.size := hp.lt
  obtain ⟨gn, hgn⟩ : ∃ gn, w.heap.size = gn := ⟨_, rfl⟩
  rw [hgn] at hrz hb hgl hvl ⊢
  generalize w.drew.alloc (.cells R.toArray 50) = w2 at hrz hb t1 hp1 h1
  -- the pair
  obtain ⟨c1, hc1⟩ : ∃ c, splice R (X.length * 2) p.cs = c := ⟨_, rfl⟩
  have hr1 : BRun2 .copy #[22, 22] 3 (.slice (some ⟨gn, X.length * 2, none⟩) (Y.length + 1) (G - X.length)) (.slice (some ⟨vb, 0, none⟩) 1 1) (goInt 1) w2 (w2.setRow gn c1.toArray) := by
    have hm : Nat.min 1 (Y.length + 1) = 1 := by simp only [Nat.min_def]; split <;> omega
    have := run_cp (w := w2) (g := gn) (o := X.length * 2) (dLen := Y.length + 1) (dCap := G - X.length) (sLen := 1) (sCap := 1) hb vb 0 p.cs (by rw [hm]; rfl) (pair_src hp1) (by simp [Pr.cs]; omega) (fun u hu => one_pcs [p] u (by simpa [pcs] using hu)) 3
    rw [hm, hc1] at this
    exact this
  have b2 : Blk (w2.setRow gn c1.toArray) gn c1 := blk_setRow hb _
  have t2 : Turn No w (w2.setRow gn c1.toArray) := t1.then (turn_setRow w2 gn _) (fun i hi e => by omega)
  have h2 : ∀ j v, (pcs Y)[j]? = some v → (w2.setRow gn c1.toArray).cell? ⟨g, X.length * 2 + j, none⟩ = some v := fun j v hj => by
    rw [cell_setRow_other w2 gn _ _ (by show g ≠ gn; omega)]
    exact h1 j v hj
  generalize w2.setRow gn c1.toArray = w3 at hr1 b2 t2 h2
  have hr2 : BRun2 .copy #[22, 22] 3 (.slice (some ⟨gn, (X.length + 1) * 2, none⟩) Y.length (G - (X.length + 1))) (.slice (some ⟨g, X.length * 2, none⟩) Y.length (cap - X.length)) (goInt Y.length) w3.drew (w3.drew.setRow gn (splice c1 ((X.length + 1) * 2) (pcs Y)).toArray) := by
    have hm : Nat.min Y.length Y.length = Y.length := Nat.min_self _
    have hl1 : c1.length = G * 2 := by rw [← hc1, length_splice _ _ _ (by simp [Pr.cs]; omega), hRl]
    have := run_cp (w := w3.drew) (g := gn) (o := (X.length + 1) * 2) (dLen := Y.length) (dCap := G - (X.length + 1)) (sLen := Y.length) (sCap := cap - X.length) b2 g (X.length * 2) (pcs Y) (by rw [hm, pcs_length]) h2 (by rw [pcs_length]; omega) (one_pcs _) 3
    rw [hm] at this
    exact this
  have hFin : Hid (Hd (w3.drew.setRow gn (splice c1 ((X.length + 1) * 2) (pcs Y)).toArray) gn G (splice c1 ((X.length + 1) * 2) (pcs Y)) (X ++ p :: Y) ∧ Turn No w (w3.drew.setRow gn (splice c1 ((X.length + 1) * 2) (pcs Y)).toArray) ∧ G ≤ maxLen) := by
    have hl1 : c1.length = G * 2 := by rw [← hc1, length_splice _ _ _ (by simp [Pr.cs]; omega), hRl]
    refine Lib.hid ⟨⟨blk_setRow (w := w3.drew) b2 _, ?_, by simp; omega, ?_⟩, t2.drew.then (turn_setRow w3.drew gn _) (fun i hi e => by omega), hGm⟩
    · rw [length_splice _ _ _ (by rw [pcs_length]; omega), hl1]
    · have := two_splices (Y := Y) p hRp (by omega)
      rw [hc1] at this
      rw [show (X ++ p :: Y).length = X.length + 1 + Y.length by simp; omega]
      exact this
  generalize w3.drew.setRow gn (splice c1 ((X.length + 1) * 2) (pcs Y)).toArray = w4 at hr2 hFin
  unfold maxLen at hGm
  have e1 : X.length + Y.length + 1 - (X.length + 1) = Y.length := by omega
  have e2 : X.length + Y.length + 1 - X.length = Y.length + 1 := by omega
  have e3 : X.length + Y.length - X.length = Y.length := by omega
  have n1 : ¬ ((X.length : Int) = (X.length : Int) + (Y.length : Int)) := by omega
  have n2 : X.length ≤ X.length + Y.length := by omega
  have n3 : ¬ (cap = X.length) := by omega
  have n4 : ¬ (G = X.length + 1) := by omega
  have n4' : ¬ (G = X.length) := by omega
  have n5 : (0 : Int) ≤ (X.length : Int) + 1 := by omega
  have n6 : ((cap : Int) < (X.length : Int) + (Y.length : Int) + 1) := by omega
  have n7 : ¬ (Y.length = 0) := by omega
  have n10 : X.length ≤ cap := by omega
  have n11 : (X.length : Int) ≤ (X.length : Int) + (Y.length : Int) := by omega
  have m1 : IntKind.i64.wrap ((X.length : Int) + 1) = (X.length : Int) + 1 := by rw [IntKind.wrap_i64]; omega
  have m2 : ((X.length : Int) + 1).toNat = X.length + 1 := by omega
  have n8 : (X.length : Int) + 1 ≤ (X.length : Int) + (Y.length : Int) + 1 := by omega
  have n9 : (X.length : Int) ≤ (X.length : Int) + (Y.length : Int) + 1 := by omega
  have m3 : (X.length : Int) + (Y.length : Int) + 1 - (X.length : Int) = (Y.length : Int) + 1 := by omega
  have HG := Lib.hid hG
  clear h hi0 hz0 hz1 hz2 hG hGn hR hRl hRp hb t1 hp1 h1 hgl hvl hgn hc1 b2 t2 h2 hp
  go_enter Try.func52, Try.ntmps52
  go_wp2_with (first | (refine wpList_brun2 (by rfl) _ _ .append _ (by rfl) _ _ _ (by rfl) (by rfl) hrz ?_) | (refine wpList_brun2 (by rfl) _ _ .copy _ (by rfl) _ _ _ (by rfl) (by rfl) hr1 ?_))
  go_region_law ((refine step_brun2 (by rfl) _ _ .copy _ (by rfl) _ _ _ (by simp [Act.eval, Act.put]) (by simp [Act.eval, Act.put]) hr2 ?_))
  all_goals go_wp2_with fail
  all_goals go_ret
  all_goals exact ⟨G, _, hFin.out.2.2, rfl, hFin.out.1, hFin.out.2.1⟩
end Go.Proofs.Ytjjmooegpoeomaa
