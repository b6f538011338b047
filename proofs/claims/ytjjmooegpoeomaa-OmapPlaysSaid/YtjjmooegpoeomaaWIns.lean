/-
  slices.Insert of one pair inside a row of the program's own: where there is room, and where there is none.
-/
import Derived.Test.YtjjmooegpoeomaaWInsE
namespace Go.Proofs.Ytjjmooegpoeomaa
open Go.RowKit Go.Lib
set_option linter.unusedVariables false
set_option linter.unusedSimpArgs false

theorem pcs_mid (X Y : List Pr) (p : Pr) : pcs (X ++ p :: Y) = pcs X ++ p.cs ++ pcs Y := by
  rw [pcs_append, List.append_assoc]
  rfl
theorem Hd.pre {w : World} {g cap : Nat} {cur : List Value} {X Y : List Pr} (h : Hd w g cap cur (X ++ Y)) : cur.take (X.length * 2) = pcs X := by
  have := congrArg (List.take (X.length * 2)) h.head
  rw [List.length_append, List.take_take, Nat.min_eq_left (by omega), pcs_append, List.take_left' (pcs_length X)] at this
  exact this
theorem Hd.src {w : World} {g cap : Nat} {cur : List Value} {X Y : List Pr} (h : Hd w g cap cur (X ++ Y)) : ∀ j v, (pcs Y)[j]? = some v → w.cell? ⟨g, X.length * 2 + j, none⟩ = some v := fun j v hj => h.cell (by
  rw [pcs_append, List.getElem?_append_right (by rw [pcs_length]; omega), pcs_length, Nat.add_sub_cancel_left]
  exact hj)
/-- Two splices: a pair, and behind it the rest. -/
theorem two_splices {R : List Value} {X Y : List Pr} (p : Pr) (hR : R.take (X.length * 2) = pcs X) (hl : (X.length + 1 + Y.length) * 2 ≤ R.length) :
    (splice (splice R (X.length * 2) p.cs) ((X.length + 1) * 2) (pcs Y)).take ((X.length + 1 + Y.length) * 2) = pcs (X ++ p :: Y) := by
  have h1 : (splice R (X.length * 2) p.cs).take ((X.length + 1) * 2) = pcs X ++ p.cs := splice_head (k := 0) hR (by simp [Pr.cs]; omega) (by simp [Pr.cs]; omega)
  have hl2 : (splice R (X.length * 2) p.cs).length = R.length := length_splice _ _ _ (by simp [Pr.cs]; omega)
  rw [pcs_mid]
  exact splice_head (k := 0) h1 (by rw [pcs_length]; omega) (by rw [pcs_length, hl2]; omega)
/-- The other way round: the rest first, moved up; then the pair. -/
theorem splices_two {R : List Value} {X Y : List Pr} (p : Pr) (hR : R.take (X.length * 2) = pcs X) (hl : (X.length + 1 + Y.length) * 2 ≤ R.length) :
    (splice (splice R ((X.length + 1) * 2) (pcs Y)) (X.length * 2) p.cs).take ((X.length + 1 + Y.length) * 2) = pcs (X ++ p :: Y) := by
  have e1 : (splice R ((X.length + 1) * 2) (pcs Y)).take (X.length * 2) = pcs X := splice_keep hR (by omega) (by omega)
  have e2 : (splice R ((X.length + 1) * 2) (pcs Y)).drop (X.length * 2 + p.cs.length) = pcs Y ++ R.drop ((X.length + 1) * 2 + (pcs Y).length) := by
    rw [show X.length * 2 + p.cs.length = (X.length + 1) * 2 by simp [Pr.cs]; omega]
    unfold splice
    rw [List.drop_left' (by rw [List.length_take]; omega)]
  rw [splice.eq_1 (splice R ((X.length + 1) * 2) (pcs Y)), e1, e2, pcs_mid, ← List.append_assoc, ← List.append_assoc, List.take_left']
  simp [pcs_length, Pr.cs]
  omega
theorem Hd.shape {w : World} {g cap : Nat} {cur : List Value} {l : List Pr} (h : Hd w g cap cur l) : w.shape? g = some (50, cap * 2) := by
  have := h.blk
  unfold Blk At at this
  simp [World.shape?, this, h.size]
theorem At.shape {w : World} {g : Nat} {c : Array Value} {t : TypeId} {f : Nat × Nat} (h : At w g (.cells c t f)) : w.shape? g = some (t, c.size) := by
  unfold At at h
  simp [World.shape?, h]
theorem pair_src {w : World} {vb : Nat} {p : Pr} (hp : At w vb (.cells #[.string p.k, .string p.v] 50 (0, 0))) : ∀ j v, p.cs[j]? = some v → w.cell? ⟨vb, 0 + j, none⟩ = some v := fun j v hj => by
  rw [hp.cell, Nat.zero_add, show (#[Value.string p.k, Value.string p.v] : Array Value) = p.cs.toArray from rfl]
  simpa using hj

set_option maxHeartbeats 400000 in
theorem insert_room {w : World} {g cap : Nat} {cur : List Value} (X Y : List Pr) (h : Hd w g cap cur (X ++ Y)) (hc : cap ≤ maxLen) (hY : 0 < Y.length) (vb : Nat) (p : Pr) (hp : At w vb (.cells #[.string p.k, .string p.v] 50 (0, 0))) (hne : vb ≠ g) (hroom : X.length + Y.length + 1 ≤ cap) :
    Calls Try.prog 52 #[.slice (some ⟨g, 0, none⟩) (X.length + Y.length) cap, .int .i64 (X.length : Int), .slice (some ⟨vb, 0, none⟩) 1 1] w fun e w' =>
      e = .returned (.slice (some ⟨g, 0, none⟩) (X.length + Y.length + 1) cap) ∧ (∃ cur', Hd w' g cap cur' (X ++ p :: Y)) ∧ Turn (fun k => k = g) w w' := by
  unfold maxLen at hc
  have hs := h.size
  have hov : ∀ lb cb, (callFunc 60 #[.slice (some ⟨vb, 0, none⟩) 1 1, .slice (some ⟨g, (X.length + 1) * 2, none⟩) lb cb]).run Try.prog w = .ok (.value (.bool false)) w := fun lb cb => by
    rw [run_callFunc_extern Try.func60 (by kernel_rfl) (by kernel_rfl) (by kernel_rfl) (e := Extern.SlicesOverlaps.overlaps #[22, 22] #[4]) (by kernel_rfl),
      Lib.run_overlaps_apart w 22 4 50 Try.underlying22 2 Try.sizeOf50 ⟨vb, 0, none⟩ ⟨g, (X.length + 1) * 2, none⟩ 1 1 lb cb hne 50 50 2 (cap * 2) (At.shape hp) h.shape (by omega) (hp.thawed 0) (hp.thawed 2)]
    rfl
  obtain ⟨c1, hc1⟩ : ∃ c, splice cur ((X.length + 1) * 2) (pcs Y) = c := ⟨_, rfl⟩
  have l1 : c1.length = cap * 2 := by rw [← hc1, length_splice _ _ _ (by rw [pcs_length]; omega), hs]
  have hr1 : BRun2 .copy #[22, 22] 3 (.slice (some ⟨g, (X.length + 1) * 2, none⟩) (Y.length) (cap - (X.length + 1))) (.slice (some ⟨g, X.length * 2, none⟩) (Y.length + 1) (cap - X.length)) (goInt Y.length) w.drew (w.drew.setRow g c1.toArray) := by
    have := run_cp (w := w.drew) (g := g) (o := (X.length + 1) * 2) (dLen := Y.length) (dCap := cap - (X.length + 1)) (sLen := Y.length + 1) (sCap := cap - X.length) h.blk g (X.length * 2) (pcs Y) (by rw [pcs_length, show Nat.min (Y.length + 1) (Y.length) = Y.length by simp only [Nat.min_def]; split <;> omega]) h.src (by rw [pcs_length]; omega) (one_pcs _) 3
    rw [hc1, show Nat.min (Y.length + 1) (Y.length) = Y.length by simp only [Nat.min_def]; split <;> omega] at this
    exact this
  have b1 : Blk (w.drew.setRow g c1.toArray) g c1 := blk_setRow (w := w.drew) h.blk _
  have t1 : Turn (fun k => k = g) w (w.drew.setRow g c1.toArray) := (Turn.refl _ w).drew.trans (turn_setRow _ _ _)
  have hp1 := hp.turn t1 (by omega)
  generalize w.drew.setRow g c1.toArray = w2 at hr1 b1 t1 hp1
  have hr2 : BRun2 .copy #[22, 22] 3 (.slice (some ⟨g, X.length * 2, none⟩) (Y.length + 1) (cap - X.length)) (.slice (some ⟨vb, 0, none⟩) 1 1) (goInt 1) w2 (w2.setRow g (splice c1 (X.length * 2) p.cs).toArray) := by
    have hm : Nat.min 1 (Y.length + 1) = 1 := by simp only [Nat.min_def]; split <;> omega
    have := run_cp (w := w2) (g := g) (o := X.length * 2) (dLen := Y.length + 1) (dCap := cap - X.length) (sLen := 1) (sCap := 1) b1 vb 0 p.cs (by rw [hm]; rfl) (pair_src hp1) (by simp [Pr.cs]; omega) (fun u hu => one_pcs [p] u (by simpa [pcs] using hu)) 3
    rw [hm] at this
    exact this
  have hFin : Hid ((∃ cur', Hd (w2.setRow g (splice c1 (X.length * 2) p.cs).toArray) g cap cur' (X ++ p :: Y)) ∧ Turn (fun k => k = g) w (w2.setRow g (splice c1 (X.length * 2) p.cs).toArray)) := by
    refine Lib.hid ⟨⟨_, blk_setRow b1 _, ?_, by simp; omega, ?_⟩, t1.trans (turn_setRow _ _ _)⟩
    · rw [length_splice _ _ _ (by simp [Pr.cs]; omega), l1]
    · have := splices_two (Y := Y) p h.pre (by omega)
      rw [hc1] at this
      rw [show (X ++ p :: Y).length = X.length + 1 + Y.length by simp; omega]
      exact this
  generalize w2.setRow g (splice c1 (X.length * 2) p.cs).toArray = w3 at hr2 hFin
  have e1 : X.length + Y.length + 1 - (X.length + 1) = Y.length := by omega
  have e2 : X.length + Y.length + 1 - X.length = Y.length + 1 := by omega
  have n1 : ¬ ((X.length : Int) = (X.length : Int) + (Y.length : Int)) := by omega
  have n2 : X.length ≤ X.length + Y.length := by omega
  have n3 : ¬ (cap = X.length) := by omega
  have n4 : ¬ (cap = X.length + 1) := by omega
  have n5 : (0 : Int) ≤ (X.length : Int) + 1 := by omega
  have n6 : ¬ ((cap : Int) < (X.length : Int) + (Y.length : Int) + 1) := by omega
  have n7 : ¬ (Y.length = 0) := by omega
  have m1 : IntKind.i64.wrap ((X.length : Int) + 1) = (X.length : Int) + 1 := by rw [IntKind.wrap_i64]; omega
  have m2 : ((X.length : Int) + 1).toNat = X.length + 1 := by omega
  have n8 : (X.length : Int) + 1 ≤ (X.length : Int) + (Y.length : Int) + 1 := by omega
  have n9 : (X.length : Int) ≤ (X.length : Int) + (Y.length : Int) + 1 := by omega
  clear h hs hc1 l1 b1 t1 hp1 hp hne
  go_enter Try.func52, Try.ntmps52
  go_wp2_with (simp only [hov])
  go_region_law ((refine step_brun2 (by rfl) _ _ .copy _ (by rfl) _ _ _ (by simp [Act.eval, Act.put]) (by simp [Act.eval, Act.put]) hr1 ?_))
  all_goals go_wp2_with (refine wpList_brun2 (by rfl) _ _ .copy _ (by rfl) _ _ _ (by rfl) (by rfl) hr2 ?_)
  all_goals go_ret
  all_goals exact ⟨rfl, hFin.out⟩
end Go.Proofs.Ytjjmooegpoeomaa
