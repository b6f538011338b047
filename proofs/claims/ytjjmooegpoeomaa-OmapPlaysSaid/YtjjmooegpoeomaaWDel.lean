/-
  slices.Delete of one pair, in a row of the program's own.
-/
import Derived.Test.YtjjmooegpoeomaaWCp
namespace Go.Proofs.Ytjjmooegpoeomaa
open Go.RowKit Go.Lib
set_option linter.unusedVariables false
set_option linter.unusedSimpArgs false

/-- A row of n pairs at the head of a block whose cells are cur. -/
structure Hd (w : World) (g : Nat) (cap : Nat) (cur : List Value) (l : List Pr) : Prop where
  blk : Blk w g cur
  size : cur.length = cap * 2
  fits : l.length ≤ cap
  head : cur.take (l.length * 2) = pcs l
theorem Hd.own {w : World} {g cap Z : Nat} {cur : List Value} {l : List Pr} (h : Hd w g cap cur l) (hZ : Z ≤ g) (hc : cap ≤ maxLen) : w.ownsRow Z 50 2 (.slice (some ⟨g, 0, none⟩) l.length cap) l.length (pcs l) :=
  ⟨pcs_length l, .inr ⟨g, cap, cur.toArray, rfl, hZ, h.blk, h.fits, hc, by simpa using h.size, h.head⟩⟩
theorem Hd.of_own {w : World} {Z n cap : Nat} {A : Option Addr} {l : List Pr} (h : w.ownsRow Z 50 2 (.slice A n cap) n (pcs l)) (hn : n = l.length) (h0 : 0 < cap) : ∃ g cur, A = some ⟨g, 0, none⟩ ∧ Z ≤ g ∧ cap ≤ maxLen ∧ Hd w g cap cur l := by
  subst hn
  obtain ⟨_, ⟨hv, _⟩ | ⟨g, c, cur, hv, hb, hg, hn, hc, hs, ht⟩⟩ := h
  · injection hv with _ _ e3
    omega
  · injection hv with e1 _ e3
    subst e1 e3
    exact ⟨g, cur.toList, rfl, hb, hc, ⟨by unfold Blk At; simpa using hg, by simpa using hs, hn, ht⟩⟩
theorem Hd.cell {w : World} {g cap : Nat} {cur : List Value} {l : List Pr} (h : Hd w g cap cur l) {j : Nat} {u : Value} (hj : (pcs l)[j]? = some u) : w.cell? ⟨g, j, none⟩ = some u := by
  have h1 := At.cell h.blk j
  rw [h1]
  have hlt : j < l.length * 2 := by rw [← pcs_length]; exact (List.getElem?_eq_some_iff.1 hj).1
  rw [← h.head, List.getElem?_take, if_pos hlt] at hj
  simpa using hj

theorem splice_head {L M : List Value} {a b k : Nat} {cs : List Value} (hL : L.take a = M) (hb : b = a + cs.length) (hl : a + cs.length ≤ L.length) : (splice L a cs).take b = M ++ cs := by
  unfold splice
  have hm : M.length = a := by rw [← hL, List.length_take]; omega
  rw [hL, ← List.append_assoc, List.take_left']
  simp [hm, hb]
theorem splice_keep {L M : List Value} {a off : Nat} {cs : List Value} (hL : L.take a = M) (ha : a ≤ off) (hl : off ≤ L.length) : (splice L off cs).take a = M := by
  unfold splice
  rw [List.take_append_of_le_length (by rw [List.length_take]; omega), List.take_take, Nat.min_eq_left ha, hL]

set_option maxHeartbeats 2000000 in
theorem delete_any {w : World} {g cap : Nat} {cur : List Value} (X Y : List Pr) (p : Pr) (h : Hd w g cap cur (X ++ p :: Y)) (hc : cap ≤ maxLen) :
    Calls Try.prog 53 #[.slice (some ⟨g, 0, none⟩) (X.length + (Y.length + 1)) cap, .int .i64 (X.length : Int), .int .i64 ((X.length : Int) + 1)] w fun e w' =>
      e = .returned (.slice (some ⟨g, 0, none⟩) (X.length + Y.length) cap) ∧ (∃ cur', Hd w' g cap cur' (X ++ Y)) ∧ Turn (fun k => k = g) w w' := by
  have hfit : X.length + (Y.length + 1) ≤ cap := by simpa using h.fits
  have hs := h.size
  have hd := h.head
  simp only [List.length_append, List.length_cons] at hd
  unfold maxLen at hc
  have hx : cur.take (X.length * 2) = pcs X := by
    have := congrArg (List.take (X.length * 2)) hd
    rw [List.take_take, Nat.min_eq_left (by omega), pcs_append, List.take_left' (pcs_length X)] at this
    exact this
  obtain ⟨cur1, hcur1⟩ : ∃ c, splice cur (X.length * 2) (pcs Y) = c := ⟨_, rfl⟩
  have hY : ∀ j v, (pcs Y)[j]? = some v → w.cell? ⟨g, (X.length + 1) * 2 + j, none⟩ = some v := fun j v hj => h.cell (by
    rw [pcs_append, List.getElem?_append_right (by rw [pcs_length]; omega), pcs_length]
    have : (X.length + 1) * 2 + j - X.length * 2 = 2 + j := by omega
    rw [this]
    show (p.cs ++ pcs Y)[2 + j]? = some v
    rw [List.getElem?_append_right (by simp [Pr.cs])]
    simpa [Pr.cs] using hj)
  have hlen1 : cur1.length = cap * 2 := by rw [← hcur1, length_splice _ _ _ (by rw [pcs_length]; omega), hs]
  have htk1 : cur1.take ((X.length + Y.length) * 2) = pcs (X ++ Y) := by
    rw [← hcur1, pcs_append]
    exact splice_head (k := 0) hx (by rw [pcs_length]; omega) (by rw [pcs_length]; omega)
  obtain ⟨i0, hi0, _, hz1, _⟩ := info_parts info50
  have hrA : ∀ so, (so = (X.length + 1) * 2 ∨ Y.length = 0) → BRun2 .append #[22, 22] 22 (.slice (some ⟨g, 0, none⟩) X.length cap) (.slice (some ⟨g, so, none⟩) Y.length (cap - (X.length + 1))) (.slice (some ⟨g, 0, none⟩) (X.length + Y.length) cap) w.drew (w.drew.setRow g cur1.toArray) := fun so hso => ⟨fun q => by
    have hY2 : ∀ j v, (pcs Y)[j]? = some v → w.cell? ⟨g, so + j, none⟩ = some v := by
      rcases hso with rfl | h0
      · exact hY
      · rw [List.eq_nil_of_length_eq_zero h0]; intro j v hj; simp [pcs] at hj
    have := run_append_room (P := Try.prog) w.drew 22 22 50 i0 Try.underlying22 hi0 g X.length cap cur.toArray h.blk ⟨g, so, none⟩ Y.length (cap - (X.length + 1)) (pcs Y) (by rw [pcs_length, hz1]) (fun j u hj => by rw [add_lit0]; exact hY2 j u hj) (one_pcs _) (by omega) (by rw [hz1, pcs_length]; simp; omega)
    rw [hz1] at this
    simp only [builtin, Sem.run_bind, this, Result.andThen_ok, Sem.run_pure]
    rw [← hcur1]
    unfold splice
    simp⟩
  have hB1 : Blk (w.drew.setRow g cur1.toArray) g cur1 := blk_setRow (w := w.drew) h.blk _
  have t1 : Turn (fun k => k = g) w (w.drew.setRow g cur1.toArray) := (Turn.refl _ w).drew.trans (turn_setRow _ _ _)
  generalize w.drew.setRow g cur1.toArray = w2 at hrA hB1 t1
  obtain ⟨zs, hzs, hrC⟩ := run_cl (n := X.length + (Y.length + 1) - (X.length + Y.length)) (cap := cap - (X.length + Y.length)) hB1 (o := (X.length + Y.length) * 2) (by omega) (by omega) 0
  have hFin : Hid ((∃ cur', Hd (w2.setRow g (splice cur1 ((X.length + Y.length) * 2) zs).toArray) g cap cur' (X ++ Y)) ∧ Turn (fun k => k = g) w (w2.setRow g (splice cur1 ((X.length + Y.length) * 2) zs).toArray)) := by
    refine Lib.hid ⟨⟨_, blk_setRow hB1 _, ?_, by simp; omega, ?_⟩, t1.trans (turn_setRow _ _ _)⟩
    · rw [length_splice _ _ _ (by omega), hlen1]
    · rw [List.length_append]
      exact splice_keep htk1 (Nat.le_refl _) (by omega)
  generalize (w2.setRow g (splice cur1 ((X.length + Y.length) * 2) zs).toArray) = w3 at hrC hFin
  clear h hd hx hcur1 hY hlen1 htk1 hi0 hz1 hB1 t1 hzs hs
  have n1 : X.length ≤ cap := by omega
  have n2 : X.length + 1 ≤ X.length + (Y.length + 1) := by omega
  have n3 : X.length + (Y.length + 1) - (X.length + 1) = Y.length := by omega
  have n4 : (0 : Int) ≤ (X.length : Int) + 1 := by omega
  have n5 : (1 : Int) ≤ (Y.length : Int) + 1 := by omega
  have hcase : Hid (cap = X.length + 1 ∨ ¬ cap = X.length + 1) := Lib.hid (Decidable.em _)
  go_enter Try.func53, Try.ntmps53
  go_wp2_with fail
  rcases hcase.out with hq | hq
  · have hrA1 := hrA 0 (Or.inr (by omega))
    clear hrA hcase
    have n6 : (X.length : Int) ≤ (X.length : Int) + 1 := by omega
    subst hq
    rw [show X.length + 1 - (X.length + 1) = 0 by omega] at hrA1
    go_region_law ((refine step_brun2 (by rfl) _ _ .append _ (by rfl) _ _ _ (by simp [Act.eval, Act.put]) (by simp [Act.eval, Act.put]) hrA1 ?_))
    all_goals go_wp2_with (refine wpList_brun1 (by rfl) _ .clear _ (by rfl) _ _ (by rfl) hrC ?_)
    all_goals go_ret
    all_goals exact ⟨rfl, hFin.out⟩
  · have hrA1 := hrA _ (Or.inl rfl)
    clear hrA hcase
    go_region_law ((refine step_brun2 (by rfl) _ _ .append _ (by rfl) _ _ _ (by simp [Act.eval, Act.put]) (by simp [Act.eval, Act.put]) hrA1 ?_))
    all_goals go_wp2_with (refine wpList_brun1 (by rfl) _ .clear _ (by rfl) _ _ (by rfl) hrC ?_)
    all_goals go_ret
    all_goals exact ⟨rfl, hFin.out⟩
end Go.Proofs.Ytjjmooegpoeomaa
