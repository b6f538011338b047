/-
  What becomes of the law's world where a thing is released in both pools.
-/
import Derived.Test.YtbdfbgkfhaiccaaDoorWorld
namespace Go.Proofs.YtbdfbgkfhaiccaaDoor
open Go.RowKit Go.Maps
set_option linter.unusedVariables false
def updFs (ff : Nat → Int → Option Value) (i : Nat) (f : Int → Option Value) : Nat → Int → Option Value := fun j => if j = i then f else ff j
section
variable {w0 wr wr' : World} {n xb pb gb fb : Nat} {ab mb : Nat → Nat} {qb lb cap : Nat} {vt : Value} {G : List Nat} {fr : Nat → Bool} {MM : Nat → Nat → Option (Nat × Value)} {nn : Nat → Nat} {ff : Nat → Int → Option Value} {L : List Sl} {hs : List (Nat × Nat)}
theorem WSt.isMap (h : WSt w0 wr n xb pb gb fb ab mb qb lb cap vt G fr MM nn ff L hs) {i : Nat} (h1 : 1 ≤ i) (h3 : i ≤ 3) : ∃ es cl, At wr (mb i) (.map es cl) := by
  rcases (show i = 1 ∨ i = 2 ∨ i = 3 by omega) with rfl | rfl | rfl
  · exact (h.a 1 (Or.inl rfl)).2.1.obj
  · exact h.b.2.1.obj
  · exact (h.a 3 (Or.inr rfl)).2.1.obj
/-- Of the blocks that a change in both pools turns none is of a type other than these, nor another map. -/
theorem WSt.offs2 (h : WSt w0 wr n xb pb gb fb ab mb qb lb cap vt G fr MM nn ff L hs) {i : Nat} (h1 : 1 ≤ i) (h3 : i ≤ 3) (ts : List TypeId) (h30 : 30 ∉ ts) (h110 : 110 ∉ ts) {m : Nat} (hj : mb i ≠ m) : Off wr ts m (fun k => k = gb ∨ k = fb ∨ k = mb i ∨ k = lb) := by
  intro k hk
  obtain ⟨⟨c1, p1⟩, ⟨c2, p2⟩, _⟩ := h.pool.rows
  obtain ⟨c3, p3, _⟩ := h.doc.row
  rcases hk with rfl | rfl | rfl | rfl
  · exact Or.inl ⟨30, ⟨c1, p1⟩, h30⟩
  · exact Or.inl ⟨30, ⟨c2, p2⟩, h30⟩
  · exact Or.inr ⟨h.isMap h1 h3, hj⟩
  · exact Or.inl ⟨110, ⟨c3, p3⟩, h110⟩
theorem WSt.mne (h : WSt w0 wr n xb pb gb fb ab mb qb lb cap vt G fr MM nn ff L hs) {i j : Nat} (h1 : 1 ≤ i) (h3 : i ≤ 3) (j1 : 1 ≤ j) (j3 : j ≤ 3) (hne : i ≠ j) : mb i ≠ mb j := by
  obtain ⟨e1, e2, e3⟩ := h.ne
  rcases (show i = 1 ∨ i = 2 ∨ i = 3 by omega) with rfl | rfl | rfl <;> rcases (show j = 1 ∨ j = 2 ∨ j = 3 by omega) with rfl | rfl | rfl <;> first | exact absurd rfl hne | assumption | (exact Ne.symm (by assumption))

theorem WSt.deleted (h : WSt w0 wr n xb pb gb fb ab mb qb lb cap vt G fr MM nn ff L hs) {i s : Nat} {q : Sl} (hs' : L[s]? = some q) (h1 : 1 ≤ i) (h3 : i ≤ 3) (hw : q.who = i)
    (hp : Pool wr' pb gb fb (G.set s ((G.getD s 0 + 1) % 18446744073709551616)) (fun y => fr y || y == s))
    (ha : i ≠ 2 → ArF 89 97 wr' (ab i) (mb i) (.pointer (some ⟨pb, 0, none⟩)) (updM (MM i) s none) (nn i - 1) (del (ff i) (s : Int)))
    (hb : i = 2 → ArF 113 134 wr' (ab i) (mb i) (.pointer (some ⟨pb, 0, none⟩)) (updM (MM i) s none) (nn i - 1) (del (ff i) (s : Int)))
    (hd : Doc wr' qb lb cap (L.set s ⟨(q.g + 1) % 18446744073709551616, 0, ⟨#[]⟩⟩)) (t : Turn (fun k => k = gb ∨ k = fb ∨ k = mb i ∨ k = lb) wr wr') :
    WSt w0 wr' n xb pb gb fb ab mb qb lb cap vt (G.set s ((G.getD s 0 + 1) % 18446744073709551616)) (fun y => fr y || y == s) (updMs MM i s none) (updNs nn i (nn i - 1)) (updFs ff i (del (ff i) (s : Int))) (L.set s ⟨(q.g + 1) % 18446744073709551616, 0, ⟨#[]⟩⟩) hs := by
  have hsl : s < L.length := (List.getElem?_eq_some_iff.1 hs').1
  have hsub : ∀ j x v, updFs ff i (del (ff i) (s : Int)) j x = some v → ff j x = some v := fun j x v hv => by
    unfold updFs at hv
    by_cases e : j = i
    · subst e
      rw [if_pos rfl] at hv
      unfold del at hv
      split at hv
      · cases hv
      · exact hv
    · rw [if_neg e] at hv; exact hv
  obtain ⟨n1, n2, n3, n4⟩ := h.new
  have nM := h.newM i
  refine ⟨hp, ?_, ?_, hd, ?_, ?_, ?_, h.new, h.newM, h.ne, fun j x q hq => h.newP j x q (hsub j x _ hq), fun x y v hx hy => h.sep x y v (hsub 1 x v hx) (hsub 3 y v hy), ?_, h.pv.del hs' h1 h3 hw, h.each⟩
  · intro j hj
    unfold updMs updNs updFs
    by_cases e : j = i
    · subst e
      rw [if_pos rfl, if_pos rfl, if_pos rfl]
      exact ha (by omega)
    · rw [if_neg e, if_neg e, if_neg e]
      exact (h.a j hj).off t (h.offs2 h1 h3 _ (by decide) (by decide) (h.mne h1 h3 (by omega) (by omega) (Ne.symm e)))
  · unfold updMs updNs updFs
    by_cases e : 2 = i
    · subst e
      rw [if_pos rfl, if_pos rfl, if_pos rfl]
      exact hb rfl
    · rw [if_neg e, if_neg e, if_neg e]
      exact h.b.off t (h.offs2 h1 h3 _ (by decide) (by decide) (h.mne h1 h3 (by omega) (by omega) (Ne.symm e)))
  · exact h.hd.turn t ((h.offs2 h1 h3 [60] (by decide) (by decide) (m := mb i + 1) (by omega)).row ⟨_, h.hd⟩ (by simp))
  · exact h.told.turn t (fun k c hk _ _ => (h.offs2 h1 h3 [32] (by decide) (by decide) (m := mb i + 1) (by omega)).row ⟨c, hk⟩ (by simp))
  · exact h.old.then t (fun k hk hx => by omega)
  · intro k p g v hk hm
    unfold updMs at hm
    have hkm : k ≠ s ∧ MM 2 k = some (g, v) := by
      by_cases e : 2 = i
      · subst e
        rw [if_pos rfl] at hm
        unfold updM at hm
        by_cases ek : k = s
        · rw [if_pos ek] at hm; cases hm
        · rw [if_neg ek] at hm; exact ⟨ek, hm⟩
      · rw [if_neg e] at hm
        refine ⟨fun ek => ?_, hm⟩
        subst ek
        have := h.pv.has 2 k (by omega) (by omega)
        rw [hm, isOf_at hs', hw] at this
        have a1 : ¬ i = 2 := fun e2 => e e2.symm
        simp [a1] at this
    rw [List.getElem?_set_ne (Ne.symm hkm.1)] at hk
    obtain ⟨tb, e, ht, hl⟩ := h.txt k p g v hk hkm.2
    exact ⟨tb, e, ht.turn t ((h.offs2 h1 h3 [9] (by decide) (by decide) (m := mb i + 1) (by omega)).row ⟨_, ht⟩ (by simp)), hl⟩
end
end Go.Proofs.YtbdfbgkfhaiccaaDoor
