/-
  What becomes of an arena, with its map's content told: which place is whose.
-/
import Derived.Test.YtbdfbgkfhaiccaaDoorAr
namespace Go.Proofs.YtbdfbgkfhaiccaaDoor
open Go.RowKit Go.Maps
set_option linter.unusedVariables false
section
variable {tA tP : TypeId} {w w' : World} {ab mb : Nat} {pp : Value} {M : Nat → Option (Nat × Value)} {n : Nat} {f : Int → Option Value}
/-- Behind 'm[s] = &place{..}': W is the world in which the place has come, q its block. -/
theorem ArF.storedF {W w2 : World} {s q g : Nat} {v : Value} (h : ArF tA tP w ab mb pp M n f) (t : Turn (fun _ => False) w W) (hq : At W q (.cells #[.int .u64 (g : Int), v] tP (0, 0))) (hf : w.heap.size ≤ q) (hM : M s = none)
    (hI : IMap Tryd.prog 3 w2 mb (put f (s : Int) (.pointer (some ⟨q, 0, none⟩))) (if (f (s : Int)).isSome then n else n + 1)) (t2 : Turn (· = mb) W w2) : ArF tA tP w2 ab mb pp (updM M s (some (g, v))) (n + 1) (put f (s : Int) (.pointer (some ⟨q, 0, none⟩))) := by
  have hs : f (s : Int) = none := by have := h.2.2.2.1 s; rw [hM] at this; exact this
  have hW := h.same t
  rw [hs] at hI
  have hmq : ∀ q c t', At W q (.cells c t' (0, 0)) → ¬ q = mb := fun q c t' hq e => hW.2.1.ne hq e.symm
  refine ⟨hW.1.turn t2 (hmq _ _ _ hW.1), hI, ?_, ?_, ?_⟩
  · intro i hi
    unfold put
    rw [if_neg (by omega)]
    exact h.2.2.1 i hi
  · intro x
    unfold updM
    by_cases hx : x = s
    · subst hx
      rw [if_pos rfl]
      exact ⟨q, by simp [put], hq.turn t2 (hmq _ _ _ hq)⟩
    · rw [if_neg hx]
      have h0 := hW.2.2.2.1 x
      have e : put f (s : Int) (.pointer (some ⟨q, 0, none⟩)) (x : Int) = f (x : Int) := by
        unfold put
        rw [if_neg (by omega)]
      cases hMx : M x with
      | none => rw [hMx] at h0; exact e.trans h0
      | some gv =>
        obtain ⟨g', v'⟩ := gv
        rw [hMx] at h0
        obtain ⟨q', h1, h2⟩ := h0
        exact ⟨q', e.trans h1, h2.turn t2 (hmq _ _ _ h2)⟩
  · have old : ∀ i v, f i = some v → v ≠ .pointer (some ⟨q, 0, none⟩) := by
      intro i v hv e
      subst e
      have hi : ¬ i < 0 := fun hi => by rw [h.2.2.1 i hi] at hv; cases hv
      obtain ⟨x, rfl⟩ : ∃ x : Nat, i = (x : Int) := ⟨i.toNat, by omega⟩
      have h0 := h.2.2.2.1 x
      cases hMx : M x with
      | none => rw [hMx] at h0; rw [show f (x : Int) = none from h0] at hv; cases hv
      | some gv =>
        obtain ⟨g', v'⟩ := gv
        rw [hMx] at h0
        obtain ⟨q', h1, h2⟩ := h0
        rw [h1] at hv
        injection hv with hv
        injection hv with hv
        injection hv with hv
        injection hv with hv
        subst hv
        have := h2.lt
        omega
    intro i j v hi hj
    unfold put at hi hj
    split at hi <;> split at hj
    · omega
    · injection hi with hi
      subst hi
      exact absurd rfl (old j _ hj)
    · injection hj with hj
      subst hj
      exact absurd rfl (old i _ hi)
    · exact h.2.2.2.2 i j v hi hj

/-- Behind 'delete(m, s)'. -/
theorem ArF.droppedF {w2 : World} {s g : Nat} {v : Value} (h : ArF tA tP w ab mb pp M n f) (hM : M s = some (g, v)) (hI : IMap Tryd.prog 3 w2 mb (del f (s : Int)) (if (f (s : Int)).isSome then n - 1 else n)) (t2 : Turn (· = mb) w w2) :
    ArF tA tP w2 ab mb pp (updM M s none) (n - 1) (del f (s : Int)) := by
  have hs : (f (s : Int)).isSome = true := by
    have := h.2.2.2.1 s
    rw [hM] at this
    obtain ⟨q, h1, _⟩ := this
    rw [h1]; rfl
  rw [if_pos hs] at hI
  have hmq : ∀ q c t', At w q (.cells c t' (0, 0)) → ¬ q = mb := fun q c t' hq e => h.2.1.ne hq e.symm
  refine ⟨h.1.turn t2 (hmq _ _ _ h.1), hI, ?_, ?_, ?_⟩
  · intro i hi
    unfold del
    split
    · rfl
    · exact h.2.2.1 i hi
  · intro x
    unfold updM
    by_cases hx : x = s
    · subst hx
      rw [if_pos rfl]
      show del f (x : Int) (x : Int) = none
      simp [del]
    · rw [if_neg hx]
      have h0 := h.2.2.2.1 x
      have e : del f (s : Int) (x : Int) = f (x : Int) := by
        unfold del
        rw [if_neg (by omega)]
      cases hMx : M x with
      | none => rw [hMx] at h0; exact e.trans h0
      | some gv =>
        obtain ⟨g', v'⟩ := gv
        rw [hMx] at h0
        obtain ⟨q', h1, h2⟩ := h0
        exact ⟨q', e.trans h1, h2.turn t2 (hmq _ _ _ h2)⟩
  · intro i j v hi hj
    unfold del at hi hj
    split at hi
    · cases hi
    · split at hj
      · cases hj
      · exact h.2.2.2.2 i j v hi hj


theorem ArF.words {X : Nat → Prop} (h : ArF tA tP w ab mb pp M n f) (t : Turn X w w') (hA : tA ≠ 30) (hP : tP ≠ 30) (hX : ∀ i, X i → ∃ c, At w i (.cells c 30 (0, 0))) : ArF tA tP w' ab mb pp M n f := by
  refine h.turn t ?_ ?_ ?_
  · intro hx
    obtain ⟨c, hc⟩ := hX _ hx
    have := h.1.eq hc
    injection this with _ this
    exact hA this
  · intro hx
    obtain ⟨c, hc⟩ := hX _ hx
    exact h.2.1.ne hc rfl
  · intro q c hq hx
    obtain ⟨c', hc⟩ := hX _ hx
    have := hq.eq hc
    injection this with _ this
    exact hP this

end
end Go.Proofs.YtbdfbgkfhaiccaaDoor
