/-
  An arena in memory: its struct, its map, and the places that the map points to; and what becomes of it when a place comes or goes.
-/
import Derived.Test.YtbdfbgkfhaiccaaDoorWNew
namespace Go.Proofs.YtbdfbgkfhaiccaaDoor
open Go.RowKit Go.Maps
set_option linter.unusedVariables false

/-- What Get of a thing that is alive comes to. -/
def GetYes (tP : TypeId) (g : Nat) (v : Value) (w : World) (e : Ending) (w' : World) : Prop := ∃ q, e = .returned (.tuple #[.pointer (some ⟨q, 1, none⟩), .bool true]) ∧ At w q (.cells #[.int .u64 (g : Int), v] tP (0, 0)) ∧ Turn (fun _ => False) w w'

theorem law3 : Keyed Tryd.prog 3 := int_keyed Tryd.underlying3

/-- What stands at slot x. -/
def Place (tP : TypeId) (w : World) (f : Int → Option Value) (x : Nat) : Option (Nat × Value) → Prop
  | none => f (x : Int) = none
  | some (g, v) => ∃ q, f (x : Int) = some (.pointer (some ⟨q, 0, none⟩)) ∧ At w q (.cells #[.int .u64 (g : Int), v] tP (0, 0))

def ArF (tA tP : TypeId) (w : World) (ab mb : Nat) (pp : Value) (M : Nat → Option (Nat × Value)) (n : Nat) (f : Int → Option Value) : Prop :=
  At w ab (.cells #[pp, .map (some mb)] tA (0, 0)) ∧ IMap Tryd.prog 3 w mb f n ∧ (∀ i : Int, i < 0 → f i = none) ∧ (∀ x : Nat, Place tP w f x (M x)) ∧ ∀ i j v, f i = some v → f j = some v → i = j

/-- An arena: its block, its map's block, its pool, what stands in which slot, and how many things. -/
def Ar (tA tP : TypeId) (w : World) (ab mb : Nat) (pp : Value) (M : Nat → Option (Nat × Value)) (n : Nat) : Prop := ∃ f, ArF tA tP w ab mb pp M n f

section
variable {tA tP : TypeId} {w w' : World} {ab mb : Nat} {pp : Value} {M : Nat → Option (Nat × Value)} {n : Nat} {f : Int → Option Value}

theorem Place.turn {X : Nat → Prop} {x : Nat} : ∀ {o : Option (Nat × Value)}, Place tP w f x o → Turn X w w' → (∀ q c, At w q (.cells c tP (0, 0)) → ¬ X q) → Place tP w' f x o
  | none, h, _, _ => h
  | some (g, v), ⟨q, h1, h2⟩, t, hX => ⟨q, h1, h2.turn t (hX q _ h2)⟩

theorem ArF.turn {X : Nat → Prop} (h : ArF tA tP w ab mb pp M n f) (t : Turn X w w') (h1 : ¬ X ab) (h2 : ¬ X mb) (hX : ∀ q c, At w q (.cells c tP (0, 0)) → ¬ X q) : ArF tA tP w' ab mb pp M n f :=
  ⟨h.1.turn t h1, h.2.1.turn t h2, h.2.2.1, fun x => (h.2.2.2.1 x).turn t hX, h.2.2.2.2⟩
theorem Ar.turn {X : Nat → Prop} (h : Ar tA tP w ab mb pp M n) (t : Turn X w w') (h1 : ¬ X ab) (h2 : ¬ X mb) (hX : ∀ q c, At w q (.cells c tP (0, 0)) → ¬ X q) : Ar tA tP w' ab mb pp M n := by
  obtain ⟨f, h⟩ := h
  exact ⟨f, h.turn t h1 h2 hX⟩
theorem Ar.same (h : Ar tA tP w ab mb pp M n) (t : Turn (fun _ => False) w w') : Ar tA tP w' ab mb pp M n := h.turn t (fun h => h) (fun h => h) (fun _ _ _ h => h)
theorem ArF.same (h : ArF tA tP w ab mb pp M n f) (t : Turn (fun _ => False) w w') : ArF tA tP w' ab mb pp M n f := h.turn t (fun h => h) (fun h => h) (fun _ _ _ h => h)

/-- The pool's words turn: the arena doesn't. -/
theorem Ar.words {X : Nat → Prop} (h : Ar tA tP w ab mb pp M n) (t : Turn X w w') (hA : tA ≠ 30) (hP : tP ≠ 30) (hX : ∀ i, X i → ∃ c, At w i (.cells c 30 (0, 0))) : Ar tA tP w' ab mb pp M n := by
  obtain ⟨f, h⟩ := h
  refine ⟨f, h.turn t ?_ ?_ ?_⟩
  · intro hx
    obtain ⟨c, hc⟩ := hX _ hx
    have := h.1.eq hc
    injection this with _ this
    exact hA this
  · intro hx
    obtain ⟨c, hc⟩ := hX _ hx
    exact h.2.1.ne hc rfl
  · intro q c hq hx
    obtain ⟨c', hc⟩ := hX _ hx
    have := hq.eq hc
    injection this with _ this
    exact hP this
/-- Another arena's map turns. -/
theorem Ar.map {X : Nat → Prop} (h : Ar tA tP w ab mb pp M n) (t : Turn X w w') {b2 : Nat} {f2 : Int → Option Value} {n2 : Nat} (h2 : IMap Tryd.prog 3 w b2 f2 n2) (hX : ∀ i, X i → i = b2) (hne : mb ≠ b2) : Ar tA tP w' ab mb pp M n := by
  obtain ⟨f, h⟩ := h
  refine ⟨f, h.turn t ?_ ?_ ?_⟩
  · intro hx
    exact h2.ne h.1 (hX _ hx).symm
  · intro hx
    exact hne (hX _ hx)
  · intro q c hq hx
    exact h2.ne hq (hX _ hx).symm

def updM (M : Nat → Option (Nat × Value)) (s : Nat) (o : Option (Nat × Value)) : Nat → Option (Nat × Value) := fun x => if x = s then o else M x

theorem Place.lt {x : Nat} {q : Nat} {c : Array Value} (h : At w q (.cells c tP (0, 0))) : q < w.heap.size := h.lt

/-- Behind 'm[s] = &place{..}': W is the world in which the place has come, q its block. -/
theorem ArF.stored {W w2 : World} {s q g : Nat} {v : Value} (h : ArF tA tP w ab mb pp M n f) (t : Turn (fun _ => False) w W) (hq : At W q (.cells #[.int .u64 (g : Int), v] tP (0, 0))) (hf : w.heap.size ≤ q) (hM : M s = none)
    (hI : IMap Tryd.prog 3 w2 mb (put f (s : Int) (.pointer (some ⟨q, 0, none⟩))) (if (f (s : Int)).isSome then n else n + 1)) (t2 : Turn (· = mb) W w2) : Ar tA tP w2 ab mb pp (updM M s (some (g, v))) (n + 1) := by
  have hs : f (s : Int) = none := by have := h.2.2.2.1 s; rw [hM] at this; exact this
  have hW := h.same t
  rw [hs] at hI
  have hmq : ∀ q c t', At W q (.cells c t' (0, 0)) → ¬ q = mb := fun q c t' hq e => hW.2.1.ne hq e.symm
  refine ⟨_, hW.1.turn t2 (hmq _ _ _ hW.1), hI, ?_, ?_, ?_⟩
  · intro i hi
    unfold put
    rw [if_neg (by omega)]
    exact h.2.2.1 i hi
  · intro x
    unfold updM
    by_cases hx : x = s
    · subst hx
      rw [if_pos rfl]
      exact ⟨q, by simp [put], hq.turn t2 (hmq _ _ _ hq)⟩
    · rw [if_neg hx]
      have h0 := hW.2.2.2.1 x
      have e : put f (s : Int) (.pointer (some ⟨q, 0, none⟩)) (x : Int) = f (x : Int) := by
        unfold put
        rw [if_neg (by omega)]
      cases hMx : M x with
      | none => rw [hMx] at h0; exact e.trans h0
      | some gv =>
        obtain ⟨g', v'⟩ := gv
        rw [hMx] at h0
        obtain ⟨q', h1, h2⟩ := h0
        exact ⟨q', e.trans h1, h2.turn t2 (hmq _ _ _ h2)⟩
  · have old : ∀ i v, f i = some v → v ≠ .pointer (some ⟨q, 0, none⟩) := by
      intro i v hv e
      subst e
      have hi : ¬ i < 0 := fun hi => by rw [h.2.2.1 i hi] at hv; cases hv
      obtain ⟨x, rfl⟩ : ∃ x : Nat, i = (x : Int) := ⟨i.toNat, by omega⟩
      have h0 := h.2.2.2.1 x
      cases hMx : M x with
      | none => rw [hMx] at h0; rw [show f (x : Int) = none from h0] at hv; cases hv
      | some gv =>
        obtain ⟨g', v'⟩ := gv
        rw [hMx] at h0
        obtain ⟨q', h1, h2⟩ := h0
        rw [h1] at hv
        injection hv with hv
        injection hv with hv
        injection hv with hv
        injection hv with hv
        subst hv
        have := h2.lt
        omega
    intro i j v hi hj
    unfold put at hi hj
    split at hi <;> split at hj
    · omega
    · injection hi with hi
      subst hi
      exact absurd rfl (old j _ hj)
    · injection hj with hj
      subst hj
      exact absurd rfl (old i _ hi)
    · exact h.2.2.2.2 i j v hi hj

/-- Behind 'delete(m, s)'. -/
theorem ArF.dropped {w2 : World} {s g : Nat} {v : Value} (h : ArF tA tP w ab mb pp M n f) (hM : M s = some (g, v)) (hI : IMap Tryd.prog 3 w2 mb (del f (s : Int)) (if (f (s : Int)).isSome then n - 1 else n)) (t2 : Turn (· = mb) w w2) :
    Ar tA tP w2 ab mb pp (updM M s none) (n - 1) := by
  have hs : (f (s : Int)).isSome = true := by
    have := h.2.2.2.1 s
    rw [hM] at this
    obtain ⟨q, h1, _⟩ := this
    rw [h1]; rfl
  rw [if_pos hs] at hI
  have hmq : ∀ q c t', At w q (.cells c t' (0, 0)) → ¬ q = mb := fun q c t' hq e => h.2.1.ne hq e.symm
  refine ⟨_, h.1.turn t2 (hmq _ _ _ h.1), hI, ?_, ?_, ?_⟩
  · intro i hi
    unfold del
    split
    · rfl
    · exact h.2.2.1 i hi
  · intro x
    unfold updM
    by_cases hx : x = s
    · subst hx
      rw [if_pos rfl]
      show del f (x : Int) (x : Int) = none
      simp [del]
    · rw [if_neg hx]
      have h0 := h.2.2.2.1 x
      have e : del f (s : Int) (x : Int) = f (x : Int) := by
        unfold del
        rw [if_neg (by omega)]
      cases hMx : M x with
      | none => rw [hMx] at h0; exact e.trans h0
      | some gv =>
        obtain ⟨g', v'⟩ := gv
        rw [hMx] at h0
        obtain ⟨q', h1, h2⟩ := h0
        exact ⟨q', e.trans h1, h2.turn t2 (hmq _ _ _ h2)⟩
  · intro i j v hi hj
    unfold del at hi hj
    split at hi
    · cases hi
    · split at hj
      · cases hj
      · exact h.2.2.2.2 i j v hi hj

theorem ArF.made (w : World) (tA tP : TypeId) (pp : Value) : ArF tA tP ((w.alloc (.map #[] 0)).alloc (.cells #[pp, .map (some w.heap.size)] tA)) (w.heap.size + 1) w.heap.size pp (fun _ => none) 0 (fun _ => none) := by
  have h1 := IMap.made Tryd.prog 3 w
  have e : (w.alloc (.map #[] 0)).heap.size = w.heap.size + 1 := by simp
  refine ⟨?_, h1.turn ((Turn.refl (fun _ => False) _).alloc _) (fun h => h), fun _ _ => rfl, fun _ => rfl, fun _ _ _ h => by cases h⟩
  have := At.new (w.alloc (.map #[] 0)) (.cells #[pp, .map (some w.heap.size)] tA)
  rw [e] at this
  exact this
end
end Go.Proofs.YtbdfbgkfhaiccaaDoor
