/-
  A pool with three arenas beside the document's pool: what holds of the two, and what becomes of it.
-/
import Derived.Test.YtbdfbgkfhaiccaaDoorWDocE
import Derived.Test.YtbdfbgkfhaiccaaDoorWArG
import Derived.Test.YtbdfbgkfhaiccaaDoorHnd
namespace Go.Proofs.YtbdfbgkfhaiccaaDoor
open Go.RowKit Go.Maps
set_option linter.unusedVariables false

/-- Whether slot k is arena a's. -/
def isOf (L : List Sl) (a k : Nat) : Bool := match L[k]? with | some q => q.who == a | none => false
theorem isOf_at {L : List Sl} {a k : Nat} {q : Sl} (h : L[k]? = some q) : isOf L a k = (q.who == a) := by unfold isOf; rw [h]
theorem isOf_zero (L : List Sl) (k : Nat) : isOf L 0 k = dfr L k := rfl
theorem isOf_set {L : List Sl} {s : Nat} {p : Sl} (hs : s < L.length) (a k : Nat) : isOf (L.set s p) a k = if k = s then p.who == a else isOf L a k := by
  unfold isOf
  rw [List.getElem?_set]
  by_cases e : s = k
  · subst e; simp [hs]
  · simp [e, Ne.symm e]
theorem isOf_lt {L : List Sl} {a k : Nat} (h : isOf L a k = true) : k < L.length := by
  unfold isOf at h
  split at h
  · rename_i q hq; exact (List.getElem?_eq_some_iff.1 hq).1
  · cases h

theorem dhs_len (L : List Sl) (a : Nat) : ∀ j, (dhs L a j).length = cnt (isOf L a) j
  | 0 => rfl
  | j + 1 => by
    rw [dhs, List.length_append, dhs_len L a j, cnt]
    unfold isOf
    cases hq : L[j]? with
    | none => simp
    | some q =>
      by_cases hw : q.who = a
      · simp [hw]
      · simp [hw]

/-- The slots of an arena among the first j. -/
def dsl (L : List Sl) (a : Nat) : Nat → List Nat
  | 0 => []
  | j + 1 => dsl L a j ++ (if isOf L a j then [j] else [])
theorem dsl_mem (L : List Sl) (a : Nat) : ∀ j x, x ∈ dsl L a j ↔ x < j ∧ isOf L a x = true
  | 0, x => by simp [dsl]
  | j + 1, x => by
    rw [dsl, List.mem_append, dsl_mem L a j x]
    by_cases h : isOf L a j = true
    · rw [if_pos h]
      simp only [List.mem_singleton]
      constructor
      · rintro (⟨h1, h2⟩ | rfl)
        · exact ⟨by omega, h2⟩
        · exact ⟨by omega, h⟩
      · rintro ⟨h1, h2⟩
        by_cases e : x = j
        · exact Or.inr e
        · exact Or.inl ⟨by omega, h2⟩
    · rw [if_neg h]
      simp only [List.not_mem_nil, or_false]
      constructor
      · rintro ⟨h1, h2⟩; exact ⟨by omega, h2⟩
      · rintro ⟨h1, h2⟩
        by_cases e : x = j
        · subst e; exact absurd h2 h
        · exact ⟨by omega, h2⟩
theorem dsl_up (L : List Sl) (a : Nat) : ∀ j, (dsl L a j).Pairwise (· < ·)
  | 0 => List.Pairwise.nil
  | j + 1 => by
    rw [dsl, List.pairwise_append]
    refine ⟨dsl_up L a j, by split <;> simp, fun x hx y hy => ?_⟩
    have h1 := ((dsl_mem L a j x).1 hx).1
    split at hy
    · simp at hy; omega
    · simp at hy
theorem dhs_map (L : List Sl) (a : Nat) (gen : Nat → Nat) (hg : ∀ k q, L[k]? = some q → q.who = a → gen k = q.g) : ∀ j, dhs L a j = (dsl L a j).map fun k => (k, gen k)
  | 0 => rfl
  | j + 1 => by
    rw [dhs, dsl, List.map_append, dhs_map L a gen hg j]
    congr 1
    unfold isOf
    cases hq : L[j]? with
    | none => simp
    | some q =>
      by_cases hw : q.who = a
      · simp [hw, hg j q hq hw]
      · simp [hw]
theorem rising_one : ∀ {l1 l2 : List Nat}, l1.Pairwise (· < ·) → l2.Pairwise (· < ·) → (∀ x, x ∈ l1 ↔ x ∈ l2) → l1 = l2
  | [], [], _, _, _ => rfl
  | [], b :: r, _, _, h => absurd ((h b).2 (by simp)) (by simp)
  | a :: r, [], _, _, h => absurd ((h a).1 (by simp)) (by simp)
  | a :: r, b :: t, h1, h2, h => by
    rw [List.pairwise_cons] at h1 h2
    have hab : a = b := by
      rcases List.mem_cons.1 ((h a).1 (by simp)) with e | e
      · exact e
      · rcases List.mem_cons.1 ((h b).2 (by simp)) with e2 | e2
        · exact e2.symm
        · have := h1.1 b e2
          have := h2.1 a e
          omega
    subst hab
    congr 1
    refine rising_one h1.2 h2.2 (fun x => ?_)
    have hx := h x
    simp only [List.mem_cons] at hx
    constructor
    · intro hm
      rcases hx.1 (Or.inr hm) with e | e
      · have := h1.1 x hm; omega
      · exact e
    · intro hm
      rcases hx.2 (Or.inr hm) with e | e
      · have := h2.1 x hm; omega
      · exact e

/-- What holds of a pool, its three arenas and the document's pool. -/
structure PV (n : Nat) (G : List Nat) (fr : Nat → Bool) (MM : Nat → Nat → Option (Nat × Value)) (nn : Nat → Nat) (L : List Sl) : Prop where
  gl : G.length = n
  ll : L.length = n
  gen : ∀ k q, L[k]? = some q → G.getD k 0 = q.g
  free : ∀ k, fr k = isOf L 0 k
  has : ∀ i k, 1 ≤ i → i ≤ 3 → (MM i k).isSome = isOf L i k
  at_ : ∀ i k q g v, 1 ≤ i → i ≤ 3 → L[k]? = some q → MM i k = some (g, v) → g = q.g ∧ (i ≠ 2 → v = .string q.x)
  num : ∀ i, 1 ≤ i → i ≤ 3 → nn i = cnt (isOf L i) n

section
variable {n : Nat} {G : List Nat} {fr : Nat → Bool} {MM : Nat → Nat → Option (Nat × Value)} {nn : Nat → Nat} {L : List Sl}
def updMs (MM : Nat → Nat → Option (Nat × Value)) (i s : Nat) (o : Option (Nat × Value)) : Nat → Nat → Option (Nat × Value) := fun j => if j = i then updM (MM i) s o else MM j
def updNs (nn : Nat → Nat) (i u : Nat) : Nat → Nat := fun j => if j = i then u else nn j

theorem PV.start (n : Nat) : PV n (List.replicate n 1) (fun x => decide (x < n)) (fun _ _ => none) (fun _ => 0) (List.replicate n sl0) where
  gl := List.length_replicate
  ll := List.length_replicate
  gen := fun k q h => by
    obtain ⟨hk, hq⟩ := List.getElem?_eq_some_iff.1 h
    rw [List.length_replicate] at hk
    rw [List.getElem_replicate] at hq
    subst hq
    simp [List.getD_eq_getElem?_getD, hk, sl0]
  free := fun k => by
    unfold isOf
    rw [List.getElem?_replicate]
    by_cases h : k < n <;> simp [h, sl0]
  has := fun i k h1 h3 => by
    unfold isOf
    rw [List.getElem?_replicate]
    by_cases h : k < n
    · simp only [h, if_true, sl0]
      have : ¬ 0 = i := by omega
      simp [this]
    · simp [h]
  at_ := fun i k q g v _ _ _ h => by cases h
  num := fun i h1 h3 => by
    refine (cnt_none _ _ (fun x hx => ?_)).symm
    unfold isOf
    rw [List.getElem?_replicate]
    simp only [hx, if_true, sl0]
    have : ¬ 0 = i := by omega
    simp [this]
end
end Go.Proofs.YtbdfbgkfhaiccaaDoor
