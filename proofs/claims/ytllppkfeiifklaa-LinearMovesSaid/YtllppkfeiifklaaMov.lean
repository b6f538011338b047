/-
  Two marks side by side change places: plain data.
-/
import Derived.Test.YtllppkfeiifklaaLpx
import Derived.Test.YtllppkfeiifklaaJ36
namespace Go.Proofs.Ytllppkfeiifklaa
open Go.RowKit Go.Lib
set_option linter.unusedVariables false
set_option maxRecDepth 20000
set_option linter.unusedSimpArgs false

theorem kn_append (P Z : List Ev) : kn (P ++ Z) = Z.foldl upd (kn P) := by unfold kn; rw [List.foldl_append]
theorem kn_swap (X : List Ev) {a b : Ev} (h : a.id ≠ b.id) : kn (X ++ [a, b]) = kn (X ++ [b, a]) := by
  rw [kn_append, kn_append]
  show upd (upd (kn X) a) b = upd (upd (kn X) b) a
  funext i
  unfold upd
  by_cases h1 : i = a.id
  · by_cases h2 : i = b.id
    · exact absurd (h1.symm.trans h2) h
    · simp [h1, h2, h]
  · simp [h1]
theorem fits_other {X : List Ev} {a e : Ev} (h : e.id ≠ a.id) : fits (X ++ [a]) e = fits X e := by
  unfold fits
  rw [kn_snoc]
  unfold upd
  rw [if_neg h]
/-- Two marks side by side are of two operations. -/
theorem marks_apart {X Y : List Ev} {a b : Ev} (h : Right (X ++ a :: b :: Y)) (ha : a.kind = 2) (hb : b.kind = 2) : a.id ≠ b.id := fun e => by
  have h1 := h.at_ (n := X.length + 1) (e := b) (by rw [List.getElem?_append_right (by omega)]; simp)
  have e1 : (X ++ a :: b :: Y).take (X.length + 1) = X ++ [a] := by
    rw [List.take_append, List.take_of_length_le (by omega)]
    simp
  rw [e1] at h1
  have h2 := (fits_kind h1).2.1
  rw [kn_snoc] at h2
  unfold upd at h2
  rw [if_pos e.symm] at h2
  rw [hb] at h2
  simp only at h2
  omega
theorem Right.swap {X Y : List Ev} {a b : Ev} (h : Right (X ++ a :: b :: Y)) (hne : a.id ≠ b.id) : Right (X ++ b :: a :: Y) := by
  have hX : Right X := by have := h.take X.length; rwa [List.take_left'  rfl] at this
  have ha := h.at_ (n := X.length) (e := a) (by rw [List.getElem?_append_right (Nat.le_refl _)]; simp)
  rw [List.take_left' rfl] at ha
  have hb := h.at_ (n := X.length + 1) (e := b) (by rw [List.getElem?_append_right (by omega)]; simp)
  have e1 : (X ++ a :: b :: Y).take (X.length + 1) = X ++ [a] := by rw [List.take_append, List.take_of_length_le (by omega)]; simp
  rw [e1, fits_other hne.symm] at hb
  have h2 : Right (X ++ [b, a]) := by
    have := Right.snoc (Right.snoc hX hb) (by rw [fits_other hne]; exact ha)
    simpa using this
  have h3 := right_of Y (X ++ [b, a]) h2 fun n e he => by
    have h4 := h.at_ (n := X.length + (2 + n)) (e := e) (by rw [List.getElem?_append_right (by omega), show X.length + (2 + n) - X.length = n + 2 by omega]; simpa using he)
    have e2 : (X ++ a :: b :: Y).take (X.length + (2 + n)) = X ++ [a, b] ++ Y.take n := by
      rw [List.take_append, List.take_of_length_le (by omega), show X.length + (2 + n) - X.length = n + 2 by omega]
      simp
    rw [e2] at h4
    unfold fits at h4 ⊢
    rw [kn_append, ← kn_swap X hne, ← kn_append]
    exact h4
  simpa using h3
end Go.Proofs.Ytllppkfeiifklaa
