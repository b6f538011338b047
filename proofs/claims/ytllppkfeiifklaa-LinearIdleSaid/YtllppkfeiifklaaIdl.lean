/-
  A row without some of its operations: plain data.
-/
import Derived.Test.YtllppkfeiifklaaJ30
namespace Go.Proofs.Ytllppkfeiifklaa
open Go.RowKit Go.Lib
set_option linter.unusedVariables false
set_option maxRecDepth 20000
set_option linter.unusedSimpArgs false

/-- The events of the operations that k keeps. -/
def keepL (k : Int → Bool) (l : List Ev) : List Ev := l.filter fun e => k e.id
theorem keepL_snoc (k : Int → Bool) (l : List Ev) (e : Ev) : keepL k (l ++ [e]) = keepL k l ++ if k e.id = true then [e] else [] := by
  unfold keepL
  rw [List.filter_append]
  congr 1
  cases h : k e.id <;> simp [h]
theorem kn_keep (k : Int → Bool) {l : List Ev} (h : Right l) : ∀ i, k i = true → kn (keepL k l) i = kn l i := by
  induction h with
  | nil => intro i _; rfl
  | @snoc l e hl hf ih =>
    intro i hi
    rw [keepL_snoc, kn_snoc]
    by_cases hk : k e.id = true
    · rw [if_pos hk, kn_snoc]
      unfold upd
      split
      · rfl
      · exact ih i hi
    · rw [if_neg hk, List.append_nil, ih i hi]
      unfold upd
      rw [if_neg (fun h => hk (by rw [← h]; exact hi))]
/-- A right row without some of its operations is right. -/
theorem Right.keep (k : Int → Bool) {l : List Ev} (h : Right l) : Right (keepL k l) := by
  induction h with
  | nil => exact .nil
  | @snoc l e hl hf ih =>
    rw [keepL_snoc]
    split
    · rename_i hk
      refine .snoc ih ?_
      unfold fits at hf ⊢
      rw [kn_keep k hl _ hk]
      exact hf
    · rwa [List.append_nil]
/-- The first event of a kind of an operation that is kept is the same event. -/
theorem find_keep (k : Int → Bool) (kind id : Int) (hk : k id = true) (l : List Ev) : (keepL k l).find? (isAt kind id) = l.find? (isAt kind id) := by
  unfold keepL
  induction l with
  | nil => rfl
  | cons e t ih =>
    by_cases h : isAt kind id e = true
    · have hid := (isAt_iff.1 h).2
      rw [List.filter_cons_of_pos (by show k e.id = true; rw [hid]; exact hk), List.find?_cons_of_pos h, List.find?_cons_of_pos h]
    · cases hke : k e.id with
      | true => rw [List.filter_cons_of_pos (by exact hke), List.find?_cons_of_neg h, List.find?_cons_of_neg h, ih]
      | false => rw [List.filter_cons_of_neg (by rw [hke]; decide), List.find?_cons_of_neg h, ih]
theorem stO_find (l : List Ev) (id : Int) : stO l id = ((l.find? (isAt 1 id)).map (·.op.pure)).getD op00 := by
  unfold stO firstAt
  cases h : l.findIdx? (isAt 1 id) with
  | none =>
    rw [List.findIdx?_eq_none_iff] at h
    rw [List.find?_eq_none.2 (fun x hx => by rw [h x hx]; decide)]
    rfl
  | some n =>
    rw [List.findIdx?_eq_some_iff_getElem] at h
    obtain ⟨h1, h2, h3⟩ := h
    have : l.find? (isAt 1 id) = some l[n] := by
      rw [List.find?_eq_some_iff_getElem]
      exact ⟨h2, n, h1, rfl, fun j hj => by simpa using h3 j hj⟩
    rw [this]
    show ((l[n]?).map (·.op.pure)).getD op00 = _
    rw [List.getElem?_eq_getElem h1]
theorem stO_keep (k : Int → Bool) {id : Int} (hk : k id = true) (l : List Ev) : stO (keepL k l) id = stO l id := by
  rw [stO_find, stO_find, find_keep k 1 id hk]
end Go.Proofs.Ytllppkfeiifklaa
