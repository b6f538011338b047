/-
  The document's epoch as plain data, beside the epoch's: who is pinned, and of each that waits its number and whom it waits for.
-/
import Derived.Test.YthohhehelnkpgaaRef
namespace Go.Proofs.Ythohhehelnkpgaa
open Go.RowKit Go.Maps Go.IntWalk Go.Lib
set_option linter.unusedVariables false

/-- Whom the one of number j waits for. -/
def wl (P : List (Int × Nat)) (j : Nat) : List Int := (P.filter fun p => decide (p.2 ≤ j)).map (·.1)
def lt1 (t : Int) (l : List Int) : Nat := (l.takeWhile fun x => decide (x < t)).length
section
variable {P : List (Int × Nat)} {E : Ab} {t : Int}
theorem wl_len_le (P : List (Int × Nat)) (j : Nat) : (wl P j).length ≤ P.length := by
  unfold wl
  rw [List.length_map]
  exact List.length_filter_le ..
theorem wl_all (h : E.wf) : wl E.P E.len = E.tasks := by
  unfold wl Ab.tasks
  rw [List.filter_eq_self.2 fun p hp => by simpa using (h.nums p hp).2]
theorem wl_del (P : List (Int × Nat)) (t : Int) (j : Nat) : wl (del1 P t) j = wo (wl P j) t := by
  unfold wl wo del1
  rw [List.filter_map, List.filter_filter, List.filter_filter]
  congr 1
  refine List.filter_congr fun p _ => ?_
  simp [Bool.and_comm]
theorem wl_ins {k : Nat} : ∀ (P : List (Int × Nat)) (t : Int) (j : Nat), j < k → wl (ins t k P) j = wl P j
  | [], t, j, h => by simp [ins, wl]; omega
  | p :: r, t, j, h => by
    have ih := wl_ins r t j h
    unfold ins
    split
    · unfold wl at ih ⊢
      by_cases hp : p.2 ≤ j <;> simp [hp] at ih ⊢ <;> exact ih
    · have : ¬ k ≤ j := by omega
      unfold wl
      rw [List.filter_cons_of_neg (by simpa using this)]
theorem tasks_del (E : Ab) (t : Int) : (E.unpin t).tasks = wo E.tasks t := by
  unfold Ab.tasks wo Ab.unpin del1
  rw [List.filter_map]
  rfl
theorem map_ins (k : Nat) : ∀ (P : List (Int × Nat)) (t : Int), (ins t k P).map (·.1) = (P.map (·.1)).take (lt1 t (P.map (·.1))) ++ t :: (P.map (·.1)).drop (lt1 t (P.map (·.1)))
  | [], t => rfl
  | p :: r, t => by
    have ih := map_ins k r t
    unfold ins
    split
    · rename_i hp
      unfold lt1 at ih ⊢
      rw [List.map_cons, ih, List.map_cons, List.takeWhile_cons, if_pos (by simpa using hp)]
      simp
    · rename_i hp
      unfold lt1
      rw [List.map_cons, List.map_cons, List.takeWhile_cons, if_neg (by simpa using hp)]
      simp
theorem wl_ripe (h : E.wf) (h0 : cntk E.P E.gone = 0) : wl E.P E.gone = [] := by
  unfold wl
  rw [List.map_eq_nil_iff, List.filter_eq_nil_iff]
  intro p hp
  have h1 := (h.nums p hp).1
  have h2 := cnt_none h0 p hp
  simp
  omega
theorem wl_held (h0 : cntk E.P E.gone ≠ 0) (j : Nat) (hj : E.gone ≤ j) : wl E.P j ≠ [] := by
  unfold cntk at h0
  have hp : 0 < E.P.countP (fun p => p.2 == E.gone) := Nat.pos_of_ne_zero h0
  obtain ⟨p, hp, he⟩ := List.countP_pos_iff.1 hp
  have he : p.2 = E.gone := by simpa using he
  unfold wl
  intro hn
  rw [List.map_eq_nil_iff, List.filter_eq_nil_iff] at hn
  exact hn p hp (by simp; omega)
end
end Go.Proofs.Ythohhehelnkpgaa
