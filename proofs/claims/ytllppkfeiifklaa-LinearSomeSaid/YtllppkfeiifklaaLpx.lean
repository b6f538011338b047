/-
  Each beginning of a row that is right, and linear, is: plain data.
-/
import Derived.Test.YtllppkfeiifklaaJ30
namespace Go.Proofs.Ytllppkfeiifklaa
open Go.RowKit Go.Lib
set_option linter.unusedVariables false
set_option maxRecDepth 20000
set_option linter.unusedSimpArgs false

/-- A mark's operation has begun ahead of it. -/
theorem Right.begun_at {l : List Ev} (hr : Right l) {p : Nat} {e : Ev} (he : l[p]? = some e) (h2 : e.kind = 2) : ∃ m, m < p ∧ firstAt 1 e.id l = some m ∧ ∀ n, p ≤ n → firstAt 1 e.id (l.take n) = some m := by
  have hfit := hr.at_ he
  have h3 := (fits_kind hfit).2.1
  have hc := (hr.take p).cnt e.id 1 (by decide)
  rw [if_pos (by omega)] at hc
  have hp : (firstAt 1 e.id (l.take p)).isSome = true := by rw [← cnt_posW]; omega
  obtain ⟨m, hm⟩ := Option.isSome_iff_exists.1 hp
  have hlt : m < p := by
    unfold firstAt at hm
    rw [List.findIdx?_eq_some_iff_getElem] at hm
    obtain ⟨h, _⟩ := hm
    rw [List.length_take] at h
    omega
  refine ⟨m, hlt, firstAt_take hm, fun n hn => ?_⟩
  have e1 : l.take p = (l.take n).take p := by rw [List.take_take, Nat.min_eq_left hn]
  rw [e1] at hm
  exact firstAt_take hm
theorem st_take {l : List Ev} (hr : Right l) (ps : List (List Wr)) {p n : Nat} {e : Ev} (he : l[p]? = some e) (h2 : e.kind = 2) (hp : p ≤ n) : stO (l.take n) e.id = stO l e.id ∧ stW (l.take n) (ps.take n) e.id = stW l ps e.id := by
  obtain ⟨m, hm, h1, h3⟩ := hr.begun_at he h2
  unfold stO stW
  rw [h1, h3 n hp]
  have e1 : (l.take n)[m]? = l[m]? := by rw [List.getElem?_take, if_pos (by omega)]
  have e2 : (ps.take n)[m]? = ps[m]? := by rw [List.getElem?_take, if_pos (by omega)]
  exact ⟨by show (((l.take n)[m]?).map (·.op.pure)).getD op00 = ((l[m]?).map (·.op.pure)).getD op00; rw [e1], by show ((ps.take n)[m]?).getD [] = (ps[m]?).getD []; rw [e2]⟩
theorem lnM_take {l : List Ev} (hr : Right l) (ps : List (List Wr)) (M : List Pr) {n : Nat} : ∀ j, j ≤ n → j ≤ l.length → lnM (l.take n) (ps.take n) M j = lnM l ps M j
  | 0, _, _ => rfl
  | j + 1, hj, hl => by
    have ih := lnM_take hr ps M (n := n) j (by omega) (by omega)
    obtain ⟨e, he⟩ : ∃ e, l[j]? = some e := ⟨l[j], List.getElem?_eq_getElem (by omega)⟩
    have he2 : (l.take n)[j]? = some e := by rw [List.getElem?_take, if_pos (by omega)]; exact he
    rw [lnM_snoc he, lnM_snoc he2, ih]
    unfold lnS
    by_cases h2 : e.kind = 2
    · obtain ⟨a, b⟩ := st_take hr ps he h2 (n := n) (by omega)
      rw [a, b]
    · have : actB e = false := by unfold actB; rw [decide_eq_false h2]; rfl
      rw [this]
      rfl
/-- What Check finds right it finds right at each beginning. -/
theorem Upto.take {l : List Ev} (hr : Right l) {ps : List (List Wr)} {M : List Pr} {m n : Nat} (h : Upto l ps M m) (hn : n ≤ m) (hm : m ≤ l.length) : Upto (l.take n) (ps.take n) M n := fun j e hj he => by
  have he2 : l[j]? = some e := by rw [List.getElem?_take, if_pos hj] at he; exact he
  have h1 := h j e (by omega) he2
  unfold lnOk at h1 ⊢
  rw [lnM_take hr ps M j (by omega) (by omega)]
  by_cases h2 : e.kind = 2
  · obtain ⟨a, b⟩ := st_take hr ps he2 h2 (n := n) (by omega)
    rw [a, b]
    exact h1
  · have : actB e = false := by unfold actB; rw [decide_eq_false h2]; rfl
    rw [this]
    rfl
theorem Lin.take {l : List Ev} (hr : Right l) {ps : List (List Wr)} {M : List Pr} {a : Int} (h : Lin l ps M a 0) {n : Nat} (hn : n ≤ l.length) : Lin (l.take n) (ps.take n) M (-1) 0 := by
  rcases h with ⟨_, _, hu⟩ | ⟨_, _, _, h0, _⟩
  · refine .inl ⟨rfl, rfl, ?_⟩
    have : (l.take n).length = n := by rw [List.length_take]; omega
    rw [this]
    exact hu.take hr hn (Nat.le_refl _)
  · cases h0
end Go.Proofs.Ytllppkfeiifklaa
