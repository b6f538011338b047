/-
  State: how far an operation has come, what it asks, what its mark answers.
-/
import Derived.Test.YthopiamiipmobaaStA
import Derived.Test.YthopiamiipmobaaWEvents
namespace Go.Proofs.Ythopiamiipmobaa
open Go.RowKit Go.Lib
set_option linter.unusedVariables false
set_option linter.unusedSimpArgs false

/-- The writes of the events of a row that is read. -/
structure Rws (w : World) (l : List Ev) (ps : List (List Wr)) : Prop where
  len : ps.length = l.length
  get : ∀ (j : Nat) (e : Ev) (ws : List Wr), l[j]? = some e → ps[j]? = some ws → Row w e.op.A (wcs ws) ∧ e.fit ws
theorem Rws.turn {X : Nat → Prop} {w w' : World} {l : List Ev} {ps : List (List Wr)} (h : Rws w l ps) (t : Turn X w w') (hX : ∀ e ∈ l, ∀ b o, e.op.A = some ⟨b, o, none⟩ → ¬ X b) : Rws w' l ps :=
  ⟨h.len, fun j e ws he hw => ⟨(h.get j e ws he hw).1.turn t (hX e (List.mem_of_getElem? he)), (h.get j e ws he hw).2⟩⟩
theorem Rws.no {w w' : World} {l : List Ev} {ps : List (List Wr)} (h : Rws w l ps) (t : Turn No w w') : Rws w' l ps := h.turn t fun _ _ _ _ _ h => h
theorem Rws.at_ {w : World} {l : List Ev} {ps : List (List Wr)} (h : Rws w l ps) {j : Nat} {e : Ev} (he : l[j]? = some e) : ∃ ws, ps[j]? = some ws ∧ Row w e.op.A (wcs ws) ∧ e.fit ws := by
  have hj : j < ps.length := by rw [h.len]; exact (List.getElem?_eq_some_iff.1 he).1
  exact ⟨ps[j], List.getElem?_eq_getElem hj, h.get j e _ he (List.getElem?_eq_getElem hj)⟩
theorem Wss.rws {w : World} {Z : Nat} {l : List Ev} {ps : List (List Wr)} (h : Wss w Z l ps) : Rws w l ps := ⟨h.len, fun j e ws he hw => ⟨row_of_own (h.own j e ws he hw).1, (h.own j e ws he hw).2⟩⟩

def stO (l : List Ev) (id : Int) : Opx := match firstAt 1 id l with
  | none => op00
  | some n => ((l[n]?).map (·.op.pure)).getD op00
def stW (l : List Ev) (ps : List (List Wr)) (id : Int) : List Wr := match firstAt 1 id l with
  | none => []
  | some n => (ps[n]?).getD []
def stA (l : List Ev) (id : Int) : Ans := match firstAt 2 id l with
  | none => ans00
  | some n => ((l[n]?).map (·.an)).getD ans00
def stN (l : List Ev) (id : Int) : Int := match firstAt 1 id l with
  | none => 0
  | some _ => match firstAt 2 id l with
    | none => 1
    | some _ => match firstAt 3 id l with
      | none => 2
      | some _ => 3
theorem one_op (o : Opx) : ∀ u ∈ o.cs, u.oneCell' = true := by
  intro u hu
  simp only [Opx.cs, List.mem_cons, List.not_mem_nil, or_false] at hu
  rcases hu with rfl | rfl | rfl | rfl | rfl | rfl | rfl <;> rfl
theorem one_an (a : Ans) : ∀ u ∈ a.cs, u.oneCell' = true := by
  intro u hu
  simp only [Ans.cs, List.mem_cons, List.not_mem_nil, or_false] at hu
  rcases hu with rfl | rfl | rfl | rfl <;> rfl
theorem range_op {w : World} {b o : Nat} {e : Ev} (h : w.rangeAt b o e.cs) : w.rangeAt b (o + 2) e.op.cs := fun j v hv => by
  have := h (2 + j) v (by simp only [Ev.cs, Nat.add_comm 2 j]; rw [List.getElem?_cons_succ, List.getElem?_cons_succ, List.getElem?_append_left (List.getElem?_eq_some_iff.1 hv).1]; exact hv)
  rwa [Nat.add_assoc]
theorem range_an {w : World} {b o : Nat} {e : Ev} (h : w.rangeAt b o e.cs) : w.rangeAt b (o + 9) e.an.cs := fun j v hv => by
  have := h (9 + j) v (by
    rw [show e.cs = (.int .u8 e.kind :: .int .i64 e.id :: e.op.cs) ++ e.an.cs from rfl, List.getElem?_append_right (by show 9 ≤ 9 + j; omega), show 9 + j - (Value.int .u8 e.kind :: Value.int .i64 e.id :: e.op.cs).length = j from by show 9 + j - 9 = j; omega]
    exact hv)
  rwa [Nat.add_assoc]

theorem all_one {vs : List Value} (h : ∀ u ∈ vs, u.oneCell' = true) : vs.toArray.all (·.oneCell') = true := by simpa using h
theorem state_of {l : List Ev} {ps : List (List Wr)} {id : Int} {n : Nat} {e : Ev} {ws : List Wr} (h : firstAt 1 id l = some n) (he : l[n]? = some e) (hw : ps[n]? = some ws) : stO l id = e.op.pure ∧ stW l ps id = ws := by
  simp [stO, stW, h, he, hw]
theorem state_no {l : List Ev} {ps : List (List Wr)} {id : Int} (h : firstAt 1 id l = none) : stO l id = op00 ∧ stW l ps id = [] := by
  simp [stO, stW, h]
theorem answer_of {l : List Ev} {id : Int} {n : Nat} {e : Ev} (h : firstAt 2 id l = some n) (he : l[n]? = some e) : stA l id = e.an := by
  simp [stA, h, he]
theorem answer_no {l : List Ev} {id : Int} (h : firstAt 2 id l = none) : stA l id = ans00 := by
  simp [stA, h]
end Go.Proofs.Ythopiamiipmobaa
