/-
  Two marks side by side change places: what the witness comes to.
-/
import Derived.Test.YtllppkfeiifklaaMov
import Derived.Test.YtllppkfeiifklaaJ16
namespace Go.Proofs.Ytllppkfeiifklaa
open Go.RowKit Go.Lib
set_option linter.unusedVariables false
set_option maxRecDepth 20000
set_option linter.unusedSimpArgs false

theorem get_swap {α : Type} (X Y : List α) (a b : α) {n : Nat} (h1 : n ≠ X.length) (h2 : n ≠ X.length + 1) : (X ++ a :: b :: Y)[n]? = (X ++ b :: a :: Y)[n]? := by
  by_cases h : n < X.length
  · rw [List.getElem?_append_left h, List.getElem?_append_left h]
  · obtain ⟨k, rfl⟩ : ∃ k, n = X.length + (k + 2) := ⟨n - X.length - 2, by omega⟩
    rw [List.getElem?_append_right (by omega), List.getElem?_append_right (by omega), show X.length + (k + 2) - X.length = k + 2 by omega]
    rfl
theorem first_swap (X Y : List Ev) {a b : Ev} (ha : a.kind = 2) (hb : b.kind = 2) (id : Int) : firstAt 1 id (X ++ a :: b :: Y) = firstAt 1 id (X ++ b :: a :: Y) := by
  have h1 : isAt 1 id a = false := by unfold isAt; rw [ha]; rfl
  have h2 : isAt 1 id b = false := by unfold isAt; rw [hb]; rfl
  unfold firstAt
  rw [List.findIdx?_append, List.findIdx?_append]
  simp [List.findIdx?_cons, h1, h2]
theorem st_swap {X Y : List Ev} {a b : Ev} {P Q : List (List Wr)} {pa pb : List Wr} (hp : P.length = X.length) (ha : a.kind = 2) (hb : b.kind = 2) (id : Int) : stO (X ++ b :: a :: Y) id = stO (X ++ a :: b :: Y) id ∧ stW (X ++ b :: a :: Y) (P ++ pb :: pa :: Q) id = stW (X ++ a :: b :: Y) (P ++ pa :: pb :: Q) id := by
  unfold stO stW
  rw [← first_swap X Y ha hb id]
  cases hf : firstAt 1 id (X ++ a :: b :: Y) with
  | none => exact ⟨rfl, rfl⟩
  | some n =>
    obtain ⟨hn, e, he, hat, _⟩ := firstAt_get hf
    have hk := (isAt_iff.1 hat).1
    have n1 : n ≠ X.length := fun h => by
      subst h
      rw [List.getElem?_append_right (Nat.le_refl _), Nat.sub_self] at he
      injection he with he
      rw [← he, ha] at hk
      cases hk
    have n2 : n ≠ X.length + 1 := fun h => by
      subst h
      rw [List.getElem?_append_right (by omega), show X.length + 1 - X.length = 1 by omega] at he
      injection he with he
      rw [← he, hb] at hk
      cases hk
    have e1 := get_swap X Y a b n1 n2
    have e2 := get_swap P Q pa pb (n := n) (by rw [hp]; exact n1) (by rw [hp]; exact n2)
    exact ⟨by show (((X ++ b :: a :: Y)[n]?).map (·.op.pure)).getD op00 = (((X ++ a :: b :: Y)[n]?).map (·.op.pure)).getD op00; rw [e1], by show ((P ++ pb :: pa :: Q)[n]?).getD [] = ((P ++ pa :: pb :: Q)[n]?).getD []; rw [e2]⟩
theorem lnS_swap {X Y : List Ev} {a b : Ev} {P Q : List (List Wr)} {pa pb : List Wr} (hp : P.length = X.length) (ha : a.kind = 2) (hb : b.kind = 2) : lnS (X ++ b :: a :: Y) (P ++ pb :: pa :: Q) = lnS (X ++ a :: b :: Y) (P ++ pa :: pb :: Q) := by
  funext M e
  unfold lnS
  obtain ⟨h1, h2⟩ := st_swap (Y := Y) (Q := Q) (pa := pa) (pb := pb) hp ha hb e.id
  rw [h1, h2]
/-- Of operations that are apart: the map behind both is the same, whichever comes first. -/
theorem lnS_comm {l : List Ev} {ps : List (List Wr)} {M : List Pr} (hM : Asc M) {a b : Ev} (h5a : (stO l a.id).kind ≠ 5) (h5b : (stO l b.id).kind ≠ 5) (h : sharesO (stO l a.id).kind (stO l a.id).k (stW l ps a.id) (stO l b.id).kind (stO l b.id).k (stW l ps b.id) = false) : lnS l ps (lnS l ps M a) b = lnS l ps (lnS l ps M b) a := by
  unfold lnS
  cases actB a with
  | false => simp
  | true =>
    cases actB b with
    | false => simp
    | true =>
      simp only [if_true]
      exact (apt_of hM h h5a h5b).ma
/-- The map behind the whole row. -/
theorem lnM_swap {X Y : List Ev} {a b : Ev} {P Q : List (List Wr)} {pa pb : List Wr} {M : List Pr} (hM : Asc M) (hp : P.length = X.length) (ha : a.kind = 2) (hb : b.kind = 2)
    (h5a : (stO (X ++ a :: b :: Y) a.id).kind ≠ 5) (h5b : (stO (X ++ a :: b :: Y) b.id).kind ≠ 5) (h : sharesO (stO (X ++ a :: b :: Y) a.id).kind (stO (X ++ a :: b :: Y) a.id).k (stW (X ++ a :: b :: Y) (P ++ pa :: pb :: Q) a.id) (stO (X ++ a :: b :: Y) b.id).kind (stO (X ++ a :: b :: Y) b.id).k (stW (X ++ a :: b :: Y) (P ++ pa :: pb :: Q) b.id) = false) :
    lnM (X ++ b :: a :: Y) (P ++ pb :: pa :: Q) M (X ++ b :: a :: Y).length = lnM (X ++ a :: b :: Y) (P ++ pa :: pb :: Q) M (X ++ a :: b :: Y).length := by
  unfold lnM
  rw [List.take_length, List.take_length, lnS_swap hp ha hb, List.foldl_append, List.foldl_append, List.foldl_cons, List.foldl_cons, List.foldl_cons, List.foldl_cons]
  have hA : Asc (X.foldl (lnS (X ++ a :: b :: Y) (P ++ pa :: pb :: Q)) M) := by
    have := asc_lnM (l := X ++ a :: b :: Y) (ps := P ++ pa :: pb :: Q) hM X.length
    unfold lnM at this
    rwa [List.take_left' rfl] at this
  rw [lnS_comm hA h5a h5b h]
/-- Are the operations of t right, from a map on? -/
def okF (l : List Ev) (ps : List (List Wr)) : List Ev → List Pr → Bool
  | [], _ => true
  | e :: t, M => lnOk l ps M e && okF l ps t (lnS l ps M e)
theorem okF_iff (l : List Ev) (ps : List (List Wr)) : ∀ (t : List Ev) (M : List Pr), okF l ps t M = true ↔ ∀ j e, t[j]? = some e → lnOk l ps ((t.take j).foldl (lnS l ps) M) e = true
  | [], M => ⟨fun _ j e h => by simp at h, fun _ => rfl⟩
  | x :: t, M => by
    unfold okF
    rw [Bool.and_eq_true, okF_iff l ps t]
    constructor
    · rintro ⟨h1, h2⟩ j e he
      cases j with
      | zero => simp at he; subst he; exact h1
      | succ j => exact h2 j e (by simpa using he)
    · intro h
      exact ⟨h 0 x rfl, fun j e he => h (j + 1) e (by simpa using he)⟩
theorem upto_okF {l : List Ev} {ps : List (List Wr)} {M : List Pr} : Upto l ps M l.length ↔ okF l ps l M = true := by
  rw [okF_iff]
  exact ⟨fun h j e he => h j e (List.getElem?_eq_some_iff.1 he).1 he, fun h j e _ he => h j e he⟩
theorem okF_append (l : List Ev) (ps : List (List Wr)) : ∀ (t u : List Ev) (M : List Pr), okF l ps (t ++ u) M = (okF l ps t M && okF l ps u (t.foldl (lnS l ps) M))
  | [], u, M => by simp [okF]
  | x :: t, u, M => by
    have ih := okF_append l ps t u (lnS l ps M x)
    show (lnOk l ps M x && okF l ps (t ++ u) (lnS l ps M x)) = _
    rw [ih]
    simp [okF, Bool.and_assoc]
theorem lnOk_comm {l : List Ev} {ps : List (List Wr)} {M : List Pr} (hM : Asc M) {a b : Ev} (h5a : (stO l a.id).kind ≠ 5) (h5b : (stO l b.id).kind ≠ 5) (h : sharesO (stO l a.id).kind (stO l a.id).k (stW l ps a.id) (stO l b.id).kind (stO l b.id).k (stW l ps b.id) = false) : lnOk l ps (lnS l ps M a) b = lnOk l ps M b ∧ lnOk l ps (lnS l ps M b) a = lnOk l ps M a := by
  have hp := apt_of hM h h5a h5b
  unfold lnOk lnS
  constructor
  · cases actB a with
    | false => simp
    | true =>
      simp only [if_true]
      rw [show opA (opD M (stO l a.id) (stW l ps a.id)) (stO l b.id) (stW l ps b.id) = opA M (stO l b.id) (stW l ps b.id) from hp.ay]
  · cases actB b with
    | false => simp
    | true =>
      simp only [if_true]
      rw [show opA (opD M (stO l b.id) (stW l ps b.id)) (stO l a.id) (stW l ps a.id) = opA M (stO l a.id) (stW l ps a.id) from hp.ax]
theorem lnOk_swap {X Y : List Ev} {a b : Ev} {P Q : List (List Wr)} {pa pb : List Wr} (hp : P.length = X.length) (ha : a.kind = 2) (hb : b.kind = 2) : lnOk (X ++ b :: a :: Y) (P ++ pb :: pa :: Q) = lnOk (X ++ a :: b :: Y) (P ++ pa :: pb :: Q) := by
  funext M e
  unfold lnOk
  obtain ⟨h1, h2⟩ := st_swap (Y := Y) (Q := Q) (pa := pa) (pb := pb) hp ha hb e.id
  rw [h1, h2]
theorem okF_swap {X Y : List Ev} {a b : Ev} {P Q : List (List Wr)} {pa pb : List Wr} (hp : P.length = X.length) (ha : a.kind = 2) (hb : b.kind = 2) : ∀ (t : List Ev) (M : List Pr), okF (X ++ b :: a :: Y) (P ++ pb :: pa :: Q) t M = okF (X ++ a :: b :: Y) (P ++ pa :: pb :: Q) t M
  | [], M => rfl
  | e :: t, M => by
    unfold okF
    rw [lnOk_swap hp ha hb, lnS_swap hp ha hb, okF_swap hp ha hb t]
/-- The row is linear just if it was. -/
theorem upto_swap {X Y : List Ev} {a b : Ev} {P Q : List (List Wr)} {pa pb : List Wr} {M : List Pr} (hM : Asc M) (hp : P.length = X.length) (ha : a.kind = 2) (hb : b.kind = 2)
    (h5a : (stO (X ++ a :: b :: Y) a.id).kind ≠ 5) (h5b : (stO (X ++ a :: b :: Y) b.id).kind ≠ 5) (h : sharesO (stO (X ++ a :: b :: Y) a.id).kind (stO (X ++ a :: b :: Y) a.id).k (stW (X ++ a :: b :: Y) (P ++ pa :: pb :: Q) a.id) (stO (X ++ a :: b :: Y) b.id).kind (stO (X ++ a :: b :: Y) b.id).k (stW (X ++ a :: b :: Y) (P ++ pa :: pb :: Q) b.id) = false) :
    Upto (X ++ b :: a :: Y) (P ++ pb :: pa :: Q) M (X ++ b :: a :: Y).length ↔ Upto (X ++ a :: b :: Y) (P ++ pa :: pb :: Q) M (X ++ a :: b :: Y).length := by
  rw [upto_okF, upto_okF, okF_swap hp ha hb, okF_append, okF_append]
  have hA : Asc (X.foldl (lnS (X ++ a :: b :: Y) (P ++ pa :: pb :: Q)) M) := by
    have := asc_lnM (l := X ++ a :: b :: Y) (ps := P ++ pa :: pb :: Q) hM X.length
    unfold lnM at this
    rwa [List.take_left' rfl] at this
  generalize X.foldl (lnS (X ++ a :: b :: Y) (P ++ pa :: pb :: Q)) M = N at hA
  obtain ⟨c1, c2⟩ := lnOk_comm hA h5a h5b h
  have e1 : okF (X ++ a :: b :: Y) (P ++ pa :: pb :: Q) (b :: a :: Y) N = okF (X ++ a :: b :: Y) (P ++ pa :: pb :: Q) (a :: b :: Y) N := by
    simp only [okF]
    rw [c1, c2, lnS_comm hA h5a h5b h]
    cases lnOk (X ++ a :: b :: Y) (P ++ pa :: pb :: Q) N a <;> cases lnOk (X ++ a :: b :: Y) (P ++ pa :: pb :: Q) N b <;> simp
  rw [e1]
end Go.Proofs.Ytllppkfeiifklaa
