/-
  Events as plain data: what their cells hold; rows that are read.
-/
import Derived.Test.YthopiamiipmobaaMem
import Derived.Laws.AppendOwn
namespace Go.Proofs.Ythopiamiipmobaa
open Go.RowKit Go.Lib
set_option linter.unusedVariables false

structure Wr where
  (k v : ByteArray)
  gone : Bool
def Wr.cs (x : Wr) : List Value := [.string x.k, .string x.v, .bool x.gone]
def wcs (ws : List Wr) : List Value := ws.flatMap Wr.cs
structure Opx where
  kind : Int
  (k v o : ByteArray)
  (had aft : Bool)
  A : Option Addr
  (len cap : Nat)
def Opx.cs (x : Opx) : List Value := [.int .u8 x.kind, .string x.k, .string x.v, .string x.o, .bool x.had, .bool x.aft, .slice x.A x.len x.cap]
structure Ans where
  code : Int
  found : Bool
  (k v : ByteArray)
def Ans.cs (a : Ans) : List Value := [.int .i64 a.code, .bool a.found, .string a.k, .string a.v]
structure Ev where
  (kind id : Int)
  op : Opx
  an : Ans
def Ev.cs (e : Ev) : List Value := .int .u8 e.kind :: .int .i64 e.id :: (e.op.cs ++ e.an.cs)
def ecs (l : List Ev) : List Value := l.flatMap Ev.cs

theorem flat_length {α : Type} (f : α → List Value) (n : Nat) (h : ∀ x, (f x).length = n) : ∀ l : List α, (l.flatMap f).length = l.length * n
  | [] => by simp
  | x :: l => by rw [List.flatMap_cons, List.length_append, h, flat_length f n h l, List.length_cons, Nat.succ_mul]; omega
theorem flat_at {α : Type} (f : α → List Value) (n : Nat) (h : ∀ x, (f x).length = n) : ∀ (l : List α) (j i : Nat) (x : α), l[j]? = some x → i < n → (l.flatMap f)[j * n + i]? = (f x)[i]?
  | y :: l, 0, i, x, hx, hi => by
    simp at hx
    subst hx
    rw [List.flatMap_cons, Nat.zero_mul, Nat.zero_add, List.getElem?_append_left (by rw [h]; exact hi)]
  | y :: l, j + 1, i, x, hx, hi => by
    rw [List.flatMap_cons, List.getElem?_append_right (by rw [h, Nat.succ_mul]; omega), h, show (j + 1) * n + i - n = j * n + i by rw [Nat.succ_mul]; omega]
    exact flat_at f n h l j i x (by simpa using hx) hi
theorem wcs_length (ws : List Wr) : (wcs ws).length = ws.length * 3 := flat_length _ 3 (fun _ => rfl) ws
theorem ecs_length (l : List Ev) : (ecs l).length = l.length * 13 := flat_length _ 13 (fun _ => rfl) l
theorem wcs_at {ws : List Wr} {j : Nat} {x : Wr} (h : ws[j]? = some x) (i : Nat) (hi : i < 3) : (wcs ws)[j * 3 + i]? = x.cs[i]? := flat_at _ 3 (fun _ => rfl) ws j i x h hi
theorem ecs_at {l : List Ev} {j : Nat} {x : Ev} (h : l[j]? = some x) (i : Nat) (hi : i < 13) : (ecs l)[j * 13 + i]? = x.cs[i]? := flat_at _ 13 (fun _ => rfl) l j i x h hi
theorem ecs_append (l m : List Ev) : ecs (l ++ m) = ecs l ++ ecs m := List.flatMap_append ..

/-- A row of cells that is read: all its cells are there. -/
def Row (w : World) (A : Option Addr) (xs : List Value) : Prop :=
  ∀ j u, xs[j]? = some u → ∃ b o, A = some ⟨b, o, none⟩ ∧ b < w.heap.size ∧ w.cell? ⟨b, o + j, none⟩ = some u
theorem Row.turn {X : Nat → Prop} {w w' : World} {A : Option Addr} {xs : List Value} (h : Row w A xs) (t : Turn X w w') (hX : ∀ b o, A = some ⟨b, o, none⟩ → ¬ X b) : Row w' A xs := fun j u hj => by
  obtain ⟨b, o, hA, hb, hc⟩ := h j u hj
  exact ⟨b, o, hA, Nat.lt_of_lt_of_le hb t.size, (World.cell?_of_block (w := w) (t.block b hb (hX b o hA))).trans hc⟩
theorem Row.nil (w : World) (A : Option Addr) : Row w A [] := fun j u h => by simp at h
/-- A row of the program's own, as it is read. -/
theorem row_of_own {w : World} {base : Nat} {e : TypeId} {size n cap : Nat} {A : Option Addr} {xs : List Value} (h : w.ownsRow base e size (.slice A n cap) n xs) : Row w A xs := fun j u hj => by
  obtain ⟨hl, ⟨hv, hn⟩ | ⟨g, c, cur, hv, hb, hg, hn, hc, hs, ht⟩⟩ := h
  · subst hn
    rw [Nat.zero_mul] at hl
    rw [List.eq_nil_of_length_eq_zero hl] at hj
    simp at hj
  · injection hv with hA _ _
    refine ⟨g, 0, hA, (Array.getElem?_eq_some_iff.1 hg).1, ?_⟩
    rw [cell_of_row w g _ cur e (0, 0) hg, Nat.zero_add]
    rw [← ht, List.getElem?_take] at hj
    split at hj
    · simpa using hj
    · cases hj
theorem own_grown {w w' : World} {base : Nat} {e : TypeId} {size n : Nat} {v : Value} {xs : List Value} {X : Nat → Prop} (h : w.ownsRow base e size v n xs) (t : Turn X w w') (hX : ∀ k, v.ownBlock = some k → ¬ X k) : w'.ownsRow base e size v n xs := by
  refine ⟨h.1, ?_⟩
  rcases h.2 with hn | ⟨g, cap, cur, rfl, hb, hgg, rest⟩
  · exact .inl hn
  · refine .inr ⟨g, cap, cur, rfl, hb, ?_, rest⟩
    rw [t.block g (Array.getElem?_eq_some_iff.1 hgg).1 (hX g rfl)]
    exact hgg
/-- A text within reach. -/
def Fit (a : ByteArray) : Prop := a.size ≤ 140737488355328
def Wr.fit (x : Wr) : Prop := Fit x.k ∧ Fit x.v
end Go.Proofs.Ythopiamiipmobaa
