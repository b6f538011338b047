/-
  OmapKnown: its rows as data.
-/
import Derived.Test.YtjjmooegpoeomaaApm
namespace Go.Proofs.Ytjjmooegpoeomaa
open Go.RowKit Go.Lib
set_option linter.unusedVariables false
set_option linter.unusedSimpArgs false

structure Kr where
  op : Opx
  ws : List Wr
  an : Ans
def Kr.cs (x : Kr) : List Value := x.op.cs ++ x.an.cs
def kcs (l : List Kr) : List Value := l.flatMap Kr.cs
def kw3 : List Wr := [⟨⟨#[98]⟩, ⟨#[]⟩, true⟩, ⟨⟨#[100]⟩, ⟨#[55]⟩, false⟩, ⟨⟨#[100]⟩, ⟨#[56]⟩, false⟩]
def kw9 : List Wr := [⟨⟨#[]⟩, ⟨#[]⟩, false⟩, ⟨⟨#[]⟩, ⟨#[]⟩, false⟩, ⟨⟨#[]⟩, ⟨#[]⟩, false⟩, ⟨⟨#[]⟩, ⟨#[]⟩, false⟩, ⟨⟨#[]⟩, ⟨#[]⟩, false⟩, ⟨⟨#[]⟩, ⟨#[]⟩, false⟩, ⟨⟨#[]⟩, ⟨#[]⟩, false⟩, ⟨⟨#[]⟩, ⟨#[]⟩, false⟩, ⟨⟨#[]⟩, ⟨#[]⟩, false⟩]
def krs (wb zb : Nat) : List Kr := [
  ⟨⟨2, ⟨#[98]⟩, ⟨#[49]⟩, ⟨#[]⟩, false, false, none, 0, 0⟩, [], ⟨0, false, ⟨#[]⟩, ⟨#[]⟩⟩⟩,
  ⟨⟨2, ⟨#[98]⟩, ⟨#[50]⟩, ⟨#[]⟩, false, false, none, 0, 0⟩, [], ⟨0, true, ⟨#[]⟩, ⟨#[49]⟩⟩⟩,
  ⟨⟨1, ⟨#[98]⟩, ⟨#[]⟩, ⟨#[]⟩, false, false, none, 0, 0⟩, [], ⟨0, true, ⟨#[]⟩, ⟨#[50]⟩⟩⟩,
  ⟨⟨1, ⟨#[99]⟩, ⟨#[]⟩, ⟨#[]⟩, false, false, none, 0, 0⟩, [], ⟨0, false, ⟨#[]⟩, ⟨#[]⟩⟩⟩,
  ⟨⟨4, ⟨#[98]⟩, ⟨#[51]⟩, ⟨#[50]⟩, true, false, none, 0, 0⟩, [], ⟨0, true, ⟨#[]⟩, ⟨#[50]⟩⟩⟩,
  ⟨⟨4, ⟨#[98]⟩, ⟨#[52]⟩, ⟨#[50]⟩, true, false, none, 0, 0⟩, [], ⟨0, false, ⟨#[]⟩, ⟨#[51]⟩⟩⟩,
  ⟨⟨4, ⟨#[99]⟩, ⟨#[53]⟩, ⟨#[]⟩, false, false, none, 0, 0⟩, [], ⟨0, true, ⟨#[]⟩, ⟨#[]⟩⟩⟩,
  ⟨⟨4, ⟨#[99]⟩, ⟨#[54]⟩, ⟨#[]⟩, false, false, none, 0, 0⟩, [], ⟨0, false, ⟨#[]⟩, ⟨#[53]⟩⟩⟩,
  ⟨⟨5, ⟨#[97]⟩, ⟨#[]⟩, ⟨#[]⟩, false, false, none, 0, 0⟩, [], ⟨0, true, ⟨#[98]⟩, ⟨#[51]⟩⟩⟩,
  ⟨⟨5, ⟨#[98]⟩, ⟨#[]⟩, ⟨#[]⟩, false, true, none, 0, 0⟩, [], ⟨0, true, ⟨#[99]⟩, ⟨#[53]⟩⟩⟩,
  ⟨⟨5, ⟨#[99]⟩, ⟨#[]⟩, ⟨#[]⟩, false, true, none, 0, 0⟩, [], ⟨0, false, ⟨#[]⟩, ⟨#[]⟩⟩⟩,
  ⟨⟨6, ⟨#[]⟩, ⟨#[]⟩, ⟨#[]⟩, false, false, (some ⟨wb, 0, none⟩), 3, 3⟩, kw3, ⟨0, false, ⟨#[]⟩, ⟨#[]⟩⟩⟩,
  ⟨⟨6, ⟨#[]⟩, ⟨#[]⟩, ⟨#[]⟩, false, false, (some ⟨zb, 0, none⟩), 9, 9⟩, kw9, ⟨3, false, ⟨#[]⟩, ⟨#[]⟩⟩⟩,
  ⟨⟨9, ⟨#[]⟩, ⟨#[]⟩, ⟨#[]⟩, false, false, none, 0, 0⟩, [], ⟨20, false, ⟨#[]⟩, ⟨#[]⟩⟩⟩,
  ⟨⟨0, ⟨#[]⟩, ⟨#[]⟩, ⟨#[]⟩, false, false, none, 0, 0⟩, [], ⟨20, false, ⟨#[]⟩, ⟨#[]⟩⟩⟩,
  ⟨⟨2, ⟨#[48, 49, 50, 51, 52, 53, 54, 55, 56, 57, 48, 49, 50, 51, 52, 53, 54, 55, 56, 57, 48, 49, 50, 51]⟩, ⟨#[48, 49, 50, 51, 52, 53, 54, 55, 56, 57, 48, 49, 50, 51, 52, 53, 54, 55, 56, 57, 48, 49, 50, 51, 52, 53, 54, 55, 56, 57, 48, 49]⟩, ⟨#[]⟩, false, false, none, 0, 0⟩, [], ⟨0, false, ⟨#[]⟩, ⟨#[]⟩⟩⟩,
  ⟨⟨2, ⟨#[48, 49, 50, 51, 52, 53, 54, 55, 56, 57, 48, 49, 50, 51, 52, 53, 54, 55, 56, 57, 48, 49, 50, 51, 52]⟩, ⟨#[]⟩, ⟨#[]⟩, false, false, none, 0, 0⟩, [], ⟨7, false, ⟨#[]⟩, ⟨#[]⟩⟩⟩,
  ⟨⟨2, ⟨#[107]⟩, ⟨#[48, 49, 50, 51, 52, 53, 54, 55, 56, 57, 48, 49, 50, 51, 52, 53, 54, 55, 56, 57, 48, 49, 50, 51, 52, 53, 54, 55, 56, 57, 48, 49, 50]⟩, ⟨#[]⟩, false, false, none, 0, 0⟩, [], ⟨7, false, ⟨#[]⟩, ⟨#[]⟩⟩⟩,
  ⟨⟨3, ⟨#[48, 49, 50, 51, 52, 53, 54, 55, 56, 57, 48, 49, 50, 51, 52, 53, 54, 55, 56, 57, 48, 49, 50, 51]⟩, ⟨#[]⟩, ⟨#[]⟩, false, false, none, 0, 0⟩, [], ⟨0, true, ⟨#[]⟩, ⟨#[48, 49, 50, 51, 52, 53, 54, 55, 56, 57, 48, 49, 50, 51, 52, 53, 54, 55, 56, 57, 48, 49, 50, 51, 52, 53, 54, 55, 56, 57, 48, 49]⟩⟩⟩]
/-- What the map holds ahead of row j. -/
def kst (wb zb : Nat) (j : Nat) : List Pr := ((krs wb zb).take j).foldl (fun m r => doM m r.op.kind r.op.k r.op.v r.op.o r.op.had r.op.aft r.ws) []
/-- Every row answers as it says. -/
def kok (r : Kr) (m : List Pr) : Bool := decide ((doA m r.op.kind r.op.k r.op.v r.op.o r.op.had r.op.aft r.ws).code = r.an.code) && decide ((doA m r.op.kind r.op.k r.op.v r.op.o r.op.had r.op.aft r.ws).found = r.an.found) && decide ((doA m r.op.kind r.op.k r.op.v r.op.o r.op.had r.op.aft r.ws).k = r.an.k) && decide ((doA m r.op.kind r.op.k r.op.v r.op.o r.op.had r.op.aft r.ws).v = r.an.v)
def kall (wb zb : Nat) : List Pr → List Kr → Bool
  | _, [] => true
  | m, r :: t => kok r m && decide (r.op.k.size ≤ 500 ∧ r.op.v.size ≤ 500 ∧ r.op.o.size ≤ 500 ∧ r.ws.length ≤ 40 ∧ r.ws.length = r.op.len) && r.ws.all (fun x => decide (x.k.size ≤ 500 ∧ x.v.size ≤ 500)) && decide (m.length ≤ 1000) && kall wb zb (doM m r.op.kind r.op.k r.op.v r.op.o r.op.had r.op.aft r.ws) t
theorem kall_ok (wb zb : Nat) : kall wb zb [] (krs wb zb) = true := by kernel_rfl
theorem kend (wb zb : Nat) : kst wb zb 19 = [⟨⟨#[99]⟩, ⟨#[53]⟩⟩, ⟨⟨#[100]⟩, ⟨#[56]⟩⟩] := by kernel_rfl
theorem kcs_length (l : List Kr) : (kcs l).length = l.length * 11 := flat_length _ 11 (fun _ => rfl) l
theorem kcs_at {l : List Kr} {j : Nat} {x : Kr} (h : l[j]? = some x) (i : Nat) (hi : i < 11) : (kcs l)[j * 11 + i]? = x.cs[i]? := flat_at _ 11 (fun _ => rfl) l j i x h hi
structure Kok (m : List Pr) (r : Kr) : Prop where
  ans : doA m r.op.kind r.op.k r.op.v r.op.o r.op.had r.op.aft r.ws = r.an
  few : Few r.op.k r.op.v r.op.o r.ws
  len : r.ws.length = r.op.len
  sz : m.length ≤ 1000
theorem kall_at {wb zb : Nat} : ∀ (l : List Kr) (m : List Pr), kall wb zb m l = true → ∀ j r, l[j]? = some r → Kok ((l.take j).foldl (fun m r => doM m r.op.kind r.op.k r.op.v r.op.o r.op.had r.op.aft r.ws) m) r
  | [], m, h, j, r, hj => by simp at hj
  | x :: t, m, h, j, r, hj => by
    unfold kall at h
    simp only [Bool.and_eq_true, decide_eq_true_eq] at h
    obtain ⟨⟨⟨⟨h1, h2⟩, h3⟩, h4⟩, h5⟩ := h
    cases j with
    | zero =>
      simp at hj
      subst hj
      unfold kok at h1
      simp only [Bool.and_eq_true, decide_eq_true_eq] at h1
      obtain ⟨⟨⟨a1, a2⟩, a3⟩, a4⟩ := h1
      refine ⟨?_, ⟨h2.1, h2.2.1, h2.2.2.1, h2.2.2.2.1, fun x hx => ?_⟩, h2.2.2.2.2, h4⟩
      · show doA m _ _ _ _ _ _ _ = _
        exact (show ∀ a b : Ans, a.code = b.code → a.found = b.found → a.k = b.k → a.v = b.v → a = b by
          intro a b e1 e2 e3 e4; cases a; cases b; simp only at e1 e2 e3 e4; rw [e1, e2, e3, e4]) _ _ a1 a2 a3 a4
      · have := List.all_eq_true.1 h3 x hx
        simpa using this
    | succ j =>
      rw [List.getElem?_cons_succ] at hj
      have := kall_at t _ h5 j r hj
      simpa using this
theorem kok_at {wb zb j : Nat} {r : Kr} (hj : (krs wb zb)[j]? = some r) : Kok (kst wb zb j) r := kall_at (krs wb zb) [] (kall_ok wb zb) j r hj
theorem kst_next {wb zb j : Nat} {r : Kr} (hj : (krs wb zb)[j]? = some r) : kst wb zb (j + 1) = doM (kst wb zb j) r.op.kind r.op.k r.op.v r.op.o r.op.had r.op.aft r.ws := by
  unfold kst
  rw [List.take_add_one, hj]
  simp
/-- The writes that each row names lie where it says. -/
theorem krow_ws {wb zb j : Nat} {r : Kr} (hj : (krs wb zb)[j]? = some r) {W : World} (h3 : Row W (some ⟨wb, 0, none⟩) (wcs kw3)) (h9 : Row W (some ⟨zb, 0, none⟩) (wcs kw9)) : Row W r.op.A (wcs r.ws) ∧ (r.op.A = some ⟨wb, 0, none⟩ ∨ r.op.A = some ⟨zb, 0, none⟩ ∨ r.ws = []) := by
  have hlt := (List.getElem?_eq_some_iff.1 hj).1
  have : (krs wb zb).length = 19 := rfl
  rw [this] at hlt
  have key : ∀ j : _root_.Fin 19, ∀ r, (krs wb zb)[j.val]? = some r → (r.op.A = some ⟨wb, 0, none⟩ ∧ r.ws = kw3) ∨ (r.op.A = some ⟨zb, 0, none⟩ ∧ r.ws = kw9) ∨ r.ws = [] := by
    intro j r hr
    match j with
    | ⟨0, _⟩ => injection hr with hr; subst hr; exact .inr (.inr rfl)
    | ⟨1, _⟩ => injection hr with hr; subst hr; exact .inr (.inr rfl)
    | ⟨2, _⟩ => injection hr with hr; subst hr; exact .inr (.inr rfl)
    | ⟨3, _⟩ => injection hr with hr; subst hr; exact .inr (.inr rfl)
    | ⟨4, _⟩ => injection hr with hr; subst hr; exact .inr (.inr rfl)
    | ⟨5, _⟩ => injection hr with hr; subst hr; exact .inr (.inr rfl)
    | ⟨6, _⟩ => injection hr with hr; subst hr; exact .inr (.inr rfl)
    | ⟨7, _⟩ => injection hr with hr; subst hr; exact .inr (.inr rfl)
    | ⟨8, _⟩ => injection hr with hr; subst hr; exact .inr (.inr rfl)
    | ⟨9, _⟩ => injection hr with hr; subst hr; exact .inr (.inr rfl)
    | ⟨10, _⟩ => injection hr with hr; subst hr; exact .inr (.inr rfl)
    | ⟨11, _⟩ => injection hr with hr; subst hr; exact .inl ⟨rfl, rfl⟩
    | ⟨12, _⟩ => injection hr with hr; subst hr; exact .inr (.inl ⟨rfl, rfl⟩)
    | ⟨13, _⟩ => injection hr with hr; subst hr; exact .inr (.inr rfl)
    | ⟨14, _⟩ => injection hr with hr; subst hr; exact .inr (.inr rfl)
    | ⟨15, _⟩ => injection hr with hr; subst hr; exact .inr (.inr rfl)
    | ⟨16, _⟩ => injection hr with hr; subst hr; exact .inr (.inr rfl)
    | ⟨17, _⟩ => injection hr with hr; subst hr; exact .inr (.inr rfl)
    | ⟨18, _⟩ => injection hr with hr; subst hr; exact .inr (.inr rfl)
  rcases key ⟨j, hlt⟩ r hj with ⟨e1, e2⟩ | ⟨e1, e2⟩ | e
  · rw [e1, e2]; exact ⟨h3, .inl rfl⟩
  · rw [e1, e2]; exact ⟨h9, .inr (.inl rfl)⟩
  · rw [e]; exact ⟨Row.nil _ _, .inr (.inr rfl)⟩
end Go.Proofs.Ytjjmooegpoeomaa
