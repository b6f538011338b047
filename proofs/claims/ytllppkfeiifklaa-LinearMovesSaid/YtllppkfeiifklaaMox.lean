/-
  Two events of a row of one's own change places: in memory.
-/
import Derived.Test.YtllppkfeiifklaaMow
import Derived.Test.YtllppkfeiifklaaJ30
import Derived.Deep.MidRow
namespace Go.Proofs.Ytllppkfeiifklaa
open Go.RowKit Go.Lib
set_option linter.unusedVariables false
set_option maxRecDepth 20000
set_option linter.unusedSimpArgs false

theorem own_set {w : World} {Z g n c s : Nat} {t : TypeId} {xs : List Value} (h : w.ownsRow Z t s (.slice (some ⟨g, 0, none⟩) n c) n xs) (o : Nat) (v : Value) : (w.setCell ⟨g, o, none⟩ v).ownsRow Z t s (.slice (some ⟨g, 0, none⟩) n c) n (xs.set o v) := by
  obtain ⟨hl, ⟨hv, hn⟩ | ⟨g', cp, cur, hv, hb, hg, hn, hc, hs, ht⟩⟩ := h
  · cases hv
  · injection hv with hA _ hcp
    injection hA with hA
    injection hA with hA
    subst hA hcp
    have hat : At w g (.cells cur t (0, 0)) := hg
    exact ⟨by rw [List.length_set]; exact hl, .inr ⟨g, c, cur.setIfInBounds o v, rfl, hb, hat.set o v, hn, hc, by simpa using hs, by rw [← ht]; simp [List.take_set]⟩⟩
def spl : List Value → Nat → List Value → List Value
  | xs, _, [] => xs
  | xs, o, v :: r => spl (xs.set o v) (o + 1) r
theorem own_sets {Z g n c s : Nat} {t : TypeId} : ∀ (vs : List Value) (o : Nat) (w : World) (xs : List Value), w.ownsRow Z t s (.slice (some ⟨g, 0, none⟩) n c) n xs → (w.setCells g o vs).ownsRow Z t s (.slice (some ⟨g, 0, none⟩) n c) n (spl xs o vs)
  | [], _, _, _, h => h
  | v :: r, o, w, xs, h => own_sets r (o + 1) _ _ (own_set h o v)
theorem spl_mid : ∀ (vs P Q R : List Value), Q.length = vs.length → spl (P ++ Q ++ R) P.length vs = P ++ vs ++ R
  | [], P, Q, R, h => by
    have : Q = [] := List.eq_nil_of_length_eq_zero h
    subst this
    rfl
  | v :: r, P, [], R, h => by cases h
  | v :: r, P, q :: Q, R, h => by
    have e : (P ++ q :: Q ++ R).set P.length v = (P ++ [v]) ++ Q ++ R := by simp
    have ih := spl_mid r (P ++ [v]) Q R (by simpa using h)
    show spl ((P ++ q :: Q ++ R).set P.length v) (P.length + 1) r = _
    rw [e]
    rw [List.length_append] at ih
    rw [show P.length + 1 = P.length + [v].length from rfl, ih]
    simp
theorem turn_sets (g : Nat) : ∀ (vs : List Value) (o : Nat) (w : World), Turn (fun k => k = g) w (w.setCells g o vs)
  | [], _, w => Turn.refl _ w
  | v :: r, o, w => (Turn.set1 w g o v).trans (turn_sets g r (o + 1) _)
theorem ecs_split (X Y : List Ev) (a : Ev) : ecs (X ++ a :: Y) = ecs X ++ a.cs ++ ecs Y := by
  rw [ecs_append]
  show ecs X ++ (a.cs ++ ecs Y) = _
  rw [List.append_assoc]
theorem own_put {w : World} {Z g n c : Nat} {X Y : List Ev} {a : Ev} (h : w.ownsRow Z 40 13 (.slice (some ⟨g, 0, none⟩) n c) n (ecs (X ++ a :: Y))) (b : Ev) : (w.setCells g (X.length * 13) b.cs).ownsRow Z 40 13 (.slice (some ⟨g, 0, none⟩) n c) n (ecs (X ++ b :: Y)) := by
  have h1 := own_sets b.cs (X.length * 13) w _ h
  rw [ecs_split, ← ecs_length, spl_mid b.cs (ecs X) a.cs (ecs Y) rfl] at h1
  rw [ecs_split, ← ecs_length]
  exact h1
theorem own_put2 {w : World} {Z g n c : Nat} {X Y : List Ev} {a x : Ev} (h : w.ownsRow Z 40 13 (.slice (some ⟨g, 0, none⟩) n c) n (ecs (X ++ x :: a :: Y))) (b : Ev) : (w.setCells g ((X.length + 1) * 13) b.cs).ownsRow Z 40 13 (.slice (some ⟨g, 0, none⟩) n c) n (ecs (X ++ x :: b :: Y)) := by
  have e : ∀ y : Ev, X ++ x :: y :: Y = (X ++ [x]) ++ y :: Y := fun y => by simp
  rw [e] at h ⊢
  have := own_put h b
  rwa [List.length_append] at this
theorem there_own {w : World} {Z g n c s : Nat} {t : TypeId} {xs : List Value} (h : w.ownsRow Z t s (.slice (some ⟨g, 0, none⟩) n c) n xs) (o m : Nat) (hm : o + m ≤ xs.length) : w.there g o m := fun j hj => by
  obtain ⟨v, hv⟩ : ∃ v, xs[o + j]? = some v := ⟨_, List.getElem?_eq_getElem (by omega)⟩
  obtain ⟨b, o2, hA, _, hc⟩ := row_of_own h (o + j) v hv
  injection hA with hA
  injection hA with e1 e2
  subst e1 e2
  rw [Nat.zero_add] at hc
  refine ⟨by rw [hc]; rfl, ?_⟩
  obtain ⟨_, cur, hat⟩ := own_at (i := g) h rfl
  exact hat.thawed _
theorem range_own {w : World} {Z g n c : Nat} {L : List Ev} (h : w.ownsRow Z 40 13 (.slice (some ⟨g, 0, none⟩) n c) n (ecs L)) {i : Nat} {e : Ev} (he : L[i]? = some e) : w.rangeAt g (i * 13) e.cs := fun j v hj => by
  have hl : j < 13 := (List.getElem?_eq_some_iff.1 hj).1
  obtain ⟨b, o2, hA, _, hc⟩ := row_of_own h (i * 13 + j) v (by rw [ecs_at he j hl]; exact hj)
  injection hA with hA
  injection hA with e1 e2
  subst e1 e2
  rwa [Nat.zero_add] at hc
/-- What the exchange reads and writes, in whatever order. -/
structure Sx (w : World) (Z g n c : Nat) (X Y : List Ev) (a b : Ev) : Prop where
  la : w.rangeAt g (X.length * 13) a.cs
  lb : w.rangeAt g ((X.length + 1) * 13) b.cs
  ta : w.there g (X.length * 13) 13
  tb : w.there g ((X.length + 1) * 13) 13
  ta2 : (w.setCells g ((X.length + 1) * 13) a.cs).there g (X.length * 13) 13
  tb2 : (w.setCells g (X.length * 13) b.cs).there g ((X.length + 1) * 13) 13
  one : ((w.setCells g (X.length * 13) b.cs).setCells g ((X.length + 1) * 13) a.cs).ownsRow Z 40 13 (.slice (some ⟨g, 0, none⟩) n c) n (ecs (X ++ b :: a :: Y))
  two : ((w.setCells g ((X.length + 1) * 13) a.cs).setCells g (X.length * 13) b.cs).ownsRow Z 40 13 (.slice (some ⟨g, 0, none⟩) n c) n (ecs (X ++ b :: a :: Y))
theorem sx_of {w : World} {Z g n c : Nat} {X Y : List Ev} {a b : Ev} (h : w.ownsRow Z 40 13 (.slice (some ⟨g, 0, none⟩) n c) n (ecs (X ++ a :: b :: Y))) : Sx w Z g n c X Y a b := by
  have e1 : (X ++ a :: b :: Y)[X.length]? = some a := by rw [List.getElem?_append_right (Nat.le_refl _)]; simp
  have e2 : (X ++ a :: b :: Y)[X.length + 1]? = some b := by rw [List.getElem?_append_right (by omega)]; simp
  have hl : ∀ x y : Ev, (ecs (X ++ x :: y :: Y)).length = (X.length + 2 + Y.length) * 13 := fun x y => by
    rw [ecs_length]; simp; omega
  have h1 := own_put h b
  have h2 := own_put2 h a
  exact ⟨range_own h e1, range_own h e2, there_own h _ _ (by rw [hl]; omega), there_own h _ _ (by rw [hl]; omega), there_own h2 _ _ (by rw [hl]; omega), there_own h1 _ _ (by rw [hl]; omega), own_put2 h1 a, own_put h2 b⟩
theorem swap_get {X Y : List Ev} {a b : Ev} {P Q : List (List Wr)} {pa pb : List Wr} (hp : P.length = X.length) {j : Nat} {e : Ev} {ws : List Wr} (he : (X ++ b :: a :: Y)[j]? = some e) (hw : (P ++ pb :: pa :: Q)[j]? = some ws) : ∃ i : Nat, (X ++ a :: b :: Y)[i]? = some e ∧ (P ++ pa :: pb :: Q)[i]? = some ws := by
  by_cases h1 : j = X.length
  · subst h1
    rw [List.getElem?_append_right (Nat.le_refl _)] at he
    rw [List.getElem?_append_right (by omega), hp] at hw
    simp at he hw
    refine ⟨X.length + 1, ?_, ?_⟩
    · rw [List.getElem?_append_right (by omega), ← he]; simp
    · rw [List.getElem?_append_right (by omega), ← hw, hp]; simp
  · by_cases h2 : j = X.length + 1
    · subst h2
      rw [List.getElem?_append_right (by omega)] at he
      rw [List.getElem?_append_right (by omega), hp] at hw
      simp at he hw
      refine ⟨X.length, ?_, ?_⟩
      · rw [List.getElem?_append_right (by omega), ← he]; simp
      · rw [List.getElem?_append_right (by omega), ← hw, hp]; simp
    · refine ⟨j, ?_, ?_⟩
      · rw [get_swap X Y a b h1 h2]; exact he
      · rw [get_swap P Q pa pb (by rw [hp]; exact h1) (by rw [hp]; exact h2)]; exact hw
theorem swap_in {w : World} {B B2 : Option Addr} {cap c2 Z : Nat} {X Y : List Ev} {a b : Ev} {P Q : List (List Wr)} {pa pb : List Wr} (hp : P.length = X.length) (h : InE w B cap (X ++ a :: b :: Y) (P ++ pa :: pb :: Q)) {n : Nat} (hn : n = (X ++ b :: a :: Y).length) (hr : w.ownsRow Z 40 13 (.slice B2 n c2) n (ecs (X ++ b :: a :: Y))) (hc : n ≤ c2) : InE w B2 c2 (X ++ b :: a :: Y) (P ++ pb :: pa :: Q) := by
  have hlen : (P ++ pb :: pa :: Q).length = (X ++ b :: a :: Y).length := by
    have := h.rws.len
    simp at this ⊢
    omega
  refine ⟨row_of_own hr, ⟨hlen, fun j e ws he hw => ?_⟩, fun e he => h.ids e (by simp at he ⊢; rcases he with h | h | h | h <;> simp [h]), by rw [← hn]; exact hc, ⟨?_, fun j e ws he hw => ?_⟩⟩
  · obtain ⟨i, h1, h2⟩ := swap_get hp he hw
    exact h.rws.get i e ws h1 h2
  · have := h.few.len
    simp at this ⊢
    omega
  · obtain ⟨i, h1, h2⟩ := swap_get hp he hw
    exact h.few.op i e ws h1 h2
theorem code_same {l : List Ev} {ps : List (List Wr)} {l2 : List Ev} {ps2 : List (List Wr)} (hr : Right l) (hr2 : Right l2) {M : List Pr} (hu : Upto l2 ps2 M l2.length ↔ Upto l ps M l.length) {a c a2 c2 : Int} (h : LinC l ps M a c) (k : LinC l2 ps2 M a2 c2) : c2 = c := by
  have key : ∀ {l : List Ev} {ps : List (List Wr)} {a c : Int}, Right l → LinC l ps M a c → (c = 0 ∧ Upto l ps M l.length) ∨ (c = 32 ∧ ¬ Upto l ps M l.length) := fun {l ps a c} hr h => by
    rcases h with ⟨h1, h2⟩ | ⟨_, h⟩
    · exact absurd (h1.of_right hr).2 h2
    · rcases h with ⟨_, h, hu⟩ | ⟨n, e, _, h, he, _, hb⟩
      · exact .inl ⟨h, hu⟩
      · refine .inr ⟨h, fun hu => ?_⟩
        have := hu n e (List.getElem?_eq_some_iff.1 he).1 he
        rw [hb] at this
        cases this
  rcases key hr h with ⟨h1, h2⟩ | ⟨h1, h2⟩
  · rcases key hr2 k with ⟨k1, k2⟩ | ⟨k1, k2⟩
    · rw [h1, k1]
    · exact absurd (hu.2 h2) k2
  · rcases key hr2 k with ⟨k1, k2⟩ | ⟨k1, k2⟩
    · exact absurd (hu.1 k2) h2
    · rw [h1, k1]
end Go.Proofs.Ytllppkfeiifklaa
