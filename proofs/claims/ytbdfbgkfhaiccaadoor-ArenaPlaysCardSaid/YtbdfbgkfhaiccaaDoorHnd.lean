/-
  Handles of an arena: what it comes to, where slices.Sorted over maps.Keys tells the keys, rising.
-/
import Derived.Test.YtbdfbgkfhaiccaaDoorWTwo
namespace Go.Proofs.YtbdfbgkfhaiccaaDoor
open Go.RowKit Go.Maps
set_option linter.unusedVariables false

/-- The keys of f, rising, in a new row. -/
def SortedPost (f : Int → Option Value) (W : World) (e : Ending) (w' : World) : Prop :=
  ∃ (v : Value) (ks : List Int), e = .returned v ∧ (∀ i, i ∈ ks ↔ (f i).isSome = true) ∧ ks.Pairwise (· < ·) ∧ w'.ownsRow W.heap.size 3 1 v ks.length (ks.map (Value.int .i64)) ∧ Turn (fun _ => False) W w'

/-- What slices.Sorted(maps.Keys(m)) comes to, at one type of maps. -/
structure SortedAt (fK fY : Nat) (tm : TypeId) : Prop where
  keys : ∀ (mb : Option Nat) (W : World), Calls Tryd.prog fK #[.map mb] W fun e w' => e = .returned (.func (.func fY) #[] #[.pointer (some ⟨W.heap.size, 0, none⟩)]) ∧ w' = W.alloc (.cells #[.map mb] tm)
  sorted : ∀ (w : World) (b n : Nat) (f : Int → Option Value), IMap Tryd.prog 3 w b f n → n ≤ 1000000 → Calls Tryd.prog 38 #[.func (.func fY) #[] #[.pointer (some ⟨w.heap.size, 0, none⟩)]] (w.alloc (.cells #[.map (some b)] tm)) (SortedPost f (w.alloc (.cells #[.map (some b)] tm)))

theorem krow_form {B : Nat} {w : World} {v : Value} {ks : List Int} (h : w.ownsRow B 3 1 v ks.length (ks.map (Value.int .i64))) : ∃ A cap, v = .slice A ks.length cap := by
  rcases h.2 with ⟨rfl, h0⟩ | ⟨g, cap, cur, rfl, _⟩
  · exact ⟨none, 0, by rw [h0]⟩
  · exact ⟨_, _, rfl⟩
theorem krow_at {B : Nat} {w : World} {A : Option Addr} {m cap k : Nat} {ks : List Int} {i : Int} (h : w.ownsRow B 3 1 (.slice A m cap) ks.length (ks.map (Value.int .i64))) (hk : ks[k]? = some i) : ∃ g, A = some ⟨g, 0, none⟩ ∧ g < w.heap.size ∧ w.cell? ⟨g, k, none⟩ = some (.int .i64 i) := by
  have hkl : k < ks.length := (List.getElem?_eq_some_iff.1 hk).1
  rcases h.2 with ⟨_, h0⟩ | ⟨g, cap', cur, hv, hb, hg, hle, _, hsz, htake⟩
  · omega
  · injection hv with hA
    refine ⟨g, hA, At.lt hg, ?_⟩
    rw [At.cell (f := (0, 0)) hg]
    have e : (cur.toList.take (ks.length * 1))[k]? = some (.int .i64 i) := by rw [htake, List.getElem?_map, hk]; rfl
    rw [List.getElem?_take, if_pos (by omega)] at e
    simpa using e

/-- The handles of what stands in an arena, by rising slots. -/
def genOf (M : Nat → Option (Nat × Value)) (x : Nat) : Nat := ((M x).map (·.1)).getD 0
def HandlesPost (M : Nat → Option (Nat × Value)) (w : World) (e : Ending) (w' : World) : Prop :=
  ∃ (A : Option Addr) (cap : Nat) (xs : List Nat) (B : World), e = .returned (.slice A xs.length cap) ∧ (∀ x, x ∈ xs ↔ (M x).isSome = true) ∧ xs.Pairwise (· < ·) ∧ Told B w' (.slice A xs.length cap) (xs.map fun x => (x, genOf M x)) ∧ Turn (fun _ => False) w w'
theorem cell_keepT {w w' : World} (t : Turn (fun _ => False) w w') {b o : Nat} {v : Value} (hb : b < w.heap.size) (h : w.cell? ⟨b, o, none⟩ = some v) : w'.cell? ⟨b, o, none⟩ = some v :=
  (World.cell?_of_block (w := w) (t.block b hb (fun h => h))).trans h
theorem len_from : ∀ (n a : Nat) (l : List Nat), l.Pairwise (· < ·) → (∀ x ∈ l, a ≤ x ∧ x < n) → l.length ≤ n - a
  | n, a, [], _, _ => Nat.zero_le _
  | n, a, x :: r, h, hb => by
    obtain ⟨h1, h2⟩ := List.pairwise_cons.1 h
    have hx := hb x (by simp)
    have ih := len_from n (x + 1) r h2 (fun y hy => ⟨h1 y hy, (hb y (by simp [hy])).2⟩)
    simp only [List.length_cons]
    omega
/-- Rising numbers below a bound are at most so many. -/
theorem len_of_rising {n : Nat} {l : List Nat} (h : l.Pairwise (· < ·)) (hb : ∀ x ∈ l, x < n) : l.length ≤ n := by
  have := len_from n 0 l h (fun x hx => ⟨Nat.zero_le _, hb x hx⟩)
  omega
end Go.Proofs.YtbdfbgkfhaiccaaDoor
