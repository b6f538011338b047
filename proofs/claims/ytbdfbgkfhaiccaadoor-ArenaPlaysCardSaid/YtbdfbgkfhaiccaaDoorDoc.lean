/-
  The document's pool: a slice of slots, each with its generation, whose thing stands there, and what; how it is told to the walks.
-/
import Derived.Test.YtbdfbgkfhaiccaaDoorWTwo
namespace Go.Proofs.YtbdfbgkfhaiccaaDoor
open Go.RowKit Go.Maps
set_option linter.unusedVariables false

structure Sl where
  g : Nat
  who : Nat
  x : ByteArray

def scells (h : Sl) : List Value := [.int .u64 (h.g : Int), .int .i64 (h.who : Int), .string h.x]
def flat3 (l : List Sl) : List Value := l.flatMap scells
theorem flat3_cons (h : Sl) (r : List Sl) : flat3 (h :: r) = .int .u64 (h.g : Int) :: .int .i64 (h.who : Int) :: .string h.x :: flat3 r := rfl
theorem flat3_len : ∀ l : List Sl, (flat3 l).length = l.length * 3
  | [] => rfl
  | h :: r => by rw [flat3_cons]; simp only [List.length_cons, flat3_len r]; omega
theorem flat3_at : ∀ (l : List Sl) (k : Nat) (h : Sl), l[k]? = some h →
    (flat3 l)[k * 3]? = some (.int .u64 (h.g : Int)) ∧ (flat3 l)[k * 3 + 1]? = some (.int .i64 (h.who : Int)) ∧ (flat3 l)[k * 3 + 2]? = some (.string h.x)
  | [], k, p, h => by simp at h
  | q :: r, 0, p, h => by
    simp at h
    subst h
    exact ⟨rfl, rfl, rfl⟩
  | q :: r, k + 1, p, h => by
    have ih := flat3_at r k p (by simpa using h)
    rw [flat3_cons, show (k + 1) * 3 = k * 3 + 3 by omega, show k * 3 + 3 + 1 = (k * 3 + 1) + 3 by omega, show k * 3 + 3 + 2 = (k * 3 + 2) + 3 by omega]
    simpa using ih
theorem flat3_append (a b : List Sl) : flat3 (a ++ b) = flat3 a ++ flat3 b := by simp [flat3]
theorem flat3_one : ∀ (l : List Sl), ∀ u ∈ flat3 l, u.oneCell' = true
  | [], u, hu => by simp [flat3] at hu
  | h :: r, u, hu => by
    rw [flat3_cons] at hu
    simp only [List.mem_cons] at hu
    rcases hu with rfl | rfl | rfl | hu
    · rfl
    · rfl
    · rfl
    · exact flat3_one r u hu
theorem flat3_set : ∀ (l : List Sl) (k : Nat) (h : Sl), k < l.length → flat3 (l.set k h) = (((flat3 l).set (k * 3) (.int .u64 (h.g : Int))).set (k * 3 + 1) (.int .i64 (h.who : Int))).set (k * 3 + 2) (.string h.x)
  | [], k, h, hk => by simp at hk
  | q :: r, 0, h, hk => rfl
  | q :: r, k + 1, h, hk => by
    have ih := flat3_set r k h (by simpa using hk)
    rw [List.set_cons_succ, flat3_cons, flat3_cons, ih, show (k + 1) * 3 = k * 3 + 1 + 1 + 1 by omega, show k * 3 + 1 + 1 + 1 + 1 = (k * 3 + 1) + 1 + 1 + 1 by omega, show k * 3 + 1 + 1 + 1 + 2 = (k * 3 + 2) + 1 + 1 + 1 by omega]
    simp only [List.set_cons_succ]

/-- A row of slots that the call has made. -/
def Srow (B : Nat) (wr : World) (v : Value) (l : List Sl) : Prop := wr.ownsRow B 110 3 v l.length (flat3 l)
section
variable {B : Nat} {wr wr' : World} {v : Value} {l : List Sl}
theorem Srow.start (B : Nat) (wr : World) : Srow B wr (.slice none 0 0) [] := ⟨rfl, Or.inl ⟨rfl, rfl⟩⟩
theorem Srow.form (h : Srow B wr v l) : ∃ A cap, v = .slice A l.length cap := by
  rcases h.2 with ⟨rfl, h0⟩ | ⟨g, cap, cur, rfl, _⟩
  · exact ⟨none, 0, by rw [h0]⟩
  · exact ⟨_, _, rfl⟩
theorem Srow.turn {X : Nat → Prop} (h : Srow B wr v l) (t : Turn X wr wr') (hX : ∀ i c, At wr i (.cells c 110 (0, 0)) → B ≤ i → ¬ X i) : Srow B wr' v l := by
  refine ⟨h.1, ?_⟩
  rcases h.2 with h0 | ⟨g, cap', cur, hv, hb, hg, r⟩
  · exact Or.inl h0
  · exact Or.inr ⟨g, cap', cur, hv, hb, At.turn (w := wr) hg t (hX g cur hg hb), r⟩
theorem Srow.own (h : Srow B wr v l) {i : Nat} (hi : v.ownBlock = some i) : (∃ c, At wr i (.cells c 110 (0, 0))) ∧ B ≤ i ∧ i < wr.heap.size := by
  rcases h.2 with ⟨rfl, _⟩ | ⟨g, cap', cur, rfl, hb, hg, r⟩
  · cases hi
  · have : g = i := by simpa [Value.ownBlock] using hi
    subst this
    exact ⟨⟨_, hg⟩, hb, At.lt hg⟩
theorem info110 : (Tryd.prog.info? 110).map (fun i => (i.zero, i.size, i.bytes)) = some (some (.agg #[.int .u64 0, .int .i64 0, .string ⟨#[]⟩]), 3, 32) := by kernel_rfl
theorem Srow.append (h : Srow B wr v l) (ad : Addr) (m c : Nat) (news : List Sl) (hm : news.length = m) (hnews : ∀ j u, (flat3 news)[j]? = some u → wr.cell? (ad.add j) = some u) (hl : l.length + m < 100000) (hw : B ≤ wr.heap.size) (ty : TypeId) :
    ∃ A cap w', (Builtin.append_ #[64, 64] ty #[v, .slice (some ad) m c]).run Tryd.prog wr = .ok (.slice A (l.length + m) cap) w' ∧ Srow B w' (.slice A (l.length + m) cap) (l ++ news) ∧ Turn (fun i => v.ownBlock = some i) wr w' := by
  obtain ⟨i0, hi, hz0, hz1, hz2⟩ := info_parts info110
  obtain ⟨v', w', hr, h2, h3, _, h5⟩ := run_append_own_at (P := Tryd.prog) wr B 64 ty 110 i0 _ 3 32 Tryd.underlying64 hi hz0 hz1 hz2 rfl (by omega) v l.length (flat3 l) h ad m c (flat3 news) (by rw [flat3_len, hm]) hnews (flat3_one news) (by unfold maxLen; omega) (by omega) hw
  have h2' : Srow B w' v' (l ++ news) := by
    unfold Srow
    rw [List.length_append, hm, flat3_append]
    exact h2
  obtain ⟨A, cap, hv⟩ := h2'.form
  rw [List.length_append, hm] at hv
  subst hv
  exact ⟨A, cap, w', hr, h2', (Turn.refl _ wr).grown h3 (fun k hk => Or.inl hk)⟩
end

/-- The document's pool: its block qb, its slots' block lb, its slots. -/
structure Doc (wr : World) (qb lb cap : Nat) (L : List Sl) : Prop where
  hd : At wr qb (.cells #[.slice (some ⟨lb, 0, none⟩) L.length cap] 66 (0, 0))
  row : ∃ c : Array Value, At wr lb (.cells c 110 (0, 0)) ∧ ∀ (j : Nat) (u : Value), (flat3 L)[j]? = some u → c[j]? = some u
  le : L.length ≤ 4096
  each : ∀ s ∈ L, s.g < 18446744073709551616 ∧ s.who ≤ 3

section
variable {wr wr' : World} {qb lb cap : Nat} {L : List Sl}
theorem Doc.ne (h : Doc wr qb lb cap L) : qb ≠ lb := by
  obtain ⟨c, hc, _⟩ := h.row
  exact h.hd.ne hc (by intro e; injection e with _ e; cases e)
theorem Doc.turn {X : Nat → Prop} (h : Doc wr qb lb cap L) (t : Turn X wr wr') (h1 : ¬ X qb) (h2 : ¬ X lb) : Doc wr' qb lb cap L := by
  obtain ⟨c, hc, r⟩ := h.row
  exact ⟨h.hd.turn t h1, ⟨c, hc.turn t h2, r⟩, h.le, h.each⟩
theorem Doc.same (h : Doc wr qb lb cap L) (t : Turn (fun _ => False) wr wr') : Doc wr' qb lb cap L := h.turn t (fun h => h) (fun h => h)
theorem Doc.head (h : Doc wr qb lb cap L) : wr.cell? ⟨qb, 0, none⟩ = some (.slice (some ⟨lb, 0, none⟩) L.length cap) := by simpa using h.hd.cell 0
theorem Doc.at (h : Doc wr qb lb cap L) {k : Nat} {s : Sl} (hk : L[k]? = some s) :
    wr.cell? ⟨lb, k * 3, none⟩ = some (.int .u64 (s.g : Int)) ∧ wr.cell? ⟨lb, k * 3 + 1, none⟩ = some (.int .i64 (s.who : Int)) ∧ wr.cell? ⟨lb, k * 3 + 2, none⟩ = some (.string s.x) := by
  obtain ⟨c, hc, r⟩ := h.row
  obtain ⟨f1, f2, f3⟩ := flat3_at L k s hk
  rw [hc.cell, hc.cell, hc.cell]
  exact ⟨r _ _ f1, r _ _ f2, r _ _ f3⟩
theorem Doc.thaw (h : Doc wr qb lb cap L) (i : Nat) : wr.frozen? ⟨lb, i, none⟩ = false := by
  obtain ⟨c, hc, _⟩ := h.row
  exact hc.thawed i
theorem Doc.get (L : List Sl) {k : Nat} (hk : k < L.length) : ∃ s, L[k]? = some s := ⟨_, List.getElem?_eq_getElem hk⟩
/-- A slot is written whole. -/
theorem Doc.write (h : Doc wr qb lb cap L) {k : Nat} (hk : k < L.length) (s : Sl) (hs : s.g < 18446744073709551616 ∧ s.who ≤ 3) :
    Doc (((wr.setCell ⟨lb, k * 3, none⟩ (.int .u64 (s.g : Int))).setCell ⟨lb, k * 3 + 1, none⟩ (.int .i64 (s.who : Int))).setCell ⟨lb, k * 3 + 2, none⟩ (.string s.x)) qb lb cap (L.set k s) := by
  obtain ⟨c, hc, r⟩ := h.row
  have t : Turn (· = lb) wr (((wr.setCell ⟨lb, k * 3, none⟩ (.int .u64 (s.g : Int))).setCell ⟨lb, k * 3 + 1, none⟩ (.int .i64 (s.who : Int))).setCell ⟨lb, k * 3 + 2, none⟩ (.string s.x)) :=
    (((Turn.refl (fun i => i = lb) wr).setCell (p := ⟨lb, k * 3, none⟩) (Or.inl rfl) _).setCell (p := ⟨lb, k * 3 + 1, none⟩) (Or.inl rfl) _).setCell (p := ⟨lb, k * 3 + 2, none⟩) (Or.inl rfl) _
  refine ⟨?_, ⟨_, ((hc.set _ _).set _ _).set _ _, ?_⟩, by rw [List.length_set]; exact h.le, ?_⟩
  · rw [List.length_set]; exact h.hd.turn t h.ne
  · have hsz : k * 3 + 2 < c.size := by
      obtain ⟨q, hq⟩ := Doc.get L hk
      have := r _ _ (flat3_at L k q hq).2.2
      exact (Array.getElem?_eq_some_iff.1 this).1
    intro j u hu
    rw [flat3_set L k s hk] at hu
    simp only [Array.getElem?_setIfInBounds, Array.size_setIfInBounds, List.getElem?_set, List.length_set, flat3_len] at hu ⊢
    by_cases e2 : k * 3 + 2 = j
    · subst e2
      rw [if_pos rfl, if_pos (by omega)] at hu
      rw [if_pos rfl, if_pos hsz]; exact hu
    · rw [if_neg e2] at hu ⊢
      by_cases e1 : k * 3 + 1 = j
      · subst e1
        rw [if_pos rfl, if_pos (by omega)] at hu
        rw [if_pos rfl, if_pos (by omega)]; exact hu
      · rw [if_neg e1] at hu ⊢
        by_cases e0 : k * 3 = j
        · subst e0
          rw [if_pos rfl, if_pos (by omega)] at hu
          rw [if_pos rfl, if_pos (by omega)]; exact hu
        · rw [if_neg e0] at hu ⊢
          exact r _ _ hu
  · intro q hq
    rcases List.mem_or_eq_of_mem_set hq with h1 | h1
    · exact h.each q h1
    · rw [h1]; exact hs
theorem Doc.of_row {B : Nat} {A : Option Addr} {m : Nat} (hq : At wr qb (.cells #[.slice A m cap] 66 (0, 0))) (h : Srow B wr (.slice A m cap) L) (hl : 0 < L.length) (hle : L.length ≤ 4096) (he : ∀ s ∈ L, s.g < 18446744073709551616 ∧ s.who ≤ 3) : ∃ lb, B ≤ lb ∧ Doc wr qb lb cap L := by
  rcases h.2 with ⟨_, h0⟩ | ⟨g, cap', cur, hv, hb, hg, hle2, _, hsz, htake⟩
  · omega
  · injection hv with hA hm hc
    subst hc
    refine ⟨g, hb, ⟨by rw [← hm, ← hA]; exact hq, ⟨cur, hg, fun j u hu => ?_⟩, hle, he⟩⟩
    have hj : j < (flat3 L).length := (List.getElem?_eq_some_iff.1 hu).1
    rw [flat3_len] at hj
    rw [← hu, ← htake, List.getElem?_take, if_pos hj]
    simp
end

/-- Whether a slot of the document's is free. -/
def dfr (L : List Sl) (x : Nat) : Bool := match L[x]? with | some s => s.who == 0 | none => false
theorem dfr_at {L : List Sl} {x : Nat} {s : Sl} (h : L[x]? = some s) : dfr L x = (s.who == 0) := by unfold dfr; rw [h]
end Go.Proofs.YtbdfbgkfhaiccaaDoor
