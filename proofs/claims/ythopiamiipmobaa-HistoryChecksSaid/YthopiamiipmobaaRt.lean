/-
  Right rows: the kinds of an Id rise; the marks keep to what is ahead of what.
-/
import Derived.Test.YthopiamiipmobaaWMarks
import Derived.Test.YthopiamiipmobaaWWakes
namespace Go.Proofs.Ythopiamiipmobaa
open Go.RowKit Go.Lib
set_option linter.unusedVariables false
set_option linter.unusedSimpArgs false

theorem take_succ {l : List Ev} {n : Nat} {e : Ev} (he : l[n]? = some e) : l.take (n + 1) = l.take n ++ [e] := by rw [List.take_add_one, he]; rfl
theorem snoc_get {l : List Ev} {e x : Ev} {i : Nat} (h : (l ++ [e])[i]? = some x) : l[i]? = some x ∨ (i = l.length ∧ x = e) := by
  by_cases hi : i < l.length
  · rw [List.getElem?_append_left hi] at h; exact .inl h
  · rw [List.getElem?_append_right (by omega)] at h
    rcases Nat.eq_zero_or_pos (i - l.length) with h0 | h0
    · rw [h0] at h; simp at h; exact .inr ⟨by omega, h.symm⟩
    · rw [List.getElem?_eq_none (by simp; omega)] at h; cases h
theorem get_snoc {l : List Ev} {e x : Ev} {i : Nat} (h : l[i]? = some x) : (l ++ [e])[i]? = some x := by
  rw [List.getElem?_append_left (List.getElem?_eq_some_iff.1 h).1]; exact h
theorem get_last (l : List Ev) (e : Ev) : (l ++ [e])[l.length]? = some e := by simp

/-- What is known of an Id is told by its last event; the kinds of an Id rise. -/
structure Rises (l : List Ev) : Prop where
  ge : ∀ (i : Nat) (x : Ev), l[i]? = some x → x.kind ≤ (kn l x.id).last
  src : ∀ id, (kn l id).last = 0 ∨ ∃ (i : Nat) (x : Ev), l[i]? = some x ∧ x.id = id ∧ x.kind = (kn l id).last
  mono : ∀ (i j : Nat) (x y : Ev), i < j → l[i]? = some x → l[j]? = some y → x.id = y.id → x.kind < y.kind
  pred : ∀ (j : Nat) (y : Ev), l[j]? = some y → 2 ≤ y.kind → ∃ (i : Nat) (x : Ev), i < j ∧ l[i]? = some x ∧ x.id = y.id ∧ x.kind = y.kind - 1
  kinds : ∀ (j : Nat) (y : Ev), l[j]? = some y → 1 ≤ y.id ∧ 1 ≤ y.kind ∧ y.kind ≤ 3
theorem Right.rises {l : List Ev} (h : Right l) : Rises l := by
  induction h with
  | nil => exact ⟨fun i x hx => by simp at hx, fun id => .inl rfl, fun i j x y _ hx => by simp at hx, fun j y hy => by simp at hy, fun j y hy => by simp at hy⟩
  | @snoc l e hl hf ih =>
    obtain ⟨h1, h2, h3, h4⟩ := fits_kind hf
    have hlast : ∀ id, (kn (l ++ [e]) id).last = if id = e.id then e.kind else (kn l id).last := fun id => by
      rw [kn_snoc]; unfold upd; split <;> rfl
    refine ⟨fun i x hx => ?_, fun id => ?_, fun i j x y hij hx hy hid => ?_, fun j y hy hk => ?_, fun j y hy => ?_⟩
    · rw [hlast]
      rcases snoc_get hx with hx | ⟨_, rfl⟩
      · have := ih.ge i x hx
        split
        · rename_i he
          rw [he] at this
          omega
        · exact this
      · rw [if_pos rfl]; exact Int.le_refl _
    · rw [hlast]
      split
      · rename_i he; exact .inr ⟨l.length, e, get_last l e, he.symm, rfl⟩
      · rcases ih.src id with h | ⟨i, x, hx, a, b⟩
        · exact .inl h
        · exact .inr ⟨i, x, get_snoc hx, a, b⟩
    · rcases snoc_get hy with hy | ⟨rfl, rfl⟩
      · have hj := (List.getElem?_eq_some_iff.1 hy).1
        rcases snoc_get hx with hx | ⟨h, _⟩
        · exact ih.mono i j x y hij hx hy hid
        · omega
      · rcases snoc_get hx with hx | ⟨h, _⟩
        · have := ih.ge i x hx
          rw [hid] at this
          omega
        · omega
    · rcases snoc_get hy with hy | ⟨rfl, rfl⟩
      · obtain ⟨i, x, a, b, c⟩ := ih.pred j y hy hk
        exact ⟨i, x, a, get_snoc b, c⟩
      · rcases ih.src y.id with h | ⟨i, x, hx, a, b⟩
        · omega
        · exact ⟨i, x, (List.getElem?_eq_some_iff.1 hx).1, get_snoc hx, a, by omega⟩
    · rcases snoc_get hy with hy | ⟨rfl, rfl⟩
      · exact ih.kinds j y hy
      · exact ⟨h1, h3, h4⟩

theorem isAt_iff {kind id : Int} {e : Ev} : isAt kind id e = true ↔ e.kind = kind ∧ e.id = id := by simp [isAt]
theorem firstAt_isSome {kind id : Int} {l : List Ev} {i : Nat} {x : Ev} (h : l[i]? = some x) (hk : x.kind = kind) (hid : x.id = id) : ∃ n, firstAt kind id l = some n := by
  cases hf : firstAt kind id l with
  | some n => exact ⟨n, rfl⟩
  | none =>
    unfold firstAt at hf
    rw [List.findIdx?_eq_none_iff] at hf
    have := hf x (List.mem_of_getElem? h)
    rw [isAt_iff.2 ⟨hk, hid⟩] at this
    cases this

/-- The marks, with their places. -/
theorem marks_pos (l : List Ev) : (∀ (i : Nat) (a : Int), (marks l)[i]? = some a → ∃ (p : Nat) (x : Ev), l[p]? = some x ∧ x.kind = 2 ∧ x.id = a) ∧
    ∀ (k i : Nat) (a b : Int), k < i → (marks l)[k]? = some a → (marks l)[i]? = some b → ∃ (p q : Nat) (x y : Ev), p < q ∧ l[p]? = some x ∧ l[q]? = some y ∧ x.kind = 2 ∧ x.id = a ∧ y.kind = 2 ∧ y.id = b := by
  have main : ∀ n ≤ l.length, (∀ (i : Nat) (a : Int), (marks (l.take n))[i]? = some a → ∃ (p : Nat) (x : Ev), p < n ∧ l[p]? = some x ∧ x.kind = 2 ∧ x.id = a) ∧
    ∀ (k i : Nat) (a b : Int), k < i → (marks (l.take n))[k]? = some a → (marks (l.take n))[i]? = some b → ∃ (p q : Nat) (x y : Ev), p < q ∧ l[p]? = some x ∧ l[q]? = some y ∧ x.kind = 2 ∧ x.id = a ∧ y.kind = 2 ∧ y.id = b := by
    intro n
    induction n with
    | zero => intro _; simp [marks]
    | succ n ih =>
      intro hn
      obtain ⟨ih1, ih2⟩ := ih (by omega)
      obtain ⟨e, he⟩ : ∃ e, l[n]? = some e := ⟨l[n], List.getElem?_eq_getElem (by omega)⟩
      by_cases hk : e.kind = 2
      · have hm := marks_yes he hk
        have key : ∀ i a, (marks (l.take n) ++ [e.id])[i]? = some a → (marks (l.take n))[i]? = some a ∨ (i = (marks (l.take n)).length ∧ a = e.id) := fun i a h => by
          by_cases hi : i < (marks (l.take n)).length
          · rw [List.getElem?_append_left hi] at h; exact .inl h
          · rw [List.getElem?_append_right (by omega)] at h
            rcases Nat.eq_zero_or_pos (i - (marks (l.take n)).length) with h0 | h0
            · rw [h0] at h; simp at h; exact .inr ⟨by omega, h.symm⟩
            · rw [List.getElem?_eq_none (by simp; omega)] at h; cases h
        rw [hm]
        refine ⟨fun i a h => ?_, fun k i a b hki ha hb => ?_⟩
        · rcases key i a h with h | ⟨_, rfl⟩
          · obtain ⟨p, x, h1, h2⟩ := ih1 i a h; exact ⟨p, x, by omega, h2⟩
          · exact ⟨n, e, by omega, he, hk, rfl⟩
        · rcases key i b hb with hb | ⟨hi, rfl⟩
          · have hil := (List.getElem?_eq_some_iff.1 hb).1
            rcases key k a ha with ha | ⟨hk', _⟩
            · exact ih2 k i a b hki ha hb
            · omega
          · rcases key k a ha with ha | ⟨hk', _⟩
            · obtain ⟨p, x, h1, h2, h3, h4⟩ := ih1 k a ha
              exact ⟨p, n, x, e, h1, h2, he, h3, h4, hk, rfl⟩
            · omega
      · rw [marks_no he hk]
        exact ⟨fun i a h => by obtain ⟨p, x, h1, h2⟩ := ih1 i a h; exact ⟨p, x, by omega, h2⟩, ih2⟩
  obtain ⟨h1, h2⟩ := main l.length (Nat.le_refl _)
  rw [List.take_length] at h1 h2
  exact ⟨fun i a h => by obtain ⟨p, x, _, r⟩ := h1 i a h; exact ⟨p, x, r⟩, h2⟩

section
variable {l : List Ev} (h : Right l) {i k : Nat} {a b : Int}
include h
theorem Right.marks_ne (hki : k < i) (ha : (marks l)[k]? = some a) (hb : (marks l)[i]? = some b) : b ≠ a := by
  obtain ⟨p, q, x, y, hpq, hx, hy, kx, ix, ky, iy⟩ := (marks_pos l).2 k i a b hki ha hb
  intro e
  have := h.rises.mono p q x y hpq hx hy (by omega)
  omega
theorem Right.not_ahead (hki : k < i) (ha : (marks l)[k]? = some a) (hb : (marks l)[i]? = some b) : ahead l b a = false := by
  obtain ⟨p, q, x, y, hpq, hx, hy, kx, ix, ky, iy⟩ := (marks_pos l).2 k i a b hki ha hb
  unfold ahead
  cases hf : firstAt 3 b l with
  | none => rfl
  | some n =>
    obtain ⟨hn, e, he, hat, _⟩ := firstAt_get hf
    obtain ⟨ke, ie⟩ := isAt_iff.1 hat
    have hqn : q < n := by
      rcases Nat.lt_trichotomy q n with h1 | h1 | h1
      · exact h1
      · subst h1; rw [he] at hy; injection hy with hy; subst hy; omega
      · have := h.rises.mono n q e y h1 he hy (by omega); omega
    show (firstAt 1 a (l.drop n)).isSome = false
    cases hg : firstAt 1 a (l.drop n) with
    | none => rfl
    | some j =>
      obtain ⟨hj, e2, he2, hat2, _⟩ := firstAt_get hg
      obtain ⟨ke2, ie2⟩ := isAt_iff.1 hat2
      rw [List.getElem?_drop] at he2
      have := h.rises.mono p (n + j) x e2 (by omega) hx he2 (by omega)
      omega
theorem Right.places (hb : (marks l)[i]? = some b) : ∃ u v : Nat, firstAt 1 b l = some u ∧ firstAt 2 b l = some v ∧ u < v ∧ ∀ z, firstAt 3 b l = some z → v < z := by
  obtain ⟨q, y, hy, ky, iy⟩ := (marks_pos l).1 i b hb
  obtain ⟨p, x, hpq, hx, ix, kx⟩ := h.rises.pred q y hy (by omega)
  obtain ⟨u, hu⟩ := firstAt_isSome (kind := 1) (id := b) hx (by omega) (by omega)
  obtain ⟨v, hv⟩ := firstAt_isSome (kind := 2) (id := b) hy ky iy
  obtain ⟨_, eu, heu, au, _⟩ := firstAt_get hu
  obtain ⟨_, ev, hev, av, _⟩ := firstAt_get hv
  obtain ⟨ku, iu⟩ := isAt_iff.1 au
  obtain ⟨kv, iv⟩ := isAt_iff.1 av
  refine ⟨u, v, hu, hv, ?_, fun z hz => ?_⟩
  · rcases Nat.lt_trichotomy u v with h1 | h1 | h1
    · exact h1
    · subst h1; rw [heu] at hev; injection hev with hev; subst hev; omega
    · have := h.rises.mono v u ev eu h1 hev heu (by omega); omega
  · obtain ⟨_, ez, hez, az, _⟩ := firstAt_get hz
    obtain ⟨kz, iz⟩ := isAt_iff.1 az
    rcases Nat.lt_trichotomy v z with h1 | h1 | h1
    · exact h1
    · subst h1; rw [hez] at hev; injection hev with hev; subst hev; omega
    · have := h.rises.mono z v ez ev h1 hez hev (by omega); omega
end
end Go.Proofs.Ythopiamiipmobaa
