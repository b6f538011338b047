/-
  Marks: the Ids of the marks, in their row.
  Right rows: the kinds of an Id rise; the marks keep to what is ahead of what.
  How many events of a kind an Id has in a right row; the first mark's answer; Fits as the document's own text tells it.
  State, where it is not Begun.
-/
import Derived.Test.YtllppkfeiifklaaJ21
import Derived.Test.YtllppkfeiifklaaJ22
namespace Go.Proofs.Ytllppkfeiifklaa
open Go.RowKit Go.Lib
set_option linter.unusedVariables false
set_option maxRecDepth 20000
set_option linter.unusedSimpArgs false

def marks (l : List Ev) : List Int := (l.filter (fun e => e.kind == 2)).map (·.id)
def ics (l : List Int) : List Value := l.map (fun i => Value.int .i64 i)
theorem marks_length (l : List Ev) : (marks l).length ≤ l.length := by unfold marks; rw [List.length_map]; exact List.length_filter_le ..
theorem marks_yes {l : List Ev} {k : Nat} {e : Ev} (he : l[k]? = some e) (h : e.kind = 2) : marks (l.take (k + 1)) = marks (l.take k) ++ [e.id] := by
  rw [List.take_add_one, he]; simp [marks, h]
theorem marks_no {l : List Ev} {k : Nat} {e : Ev} (he : l[k]? = some e) (h : ¬ e.kind = 2) : marks (l.take (k + 1)) = marks (l.take k) := by
  rw [List.take_add_one, he]; simp [marks, h]
/-- A row of ints of the program's own. -/
structure Ints (w0 w : World) (l : List Int) (B : Option Addr) (c : Nat) : Prop where
  tu : Turn No w0 w
  row : w.ownsRow w0.heap.size 3 1 (.slice B l.length c) l.length (ics l)
theorem Ints.no {w0 w w' : World} {l : List Int} {B : Option Addr} {c : Nat} (h : Ints w0 w l B c) (t : Turn No w w') : Ints w0 w' l B c := ⟨h.tu.trans t, own_grown h.row t fun _ _ h => h⟩
theorem Ints.append {w0 w : World} {l : List Int} {B : Option Addr} {c : Nat} (h : Ints w0 w l B c) (hl : l.length < 1000000) (i : Int) :
    ∃ B' c' w', AppRun 65 65 (.slice B l.length c) (.slice (some ⟨w.heap.size, 0, none⟩) 1 1) (.slice B' (l.length + 1) c') (w.alloc (.cells #[.int .i64 i] 3)) w' ∧ Ints w0 w' (l ++ [i]) B' c' := by
  have h2 := h.no ((Turn.refl No w).alloc (.cells #[.int .i64 i] 3))
  have hn := At.new w (.cells #[.int .i64 i] 3)
  obtain ⟨B', c', w', q, ho, ht, hB⟩ := app_gen Try.underlying65 info3 rfl (by decide) (by decide) h2.row ⟨w.heap.size, 0, none⟩ 1 1 [.int .i64 i] rfl
    (fun j u hj => by rw [Addr.add_lit, Nat.zero_add, hn.cell]; simpa using hj) (by intro u hu; simp at hu; subst hu; rfl) (by omega) h2.tu.size 65
  refine ⟨B', c', w', q, h2.tu.then ht fun k hk hb => ?_, ?_⟩
  · rw [own_ablk] at hb
    have := (own_at h2.row hb).1
    omega
  · have e : ics (l ++ [i]) = ics l ++ [.int .i64 i] := by simp [ics]
    rw [List.length_append, e]
    exact ho
end Go.Proofs.Ytllppkfeiifklaa
namespace Go.Proofs.Ytllppkfeiifklaa
open Go.RowKit Go.Lib
set_option linter.unusedVariables false
set_option maxRecDepth 20000
set_option linter.unusedSimpArgs false

theorem take_succ {l : List Ev} {n : Nat} {e : Ev} (he : l[n]? = some e) : l.take (n + 1) = l.take n ++ [e] := by rw [List.take_add_one, he]; rfl
theorem snoc_get {l : List Ev} {e x : Ev} {i : Nat} (h : (l ++ [e])[i]? = some x) : l[i]? = some x ∨ (i = l.length ∧ x = e) := by
  by_cases hi : i < l.length
  · rw [List.getElem?_append_left hi] at h; exact .inl h
  · rw [List.getElem?_append_right (by omega)] at h
    rcases Nat.eq_zero_or_pos (i - l.length) with h0 | h0
    · rw [h0] at h; simp at h; exact .inr ⟨by omega, h.symm⟩
    · rw [List.getElem?_eq_none (by simp; omega)] at h; cases h
theorem get_snoc {l : List Ev} {e x : Ev} {i : Nat} (h : l[i]? = some x) : (l ++ [e])[i]? = some x := by
  rw [List.getElem?_append_left (List.getElem?_eq_some_iff.1 h).1]; exact h
theorem get_last (l : List Ev) (e : Ev) : (l ++ [e])[l.length]? = some e := by simp

/-- What is known of an Id is told by its last event; the kinds of an Id rise. -/
structure Rises (l : List Ev) : Prop where
  ge : ∀ (i : Nat) (x : Ev), l[i]? = some x → x.kind ≤ (kn l x.id).last
  src : ∀ id, (kn l id).last = 0 ∨ ∃ (i : Nat) (x : Ev), l[i]? = some x ∧ x.id = id ∧ x.kind = (kn l id).last
  mono : ∀ (i j : Nat) (x y : Ev), i < j → l[i]? = some x → l[j]? = some y → x.id = y.id → x.kind < y.kind
  pred : ∀ (j : Nat) (y : Ev), l[j]? = some y → 2 ≤ y.kind → ∃ (i : Nat) (x : Ev), i < j ∧ l[i]? = some x ∧ x.id = y.id ∧ x.kind = y.kind - 1
  kinds : ∀ (j : Nat) (y : Ev), l[j]? = some y → 1 ≤ y.id ∧ 1 ≤ y.kind ∧ y.kind ≤ 3
theorem Right.rises {l : List Ev} (h : Right l) : Rises l := by
  induction h with
  | nil => exact ⟨fun i x hx => by simp at hx, fun id => .inl rfl, fun i j x y _ hx => by simp at hx, fun j y hy => by simp at hy, fun j y hy => by simp at hy⟩
  | @snoc l e hl hf ih =>
    obtain ⟨h1, h2, h3, h4⟩ := fits_kind hf
    have hlast : ∀ id, (kn (l ++ [e]) id).last = if id = e.id then e.kind else (kn l id).last := fun id => by
      rw [kn_snoc]; unfold upd; split <;> rfl
    refine ⟨fun i x hx => ?_, fun id => ?_, fun i j x y hij hx hy hid => ?_, fun j y hy hk => ?_, fun j y hy => ?_⟩
    · rw [hlast]
      rcases snoc_get hx with hx | ⟨_, rfl⟩
      · have := ih.ge i x hx
        split
        · rename_i he
          rw [he] at this
          omega
        · exact this
      · rw [if_pos rfl]; exact Int.le_refl _
    · rw [hlast]
      split
      · rename_i he; exact .inr ⟨l.length, e, get_last l e, he.symm, rfl⟩
      · rcases ih.src id with h | ⟨i, x, hx, a, b⟩
        · exact .inl h
        · exact .inr ⟨i, x, get_snoc hx, a, b⟩
    · rcases snoc_get hy with hy | ⟨rfl, rfl⟩
      · have hj := (List.getElem?_eq_some_iff.1 hy).1
        rcases snoc_get hx with hx | ⟨h, _⟩
        · exact ih.mono i j x y hij hx hy hid
        · omega
      · rcases snoc_get hx with hx | ⟨h, _⟩
        · have := ih.ge i x hx
          rw [hid] at this
          omega
        · omega
    · rcases snoc_get hy with hy | ⟨rfl, rfl⟩
      · obtain ⟨i, x, a, b, c⟩ := ih.pred j y hy hk
        exact ⟨i, x, a, get_snoc b, c⟩
      · rcases ih.src y.id with h | ⟨i, x, hx, a, b⟩
        · omega
        · exact ⟨i, x, (List.getElem?_eq_some_iff.1 hx).1, get_snoc hx, a, by omega⟩
    · rcases snoc_get hy with hy | ⟨rfl, rfl⟩
      · exact ih.kinds j y hy
      · exact ⟨h1, h3, h4⟩

theorem isAt_iff {kind id : Int} {e : Ev} : isAt kind id e = true ↔ e.kind = kind ∧ e.id = id := by simp [isAt]
theorem firstAt_isSome {kind id : Int} {l : List Ev} {i : Nat} {x : Ev} (h : l[i]? = some x) (hk : x.kind = kind) (hid : x.id = id) : ∃ n, firstAt kind id l = some n := by
  cases hf : firstAt kind id l with
  | some n => exact ⟨n, rfl⟩
  | none =>
    unfold firstAt at hf
    rw [List.findIdx?_eq_none_iff] at hf
    have := hf x (List.mem_of_getElem? h)
    rw [isAt_iff.2 ⟨hk, hid⟩] at this
    cases this

/-- The marks, with their places. -/
theorem marks_pos (l : List Ev) : (∀ (i : Nat) (a : Int), (marks l)[i]? = some a → ∃ (p : Nat) (x : Ev), l[p]? = some x ∧ x.kind = 2 ∧ x.id = a) ∧
    ∀ (k i : Nat) (a b : Int), k < i → (marks l)[k]? = some a → (marks l)[i]? = some b → ∃ (p q : Nat) (x y : Ev), p < q ∧ l[p]? = some x ∧ l[q]? = some y ∧ x.kind = 2 ∧ x.id = a ∧ y.kind = 2 ∧ y.id = b := by
  have main : ∀ n ≤ l.length, (∀ (i : Nat) (a : Int), (marks (l.take n))[i]? = some a → ∃ (p : Nat) (x : Ev), p < n ∧ l[p]? = some x ∧ x.kind = 2 ∧ x.id = a) ∧
    ∀ (k i : Nat) (a b : Int), k < i → (marks (l.take n))[k]? = some a → (marks (l.take n))[i]? = some b → ∃ (p q : Nat) (x y : Ev), p < q ∧ l[p]? = some x ∧ l[q]? = some y ∧ x.kind = 2 ∧ x.id = a ∧ y.kind = 2 ∧ y.id = b := by
    intro n
    induction n with
    | zero => intro _; simp [marks]
    | succ n ih =>
      intro hn
      obtain ⟨ih1, ih2⟩ := ih (by omega)
      obtain ⟨e, he⟩ : ∃ e, l[n]? = some e := ⟨l[n], List.getElem?_eq_getElem (by omega)⟩
      by_cases hk : e.kind = 2
      · have hm := marks_yes he hk
        have key : ∀ i a, (marks (l.take n) ++ [e.id])[i]? = some a → (marks (l.take n))[i]? = some a ∨ (i = (marks (l.take n)).length ∧ a = e.id) := fun i a h => by
          by_cases hi : i < (marks (l.take n)).length
          · rw [List.getElem?_append_left hi] at h; exact .inl h
          · rw [List.getElem?_append_right (by omega)] at h
            rcases Nat.eq_zero_or_pos (i - (marks (l.take n)).length) with h0 | h0
            · rw [h0] at h; simp at h; exact .inr ⟨by omega, h.symm⟩
            · rw [List.getElem?_eq_none (by simp; omega)] at h; cases h
        rw [hm]
        refine ⟨fun i a h => ?_, fun k i a b hki ha hb => ?_⟩
        · rcases key i a h with h | ⟨_, rfl⟩
          · obtain ⟨p, x, h1, h2⟩ := ih1 i a h; exact ⟨p, x, by omega, h2⟩
          · exact ⟨n, e, by omega, he, hk, rfl⟩
        · rcases key i b hb with hb | ⟨hi, rfl⟩
          · have hil := (List.getElem?_eq_some_iff.1 hb).1
            rcases key k a ha with ha | ⟨hk', _⟩
            · exact ih2 k i a b hki ha hb
            · omega
          · rcases key k a ha with ha | ⟨hk', _⟩
            · obtain ⟨p, x, h1, h2, h3, h4⟩ := ih1 k a ha
              exact ⟨p, n, x, e, h1, h2, he, h3, h4, hk, rfl⟩
            · omega
      · rw [marks_no he hk]
        exact ⟨fun i a h => by obtain ⟨p, x, h1, h2⟩ := ih1 i a h; exact ⟨p, x, by omega, h2⟩, ih2⟩
  obtain ⟨h1, h2⟩ := main l.length (Nat.le_refl _)
  rw [List.take_length] at h1 h2
  exact ⟨fun i a h => by obtain ⟨p, x, _, r⟩ := h1 i a h; exact ⟨p, x, r⟩, h2⟩

section
variable {l : List Ev} (h : Right l) {i k : Nat} {a b : Int}
include h
theorem Right.marks_ne (hki : k < i) (ha : (marks l)[k]? = some a) (hb : (marks l)[i]? = some b) : b ≠ a := by
  obtain ⟨p, q, x, y, hpq, hx, hy, kx, ix, ky, iy⟩ := (marks_pos l).2 k i a b hki ha hb
  intro e
  have := h.rises.mono p q x y hpq hx hy (by omega)
  omega
theorem Right.not_ahead (hki : k < i) (ha : (marks l)[k]? = some a) (hb : (marks l)[i]? = some b) : ahead l b a = false := by
  obtain ⟨p, q, x, y, hpq, hx, hy, kx, ix, ky, iy⟩ := (marks_pos l).2 k i a b hki ha hb
  unfold ahead
  cases hf : firstAt 3 b l with
  | none => rfl
  | some n =>
    obtain ⟨hn, e, he, hat, _⟩ := firstAt_get hf
    obtain ⟨ke, ie⟩ := isAt_iff.1 hat
    have hqn : q < n := by
      rcases Nat.lt_trichotomy q n with h1 | h1 | h1
      · exact h1
      · subst h1; rw [he] at hy; injection hy with hy; subst hy; omega
      · have := h.rises.mono n q e y h1 he hy (by omega); omega
    show (firstAt 1 a (l.drop n)).isSome = false
    cases hg : firstAt 1 a (l.drop n) with
    | none => rfl
    | some j =>
      obtain ⟨hj, e2, he2, hat2, _⟩ := firstAt_get hg
      obtain ⟨ke2, ie2⟩ := isAt_iff.1 hat2
      rw [List.getElem?_drop] at he2
      have := h.rises.mono p (n + j) x e2 (by omega) hx he2 (by omega)
      omega
theorem Right.places (hb : (marks l)[i]? = some b) : ∃ u v : Nat, firstAt 1 b l = some u ∧ firstAt 2 b l = some v ∧ u < v ∧ ∀ z, firstAt 3 b l = some z → v < z := by
  obtain ⟨q, y, hy, ky, iy⟩ := (marks_pos l).1 i b hb
  obtain ⟨p, x, hpq, hx, ix, kx⟩ := h.rises.pred q y hy (by omega)
  obtain ⟨u, hu⟩ := firstAt_isSome (kind := 1) (id := b) hx (by omega) (by omega)
  obtain ⟨v, hv⟩ := firstAt_isSome (kind := 2) (id := b) hy ky iy
  obtain ⟨_, eu, heu, au, _⟩ := firstAt_get hu
  obtain ⟨_, ev, hev, av, _⟩ := firstAt_get hv
  obtain ⟨ku, iu⟩ := isAt_iff.1 au
  obtain ⟨kv, iv⟩ := isAt_iff.1 av
  refine ⟨u, v, hu, hv, ?_, fun z hz => ?_⟩
  · rcases Nat.lt_trichotomy u v with h1 | h1 | h1
    · exact h1
    · subst h1; rw [heu] at hev; injection hev with hev; subst hev; omega
    · have := h.rises.mono v u ev eu h1 hev heu (by omega); omega
  · obtain ⟨_, ez, hez, az, _⟩ := firstAt_get hz
    obtain ⟨kz, iz⟩ := isAt_iff.1 az
    rcases Nat.lt_trichotomy v z with h1 | h1 | h1
    · exact h1
    · subst h1; rw [hez] at hev; injection hev with hev; subst hev; omega
    · have := h.rises.mono z v ez ev h1 hez hev (by omega); omega
end
end Go.Proofs.Ytllppkfeiifklaa
namespace Go.Proofs.Ytllppkfeiifklaa
open Go.RowKit Go.Lib
set_option linter.unusedVariables false
set_option maxRecDepth 20000
set_option linter.unusedSimpArgs false

def cnt (kind id : Int) (l : List Ev) : Nat := (l.filter (isAt kind id)).length
theorem cnt_le (kind id : Int) (l : List Ev) : cnt kind id l ≤ l.length := List.length_filter_le ..
theorem cnt_snoc (kind id : Int) (l : List Ev) (e : Ev) : cnt kind id (l ++ [e]) = cnt kind id l + if isAt kind id e then 1 else 0 := by
  unfold cnt
  rw [List.filter_append, List.length_append]
  congr 1
  cases h : isAt kind id e <;> simp [h]
theorem cnt_yes {kind id : Int} {l : List Ev} {k : Nat} {e : Ev} (he : l[k]? = some e) (h : isAt kind id e = true) : cnt kind id (l.take (k + 1)) = cnt kind id (l.take k) + 1 := by
  rw [take_succ he, cnt_snoc, h]; rfl
theorem cnt_no {kind id : Int} {l : List Ev} {k : Nat} {e : Ev} (he : l[k]? = some e) (h : isAt kind id e = false) : cnt kind id (l.take (k + 1)) = cnt kind id (l.take k) := by
  rw [take_succ he, cnt_snoc, h]; simp
theorem Right.cnt {l : List Ev} (h : Right l) (id q : Int) (hq : 1 ≤ q ∧ q ≤ 3) : cnt q id l = if q ≤ (kn l id).last then 1 else 0 := by
  induction h with
  | nil => rw [kn_nil, if_neg (by show ¬ q ≤ 0; omega)]; rfl
  | @snoc l e hl hf ih =>
    obtain ⟨h1, h2, h3, h4⟩ := fits_kind hf
    rw [cnt_snoc, ih, kn_snoc]
    unfold upd
    by_cases hid : id = e.id
    · rw [if_pos hid]
      subst hid
      show _ = if q ≤ e.kind then 1 else 0
      by_cases hk : e.kind = q
      · rw [isAt_iff.2 ⟨hk, rfl⟩, if_neg (by omega), if_pos rfl, if_pos (by omega)]
      · have : isAt q e.id e = false := by
          cases hb : isAt q e.id e with
          | false => rfl
          | true => exact absurd (isAt_iff.1 hb).1 hk
        rw [this, if_neg (by simp : ¬ (false = true)), Nat.add_zero]
        by_cases hle : q ≤ (kn l e.id).last
        · rw [if_pos hle, if_pos (by omega : q ≤ e.kind)]
        · rw [if_neg hle, if_neg (by omega : ¬ q ≤ e.kind)]
    · rw [if_neg hid]
      have : isAt q id e = false := by
        cases hb : isAt q id e with
        | false => rfl
        | true => exact absurd (isAt_iff.1 hb).2.symm hid
      rw [this]
      simp
/-- What is known of an Id that is Begun comes from an event. -/
theorem Right.src_an {l : List Ev} (h : Right l) : ∀ id, (kn l id).last = 0 ∨ ∃ (i : Nat) (x : Ev), l[i]? = some x ∧ x.id = id ∧ x.kind = (kn l id).last ∧ x.an = (kn l id).an := by
  induction h with
  | nil => exact fun id => .inl rfl
  | @snoc l e hl hf ih =>
    intro id
    rw [kn_snoc]
    unfold upd
    by_cases hid : id = e.id
    · rw [if_pos hid]; exact .inr ⟨l.length, e, get_last l e, hid.symm, rfl, rfl⟩
    · rw [if_neg hid]
      rcases ih id with h | ⟨i, x, hx, r⟩
      · exact .inl h
      · exact .inr ⟨i, x, get_snoc hx, r⟩
theorem Right.mark_an {l : List Ev} (h : Right l) (id : Int) (h2 : (kn l id).last = 2) : (kn l id).an = stA l id := by
  rcases h.src_an id with h0 | ⟨i, x, hx, hid, hk, ha⟩
  · omega
  · obtain ⟨n, hn⟩ := firstAt_isSome (kind := 2) (id := id) hx (by omega) hid
    obtain ⟨_, y, hy, hat, _⟩ := firstAt_get hn
    obtain ⟨ky, iy⟩ := isAt_iff.1 hat
    have hin : i = n := by
      rcases Nat.lt_trichotomy i n with h1 | h1 | h1
      · have := h.rises.mono i n x y h1 hx hy (by omega); omega
      · exact h1
      · have := h.rises.mono n i y x h1 hy hx (by omega); omega
    subst hin
    rw [hx] at hy
    injection hy with hy
    subst hy
    rw [answer_of hn hx, ha]
end Go.Proofs.Ytllppkfeiifklaa
namespace Go.Proofs.Ytllppkfeiifklaa
open Go.RowKit Go.Lib
set_option linter.unusedVariables false
set_option maxRecDepth 20000
set_option linter.unusedSimpArgs false

set_option maxHeartbeats 4000000 in
theorem state_000 (id0 : Int) (l : List Ev) (ps : List (List Wr)) (A : Option Addr) (cap : Nat) (w : World) (hR : Row w A (ecs l)) (hW : Rws w l ps) (hl : l.length ≤ 100000) (hf1 : firstAt 1 id0 l = none) (hf2 : firstAt 2 id0 l = none) :
    Calls Try.prog 22 #[.slice A l.length cap, .int .i64 id0] w fun r w' => ∃ o : Opx, r = .returned (.tuple #[o.valH, (stA l id0).valH, .int .i64 0]) ∧ Turn No w w' ∧ o.pure = stO l id0 ∧ w'.ownsRow w.heap.size 68 3 (.slice o.A o.len o.cap) o.len (wcs (stW l ps id0)) := by
  have H0 : Hid (Sb w ((w.alloc (.cells #[.int .u8 0, .string ⟨#[]⟩, .string ⟨#[]⟩, .string ⟨#[]⟩, .bool false, .bool false, .slice none 0 0] 34)).alloc (.cells #[.int .i64 0, .bool false, .string ⟨#[]⟩, .string ⟨#[]⟩] 38)) w.heap.size (w.heap.size + 1) ⟨0, ⟨#[]⟩, ⟨#[]⟩, ⟨#[]⟩, false, false, none, 0, 0⟩ [] ⟨0, false, ⟨#[]⟩, ⟨#[]⟩⟩) := Lib.hid
    ⟨((Turn.refl _ _).alloc _).alloc _, Nat.le_refl _, Nat.le_succ _, (At.new _ _).no ((Turn.refl _ _).alloc _), by simpa [Ans.cs] using At.new (w.alloc (.cells #[.int .u8 0, .string ⟨#[]⟩, .string ⟨#[]⟩, .string ⟨#[]⟩, .bool false, .bool false, .slice none 0 0] 34)) (.cells #[.int .i64 0, .bool false, .string ⟨#[]⟩, .string ⟨#[]⟩] 38), World.ownsRow_nil _ _ _ _⟩
  have CF : Hid (∀ W kind, Turn No w W → Calls Try.prog 52 #[.slice A l.length cap, .int .u8 kind, .int .i64 id0] W fun r w' => r = .returned (.int .i64 (placeI (firstAt kind id0 l))) ∧ Turn No W w') := Lib.hid fun W kind t => first_any kind id0 l A cap W (hR.turn t fun _ _ _ h => h) hl
  have C1 : Hid (∀ W, Turn No w W → Calls Try.prog 52 #[.slice A l.length cap, .int .u8 1, .int .i64 id0] W fun r w' => r = .returned (.int .i64 (-1)) ∧ Turn No W w') := Lib.hid fun W t => by have := CF.out W 1 t; rwa [hf1] at this
  have C2 : Hid (∀ W, Turn No w W → Calls Try.prog 52 #[.slice A l.length cap, .int .u8 2, .int .i64 id0] W fun r w' => r = .returned (.int .i64 (-1)) ∧ Turn No W w') := Lib.hid fun W t => by have := CF.out W 2 t; rwa [hf2] at this
  obtain ⟨f3, hf3⟩ : ∃ f, placeI (firstAt 3 id0 l) = f := ⟨_, rfl⟩
  have C3 : Hid (∀ W, Turn No w W → Calls Try.prog 52 #[.slice A l.length cap, .int .u8 3, .int .i64 id0] W fun r w' => r = .returned (.int .i64 (f3)) ∧ Turn No W w') := Lib.hid fun W t => by have := CF.out W 3 t; rwa [hf3] at this
  clear hf3
  have hst := Lib.hid (state_no (ps := ps) hf1)
  have hsa := Lib.hid (answer_no hf2)
  clear hR hW hf1 hf2 CF
  go_enter Try.func22, Try.ntmps22
  go_upto_region 1 with (fail)
  generalize (w.alloc (.cells #[.int .u8 0, .string ⟨#[]⟩, .string ⟨#[]⟩, .string ⟨#[]⟩, .bool false, .bool false, .slice none 0 0] 34)).alloc (.cells #[.int .i64 0, .bool false, .string ⟨#[]⟩, .string ⟨#[]⟩] 38) = w1 at H0 ⊢
  obtain ⟨g4, hg4⟩ : ∃ g4, w.heap.size = g4 := ⟨_, rfl⟩
  obtain ⟨g5, hg5⟩ : ∃ g5, g4 + 1 = g5 := ⟨_, rfl⟩
  have HG := Lib.hid hg4
  rw [hg4, hg5] at H0
  rw [hg4, hg5]
  clear hg4 hg5
  go_upto_region 2 with (first | (go_at_call 52; with_reducible refine (C1.out _ H0.out.tu).mono ?_; rintro e w2 ⟨rfl, ht2⟩; have HT2 := Lib.hid (H0.out.tu.trans ht2); have H2 := Lib.hid (H0.out.no ht2); clear ht2) | (go_at_call 52; with_reducible refine (C2.out _ HT2.out).mono ?_; rintro e w3 ⟨rfl, ht3⟩; have HT3 := Lib.hid (HT2.out.trans ht3); have H3 := Lib.hid (H2.out.no ht3); clear ht3) | (go_at_call 52; with_reducible refine (C3.out _ HT3.out).mono ?_; rintro e w4 ⟨rfl, ht4⟩; have H4 := Lib.hid (H3.out.no ht4); clear ht4))
  clear C1 C2 C3 H2 H3 H0 HT2 HT3
  go_upto_region 4 with fail
  go_upto_region 6 with fail
  go_upto_region 7 with fail
  have p0 : w4.cell? ⟨g4, 0, none⟩ = some (.int .u8 0) := H4.out.b4.cell 0
  have p1 : w4.cell? ⟨g4, 1, none⟩ = some (.string ⟨#[]⟩) := H4.out.b4.cell 1
  have p2 : w4.cell? ⟨g4, 2, none⟩ = some (.string ⟨#[]⟩) := H4.out.b4.cell 2
  have p3 : w4.cell? ⟨g4, 3, none⟩ = some (.string ⟨#[]⟩) := H4.out.b4.cell 3
  have p4 : w4.cell? ⟨g4, 4, none⟩ = some (.bool false) := H4.out.b4.cell 4
  have p5 : w4.cell? ⟨g4, 5, none⟩ = some (.bool false) := H4.out.b4.cell 5
  have p6 : w4.cell? ⟨g4, 6, none⟩ = some (.slice none 0 0) := H4.out.b4.cell 6
  have r0 : w4.cell? ⟨g5, 0, none⟩ = some (.int .i64 0) := H4.out.b5.cell 0
  have r1 : w4.cell? ⟨g5, 1, none⟩ = some (.bool false) := H4.out.b5.cell 1
  have r2 : w4.cell? ⟨g5, 2, none⟩ = some (.string ⟨#[]⟩) := H4.out.b5.cell 2
  have r3 : w4.cell? ⟨g5, 3, none⟩ = some (.string ⟨#[]⟩) := H4.out.b5.cell 3
  have z4 := H4.out.b4.thawed
  have z5 := H4.out.b5.thawed
  have n1 := H4.out.ne
  have n2 := n1.symm
  go_region
  go_wp2_with fail
  have HZ := Lib.hid ((H4.out.all4.all5).no (Turn.refl No _).drew)
  clear p0 p1 p2 p3 p4 p5 p6 r0 r1 r2 r3 z4 z5 n1 n2
  (try simp only [Exit.inBlock, Exit.then])
  refine bodyPost_ret (results_cct rfl _ _ g4 g5 34 38 _ _ (0, 0) (0, 0) _ _ (by rfl) HZ.out.b4 Try.underlying34 rfl inf29 (by rfl) HZ.out.b5 Try.underlying38 rfl inf32) rfl ?_
  refine ⟨⟨0, ⟨#[]⟩, ⟨#[]⟩, ⟨#[]⟩, false, false, none, 0, 0⟩, ?_, HZ.out.tu, ?_, ?_⟩
  · rw [hsa.out]; rfl
  · rw [hst.out.1]; rfl
  · rw [hst.out.2]; exact HZ.out.row
set_option maxHeartbeats 4000000 in
theorem state_010 (id0 : Int) (l : List Ev) (ps : List (List Wr)) (A : Option Addr) (cap : Nat) (w : World) (hR : Row w A (ecs l)) (hW : Rws w l ps) (hl : l.length ≤ 100000) (m : Nat) (hf1 : firstAt 1 id0 l = none) (hf2 : firstAt 2 id0 l = some m) :
    Calls Try.prog 22 #[.slice A l.length cap, .int .i64 id0] w fun r w' => ∃ o : Opx, r = .returned (.tuple #[o.valH, (stA l id0).valH, .int .i64 0]) ∧ Turn No w w' ∧ o.pure = stO l id0 ∧ w'.ownsRow w.heap.size 68 3 (.slice o.A o.len o.cap) o.len (wcs (stW l ps id0)) := by
  have H0 : Hid (Sb w ((w.alloc (.cells #[.int .u8 0, .string ⟨#[]⟩, .string ⟨#[]⟩, .string ⟨#[]⟩, .bool false, .bool false, .slice none 0 0] 34)).alloc (.cells #[.int .i64 0, .bool false, .string ⟨#[]⟩, .string ⟨#[]⟩] 38)) w.heap.size (w.heap.size + 1) ⟨0, ⟨#[]⟩, ⟨#[]⟩, ⟨#[]⟩, false, false, none, 0, 0⟩ [] ⟨0, false, ⟨#[]⟩, ⟨#[]⟩⟩) := Lib.hid
    ⟨((Turn.refl _ _).alloc _).alloc _, Nat.le_refl _, Nat.le_succ _, (At.new _ _).no ((Turn.refl _ _).alloc _), by simpa [Ans.cs] using At.new (w.alloc (.cells #[.int .u8 0, .string ⟨#[]⟩, .string ⟨#[]⟩, .string ⟨#[]⟩, .bool false, .bool false, .slice none 0 0] 34)) (.cells #[.int .i64 0, .bool false, .string ⟨#[]⟩, .string ⟨#[]⟩] 38), World.ownsRow_nil _ _ _ _⟩
  have CF : Hid (∀ W kind, Turn No w W → Calls Try.prog 52 #[.slice A l.length cap, .int .u8 kind, .int .i64 id0] W fun r w' => r = .returned (.int .i64 (placeI (firstAt kind id0 l))) ∧ Turn No W w') := Lib.hid fun W kind t => first_any kind id0 l A cap W (hR.turn t fun _ _ _ h => h) hl
  have C1 : Hid (∀ W, Turn No w W → Calls Try.prog 52 #[.slice A l.length cap, .int .u8 1, .int .i64 id0] W fun r w' => r = .returned (.int .i64 (-1)) ∧ Turn No W w') := Lib.hid fun W t => by have := CF.out W 1 t; rwa [hf1] at this
  have C2 : Hid (∀ W, Turn No w W → Calls Try.prog 52 #[.slice A l.length cap, .int .u8 2, .int .i64 id0] W fun r w' => r = .returned (.int .i64 (m)) ∧ Turn No W w') := Lib.hid fun W t => by have := CF.out W 2 t; rwa [hf2] at this
  obtain ⟨f3, hf3⟩ : ∃ f, placeI (firstAt 3 id0 l) = f := ⟨_, rfl⟩
  have C3 : Hid (∀ W, Turn No w W → Calls Try.prog 52 #[.slice A l.length cap, .int .u8 3, .int .i64 id0] W fun r w' => r = .returned (.int .i64 (f3)) ∧ Turn No W w') := Lib.hid fun W t => by have := CF.out W 3 t; rwa [hf3] at this
  clear hf3
  have hst := Lib.hid (state_no (ps := ps) hf1)
  obtain ⟨hm, e2, he2, _, _⟩ := firstAt_get hf2
  obtain ⟨b2, off2, hA2, _, _⟩ := hR.range he2
  obtain ⟨ws2, _, _, hfit2⟩ := hW.at_ he2
  have hsa := Lib.hid (answer_of hf2 he2)
  obtain ⟨kind2, id2, op2, ⟨code, found, ak, av⟩⟩ := e2
  have HRA : Hid (∀ W, Turn No w W → W.rangeAt b2 (off2 + m * 13 + 9) [.int .i64 code, .bool found, .string ak, .string av]) := Lib.hid fun W t => by
    obtain ⟨b1, off1, hA1, _, h3⟩ := (hR.turn t fun _ _ _ h => h).range he2
    rw [hA2] at hA1
    injection hA1 with hA1
    injection hA1 with e1 e2
    subst e1 e2
    exact range_an h3
  have C37 : Hid (∀ W, Calls Try.prog 54 #[.agg #[.int .i64 code, .bool found, .string ak, .string av]] W fun e w' => e = .returned (.agg #[.int .i64 code, .bool found, .string ak, .string av]) ∧ Turn No W w') := Lib.hid fun W => clans_any code found ak av hfit2.ak hfit2.av W
  clear he2 hfit2
  subst hA2
  clear hR hW hf1 hf2 CF
  go_enter Try.func22, Try.ntmps22
  go_upto_region 1 with (fail)
  generalize (w.alloc (.cells #[.int .u8 0, .string ⟨#[]⟩, .string ⟨#[]⟩, .string ⟨#[]⟩, .bool false, .bool false, .slice none 0 0] 34)).alloc (.cells #[.int .i64 0, .bool false, .string ⟨#[]⟩, .string ⟨#[]⟩] 38) = w1 at H0 ⊢
  obtain ⟨g4, hg4⟩ : ∃ g4, w.heap.size = g4 := ⟨_, rfl⟩
  obtain ⟨g5, hg5⟩ : ∃ g5, g4 + 1 = g5 := ⟨_, rfl⟩
  have HG := Lib.hid hg4
  rw [hg4, hg5] at H0
  rw [hg4, hg5]
  clear hg4 hg5
  go_upto_region 2 with (first | (go_at_call 52; with_reducible refine (C1.out _ H0.out.tu).mono ?_; rintro e w2 ⟨rfl, ht2⟩; have HT2 := Lib.hid (H0.out.tu.trans ht2); have H2 := Lib.hid (H0.out.no ht2); clear ht2) | (go_at_call 52; with_reducible refine (C2.out _ HT2.out).mono ?_; rintro e w3 ⟨rfl, ht3⟩; have HT3 := Lib.hid (HT2.out.trans ht3); have H3 := Lib.hid (H2.out.no ht3); clear ht3) | (go_at_call 52; with_reducible refine (C3.out _ HT3.out).mono ?_; rintro e w4 ⟨rfl, ht4⟩; have H4 := Lib.hid (H3.out.no ht4); clear ht4))
  clear C1 C2 C3 H2 H3 H0 HT2 HT3
  go_upto_region 4 with fail
  have hra := HRA.out w4 H4.out.tu
  go_upto_region 6 with (first | (refine wpList_load_mid rfl 38 _ rfl b2 (off2 + m * 13 + 9) rfl [.int .i64 code, .bool found, .string ak, .string av] _ hra Try.underlying38 rfl inf32 ?_) | (refine wpList_store_mid rfl 38 _ _ rfl g5 0 #[.int .i64 code, .bool found, .string ak, .string av] rfl rfl H7.out.there5 inf32 (all_one (vs := [.int .i64 code, .bool found, .string ak, .string av]) (one_an ⟨code, found, ak, av⟩)) ?_) | (go_at_call 54; with_reducible refine (C37.out _).mono ?_; rintro e w7 ⟨rfl, ht7⟩; have H7 := Lib.hid (H4.out.no ht7); clear ht7))
  have H8 : Hid (Sb w (w7.setCells g5 0 [.int .i64 code, .bool found, .string ak, .string av]) g4 g5 ⟨0, ⟨#[]⟩, ⟨#[]⟩, ⟨#[]⟩, false, false, none, 0, 0⟩ [] ⟨code, found, ak, av⟩) := Lib.hid (by rw [setCells_puts]; exact H7.out.set5 (a2 := ⟨code, found, ak, av⟩))
  generalize w7.setCells g5 0 [.int .i64 code, .bool found, .string ak, .string av] = w8 at H8 ⊢
  clear H4 H7 hra HRA C37
  go_upto_region 7 with fail
  have p0 : w8.cell? ⟨g4, 0, none⟩ = some (.int .u8 0) := H8.out.b4.cell 0
  have p1 : w8.cell? ⟨g4, 1, none⟩ = some (.string ⟨#[]⟩) := H8.out.b4.cell 1
  have p2 : w8.cell? ⟨g4, 2, none⟩ = some (.string ⟨#[]⟩) := H8.out.b4.cell 2
  have p3 : w8.cell? ⟨g4, 3, none⟩ = some (.string ⟨#[]⟩) := H8.out.b4.cell 3
  have p4 : w8.cell? ⟨g4, 4, none⟩ = some (.bool false) := H8.out.b4.cell 4
  have p5 : w8.cell? ⟨g4, 5, none⟩ = some (.bool false) := H8.out.b4.cell 5
  have p6 : w8.cell? ⟨g4, 6, none⟩ = some (.slice none 0 0) := H8.out.b4.cell 6
  have r0 : w8.cell? ⟨g5, 0, none⟩ = some (.int .i64 code) := H8.out.b5.cell 0
  have r1 : w8.cell? ⟨g5, 1, none⟩ = some (.bool found) := H8.out.b5.cell 1
  have r2 : w8.cell? ⟨g5, 2, none⟩ = some (.string ak) := H8.out.b5.cell 2
  have r3 : w8.cell? ⟨g5, 3, none⟩ = some (.string av) := H8.out.b5.cell 3
  have z4 := H8.out.b4.thawed
  have z5 := H8.out.b5.thawed
  have n1 := H8.out.ne
  have n2 := n1.symm
  go_region
  go_wp2_with fail
  have HZ := Lib.hid ((H8.out.all4.all5).no (Turn.refl No _).drew)
  clear p0 p1 p2 p3 p4 p5 p6 r0 r1 r2 r3 z4 z5 n1 n2
  (try simp only [Exit.inBlock, Exit.then])
  refine bodyPost_ret (results_cct rfl _ _ g4 g5 34 38 _ _ (0, 0) (0, 0) _ _ (by rfl) HZ.out.b4 Try.underlying34 rfl inf29 (by rfl) HZ.out.b5 Try.underlying38 rfl inf32) rfl ?_
  refine ⟨⟨0, ⟨#[]⟩, ⟨#[]⟩, ⟨#[]⟩, false, false, none, 0, 0⟩, ?_, HZ.out.tu, ?_, ?_⟩
  · rw [hsa.out]; rfl
  · rw [hst.out.1]; rfl
  · rw [hst.out.2]; exact HZ.out.row
end Go.Proofs.Ytllppkfeiifklaa
