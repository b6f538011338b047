/-
  How many events of a kind an Id has in a right row; the first mark's answer; Fits as the document's own text tells it.
-/
import Derived.Test.YthopiamiipmobaaRt
import Derived.Test.YthopiamiipmobaaStB
namespace Go.Proofs.Ythopiamiipmobaa
open Go.RowKit Go.Lib
set_option linter.unusedVariables false
set_option linter.unusedSimpArgs false

def cnt (kind id : Int) (l : List Ev) : Nat := (l.filter (isAt kind id)).length
theorem cnt_le (kind id : Int) (l : List Ev) : cnt kind id l ≤ l.length := List.length_filter_le ..
theorem cnt_snoc (kind id : Int) (l : List Ev) (e : Ev) : cnt kind id (l ++ [e]) = cnt kind id l + if isAt kind id e then 1 else 0 := by
  unfold cnt
  rw [List.filter_append, List.length_append]
  congr 1
  cases h : isAt kind id e <;> simp [h]
theorem cnt_yes {kind id : Int} {l : List Ev} {k : Nat} {e : Ev} (he : l[k]? = some e) (h : isAt kind id e = true) : cnt kind id (l.take (k + 1)) = cnt kind id (l.take k) + 1 := by
  rw [take_succ he, cnt_snoc, h]; rfl
theorem cnt_no {kind id : Int} {l : List Ev} {k : Nat} {e : Ev} (he : l[k]? = some e) (h : isAt kind id e = false) : cnt kind id (l.take (k + 1)) = cnt kind id (l.take k) := by
  rw [take_succ he, cnt_snoc, h]; simp
theorem Right.cnt {l : List Ev} (h : Right l) (id q : Int) (hq : 1 ≤ q ∧ q ≤ 3) : cnt q id l = if q ≤ (kn l id).last then 1 else 0 := by
  induction h with
  | nil => rw [kn_nil, if_neg (by show ¬ q ≤ 0; omega)]; rfl
  | @snoc l e hl hf ih =>
    obtain ⟨h1, h2, h3, h4⟩ := fits_kind hf
    rw [cnt_snoc, ih, kn_snoc]
    unfold upd
    by_cases hid : id = e.id
    · rw [if_pos hid]
      subst hid
      show _ = if q ≤ e.kind then 1 else 0
      by_cases hk : e.kind = q
      · rw [isAt_iff.2 ⟨hk, rfl⟩, if_neg (by omega), if_pos rfl, if_pos (by omega)]
      · have : isAt q e.id e = false := by
          cases hb : isAt q e.id e with
          | false => rfl
          | true => exact absurd (isAt_iff.1 hb).1 hk
        rw [this, if_neg (by simp : ¬ (false = true)), Nat.add_zero]
        by_cases hle : q ≤ (kn l e.id).last
        · rw [if_pos hle, if_pos (by omega : q ≤ e.kind)]
        · rw [if_neg hle, if_neg (by omega : ¬ q ≤ e.kind)]
    · rw [if_neg hid]
      have : isAt q id e = false := by
        cases hb : isAt q id e with
        | false => rfl
        | true => exact absurd (isAt_iff.1 hb).2.symm hid
      rw [this]
      simp
/-- What is known of an Id that is Begun comes from an event. -/
theorem Right.src_an {l : List Ev} (h : Right l) : ∀ id, (kn l id).last = 0 ∨ ∃ (i : Nat) (x : Ev), l[i]? = some x ∧ x.id = id ∧ x.kind = (kn l id).last ∧ x.an = (kn l id).an := by
  induction h with
  | nil => exact fun id => .inl rfl
  | @snoc l e hl hf ih =>
    intro id
    rw [kn_snoc]
    unfold upd
    by_cases hid : id = e.id
    · rw [if_pos hid]; exact .inr ⟨l.length, e, get_last l e, hid.symm, rfl, rfl⟩
    · rw [if_neg hid]
      rcases ih id with h | ⟨i, x, hx, r⟩
      · exact .inl h
      · exact .inr ⟨i, x, get_snoc hx, r⟩
theorem Right.mark_an {l : List Ev} (h : Right l) (id : Int) (h2 : (kn l id).last = 2) : (kn l id).an = stA l id := by
  rcases h.src_an id with h0 | ⟨i, x, hx, hid, hk, ha⟩
  · omega
  · obtain ⟨n, hn⟩ := firstAt_isSome (kind := 2) (id := id) hx (by omega) hid
    obtain ⟨_, y, hy, hat, _⟩ := firstAt_get hn
    obtain ⟨ky, iy⟩ := isAt_iff.1 hat
    have hin : i = n := by
      rcases Nat.lt_trichotomy i n with h1 | h1 | h1
      · have := h.rises.mono i n x y h1 hx hy (by omega); omega
      · exact h1
      · have := h.rises.mono n i y x h1 hy hx (by omega); omega
    subst hin
    rw [hx] at hy
    injection hy with hy
    subst hy
    rw [answer_of hn hx, ha]
end Go.Proofs.Ythopiamiipmobaa
