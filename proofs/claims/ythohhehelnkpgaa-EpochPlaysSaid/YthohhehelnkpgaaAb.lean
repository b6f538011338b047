/-
  An epoch, told to the walks: pinned tasks, rising, each with the number of the first one that waits for it; what waits, in order; how many are gone.
-/
import Derived.Test.YthohhehelnkpgaaMem
namespace Go.Proofs.Ythohhehelnkpgaa
open Go.RowKit Go.Maps
set_option linter.unusedVariables false

structure Ab where
  P : List (Int × Nat)
  fs : List Value
  gone : Nat
  coll : Bool

def Ab.len (E : Ab) : Nat := E.gone + E.fs.length
def cntk (P : List (Int × Nat)) (k : Nat) : Nat := P.countP fun p => p.2 == k
def look (P : List (Int × Nat)) (t : Int) : Option Nat := (P.find? fun p => p.1 == t).map (·.2)
def ins (t : Int) (k : Nat) : List (Int × Nat) → List (Int × Nat)
  | [] => [(t, k)]
  | p :: r => if p.1 < t then p :: ins t k r else (t, k) :: p :: r
def del1 (P : List (Int × Nat)) (t : Int) : List (Int × Nat) := P.filter fun p => p.1 != t

structure Ab.wf (E : Ab) : Prop where
  up : E.P.Pairwise (fun p q => p.1 < q.1)
  nums : ∀ p ∈ E.P, E.gone ≤ p.2 ∧ p.2 ≤ E.len
  ints : ∀ p ∈ E.P, -9223372036854775808 ≤ p.1 ∧ p.1 ≤ 9223372036854775807
  small : E.P.length ≤ 100000 ∧ E.len ≤ 100000

def Ab.pin (E : Ab) (t : Int) : Ab := if (look E.P t).isSome then E else { E with P := ins t E.len E.P }
def Ab.unpin (E : Ab) (t : Int) : Ab := { E with P := del1 E.P t }
def Ab.retire (E : Ab) (f : Value) : Ab := { E with fs := E.fs ++ [f] }
def Ab.take (E : Ab) : Ab := { E with fs := E.fs.tail, gone := E.gone + 1 }

/-- What waits, each with how many hold it. -/
def wts (P : List (Int × Nat)) : Nat → List Value → List (Value × Nat)
  | _, [] => []
  | g, f :: r => (f, cntk P g) :: wts P (g + 1) r
def flat2 (l : List (Value × Nat)) : List Value := l.flatMap fun x => [x.1, .int .i64 (x.2 : Int)]

section
variable {P : List (Int × Nat)} {t : Int} {k g : Nat} {E : Ab}

theorem look_none (h : look P t = none) : ∀ p ∈ P, p.1 ≠ t := by
  intro p hp he
  unfold look at h
  rw [Option.map_eq_none_iff, List.find?_eq_none] at h
  exact h p hp (by simp [he])
theorem look_some (hu : P.Pairwise (fun p q => p.1 < q.1)) : look P t = some k ↔ (t, k) ∈ P := by
  induction P with
  | nil => simp [look]
  | cons p r ih =>
    obtain ⟨h1, h2⟩ := List.pairwise_cons.1 hu
    have ih := ih h2
    unfold look at ih ⊢
    rw [List.find?_cons]
    by_cases he : p.1 = t
    · subst he
      simp only [beq_self_eq_true, Option.map_some, Option.some.injEq, List.mem_cons]
      constructor
      · intro h; exact Or.inl (by rw [← h])
      · rintro (h | h)
        · rw [← h]
        · exact absurd (h1 _ h) (Int.lt_irrefl _)
    · have hb : (p.1 == t) = false := by simp [he]
      simp only [hb, List.mem_cons]
      rw [ih]
      constructor
      · exact Or.inr
      · rintro (h | h)
        · exact absurd (by rw [← h]) he
        · exact h
theorem look_isSome (hu : P.Pairwise (fun p q => p.1 < q.1)) : (look P t).isSome = true ↔ ∃ k, (t, k) ∈ P := by
  rw [Option.isSome_iff_exists]
  exact exists_congr fun k => look_some hu
theorem mem_ins {q : Int × Nat} : q ∈ ins t k P ↔ q = (t, k) ∨ q ∈ P := by
  induction P with
  | nil => simp [ins]
  | cons p r ih =>
    unfold ins
    split
    · rw [List.mem_cons, ih, List.mem_cons]
      constructor
      · rintro (h | h | h)
        · exact Or.inr (Or.inl h)
        · exact Or.inl h
        · exact Or.inr (Or.inr h)
      · rintro (h | h | h)
        · exact Or.inr (Or.inl h)
        · exact Or.inl h
        · exact Or.inr (Or.inr h)
    · rw [List.mem_cons]
theorem ins_up (hu : P.Pairwise (fun p q => p.1 < q.1)) (hn : look P t = none) : (ins t k P).Pairwise (fun p q => p.1 < q.1) := by
  have hne := look_none hn
  clear hn
  induction P with
  | nil => simp [ins]
  | cons p r ih =>
    obtain ⟨h1, h2⟩ := List.pairwise_cons.1 hu
    have ih := ih h2 (fun q hq => hne q (List.mem_cons_of_mem _ hq))
    have hp := hne p (List.mem_cons_self ..)
    unfold ins
    split
    · rename_i hlt
      refine List.pairwise_cons.2 ⟨fun q hq => ?_, ih⟩
      rcases mem_ins.1 hq with rfl | hq
      · exact hlt
      · exact h1 q hq
    · rename_i hge
      refine List.pairwise_cons.2 ⟨fun q hq => ?_, hu⟩
      rcases List.mem_cons.1 hq with rfl | hq
      · show t < q.1; omega
      · have := h1 q hq
        show t < q.1; omega
theorem ins_len : (ins t k P).length = P.length + 1 := by
  induction P with
  | nil => rfl
  | cons p r ih =>
    unfold ins
    split
    · simp [ih]
    · rfl
theorem cnt_ins (j : Nat) : cntk (ins t k P) j = cntk P j + if k = j then 1 else 0 := by
  induction P with
  | nil =>
    by_cases h : k = j <;> simp [ins, cntk, h]
  | cons p r ih =>
    unfold ins
    split
    · unfold cntk at ih ⊢
      rw [List.countP_cons, ih, List.countP_cons]
      omega
    · unfold cntk
      rw [List.countP_cons]
      by_cases h : k = j <;> simp [h]
theorem look_ins (hu : P.Pairwise (fun p q => p.1 < q.1)) (hn : look P t = none) (s : Int) : look (ins t k P) s = if s = t then some k else look P s := by
  have hu2 := ins_up (k := k) hu hn
  by_cases hs : s = t
  · subst hs
    rw [if_pos rfl]
    exact (look_some hu2).2 (mem_ins.2 (Or.inl rfl))
  · rw [if_neg hs]
    cases hl : look P s with
    | some j =>
      exact (look_some hu2).2 (mem_ins.2 (Or.inr ((look_some hu).1 hl)))
    | none =>
      cases h2 : look (ins t k P) s with
      | none => rfl
      | some j =>
        rcases mem_ins.1 ((look_some hu2).1 h2) with h | h
        · injection h with h _; exact absurd h hs
        · exact absurd rfl (look_none hl _ h)
theorem del_up (hu : P.Pairwise (fun p q => p.1 < q.1)) : (del1 P t).Pairwise (fun p q => p.1 < q.1) := hu.filter _
theorem mem_del {q : Int × Nat} : q ∈ del1 P t ↔ q ∈ P ∧ q.1 ≠ t := by simp [del1]
theorem del_none (hn : look P t = none) : del1 P t = P := by
  unfold del1
  rw [List.filter_eq_self]
  intro p hp
  simpa using look_none hn p hp
theorem del_parts (hu : P.Pairwise (fun p q => p.1 < q.1)) (h : look P t = some k) : (∀ j, cntk P j = cntk (del1 P t) j + if k = j then 1 else 0) ∧ P.length = (del1 P t).length + 1 := by
  induction P with
  | nil => simp [look] at h
  | cons p r ih =>
    obtain ⟨h1, h2⟩ := List.pairwise_cons.1 hu
    by_cases hp : p.1 = t
    · have hk : p.2 = k := by
        have := (look_some hu).1 h
        rcases List.mem_cons.1 this with e | e
        · rw [← e]
        · have := h1 _ e
          rw [hp] at this
          exact absurd this (Int.lt_irrefl _)
      have hr : del1 r t = r := by
        unfold del1
        rw [List.filter_eq_self]
        intro q hq
        have := h1 q hq
        simp
        omega
      have hd : del1 (p :: r) t = r := by
        unfold del1 at hr ⊢
        rw [List.filter_cons_of_neg (by simp [hp]), hr]
      rw [hd]
      refine ⟨fun j => ?_, rfl⟩
      unfold cntk
      rw [List.countP_cons]
      by_cases hj : k = j <;> simp [hk, hj]
    · have hl : look r t = some k := by
        have := (look_some hu).1 h
        rcases List.mem_cons.1 this with e | e
        · exact absurd (by rw [← e]) hp
        · exact (look_some h2).2 e
      obtain ⟨i1, i2⟩ := ih h2 hl
      have hd : del1 (p :: r) t = p :: del1 r t := by
        unfold del1
        rw [List.filter_cons_of_pos (by simp [hp])]
      rw [hd]
      refine ⟨fun j => ?_, by simp [i2]⟩
      have := i1 j
      unfold cntk at this ⊢
      rw [List.countP_cons, List.countP_cons]
      omega
theorem look_del (hu : P.Pairwise (fun p q => p.1 < q.1)) (s : Int) : look (del1 P t) s = if s = t then none else look P s := by
  have hu2 := del_up (t := t) hu
  by_cases hs : s = t
  · subst hs
    rw [if_pos rfl]
    cases h : look (del1 P s) s with
    | none => rfl
    | some j => exact absurd rfl (mem_del.1 ((look_some hu2).1 h)).2
  · rw [if_neg hs]
    cases hl : look P s with
    | some j => exact (look_some hu2).2 (mem_del.2 ⟨(look_some hu).1 hl, hs⟩)
    | none =>
      cases h2 : look (del1 P t) s with
      | none => rfl
      | some j => exact absurd rfl (look_none hl _ (mem_del.1 ((look_some hu2).1 h2)).1)
theorem cnt_zero (h : ∀ p ∈ P, p.2 ≠ k) : cntk P k = 0 := by
  unfold cntk
  rw [List.countP_eq_zero]
  intro p hp
  simpa using h p hp
theorem cnt_le : cntk P k ≤ P.length := List.countP_le_length ..
theorem cnt_none (h : cntk P k = 0) : ∀ p ∈ P, p.2 ≠ k := by
  unfold cntk at h
  rw [List.countP_eq_zero] at h
  intro p hp he
  exact h p hp (by simp [he])

theorem wts_len : ∀ (fs : List Value) (g : Nat), (wts P g fs).length = fs.length
  | [], _ => rfl
  | f :: r, g => by simp [wts, wts_len r]
theorem wts_at : ∀ (fs : List Value) (g j : Nat) (f : Value), fs[j]? = some f → (wts P g fs)[j]? = some (f, cntk P (g + j))
  | [], _, _, _, h => by simp at h
  | f :: r, g, 0, _, h => by simp at h; subst h; rfl
  | f :: r, g, j + 1, f', h => by
    have := wts_at r (g + 1) j f' (by simpa using h)
    show (wts P (g + 1) r)[j]? = _
    rw [this, show g + 1 + j = g + (j + 1) by omega]
theorem wts_append : ∀ (fs : List Value) (g : Nat) (f : Value), wts P g (fs ++ [f]) = wts P g fs ++ [(f, cntk P (g + fs.length))]
  | [], g, f => rfl
  | a :: r, g, f => by
    have := wts_append r (g + 1) f
    show (a, cntk P g) :: wts P (g + 1) (r ++ [f]) = _
    rw [this]
    simp only [wts, List.cons_append, List.length_cons]
    rw [show g + 1 + r.length = g + (r.length + 1) by omega]
theorem wts_same {P' : List (Int × Nat)} : ∀ (fs : List Value) (g : Nat), (∀ j, g ≤ j → j < g + fs.length → cntk P' j = cntk P j) → wts P' g fs = wts P g fs
  | [], _, _ => rfl
  | f :: r, g, h => by
    rw [wts, wts, h g (Nat.le_refl _) (by simp), wts_same r (g + 1) (fun j h1 h2 => h j (by omega) (by simp; omega))]
theorem wts_set {P' : List (Int × Nat)} : ∀ (fs : List Value) (g k : Nat), g ≤ k → k < g + fs.length → (∀ j, j ≠ k → cntk P' j = cntk P j) → wts P' g fs = (wts P g fs).set (k - g) (fs.getD (k - g) .nilFunc, cntk P' k)
  | [], g, k, h1, h2, _ => by simp at h2; omega
  | f :: r, g, k, h1, h2, h => by
    by_cases hk : k = g
    · subst hk
      have := wts_same (P := P) (P' := P') r (k + 1) (fun j h3 _ => h j (by omega))
      simp [wts, this]
    · have := wts_set r (g + 1) k (by omega) (by simp at h2; omega) h
      rw [wts, wts, this, h g (fun e => hk e.symm), show k - g = (k - (g + 1)) + 1 by omega]
      simp

theorem flat2_len : ∀ l : List (Value × Nat), (flat2 l).length = l.length * 2
  | [] => rfl
  | h :: r => by
    have := flat2_len r
    show (h.1 :: .int .i64 (h.2 : Int) :: flat2 r).length = _
    simp only [List.length_cons, this]; omega
theorem flat2_at : ∀ (l : List (Value × Nat)) (j : Nat) (x : Value × Nat), l[j]? = some x → (flat2 l)[j * 2]? = some x.1 ∧ (flat2 l)[j * 2 + 1]? = some (.int .i64 (x.2 : Int))
  | [], _, _, h => by simp at h
  | h :: r, 0, x, hx => by
    simp at hx
    subst hx
    exact ⟨rfl, rfl⟩
  | h :: r, j + 1, x, hx => by
    have := flat2_at r j x (by simpa using hx)
    show (h.1 :: .int .i64 (h.2 : Int) :: flat2 r)[(j + 1) * 2]? = _ ∧ (h.1 :: .int .i64 (h.2 : Int) :: flat2 r)[(j + 1) * 2 + 1]? = _
    rw [show (j + 1) * 2 = j * 2 + 1 + 1 by omega, show j * 2 + 1 + 1 + 1 = (j * 2 + 1) + 1 + 1 by omega]
    simpa using this
theorem flat2_append (a b : List (Value × Nat)) : flat2 (a ++ b) = flat2 a ++ flat2 b := by simp [flat2]
theorem flat2_set : ∀ (l : List (Value × Nat)) (j : Nat) (x : Value × Nat) (n : Nat), l[j]? = some x → flat2 (l.set j (x.1, n)) = (flat2 l).set (j * 2 + 1) (.int .i64 (n : Int))
  | [], _, _, _, h => by simp at h
  | h :: r, 0, x, n, hx => by
    simp at hx
    subst hx
    rfl
  | h :: r, j + 1, x, n, hx => by
    have := flat2_set r j x n (by simpa using hx)
    show h.1 :: .int .i64 (h.2 : Int) :: flat2 (r.set j (x.1, n)) = (h.1 :: .int .i64 (h.2 : Int) :: flat2 r).set ((j + 1) * 2 + 1) _
    rw [this, show (j + 1) * 2 + 1 = (j * 2 + 1) + 1 + 1 by omega]
    simp
end

/-! what becomes of a right one -/
section
variable {E : Ab} {t : Int} {f : Value}
theorem Ab.wf.pin (h : E.wf) (h1 : -9223372036854775808 ≤ t) (h2 : t ≤ 9223372036854775807) (hP : E.P.length < 100000) : (E.pin t).wf := by
  unfold Ab.pin
  by_cases hl : (look E.P t).isSome = true
  · rw [if_pos hl]; exact h
  · rw [if_neg hl]
    have hn : look E.P t = none := by simpa using hl
    refine ⟨ins_up h.up hn, fun p hp => ?_, fun p hp => ?_, ?_⟩
    · rcases mem_ins.1 hp with rfl | hp
      · exact ⟨Nat.le_add_right _ _, Nat.le_refl _⟩
      · exact h.nums p hp
    · rcases mem_ins.1 hp with rfl | hp
      · exact ⟨h1, h2⟩
      · exact h.ints p hp
    · have := ins_len (t := t) (k := E.len) (P := E.P)
      have h3 := h.small
      refine ⟨?_, h3.2⟩
      show (ins t E.len E.P).length ≤ _
      omega
theorem Ab.wf.unpin (h : E.wf) (t : Int) : (E.unpin t).wf := by
  refine ⟨del_up h.up, fun p hp => h.nums p (mem_del.1 hp).1, fun p hp => h.ints p (mem_del.1 hp).1, ?_, h.small.2⟩
  have : (del1 E.P t).length ≤ E.P.length := List.length_filter_le ..
  have h3 := h.small.1
  show (del1 E.P t).length ≤ _
  omega
theorem Ab.wf.retire (h : E.wf) (f : Value) (hn : E.len < 100000) : (E.retire f).wf := by
  have hl : (E.retire f).len = E.len + 1 := by simp [Ab.len, Ab.retire]; omega
  refine ⟨h.up, fun p hp => ?_, h.ints, h.small.1, by omega⟩
  have := h.nums p hp
  rw [hl]
  exact ⟨this.1, by omega⟩
theorem Ab.take_len (hf : E.fs ≠ []) : E.take.len = E.len := by
  have : 0 < E.fs.length := List.length_pos_iff.2 hf
  unfold Ab.len Ab.take
  simp only [List.length_tail]
  omega
theorem Ab.wf.take (h : E.wf) (hf : E.fs ≠ []) (h0 : cntk E.P E.gone = 0) : E.take.wf := by
  have hl := Ab.take_len hf
  refine ⟨h.up, fun p hp => ?_, h.ints, h.small.1, by rw [hl]; exact h.small.2⟩
  have := h.nums p hp
  have h3 := cnt_none h0 p hp
  rw [hl]
  exact ⟨by show E.gone + 1 ≤ p.2; omega, this.2⟩
theorem Ab.wf.coll (h : E.wf) (b : Bool) : ({ E with coll := b } : Ab).wf := ⟨h.up, h.nums, h.ints, h.small⟩
end
end Go.Proofs.Ythohhehelnkpgaa
