/-
  Rows that are sorted, keys that are alike staying in their order: plain facts on lists.
-/
import Derived.Test.YtjjmooegpoeomaaPm
namespace Go.Proofs.Ytjjmooegpoeomaa
set_option linter.unusedVariables false

theorem le_trans3 {a b c : ByteArray} (h : ¬ kl b a) (k : ¬ kl c b) : ¬ kl c a := fun e => k (kl_lt_le e h)
theorem le_of_lt {a b : ByteArray} (h : kl a b) : ¬ kl b a := kl_asymm h
theorem lt_of_not_le {a b : ByteArray} (h : ¬ kl a b) (hn : a ≠ b) : kl b a := by
  rcases kl_tri a b with h1 | h1 | h1
  · exact absurd h1 h
  · exact absurd h1 hn
  · exact h1
/-- Rising; keys that are alike may stand side by side. -/
def Sd (l : List Pr) : Prop := l.Pairwise fun p q => ¬ kl q.k p.k
/-- The pairs of one key, in their order. -/
def ky (l : List Pr) (k : ByteArray) : List Pr := l.filter fun p => decide (p.k = k)
/-- The same pairs, those of one key in the same order. -/
structure Sim (l m : List Pr) : Prop where
  len : l.length = m.length
  kys : ∀ k, ky l k = ky m k
theorem Sim.refl (l : List Pr) : Sim l l := ⟨rfl, fun _ => rfl⟩
theorem Sim.symm {l m : List Pr} (h : Sim l m) : Sim m l := ⟨h.len.symm, fun k => (h.kys k).symm⟩
theorem Sim.trans {l m n : List Pr} (h : Sim l m) (g : Sim m n) : Sim l n := ⟨h.len.trans g.len, fun k => (h.kys k).trans (g.kys k)⟩
theorem ky_append (l m : List Pr) (k : ByteArray) : ky (l ++ m) k = ky l k ++ ky m k := List.filter_append ..
theorem Sim.append {a b c d : List Pr} (h : Sim a b) (g : Sim c d) : Sim (a ++ c) (b ++ d) :=
  ⟨by rw [List.length_append, List.length_append, h.len, g.len], fun k => by rw [ky_append, ky_append, h.kys, g.kys]⟩
theorem mem_ky {l : List Pr} {p : Pr} {k : ByteArray} : p ∈ ky l k ↔ p ∈ l ∧ p.k = k := by
  unfold ky
  rw [List.mem_filter]
  simp
theorem Sim.mem {l m : List Pr} (h : Sim l m) {p : Pr} (hp : p ∈ l) : p ∈ m := by
  have : p ∈ ky l p.k := mem_ky.2 ⟨hp, rfl⟩
  rw [h.kys] at this
  exact (mem_ky.1 this).1
/-- Parts of other keys may change places. -/
theorem Sim.swap {a b : List Pr} (h : ∀ p ∈ a, ∀ q ∈ b, p.k ≠ q.k) : Sim (a ++ b) (b ++ a) := by
  refine ⟨by rw [List.length_append, List.length_append, Nat.add_comm], fun k => ?_⟩
  rw [ky_append, ky_append]
  cases ha : ky a k with
  | nil => simp
  | cons p t =>
    have hp := mem_ky.1 (show p ∈ ky a k by rw [ha]; exact List.mem_cons_self)
    have : ky b k = [] := by
      rw [List.eq_nil_iff_forall_not_mem]
      intro q hq
      have hq := mem_ky.1 hq
      exact h p hp.1 q hq.1 (hp.2.trans hq.2.symm)
    rw [this]
    simp
theorem Sd.sub {l m : List Pr} (h : Sd l) (s : List.Sublist m l) : Sd m := List.Pairwise.sublist s h
theorem Sd.nil : Sd [] := List.Pairwise.nil
theorem Sd.one (p : Pr) : Sd [p] := List.pairwise_singleton ..
theorem sd_append {l m : List Pr} : Sd (l ++ m) ↔ Sd l ∧ Sd m ∧ ∀ p ∈ l, ∀ q ∈ m, ¬ kl q.k p.k := List.pairwise_append
theorem sd_cons {p : Pr} {l : List Pr} : Sd (p :: l) ↔ (∀ q ∈ l, ¬ kl q.k p.k) ∧ Sd l := List.pairwise_cons
theorem Sd.take_le {l : List Pr} (h : Sd l) {c : Nat} {p : Pr} (hp : l[c]? = some p) : ∀ x ∈ l.take (c + 1), ¬ kl p.k x.k := by
  intro x hx
  have h1 := h.sub (List.take_sublist (c + 1) l)
  rw [List.take_add_one, hp] at h1 hx
  rcases List.mem_append.1 hx with h2 | h2
  · exact (sd_append.1 h1).2.2 x h2 p (by simp)
  · simp at h2
    subst h2
    exact kl_irrefl _
theorem drop_cons {l : List Pr} {c : Nat} {p : Pr} (hp : l[c]? = some p) : l.drop c = p :: l.drop (c + 1) := by
  obtain ⟨hl, rfl⟩ := List.getElem?_eq_some_iff.1 hp
  exact List.drop_eq_getElem_cons hl
theorem Sd.drop_le {l : List Pr} (h : Sd l) {c : Nat} {p : Pr} (hp : l[c]? = some p) : ∀ y ∈ l.drop c, ¬ kl y.k p.k := by
  intro y hy
  have h1 := h.sub (List.drop_sublist c l)
  rw [drop_cons hp] at h1 hy
  rcases List.mem_cons.1 hy with rfl | h2
  · exact kl_irrefl _
  · exact (sd_cons.1 h1).1 y h2
/-- One pair ahead of a sorted part finds its place. -/
theorem ins_right {x : Pr} {B : List Pr} {c : Nat} (hB : Sd B) (hc : c ≤ B.length) (h1 : c = 0 ∨ ∃ p, B[c - 1]? = some p ∧ kl p.k x.k) (h2 : c = B.length ∨ ∃ p, B[c]? = some p ∧ ¬ kl p.k x.k) :
    Sd (B.take c ++ x :: B.drop c) ∧ Sim (B.take c ++ x :: B.drop c) (x :: B) := by
  have lo : ∀ y ∈ B.take c, kl y.k x.k := by
    rcases h1 with rfl | ⟨p, hp, hk⟩
    · simp
    · intro y hy
      rcases Nat.eq_zero_or_pos c with h0 | h0
      · subst h0; simp at hy
      · have := hB.take_le hp y (by rw [Nat.sub_add_cancel h0]; exact hy)
        exact kl_le_lt this hk
  have hi : ∀ y ∈ B.drop c, ¬ kl y.k x.k := by
    rcases h2 with rfl | ⟨p, hp, hk⟩
    · simp
    · intro y hy
      exact le_trans3 hk (hB.drop_le hp y hy)
  refine ⟨sd_append.2 ⟨hB.sub (List.take_sublist _ _), sd_cons.2 ⟨hi, hB.sub (List.drop_sublist _ _)⟩, ?_⟩, ?_⟩
  · intro p hp q hq
    rcases List.mem_cons.1 hq with rfl | hq
    · exact le_of_lt (lo p hp)
    · exact le_of_lt (kl_lt_le (lo p hp) (hi q hq))
  · have e : x :: B = ([x] ++ B.take c) ++ B.drop c := by simp
    rw [e]
    have : B.take c ++ x :: B.drop c = (B.take c ++ [x]) ++ B.drop c := by simp
    rw [this]
    exact (Sim.swap fun p hp q hq => by
      obtain rfl := List.mem_singleton.1 hq
      exact kl_ne (lo p hp)).append (Sim.refl _)
/-- One pair behind a sorted part finds its place. -/
theorem ins_left {x : Pr} {A : List Pr} {c : Nat} (hA : Sd A) (hc : c ≤ A.length) (h1 : c = 0 ∨ ∃ p, A[c - 1]? = some p ∧ ¬ kl x.k p.k) (h2 : c = A.length ∨ ∃ p, A[c]? = some p ∧ kl x.k p.k) :
    Sd (A.take c ++ x :: A.drop c) ∧ Sim (A.take c ++ x :: A.drop c) (A ++ [x]) := by
  have lo : ∀ y ∈ A.take c, ¬ kl x.k y.k := by
    rcases h1 with rfl | ⟨p, hp, hk⟩
    · simp
    · intro y hy
      rcases Nat.eq_zero_or_pos c with h0 | h0
      · subst h0; simp at hy
      · have := hA.take_le hp y (by rw [Nat.sub_add_cancel h0]; exact hy)
        exact le_trans3 this hk
  have hi : ∀ y ∈ A.drop c, kl x.k y.k := by
    rcases h2 with rfl | ⟨p, hp, hk⟩
    · simp
    · intro y hy
      exact kl_lt_le hk (hA.drop_le hp y hy)
  refine ⟨sd_append.2 ⟨hA.sub (List.take_sublist _ _), sd_cons.2 ⟨fun q hq => le_of_lt (hi q hq), hA.sub (List.drop_sublist _ _)⟩, ?_⟩, ?_⟩
  · intro p hp q hq
    rcases List.mem_cons.1 hq with rfl | hq
    · exact lo p hp
    · exact le_of_lt (kl_le_lt (lo p hp) (hi q hq))
  · have e : A ++ [x] = A.take c ++ (A.drop c ++ [x]) := by rw [← List.append_assoc, List.take_append_drop]
    rw [e]
    have : A.take c ++ x :: A.drop c = A.take c ++ ([x] ++ A.drop c) := by simp
    rw [this]
    exact (Sim.refl _).append (Sim.swap fun p hp q hq => by
      obtain rfl := List.mem_singleton.1 hp
      exact kl_ne (hi q hq))
/-- Two sorted parts, each cut in two: merged side by side. -/
theorem merged {A B M1 M2 : List Pr} {s t : Nat} (hA : Sd A) (hB : Sd B) (h1 : s = 0 ∨ t = B.length ∨ ∃ p q, A[s - 1]? = some p ∧ B[t]? = some q ∧ ¬ kl q.k p.k)
    (h2 : s = A.length ∨ t = 0 ∨ ∃ p q, A[s]? = some p ∧ B[t - 1]? = some q ∧ kl q.k p.k)
    (m1 : Sd M1 ∧ Sim M1 (A.take s ++ B.take t)) (m2 : Sd M2 ∧ Sim M2 (A.drop s ++ B.drop t)) : Sd (M1 ++ M2) ∧ Sim (M1 ++ M2) (A ++ B) := by
  have lo : ∀ x ∈ A.take s, ∀ y ∈ B.drop t, ¬ kl y.k x.k := by
    intro x hx y hy
    rcases Nat.eq_zero_or_pos s with h0 | h0
    · subst h0; simp at hx
    · rcases h1 with h | h | ⟨p, q, hp, hq, hk⟩
      · omega
      · subst h; simp at hy
      · exact le_trans3 (le_trans3 (hA.take_le hp x (by rw [Nat.sub_add_cancel h0]; exact hx)) hk) (hB.drop_le hq y hy)
  have hi : ∀ x ∈ A.drop s, ∀ y ∈ B.take t, kl y.k x.k := by
    intro x hx y hy
    rcases Nat.eq_zero_or_pos t with h0 | h0
    · subst h0; simp at hy
    · rcases h2 with h | h | ⟨p, q, hp, hq, hk⟩
      · subst h; simp at hx
      · omega
      · exact kl_lt_le (kl_le_lt (hB.take_le hq y (by rw [Nat.sub_add_cancel h0]; exact hy)) hk) (hA.drop_le hp x hx)
  have hA2 := sd_append.1 (show Sd (A.take s ++ A.drop s) by rw [List.take_append_drop]; exact hA)
  have hB2 := sd_append.1 (show Sd (B.take t ++ B.drop t) by rw [List.take_append_drop]; exact hB)
  refine ⟨sd_append.2 ⟨m1.1, m2.1, fun p hp q hq => ?_⟩, ?_⟩
  · rcases List.mem_append.1 (m1.2.mem hp) with h | h <;> rcases List.mem_append.1 (m2.2.mem hq) with g | g
    · exact hA2.2.2 p h q g
    · exact lo p h q g
    · exact le_of_lt (hi q g p h)
    · exact hB2.2.2 p h q g
  · refine (m1.2.append m2.2).trans ?_
    have e : A ++ B = A.take s ++ ((A.drop s ++ B.take t) ++ B.drop t) := by
      rw [List.append_assoc, List.take_append_drop, ← List.append_assoc, List.take_append_drop]
    have e2 : (A.take s ++ B.take t) ++ (A.drop s ++ B.drop t) = A.take s ++ ((B.take t ++ A.drop s) ++ B.drop t) := by simp
    rw [e, e2]
    exact (Sim.refl _).append ((Sim.swap fun p hp q hq => kl_ne (hi q hq p hp)).append (Sim.refl _))
/-- A pair that goes down. -/
structure Down (M : List Pr) (x : Pr) (N : List Pr) : Prop where
  sd : Sd (M ++ N)
  above : ∀ y ∈ N, kl x.k y.k
theorem Down.start {M : List Pr} (h : Sd M) (x : Pr) : Down M x [] := ⟨by simpa using h, by simp⟩
theorem Down.step {M : List Pr} {x y : Pr} {N : List Pr} (h : Down (M ++ [y]) x N) (hk : kl x.k y.k) : Down M x (y :: N) ∧ Sim (M ++ x :: y :: N) (M ++ y :: x :: N) := by
  refine ⟨⟨by simpa using h.sd, fun z hz => ?_⟩, ?_⟩
  · rcases List.mem_cons.1 hz with rfl | hz
    · exact hk
    · exact h.above z hz
  · refine (Sim.refl _).append ?_
    have := (Sim.swap (a := [x]) (b := [y]) fun p hp q hq => by
      obtain rfl := List.mem_singleton.1 hp
      obtain rfl := List.mem_singleton.1 hq
      exact kl_ne hk).append (Sim.refl N)
    simpa using this
theorem Down.stop {M : List Pr} {x : Pr} {N : List Pr} (h : Down M x N) (hk : M = [] ∨ ∃ M' y, M = M' ++ [y] ∧ ¬ kl x.k y.k) : Sd (M ++ x :: N) := by
  have hs := sd_append.1 h.sd
  refine sd_append.2 ⟨hs.1, sd_cons.2 ⟨fun q hq => le_of_lt (h.above q hq), hs.2.1⟩, fun p hp q hq => ?_⟩
  have hx : ¬ kl x.k p.k := by
    rcases hk with rfl | ⟨M', y, rfl, hy⟩
    · cases hp
    · rcases List.mem_append.1 hp with h1 | h1
      · exact le_trans3 ((sd_append.1 hs.1).2.2 p h1 y (by simp)) hy
      · obtain rfl := List.mem_singleton.1 h1
        exact hy
  rcases List.mem_cons.1 hq with rfl | hq
  · exact hx
  · exact le_of_lt (kl_le_lt hx (h.above q hq))
/-- Blocks of s pairs, each sorted. -/
def Bl (s : Nat) (l : List Pr) : Prop := ∀ t, Sd ((l.drop (t * s)).take s)
theorem Bl.of_sd {l : List Pr} (s : Nat) (h : Sd l) : Bl s l := fun t => h.sub ((List.take_sublist _ _).trans (List.drop_sublist _ _))
theorem Bl.head {s : Nat} {l : List Pr} (h : Bl s l) : Sd (l.take s) := by simpa using h 0
theorem Bl.tail {s : Nat} {l : List Pr} (h : Bl s l) : Bl s (l.drop s) := fun t => by
  have := h (t + 1)
  rw [Nat.succ_mul] at this
  rw [List.drop_drop, Nat.add_comm s]
  exact this
theorem Bl.all {s : Nat} {l : List Pr} (h : Bl s l) (hs : l.length ≤ s) : Sd l := by
  have := h.head
  rwa [List.take_of_length_le hs] at this
theorem Bl.append {s q : Nat} {l m : List Pr} (h : Bl s l) (hq : l.length = q * s) (g : Bl s m) : Bl s (l ++ m) := fun t => by
  rcases Nat.lt_or_ge t q with h1 | h1
  · have h2 : (t + 1) * s ≤ q * s := Nat.mul_le_mul_right _ h1
    rw [Nat.succ_mul] at h2
    rw [List.drop_append_of_le_length (by omega), List.take_append_of_le_length (by rw [List.length_drop]; omega)]
    exact h t
  · have h2 : q * s ≤ t * s := Nat.mul_le_mul_right _ h1
    have e : t * s = l.length + (t - q) * s := by rw [hq, Nat.sub_mul]; omega
    rw [e, List.drop_append]
    simp only [Nat.add_sub_cancel_left]
    rw [List.drop_eq_nil_of_le (by omega), List.nil_append]
    exact g (t - q)
/-- What New makes of a row of pairs. -/
def news (l : List Pr) : List Pr := l.foldl (fun m p => putL m p.k p.v) []
theorem get_ky (l : List Pr) (k : ByteArray) : getL l k = ((ky l k).head?).map Pr.v := by
  unfold getL ky
  rw [List.head?_filter]
theorem get_append (l m : List Pr) (k : ByteArray) : getL (l ++ m) k = (getL l k).or (getL m k) := by
  unfold getL
  rw [List.find?_append]
  cases l.find? (fun p => decide (p.k = k)) <;> simp
theorem get_fold : ∀ (l m : List Pr) (k : ByteArray), getL (l.foldl (fun m p => putL m p.k p.v) m) k = (getL l.reverse k).or (getL m k)
  | [], m, k => by simp [getL]
  | p :: t, m, k => by
    rw [List.foldl_cons, get_fold t, List.reverse_cons, get_append, get_put]
    have : getL [p] k = if k = p.k then some p.v else none := by
      by_cases h : k = p.k
      · simp [getL, h]
      · have h2 : ¬ p.k = k := fun e => h e.symm
        simp [getL, h, h2]
    rw [this]
    cases getL t.reverse k <;> by_cases h : k = p.k <;> simp [h]
theorem get_news (l : List Pr) (k : ByteArray) : getL (news l) k = getL l.reverse k := by
  unfold news
  rw [get_fold]
  simp [getL]
theorem asc_fold : ∀ (l m : List Pr), Asc m → Asc (l.foldl (fun m p => putL m p.k p.v) m)
  | [], m, h => h
  | p :: t, m, h => asc_fold t _ (h.put p.k p.v)
theorem asc_news (l : List Pr) : Asc (news l) := asc_fold l [] List.Pairwise.nil
/-- What is left where, of keys that are alike, the first one stays. -/
structure Cpt (K T : List Pr) : Prop where
  asc : Asc K
  get : ∀ k, getL K k = getL T k
  sub : ∀ p ∈ K, p ∈ T
theorem Cpt.nil : Cpt [] [] := ⟨List.Pairwise.nil, fun _ => rfl, by simp⟩
theorem Cpt.start (p : Pr) : Cpt [p] [p] := ⟨List.pairwise_singleton .., fun _ => rfl, fun _ h => h⟩
theorem Cpt.same {K T : List Pr} {p q : Pr} (h : Cpt K (T ++ [p])) (hq : q.k = p.k) : Cpt K (T ++ [p] ++ [q]) := by
  refine ⟨h.asc, fun k => ?_, fun x hx => List.mem_append.2 (.inl (h.sub x hx))⟩
  rw [h.get, get_append (T ++ [p])]
  by_cases e : q.k = k
  · have h1 : getL (T ++ [p]) k ≠ none := by
      rw [get_append]
      have : getL [p] k = some p.v := by simp [getL, hq ▸ e]
      rw [this]
      cases getL T k <;> simp
    cases hg : getL (T ++ [p]) k with
    | none => exact absurd hg h1
    | some v => simp
  · have : getL [q] k = none := by simp [getL, e]
    rw [this]
    cases getL (T ++ [p]) k <;> simp
theorem Cpt.more {K T : List Pr} {p q : Pr} (h : Cpt K (T ++ [p])) (hs : Sd (T ++ [p] ++ [q])) (hq : q.k ≠ p.k) : Cpt (K ++ [q]) (T ++ [p] ++ [q]) := by
  have hs1 := sd_append.1 hs
  have lt : ∀ x ∈ T ++ [p], kl x.k q.k := by
    intro x hx
    have hp : ¬ kl q.k p.k := hs1.2.2 p (by simp) q (by simp)
    have hpq : kl p.k q.k := lt_of_not_le hp hq
    rcases List.mem_append.1 hx with h1 | h1
    · exact kl_le_lt ((sd_append.1 hs1.1).2.2 x h1 p (by simp)) hpq
    · obtain rfl := List.mem_singleton.1 h1
      exact hpq
  refine ⟨List.pairwise_append.2 ⟨h.asc, List.pairwise_singleton .., fun x hx y hy => ?_⟩, fun k => ?_, fun x hx => ?_⟩
  · obtain rfl := List.mem_singleton.1 hy
    exact lt x (h.sub x hx)
  · rw [get_append, get_append (T ++ [p]), h.get]
  · rcases List.mem_append.1 hx with h1 | h1
    · exact List.mem_append.2 (.inl (h.sub x h1))
    · exact List.mem_append.2 (.inr h1)
/-- Turned round, sorted, and the first of each key left: what New makes. -/
theorem news_of {l S K : List Pr} (h : Sim S l.reverse) (hK : Cpt K S) : K = news l := by
  refine hK.asc.ext (asc_news l) fun k => ?_
  rw [hK.get, get_news, get_ky, get_ky, h.kys]
theorem news_sub {l : List Pr} : ∀ p ∈ news l, p ∈ l := fun p hp => by
  have := (asc_news l).get_of_mem (k := p.k) (v := p.v) hp
  rw [get_news] at this
  exact List.mem_reverse.1 (get_mem this)
end Go.Proofs.Ytjjmooegpoeomaa
