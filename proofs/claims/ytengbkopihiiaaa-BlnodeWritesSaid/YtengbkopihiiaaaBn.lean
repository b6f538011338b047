/-
  The nodes of a B-link tree, as plain data: places, kids, halves.
-/
import Derived.Test.YtengbkopihiiaaaBas
namespace Go.Proofs.Ytengbkopihiiaaa
open Go.RowKit Go.Lib
set_option linter.unusedVariables false
set_option maxRecDepth 20000
set_option linter.unusedSimpArgs false

/-- Keys that rise. -/
def Rk (K : List ByteArray) : Prop := K.Pairwise kl
/-- Is it one of them? -/
def inK (K : List ByteArray) (k : ByteArray) : Bool := K.any fun x => decide (x = k)
theorem inK_iff {K : List ByteArray} {k : ByteArray} : inK K k = true ↔ k ∈ K := by
  unfold inK
  rw [List.any_eq_true]
  exact ⟨fun ⟨x, h1, h2⟩ => of_decide_eq_true h2 ▸ h1, fun h => ⟨k, h, decide_eq_true rfl⟩⟩
theorem inK_no {K : List ByteArray} {k : ByteArray} : inK K k = false ↔ k ∉ K := by rw [← inK_iff, Bool.not_eq_true]
/-- A key's place: how many are less. -/
def plc (K : List ByteArray) (k : ByteArray) : Nat := (K.filter fun x => decide (kl x k)).length
/-- The kid's place: how many are not above. -/
def kix (K : List ByteArray) (k : ByteArray) : Nat := (K.filter fun x => !decide (kl k x)).length
theorem cut_down {p : ByteArray → Bool} (hp : ∀ x y, kl x y → p y = true → p x = true) : ∀ {K : List ByteArray}, Rk K → K.take (K.filter p).length = K.filter p ∧ K.drop (K.filter p).length = K.filter (fun x => !p x)
  | [], _ => ⟨rfl, rfl⟩
  | x :: t, h => by
    have ht : Rk t := List.Pairwise.of_cons h
    have ih := cut_down hp ht
    cases hx : p x with
    | true =>
      rw [List.filter_cons_of_pos hx, List.filter_cons_of_neg (by simp [hx]), List.length_cons, List.take_succ_cons, List.drop_succ_cons, ih.1]
      exact ⟨rfl, ih.2⟩
    | false =>
      have hall : ∀ y ∈ t, p y = false := fun y hy => by
        cases hb : p y with
        | false => rfl
        | true => rw [hp x y (List.rel_of_pairwise_cons h hy) hb] at hx; cases hx
      have e1 : t.filter p = [] := List.filter_eq_nil_iff.2 fun y hy => by rw [hall y hy]; decide
      have e2 : t.filter (fun x => !p x) = t := List.filter_eq_self.2 fun y hy => by rw [hall y hy]; rfl
      rw [List.filter_cons_of_neg (by simp [hx]), List.filter_cons_of_pos (by simp [hx]), e1, e2]
      exact ⟨rfl, rfl⟩
theorem kix_down (k : ByteArray) : ∀ x y, kl x y → (!decide (kl k y)) = true → (!decide (kl k x)) = true := fun x y hxy hy => by
  simp only [Bool.not_eq_true', decide_eq_false_iff_not] at hy ⊢
  exact fun hk => hy (kl_trans hk hxy)
section
variable {K : List ByteArray} (h : Rk K) (k : ByteArray)
include h
theorem take_plc : K.take (plc K k) = K.filter fun x => decide (kl x k) := (cut_down (p := fun x => decide (kl x k)) (fun x y hxy hy => decide_eq_true (kl_trans hxy (of_decide_eq_true hy))) h).1
theorem drop_plc : K.drop (plc K k) = K.filter fun x => !decide (kl x k) := (cut_down (p := fun x => decide (kl x k)) (fun x y hxy hy => decide_eq_true (kl_trans hxy (of_decide_eq_true hy))) h).2
theorem take_kix : K.take (kix K k) = K.filter fun x => !decide (kl k x) := (cut_down (p := fun x => !decide (kl k x)) (kix_down k) h).1
theorem drop_kix : K.drop (kix K k) = K.filter fun x => decide (kl k x) := by
  have := (cut_down (p := fun x => !decide (kl k x)) (kix_down k) h).2
  rw [kix, this]
  exact List.filter_congr fun x _ => by simp
end
theorem plc_le (K : List ByteArray) (k : ByteArray) : plc K k ≤ K.length := List.length_filter_le ..
theorem kix_le (K : List ByteArray) (k : ByteArray) : kix K k ≤ K.length := List.length_filter_le ..
theorem kix_append (A B : List ByteArray) (k : ByteArray) : kix (A ++ B) k = kix A k + kix B k := by unfold kix; rw [List.filter_append, List.length_append]
theorem plc_append (A B : List ByteArray) (k : ByteArray) : plc (A ++ B) k = plc A k + plc B k := by unfold plc; rw [List.filter_append, List.length_append]
theorem kix_cons (x : ByteArray) (B : List ByteArray) (k : ByteArray) : kix (x :: B) k = (if kl k x then 0 else 1) + kix B k := by
  rw [show x :: B = [x] ++ B from rfl, kix_append]
  congr 1
  unfold kix
  by_cases h : kl k x <;> simp [h]
theorem plc_cons (x : ByteArray) (B : List ByteArray) (k : ByteArray) : plc (x :: B) k = (if kl x k then 1 else 0) + plc B k := by
  rw [show x :: B = [x] ++ B from rfl, plc_append]
  congr 1
  unfold plc
  by_cases h : kl x k <;> simp [h]
theorem kix_all {A : List ByteArray} {k : ByteArray} (h : ∀ x ∈ A, ¬ kl k x) : kix A k = A.length := by
  unfold kix
  rw [List.filter_eq_self.2 fun x hx => by simp [h x hx]]
theorem kix_none {A : List ByteArray} {k : ByteArray} (h : ∀ x ∈ A, kl k x) : kix A k = 0 := by
  unfold kix
  rw [List.filter_eq_nil_iff.2 fun x hx => by simp [h x hx]]
  rfl
/-- The kid's place is the key's, or the one behind it. -/
theorem kix_plc {k : ByteArray} : ∀ {K : List ByteArray}, Rk K → kix K k = plc K k + if inK K k = true then 1 else 0
  | [], _ => rfl
  | x :: t, h => by
    have ih := kix_plc (k := k) (K := t) (List.Pairwise.of_cons h)
    have hx : ∀ y ∈ t, kl x y := fun y hy => List.rel_of_pairwise_cons h hy
    rw [kix_cons, plc_cons, ih]
    rcases kl_tri k x with h1 | h1 | h1
    · have h2 : ¬ k ∈ x :: t := fun hm => by
        rcases List.mem_cons.1 hm with e | e
        · exact kl_ne h1 e
        · exact kl_irrefl _ (kl_trans h1 (hx k e))
      have h3 : ¬ k ∈ t := fun e => h2 (List.mem_cons_of_mem _ e)
      rw [if_pos h1, if_neg (kl_asymm h1), if_neg (by rw [inK_iff]; exact h3), if_neg (by rw [inK_iff]; exact h2)]
      omega
    · subst h1
      have h3 : ¬ k ∈ t := fun e => kl_irrefl _ (hx k e)
      rw [if_neg (kl_irrefl k), if_neg (kl_irrefl k), if_neg (by rw [inK_iff]; exact h3), if_pos (inK_iff.2 List.mem_cons_self)]
      omega
    · rw [if_neg (kl_asymm h1), if_pos h1]
      by_cases h3 : k ∈ t
      · rw [if_pos (inK_iff.2 h3), if_pos (inK_iff.2 (List.mem_cons_of_mem _ h3))]; omega
      · have h2 : ¬ k ∈ x :: t := fun hm => by
          rcases List.mem_cons.1 hm with e | e
          · exact kl_ne h1 e.symm
          · exact h3 e
        rw [if_neg (by rw [inK_iff]; exact h3), if_neg (by rw [inK_iff]; exact h2)]; omega
/-- Is it there? What stands in its place tells. -/
theorem plc_mem {k : ByteArray} : ∀ {K : List ByteArray}, Rk K → (K[plc K k]? = some k ↔ k ∈ K)
  | [], _ => by simp
  | x :: t, h => by
    have ih := plc_mem (k := k) (K := t) (List.Pairwise.of_cons h)
    have hx : ∀ y ∈ t, kl x y := fun y hy => List.rel_of_pairwise_cons h hy
    rw [plc_cons]
    by_cases h1 : kl x k
    · rw [if_pos h1, Nat.add_comm, List.getElem?_cons_succ, ih, List.mem_cons]
      exact ⟨.inr, fun hm => hm.elim (fun e => absurd e.symm (kl_ne h1)) fun e => e⟩
    · have h0 : plc t k = 0 := by
        unfold plc
        rw [List.filter_eq_nil_iff.2 fun y hy => by
          simp only [decide_eq_true_eq]
          exact fun hy2 => h1 (kl_trans (hx y hy) hy2)]
        rfl
      rw [if_neg h1, h0]
      simp only [Nat.add_zero, List.getElem?_cons_zero, Option.some.injEq, List.mem_cons]
      refine ⟨fun e => .inl e.symm, fun hm => hm.elim (fun e => e.symm) fun e => absurd (hx k e) h1⟩
/-! One more. -/
def ins {α : Type} (L : List α) (i : Nat) (x : α) : List α := L.take i ++ x :: L.drop i
theorem ins_length {α : Type} (L : List α) {i : Nat} (hi : i ≤ L.length) (x : α) : (ins L i x).length = L.length + 1 := by
  unfold ins
  rw [List.length_append, List.length_cons, List.length_take, List.length_drop]
  omega
theorem ins_low {α : Type} (L : List α) {i j : Nat} (hi : i ≤ L.length) (x : α) (h : j < i) : (ins L i x)[j]? = L[j]? := by
  unfold ins
  rw [List.getElem?_append_left (by rw [List.length_take]; omega), List.getElem?_take, if_pos h]
theorem ins_at {α : Type} (L : List α) {i : Nat} (hi : i ≤ L.length) (x : α) : (ins L i x)[i]? = some x := by
  unfold ins
  have : (L.take i).length = i := by rw [List.length_take]; omega
  rw [List.getElem?_append_right (by omega), this, Nat.sub_self]
  rfl
theorem ins_high {α : Type} (L : List α) {i j : Nat} (hi : i ≤ L.length) (x : α) (h : i ≤ j) : (ins L i x)[j + 1]? = L[j]? := by
  unfold ins
  have e : (L.take i).length = i := by rw [List.length_take]; omega
  rw [List.getElem?_append_right (by omega), e, show j + 1 - i = (j - i) + 1 by omega, List.getElem?_cons_succ, List.getElem?_drop, show i + (j - i) = j by omega]
theorem mem_ins {α : Type} {L : List α} {i : Nat} {x y : α} : y ∈ ins L i x ↔ y = x ∨ y ∈ L := by
  unfold ins
  rw [List.mem_append, List.mem_cons]
  have h : y ∈ L ↔ y ∈ L.take i ∨ y ∈ L.drop i := by
    conv => lhs; rw [← List.take_append_drop i L]
    exact List.mem_append
  rw [h]
  constructor
  · rintro (h | h | h)
    · exact .inr (.inl h)
    · exact .inl h
    · exact .inr (.inr h)
  · rintro (h | h | h)
    · exact .inr (.inl h)
    · exact .inl h
    · exact .inr (.inr h)
theorem rk_ins {K : List ByteArray} (h : Rk K) {k : ByteArray} (hk : k ∉ K) : Rk (ins K (plc K k) k) := by
  have hd : ∀ x ∈ K, ¬ kl x k → kl k x := fun x hx hn => by
    rcases kl_tri k x with h1 | h1 | h1
    · exact h1
    · exact absurd (h1 ▸ hx) hk
    · exact absurd h1 hn
  unfold ins Rk
  rw [take_plc h, drop_plc h, List.pairwise_append]
  refine ⟨List.Pairwise.sublist List.filter_sublist h, ?_, fun a ha b hb => ?_⟩
  · rw [List.pairwise_cons]
    refine ⟨fun b hb => ?_, List.Pairwise.sublist List.filter_sublist h⟩
    obtain ⟨h1, h2⟩ := List.mem_filter.1 hb
    exact hd b h1 (by simpa using h2)
  · obtain ⟨h1, h2⟩ := List.mem_filter.1 ha
    have h2 := of_decide_eq_true h2
    rcases List.mem_cons.1 hb with e | e
    · rw [e]; exact h2
    · obtain ⟨h3, h4⟩ := List.mem_filter.1 e
      exact kl_trans h2 (hd b h3 (by simpa using h4))
theorem kix_ins (K : List ByteArray) (i : Nat) (x q : ByteArray) : kix (ins K i x) q = kix K q + if kl q x then 0 else 1 := by
  unfold ins
  have h : kix K q = kix (K.take i) q + kix (K.drop i) q := by rw [← kix_append, List.take_append_drop]
  rw [kix_append, kix_cons, h]
  omega
/-- A kid that is added is led to from its key up to the next one. -/
theorem kid_add {α : Type} {K : List ByteArray} (h : Rk K) {sep : ByteArray} (hs : sep ∉ K) {L : List α} (hl : L.length = K.length + 1) (kid : α) (q : ByteArray) :
    (ins L (plc K sep + 1) kid)[kix (ins K (plc K sep) sep) q]? = if ¬ kl q sep ∧ ∀ x ∈ K, kl sep x → kl q x then some kid else L[kix K q]? := by
  have hp := plc_le K sep
  rw [kix_ins]
  by_cases hq : kl q sep
  · rw [if_pos hq, if_neg (fun h => h.1 hq), Nat.add_zero]
    refine ins_low L (by omega) kid ?_
    have : kix K q ≤ plc K sep := by
      unfold kix plc
      refine List.Sublist.length_le ?_
      have : (K.filter fun x => !decide (kl q x)) = (K.filter fun x => decide (kl x sep)).filter fun x => !decide (kl q x) := by
        rw [List.filter_filter]
        refine List.filter_congr fun x hx => ?_
        by_cases h1 : kl q x
        · simp [h1]
        · have : kl x sep := kl_le_lt h1 hq
          simp [h1, this]
      rw [this]
      exact List.filter_sublist
    omega
  · rw [if_neg hq]
    have hsplit : kix K q = plc K sep + kix (K.drop (plc K sep)) q := by
      have e : kix K q = kix (K.take (plc K sep)) q + kix (K.drop (plc K sep)) q := by rw [← kix_append, List.take_append_drop]
      rw [e, kix_all (A := K.take (plc K sep)) fun x hx => by
        rw [take_plc h] at hx
        have := of_decide_eq_true (List.mem_filter.1 hx).2
        exact fun hk => hq (kl_trans hk this), List.length_take, Nat.min_eq_left hp]
    have hgt : ∀ x ∈ K.drop (plc K sep), x ∈ K ∧ kl sep x := fun x hx => by
      rw [drop_plc h] at hx
      obtain ⟨h1, h2⟩ := List.mem_filter.1 hx
      refine ⟨h1, ?_⟩
      rcases kl_tri sep x with h3 | h3 | h3
      · exact h3
      · exact absurd (h3 ▸ h1) hs
      · simp [h3] at h2
    by_cases hn : ∀ x ∈ K, kl sep x → kl q x
    · rw [if_pos ⟨hq, hn⟩, hsplit, kix_none fun x hx => hn x (hgt x hx).1 (hgt x hx).2, Nat.add_zero]
      exact ins_at L (by omega) kid
    · rw [if_neg (fun h => hn h.2)]
      refine ins_high L (by omega) kid ?_
      rw [hsplit]
      have : 0 < kix (K.drop (plc K sep)) q := by
        refine Nat.pos_of_ne_zero fun h0 => hn fun x hx hsx => ?_
        have hxd : x ∈ K.drop (plc K sep) := by
          rw [drop_plc h]
          exact List.mem_filter.2 ⟨hx, by simp [kl_asymm hsx]⟩
        unfold kix at h0
        have := List.filter_eq_nil_iff.1 (List.eq_nil_of_length_eq_zero h0) x hxd
        simpa using this
      omega
/-! Halves. -/
section
variable {K : List ByteArray} (h : Rk K) {m : Nat} {sep : ByteArray} (hm : K[m]? = some sep)
include h hm
theorem half_cut : K = K.take m ++ sep :: K.drop (m + 1) ∧ (∀ x ∈ K.take m, kl x sep) ∧ ∀ x ∈ K.drop (m + 1), kl sep x := by
  have e : K = K.take m ++ sep :: K.drop (m + 1) := by
    obtain ⟨hl, rfl⟩ := List.getElem?_eq_some_iff.1 hm
    rw [List.getElem_cons_drop, List.take_append_drop]
  have hp : (K.take m ++ sep :: K.drop (m + 1)).Pairwise kl := by rw [← e]; exact h
  rw [List.pairwise_append, List.pairwise_cons] at hp
  exact ⟨e, fun x hx => hp.2.2 x hx sep List.mem_cons_self, hp.2.1.1⟩
theorem half_left (q : ByteArray) (hq : kl q sep) : kix (K.take m) q = kix K q ∧ kix K q ≤ m := by
  obtain ⟨e, h1, h2⟩ := half_cut h hm
  have : kix K q = kix (K.take m) q := by
    conv => lhs; rw [e]
    rw [kix_append, kix_none (A := sep :: K.drop (m + 1)) fun x hx => (List.mem_cons.1 hx).elim (fun e => e ▸ hq) fun hx => kl_trans hq (h2 x hx), Nat.add_zero]
  refine ⟨this.symm, ?_⟩
  rw [this]
  have := kix_le (K.take m) q
  rw [List.length_take] at this
  omega
theorem half_right (q : ByteArray) (hq : ¬ kl q sep) : kix (K.drop (m + 1)) q + (m + 1) = kix K q := by
  obtain ⟨e, h1, h2⟩ := half_cut h hm
  have hl := (List.getElem?_eq_some_iff.1 hm).1
  conv => rhs; rw [e]
  rw [kix_append, kix_cons, if_neg hq, kix_all (A := K.take m) fun x hx hk => hq (kl_trans hk (h1 x hx)), List.length_take]
  omega
/-- The kids that the halves lead to. -/
theorem half_kid {α : Type} {L : List α} (q : ByteArray) : (kl q sep → (L.take (m + 1))[kix (K.take m) q]? = L[kix K q]?) ∧ (¬ kl q sep → (L.drop (m + 1))[kix (K.drop (m + 1)) q]? = L[kix K q]?) := by
  refine ⟨fun hq => ?_, fun hq => ?_⟩
  · obtain ⟨h1, h2⟩ := half_left h hm q hq
    rw [h1, List.getElem?_take, if_pos (by omega)]
  · have h1 := half_right h hm q hq
    rw [List.getElem?_drop, show m + 1 + kix (K.drop (m + 1)) q = kix K q by omega]
omit hm in
theorem half_rk : Rk (K.take m) ∧ Rk (K.drop m) ∧ Rk (K.drop (m + 1)) := ⟨List.Pairwise.sublist (List.take_sublist _ _) h, List.Pairwise.sublist (List.drop_sublist _ _) h, List.Pairwise.sublist (List.drop_sublist _ _) h⟩
end
/-! Leaves: as pairs. -/
theorem asc_keys {l : List Pr} : Asc l ↔ Rk (l.map Pr.k) := by unfold Asc Rk; rw [List.pairwise_map]
theorem pairs_of : ∀ {K V : List ByteArray}, V.length = K.length → ∃ l : List Pr, l.map Pr.k = K ∧ l.map Pr.v = V
  | [], [], _ => ⟨[], rfl, rfl⟩
  | k :: K, v :: V, h => by
    obtain ⟨l, h1, h2⟩ := pairs_of (K := K) (V := V) (by simpa using h)
    exact ⟨⟨k, v⟩ :: l, by simp [h1], by simp [h2]⟩
  | [], _ :: _, h => by simp at h
  | _ :: _, [], h => by simp at h
/-- What a leaf has for a key stands in the key's place. -/
theorem get_plc {k : ByteArray} : ∀ {l : List Pr}, Asc l → getL l k = if inK (l.map Pr.k) k = true then (l.map Pr.v)[plc (l.map Pr.k) k]? else none
  | [], _ => rfl
  | p :: t, h => by
    have ih := get_plc (k := k) (l := t) (List.Pairwise.of_cons h)
    have hp : ∀ q ∈ t, kl p.k q.k := fun q hq => List.rel_of_pairwise_cons h hq
    have hg : getL (p :: t) k = if p.k = k then some p.v else getL t k := by
      unfold getL
      by_cases e : p.k = k
      · rw [List.find?_cons_of_pos (by simp [e]), if_pos e]; rfl
      · rw [List.find?_cons_of_neg (by simp [e]), if_neg e]
    rw [hg, List.map_cons, List.map_cons, plc_cons]
    by_cases e : p.k = k
    · subst e
      have h0 : plc (t.map Pr.k) p.k = 0 := by
        unfold plc
        rw [List.filter_eq_nil_iff.2 fun y hy => by
          obtain ⟨q, hq, rfl⟩ := List.mem_map.1 hy
          simp [kl_asymm (hp q hq)]]
        rfl
      rw [if_pos rfl, if_pos (inK_iff.2 List.mem_cons_self), if_neg (kl_irrefl _), h0]
      rfl
    · rw [if_neg e, ih]
      by_cases hm : k ∈ t.map Pr.k
      · rw [if_pos (inK_iff.2 hm), if_pos (inK_iff.2 (List.mem_cons_of_mem _ hm))]
        obtain ⟨q, hq, rfl⟩ := List.mem_map.1 hm
        rw [if_pos (hp q hq), Nat.add_comm, List.getElem?_cons_succ]
      · rw [if_neg (by rw [inK_iff]; exact hm), if_neg (by rw [inK_iff]; exact fun h => (List.mem_cons.1 h).elim (fun e2 => e e2.symm) hm)]
/-- Two puts in either row; a put and a deletion. -/
theorem put_comm {l : List Pr} (h : Asc l) {a b : ByteArray} (x y : ByteArray) (hab : a ≠ b) : putL (putL l a x) b y = putL (putL l b y) a x :=
  ((h.put _ _).put _ _).ext ((h.put _ _).put _ _) fun q => by
    rw [get_put, get_put, get_put, get_put]
    by_cases h1 : q = b
    · subst h1; rw [if_pos rfl, if_neg (fun e => hab e.symm), if_pos rfl]
    · rw [if_neg h1]
      by_cases h2 : q = a
      · rw [if_pos h2, if_pos h2]
      · rw [if_neg h2, if_neg h2, if_neg h1]
theorem put_put {l : List Pr} (h : Asc l) (a x : ByteArray) : putL (putL l a x) a x = putL l a x :=
  ((h.put _ _).put _ _).ext (h.put _ _) fun q => by
    rw [get_put, get_put]
    by_cases h1 : q = a
    · rw [if_pos h1, if_pos h1]
    · rw [if_neg h1, if_neg h1]
theorem del_put {l : List Pr} (h : Asc l) (a x : ByteArray) : delL (putL l a x) a = delL l a :=
  ((h.put _ _).del _).ext (h.del _) fun q => by
    rw [get_del, get_del, get_put]
    by_cases h1 : q = a
    · rw [if_pos h1, if_pos h1]
    · rw [if_neg h1, if_neg h1, if_neg h1]
theorem del_none {l : List Pr} (h : Asc l) {a : ByteArray} (hn : getL l a = none) : delL l a = l :=
  (h.del _).ext h fun q => by
    rw [get_del]
    by_cases h1 : q = a
    · rw [if_pos h1, h1, hn]
    · rw [if_neg h1]
end Go.Proofs.Ytengbkopihiiaaa
