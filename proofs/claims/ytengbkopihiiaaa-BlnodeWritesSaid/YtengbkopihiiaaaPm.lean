/-
  The map as plain data: pairs whose keys rise; what it has, what a write makes of it.
-/
import Derived.Test.YtengbkopihiiaaaMath
import Derived.Test.YtengbkopihiiaaaMem
import Derived.Laws.AppendOwn
namespace Go.Proofs.Ytengbkopihiiaaa
open Go.RowKit Go.Lib
set_option linter.unusedVariables false
set_option maxRecDepth 20000

def kcmp (a b : ByteArray) : Int := Lib.compareBytes a.data.toList b.data.toList
def kl (a b : ByteArray) : Prop := kcmp a b < 0
instance (a b : ByteArray) : Decidable (kl a b) := inferInstanceAs (Decidable (kcmp a b < 0))
theorem bytes_ext {a b : ByteArray} (h : a.data.toList = b.data.toList) : a = b := by
  obtain ⟨⟨a⟩⟩ := a
  obtain ⟨⟨b⟩⟩ := b
  simp at h
  rw [h]
theorem kcmp_zero {a b : ByteArray} : kcmp a b = 0 ↔ a = b := by
  unfold kcmp
  rw [show (Lib.compareBytes a.data.toList b.data.toList = 0 ↔ _) from Math.cmp_zero _ _]
  exact ⟨bytes_ext, fun h => by rw [h]⟩
theorem kcmp_anti (a b : ByteArray) : kcmp a b = -kcmp b a := Math.cmp_anti _ _
theorem kcmp_range (a b : ByteArray) : kcmp a b = -1 ∨ kcmp a b = 0 ∨ kcmp a b = 1 := Math.cmp_range _ _
theorem kl_irrefl (a : ByteArray) : ¬ kl a a := by
  unfold kl
  rw [kcmp_zero.2 rfl]
  decide
theorem kl_trans {a b c : ByteArray} (h : kl a b) (k : kl b c) : kl a c := by
  unfold kl at *
  have := Math.cmp_trans a.data.toList b.data.toList c.data.toList (by unfold kcmp at h; exact Int.le_of_lt h) (by unfold kcmp at k; exact Int.le_of_lt k)
  unfold kcmp at *
  change Lib.compareBytes _ _ = min (Lib.compareBytes _ _) (Lib.compareBytes _ _) at this
  omega
theorem kl_tri (a b : ByteArray) : kl a b ∨ a = b ∨ kl b a := by
  unfold kl
  rcases kcmp_range a b with h | h | h
  · exact .inl (by omega)
  · exact .inr (.inl (kcmp_zero.1 h))
  · exact .inr (.inr (by rw [kcmp_anti]; omega))
theorem kl_asymm {a b : ByteArray} (h : kl a b) : ¬ kl b a := fun k => kl_irrefl a (kl_trans h k)
theorem kl_ne {a b : ByteArray} (h : kl a b) : a ≠ b := fun e => kl_irrefl b (e ▸ h)
/-- not above -/
theorem kl_le_lt {a b c : ByteArray} (h : ¬ kl b a) (k : kl b c) : kl a c := by
  rcases kl_tri a b with h1 | h1 | h1
  · exact kl_trans h1 k
  · exact h1 ▸ k
  · exact absurd h1 h
theorem kl_lt_le {a b c : ByteArray} (h : kl a b) (k : ¬ kl c b) : kl a c := by
  rcases kl_tri b c with h1 | h1 | h1
  · exact kl_trans h h1
  · exact h1 ▸ h
  · exact absurd h1 k

structure Pr where
  (k v : ByteArray)
def Pr.cs (p : Pr) : List Value := [.string p.k, .string p.v]
def pcs (l : List Pr) : List Value := l.flatMap Pr.cs
def Asc (l : List Pr) : Prop := l.Pairwise fun p q => kl p.k q.k
def getL (l : List Pr) (key : ByteArray) : Option ByteArray := (l.find? fun p => decide (p.k = key)).map Pr.v
def putL : List Pr → ByteArray → ByteArray → List Pr
  | [], k, v => [⟨k, v⟩]
  | p :: t, k, v => if kl p.k k then p :: putL t k v else if p.k = k then ⟨k, v⟩ :: t else ⟨k, v⟩ :: p :: t
def delL (l : List Pr) (key : ByteArray) : List Pr := l.filter fun p => !decide (p.k = key)
def lowL (l : List Pr) (key : ByteArray) : List Pr := l.takeWhile fun p => decide (kl p.k key)
def hiL (l : List Pr) (key : ByteArray) : List Pr := l.dropWhile fun p => decide (kl p.k key)
def hasL (l : List Pr) (key : ByteArray) : Bool := match hiL l key with
  | p :: _ => decide (p.k = key)
  | [] => false
/-- what is not below a key, or (aft) above it -/
def nexts (l : List Pr) (key : ByteArray) (aft : Bool) : List Pr := if (hasL l key && aft) = true then (hiL l key).tail else hiL l key

theorem split_L (l : List Pr) (key : ByteArray) : lowL l key ++ hiL l key = l := List.takeWhile_append_dropWhile
theorem low_mem {l : List Pr} {key : ByteArray} {p : Pr} (h : p ∈ lowL l key) : kl p.k key := by
  have := List.all_takeWhile (p := fun p : Pr => decide (kl p.k key)) (l := l)
  exact of_decide_eq_true (List.all_eq_true.1 this p h)
theorem Asc.hi {l : List Pr} (h : Asc l) {key : ByteArray} {p : Pr} (hp : p ∈ hiL l key) : ¬ kl p.k key := by
  induction l with
  | nil => simp [hiL] at hp
  | cons q t ih =>
    unfold hiL at hp
    rw [List.dropWhile_cons] at hp
    split at hp
    · exact ih (List.Pairwise.of_cons h) hp
    · rename_i hq
      simp only [decide_eq_true_eq] at hq
      rcases List.mem_cons.1 hp with rfl | hp
      · exact hq
      · exact fun hk => hq (kl_trans (List.rel_of_pairwise_cons h hp) hk)
theorem Asc.low {l : List Pr} (h : Asc l) (key : ByteArray) : Asc (lowL l key) := List.Pairwise.sublist (List.takeWhile_sublist _) h
theorem Asc.his {l : List Pr} (h : Asc l) (key : ByteArray) : Asc (hiL l key) := List.Pairwise.sublist (List.dropWhile_sublist _) h
/-- Where it is there, it is the first of those that are not below it. -/
theorem has_true {l : List Pr} {key : ByteArray} (h : hasL l key = true) : ∃ v t, hiL l key = ⟨key, v⟩ :: t := by
  unfold hasL at h
  split at h
  · rename_i p t hp
    obtain ⟨k, v⟩ := p
    simp only [decide_eq_true_eq] at h
    subst h
    exact ⟨v, t, hp⟩
  · cases h
theorem Asc.has_false {l : List Pr} (ha : Asc l) {key : ByteArray} (h : hasL l key = false) {p : Pr} (hp : p ∈ hiL l key) : kl key p.k := by
  unfold hasL at h
  split at h
  · rename_i q t hq
    have hh := ha.his key
    rw [hq] at hp hh
    have h0 := ha.hi (key := key) (p := q) (by rw [hq]; exact List.mem_cons_self)
    simp only [decide_eq_false_iff_not] at h
    have hq : kl key q.k := by
      rcases kl_tri key q.k with h1 | h1 | h1
      · exact h1
      · exact absurd h1.symm h
      · exact absurd h1 h0
    rcases List.mem_cons.1 hp with rfl | hp
    · exact hq
    · exact kl_trans hq (List.rel_of_pairwise_cons hh hp)
  · rename_i hq
    rw [hq] at hp
    cases hp
theorem get_low {l : List Pr} {key : ByteArray} (m : List Pr) : getL (lowL l key ++ m) key = getL m key := by
  unfold getL
  rw [List.find?_append, List.find?_eq_none.2 (fun p hp => by simpa using kl_ne (low_mem hp))]
  rfl
theorem Asc.get_hi {l : List Pr} (ha : Asc l) {key : ByteArray} (h : hasL l key = false) : getL l key = none := by
  rw [← split_L l key, get_low]
  unfold getL
  rw [List.find?_eq_none.2 (fun p hp => by simpa using (kl_ne (ha.has_false h hp)).symm)]
  rfl
theorem get_has {l : List Pr} {key v : ByteArray} {t : List Pr} (h : hiL l key = ⟨key, v⟩ :: t) : getL l key = some v := by
  rw [← split_L l key, get_low, h]
  simp [getL]
theorem put_low : ∀ (l : List Pr) (key v : ByteArray), putL l key v = lowL l key ++ ⟨key, v⟩ :: (if hasL l key = true then (hiL l key).tail else hiL l key)
  | [], key, v => by simp [putL, lowL, hiL, hasL]
  | p :: t, key, v => by
    have ih := put_low t key v
    unfold putL lowL hiL
    rw [List.takeWhile_cons, List.dropWhile_cons]
    by_cases h : kl p.k key
    · have hh : hasL (p :: t) key = hasL t key := by simp [hasL, hiL, h]
      rw [if_pos h, if_pos (decide_eq_true h), if_pos (decide_eq_true h), ih, hh]
      rfl
    · have hh : hasL (p :: t) key = decide (p.k = key) := by simp [hasL, hiL, h]
      have hd : decide (kl p.k key) = false := by simpa using h
      rw [if_neg h, hh]
      simp only [hd, Bool.false_eq_true, if_false, List.nil_append, List.tail_cons]
      by_cases e : p.k = key
      · rw [if_pos e, if_pos (decide_eq_true e)]
      · rw [if_neg e, if_neg (by simpa using e)]
theorem Asc.del_low {l : List Pr} (ha : Asc l) (key : ByteArray) : delL l key = lowL l key ++ (if hasL l key = true then (hiL l key).tail else hiL l key) := by
  have h1 : delL l key = delL (lowL l key) key ++ delL (hiL l key) key := by
    unfold delL
    rw [← List.filter_append, split_L]
  rw [h1]
  congr 1
  · exact List.filter_eq_self.2 fun p hp => by simpa using kl_ne (low_mem hp)
  · cases h : hasL l key with
    | true =>
      obtain ⟨v, t, ht⟩ := has_true h
      rw [ht, if_pos rfl]
      unfold delL
      rw [List.filter_cons_of_neg (by simp), List.tail_cons]
      have hh := ha.his key
      rw [ht] at hh
      exact List.filter_eq_self.2 fun p hp => by simpa using (kl_ne (List.rel_of_pairwise_cons hh hp)).symm
    | false =>
      rw [if_neg (by simp)]
      exact List.filter_eq_self.2 fun p hp => by simpa using (kl_ne (ha.has_false h hp)).symm

theorem Asc.put {l : List Pr} (ha : Asc l) (key v : ByteArray) : Asc (putL l key v) := by
  rw [put_low]
  unfold Asc
  rw [List.pairwise_append, List.pairwise_cons]
  have hrest : ∀ p ∈ (if hasL l key = true then (hiL l key).tail else hiL l key), kl key p.k := by
    intro p hp
    cases h : hasL l key with
    | true =>
      obtain ⟨v', t, ht⟩ := has_true h
      rw [if_pos h, ht, List.tail_cons] at hp
      have hh := ha.his key
      rw [ht] at hh
      exact List.rel_of_pairwise_cons hh hp
    | false =>
      rw [if_neg (by simp [h])] at hp
      exact ha.has_false h hp
  refine ⟨ha.low key, ⟨hrest, ?_⟩, ?_⟩
  · split
    · exact List.Pairwise.sublist (List.tail_sublist _) (ha.his key)
    · exact ha.his key
  · intro p hp q hq
    rcases List.mem_cons.1 hq with rfl | hq
    · exact low_mem hp
    · exact kl_trans (low_mem hp) (hrest q hq)
theorem Asc.del {l : List Pr} (ha : Asc l) (key : ByteArray) : Asc (delL l key) := List.Pairwise.sublist (List.filter_sublist) ha
theorem get_put : ∀ (l : List Pr) (key v k : ByteArray), getL (putL l key v) k = if k = key then some v else getL l k
  | [], key, v, k => by
    by_cases h : k = key
    · simp [putL, getL, h]
    · simp [putL, getL, h, Ne.symm h]
  | p :: t, key, v, k => by
    have ih := get_put t key v k
    unfold getL at *
    unfold putL
    split
    · rename_i h1
      rw [List.find?_cons, List.find?_cons]
      by_cases h2 : p.k = k
      · have : k ≠ key := by rw [← h2]; exact kl_ne h1
        simp [h2, this]
      · simp only [h2, decide_false]
        exact ih
    · split
      · rename_i h1 h2
        rw [List.find?_cons, List.find?_cons]
        by_cases h3 : k = key
        · simp [h3]
        · have h4 : ¬ key = k := fun e => h3 e.symm
          have h5 : ¬ p.k = k := by rw [h2]; exact h4
          simp [h3, h4, h5]
      · rw [List.find?_cons]
        by_cases h3 : k = key
        · simp [h3]
        · have h4 : ¬ key = k := fun e => h3 e.symm
          simp [h3, h4]
theorem get_del (l : List Pr) (key k : ByteArray) : getL (delL l key) k = if k = key then none else getL l k := by
  unfold getL delL
  rw [List.find?_filter]
  by_cases h : k = key
  · rw [if_pos h, List.find?_eq_none.2 (fun p _ => by subst h; simp)]
    rfl
  · rw [if_neg h]
    congr 2
    funext p
    by_cases e : p.k = k
    · simp [e, h]
    · simp [e]
theorem get_mem {l : List Pr} {k v : ByteArray} (h : getL l k = some v) : ⟨k, v⟩ ∈ l := by
  unfold getL at h
  obtain ⟨p, hp, rfl⟩ := Option.map_eq_some_iff.1 h
  have h1 := List.find?_some hp
  have h2 := List.mem_of_find?_eq_some hp
  simp only [decide_eq_true_eq] at h1
  subst h1
  exact h2
theorem Asc.get_of_mem {l : List Pr} (ha : Asc l) {k v : ByteArray} (h : ⟨k, v⟩ ∈ l) : getL l k = some v := by
  induction l with
  | nil => cases h
  | cons p t ih =>
    unfold getL at *
    rw [List.find?_cons]
    rcases List.mem_cons.1 h with rfl | h
    · simp
    · have hne : p.k ≠ k := kl_ne (List.rel_of_pairwise_cons ha h)
      simp only [hne, decide_false]
      exact ih (List.Pairwise.of_cons ha) h
/-- Two maps that have the same are the same. -/
theorem Asc.ext : ∀ {l m : List Pr}, Asc l → Asc m → (∀ k, getL l k = getL m k) → l = m
  | [], [], _, _, _ => rfl
  | [], p :: t, _, _, h => by
    have := h p.k
    simp [getL] at this
  | p :: t, [], _, _, h => by
    have := h p.k
    simp [getL] at this
  | p :: t, q :: s, hl, hm, h => by
    have hpq : p.k = q.k := by
      rcases kl_tri p.k q.k with h1 | h1 | h1
      · exfalso
        have e1 : getL (p :: t) p.k = some p.v := by simp [getL]
        rw [h] at e1
        have := get_mem e1
        rcases List.mem_cons.1 this with h2 | h2
        · exact kl_ne h1 (congrArg Pr.k h2)
        · exact kl_irrefl _ (kl_trans h1 (List.rel_of_pairwise_cons hm h2))
      · exact h1
      · exfalso
        have e1 : getL (q :: s) q.k = some q.v := by simp [getL]
        rw [← h] at e1
        have := get_mem e1
        rcases List.mem_cons.1 this with h2 | h2
        · exact kl_ne h1 (congrArg Pr.k h2)
        · exact kl_irrefl _ (kl_trans h1 (List.rel_of_pairwise_cons hl h2))
    have hv : p.v = q.v := by
      have := h p.k
      simp only [getL, List.find?_cons, decide_true, hpq] at this
      simpa using this
    have ht : t = s := Asc.ext (List.Pairwise.of_cons hl) (List.Pairwise.of_cons hm) fun k => by
      have hk := h k
      by_cases e : p.k = k
      · have n1 : getL t k = none := by
          unfold getL
          rw [List.find?_eq_none.2 (fun r hr => by simpa using fun e2 => kl_ne (List.rel_of_pairwise_cons hl hr) (e.trans e2.symm))]
          rfl
        have n2 : getL s k = none := by
          unfold getL
          rw [List.find?_eq_none.2 (fun r hr => by simpa using fun e2 => kl_ne (List.rel_of_pairwise_cons hm hr) ((hpq.symm.trans e).trans e2.symm))]
          rfl
        rw [n1, n2]
      · have e2 : ¬ q.k = k := by rw [← hpq]; exact e
        simpa [getL, List.find?_cons, e, e2] using hk
    obtain ⟨pk, pv⟩ := p
    obtain ⟨qk, qv⟩ := q
    simp only at hpq hv
    rw [hpq, hv, ht]
theorem put_length (l : List Pr) (k v : ByteArray) : (putL l k v).length ≤ l.length + 1 := by
  have h1 := congrArg List.length (split_L l k)
  rw [put_low]
  split <;> simp at h1 ⊢ <;> omega
theorem del_length (l : List Pr) (k : ByteArray) : (delL l k).length ≤ l.length := List.length_filter_le _ _
end Go.Proofs.Ytengbkopihiiaaa
