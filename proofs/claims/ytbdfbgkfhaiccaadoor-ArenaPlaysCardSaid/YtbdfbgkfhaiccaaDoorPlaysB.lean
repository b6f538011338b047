/-
  What becomes of the two pools where a thing is put, released, written; their handles are the same.
-/
import Derived.Test.YtbdfbgkfhaiccaaDoorPlays
namespace Go.Proofs.YtbdfbgkfhaiccaaDoor
open Go.RowKit Go.Maps
set_option linter.unusedVariables false
section
variable {n : Nat} {G : List Nat} {fr : Nat → Bool} {MM : Nat → Nat → Option (Nat × Value)} {nn : Nat → Nat} {L : List Sl}

theorem PV.put (h : PV n G fr MM nn L) {s i : Nat} {q : Sl} (hs : L[s]? = some q) (h0 : q.who = 0) (h1 : 1 ≤ i) (h3 : i ≤ 3) (x : ByteArray) (v : Value) (hv : i ≠ 2 → v = .string x) :
    PV n G (fun y => fr y && y != s) (updMs MM i s (some (q.g, v))) (updNs nn i (nn i + 1)) (L.set s ⟨q.g, i, x⟩) := by
  have hsl : s < L.length := (List.getElem?_eq_some_iff.1 hs).1
  have e0 : ∀ a, isOf L a s = (0 == a) := fun a => by rw [isOf_at hs, h0]
  refine ⟨h.gl, by rw [List.length_set]; exact h.ll, ?_, ?_, ?_, ?_, ?_⟩
  · intro k p hk
    rw [List.getElem?_set] at hk
    by_cases e : s = k
    · subst e
      rw [if_pos rfl, if_pos hsl] at hk
      injection hk with hk
      subst hk
      exact h.gen s q hs
    · rw [if_neg e] at hk
      exact h.gen k p hk
  · intro k
    rw [isOf_set hsl, h.free k]
    by_cases e : k = s
    · subst e
      have : ¬ i = 0 := by omega
      simp [this]
    · simp [e]
  · intro j k hj1 hj3
    rw [isOf_set hsl]
    unfold updMs updM
    by_cases ej : j = i
    · subst ej
      rw [if_pos rfl]
      by_cases e : k = s
      · simp [e]
      · simp [e, h.has j k hj1 hj3]
    · rw [if_neg ej, h.has j k hj1 hj3]
      by_cases e : k = s
      · subst e
        have a1 : ¬ i = j := fun e => ej e.symm
        have a2 : ¬ 0 = j := by omega
        rw [if_pos rfl, e0]
        simp only [beq_eq_false_iff_ne.2 a1, beq_eq_false_iff_ne.2 a2]
      · rw [if_neg e]
  · intro j k p g v' hj1 hj3 hk hm
    rw [List.getElem?_set] at hk
    unfold updMs updM at hm
    by_cases e : s = k
    · subst e
      rw [if_pos rfl, if_pos hsl] at hk
      injection hk with hk
      subst hk
      by_cases ej : j = i
      · subst ej
        rw [if_pos rfl, if_pos rfl] at hm
        injection hm with hm
        injection hm with hm1 hm2
        exact ⟨hm1.symm, fun e2 => by rw [← hm2]; exact hv e2⟩
      · rw [if_neg ej] at hm
        have := h.has j s hj1 hj3
        rw [hm, e0] at this
        have a2 : ¬ 0 = j := by omega
        simp [a2] at this
    · rw [if_neg e] at hk
      have ek : ¬ k = s := fun e2 => e e2.symm
      by_cases ej : j = i
      · subst ej
        rw [if_pos rfl, if_neg ek] at hm
        exact h.at_ j k p g v' hj1 hj3 hk hm
      · rw [if_neg ej] at hm
        exact h.at_ j k p g v' hj1 hj3 hk hm
  · intro j hj1 hj3
    unfold updNs
    have hsn : s < n := by rw [← h.ll]; exact hsl
    by_cases ej : j = i
    · subst ej
      have a2 : ¬ 0 = j := by omega
      rw [if_pos rfl, h.num j hj1 hj3, ← cnt_in (isOf L j) s (by rw [e0]; simp [a2]) n hsn]
      refine cnt_congr n (fun y hy => ?_)
      rw [isOf_set hsl]
      by_cases e : y = s
      · simp [e]
      · simp [e]
    · rw [if_neg ej, h.num j hj1 hj3]
      refine cnt_congr n (fun y hy => ?_)
      rw [isOf_set hsl]
      by_cases e : y = s
      · subst e
        have a1 : ¬ i = j := fun e => ej e.symm
        have a2 : ¬ 0 = j := by omega
        rw [if_pos rfl, e0]
        simp only [beq_eq_false_iff_ne.2 a1, beq_eq_false_iff_ne.2 a2]
      · rw [if_neg e]

theorem PV.del (h : PV n G fr MM nn L) {s i : Nat} {q : Sl} (hs : L[s]? = some q) (h1 : 1 ≤ i) (h3 : i ≤ 3) (hw : q.who = i) :
    PV n (G.set s ((G.getD s 0 + 1) % 18446744073709551616)) (fun y => fr y || y == s) (updMs MM i s none) (updNs nn i (nn i - 1)) (L.set s ⟨(q.g + 1) % 18446744073709551616, 0, ⟨#[]⟩⟩) := by
  have hsl : s < L.length := (List.getElem?_eq_some_iff.1 hs).1
  have hsG : s < G.length := by rw [h.gl, ← h.ll]; exact hsl
  have e0 : ∀ a, isOf L a s = (i == a) := fun a => by rw [isOf_at hs, hw]
  have hg := h.gen s q hs
  refine ⟨by rw [List.length_set]; exact h.gl, by rw [List.length_set]; exact h.ll, ?_, ?_, ?_, ?_, ?_⟩
  · intro k p hk
    rw [List.getElem?_set] at hk
    by_cases e : s = k
    · subst e
      rw [if_pos rfl, if_pos hsl] at hk
      injection hk with hk
      subst hk
      rw [List.getD_eq_getElem?_getD, List.getElem?_set_self hsG, hg]; rfl
    · rw [if_neg e] at hk
      rw [List.getD_eq_getElem?_getD, List.getElem?_set_ne e, ← List.getD_eq_getElem?_getD]
      exact h.gen k p hk
  · intro k
    rw [isOf_set hsl, h.free k]
    by_cases e : k = s
    · simp [e]
    · simp [e]
  · intro j k hj1 hj3
    rw [isOf_set hsl]
    unfold updMs updM
    have a2 : ¬ 0 = j := by omega
    by_cases ej : j = i
    · subst ej
      rw [if_pos rfl]
      by_cases e : k = s
      · simp [e, a2]
      · simp [e, h.has j k hj1 hj3]
    · rw [if_neg ej, h.has j k hj1 hj3]
      by_cases e : k = s
      · subst e
        have a1 : ¬ i = j := fun e => ej e.symm
        rw [if_pos rfl, e0]
        simp only [beq_eq_false_iff_ne.2 a1, beq_eq_false_iff_ne.2 a2]
      · rw [if_neg e]
  · intro j k p g v' hj1 hj3 hk hm
    rw [List.getElem?_set] at hk
    unfold updMs updM at hm
    by_cases e : s = k
    · subst e
      by_cases ej : j = i
      · subst ej
        rw [if_pos rfl, if_pos rfl] at hm
        cases hm
      · rw [if_neg ej] at hm
        have := h.has j s hj1 hj3
        rw [hm, e0] at this
        have a1 : ¬ i = j := fun e => ej e.symm
        simp [a1] at this
    · rw [if_neg e] at hk
      have ek : ¬ k = s := fun e2 => e e2.symm
      by_cases ej : j = i
      · subst ej
        rw [if_pos rfl, if_neg ek] at hm
        exact h.at_ j k p g v' hj1 hj3 hk hm
      · rw [if_neg ej] at hm
        exact h.at_ j k p g v' hj1 hj3 hk hm
  · intro j hj1 hj3
    unfold updNs
    have hsn : s < n := by rw [← h.ll]; exact hsl
    have a2 : ¬ 0 = j := by omega
    by_cases ej : j = i
    · subst ej
      have hc := cnt_out (isOf L j) s (by rw [e0]; simp) n hsn
      rw [if_pos rfl, h.num j hj1 hj3, show cnt (isOf L j) n - 1 = cnt (fun x => isOf L j x && x != s) n by omega]
      refine cnt_congr n (fun y hy => ?_)
      rw [isOf_set hsl]
      by_cases e : y = s
      · simp [e, a2]
      · simp [e]
    · rw [if_neg ej, h.num j hj1 hj3]
      refine cnt_congr n (fun y hy => ?_)
      rw [isOf_set hsl]
      by_cases e : y = s
      · subst e
        have a1 : ¬ i = j := fun e => ej e.symm
        rw [if_pos rfl, e0]
        simp only [beq_eq_false_iff_ne.2 a1, beq_eq_false_iff_ne.2 a2]
      · rw [if_neg e]

/-- A thing is written. -/
theorem PV.write (h : PV n G fr MM nn L) {s i : Nat} {q : Sl} (hs : L[s]? = some q) (h1 : 1 ≤ i) (h3 : i ≤ 3) (hw : q.who = i) (x : ByteArray) (v : Value) (hv : i ≠ 2 → v = .string x) :
    PV n G fr (updMs MM i s (some (q.g, v))) nn (L.set s ⟨q.g, q.who, x⟩) := by
  have hsl : s < L.length := (List.getElem?_eq_some_iff.1 hs).1
  have hof : ∀ a y, isOf (L.set s ⟨q.g, q.who, x⟩) a y = isOf L a y := fun a y => by
    rw [isOf_set hsl]
    by_cases e : y = s
    · subst e; rw [if_pos rfl, isOf_at hs]
    · rw [if_neg e]
  refine ⟨h.gl, by rw [List.length_set]; exact h.ll, ?_, fun k => by rw [hof]; exact h.free k, ?_, ?_, fun j hj1 hj3 => by rw [h.num j hj1 hj3]; exact cnt_congr n (fun y _ => (hof j y).symm)⟩
  · intro k p hk
    rw [List.getElem?_set] at hk
    by_cases e : s = k
    · subst e
      rw [if_pos rfl, if_pos hsl] at hk
      injection hk with hk
      subst hk
      exact h.gen s q hs
    · rw [if_neg e] at hk
      exact h.gen k p hk
  · intro j k hj1 hj3
    rw [hof]
    unfold updMs updM
    by_cases ej : j = i
    · subst ej
      rw [if_pos rfl]
      by_cases e : k = s
      · subst e; rw [if_pos rfl, isOf_at hs, hw]; simp
      · rw [if_neg e]; exact h.has j k hj1 hj3
    · rw [if_neg ej]; exact h.has j k hj1 hj3
  · intro j k p g v' hj1 hj3 hk hm
    rw [List.getElem?_set] at hk
    unfold updMs updM at hm
    by_cases e : s = k
    · subst e
      rw [if_pos rfl, if_pos hsl] at hk
      injection hk with hk
      subst hk
      by_cases ej : j = i
      · subst ej
        rw [if_pos rfl, if_pos rfl] at hm
        injection hm with hm
        injection hm with hm1 hm2
        exact ⟨hm1.symm, fun e2 => by rw [← hm2]; exact hv e2⟩
      · rw [if_neg ej] at hm
        have := h.has j s hj1 hj3
        rw [hm, isOf_at hs, hw] at this
        have a1 : ¬ i = j := fun e => ej e.symm
        simp [a1] at this
    · rw [if_neg e] at hk
      have ek : ¬ k = s := fun e2 => e e2.symm
      by_cases ej : j = i
      · subst ej
        rw [if_pos rfl, if_neg ek] at hm
        exact h.at_ j k p g v' hj1 hj3 hk hm
      · rw [if_neg ej] at hm
        exact h.at_ j k p g v' hj1 hj3 hk hm

/-- The handles of an arena are the document's. -/
theorem PV.handles (h : PV n G fr MM nn L) {i : Nat} (h1 : 1 ≤ i) (h3 : i ≤ 3) {xs : List Nat} (hm : ∀ x, x ∈ xs ↔ (MM i x).isSome = true) (hu : xs.Pairwise (· < ·)) :
    (xs.map fun x => (x, genOf (MM i) x)) = dhs L i n ∧ xs.length = nn i := by
  have hg : ∀ k q, L[k]? = some q → q.who = i → genOf (MM i) k = q.g := fun k q hk hw => by
    have hs := h.has i k h1 h3
    rw [isOf_at hk, hw] at hs
    simp only [beq_self_eq_true] at hs
    obtain ⟨p, hp⟩ := Option.isSome_iff_exists.1 hs
    obtain ⟨g, v⟩ := p
    have := (h.at_ i k q g v h1 h3 hk hp).1
    unfold genOf
    rw [hp]
    exact this
  have e := dhs_map L i (genOf (MM i)) hg n
  have e2 : xs = dsl L i n := rising_one hu (dsl_up L i n) (fun x => by
    rw [hm x, h.has i x h1 h3, dsl_mem]
    exact ⟨fun hx => ⟨by rw [← h.ll]; exact isOf_lt hx, hx⟩, fun hx => hx.2⟩)
  refine ⟨by rw [e, e2], ?_⟩
  have e3 : (dhs L i n).length = (dsl L i n).length := by rw [e, List.length_map]
  rw [e2, ← e3, dhs_len, h.num i h1 h3]
theorem PV.bound (h : PV n G fr MM nn L) {i x : Nat} (h1 : 1 ≤ i) (h3 : i ≤ 3) (hx : (MM i x).isSome = true) : x < n := by
  rw [h.has i x h1 h3] at hx
  rw [← h.ll]; exact isOf_lt hx
theorem PV.freeAll (h : PV n G fr MM nn L) : cnt fr n = cnt (dfr L) n := cnt_congr n (fun x _ => h.free x)
theorem PV.le (h : PV n G fr MM nn L) {i : Nat} (h1 : 1 ≤ i) (h3 : i ≤ 3) : nn i ≤ n := by rw [h.num i h1 h3]; exact cnt_le _ _
end
end Go.Proofs.YtbdfbgkfhaiccaaDoor
