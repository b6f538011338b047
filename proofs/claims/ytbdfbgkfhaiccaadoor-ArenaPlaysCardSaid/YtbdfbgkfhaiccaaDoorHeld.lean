/-
  Two arenas of texts in one pool, with the lists of what is alive and of what is gone: what holds of them, and what becomes of it.
-/
import Derived.Test.YtbdfbgkfhaiccaaDoorWTwo
namespace Go.Proofs.YtbdfbgkfhaiccaaDoor
open Go.RowKit Go.Maps
set_option linter.unusedVariables false

structure Held where
  s : Nat
  g : Nat
  i : Nat
  x : ByteArray

def hcells (h : Held) : List Value := [.int .i64 (h.s : Int), .int .u64 (h.g : Int), .int .i64 (h.i : Int), .string h.x]
def flat4 (l : List Held) : List Value := l.flatMap hcells
theorem flat4_cons (h : Held) (r : List Held) : flat4 (h :: r) = .int .i64 (h.s : Int) :: .int .u64 (h.g : Int) :: .int .i64 (h.i : Int) :: .string h.x :: flat4 r := rfl
theorem flat4_len : ∀ l : List Held, (flat4 l).length = l.length * 4
  | [] => rfl
  | h :: r => by rw [flat4_cons]; simp only [List.length_cons, flat4_len r]; omega
theorem flat4_at : ∀ (l : List Held) (k : Nat) (h : Held), l[k]? = some h →
    (flat4 l)[k * 4]? = some (.int .i64 (h.s : Int)) ∧ (flat4 l)[k * 4 + 1]? = some (.int .u64 (h.g : Int)) ∧ (flat4 l)[k * 4 + 2]? = some (.int .i64 (h.i : Int)) ∧ (flat4 l)[k * 4 + 3]? = some (.string h.x)
  | [], k, p, h => by simp at h
  | q :: r, 0, p, h => by
    simp at h
    subst h
    exact ⟨rfl, rfl, rfl, rfl⟩
  | q :: r, k + 1, p, h => by
    have ih := flat4_at r k p (by simpa using h)
    rw [flat4_cons, show (k + 1) * 4 = k * 4 + 4 by omega, show k * 4 + 4 + 1 = (k * 4 + 1) + 4 by omega, show k * 4 + 4 + 2 = (k * 4 + 2) + 4 by omega, show k * 4 + 4 + 3 = (k * 4 + 3) + 4 by omega]
    simpa using ih
theorem flat4_append (a b : List Held) : flat4 (a ++ b) = flat4 a ++ flat4 b := by simp [flat4]
theorem flat4_take : ∀ (l : List Held) (k : Nat), flat4 (l.take k) = (flat4 l).take (k * 4)
  | [], k => by simp [flat4]
  | h :: r, 0 => by simp [flat4]
  | h :: r, k + 1 => by
    rw [List.take_succ_cons, flat4_cons, flat4_cons, flat4_take r k, show (k + 1) * 4 = k * 4 + 1 + 1 + 1 + 1 by omega]
    simp only [List.take_succ_cons]
theorem flat4_drop : ∀ (l : List Held) (k : Nat), flat4 (l.drop k) = (flat4 l).drop (k * 4)
  | [], k => by simp [flat4]
  | h :: r, 0 => by simp [flat4]
  | h :: r, k + 1 => by
    rw [List.drop_succ_cons, flat4_cons, flat4_drop r k, show (k + 1) * 4 = k * 4 + 1 + 1 + 1 + 1 by omega]
    simp only [List.drop_succ_cons]
theorem flat4_one : ∀ (l : List Held), ∀ u ∈ flat4 l, u.oneCell' = true
  | [], u, hu => by simp [flat4] at hu
  | h :: r, u, hu => by
    rw [flat4_cons] at hu
    simp only [List.mem_cons] at hu
    rcases hu with rfl | rfl | rfl | rfl | hu
    · rfl
    · rfl
    · rfl
    · rfl
    · exact flat4_one r u hu

/-- A row of such things that the call has made. -/
def Kept (w wr : World) (v : Value) (l : List Held) : Prop := wr.ownsRow w.heap.size 73 4 v l.length (flat4 l)

section
variable {w wr wr' : World} {v : Value} {l : List Held}
theorem Kept.start (w wr : World) : Kept w wr (.slice none 0 0) [] := ⟨rfl, Or.inl ⟨rfl, rfl⟩⟩
theorem Kept.form (h : Kept w wr v l) : ∃ A cap, v = .slice A l.length cap := by
  rcases h.2 with ⟨rfl, h0⟩ | ⟨g, cap, cur, rfl, _⟩
  · exact ⟨none, 0, by rw [h0]⟩
  · exact ⟨_, _, rfl⟩
theorem Kept.addr {A : Option Addr} {m cap : Nat} (h : Kept w wr (.slice A m cap) l) (hl : 0 < l.length) : ∃ g, A = some ⟨g, 0, none⟩ ∧ w.heap.size ≤ g ∧ g < wr.heap.size ∧ m = l.length ∧ l.length ≤ cap ∧ (∃ c, At wr g (.cells c 73 (0, 0))) ∧ ∀ j u, (flat4 l)[j]? = some u → wr.cell? ⟨g, j, none⟩ = some u := by
  rcases h.2 with ⟨_, h0⟩ | ⟨g, cap', cur, hv, hb, hg, hle, _, hsz, htake⟩
  · omega
  · injection hv with hA hm hc
    subst hc
    refine ⟨g, hA, hb, At.lt hg, hm, hle, ⟨_, hg⟩, fun j u hu => ?_⟩
    have hj : j < (flat4 l).length := (List.getElem?_eq_some_iff.1 hu).1
    rw [flat4_len] at hj
    rw [At.cell (f := (0, 0)) hg, ← hu, ← htake, List.getElem?_take, if_pos hj]
    simp
theorem Kept.at {A : Option Addr} {m cap k : Nat} {p : Held} (h : Kept w wr (.slice A m cap) l) (hk : l[k]? = some p) :
    ∃ g, A = some ⟨g, 0, none⟩ ∧ w.heap.size ≤ g ∧ g < wr.heap.size ∧ (∃ c, At wr g (.cells c 73 (0, 0))) ∧ wr.cell? ⟨g, k * 4, none⟩ = some (.int .i64 (p.s : Int)) ∧ wr.cell? ⟨g, k * 4 + 1, none⟩ = some (.int .u64 (p.g : Int)) ∧
      wr.cell? ⟨g, k * 4 + 2, none⟩ = some (.int .i64 (p.i : Int)) ∧ wr.cell? ⟨g, k * 4 + 3, none⟩ = some (.string p.x) := by
  have hkl : k < l.length := (List.getElem?_eq_some_iff.1 hk).1
  obtain ⟨g, hA, h1, h2, _, _, h3, hc⟩ := h.addr (by omega)
  obtain ⟨f1, f2, f3, f4⟩ := flat4_at l k p hk
  exact ⟨g, hA, h1, h2, h3, hc _ _ f1, hc _ _ f2, hc _ _ f3, hc _ _ f4⟩
theorem Kept.turn {X : Nat → Prop} (h : Kept w wr v l) (t : Turn X wr wr') (hX : ∀ i c, At wr i (.cells c 73 (0, 0)) → w.heap.size ≤ i → v.ownBlock = some i → ¬ X i) : Kept w wr' v l := by
  refine ⟨h.1, ?_⟩
  rcases h.2 with h0 | ⟨g, cap', cur, hv, hb, hg, r⟩
  · exact Or.inl h0
  · exact Or.inr ⟨g, cap', cur, hv, hb, At.turn (w := wr) hg t (hX g cur hg hb (by rw [hv]; rfl)), r⟩
theorem Kept.same (h : Kept w wr v l) (t : Turn (fun _ => False) wr wr') : Kept w wr' v l := h.turn t (fun _ _ _ _ _ h => h)
theorem Kept.own (h : Kept w wr v l) {i : Nat} (hi : v.ownBlock = some i) : (∃ c, At wr i (.cells c 73 (0, 0))) ∧ w.heap.size ≤ i ∧ i < wr.heap.size := by
  rcases h.2 with ⟨rfl, _⟩ | ⟨g, cap', cur, rfl, hb, hg, r⟩
  · cases hi
  · have : g = i := by simpa [Value.ownBlock] using hi
    subst this
    exact ⟨⟨_, hg⟩, hb, At.lt hg⟩

theorem info73 : (Tryd.prog.info? 73).map (fun i => (i.zero, i.size, i.bytes)) = some (some (.agg #[.int .i64 0, .int .u64 0, .int .i64 0, .string ⟨#[]⟩]), 4, 40) := by kernel_rfl

/-- append of what lies behind an address; where the new row lies. -/
theorem Kept.append (h : Kept w wr v l) (ad : Addr) (m c : Nat) (news : List Held) (hm : news.length = m) (hnews : ∀ j u, (flat4 news)[j]? = some u → wr.cell? (ad.add j) = some u) (hl : l.length + m < 100000) (hw : w.heap.size ≤ wr.heap.size) (ty : TypeId) :
    ∃ A cap w', (Builtin.append_ #[71, 71] ty #[v, .slice (some ad) m c]).run Tryd.prog wr = .ok (.slice A (l.length + m) cap) w' ∧ Kept w w' (.slice A (l.length + m) cap) (l ++ news) ∧ Turn (fun i => v.ownBlock = some i) wr w' ∧ ((Value.slice A (l.length + m) cap).ownBlock = v.ownBlock ∨ (Value.slice A (l.length + m) cap).ownBlock = some wr.heap.size) := by
  obtain ⟨i0, hi, hz0, hz1, hz2⟩ := info_parts info73
  obtain ⟨v', w', hr, h2, h3, _, h5⟩ := run_append_own_at (P := Tryd.prog) wr w.heap.size 71 ty 73 i0 _ 4 40 Tryd.underlying71 hi hz0 hz1 hz2 rfl (by omega) v l.length (flat4 l) h ad m c (flat4 news) (by rw [flat4_len, hm]) hnews (flat4_one news) (by unfold maxLen; omega) (by omega) hw
  have h2' : Kept w w' v' (l ++ news) := by
    unfold Kept
    rw [List.length_append, hm, flat4_append]
    exact h2
  obtain ⟨A, cap, hv⟩ := h2'.form
  rw [List.length_append, hm] at hv
  subst hv
  exact ⟨A, cap, w', hr, h2', (Turn.refl _ wr).grown h3 (fun k hk => Or.inl hk), h5⟩
end

/-! the state -/
def updMM (MM : Nat → Nat → Option (Nat × Value)) (i s : Nat) (o : Option (Nat × Value)) : Nat → Nat → Option (Nat × Value) := fun j => if j = i then updM (MM i) s o else MM j
def updN (nn : Nat → Nat) (i u : Nat) : Nat → Nat := fun j => if j = i then u else nn j

structure HInv (n : Nat) (G : List Nat) (fr : Nat → Bool) (MM : Nat → Nat → Option (Nat × Value)) (nn : Nat → Nat) (on gone : List Held) : Prop where
  glen : G.length = n
  free : ∀ x, fr x = true ↔ x < n ∧ MM 0 x = none ∧ MM 1 x = none
  one : ∀ x, MM 0 x = none ∨ MM 1 x = none
  gen : ∀ i, i < 2 → ∀ x g v, MM i x = some (g, v) → x < n ∧ g = G.getD x 0
  onM : ∀ h ∈ on, h.i < 2 ∧ MM h.i h.s = some (h.g, .string h.x)
  apart : on.Pairwise (fun a b => a.s ≠ b.s)
  dead : ∀ h ∈ gone, h.s < n ∧ h.g < G.getD h.s 0
  gens : ∀ x, x < n → 1 ≤ G.getD x 0 ∧ G.getD x 0 ≤ 1 + gone.length
  sum : nn 0 + nn 1 = on.length
  all : on.length + cnt fr n = n
  num : ∀ i, i < 2 → nn i = cnt (fun x => (MM i x).isSome) n

section
variable {n : Nat} {G : List Nat} {fr : Nat → Bool} {MM : Nat → Nat → Option (Nat × Value)} {nn : Nat → Nat} {on gone : List Held}

theorem HInv.start (n : Nat) : HInv n (List.replicate n 1) (fun x => decide (x < n)) (fun _ _ => none) (fun _ => 0) [] [] where
  glen := by simp
  free := by simp
  one := by simp
  gen := by simp
  onM := by simp
  apart := List.Pairwise.nil
  dead := by simp
  gens := fun x hx => by
    have : (List.replicate n 1).getD x 0 = 1 := by
      rw [List.getD_eq_getElem?_getD, List.getElem?_replicate, if_pos hx]; rfl
    rw [this]; simp
  sum := rfl
  all := by
    have := (Inv.start n).all
    simpa using this
  num := fun i _ => (cnt_none _ n (fun _ _ => rfl)).symm

theorem HInv.none_of (h : HInv n G fr MM nn on gone) {s : Nat} (hs : fr s = true) (i : Nat) (hi : i < 2) : MM i s = none := by
  obtain ⟨_, h1, h2⟩ := (h.free s).1 hs
  rcases i with _ | _ | i
  · exact h1
  · exact h2
  · omega

theorem HInv.other (h : HInv n G fr MM nn on gone) {i x : Nat} {p : Nat × Value} (hi : i < 2) (hp : MM i x = some p) : MM (1 - i) x = none := by
  rcases i with _ | _ | i
  · exact (h.one x).resolve_left (by rw [hp]; simp)
  · exact (h.one x).resolve_right (by rw [hp]; simp)
  · omega

theorem HInv.le (h : HInv n G fr MM nn on gone) (i : Nat) (hi : i < 2) : nn i ≤ n := by
  rw [h.num i hi]
  exact cnt_le _ _

theorem HInv.put (h : HInv n G fr MM nn on gone) {s i : Nat} (hi : i < 2) (hs : fr s = true) (x : ByteArray) :
    HInv n G (fun y => fr y && y != s) (updMM MM i s (some (G.getD s 0, .string x))) (updN nn i (nn i + 1)) (on ++ [⟨s, G.getD s 0, i, x⟩]) gone := by
  have hn := fun j hj => h.none_of hs j hj
  have hsn := ((h.free s).1 hs).1
  have e : ∀ j y, updMM MM i s (some (G.getD s 0, .string x)) j y = if j = i ∧ y = s then some (G.getD s 0, .string x) else MM j y := by
    intro j y
    unfold updMM updM
    by_cases hj : j = i
    · subst hj
      by_cases hy : y = s <;> simp [hy]
    · simp [hj]
  have hnone : ∀ j y, y ≠ s → updMM MM i s (some (G.getD s 0, .string x)) j y = MM j y := fun j y hy => by rw [e, if_neg (fun h => hy h.2)]
  constructor
  · exact h.glen
  · intro y
    by_cases hy : y = s
    · subst hy
      have hf : (fr y && y != y) = false := by simp
      constructor
      · intro hh
        exact absurd hh (by rw [hf]; simp)
      · rintro ⟨_, h1, h2⟩
        have : updMM MM i y (some (G.getD y 0, .string x)) i y = none := by
          rcases i with _ | _ | i
          · exact h1
          · exact h2
          · omega
        rw [e, if_pos ⟨rfl, rfl⟩] at this
        cases this
    · rw [hnone 0 y hy, hnone 1 y hy, ← h.free y]
      simp [hy]
  · intro y
    by_cases hy : y = s
    · subst hy
      rcases i with _ | _ | i
      · right; rw [e]; simp [hn 1 (by omega)]
      · left; rw [e]; simp [hn 0 (by omega)]
      · omega
    · rw [hnone 0 y hy, hnone 1 y hy]; exact h.one y
  · intro j hj y g v hv
    rw [e] at hv
    split at hv
    · rename_i hc
      injection hv with hv
      injection hv with hv _
      rw [hc.2]
      exact ⟨hsn, by rw [← hv]⟩
    · exact h.gen j hj y g v hv
  · intro p hp
    rcases List.mem_append.1 hp with hp | hp
    · obtain ⟨h1, h2⟩ := h.onM p hp
      refine ⟨h1, ?_⟩
      rw [hnone _ _ (fun e => by rw [e, hn p.i h1] at h2; cases h2)]
      exact h2
    · simp at hp
      subst hp
      exact ⟨hi, by rw [e]; simp⟩
  · rw [List.pairwise_append]
    refine ⟨h.apart, List.pairwise_singleton _ _, ?_⟩
    intro a ha b hb
    simp at hb
    subst hb
    obtain ⟨h1, h2⟩ := h.onM a ha
    intro e
    rw [e, hn a.i h1] at h2
    cases h2
  · exact h.dead
  · exact h.gens
  · have := h.sum
    rw [List.length_append]
    unfold updN
    rcases i with _ | _ | i
    · simp; omega
    · simp; omega
    · omega
  · have := h.all
    have h2 := cnt_out fr s hs n hsn
    simp only [List.length_append, List.length_cons, List.length_nil]
    omega
  · intro j hj
    unfold updN
    by_cases hji : j = i
    · subst hji
      rw [if_pos rfl, cnt_congr (q := fun y => (MM j y).isSome || y == s) n (fun y _ => by rw [e]; by_cases hy : y = s <;> simp [hy]), cnt_in (fun y => (MM j y).isSome) s (by rw [hn j hj]; rfl) n hsn, ← h.num j hj]
    · rw [if_neg hji, h.num j hj]
      refine cnt_congr n (fun y _ => ?_)
      rw [e, if_neg (fun h => hji h.1)]

theorem pair_erase {α : Type} {R : α → α → Prop} {l : List α} (h : l.Pairwise R) (m : Nat) : (l.take m ++ l.drop (m + 1)).Pairwise R := by
  have : (l.take m ++ l.drop (m + 1)).Sublist l := by
    rw [← List.eraseIdx_eq_take_drop_succ]
    exact List.eraseIdx_sublist l m
  exact h.sublist this
theorem mem_erase {α : Type} {l : List α} {m : Nat} {a : α} (h : a ∈ l.take m ++ l.drop (m + 1)) : a ∈ l := by
  have : (l.take m ++ l.drop (m + 1)).Sublist l := by
    rw [← List.eraseIdx_eq_take_drop_succ]
    exact List.eraseIdx_sublist l m
  exact this.subset h
theorem erase_ne {l : List Held} (h : l.Pairwise (fun a b => a.s ≠ b.s)) {m : Nat} {p : Held} (hp : l[m]? = some p) {a : Held} (ha : a ∈ l.take m ++ l.drop (m + 1)) : a.s ≠ p.s := by
  have hm : m < l.length := (List.getElem?_eq_some_iff.1 hp).1
  have hl : l = l.take m ++ p :: l.drop (m + 1) := by
    have : l[m] = p := (List.getElem?_eq_some_iff.1 hp).2
    rw [← this, ← List.drop_eq_getElem_cons hm, List.take_append_drop]
  rw [hl, List.pairwise_append] at h
  obtain ⟨_, h2, h3⟩ := h
  rcases List.mem_append.1 ha with ha | ha
  · exact h3 a ha p (by simp)
  · exact ((List.pairwise_cons.1 h2).1 a ha).symm

theorem HInv.del (h : HInv n G fr MM nn on gone) {m : Nat} {p : Held} (hp : on[m]? = some p) (hg : gone.length < 1000) :
    HInv n (G.set p.s ((G.getD p.s 0 + 1) % 18446744073709551616)) (fun y => fr y || y == p.s) (updMM MM p.i p.s none) (updN nn p.i (nn p.i - 1)) (on.take m ++ on.drop (m + 1)) (gone ++ [p]) := by
  have hm : m < on.length := (List.getElem?_eq_some_iff.1 hp).1
  have hpm : p ∈ on := List.mem_of_getElem? hp
  obtain ⟨hi, hM⟩ := h.onM p hpm
  obtain ⟨hsn, hgen⟩ := h.gen p.i hi p.s _ _ hM
  have hgs := h.gens p.s hsn
  have hmod : (G.getD p.s 0 + 1) % 18446744073709551616 = G.getD p.s 0 + 1 := Nat.mod_eq_of_lt (by omega)
  rw [hmod]
  have hG : ∀ y, (G.set p.s (G.getD p.s 0 + 1)).getD y 0 = if y = p.s then G.getD p.s 0 + 1 else G.getD y 0 := fun y => getD_set G _ _ _ (by rw [h.glen]; exact hsn)
  have hoth := h.other hi hM
  have e : ∀ j y, updMM MM p.i p.s none j y = if j = p.i ∧ y = p.s then none else MM j y := by
    intro j y
    unfold updMM updM
    by_cases hj : j = p.i
    · subst hj
      by_cases hy : y = p.s <;> simp [hy]
    · simp [hj]
  have hnone : ∀ j y, y ≠ p.s → updMM MM p.i p.s none j y = MM j y := fun j y hy => by rw [e, if_neg (fun h => hy h.2)]
  have hat : ∀ j, j < 2 → updMM MM p.i p.s none j p.s = none := by
    intro j hj
    rw [e]
    split
    · rfl
    · rename_i hc
      have hj1 : j = 1 - p.i := by
        have : j ≠ p.i := fun e => hc ⟨e, rfl⟩
        omega
      rw [hj1]; exact hoth
  have hfp : fr p.s = false := by
    cases hfr : fr p.s with
    | false => rfl
    | true => rw [h.none_of hfr p.i hi] at hM; cases hM
  constructor
  · rw [List.length_set]; exact h.glen
  · intro y
    by_cases hy : y = p.s
    · subst hy
      rw [hat 0 (by omega), hat 1 (by omega)]
      simp [hsn]
    · rw [hnone 0 y hy, hnone 1 y hy, ← h.free y]
      simp [hy]
  · intro y
    by_cases hy : y = p.s
    · subst hy; exact Or.inl (hat 0 (by omega))
    · rw [hnone 0 y hy, hnone 1 y hy]; exact h.one y
  · intro j hj y g v hv
    by_cases hy : y = p.s
    · subst hy; rw [hat j hj] at hv; cases hv
    · rw [hnone j y hy] at hv
      rw [hG, if_neg hy]
      exact h.gen j hj y g v hv
  · intro q hq
    obtain ⟨h1, h2⟩ := h.onM q (mem_erase hq)
    refine ⟨h1, ?_⟩
    rw [hnone _ _ (erase_ne h.apart hp hq)]
    exact h2
  · exact pair_erase h.apart m
  · intro q hq
    rw [hG]
    rcases List.mem_append.1 hq with hq | hq
    · obtain ⟨h1, h2⟩ := h.dead q hq
      refine ⟨h1, ?_⟩
      split
      · rename_i hc; rw [hc] at h2; omega
      · exact h2
    · simp at hq
      subst hq
      rw [if_pos rfl]
      exact ⟨hsn, by omega⟩
  · intro y hy
    rw [hG, List.length_append]
    have := h.gens y hy
    simp only [List.length_cons, List.length_nil]
    split <;> omega
  · have := h.sum
    have hpos : 0 < nn p.i := by
      rw [h.num p.i hi]
      have := cnt_out (fun x => (MM p.i x).isSome) p.s (by rw [hM]; rfl) n hsn
      omega
    have hlen : (on.take m ++ on.drop (m + 1)).length = on.length - 1 := by simp; omega
    rw [hlen]
    unfold updN
    have hc : p.i = 0 ∨ p.i = 1 := by omega
    rcases hc with hc | hc
    · rw [hc] at hpos ⊢; simp; omega
    · rw [hc] at hpos ⊢; simp; omega
  · have := h.all
    have h2 := cnt_in fr p.s hfp n hsn
    have hlen : (on.take m ++ on.drop (m + 1)).length = on.length - 1 := by simp; omega
    rw [hlen]
    omega
  · intro j hj
    unfold updN
    by_cases hji : j = p.i
    · subst hji
      rw [if_pos rfl, cnt_congr (q := fun y => (MM p.i y).isSome && y != p.s) n (fun y _ => by rw [e]; by_cases hy : y = p.s <;> simp [hy])]
      have := cnt_out (fun x => (MM p.i x).isSome) p.s (by rw [hM]; rfl) n hsn
      have := h.num p.i hi
      omega
    · rw [if_neg hji, h.num j hj]
      refine cnt_congr n (fun y _ => ?_)
      rw [e, if_neg (fun h => hji h.1)]
end
end Go.Proofs.YtbdfbgkfhaiccaaDoor
