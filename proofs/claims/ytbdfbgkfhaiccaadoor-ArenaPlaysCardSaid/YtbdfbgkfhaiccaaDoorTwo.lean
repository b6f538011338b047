/-
  The state of two arenas of one pool, with the set of slots that are taken: what holds of it, and what becomes of it.
-/
import Derived.Test.YtbdfbgkfhaiccaaDoorAr
namespace Go.Proofs.YtbdfbgkfhaiccaaDoor
open Go.RowKit Go.Maps
set_option linter.unusedVariables false

structure Inv (n : Nat) (G : List Nat) (fr : Nat → Bool) (Ma Mb : Nat → Option (Nat × Value)) (na nb : Nat) (f : Int → Option Value) (ns : Nat) : Prop where
  glen : G.length = n
  free : ∀ x, fr x = true ↔ x < n ∧ Ma x = none ∧ Mb x = none
  one : ∀ x, Ma x = none ∨ Mb x = none
  inA : ∀ x p, Ma x = some p → x < n
  inB : ∀ x p, Mb x = some p → x < n
  slots : ∀ x : Nat, f (x : Int) = if (Ma x).isSome || (Mb x).isSome then some (.int .i64 1) else none
  sum : na + nb = ns
  all : ns + cnt fr n = n
  ca : na = cnt (fun x => (Ma x).isSome) n
  cb : nb = cnt (fun x => (Mb x).isSome) n

section
variable {n : Nat} {G : List Nat} {fr : Nat → Bool} {Ma Mb : Nat → Option (Nat × Value)} {na nb : Nat} {f : Int → Option Value} {ns : Nat}

theorem Inv.start (n : Nat) : Inv n (List.replicate n 1) (fun x => decide (x < n)) (fun _ => none) (fun _ => none) 0 0 (fun _ => none) 0 where
  glen := by simp
  free := by simp
  one := by simp
  inA := by simp
  inB := by simp
  slots := by simp
  sum := rfl
  all := by
    have : ∀ m, m ≤ n → cnt (fun x => decide (x < n)) m = m := by
      intro m hm
      induction m with
      | zero => rfl
      | succ m ih => rw [cnt, ih (by omega)]; simp; omega
    rw [this n (Nat.le_refl _)]
    omega
  ca := (cnt_none _ n (fun _ _ => rfl)).symm
  cb := (cnt_none _ n (fun _ _ => rfl)).symm

theorem Inv.put_set (h : Inv n G fr Ma Mb na nb f ns) {s : Nat} (hs : fr s = true) : f (s : Int) = none ∧ s < n ∧ Ma s = none ∧ Mb s = none := by
  obtain ⟨h1, h2, h3⟩ := (h.free s).1 hs
  exact ⟨by rw [h.slots s, h2, h3]; rfl, h1, h2, h3⟩

theorem Inv.putA (h : Inv n G fr Ma Mb na nb f ns) {s : Nat} (p : Nat × Value) (hs : fr s = true) : Inv n G (fun x => fr x && x != s) (updM Ma s (some p)) Mb (na + 1) nb (put f (s : Int) (.int .i64 1)) (ns + 1) where
  glen := h.glen
  free := fun x => by
    have := h.free x
    unfold updM
    by_cases hx : x = s
    · subst hx; simp
    · simp [hx, this]
  one := fun x => by
    unfold updM
    by_cases hx : x = s
    · subst hx; exact Or.inr (h.put_set hs).2.2.2
    · rw [if_neg hx]; exact h.one x
  inA := fun x q hq => by
    unfold updM at hq
    by_cases hx : x = s
    · subst hx; exact (h.put_set hs).2.1
    · rw [if_neg hx] at hq; exact h.inA x q hq
  inB := h.inB
  slots := fun x => by
    unfold updM put
    by_cases hx : x = s
    · subst hx; simp
    · rw [if_neg (by omega), if_neg hx]; exact h.slots x
  sum := by have := h.sum; omega
  all := by
    have := h.all
    have h2 := cnt_out fr s hs n (h.put_set hs).2.1
    omega
  ca := by
    rw [cnt_congr (q := fun x => (Ma x).isSome || x == s) n (fun x _ => by unfold updM; by_cases hx : x = s <;> simp [hx])]
    rw [cnt_in (fun x => (Ma x).isSome) s (by rw [(h.put_set hs).2.2.1]; rfl) n (h.put_set hs).2.1, ← h.ca]
  cb := h.cb

theorem Inv.putB (h : Inv n G fr Ma Mb na nb f ns) {s : Nat} (p : Nat × Value) (hs : fr s = true) : Inv n G (fun x => fr x && x != s) Ma (updM Mb s (some p)) na (nb + 1) (put f (s : Int) (.int .i64 1)) (ns + 1) where
  glen := h.glen
  free := fun x => by
    have := h.free x
    unfold updM
    by_cases hx : x = s
    · subst hx; simp
    · simp [hx, this]
  one := fun x => by
    unfold updM
    by_cases hx : x = s
    · subst hx; exact Or.inl (h.put_set hs).2.2.1
    · rw [if_neg hx]; exact h.one x
  inA := h.inA
  inB := fun x q hq => by
    unfold updM at hq
    by_cases hx : x = s
    · subst hx; exact (h.put_set hs).2.1
    · rw [if_neg hx] at hq; exact h.inB x q hq
  slots := fun x => by
    unfold updM put
    by_cases hx : x = s
    · subst hx; simp
    · rw [if_neg (by omega), if_neg hx]; exact h.slots x
  sum := by have := h.sum; omega
  all := by
    have := h.all
    have h2 := cnt_out fr s hs n (h.put_set hs).2.1
    omega
  ca := h.ca
  cb := by
    rw [cnt_congr (q := fun x => (Mb x).isSome || x == s) n (fun x _ => by unfold updM; by_cases hx : x = s <;> simp [hx])]
    rw [cnt_in (fun x => (Mb x).isSome) s (by rw [(h.put_set hs).2.2.2]; rfl) n (h.put_set hs).2.1, ← h.cb]

theorem Inv.posA (h : Inv n G fr Ma Mb na nb f ns) {x0 : Nat} {p : Nat × Value} (hp : Ma x0 = some p) : 0 < na := by
  have h2 := cnt_out (fun x => (Ma x).isSome) x0 (by rw [hp]; rfl) n (h.inA x0 p hp)
  have h3 := h.ca
  omega
theorem Inv.delA (h : Inv n G fr Ma Mb na nb f ns) {x0 u : Nat} {p : Nat × Value} (hp : Ma x0 = some p) : Inv n (G.set x0 u) (fun x => fr x || x == x0) (updM Ma x0 none) Mb (na - 1) nb (del f (x0 : Int)) (ns - 1) where
  glen := by rw [List.length_set]; exact h.glen
  free := fun x => by
    have := h.free x
    have hl := h.inA x0 p hp
    have hB : Mb x0 = none := (h.one x0).resolve_left (by rw [hp]; simp)
    unfold updM
    by_cases hx : x = x0
    · subst hx; simp [hl, hB]
    · simp [hx, this]
  one := fun x => by
    unfold updM
    split
    · exact Or.inl rfl
    · exact h.one x
  inA := fun x q hq => by
    unfold updM at hq
    split at hq
    · cases hq
    · exact h.inA x q hq
  inB := h.inB
  slots := fun x => by
    have hB : Mb x0 = none := (h.one x0).resolve_left (by rw [hp]; simp)
    unfold updM del
    by_cases hx : x = x0
    · subst hx; simp [hB]
    · rw [if_neg (by omega), if_neg hx]; exact h.slots x
  sum := by have := h.sum; have := h.posA hp; omega
  all := by
    have := h.all
    have h1 := h.sum
    have hf : fr x0 = false := by
      cases hfr : fr x0 with
      | false => rfl
      | true => have := ((h.free x0).1 hfr).2.1; rw [hp] at this; cases this
    have hn := h.posA hp
    have h2 := cnt_in fr x0 hf n (h.inA x0 p hp)
    omega
  ca := by
    have := h.posA hp
    rw [cnt_congr (q := fun x => (Ma x).isSome && x != x0) n (fun x _ => by unfold updM; by_cases hx : x = x0 <;> simp [hx])]
    have h2 := cnt_out (fun x => (Ma x).isSome) x0 (by rw [hp]; rfl) n (h.inA x0 p hp)
    have h3 := h.ca
    omega
  cb := h.cb

theorem Inv.posB (h : Inv n G fr Ma Mb na nb f ns) {x0 : Nat} {p : Nat × Value} (hp : Mb x0 = some p) : 0 < nb := by
  have h2 := cnt_out (fun x => (Mb x).isSome) x0 (by rw [hp]; rfl) n (h.inB x0 p hp)
  have h3 := h.cb
  omega
theorem Inv.delB (h : Inv n G fr Ma Mb na nb f ns) {x0 u : Nat} {p : Nat × Value} (hp : Mb x0 = some p) : Inv n (G.set x0 u) (fun x => fr x || x == x0) Ma (updM Mb x0 none) na (nb - 1) (del f (x0 : Int)) (ns - 1) where
  glen := by rw [List.length_set]; exact h.glen
  free := fun x => by
    have := h.free x
    have hl := h.inB x0 p hp
    have hA : Ma x0 = none := (h.one x0).resolve_right (by rw [hp]; simp)
    unfold updM
    by_cases hx : x = x0
    · subst hx; simp [hl, hA]
    · simp [hx, this]
  one := fun x => by
    unfold updM
    split
    · exact Or.inr rfl
    · exact h.one x
  inA := h.inA
  inB := fun x q hq => by
    unfold updM at hq
    split at hq
    · cases hq
    · exact h.inB x q hq
  slots := fun x => by
    have hA : Ma x0 = none := (h.one x0).resolve_right (by rw [hp]; simp)
    unfold updM del
    by_cases hx : x = x0
    · subst hx; simp [hA]
    · rw [if_neg (by omega), if_neg hx]; exact h.slots x
  sum := by have := h.sum; have := h.posB hp; omega
  all := by
    have := h.all
    have h1 := h.sum
    have hf : fr x0 = false := by
      cases hfr : fr x0 with
      | false => rfl
      | true => have := ((h.free x0).1 hfr).2.2; rw [hp] at this; cases this
    have hn := h.posB hp
    have h2 := cnt_in fr x0 hf n (h.inB x0 p hp)
    omega
  ca := h.ca
  cb := by
    have := h.posB hp
    rw [cnt_congr (q := fun x => (Mb x).isSome && x != x0) n (fun x _ => by unfold updM; by_cases hx : x = x0 <;> simp [hx])]
    have h2 := cnt_out (fun x => (Mb x).isSome) x0 (by rw [hp]; rfl) n (h.inB x0 p hp)
    have h3 := h.cb
    omega
end

/-- The world wr, that came of w: a pool, two arenas in it, and the set. -/
structure TwoSt (w wr : World) (n pb gb fb aa am ba bm sb : Nat) (G : List Nat) (fr : Nat → Bool) (Ma Mb : Nat → Option (Nat × Value)) (na nb : Nat) (f : Int → Option Value) (ns : Nat) : Prop where
  pool : Pool wr pb gb fb G fr
  a : Ar 92 100 wr aa am (.pointer (some ⟨pb, 0, none⟩)) Ma na
  b : Ar 89 97 wr ba bm (.pointer (some ⟨pb, 0, none⟩)) Mb nb
  s : IMap Tryd.prog 3 wr sb f ns
  n1 : am ≠ bm
  n2 : am ≠ sb
  n3 : bm ≠ sb
  old : Turn (fun _ => False) w wr
  new : w.heap.size ≤ gb ∧ w.heap.size ≤ fb ∧ w.heap.size ≤ am ∧ w.heap.size ≤ bm ∧ w.heap.size ≤ sb
  inv : Inv n G fr Ma Mb na nb f ns

theorem Ar.isMap {tA tP : TypeId} {w : World} {ab mb n : Nat} {pp : Value} {M : Nat → Option (Nat × Value)} (h : Ar tA tP w ab mb pp M n) : (∃ es cl, At w mb (.map es cl)) ∧ (∃ c, At w ab (.cells c tA (0, 0))) := by
  obtain ⟨f, h⟩ := h
  exact ⟨h.2.1.obj, _, h.1⟩
theorem Pool.rows {w : World} {pb gb fb : Nat} {G : List Nat} {fr : Nat → Bool} (h : Pool w pb gb fb G fr) : (∃ c, At w gb (.cells c 30 (0, 0))) ∧ (∃ c, At w fb (.cells c 30 (0, 0))) ∧ ∃ c, At w pb (.cells c 85 (0, 0)) := by
  obtain ⟨F, h1, h2, h3, _⟩ := h
  exact ⟨⟨_, h2⟩, ⟨_, h3⟩, _, h1⟩

/-- What X may hold, that nothing of an arena turns: rows of words, handles, and other maps. -/
def Far (w : World) (mb : Nat) (X : Nat → Prop) : Prop := ∀ i, X i → (∃ c t, At w i (.cells c t (0, 0)) ∧ (t = 30 ∨ t = 32)) ∨ ((∃ es cl, At w i (.map es cl)) ∧ i ≠ mb)

theorem Ar.far {X : Nat → Prop} {tA tP : TypeId} {w w' : World} {ab mb n : Nat} {pp : Value} {M : Nat → Option (Nat × Value)} (h : Ar tA tP w ab mb pp M n) (t : Turn X w w') (hX : Far w mb X) (hA : tA ≠ 30 ∧ tA ≠ 32) (hP : tP ≠ 30 ∧ tP ≠ 32) : Ar tA tP w' ab mb pp M n := by
  obtain ⟨f, h⟩ := h
  have nc : ∀ q c t', At w q (.cells c t' (0, 0)) → t' ≠ 30 ∧ t' ≠ 32 → ¬ X q := by
    intro q c t' hq ht hx
    rcases hX q hx with ⟨c2, t2, h2, h3⟩ | ⟨⟨es, cl, h2⟩, _⟩
    · have := hq.eq h2
      injection this with _ this
      rcases h3 with h3 | h3
      · exact ht.1 (this.trans h3)
      · exact ht.2 (this.trans h3)
    · have := hq.eq h2
      cases this
  refine ⟨f, h.turn t (nc _ _ _ h.1 hA) ?_ (fun q c hq => nc _ _ _ hq hP)⟩
  intro hx
  rcases hX mb hx with ⟨c2, t2, h2, _⟩ | ⟨_, h2⟩
  · exact h.2.1.ne h2 rfl
  · exact h2 rfl
theorem IMap.far {X : Nat → Prop} {w w' : World} {mb n : Nat} {f : Int → Option Value} (h : IMap Tryd.prog 3 w mb f n) (t : Turn X w w') (hX : Far w mb X) : IMap Tryd.prog 3 w' mb f n := by
  refine h.turn t ?_
  intro hx
  rcases hX mb hx with ⟨c2, t2, h2, _⟩ | ⟨_, h2⟩
  · exact h.ne h2 rfl
  · exact h2 rfl
theorem Pool.far {X : Nat → Prop} {w w' : World} {pb gb fb : Nat} {G : List Nat} {fr : Nat → Bool} (h : Pool w pb gb fb G fr) (t : Turn X w w') (hX : ∀ i, X i → (∃ c, At w i (.cells c 32 (0, 0))) ∨ (∃ es cl, At w i (.map es cl))) : Pool w' pb gb fb G fr := by
  obtain ⟨⟨c1, h1⟩, ⟨c2, h2⟩, ⟨c3, h3⟩⟩ := h.rows
  have nc : ∀ q c t', At w q (.cells c t' (0, 0)) → t' ≠ 32 → ¬ X q := by
    intro q c t' hq ht hx
    rcases hX q hx with ⟨c2, h2⟩ | ⟨es, cl, h2⟩
    · have := hq.eq h2
      injection this with _ this
      exact ht this
    · have := hq.eq h2
      cases this
  exact h.turn t (nc _ _ _ h3 (by decide)) (nc _ _ _ h1 (by decide)) (nc _ _ _ h2 (by decide))

section
variable {w wr wr' : World} {n pb gb fb aa am ba bm sb : Nat} {G : List Nat} {fr : Nat → Bool} {Ma Mb : Nat → Option (Nat × Value)} {na nb : Nat} {f : Int → Option Value} {ns : Nat}

/-- Rows of handles turn, new ones, or none: the state stays. -/
theorem TwoSt.far {X : Nat → Prop} (h : TwoSt w wr n pb gb fb aa am ba bm sb G fr Ma Mb na nb f ns) (t : Turn X wr wr') (hX : ∀ i, X i → (∃ c, At wr i (.cells c 32 (0, 0))) ∧ w.heap.size ≤ i) : TwoSt w wr' n pb gb fb aa am ba bm sb G fr Ma Mb na nb f ns := by
  have hF : ∀ mb, Far wr mb X := fun mb i hi => by
    obtain ⟨⟨c, hc⟩, _⟩ := hX i hi
    exact Or.inl ⟨c, 32, hc, Or.inr rfl⟩
  exact ⟨h.pool.far t (fun i hi => Or.inl (hX i hi).1), h.a.far t (hF _) (by decide) (by decide), h.b.far t (hF _) (by decide) (by decide), h.s.far t (hF _), h.n1, h.n2, h.n3, h.old.then t (fun i hi hx => by have := (hX i hx).2; omega), h.new, h.inv⟩
theorem TwoSt.same (h : TwoSt w wr n pb gb fb aa am ba bm sb G fr Ma Mb na nb f ns) (t : Turn (fun _ => False) wr wr') : TwoSt w wr' n pb gb fb aa am ba bm sb G fr Ma Mb na nb f ns := h.far t (fun _ hi => hi.elim)

theorem TwoSt.farA (h : TwoSt w wr n pb gb fb aa am ba bm sb G fr Ma Mb na nb f ns) (mb : Nat) (hne : mb ≠ am) : Far wr mb (fun i => i = gb ∨ i = fb ∨ i = am) := by
  obtain ⟨⟨c1, h1⟩, ⟨c2, h2⟩, _⟩ := h.pool.rows
  obtain ⟨⟨es, cl, h3⟩, _⟩ := h.a.isMap
  intro i hi
  rcases hi with rfl | rfl | rfl
  · exact Or.inl ⟨_, _, h1, Or.inl rfl⟩
  · exact Or.inl ⟨_, _, h2, Or.inl rfl⟩
  · exact Or.inr ⟨⟨_, _, h3⟩, Ne.symm hne⟩
theorem TwoSt.farB (h : TwoSt w wr n pb gb fb aa am ba bm sb G fr Ma Mb na nb f ns) (mb : Nat) (hne : mb ≠ bm) : Far wr mb (fun i => i = gb ∨ i = fb ∨ i = bm) := by
  obtain ⟨⟨c1, h1⟩, ⟨c2, h2⟩, _⟩ := h.pool.rows
  obtain ⟨⟨es, cl, h3⟩, _⟩ := h.b.isMap
  intro i hi
  rcases hi with rfl | rfl | rfl
  · exact Or.inl ⟨_, _, h1, Or.inl rfl⟩
  · exact Or.inl ⟨_, _, h2, Or.inl rfl⟩
  · exact Or.inr ⟨⟨_, _, h3⟩, Ne.symm hne⟩

/-- What is left of the state when the first arena has turned: all but the set. -/
theorem TwoSt.putA (h : TwoSt w wr n pb gb fb aa am ba bm sb G fr Ma Mb na nb f ns) {s : Nat} {p : Nat × Value} {wx : World} (hs : fr s = true) (hp : Pool wr' pb gb fb G (fun x => fr x && x != s)) (ha : Ar 92 100 wr' aa am (.pointer (some ⟨pb, 0, none⟩)) (updM Ma s (some p)) (na + 1))
    (t : Turn (fun i => i = fb ∨ i = am) wr wr') {X : Nat → Prop} (t2 : Turn X wr' wx) (hX : ∀ i, X i → (∃ c, At wr' i (.cells c 32 (0, 0))) ∧ w.heap.size ≤ i) {wy : World} (hI : IMap Tryd.prog 3 wy sb (put f (s : Int) (.int .i64 1)) (if (f (s : Int)).isSome then ns else ns + 1)) (t3 : Turn (· = sb) wx wy) :
    TwoSt w wy n pb gb fb aa am ba bm sb G (fun x => fr x && x != s) (updM Ma s (some p)) Mb (na + 1) nb (put f (s : Int) (.int .i64 1)) (ns + 1) := by
  obtain ⟨hfs, _⟩ := h.inv.put_set hs
  rw [hfs] at hI
  have t' := t.mono (Y := fun i => i = gb ∨ i = fb ∨ i = am) (fun i _ hi => Or.inr hi)
  have hb := h.b.far t' (h.farA bm (Ne.symm h.n1)) (by decide) (by decide)
  have hs' := h.s.far t' (h.farA sb (Ne.symm h.n2))
  have hF : ∀ mb, Far wr' mb X := fun mb i hi => by
    obtain ⟨⟨c, hc⟩, _⟩ := hX i hi
    exact Or.inl ⟨c, 32, hc, Or.inr rfl⟩
  have ha2 := ha.far t2 (hF _) (by decide) (by decide)
  have hb2 := hb.far t2 (hF _) (by decide) (by decide)
  have hp2 := hp.far t2 (fun i hi => Or.inl (hX i hi).1)
  have hs2 := hs'.far t2 (hF _)
  have hF3 : ∀ mb, mb ≠ sb → Far wx mb (· = sb) := fun mb hne i hi => by
    subst hi
    exact Or.inr ⟨hs2.obj, Ne.symm hne⟩
  obtain ⟨w1, w2, w3, w4, w5⟩ := h.new
  exact ⟨hp2.far t3 (fun i hi => by subst hi; exact Or.inr hs2.obj), ha2.far t3 (hF3 _ h.n2) (by decide) (by decide), hb2.far t3 (hF3 _ h.n3) (by decide) (by decide), hI, h.n1, h.n2, h.n3,
    ((h.old.then t (fun i hi hx => by omega)).then t2 (fun i hi hx => by have := (hX i hx).2; omega)).then t3 (fun i hi hx => by omega), h.new, h.inv.putA p hs⟩

theorem TwoSt.putB (h : TwoSt w wr n pb gb fb aa am ba bm sb G fr Ma Mb na nb f ns) {s : Nat} {p : Nat × Value} {wx : World} (hs : fr s = true) (hp : Pool wr' pb gb fb G (fun x => fr x && x != s)) (hb : Ar 89 97 wr' ba bm (.pointer (some ⟨pb, 0, none⟩)) (updM Mb s (some p)) (nb + 1))
    (t : Turn (fun i => i = fb ∨ i = bm) wr wr') {X : Nat → Prop} (t2 : Turn X wr' wx) (hX : ∀ i, X i → (∃ c, At wr' i (.cells c 32 (0, 0))) ∧ w.heap.size ≤ i) {wy : World} (hI : IMap Tryd.prog 3 wy sb (put f (s : Int) (.int .i64 1)) (if (f (s : Int)).isSome then ns else ns + 1)) (t3 : Turn (· = sb) wx wy) :
    TwoSt w wy n pb gb fb aa am ba bm sb G (fun x => fr x && x != s) Ma (updM Mb s (some p)) na (nb + 1) (put f (s : Int) (.int .i64 1)) (ns + 1) := by
  obtain ⟨hfs, _⟩ := h.inv.put_set hs
  rw [hfs] at hI
  have t' := t.mono (Y := fun i => i = gb ∨ i = fb ∨ i = bm) (fun i _ hi => Or.inr hi)
  have ha := h.a.far t' (h.farB am h.n1) (by decide) (by decide)
  have hs' := h.s.far t' (h.farB sb (Ne.symm h.n3))
  have hF : ∀ mb, Far wr' mb X := fun mb i hi => by
    obtain ⟨⟨c, hc⟩, _⟩ := hX i hi
    exact Or.inl ⟨c, 32, hc, Or.inr rfl⟩
  have ha2 := ha.far t2 (hF _) (by decide) (by decide)
  have hb2 := hb.far t2 (hF _) (by decide) (by decide)
  have hp2 := hp.far t2 (fun i hi => Or.inl (hX i hi).1)
  have hs2 := hs'.far t2 (hF _)
  have hF3 : ∀ mb, mb ≠ sb → Far wx mb (· = sb) := fun mb hne i hi => by
    subst hi
    exact Or.inr ⟨hs2.obj, Ne.symm hne⟩
  obtain ⟨w1, w2, w3, w4, w5⟩ := h.new
  exact ⟨hp2.far t3 (fun i hi => by subst hi; exact Or.inr hs2.obj), ha2.far t3 (hF3 _ h.n2) (by decide) (by decide), hb2.far t3 (hF3 _ h.n3) (by decide) (by decide), hI, h.n1, h.n2, h.n3,
    ((h.old.then t (fun i hi hx => by omega)).then t2 (fun i hi hx => by have := (hX i hx).2; omega)).then t3 (fun i hi hx => by omega), h.new, h.inv.putB p hs⟩

/-- A release from the first arena, and the set's own. -/
theorem TwoSt.delA (h : TwoSt w wr n pb gb fb aa am ba bm sb G fr Ma Mb na nb f ns) {x u : Nat} {p : Nat × Value} (hx : Ma x = some p) (hp : Pool wr' pb gb fb (G.set x u) (fun y => fr y || y == x)) (ha : Ar 92 100 wr' aa am (.pointer (some ⟨pb, 0, none⟩)) (updM Ma x none) (na - 1))
    (t : Turn (fun i => i = gb ∨ i = fb ∨ i = am) wr wr') {wx wy : World} (t2 : Turn (fun _ => False) wr' wx) (hI : IMap Tryd.prog 3 wy sb (del f (x : Int)) (if (f (x : Int)).isSome then ns - 1 else ns)) (t3 : Turn (· = sb) wx wy) :
    TwoSt w wy n pb gb fb aa am ba bm sb (G.set x u) (fun y => fr y || y == x) (updM Ma x none) Mb (na - 1) nb (del f (x : Int)) (ns - 1) := by
  have hfs : (f (x : Int)).isSome = true := by rw [h.inv.slots x, hx]; rfl
  rw [if_pos hfs] at hI
  have hb := (h.b.far t (h.farA bm (Ne.symm h.n1)) (by decide) (by decide)).same t2
  have hs2 := (h.s.far t (h.farA sb (Ne.symm h.n2))).turn t2 (fun h => h)
  have ha2 := ha.same t2
  have hp2 := hp.turn t2 (fun h => h) (fun h => h) (fun h => h)
  have hF3 : ∀ mb, mb ≠ sb → Far wx mb (· = sb) := fun mb hne i hi => by
    subst hi
    exact Or.inr ⟨hs2.obj, Ne.symm hne⟩
  obtain ⟨w1, w2, w3, w4, w5⟩ := h.new
  exact ⟨hp2.far t3 (fun i hi => by subst hi; exact Or.inr hs2.obj), ha2.far t3 (hF3 _ h.n2) (by decide) (by decide), hb.far t3 (hF3 _ h.n3) (by decide) (by decide), hI, h.n1, h.n2, h.n3,
    ((h.old.then t (fun i hi hx => by omega)).then t2 (fun i hi hx => hx.elim)).then t3 (fun i hi hx => by omega), h.new, h.inv.delA hx⟩
theorem TwoSt.delB (h : TwoSt w wr n pb gb fb aa am ba bm sb G fr Ma Mb na nb f ns) {x u : Nat} {p : Nat × Value} (hx : Mb x = some p) (hp : Pool wr' pb gb fb (G.set x u) (fun y => fr y || y == x)) (hb : Ar 89 97 wr' ba bm (.pointer (some ⟨pb, 0, none⟩)) (updM Mb x none) (nb - 1))
    (t : Turn (fun i => i = gb ∨ i = fb ∨ i = bm) wr wr') {wx wy : World} (t2 : Turn (fun _ => False) wr' wx) (hI : IMap Tryd.prog 3 wy sb (del f (x : Int)) (if (f (x : Int)).isSome then ns - 1 else ns)) (t3 : Turn (· = sb) wx wy) :
    TwoSt w wy n pb gb fb aa am ba bm sb (G.set x u) (fun y => fr y || y == x) Ma (updM Mb x none) na (nb - 1) (del f (x : Int)) (ns - 1) := by
  have hfs : (f (x : Int)).isSome = true := by rw [h.inv.slots x, hx]; simp
  rw [if_pos hfs] at hI
  have ha := (h.a.far t (h.farB am h.n1) (by decide) (by decide)).same t2
  have hs2 := (h.s.far t (h.farB sb (Ne.symm h.n3))).turn t2 (fun h => h)
  have hb2 := hb.same t2
  have hp2 := hp.turn t2 (fun h => h) (fun h => h) (fun h => h)
  have hF3 : ∀ mb, mb ≠ sb → Far wx mb (· = sb) := fun mb hne i hi => by
    subst hi
    exact Or.inr ⟨hs2.obj, Ne.symm hne⟩
  obtain ⟨w1, w2, w3, w4, w5⟩ := h.new
  exact ⟨hp2.far t3 (fun i hi => by subst hi; exact Or.inr hs2.obj), ha.far t3 (hF3 _ h.n2) (by decide) (by decide), hb2.far t3 (hF3 _ h.n3) (by decide) (by decide), hI, h.n1, h.n2, h.n3,
    ((h.old.then t (fun i hi hx => by omega)).then t2 (fun i hi hx => hx.elim)).then t3 (fun i hi hx => by omega), h.new, h.inv.delB hx⟩
end
end Go.Proofs.YtbdfbgkfhaiccaaDoor
