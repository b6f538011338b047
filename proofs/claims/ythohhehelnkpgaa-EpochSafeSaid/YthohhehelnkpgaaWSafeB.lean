/-
  What EpochSafe keeps from step to step.
-/
import Derived.Test.YthohhehelnkpgaaWSafe
namespace Go.Proofs.Ythohhehelnkpgaa
open Go.RowKit Go.Maps Go.IntWalk Go.Lib
set_option linter.unusedVariables false

def SbT (t : TypeId) : Prop := SaT t ∨ t = 43 ∨ t = 44 ∨ t = 27
structure SaS (w wr : World) (Z eb ob wb rb pb : Nat) (b : Nat → Nat → Bool) (nw : Nat) (ns : List Int) (fs : List Value) (p : Nat → Bool) (E : Ab) (k : Nat) : Prop where
  ep : Ep Z wr eb E
  coll : E.coll = false
  eight : ∀ q ∈ E.P, 0 ≤ q.1 ∧ q.1 < 8
  few : E.P.length ≤ k
  len : E.len ≤ k
  pins : At wr pb (.cells (row8 p).toArray 43 (0, 0))
  zpb : Z ≤ pb
  raw : ∃ wv rv, SafR Z ob wb rb pb b nw ns fs E.gone wr wv rv
  tn : Tn SbT Z w wr
def SaI (w wr : World) (Z eb ob wb rb pb : Nat) (E : Ab) (k : Nat) : Prop := SaS w wr Z eb ob wb rb pb (onw E) E.len (rn E) E.fs (onb8 E) E k

theorem ne43 : ¬ Eo 43 := by rintro (h | h) <;> cases h
theorem row8_put (p : Nat → Bool) (k : Nat) (hk : k < 8) (v : Bool) : (row8 p).toArray.setIfInBounds k (.bool v) = (row8 fun i => if i = k then v else p i).toArray := by
  obtain rfl | rfl | rfl | rfl | rfl | rfl | rfl | rfl : k = 0 ∨ k = 1 ∨ k = 2 ∨ k = 3 ∨ k = 4 ∨ k = 5 ∨ k = 6 ∨ k = 7 := by omega
  all_goals simp [row8]

section
variable {w wr wr' : World} {Z eb ob wb rb pb nw k : Nat} {b b' : Nat → Nat → Bool} {ns : List Int} {fs : List Value} {p p' : Nat → Bool} {E E' : Ab}
theorem SaS.wf (h : SaS w wr Z eb ob wb rb pb b nw ns fs p E k) : E.wf := by obtain ⟨m, v, he⟩ := h.ep; exact he.wf
theorem SaS.same (h : SaS w wr Z eb ob wb rb pb b nw ns fs p E k) (t : Turn (fun _ => False) wr wr') : SaS w wr' Z eb ob wb rb pb b nw ns fs p E k := by
  obtain ⟨wv, rv, hr⟩ := h.raw
  exact ⟨h.ep.same t, h.coll, h.eight, h.few, h.len, h.pins.turn t (fun h => h), h.zpb, ⟨wv, rv, hr.turn t (fun _ _ _ _ h _ => h.elim)⟩, h.tn.trans (Tn.of_same t)⟩
theorem SaS.congr (h : SaS w wr Z eb ob wb rb pb b nw ns fs p E k) (hb : ∀ m, m < nw → ∀ i, i < 8 → b m i = b' m i) (hp : ∀ i, i < 8 → p i = p' i) : SaS w wr Z eb ob wb rb pb b' nw ns fs p' E k := by
  obtain ⟨wv, rv, hr⟩ := h.raw
  exact ⟨h.ep, h.coll, h.eight, h.few, h.len, by rw [← row8_ext hp]; exact h.pins, h.zpb, ⟨wv, rv, hr.o, hr.w_, hr.r, by rw [← flat8_ext nw hb]; exact hr.rows, hr.nums, hr.apart, hr.funcs, hr.base⟩, h.tn⟩
theorem SaS.pin8 (h : SaS w wr Z eb ob wb rb pb b nw ns fs p E k) (i : Nat) (hi : i < 8) : wr.cell? ⟨pb, i, none⟩ = some (.bool (p i)) := by
  rw [h.pins.cell, List.getElem?_toArray, row8_at p i hi]
/-- The epoch has turned; the law's own memory has not. -/
theorem SaS.step (h : SaS w wr Z eb ob wb rb pb b nw ns fs p E k) (he : Ep Z wr' eb E') (ht : Tn Eo Z wr wr') (h1 : E'.coll = false) (h2 : ∀ q ∈ E'.P, 0 ≤ q.1 ∧ q.1 < 8) (h3 : E'.P.length ≤ k + 1) (h4 : E'.len ≤ k + 1) (h5 : E'.gone = E.gone) :
    SaS w wr' Z eb ob wb rb pb b nw ns fs p E' (k + 1) := by
  obtain ⟨wv, rv, hr⟩ := h.raw
  exact ⟨he, h1, h2, h3, h4, h.pins.keep ht ne43, h.zpb, ⟨wv, rv, by rw [h5]; exact hr.keep ht⟩, h.tn.trans (ht.mono fun t h => Or.inl (Or.inl h))⟩
theorem SaS.pin (h : SaS w wr Z eb ob wb rb pb b nw ns fs p E k) {n : Nat} (hn : n < 8) (he : Ep Z wr' eb (E.pin (n : Int))) (ht : Tn Eo Z wr wr') : SaS w wr' Z eb ob wb rb pb b nw ns fs p (E.pin (n : Int)) (k + 1) := by
  obtain ⟨p1, p2, p3, p4⟩ := pin_keeps E (n : Int)
  refine h.step he ht (by rw [p2]; exact h.coll) (fun q hq => ?_) ?_ (by rw [p3]; have := h.len; omega) p4
  · unfold Ab.pin at hq
    split at hq
    · exact h.eight q hq
    · rcases mem_ins.1 hq with rfl | hq
      · exact ⟨by omega, by show (n : Int) < 8; omega⟩
      · exact h.eight q hq
  · have := h.few
    unfold Ab.pin
    split
    · omega
    · show (ins _ _ _).length ≤ _
      rw [ins_len]; omega
theorem SaS.unpin (h : SaS w wr Z eb ob wb rb pb b nw ns fs p E k) {n : Int} (he : Ep Z wr' eb (E.unpin n)) (ht : Tn Eo Z wr wr') : SaS w wr' Z eb ob wb rb pb b nw ns fs p (E.unpin n) (k + 1) := by
  refine h.step he ht h.coll (fun q hq => h.eight q (mem_del.1 hq).1) ?_ (by have := h.len; show E.len ≤ _; omega) rfl
  have h1 : (del1 E.P n).length ≤ E.P.length := List.length_filter_le ..
  have := h.few
  show (del1 E.P n).length ≤ _
  omega
/-- The pinned array is written. -/
theorem SaS.put (h : SaS w wr Z eb ob wb rb pb b nw ns fs p E k) {n : Nat} (hn : n < 8) (v : Bool) : SaS w (wr.setCell ⟨pb, n, none⟩ (.bool v)) Z eb ob wb rb pb b nw ns fs (fun i => if i = n then v else p i) E k := by
  have t := set_turn wr pb n (.bool v)
  obtain ⟨wv, rv, hr⟩ := h.raw
  have no : ∀ i c t f, At wr i (.cells c t f) → t ≠ 43 → ¬ i = pb := fun i c t f hi ht e => by
    subst e
    have := hi.eq h.pins
    injection this with _ e _
    exact ht e
  refine ⟨h.ep.other h.pins (by decide) (by decide) t, h.coll, h.eight, h.few, h.len, by rw [← row8_put p n hn v]; exact h.pins.set n (.bool v), h.zpb, ⟨wv, rv, hr.o.turn t (no _ _ _ _ hr.o (by decide)), hr.w_.turn t (no _ _ _ _ hr.w_ (by decide)), hr.r.turn t (no _ _ _ _ hr.r (by decide)), own_turn hr.rows t (fun i c hi _ _ e => hr.apart (by rw [hi, e])), own_turn hr.nums t (fun i c _ hi _ => no _ _ _ _ hi (by decide)), hr.apart, fun i f hi => ?_, hr.base⟩, h.tn.trans (Tn.set h.pins (Or.inr (Or.inl rfl)) h.zpb _ _)⟩
  obtain ⟨nb, h1, h2, h3, h4⟩ := hr.funcs i f hi
  exact ⟨nb, h1, h2, h3.turn t (no _ _ _ _ h3 (by decide)), h4⟩
theorem SaS.more (h : SaS w wr Z eb ob wb rb pb b nw ns fs p E k) : SaS w wr Z eb ob wb rb pb b nw ns fs p E (k + 1) :=
  ⟨h.ep, h.coll, h.eight, by have := h.few; omega, by have := h.len; omega, h.pins, h.zpb, h.raw, h.tn⟩
/-- A place of the rows is written. -/
theorem SaS.rowput (h : SaS w wr Z eb ob wb rb pb b nw ns fs p E k) {m n : Nat} (hm : m < nw) (hn : n < 8) : ∃ g cap, wr.cell? ⟨wb, 0, none⟩ = some (.slice (some ⟨g, 0, none⟩) nw cap) ∧ nw ≤ cap ∧ g < wr.heap.size ∧
    wr.cell? ⟨g, m * 8 + n, none⟩ = some (.bool (b m n)) ∧ wr.frozen? ⟨g, m * 8 + n, none⟩ = false ∧ ∀ v, SaS w (wr.setCell ⟨g, m * 8 + n, none⟩ (.bool v)) Z eb ob wb rb pb (upd8 b m n v) nw ns fs p E k := by
  obtain ⟨wv, rv, hr⟩ := h.raw
  obtain ⟨A, cap, rfl⟩ := own_form hr.rows
  obtain ⟨g, rfl, _, hc1, hzg, hgl, ⟨cg, hg⟩, hcell, hth, hput⟩ := own_at hr.rows (j := m * 8 + n) (by rw [flat8_len]; omega)
  have hcw := hr.w_.cell 0
  simp at hcw
  refine ⟨g, cap, hcw, hc1, hgl, hcell _ _ (flat8_at b nw m n hm hn), hth _, fun v => ?_⟩
  have t := set_turn wr g (m * 8 + n) (.bool v)
  have no : ∀ i c t f, At wr i (.cells c t f) → t ≠ 43 → ¬ i = g := fun i c t f hi ht e => by
    subst e
    have := hi.eq hg
    injection this with _ e _
    exact ht e
  have hr2 := hput (.bool v)
  rw [flat8_set b nw m n hm hn v] at hr2
  refine ⟨h.ep.other hg (by decide) (by decide) t, h.coll, h.eight, h.few, h.len, h.pins.turn t (fun e => hr.apart (by rw [e]; rfl)), h.zpb, ⟨_, rv, hr.o.turn t (no _ _ _ _ hr.o (by decide)), hr.w_.turn t (no _ _ _ _ hr.w_ (by decide)), hr.r.turn t (no _ _ _ _ hr.r (by decide)), hr2, own_turn hr.nums t (fun i c _ hi _ => no _ _ _ _ hi (by decide)), hr.apart, fun i f hi => ?_, hr.base⟩, h.tn.trans (Tn.set hg (Or.inr (Or.inl rfl)) hzg _ _)⟩
  obtain ⟨nb, h1, h2, h3, h4⟩ := hr.funcs i f hi
  exact ⟨nb, h1, h2, h3.turn t (no _ _ _ _ h3 (by decide)), h4⟩
theorem SaS.rowsAt (h : SaS w wr Z eb ob wb rb pb b nw ns fs p E k) : ∃ A cap, wr.cell? ⟨wb, 0, none⟩ = some (.slice A nw cap) := by
  obtain ⟨wv, rv, hr⟩ := h.raw
  obtain ⟨A, cap, rfl⟩ := own_form hr.rows
  have hcw := hr.w_.cell 0
  simp at hcw
  exact ⟨A, cap, hcw⟩
/-- A new number, for a function of its own. -/
theorem SaS.fresh (h : SaS w wr Z eb ob wb rb pb b nw ns fs p E k) (hg : E.gone + fs.length = nw) : SaS w (wr.alloc (.cells #[.int .i64 (nw : Int)] 3)) Z eb ob wb rb pb b nw ns (fs ++ [FS ob wb wr.heap.size rb]) p E k := by
  have t := (Turn.refl (fun _ => False) wr).alloc (.cells #[.int .i64 (nw : Int)] 3)
  have hs := h.same t
  obtain ⟨wv, rv, hr0⟩ := h.raw
  have hr := hr0.turn t (fun _ _ _ _ h _ => h.elim)
  refine ⟨hs.ep, hs.coll, hs.eight, hs.few, hs.len, hs.pins, hs.zpb, ⟨wv, rv, hr.o, hr.w_, hr.r, hr.rows, hr.nums, hr.apart, fun i f hi => ?_, hr.base⟩, hs.tn⟩
  rw [List.getElem?_append] at hi
  split at hi
  · exact hr.funcs i f hi
  · rename_i hge
    have : i - fs.length = 0 := by
      rcases Nat.eq_zero_or_pos (i - fs.length) with h0 | h0
      · exact h0
      · rw [List.getElem?_eq_none (by simp; omega)] at hi; cases hi
    rw [this] at hi
    simp at hi
    refine ⟨wr.heap.size, hi.symm, Nat.le_trans h.zpb (Nat.le_of_lt h.pins.lt), ?_, fun e => ?_⟩
    · rw [show E.gone + i = nw by omega]; exact At.new wr _
    · have := (own_block hr0.nums e).2.2; omega
/-- A row is added: who is pinned. -/
theorem SaS.grow (h : SaS w wr Z eb ob wb rb pb b nw ns fs p E k) {g0 : Nat} (hg0 : At wr g0 (.cells (row8 p).toArray 43 (0, 0))) (hbp : ∀ i, i < 8 → b nw i = p i) (hl : nw < 100000) : ∃ wv A' cap' w3, wr.cell? ⟨wb, 0, none⟩ = some wv ∧ (Builtin.append_ #[44, 44] 44 #[wv, .slice (some ⟨g0, 0, none⟩) 1 1]).run Try.prog wr = .ok (.slice A' (nw + 1) cap') w3 ∧ w3.frozen? ⟨wb, 0, none⟩ = false ∧ (w3.cell? ⟨wb, 0, none⟩).isSome = true ∧ wr.heap.size ≤ w3.heap.size ∧ SaS w (w3.setCell ⟨wb, 0, none⟩ (.slice A' (nw + 1) cap')) Z eb ob wb rb pb b (nw + 1) ns fs p E k := by
  obtain ⟨wv, rv, hr⟩ := h.raw
  have hzw : Z ≤ wr.heap.size := Nat.le_trans h.zpb (Nat.le_of_lt h.pins.lt)
  obtain ⟨v', w3, hrun, hrows, ht, hown⟩ := rows_append hr.rows g0 1 hg0 (by rw [show (row8 p).toArray.toList = row8 p from rfl]; exact (row8_ext hbp).symm) (by omega) hzw 44
  obtain ⟨A', cap', rfl⟩ := own_form hrows
  have hcw := hr.w_.cell 0
  simp at hcw
  have no : ∀ i c t f, At wr i (.cells c t f) → t ≠ 43 → ¬ wv.ownBlock = some i := fun i c t f hi htt e => by
    obtain ⟨⟨c2, h2⟩, _⟩ := own_block hr.rows e
    have := hi.eq h2
    injection this with _ e _
    exact htt e
  have w3w := hr.w_.turn ht (no _ _ _ _ hr.w_ (by decide))
  have tz := set_turn w3 wb 0 (.slice A' (nw + 1) cap')
  have no2 : ∀ i c t f, At w3 i (.cells c t f) → t ≠ 44 → ¬ i = wb := fun i c t f hi htt e => by
    subst e
    have := hi.eq w3w
    injection this with _ e _
    exact htt e
  have ep3 : Ep Z w3 eb E := by
    obtain ⟨m, v, he⟩ := h.ep
    refine ⟨m, v, he.turn ht (no _ _ _ _ he.at_ (by decide)) (fun i c f hi => no _ _ _ _ hi (by decide)) (fun i es c hi e => ?_)⟩
    obtain ⟨⟨c2, h2⟩, _⟩ := own_block hr.rows e
    cases hi.eq h2
  have tt : Tn SbT Z wr w3 := Turn.mono ht fun i _ e => by
    obtain ⟨⟨c2, h2⟩, h3, _⟩ := own_block hr.rows e
    exact ⟨h3, Or.inr ⟨c2, 43, _, Or.inr (Or.inl rfl), h2⟩⟩
  have pins3 := h.pins.turn ht hr.apart
  refine ⟨wv, A', cap', w3, hcw, hrun, w3w.thawed 0, by rw [w3w.cell 0]; rfl, ht.size, ⟨ep3.other w3w (by decide) (by decide) tz, h.coll, h.eight, h.few, h.len, pins3.turn tz (no2 _ _ _ _ pins3 (by decide)), h.zpb, ⟨.slice A' (nw + 1) cap', rv, ?_, ?_, ?_, ?_, ?_, ?_, ?_, hr.base⟩, (h.tn.trans tt).trans (Tn.set w3w (Or.inr (Or.inr (Or.inl rfl))) hr.base.2.1 0 _)⟩⟩
  · have := hr.o.turn ht (no _ _ _ _ hr.o (by decide)); exact this.turn tz (no2 _ _ _ _ this (by decide))
  · exact w3w.set 0 (.slice A' (nw + 1) cap')
  · have := hr.r.turn ht (no _ _ _ _ hr.r (by decide)); exact this.turn tz (no2 _ _ _ _ this (by decide))
  · exact own_turn hrows tz (fun i c _ hi _ => no2 _ _ _ _ hi (by decide))
  · have := own_turn hr.nums ht (fun i c _ hi _ => no _ _ _ _ hi (by decide)); exact own_turn this tz (fun i c _ hi _ => no2 _ _ _ _ hi (by decide))
  · rcases hown with e | e
    · rw [e]; exact hr.apart
    · rw [e]; intro e2; injection e2 with e2; have := h.pins.lt; omega
  · intro i f hi
    obtain ⟨nb, h1, h2, h3, h4⟩ := hr.funcs i f hi
    have := h3.turn ht (no _ _ _ _ h3 (by decide))
    exact ⟨nb, h1, h2, this.turn tz (no2 _ _ _ _ this (by decide)), h4⟩
/-- A number is added: not run yet. -/
theorem SaS.count (h : SaS w wr Z eb ob wb rb pb b nw ns fs p E k) {g0 : Nat} (hg0 : At wr g0 (.cells #[.int .i64 0] 3 (0, 0))) (hl : ns.length < 100000) : ∃ rv A' cap' w3, wr.cell? ⟨rb, 0, none⟩ = some rv ∧ (Builtin.append_ #[27, 27] 27 #[rv, .slice (some ⟨g0, 0, none⟩) 1 1]).run Try.prog wr = .ok (.slice A' (ns.length + 1) cap') w3 ∧ w3.frozen? ⟨rb, 0, none⟩ = false ∧ (w3.cell? ⟨rb, 0, none⟩).isSome = true ∧ SaS w (w3.setCell ⟨rb, 0, none⟩ (.slice A' (ns.length + 1) cap')) Z eb ob wb rb pb b nw (ns ++ [0]) fs p E k := by
  obtain ⟨wv, rv, hr⟩ := h.raw
  have hzw : Z ≤ wr.heap.size := Nat.le_trans h.zpb (Nat.le_of_lt h.pins.lt)
  obtain ⟨v', w3, hrun, hrows, ht, hown⟩ := nums_append hr.nums g0 1 0 hg0 (by omega) hzw 27
  obtain ⟨A', cap', rfl⟩ := own_form hrows
  have hcw := hr.r.cell 0
  simp at hcw
  have no : ∀ i c t f, At wr i (.cells c t f) → t ≠ 3 → ¬ rv.ownBlock = some i := fun i c t f hi htt e => by
    obtain ⟨⟨c2, h2⟩, _⟩ := own_block hr.nums e
    have := hi.eq h2
    injection this with _ e _
    exact htt e
  have w3w := hr.r.turn ht (no _ _ _ _ hr.r (by decide))
  have tz := set_turn w3 rb 0 (.slice A' (ns.length + 1) cap')
  have no2 : ∀ i c t f, At w3 i (.cells c t f) → t ≠ 27 → ¬ i = rb := fun i c t f hi htt e => by
    subst e
    have := hi.eq w3w
    injection this with _ e _
    exact htt e
  have ep3 : Ep Z w3 eb E := by
    obtain ⟨m, v, he⟩ := h.ep
    refine ⟨m, v, he.turn ht (no _ _ _ _ he.at_ (by decide)) (fun i c f hi => no _ _ _ _ hi (by decide)) (fun i es c hi e => ?_)⟩
    obtain ⟨⟨c2, h2⟩, _⟩ := own_block hr.nums e
    cases hi.eq h2
  have tt : Tn SbT Z wr w3 := Turn.mono ht fun i _ e => by
    obtain ⟨⟨c2, h2⟩, h3, _⟩ := own_block hr.nums e
    exact ⟨h3, Or.inr ⟨c2, 3, _, Or.inl (Or.inr (Or.inl rfl)), h2⟩⟩
  have pins3 := h.pins.turn ht (no _ _ _ _ h.pins (by decide))
  refine ⟨rv, A', cap', w3, hcw, hrun, w3w.thawed 0, by rw [w3w.cell 0]; rfl, ⟨ep3.other w3w (by decide) (by decide) tz, h.coll, h.eight, h.few, h.len, pins3.turn tz (no2 _ _ _ _ pins3 (by decide)), h.zpb, ⟨wv, .slice A' (ns.length + 1) cap', ?_, ?_, ?_, ?_, ?_, hr.apart, ?_, hr.base⟩, (h.tn.trans tt).trans (Tn.set w3w (Or.inr (Or.inr (Or.inr rfl))) hr.base.2.2 0 _)⟩⟩
  · have := hr.o.turn ht (no _ _ _ _ hr.o (by decide)); exact this.turn tz (no2 _ _ _ _ this (by decide))
  · have := hr.w_.turn ht (no _ _ _ _ hr.w_ (by decide)); exact this.turn tz (no2 _ _ _ _ this (by decide))
  · exact w3w.set 0 (.slice A' (ns.length + 1) cap')
  · have := own_turn hr.rows ht (fun i c _ hi _ => no _ _ _ _ hi (by decide)); exact own_turn this tz (fun i c _ hi _ => no2 _ _ _ _ hi (by decide))
  · rw [List.length_append]; exact own_turn hrows tz (fun i c _ hi _ => no2 _ _ _ _ hi (by decide))
  · intro i f hi
    obtain ⟨nb, h1, h2, h3, h4⟩ := hr.funcs i f hi
    have h5 := h3.turn ht h4
    refine ⟨nb, h1, h2, h5.turn tz (no2 _ _ _ _ h5 (by decide)), ?_⟩
    rcases hown with e | e
    · rw [e]; exact h4
    · rw [e]; intro e2; injection e2 with e2; have := h3.lt; omega
end
end Go.Proofs.Ythohhehelnkpgaa
