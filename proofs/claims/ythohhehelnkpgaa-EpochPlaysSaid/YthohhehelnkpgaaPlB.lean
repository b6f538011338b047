/-
  The function that EpochPlays retires.
-/
import Derived.Test.YthohhehelnkpgaaPl
namespace Go.Proofs.Ythohhehelnkpgaa
open Go.RowKit Go.Maps Go.IntWalk Go.Lib
set_option linter.unusedVariables false

/-- How many may still be added by those that wait. -/
def pend (s : List AA) (g : Nat) : Nat := (s.drop g).countP fun a => a.h == 3
/-- What comes of running the first one. -/
def StP (s : List AA) (E : Ab) (s1 : List AA) (E1 : Ab) : Prop := ∃ a, s[E.gone]? = some a ∧
  ((a.h = 1 ∧ s1 = s ∧ E1 = E.take.pin a.t) ∨ (a.h = 2 ∧ s1 = s ∧ E1 = E.take.unpin a.t) ∨ (a.h = 3 ∧ s1 = s ++ [⟨2, 0, 0⟩] ∧ ∃ F, E1 = E.take.retire F) ∨ (a.h ≠ 1 ∧ a.h ≠ 2 ∧ a.h ≠ 3 ∧ s1 = s ∧ E1 = E.take))
/-- Bounds: k acts were done. -/
structure Bd (k : Nat) (s : List AA) (E : Ab) : Prop where
  pot : E.len + pend s E.gone ≤ 2 * k
  few : E.P.length ≤ k + E.gone
  slen : s.length = E.len
  k100 : k ≤ 100
theorem pend_take {s : List AA} {g : Nat} {a : AA} (h : s[g]? = some a) : pend s g = pend s (g + 1) + if a.h = 3 then 1 else 0 := by
  unfold pend
  have hl := (List.getElem?_eq_some_iff.1 h).1
  rw [List.drop_eq_getElem_cons hl, List.countP_cons]
  have : s[g] = a := (List.getElem?_eq_some_iff.1 h).2
  rw [this]
  by_cases h3 : a.h = 3 <;> simp [h3]
theorem pend_snoc (s : List AA) (g : Nat) (b : AA) (hg : g ≤ s.length) : pend (s ++ [b]) g = pend s g + if b.h = 3 then 1 else 0 := by
  unfold pend
  rw [List.drop_append_of_le_length hg, List.countP_append]
  by_cases h3 : b.h = 3 <;> simp [h3]
theorem StP.gone {s s1 : List AA} {E E1 : Ab} (h : StP s E s1 E1) : E1.gone = E.gone + 1 := by
  obtain ⟨a, _, h | h | h | h⟩ := h
  · rw [h.2.2]; exact (pin_keeps _ _).2.2.2
  · rw [h.2.2]; rfl
  · obtain ⟨_, _, F, hE⟩ := h; rw [hE]; rfl
  · rw [h.2.2.2.2]; rfl
theorem StP.coll {s s1 : List AA} {E E1 : Ab} (h : StP s E s1 E1) : E1.coll = E.coll := by
  obtain ⟨a, _, h | h | h | h⟩ := h
  · rw [h.2.2]; exact (pin_keeps _ _).2.1
  · rw [h.2.2]; rfl
  · obtain ⟨_, _, F, hE⟩ := h; rw [hE]; rfl
  · rw [h.2.2.2.2]; rfl
theorem StP.more {s s1 : List AA} {E E1 : Ab} (h : StP s E s1 E1) : E.fs.length ≤ E1.fs.length + 1 := by
  have ht : E.fs.length ≤ E.take.fs.length + 1 := by show _ ≤ E.fs.tail.length + 1; rw [List.length_tail]; omega
  obtain ⟨a, _, h | h | h | h⟩ := h
  · rw [h.2.2, (pin_keeps _ _).1]; exact ht
  · rw [h.2.2]; exact ht
  · obtain ⟨_, _, F, hE⟩ := h
    rw [hE]
    show _ ≤ (E.take.fs ++ [F]).length + 1
    rw [List.length_append]
    omega
  · rw [h.2.2.2.2]; exact ht
theorem Bd.step {k : Nat} {s s1 : List AA} {E E1 : Ab} (h : Bd k s E) (hf : E.fs ≠ []) (hs : StP s E s1 E1) : Bd k s1 E1 := by
  have hg := hs.gone
  have hl := Ab.take_len hf
  have h1 := h.pot
  have h2 := h.few
  have h3 := h.slen
  have hlt : E.gone < E.len := by have : 0 < E.fs.length := List.length_pos_iff.2 hf; unfold Ab.len; omega
  obtain ⟨a, ha, hc⟩ := hs
  have hp := pend_take ha
  rcases hc with ⟨e, rfl, rfl⟩ | ⟨e, rfl, rfl⟩ | ⟨e, rfl, F, rfl⟩ | ⟨_, _, _, rfl, rfl⟩
  · obtain ⟨p1, p2, p3, p4⟩ := pin_keeps E.take a.t
    refine ⟨by rw [p3, p4, hl]; show E.len + pend s1 (E.gone + 1) ≤ _; omega, ?_, by rw [p3, hl]; exact h3, h.k100⟩
    rw [hg]
    unfold Ab.pin
    split
    · show E.P.length ≤ _; omega
    · show (ins _ _ E.P).length ≤ _
      rw [ins_len]; omega
  · refine ⟨by show E.take.len + pend s1 (E.gone + 1) ≤ _; rw [hl]; omega, ?_, by show _ = E.take.len; rw [hl]; exact h3, h.k100⟩
    rw [hg]
    have : (del1 E.P a.t).length ≤ E.P.length := List.length_filter_le ..
    show (del1 E.P a.t).length ≤ _
    omega
  · have hr : (E.take.retire F).len = E.len + 1 := by
      have : (E.take.retire F).len = E.take.len + 1 := by simp [Ab.len, Ab.retire]; omega
      omega
    refine ⟨?_, by rw [hg]; show E.P.length ≤ _; omega, by rw [hr, List.length_append, h3]; rfl, h.k100⟩
    rw [hr, show (E.take.retire F).gone = E.gone + 1 from rfl, pend_snoc _ _ _ (by omega)]
    rw [if_pos e] at hp
    simp
    omega
  · exact ⟨by show E.take.len + pend s1 (E.gone + 1) ≤ _; rw [hl]; omega, by rw [hg]; show E.P.length ≤ _; omega, by show _ = E.take.len; rw [hl]; exact h3, h.k100⟩

def PlL (k Z xb qb eb : Nat) (D : Ab) (s : List AA) (E : Ab) (w : World) : Prop := Bd k s E ∧ ∃ rv av, PlR Z xb qb eb s E.fs E.gone E.len w rv av ∧ Dc Z w qb rv.ownBlock D

/-- The number is written: what holds behind it. -/
structure Ran (Z xb qb eb bx bn ba : Nat) (a : AA) (s : List AA) (E D : Ab) (w : World) : Prop where
  pl : ∃ rv av, Pl Z xb qb eb s E D w rv av
  bx_ : At w bx (.cells #[.pointer (some ⟨xb, 0, none⟩)] 31 (0, 0))
  ba_ : At w ba (.cells (acells a) 39 (0, 0))
  x_ : ∃ rv av cnt, At w xb (.cells #[.pointer (some ⟨eb, 0, none⟩), .pointer (some ⟨qb, 0, none⟩), rv, av, cnt, .bool false] 37 (0, 0))

/-- The first region's end: 'x.ran = append(x.ran, n)'. -/
theorem ran_written {Z xb qb eb : Nat} {s : List AA} {E D : Ab} {w : World} {rv av : Value} {bx bn ba : Nat} {a : AA} (hf : E.fs = FX bx bn ba :: E.fs.tail) (hw : E.wf) (h : PlR Z xb qb eb s E.fs E.gone E.len w rv av) (hd : Dc Z w qb rv.ownBlock D) (he : Ep Z w eb E.take)
    (q2 : At w bx (.cells #[.pointer (some ⟨xb, 0, none⟩)] 31 (0, 0))) (q4 : At w ba (.cells (acells a) 39 (0, 0))) (q6 : rv.ownBlock ≠ some bn) :
    ∃ v' w2, AppRun 27 27 rv (.slice (some ⟨w.heap.size, 0, none⟩) 1 1) v' ((w.alloc (.cells #[.int .i64 (E.gone : Int)] 3)).drew) w2 ∧ (∃ A c, v' = .slice A (E.gone + 1) c) ∧ w2.cell? ⟨xb, 2, none⟩ = some rv ∧ w2.frozen? ⟨xb, 2, none⟩ = false ∧
      Ran Z xb qb eb bx bn ba a s E.take D (w2.setCell ⟨xb, 2, none⟩ v') ∧ Tn XT Z w (w2.setCell ⟨xb, 2, none⟩ v') := by
  have hne : E.fs ≠ [] := by rw [hf]; simp
  have hsm : E.gone + E.fs.length ≤ 100000 := hw.small.2
  have hz : Z ≤ w.heap.size := Nat.le_trans h.base (Nat.le_of_lt h.x.lt)
  have t1 : Turn (fun _ => False) w ((w.alloc (.cells #[.int .i64 (E.gone : Int)] 3)).drew) := ((Turn.refl _ w).alloc _).drew
  have g1 : At ((w.alloc (.cells #[.int .i64 (E.gone : Int)] 3)).drew) w.heap.size (.cells #[.int .i64 (E.gone : Int)] 3 (0, 0)) := At.new w _
  have hR := h.same t1
  obtain ⟨v', w2, q, hrow, t2, ho⟩ := nums_append hR.ran w.heap.size 1 (E.gone : Int) g1 (by rw [rnl_len]; omega) (Nat.le_trans hz t1.size) 27
  have no3 : ∀ i c ty f, At ((w.alloc (.cells #[.int .i64 (E.gone : Int)] 3)).drew) i (.cells c ty f) → (ty ≠ 3 ∨ rv.ownBlock ≠ some i) → ¬ rv.ownBlock = some i := fun i c ty f hi hne e => by
    rcases hne with hne | hne
    · obtain ⟨⟨c2, h2⟩, _⟩ := own_block hR.ran e
      have := hi.eq h2
      injection this with _ e _
      exact hne e
    · exact hne e
  have x2 := hR.x.turn t2 (no3 _ _ _ _ hR.x (Or.inl (by decide)))
  have tz := set_turn w2 xb 2 v'
  have nox : ∀ i c ty f, At w2 i (.cells c ty f) → ty ≠ 37 → ¬ i = xb := fun i c ty f hi hne e => by
    subst e
    have := hi.eq x2
    injection this with _ e _
    exact hne e
  have old : ∀ i c ty f, At w i (.cells c ty f) → ty ≠ 37 → (ty ≠ 3 ∨ rv.ownBlock ≠ some i) → At (w2.setCell ⟨xb, 2, none⟩ v') i (.cells c ty f) := fun i c ty f hi h1 h2 => by
    have s1 := (hi.turn t1 (fun h => h))
    have s2 := s1.turn t2 (no3 _ _ _ _ s1 h2)
    exact s2.turn tz (nox _ _ _ _ s2 h1)
  have e2 : Ep Z w2 eb E.take := by
    obtain ⟨m, v, hE⟩ := he.same t1
    exact ⟨m, v, hE.turn t2 (no3 _ _ _ _ hE.at_ (Or.inl (by decide))) (fun i c f hi => no3 _ _ _ _ hi (Or.inl (by decide))) (fun i es c hi e => by
      obtain ⟨⟨c2, h2⟩, _⟩ := own_block hR.ran e
      cases hi.eq h2)⟩
  have tAll : Turn (fun i => rv.ownBlock = some i ∨ i = xb) w (w2.setCell ⟨xb, 2, none⟩ v') := (t1.mono (fun _ _ h => h.elim) |>.trans (t2.mono (fun i _ h => Or.inl h))).trans (tz.mono (fun i _ h => Or.inr h))
  have hsz1 : ((w.alloc (.cells #[.int .i64 (E.gone : Int)] 3)).drew).heap.size = w.heap.size + 1 := by simp
  have hav : ∀ i, v'.ownBlock = some i → rv.ownBlock = some i ∨ i = w.heap.size + 1 := fun i hi => by
    rcases ho with e | e
    · rw [e] at hi; exact Or.inl hi
    · rw [e, hsz1] at hi; injection hi with hi; exact Or.inr hi.symm
  have d4 : Dc Z (w2.setCell ⟨xb, 2, none⟩ v') qb v'.ownBlock D := by
    obtain ⟨p, l, ws, hD⟩ := hd
    have hD' := hD.turn tAll (fun i c ty f hi hty hx => by
      rcases hx with hx | hx
      · obtain ⟨⟨c2, h2⟩, _⟩ := own_block h.ran hx
        have := hi.eq h2
        injection this with _ e _
        subst e
        rcases hty with e | e | ⟨_, e2⟩
        · cases e
        · cases e
        · exact e2 hx
      · subst hx
        have := hi.eq h.x
        injection this with _ e _
        subst e
        rcases hty with e | e | ⟨e, _⟩ <;> cases e)
    have hnew : ∀ (v : Value) (l : List Int), Nums Z w v l → (∀ b, v.ownBlock = some b → rv.ownBlock ≠ some b) → ∀ b, v.ownBlock = some b → v'.ownBlock ≠ some b := fun v l hv hn b hb e => by
      rcases hav b e with e2 | e2
      · exact hn b hb e2
      · have := (own_block hv hb).2.2; omega
    exact ⟨p, l, ws, hD'.at_, hD'.pins, hnew _ _ hD.pins hD.pav, hD'.row, hD'.len, fun i v hv => ⟨(hD'.waits i v hv).1, hnew _ _ (hD.waits i v hv).1 (hD.waits i v hv).2⟩, hD'.wf, hD'.base⟩
  have e4 := e2.other x2 (by decide) (by decide) tz
  have tn : Tn XT Z w (w2.setCell ⟨xb, 2, none⟩ v') := by
    have s2 : Tn XT Z ((w.alloc (.cells #[.int .i64 (E.gone : Int)] 3)).drew) w2 := Turn.mono t2 fun i _ e => by
      obtain ⟨⟨c2, h2⟩, h3, _⟩ := own_block hR.ran e
      exact ⟨h3, Or.inr ⟨c2, 3, _, Or.inr (Or.inl rfl), h2⟩⟩
    exact ((Tn.of_same t1).trans s2).trans (Tn.set x2 (Or.inr (Or.inr (Or.inl rfl))) h.base 2 _)
  have x4 := x2.set 2 v'
  have ha2 := own_turn (own_turn (own_turn h.acts t1 (fun _ _ _ _ _ h => h)) t2 (fun i c _ hi _ => no3 _ _ _ _ hi (Or.inl (by decide)))) tz (fun i c _ hi _ => nox _ _ _ _ hi (by decide))
  have hr2 := own_turn hrow tz (fun i c _ hi _ => nox _ _ _ _ hi (by decide))
  obtain ⟨A, c, rfl⟩ := own_form hrow
  have y2 := x2.cell 2
  have yz := x2.thawed 2
  refine ⟨_, w2, ⟨q⟩, ⟨A, c, by rw [rnl_len]⟩, by simpa using y2, yz, ⟨⟨_, av, ⟨?_, d4, e4⟩⟩, old _ _ _ _ q2 (by decide) (Or.inl (by decide)), old _ _ _ _ q4 (by decide) (Or.inl (by decide)), _, _, _, x4⟩, tn⟩
  have tl := Ab.take_len hne
  refine ⟨by rw [tl]; exact x4, ?_, ha2, fun i f hi => ?_, by rw [tl]; exact h.slen, h.base, h.ints⟩
  · rw [show E.take.gone = E.gone + 1 from rfl, rnl_succ]
    unfold Nums
    rw [List.length_append]
    exact hr2
  · obtain ⟨bx', bn', ba', a', k1, k2, k3, k4, k5, k6, k7⟩ := h.funcs (i + 1) f (by
      rw [show E.take.fs = E.fs.tail from rfl, List.getElem?_tail] at hi
      exact hi)
    have hidx : E.take.gone + i = E.gone + (i + 1) := by show E.gone + 1 + i = _; omega
    rw [hidx]
    refine ⟨bx', bn', ba', a', k1, old _ _ _ _ k2 (by decide) (Or.inl (by decide)), old _ _ _ _ k3 (by decide) (Or.inr k6), old _ _ _ _ k4 (by decide) (Or.inl (by decide)), k5, fun e => ?_, k7⟩
    rcases hav _ e with e2 | e2
    · exact k6 e2
    · have := k3.lt; omega

theorem xt_types : ∀ t, Eo t → XT t := fun t h => Or.inl h

end Go.Proofs.Ythohhehelnkpgaa
