/-
  What EpochPlays keeps from act to act.
-/
import Derived.Test.YthohhehelnkpgaaPlD
import Derived.Test.YthohhehelnkpgaaPlE
namespace Go.Proofs.Ythohhehelnkpgaa
open Go.RowKit Go.Maps Go.IntWalk Go.Lib
set_option linter.unusedVariables false

structure Mid (w1 : World) (Z xb qb eb ab : Nat) (x : AA) (s : List AA) (E D : Ab) (rv av : Value) (wr : World) : Prop where
  pl : Pl Z xb qb eb s E D wr rv av
  a_ : At wr ab (.cells (acells x) 39 (0, 0))
  avn : av.ownBlock ≠ some ab
  tn : Tn XR Z w1 wr
structure PlM (w wr : World) (Z xb qb eb : Nat) (k : Nat) (s : List AA) (E : Ab) (rv av : Value) : Prop where
  pl : Pl Z xb qb eb s E E wr rv av
  bd : Bd k s E
  coll : E.coll = false
  tn : Tn XR Z w wr
def PlS (w wr : World) (Z xb qb eb k : Nat) : Prop := ∃ s E rv av, PlM w wr Z xb qb eb k s E rv av

section
variable {w w1 wr wr' W : World} {Z xb qb eb ab k : Nat} {x : AA} {s : List AA} {E D : Ab} {rv av : Value} {t : Int}
theorem Mid.same (h : Mid w1 Z xb qb eb ab x s E D rv av wr) (t : Turn (fun _ => False) wr wr') : Mid w1 Z xb qb eb ab x s E D rv av wr' :=
  ⟨h.pl.same t, h.a_.turn t (fun h => h), h.avn, h.tn.trans (Tn.of_same t)⟩
theorem PlM.same (h : PlM w wr Z xb qb eb k s E rv av) (t : Turn (fun _ => False) wr wr') : PlM w wr' Z xb qb eb k s E rv av :=
  ⟨h.pl.same t, h.bd, h.coll, h.tn.trans (Tn.of_same t)⟩
theorem Mid.S (h : Mid w1 Z xb qb eb ab x s E D rv av wr) : wr.cell? ⟨xb, 0, none⟩ = some (.pointer (some ⟨eb, 0, none⟩)) ∧ wr.cell? ⟨xb, 1, none⟩ = some (.pointer (some ⟨qb, 0, none⟩)) ∧ wr.cell? ⟨ab, 1, none⟩ = some (.int .i64 x.t) := by
  rw [h.pl.r.x.cell, h.pl.r.x.cell, h.a_.cell]
  exact ⟨rfl, rfl, rfl⟩
theorem ne39 : ¬ Eo 39 ∧ ¬ Ro 39 := ⟨(by rintro (h | h) <;> cases h), (by rintro (h | h) <;> cases h)⟩
/-- The epoch's call. -/
theorem Mid.ep {E' : Ab} (h : Mid w1 Z xb qb eb ab x s E D rv av wr) (he : Ep Z wr' eb E') (ht : Tn Eo Z wr wr') (h1 : E'.fs = E.fs) (h2 : E'.gone = E.gone) (h3 : E'.len = E.len) : Mid w1 Z xb qb eb ab x s E' D rv av wr' :=
  ⟨⟨by rw [h1, h2, h3]; exact h.pl.r.keep ht, h.pl.dc.keepE ht, he⟩, h.a_.keep ht ne39.1, h.avn, h.tn.trans (ht.mono fun t h => Or.inl (Or.inl h))⟩
/-- The document's. -/
theorem Mid.doc {D' : Ab} (h : Mid w1 Z xb qb eb ab x s E D rv av wr) (hd : Dc Z wr' qb rv.ownBlock D') (ht : Tr Ro Z wr wr') : Mid w1 Z xb qb eb ab x s E D' rv av wr' :=
  ⟨⟨h.pl.r.keepR (ht.tn fun _ h => h), hd, h.pl.ep.keepR ht⟩, h.a_.keep (ht.tn fun _ h => h) ne39.2, h.avn, h.tn.trans (ht.tn fun t h => Or.inr h)⟩
theorem Mid.pin (h : Mid w1 Z xb qb eb ab x s E D rv av wr) (hx : -9223372036854775808 ≤ x.t ∧ x.t ≤ 9223372036854775807) (hP : E.P.length < 100000) :
    Calls Try.prog 12 #[.pointer (some ⟨eb, 0, none⟩), .int .i64 x.t] wr fun e w' => e = .returned (.bool (!(look E.P x.t).isSome)) ∧ Mid w1 Z xb qb eb ab x s (E.pin x.t) D rv av w' :=
  (pin_any h.pl.ep hx.1 hx.2 hP).mono fun e w' ⟨he, hep, ht⟩ => by
    obtain ⟨p1, p2, p3, p4⟩ := pin_keeps E x.t
    exact ⟨he, h.ep hep ht p1 p4 p3⟩
theorem Mid.unpin (h : Mid w1 Z xb qb eb ab x s E D rv av wr) (hx : -9223372036854775808 ≤ x.t ∧ x.t ≤ 9223372036854775807) :
    Calls Try.prog 15 #[.pointer (some ⟨eb, 0, none⟩), .int .i64 x.t] wr fun e w' => e = .returned (.bool (look E.P x.t).isSome) ∧ Mid w1 Z xb qb eb ab x s (E.unpin x.t) D rv av w' :=
  (unpin_any h.pl.ep hx.1 hx.2).mono fun e w' ⟨he, hep, ht⟩ => ⟨he, h.ep hep ht rfl rfl rfl⟩
theorem Mid.rpin (h : Mid w1 Z xb qb eb ab x s E D rv av wr) (hx : -9223372036854775808 ≤ x.t ∧ x.t ≤ 9223372036854775807) (hP : D.P.length < 100000) :
    Calls Try.prog 19 #[.pointer (some ⟨qb, 0, none⟩), .int .i64 x.t] wr fun e w' => e = .returned (.bool (!(look D.P x.t).isSome)) ∧ Mid w1 Z xb qb eb ab x s E (D.pin x.t) rv av w' :=
  (rpin_any h.pl.dc hx.1 hx.2 hP h.pl.rv_old).mono fun e w' ⟨he, hd, ht⟩ => ⟨he, h.doc hd ht⟩
theorem Mid.runpin (h : Mid w1 Z xb qb eb ab x s E D rv av wr) :
    Calls Try.prog 20 #[.pointer (some ⟨qb, 0, none⟩), .int .i64 x.t] wr fun e w' => e = .returned (.bool (look D.P x.t).isSome) ∧ Mid w1 Z xb qb eb ab x s E (D.unpin x.t) rv av w' :=
  (runpin_any h.pl.dc x.t h.pl.rv_old).mono fun e w' ⟨he, hd, ht⟩ => ⟨he, h.doc hd ht⟩
theorem Mid.rretire (h : Mid w1 Z xb qb eb ab x s E D rv av wr) (hn : D.len < 100000) :
    Calls Try.prog 21 #[.pointer (some ⟨qb, 0, none⟩), .int .i64 (D.len : Int)] wr fun e w' => e = .returned (.tuple #[]) ∧ Mid w1 Z xb qb eb ab x s E (D.retire .nilFunc) rv av w' :=
  (rretire_any h.pl.dc .nilFunc hn h.pl.rv_old).mono fun e w' ⟨he, hd, ht⟩ => ⟨he, h.doc hd ht⟩
theorem Dc.swap {a : Option Nat} {f : Value} (h : Dc Z w qb a (E.retire f)) (F : Value) (hw : E.wf) (hn : E.len < 100000) : Dc Z w qb a (E.retire F) := by
  obtain ⟨p, l, ws, h⟩ := h
  have e1 : (E.retire f).fs.length = (E.retire F).fs.length := by simp [Ab.retire]
  exact ⟨p, l, ws, h.at_, h.pins, h.pav, by rw [← e1]; exact h.row, by rw [← e1]; exact h.len, h.waits, hw.retire F hn, h.base⟩
theorem Bd.more {k k' : Nat} (h : Bd k s E) (hk : k ≤ k') (h100 : k' ≤ 100) : Bd k' s E := ⟨by have := h.pot; omega, by have := h.few; omega, h.slen, h100⟩
theorem Mid.pinned (h : Mid w1 Z xb qb eb ab x s (E.pin x.t) (E.pin x.t) rv av wr) (hb : Bd k s E) (hc : E.coll = false) (hk : k < 100) : PlS w1 wr Z xb qb eb (k + 1) := by
  obtain ⟨p1, p2, p3, p4⟩ := pin_keeps E x.t
  refine ⟨s, _, rv, av, h.pl, ⟨by rw [p3, p4]; have := hb.pot; omega, ?_, by rw [p3]; exact hb.slen, by omega⟩, by rw [p2]; exact hc, h.tn⟩
  rw [p4]
  have := hb.few
  unfold Ab.pin
  split
  · omega
  · show (ins _ _ _).length ≤ _
    rw [ins_len]; omega
theorem Mid.unpinned (h : Mid w1 Z xb qb eb ab x s (E.unpin x.t) (E.unpin x.t) rv av wr) (hb : Bd k s E) (hc : E.coll = false) (hk : k < 100) : PlS w1 wr Z xb qb eb (k + 1) := by
  refine ⟨s, _, rv, av, h.pl, ⟨by have := hb.pot; show E.len + pend s E.gone ≤ _; omega, ?_, hb.slen, by omega⟩, hc, h.tn⟩
  have h1 : (del1 E.P x.t).length ≤ E.P.length := List.length_filter_le ..
  have := hb.few
  show (del1 E.P x.t).length ≤ _ + E.gone
  omega
theorem Mid.plain (h : Mid w1 Z xb qb eb ab x s E E rv av wr) (hb : Bd k s E) (hc : E.coll = false) (hk : k < 100) : PlS w1 wr Z xb qb eb (k + 1) :=
  ⟨s, E, rv, av, h.pl, hb.more (by omega) (by omega), hc, h.tn⟩
theorem Mid.retired (h : Mid w1 Z xb qb eb ab x s E (E.retire .nilFunc) rv av wr) (hx : -9223372036854775808 ≤ x.t ∧ x.t ≤ 9223372036854775807) (hb : Bd k s E) (hw : E.wf) (hc : E.coll = false) (hk : k < 100) :
    Calls Try.prog 22 #[.pointer (some ⟨xb, 0, none⟩), .agg (acells x)] wr fun e w' => e = .returned (.bool true) ∧ PlS w1 w' Z xb qb eb (k + 1) := by
  have h1 := hb.pot
  have h2 := hb.few
  have h3 := hb.slen
  have hg : E.gone ≤ E.len := Nat.le_add_right _ _
  refine (plretire_any h.pl x hx (by omega)).mono fun e w' ⟨he, F, av', hp, ht⟩ => ⟨he, s ++ [x], E.retire F, rv, av', ⟨hp.r, hp.dc.swap F hw (by omega), hp.ep⟩, ?_, hc, h.tn.trans (ht.mono fun t h => Or.inl h)⟩
  have hr : (E.retire F).len = E.len + 1 := by simp [Ab.len, Ab.retire]; omega
  refine ⟨?_, by show E.P.length ≤ k + 1 + E.gone; omega, by rw [hr, List.length_append, h3]; rfl, by omega⟩
  rw [hr, show (E.retire F).gone = E.gone from rfl, pend_snoc _ _ _ (by omega)]
  split <;> omega
theorem Mid.collect (h : Mid w1 Z xb qb eb ab x s E E rv av wr) (hb : Bd k s E) (hc : E.coll = false) (hk : k < 100) :
    Calls Try.prog 23 #[.pointer (some ⟨xb, 0, none⟩)] wr fun e w' => e = .returned (.bool true) ∧ PlS w1 w' Z xb qb eb (k + 1) :=
  (plcollect_any (PlL.runs plays_run k Z xb qb eb E) h.pl hb hc).mono fun e w' ⟨he, s', E', rv', av', hp, hb', hc', ht⟩ => ⟨he, s', E', rv', av', hp, hb'.more (by omega) (by omega), hc', h.tn.trans ht⟩
end
end Go.Proofs.Ythohhehelnkpgaa
