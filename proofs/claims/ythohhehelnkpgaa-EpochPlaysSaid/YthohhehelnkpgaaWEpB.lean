/-
  What an epoch's functions come to: Unpin.
-/
import Derived.Test.YthohhehelnkpgaaWEpA
namespace Go.Proofs.Ythohhehelnkpgaa
open Go.RowKit Go.Maps Go.IntWalk Go.Lib
set_option linter.unusedVariables false

section
variable {Z : Nat} {w w' : World} {eb : Nat} {m : Option Nat} {v : Value} {E : Ab} {t : Int}

theorem number_w {g n cap : Nat} {A : Option Addr} (c1 : w.cell? ⟨eb, 1, none⟩ = some (.slice A n cap)) (c2 : w.cell? ⟨eb, 2, none⟩ = some (.int .i64 (g : Int))) (hs : g + n ≤ 100000) :
    Calls Try.prog 27 #[.pointer (some ⟨eb, 0, none⟩)] w fun e w' => e = .returned (.int .i64 ((g + n : Nat) : Int)) ∧ ∃ k, w' = w.drewN k := by
  have he : wrap64 ((g : Int) + (n : Int)) = ((g + n : Nat) : Int) := by
    rw [wrap64_in _ (by omega)]
    omega
  go_enter Try.func27, Try.ntmps27
  go_wp2_with fail
  go_region
  go_wp2_with fail
  go_ret
  refine ⟨?_, _, rfl⟩
  first | rfl | simp

theorem unpin_nil (t : Int) (w : World) : Calls Try.prog 15 #[.pointer none, .int .i64 t] w fun e w' => e = .returned (.bool false) ∧ w' = w := by
  go_enter Try.func15, Try.ntmps15
  go_wp2
  go_ret
  exact ⟨rfl, rfl⟩

theorem unpin_no (h : EpAt Z w eb m v E) (h1 : -9223372036854775808 ≤ t) (h2 : t ≤ 9223372036854775807) (hl : look E.P t = none) : Calls Try.prog 15 #[.pointer (some ⟨eb, 0, none⟩), .int .i64 t] w fun e w' => e = .returned (.bool false) ∧ w' = w := by
  obtain ⟨c0, _⟩ := h.cells
  have hk := h.pm.look t h1 h2
  rw [hl] at hk
  clear h
  go_enter Try.func15, Try.ntmps15
  go_wp2_with fail
  go_ret
  exact ⟨rfl, rfl⟩

/-- What an Unpin has of the map behind the delete. -/
structure Dropped (Z : Nat) (w w2 : World) (eb b : Nat) (v : Value) (E : Ab) (t : Int) : Prop where
  pm : IMap Try.prog 3 w2 b (pv (del1 E.P t)) (del1 E.P t).length
  at_ : At w2 eb (.cells #[.map (some b), v, .int .i64 (E.gone : Int), .int .i64 (cntk E.P E.len : Int), .bool E.coll] 52 (0, 0))
  que : Que Z w2 v (wts E.P E.gone E.fs)
  tn : Tn Eo Z w w2
  base : Z ≤ eb ∧ Z ≤ b
theorem EpAt.drop {k : Nat} (h : EpAt Z w eb m v E) (h1 : -9223372036854775808 ≤ t) (h2 : t ≤ 9223372036854775807) (hl : look E.P t = some k) : ∃ b w2, m = some b ∧ (Builtin.delete_ #[49, 3] 0 #[.map m, .int .i64 t]).run Try.prog w = .ok (.tuple #[]) w2 ∧ Dropped Z w w2 eb b v E t := by
  rcases h.pm with ⟨rfl, hP⟩ | ⟨b, rfl, hz0, hI⟩
  · rw [hP] at hl; simp [look] at hl
  · obtain ⟨w2, hrun, hI2, ht⟩ := hI.drop law3 Try.underlying3 Try.underlying49 (wf64 h1 h2) 0
    have hb : eb ≠ b := fun e => hI.ne h.at_ e.symm
    obtain ⟨es, cl, ho⟩ := hI.obj
    have hz : (pv E.P t).isSome = true := by unfold pv; rw [hl]; rfl
    rw [if_pos hz] at hI2
    obtain ⟨_, hd⟩ := del_parts h.wf.up hl
    refine ⟨b, w2, rfl, hrun, ⟨?_, h.at_.turn ht hb, h.que.turn ht (fun i c f hi e => by subst e; cases ho.eq hi), Turn.mono ht fun i _ e => by subst e; exact ⟨hz0, Or.inl ⟨es, cl, ho⟩⟩, ⟨h.base, hz0⟩⟩⟩
    rw [hd, Nat.add_sub_cancel] at hI2
    refine IMap.congr (fun i => ?_) hI2
    unfold pv
    rw [look_del h.wf.up]
    unfold Ythohhehelnkpgaa.del
    by_cases hi : i = t <;> simp [hi]
theorem Dropped.same {w2 w3 : World} {b : Nat} (h : Dropped Z w w2 eb b v E t) (ht : Turn (fun _ => False) w2 w3) : Dropped Z w w3 eb b v E t :=
  ⟨h.pm.turn ht (fun h => h), h.at_.turn ht (fun h => h), h.que.turn ht (fun _ _ _ _ h => h), h.tn.trans (Tn.of_same ht), h.base⟩

/-- The task was pinned behind all that wait. -/
theorem Dropped.ahead {w2 : World} {b : Nat} (h : Dropped Z w w2 eb b v E t) (hw : E.wf) (hl : look E.P t = some E.len) : Ep Z (w2.setCell ⟨eb, 3, none⟩ (.int .i64 ((cntk E.P E.len : Int) - 1))) eb (E.unpin t) := by
  obtain ⟨hc, _⟩ := del_parts hw.up hl
  have hb : b ≠ eb := h.pm.ne h.at_
  have tz := set_turn w2 eb 3 (.int .i64 ((cntk E.P E.len : Int) - 1))
  have e1 : (cntk (E.unpin t).P (E.unpin t).len : Int) = (cntk E.P E.len : Int) - 1 := by
    have := hc E.len
    rw [if_pos rfl] at this
    show (cntk (del1 E.P t) E.len : Int) = _
    omega
  refine ⟨some b, v, ⟨?_, Or.inr ⟨b, rfl, h.base.2, h.pm.turn tz hb⟩, ?_, hw.unpin t, h.base.1⟩⟩
  · rw [e1]; exact h.at_.set 3 _
  · have h4 := h.que.turn tz (fun i c f hi e => by subst e; exact hi.ne h.at_ (by intro e; injection e with _ e; cases e) rfl)
    rwa [show wts (E.unpin t).P (E.unpin t).gone (E.unpin t).fs = wts E.P E.gone E.fs from wts_same _ _ (fun j h1 h2 => by
      have := hc j
      rw [if_neg (by have h3 : j < E.gone + E.fs.length := h2; unfold Ab.len; omega)] at this
      show cntk (del1 E.P t) j = _
      omega)]
/-- The task holds one that waits. -/
theorem Dropped.hold {w2 : World} {b k q off cap : Nat} (h : Dropped Z w w2 eb b (.slice (some ⟨q, off, none⟩) E.fs.length cap) E t) (hw : E.wf) (hl : look E.P t = some k) (hk : k < E.len) (hq : QueAt Z w2 q off cap (wts E.P E.gone E.fs)) :
    Ep Z (w2.setCell ⟨q, off + (k - E.gone) * 2 + 1, none⟩ (.int .i64 ((cntk E.P k : Int) - 1))) eb (E.unpin t) ∧ Tn Eo Z w (w2.setCell ⟨q, off + (k - E.gone) * 2 + 1, none⟩ (.int .i64 ((cntk E.P k : Int) - 1))) := by
  obtain ⟨hc, _⟩ := del_parts hw.up hl
  have hg := (hw.nums _ ((look_some hw.up).1 hl)).1
  simp only at hg
  have hb : b ≠ eb := h.pm.ne h.at_
  obtain ⟨c, hcq, _⟩ := hq.row
  have hqb : b ≠ q := h.pm.ne hcq
  have hqe : eb ≠ q := h.at_.ne hcq (by intro e; injection e with _ e; cases e)
  have hk2 : k < E.gone + E.fs.length := hk
  have hj : E.fs[k - E.gone]? = some (E.fs.getD (k - E.gone) .nilFunc) := by
    rw [List.getD_eq_getElem?_getD, List.getElem?_eq_getElem (by omega)]; rfl
  have hwt := wts_at (P := E.P) E.fs E.gone (k - E.gone) _ hj
  rw [show E.gone + (k - E.gone) = k by omega] at hwt
  have hck := hc k
  rw [if_pos rfl] at hck
  have hn : ((cntk E.P k : Int) - 1) = ((cntk (del1 E.P t) k : Nat) : Int) := by omega
  rw [hn]
  have tz := set_turn w2 q (off + (k - E.gone) * 2 + 1) (.int .i64 ((cntk (del1 E.P t) k : Nat) : Int))
  have hq2 := hq.hold hwt (cntk (del1 E.P t) k)
  have e1 : cntk (E.unpin t).P (E.unpin t).len = cntk E.P E.len := by
    have := hc E.len
    rw [if_neg (by omega)] at this
    show cntk (del1 E.P t) E.len = _
    omega
  have e2 : wts (E.unpin t).P (E.unpin t).gone (E.unpin t).fs = (wts E.P E.gone E.fs).set (k - E.gone) (E.fs.getD (k - E.gone) .nilFunc, cntk (del1 E.P t) k) :=
    wts_set _ _ _ hg hk2 (fun j hj => by
      have := hc j
      rw [if_neg (fun e => hj e.symm)] at this
      show cntk (del1 E.P t) j = _
      omega)
  refine ⟨⟨some b, .slice (some ⟨q, off, none⟩) E.fs.length cap, ⟨?_, Or.inr ⟨b, rfl, h.base.2, h.pm.turn tz hqb⟩, Or.inr ⟨q, off, cap, ?_, ?_⟩, hw.unpin t, h.base.1⟩⟩, h.tn.trans (Tn.set hcq (Or.inr rfl) hq.base _ _)⟩
  · rw [e1]; exact h.at_.turn tz hqe
  · rw [wts_len]; rfl
  · rw [e2]; exact hq2

set_option maxRecDepth 100000 in
theorem unpin_ahead (h : EpAt Z w eb m v E) (h1 : -9223372036854775808 ≤ t) (h2 : t ≤ 9223372036854775807) (hl : look E.P t = some E.len) :
    Calls Try.prog 15 #[.pointer (some ⟨eb, 0, none⟩), .int .i64 t] w fun e w' => e = .returned (.bool true) ∧ Ep Z w' eb (E.unpin t) ∧ Tn Eo Z w w' := by
  obtain ⟨b, w2, rfl, hrun, hD⟩ := h.drop h1 h2 hl
  obtain ⟨A, cap, rfl⟩ := h.form
  have c0 := h.cells.1
  have hk := h.pm.look t h1 h2
  rw [show pv E.P t = some (.int .i64 (E.len : Int)) by unfold pv; rw [hl]; rfl, hl] at hk
  have NB : Hid (Calls Try.prog 27 #[.pointer (some ⟨eb, 0, none⟩)] w2 fun e w' => e = .returned (.int .i64 (E.len : Int)) ∧ ∃ k, w' = w2.drewN k) := Lib.hid (number_w (hD.at_.cell 1) (hD.at_.cell 2) h.wf.small.2)
  have c3 := fun n => (hD.same ((Turn.refl _ w2).drewN n)).at_.cell 3
  have z3 := fun n => (hD.same ((Turn.refl _ w2).drewN n)).at_.thawed 3
  have hC2 := hD.same ((Turn.refl _ w2))
  have HD := Lib.hid (And.intro hD h)
  have hs := h.wf.small.2
  have cw := cnt_lt h.wf E.len
  generalize hC : cntk E.P E.len = C at cw c3
  replace hC := Lib.hid hC
  simp at c3 hk
  clear h hD hC2
  go_enter Try.func15, Try.ntmps15
  go_wp2_with fail
  refine NB.out.mono ?_
  rintro e w3 ⟨rfl, n3, rfl⟩
  go_wp2_with fail
  go_ret
  obtain rfl := hC.out
  have HD3 := HD.out.1.same ((Turn.refl _ w2).drewN n3)
  exact ⟨rfl, HD3.ahead HD.out.2.wf hl, HD3.tn.trans (Tn.set HD3.at_ (Or.inl rfl) HD3.base.1 _ _)⟩

set_option maxRecDepth 100000 in
theorem unpin_hold {k : Nat} (h : EpAt Z w eb m v E) (h1 : -9223372036854775808 ≤ t) (h2 : t ≤ 9223372036854775807) (hl : look E.P t = some k) (hlt : k < E.len) :
    Calls Try.prog 15 #[.pointer (some ⟨eb, 0, none⟩), .int .i64 t] w fun e w' => e = .returned (.bool true) ∧ Ep Z w' eb (E.unpin t) ∧ Tn Eo Z w w' := by
  obtain ⟨b, w2, rfl, hrun, hD⟩ := h.drop h1 h2 hl
  have hg := (h.wf.nums _ ((look_some h.wf.up).1 hl)).1
  simp only at hg
  have hk2 : k < E.gone + E.fs.length := hlt
  rcases h.que with ⟨_, h0⟩ | ⟨q, off, cap, rfl, hq⟩
  · have := wts_len (P := E.P) E.fs E.gone
    rw [h0] at this
    simp at this
    omega
  rw [wts_len] at *
  have hq2 : QueAt Z w2 q off cap (wts E.P E.gone E.fs) := by
    rcases hD.que with ⟨h0, _⟩ | ⟨q', off', cap', he, hq'⟩
    · cases h0
    · injection he with ha _ hc
      injection ha with ha
      injection ha with ha hb
      subst ha; subst hb; subst hc
      exact hq'
  have c0 := h.cells.1
  have hk := h.pm.look t h1 h2
  rw [show pv E.P t = some (.int .i64 (k : Int)) by unfold pv; rw [hl]; rfl, hl] at hk
  have NB : Hid (Calls Try.prog 27 #[.pointer (some ⟨eb, 0, none⟩)] w2 fun e w' => e = .returned (.int .i64 (E.len : Int)) ∧ ∃ k, w' = w2.drewN k) := Lib.hid (number_w (hD.at_.cell 1) (hD.at_.cell 2) h.wf.small.2)
  have c1 := fun n => (hD.same ((Turn.refl _ w2).drewN n)).at_.cell 1
  have c2 := fun n => (hD.same ((Turn.refl _ w2).drewN n)).at_.cell 2
  have hj : E.fs[k - E.gone]? = some (E.fs.getD (k - E.gone) .nilFunc) := by
    rw [List.getD_eq_getElem?_getD, List.getElem?_eq_getElem (by omega)]; rfl
  have hwt := wts_at (P := E.P) E.fs E.gone (k - E.gone) _ hj
  rw [show E.gone + (k - E.gone) = k by omega] at hwt
  have cq := fun n => (hq2.turn ((Turn.refl (fun _ => False) w2).drewN n) (fun h => h)).cell hwt |>.2
  have zq := fun n => (hq2.turn ((Turn.refl (fun _ => False) w2).drewN n) (fun h => h)).thaw (off + (k - E.gone) * 2 + 1)
  have HD := Lib.hid (And.intro hD (And.intro h hq2))
  have hs := h.wf.small.2
  have cw := cnt_lt h.wf k
  generalize hC : cntk E.P k = C at cw cq
  replace hC := Lib.hid hC
  have b0 : ¬ (k : Int) = (E.len : Int) := by omega
  have b1 : 0 ≤ (k : Int) - (E.gone : Int) := by omega
  have b2 : (k : Int) - (E.gone : Int) < (E.fs.length : Int) := by omega
  have b3 : ((k : Int) - (E.gone : Int)).toNat = k - E.gone := by omega
  simp at c1 c2 hk cq
  clear h hD hq hwt hj
  go_enter Try.func15, Try.ntmps15
  go_wp2_with fail
  refine NB.out.mono ?_
  rintro e w3 ⟨rfl, n3, rfl⟩
  go_wp2_with fail
  go_region
  go_wp2_with fail
  go_ret
  obtain rfl := hC.out
  have tn := (Turn.refl (fun _ => False) w2).drewN (n3 + 1)
  obtain ⟨r1, r2⟩ := (HD.out.1.same tn).hold HD.out.2.1.wf hl hlt (HD.out.2.2.turn tn (fun h => h))
  exact ⟨rfl, r1, r2⟩

/-- Unpin, whatever task. -/
theorem unpin_any (h : Ep Z w eb E) (h1 : -9223372036854775808 ≤ t) (h2 : t ≤ 9223372036854775807) :
    Calls Try.prog 15 #[.pointer (some ⟨eb, 0, none⟩), .int .i64 t] w fun e w' => e = .returned (.bool (look E.P t).isSome) ∧ Ep Z w' eb (E.unpin t) ∧ Tn Eo Z w w' := by
  obtain ⟨m, v, h⟩ := h
  cases hl : look E.P t with
  | none =>
    refine (unpin_no h h1 h2 hl).mono ?_
    rintro e w' ⟨rfl, rfl⟩
    refine ⟨rfl, ⟨m, v, ?_⟩, Tn.refl _ _ _⟩
    unfold Ab.unpin
    rw [del_none hl]
    exact h
  | some k =>
    have hg := (h.wf.nums _ ((look_some h.wf.up).1 hl)).2
    by_cases hk : k < E.len
    · exact unpin_hold h h1 h2 hl hk
    · obtain rfl : k = E.len := Nat.le_antisymm hg (by omega)
      exact unpin_ahead h h1 h2 hl
end
end Go.Proofs.Ythohhehelnkpgaa
