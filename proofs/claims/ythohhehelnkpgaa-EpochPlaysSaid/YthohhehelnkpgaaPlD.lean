import Derived.Test.YthohhehelnkpgaaPlC
import Derived.Deep.DeepCutAuto
import Derived.Deep.RegionHeld3
/-
  The function that EpochPlays retires.
-/
import Derived.Test.YthohhehelnkpgaaPl
namespace Go.Proofs.Ythohhehelnkpgaa
open Go.RowKit Go.Maps Go.IntWalk Go.Lib
set_option linter.unusedVariables false


/-- x.wrong is written as it was. -/
theorem Pl.set5 {Z xb qb eb : Nat} {s : List AA} {E D : Ab} {w : World} {rv av : Value} (h : Pl Z xb qb eb s E D w rv av) : Pl Z xb qb eb s E D (w.setCell ⟨xb, 5, none⟩ (.bool false)) rv av ∧ Tn XT Z w (w.setCell ⟨xb, 5, none⟩ (.bool false)) := by
  have tz := set_turn w xb 5 (.bool false)
  have x5 := h.r.x.set 5 (.bool false)
  have nox : ∀ i c ty f, At w i (.cells c ty f) → ty ≠ 37 → ¬ i = xb := fun i c ty f hi hne e => by
    subst e
    have := hi.eq h.r.x
    injection this with _ e _
    exact hne e
  exact ⟨⟨⟨x5, h.r.ran.turn tz (fun i c _ hi _ => nox _ _ _ _ hi (by decide)), own_turn h.r.acts tz (fun i c _ hi _ => nox _ _ _ _ hi (by decide)), fun i f hi => by
    obtain ⟨bx, bn, ba, a, q1, q2, q3, q4, q5, q6, q7⟩ := h.r.funcs i f hi
    exact ⟨bx, bn, ba, a, q1, q2.turn tz (nox _ _ _ _ q2 (by decide)), q3.turn tz (nox _ _ _ _ q3 (by decide)), q4.turn tz (nox _ _ _ _ q4 (by decide)), q5, q6, q7⟩, h.r.slen, h.r.base, h.r.ints⟩,
    h.dc.other h.r.x (by decide) (by decide) (Or.inl (by decide)) tz, h.ep.other h.r.x (by decide) (by decide) tz⟩, Tn.set h.r.x (Or.inr (Or.inr (Or.inl rfl))) h.r.base 5 _⟩

set_option maxRecDepth 100000 in
set_option maxHeartbeats 4000000 in
theorem plays_run_4 {k Z xb qb eb : Nat} {D : Ab} {s : List AA} {E : Ab} {w : World} {f : Value} {r : List Value} (hf : E.fs = f :: r) (hcoll : E.coll = true) (h0 : cntk E.P E.gone = 0) (hw : E.wf) (hL : PlL k Z xb qb eb D s E w) (hE : Ep Z w eb E.take) (hx : Hid (∀ a, s[E.gone]? = some a → a.h = 4)) :
    ∃ fn caps, f = .func (.func fn) #[] caps ∧ Enters Try.prog fn ∧ Calls Try.prog fn caps w fun e w' => e = .returned (.tuple #[]) ∧ ∃ s1 E1, StP s E s1 E1 ∧ PlL k Z xb qb eb D s1 E1 w' ∧ Ep Z w' eb E1 ∧ Tn XT Z w w' := by
  obtain ⟨hB, rv, av, hR, hD⟩ := hL
  have hne : E.fs ≠ [] := by rw [hf]; simp
  obtain ⟨bx, bn, ba, a, rfl, q2, q3, q4, q5, q6, q7⟩ := hR.funcs 0 f (by rw [hf]; rfl)
  rw [Nat.add_zero] at q3 q5
  refine ⟨36, _, rfl, enters_of Try.func36 (by kernel_rfl) rfl, ?_⟩
  have hf2 : E.fs = FX bx bn ba :: E.fs.tail := by rw [hf]; rfl
  obtain ⟨v', w2, HR, ⟨vA, vc, hvf⟩, y2, yz, hRan, htn⟩ := ran_written (a := a) hf2 hw hR hD hE q2 q4 q6
  subst hvf
  have hsm : E.gone + E.fs.length ≤ 100000 := hw.small.2
  obtain ⟨rA, rc, rfl⟩ := hR.ran.form
  rw [rnl_len] at *
  have lbx := q2.lt
  have lbn := q3.lt
  have lxb := hR.x.lt
  have cbx := q2.cell 0
  have cbn := q3.cell 0
  have cx2 := hR.x.cell 2
  simp at cbx cbn cx2
  have nbx : bx ≠ xb := q2.ne hR.x (by intro e; injection e with _ e; cases e)
  have cb2 : w2.cell? ⟨bx, 0, none⟩ = some (.pointer (some ⟨xb, 0, none⟩)) := by
    have h := hRan.bx_.cell 0
    rw [World.cell?_setCell_other _ _ _ _ (by intro e; injection e with e; first | exact nbx e | exact nbx e.symm)] at h
    simpa using h
  have tk : E.take.len = E.len := Ab.take_len hne
  have hints := hR.ints a (List.mem_of_getElem? q5)
  have hstep : ∀ s1 E1, StP s E s1 E1 → Bd k s1 E1 := fun s1 E1 hs => hB.step hne hs
  have hP1 : E.take.P.length < 100000 := by have h1 := hB.few; have h2 := hB.pot; have h3 := hB.k100; have h4 : E.gone ≤ E.len := by unfold Ab.len; omega
                                            show E.P.length < _; omega
  have hN1 : E.take.len < 100000 := by rw [tk]; have h2 := hB.pot; have h3 := hB.k100; omega
  have HH := Lib.hid (And.intro hRan (And.intro htn (And.intro hstep q5)))
  clear hB hR hD q2 q3 q4 q5 q6 q7 hRan htn hstep hE hf2 hf hw h0
  go_enter Try.func36, Try.ntmps36
  go_upto_region 0 with (fail)
  go_cut [] (fun wx => Hid (w2.setCell ⟨xb, 2, none⟩ (.slice vA (E.gone + 1) vc) = wx))
  case first =>
    go_region_law ((refine step_append_run (by rfl) _ _ 27 (by rfl) _ _ _ (by rfl) (by rfl) HR ?_))
    all_goals (go_wp2_with fail; go_meet; exact Lib.hid rfl)
  case rest =>
    have hcc := hcut.out
    clear hcut
    subst hcc
    generalize w2.setCell ⟨xb, 2, none⟩ (.slice vA (E.gone + 1) vc) = wR at HH ⊢
    obtain ⟨hRan, htn, hstep, q5⟩ := HH.out
    obtain ⟨rv', av', hPl⟩ := hRan.pl
    have cb := hRan.bx_.cell 0
    have ca1 := hRan.ba_.cell 1
    have ca2 := hRan.ba_.cell 2
    have cx0 := hPl.r.x.cell 0
    have cx5 := hPl.r.x.cell 5
    have zx5 := hPl.r.x.thawed 5
    have lR := hPl.r.x.lt
    simp [acells] at cb ca1 ca2 cx0 cx5
    clear HH cbx cbn cx2 y2 yz HR
    have h4 : a.h = 4 := hx.out a q5
    have j1 : (a.h == 1) = false := by rw [h4]; rfl
    have j2 : (a.h == 2) = false := by rw [h4]; rfl
    have j3 : (a.h == 3) = false := by rw [h4]; rfl
    have j4 : (a.h == 4) = true := by rw [h4]; rfl
    have hs : StP s E s E.take := ⟨a, q5, Or.inr (Or.inr (Or.inr ⟨by omega, by omega, by omega, rfl, rfl⟩))⟩
    have hbs := hstep _ _ hs
    have CA : Hid (∀ W, Turn (fun _ => False) wR W → Calls Try.prog 14 #[.pointer (some ⟨eb, 0, none⟩)] W fun e w' => e = .returned (.int .i64 0) ∧ Turn (fun _ => False) wR w') :=
      Lib.hid fun W hW => (collect_again (hPl.ep.same hW) hcoll).mono fun e w' ⟨h, ht⟩ => ⟨h, hW.trans ht⟩
    have HP := Lib.hid (And.intro hPl (And.intro htn (And.intro hs (And.intro hbs hRan.bx_))))
    clear hPl htn hstep q5 hRan h4 hs hbs
    go_wp2_with fail
    clear hx
    go_region_with (go_at_call 14; refine (CA.out _ ((Turn.refl _ _).drewN _)).mono ?_; rintro e wy ⟨rfl, hy⟩; have dx0 := (HP.out.1.same hy).r.x.cell 0; have dx5 := (HP.out.1.same hy).r.x.cell 5; have dz5 := (HP.out.1.same hy).r.x.thawed 5; have db := (HP.out.1.same hy).r.x.lt; have dx9 := (HP.out.2.2.2.2.turn hy (fun h => h)).cell 0; simp at dx0 dx5 dx9; replace hy := Lib.hid hy)
    all_goals
      go_wp2_with fail
      go_end0
      obtain ⟨hPl, htn, hs, hbs, _⟩ := HP.out
      obtain ⟨p5, t5⟩ := (hPl.same hy.out).set5
      exact ⟨rfl, s, _, hs, ⟨hbs, rv', av', p5.r, p5.dc⟩, p5.ep, htn.trans ((Tn.of_same hy.out).trans t5)⟩

/-- The function that is retired, whatever it does. -/
theorem plays_run {k Z xb qb eb : Nat} {D : Ab} {s : List AA} {E : Ab} {w : World} {f : Value} {r : List Value} (hf : E.fs = f :: r) (hcoll : E.coll = true) (h0 : cntk E.P E.gone = 0) (hw : E.wf) (hL : PlL k Z xb qb eb D s E w) (hE : Ep Z w eb E.take) :
    ∃ fn caps, f = .func (.func fn) #[] caps ∧ Enters Try.prog fn ∧ Calls Try.prog fn caps w fun e w' => e = .returned (.tuple #[]) ∧ ∃ s1 E1, StP s E s1 E1 ∧ PlL k Z xb qb eb D s1 E1 w' ∧ Ep Z w' eb E1 ∧ Tn XT Z w w' := by
  by_cases h : ∀ a, s[E.gone]? = some a → a.h ≠ 4
  · exact plays_run_but4 hf hcoll h0 hw hL hE (Lib.hid h)
  · refine plays_run_4 hf hcoll h0 hw hL hE (Lib.hid fun a ha => ?_)
    rw [Classical.not_forall] at h
    obtain ⟨b, h⟩ := h
    rw [Classical.not_imp] at h
    obtain ⟨hb, h⟩ := h
    rw [ha] at hb
    injection hb with hb
    subst hb
    exact Classical.not_not.1 h
end Go.Proofs.Ythohhehelnkpgaa
