import Derived.Test.YthohhehelnkpgaaPlB
import Derived.Deep.DeepCutAuto
/-
  The function that EpochPlays retires.
-/
import Derived.Test.YthohhehelnkpgaaPl
namespace Go.Proofs.Ythohhehelnkpgaa
open Go.RowKit Go.Maps Go.IntWalk Go.Lib
set_option linter.unusedVariables false


set_option maxRecDepth 100000 in
set_option maxHeartbeats 4000000 in
theorem plays_run_but4 {k Z xb qb eb : Nat} {D : Ab} {s : List AA} {E : Ab} {w : World} {f : Value} {r : List Value} (hf : E.fs = f :: r) (hcoll : E.coll = true) (h0 : cntk E.P E.gone = 0) (hw : E.wf) (hL : PlL k Z xb qb eb D s E w) (hE : Ep Z w eb E.take) (hx : Hid (∀ a, s[E.gone]? = some a → a.h ≠ 4)) :
    ∃ fn caps, f = .func (.func fn) #[] caps ∧ Enters Try.prog fn ∧ Calls Try.prog fn caps w fun e w' => e = .returned (.tuple #[]) ∧ ∃ s1 E1, StP s E s1 E1 ∧ PlL k Z xb qb eb D s1 E1 w' ∧ Ep Z w' eb E1 ∧ Tn XT Z w w' := by
  obtain ⟨hB, rv, av, hR, hD⟩ := hL
  have hne : E.fs ≠ [] := by rw [hf]; simp
  obtain ⟨bx, bn, ba, a, rfl, q2, q3, q4, q5, q6, q7⟩ := hR.funcs 0 f (by rw [hf]; rfl)
  rw [Nat.add_zero] at q3 q5
  refine ⟨36, _, rfl, enters_of Try.func36 (by kernel_rfl) rfl, ?_⟩
  have hf2 : E.fs = FX bx bn ba :: E.fs.tail := by rw [hf]; rfl
  obtain ⟨v', w2, HR, ⟨vA, vc, hvf⟩, y2, yz, hRan, htn⟩ := ran_written (a := a) hf2 hw hR hD hE q2 q4 q6
  subst hvf
  have hsm : E.gone + E.fs.length ≤ 100000 := hw.small.2
  obtain ⟨rA, rc, rfl⟩ := hR.ran.form
  rw [rnl_len] at *
  have lbx := q2.lt
  have lbn := q3.lt
  have lxb := hR.x.lt
  have cbx := q2.cell 0
  have cbn := q3.cell 0
  have cx2 := hR.x.cell 2
  simp at cbx cbn cx2
  have nbx : bx ≠ xb := q2.ne hR.x (by intro e; injection e with _ e; cases e)
  have cb2 : w2.cell? ⟨bx, 0, none⟩ = some (.pointer (some ⟨xb, 0, none⟩)) := by
    have h := hRan.bx_.cell 0
    rw [World.cell?_setCell_other _ _ _ _ (by intro e; injection e with e; first | exact nbx e | exact nbx e.symm)] at h
    simpa using h
  have tk : E.take.len = E.len := Ab.take_len hne
  have hints := hR.ints a (List.mem_of_getElem? q5)
  have hstep : ∀ s1 E1, StP s E s1 E1 → Bd k s1 E1 := fun s1 E1 hs => hB.step hne hs
  have hP1 : E.take.P.length < 100000 := by have h1 := hB.few; have h2 := hB.pot; have h3 := hB.k100; have h4 : E.gone ≤ E.len := by unfold Ab.len; omega
                                            show E.P.length < _; omega
  have hN1 : E.take.len < 100000 := by rw [tk]; have h2 := hB.pot; have h3 := hB.k100; omega
  have q5x := Lib.hid q5
  have HH := Lib.hid (And.intro hRan (And.intro htn (And.intro hstep q5)))
  clear hB hR hD q2 q3 q4 q5 q6 q7 hRan htn hstep hE hf2 hf hw h0
  go_enter Try.func36, Try.ntmps36
  go_upto_region 0 with (fail)
  go_cut [] (fun wx => Hid (w2.setCell ⟨xb, 2, none⟩ (.slice vA (E.gone + 1) vc) = wx))
  case first =>
    go_region_law ((refine step_append_run (by rfl) _ _ 27 (by rfl) _ _ _ (by rfl) (by rfl) HR ?_))
    all_goals (go_wp2_with fail; go_meet; exact Lib.hid rfl)
  case rest =>
    have hcc := hcut.out
    clear hcut
    subst hcc
    generalize w2.setCell ⟨xb, 2, none⟩ (.slice vA (E.gone + 1) vc) = wR at HH ⊢
    obtain ⟨hRan, htn, hstep, q5⟩ := HH.out
    obtain ⟨rv', av', hPl⟩ := hRan.pl
    have cb := hRan.bx_.cell 0
    have ca1 := hRan.ba_.cell 1
    have ca2 := hRan.ba_.cell 2
    have cx0 := hPl.r.x.cell 0
    have cx5 := hPl.r.x.cell 5
    have zx5 := hPl.r.x.thawed 5
    have lR := hPl.r.x.lt
    simp [acells] at cb ca1 ca2 cx0 cx5
    clear HH cbx cbn cx2 y2 yz HR
    by_cases h1 : a.h = 1
    · have j1 : (a.h == 1) = true := by simpa using h1
      have CA : Hid (∀ W, Turn (fun _ => False) wR W → Calls Try.prog 12 #[.pointer (some ⟨eb, 0, none⟩), .int .i64 a.t] W fun e w' => (∃ bv, e = .returned (.bool bv)) ∧ Ep Z w' eb (E.take.pin a.t) ∧ Tn Eo Z wR w') :=
        Lib.hid fun W hW => (pin_any (hPl.ep.same hW) hints.1 hints.2 hP1).mono fun e w' ⟨h, he, ht⟩ => ⟨⟨_, h⟩, he, (Tn.of_same hW).trans ht⟩
      have HP := Lib.hid (And.intro hPl (And.intro htn (And.intro hstep q5)))
      have hh1 := Lib.hid h1
      clear hPl htn hstep q5 hRan h1
      go_wp2_with fail
      go_region_with (go_at_call 12; refine (CA.out _ ((Turn.refl _ _).drewN _)).mono ?_; rintro e wy ⟨⟨bv, rfl⟩, hy⟩; replace hy := Lib.hid hy)
      all_goals
        go_wp2_with fail
        go_end0
        obtain ⟨p1, p2, p3, p4⟩ := pin_keeps E.take a.t
        obtain ⟨hPl, htn, hstep, q5⟩ := HP.out
        have hs : StP s E s (E.take.pin a.t) := ⟨a, q5, Or.inl ⟨hh1.out, rfl, rfl⟩⟩
        refine ⟨rfl, s, _, hs, ⟨hstep _ _ hs, rv', av', ?_, hPl.dc.keepE hy.out.2⟩, hy.out.1, htn.trans (hy.out.2.mono xt_types)⟩
        rw [p1, p3, p4]
        exact hPl.r.keep hy.out.2
    have j1 : (a.h == 1) = false := by simpa using h1
    by_cases h2 : a.h = 2
    · have j2 : (a.h == 2) = true := by simpa using h2
      have CA : Hid (∀ W, Turn (fun _ => False) wR W → Calls Try.prog 15 #[.pointer (some ⟨eb, 0, none⟩), .int .i64 a.t] W fun e w' => (∃ bv, e = .returned (.bool bv)) ∧ Ep Z w' eb (E.take.unpin a.t) ∧ Tn Eo Z wR w') :=
        Lib.hid fun W hW => (unpin_any (hPl.ep.same hW) hints.1 hints.2).mono fun e w' ⟨h, he, ht⟩ => ⟨⟨_, h⟩, he, (Tn.of_same hW).trans ht⟩
      have HP := Lib.hid (And.intro hPl (And.intro htn (And.intro hstep q5)))
      have hh1 := Lib.hid h2
      clear hPl htn hstep q5 hRan h1 h2
      go_wp2_with fail
      go_region_with (go_at_call 15; refine (CA.out _ ((Turn.refl _ _).drewN _)).mono ?_; rintro e wy ⟨⟨bv, rfl⟩, hy⟩; replace hy := Lib.hid hy)
      all_goals
        go_wp2_with fail
        go_end0
        obtain ⟨hPl, htn, hstep, q5⟩ := HP.out
        have hs : StP s E s (E.take.unpin a.t) := ⟨a, q5, Or.inr (Or.inl ⟨hh1.out, rfl, rfl⟩)⟩
        exact ⟨rfl, s, _, hs, ⟨hstep _ _ hs, rv', av', hPl.r.keep hy.out.2, hPl.dc.keepE hy.out.2⟩, hy.out.1, htn.trans (hy.out.2.mono xt_types)⟩
    have j2 : (a.h == 2) = false := by simpa using h2
    by_cases h3 : a.h = 3
    · have j3 : (a.h == 3) = true := by simpa using h3
      have CA : Hid (Calls Try.prog 22 #[.pointer (some ⟨xb, 0, none⟩), .agg #[.int .i64 2, .int .i64 0, .int .i64 0]] wR fun e w' => e = .returned (.bool true) ∧ ∃ F av2, Pl Z xb qb eb (s ++ [⟨2, 0, 0⟩]) (E.take.retire F) D w' rv' av2 ∧ Tn XT Z wR w') :=
        Lib.hid (plretire_any hPl ⟨2, 0, 0⟩ ⟨by decide, by decide⟩ hN1)
      have HP := Lib.hid (And.intro htn (And.intro hstep q5))
      have hh1 := Lib.hid h3
      clear hPl htn hstep q5 hRan h1 h2 h3
      go_wp2_with fail
      refine CA.out.mono ?_
      rintro e wy ⟨rfl, F, av2, hp2, ht2⟩
      have HY := Lib.hid (And.intro hp2 ht2)
      clear hp2 ht2
      go_wp2_with fail
      go_end0
      obtain ⟨htn, hstep, q5⟩ := HP.out
      obtain ⟨hp2, ht2⟩ := HY.out
      have hs : StP s E (s ++ [⟨2, 0, 0⟩]) (E.take.retire F) := ⟨a, q5, Or.inr (Or.inr (Or.inl ⟨hh1.out, rfl, F, rfl⟩))⟩
      exact ⟨rfl, _, _, hs, ⟨hstep _ _ hs, rv', av2, hp2.r, hp2.dc⟩, hp2.ep, htn.trans ht2⟩
    have j3 : (a.h == 3) = false := by simpa using h3
    have hs : StP s E s E.take := ⟨a, q5, Or.inr (Or.inr (Or.inr ⟨h1, h2, h3, rfl, rfl⟩))⟩
    have hbs := hstep _ _ hs
    by_cases h4 : a.h = 4
    · have j4 : (a.h == 4) = true := by simpa using h4
      exact absurd h4 (hx.out a q5x.out)
    have j4 : (a.h == 4) = false := by simpa using h4
    have HP := Lib.hid (And.intro hPl (And.intro htn (And.intro hs hbs)))
    clear hPl htn hstep q5 hRan h1 h2 h3 h4 hs hbs
    go_wp2_with fail
    go_end0
    obtain ⟨hPl, htn, hs, hbs⟩ := HP.out
    exact ⟨rfl, s, _, hs, ⟨hbs, rv', av', hPl.r, hPl.dc⟩, hPl.ep, htn⟩

end Go.Proofs.Ythohhehelnkpgaa
