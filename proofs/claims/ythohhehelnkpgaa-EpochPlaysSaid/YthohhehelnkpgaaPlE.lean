/-
  EpochPlays' collect, beside the document's.
-/
import Derived.Test.YthohhehelnkpgaaPlB
namespace Go.Proofs.Ythohhehelnkpgaa
open Go.RowKit Go.Maps Go.IntWalk Go.Lib
set_option linter.unusedVariables false

theorem Dc.coll {Z qb : Nat} {av : Option Nat} {w : World} {E : Ab} (h : Dc Z w qb av E) (b : Bool) : Dc Z w qb av { E with coll := b } := by
  obtain ⟨p, l, ws, h⟩ := h
  exact ⟨p, l, ws, h.at_, h.pins, h.pav, h.row, h.len, h.waits, h.wf.coll b, h.base⟩
theorem Dc.wf {Z qb : Nat} {av : Option Nat} {w : World} {E : Ab} (h : Dc Z w qb av E) : E.wf := by
  obtain ⟨p, l, ws, h⟩ := h
  exact h.wf
theorem ro_xr : ∀ t, Ro t → Ro t := fun _ h => h
def XR (t : TypeId) : Prop := XT t ∨ Ro t

theorem goes_cases {m l : Nat} {s s2 : List AA} {E E2 : Ab} (h : Rel.Goes StP m s E l s2 E2) :
    ((m = 0 ∨ cntk E.P E.gone ≠ 0) ∧ l = 0 ∧ s = s2 ∧ E = E2) ∨ ∃ k n s1 E1, m = k + 1 ∧ l = n + 1 ∧ cntk E.P E.gone = 0 ∧ StP s E s1 E1 ∧ Rel.Goes StP k s1 E1 n s2 E2 := by
  cases h with
  | none => exact Or.inl ⟨Or.inl rfl, rfl, rfl, rfl⟩
  | no _ _ _ h => exact Or.inl ⟨Or.inr h, rfl, rfl, rfl⟩
  | yes k n _ s1 _ _ E1 _ h h1 h2 => exact Or.inr ⟨k, n, s1, E1, rfl, rfl, h, h1, h2⟩
theorem goes_facts {m l : Nat} {s s2 : List AA} {E E2 : Ab} (h : Rel.Goes StP m s E l s2 E2) : (∃ t, s2 = s ++ t) ∧ E2.gone = E.gone + l ∧ E2.coll = E.coll := by
  induction h with
  | none => exact ⟨⟨[], by simp⟩, rfl, rfl⟩
  | no => exact ⟨⟨[], by simp⟩, rfl, rfl⟩
  | yes k n s s1 s2 E E1 E2 h h1 h2 ih =>
    obtain ⟨⟨t, e⟩, g, c⟩ := ih
    have hg := h1.gone
    have hc := h1.coll
    refine ⟨?_, by omega, c.trans hc⟩
    obtain ⟨a, _, q | q | q | q⟩ := h1
    · exact ⟨t, by rw [e, q.2.1]⟩
    · exact ⟨t, by rw [e, q.2.1]⟩
    · exact ⟨[⟨2, 0, 0⟩] ++ t, by rw [e, q.2.1, List.append_assoc]⟩
    · exact ⟨t, by rw [e, q.2.2.2.1]⟩
theorem goes_bd {k m l : Nat} {s s2 : List AA} {E E2 : Ab} (h : Rel.Goes StP m s E l s2 E2) (hm : m ≤ E.fs.length) (hb : Bd k s E) : Bd k s2 E2 := by
  induction h with
  | none => exact hb
  | no => exact hb
  | yes m n s s1 s2 E E1 E2 h h1 h2 ih =>
    have hne : E.fs ≠ [] := fun e => by rw [e] at hm; simp at hm
    have := h1.more
    exact ih (by omega) (hb.step hne h1)

structure CoS (k Z xb qb eb g0 n0 : Nat) (s2 : List AA) (E2 : Ab) (rv av : Value) (w wr : World) (j m : Nat) (sj : List AA) (Ej : Ab) (l : Nat) : Prop where
  r : PlR Z xb qb eb s2 E2.fs E2.gone E2.len wr rv av
  dc : Dc Z wr qb rv.ownBlock Ej
  ep : Ep Z wr eb { E2 with coll := false }
  goes : Rel.Goes StP m sj Ej l s2 E2
  more : m ≤ Ej.fs.length
  num : Ej.gone = g0 + j
  tot : j + l = n0
  bd : Bd k sj Ej
  tn : Tn XR Z w wr
section
variable {k Z xb qb eb g0 n0 : Nat} {s2 sj s1 : List AA} {E2 Ej E1 : Ab} {rv av : Value} {w wr wr' w1 : World} {j m l : Nat}
/-- The document's calls alone have turned the memory. -/
theorem CoS.moved (h : CoS k Z xb qb eb g0 n0 s2 E2 rv av w wr j (m + 1) sj Ej (l + 1)) (hs : StP sj Ej s1 E1) (hg : Rel.Goes StP m s1 E1 l s2 E2) (hd : Dc Z w1 qb rv.ownBlock E1) (ht : Tr Ro Z wr w1) : CoS k Z xb qb eb g0 n0 s2 E2 rv av w w1 (j + 1) m s1 E1 l := by
  have hm := h.more
  have hne : Ej.fs ≠ [] := fun e => by rw [e] at hm; simp at hm
  have h1 := hs.more
  have h2 := hs.gone
  have h3 := h.num
  have h4 := h.tot
  exact ⟨h.r.keepR (ht.tn fun _ h => h), hd, h.ep.keepR ht, hg, by omega, by omega, by omega, h.bd.step hne hs, h.tn.trans (ht.tn fun _ h => Or.inr h)⟩
theorem CoS.done (h : CoS k Z xb qb eb g0 n0 s2 E2 rv av w wr j m sj Ej l) (e1 : sj = s2) (e2 : Ej = E2) : Pl Z xb qb eb s2 { E2 with coll := false } { E2 with coll := false } wr rv av ∧ Bd k s2 { E2 with coll := false } ∧ Tn XR Z w wr := by
  subst e1 e2
  exact ⟨⟨h.r, h.dc.coll false, h.ep⟩, ⟨h.bd.pot, h.bd.few, h.bd.slen, h.bd.k100⟩, h.tn⟩
end
theorem PlL.runs (hrun : ∀ {k Z xb qb eb : Nat} {D : Ab} {s : List AA} {E : Ab} {w : World} {f : Value} {r : List Value}, E.fs = f :: r → E.coll = true → cntk E.P E.gone = 0 → E.wf → PlL k Z xb qb eb D s E w → Ep Z w eb E.take →
    ∃ fn caps, f = .func (.func fn) #[] caps ∧ Enters Try.prog fn ∧ Calls Try.prog fn caps w fun e w' => e = .returned (.tuple #[]) ∧ ∃ s1 E1, StP s E s1 E1 ∧ PlL k Z xb qb eb D s1 E1 w' ∧ Ep Z w' eb E1 ∧ Tn XT Z w w') (k Z xb qb eb : Nat) (D : Ab) : Rel.Runs StP XT Z eb (PlL k Z xb qb eb D) where
  types := xt_types
  box := by rintro ((h | h) | h | h | h) <;> cases h
  keep := fun s E w w' ⟨hb, rv, av, hr, hd⟩ ht => ⟨hb, rv, av, hr.keep ht, hd.keepE ht⟩
  run := fun s E f r w hf hc h0 hw hL hE => hrun hf hc h0 hw hL hE
  gone := fun s E s1 E1 _ h => h.gone
  coll := fun s E s1 E1 _ hc h => h.coll.trans hc
  more := fun s E s1 E1 h => h.more

set_option maxRecDepth 100000 in
set_option maxHeartbeats 8000000 in
theorem plcollect_any {k Z xb qb eb : Nat} {s : List AA} {E : Ab} {w : World} {rv av : Value} (R : Rel.Runs StP XT Z eb (PlL k Z xb qb eb E)) (h : Pl Z xb qb eb s E E w rv av) (hB : Bd k s E) (hc : E.coll = false) :
    Calls Try.prog 23 #[.pointer (some ⟨xb, 0, none⟩)] w fun e w' => e = .returned (.bool true) ∧ ∃ s' E' rv' av', Pl Z xb qb eb s' E' E' w' rv' av' ∧ Bd k s' E' ∧ E'.coll = false ∧ Tn XR Z w w' := by
  have CO := Lib.hid (Rel.collect_any StP R h.ep hc ⟨⟨hB.pot, hB.few, hB.slen, hB.k100⟩, rv, av, h.r, h.dc⟩)
  have hbk := hB.pot
  have hbk2 := hB.k100
  have hgl : E.gone ≤ E.len := Nat.le_add_right _ _
  have hfl : E.fs.length ≤ E.len := Nat.le_add_left _ _
  have g5 : E.gone ≤ 1000 := by omega
  have l5 : E.len ≤ 1000 := by omega
  have f5 : E.fs.length ≤ 1000 := by omega
  obtain ⟨rA, rc, rfl⟩ := h.r.ran.form
  rw [rnl_len] at *
  have cx0 := h.r.x.cell 0
  have cx2 := h.r.x.cell 2
  have cx4 := h.r.x.cell 4
  simp at cx0 cx2 cx4
  replace hB := Lib.hid hB
  clear h hbk hbk2 hgl hfl R
  go_enter Try.func23, Try.ntmps23
  go_wp2_with fail
  refine CO.out.mono ?_
  rintro e w2 ⟨n0, s2, E2, hg, rfl, ⟨hb2, rv2, av2, hr2, hd2⟩, he2, ht2⟩
  have HS : Hid (CoS k Z xb qb eb E.gone n0 s2 E2 rv2 av2 w w2 0 E.fs.length s { E with coll := true } n0) :=
    Lib.hid ⟨hr2, hd2.coll true, he2, hg, Nat.le_refl _, rfl, by omega, ⟨hB.out.pot, hB.out.few, hB.out.slen, hB.out.k100⟩, ht2.mono fun t h => Or.inl h⟩
  obtain ⟨rA2, rc2, rfl⟩ := hr2.ran.form
  obtain ⟨aA, aC, rfl⟩ := own_form hr2.acts
  rw [rnl_len] at *
  have cx1 := hr2.x.cell 1
  obtain ⟨lv, cq1⟩ : ∃ A cap, w2.cell? ⟨qb, 1, none⟩ = some (.slice A E.fs.length cap) := by
    obtain ⟨p, l, ws, hd⟩ := hd2
    obtain ⟨A, cap, rfl⟩ := own_form hd.row
    exact ⟨A, cap, hd.cells.2⟩
  obtain ⟨lcap, cq1⟩ := cq1
  have hgone := (goes_facts hg).2.1
  have hE2 : E2.len ≤ 1000 ∧ E2.gone ≤ 1000 := by
    have h1 := hb2.pot
    have h2 := hb2.k100
    have h3 : E2.gone ≤ E2.len := Nat.le_add_right _ _
    omega
  have hg2 : n0 ≤ 1000 := by
    have : ({ E with coll := true } : Ab).gone = E.gone := rfl
    omega
  have hco : Hid (E2.coll = true) := Lib.hid ((goes_facts hg).2.2)
  have hb2' := Lib.hid hb2
  simp at cx1
  clear hg hr2 hd2 he2 ht2 hgone hb2 CO hB cx0 cx2 cx4
  go_wp2_with fail
  go_loopw [4, 6, 7, 8] (fun cv mv av_ dv wr => ∃ (j m l : Nat) (sj : List AA) (Ej : Ab), cv = .int .i64 (Ej.len : Int) ∧ mv = .int .i64 (m : Int) ∧ av_ = .int .i64 0 ∧ dv = .int .i64 (j : Int) ∧ Hid (CoS k Z xb qb eb E.gone n0 s2 E2 (.slice rA2 E2.gone rc2) (.slice aA s2.length aC) w wr j m sj Ej l)) (fun _ mv _ _ _ => (intOf mv).toNat)
  case atStart => exact ⟨0, E.fs.length, n0, s, { E with coll := true }, rfl, rfl, rfl, rfl, HS⟩
  case round =>
    obtain ⟨j, m, l, sj, Ej, rfl, rfl, rfl, rfl, hst⟩ := hrel
    clear HS cx1 cq1
    rcases goes_cases hst.out.goes with ⟨hno, rfl, e1, e2⟩ | ⟨m', l', s1, E1, hm, hl, h0, hs, hg⟩
    · have RN := Lib.hid (rnext_no hst.out.dc m hst.out.more hno)
      have hn0 := hst.out.tot
      have hnum := hst.out.num
      obtain rfl : j = n0 := by omega
      have y1 := hst.out.r.x.cell 1
      have y2 := hst.out.r.x.cell 2
      have y5 := hst.out.r.x.cell 5
      simp at y1 y2 y5
      have q5 : ((E2.gone : Int) == (E.gone : Int) + (j : Int)) = true := by rw [← e2]; simp; omega
      have hfin := Lib.hid (hst.out.done e1 e2)
      clear hst hno e1 e2 hn0 hnum
      go_wp2_with fail
      refine RN.out.mono ?_
      rintro e w1 ⟨rfl, rfl⟩
      go_wp2_with fail
      go_ret
      exact ⟨rfl, s2, _, _, _, hfin.out.1, hfin.out.2.1, rfl, hfin.out.2.2⟩
    · have hmore := hst.out.more
      obtain ⟨f, r, hf⟩ : ∃ f r, Ej.fs = f :: r := by
        cases hfs : Ej.fs with
        | nil => rw [hfs] at hmore; simp at hmore; omega
        | cons f r => exact ⟨f, r, rfl⟩
      have hne : Ej.fs ≠ [] := by rw [hf]; simp
      have htk := Ab.take_len hne
      have hbd := hst.out.bd
      have p1 := hbd.pot
      have p2 := hbd.few
      have p3 := hbd.slen
      have p4 := hbd.k100
      have p5 : Ej.gone + Ej.fs.length = Ej.len := rfl
      have RN := Lib.hid (rnext_yes hst.out.dc hf h0 m (by omega) (by omega))
      have hnum := hst.out.num
      have htot := hst.out.tot
      have hgf := goes_facts hst.out.goes
      have hlt : Ej.gone < E2.gone := by omega
      have b0 : ¬ (Ej.gone : Int) < 0 := by omega
      have b1 : (0 : Int) ≤ (Ej.gone : Int) := by omega
      have q1 : ¬ (E2.gone : Int) ≤ (E.gone : Int) + (j : Int) := by omega
      have q2 : (0 : Int) ≤ (E.gone : Int) + (j : Int) := by omega
      have q3 : (E.gone : Int) + (j : Int) < (E2.gone : Int) := by omega
      have q4 : ((E.gone : Int) + (j : Int)).toNat = Ej.gone := by omega
      have m1 : 1 ≤ m := by omega
      have m2 : m ≤ 1000 := by omega
      have j2 : j ≤ 1000 := by omega
      have y1 := hst.out.r.x.cell 1
      simp at y1
      have HJ := Lib.hid (And.intro hm (And.intro hl (And.intro hs (And.intro hg (And.intro htk (And.intro hgf.1 (And.intro hnum hbd)))))))
      have hl2 : Ej.len ≤ 1000 := by omega
      clear hm hl h0 hs hg hmore hf hne htk hbd p1 p2 p3 p4 p5 hnum htot hgf
      go_wp2_with fail
      refine RN.out.mono ?_
      rintro e w1 ⟨rfl, hd1, ht1⟩
      obtain ⟨hm, hl, hs, hg, htk, ⟨tt, htt⟩, hnum, hbd⟩ := HJ.out
      have r1 := hst.out.r.keepR (ht1.tn fun _ h => h)
      have z1 := r1.x.cell 1
      have z2 := r1.x.cell 2
      have z3 := r1.x.cell 3
      obtain ⟨g, x, rfl, hx, hcr, _, hgl, zg⟩ := r1.ran.at (j := Ej.gone) (by rw [rnl_len]; exact hlt)
      rw [rnl_len] at hcr
      obtain rfl : x = (Ej.gone : Int) := by
        unfold rnl at hx
        rw [List.getElem?_map, List.getElem?_range hlt] at hx
        simpa using hx.symm
      obtain ⟨a, ha, hcase⟩ := hs
      have ha2 : s2[Ej.gone]? = some a := by
        rw [htt, List.getElem?_append_left (List.getElem?_eq_some_iff.1 ha).1]; exact ha
      have hal : Ej.gone < s2.length := (List.getElem?_eq_some_iff.1 ha2).1
      have b2 : (Ej.gone : Int) < (s2.length : Int) := by omega
      obtain ⟨f1, f2, f3⟩ := flatA_at s2 Ej.gone a ha2
      obtain ⟨ga, rfl, _, hca, _, hgal, _, hcell, _, _⟩ := own_at r1.acts (j := Ej.gone * 3 + 2) (by rw [flatA_len]; omega)
      have za1 := hcell _ _ f2
      have za2 := hcell _ _ f3
      have hints := r1.ints a (List.mem_of_getElem? ha2)
      have hrl : ∀ W, Turn (fun _ => False) w1 W → ∀ i, (Value.slice (some ⟨g, 0, none⟩) E2.gone rc2).ownBlock = some i → i < W.heap.size := fun W hW i hi => Nat.lt_of_lt_of_le (own_block r1.ran hi).2.2 hW.size
      have hmov : ∀ W w', Turn (fun _ => False) w1 W → Dc Z w' qb (Value.slice (some ⟨g, 0, none⟩) E2.gone rc2).ownBlock E1 → Tr Ro Z W w' → CoS k Z xb qb eb E.gone n0 s2 E2 (.slice (some ⟨g, 0, none⟩) E2.gone rc2) (.slice (some ⟨ga, 0, none⟩) s2.length aC) w w' (j + 1) m' s1 E1 l' := fun W w' hW hd ht => by
        have hst' := hst.out
        rw [hm, hl] at hst'
        exact hst'.moved ⟨a, ha, hcase⟩ hg hd ((ht1.trans (Tr.of_same hW)).trans ht)
      simp at z1 z2 z3
      have hPl : Ej.take.P.length < 100000 := by
        have h2 := hbd.few
        have h3 := hbd.k100
        show Ej.P.length < _
        omega
      have hE1 : E1.len = Ej.len ∨ a.h = 3 := by
        rcases hcase with ⟨_, _, q⟩ | ⟨_, _, q⟩ | ⟨q, _⟩ | ⟨_, _, _, _, q⟩
        · left; rw [q, (pin_keeps _ _).2.2.1]; exact htk
        · left; rw [q]; exact htk
        · exact Or.inr q
        · left; rw [q]; exact htk
      have hE3 : a.h = 3 → E1.len = Ej.len + 1 := fun h3 => by
        rcases hcase with ⟨q, _⟩ | ⟨q, _⟩ | ⟨_, _, F, q⟩ | ⟨_, _, q, _⟩
        · omega
        · omega
        · rw [q]
          have : (Ej.take.retire F).len = Ej.take.len + 1 := by simp [Ab.len, Ab.retire]; omega
          omega
        · exact absurd h3 q
      have HM := Lib.hid hm
      have HE := Lib.hid (And.intro hE1 hE3)
      have hw1 := Turn.refl (fun _ => False) w1
      by_cases h1 : a.h = 1
      · have k1 : (a.h == 1) = true := by simpa using h1
        have HL : Hid (E1.len = Ej.len) := Lib.hid (by rcases hE1 with q | q; exact q; omega)
        have CA : Hid (∀ W, Turn (fun _ => False) w1 W → Calls Try.prog 19 #[.pointer (some ⟨qb, 0, none⟩), .int .i64 a.t] W fun e w' => (∃ bv, e = .returned (.bool bv)) ∧ CoS k Z xb qb eb E.gone n0 s2 E2 (.slice (some ⟨g, 0, none⟩) E2.gone rc2) (.slice (some ⟨ga, 0, none⟩) s2.length aC) w w' (j + 1) m' s1 E1 l') :=
          Lib.hid fun W hW => (rpin_any (hd1.same hW) hints.1 hints.2 hPl (hrl W hW)).mono fun e w' ⟨h, hd, ht⟩ => ⟨⟨_, h⟩, by
            have he : E1 = Ej.take.pin a.t := by
              rcases hcase with ⟨_, _, q⟩ | ⟨q, _⟩ | ⟨q, _⟩ | ⟨q, _⟩
              · exact q
              · omega
              · omega
              · exact absurd h1 q
            exact hmov W w' hW (by rw [he]; exact hd) ht⟩
        clear hm hl hg htk htt hnum hbd r1 hx ha hcase ha2 hal f1 f2 f3 hcell hints hrl hmov hPl hE1 hE3 h1 hst RN HJ hd1 ht1 hw1
        go_wp2_with fail
        go_region_with (go_at_call 19; refine (CA.out _ ((Turn.refl _ _).drewN _)).mono ?_; rintro e wy ⟨⟨bv, rfl⟩, hy⟩; replace hy := Lib.hid hy)
        all_goals
          go_wp2_with fail
          go_roundw
          case rel => exact ⟨j + 1, m', l', s1, E1, by rw [HL.out], by have := HM.out; go_num, rfl, by go_num, hy⟩
          case measure => have := HM.out; simp [intOf]; omega
      have k1 : (a.h == 1) = false := by simpa using h1
      by_cases h2 : a.h = 2
      · have k2 : (a.h == 2) = true := by simpa using h2
        have HL : Hid (E1.len = Ej.len) := Lib.hid (by rcases hE1 with q | q; exact q; omega)
        have CA : Hid (∀ W, Turn (fun _ => False) w1 W → Calls Try.prog 20 #[.pointer (some ⟨qb, 0, none⟩), .int .i64 a.t] W fun e w' => (∃ bv, e = .returned (.bool bv)) ∧ CoS k Z xb qb eb E.gone n0 s2 E2 (.slice (some ⟨g, 0, none⟩) E2.gone rc2) (.slice (some ⟨ga, 0, none⟩) s2.length aC) w w' (j + 1) m' s1 E1 l') :=
          Lib.hid fun W hW => (runpin_any (hd1.same hW) a.t (hrl W hW)).mono fun e w' ⟨h, hd, ht⟩ => ⟨⟨_, h⟩, by
            have he : E1 = Ej.take.unpin a.t := by
              rcases hcase with ⟨q, _⟩ | ⟨_, _, q⟩ | ⟨q, _⟩ | ⟨_, q, _⟩
              · omega
              · exact q
              · omega
              · exact absurd h2 q
            exact hmov W w' hW (by rw [he]; exact hd) ht⟩
        clear hm hl hg htk htt hnum hbd r1 hx ha hcase ha2 hal f1 f2 f3 hcell hints hrl hmov hPl hE1 hE3 h1 h2 hst RN HJ hd1 ht1 hw1
        go_wp2_with fail
        go_region_with (go_at_call 20; refine (CA.out _ ((Turn.refl _ _).drewN _)).mono ?_; rintro e wy ⟨⟨bv, rfl⟩, hy⟩; replace hy := Lib.hid hy)
        all_goals
          go_wp2_with fail
          go_roundw
          case rel => exact ⟨j + 1, m', l', s1, E1, by rw [HL.out], by have := HM.out; go_num, rfl, by go_num, hy⟩
          case measure => have := HM.out; simp [intOf]; omega
      have k2 : (a.h == 2) = false := by simpa using h2
      by_cases h3 : a.h = 3
      · have k3 : (a.h == 3) = true := by simpa using h3
        obtain ⟨F, hF⟩ : ∃ F, E1 = Ej.take.retire F := by
          rcases hcase with ⟨q, _⟩ | ⟨q, _⟩ | ⟨_, _, F, q⟩ | ⟨_, _, q, _⟩
          · omega
          · omega
          · exact ⟨F, q⟩
          · exact absurd h3 q
        have CA : Hid (Calls Try.prog 21 #[.pointer (some ⟨qb, 0, none⟩), .int .i64 (Ej.len : Int)] w1 fun e w' => e = .returned (.tuple #[]) ∧ CoS k Z xb qb eb E.gone n0 s2 E2 (.slice (some ⟨g, 0, none⟩) E2.gone rc2) (.slice (some ⟨ga, 0, none⟩) s2.length aC) w w' (j + 1) m' s1 E1 l') := by
          rw [← htk]
          exact Lib.hid ((rretire_any hd1 F (by omega) (hrl w1 hw1)).mono fun e w' ⟨h, hd, ht⟩ => ⟨h, hmov w1 w' hw1 (by rw [hF]; exact hd) ht⟩)
        clear hm hl hg htk htt hnum hbd r1 hx ha hcase ha2 hal f1 f2 f3 hcell hints hrl hmov hPl hE1 hE3 h1 h2 h3 hst RN HJ hd1 ht1 hw1 hF
        go_wp2_with fail
        refine CA.out.mono ?_
        rintro e wy ⟨rfl, hy⟩
        replace hy := Lib.hid hy
        go_wp2_with fail
        go_roundw
        case rel => exact ⟨j + 1, m', l', s1, E1, by have := HE.out.2 (by simpa using k3); rw [this]; go_num, by have := HM.out; go_num, rfl, by go_num, hy⟩
        case measure => have := HM.out; simp [intOf]; omega
      have k3 : (a.h == 3) = false := by simpa using h3
      have HL : Hid (E1.len = Ej.len) := Lib.hid (by rcases hE1 with q | q; exact q; omega)
      have hy := Lib.hid (hmov w1 w1 hw1 (by
        have he : E1 = Ej.take := by
          rcases hcase with ⟨q, _⟩ | ⟨q, _⟩ | ⟨q, _⟩ | ⟨_, _, _, _, q⟩
          · omega
          · omega
          · omega
          · exact q
        rw [he]; exact hd1) (Tr.refl _ _ _))
      clear hm hl hg htk htt hnum hbd r1 hx ha hcase ha2 hal f1 f2 f3 hcell hints hrl hmov hPl hE1 hE3 h1 h2 h3 hst RN HJ hd1 ht1 hw1
      go_wp2_with fail
      go_roundw
      case rel => exact ⟨j + 1, m', l', s1, E1, by rw [HL.out], by have := HM.out; go_num, rfl, by go_num, hy⟩
      case measure => have := HM.out; simp [intOf]; omega
end Go.Proofs.Ythohhehelnkpgaa
