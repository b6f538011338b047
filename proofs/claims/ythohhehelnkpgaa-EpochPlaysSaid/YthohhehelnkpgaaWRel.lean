/-
  Collect, whatever its functions do, told as a relation: what is made of a state may hang on where new memory lies.
-/
import Derived.Test.YthohhehelnkpgaaWEpD
namespace Go.Proofs.Ythohhehelnkpgaa.Rel
open Go.Proofs.Ythohhehelnkpgaa
open Go.RowKit Go.Maps Go.IntWalk Go.Lib
set_option linter.unusedVariables false

section
variable {σ : Type} (St : σ → Ab → σ → Ab → Prop)
/-- Of the first k so many are run, one behind the other. -/
inductive Goes : Nat → σ → Ab → Nat → σ → Ab → Prop
  | none (s : σ) (E : Ab) : Goes 0 s E 0 s E
  | no (k : Nat) (s : σ) (E : Ab) (h : cntk E.P E.gone ≠ 0) : Goes k s E 0 s E
  | yes (k n : Nat) (s s1 s2 : σ) (E E1 E2 : Ab) (h : cntk E.P E.gone = 0) (h1 : St s E s1 E1) (h2 : Goes k s1 E1 n s2 E2) : Goes (k + 1) s E (n + 1) s2 E2

structure Runs (T : TypeId → Prop) (Z eb : Nat) (L : σ → Ab → World → Prop) : Prop where
  types : ∀ t, Eo t → T t
  box : ¬ T 22
  keep : ∀ s E w w', L s E w → Tn Eo Z w w' → L s E w'
  run : ∀ s E f r w, E.fs = f :: r → E.coll = true → cntk E.P E.gone = 0 → E.wf → L s E w → Ep Z w eb E.take → ∃ fn caps, f = .func (.func fn) #[] caps ∧ Enters Try.prog fn ∧
    Calls Try.prog fn caps w fun e w' => e = .returned (.tuple #[]) ∧ ∃ s1 E1, St s E s1 E1 ∧ L s1 E1 w' ∧ Ep Z w' eb E1 ∧ Tn T Z w w'
  gone : ∀ s E s1 E1, E.fs ≠ [] → St s E s1 E1 → E1.gone = E.gone + 1
  coll : ∀ s E s1 E1, E.fs ≠ [] → E.coll = true → St s E s1 E1 → E1.coll = true
  more : ∀ s E s1 E1, St s E s1 E1 → E.fs.length ≤ E1.fs.length + 1

structure CSt (T : TypeId → Prop) (Z eb : Nat) (L : σ → Ab → World → Prop) (w wr : World) (B k0 : Nat) (s0 : σ) (E0 : Ab) (j k : Nat) (s : σ) (E : Ab) : Prop where
  l : L s E wr
  ep : Ep Z wr eb E
  coll : E.coll = true
  num : E.gone + k = E0.len
  more : k ≤ E.fs.length
  box : At wr B (.cells #[.pointer (some ⟨eb, 0, none⟩)] 22 (0, 0))
  all : ∀ n s2 E2, Goes St k s E n s2 E2 → Goes St k0 s0 E0 (j + n) s2 E2
  sum : j + k = k0
  tn : Tn T Z w wr
theorem CSt.same {T : TypeId → Prop} {Z eb : Nat} {L : σ → Ab → World → Prop} {w wr wr' : World} {B k0 j k : Nat} {s0 s : σ} {E0 E : Ab} (h : CSt St T Z eb L w wr B k0 s0 E0 j k s E) (hk : ∀ s E w w', L s E w → Tn Eo Z w w' → L s E w') (t : Turn (fun _ => False) wr wr') : CSt St T Z eb L w wr' B k0 s0 E0 j k s E :=
  ⟨hk _ _ _ _ h.l (Tn.of_same t), h.ep.same t, h.coll, h.num, h.more, h.box.turn t (fun h => h), h.all, h.sum, h.tn.trans (Tn.of_same t)⟩
theorem CSt.close {T : TypeId → Prop} {Z eb : Nat} {L : σ → Ab → World → Prop} {w wr : World} {B k0 j k : Nat} {s0 s : σ} {E0 E : Ab} (h : CSt St T Z eb L w wr B k0 s0 E0 j k s E) (R : Runs St T Z eb L) (hg : Goes St k s E 0 s E) :
    Goes St k0 s0 E0 j s E ∧ L s E (wr.setCell ⟨eb, 4, none⟩ (.bool false)) ∧ Ep Z (wr.setCell ⟨eb, 4, none⟩ (.bool false)) eb { E with coll := false } ∧ Tn T Z w (wr.setCell ⟨eb, 4, none⟩ (.bool false)) := by
  have ha := h.all _ _ _ hg
  obtain ⟨m, v, he⟩ := h.ep
  have tz : Tn Eo Z wr (wr.setCell ⟨eb, 4, none⟩ (.bool false)) := Tn.set he.at_ (Or.inl rfl) he.base 4 _
  obtain ⟨s1, s2, s3⟩ := he.set 4 (.bool false) rfl
  exact ⟨ha, R.keep _ _ _ _ h.l tz, ⟨m, v, ⟨s1, s2, s3, he.wf.coll false, he.base⟩⟩, h.tn.trans (tz.mono R.types)⟩
/-- One round. -/
theorem CSt.next {T : TypeId → Prop} {Z eb : Nat} {L : σ → Ab → World → Prop} {w wr wr' : World} {B k0 j k : Nat} {s0 s s1 : σ} {E0 E E1 : Ab} (h : CSt St T Z eb L w wr B k0 s0 E0 j (k + 1) s E) (R : Runs St T Z eb L) (h0 : cntk E.P E.gone = 0) (hs : St s E s1 E1)
    (hl : L s1 E1 wr') (he : Ep Z wr' eb E1) (ht : Tn T Z wr wr') : CSt St T Z eb L w wr' B k0 s0 E0 (j + 1) k s1 E1 := by
  have hmore := h.more
  have hne : E.fs ≠ [] := fun e => by rw [e] at hmore; simp at hmore
  have h1 := R.gone s E _ _ hne hs
  have h2 := R.more s E _ _ hs
  have h3 := h.num
  have h4 := h.sum
  refine ⟨hl, he, R.coll s E _ _ hne h.coll hs, by omega, by omega, h.box.keep ht R.box, fun n s2 E2 hg => ?_, by omega, h.tn.trans ht⟩
  rw [Nat.add_assoc, Nat.add_comm 1 n]
  exact h.all _ _ _ (Goes.yes k n s s1 s2 E E1 E2 h0 hs hg)

set_option maxRecDepth 100000 in
set_option maxHeartbeats 1000000 in
theorem collect_any {T : TypeId → Prop} {Z eb : Nat} {L : σ → Ab → World → Prop} (R : Runs St T Z eb L) {w : World} {E : Ab} {s : σ} (h : Ep Z w eb E) (hc : E.coll = false) (hL : L s { E with coll := true } w) :
    Calls Try.prog 14 #[.pointer (some ⟨eb, 0, none⟩)] w fun e w' => ∃ n s2 E2, Goes St E.fs.length s { E with coll := true } n s2 E2 ∧ e = .returned (.int .i64 (n : Int)) ∧ L s2 E2 w' ∧ Ep Z w' eb { E2 with coll := false } ∧ Tn T Z w w' := by
  have le : eb < w.heap.size := by obtain ⟨m, v, h⟩ := h; exact h.lt
  have c4 : w.cell? ⟨eb, 4, none⟩ = some (.bool false) := by obtain ⟨m, v, h⟩ := h; have := h.cells.2.2.2.2; rwa [hc] at this
  have z4 : w.frozen? ⟨eb, 4, none⟩ = false := by obtain ⟨m, v, h⟩ := h; exact h.thaw 4
  have hfs : E.fs.length ≤ 100000 := by obtain ⟨m, v, h⟩ := h; have : E.gone + E.fs.length ≤ 100000 := h.wf.small.2; omega
  have hmf : ∀ (fn : Fn) (first cap : Array Value) (w : World), (Instr.makeFunc fn first cap).run Try.prog w = .ok (.func fn first cap) w := fun _ _ _ _ => rfl
  have HS : Hid (CSt St T Z eb L w ((w.setCell ⟨eb, 4, none⟩ (.bool true)).alloc (.cells #[.pointer (some ⟨eb, 0, none⟩)] 22)) w.heap.size E.fs.length s { E with coll := true } 0 E.fs.length s { E with coll := true }) := by
    refine Lib.hid ?_
    obtain ⟨m, v, h⟩ := h
    obtain ⟨s1, s2, s3⟩ := h.set 4 (.bool true) rfl
    have ta := (Turn.refl (fun _ => False) (w.setCell ⟨eb, 4, none⟩ (.bool true))).alloc (.cells #[.pointer (some ⟨eb, 0, none⟩)] 22)
    have tn : Tn Eo Z w ((w.setCell ⟨eb, 4, none⟩ (.bool true)).alloc (.cells #[.pointer (some ⟨eb, 0, none⟩)] 22)) := (Tn.set h.at_ (Or.inl rfl) h.base 4 _).trans (Tn.of_same ta)
    exact ⟨R.keep _ _ _ _ hL tn, ⟨m, v, ⟨s1.turn ta (fun h => h), s2.turn ta (fun _ _ _ _ h => h), s3.turn ta (fun _ _ _ _ h => h), h.wf.coll true, h.base⟩⟩, rfl, rfl, Nat.le_refl _, by
      have := At.new (w.setCell ⟨eb, 4, none⟩ (.bool true)) (.cells #[.pointer (some ⟨eb, 0, none⟩)] 22)
      rwa [show (w.setCell ⟨eb, 4, none⟩ (.bool true)).heap.size = w.heap.size by simp [World.setCell]] at this, fun n s2 E2 hg => by rwa [Nat.zero_add], by simp, tn.mono R.types⟩
  have HR := Lib.hid R
  clear h hL R
  generalize hE0 : ({ E with coll := true } : Ab) = E0 at HS ⊢
  have hlen : E0.fs.length = E.fs.length := by rw [← hE0]
  clear hE0
  go_enter_defers Try.func14, Try.ntmps14
  go_wp2_with fail
  generalize (w.setCell ⟨eb, 4, none⟩ (.bool true)).alloc (.cells #[.pointer (some ⟨eb, 0, none⟩)] 22) = w1 at HS ⊢
  have NB := Lib.hid (number_any HS.out.ep)
  refine NB.out.mono ?_
  rintro e w2 ⟨rfl, n2, rfl⟩
  have H2 := Lib.hid (HS.out.same St HR.out.keep ((Turn.refl _ w1).drewN n2))
  clear HS NB c4 z4
  generalize w1.drewN n2 = w2 at H2 ⊢
  generalize w.heap.size = B at H2 le ⊢
  go_wp2_with fail
  go_loopw [3] (fun nv wr => ∃ (j k : Nat) (s' : σ) (E' : Ab), nv = .int .i64 (j : Int) ∧ j + k = E.fs.length ∧ Hid (CSt St T Z eb L w wr B E.fs.length s E0 j k s' E')) (fun nv _ => E.fs.length - (intOf nv).toNat)
  case atStart => exact ⟨0, E.fs.length, s, E0, rfl, by simp, H2⟩
  case round =>
    obtain ⟨j, k, s', E', rfl, hjk, hst⟩ := hrel
    have b0 := hst.out.box.cell 0
    simp at b0
    have e2 : wr.cell? ⟨eb, 2, none⟩ = some (.int .i64 (E'.gone : Int)) := by obtain ⟨m, v, h⟩ := hst.out.ep; exact h.cells.2.2.1
    have hsm : E'.len ≤ 100000 := by obtain ⟨m, v, h⟩ := hst.out.ep; exact h.wf.small.2
    have hnum := hst.out.num
    have hmore := hst.out.more
    rcases k with _ | k
    · have hall := hst.out.close St HR.out (Goes.none _ _)
      have hB := Lib.hid (And.intro hst.out.box hst.out.ep)
      have hco := hst.out.coll
      replace hall := Lib.hid hall
      clear hst HR
      have q1 : ¬ (E'.gone : Int) < (E0.len : Int) := by omega
      clear hnum
      go_wp2_with fail
      refine leaves_cons (f := 28) (args := #[.pointer (some ⟨B, 0, none⟩)]) (by simp) (by simp [go_sem]) ?_
      obtain ⟨hbx, m, v, hep⟩ := hB.out
      refine (off_deferred hbx hep.at_ (by rw [hco]; rfl) .returning).mono ?_
      rintro e u' w'' ⟨rfl, rfl, rfl⟩
      obtain ⟨g1, g2, g3, g4⟩ := hall.out
      exact ⟨_, results_tmp rfl _ _ _, j, s', E', g1, rfl, g2, g3, g4⟩
    · obtain ⟨f, r, hf⟩ : ∃ f r, E'.fs = f :: r := by
        cases hfs : E'.fs with
        | nil => rw [hfs] at hmore; simp at hmore
        | cons f r => exact ⟨f, r, rfl⟩
      obtain ⟨q, off, cap, c1, cq, hcap⟩ := hst.out.ep.first hf
      have q1 : (E'.gone : Int) < (E0.len : Int) := by omega
      clear hnum
      by_cases h0 : cntk E'.P E'.gone = 0
      · have q2 : ((cntk E'.P E'.gone : Int) == 0) = true := by simp [h0]
        obtain ⟨mm, vv, hat⟩ := hst.out.ep
        have TK := Lib.hid (take_any ⟨mm, vv, hat⟩ hf h0)
        have hwf := Lib.hid hat.wf
        rw [h0] at cq
        clear hat
        go_wp2_with fail
        refine TK.out.mono ?_
        rintro e w5 ⟨rfl, he5, ht5⟩
        obtain ⟨fn, caps, rfl, hE, hrun⟩ := HR.out.run s' E' f r w5 hf hst.out.coll h0 hwf.out (HR.out.keep _ _ _ _ hst.out.l ht5) he5
        have RA := Lib.hid (run_any hE hrun)
        have HT5 := Lib.hid ht5
        clear hE hrun he5 ht5 TK
        go_wp2_with fail
        refine RA.out.mono ?_
        rintro e w6 ⟨rfl, s1, E1, hs6, hl6, he6, ht6⟩
        have HN := Lib.hid (hst.out.next St HR.out h0 hs6 hl6 he6 ((HT5.out.mono HR.out.types).trans ht6))
        clear hs6 hl6 he6 ht6 hf RA cq c1 hst
        go_wp2_with fail
        go_roundw
        case rel =>
          exact ⟨j + 1, k, _, _, by go_num, by omega, HN⟩
        case measure => simp [intOf]; omega
      · have hall := hst.out.close St HR.out (Goes.no _ _ _ h0)
        have hB := Lib.hid (And.intro hst.out.box hst.out.ep)
        have hco := hst.out.coll
        replace hall := Lib.hid hall
        have q2 : ((cntk E'.P E'.gone : Int) == 0) = false := by simpa using h0
        clear hst HR hf
        go_wp2_with fail
        refine leaves_cons (f := 28) (args := #[.pointer (some ⟨B, 0, none⟩)]) (by simp) (by simp [go_sem]) ?_
        obtain ⟨hbx, m, v, hep⟩ := hB.out
        refine (off_deferred hbx hep.at_ (by rw [hco]; rfl) .returning).mono ?_
        rintro e u' w'' ⟨rfl, rfl, rfl⟩
        obtain ⟨g1, g2, g3, g4⟩ := hall.out
        exact ⟨_, results_tmp rfl _ _ _, j, s', E', g1, rfl, g2, g3, g4⟩
end
end Go.Proofs.Ythohhehelnkpgaa.Rel
