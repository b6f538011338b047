/-
  Collect of functions that leave the epoch as it is; awake.
-/
import Derived.Test.YthohhehelnkpgaaWEpD
namespace Go.Proofs.Ythohhehelnkpgaa
open Go.RowKit Go.Maps Go.IntWalk Go.Lib
set_option linter.unusedVariables false

/-- How many of the first k are ripe. -/
def runs : Nat → Ab → Nat
  | 0, _ => 0
  | k + 1, E => if cntk E.P E.gone = 0 then runs k E.take + 1 else 0
def Ab.adv (E : Ab) (n : Nat) : Ab := { E with fs := E.fs.drop n, gone := E.gone + n }
theorem Ab.adv_zero (E : Ab) : E.adv 0 = E := rfl
theorem Ab.adv_take (E : Ab) (n : Nat) : E.take.adv n = E.adv (n + 1) := by
  unfold Ab.adv Ab.take
  simp [Nat.add_comm, Nat.add_left_comm]
theorem goes_plain : ∀ (k : Nat) (E : Ab), goes (fun (_ : Unit) E => ((), E.take)) k () E = (runs k E, (), E.adv (runs k E))
  | 0, E => rfl
  | k + 1, E => by
    unfold goes runs
    by_cases h : cntk E.P E.gone = 0
    · rw [if_pos h, if_pos h, goes_plain k E.take]
      rw [Ab.adv_take]
    · rw [if_neg h, if_neg h]
      rfl
theorem runs_coll (b : Bool) : ∀ (k : Nat) (E : Ab), runs k { E with coll := b } = runs k E
  | 0, E => rfl
  | k + 1, E => by
    unfold runs
    show (if cntk E.P E.gone = 0 then runs k { E.take with coll := b } + 1 else 0) = _
    rw [runs_coll b k E.take]
theorem runs_le : ∀ (k : Nat) (E : Ab), runs k E ≤ k
  | 0, E => Nat.le_refl _
  | k + 1, E => by
    unfold runs
    have := runs_le k E.take
    split <;> omega
theorem runs_none : ∀ (k : Nat) (E : Ab), E.P = [] → runs k E = k
  | 0, E, _ => rfl
  | k + 1, E, h => by
    unfold runs
    rw [if_pos (by rw [h]; rfl), runs_none k E.take h]

structure Plain (T : TypeId → Prop) (Z eb : Nat) (L : Ab → World → Prop) : Prop where
  types : ∀ t, Eo t → T t
  box : ¬ T 22
  coll : ∀ E b w, L E w → L { E with coll := b } w
  keep : ∀ E w w', L E w → Tn Eo Z w w' → L E w'
  run : ∀ E f r w, E.fs = f :: r → cntk E.P E.gone = 0 → E.wf → L E w → Ep Z w eb E.take → ∃ fn caps, f = .func (.func fn) #[] caps ∧ Enters Try.prog fn ∧
    Calls Try.prog fn caps w fun e w' => e = .returned (.tuple #[]) ∧ L E.take w' ∧ Ep Z w' eb E.take ∧ Tn T Z w w'

theorem collect_plain {T : TypeId → Prop} {Z eb : Nat} {L : Ab → World → Prop} (R : Plain T Z eb L) {w : World} {E : Ab} (h : Ep Z w eb E) (hc : E.coll = false) (hL : L E w) :
    Calls Try.prog 14 #[.pointer (some ⟨eb, 0, none⟩)] w fun e w' => e = .returned (.int .i64 (runs E.fs.length E : Int)) ∧ L (E.adv (runs E.fs.length E)) w' ∧ Ep Z w' eb (E.adv (runs E.fs.length E)) ∧ Tn T Z w w' := by
  have R' : Runs (fun (_ : Unit) E => ((), E.take)) T Z eb (fun _ => L) := ⟨R.types, R.box, fun _ => R.keep, fun _ E f r w h1 _ h2 h3 h4 h5 => R.run E f r w h1 h2 h3 h4 h5, fun _ _ _ => rfl, fun _ _ _ h => h, fun _ E => by show E.fs.length ≤ E.fs.tail.length + 1; rw [List.length_tail]; omega⟩
  have := collect_any _ R' h hc (s := ()) (R.coll E true w hL)
  rw [goes_plain, runs_coll] at this
  refine this.mono ?_
  rintro e w' ⟨rfl, h1, h2, h3⟩
  have e1 : ({ ({ E with coll := true } : Ab).adv (runs E.fs.length E) with coll := false } : Ab) = E.adv (runs E.fs.length E) := by
    unfold Ab.adv
    rw [← hc]
  refine ⟨rfl, ?_, ?_, h3⟩
  · rw [← e1]; exact R.coll _ false _ h1
  · rw [← e1]; exact h2

/-- Other blocks are written. -/
theorem Ep.other {Z eb g : Nat} {w w' : World} {E : Ab} {c : Array Value} {t : TypeId} {f : Nat × Nat} (h : Ep Z w eb E) (hg : At w g (.cells c t f)) (h1 : t ≠ 52) (h2 : t ≠ 55) (k : Turn (· = g) w w') : Ep Z w' eb E := by
  obtain ⟨m, v, h⟩ := h
  refine ⟨m, v, h.turn k (fun e => ?_) (fun i c f hi e => ?_) (fun i es c hi e => ?_)⟩
  · subst e
    have := hg.eq h.at_
    injection this with _ e _
    exact h1 e
  · subst e
    have := hg.eq hi
    injection this with _ e _
    exact h2 e
  · subst e
    cases hg.eq hi

/-! awake -/
def AwL (Z nb : Nat) (E : Ab) (w : World) : Prop := At w nb (.cells #[.int .i64 (E.gone : Int)] 3 (0, 0)) ∧ (∀ f ∈ E.fs, f = .func (.func 33) #[] #[.pointer (some ⟨nb, 0, none⟩)]) ∧ Z ≤ nb
def AwT (t : TypeId) : Prop := Eo t ∨ t = 3
theorem aw_plain (Z eb nb : Nat) : Plain AwT Z eb (AwL Z nb) where
  types := fun t h => Or.inl h
  box := by rintro ((h | h) | h) <;> cases h
  coll := fun E b w h => h
  keep := fun E w w' h ht => ⟨h.1.keep ht (by rintro (h | h) <;> cases h), h.2⟩
  run := fun E f r w hf h0 hw hL hE => by
    obtain ⟨hb, hfs, hZ⟩ := hL
    obtain rfl := hfs f (by rw [hf]; simp)
    refine ⟨33, _, rfl, enters_of Try.func33 (by kernel_rfl) rfl, ?_⟩
    have c0 := hb.cell 0
    have z0 := hb.thawed 0
    have hs : E.gone + E.fs.length ≤ 100000 := hw.small.2
    have HE := Lib.hid (And.intro hb hE)
    have HF := Lib.hid (And.intro hfs hf)
    simp at c0
    clear hb hE hfs hf hw
    go_enter Try.func33, Try.ntmps33
    go_wp2_with fail
    go_end0
    obtain ⟨hb, hE⟩ := HE.out
    have tz := set_turn w nb 0 (.int .i64 ((E.gone : Int) + 1))
    refine ⟨rfl, ⟨?_, fun f hf' => HF.out.1 f ?_, hZ⟩, hE.other hb (by decide) (by decide) tz, Tn.set hb (Or.inr rfl) hZ 0 _⟩
    · have := hb.set 0 (.int .i64 ((E.gone : Int) + 1))
      rw [show E.take.gone = E.gone + 1 from rfl, show ((E.gone + 1 : Nat) : Int) = (E.gone : Int) + 1 by omega]
      exact this
    · exact List.mem_of_mem_tail hf'

theorem Tn.none {T : TypeId → Prop} {Z : Nat} {w w' : World} (h : Tn T Z w w') (hZ : w.heap.size ≤ Z) : Turn (fun _ => False) w w' := Turn.mono h fun i hi k => by have := k.1; omega
structure AwS (w wr : World) (Z nb : Nat) (E : Ab) : Prop where
  ep : Ep Z wr Z E
  l : AwL Z nb E wr
  tn : Tn AwT Z w wr
theorem AwS.step {w wr wr' : World} {Z nb : Nat} {E E' : Ab} (h : AwS w wr Z nb E) (he : Ep Z wr' Z E') (ht : Tn Eo Z wr wr') (hg : E'.gone = E.gone) (hf : ∀ f ∈ E'.fs, f = .func (.func 33) #[] #[.pointer (some ⟨nb, 0, none⟩)]) : AwS w wr' Z nb E' :=
  ⟨he, ⟨by rw [hg]; exact h.l.1.keep ht (by rintro (h | h) <;> cases h), hf, h.l.2.2⟩, h.tn.trans (ht.mono (fun t h => Or.inl h))⟩

def aw1 : Ab := ⟨[(1, 0)], [], 0, false⟩
def aw2 (F : Value) : Ab := ⟨[(1, 0)], [F], 0, false⟩
def aw3 (F : Value) : Ab := ⟨[], [F], 0, false⟩
def aw4 : Ab := ⟨[], [], 1, false⟩
theorem aw1_of : Ab.start.pin 1 = aw1 := rfl
theorem aw2_of (F : Value) : aw1.retire F = aw2 F := rfl
theorem aw2_adv (F : Value) : (aw2 F).adv 0 = aw2 F := rfl
theorem aw2_runs (F : Value) : runs (aw2 F).fs.length (aw2 F) = 0 := rfl
theorem aw3_of (F : Value) : (aw2 F).unpin 1 = aw3 F := rfl
theorem aw3_runs (F : Value) : runs (aw3 F).fs.length (aw3 F) = 1 := rfl
theorem aw4_of (F : Value) : (aw3 F).adv 1 = aw4 := rfl
theorem AwL.cell {Z nb : Nat} {E : Ab} {w : World} (h : AwL Z nb E w) (n : Nat) (hn : E.gone = n) : w.cell? ⟨nb, 0, none⟩ = some (.int .i64 (n : Int)) := by
  have := h.1.cell 0
  rw [hn] at this
  simpa using this

set_option maxRecDepth 100000 in
set_option maxHeartbeats 1000000 in
theorem awake_any (w : World) : Calls Try.prog 18 #[] w fun e w' => e = .returned (.bool true) ∧ Turn (fun _ => False) w w' := by
  have hmf : ∀ (fn : Fn) (first cap : Array Value) (w : World), (Instr.makeFunc fn first cap).run Try.prog w = .ok (.func fn first cap) w := fun _ _ _ _ => rfl
  obtain ⟨Z, hZ⟩ : ∃ Z, Z = w.heap.size := ⟨_, rfl⟩
  have N := Lib.hid (new_any (Z := Z) w (by omega))
  have AP := Lib.hid fun eb nb => aw_plain Z eb nb
  go_enter Try.func18, Try.ntmps18
  go_wp2_with fail
  refine N.out.mono ?_
  rintro e w1 ⟨rfl, he1, ht1⟩
  have hs1 := ht1.size
  rw [← hZ] at he1 hs1 ⊢
  have h1 : Hid (AwS w (w1.alloc (.cells #[.int .i64 0] 3)) Z w1.heap.size Ab.start) :=
    Lib.hid ⟨he1.same ((Turn.refl _ w1).alloc _), ⟨At.new w1 _, (fun f hf => by cases hf), by omega⟩, Tn.of_same (ht1.alloc _)⟩
  replace hZ := Lib.hid hZ
  clear he1 ht1 hs1
  go_wp2_with fail
  generalize w1.alloc (.cells #[.int .i64 0] 3) = w2 at h1 ⊢
  generalize w1.heap.size = nb at h1 ⊢
  have PI : Hid (Calls Try.prog 12 #[.pointer (some ⟨Z, 0, none⟩), .int .i64 1] w2 fun e w' => e = .returned (.bool true) ∧ AwS w w' Z nb aw1) := Lib.hid ((pin_any (t := 1) h1.out.ep (by omega) (by omega) (show 0 < 100000 by omega)).mono fun e w' ⟨h, he, ht⟩ => ⟨h, h1.out.step he ht rfl (fun f hf => by cases hf)⟩)
  refine PI.out.mono ?_
  rintro e w3 ⟨rfl, h3⟩
  replace h3 := Lib.hid h3
  clear PI h1
  go_wp2_with fail
  have RT : Hid (Calls Try.prog 13 #[.pointer (some ⟨Z, 0, none⟩), .func (.func 33) #[] #[.pointer (some ⟨nb, 0, none⟩)]] w3 fun e w' => e = .returned (.bool true) ∧ AwS w w' Z nb (aw2 (.func (.func 33) #[] #[.pointer (some ⟨nb, 0, none⟩)]))) :=
    Lib.hid ((retire_any h3.out.ep (show 0 < 100000 by omega)).mono fun e w' ⟨h, he, ht⟩ => ⟨h, h3.out.step he ht rfl (fun f hf => by simpa [aw2] using hf)⟩)
  refine RT.out.mono ?_
  rintro e w4 ⟨rfl, h4⟩
  replace h4 := Lib.hid h4
  clear RT h3
  go_wp2_with fail
  have CO : Hid (Calls Try.prog 14 #[.pointer (some ⟨Z, 0, none⟩)] w4 fun e w' => e = .returned (.int .i64 0) ∧ AwS w w' Z nb (aw2 (.func (.func 33) #[] #[.pointer (some ⟨nb, 0, none⟩)]))) :=
    Lib.hid ((collect_plain (AP.out Z nb) h4.out.ep rfl h4.out.l).mono fun e w' ⟨h, hl, he, ht⟩ => ⟨h, he, hl, h4.out.tn.trans ht⟩)
  refine CO.out.mono ?_
  rintro e w5 ⟨rfl, h5⟩
  have c5 := h5.l.cell 0 rfl
  simp at c5
  replace h5 := Lib.hid h5
  clear CO h4
  go_wp2_with fail
  have UN : Hid (Calls Try.prog 15 #[.pointer (some ⟨Z, 0, none⟩), .int .i64 1] w5 fun e w' => e = .returned (.bool true) ∧ AwS w w' Z nb (aw3 (.func (.func 33) #[] #[.pointer (some ⟨nb, 0, none⟩)]))) :=
    Lib.hid ((unpin_any (t := 1) h5.out.ep (by omega) (by omega)).mono fun e w' ⟨h, he, ht⟩ => ⟨h, h5.out.step he ht rfl h5.out.l.2.1⟩)
  refine UN.out.mono ?_
  rintro e w6 ⟨rfl, h6⟩
  replace h6 := Lib.hid h6
  clear UN h5 c5
  go_wp2_with fail
  have CO : Hid (Calls Try.prog 14 #[.pointer (some ⟨Z, 0, none⟩)] w6 fun e w' => e = .returned (.int .i64 1) ∧ AwS w w' Z nb aw4) :=
    Lib.hid ((collect_plain (AP.out Z nb) h6.out.ep rfl h6.out.l).mono fun e w' ⟨h, hl, he, ht⟩ => ⟨h, he, hl, h6.out.tn.trans ht⟩)
  refine CO.out.mono ?_
  rintro e w7 ⟨rfl, h7⟩
  have c7 := h7.l.cell 1 rfl
  simp at c7
  replace h7 := Lib.hid h7
  clear CO h6
  go_wp2_with fail
  have WT : Hid (Calls Try.prog 16 #[.pointer (some ⟨Z, 0, none⟩)] w7 fun e w' => e = .returned (.int .i64 0) ∧ w' = w7) := Lib.hid (waiting_any h7.out.ep)
  refine WT.out.mono ?_
  rintro e w8 ⟨rfl, rfl⟩
  clear WT
  go_wp2_with fail
  have PN : Hid (Calls Try.prog 17 #[.pointer (some ⟨Z, 0, none⟩)] w8 (PinnedPost w8 [])) := Lib.hid (pinned_any h7.out.ep)
  refine PN.out.mono ?_
  rintro e w9 ⟨A, cap, B, rfl, _, _, ht⟩
  have h9 := Lib.hid (h7.out.tn.trans (Tn.of_same ht))
  clear ht PN h7 c7
  go_wp2_with fail
  go_ret
  exact ⟨rfl, h9.out.none (by have := hZ.out; omega)⟩
end Go.Proofs.Ythohhehelnkpgaa
