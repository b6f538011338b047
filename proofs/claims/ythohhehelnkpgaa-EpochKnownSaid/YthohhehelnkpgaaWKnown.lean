/-
  The functions of EpochKnown: each writes its letter.
-/
import Derived.Test.YthohhehelnkpgaaWPlain
namespace Go.Proofs.Ythohhehelnkpgaa
open Go.RowKit Go.Maps Go.IntWalk Go.Lib
set_option linter.unusedVariables false

def txt : Nat → ByteArray
  | 0 => ⟨#[]⟩
  | 1 => ⟨#[97]⟩
  | 2 => ⟨#[97, 98]⟩
  | _ => ⟨#[97, 98, 99]⟩
def FK (sb i : Nat) : Value := .func (.func (9 + i)) #[] #[.pointer (some ⟨sb, 0, none⟩)]
def KnT (t : TypeId) : Prop := Eo t ∨ t = 9
def KnL (Z sb : Nat) (E : Ab) (w : World) : Prop := At w sb (.cells #[.string (txt E.gone)] 9 (0, 0)) ∧ (∀ i f, E.fs[i]? = some f → E.gone + i < 3 ∧ f = FK sb (E.gone + i)) ∧ Z ≤ sb
theorem ne9 : ¬ Eo 9 := by rintro (h | h) <;> cases h

theorem letter {w : World} {sb n : Nat} (hn : n < 3) (hb : At w sb (.cells #[.string (txt n)] 9 (0, 0))) :
    Calls Try.prog (9 + n) #[.pointer (some ⟨sb, 0, none⟩)] w fun e w' => e = .returned (.tuple #[]) ∧ w' = w.setCell ⟨sb, 0, none⟩ (.string (txt (n + 1))) := by
  have c0 := hb.cell 0
  have z0 := hb.thawed 0
  simp at c0
  clear hb
  obtain rfl | rfl | rfl : n = 0 ∨ n = 1 ∨ n = 2 := by omega
  · go_enter Try.func9, Try.ntmps9
    go_wp2_with fail
    go_end0
    exact ⟨rfl, rfl⟩
  · go_enter Try.func10, Try.ntmps10
    go_wp2_with fail
    go_end0
    exact ⟨rfl, rfl⟩
  · go_enter Try.func11, Try.ntmps11
    go_wp2_with fail
    go_end0
    exact ⟨rfl, rfl⟩

theorem kn_enters {n : Nat} (hn : n < 3) : Enters Try.prog (9 + n) := by
  obtain rfl | rfl | rfl : n = 0 ∨ n = 1 ∨ n = 2 := by omega
  · exact enters_of Try.func9 (by kernel_rfl) rfl
  · exact enters_of Try.func10 (by kernel_rfl) rfl
  · exact enters_of Try.func11 (by kernel_rfl) rfl

theorem kn_plain (Z eb sb : Nat) : Plain KnT Z eb (KnL Z sb) where
  types := fun t h => Or.inl h
  box := by rintro ((h | h) | h) <;> cases h
  coll := fun E b w h => h
  keep := fun E w w' h ht => ⟨h.1.keep ht ne9, h.2⟩
  run := fun E f r w hf h0 hw hL hE => by
    obtain ⟨hb, hfs, hZ⟩ := hL
    obtain ⟨hlt, rfl⟩ := hfs 0 f (by rw [hf]; rfl)
    simp only [Nat.add_zero] at hlt
    refine ⟨9 + E.gone, _, rfl, kn_enters hlt, (letter hlt hb).mono ?_⟩
    rintro e w' ⟨rfl, rfl⟩
    have tz := set_turn w sb 0 (.string (txt (E.gone + 1)))
    refine ⟨rfl, ⟨hb.set 0 _, fun i f hi => ?_, hZ⟩, hE.other hb (by decide) (by decide) tz, Tn.set hb (Or.inr rfl) hZ 0 _⟩
    have := hfs (i + 1) f (by
      rw [hf]
      rw [show E.take.fs = r by show E.fs.tail = r; rw [hf]; rfl] at hi
      simpa using hi)
    rw [show E.take.gone = E.gone + 1 from rfl, show E.gone + 1 + i = E.gone + (i + 1) by omega]
    exact this

structure KnS (w wr : World) (Z eb sb : Nat) (E : Ab) : Prop where
  ep : Ep Z wr eb E
  l : KnL Z sb E wr
  tn : Tn KnT Z w wr
theorem KnS.step {w wr wr' : World} {Z eb sb : Nat} {E E' : Ab} (h : KnS w wr Z eb sb E) (he : Ep Z wr' eb E') (ht : Tn Eo Z wr wr') (hg : E'.gone = E.gone) (hf : ∀ i f, E'.fs[i]? = some f → E'.gone + i < 3 ∧ f = FK sb (E'.gone + i)) : KnS w wr' Z eb sb E' :=
  ⟨he, ⟨by rw [hg]; exact h.l.1.keep ht ne9, hf, h.l.2.2⟩, h.tn.trans (ht.mono (fun t h => Or.inl h))⟩
theorem KnS.same {w wr wr' : World} {Z eb sb : Nat} {E : Ab} (h : KnS w wr Z eb sb E) (ht : Turn (fun _ => False) wr wr') : KnS w wr' Z eb sb E :=
  ⟨h.ep.same ht, ⟨h.l.1.turn ht (fun h => h), h.l.2⟩, h.tn.trans (Tn.of_same ht)⟩
theorem KnS.text {w wr : World} {Z eb sb : Nat} {E : Ab} (h : KnS w wr Z eb sb E) (n : Nat) (hn : E.gone = n) : wr.cell? ⟨sb, 0, none⟩ = some (.string (txt n)) := by
  have := h.l.1.cell 0
  rw [hn] at this
  simpa using this
end Go.Proofs.Ythohhehelnkpgaa
