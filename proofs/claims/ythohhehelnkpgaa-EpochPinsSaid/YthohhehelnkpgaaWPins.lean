/-
  EpochPins, walked.
-/
import Derived.Test.YthohhehelnkpgaaWPlain
import Derived.Test.YthohhehelnkpgaaArgs
import Derived.Deep.CutBlock
namespace Go.Proofs.Ythohhehelnkpgaa
open Go.RowKit Go.Maps Go.IntWalk Go.Lib
set_option linter.unusedVariables false

/-! places in a rising list -/
def rk (l : List Int) (n : Nat) : Nat := l.countP fun x => decide (x < (n : Int))
theorem rk_mem : ∀ {l : List Int} {n : Nat}, l.Pairwise (· < ·) → (n : Int) ∈ l → l[rk l n]? = some (n : Int) ∧ rk l (n + 1) = rk l n + 1
  | [], n, _, h => by cases h
  | x :: l, n, hu, h => by
    obtain ⟨h1, h2⟩ := List.pairwise_cons.1 hu
    unfold rk at *
    rw [List.countP_cons, List.countP_cons]
    rcases List.mem_cons.1 h with e | e
    · subst e
      have z1 : l.countP (fun x => decide (x < (n : Int))) = 0 := List.countP_eq_zero.2 fun y hy => by have := h1 y hy; simp; omega
      have z2 : l.countP (fun x => decide (x < ((n + 1 : Nat) : Int))) = 0 := List.countP_eq_zero.2 fun y hy => by have := h1 y hy; simp; omega
      rw [z1, z2]
      simp
      omega
    · have hx := h1 _ e
      obtain ⟨i1, i2⟩ := rk_mem h2 e
      unfold rk at i1 i2
      have d1 : decide (x < (n : Int)) = true := by simpa using hx
      have d2 : decide (x < ((n + 1 : Nat) : Int)) = true := by simp; omega
      rw [if_pos d1, if_pos d2]
      exact ⟨by simpa using i1, by omega⟩
theorem rk_not {l : List Int} {n : Nat} (h : ¬ (n : Int) ∈ l) : rk l (n + 1) = rk l n := by
  unfold rk
  refine List.countP_congr fun x hx => ?_
  have : x ≠ (n : Int) := fun e => h (e ▸ hx)
  simp
  omega
theorem rk_zero {l : List Int} (h : ∀ x ∈ l, 0 ≤ x) : rk l 0 = 0 := List.countP_eq_zero.2 fun x hx => by have := h x hx; simp; omega
theorem rk_all {l : List Int} {n : Nat} (h : ∀ x ∈ l, x < (n : Int)) : rk l n = l.length := List.countP_eq_length.2 fun x hx => by simpa using h x hx
theorem rk_le (l : List Int) (n : Nat) : rk l n ≤ l.length := List.countP_le_length ..

def onb (E : Ab) (i : Nat) : Bool := (look E.P (i : Int)).isSome
def onc (E : Ab) : Array Value := #[.bool (onb E 0), .bool (onb E 1), .bool (onb E 2), .bool (onb E 3), .bool (onb E 4)]
theorem onb_iff {E : Ab} (h : E.wf) (i : Nat) : onb E i = true ↔ (i : Int) ∈ E.tasks := by
  unfold onb
  rw [mem_tasks h]
  unfold pv
  rw [Option.isSome_map]
theorem onc_at (E : Ab) (i : Nat) (hi : i < 5) : (onc E)[i]? = some (.bool (onb E i)) := by
  obtain rfl | rfl | rfl | rfl | rfl : i = 0 ∨ i = 1 ∨ i = 2 ∨ i = 3 ∨ i = 4 := by omega
  all_goals rfl
theorem onc_ext {E E' : Ab} {n : Nat} (hn : n < 5) (h : ∀ i, i < 5 → i ≠ n → onb E' i = onb E i) : (onc E).setIfInBounds n (.bool (onb E' n)) = onc E' := by
  obtain rfl | rfl | rfl | rfl | rfl : n = 0 ∨ n = 1 ∨ n = 2 ∨ n = 3 ∨ n = 4 := by omega
  all_goals
    unfold onc
    simp
    refine ⟨?_, ?_, ?_, ?_⟩ <;> (symm; apply h <;> omega)

def F26 : Value := .func (.func 26) #[] #[]
def PinL (E : Ab) (w : World) : Prop := ∀ f ∈ E.fs, f = F26
theorem pin_plain (Z eb : Nat) : Plain Eo Z eb PinL where
  types := fun t h => h
  box := by rintro (h | h) <;> cases h
  coll := fun E b w h => h
  keep := fun E w w' h ht => h
  run := fun E f r w hf h0 hw hL hE => by
    obtain rfl := hL f (by rw [hf]; simp)
    refine ⟨26, _, rfl, enters_of Try.func26 (by kernel_rfl) rfl, ?_⟩
    have HE := Lib.hid hE
    have HL := Lib.hid hL
    clear hE hL hw
    go_enter Try.func26, Try.ntmps26
    go_wp2_with fail
    go_end0
    exact ⟨rfl, fun f hf' => HL.out f (List.mem_of_mem_tail hf'), HE.out, Tn.refl _ _ _⟩

def PT (t : TypeId) : Prop := Eo t ∨ t = 48
structure PiS (w wr : World) (Z eb ob : Nat) (E : Ab) (k : Nat) : Prop where
  ep : Ep Z wr eb E
  on_ : At wr ob (.cells (onc E) 48 (0, 0))
  zob : Z ≤ ob
  fs : ∀ f ∈ E.fs, f = F26
  coll : E.coll = false
  five : ∀ p ∈ E.P, 0 ≤ p.1 ∧ p.1 < 5
  few : E.P.length ≤ k
  len : E.len ≤ k
  tn : Tn PT Z w wr
section
variable {w wr wr' : World} {Z eb ob k n : Nat} {E : Ab}
theorem PiS.wf (h : PiS w wr Z eb ob E k) : E.wf := by obtain ⟨m, v, he⟩ := h.ep; exact he.wf
theorem PiS.same (h : PiS w wr Z eb ob E k) (t : Turn (fun _ => False) wr wr') : PiS w wr' Z eb ob E k :=
  ⟨h.ep.same t, h.on_.turn t (fun h => h), h.zob, h.fs, h.coll, h.five, h.few, h.len, h.tn.trans (Tn.of_same t)⟩
theorem PiS.cell (h : PiS w wr Z eb ob E k) (i : Nat) (hi : i < 5) : wr.cell? ⟨ob, i, none⟩ = some (.bool (onb E i)) := by rw [h.on_.cell, onc_at E i hi]
theorem ne48 : ¬ Eo 48 := by rintro (h | h) <;> cases h
/-- The epoch has turned, and the array has not: as it is told behind the call, ahead of the store. -/
structure PiM (w wr : World) (Z eb ob : Nat) (E E' : Ab) (k n : Nat) : Prop where
  ep : Ep Z wr eb E'
  on_ : At wr ob (.cells (onc E) 48 (0, 0))
  zob : Z ≤ ob
  fs : ∀ f ∈ E'.fs, f = F26
  coll : E'.coll = false
  five : ∀ p ∈ E'.P, 0 ≤ p.1 ∧ p.1 < 5
  few : E'.P.length ≤ k
  len : E'.len ≤ k
  tn : Tn PT Z w wr
  ext : ∀ i, i < 5 → i ≠ n → onb E' i = onb E i
theorem PiM.same {E' : Ab} (h : PiM w wr Z eb ob E E' k n) (t : Turn (fun _ => False) wr wr') : PiM w wr' Z eb ob E E' k n :=
  ⟨h.ep.same t, h.on_.turn t (fun h => h), h.zob, h.fs, h.coll, h.five, h.few, h.len, h.tn.trans (Tn.of_same t), h.ext⟩
theorem PiM.store {E' : Ab} (h : PiM w wr Z eb ob E E' k n) (hn : n < 5) : PiS w (wr.setCell ⟨ob, n, none⟩ (.bool (onb E' n))) Z eb ob E' k :=
  ⟨h.ep.other h.on_ (by decide) (by decide) (set_turn _ _ _ _), by rw [← onc_ext hn h.ext]; exact h.on_.set _ _, h.zob, h.fs, h.coll, h.five, h.few, h.len, h.tn.trans (Tn.set h.on_ (Or.inr rfl) h.zob _ _)⟩
theorem PiS.pin (h : PiS w wr Z eb ob E k) (hn : n < 5) (he : Ep Z wr' eb (E.pin (n : Int))) (ht : Tn Eo Z wr wr') : PiM w wr' Z eb ob E (E.pin (n : Int)) (k + 1) n ∧ onb (E.pin (n : Int)) n = true := by
  have hwf : E.wf := h.wf
  have hl : ∀ s : Int, (look (E.pin (n : Int)).P s).isSome = if s = (n : Int) then true else (look E.P s).isSome := by
    intro s
    unfold Ab.pin
    by_cases h0 : (look E.P (n : Int)).isSome = true
    · rw [if_pos h0]
      by_cases hs : s = (n : Int)
      · subst hs; rw [h0, if_pos rfl]
      · rw [if_neg hs]
    · rw [if_neg h0, show (look ({ E with P := ins (n : Int) E.len E.P } : Ab).P s) = look (ins (n : Int) E.len E.P) s from rfl, look_ins hwf.up (by simpa using h0)]
      by_cases hs : s = (n : Int) <;> simp [hs]
  have hfs : (E.pin (n : Int)).fs = E.fs ∧ (E.pin (n : Int)).coll = E.coll ∧ (E.pin (n : Int)).len = E.len := by
    unfold Ab.pin; split <;> exact ⟨rfl, rfl, rfl⟩
  refine ⟨⟨he, h.on_.keep ht ne48, h.zob, by rw [hfs.1]; exact h.fs, by rw [hfs.2.1]; exact h.coll, ?_, ?_, by rw [hfs.2.2]; have := h.len; omega, h.tn.trans (ht.mono fun t h => Or.inl h), ?_⟩, ?_⟩
  · intro p hp
    unfold Ab.pin at hp
    split at hp
    · exact h.five p hp
    · rcases mem_ins.1 hp with rfl | hp
      · exact ⟨by omega, by show (n : Int) < 5; omega⟩
      · exact h.five p hp
  · have := h.few
    unfold Ab.pin
    split
    · omega
    · show (ins _ _ _).length ≤ _
      rw [ins_len]; omega
  · intro i hi hne
    unfold onb
    rw [hl, if_neg (by omega)]
  · unfold onb
    rw [hl, if_pos rfl]
theorem PiS.unpin (h : PiS w wr Z eb ob E k) (hn : n < 5) (he : Ep Z wr' eb (E.unpin (n : Int))) (ht : Tn Eo Z wr wr') : PiM w wr' Z eb ob E (E.unpin (n : Int)) (k + 1) n ∧ onb (E.unpin (n : Int)) n = false := by
  have hwf : E.wf := h.wf
  refine ⟨⟨he, h.on_.keep ht ne48, h.zob, h.fs, h.coll, fun p hp => h.five p (mem_del.1 hp).1, ?_, by have := h.len; show E.len ≤ _; omega, h.tn.trans (ht.mono fun t h => Or.inl h), ?_⟩, ?_⟩
  · have h1 : (del1 E.P (n : Int)).length ≤ E.P.length := List.length_filter_le ..
    have := h.few
    show (del1 E.P (n : Int)).length ≤ _
    omega
  · intro i hi hne
    unfold onb
    rw [show (E.unpin (n : Int)).P = del1 E.P (n : Int) from rfl, look_del hwf.up, if_neg (by omega)]
  · unfold onb
    rw [show (E.unpin (n : Int)).P = del1 E.P (n : Int) from rfl, look_del hwf.up, if_pos rfl]
    rfl
theorem PiS.retire (h : PiS w wr Z eb ob E k) (he : Ep Z wr' eb (E.retire F26)) (ht : Tn Eo Z wr wr') : PiS w wr' Z eb ob (E.retire F26) (k + 1) := by
  refine ⟨he, h.on_.keep ht ne48, h.zob, fun f hf => ?_, h.coll, h.five, by have := h.few; show E.P.length ≤ _; omega, ?_, h.tn.trans (ht.mono fun t h => Or.inl h)⟩
  · rcases List.mem_append.1 hf with h1 | h1
    · exact h.fs f h1
    · simpa using h1
  · have := h.len
    have hl : (E.retire F26).len = E.len + 1 := by simp [Ab.len, Ab.retire]; omega
    omega
theorem PiS.adv (h : PiS w wr Z eb ob E k) {r : Nat} (hr : r ≤ E.fs.length) (he : Ep Z wr' eb (E.adv r)) (ht : Tn Eo Z wr wr') : PiS w wr' Z eb ob (E.adv r) (k + 1) := by
  refine ⟨he, h.on_.keep ht ne48, h.zob, fun f hf => h.fs f (List.mem_of_mem_drop hf), h.coll, h.five, by have := h.few; show E.P.length ≤ _; omega, ?_, h.tn.trans (ht.mono fun t h => Or.inl h)⟩
  have := h.len
  have hl : (E.adv r).len = E.len := by simp [Ab.len, Ab.adv]; omega
  omega
theorem PiS.more (h : PiS w wr Z eb ob E k) : PiS w wr Z eb ob E (k + 1) := ⟨h.ep, h.on_, h.zob, h.fs, h.coll, h.five, by have := h.few; omega, by have := h.len; omega, h.tn⟩
theorem PiS.start (hz : Z ≤ ob) (he : Ep Z wr eb Ab.start) (ho : At wr ob (.cells (onc Ab.start) 48 (0, 0))) (ht : Tn PT Z w wr) : PiS w wr Z eb ob Ab.start 0 :=
  ⟨he, ho, hz, (fun f hf => by cases hf), rfl, (fun p hp => by cases hp), Nat.le_refl _, Nat.le_refl _, ht⟩
end
end Go.Proofs.Ythohhehelnkpgaa
