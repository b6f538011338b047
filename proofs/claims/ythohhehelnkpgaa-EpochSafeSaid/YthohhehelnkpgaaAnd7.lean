/-
  The rest by eight, as the machine's 'and' tells it.
-/
import Derived.Test.YthohhehelnkpgaaWSafeB
import Derived.Laws.Bits64b
import Derived.Laws.MakeOwn
namespace Go.Proofs.Ythohhehelnkpgaa
open Go.RowKit Go.Maps Go.IntWalk Go.Lib
set_option linter.unusedVariables false
theorem and7 (a : Int) : ∃ n : Nat, n < 8 ∧ bits BinOp.and IntKind.i64 a 7 = (n : Int) := by
  refine ⟨(BitVec.ofInt 64 a &&& BitVec.ofInt 64 7).toNat, ?_, ?_⟩
  · rw [BitVec.toNat_and]
    have : (BitVec.ofInt 64 a).toNat &&& (BitVec.ofInt 64 7).toNat ≤ (BitVec.ofInt 64 7).toNat := Nat.and_le_right
    have h7 : (BitVec.ofInt 64 7).toNat = 7 := by decide
    omega
  · show IntKind.i64.wrap ((BitVec.ofInt 64 a &&& BitVec.ofInt 64 7).toNat : Int) = _
    have : (BitVec.ofInt 64 a).toNat &&& (BitVec.ofInt 64 7).toNat ≤ (BitVec.ofInt 64 7).toNat := Nat.and_le_right
    have h7 : (BitVec.ofInt 64 7).toNat = 7 := by decide
    rw [IntKind.wrap_i64, BitVec.toNat_and]
    omega

def zc8 : Array Value := #[.bool false, .bool false, .bool false, .bool false, .bool false, .bool false, .bool false, .bool false]
theorem zc8_at (i : Nat) : zc8[i % zc8.size]! = .bool false := by
  have h : i % zc8.size < 8 := Nat.mod_lt _ (by decide)
  generalize i % zc8.size = j at h
  obtain rfl | rfl | rfl | rfl | rfl | rfl | rfl | rfl : j = 0 ∨ j = 1 ∨ j = 2 ∨ j = 3 ∨ j = 4 ∨ j = 5 ∨ j = 6 ∨ j = 7 := by omega
  all_goals rfl
theorem made8 (n : Nat) : (madeCells zc8 (n * 8)).toList = flat8 (fun _ _ => false) n := by
  refine List.ext_getElem? fun j => ?_
  have l1 : (madeCells zc8 (n * 8)).toList.length = n * 8 := by rw [Array.length_toList, size_madeCells]
  have l2 := flat8_len (fun _ _ => false) n
  by_cases hj : j < n * 8
  · have h2 := flat8_at (fun _ _ => false) n (j / 8) (j % 8) (by omega) (Nat.mod_lt _ (by omega))
    rw [show j / 8 * 8 + j % 8 = j by omega] at h2
    rw [h2]
    unfold madeCells
    simp only [zc8_at]
    simp [hj]
  · rw [List.getElem?_eq_none (by omega), List.getElem?_eq_none (by omega)]

theorem make8 (n : Nat) (hn : n ≤ 100000) (w : World) : (Instr.makeSlice 44 (.int .i64 (n : Int)) (.int .i64 (n : Int))).run Try.prog w = .ok (.slice (some ⟨w.heap.size, 0, none⟩) n n) (w.alloc (.cells (madeCells zc8 (n * 8)) 43)) := by
  obtain ⟨i0, hi, hz0, hz1, hz2⟩ := info_parts info43
  have := run_make (P := Try.prog) w 44 43 i0 _ Try.underlying44 hi hz0 .i64 .i64 (n : Int) (n : Int) (by omega) (by omega) (by rw [hz2]; omega) (by omega)
  rw [hz1, Int.toNat_natCast] at this
  exact this

theorem SaS.clear {w wr : World} {Z eb ob wb rb pb nw k : Nat} {b : Nat → Nat → Bool} {ns : List Int} {fs : List Value} {p : Nat → Bool} {E : Ab} (h : SaS w wr Z eb ob wb rb pb b nw ns fs p E k) (hn : nw ≤ 100000) :
    SaS w ((wr.setCell ⟨wb, 0, none⟩ (.slice (some ⟨wr.heap.size, 0, none⟩) nw nw)).alloc (.cells (madeCells zc8 (nw * 8)) 43)) Z eb ob wb rb pb (fun _ _ => false) nw ns fs p E k := by
  obtain ⟨wv, rv, hr⟩ := h.raw
  have tz := set_turn wr wb 0 (.slice (some ⟨wr.heap.size, 0, none⟩) nw nw)
  have w3w := hr.w_
  have no2 : ∀ i c t f, At wr i (.cells c t f) → t ≠ 44 → ¬ i = wb := fun i c t f hi htt e => by
    subst e
    have := hi.eq w3w
    injection this with _ e _
    exact htt e
  have hsz : (wr.setCell ⟨wb, 0, none⟩ (.slice (some ⟨wr.heap.size, 0, none⟩) nw nw)).heap.size = wr.heap.size := by simp [World.setCell]
  have a0 := At.new (wr.setCell ⟨wb, 0, none⟩ (.slice (some ⟨wr.heap.size, 0, none⟩) nw nw)) (.cells (madeCells zc8 (nw * 8)) 43)
  rw [hsz] at a0
  have ta := (Turn.refl (fun _ => False) (wr.setCell ⟨wb, 0, none⟩ (.slice (some ⟨wr.heap.size, 0, none⟩) nw nw))).alloc (.cells (madeCells zc8 (nw * 8)) 43)
  have t2 : Turn (· = wb) wr ((wr.setCell ⟨wb, 0, none⟩ (.slice (some ⟨wr.heap.size, 0, none⟩) nw nw)).alloc (.cells (madeCells zc8 (nw * 8)) 43)) := tz.then ta (fun _ _ h => h.elim)
  have lpb := h.pins.lt
  have hb : At ((wr.setCell ⟨wb, 0, none⟩ (.slice (some ⟨wr.heap.size, 0, none⟩) nw nw)).alloc (.cells (madeCells zc8 (nw * 8)) 43)) wb (.cells #[.slice (some ⟨wr.heap.size, 0, none⟩) nw nw] 44 (0, 0)) := (w3w.set 0 (.slice (some ⟨wr.heap.size, 0, none⟩) nw nw)).turn ta (fun h => h)
  have tn2 : Tn SbT Z wr ((wr.setCell ⟨wb, 0, none⟩ (.slice (some ⟨wr.heap.size, 0, none⟩) nw nw)).alloc (.cells (madeCells zc8 (nw * 8)) 43)) := Tn.one w3w (Or.inr (Or.inr (Or.inl rfl))) hr.base.2.1 t2
  have hep := h.ep.other w3w (by decide) (by decide) t2
  have hp := h.pins.turn t2 (no2 _ _ _ _ h.pins (by decide))
  have ho := hr.o.turn t2 (no2 _ _ _ _ hr.o (by decide))
  have hr' := hr.r.turn t2 (no2 _ _ _ _ hr.r (by decide))
  have hnums := own_turn hr.nums t2 (fun i c _ hi _ => no2 _ _ _ _ hi (by decide))
  have hfun : ∀ i f, fs[i]? = some f → ∃ nb, f = FS ob wb nb rb ∧ Z ≤ nb ∧ At ((wr.setCell ⟨wb, 0, none⟩ (.slice (some ⟨wr.heap.size, 0, none⟩) nw nw)).alloc (.cells (madeCells zc8 (nw * 8)) 43)) nb (.cells #[.int .i64 ((E.gone + i : Nat) : Int)] 3 (0, 0)) ∧ rv.ownBlock ≠ some nb := fun i f hi => by
    obtain ⟨nb, h1, h2, h3, h4⟩ := hr.funcs i f hi
    exact ⟨nb, h1, h2, h3.turn t2 (no2 _ _ _ _ h3 (by decide)), h4⟩
  generalize (wr.setCell ⟨wb, 0, none⟩ (.slice (some ⟨wr.heap.size, 0, none⟩) nw nw)).alloc (.cells (madeCells zc8 (nw * 8)) 43) = w' at *
  refine ⟨hep, h.coll, h.eight, h.few, h.len, hp, h.zpb, ⟨.slice (some ⟨wr.heap.size, 0, none⟩) nw nw, rv, ho, hb, hr', ⟨flat8_len _ _, Or.inr ⟨wr.heap.size, nw, _, rfl, by have := h.zpb; omega, a0, Nat.le_refl _, by unfold maxLen; omega, size_madeCells _ _, ?_⟩⟩, hnums, fun e => ?_, hfun, hr.base⟩, h.tn.trans tn2⟩
  · rw [made8, List.take_of_length_le (by rw [flat8_len]; exact Nat.le_refl _)]
  · injection e with e
    have e : wr.heap.size = pb := e
    omega
end Go.Proofs.Ythohhehelnkpgaa
