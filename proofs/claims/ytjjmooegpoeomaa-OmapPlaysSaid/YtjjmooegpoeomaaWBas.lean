/-
  strings.Clone, clonePair, and the functions that compare pairs: what they give, and that they make new memory alone.
-/
import Derived.Test.YtjjmooegpoeomaaProg
import Derived.Test.YtjjmooegpoeomaaShelf
import Derived.Test.YtjjmooegpoeomaaPm
import Derived.WalkKit
import Derived.WalkSpells
import Derived.WalkLawsBesides
import Derived.Deep.QuietTactic
import Derived.Deep.RegionHeld3
import Derived.BigQuiet
import Derived.Deep.Cut
import Derived.Deep.CutBlock
import Derived.Lib.Hide
import Derived.Laws.ResultCell
namespace Go.Proofs.Ytjjmooegpoeomaa
open Go.RowKit Go.Lib
set_option linter.unusedVariables false

def No (_ : Nat) : Prop := False
theorem At.no {w w' : World} {g : Nat} {o : Obj} (h : At w g o) (t : Turn No w w') : At w' g o := h.turn t (fun h => h)
theorem At.new2 (w : World) (o o2 : Obj) : At ((w.alloc o).alloc o2) (w.heap.size + 1) o2 := by simpa using At.new (w.alloc o) o2
theorem Turn.set1 (w : World) (g i : Nat) (u : Value) : Turn (fun k => k = g) w (w.setCell ⟨g, i, none⟩ u) := Turn.setCell (X := fun k => k = g) (p := ⟨g, i, none⟩) (Turn.refl _ w) (Or.inl rfl) u
def Fit (a : ByteArray) : Prop := a.size ≤ 140737488355328

theorem bytes_beq (a b : ByteArray) : (a.toList == b.toList) = decide (a = b) := by
  rw [ByteArray.toList_eq, ByteArray.toList_eq]
  obtain ⟨⟨x⟩⟩ := a
  obtain ⟨⟨y⟩⟩ := b
  by_cases h : x = y
  · subst h; simp
  · simp [h]
/-- strings.Clone -/
theorem clone_any (a : ByteArray) (h : Fit a) (w : World) :
    Calls Try.prog 51 #[.string a] w fun e w' => e = .returned (.string a) ∧ Turn No w w' := by
  have h' : a.size ≤ 281474976710656 := Nat.le_trans h (by decide)
  go_enter Try.func51, Try.ntmps51
  go_wp2_with (go_at_call 59; refine (Try.stringslite_Clone _ _ h').mono ?_; rintro e w' ⟨rfl, hb⟩)
  go_ret
  exact ⟨rfl, Turn.of_below hb⟩
theorem clone_turn (a : ByteArray) (hf : Fit a) {X : Nat → Prop} {w0 : World} (w : World) (h : Turn X w0 w) :
    Calls Try.prog 51 #[.string a] w fun e w' => e = .returned (.string a) ∧ Turn No w w' ∧ Turn X w0 w' := by
  refine (clone_any a hf w).mono ?_
  rintro e w' ⟨rfl, hb⟩
  exact ⟨rfl, hb, h.trans (hb.mono fun _ _ h => h.elim)⟩

/-- find's own function: a pair's key held against a key. -/
theorem cmp58_any (k v key : ByteArray) (w : World) :
    Calls Try.prog 58 #[.agg #[.string k, .string v], .string key] w fun e w' => e = .returned (.int .i64 (kcmp k key)) ∧ Turn No w w' := by
  have HB := Lib.hid (And.intro ((Turn.refl No w).alloc (.cells #[.string k, .string v] 50)) (At.new w (.cells #[.string k, .string v] 50)))
  go_enter Try.func58, Try.ntmps58
  go_upto_region 1 with (fail)
  generalize w.alloc (.cells #[.string k, .string v] 50) = w1 at HB ⊢
  have c0 := HB.out.2.cell 0
  simp at c0
  go_wp2_with (go_at_call 29; refine (Try.strings_Compare _ _ _).mono ?_; rintro e w' ⟨rfl, rfl⟩)
  go_ret
  exact ⟨rfl, HB.out.1⟩
/-- New's own functions: two pairs' keys. -/
theorem cmp28_any (k v k2 v2 : ByteArray) (w : World) :
    Calls Try.prog 28 #[.agg #[.string k, .string v], .agg #[.string k2, .string v2]] w fun e w' => e = .returned (.int .i64 (kcmp k k2)) ∧ Turn No w w' := by
  have HB := Lib.hid (And.intro (((Turn.refl No w).alloc (.cells #[.string k, .string v] 50)).alloc (.cells #[.string k2, .string v2] 50)) (And.intro ((At.new w (.cells #[.string k, .string v] 50)).no ((Turn.refl No _).alloc (.cells #[.string k2, .string v2] 50))) (At.new2 w (.cells #[.string k, .string v] 50) (.cells #[.string k2, .string v2] 50))))
  go_enter Try.func28, Try.ntmps28
  go_upto_region 1 with (fail)
  generalize (w.alloc (.cells #[.string k, .string v] 50)).alloc (.cells #[.string k2, .string v2] 50) = w1 at HB ⊢
  have c0 := HB.out.2.1.cell 0
  have c1 := HB.out.2.2.cell 0
  simp at c0 c1
  go_wp2_with (go_at_call 29; refine (Try.strings_Compare _ _ _).mono ?_; rintro e w' ⟨rfl, rfl⟩)
  go_ret
  exact ⟨rfl, HB.out.1⟩
theorem same31_any (k v k2 v2 : ByteArray) (w : World) :
    Calls Try.prog 31 #[.agg #[.string k, .string v], .agg #[.string k2, .string v2]] w fun e w' => e = .returned (.bool (decide (k = k2))) ∧ Turn No w w' := by
  have HB := Lib.hid (And.intro (((Turn.refl No w).alloc (.cells #[.string k, .string v] 50)).alloc (.cells #[.string k2, .string v2] 50)) (And.intro ((At.new w (.cells #[.string k, .string v] 50)).no ((Turn.refl No _).alloc (.cells #[.string k2, .string v2] 50))) (At.new2 w (.cells #[.string k, .string v] 50) (.cells #[.string k2, .string v2] 50))))
  go_enter Try.func31, Try.ntmps31
  go_upto_region 1 with (fail)
  generalize (w.alloc (.cells #[.string k, .string v] 50)).alloc (.cells #[.string k2, .string v2] 50) = w1 at HB ⊢
  have c0 := HB.out.2.1.cell 0
  have c1 := HB.out.2.2.cell 0
  simp at c0 c1
  go_wp2_with (fail)
  go_ret
  refine ⟨?_, HB.out.1⟩
  rw [← bytes_beq]
  rfl

set_option maxHeartbeats 1000000 in
theorem clonePair_any (k v : ByteArray) (hk : Fit k) (hv : Fit v) (w : World) :
    Calls Try.prog 49 #[.agg #[.string k, .string v]] w fun e w' => e = .returned (.agg #[.string k, .string v]) ∧ Turn No w w' := by
  have HB := Lib.hid (And.intro (((Turn.refl No w).alloc (.cells #[.string k, .string v] 50)).alloc (.cells #[.string ⟨#[]⟩, .string ⟨#[]⟩] 50)) (And.intro ((At.new w (.cells #[.string k, .string v] 50)).no ((Turn.refl No _).alloc (.cells #[.string ⟨#[]⟩, .string ⟨#[]⟩] 50))) (And.intro (At.new2 w (.cells #[.string k, .string v] 50) (.cells #[.string ⟨#[]⟩, .string ⟨#[]⟩] 50)) (Nat.le_refl w.heap.size))))
  go_enter Try.func49, Try.ntmps49
  go_upto_region 1 with (fail)
  generalize (w.alloc (.cells #[.string k, .string v] 50)).alloc (.cells #[.string ⟨#[]⟩, .string ⟨#[]⟩] 50) = w1 at HB ⊢
  generalize hg : w.heap.size = g at HB ⊢
  have hS0 : w1.drew.cell? ⟨g, 0, none⟩ = some (.string k) ∧ w1.drew.cell? ⟨g, 1, none⟩ = some (.string v) := ⟨by simpa using HB.out.2.1.cell 0, by simpa using HB.out.2.1.cell 1⟩
  have hS1 : Hid (∀ w2, Turn No w1 w2 → w2.cell? ⟨g, 0, none⟩ = some (.string k) ∧ w2.cell? ⟨g, 1, none⟩ = some (.string v)) := Lib.hid fun w2 t => ⟨by simpa using (HB.out.2.1.no t).cell 0, by simpa using (HB.out.2.1.no t).cell 1⟩
  have C1 : Hid (∀ W, Turn No w1 W → Calls Try.prog 51 #[.string k] W fun e w' => e = .returned (.string k) ∧ Turn No w1 w') := Lib.hid fun W t => (clone_turn k hk W t).mono fun e w' h => ⟨h.1, h.2.2⟩
  have C2 : Hid (∀ W, Turn No w1 W → Calls Try.prog 51 #[.string v] W fun e w' => e = .returned (.string v) ∧ Turn No w1 w') := Lib.hid fun W t => (clone_turn v hv W t).mono fun e w' h => ⟨h.1, h.2.2⟩
  have hS2 : Hid (∀ w2, Turn No w1 w2 → (w2.setCell ⟨g + 1, 0, none⟩ (.string k)).cell? ⟨g, 0, none⟩ = some (.string k) ∧ (w2.setCell ⟨g + 1, 0, none⟩ (.string k)).cell? ⟨g, 1, none⟩ = some (.string v)) := Lib.hid fun w2 t => by
    have t2 : Turn (fun i => i = g + 1) w2 (w2.setCell ⟨g + 1, 0, none⟩ (.string k)) := Turn.set1 w2 (g + 1) 0 (.string k)
    have := (HB.out.2.1.no t).turn t2 (by omega)
    exact ⟨by simpa using this.cell 0, by simpa using this.cell 1⟩
  have hS3 : Hid (∀ w2, Turn No w1 w2 → ((w2.setCell ⟨g + 1, 0, none⟩ (.string k)).setCell ⟨g + 1, 1, none⟩ (.string v)).cell? ⟨g, 0, none⟩ = some (.string k) ∧ ((w2.setCell ⟨g + 1, 0, none⟩ (.string k)).setCell ⟨g + 1, 1, none⟩ (.string v)).cell? ⟨g, 1, none⟩ = some (.string v)) := Lib.hid fun w2 t => by
    have t2 : Turn (fun i => i = g + 1) w2 ((w2.setCell ⟨g + 1, 0, none⟩ (.string k)).setCell ⟨g + 1, 1, none⟩ (.string v)) := (Turn.set1 w2 (g + 1) 0 (.string k)).trans (Turn.set1 _ (g + 1) 1 (.string v))
    have := (HB.out.2.1.no t).turn t2 (by omega)
    exact ⟨by simpa using this.cell 0, by simpa using this.cell 1⟩
  go_region_held3 (fun W => W.cell? ⟨g, 0, none⟩ = some (.string k) ∧ W.cell? ⟨g, 1, none⟩ = some (.string v)) (first | (with_reducible exact hS0) | (with_reducible exact hS2.out _ hz.out) | (with_reducible exact hS3.out _ hz.out) | (with_reducible exact hS1.out _ hz.out) | (with_reducible exact hS1.out _ hy.out)) (first | (go_at_call 51; (refine (C1.out _ ((Turn.refl _ _).drewN _)).mono ?_); rintro e wy ⟨rfl, hy⟩; replace hy := Lib.hid hy) | (go_at_call 51; (with_reducible refine (C2.out _ hy.out).mono ?_); rintro e wz ⟨rfl, hz⟩; replace hz := Lib.hid hz; have zf2 := (HB.out.2.2.1.no hz.out).thawed 0; have zf3 := (HB.out.2.2.1.no hz.out).thawed 1; have zc2 := (HB.out.2.2.1.no hz.out).cell 0; have zc3 := (HB.out.2.2.1.no hz.out).cell 1; simp at zc2 zc3))
  have HE : Hid (Turn No w ((wz.setCell ⟨g + 1, 0, none⟩ (.string k)).setCell ⟨g + 1, 1, none⟩ (.string v)) ∧ At ((wz.setCell ⟨g + 1, 0, none⟩ (.string k)).setCell ⟨g + 1, 1, none⟩ (.string v)) (g + 1) (.cells #[.string k, .string v] 50 (0, 0))) := by
    refine Lib.hid ⟨((HB.out.1.trans hz.out).setCell (Or.inr ?_) _).setCell (Or.inr ?_) _, ?_⟩
    any_goals (show w.heap.size ≤ g + 1; omega)
    simpa using ((HB.out.2.2.1.no hz.out).set 0 (.string k)).set 1 (.string v)
  clear hS1 hS2 hS3 C1 C2 HB hz zf2 zf3 zc2 zc3
  generalize (wz.setCell ⟨g + 1, 0, none⟩ (.string k)).setCell ⟨g + 1, 1, none⟩ (.string v) = w3 at HE ⊢
  go_wp2_with fail
  (try simp only [Exit.inBlock, Exit.then])
  refine bodyPost_ret (results_cell_row rfl _ _ (g + 1) 50 _ (0, 0) _ (by rfl) HE.out.2 Try.underlying50 rfl (by kernel_rfl)) rfl ?_
  exact ⟨rfl, HE.out.1⟩
end Go.Proofs.Ytjjmooegpoeomaa
