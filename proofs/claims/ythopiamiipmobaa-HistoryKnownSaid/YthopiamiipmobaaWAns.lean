/-
  cloneAnswer: the same answer; it makes new memory alone.
-/
import Derived.Test.YthopiamiipmobaaWClone
import Derived.Test.YthopiamiipmobaaOwn
namespace Go.Proofs.Ythopiamiipmobaa
open Go.RowKit Go.Lib
set_option linter.unusedVariables false


theorem At.set_same {w : World} {g : Nat} {c : Array Value} {t : TypeId} {f : Nat × Nat} (h : At w g (.cells c t f)) (i : Nat) (u : Value) (hc : c[i]? = some u) : At (w.setCell ⟨g, i, none⟩ u) g (.cells c t f) := by
  have := h.set i u
  rwa [show c.setIfInBounds i u = c from ?_] at this
  apply Array.ext_getElem?
  intro j
  rw [Array.getElem?_setIfInBounds]
  split
  · rename_i e
    subst e
    split
    · exact hc.symm
    · rename_i h2
      rw [Array.getElem?_eq_none (by omega)] at hc
      cases hc
  · rfl

def ansc (c : Int) (f : Bool) (k v : ByteArray) : Array Value := #[.int .i64 c, .bool f, .string k, .string v]
def ans0 : Array Value := #[.int .i64 0, .bool false, .string ⟨#[]⟩, .string ⟨#[]⟩]
/-- A box that holds c, and a fresh one for the result. -/
structure Bx (w wr : World) (g : Nat) (c d : Array Value) (t : TypeId) : Prop where
  tu : Turn No w wr
  old : w.heap.size ≤ g
  b : At wr g (.cells c t (0, 0))
  r : At wr (g + 1) (.cells d t (0, 0))
theorem Bx.start (w : World) (c d : Array Value) (t : TypeId) : Bx w ((w.alloc (.cells c t)).alloc (.cells d t)) w.heap.size c d t :=
  ⟨((Turn.refl _ _).alloc _).alloc _, Nat.le_refl _, (At.new _ _).turn ((Turn.refl No _).alloc _) (fun h => h), by simpa using At.new (w.alloc (.cells c t)) (.cells d t)⟩
theorem Bx.turn {w wr wr' : World} {g : Nat} {c d : Array Value} {t : TypeId} (h : Bx w wr g c d t) (k : Turn No wr wr') : Bx w wr' g c d t :=
  ⟨h.tu.trans k, h.old, h.b.no k, h.r.no k⟩
theorem Bx.same {w wr : World} {g : Nat} {c d : Array Value} {t : TypeId} (h : Bx w wr g c d t) (i : Nat) (u : Value) (hc : c[i]? = some u) : Bx w (wr.setCell ⟨g, i, none⟩ u) g c d t :=
  ⟨h.tu.setCell (p := ⟨g, i, none⟩) (Or.inr h.old) u, h.old, h.b.set_same i u hc, h.r.turn ((Turn.refl (· = g) wr).setCell (p := ⟨g, i, none⟩) (Or.inl rfl) u) (by omega)⟩

set_option maxHeartbeats 1000000 in
theorem clans_any (c : Int) (f : Bool) (k v : ByteArray) (hk : Fit k) (hv : Fit v) (w : World) :
    Calls Try.prog 37 #[.agg #[.int .i64 c, .bool f, .string k, .string v]] w fun e w' => e = .returned (.agg #[.int .i64 c, .bool f, .string k, .string v]) ∧ Turn No w w' := by
  have HB := Lib.hid (Bx.start w (ansc c f k v) ans0 32)
  unfold ansc ans0 at HB
  go_enter Try.func37, Try.ntmps37
  go_upto_region 1 with (fail)
  generalize (w.alloc (.cells #[.int .i64 c, .bool f, .string k, .string v] 32)).alloc (.cells #[.int .i64 0, .bool false, .string ⟨#[]⟩, .string ⟨#[]⟩] 32) = w1 at HB ⊢
  generalize w.heap.size = g at HB ⊢
  have hS0 : w1.drew.cell? ⟨g, 2, none⟩ = some (.string k) ∧ w1.drew.cell? ⟨g, 3, none⟩ = some (.string v) := ⟨by simpa using HB.out.b.cell 2, by simpa using HB.out.b.cell 3⟩
  have hS1 : Hid (∀ w2, Turn No w1 w2 → w2.cell? ⟨g, 2, none⟩ = some (.string k) ∧ w2.cell? ⟨g, 3, none⟩ = some (.string v)) := Lib.hid fun w2 t => ⟨by simpa using (HB.out.b.no t).cell 2, by simpa using (HB.out.b.no t).cell 3⟩
  have C1 : Hid (∀ W, Turn No w1 W → Calls Try.prog 41 #[.string k] W fun e w' => e = .returned (.string k) ∧ Turn No w1 w') := Lib.hid fun W t => (clone_turn k hk W t).mono fun e w' h => ⟨h.1, h.2.2⟩
  have C2 : Hid (∀ W, Turn No w1 W → Calls Try.prog 41 #[.string v] W fun e w' => e = .returned (.string v) ∧ Turn No w1 w') := Lib.hid fun W t => (clone_turn v hv W t).mono fun e w' h => ⟨h.1, h.2.2⟩
  have hS2 : Hid (∀ w2, Turn No w1 w2 → (w2.setCell ⟨g, 2, none⟩ (.string k)).cell? ⟨g, 2, none⟩ = some (.string k) ∧ (w2.setCell ⟨g, 2, none⟩ (.string k)).cell? ⟨g, 3, none⟩ = some (.string v)) := Lib.hid fun w2 t => ⟨by simpa using ((HB.out.turn t).same 2 (.string k) rfl).b.cell 2, by simpa using ((HB.out.turn t).same 2 (.string k) rfl).b.cell 3⟩
  have hS3 : Hid (∀ w2, Turn No w1 w2 → ((w2.setCell ⟨g, 2, none⟩ (.string k)).setCell ⟨g, 3, none⟩ (.string v)).cell? ⟨g, 2, none⟩ = some (.string k) ∧ ((w2.setCell ⟨g, 2, none⟩ (.string k)).setCell ⟨g, 3, none⟩ (.string v)).cell? ⟨g, 3, none⟩ = some (.string v)) := Lib.hid fun w2 t => ⟨by simpa using (((HB.out.turn t).same 2 (.string k) rfl).same 3 (.string v) rfl).b.cell 2, by simpa using (((HB.out.turn t).same 2 (.string k) rfl).same 3 (.string v) rfl).b.cell 3⟩
  go_region_held3 (fun W => W.cell? ⟨g, 2, none⟩ = some (.string k) ∧ W.cell? ⟨g, 3, none⟩ = some (.string v)) (first | exact hS0 | exact hS2.out _ hz.out | exact hS3.out _ hz.out | exact hS1.out _ hz.out | exact hS1.out _ hy.out) (first | (go_at_call 41; refine (C1.out _ ((Turn.refl _ _).drewN _)).mono ?_; rintro e wy ⟨rfl, hy⟩; replace hy := Lib.hid hy) | (go_at_call 41; refine (C2.out _ hy.out).mono ?_; rintro e wz ⟨rfl, hz⟩; replace hz := Lib.hid hz; have zf2 := (HB.out.b.no hz.out).thawed 2; have zf3 := (HB.out.b.no hz.out).thawed 3; have zc2 := (HB.out.b.no hz.out).cell 2; have zc3 := (HB.out.b.no hz.out).cell 3; simp at zc2 zc3))
  have HC := Lib.hid (((HB.out.turn hz.out).same 2 (.string k) rfl).same 3 (.string v) rfl)
  clear hS1 hS2 hS3 C1 C2 HB hz zf2 zf3 zc2 zc3
  generalize (wz.setCell ⟨g, 2, none⟩ (.string k)).setCell ⟨g, 3, none⟩ (.string v) = w3 at HC ⊢
  have d0 := HC.out.b.cell 0
  have d1 := HC.out.b.cell 1
  have d2 := HC.out.b.cell 2
  have d3 := HC.out.b.cell 3
  have r0 := HC.out.r.cell 0
  have r1 := HC.out.r.cell 1
  have r2 := HC.out.r.cell 2
  have r3 := HC.out.r.cell 3
  have z0 := HC.out.r.thawed 0
  have z1 := HC.out.r.thawed 1
  have z2 := HC.out.r.thawed 2
  have z3 := HC.out.r.thawed 3
  simp at d0 d1 d2 d3 r0 r1 r2 r3
  go_wp2_with fail
  have HE : Hid (Turn No w ((((w3.setCell ⟨g + 1, 0, none⟩ (.int .i64 c)).setCell ⟨g + 1, 1, none⟩ (.bool f)).setCell ⟨g + 1, 2, none⟩ (.string k)).setCell ⟨g + 1, 3, none⟩ (.string v)) ∧
      At ((((w3.setCell ⟨g + 1, 0, none⟩ (.int .i64 c)).setCell ⟨g + 1, 1, none⟩ (.bool f)).setCell ⟨g + 1, 2, none⟩ (.string k)).setCell ⟨g + 1, 3, none⟩ (.string v)) (g + 1) (.cells #[.int .i64 c, .bool f, .string k, .string v] 32 (0, 0))) := by
    have ho := HC.out.old
    refine Lib.hid ⟨(((HC.out.tu.setCell (Or.inr ?_) _).setCell (Or.inr ?_) _).setCell (Or.inr ?_) _).setCell (Or.inr ?_) _, ?_⟩
    any_goals (show _ ≤ g + 1; omega)
    simpa using (((HC.out.r.set 0 (.int .i64 c)).set 1 (.bool f)).set 2 (.string k)).set 3 (.string v)
  clear HC d0 d1 d2 d3 r0 r1 r2 r3 z0 z1 z2 z3
  generalize (((w3.setCell ⟨g + 1, 0, none⟩ (.int .i64 c)).setCell ⟨g + 1, 1, none⟩ (.bool f)).setCell ⟨g + 1, 2, none⟩ (.string k)).setCell ⟨g + 1, 3, none⟩ (.string v) = w4 at HE ⊢
  (try simp only [Exit.inBlock, Exit.then])
  refine bodyPost_ret (results_cell_row rfl _ _ (g + 1) 32 _ (0, 0) _ (by rfl) HE.out.2 Try.underlying32 rfl (by kernel_rfl)) rfl ?_
  exact ⟨rfl, HE.out.1⟩
end Go.Proofs.Ythopiamiipmobaa
