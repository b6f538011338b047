/-
  ArenaPlays: arenas of no pool, the world without a pool, does_any, the start (Nop, DoesN, MainI and MainS of my notes in one text).
-/
import Derived.Test.YtbdfbgkfhaiccaaDoorWArT
import Derived.Test.YtbdfbgkfhaiccaaDoorWArS
import Derived.Test.YtbdfbgkfhaiccaaDoorWPoolB
import Derived.Test.YtbdfbgkfhaiccaaDoorDoes
import Derived.Test.YtbdfbgkfhaiccaaDoorWDoesA
import Derived.Test.YtbdfbgkfhaiccaaDoorWWorldH
namespace Go.Proofs.YtbdfbgkfhaiccaaDoor
open Go.RowKit Go.Maps
set_option linter.unusedVariables false
section
variable {w : World} {ab mb n : Nat} {pp : Value} {M : Nat → Option (Nat × Value)}
set_option maxRecDepth 100000 in
/-- Alloc, of no pool. -/
theorem allocS_nop (tx : ByteArray) (h : Ar 89 97 w ab mb (.pointer none) M n) :
    Calls Tryd.prog 11 #[.pointer (some ⟨ab, 0, none⟩), .string tx] w fun e w' => e = .returned (.tuple #[.agg #[.int .i64 0, .int .u64 0], .int .i64 5]) ∧ Turn (fun _ => False) w w' := by
  obtain ⟨f, h⟩ := h
  have t0 : Turn (fun _ => False) w (w.alloc (.cells #[.int .i64 0, .int .u64 0] 32)) := (Turn.refl _ w).alloc _
  have TK := Lib.hid (take_nil (w.alloc (.cells #[.int .i64 0, .int .u64 0] 32)))
  have hB0 := At.new w (.cells #[.int .i64 0, .int .u64 0] 32)
  have HX := Lib.hid hB0
  have HT := Lib.hid t0
  have c0 := h.1.cell 0
  simp at c0
  have l0 := h.1.lt
  clear h hB0 t0
  go_enter Tryd.func11, Tryd.ntmps11
  go_wp2_with fail
  refine TK.out.mono ?_
  rintro e w1 ⟨rfl, ht1⟩
  have hB1 := HX.out.turn ht1 (fun h => h)
  have z0 := hB1.cell 0
  have z1 := hB1.cell 1
  have y0 := hB1.thawed 0
  have y1 := hB1.thawed 1
  have lB := hB1.lt
  have HE := Lib.hid (HT.out.trans ht1)
  have HB := Lib.hid hB1
  clear ht1 hB1
  simp at z0 z1
  go_wp2_with fail
  have hW : At (((w1.setCell ⟨w.heap.size, 0, none⟩ (.int .i64 0)).setCell ⟨w.heap.size, 1, none⟩ (.int .u64 0)).alloc (.cells #[.int .i64 0, .int .u64 0] 32)) w.heap.size (.cells #[.int .i64 0, .int .u64 0] 32 (0, 0)) :=
    (((HB.out.set 0 (.int .i64 0)).set 1 (.int .u64 0)).turn ((Turn.refl (fun _ => False) _).alloc _) (fun h => h) : _)
  have r0 := hW.cell 0
  have r1 := hW.cell 1
  simp at r0 r1
  exact bodyPost_ret (v := .tuple #[.agg #[.int .i64 0, .int .u64 0], .int .i64 5]) (by simp [results, Tryd.results11, go_sem, r0, r1]) rfl ⟨rfl, ((HE.out.setCell (p := ⟨w.heap.size, 0, none⟩) (Or.inr (Nat.le_refl _)) _).setCell (p := ⟨w.heap.size, 1, none⟩) (Or.inr (Nat.le_refl _)) _).alloc _⟩

set_option maxRecDepth 100000 in
/-- Alloc, of no pool. -/
theorem allocT_nop {w00 : World} (sa : Option Addr) (sl sc : Nat) (h00 : Ar 113 134 w00 ab mb (.pointer none) M n) :
    Calls Tryd.prog 57 #[.pointer (some ⟨ab, 0, none⟩), .agg #[.slice sa sl sc]] w00 fun e w' => e = .returned (.tuple #[.agg #[.int .i64 0, .int .u64 0], .int .i64 5]) ∧ Turn (fun _ => False) w00 w' := by
  have tq : Turn (fun _ => False) w00 (w00.alloc (.cells #[.slice sa sl sc] 58)) := (Turn.refl _ w00).alloc _
  have h := h00.same tq
  have hsz : (w00.alloc (.cells #[.slice sa sl sc] 58)).heap.size = w00.heap.size + 1 := by simp
  have c00 : w00.cell? ⟨ab, 0, none⟩ = some (.pointer none) := by obtain ⟨f, hf⟩ := h00; simpa using hf.1.cell 0
  have l00 : ab < w00.heap.size := by obtain ⟨f, hf⟩ := h00; exact hf.1.lt
  clear h00
  obtain ⟨w, hw⟩ : ∃ w, w = w00.alloc (.cells #[.slice sa sl sc] 58) := ⟨_, rfl⟩
  obtain ⟨Bx, hbx⟩ : ∃ Bx, Bx = w00.heap.size := ⟨_, rfl⟩
  rw [← hw, ← hbx] at hsz
  rw [← hw] at tq h
  have TQ := Lib.hid tq
  clear tq
  obtain ⟨f, h⟩ := h
  have t0 : Turn (fun _ => False) w (w.alloc (.cells #[.int .i64 0, .int .u64 0] 32)) := (Turn.refl _ w).alloc _
  have TK := Lib.hid (take_nil (w.alloc (.cells #[.int .i64 0, .int .u64 0] 32)))
  have hB0 := At.new w (.cells #[.int .i64 0, .int .u64 0] 32)
  have HX := Lib.hid hB0
  have HT := Lib.hid t0
  have c0 := h.1.cell 0
  simp at c0
  have l0 := h.1.lt
  clear h hB0 t0
  go_enter Tryd.func57, Tryd.ntmps57
  go_wp2_with fail
  rw [← hw, ← hbx, ← hsz]
  have HSZ := Lib.hid (And.intro hw (And.intro hbx hsz))
  clear hw hbx hsz c00 l00
  refine TK.out.mono ?_
  rintro e w1 ⟨rfl, ht1⟩
  have hB1 := HX.out.turn ht1 (fun h => h)
  have z0 := hB1.cell 0
  have z1 := hB1.cell 1
  have y0 := hB1.thawed 0
  have y1 := hB1.thawed 1
  have lB := hB1.lt
  have HE := Lib.hid (HT.out.trans ht1)
  have HB := Lib.hid hB1
  clear ht1 hB1
  simp at z0 z1
  go_wp2_with fail
  have hW : At (((w1.setCell ⟨w.heap.size, 0, none⟩ (.int .i64 0)).setCell ⟨w.heap.size, 1, none⟩ (.int .u64 0)).alloc (.cells #[.int .i64 0, .int .u64 0] 32)) w.heap.size (.cells #[.int .i64 0, .int .u64 0] 32 (0, 0)) :=
    (((HB.out.set 0 (.int .i64 0)).set 1 (.int .u64 0)).turn ((Turn.refl (fun _ => False) _).alloc _) (fun h => h) : _)
  have r0 := hW.cell 0
  have r1 := hW.cell 1
  simp at r0 r1
  exact bodyPost_ret (v := .tuple #[.agg #[.int .i64 0, .int .u64 0], .int .i64 5]) (by simp [results, Tryd.results57, go_sem, r0, r1]) rfl ⟨rfl, TQ.out.trans (((HE.out.setCell (p := ⟨w.heap.size, 0, none⟩) (Or.inr (Nat.le_refl _)) _).setCell (p := ⟨w.heap.size, 1, none⟩) (Or.inr (Nat.le_refl _)) _).alloc _)⟩

end
set_option maxRecDepth 100000 in
theorem allocS_nil (x : ByteArray) (w : World) : Calls Tryd.prog 11 #[.pointer none, .string x] w fun e w' => e = .returned (.tuple #[.agg #[.int .i64 0, .int .u64 0], .int .i64 2]) ∧ Turn (fun _ => False) w w' := by
  go_enter Tryd.func11, Tryd.ntmps11
  go_wp2_with fail
  exact bodyPost_ret (v := .tuple #[.agg #[.int .i64 0, .int .u64 0], .int .i64 2]) (by simp [results, Tryd.results11, go_sem]) rfl ⟨rfl, (Turn.refl _ w).alloc _⟩
theorem relS_nil (i : Int) (g : Int) (w : World) : Calls Tryd.prog 17 #[.pointer none, .agg #[.int .i64 i, .int .u64 g]] w fun e w' => e = .returned (.bool false) ∧ Turn (fun _ => False) w w' := by
  have G := Lib.hid (getS_nil i g (w.alloc (.cells #[.int .i64 i, .int .u64 g] 32)))
  go_enter Tryd.func17, Tryd.ntmps17
  go_wp2_with fail
  refine G.out.mono ?_
  rintro e w1 ⟨rfl, ht⟩
  have HT := Lib.hid (((Turn.refl (fun _ => False) w).alloc (.cells #[.int .i64 i, .int .u64 g] 32)).trans ht)
  clear ht
  go_wp2_with fail
  go_ret
  exact ⟨rfl, HT.out⟩
theorem liveS_nil (w : World) : Calls Tryd.prog 20 #[.pointer none] w fun e w' => e = .returned (.int .i64 0) ∧ w' = w := by
  go_enter Tryd.func20, Tryd.ntmps20
  go_wp2_with fail
  go_ret
  exact ⟨rfl, rfl⟩
theorem handlesS_nil (w : World) : Calls Tryd.prog 29 #[.pointer none] w fun e w' => e = .returned (.slice none 0 0) ∧ w' = w := by
  go_enter Tryd.func29, Tryd.ntmps29
  go_wp2_with fail
  go_ret
  exact ⟨rfl, rfl⟩
end Go.Proofs.YtbdfbgkfhaiccaaDoor

namespace Go.Proofs.YtbdfbgkfhaiccaaDoor
open Go.RowKit Go.Maps
set_option linter.unusedVariables false

theorem alv_nil (i : Nat) (s : Int) (g : Nat) : alv [] i s g = none := by
  unfold alv
  split
  · rfl
  · simp
theorem ffree_nil : ffree [] = none := rfl
structure NilW (w0 w : World) (xb : Nat) (ab mb : Nat → Nat) : Prop where
  a : ∀ i, (i = 1 ∨ i = 3) → ArF 89 97 w (ab i) (mb i) (.pointer none) (fun _ => none) 0 (fun _ => none)
  b : ArF 113 134 w (ab 2) (mb 2) (.pointer none) (fun _ => none) 0 (fun _ => none)
  hd : At w xb (.cells #[.pointer none, .pointer (some ⟨ab 1, 0, none⟩), .pointer (some ⟨ab 3, 0, none⟩), .pointer (some ⟨ab 2, 0, none⟩), .pointer none, .slice none 0 0] 60 (0, 0))
  old : Turn (fun _ => False) w0 w
section
variable {w0 w w' : World} {xb : Nat} {ab mb : Nat → Nat}
theorem NilW.same (h : NilW w0 w xb ab mb) (t : Turn (fun _ => False) w w') : NilW w0 w' xb ab mb :=
  ⟨fun i hi => (h.a i hi).same t, h.b.same t, h.hd.turn t (fun h => h), h.old.trans t⟩
theorem NilW.dcell (h : NilW w0 w xb ab mb) : w.cell? ⟨xb, 1, none⟩ = some (.pointer (some ⟨ab 1, 0, none⟩)) ∧ w.cell? ⟨xb, 2, none⟩ = some (.pointer (some ⟨ab 3, 0, none⟩)) ∧ w.cell? ⟨xb, 3, none⟩ = some (.pointer (some ⟨ab 2, 0, none⟩)) ∧ xb < w.heap.size ∧ w.cell? ⟨xb, 4, none⟩ = some (.pointer none) := by
  rw [h.hd.cell, h.hd.cell, h.hd.cell, h.hd.cell]
  exact ⟨rfl, rfl, rfl, h.hd.lt, rfl⟩
theorem dead_none (s : Int) (g : Nat) : Dead (fun _ => none) s g := by
  by_cases h : s < 0
  · exact Or.inl h
  · exact Or.inr ⟨s.toNat, by omega, Or.inl rfl⟩
def NilS (w0 : World) (xb : Nat) (ab mb : Nat → Nat) (w : World) (vt : Value) (L : List Sl) (hs : List (Nat × Nat)) : Prop := vt = .slice none 0 0 ∧ L = [] ∧ hs = [] ∧ NilW w0 w xb ab mb
theorem NilW.get (h : NilW w0 w xb ab mb) (i g : Nat) (s : Int) (h1 : 1 ≤ i) (h3 : i ≤ 3) (hb : I64 s) : Calls Tryd.prog 46 #[.pointer (some ⟨xb, 0, none⟩), .int .i64 (i : Int), .agg #[.int .i64 s, .int .u64 (g : Int)]] w fun e w' => e = .returned (.tuple #[.string ⟨#[]⟩, .bool false]) ∧ Turn (fun _ => False) w w' := by
  obtain ⟨c1, c2, c3, lx, _⟩ := h.dcell
  rcases (show i = 1 ∨ i = 2 ∨ i = 3 by omega) with rfl | rfl | rfl
  · exact wget_1_no c1 lx s g (fun W t => agetS_no ((h.a 1 (Or.inl rfl)).same t) s g hb (dead_none s g))
  · exact wget_2_no c3 lx s g (fun W t => agetT_no (h.b.same t) s g hb (dead_none s g))
  · exact wget_3_no c2 lx s g (fun W t => agetS_no ((h.a 3 (Or.inr rfl)).same t) s g hb (dead_none s g))
theorem NilW.rel (h : NilW w0 w xb ab mb) (i g : Nat) (s : Int) (h1 : 1 ≤ i) (h3 : i ≤ 3) (hb : I64 s) : Calls Tryd.prog 43 #[.pointer (some ⟨xb, 0, none⟩), .int .i64 (i : Int), .agg #[.int .i64 s, .int .u64 (g : Int)]] w fun e w' => e = .returned (.bool false) ∧ Turn (fun _ => False) w w' := by
  obtain ⟨c1, c2, c3, lx, _⟩ := h.dcell
  rcases (show i = 1 ∨ i = 2 ∨ i = 3 by omega) with rfl | rfl | rfl
  · exact (wrelease_1 c1 lx s g false (Q := Turn (fun _ => False)) (fun W t => arelS_no ((h.a 1 (Or.inl rfl)).same t) s g hb (dead_none s g))).mono fun e w' ⟨he, W, t1, t2⟩ => ⟨he, t1.trans t2⟩
  · exact (wrelease_2 c3 lx s g false (Q := Turn (fun _ => False)) (fun W t => arelT_no (h.b.same t) s g hb (dead_none s g))).mono fun e w' ⟨he, W, t1, t2⟩ => ⟨he, t1.trans t2⟩
  · exact (wrelease_3 c2 lx s g false (Q := Turn (fun _ => False)) (fun W t => arelS_no ((h.a 3 (Or.inr rfl)).same t) s g hb (dead_none s g))).mono fun e w' ⟨he, W, t1, t2⟩ => ⟨he, t1.trans t2⟩
theorem NilW.alloc (h : NilW w0 w xb ab mb) (i : Nat) (x : ByteArray) (h1 : 1 ≤ i) (h3 : i ≤ 3) : Calls Tryd.prog 41 #[.pointer (some ⟨xb, 0, none⟩), .int .i64 (i : Int), .string x] w fun e w1 => e = .returned (.tuple #[.agg #[.int .i64 0, .int .u64 0], .int .i64 5]) ∧ Turn (fun _ => False) w w1 := by
  obtain ⟨c1, c2, c3, lx, _⟩ := h.dcell
  have t0 : Turn (fun _ => False) w (w.alloc (.cells #[.int .i64 0, .int .u64 0] 32)) := (Turn.refl _ w).alloc _
  have b0 := At.new w (.cells #[.int .i64 0, .int .u64 0] 32)
  have t00 : Turn (fun _ => False) w ((w.alloc (.cells #[.int .i64 0, .int .u64 0] 32)).alloc (.cells #[.string x] 9)) := t0.alloc _
  have b00 : At ((w.alloc (.cells #[.int .i64 0, .int .u64 0] 32)).alloc (.cells #[.string x] 9)) w.heap.size (.cells #[.int .i64 0, .int .u64 0] 32 (0, 0)) := b0.turn ((Turn.refl (fun _ => False) _).alloc _) (fun h => h)
  have three : ∀ j, (j = 1 ∨ j = 3) → Calls Tryd.prog 11 #[.pointer (some ⟨ab j, 0, none⟩), .string x] (w.alloc (.cells #[.int .i64 0, .int .u64 0] 32)) fun e w' => e = .returned (.tuple #[.agg #[.int .i64 0, .int .u64 ((0 : Nat) : Int)], .int .i64 5]) ∧ Kind w' w.heap.size 32 ∧ (∃ u v, At w' w.heap.size (.cells #[u, v] 32 (0, 0))) ∧ Turn (fun _ => False) w w' := fun j hj =>
    (allocS_nop x ⟨_, (h.a j hj).same t0⟩).mono fun e w' ⟨he, t1⟩ => by
      have hb := b0.turn t1 (fun h => h)
      exact ⟨he, ⟨_, hb⟩, ⟨_, _, hb⟩, t0.trans t1⟩
  rcases (show i = 1 ∨ i = 2 ∨ i = 3 by omega) with e | e | e <;> subst e
  · exact (walloc_1 c1 lx x 0 0 5 (three 1 (Or.inl rfl))).mono fun e w' ⟨he, w3, t1, t2⟩ => ⟨he, t1.then t2 (fun k hk e => by omega)⟩
  · refine (walloc_2 c3 lx x 0 0 5 (Q := Turn (fun _ => False) w) ((allocT_nop (some ⟨w.heap.size + 1, 0, none⟩) 1 1 ⟨_, h.b.same t00⟩).mono fun e w' ⟨he, t1⟩ => ?_)).mono fun e w' ⟨he, w3, t1, t2⟩ => ⟨he, t1.then t2 (fun k hk e => by omega)⟩
    have hb := b00.turn t1 (fun h => h)
    exact ⟨he, ⟨_, hb⟩, ⟨_, _, hb⟩, t00.trans t1⟩
  · exact (walloc_3 c2 lx x 0 0 5 (three 3 (Or.inr rfl))).mono fun e w' ⟨he, w3, t1, t2⟩ => ⟨he, t1.then t2 (fun k hk e => by omega)⟩
theorem NilW.write (h : NilW w0 w xb ab mb) (i g : Nat) (s : Int) (x : ByteArray) (h1 : 1 ≤ i) (h3 : i ≤ 3) (hb : I64 s) : Calls Tryd.prog 45 #[.pointer (some ⟨xb, 0, none⟩), .int .i64 (i : Int), .agg #[.int .i64 s, .int .u64 (g : Int)], .string x] w fun e w' => e = .returned (.tuple #[]) ∧ Turn (fun _ => False) w w' := by
  have G1 := fun W (t : Turn (fun _ => False) w W) => agetS_no ((h.a 1 (Or.inl rfl)).same t) s g hb (dead_none s g)
  have G2 := fun W (t : Turn (fun _ => False) w W) => agetT_no (h.b.same t) s g hb (dead_none s g)
  have G3 := fun W (t : Turn (fun _ => False) w W) => agetS_no ((h.a 3 (Or.inr rfl)).same t) s g hb (dead_none s g)
  rcases (show i = 1 ∨ i = 2 ∨ i = 3 by omega) with rfl | rfl | rfl
  · exact wwrite_1_no h.hd s g x (.pointer none) (.pointer none) false (.pointer none) false G1 G2 G3
  · exact wwrite_2_no h.hd s g x (.pointer none) false (.pointer none) (.pointer none) false G1 G2 G3
  · exact wwrite_3_no h.hd s g x (.pointer none) false (.pointer none) false (.pointer none) G1 G2 G3
theorem NilS.doesI : DoesI w0 xb (.pointer none) (.pointer none) (.pointer (some ⟨ab 1, 0, none⟩)) (.pointer (some ⟨ab 3, 0, none⟩)) (.pointer (some ⟨ab 2, 0, none⟩)) (NilS w0 xb ab mb) where
  same := fun ⟨e1, e2, e3, h⟩ t => ⟨e1, e2, e3, h.same t⟩
  own := fun ⟨e1, e2, e3, h⟩ k hv hm t => ⟨e1, e2, e3, fun i hi => (h.a i hi).off t (k.off _ (by decide) _), h.b.off t (k.off _ (by decide) _), h.hd.turn t ((k.off [60] (by decide) 0).row ⟨_, h.hd⟩ (by simp)), h.old.then t (fun i hi e => by omega)⟩
  hd := fun ⟨e1, e2, e3, h⟩ => by rw [e1]; exact h.hd
  told := fun ⟨e1, e2, e3, h⟩ => by rw [e1, e3]; exact Told.start _ _
  each := fun ⟨e1, e2, e3, h⟩ p hp => by rw [e3] at hp; cases hp
  le := fun ⟨e1, e2, e3, h⟩ => ⟨by rw [e2]; exact Nat.zero_le _, h.old.size⟩
  old := fun ⟨e1, e2, e3, h⟩ => h.old
  gens := fun ⟨e1, e2, e3, h⟩ q hq => by rw [e2] at hq; cases hq
  alive := fun {w vt L hs} ⟨e1, e2, e3, h⟩ i g s => by rw [e2, alv_nil]; exact dalive_nil i s g w
  get := fun {w vt L hs} ⟨e1, e2, e3, h⟩ i g s h1 h3 hb => by rw [e2, alv_nil]; exact h.get i g s h1 h3 hb
  rel := fun {w vt L hs} ⟨e1, e2, e3, h⟩ i g s h1 h3 hb => by
    have hr : relL L i s g = L := by unfold relL; rw [e2, alv_nil]
    rw [hr]
    rw [e2, alv_nil]
    exact (h.rel i g s h1 h3 hb).mono fun e w1 ⟨he, t1⟩ => ⟨he, (h.same t1).dcell.2.2.2.2, (h.same t1).hd.lt, Keeps.same t1, fun W t =>
      (drel_no i s g (fun W' _ => dalive_nil i s g W')).mono fun e w2 ⟨he2, t2⟩ => ⟨he2, Keeps.same t2, e1, rfl, e3, ((h.same t1).same t).same t2⟩⟩
  alloc := fun {w vt L hs} ⟨e1, e2, e3, h⟩ i x h1 h3 => by
    have hr : putL L i x = L := by unfold putL; rw [e2, ffree_nil]
    rw [hr]
    unfold ares aerr
    rw [e2, ffree_nil]
    exact (h.alloc i x h1 h3).mono fun e w1 ⟨he, t1⟩ => ⟨he, (h.same t1).dcell.2.2.2.2, (h.same t1).hd.lt, Keeps.same t1, fun W t =>
      (dalloc_nil i x W).mono fun e w2 ⟨he2, t2⟩ => ⟨he2, Keeps.same t2, e1, rfl, e3, ((h.same t1).same t).same t2⟩⟩
  ext := fun {w w3 vt vt' L hs s g} ⟨e1, e2, e3, h⟩ hs' _ _ _ => by rw [e2] at hs'; exact absurd hs' (Nat.not_lt_zero _)
  write := fun {w vt L hs} ⟨e1, e2, e3, h⟩ i g s x h1 h3 hb => by
    rw [e2, alv_nil]
    exact (h.write i g s x h1 h3 hb).mono fun e w1 ⟨he, t⟩ => ⟨he, Keeps.same t, fun _ => ⟨e1, rfl, e3, h.same t⟩, (fun k q e => by cases e)⟩
  look := fun {w vt L hs} ⟨e1, e2, e3, h⟩ i g s k q ha => by rw [e2, alv_nil] at ha; cases ha
end
end Go.Proofs.YtbdfbgkfhaiccaaDoor

namespace Go.Proofs.YtbdfbgkfhaiccaaDoor
open Go.RowKit Go.Maps
set_option linter.unusedVariables false

theorem does_any {w0 w : World} {xb : Nat} {qv c0 c1 c2 c3 vt : Value} {S : World → Value → List Sl → List (Nat × Nat) → Prop} {L : List Sl} {hs : List (Nat × Nat)} (I : DoesI w0 xb qv c0 c1 c2 c3 S) (h : S w vt L hs) (d : Int) (iu : Nat) (x : ByteArray) (s : Int) (g ago : Nat) (hb : I64 s) (hg : g < 18446744073709551616) (hiu : iu < 256) (hago : ago < 256) (hlen : hs.length < 1000) :
    Calls Tryd.prog 25 #[.pointer (some ⟨xb, 0, none⟩), .agg #[.int .i64 d, .int .u8 (iu : Int), .string x, .int .i64 s, .int .u64 (g : Int), .int .u8 (ago : Int)]] w fun e w' => e = .returned (.bool true) ∧ ∃ vt' L' hs', S w' vt' L' hs' ∧ hs'.length ≤ hs.length + 1 := by
  by_cases hd : d = 4
  · subst hd
    exact doesA_any I h iu x s g ago hb hg hiu hago hlen
  · exact doesB_any I h d iu x s g ago hb hg hiu hago hlen hd

def fr0 (L : List Sl) : Nat := cnt (dfr L) L.length
structure MainI (xb : Nat) (pv qv : Value) (is : Bool) (n : Nat) (S : World → Value → List Sl → List (Nat × Nat) → Prop) : Prop where
  free : ∀ {w vt L hs}, S w vt L hs → Calls Tryd.prog 13 #[pv] w fun e w' => e = .returned (.int .i64 (fr0 L : Int)) ∧ w' = w
  dfree : ∀ {w vt L hs}, S w vt L hs → Calls Tryd.prog 26 #[qv] w fun e w' => e = .returned (.int .i64 (fr0 L : Int)) ∧ w' = w
  len : ∀ {w vt L hs}, S w vt L hs → L.length = n ∧ fr0 L ≤ n ∧ n ≤ 4096
  room : ∀ {w vt L hs}, S w vt L hs → ∀ s : Int, Calls Tryd.prog 21 #[pv, .int .i64 s] w fun e w' => e = .returned (.bool (is && decide (s ≤ (fr0 L : Int)))) ∧ w' = w
  live : ∀ {w vt L hs}, is = true → S w vt L hs → Calls Tryd.prog 14 #[pv] w fun e w' => e = .returned (.int .i64 ((n : Int) - (fr0 L : Int))) ∧ ∃ m, w' = w.drewN m
  handles : ∀ {w vt L hs}, S w vt L hs → ∀ i : Nat, 1 ≤ i → i ≤ 3 → Calls Tryd.prog 27 #[.pointer (some ⟨xb, 0, none⟩), .int .i64 (i : Int)] w (WHandles L i n (dhs L i n).length w)
  dhandles : ∀ {w vt L hs}, S w vt L hs → ∀ i : Nat, Calls Tryd.prog 28 #[qv, .int .i64 (i : Int)] w fun e w' => ∃ A cp w3, e = .returned (.slice A (dhs L i n).length cp) ∧ Told w3 w' (.slice A (dhs L i n).length cp) (dhs L i n) ∧ Turn (fun _ => False) w w'

section
variable {w0 wr : World} {n xb pb gb fb : Nat} {ab mb : Nat → Nat} {qb lb cap : Nat} {vt : Value} {L : List Sl} {hs : List (Nat × Nat)}
theorem WS.mainI (hn : n ≤ 4096) : MainI xb (.pointer (some ⟨pb, 0, none⟩)) (.pointer (some ⟨qb, 0, none⟩)) true n (fun w vt L hs => WS w0 w n xb pb gb fb ab mb qb lb cap vt L hs) where
  free := fun {w vt L hs} ⟨G, fr, MM, nn, ff, h⟩ => (free_any h.pool).mono fun e w' ⟨he, hw⟩ => ⟨by rw [he]; unfold fr0; rw [h.pv.gl, h.pv.ll, h.pv.freeAll], hw.symm⟩
  dfree := fun {w vt L hs} ⟨G, fr, MM, nn, ff, h⟩ => dfree_any h.doc
  len := fun {w vt L hs} ⟨G, fr, MM, nn, ff, h⟩ => ⟨h.pv.ll, by unfold fr0; rw [h.pv.ll]; exact cnt_le _ _, hn⟩
  room := fun {w vt L hs} ⟨G, fr, MM, nn, ff, h⟩ s => (room_any h.pool s).mono fun e w' ⟨he, hw⟩ => ⟨by rw [he]; unfold fr0; rw [h.pv.gl, h.pv.ll, h.pv.freeAll]; rfl, hw.symm⟩
  live := fun {w vt L hs} _ ⟨G, fr, MM, nn, ff, h⟩ => (live_any h.pool).mono fun e w' ⟨he, hw⟩ => ⟨by rw [he]; unfold fr0; rw [h.pv.gl, h.pv.ll, h.pv.freeAll], hw⟩
  handles := fun {w vt L hs} ⟨G, fr, MM, nn, ff, h⟩ i h1 h3 => by
    rcases (show i = 1 ∨ i = 2 ∨ i = 3 by omega) with e | e | e <;> subst e
    · exact (whandles_1 h hn).mono fun e w' ⟨A, cp, w3, he, hl, ht, t⟩ => ⟨A, cp, w3, by rw [hl]; exact he, rfl, by rw [hl]; exact ht, t⟩
    · exact (whandles_2 h hn).mono fun e w' ⟨A, cp, w3, he, hl, ht, t⟩ => ⟨A, cp, w3, by rw [hl]; exact he, rfl, by rw [hl]; exact ht, t⟩
    · exact (whandles_3 h hn).mono fun e w' ⟨A, cp, w3, he, hl, ht, t⟩ => ⟨A, cp, w3, by rw [hl]; exact he, rfl, by rw [hl]; exact ht, t⟩
  dhandles := fun {w vt L hs} ⟨G, fr, MM, nn, ff, h⟩ i => (dhandles_any h.doc i).mono fun e w' ⟨A, cp, he, ht, t⟩ => by
    rw [h.pv.ll] at he ht
    exact ⟨A, cp, w, he, ht, t⟩
end
set_option maxRecDepth 100000 in
set_option maxHeartbeats 1000000 in
theorem nhandles_1 {w0 wr : World} {xb : Nat} {ab mb : Nat → Nat} (h : NilW w0 wr xb ab mb) :
    Calls Tryd.prog 27 #[.pointer (some ⟨xb, 0, none⟩), .int .i64 1] wr (WHandles [] 1 0 0 wr) := by
  have HN : Hid (∀ W, Turn (fun _ => False) wr W → Calls Tryd.prog 29 #[.pointer (some ⟨ab 1, 0, none⟩)] W (HandlesPost (fun _ => none) W)) := Lib.hid (fun W t => handlesS sortedAtS ⟨_, (h.a 1 (Or.inl rfl)).same t⟩ (by omega) (fun x hx => by cases hx))
  have LV : Hid (∀ W, Turn (fun _ => False) wr W → Calls Tryd.prog 20 #[.pointer (some ⟨ab 1, 0, none⟩)] W fun e w' => e = .returned (.int .i64 ((0 : Nat) : Int)) ∧ W = w') := Lib.hid (fun W t => liveS ⟨_, (h.a 1 (Or.inl rfl)).same t⟩)
  have PH : Hid (∀ xs : List Nat, (∀ x, x ∈ xs ↔ ((fun _ => none : Nat → Option (Nat × Value)) x).isSome = true) → xs.Pairwise (· < ·) → (xs.map fun x => (x, genOf (fun _ => none) x)) = dhs [] 1 0 ∧ xs.length = 0) := Lib.hid fun xs hm _ => by
    have : xs = [] := List.eq_nil_iff_forall_not_mem.2 fun x hx => by have := (hm x).1 hx; cases this
    subst this
    exact ⟨rfl, rfl⟩
  have c1 := h.hd.cell 1
  simp at c1
  have lx := h.hd.lt
  have HX := Lib.hid h.hd
  clear h
  go_enter Tryd.func27, Tryd.ntmps27
  go_wp2_with fail
  go_region_with (first
    | (go_at_call 29; refine (HN.out _ ((Turn.refl _ _).drew)).mono ?_; rintro e w3 ⟨A, cp, xs, w2, rfl, hm, hu, hto, ht⟩; have HM := Lib.hid (PH.out xs hm hu); have HT := Lib.hid (And.intro hto ht); have c3 : w3.cell? ⟨xb, 1, none⟩ = some (.pointer (some ⟨ab 1, 0, none⟩)) := by { have := (HX.out.turn (((Turn.refl (fun _ => False) wr).drew).trans ht) (fun h => h)).cell 1; simpa using this }; clear hm hu hto ht)
    | (go_at_call 20; refine (LV.out _ (((Turn.refl (fun _ => False) wr).drew).trans HT.out.2)).mono ?_; rintro e w4 ⟨rfl, rfl⟩))
  all_goals
    go_wp2_with fail
    go_ret2
    obtain ⟨e1, e2⟩ := HM.out
    obtain ⟨hto, ht⟩ := HT.out
    rw [e1] at hto
    refine ⟨A, cp, w2, by rw [e2]; rfl, ?_, ?_, ((Turn.refl (fun _ => False) wr).drew).trans ht⟩
    · rw [← e1, List.length_map, e2]
    · rw [e2] at hto; exact hto

set_option maxRecDepth 100000 in
set_option maxHeartbeats 1000000 in
theorem nhandles_2 {w0 wr : World} {xb : Nat} {ab mb : Nat → Nat} (h : NilW w0 wr xb ab mb) :
    Calls Tryd.prog 27 #[.pointer (some ⟨xb, 0, none⟩), .int .i64 2] wr (WHandles [] 2 0 0 wr) := by
  have HN : Hid (∀ W, Turn (fun _ => False) wr W → Calls Tryd.prog 47 #[.pointer (some ⟨ab 2, 0, none⟩)] W (HandlesPost (fun _ => none) W)) := Lib.hid (fun W t => handlesT sortedAtT ⟨_, (h.b).same t⟩ (by omega) (fun x hx => by cases hx))
  have LV : Hid (∀ W, Turn (fun _ => False) wr W → Calls Tryd.prog 48 #[.pointer (some ⟨ab 2, 0, none⟩)] W fun e w' => e = .returned (.int .i64 ((0 : Nat) : Int)) ∧ W = w') := Lib.hid (fun W t => liveT ⟨_, (h.b).same t⟩)
  have PH : Hid (∀ xs : List Nat, (∀ x, x ∈ xs ↔ ((fun _ => none : Nat → Option (Nat × Value)) x).isSome = true) → xs.Pairwise (· < ·) → (xs.map fun x => (x, genOf (fun _ => none) x)) = dhs [] 2 0 ∧ xs.length = 0) := Lib.hid fun xs hm _ => by
    have : xs = [] := List.eq_nil_iff_forall_not_mem.2 fun x hx => by have := (hm x).1 hx; cases this
    subst this
    exact ⟨rfl, rfl⟩
  have c1 := h.hd.cell 3
  simp at c1
  have lx := h.hd.lt
  have HX := Lib.hid h.hd
  clear h
  go_enter Tryd.func27, Tryd.ntmps27
  go_wp2_with fail
  go_region_with (first
    | (go_at_call 47; refine (HN.out _ ((Turn.refl _ _).drew)).mono ?_; rintro e w3 ⟨A, cp, xs, w2, rfl, hm, hu, hto, ht⟩; have HM := Lib.hid (PH.out xs hm hu); have HT := Lib.hid (And.intro hto ht); have c3 : w3.cell? ⟨xb, 3, none⟩ = some (.pointer (some ⟨ab 2, 0, none⟩)) := by { have := (HX.out.turn (((Turn.refl (fun _ => False) wr).drew).trans ht) (fun h => h)).cell 3; simpa using this }; clear hm hu hto ht)
    | (go_at_call 48; refine (LV.out _ (((Turn.refl (fun _ => False) wr).drew).trans HT.out.2)).mono ?_; rintro e w4 ⟨rfl, rfl⟩))
  all_goals
    go_wp2_with fail
    go_ret2
    obtain ⟨e1, e2⟩ := HM.out
    obtain ⟨hto, ht⟩ := HT.out
    rw [e1] at hto
    refine ⟨A, cp, w2, by rw [e2]; rfl, ?_, ?_, ((Turn.refl (fun _ => False) wr).drew).trans ht⟩
    · rw [← e1, List.length_map, e2]
    · rw [e2] at hto; exact hto

set_option maxRecDepth 100000 in
set_option maxHeartbeats 1000000 in
theorem nhandles_3 {w0 wr : World} {xb : Nat} {ab mb : Nat → Nat} (h : NilW w0 wr xb ab mb) :
    Calls Tryd.prog 27 #[.pointer (some ⟨xb, 0, none⟩), .int .i64 3] wr (WHandles [] 3 0 0 wr) := by
  have HN : Hid (∀ W, Turn (fun _ => False) wr W → Calls Tryd.prog 29 #[.pointer (some ⟨ab 3, 0, none⟩)] W (HandlesPost (fun _ => none) W)) := Lib.hid (fun W t => handlesS sortedAtS ⟨_, (h.a 3 (Or.inr rfl)).same t⟩ (by omega) (fun x hx => by cases hx))
  have LV : Hid (∀ W, Turn (fun _ => False) wr W → Calls Tryd.prog 20 #[.pointer (some ⟨ab 3, 0, none⟩)] W fun e w' => e = .returned (.int .i64 ((0 : Nat) : Int)) ∧ W = w') := Lib.hid (fun W t => liveS ⟨_, (h.a 3 (Or.inr rfl)).same t⟩)
  have PH : Hid (∀ xs : List Nat, (∀ x, x ∈ xs ↔ ((fun _ => none : Nat → Option (Nat × Value)) x).isSome = true) → xs.Pairwise (· < ·) → (xs.map fun x => (x, genOf (fun _ => none) x)) = dhs [] 3 0 ∧ xs.length = 0) := Lib.hid fun xs hm _ => by
    have : xs = [] := List.eq_nil_iff_forall_not_mem.2 fun x hx => by have := (hm x).1 hx; cases this
    subst this
    exact ⟨rfl, rfl⟩
  have c1 := h.hd.cell 2
  simp at c1
  have lx := h.hd.lt
  have HX := Lib.hid h.hd
  clear h
  go_enter Tryd.func27, Tryd.ntmps27
  go_wp2_with fail
  go_region_with (first
    | (go_at_call 29; refine (HN.out _ ((Turn.refl _ _).drew)).mono ?_; rintro e w3 ⟨A, cp, xs, w2, rfl, hm, hu, hto, ht⟩; have HM := Lib.hid (PH.out xs hm hu); have HT := Lib.hid (And.intro hto ht); have c3 : w3.cell? ⟨xb, 2, none⟩ = some (.pointer (some ⟨ab 3, 0, none⟩)) := by { have := (HX.out.turn (((Turn.refl (fun _ => False) wr).drew).trans ht) (fun h => h)).cell 2; simpa using this }; clear hm hu hto ht)
    | (go_at_call 20; refine (LV.out _ (((Turn.refl (fun _ => False) wr).drew).trans HT.out.2)).mono ?_; rintro e w4 ⟨rfl, rfl⟩))
  all_goals
    go_wp2_with fail
    go_ret2
    obtain ⟨e1, e2⟩ := HM.out
    obtain ⟨hto, ht⟩ := HT.out
    rw [e1] at hto
    refine ⟨A, cp, w2, by rw [e2]; rfl, ?_, ?_, ((Turn.refl (fun _ => False) wr).drew).trans ht⟩
    · rw [← e1, List.length_map, e2]
    · rw [e2] at hto; exact hto

section
variable {w0 wr : World} {xb : Nat} {ab mb : Nat → Nat}
theorem NilS.mainI : MainI xb (.pointer none) (.pointer none) false 0 (NilS w0 xb ab mb) where
  free := fun {w vt L hs} ⟨e1, e2, e3, h⟩ => by rw [e2]; exact (free_nil w).mono fun e w' ⟨he, hw⟩ => ⟨he, hw.symm⟩
  dfree := fun {w vt L hs} ⟨e1, e2, e3, h⟩ => by rw [e2]; exact dfree_nil w
  len := fun {w vt L hs} ⟨e1, e2, e3, h⟩ => by rw [e2]; exact ⟨rfl, Nat.le_refl _, by omega⟩
  room := fun {w vt L hs} ⟨e1, e2, e3, h⟩ s => (room_nil w s).mono fun e w' ⟨he, hw⟩ => ⟨by rw [he]; rfl, hw.symm⟩
  live := fun e => by cases e
  handles := fun {w vt L hs} ⟨e1, e2, e3, h⟩ i h1 h3 => by
    rw [e2]
    rcases (show i = 1 ∨ i = 2 ∨ i = 3 by omega) with e | e | e <;> subst e
    · exact nhandles_1 h
    · exact nhandles_2 h
    · exact nhandles_3 h
  dhandles := fun {w vt L hs} ⟨e1, e2, e3, h⟩ i => by
    rw [e2]
    exact (dhandles_nil i w).mono fun e w' ⟨he, hw⟩ => by
      subst hw
      exact ⟨none, 0, w', he, Told.start _ _, Turn.refl _ _⟩
end
end Go.Proofs.YtbdfbgkfhaiccaaDoor

namespace Go.Proofs.YtbdfbgkfhaiccaaDoor
open Go.RowKit Go.Maps
set_option linter.unusedVariables false
theorem Ar.none_f {tA tP : TypeId} {w : World} {ab mb : Nat} {pp : Value} (h : Ar tA tP w ab mb pp (fun _ => none) 0) : ArF tA tP w ab mb pp (fun _ => none) 0 (fun _ => none) := by
  obtain ⟨f, h⟩ := h
  have e : f = fun _ => none := funext fun i => by
    by_cases hi : i < 0
    · exact h.2.2.1 i hi
    · have this : f ((i.toNat : Nat) : Int) = none := h.2.2.2.1 i.toNat
      rw [show ((i.toNat : Nat) : Int) = i by omega] at this
      exact this
  subst e
  exact h
theorem Ar.lt {tA tP : TypeId} {w : World} {ab mb : Nat} {pp : Value} {M : Nat → Option (Nat × Value)} {n : Nat} (h : Ar tA tP w ab mb pp M n) : ab < w.heap.size := by
  obtain ⟨f, h⟩ := h
  exact h.1.lt
section
variable {w1 w2 w3 w4 w5 w6 : World}
theorem NilS.start {wz : World} (h4 : Ar 89 97 w4 (wz.heap.size + 1) wz.heap.size (.pointer none) (fun _ => none) 0 ∧ Turn (fun _ => False) wz w4) (h5 : Ar 113 134 w5 (w4.heap.size + 1) w4.heap.size (.pointer none) (fun _ => none) 0 ∧ Turn (fun _ => False) w4 w5) (h6 : Ar 89 97 w6 (w5.heap.size + 1) w5.heap.size (.pointer none) (fun _ => none) 0 ∧ Turn (fun _ => False) w5 w6) (h0 : Turn (fun _ => False) w1 wz) :
    ∃ ab mb, (wz.heap.size + 1 = ab 1 ∧ w4.heap.size + 1 = ab 2 ∧ w5.heap.size + 1 = ab 3) ∧ NilS w1 w6.heap.size ab mb (w6.alloc (.cells #[.pointer none, .pointer (some ⟨wz.heap.size + 1, 0, none⟩), .pointer (some ⟨w5.heap.size + 1, 0, none⟩), .pointer (some ⟨w4.heap.size + 1, 0, none⟩), .pointer none, .slice none 0 0] 60)) (.slice none 0 0) [] [] := by
  have t7 := (Turn.refl (fun _ => False) w6).alloc (.cells #[.pointer none, .pointer (some ⟨wz.heap.size + 1, 0, none⟩), .pointer (some ⟨w5.heap.size + 1, 0, none⟩), .pointer (some ⟨w4.heap.size + 1, 0, none⟩), .pointer none, .slice none 0 0] 60)
  refine ⟨fun i => if i = 1 then wz.heap.size + 1 else if i = 2 then w4.heap.size + 1 else w5.heap.size + 1, fun i => if i = 1 then wz.heap.size else if i = 2 then w4.heap.size else w5.heap.size, ⟨rfl, rfl, rfl⟩, rfl, rfl, rfl, ⟨fun i hi => ?_, (h5.1.none_f.same h6.2).same t7, At.new w6 _, (((h0.trans h4.2).trans h5.2).trans h6.2).trans t7⟩⟩
  rcases hi with e | e <;> subst e
  · exact ((h4.1.none_f.same h5.2).same h6.2).same t7
  · exact h6.1.none_f.same t7
theorem WS.start {m pb gb fb qb lb cap : Nat} (h2 : Pool w2 pb gb fb (List.replicate m 1) (fun x => decide (x < m)) ∧ Turn (fun _ => False) w1 w2) (h3 : Doc w3 qb lb cap (List.replicate m sl0) ∧ Turn (fun _ => False) w2 w3) (l2 : w1.heap.size ≤ gb) (l3 : w1.heap.size ≤ fb) (l5 : w2.heap.size ≤ lb)
    (h4 : Ar 89 97 w4 (w3.heap.size + 1) w3.heap.size (.pointer (some ⟨pb, 0, none⟩)) (fun _ => none) 0 ∧ Turn (fun _ => False) w3 w4) (h5 : Ar 113 134 w5 (w4.heap.size + 1) w4.heap.size (.pointer (some ⟨pb, 0, none⟩)) (fun _ => none) 0 ∧ Turn (fun _ => False) w4 w5) (h6 : Ar 89 97 w6 (w5.heap.size + 1) w5.heap.size (.pointer (some ⟨pb, 0, none⟩)) (fun _ => none) 0 ∧ Turn (fun _ => False) w5 w6) :
    ∃ ab mb, (w3.heap.size + 1 = ab 1 ∧ w4.heap.size + 1 = ab 2 ∧ w5.heap.size + 1 = ab 3) ∧ WS w1 (w6.alloc (.cells #[.pointer (some ⟨pb, 0, none⟩), .pointer (some ⟨w3.heap.size + 1, 0, none⟩), .pointer (some ⟨w5.heap.size + 1, 0, none⟩), .pointer (some ⟨w4.heap.size + 1, 0, none⟩), .pointer (some ⟨qb, 0, none⟩), .slice none 0 0] 60)) m w6.heap.size pb gb fb ab mb qb lb cap (.slice none 0 0) (List.replicate m sl0) [] := by
  have t7 := (Turn.refl (fun _ => False) w6).alloc (.cells #[.pointer (some ⟨pb, 0, none⟩), .pointer (some ⟨w3.heap.size + 1, 0, none⟩), .pointer (some ⟨w5.heap.size + 1, 0, none⟩), .pointer (some ⟨w4.heap.size + 1, 0, none⟩), .pointer (some ⟨qb, 0, none⟩), .slice none 0 0] 60)
  have s1 := h2.2.size
  have s2 := h3.2.size
  have s3 := h4.2.size
  have s4 := h5.2.size
  have s5 := h6.2.size
  have q4 := h4.1.lt
  have q5 := h5.1.lt
  have t36 := (h4.2.trans h5.2).trans h6.2
  refine ⟨fun i => if i = 1 then w3.heap.size + 1 else if i = 2 then w4.heap.size + 1 else w5.heap.size + 1, fun i => if i = 1 then w3.heap.size else if i = 2 then w4.heap.size else w5.heap.size, ⟨rfl, rfl, rfl⟩, List.replicate m 1, fun x => decide (x < m), fun _ _ => none, fun _ => 0, fun _ _ => none, ?_⟩
  refine ⟨((h2.1.turn h3.2 (fun h => h) (fun h => h) (fun h => h)).turn t36 (fun h => h) (fun h => h) (fun h => h)).turn t7 (fun h => h) (fun h => h) (fun h => h), fun i hi => ?_, (h5.1.none_f.same h6.2).same t7, (h3.1.same t36).same t7, At.new w6 _, Told.start _ _, ((h2.2.trans h3.2).trans t36).trans t7, ⟨l2, l3, by omega, by omega⟩, fun i => ?_, ⟨?_, ?_, ?_⟩, (fun i x q hq => by cases hq), (fun x y v hv => by cases hv), (fun k q g v _ hm => by cases hm), PV.start m, (fun p hp => by cases hp)⟩
  · rcases hi with e | e <;> subst e
    · exact ((h4.1.none_f.same h5.2).same h6.2).same t7
    · exact h6.1.none_f.same t7
  · show w1.heap.size ≤ if i = 1 then w3.heap.size else if i = 2 then w4.heap.size else w5.heap.size
    split
    · omega
    · split <;> omega
  · show w3.heap.size ≠ w4.heap.size; omega
  · show w3.heap.size ≠ w5.heap.size; omega
  · show w4.heap.size ≠ w5.heap.size; omega
end
end Go.Proofs.YtbdfbgkfhaiccaaDoor
