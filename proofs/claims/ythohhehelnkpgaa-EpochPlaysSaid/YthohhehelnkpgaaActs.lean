/-
  A slice of acts that came in: its cells, as the walk asks for them.
-/
import Derived.Test.YthohhehelnkpgaaProg
import Derived.Test.YthohhehelnkpgaaArgs
import Derived.ProofKit
import Derived.Deep.Slices
import Derived.Deep.Fields
import Derived.ChangeSame
namespace Go.Proofs.Ythohhehelnkpgaa
open Go.RowKit Go.ChangeShapes Go.WideShapes Go.Deep
set_option linter.unusedVariables false

/-- Of each act: what is done, and its two words. -/
def Acts (w : World) (A0 : Option Addr) (len : Nat) : Prop :=
  ∀ j, j < len → ∃ lb lo, A0 = some ⟨lb, lo, none⟩ ∧ lb < w.heap.size ∧ ∃ (d a b : Int), (-9223372036854775808 ≤ a ∧ a ≤ 9223372036854775807) ∧
    w.cell? ⟨lb, lo + j * 3, none⟩ = some (.int .i64 d) ∧ w.cell? ⟨lb, lo + j * 3 + 1, none⟩ = some (.int .i64 a) ∧ w.cell? ⟨lb, lo + j * 3 + 2, none⟩ = some (.int .i64 b)

theorem cells39 : Try.prog.cellsOf 39 = 3 := by kernel_rfl
theorem cells3 : Try.prog.cellsOf 3 = 1 := by kernel_rfl

set_option maxRecDepth 10000 in
theorem acts_of_trod {H : Type} {enc : TypeId × Value → H} {W : World} {fuel : Nat} {A0 : Option Addr} {len cap : Nat} {x : DataW H × List MemPlace} (h : DataW.trod enc Try.prog W 0 (fun _ => true) true fuel 30 [.slice A0 len cap] = some x) :
    Acts W A0 len ∧ len ≤ maxLen := by
  rcases open_slice Try.underlying30 h with ⟨hcs, _⟩ | ⟨a, l, c, m, k, D, Pl, hcs, _, hl, hm, hmm, _, hi⟩
  · injection hcs with hcs _
    injection hcs with e1 e2 e3
    subst e1 e2 e3
    exact ⟨fun j hj => by omega, Nat.zero_le _⟩
  · injection hcs with hcs _
    injection hcs with e1 e2 e3
    subst e1 e2 e3
    refine ⟨fun j hj => ?_, Nat.le_trans hl hm⟩
    have hmc : m = cap := by rw [hmm]; exact if_pos rfl
    obtain ⟨cs, hc, ht⟩ := hi j (by omega)
    rw [cells39] at hc
    obtain ⟨_, hlen, hat⟩ := World.cells?_some hc
    obtain ⟨xs, n1, _, _, _, hxl, hf⟩ := DataW.trod_struct Try.underlying39 ht
    match cs, hlen with
    | [v0, v1, v2], _ =>
      match xs, hxl with
      | [y0, y1, y2], _ =>
        have g0 : DataW.trod enc Try.prog W 0 (fun _ => true) true n1 3 [v0] = some y0 := by
          have q := hf 0 { name := "Do", type := 3, offset := 0, embedded := false, tag := "", pkgPath := "", byteOffset := 0 } rfl
          dsimp only at q
          rw [cells3] at q
          exact q
        have g1 : DataW.trod enc Try.prog W 0 (fun _ => true) true n1 3 [v1] = some y1 := by
          have q := hf 1 { name := "Task", type := 3, offset := 1, embedded := false, tag := "", pkgPath := "", byteOffset := 8 } rfl
          dsimp only at q
          rw [cells3] at q
          exact q
        have g2 : DataW.trod enc Try.prog W 0 (fun _ => true) true n1 3 [v2] = some y2 := by
          have q := hf 2 { name := "Then", type := 3, offset := 2, embedded := false, tag := "", pkgPath := "", byteOffset := 16 } rfl
          dsimp only at q
          rw [cells3] at q
          exact q
        obtain ⟨d, e0, _, wd⟩ := DataW.trod_int Try.underlying3 g0
        obtain ⟨x1, e1, _, w1⟩ := DataW.trod_int Try.underlying3 g1
        obtain ⟨x2, e2, _, w2⟩ := DataW.trod_int Try.underlying3 g2
        simp only [List.cons.injEq, and_true] at e0 e1 e2
        subst e0 e1 e2
        have c0 := hat 0 (by omega)
        have c1 := hat 1 (by omega)
        have c2 := hat 2 (by omega)
        simp only [List.getElem?_cons_zero, List.getElem?_cons_succ] at c0 c1 c2
        have hz0 : ∀ q : Addr, q.add 0 = q := fun q => by simp [Addr.add]
        rw [hz0] at c0
        obtain ⟨lb, lo, sp⟩ := a
        obtain ⟨hsp, hblk⟩ := spot_none c0
        have hsp' : sp = none := by
          unfold Addr.add at hsp
          split at hsp
          · exact hsp
          · rename_i hne
            -- another element: its first cell tells of the row's head
            obtain ⟨cs0, hc0, _⟩ := hi 0 (by omega)
            rw [cells39] at hc0
            obtain ⟨_, hl0, hat0⟩ := World.cells?_some hc0
            have h00 := hat0 0 (by omega)
            rw [hz0, Nat.zero_mul, hz0] at h00
            match cs0, hl0 with
            | u0 :: _, _ =>
              simp only [List.getElem?_cons_zero] at h00
              exact (spot_none h00).1
        subst hsp'
        have hadd : ∀ o q, (⟨lb, o, none⟩ : Addr).add q = ⟨lb, o + q, none⟩ := fun o q => by
          unfold Addr.add
          split
          · subst q; rfl
          · rfl
        rw [hadd] at c0 c1 c2 hblk
        rw [hadd] at c1 c2
        have hb1 : -9223372036854775808 ≤ x1 ∧ x1 ≤ 9223372036854775807 := by
          have h' : IntKind.i64.min ≤ x1 ∧ x1 ≤ IntKind.i64.max := by simpa [Lit.wf] using w1
          have e1 : IntKind.i64.min = -9223372036854775808 := by decide
          have e2 : IntKind.i64.max = 9223372036854775807 := by decide
          rw [e1, e2] at h'
          exact h'
        exact ⟨lb, lo, rfl, hblk, d, x1, x2, hb1, c0, c1, c2⟩
theorem Acts.turn {X : Nat → Prop} {w w' : World} {A0 : Option Addr} {len : Nat} (h : Acts w A0 len) (t : Turn X w w') (hX : ∀ i, i < w.heap.size → ¬ X i) : Acts w' A0 len := fun j hj => by
  obtain ⟨lb, lo, hA, hb, d, a, b, hab, c0, c1, c2⟩ := h j hj
  have e := t.block lb hb (hX lb hb)
  exact ⟨lb, lo, hA, Nat.lt_of_lt_of_le hb t.size, d, a, b, hab, (World.cell?_of_block (w := w) e).trans c0, (World.cell?_of_block (w := w) e).trans c1, (World.cell?_of_block (w := w) e).trans c2⟩
end Go.Proofs.Ythohhehelnkpgaa
