/-
  A slice of acts that came in: its cells, as the walk asks for them.
-/
import Derived.Test.YtildhokanfmabaaWAwake
import Derived.Test.YtildhokanfmabaaArgs
import Derived.ProofKit
import Derived.Deep.Slices
import Derived.Deep.Fields
import Derived.ChangeSame
namespace Go.Proofs.Ytildhokanfmabaa
open Go.RowKit Go.ChangeShapes Go.WideShapes Go.Deep
set_option linter.unusedVariables false

/-- Of each act: what is done, and its two words. -/
def Acts (w : World) (A0 : Option Addr) (len : Nat) : Prop :=
  ∀ j, j < len → ∃ lb lo, A0 = some ⟨lb, lo, none⟩ ∧ lb < w.heap.size ∧ ∃ (d : Int) (a b : Nat), a < 18446744073709551616 ∧ b < 18446744073709551616 ∧
    w.cell? ⟨lb, lo + j * 3, none⟩ = some (.int .i64 d) ∧ w.cell? ⟨lb, lo + j * 3 + 1, none⟩ = some (.int .u64 (a : Int)) ∧ w.cell? ⟨lb, lo + j * 3 + 2, none⟩ = some (.int .u64 (b : Int))

theorem cells44 : Try.prog.cellsOf 44 = 3 := by kernel_rfl
theorem cells3 : Try.prog.cellsOf 3 = 1 := by kernel_rfl
theorem cells22 : Try.prog.cellsOf 22 = 1 := by kernel_rfl

set_option maxRecDepth 10000 in
theorem acts_of_trod {H : Type} {enc : TypeId × Value → H} {W : World} {fuel : Nat} {A0 : Option Addr} {len cap : Nat} {x : DataW H × List MemPlace} (h : DataW.trod enc Try.prog W 0 (fun _ => true) true fuel 42 [.slice A0 len cap] = some x) :
    Acts W A0 len ∧ len ≤ maxLen := by
  rcases open_slice Try.underlying42 h with ⟨hcs, _⟩ | ⟨a, l, c, m, k, D, Pl, hcs, _, hl, hm, hmm, _, hi⟩
  · injection hcs with hcs _
    injection hcs with e1 e2 e3
    subst e1 e2 e3
    exact ⟨fun j hj => by omega, Nat.zero_le _⟩
  · injection hcs with hcs _
    injection hcs with e1 e2 e3
    subst e1 e2 e3
    refine ⟨fun j hj => ?_, Nat.le_trans hl hm⟩
    have hmc : m = cap := by rw [hmm]; exact if_pos rfl
    obtain ⟨cs, hc, ht⟩ := hi j (by omega)
    rw [cells44] at hc
    obtain ⟨_, hlen, hat⟩ := World.cells?_some hc
    obtain ⟨xs, n1, _, _, _, hxl, hf⟩ := DataW.trod_struct Try.underlying44 ht
    match cs, hlen with
    | [v0, v1, v2], _ =>
      match xs, hxl with
      | [y0, y1, y2], _ =>
        have g0 : DataW.trod enc Try.prog W 0 (fun _ => true) true n1 3 [v0] = some y0 := by
          have q := hf 0 { name := "Do", type := 3, offset := 0, embedded := false, tag := "", pkgPath := "", byteOffset := 0 } rfl
          dsimp only at q
          rw [cells3] at q
          exact q
        have g1 : DataW.trod enc Try.prog W 0 (fun _ => true) true n1 22 [v1] = some y1 := by
          have q := hf 1 { name := "W", type := 22, offset := 1, embedded := false, tag := "", pkgPath := "", byteOffset := 8 } rfl
          dsimp only at q
          rw [cells22] at q
          exact q
        have g2 : DataW.trod enc Try.prog W 0 (fun _ => true) true n1 22 [v2] = some y2 := by
          have q := hf 2 { name := "To", type := 22, offset := 2, embedded := false, tag := "", pkgPath := "", byteOffset := 16 } rfl
          dsimp only at q
          rw [cells22] at q
          exact q
        obtain ⟨d, e0, _, wd⟩ := DataW.trod_int Try.underlying3 g0
        obtain ⟨x1, e1, _, w1⟩ := DataW.trod_int Try.underlying22 g1
        obtain ⟨x2, e2, _, w2⟩ := DataW.trod_int Try.underlying22 g2
        simp only [List.cons.injEq, and_true] at e0 e1 e2
        subst e0 e1 e2
        have c0 := hat 0 (by omega)
        have c1 := hat 1 (by omega)
        have c2 := hat 2 (by omega)
        simp only [List.getElem?_cons_zero, List.getElem?_cons_succ] at c0 c1 c2
        have hz0 : ∀ q : Addr, q.add 0 = q := fun q => by simp [Addr.add]
        rw [hz0] at c0
        obtain ⟨lb, lo, sp⟩ := a
        obtain ⟨hsp, hblk⟩ := spot_none c0
        have hsp' : sp = none := by
          unfold Addr.add at hsp
          split at hsp
          · exact hsp
          · rename_i hne
            -- another element: its first cell tells of the row's head
            obtain ⟨cs0, hc0, _⟩ := hi 0 (by omega)
            rw [cells44] at hc0
            obtain ⟨_, hl0, hat0⟩ := World.cells?_some hc0
            have h00 := hat0 0 (by omega)
            rw [hz0, Nat.zero_mul, hz0] at h00
            match cs0, hl0 with
            | u0 :: _, _ =>
              simp only [List.getElem?_cons_zero] at h00
              exact (spot_none h00).1
        subst hsp'
        have hadd : ∀ o q, (⟨lb, o, none⟩ : Addr).add q = ⟨lb, o + q, none⟩ := fun o q => by
          unfold Addr.add
          split
          · subst q; rfl
          · rfl
        rw [hadd] at c0 c1 c2 hblk
        rw [hadd] at c1 c2
        obtain ⟨p1, rfl, l1⟩ := nat_u64 w1
        obtain ⟨p2, rfl, l2⟩ := nat_u64 w2
        exact ⟨lb, lo, rfl, hblk, d, p1, p2, l1, l2, c0, c1, c2⟩
end Go.Proofs.Ytildhokanfmabaa
