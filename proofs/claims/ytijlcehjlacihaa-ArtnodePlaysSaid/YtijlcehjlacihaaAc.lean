/-
  A slice of acts that came in.
-/
import Derived.Test.YtijlcehjlacihaaAg
import Derived.Test.YtijlcehjlacihaaWk
import Derived.ProofKit
import Derived.Deep.Slices
import Derived.Deep.Fields
import Derived.Deep.MidRow
import Derived.ChangeSame
namespace Go.Proofs.Ytijlcehjlacihaa
open Go.RowKit Go.Lib
set_option linter.unusedVariables false
set_option maxRecDepth 20000
set_option linter.unusedSimpArgs false

open Go.ChangeShapes Go.WideShapes Go.Deep
/-- Of each act: what is done, its byte, how many more, and its two numbers. -/
def Acts (w : World) (A0 : Option Addr) (len : Nat) : Prop :=
  ∀ j, j < len → ∃ lb lo, A0 = some ⟨lb, lo, none⟩ ∧ lb < w.heap.size ∧ ∃ (d b m : Nat) (x n : Int), d < 256 ∧ b < 256 ∧ m < 256 ∧
    w.rangeAt lb (lo + j * 5) [.int .u8 (d : Int), .int .u8 (b : Int), .int .u8 (m : Int), .int .i64 x, .int .i64 n]
theorem cellsA : Try.prog.cellsOf 29 = 5 := by kernel_rfl
theorem cellsA3 : Try.prog.cellsOf 3 = 1 := by kernel_rfl
theorem cellsA5 : Try.prog.cellsOf 5 = 1 := by kernel_rfl
theorem inf29 : (Try.prog.info? 29).map (·.size) = some 5 := by kernel_rfl
theorem acts_of_trod {H : Type} {enc : TypeId × Value → H} {W : World} {fuel : Nat} {A0 : Option Addr} {len cap : Nat} {x : DataW H × List MemPlace} (h : DataW.trod enc Try.prog W 0 (fun _ => true) true fuel 22 [.slice A0 len cap] = some x) :
    Acts W A0 len ∧ len ≤ maxLen := by
  rcases open_slice Try.underlying22 h with ⟨hcs, _⟩ | ⟨a, l, c, m, k, D, Pl, hcs, _, hl, hm, hmm, _, hi⟩
  · injection hcs with hcs _
    injection hcs with e1 e2 e3
    subst e1 e2 e3
    exact ⟨fun j hj => by omega, Nat.zero_le _⟩
  · injection hcs with hcs _
    injection hcs with e1 e2 e3
    subst e1 e2 e3
    refine ⟨fun j hj => ?_, Nat.le_trans hl hm⟩
    have hmc : m = cap := by rw [hmm]; exact if_pos rfl
    obtain ⟨cs, hc, ht⟩ := hi j (by omega)
    rw [cellsA] at hc
    obtain ⟨_, hlen, hat⟩ := World.cells?_some hc
    obtain ⟨xs, n1, _, _, _, hxl, hf⟩ := DataW.trod_struct Try.underlying29 ht
    match cs, hlen with
    | [v0, v1, v2, v3, v4], _ =>
      match xs, hxl with
      | [y0, y1, y2, y3, y4], _ =>
        have g0 : DataW.trod enc Try.prog W 0 (fun _ => true) true n1 5 [v0] = some y0 := by
          have q := hf 0 { name := "Do", type := 5, offset := 0, embedded := false, tag := "", pkgPath := "", byteOffset := 0 } rfl
          dsimp only at q
          rw [cellsA5] at q
          exact q
        have g1 : DataW.trod enc Try.prog W 0 (fun _ => true) true n1 5 [v1] = some y1 := by
          have q := hf 1 { name := "B", type := 5, offset := 1, embedded := false, tag := "", pkgPath := "", byteOffset := 1 } rfl
          dsimp only at q
          rw [cellsA5] at q
          exact q
        have g2 : DataW.trod enc Try.prog W 0 (fun _ => true) true n1 5 [v2] = some y2 := by
          have q := hf 2 { name := "More", type := 5, offset := 2, embedded := false, tag := "", pkgPath := "", byteOffset := 2 } rfl
          dsimp only at q
          rw [cellsA5] at q
          exact q
        have g3 : DataW.trod enc Try.prog W 0 (fun _ => true) true n1 3 [v3] = some y3 := by
          have q := hf 3 { name := "X", type := 3, offset := 3, embedded := false, tag := "", pkgPath := "", byteOffset := 8 } rfl
          dsimp only at q
          rw [cellsA3] at q
          exact q
        have g4 : DataW.trod enc Try.prog W 0 (fun _ => true) true n1 3 [v4] = some y4 := by
          have q := hf 4 { name := "N", type := 3, offset := 4, embedded := false, tag := "", pkgPath := "", byteOffset := 16 } rfl
          dsimp only at q
          rw [cellsA3] at q
          exact q
        obtain ⟨d, e0, _, wd⟩ := DataW.trod_int Try.underlying5 g0
        obtain ⟨b, e1, _, wb⟩ := DataW.trod_int Try.underlying5 g1
        obtain ⟨mo, e2, _, wm⟩ := DataW.trod_int Try.underlying5 g2
        obtain ⟨x3, e3, _, _⟩ := DataW.trod_int Try.underlying3 g3
        obtain ⟨x4, e4, _, _⟩ := DataW.trod_int Try.underlying3 g4
        simp only [List.cons.injEq, and_true] at e0 e1 e2 e3 e4
        subst e0 e1 e2 e3 e4
        have c0 := hat 0 (by omega)
        simp only [List.getElem?_cons_zero, List.getElem?_cons_succ] at c0
        have hz0 : ∀ q : Addr, q.add 0 = q := fun q => by simp [Addr.add]
        rw [hz0] at c0
        obtain ⟨lb, lo, sp⟩ := a
        obtain ⟨hsp, hblk⟩ := spot_none c0
        have hsp' : sp = none := by
          unfold Addr.add at hsp
          split at hsp
          · exact hsp
          · rename_i hne
            obtain ⟨cs0, hc0, _⟩ := hi 0 (by omega)
            rw [cellsA] at hc0
            obtain ⟨_, hl0, hat0⟩ := World.cells?_some hc0
            have h00 := hat0 0 (by omega)
            rw [hz0, Nat.zero_mul, hz0] at h00
            match cs0, hl0 with
            | u0 :: _, _ =>
              simp only [List.getElem?_cons_zero] at h00
              exact (spot_none h00).1
        subst hsp'
        have hadd : ∀ o q, (⟨lb, o, none⟩ : Addr).add q = ⟨lb, o + q, none⟩ := fun o q => by
          unfold Addr.add
          split
          · subst q; rfl
          · rfl
        rw [hadd] at hblk
        obtain ⟨p0, rfl, l0⟩ := nat_u8 wd
        obtain ⟨p1, rfl, l1⟩ := nat_u8 wb
        obtain ⟨p2, rfl, l2⟩ := nat_u8 wm
        refine ⟨lb, lo, rfl, hblk, p0, p1, p2, x3, x4, l0, l1, l2, fun i v hv => ?_⟩
        have hi5 : i < 5 := by
          have := (List.getElem?_eq_some_iff.1 hv).1
          simpa using this
        have hq := hat i hi5
        rw [hadd, hadd] at hq
        rw [hq]
        exact hv
end Go.Proofs.Ytijlcehjlacihaa
