/-
  A slice of acts that came in: its cells, as the walks ask for them.
-/
import Derived.Test.YtbdfbgkfhaiccaaDoorHeldB
import Derived.ProofKit
import Derived.Deep.Slices
import Derived.Deep.Fields
import Derived.ChangeSame
namespace Go.Proofs.YtbdfbgkfhaiccaaDoor
open Go.RowKit Go.Maps Go.ChangeShapes Go.WideShapes Go.Deep
set_option linter.unusedVariables false

theorem spot_none {w : World} {x : Addr} {v : Value} (h : w.cell? x = some v) : x.spot = none ∧ x.block < w.heap.size := by
  unfold World.cell? at h
  constructor
  · cases hs : x.spot with
    | none => rfl
    | some n => rw [hs] at h; split at h <;> simp at h
  · rcases Nat.lt_or_ge x.block w.heap.size with h1 | h1
    · exact h1
    · rw [Array.getElem?_eq_none h1] at h; cases h

theorem bounds_u8 {n : Int} (h : (Lit.int .u8 n).wf = true) : 0 ≤ n ∧ n < 256 := by
  have h' : IntKind.u8.min ≤ n ∧ n ≤ IntKind.u8.max := by simpa [Lit.wf] using h
  have e1 : IntKind.u8.min = 0 := by decide
  have e2 : IntKind.u8.max = 255 := by decide
  rw [e1, e2] at h'
  omega

theorem cells63 : Tryd.prog.cellsOf 63 = 6 := by kernel_rfl
theorem cells32 : Tryd.prog.cellsOf 32 = 2 := by kernel_rfl
theorem cells3 : Tryd.prog.cellsOf 3 = 1 := by kernel_rfl
theorem cells5 : Tryd.prog.cellsOf 5 = 1 := by kernel_rfl
theorem cells9 : Tryd.prog.cellsOf 9 = 1 := by kernel_rfl
theorem cells30 : Tryd.prog.cellsOf 30 = 1 := by kernel_rfl

theorem bounds_i64 {n : Int} (h : (Lit.int .i64 n).wf = true) : -9223372036854775808 ≤ n ∧ n ≤ 9223372036854775807 := by
  have h' : IntKind.i64.min ≤ n ∧ n ≤ IntKind.i64.max := by simpa [Lit.wf] using h
  have e1 : IntKind.i64.min = -9223372036854775808 := by decide
  have e2 : IntKind.i64.max = 9223372036854775807 := by decide
  rw [e1, e2] at h'
  omega
theorem bounds_u64' {n : Int} (h : (Lit.int .u64 n).wf = true) : 0 ≤ n ∧ n < 18446744073709551616 := by
  have h' : IntKind.u64.min ≤ n ∧ n ≤ IntKind.u64.max := by simpa [Lit.wf] using h
  have e1 : IntKind.u64.min = 0 := by decide
  have e2 : IntKind.u64.max = 18446744073709551615 := by decide
  rw [e1, e2] at h'
  omega

set_option maxRecDepth 10000 in
theorem acts_of_trod {H : Type} {enc : TypeId × Value → H} {W : World} {fuel : Nat} {A0 : Option Addr} {len cap : Nat} {x : DataW H × List MemPlace} (h : DataW.trod enc Tryd.prog W 0 (fun _ => true) true fuel 48 [.slice A0 len cap] = some x) :
    Acts W A0 len ∧ len ≤ maxLen := by
  rcases open_slice Tryd.underlying48 h with ⟨hcs, _⟩ | ⟨a, l, c, m, k, D, Pl, hcs, _, hl, hm, hmm, _, hi⟩
  · injection hcs with hcs _
    injection hcs with e1 e2 e3
    subst e1 e2 e3
    exact ⟨fun j hj => by omega, Nat.zero_le _⟩
  · injection hcs with hcs _
    injection hcs with e1 e2 e3
    subst e1 e2 e3
    refine ⟨fun j hj => ?_, Nat.le_trans hl hm⟩
    have hmc : m = cap := by rw [hmm]; exact if_pos rfl
    obtain ⟨cs, hc, ht⟩ := hi j (by omega)
    rw [cells63] at hc
    obtain ⟨_, hlen, hat⟩ := World.cells?_some hc
    obtain ⟨xs, n1, _, _, _, hxl, hf⟩ := DataW.trod_struct Tryd.underlying63 ht
    match cs, hlen with
    | [v0, v1, v2, v3, v4, v5], _ =>
      match xs, hxl with
      | [y0, y1, y2, y3, y4], _ =>
        have g0 : DataW.trod enc Tryd.prog W 0 (fun _ => true) true n1 3 [v0] = some y0 := by
          have q := hf 0 { name := "Do", type := 3, offset := 0, embedded := false, tag := "", pkgPath := "", byteOffset := 0 } rfl
          dsimp only at q
          rw [cells3] at q
          exact q
        have g1 : DataW.trod enc Tryd.prog W 0 (fun _ => true) true n1 5 [v1] = some y1 := by
          have q := hf 1 { name := "In", type := 5, offset := 1, embedded := false, tag := "", pkgPath := "", byteOffset := 8 } rfl
          dsimp only at q
          rw [cells5] at q
          exact q
        have g2 : DataW.trod enc Tryd.prog W 0 (fun _ => true) true n1 9 [v2] = some y2 := by
          have q := hf 2 { name := "X", type := 9, offset := 2, embedded := false, tag := "", pkgPath := "", byteOffset := 16 } rfl
          dsimp only at q
          rw [cells9] at q
          exact q
        have g3 : DataW.trod enc Tryd.prog W 0 (fun _ => true) true n1 32 [v3, v4] = some y3 := by
          have q := hf 3 { name := "H", type := 32, offset := 3, embedded := false, tag := "", pkgPath := "", byteOffset := 32 } rfl
          dsimp only at q
          rw [cells32] at q
          exact q
        have g4 : DataW.trod enc Tryd.prog W 0 (fun _ => true) true n1 5 [v5] = some y4 := by
          have q := hf 4 { name := "Ago", type := 5, offset := 5, embedded := false, tag := "", pkgPath := "", byteOffset := 48 } rfl
          dsimp only at q
          rw [cells5] at q
          exact q
        obtain ⟨d, e0, _, wd⟩ := DataW.trod_int Tryd.underlying3 g0
        obtain ⟨inn, e1, _, wi⟩ := DataW.trod_int Tryd.underlying5 g1
        obtain ⟨X, e2, _, wX⟩ := DataW.trod_string Tryd.underlying9 g2
        obtain ⟨ago, e5, _, wa⟩ := DataW.trod_int Tryd.underlying5 g4
        obtain ⟨zs, n2, _, _, _, hzl, hf2⟩ := DataW.trod_struct Tryd.underlying32 g3
        match zs, hzl with
        | [z0, z1], _ =>
          have k0 : DataW.trod enc Tryd.prog W 0 (fun _ => true) true n2 3 [v3] = some z0 := by
            have q := hf2 0 { name := "Slot", type := 3, offset := 0, embedded := false, tag := "", pkgPath := "", byteOffset := 0 } rfl
            dsimp only at q
            rw [cells3] at q
            exact q
          have k1 : DataW.trod enc Tryd.prog W 0 (fun _ => true) true n2 30 [v4] = some z1 := by
            have q := hf2 1 { name := "Gen", type := 30, offset := 1, embedded := false, tag := "", pkgPath := "", byteOffset := 8 } rfl
            dsimp only at q
            rw [cells30] at q
            exact q
          obtain ⟨hs, e3, _, wh⟩ := DataW.trod_int Tryd.underlying3 k0
          obtain ⟨hg, e4, _, wg⟩ := DataW.trod_int Tryd.underlying30 k1
          simp only [List.cons.injEq, and_true] at e0 e1 e2 e3 e4 e5
          subst e0 e1 e2 e3 e4 e5
          have c0 := hat 0 (by omega)
          have c1 := hat 1 (by omega)
          have c2 := hat 2 (by omega)
          have c3 := hat 3 (by omega)
          have c4 := hat 4 (by omega)
          have c5 := hat 5 (by omega)
          simp only [List.getElem?_cons_zero, List.getElem?_cons_succ] at c0 c1 c2 c3 c4 c5
          have hz0 : ∀ q : Addr, q.add 0 = q := fun q => by simp [Addr.add]
          rw [hz0] at c0
          obtain ⟨lb, lo, sp⟩ := a
          obtain ⟨hsp, hblk⟩ := spot_none c0
          have hsp' : sp = none := by
            unfold Addr.add at hsp
            split at hsp
            · exact hsp
            · rename_i hne
              -- another element: its first cell tells of the row's head
              obtain ⟨cs0, hc0, _⟩ := hi 0 (by omega)
              rw [cells63] at hc0
              obtain ⟨_, hl0, hat0⟩ := World.cells?_some hc0
              have h00 := hat0 0 (by omega)
              rw [hz0, Nat.zero_mul, hz0] at h00
              match cs0, hl0 with
              | u0 :: _, _ =>
                simp only [List.getElem?_cons_zero] at h00
                exact (spot_none h00).1
          subst hsp'
          have hadd : ∀ q, (⟨lb, lo, none⟩ : Addr).add q = ⟨lb, lo + q, none⟩ := fun q => by
            unfold Addr.add
            split
            · subst q; rfl
            · rfl
          rw [hadd] at c0 c1 c2 c3 c4 c5 hblk
          have hadd2 : ∀ o q, (⟨lb, o, none⟩ : Addr).add q = ⟨lb, o + q, none⟩ := fun o q => by
            unfold Addr.add
            split
            · subst q; rfl
            · rfl
          rw [hadd2] at c1 c2 c3 c4 c5
          have bi := bounds_u8 wi
          have ba := bounds_u8 wa
          have bg := bounds_u64' wg
          unfold maxLen at wX
          refine ⟨lb, lo, rfl, hblk, d, inn.toNat, X, hs, hg.toNat, ago.toNat, ⟨c0, ?_, c2, c3, ?_, ?_, by omega, wX, bounds_i64 wh, by omega, by omega, bounds_i64 wd⟩⟩
          · rw [Int.toNat_of_nonneg bi.1]; exact c1
          · rw [Int.toNat_of_nonneg bg.1]; exact c4
          · rw [Int.toNat_of_nonneg ba.1]; exact c5
end Go.Proofs.YtbdfbgkfhaiccaaDoor
