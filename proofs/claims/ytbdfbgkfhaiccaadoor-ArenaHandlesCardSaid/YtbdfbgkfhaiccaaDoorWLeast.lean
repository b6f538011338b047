/-
  ArenaLeast, walked; and what a slice of integers that came in is told to the walks by.
-/
import Derived.Test.YtbdfbgkfhaiccaaDoorWTwoB
import Derived.Test.YtbdfbgkfhaiccaaDoorWAwake
namespace Go.Proofs.YtbdfbgkfhaiccaaDoor
open Go.RowKit Go.Maps
set_option linter.unusedVariables false

/-- A slice of integers that came in: nil, or the head of a row of cells. -/
def IsRow (k : IntKind) (w : World) (a : Option Addr) (len cap : Nat) (zs : List Int) : Prop :=
  (a = none ∧ len = 0 ∧ cap = 0 ∧ zs = []) ∨
  ∃ x, a = some x ∧ len ≤ cap ∧ cap ≤ maxLen ∧ zs.length = cap ∧ (∀ i, i < zs.length → w.cell? (x.add i) = some (.int k (zs.getD i 0))) ∧ ∀ n ∈ zs, (Lit.int k n).wf = true

theorem spot_none {w : World} {x : Addr} {v : Value} (h : w.cell? x = some v) : x.spot = none ∧ x.block < w.heap.size := by
  unfold World.cell? at h
  constructor
  · cases hs : x.spot with
    | none => rfl
    | some n => rw [hs] at h; split at h <;> simp at h
  · rcases Nat.lt_or_ge x.block w.heap.size with h1 | h1
    · exact h1
    · rw [Array.getElem?_eq_none h1] at h; cases h

theorem bounds_u8 {n : Int} (h : (Lit.int .u8 n).wf = true) : 0 ≤ n ∧ n < 256 := by
  have h' : IntKind.u8.min ≤ n ∧ n ≤ IntKind.u8.max := by simpa [Lit.wf] using h
  have e1 : IntKind.u8.min = 0 := by decide
  have e2 : IntKind.u8.max = 255 := by decide
  rw [e1, e2] at h'
  omega

theorem row_bytes {w : World} {a : Option Addr} {len cap : Nat} {zs : List Int} (h : IsRow .u8 w a len cap zs) :
    ∀ j, j < len → ∃ lb lo, a = some ⟨lb, lo, none⟩ ∧ lb < w.heap.size ∧ (zs.getD j 0).toNat < 256 ∧ w.cell? ⟨lb, lo + j, none⟩ = some (.int .u8 ((zs.getD j 0).toNat : Nat)) := by
  intro j hj
  rcases h with ⟨_, h0, _⟩ | ⟨x, rfl, hl, _, hz, hc, hw⟩
  · omega
  · have h0 := hc 0 (by omega)
    have hx0 : x.add 0 = x := by simp [Addr.add]
    rw [hx0] at h0
    obtain ⟨hs, hb⟩ := spot_none h0
    obtain ⟨lb, lo, sp⟩ := x
    simp only at hs hb
    subst hs
    have hjz : j < zs.length := by omega
    have hm : zs.getD j 0 ∈ zs := by
      rw [List.getD_eq_getElem?_getD, List.getElem?_eq_getElem hjz]; exact List.getElem_mem hjz
    have hbd := bounds_u8 (hw _ hm)
    refine ⟨lb, lo, rfl, hb, by omega, ?_⟩
    rw [Int.toNat_of_nonneg hbd.1]
    have := hc j hjz
    unfold Addr.add at this
    split at this
    · subst j; simpa using this
    · simpa using this

theorem row_len {k : IntKind} {w : World} {a : Option Addr} {len cap : Nat} {zs : List Int} (h : IsRow k w a len cap zs) : len ≤ maxLen := by
  rcases h with ⟨_, h0, _⟩ | ⟨x, _, hl, hm, _⟩ <;> omega

set_option maxRecDepth 100000 in
theorem arenaLeast_any (z len cap : Nat) (A0 : Option Addr) (zs : List Int) (w : World) (hz : z < 256) (hr : IsRow .u8 w A0 len cap zs) (hT : Tab w) :
    Calls Tryd.prog 6 #[.int .u8 (z : Int), .slice A0 len cap] w fun e w' => e = .returned (.bool true) ∧ Below w.heap.size w w' := by
  have hlm := row_len hr
  unfold maxLen at hlm
  have AW := Lib.hid (awake_any w hT)
  have HR := Lib.hid (row_bytes hr)
  have HT := Lib.hid hT
  clear hT hr
  by_cases hlen : 300 < len
  · have g : decide ((300 : Int) < (len : Int)) = true := by simp; omega
    go_enter Tryd.func6, Tryd.ntmps6
    go_wp2_with fail
    refine AW.out.mono ?_
    rintro e w1 ⟨rfl, ht1⟩
    have H1 := Lib.hid ht1
    clear ht1
    go_wp2_with fail
    go_ret
    exact ⟨rfl, H1.out.below (Nat.le_refl _) (fun _ _ h => h)⟩
  · have g : decide ((300 : Int) < (len : Int)) = false := by simp; omega
    go_enter Tryd.func6, Tryd.ntmps6
    go_wp2_with fail
    refine AW.out.mono ?_
    rintro e w1 ⟨rfl, ht1⟩
    have TW := two_any (1 + z % 64) len cap A0 (fun j => (zs.getD j 0).toNat) w1 (by omega) (by omega) (by omega) (HT.out.turn ht1 (fun h => h) HT.out.pos)
      (fun j hj => by
        obtain ⟨lb, lo, e1, e2, e3, e4⟩ := HR.out j hj
        exact ⟨lb, lo, e1, Nat.lt_of_lt_of_le e2 ht1.size, e3, (World.cell?_of_block (w := w) (ht1.block lb e2 (fun h => h))).trans e4⟩)
    rw [show ((1 + z % 64 : Nat) : Int) = 1 + (z : Int) % 64 by omega] at TW
    have TWH := Lib.hid TW
    have H1 := Lib.hid ht1
    clear ht1 TW
    go_wp2_with fail
    refine TWH.out.mono ?_
    rintro e w2 ⟨pb, gb, fb, aa, am, ba, bm, sb, G, fr, Ma, Mb, na, nb, f, ns, rfl, st⟩
    have H2 := Lib.hid st.old
    clear st
    go_wp2_with fail
    go_ret
    exact ⟨rfl, (H1.out.trans H2.out).below (Nat.le_refl _) (fun _ _ h => h)⟩
end Go.Proofs.YtbdfbgkfhaiccaaDoor
