/-
  The law's awake, over what is asked of the program.
-/
import Derived.Test.YtengbkopihiiaaaWNp
namespace Go.Proofs.Ytengbkopihiiaaa
open Go.RowKit Go.Lib
set_option linter.unusedVariables false
set_option maxRecDepth 20000
set_option maxRecDepth 20000
set_option linter.unusedSimpArgs false

theorem leafR_L : LeafR ndL ⟨#[99]⟩ := ⟨⟨rk_L, fun _ => rfl, fun h => by (cases h), fun _ => ⟨rfl, rfl⟩, fun h => by (cases h)⟩, rfl, fun h => by (cases h)⟩
theorem right_L2 : NdRight ndL2 := ⟨rk_L2, fun _ => rfl, fun h => by (cases h), fun _ => ⟨rfl, rfl⟩, fun h => by (cases h)⟩
theorem fit_L (x : UInt8) : Fit ⟨#[x]⟩ := by unfold Fit; show (1 : Nat) ≤ _; omega
theorem put_L {m : Nd} {old : ByteArray} {had : Bool} (h : PutR ndL ⟨#[99]⟩ ⟨#[57]⟩ m old had) : m = ndL2 ∧ had = false := by
  obtain ⟨h1, _, h3⟩ := h.1 leafR_L
  rw [putL_L] at h1
  rw [getL_L] at h3
  exact ⟨h1, h3⟩
theorem in_L {w : World} {AK AV AD : Option Addr} {ck cv cd : Nat} {Z : Nat} (h : Own Z w ndL.keys ndL.vals ndL.kids AK ck AV cv AD cd) : In w ndL AK AV AD :=
  ⟨row_of_own h.k, row_of_own h.v, row_of_own h.d, fun k hk => by
    simp only [ndL, List.mem_cons, List.not_mem_nil, or_false] at hk
    rcases hk with rfl | rfl <;> exact fit_L _, fun k hk => by
    simp only [ndL, List.mem_cons, List.not_mem_nil, or_false] at hk
    rcases hk with rfl | rfl <;> exact fit_L _, by unfold Fit; show (0 : Nat) ≤ _; omega, by decide, by decide, by decide⟩
theorem in_L2 {w : World} {AK AV AD : Option Addr} {Z : Nat} (h : Got Z w ndL2 AK AV AD) : In w ndL2 AK AV AD :=
  ⟨h.k, h.v, h.d, fun k hk => by
    simp only [ndL2, List.mem_cons, List.not_mem_nil, or_false] at hk
    rcases hk with rfl | rfl | rfl <;> exact fit_L _, fun k hk => by
    simp only [ndL2, List.mem_cons, List.not_mem_nil, or_false] at hk
    rcases hk with rfl | rfl | rfl <;> exact fit_L _, by unfold Fit; show (0 : Nat) ≤ _; omega, by decide, by decide, by decide⟩
set_option maxRecDepth 100000 in
set_option maxHeartbeats 8000000 in
theorem awake_any (hF : FindC) (hP : PutC) (hR : RightC) (w : World) : Calls Try.prog 20 #[] w fun e w' => e = .returned (.bool true) ∧ Turn No w w' := by
  have CL := Lib.hid fun (W : World) => leaf_any W
  have CP := Lib.hid fun (W : World) (AK AV AD : Option Addr) (ck cv cd : Nat) (h : In W ndL AK AV AD) => hP ndL AK AV AD ck cv cd ⟨#[99]⟩ ⟨#[57]⟩ W h (fit_L _) (fit_L _)
  have CF := Lib.hid fun (W : World) (AK AV AD : Option Addr) (ck cv cd : Nat) (h : In W ndL2 AK AV AD) => hF true ndL2.keys ndL2.vals.length ndL2.kids.length ndL2.high ndL2.bnd ndL2.nx.slot ndL2.nx.gen AK AV AD ck cv cd ⟨#[99]⟩ W h.k h.fk (fit_L _) (by have := h.lk; omega)
  have CR := Lib.hid fun (W : World) (AK AV AD : Option Addr) (ck cv cd : Nat) (h : In W ndL2 AK AV AD) => hR ndL2 AK AV AD ck cv cd W h
  rw [plc_L2.1, plc_L2.2] at CF
  simp only [ndL, ndL2, List.length_cons, List.length_nil, Nat.reduceAdd] at CP CF CR
  go_enter Try.func20, Try.ntmps20
  go_upto_region 1 with fail
  go_wp2_with fail
  (with_reducible refine (CL.out _).mono ?_)
  rintro e w1 ⟨AK, ck, AV, cv, AD, cd, rfl, ho, ht⟩
  have H1 := Lib.hid (And.intro (in_L ho) ht)
  clear ho ht
  go_wp2_with fail
  have CP1 := CP.out w1 AK AV AD ck cv cd H1.out.1
  (with_reducible refine CP1.mono ?_)
  rintro e w2 ⟨m, BK, dk, BV, dv, BD, dd, old, had, rfl, hput, hgot, ht⟩
  obtain ⟨rfl, rfl⟩ := put_L hput
  have H2 := Lib.hid (And.intro (in_L2 hgot) ht)
  clear hput hgot ht CP1 CP CL
  simp only [ndL2, List.length_cons, List.length_nil, Nat.reduceAdd]
  go_upto_region 2 with fail
  have tn : Turn No w2 (w2.alloc (.cells #[.bool true, .slice BK 3 dk, .slice BV 3 dv, .slice BD 0 dd, .string ⟨#[]⟩, .bool false, .int .i64 0, .int .u64 0] 29)) := (Turn.refl _ _).alloc _
  have H3 := Lib.hid (And.intro (H2.out.1.no tn) (And.intro ((H1.out.2.trans H2.out.2).trans tn) (At.new w2 (.cells #[.bool true, .slice BK 3 dk, .slice BV 3 dv, .slice BD 0 dd, .string ⟨#[]⟩, .bool false, .int .i64 0, .int .u64 0] 29))))
  clear tn
  generalize w2.alloc (.cells #[.bool true, .slice BK 3 dk, .slice BV 3 dv, .slice BD 0 dd, .string ⟨#[]⟩, .bool false, .int .i64 0, .int .u64 0] 29) = w3 at H3 ⊢
  generalize w2.heap.size = g at H3 ⊢
  have HC : Hid (∀ W, Turn No w3 W → W.cell? ⟨g, 0, none⟩ = some (.bool true) ∧ W.cell? ⟨g, 1, none⟩ = some (.slice BK 3 dk) ∧ W.cell? ⟨g, 2, none⟩ = some (.slice BV 3 dv) ∧ W.cell? ⟨g, 3, none⟩ = some (.slice BD 0 dd) ∧ W.cell? ⟨g, 4, none⟩ = some (.string ⟨#[]⟩) ∧ W.cell? ⟨g, 5, none⟩ = some (.bool false) ∧ W.cell? ⟨g, 6, none⟩ = some (.int .i64 0) ∧ W.cell? ⟨g, 7, none⟩ = some (.int .u64 0)) := Lib.hid fun W t => by
    have h := H3.out.2.2.no t
    exact ⟨h.cell 0, h.cell 1, h.cell 2, h.cell 3, h.cell 4, h.cell 5, h.cell 6, h.cell 7⟩
  obtain ⟨c0, c1, c2, c3, c4, c5, c6, c7⟩ := HC.out w3 (Turn.refl _ _)
  go_wp2_with fail
  have CF1 := CF.out w3 BK BV BD dk dv dd H3.out.1
  (with_reducible refine CF1.mono ?_)
  rintro e w4 ⟨rfl, ht⟩
  have H4 := Lib.hid ht
  clear ht CF1 CF c0 c1 c2 c3 c4 c5 c6 c7
  go_upto_region 3 with fail
  obtain ⟨c0, c1, c2, c3, c4, c5, c6, c7⟩ := HC.out w4 H4.out
  obtain ⟨b, o, hB, hc⟩ := kcs_hold (H3.out.1.v.no H4.out) (j := 1) (k := ⟨#[57]⟩) (by rfl)
  have x0 := hc w4 (Turn.refl _ _)
  have CR1 := CR.out w4 BK BV BD dk dv dd (H3.out.1.no H4.out)
  have HR1 := Lib.hid CR1
  subst hB
  clear hc CR CR1
  go_wp2_with fail
  (with_reducible refine HR1.out.mono ?_)
  rintro e w5 ⟨bb, rfl, hbb, ht⟩
  have H5 : Hid (bb = true ∧ Turn No w4 w5) := Lib.hid ⟨hbb.2 right_L2, ht⟩
  clear ht hbb
  go_wp2_with fail
  go_ret
  exact ⟨by rw [H5.out.1]; rfl, (H3.out.2.1.trans H4.out).trans H5.out.2⟩
end Go.Proofs.Ytengbkopihiiaaa
