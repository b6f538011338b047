/-
  The calls of the law BlnodeKnown.
-/
import Derived.Test.YtengbkopihiiaaaWKds
namespace Go.Proofs.Ytengbkopihiiaaa
open Go.RowKit Go.Lib
set_option linter.unusedVariables false
set_option maxRecDepth 20000
set_option linter.unusedSimpArgs false

/-- The inner node of the law, and what is made of it. -/
def ndI : Nd := ⟨false, [⟨#[109]⟩, ⟨#[115]⟩], [], [⟨1, 1⟩, ⟨2, 1⟩, ⟨3, 1⟩], ⟨#[]⟩, false, ⟨0, 0⟩⟩
def ndL3 : Nd := ⟨true, [⟨#[98]⟩, ⟨#[100]⟩], [⟨#[49]⟩, ⟨#[57]⟩], [], ⟨#[]⟩, false, ⟨0, 0⟩⟩
def ndA : Nd := ⟨false, [⟨#[109]⟩, ⟨#[112]⟩, ⟨#[115]⟩], [], [⟨1, 1⟩, ⟨2, 1⟩, ⟨7, 1⟩, ⟨3, 1⟩], ⟨#[]⟩, false, ⟨0, 0⟩⟩
def ndS1 : Nd := ⟨true, [⟨#[98]⟩], [⟨#[49]⟩], [], ⟨#[100]⟩, true, ⟨9, 1⟩⟩
def ndS2 : Nd := ⟨true, [⟨#[100]⟩], [⟨#[50]⟩], [], ⟨#[]⟩, false, ⟨0, 0⟩⟩
theorem in_ndI {w : World} {AK AV AD : Option Addr} {ck cv cd : Nat} {Z : Nat} (h : Own Z w ndI.keys ndI.vals ndI.kids AK ck AV cv AD cd) : In w ndI AK AV AD :=
  ⟨row_of_own h.k, row_of_own h.v, row_of_own h.d, fun k hk => by
    simp only [ndI, List.mem_cons, List.not_mem_nil, or_false] at hk
    rcases hk with rfl | rfl <;> exact fit_L _, fun k hk => by
    simp only [ndI, List.mem_cons, List.not_mem_nil, or_false] at hk, by first | exact fit_L _ | (unfold Fit; show (0 : Nat) ≤ _; omega), by decide, by decide, by decide⟩
theorem in_ndL3 {w : World} {AK AV AD : Option Addr} {Z : Nat} (h : Got Z w ndL3 AK AV AD) : In w ndL3 AK AV AD :=
  ⟨h.k, h.v, h.d, fun k hk => by
    simp only [ndL3, List.mem_cons, List.not_mem_nil, or_false] at hk
    rcases hk with rfl | rfl <;> exact fit_L _, fun k hk => by
    simp only [ndL3, List.mem_cons, List.not_mem_nil, or_false] at hk
    rcases hk with rfl | rfl <;> exact fit_L _, by first | exact fit_L _ | (unfold Fit; show (0 : Nat) ≤ _; omega), by decide, by decide, by decide⟩
theorem in_ndA {w : World} {AK AV AD : Option Addr} {Z : Nat} (h : Got Z w ndA AK AV AD) : In w ndA AK AV AD :=
  ⟨h.k, h.v, h.d, fun k hk => by
    simp only [ndA, List.mem_cons, List.not_mem_nil, or_false] at hk
    rcases hk with rfl | rfl | rfl <;> exact fit_L _, fun k hk => by
    simp only [ndA, List.mem_cons, List.not_mem_nil, or_false] at hk, by first | exact fit_L _ | (unfold Fit; show (0 : Nat) ≤ _; omega), by decide, by decide, by decide⟩
theorem in_ndS1 {w : World} {AK AV AD : Option Addr} {Z : Nat} (h : Got Z w ndS1 AK AV AD) : In w ndS1 AK AV AD :=
  ⟨h.k, h.v, h.d, fun k hk => by
    simp only [ndS1, List.mem_cons, List.not_mem_nil, or_false] at hk
    rcases hk with rfl <;> exact fit_L _, fun k hk => by
    simp only [ndS1, List.mem_cons, List.not_mem_nil, or_false] at hk
    rcases hk with rfl <;> exact fit_L _, by first | exact fit_L _ | (unfold Fit; show (0 : Nat) ≤ _; omega), by decide, by decide, by decide⟩
theorem in_ndS2 {w : World} {AK AV AD : Option Addr} {Z : Nat} (h : Got Z w ndS2 AK AV AD) : In w ndS2 AK AV AD :=
  ⟨h.k, h.v, h.d, fun k hk => by
    simp only [ndS2, List.mem_cons, List.not_mem_nil, or_false] at hk
    rcases hk with rfl <;> exact fit_L _, fun k hk => by
    simp only [ndS2, List.mem_cons, List.not_mem_nil, or_false] at hk
    rcases hk with rfl <;> exact fit_L _, by first | exact fit_L _ | (unfold Fit; show (0 : Nat) ≤ _; omega), by decide, by decide, by decide⟩
theorem in_LG {w : World} {AK AV AD : Option Addr} {Z : Nat} (h : Got Z w ndL AK AV AD) : In w ndL AK AV AD :=
  ⟨h.k, h.v, h.d, fun k hk => by
    simp only [ndL, List.mem_cons, List.not_mem_nil, or_false] at hk
    rcases hk with rfl | rfl <;> exact fit_L _, fun k hk => by
    simp only [ndL, List.mem_cons, List.not_mem_nil, or_false] at hk
    rcases hk with rfl | rfl <;> exact fit_L _, by first | exact fit_L _ | (unfold Fit; show (0 : Nat) ≤ _; omega), by decide, by decide, by decide⟩
theorem leaf_c (w : World) : Calls Try.prog 10 #[] w fun e w' => ∃ AK ck AV cv AD cd, e = .returned (.agg #[.bool true, .slice AK 2 ck, .slice AV 2 cv, .slice AD 0 cd, .string ⟨#[]⟩, .bool false, .int .i64 0, .int .u64 0]) ∧ In w' ndL AK AV AD ∧ Turn No w w' :=
  (leaf_any w).mono fun e w' ⟨AK, ck, AV, cv, AD, cd, h, ho, ht⟩ => ⟨AK, ck, AV, cv, AD, cd, h, in_L ho, ht⟩
theorem inner_c (w : World) : Calls Try.prog 14 #[] w fun e w' => ∃ AK ck AV cv AD cd, e = .returned (.agg #[.bool false, .slice AK 2 ck, .slice AV 0 cv, .slice AD 3 cd, .string ⟨#[]⟩, .bool false, .int .i64 0, .int .u64 0]) ∧ In w' ndI AK AV AD ∧ Turn No w w' :=
  (inner_any w).mono fun e w' ⟨AK, ck, AV, cv, AD, cd, h, ho, ht⟩ => ⟨AK, ck, AV, cv, AD, cd, h, in_ndI ho, ht⟩
theorem right_L : NdRight ndL := ⟨rk_L, fun _ => rfl, fun h => by (cases h), fun _ => ⟨rfl, rfl⟩, fun h => by (cases h)⟩
theorem right_I : NdRight ndI := ⟨by show Rk [_, _]; unfold Rk; decide, fun _ => rfl, fun h => by (cases h), fun h => by (cases h), fun _ => ⟨rfl, rfl⟩⟩
theorem find_Lc {AK AV AD : Option Addr} (ck cv cd : Nat) {w : World} (h : In w ndL AK AV AD) : Calls Try.prog 11 #[.agg #[.bool true, .slice AK 2 ck, .slice AV 2 cv, .slice AD 0 cd, .string ⟨#[]⟩, .bool false, .int .i64 0, .int .u64 0], .string ⟨#[99]⟩] w fun e w' => e = .returned (.tuple #[.int .i64 1, .bool false]) ∧ Turn No w w' := by
  have := findP true ndL.keys ndL.vals ndL.kids ndL.high ndL.bnd ndL.nx.slot ndL.nx.gen AK AV AD ck cv cd ⟨#[99]⟩ w h.k (Nat.le_trans h.lk (by decide))
  rw [show plc ndL.keys ⟨#[99]⟩ = 1 by decide, show inK ndL.keys ⟨#[99]⟩ = false by decide] at this
  exact this
theorem find_Ld {AK AV AD : Option Addr} (ck cv cd : Nat) {w : World} (h : In w ndL AK AV AD) : Calls Try.prog 11 #[.agg #[.bool true, .slice AK 2 ck, .slice AV 2 cv, .slice AD 0 cd, .string ⟨#[]⟩, .bool false, .int .i64 0, .int .u64 0], .string ⟨#[100]⟩] w fun e w' => e = .returned (.tuple #[.int .i64 1, .bool true]) ∧ Turn No w w' := by
  have := findP true ndL.keys ndL.vals ndL.kids ndL.high ndL.bnd ndL.nx.slot ndL.nx.gen AK AV AD ck cv cd ⟨#[100]⟩ w h.k (Nat.le_trans h.lk (by decide))
  rw [show plc ndL.keys ⟨#[100]⟩ = 1 by decide, show inK ndL.keys ⟨#[100]⟩ = true by decide] at this
  exact this
theorem leafR_Lx (k : ByteArray) : LeafR ndL k := ⟨right_L, rfl, fun h => by (cases h)⟩
theorem put_Ld {AK AV AD : Option Addr} (ck cv cd : Nat) {w : World} (h : In w ndL AK AV AD) : Calls Try.prog 12 #[.agg #[.bool true, .slice AK 2 ck, .slice AV 2 cv, .slice AD 0 cd, .string ⟨#[]⟩, .bool false, .int .i64 0, .int .u64 0], .string ⟨#[100]⟩, .string ⟨#[57]⟩] w fun e w' => ∃ BK dk BV dv BD dd, e = .returned (.tuple #[.agg #[.bool true, .slice BK 2 dk, .slice BV 2 dv, .slice BD 0 dd, .string ⟨#[]⟩, .bool false, .int .i64 0, .int .u64 0], .string ⟨#[50]⟩, .bool true]) ∧ In w' ndL3 BK BV BD ∧ Turn No w w' := by
  refine (put_c ndL AK AV AD ck cv cd ⟨#[100]⟩ ⟨#[57]⟩ w h (fit_L _) (fit_L _)).mono ?_
  rintro e w' ⟨m, BK, dk, BV, dv, BD, dd, old, had, rfl, hp, hg, ht⟩
  obtain ⟨h1, h2, h3⟩ := hp.1 (leafR_Lx _)
  rw [show putL (zipP ndL.keys ndL.vals) ⟨#[100]⟩ ⟨#[57]⟩ = [⟨⟨#[98]⟩, ⟨#[49]⟩⟩, ⟨⟨#[100]⟩, ⟨#[57]⟩⟩] by rfl] at h1
  rw [show getL (zipP ndL.keys ndL.vals) ⟨#[100]⟩ = some ⟨#[50]⟩ by decide] at h2 h3
  have h1 : m = ndL3 := h1
  subst h1 h2 h3
  exact ⟨BK, dk, BV, dv, BD, dd, rfl, in_ndL3 hg, ht⟩
theorem del_Lx {AK AV AD : Option Addr} (ck cv cd : Nat) {w : World} (h : In w ndL AK AV AD) : Calls Try.prog 13 #[.agg #[.bool true, .slice AK 2 ck, .slice AV 2 cv, .slice AD 0 cd, .string ⟨#[]⟩, .bool false, .int .i64 0, .int .u64 0], .string ⟨#[120]⟩] w fun e w' => ∃ BK dk BV dv BD dd old, e = .returned (.tuple #[.agg #[.bool true, .slice BK 2 dk, .slice BV 2 dv, .slice BD 0 dd, .string ⟨#[]⟩, .bool false, .int .i64 0, .int .u64 0], .string old, .bool false]) ∧ In w' ndL BK BV BD ∧ Turn No w w' := by
  refine (del_c ndL AK AV AD ck cv cd ⟨#[120]⟩ w h (fit_L _)).mono ?_
  rintro e w' ⟨m, BK, dk, BV, dv, BD, dd, old, had, rfl, hp, hg, ht⟩
  obtain ⟨h1, h2, h3⟩ := hp.1 (leafR_Lx _)
  rw [show delL (zipP ndL.keys ndL.vals) ⟨#[120]⟩ = [⟨⟨#[98]⟩, ⟨#[49]⟩⟩, ⟨⟨#[100]⟩, ⟨#[50]⟩⟩] by rfl] at h1
  rw [show getL (zipP ndL.keys ndL.vals) ⟨#[120]⟩ = none by decide] at h3
  have h1 : m = ndL := h1
  subst h1 h3
  exact ⟨BK, dk, BV, dv, BD, dd, old, rfl, in_LG hg, ht⟩
theorem kid_L {AK AV AD : Option Addr} (ck cv cd : Nat) {w : World} (h : In w ndL AK AV AD) : Calls Try.prog 15 #[.agg #[.bool true, .slice AK 2 ck, .slice AV 2 cv, .slice AD 0 cd, .string ⟨#[]⟩, .bool false, .int .i64 0, .int .u64 0], .string ⟨#[97]⟩] w fun e w' => e = .returned (.tuple #[.agg #[.int .i64 0, .int .u64 0], .bool false]) ∧ Turn No w w' :=
  kid_no ndL AK AV AD ck cv cd ⟨#[97]⟩ w h (fit_L _) (fun h => by cases h.2.1)
theorem kid_Ia {AK AV AD : Option Addr} (ck cv cd : Nat) {w : World} (h : In w ndI AK AV AD) : Calls Try.prog 15 #[.agg #[.bool false, .slice AK 2 ck, .slice AV 0 cv, .slice AD 3 cd, .string ⟨#[]⟩, .bool false, .int .i64 0, .int .u64 0], .string ⟨#[97]⟩] w fun e w' => e = .returned (.tuple #[.agg #[.int .i64 1, .int .u64 1], .bool true]) ∧ Turn No w w' :=
  kid_yes ndI AK AV AD ck cv cd ⟨#[97]⟩ w h (fit_L _) ⟨right_I, rfl, fun h => by (cases h)⟩ (hh := ⟨1, 1⟩) (by rw [show kix ndI.keys ⟨#[97]⟩ = 0 by decide]; rfl)
theorem kid_Im {AK AV AD : Option Addr} (ck cv cd : Nat) {w : World} (h : In w ndI AK AV AD) : Calls Try.prog 15 #[.agg #[.bool false, .slice AK 2 ck, .slice AV 0 cv, .slice AD 3 cd, .string ⟨#[]⟩, .bool false, .int .i64 0, .int .u64 0], .string ⟨#[109]⟩] w fun e w' => e = .returned (.tuple #[.agg #[.int .i64 2, .int .u64 1], .bool true]) ∧ Turn No w w' :=
  kid_yes ndI AK AV AD ck cv cd ⟨#[109]⟩ w h (fit_L _) ⟨right_I, rfl, fun h => by (cases h)⟩ (hh := ⟨2, 1⟩) (by rw [show kix ndI.keys ⟨#[109]⟩ = 1 by decide]; rfl)
theorem kid_Iz {AK AV AD : Option Addr} (ck cv cd : Nat) {w : World} (h : In w ndI AK AV AD) : Calls Try.prog 15 #[.agg #[.bool false, .slice AK 2 ck, .slice AV 0 cv, .slice AD 3 cd, .string ⟨#[]⟩, .bool false, .int .i64 0, .int .u64 0], .string ⟨#[122]⟩] w fun e w' => e = .returned (.tuple #[.agg #[.int .i64 3, .int .u64 1], .bool true]) ∧ Turn No w w' :=
  kid_yes ndI AK AV AD ck cv cd ⟨#[122]⟩ w h (fit_L _) ⟨right_I, rfl, fun h => by (cases h)⟩ (hh := ⟨3, 1⟩) (by rw [show kix ndI.keys ⟨#[122]⟩ = 2 by decide]; rfl)
theorem add_I {AK AV AD : Option Addr} (ck cv cd : Nat) {w : World} (h : In w ndI AK AV AD) : Calls Try.prog 16 #[.agg #[.bool false, .slice AK 2 ck, .slice AV 0 cv, .slice AD 3 cd, .string ⟨#[]⟩, .bool false, .int .i64 0, .int .u64 0], .string ⟨#[112]⟩, .agg #[.int .i64 7, .int .u64 1]] w fun e w' => ∃ BK dk BV dv BD dd, e = .returned (.agg #[.bool false, .slice BK 3 dk, .slice BV 0 dv, .slice BD 4 dd, .string ⟨#[]⟩, .bool false, .int .i64 0, .int .u64 0]) ∧ In w' ndA BK BV BD ∧ Turn No w w' := by
  refine (add_c ndI AK AV AD ck cv cd ⟨#[112]⟩ ⟨7, 1⟩ w h (fit_L _)).mono ?_
  rintro e w' ⟨m, BK, dk, BV, dv, BD, dd, rfl, hp, hg, ht⟩
  have h1 := hp.1 ⟨right_I, rfl, fun h => by (cases h), inK_no.1 (by decide)⟩
  rw [show plc ndI.keys ⟨#[112]⟩ = 1 by decide] at h1
  have h1 : m = ndA := h1
  subst h1
  exact ⟨BK, dk, BV, dv, BD, dd, rfl, in_ndA hg, ht⟩
theorem split_Lw {AK AV AD : Option Addr} (ck cv cd : Nat) {w : World} (h : In w ndL AK AV AD) : Calls Try.prog 17 #[.agg #[.bool true, .slice AK 2 ck, .slice AV 2 cv, .slice AD 0 cd, .string ⟨#[]⟩, .bool false, .int .i64 0, .int .u64 0], .agg #[.int .i64 9, .int .u64 1]] w fun e w' => ∃ BK dk BV dv BD dd EK ek EV ev ED ed, e = .returned (.tuple #[.agg #[.bool true, .slice BK 1 dk, .slice BV 1 dv, .slice BD 0 dd, .string ⟨#[100]⟩, .bool true, .int .i64 9, .int .u64 1], .agg #[.bool true, .slice EK 1 ek, .slice EV 1 ev, .slice ED 0 ed, .string ⟨#[]⟩, .bool false, .int .i64 0, .int .u64 0], .string ⟨#[100]⟩]) ∧ In w' ndS1 BK BV BD ∧ In w' ndS2 EK EV ED ∧ Turn No w w' := by
  refine (split_c ndL AK AV AD ck cv cd ⟨9, 1⟩ w h).mono ?_
  rintro e w' ⟨l, r, sep, BK, dk, BV, dv, BD, dd, EK, ek, EV, ev, ED, ed, rfl, hs, hg, hg2, _, ht⟩
  obtain ⟨h1, h2, h3⟩ := hs.1 ⟨right_L, fun _ => by decide, fun h => by (cases h)⟩
  have h1 : some ⟨#[100]⟩ = some sep := h1
  injection h1 with h1
  have h2 : l = ndS1 := h2
  have h3 : r = ndS2 := h3
  subst h1 h2 h3
  exact ⟨BK, dk, BV, dv, BD, dd, EK, ek, EV, ev, ED, ed, rfl, in_ndS1 hg, in_ndS2 hg2, ht⟩
theorem same_c (K : List ByteArray) (A C : Option Addr) (ck cc : Nat) (w : World) (h1 : Row w A (kcs K)) (h2 : Row w C (kcs K)) (n1 : K.length ≤ 100000) : Calls Try.prog 19 #[.slice A K.length ck, .slice C K.length cc] w fun e w' => e = .returned (.bool true) ∧ Turn No w w' := by
  refine (sameS_any K K A C ck cc w h1 h2 n1).mono ?_
  rintro e w' ⟨b, rfl, hb, ht⟩
  exact ⟨by rw [hb.2 rfl], ht⟩
theorem eq_L {AK AV AD BK BV BD : Option Addr} (ck cv cd dk dv dd : Nat) {w : World} (h : In w ndL AK AV AD) (g : In w ndL BK BV BD) : Calls Try.prog 18 #[.agg #[.bool true, .slice AK 2 ck, .slice AV 2 cv, .slice AD 0 cd, .string ⟨#[]⟩, .bool false, .int .i64 0, .int .u64 0], .agg #[.bool true, .slice BK 2 dk, .slice BV 2 dv, .slice BD 0 dd, .string ⟨#[]⟩, .bool false, .int .i64 0, .int .u64 0]] w fun e w' => e = .returned (.bool true) ∧ Turn No w w' :=
  eq_yes ndL AK AV AD BK BV BD ck cv cd dk dv dd w h.k h.v h.d g.k g.v g.d (by decide) (by decide) (by decide)
theorem lit3 (w : World) : Row (w.alloc (.cells #[.string ⟨#[109]⟩, .string ⟨#[112]⟩, .string ⟨#[115]⟩] 9)) (some ⟨w.heap.size, 0, none⟩) (kcs [⟨#[109]⟩, ⟨#[112]⟩, ⟨#[115]⟩]) := by
  have o := World.ownsRow_lit (base := w.heap.size) (e := 9) (size := 1) w #[.string ⟨#[109]⟩, .string ⟨#[112]⟩, .string ⟨#[115]⟩] 3 (Nat.le_refl _) (by decide) (by rfl)
  exact row_of_own o
theorem lit1 (w : World) : Row (w.alloc (.cells #[.string ⟨#[100]⟩] 9)) (some ⟨w.heap.size, 0, none⟩) (kcs [⟨#[100]⟩]) := by
  have o := World.ownsRow_lit (base := w.heap.size) (e := 9) (size := 1) w #[.string ⟨#[100]⟩] 1 (Nat.le_refl _) (by decide) (by rfl)
  exact row_of_own o
theorem same3 {A : Option Addr} (c : Nat) {w : World} (h : Row w A (kcs ndA.keys)) : Calls Try.prog 19 #[.slice A 3 c, .slice (some ⟨w.heap.size, 0, none⟩) 3 3] (w.alloc (.cells #[.string ⟨#[109]⟩, .string ⟨#[112]⟩, .string ⟨#[115]⟩] 9)) fun e w' => e = .returned (.bool true) ∧ Turn No w w' :=
  (same_c [⟨#[109]⟩, ⟨#[112]⟩, ⟨#[115]⟩] A _ c 3 _ (h.no ((Turn.refl No w).alloc _)) (lit3 w) (by decide)).mono fun e w' ⟨h, t⟩ => ⟨h, ((Turn.refl No w).alloc _).trans t⟩
theorem same1 {A : Option Addr} (c : Nat) {w : World} (h : Row w A (kcs ndS2.keys)) : Calls Try.prog 19 #[.slice A 1 c, .slice (some ⟨w.heap.size, 0, none⟩) 1 1] (w.alloc (.cells #[.string ⟨#[100]⟩] 9)) fun e w' => e = .returned (.bool true) ∧ Turn No w w' :=
  (same_c [⟨#[100]⟩] A _ c 1 _ (h.no ((Turn.refl No w).alloc _)) (lit1 w) (by decide)).mono fun e w' ⟨h, t⟩ => ⟨h, ((Turn.refl No w).alloc _).trans t⟩
end Go.Proofs.Ytengbkopihiiaaa
