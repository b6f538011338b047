/-
  The law LinearKnown.
-/
import Derived.Test.YtllppkfeiifklaaWKno
namespace Go.Proofs.Ytllppkfeiifklaa
open Go.RowKit Go.Lib
set_option linter.unusedVariables false
set_option maxRecDepth 20000
set_option linter.unusedSimpArgs false

theorem fit_one : Fit aOne.k ∧ Fit aOne.v := ⟨by unfold Fit; decide, by unfold Fit; decide⟩
theorem fit_full : Fit aFull.k ∧ Fit aFull.v := ⟨by unfold Fit; decide, by unfold Fit; decide⟩
/-- The law's five boxes. -/
structure K5 (w wr : World) (g1 g2 g3 g4 g5 : Nat) : Prop where
  tu : Turn No w wr
  p : At wr g1 (.cells smP.cs.toArray 34 (0, 0))
  q : At wr g2 (.cells smG.cs.toArray 34 (0, 0))
  o : At wr g3 (.cells #[.int .i64 0, .bool true, .string ⟨#[]⟩, .string ⟨#[49]⟩] 38 (0, 0))
  n : At wr g4 (.cells #[.int .i64 0, .bool false, .string ⟨#[]⟩, .string ⟨#[]⟩] 38 (0, 0))
  f : At wr g5 (.cells #[.int .i64 5, .bool false, .string ⟨#[]⟩, .string ⟨#[]⟩] 38 (0, 0))
theorem K5.no {w W W2 : World} {g1 g2 g3 g4 g5 : Nat} (h : K5 w W g1 g2 g3 g4 g5) (t : Turn No W W2) : K5 w W2 g1 g2 g3 g4 g5 := ⟨h.tu.trans t, h.p.no t, h.q.no t, h.o.no t, h.n.no t, h.f.no t⟩
theorem K5.cells {w W : World} {g1 g2 g3 g4 g5 : Nat} (h : K5 w W g1 g2 g3 g4 g5) : W.cell? ⟨g3, 0, none⟩ = some (.int .i64 0) ∧ W.cell? ⟨g3, 1, none⟩ = some (.bool true) ∧ W.cell? ⟨g3, 2, none⟩ = some (.string ⟨#[]⟩) ∧ W.cell? ⟨g3, 3, none⟩ = some (.string ⟨#[49]⟩) ∧ W.cell? ⟨g4, 0, none⟩ = some (.int .i64 0) ∧ W.cell? ⟨g4, 1, none⟩ = some (.bool false) ∧ W.cell? ⟨g4, 2, none⟩ = some (.string ⟨#[]⟩) ∧ W.cell? ⟨g4, 3, none⟩ = some (.string ⟨#[]⟩) ∧ W.cell? ⟨g5, 0, none⟩ = some (.int .i64 5) ∧ W.cell? ⟨g5, 1, none⟩ = some (.bool false) ∧ W.cell? ⟨g5, 2, none⟩ = some (.string ⟨#[]⟩) ∧ W.cell? ⟨g5, 3, none⟩ = some (.string ⟨#[]⟩) :=
  ⟨h.o.cell 0, h.o.cell 1, h.o.cell 2, h.o.cell 3, h.n.cell 0, h.n.cell 1, h.n.cell 2, h.n.cell 3, h.f.cell 0, h.f.cell 1, h.f.cell 2, h.f.cell 3⟩
theorem k5_start (w : World) : K5 w (((((w.alloc (.cells #[.int .u8 2, .string ⟨#[97]⟩, .string ⟨#[49]⟩, .string ⟨#[]⟩, .bool false, .bool false, .slice none 0 0] 34)).alloc (.cells #[.int .u8 1, .string ⟨#[97]⟩, .string ⟨#[]⟩, .string ⟨#[]⟩, .bool false, .bool false, .slice none 0 0] 34)).alloc (.cells #[.int .i64 0, .bool true, .string ⟨#[]⟩, .string ⟨#[49]⟩] 38)).alloc (.cells #[.int .i64 0, .bool false, .string ⟨#[]⟩, .string ⟨#[]⟩] 38)).alloc (.cells #[.int .i64 5, .bool false, .string ⟨#[]⟩, .string ⟨#[]⟩] 38)) w.heap.size (w.heap.size + 1) (w.heap.size + 2) (w.heap.size + 3) (w.heap.size + 4) := by
  have a : ∀ (W : World) (o : Obj), Turn No W (W.alloc o) := fun W o => (Turn.refl _ _).alloc _
  refine ⟨((((a _ _).trans (a _ _)).trans (a _ _)).trans (a _ _)).trans (a _ _), ((((At.new _ _).no (a _ _)).no (a _ _)).no (a _ _)).no (a _ _), (((At.new2 _ _ _).no (a _ _)).no (a _ _)).no (a _ _), ?_, ?_, ?_⟩
  · refine At.no (At.no ?_ (a _ _)) (a _ _)
    simpa using At.new ((w.alloc (.cells #[.int .u8 2, .string ⟨#[97]⟩, .string ⟨#[49]⟩, .string ⟨#[]⟩, .bool false, .bool false, .slice none 0 0] 34)).alloc (.cells #[.int .u8 1, .string ⟨#[97]⟩, .string ⟨#[]⟩, .string ⟨#[]⟩, .bool false, .bool false, .slice none 0 0] 34)) (.cells #[.int .i64 0, .bool true, .string ⟨#[]⟩, .string ⟨#[49]⟩] 38)
  · refine At.no ?_ (a _ _)
    simpa using At.new (((w.alloc (.cells #[.int .u8 2, .string ⟨#[97]⟩, .string ⟨#[49]⟩, .string ⟨#[]⟩, .bool false, .bool false, .slice none 0 0] 34)).alloc (.cells #[.int .u8 1, .string ⟨#[97]⟩, .string ⟨#[]⟩, .string ⟨#[]⟩, .bool false, .bool false, .slice none 0 0] 34)).alloc (.cells #[.int .i64 0, .bool true, .string ⟨#[]⟩, .string ⟨#[49]⟩] 38)) (.cells #[.int .i64 0, .bool false, .string ⟨#[]⟩, .string ⟨#[]⟩] 38)
  · simpa using At.new ((((w.alloc (.cells #[.int .u8 2, .string ⟨#[97]⟩, .string ⟨#[49]⟩, .string ⟨#[]⟩, .bool false, .bool false, .slice none 0 0] 34)).alloc (.cells #[.int .u8 1, .string ⟨#[97]⟩, .string ⟨#[]⟩, .string ⟨#[]⟩, .bool false, .bool false, .slice none 0 0] 34)).alloc (.cells #[.int .i64 0, .bool true, .string ⟨#[]⟩, .string ⟨#[49]⟩] 38)).alloc (.cells #[.int .i64 0, .bool false, .string ⟨#[]⟩, .string ⟨#[]⟩] 38)) (.cells #[.int .i64 5, .bool false, .string ⟨#[]⟩, .string ⟨#[]⟩] 38)
set_option maxRecDepth 100000 in
set_option maxHeartbeats 32000000 in
theorem lknown_law (w : World) : Calls Try.prog 7 #[] w fun e w' => e = .returned (.bool true) ∧ Turn No w w' := by
  have HK := Lib.hid (k5_start w)
  go_enter Try.func7, Try.ntmps7
  go_upto_region 6 with fail
  generalize (((((w.alloc (.cells #[.int .u8 2, .string ⟨#[97]⟩, .string ⟨#[49]⟩, .string ⟨#[]⟩, .bool false, .bool false, .slice none 0 0] 34)).alloc (.cells #[.int .u8 1, .string ⟨#[97]⟩, .string ⟨#[]⟩, .string ⟨#[]⟩, .bool false, .bool false, .slice none 0 0] 34)).alloc (.cells #[.int .i64 0, .bool true, .string ⟨#[]⟩, .string ⟨#[49]⟩] 38)).alloc (.cells #[.int .i64 0, .bool false, .string ⟨#[]⟩, .string ⟨#[]⟩] 38)).alloc (.cells #[.int .i64 5, .bool false, .string ⟨#[]⟩, .string ⟨#[]⟩] 38)) = w1 at HK ⊢
  obtain ⟨g1, h1⟩ : ∃ q, w.heap.size = q := ⟨_, rfl⟩
  rw [h1] at HK ⊢
  clear h1
  obtain ⟨g2, h1⟩ : ∃ q, g1 + 1 = q := ⟨_, rfl⟩
  obtain ⟨g3, h2⟩ : ∃ q, g1 + 2 = q := ⟨_, rfl⟩
  obtain ⟨g4, h3⟩ : ∃ q, g1 + 3 = q := ⟨_, rfl⟩
  obtain ⟨g5, h4⟩ : ∃ q, g1 + 4 = q := ⟨_, rfl⟩
  rw [h1, h2, h3, h4] at HK
  (try rw [h1]); (try rw [h2]); (try rw [h3]); (try rw [h4]); (try rw [show g2 + 1 = g3 by omega]); (try rw [show g3 + 1 = g4 by omega]); (try rw [show g4 + 1 = g5 by omega])
  clear h1 h2 h3 h4
  have a0 : w1.cell? ⟨g1, 0, none⟩ = some (.int .u8 2) := HK.out.p.cell 0
  have a1 : w1.cell? ⟨g1, 1, none⟩ = some (.string ⟨#[97]⟩) := HK.out.p.cell 1
  have a2 : w1.cell? ⟨g1, 2, none⟩ = some (.string ⟨#[49]⟩) := HK.out.p.cell 2
  have a3 : w1.cell? ⟨g1, 3, none⟩ = some (.string ⟨#[]⟩) := HK.out.p.cell 3
  have a4 : w1.cell? ⟨g1, 4, none⟩ = some (.bool false) := HK.out.p.cell 4
  have a5 : w1.cell? ⟨g1, 5, none⟩ = some (.bool false) := HK.out.p.cell 5
  have a6 : w1.cell? ⟨g1, 6, none⟩ = some (.slice none 0 0) := HK.out.p.cell 6
  have b0 : w1.cell? ⟨g2, 0, none⟩ = some (.int .u8 1) := HK.out.q.cell 0
  have b1 : w1.cell? ⟨g2, 1, none⟩ = some (.string ⟨#[97]⟩) := HK.out.q.cell 1
  have b2 : w1.cell? ⟨g2, 2, none⟩ = some (.string ⟨#[]⟩) := HK.out.q.cell 2
  have b3 : w1.cell? ⟨g2, 3, none⟩ = some (.string ⟨#[]⟩) := HK.out.q.cell 3
  have b4 : w1.cell? ⟨g2, 4, none⟩ = some (.bool false) := HK.out.q.cell 4
  have b5 : w1.cell? ⟨g2, 5, none⟩ = some (.bool false) := HK.out.q.cell 5
  have b6 : w1.cell? ⟨g2, 6, none⟩ = some (.slice none 0 0) := HK.out.q.cell 6
  have HZ : Hid (At (w1.alloc (.cells (ecs bL).toArray 40)) w1.heap.size (.cells (ecs bL).toArray 40 (0, 0)) ∧ K5 w (w1.alloc (.cells (ecs bL).toArray 40)) g1 g2 g3 g4 g5) := Lib.hid ⟨At.new _ _, HK.out.no ((Turn.refl _ _).alloc _)⟩
  have hbl : (ecs bL).toArray = #[.int .u8 1, .int .i64 1, .int .u8 2, .string ⟨#[97]⟩, .string ⟨#[49]⟩, .string ⟨#[]⟩, .bool false, .bool false, .slice none 0 0, .int .i64 0, .bool false, .string ⟨#[]⟩, .string ⟨#[]⟩, .int .u8 2, .int .i64 1, .int .u8 0, .string ⟨#[]⟩, .string ⟨#[]⟩, .string ⟨#[]⟩, .bool false, .bool false, .slice none 0 0, .int .i64 0, .bool false, .string ⟨#[]⟩, .string ⟨#[]⟩, .int .u8 3, .int .i64 1, .int .u8 0, .string ⟨#[]⟩, .string ⟨#[]⟩, .string ⟨#[]⟩, .bool false, .bool false, .slice none 0 0, .int .i64 0, .bool false, .string ⟨#[]⟩, .string ⟨#[]⟩, .int .u8 1, .int .i64 2, .int .u8 1, .string ⟨#[97]⟩, .string ⟨#[]⟩, .string ⟨#[]⟩, .bool false, .bool false, .slice none 0 0, .int .i64 0, .bool false, .string ⟨#[]⟩, .string ⟨#[]⟩, .int .u8 2, .int .i64 2, .int .u8 0, .string ⟨#[]⟩, .string ⟨#[]⟩, .string ⟨#[]⟩, .bool false, .bool false, .slice none 0 0, .int .i64 0, .bool false, .string ⟨#[]⟩, .string ⟨#[]⟩, .int .u8 3, .int .i64 2, .int .u8 0, .string ⟨#[]⟩, .string ⟨#[]⟩, .string ⟨#[]⟩, .bool false, .bool false, .slice none 0 0, .int .i64 0, .bool false, .string ⟨#[]⟩, .string ⟨#[]⟩] := by rfl
  rw [hbl] at HZ
  go_upto_region 8 with fail
  clear a0 a1 a2 a3 a4 a5 a6 b0 b1 b2 b3 b4 b5 b6 HK
  generalize w1.alloc (.cells #[.int .u8 1, .int .i64 1, .int .u8 2, .string ⟨#[97]⟩, .string ⟨#[49]⟩, .string ⟨#[]⟩, .bool false, .bool false, .slice none 0 0, .int .i64 0, .bool false, .string ⟨#[]⟩, .string ⟨#[]⟩, .int .u8 2, .int .i64 1, .int .u8 0, .string ⟨#[]⟩, .string ⟨#[]⟩, .string ⟨#[]⟩, .bool false, .bool false, .slice none 0 0, .int .i64 0, .bool false, .string ⟨#[]⟩, .string ⟨#[]⟩, .int .u8 3, .int .i64 1, .int .u8 0, .string ⟨#[]⟩, .string ⟨#[]⟩, .string ⟨#[]⟩, .bool false, .bool false, .slice none 0 0, .int .i64 0, .bool false, .string ⟨#[]⟩, .string ⟨#[]⟩, .int .u8 1, .int .i64 2, .int .u8 1, .string ⟨#[97]⟩, .string ⟨#[]⟩, .string ⟨#[]⟩, .bool false, .bool false, .slice none 0 0, .int .i64 0, .bool false, .string ⟨#[]⟩, .string ⟨#[]⟩, .int .u8 2, .int .i64 2, .int .u8 0, .string ⟨#[]⟩, .string ⟨#[]⟩, .string ⟨#[]⟩, .bool false, .bool false, .slice none 0 0, .int .i64 0, .bool false, .string ⟨#[]⟩, .string ⟨#[]⟩, .int .u8 3, .int .i64 2, .int .u8 0, .string ⟨#[]⟩, .string ⟨#[]⟩, .string ⟨#[]⟩, .bool false, .bool false, .slice none 0 0, .int .i64 0, .bool false, .string ⟨#[]⟩, .string ⟨#[]⟩] 40) = w2 at HZ ⊢
  generalize w1.heap.size = gb at HZ ⊢
  rw [← hbl] at HZ
  clear hbl
  have HBL := Lib.hid HZ.out.1
  have HK := Lib.hid HZ.out.2
  clear HZ
  have K1 : Hid (∀ W, K5 w W g1 g2 g3 g4 g5 → Calls Try.prog 24 #[.agg #[.int .i64 0, .bool false, .string ⟨#[]⟩, .string ⟨#[]⟩], .agg #[.int .i64 0, .bool true, .string ⟨#[]⟩, .string ⟨#[49]⟩], .pointer (some ⟨g1, 0, none⟩), .pointer (some ⟨g2, 0, none⟩)] W fun e w' => ∃ b, e = .returned (.slice (some ⟨b, 0, none⟩) 6 6) ∧ At w' b (.cells (ecs (kL ans00 aOne)).toArray 40 (0, 0)) ∧ Turn No W w') := Lib.hid fun W h => krow_any ans00 aOne g1 g2 W h.p h.q
  have K2 : Hid (∀ W, K5 w W g1 g2 g3 g4 g5 → Calls Try.prog 24 #[.agg #[.int .i64 0, .bool false, .string ⟨#[]⟩, .string ⟨#[]⟩], .agg #[.int .i64 0, .bool false, .string ⟨#[]⟩, .string ⟨#[]⟩], .pointer (some ⟨g1, 0, none⟩), .pointer (some ⟨g2, 0, none⟩)] W fun e w' => ∃ b, e = .returned (.slice (some ⟨b, 0, none⟩) 6 6) ∧ At w' b (.cells (ecs (kL ans00 ans00)).toArray 40 (0, 0)) ∧ Turn No W w') := Lib.hid fun W h => krow_any ans00 ans00 g1 g2 W h.p h.q
  have K3 : Hid (∀ W, K5 w W g1 g2 g3 g4 g5 → Calls Try.prog 24 #[.agg #[.int .i64 5, .bool false, .string ⟨#[]⟩, .string ⟨#[]⟩], .agg #[.int .i64 0, .bool false, .string ⟨#[]⟩, .string ⟨#[]⟩], .pointer (some ⟨g1, 0, none⟩), .pointer (some ⟨g2, 0, none⟩)] W fun e w' => ∃ b, e = .returned (.slice (some ⟨b, 0, none⟩) 6 6) ∧ At w' b (.cells (ecs (kL aFull ans00)).toArray 40 (0, 0)) ∧ Turn No W w') := Lib.hid fun W h => krow_any aFull ans00 g1 g2 W h.p h.q
  have HWT : Hid (∀ W, At W gb (.cells (ecs bL).toArray 40 (0, 0)) → Calls Try.prog 13 #[.slice (some ⟨gb, 0, none⟩) 6 6] W fun e w' => ∃ B c, e = .returned (.slice B 2 c) ∧ Turn No W w') := Lib.hid fun W h => (lwitness_any bL smW (some ⟨gb, 0, none⟩) 6 W (b_in h)).mono (by
    rintro e w' ⟨L, B, c, rfl, ho, h⟩
    rcases h with ⟨_, h⟩ | ⟨h, _⟩
    · rw [h, k_wit]; exact ⟨B, c, rfl, ho.tu⟩
    · exact absurd b_right h)
  obtain ⟨o0, o1, o2, o3, n0, n1, n2, n3, f0, f1, f2, f3⟩ := HK.out.cells
  go_wp2_with (first
    | (go_at_call 24; (first | (with_reducible refine (K1.out _ HK.out).mono ?_) | (with_reducible refine (K2.out _ HK.out).mono ?_) | (with_reducible refine (K3.out _ HK.out).mono ?_)); rintro e wa ⟨b, rfl, ha, tt⟩; have HA := Lib.hid ha; clear ha; replace HK := Lib.hid (HK.out.no tt); replace HBL := Lib.hid (HBL.out.no tt); (try (replace HX := Lib.hid (HX.out.no tt))); clear tt o0 o1 o2 o3 n0 n1 n2 n3 f0 f1 f2 f3; obtain ⟨o0, o1, o2, o3, n0, n1, n2, n3, f0, f1, f2, f3⟩ := HK.out.cells)
    | (go_at_call 11; (first | (with_reducible refine (kchk (k_right ans00 aOne) k_lin1 (k_in fit_00 fit_one HA.out) rfl).mono ?_) | (with_reducible refine (kchk (k_right ans00 ans00) k_lin2 (k_in fit_00 fit_00 HA.out) rfl).mono ?_) | (with_reducible refine (kchk (k_right aFull ans00) k_lin4 (k_in fit_full fit_00 HA.out) rfl).mono ?_) | (with_reducible refine (kchk b_right k_lin3 (b_in HBL.out) rfl).mono ?_)); rintro e wb ⟨rfl, tt⟩; replace HK := Lib.hid (HK.out.no tt); replace HBL := Lib.hid (HBL.out.no tt); (try (replace HX := Lib.hid (HX.out.no tt))); clear tt o0 o1 o2 o3 n0 n1 n2 n3 f0 f1 f2 f3; obtain ⟨o0, o1, o2, o3, n0, n1, n2, n3, f0, f1, f2, f3⟩ := HK.out.cells)
    | (go_at_call 19; (first | (with_reducible refine (ksome (b := true) ⟨fun _ => k_some, fun _ => rfl⟩ (k_in fit_00 fit_00 HA.out) rfl).mono ?_) | (with_reducible refine (ksome (b := false) ⟨fun h => absurd h (by decide), fun h => absurd h b_some⟩ (b_in HBL.out) rfl).mono ?_)); rintro e wc ⟨rfl, tt⟩; replace HK := Lib.hid (HK.out.no tt); replace HBL := Lib.hid (HBL.out.no tt); (try (replace HX := Lib.hid (HX.out.no tt))); clear tt o0 o1 o2 o3 n0 n1 n2 n3 f0 f1 f2 f3; obtain ⟨o0, o1, o2, o3, n0, n1, n2, n3, f0, f1, f2, f3⟩ := HK.out.cells)
    | (go_at_call 17; with_reducible refine (kaft (k_right ans00 aOne) k_aft1 (k_in fit_00 fit_one HA.out) rfl).mono ?_; rintro e wd ⟨BX, cX, rfl, hx, tt⟩; have HX0 := Lib.hid hx; clear hx; replace HK := Lib.hid (HK.out.no tt); replace HBL := Lib.hid (HBL.out.no tt); (try (replace HX := Lib.hid (HX.out.no tt))); clear tt o0 o1 o2 o3 n0 n1 n2 n3 f0 f1 f2 f3; obtain ⟨o0, o1, o2, o3, n0, n1, n2, n3, f0, f1, f2, f3⟩ := HK.out.cells; have HX := HX0; clear HX0)
    | (go_at_call 17; with_reducible refine (kaft (k_right aFull ans00) k_aft2 (k_in fit_full fit_00 HA.out) rfl).mono ?_; rintro e we ⟨BY, cY, rfl, hy, tt⟩; clear hy; replace HK := Lib.hid (HK.out.no tt); replace HBL := Lib.hid (HBL.out.no tt); (try (replace HX := Lib.hid (HX.out.no tt))); clear tt o0 o1 o2 o3 n0 n1 n2 n3 f0 f1 f2 f3; obtain ⟨o0, o1, o2, o3, n0, n1, n2, n3, f0, f1, f2, f3⟩ := HK.out.cells; obtain ⟨bx, ox, hBX, hbx, c0, c1⟩ := HX.out.pair (j := 0) rfl; subst hBX; clear hbx)
    | (go_at_call 13; with_reducible refine (HWT.out _ HBL.out).mono ?_; rintro e wf ⟨BZ, cZ, rfl, tt⟩; replace HK := Lib.hid (HK.out.no tt); replace HBL := Lib.hid (HBL.out.no tt); (try (replace HX := Lib.hid (HX.out.no tt))); clear tt o0 o1 o2 o3 n0 n1 n2 n3 f0 f1 f2 f3; obtain ⟨o0, o1, o2, o3, n0, n1, n2, n3, f0, f1, f2, f3⟩ := HK.out.cells)
    | (go_at_call 10; refine (wakes_any _).mono ?_; rintro e wg ⟨rfl, tt⟩; replace HK := Lib.hid (HK.out.no tt); replace HBL := Lib.hid (HBL.out.no tt); (try (replace HX := Lib.hid (HX.out.no tt))); clear tt o0 o1 o2 o3 n0 n1 n2 n3 f0 f1 f2 f3; obtain ⟨o0, o1, o2, o3, n0, n1, n2, n3, f0, f1, f2, f3⟩ := HK.out.cells))
  go_ret
  exact ⟨rfl, HK.out.tu⟩
end Go.Proofs.Ytllppkfeiifklaa
