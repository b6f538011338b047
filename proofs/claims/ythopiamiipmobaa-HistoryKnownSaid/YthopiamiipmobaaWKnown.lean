/-
  HistoryKnown: its walk.
-/
import Derived.Test.YthopiamiipmobaaKnB
namespace Go.Proofs.Ythopiamiipmobaa
open Go.RowKit Go.Lib
set_option linter.unusedVariables false
set_option linter.unusedSimpArgs false

/-- The two boxes and the row. -/
structure K0 (w0 w : World) (g1 g2 lb : Nat) : Prop where
  tu : Turn No w0 w
  b1 : At w g1 (.cells #[.int .u8 1, .string ⟨#[107]⟩, .string ⟨#[]⟩, .string ⟨#[]⟩, .bool false, .bool false, .slice none 0 0] 29 (0, 0))
  b2 : At w g2 (.cells #[.int .i64 0, .bool true, .string ⟨#[]⟩, .string ⟨#[49]⟩] 32 (0, 0))
  row : At w lb (.cells #[.int .u8 1, .int .i64 1, .int .u8 1, .string ⟨#[107]⟩, .string ⟨#[]⟩, .string ⟨#[]⟩, .bool false, .bool false, .slice none 0 0, .int .i64 0, .bool false, .string ⟨#[]⟩, .string ⟨#[]⟩, .int .u8 2, .int .i64 1, .int .u8 0, .string ⟨#[]⟩, .string ⟨#[]⟩, .string ⟨#[]⟩, .bool false, .bool false, .slice none 0 0, .int .i64 0, .bool true, .string ⟨#[]⟩, .string ⟨#[49]⟩, .int .u8 1, .int .i64 2, .int .u8 0, .string ⟨#[]⟩, .string ⟨#[]⟩, .string ⟨#[]⟩, .bool false, .bool false, .slice none 0 0, .int .i64 0, .bool false, .string ⟨#[]⟩, .string ⟨#[]⟩, .int .u8 3, .int .i64 1, .int .u8 0, .string ⟨#[]⟩, .string ⟨#[]⟩, .string ⟨#[]⟩, .bool false, .bool false, .slice none 0 0, .int .i64 0, .bool true, .string ⟨#[]⟩, .string ⟨#[49]⟩, .int .u8 2, .int .i64 2, .int .u8 0, .string ⟨#[]⟩, .string ⟨#[]⟩, .string ⟨#[]⟩, .bool false, .bool false, .slice none 0 0, .int .i64 0, .bool false, .string ⟨#[]⟩, .string ⟨#[]⟩] 34 (0, 0))
theorem K0.no {w0 w w2 : World} {g1 g2 lb : Nat} (h : K0 w0 w g1 g2 lb) (t : Turn No w w2) : K0 w0 w2 g1 g2 lb := ⟨h.tu.trans t, h.b1.no t, h.b2.no t, h.row.no t⟩
theorem K0.read {w0 w : World} {g1 g2 lb : Nat} (h : K0 w0 w g1 g2 lb) : Row w (some ⟨lb, 0, none⟩) (ecs KL) := row_of_at (by rw [KL_cells]; exact h.row)

theorem kb_of {w0 w : World} {g1 g2 lb : Nat} (h : K0 w0 w g1 g2 lb) : Kb w g1 g2 lb := ⟨h.b1, h.b2, by rw [KL_cells]; exact h.row⟩
set_option maxHeartbeats 8000000 in
set_option maxRecDepth 100000 in
theorem known_law (w : World) : Calls Try.prog 7 #[] w fun r w' => r = .returned (.bool true) ∧ Turn No w w' := by
  have CW := Lib.hid wakes_any
  have H0 : Hid (K0 w (((w.alloc (.cells #[.int .u8 1, .string ⟨#[107]⟩, .string ⟨#[]⟩, .string ⟨#[]⟩, .bool false, .bool false, .slice none 0 0] 29)).alloc (.cells #[.int .i64 0, .bool true, .string ⟨#[]⟩, .string ⟨#[49]⟩] 32)).alloc (.cells #[.int .u8 1, .int .i64 1, .int .u8 1, .string ⟨#[107]⟩, .string ⟨#[]⟩, .string ⟨#[]⟩, .bool false, .bool false, .slice none 0 0, .int .i64 0, .bool false, .string ⟨#[]⟩, .string ⟨#[]⟩, .int .u8 2, .int .i64 1, .int .u8 0, .string ⟨#[]⟩, .string ⟨#[]⟩, .string ⟨#[]⟩, .bool false, .bool false, .slice none 0 0, .int .i64 0, .bool true, .string ⟨#[]⟩, .string ⟨#[49]⟩, .int .u8 1, .int .i64 2, .int .u8 0, .string ⟨#[]⟩, .string ⟨#[]⟩, .string ⟨#[]⟩, .bool false, .bool false, .slice none 0 0, .int .i64 0, .bool false, .string ⟨#[]⟩, .string ⟨#[]⟩, .int .u8 3, .int .i64 1, .int .u8 0, .string ⟨#[]⟩, .string ⟨#[]⟩, .string ⟨#[]⟩, .bool false, .bool false, .slice none 0 0, .int .i64 0, .bool true, .string ⟨#[]⟩, .string ⟨#[49]⟩, .int .u8 2, .int .i64 2, .int .u8 0, .string ⟨#[]⟩, .string ⟨#[]⟩, .string ⟨#[]⟩, .bool false, .bool false, .slice none 0 0, .int .i64 0, .bool false, .string ⟨#[]⟩, .string ⟨#[]⟩] 34)) w.heap.size (w.heap.size + 1) (w.heap.size + 1 + 1)) := Lib.hid
    ⟨(((Turn.refl _ _).alloc _).alloc _).alloc _, (At.new _ _).no (((Turn.refl _ _).alloc _).alloc _), (by simpa using At.new (w.alloc (.cells #[.int .u8 1, .string ⟨#[107]⟩, .string ⟨#[]⟩, .string ⟨#[]⟩, .bool false, .bool false, .slice none 0 0] 29)) (.cells #[.int .i64 0, .bool true, .string ⟨#[]⟩, .string ⟨#[49]⟩] 32) : At ((w.alloc (.cells #[.int .u8 1, .string ⟨#[107]⟩, .string ⟨#[]⟩, .string ⟨#[]⟩, .bool false, .bool false, .slice none 0 0] 29)).alloc (.cells #[.int .i64 0, .bool true, .string ⟨#[]⟩, .string ⟨#[49]⟩] 32)) (w.heap.size + 1) (.cells #[.int .i64 0, .bool true, .string ⟨#[]⟩, .string ⟨#[49]⟩] 32 (0, 0))).no ((Turn.refl _ _).alloc _), by simpa using At.new ((w.alloc (.cells #[.int .u8 1, .string ⟨#[107]⟩, .string ⟨#[]⟩, .string ⟨#[]⟩, .bool false, .bool false, .slice none 0 0] 29)).alloc (.cells #[.int .i64 0, .bool true, .string ⟨#[]⟩, .string ⟨#[49]⟩] 32)) (.cells #[.int .u8 1, .int .i64 1, .int .u8 1, .string ⟨#[107]⟩, .string ⟨#[]⟩, .string ⟨#[]⟩, .bool false, .bool false, .slice none 0 0, .int .i64 0, .bool false, .string ⟨#[]⟩, .string ⟨#[]⟩, .int .u8 2, .int .i64 1, .int .u8 0, .string ⟨#[]⟩, .string ⟨#[]⟩, .string ⟨#[]⟩, .bool false, .bool false, .slice none 0 0, .int .i64 0, .bool true, .string ⟨#[]⟩, .string ⟨#[49]⟩, .int .u8 1, .int .i64 2, .int .u8 0, .string ⟨#[]⟩, .string ⟨#[]⟩, .string ⟨#[]⟩, .bool false, .bool false, .slice none 0 0, .int .i64 0, .bool false, .string ⟨#[]⟩, .string ⟨#[]⟩, .int .u8 3, .int .i64 1, .int .u8 0, .string ⟨#[]⟩, .string ⟨#[]⟩, .string ⟨#[]⟩, .bool false, .bool false, .slice none 0 0, .int .i64 0, .bool true, .string ⟨#[]⟩, .string ⟨#[49]⟩, .int .u8 2, .int .i64 2, .int .u8 0, .string ⟨#[]⟩, .string ⟨#[]⟩, .string ⟨#[]⟩, .bool false, .bool false, .slice none 0 0, .int .i64 0, .bool false, .string ⟨#[]⟩, .string ⟨#[]⟩] 34)⟩
  go_enter Try.func7, Try.ntmps7
  go_upto_region 4 with fail
  generalize (((w.alloc (.cells #[.int .u8 1, .string ⟨#[107]⟩, .string ⟨#[]⟩, .string ⟨#[]⟩, .bool false, .bool false, .slice none 0 0] 29)).alloc (.cells #[.int .i64 0, .bool true, .string ⟨#[]⟩, .string ⟨#[49]⟩] 32)).alloc (.cells #[.int .u8 1, .int .i64 1, .int .u8 1, .string ⟨#[107]⟩, .string ⟨#[]⟩, .string ⟨#[]⟩, .bool false, .bool false, .slice none 0 0, .int .i64 0, .bool false, .string ⟨#[]⟩, .string ⟨#[]⟩, .int .u8 2, .int .i64 1, .int .u8 0, .string ⟨#[]⟩, .string ⟨#[]⟩, .string ⟨#[]⟩, .bool false, .bool false, .slice none 0 0, .int .i64 0, .bool true, .string ⟨#[]⟩, .string ⟨#[49]⟩, .int .u8 1, .int .i64 2, .int .u8 0, .string ⟨#[]⟩, .string ⟨#[]⟩, .string ⟨#[]⟩, .bool false, .bool false, .slice none 0 0, .int .i64 0, .bool false, .string ⟨#[]⟩, .string ⟨#[]⟩, .int .u8 3, .int .i64 1, .int .u8 0, .string ⟨#[]⟩, .string ⟨#[]⟩, .string ⟨#[]⟩, .bool false, .bool false, .slice none 0 0, .int .i64 0, .bool true, .string ⟨#[]⟩, .string ⟨#[49]⟩, .int .u8 2, .int .i64 2, .int .u8 0, .string ⟨#[]⟩, .string ⟨#[]⟩, .string ⟨#[]⟩, .bool false, .bool false, .slice none 0 0, .int .i64 0, .bool false, .string ⟨#[]⟩, .string ⟨#[]⟩] 34)) = w3 at H0 ⊢
  obtain ⟨g1, hg1⟩ : ∃ g, w.heap.size = g := ⟨_, rfl⟩
  obtain ⟨g2, hg2⟩ : ∃ g, g1 + 1 = g := ⟨_, rfl⟩
  obtain ⟨lb, hlb⟩ : ∃ g, g2 + 1 = g := ⟨_, rfl⟩
  rw [hg1, hg2, hlb] at H0
  rw [hg1, hg2, hlb]
  clear hg1 hg2 hlb
  have C18 : Hid (Calls Try.prog 18 #[.slice (some ⟨lb, 0, none⟩) 5 5] w3 fun r w' => r = .returned (.tuple #[.int .i64 (-1), .int .i64 0]) ∧ Turn No w3 w') := Lib.hid (by
    refine (check_any KL _ 5 w3 H0.out.read (fun e he => (KL_fit e he).1.id) (by decide)).mono ?_
    rintro e w' ⟨a, c, rfl, hc, ht⟩
    obtain ⟨rfl, rfl⟩ := hc.of_right KL_right
    exact ⟨rfl, ht⟩)
  go_upto_region 5 with (go_at_call 18; refine C18.out.mono ?_; rintro e w4 ⟨rfl, ht⟩; have H1 := Lib.hid (H0.out.no ht); clear ht)
  clear C18 H0
  have C23 : Hid (Calls Try.prog 23 #[.slice (some ⟨lb, 0, none⟩) 5 5] w4 fun r w' => ∃ B c, r = .returned (.slice B 2 c) ∧ Ints w4 w' [1, 2] B c) := Lib.hid (by
    have := marks_any KL (some ⟨lb, 0, none⟩) 5 w4 H1.out.read (by decide)
    rwa [KL_marks] at this)
  go_upto_region 6 with (go_at_call 23; refine C23.out.mono ?_; rintro e w5 ⟨B, c, rfl, hi⟩; have H2 := Lib.hid (And.intro (H1.out.no hi.tu) (row_of_own hi.row)); clear hi)
  clear C23 H1
  obtain ⟨rb, ro, hB, _, hm0⟩ := H2.out.2 0 (.int .i64 1) rfl
  subst hB
  have C20 : Hid (Calls Try.prog 20 #[.slice (some ⟨lb, 0, none⟩) 5 5, .int .i64 1] w5 fun r w' => ∃ A1 c1, r = .returned (.tuple #[.agg #[.int .u8 1, .string ⟨#[107]⟩, .string ⟨#[]⟩, .string ⟨#[]⟩, .bool false, .bool false, .slice A1 0 c1], .agg #[.int .i64 0, .bool true, .string ⟨#[]⟩, .string ⟨#[49]⟩], .int .i64 3]) ∧ Turn No w5 w') := Lib.hid (by
    refine (state_any 1 KL (KL.map fun _ => []) (some ⟨lb, 0, none⟩) 5 w5 H2.out.1.read (rws_none KL_fit) (by decide)).mono ?_
    rintro e w' ⟨⟨ok', k', v', o', had', aft', A1, len', c1⟩, rfl, ht, hp, hr⟩
    rw [KL_o] at hp
    simp only [Opx.pure, opk, Opx.mk.injEq] at hp
    obtain ⟨rfl, rfl, rfl, rfl, rfl, rfl, _, rfl, _⟩ := hp
    refine ⟨A1, c1, ?_, ht⟩
    rw [KL_a, KL_n]
    rfl)
  go_upto_region 7 with (go_at_call 20; refine C20.out.mono ?_; rintro e w6 ⟨A1, c1, rfl, ht⟩; have H3 := Lib.hid (And.intro (H2.out.1.no ht) (H2.out.2.turn ht fun _ _ _ h => h)); clear ht)
  clear C20 hm0
  have t7 : Turn No w6 ((w6.alloc (.cells #[.int .u8 1, .string ⟨#[107]⟩, .string ⟨#[]⟩, .string ⟨#[]⟩, .bool false, .bool false, .slice A1 0 c1] 29)).alloc (.cells #[.int .i64 0, .bool true, .string ⟨#[]⟩, .string ⟨#[49]⟩] 32)) := ((Turn.refl _ _).alloc _).alloc _
  have H4 : Hid (K0 w ((w6.alloc (.cells #[.int .u8 1, .string ⟨#[107]⟩, .string ⟨#[]⟩, .string ⟨#[]⟩, .bool false, .bool false, .slice A1 0 c1] 29)).alloc (.cells #[.int .i64 0, .bool true, .string ⟨#[]⟩, .string ⟨#[49]⟩] 32)) g1 g2 lb ∧ Row ((w6.alloc (.cells #[.int .u8 1, .string ⟨#[107]⟩, .string ⟨#[]⟩, .string ⟨#[]⟩, .bool false, .bool false, .slice A1 0 c1] 29)).alloc (.cells #[.int .i64 0, .bool true, .string ⟨#[]⟩, .string ⟨#[49]⟩] 32)) (some ⟨rb, ro, none⟩) (ics [1, 2]) ∧ At ((w6.alloc (.cells #[.int .u8 1, .string ⟨#[107]⟩, .string ⟨#[]⟩, .string ⟨#[]⟩, .bool false, .bool false, .slice A1 0 c1] 29)).alloc (.cells #[.int .i64 0, .bool true, .string ⟨#[]⟩, .string ⟨#[49]⟩] 32)) w6.heap.size (.cells #[.int .u8 1, .string ⟨#[107]⟩, .string ⟨#[]⟩, .string ⟨#[]⟩, .bool false, .bool false, .slice A1 0 c1] 29 (0, 0)) ∧ At ((w6.alloc (.cells #[.int .u8 1, .string ⟨#[107]⟩, .string ⟨#[]⟩, .string ⟨#[]⟩, .bool false, .bool false, .slice A1 0 c1] 29)).alloc (.cells #[.int .i64 0, .bool true, .string ⟨#[]⟩, .string ⟨#[49]⟩] 32)) (w6.heap.size + 1) (.cells #[.int .i64 0, .bool true, .string ⟨#[]⟩, .string ⟨#[49]⟩] 32 (0, 0))) := Lib.hid
    ⟨H3.out.1.no t7, H3.out.2.turn t7 (fun _ _ _ h => h), (At.new _ _).no ((Turn.refl _ _).alloc _), by simpa using At.new (w6.alloc (.cells #[.int .u8 1, .string ⟨#[107]⟩, .string ⟨#[]⟩, .string ⟨#[]⟩, .bool false, .bool false, .slice A1 0 c1] 29)) (.cells #[.int .i64 0, .bool true, .string ⟨#[]⟩, .string ⟨#[49]⟩] 32)⟩
  clear t7 H3 H2
  generalize (w6.alloc (.cells #[.int .u8 1, .string ⟨#[107]⟩, .string ⟨#[]⟩, .string ⟨#[]⟩, .bool false, .bool false, .slice A1 0 c1] 29)).alloc (.cells #[.int .i64 0, .bool true, .string ⟨#[]⟩, .string ⟨#[49]⟩] 32) = w7 at H4 ⊢
  obtain ⟨g7, hg7⟩ : ∃ g, w6.heap.size = g := ⟨_, rfl⟩
  obtain ⟨g8, hg8⟩ : ∃ g, g7 + 1 = g := ⟨_, rfl⟩
  rw [hg7, hg8] at H4
  rw [hg7, hg8]
  clear hg7 hg8
  go_cut [10] from 42 to 83 (fun s wx => s = .bool true ∧ Hid (Turn No w7 wx))
  case first =>
    have C26 : Hid (∀ W, Turn No w7 W → Calls Try.prog 26 #[.slice (some ⟨lb, 0, none⟩) 5 5, .int .i64 1, .int .i64 2] W fun r w' => r = .returned (.bool false) ∧ Turn No W w') := Lib.hid fun W t => by
      have := ahead_any 1 2 KL (some ⟨lb, 0, none⟩) 5 W (H4.out.1.no t).read (by decide) (by decide)
      rw [KL_ahead] at this
      exact this
    obtain ⟨b1, o1, e1, _, m0⟩ := H4.out.2.1 0 (.int .i64 1) rfl
    obtain ⟨b2, o2, e2, _, m1⟩ := H4.out.2.1 1 (.int .i64 2) rfl
    injection e1 with e1
    injection e1 with e1 e3
    subst e1 e3
    injection e2 with e2
    injection e2 with e2 e4
    subst e2 e4
    have y1 := H4.out.2.2.1.cell 1
    have z0 := H4.out.2.2.2.cell 0
    have z1 := H4.out.2.2.2.cell 1
    have z2 := H4.out.2.2.2.cell 2
    have z3 := H4.out.2.2.2.cell 3
    have u0 := H4.out.1.b2.cell 0
    have u1 := H4.out.1.b2.cell 1
    have u2 := H4.out.1.b2.cell 2
    have u3 := H4.out.1.b2.cell 3
    simp at y1 z0 z1 z2 z3 u0 u1 u2 u3 m0
    have q32 : ∀ w : World, (binOp .eql 32 (.agg #[.int .i64 0, .bool true, .string ⟨#[]⟩, .string ⟨#[49]⟩]) (.agg #[.int .i64 0, .bool true, .string ⟨#[]⟩, .string ⟨#[49]⟩])).run Try.prog w = .ok (.bool true) w := fun w => by rw [eql_ans]; simp
    go_wp2_with (go_at_call 26; refine (C26.out _ (Turn.refl _ _)).mono ?_; rintro e w8 ⟨rfl, ht⟩)
    go_meet
    exact ⟨rfl, Lib.hid ht⟩
  case rest =>
    obtain ⟨rfl, HT⟩ := hcut
    have H5 := Lib.hid (H4.out.1.no HT.out)
    clear H4 HT
    generalize wc = w8 at H5 ⊢
    go_upto_region 8 with fail
    go_cut [11] from 84 to 119 (fun s wx => ∃ b0 b1 b2 b3 b4 b5 b6 b7 rk, s = .slice (some ⟨rk, 0, none⟩) 8 8 ∧ Hid (K0 w wx g1 g2 lb ∧ (At wx b0 (.cells (ecs kr0).toArray 34 (0, 0)) ∧ At wx b1 (.cells (ecs kr1).toArray 34 (0, 0)) ∧ At wx b2 (.cells (ecs kr2).toArray 34 (0, 0)) ∧ At wx b3 (.cells (ecs kr3).toArray 34 (0, 0)) ∧ At wx b4 (.cells (ecs kr4).toArray 34 (0, 0)) ∧ At wx b5 (.cells (ecs kr5).toArray 34 (0, 0)) ∧ At wx b6 (.cells (ecs kr6).toArray 34 (0, 0)) ∧ At wx b7 (.cells (ecs kr7).toArray 34 (0, 0))) ∧ At wx rk (.cells (k8c b0 b1 b2 b3 b4 b5 b6 b7) 54 (0, 0))))
    case first =>
      show Code.wp Try.prog _ _ (F8 _ _ _ _ _ _ _ _ _ _ _ _ _ _ _ _ _ _ _ _ _ _ _ _ _ _ _ _ _ _ _ _ _ _ _ _ _ _ _ _ _ _ _ _ _ _ _ _ _ _ _ _ _ _ _ _ _ _ _ _ _ _ _ _ _ _ _ _ _ _ _ _ _ _ g1 g2 lb (fun _ => undef)) _
      refine reg8 (kb_of H5.out) _ ?_ (fun _ => undef) (fun vs wx t hg => ?_)
      rfl
      obtain ⟨b0, b1, b2, b3, b4, b5, b6, b7, rk, hv, a0, a1, a2, a3, a4, a5, a6, a7, a8⟩ := (show G8r wx (vs 36) from hg)
      dsimp only [F8]
      rw [hv]
      go_wp2_with fail
      go_meet
      exact ⟨b0, b1, b2, b3, b4, b5, b6, b7, rk, rfl, Lib.hid ⟨H5.out.no t, ⟨a0, a1, a2, a3, a4, a5, a6, a7⟩, a8⟩⟩
    case rest =>
      obtain ⟨b0, b1, b2, b3, b4, b5, b6, b7, rk, rfl, HK⟩ := hcut
      clear H5
      go_wp2_with fail
      go_loopw [12] (fun x wr => ∃ j : Nat, j ≤ 8 ∧ x = .int .i64 (j : Int) ∧ Hid (K0 w wr g1 g2 lb ∧ (At wr b0 (.cells (ecs kr0).toArray 34 (0, 0)) ∧ At wr b1 (.cells (ecs kr1).toArray 34 (0, 0)) ∧ At wr b2 (.cells (ecs kr2).toArray 34 (0, 0)) ∧ At wr b3 (.cells (ecs kr3).toArray 34 (0, 0)) ∧ At wr b4 (.cells (ecs kr4).toArray 34 (0, 0)) ∧ At wr b5 (.cells (ecs kr5).toArray 34 (0, 0)) ∧ At wr b6 (.cells (ecs kr6).toArray 34 (0, 0)) ∧ At wr b7 (.cells (ecs kr7).toArray 34 (0, 0))) ∧ At wr rk (.cells (k8c b0 b1 b2 b3 b4 b5 b6 b7) 54 (0, 0)))) (fun x _ => 8 - (RowKit.intOf x).toNat)
      case atStart => exact ⟨0, by decide, rfl, HK⟩
      case round =>
        obtain ⟨j, hj8, rfl, HP⟩ := hrel
        clear HK
        by_cases hlt : j < 8
        · obtain ⟨b, l, n, x0, x1, hat, hbad, hid, hll, hn5⟩ := kj_of HP.out.2.1 HP.out.2.2 j hlt
          have C := Lib.hid (kr_chk hbad hid hll hat)
          have hcell : Hid (∀ W, Turn No wr W → W.cell? ⟨rk, j * 2 + 1, none⟩ = some (.int .i64 (n : Int))) := Lib.hid fun W t => by
            have h1 := (HP.out.2.2.no t).cell (j * 2 + 1)
            have h2 := HP.out.2.2.cell (j * 2 + 1)
            rw [h1, ← h2]
            exact x1
          have hq1 : (0 : Int) ≤ (j : Int) := by omega
          have hq2 : (j : Int) < 8 := by omega
          have qv : ((n : Int) != (n : Int)) = false := by simp
          clear hbad hid hat hll x1
          go_wp2_with (go_at_call 18; (with_reducible refine C.out.mono ?_); rintro e w9 ⟨rfl, ht⟩; have H9 : Hid (K0 w w9 g1 g2 lb ∧ (At w9 b0 (.cells (ecs kr0).toArray 34 (0, 0)) ∧ At w9 b1 (.cells (ecs kr1).toArray 34 (0, 0)) ∧ At w9 b2 (.cells (ecs kr2).toArray 34 (0, 0)) ∧ At w9 b3 (.cells (ecs kr3).toArray 34 (0, 0)) ∧ At w9 b4 (.cells (ecs kr4).toArray 34 (0, 0)) ∧ At w9 b5 (.cells (ecs kr5).toArray 34 (0, 0)) ∧ At w9 b6 (.cells (ecs kr6).toArray 34 (0, 0)) ∧ At w9 b7 (.cells (ecs kr7).toArray 34 (0, 0))) ∧ At w9 rk (.cells (k8c b0 b1 b2 b3 b4 b5 b6 b7) 54 (0, 0))) := Lib.hid ⟨HP.out.1.no ht, ⟨HP.out.2.1.1.no ht, HP.out.2.1.2.1.no ht, HP.out.2.1.2.2.1.no ht, HP.out.2.1.2.2.2.1.no ht, HP.out.2.1.2.2.2.2.1.no ht, HP.out.2.1.2.2.2.2.2.1.no ht, HP.out.2.1.2.2.2.2.2.2.1.no ht, HP.out.2.1.2.2.2.2.2.2.2.no ht⟩, HP.out.2.2.no ht⟩; have x1 := hcell.out _ ht; clear ht)
          exact ⟨⟨j + 1, by omega, by go_num, H9⟩, by simp [RowKit.intOf]; omega⟩
        · obtain rfl : j = 8 := by omega
          have H6 := Lib.hid HP.out.1
          clear HP
          have C20 : Hid (Calls Try.prog 20 #[.slice (some ⟨lb, 0, none⟩) 5 5, .int .i64 3] wr fun r w' => ∃ (o : Opx), r = .returned (.tuple #[o.val, .agg #[.int .i64 0, .bool false, .string ⟨#[]⟩, .string ⟨#[]⟩], .int .i64 0]) ∧ Turn No wr w') := Lib.hid (by
            refine (state_any 3 KL (KL.map fun _ => []) (some ⟨lb, 0, none⟩) 5 wr H6.out.read (rws_none KL_fit) (by decide)).mono ?_
            rintro e w' ⟨o, rfl, ht, hp, hr⟩
            refine ⟨o, ?_, ht⟩
            rw [KL_a3, KL_n3]
            rfl)
          go_upto_region 16 with (go_at_call 20; refine C20.out.mono ?_; rintro e w9 ⟨⟨ok', k', v', o', had', aft', A2, ln2, c2⟩, rfl, ht⟩; have H9 := Lib.hid (H6.out.no ht); clear ht; simp only [Opx.val])
          have ta : ∀ (w : World) o, Turn No w (w.alloc o) := fun w o => (Turn.refl _ _).alloc _
          have H10 := Lib.hid (H9.out.tu.trans ((ta _ (.cells #[.int .u8 ok', .string k', .string v', .string o', .bool had', .bool aft', .slice A2 ln2 c2] 29)).trans (ta _ (.cells #[.int .i64 0, .bool false, .string ⟨#[]⟩, .string ⟨#[]⟩] 32))))
          clear ta H9 H6 C20
          generalize (w9.alloc (.cells #[.int .u8 ok', .string k', .string v', .string o', .bool had', .bool aft', .slice A2 ln2 c2] 29)).alloc (.cells #[.int .i64 0, .bool false, .string ⟨#[]⟩, .string ⟨#[]⟩] 32) = w10 at H10 ⊢
          have CA := Lib.hid (ah_any w10)
          go_wp2_with (first | (go_at_call 26; (with_reducible refine CA.out.mono ?_); rintro e w11 ⟨rfl, ht1⟩; have H11 : Hid (Turn No w w11) := Lib.hid ((H10.out.alloc _).trans ht1); clear ht1) | (go_at_call 9; (with_reducible refine (CW.out _).mono ?_); rintro e w12 ⟨rfl, ht2⟩))
          go_ret
          exact ⟨rfl, H11.out.trans ht2⟩
end Go.Proofs.Ythopiamiipmobaa
