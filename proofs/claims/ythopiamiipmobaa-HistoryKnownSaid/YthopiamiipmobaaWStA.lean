/-
  State, where it is not Begun.
-/
import Derived.Test.YthopiamiipmobaaStB
namespace Go.Proofs.Ythopiamiipmobaa
open Go.RowKit Go.Lib
set_option linter.unusedVariables false
set_option linter.unusedSimpArgs false

set_option maxHeartbeats 4000000 in
theorem state_000 (id0 : Int) (l : List Ev) (ps : List (List Wr)) (A : Option Addr) (cap : Nat) (w : World) (hR : Row w A (ecs l)) (hW : Rws w l ps) (hl : l.length ≤ 100000) (hf1 : firstAt 1 id0 l = none) (hf2 : firstAt 2 id0 l = none) :
    Calls Try.prog 20 #[.slice A l.length cap, .int .i64 id0] w fun r w' => ∃ o : Opx, r = .returned (.tuple #[o.val, (stA l id0).val, .int .i64 0]) ∧ Turn No w w' ∧ o.pure = stO l id0 ∧ w'.ownsRow w.heap.size 53 3 (.slice o.A o.len o.cap) o.len (wcs (stW l ps id0)) := by
  have H0 : Hid (Sb w ((w.alloc (.cells #[.int .u8 0, .string ⟨#[]⟩, .string ⟨#[]⟩, .string ⟨#[]⟩, .bool false, .bool false, .slice none 0 0] 29)).alloc (.cells #[.int .i64 0, .bool false, .string ⟨#[]⟩, .string ⟨#[]⟩] 32)) w.heap.size (w.heap.size + 1) ⟨0, ⟨#[]⟩, ⟨#[]⟩, ⟨#[]⟩, false, false, none, 0, 0⟩ [] ⟨0, false, ⟨#[]⟩, ⟨#[]⟩⟩) := Lib.hid
    ⟨((Turn.refl _ _).alloc _).alloc _, Nat.le_refl _, Nat.le_succ _, (At.new _ _).no ((Turn.refl _ _).alloc _), by simpa [Ans.cs] using At.new (w.alloc (.cells #[.int .u8 0, .string ⟨#[]⟩, .string ⟨#[]⟩, .string ⟨#[]⟩, .bool false, .bool false, .slice none 0 0] 29)) (.cells #[.int .i64 0, .bool false, .string ⟨#[]⟩, .string ⟨#[]⟩] 32), World.ownsRow_nil _ _ _ _⟩
  have CF : Hid (∀ W kind, Turn No w W → Calls Try.prog 35 #[.slice A l.length cap, .int .u8 kind, .int .i64 id0] W fun r w' => r = .returned (.int .i64 (placeI (firstAt kind id0 l))) ∧ Turn No W w') := Lib.hid fun W kind t => first_any kind id0 l A cap W (hR.turn t fun _ _ _ h => h) hl
  have C1 : Hid (∀ W, Turn No w W → Calls Try.prog 35 #[.slice A l.length cap, .int .u8 1, .int .i64 id0] W fun r w' => r = .returned (.int .i64 (-1)) ∧ Turn No W w') := Lib.hid fun W t => by have := CF.out W 1 t; rwa [hf1] at this
  have C2 : Hid (∀ W, Turn No w W → Calls Try.prog 35 #[.slice A l.length cap, .int .u8 2, .int .i64 id0] W fun r w' => r = .returned (.int .i64 (-1)) ∧ Turn No W w') := Lib.hid fun W t => by have := CF.out W 2 t; rwa [hf2] at this
  obtain ⟨f3, hf3⟩ : ∃ f, placeI (firstAt 3 id0 l) = f := ⟨_, rfl⟩
  have C3 : Hid (∀ W, Turn No w W → Calls Try.prog 35 #[.slice A l.length cap, .int .u8 3, .int .i64 id0] W fun r w' => r = .returned (.int .i64 (f3)) ∧ Turn No W w') := Lib.hid fun W t => by have := CF.out W 3 t; rwa [hf3] at this
  clear hf3
  have hst := Lib.hid (state_no (ps := ps) hf1)
  have hsa := Lib.hid (answer_no hf2)
  clear hR hW hf1 hf2 CF
  go_enter Try.func20, Try.ntmps20
  go_upto_region 1 with (fail)
  generalize (w.alloc (.cells #[.int .u8 0, .string ⟨#[]⟩, .string ⟨#[]⟩, .string ⟨#[]⟩, .bool false, .bool false, .slice none 0 0] 29)).alloc (.cells #[.int .i64 0, .bool false, .string ⟨#[]⟩, .string ⟨#[]⟩] 32) = w1 at H0 ⊢
  obtain ⟨g4, hg4⟩ : ∃ g4, w.heap.size = g4 := ⟨_, rfl⟩
  obtain ⟨g5, hg5⟩ : ∃ g5, g4 + 1 = g5 := ⟨_, rfl⟩
  have HG := Lib.hid hg4
  rw [hg4, hg5] at H0
  rw [hg4, hg5]
  clear hg4 hg5
  go_upto_region 2 with (first | (go_at_call 35; with_reducible refine (C1.out _ H0.out.tu).mono ?_; rintro e w2 ⟨rfl, ht2⟩; have HT2 := Lib.hid (H0.out.tu.trans ht2); have H2 := Lib.hid (H0.out.no ht2); clear ht2) | (go_at_call 35; with_reducible refine (C2.out _ HT2.out).mono ?_; rintro e w3 ⟨rfl, ht3⟩; have HT3 := Lib.hid (HT2.out.trans ht3); have H3 := Lib.hid (H2.out.no ht3); clear ht3) | (go_at_call 35; with_reducible refine (C3.out _ HT3.out).mono ?_; rintro e w4 ⟨rfl, ht4⟩; have H4 := Lib.hid (H3.out.no ht4); clear ht4))
  clear C1 C2 C3 H2 H3 H0 HT2 HT3
  go_upto_region 4 with fail
  go_upto_region 6 with fail
  go_upto_region 7 with fail
  have p0 : w4.cell? ⟨g4, 0, none⟩ = some (.int .u8 0) := H4.out.b4.cell 0
  have p1 : w4.cell? ⟨g4, 1, none⟩ = some (.string ⟨#[]⟩) := H4.out.b4.cell 1
  have p2 : w4.cell? ⟨g4, 2, none⟩ = some (.string ⟨#[]⟩) := H4.out.b4.cell 2
  have p3 : w4.cell? ⟨g4, 3, none⟩ = some (.string ⟨#[]⟩) := H4.out.b4.cell 3
  have p4 : w4.cell? ⟨g4, 4, none⟩ = some (.bool false) := H4.out.b4.cell 4
  have p5 : w4.cell? ⟨g4, 5, none⟩ = some (.bool false) := H4.out.b4.cell 5
  have p6 : w4.cell? ⟨g4, 6, none⟩ = some (.slice none 0 0) := H4.out.b4.cell 6
  have r0 : w4.cell? ⟨g5, 0, none⟩ = some (.int .i64 0) := H4.out.b5.cell 0
  have r1 : w4.cell? ⟨g5, 1, none⟩ = some (.bool false) := H4.out.b5.cell 1
  have r2 : w4.cell? ⟨g5, 2, none⟩ = some (.string ⟨#[]⟩) := H4.out.b5.cell 2
  have r3 : w4.cell? ⟨g5, 3, none⟩ = some (.string ⟨#[]⟩) := H4.out.b5.cell 3
  have z4 := H4.out.b4.thawed
  have z5 := H4.out.b5.thawed
  have n1 := H4.out.ne
  have n2 := n1.symm
  go_region
  go_wp2_with fail
  have HZ := Lib.hid ((H4.out.all4.all5).no (Turn.refl No _).drew)
  clear p0 p1 p2 p3 p4 p5 p6 r0 r1 r2 r3 z4 z5 n1 n2
  (try simp only [Exit.inBlock, Exit.then])
  refine bodyPost_ret (results_cct rfl _ _ g4 g5 29 32 _ _ (0, 0) (0, 0) _ _ (by rfl) HZ.out.b4 Try.underlying29 rfl inf29 (by rfl) HZ.out.b5 Try.underlying32 rfl inf32) rfl ?_
  refine ⟨⟨0, ⟨#[]⟩, ⟨#[]⟩, ⟨#[]⟩, false, false, none, 0, 0⟩, ?_, HZ.out.tu, ?_, ?_⟩
  · rw [hsa.out]; rfl
  · rw [hst.out.1]; rfl
  · rw [hst.out.2]; exact HZ.out.row
set_option maxHeartbeats 4000000 in
theorem state_010 (id0 : Int) (l : List Ev) (ps : List (List Wr)) (A : Option Addr) (cap : Nat) (w : World) (hR : Row w A (ecs l)) (hW : Rws w l ps) (hl : l.length ≤ 100000) (m : Nat) (hf1 : firstAt 1 id0 l = none) (hf2 : firstAt 2 id0 l = some m) :
    Calls Try.prog 20 #[.slice A l.length cap, .int .i64 id0] w fun r w' => ∃ o : Opx, r = .returned (.tuple #[o.val, (stA l id0).val, .int .i64 0]) ∧ Turn No w w' ∧ o.pure = stO l id0 ∧ w'.ownsRow w.heap.size 53 3 (.slice o.A o.len o.cap) o.len (wcs (stW l ps id0)) := by
  have H0 : Hid (Sb w ((w.alloc (.cells #[.int .u8 0, .string ⟨#[]⟩, .string ⟨#[]⟩, .string ⟨#[]⟩, .bool false, .bool false, .slice none 0 0] 29)).alloc (.cells #[.int .i64 0, .bool false, .string ⟨#[]⟩, .string ⟨#[]⟩] 32)) w.heap.size (w.heap.size + 1) ⟨0, ⟨#[]⟩, ⟨#[]⟩, ⟨#[]⟩, false, false, none, 0, 0⟩ [] ⟨0, false, ⟨#[]⟩, ⟨#[]⟩⟩) := Lib.hid
    ⟨((Turn.refl _ _).alloc _).alloc _, Nat.le_refl _, Nat.le_succ _, (At.new _ _).no ((Turn.refl _ _).alloc _), by simpa [Ans.cs] using At.new (w.alloc (.cells #[.int .u8 0, .string ⟨#[]⟩, .string ⟨#[]⟩, .string ⟨#[]⟩, .bool false, .bool false, .slice none 0 0] 29)) (.cells #[.int .i64 0, .bool false, .string ⟨#[]⟩, .string ⟨#[]⟩] 32), World.ownsRow_nil _ _ _ _⟩
  have CF : Hid (∀ W kind, Turn No w W → Calls Try.prog 35 #[.slice A l.length cap, .int .u8 kind, .int .i64 id0] W fun r w' => r = .returned (.int .i64 (placeI (firstAt kind id0 l))) ∧ Turn No W w') := Lib.hid fun W kind t => first_any kind id0 l A cap W (hR.turn t fun _ _ _ h => h) hl
  have C1 : Hid (∀ W, Turn No w W → Calls Try.prog 35 #[.slice A l.length cap, .int .u8 1, .int .i64 id0] W fun r w' => r = .returned (.int .i64 (-1)) ∧ Turn No W w') := Lib.hid fun W t => by have := CF.out W 1 t; rwa [hf1] at this
  have C2 : Hid (∀ W, Turn No w W → Calls Try.prog 35 #[.slice A l.length cap, .int .u8 2, .int .i64 id0] W fun r w' => r = .returned (.int .i64 (m)) ∧ Turn No W w') := Lib.hid fun W t => by have := CF.out W 2 t; rwa [hf2] at this
  obtain ⟨f3, hf3⟩ : ∃ f, placeI (firstAt 3 id0 l) = f := ⟨_, rfl⟩
  have C3 : Hid (∀ W, Turn No w W → Calls Try.prog 35 #[.slice A l.length cap, .int .u8 3, .int .i64 id0] W fun r w' => r = .returned (.int .i64 (f3)) ∧ Turn No W w') := Lib.hid fun W t => by have := CF.out W 3 t; rwa [hf3] at this
  clear hf3
  have hst := Lib.hid (state_no (ps := ps) hf1)
  obtain ⟨hm, e2, he2, _, _⟩ := firstAt_get hf2
  obtain ⟨b2, off2, hA2, _, _⟩ := hR.range he2
  obtain ⟨ws2, _, _, hfit2⟩ := hW.at_ he2
  have hsa := Lib.hid (answer_of hf2 he2)
  obtain ⟨kind2, id2, op2, ⟨code, found, ak, av⟩⟩ := e2
  have HRA : Hid (∀ W, Turn No w W → W.rangeAt b2 (off2 + m * 13 + 9) [.int .i64 code, .bool found, .string ak, .string av]) := Lib.hid fun W t => by
    obtain ⟨b1, off1, hA1, _, h3⟩ := (hR.turn t fun _ _ _ h => h).range he2
    rw [hA2] at hA1
    injection hA1 with hA1
    injection hA1 with e1 e2
    subst e1 e2
    exact range_an h3
  have C37 : Hid (∀ W, Calls Try.prog 37 #[.agg #[.int .i64 code, .bool found, .string ak, .string av]] W fun e w' => e = .returned (.agg #[.int .i64 code, .bool found, .string ak, .string av]) ∧ Turn No W w') := Lib.hid fun W => clans_any code found ak av hfit2.ak hfit2.av W
  clear he2 hfit2
  subst hA2
  clear hR hW hf1 hf2 CF
  go_enter Try.func20, Try.ntmps20
  go_upto_region 1 with (fail)
  generalize (w.alloc (.cells #[.int .u8 0, .string ⟨#[]⟩, .string ⟨#[]⟩, .string ⟨#[]⟩, .bool false, .bool false, .slice none 0 0] 29)).alloc (.cells #[.int .i64 0, .bool false, .string ⟨#[]⟩, .string ⟨#[]⟩] 32) = w1 at H0 ⊢
  obtain ⟨g4, hg4⟩ : ∃ g4, w.heap.size = g4 := ⟨_, rfl⟩
  obtain ⟨g5, hg5⟩ : ∃ g5, g4 + 1 = g5 := ⟨_, rfl⟩
  have HG := Lib.hid hg4
  rw [hg4, hg5] at H0
  rw [hg4, hg5]
  clear hg4 hg5
  go_upto_region 2 with (first | (go_at_call 35; with_reducible refine (C1.out _ H0.out.tu).mono ?_; rintro e w2 ⟨rfl, ht2⟩; have HT2 := Lib.hid (H0.out.tu.trans ht2); have H2 := Lib.hid (H0.out.no ht2); clear ht2) | (go_at_call 35; with_reducible refine (C2.out _ HT2.out).mono ?_; rintro e w3 ⟨rfl, ht3⟩; have HT3 := Lib.hid (HT2.out.trans ht3); have H3 := Lib.hid (H2.out.no ht3); clear ht3) | (go_at_call 35; with_reducible refine (C3.out _ HT3.out).mono ?_; rintro e w4 ⟨rfl, ht4⟩; have H4 := Lib.hid (H3.out.no ht4); clear ht4))
  clear C1 C2 C3 H2 H3 H0 HT2 HT3
  go_upto_region 4 with fail
  have hra := HRA.out w4 H4.out.tu
  go_upto_region 6 with (first | (refine wpList_load_mid rfl 32 _ rfl b2 (off2 + m * 13 + 9) rfl [.int .i64 code, .bool found, .string ak, .string av] _ hra Try.underlying32 rfl inf32 ?_) | (refine wpList_store_mid rfl 32 _ _ rfl g5 0 #[.int .i64 code, .bool found, .string ak, .string av] rfl rfl H7.out.there5 inf32 (all_one (vs := [.int .i64 code, .bool found, .string ak, .string av]) (one_an ⟨code, found, ak, av⟩)) ?_) | (go_at_call 37; with_reducible refine (C37.out _).mono ?_; rintro e w7 ⟨rfl, ht7⟩; have H7 := Lib.hid (H4.out.no ht7); clear ht7))
  have H8 : Hid (Sb w (w7.setCells g5 0 [.int .i64 code, .bool found, .string ak, .string av]) g4 g5 ⟨0, ⟨#[]⟩, ⟨#[]⟩, ⟨#[]⟩, false, false, none, 0, 0⟩ [] ⟨code, found, ak, av⟩) := Lib.hid (by rw [setCells_puts]; exact H7.out.set5 (a2 := ⟨code, found, ak, av⟩))
  generalize w7.setCells g5 0 [.int .i64 code, .bool found, .string ak, .string av] = w8 at H8 ⊢
  clear H4 H7 hra HRA C37
  go_upto_region 7 with fail
  have p0 : w8.cell? ⟨g4, 0, none⟩ = some (.int .u8 0) := H8.out.b4.cell 0
  have p1 : w8.cell? ⟨g4, 1, none⟩ = some (.string ⟨#[]⟩) := H8.out.b4.cell 1
  have p2 : w8.cell? ⟨g4, 2, none⟩ = some (.string ⟨#[]⟩) := H8.out.b4.cell 2
  have p3 : w8.cell? ⟨g4, 3, none⟩ = some (.string ⟨#[]⟩) := H8.out.b4.cell 3
  have p4 : w8.cell? ⟨g4, 4, none⟩ = some (.bool false) := H8.out.b4.cell 4
  have p5 : w8.cell? ⟨g4, 5, none⟩ = some (.bool false) := H8.out.b4.cell 5
  have p6 : w8.cell? ⟨g4, 6, none⟩ = some (.slice none 0 0) := H8.out.b4.cell 6
  have r0 : w8.cell? ⟨g5, 0, none⟩ = some (.int .i64 code) := H8.out.b5.cell 0
  have r1 : w8.cell? ⟨g5, 1, none⟩ = some (.bool found) := H8.out.b5.cell 1
  have r2 : w8.cell? ⟨g5, 2, none⟩ = some (.string ak) := H8.out.b5.cell 2
  have r3 : w8.cell? ⟨g5, 3, none⟩ = some (.string av) := H8.out.b5.cell 3
  have z4 := H8.out.b4.thawed
  have z5 := H8.out.b5.thawed
  have n1 := H8.out.ne
  have n2 := n1.symm
  go_region
  go_wp2_with fail
  have HZ := Lib.hid ((H8.out.all4.all5).no (Turn.refl No _).drew)
  clear p0 p1 p2 p3 p4 p5 p6 r0 r1 r2 r3 z4 z5 n1 n2
  (try simp only [Exit.inBlock, Exit.then])
  refine bodyPost_ret (results_cct rfl _ _ g4 g5 29 32 _ _ (0, 0) (0, 0) _ _ (by rfl) HZ.out.b4 Try.underlying29 rfl inf29 (by rfl) HZ.out.b5 Try.underlying32 rfl inf32) rfl ?_
  refine ⟨⟨0, ⟨#[]⟩, ⟨#[]⟩, ⟨#[]⟩, false, false, none, 0, 0⟩, ?_, HZ.out.tu, ?_, ?_⟩
  · rw [hsa.out]; rfl
  · rw [hst.out.1]; rfl
  · rw [hst.out.2]; exact HZ.out.row
end Go.Proofs.Ythopiamiipmobaa
