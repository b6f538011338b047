/-
  State, where it is Begun, not Ended.
  State, where it is Ended.
  State, whatever the row.
  count, Answer, Fits: the document's own text.
-/
import Derived.Test.YtllppkfeiifklaaJ21
import Derived.Test.YtllppkfeiifklaaJ25
namespace Go.Proofs.Ytllppkfeiifklaa
open Go.RowKit Go.Lib
set_option linter.unusedVariables false
set_option maxRecDepth 20000
set_option linter.unusedSimpArgs false

set_option maxHeartbeats 4000000 in
theorem state_100 (id0 : Int) (l : List Ev) (ps : List (List Wr)) (A : Option Addr) (cap : Nat) (w : World) (hR : Row w A (ecs l)) (hW : Rws w l ps) (hl : l.length ≤ 100000) (n : Nat) (hf1 : firstAt 1 id0 l = some n) (hf2 : firstAt 2 id0 l = none) :
    Calls Try.prog 22 #[.slice A l.length cap, .int .i64 id0] w fun r w' => ∃ o : Opx, r = .returned (.tuple #[o.valH, (stA l id0).valH, .int .i64 1]) ∧ Turn No w w' ∧ o.pure = stO l id0 ∧ w'.ownsRow w.heap.size 68 3 (.slice o.A o.len o.cap) o.len (wcs (stW l ps id0)) := by
  have H0 : Hid (Sb w ((w.alloc (.cells #[.int .u8 0, .string ⟨#[]⟩, .string ⟨#[]⟩, .string ⟨#[]⟩, .bool false, .bool false, .slice none 0 0] 34)).alloc (.cells #[.int .i64 0, .bool false, .string ⟨#[]⟩, .string ⟨#[]⟩] 38)) w.heap.size (w.heap.size + 1) ⟨0, ⟨#[]⟩, ⟨#[]⟩, ⟨#[]⟩, false, false, none, 0, 0⟩ [] ⟨0, false, ⟨#[]⟩, ⟨#[]⟩⟩) := Lib.hid
    ⟨((Turn.refl _ _).alloc _).alloc _, Nat.le_refl _, Nat.le_succ _, (At.new _ _).no ((Turn.refl _ _).alloc _), by simpa [Ans.cs] using At.new (w.alloc (.cells #[.int .u8 0, .string ⟨#[]⟩, .string ⟨#[]⟩, .string ⟨#[]⟩, .bool false, .bool false, .slice none 0 0] 34)) (.cells #[.int .i64 0, .bool false, .string ⟨#[]⟩, .string ⟨#[]⟩] 38), World.ownsRow_nil _ _ _ _⟩
  have CF : Hid (∀ W kind, Turn No w W → Calls Try.prog 52 #[.slice A l.length cap, .int .u8 kind, .int .i64 id0] W fun r w' => r = .returned (.int .i64 (placeI (firstAt kind id0 l))) ∧ Turn No W w') := Lib.hid fun W kind t => first_any kind id0 l A cap W (hR.turn t fun _ _ _ h => h) hl
  have C1 : Hid (∀ W, Turn No w W → Calls Try.prog 52 #[.slice A l.length cap, .int .u8 1, .int .i64 id0] W fun r w' => r = .returned (.int .i64 (n)) ∧ Turn No W w') := Lib.hid fun W t => by have := CF.out W 1 t; rwa [hf1] at this
  have C2 : Hid (∀ W, Turn No w W → Calls Try.prog 52 #[.slice A l.length cap, .int .u8 2, .int .i64 id0] W fun r w' => r = .returned (.int .i64 (-1)) ∧ Turn No W w') := Lib.hid fun W t => by have := CF.out W 2 t; rwa [hf2] at this
  obtain ⟨f3, hf3⟩ : ∃ f, placeI (firstAt 3 id0 l) = f := ⟨_, rfl⟩
  have C3 : Hid (∀ W, Turn No w W → Calls Try.prog 52 #[.slice A l.length cap, .int .u8 3, .int .i64 id0] W fun r w' => r = .returned (.int .i64 (f3)) ∧ Turn No W w') := Lib.hid fun W t => by have := CF.out W 3 t; rwa [hf3] at this
  clear hf3
  obtain ⟨hn, e, he, _, _⟩ := firstAt_get hf1
  obtain ⟨b0, off, hA, _, _⟩ := hR.range he
  obtain ⟨ws, hws, hwr, hfit⟩ := hW.at_ he
  have hst := Lib.hid (state_of hf1 he hws)
  obtain ⟨kind1, id1, ⟨ok, k, v, o, had, aft, A0, len, cap0⟩, an1⟩ := e
  have HRO : Hid (∀ W, Turn No w W → W.rangeAt b0 (off + n * 13 + 2) [.int .u8 ok, .string k, .string v, .string o, .bool had, .bool aft, .slice A0 len cap0]) := Lib.hid fun W t => by
    obtain ⟨b1, off1, hA1, _, h3⟩ := (hR.turn t fun _ _ _ h => h).range he
    rw [hA] at hA1
    injection hA1 with hA1
    injection hA1 with e1 e2
    subst e1 e2
    exact range_op h3
  have C36 : Hid (∀ W, Turn No w W → Calls Try.prog 53 #[.agg #[.int .u8 ok, .string k, .string v, .string o, .bool had, .bool aft, .slice A0 len cap0]] W fun e w' => ∃ B c, e = .returned (.agg #[.int .u8 ok, .string k, .string v, .string o, .bool had, .bool aft, .slice B len c]) ∧ Turn No W w' ∧ w'.ownsRow W.heap.size 68 3 (.slice B len c) len (wcs ws)) := Lib.hid fun W t => clop_any ok k v o had aft A0 len cap0 ws hfit.k hfit.v hfit.o hfit.wf hfit.n hfit.few W (hwr.turn t fun _ _ _ h => h)
  clear he hws hwr hfit
  have hsa := Lib.hid (answer_no hf2)
  subst hA
  clear hR hW hf1 hf2 CF
  go_enter Try.func22, Try.ntmps22
  go_upto_region 1 with (fail)
  generalize (w.alloc (.cells #[.int .u8 0, .string ⟨#[]⟩, .string ⟨#[]⟩, .string ⟨#[]⟩, .bool false, .bool false, .slice none 0 0] 34)).alloc (.cells #[.int .i64 0, .bool false, .string ⟨#[]⟩, .string ⟨#[]⟩] 38) = w1 at H0 ⊢
  obtain ⟨g4, hg4⟩ : ∃ g4, w.heap.size = g4 := ⟨_, rfl⟩
  obtain ⟨g5, hg5⟩ : ∃ g5, g4 + 1 = g5 := ⟨_, rfl⟩
  have HG := Lib.hid hg4
  rw [hg4, hg5] at H0
  rw [hg4, hg5]
  clear hg4 hg5
  go_upto_region 2 with (first | (go_at_call 52; with_reducible refine (C1.out _ H0.out.tu).mono ?_; rintro e w2 ⟨rfl, ht2⟩; have HT2 := Lib.hid (H0.out.tu.trans ht2); have H2 := Lib.hid (H0.out.no ht2); clear ht2) | (go_at_call 52; with_reducible refine (C2.out _ HT2.out).mono ?_; rintro e w3 ⟨rfl, ht3⟩; have HT3 := Lib.hid (HT2.out.trans ht3); have H3 := Lib.hid (H2.out.no ht3); clear ht3) | (go_at_call 52; with_reducible refine (C3.out _ HT3.out).mono ?_; rintro e w4 ⟨rfl, ht4⟩; have H4 := Lib.hid (H3.out.no ht4); clear ht4))
  clear C1 C2 C3 H2 H3 H0 HT2 HT3
  have hro := HRO.out w4 H4.out.tu
  go_upto_region 4 with (first | (refine wpList_load_mid rfl 34 _ rfl b0 (off + n * 13 + 2) rfl [.int .u8 ok, .string k, .string v, .string o, .bool had, .bool aft, .slice A0 len cap0] _ hro Try.underlying34 rfl inf29 ?_) | (refine wpList_store_mid rfl 34 _ _ rfl g4 0 #[.int .u8 ok, .string k, .string v, .string o, .bool had, .bool aft, .slice B len c] rfl rfl H5.out.1.there4 inf29 (all_one (vs := [.int .u8 ok, .string k, .string v, .string o, .bool had, .bool aft, .slice B len c]) (one_op ⟨ok, k, v, o, had, aft, B, len, c⟩)) ?_) | (go_at_call 53; with_reducible refine (C36.out _ H4.out.tu).mono ?_; rintro e w5 ⟨B, c, rfl, ht5, ho5⟩; have H5 := Lib.hid (And.intro (H4.out.no ht5) (own_from ho5 H4.out.tu.size)); clear ht5 ho5))
  have H6 : Hid (Sb w (w5.setCells g4 0 [.int .u8 ok, .string k, .string v, .string o, .bool had, .bool aft, .slice B len c]) g4 g5 ⟨ok, k, v, o, had, aft, B, len, c⟩ ws ⟨0, false, ⟨#[]⟩, ⟨#[]⟩⟩) := Lib.hid (by rw [setCells_puts]; exact H5.out.1.set4 (o2 := ⟨ok, k, v, o, had, aft, B, len, c⟩) H5.out.2)
  generalize w5.setCells g4 0 [.int .u8 ok, .string k, .string v, .string o, .bool had, .bool aft, .slice B len c] = w6 at H6 ⊢
  clear H4 H5 hro HRO C36
  go_upto_region 6 with fail
  go_upto_region 9 with fail
  have p0 : w6.cell? ⟨g4, 0, none⟩ = some (.int .u8 ok) := H6.out.b4.cell 0
  have p1 : w6.cell? ⟨g4, 1, none⟩ = some (.string k) := H6.out.b4.cell 1
  have p2 : w6.cell? ⟨g4, 2, none⟩ = some (.string v) := H6.out.b4.cell 2
  have p3 : w6.cell? ⟨g4, 3, none⟩ = some (.string o) := H6.out.b4.cell 3
  have p4 : w6.cell? ⟨g4, 4, none⟩ = some (.bool had) := H6.out.b4.cell 4
  have p5 : w6.cell? ⟨g4, 5, none⟩ = some (.bool aft) := H6.out.b4.cell 5
  have p6 : w6.cell? ⟨g4, 6, none⟩ = some (.slice B len c) := H6.out.b4.cell 6
  have r0 : w6.cell? ⟨g5, 0, none⟩ = some (.int .i64 0) := H6.out.b5.cell 0
  have r1 : w6.cell? ⟨g5, 1, none⟩ = some (.bool false) := H6.out.b5.cell 1
  have r2 : w6.cell? ⟨g5, 2, none⟩ = some (.string ⟨#[]⟩) := H6.out.b5.cell 2
  have r3 : w6.cell? ⟨g5, 3, none⟩ = some (.string ⟨#[]⟩) := H6.out.b5.cell 3
  have z4 := H6.out.b4.thawed
  have z5 := H6.out.b5.thawed
  have n1 := H6.out.ne
  have n2 := n1.symm
  go_region
  go_wp2_with fail
  have HZ := Lib.hid ((H6.out.all4.all5).no (Turn.refl No _).drew)
  clear p0 p1 p2 p3 p4 p5 p6 r0 r1 r2 r3 z4 z5 n1 n2
  (try simp only [Exit.inBlock, Exit.then])
  refine bodyPost_ret (results_cct rfl _ _ g4 g5 34 38 _ _ (0, 0) (0, 0) _ _ (by rfl) HZ.out.b4 Try.underlying34 rfl inf29 (by rfl) HZ.out.b5 Try.underlying38 rfl inf32) rfl ?_
  refine ⟨⟨ok, k, v, o, had, aft, B, len, c⟩, ?_, HZ.out.tu, ?_, ?_⟩
  · rw [hsa.out]; rfl
  · rw [hst.out.1]; rfl
  · rw [hst.out.2]; exact HZ.out.row
set_option maxHeartbeats 4000000 in
theorem state_110 (id0 : Int) (l : List Ev) (ps : List (List Wr)) (A : Option Addr) (cap : Nat) (w : World) (hR : Row w A (ecs l)) (hW : Rws w l ps) (hl : l.length ≤ 100000) (n : Nat) (m : Nat) (hf1 : firstAt 1 id0 l = some n) (hf2 : firstAt 2 id0 l = some m) (hf3 : firstAt 3 id0 l = none) :
    Calls Try.prog 22 #[.slice A l.length cap, .int .i64 id0] w fun r w' => ∃ o : Opx, r = .returned (.tuple #[o.valH, (stA l id0).valH, .int .i64 2]) ∧ Turn No w w' ∧ o.pure = stO l id0 ∧ w'.ownsRow w.heap.size 68 3 (.slice o.A o.len o.cap) o.len (wcs (stW l ps id0)) := by
  have H0 : Hid (Sb w ((w.alloc (.cells #[.int .u8 0, .string ⟨#[]⟩, .string ⟨#[]⟩, .string ⟨#[]⟩, .bool false, .bool false, .slice none 0 0] 34)).alloc (.cells #[.int .i64 0, .bool false, .string ⟨#[]⟩, .string ⟨#[]⟩] 38)) w.heap.size (w.heap.size + 1) ⟨0, ⟨#[]⟩, ⟨#[]⟩, ⟨#[]⟩, false, false, none, 0, 0⟩ [] ⟨0, false, ⟨#[]⟩, ⟨#[]⟩⟩) := Lib.hid
    ⟨((Turn.refl _ _).alloc _).alloc _, Nat.le_refl _, Nat.le_succ _, (At.new _ _).no ((Turn.refl _ _).alloc _), by simpa [Ans.cs] using At.new (w.alloc (.cells #[.int .u8 0, .string ⟨#[]⟩, .string ⟨#[]⟩, .string ⟨#[]⟩, .bool false, .bool false, .slice none 0 0] 34)) (.cells #[.int .i64 0, .bool false, .string ⟨#[]⟩, .string ⟨#[]⟩] 38), World.ownsRow_nil _ _ _ _⟩
  have CF : Hid (∀ W kind, Turn No w W → Calls Try.prog 52 #[.slice A l.length cap, .int .u8 kind, .int .i64 id0] W fun r w' => r = .returned (.int .i64 (placeI (firstAt kind id0 l))) ∧ Turn No W w') := Lib.hid fun W kind t => first_any kind id0 l A cap W (hR.turn t fun _ _ _ h => h) hl
  have C1 : Hid (∀ W, Turn No w W → Calls Try.prog 52 #[.slice A l.length cap, .int .u8 1, .int .i64 id0] W fun r w' => r = .returned (.int .i64 (n)) ∧ Turn No W w') := Lib.hid fun W t => by have := CF.out W 1 t; rwa [hf1] at this
  have C2 : Hid (∀ W, Turn No w W → Calls Try.prog 52 #[.slice A l.length cap, .int .u8 2, .int .i64 id0] W fun r w' => r = .returned (.int .i64 (m)) ∧ Turn No W w') := Lib.hid fun W t => by have := CF.out W 2 t; rwa [hf2] at this
  have C3 : Hid (∀ W, Turn No w W → Calls Try.prog 52 #[.slice A l.length cap, .int .u8 3, .int .i64 id0] W fun r w' => r = .returned (.int .i64 (-1)) ∧ Turn No W w') := Lib.hid fun W t => by have := CF.out W 3 t; rwa [hf3] at this
  obtain ⟨hn, e, he, _, _⟩ := firstAt_get hf1
  obtain ⟨b0, off, hA, _, _⟩ := hR.range he
  obtain ⟨ws, hws, hwr, hfit⟩ := hW.at_ he
  have hst := Lib.hid (state_of hf1 he hws)
  obtain ⟨kind1, id1, ⟨ok, k, v, o, had, aft, A0, len, cap0⟩, an1⟩ := e
  have HRO : Hid (∀ W, Turn No w W → W.rangeAt b0 (off + n * 13 + 2) [.int .u8 ok, .string k, .string v, .string o, .bool had, .bool aft, .slice A0 len cap0]) := Lib.hid fun W t => by
    obtain ⟨b1, off1, hA1, _, h3⟩ := (hR.turn t fun _ _ _ h => h).range he
    rw [hA] at hA1
    injection hA1 with hA1
    injection hA1 with e1 e2
    subst e1 e2
    exact range_op h3
  have C36 : Hid (∀ W, Turn No w W → Calls Try.prog 53 #[.agg #[.int .u8 ok, .string k, .string v, .string o, .bool had, .bool aft, .slice A0 len cap0]] W fun e w' => ∃ B c, e = .returned (.agg #[.int .u8 ok, .string k, .string v, .string o, .bool had, .bool aft, .slice B len c]) ∧ Turn No W w' ∧ w'.ownsRow W.heap.size 68 3 (.slice B len c) len (wcs ws)) := Lib.hid fun W t => clop_any ok k v o had aft A0 len cap0 ws hfit.k hfit.v hfit.o hfit.wf hfit.n hfit.few W (hwr.turn t fun _ _ _ h => h)
  clear he hws hwr hfit
  obtain ⟨hm, e2, he2, _, _⟩ := firstAt_get hf2
  obtain ⟨b2, off2, hA2, _, _⟩ := hR.range he2
  obtain ⟨ws2, _, _, hfit2⟩ := hW.at_ he2
  have hsa := Lib.hid (answer_of hf2 he2)
  obtain ⟨kind2, id2, op2, ⟨code, found, ak, av⟩⟩ := e2
  have HRA : Hid (∀ W, Turn No w W → W.rangeAt b2 (off2 + m * 13 + 9) [.int .i64 code, .bool found, .string ak, .string av]) := Lib.hid fun W t => by
    obtain ⟨b1, off1, hA1, _, h3⟩ := (hR.turn t fun _ _ _ h => h).range he2
    rw [hA2] at hA1
    injection hA1 with hA1
    injection hA1 with e1 e2
    subst e1 e2
    exact range_an h3
  have C37 : Hid (∀ W, Calls Try.prog 54 #[.agg #[.int .i64 code, .bool found, .string ak, .string av]] W fun e w' => e = .returned (.agg #[.int .i64 code, .bool found, .string ak, .string av]) ∧ Turn No W w') := Lib.hid fun W => clans_any code found ak av hfit2.ak hfit2.av W
  clear he2 hfit2
  rw [hA] at hA2
  injection hA2 with hA2
  injection hA2 with e1 e2
  subst e1 e2
  subst hA
  clear hR hW hf1 hf2 CF hf3
  go_enter Try.func22, Try.ntmps22
  go_upto_region 1 with (fail)
  generalize (w.alloc (.cells #[.int .u8 0, .string ⟨#[]⟩, .string ⟨#[]⟩, .string ⟨#[]⟩, .bool false, .bool false, .slice none 0 0] 34)).alloc (.cells #[.int .i64 0, .bool false, .string ⟨#[]⟩, .string ⟨#[]⟩] 38) = w1 at H0 ⊢
  obtain ⟨g4, hg4⟩ : ∃ g4, w.heap.size = g4 := ⟨_, rfl⟩
  obtain ⟨g5, hg5⟩ : ∃ g5, g4 + 1 = g5 := ⟨_, rfl⟩
  have HG := Lib.hid hg4
  rw [hg4, hg5] at H0
  rw [hg4, hg5]
  clear hg4 hg5
  go_upto_region 2 with (first | (go_at_call 52; with_reducible refine (C1.out _ H0.out.tu).mono ?_; rintro e w2 ⟨rfl, ht2⟩; have HT2 := Lib.hid (H0.out.tu.trans ht2); have H2 := Lib.hid (H0.out.no ht2); clear ht2) | (go_at_call 52; with_reducible refine (C2.out _ HT2.out).mono ?_; rintro e w3 ⟨rfl, ht3⟩; have HT3 := Lib.hid (HT2.out.trans ht3); have H3 := Lib.hid (H2.out.no ht3); clear ht3) | (go_at_call 52; with_reducible refine (C3.out _ HT3.out).mono ?_; rintro e w4 ⟨rfl, ht4⟩; have H4 := Lib.hid (H3.out.no ht4); clear ht4))
  clear C1 C2 C3 H2 H3 H0 HT2 HT3
  have hro := HRO.out w4 H4.out.tu
  go_upto_region 4 with (first | (refine wpList_load_mid rfl 34 _ rfl b0 (off + n * 13 + 2) rfl [.int .u8 ok, .string k, .string v, .string o, .bool had, .bool aft, .slice A0 len cap0] _ hro Try.underlying34 rfl inf29 ?_) | (refine wpList_store_mid rfl 34 _ _ rfl g4 0 #[.int .u8 ok, .string k, .string v, .string o, .bool had, .bool aft, .slice B len c] rfl rfl H5.out.1.there4 inf29 (all_one (vs := [.int .u8 ok, .string k, .string v, .string o, .bool had, .bool aft, .slice B len c]) (one_op ⟨ok, k, v, o, had, aft, B, len, c⟩)) ?_) | (go_at_call 53; with_reducible refine (C36.out _ H4.out.tu).mono ?_; rintro e w5 ⟨B, c, rfl, ht5, ho5⟩; have H5 := Lib.hid (And.intro (H4.out.no ht5) (own_from ho5 H4.out.tu.size)); clear ht5 ho5))
  have H6 : Hid (Sb w (w5.setCells g4 0 [.int .u8 ok, .string k, .string v, .string o, .bool had, .bool aft, .slice B len c]) g4 g5 ⟨ok, k, v, o, had, aft, B, len, c⟩ ws ⟨0, false, ⟨#[]⟩, ⟨#[]⟩⟩) := Lib.hid (by rw [setCells_puts]; exact H5.out.1.set4 (o2 := ⟨ok, k, v, o, had, aft, B, len, c⟩) H5.out.2)
  generalize w5.setCells g4 0 [.int .u8 ok, .string k, .string v, .string o, .bool had, .bool aft, .slice B len c] = w6 at H6 ⊢
  clear H4 H5 hro HRO C36
  have hra := HRA.out w6 H6.out.tu
  go_upto_region 6 with (first | (refine wpList_load_mid rfl 38 _ rfl b0 (off + m * 13 + 9) rfl [.int .i64 code, .bool found, .string ak, .string av] _ hra Try.underlying38 rfl inf32 ?_) | (refine wpList_store_mid rfl 38 _ _ rfl g5 0 #[.int .i64 code, .bool found, .string ak, .string av] rfl rfl H7.out.there5 inf32 (all_one (vs := [.int .i64 code, .bool found, .string ak, .string av]) (one_an ⟨code, found, ak, av⟩)) ?_) | (go_at_call 54; with_reducible refine (C37.out _).mono ?_; rintro e w7 ⟨rfl, ht7⟩; have H7 := Lib.hid (H6.out.no ht7); clear ht7))
  have H8 : Hid (Sb w (w7.setCells g5 0 [.int .i64 code, .bool found, .string ak, .string av]) g4 g5 ⟨ok, k, v, o, had, aft, B, len, c⟩ ws ⟨code, found, ak, av⟩) := Lib.hid (by rw [setCells_puts]; exact H7.out.set5 (a2 := ⟨code, found, ak, av⟩))
  generalize w7.setCells g5 0 [.int .i64 code, .bool found, .string ak, .string av] = w8 at H8 ⊢
  clear H6 H7 hra HRA C37
  go_upto_region 11 with fail
  have p0 : w8.cell? ⟨g4, 0, none⟩ = some (.int .u8 ok) := H8.out.b4.cell 0
  have p1 : w8.cell? ⟨g4, 1, none⟩ = some (.string k) := H8.out.b4.cell 1
  have p2 : w8.cell? ⟨g4, 2, none⟩ = some (.string v) := H8.out.b4.cell 2
  have p3 : w8.cell? ⟨g4, 3, none⟩ = some (.string o) := H8.out.b4.cell 3
  have p4 : w8.cell? ⟨g4, 4, none⟩ = some (.bool had) := H8.out.b4.cell 4
  have p5 : w8.cell? ⟨g4, 5, none⟩ = some (.bool aft) := H8.out.b4.cell 5
  have p6 : w8.cell? ⟨g4, 6, none⟩ = some (.slice B len c) := H8.out.b4.cell 6
  have r0 : w8.cell? ⟨g5, 0, none⟩ = some (.int .i64 code) := H8.out.b5.cell 0
  have r1 : w8.cell? ⟨g5, 1, none⟩ = some (.bool found) := H8.out.b5.cell 1
  have r2 : w8.cell? ⟨g5, 2, none⟩ = some (.string ak) := H8.out.b5.cell 2
  have r3 : w8.cell? ⟨g5, 3, none⟩ = some (.string av) := H8.out.b5.cell 3
  have z4 := H8.out.b4.thawed
  have z5 := H8.out.b5.thawed
  have n1 := H8.out.ne
  have n2 := n1.symm
  go_region
  go_wp2_with fail
  have HZ := Lib.hid ((H8.out.all4.all5).no (Turn.refl No _).drew)
  clear p0 p1 p2 p3 p4 p5 p6 r0 r1 r2 r3 z4 z5 n1 n2
  (try simp only [Exit.inBlock, Exit.then])
  refine bodyPost_ret (results_cct rfl _ _ g4 g5 34 38 _ _ (0, 0) (0, 0) _ _ (by rfl) HZ.out.b4 Try.underlying34 rfl inf29 (by rfl) HZ.out.b5 Try.underlying38 rfl inf32) rfl ?_
  refine ⟨⟨ok, k, v, o, had, aft, B, len, c⟩, ?_, HZ.out.tu, ?_, ?_⟩
  · rw [hsa.out]; rfl
  · rw [hst.out.1]; rfl
  · rw [hst.out.2]; exact HZ.out.row
end Go.Proofs.Ytllppkfeiifklaa
namespace Go.Proofs.Ytllppkfeiifklaa
open Go.RowKit Go.Lib
set_option linter.unusedVariables false
set_option maxRecDepth 20000
set_option linter.unusedSimpArgs false

set_option maxHeartbeats 4000000 in
theorem state_111 (id0 : Int) (l : List Ev) (ps : List (List Wr)) (A : Option Addr) (cap : Nat) (w : World) (hR : Row w A (ecs l)) (hW : Rws w l ps) (hl : l.length ≤ 100000) (n : Nat) (m : Nat) (q : Nat) (hf1 : firstAt 1 id0 l = some n) (hf2 : firstAt 2 id0 l = some m) (hf3 : firstAt 3 id0 l = some q) :
    Calls Try.prog 22 #[.slice A l.length cap, .int .i64 id0] w fun r w' => ∃ o : Opx, r = .returned (.tuple #[o.valH, (stA l id0).valH, .int .i64 3]) ∧ Turn No w w' ∧ o.pure = stO l id0 ∧ w'.ownsRow w.heap.size 68 3 (.slice o.A o.len o.cap) o.len (wcs (stW l ps id0)) := by
  have H0 : Hid (Sb w ((w.alloc (.cells #[.int .u8 0, .string ⟨#[]⟩, .string ⟨#[]⟩, .string ⟨#[]⟩, .bool false, .bool false, .slice none 0 0] 34)).alloc (.cells #[.int .i64 0, .bool false, .string ⟨#[]⟩, .string ⟨#[]⟩] 38)) w.heap.size (w.heap.size + 1) ⟨0, ⟨#[]⟩, ⟨#[]⟩, ⟨#[]⟩, false, false, none, 0, 0⟩ [] ⟨0, false, ⟨#[]⟩, ⟨#[]⟩⟩) := Lib.hid
    ⟨((Turn.refl _ _).alloc _).alloc _, Nat.le_refl _, Nat.le_succ _, (At.new _ _).no ((Turn.refl _ _).alloc _), by simpa [Ans.cs] using At.new (w.alloc (.cells #[.int .u8 0, .string ⟨#[]⟩, .string ⟨#[]⟩, .string ⟨#[]⟩, .bool false, .bool false, .slice none 0 0] 34)) (.cells #[.int .i64 0, .bool false, .string ⟨#[]⟩, .string ⟨#[]⟩] 38), World.ownsRow_nil _ _ _ _⟩
  have CF : Hid (∀ W kind, Turn No w W → Calls Try.prog 52 #[.slice A l.length cap, .int .u8 kind, .int .i64 id0] W fun r w' => r = .returned (.int .i64 (placeI (firstAt kind id0 l))) ∧ Turn No W w') := Lib.hid fun W kind t => first_any kind id0 l A cap W (hR.turn t fun _ _ _ h => h) hl
  have C1 : Hid (∀ W, Turn No w W → Calls Try.prog 52 #[.slice A l.length cap, .int .u8 1, .int .i64 id0] W fun r w' => r = .returned (.int .i64 (n)) ∧ Turn No W w') := Lib.hid fun W t => by have := CF.out W 1 t; rwa [hf1] at this
  have C2 : Hid (∀ W, Turn No w W → Calls Try.prog 52 #[.slice A l.length cap, .int .u8 2, .int .i64 id0] W fun r w' => r = .returned (.int .i64 (m)) ∧ Turn No W w') := Lib.hid fun W t => by have := CF.out W 2 t; rwa [hf2] at this
  have C3 : Hid (∀ W, Turn No w W → Calls Try.prog 52 #[.slice A l.length cap, .int .u8 3, .int .i64 id0] W fun r w' => r = .returned (.int .i64 (q)) ∧ Turn No W w') := Lib.hid fun W t => by have := CF.out W 3 t; rwa [hf3] at this
  obtain ⟨hn, e, he, _, _⟩ := firstAt_get hf1
  obtain ⟨b0, off, hA, _, _⟩ := hR.range he
  obtain ⟨ws, hws, hwr, hfit⟩ := hW.at_ he
  have hst := Lib.hid (state_of hf1 he hws)
  obtain ⟨kind1, id1, ⟨ok, k, v, o, had, aft, A0, len, cap0⟩, an1⟩ := e
  have HRO : Hid (∀ W, Turn No w W → W.rangeAt b0 (off + n * 13 + 2) [.int .u8 ok, .string k, .string v, .string o, .bool had, .bool aft, .slice A0 len cap0]) := Lib.hid fun W t => by
    obtain ⟨b1, off1, hA1, _, h3⟩ := (hR.turn t fun _ _ _ h => h).range he
    rw [hA] at hA1
    injection hA1 with hA1
    injection hA1 with e1 e2
    subst e1 e2
    exact range_op h3
  have C36 : Hid (∀ W, Turn No w W → Calls Try.prog 53 #[.agg #[.int .u8 ok, .string k, .string v, .string o, .bool had, .bool aft, .slice A0 len cap0]] W fun e w' => ∃ B c, e = .returned (.agg #[.int .u8 ok, .string k, .string v, .string o, .bool had, .bool aft, .slice B len c]) ∧ Turn No W w' ∧ w'.ownsRow W.heap.size 68 3 (.slice B len c) len (wcs ws)) := Lib.hid fun W t => clop_any ok k v o had aft A0 len cap0 ws hfit.k hfit.v hfit.o hfit.wf hfit.n hfit.few W (hwr.turn t fun _ _ _ h => h)
  clear he hws hwr hfit
  obtain ⟨hm, e2, he2, _, _⟩ := firstAt_get hf2
  obtain ⟨b2, off2, hA2, _, _⟩ := hR.range he2
  obtain ⟨ws2, _, _, hfit2⟩ := hW.at_ he2
  have hsa := Lib.hid (answer_of hf2 he2)
  obtain ⟨kind2, id2, op2, ⟨code, found, ak, av⟩⟩ := e2
  have HRA : Hid (∀ W, Turn No w W → W.rangeAt b2 (off2 + m * 13 + 9) [.int .i64 code, .bool found, .string ak, .string av]) := Lib.hid fun W t => by
    obtain ⟨b1, off1, hA1, _, h3⟩ := (hR.turn t fun _ _ _ h => h).range he2
    rw [hA2] at hA1
    injection hA1 with hA1
    injection hA1 with e1 e2
    subst e1 e2
    exact range_an h3
  have C37 : Hid (∀ W, Calls Try.prog 54 #[.agg #[.int .i64 code, .bool found, .string ak, .string av]] W fun e w' => e = .returned (.agg #[.int .i64 code, .bool found, .string ak, .string av]) ∧ Turn No W w') := Lib.hid fun W => clans_any code found ak av hfit2.ak hfit2.av W
  clear he2 hfit2
  rw [hA] at hA2
  injection hA2 with hA2
  injection hA2 with e1 e2
  subst e1 e2
  subst hA
  clear hR hW hf1 hf2 CF hf3
  go_enter Try.func22, Try.ntmps22
  go_upto_region 1 with (fail)
  generalize (w.alloc (.cells #[.int .u8 0, .string ⟨#[]⟩, .string ⟨#[]⟩, .string ⟨#[]⟩, .bool false, .bool false, .slice none 0 0] 34)).alloc (.cells #[.int .i64 0, .bool false, .string ⟨#[]⟩, .string ⟨#[]⟩] 38) = w1 at H0 ⊢
  obtain ⟨g4, hg4⟩ : ∃ g4, w.heap.size = g4 := ⟨_, rfl⟩
  obtain ⟨g5, hg5⟩ : ∃ g5, g4 + 1 = g5 := ⟨_, rfl⟩
  have HG := Lib.hid hg4
  rw [hg4, hg5] at H0
  rw [hg4, hg5]
  clear hg4 hg5
  go_upto_region 2 with (first | (go_at_call 52; with_reducible refine (C1.out _ H0.out.tu).mono ?_; rintro e w2 ⟨rfl, ht2⟩; have HT2 := Lib.hid (H0.out.tu.trans ht2); have H2 := Lib.hid (H0.out.no ht2); clear ht2) | (go_at_call 52; with_reducible refine (C2.out _ HT2.out).mono ?_; rintro e w3 ⟨rfl, ht3⟩; have HT3 := Lib.hid (HT2.out.trans ht3); have H3 := Lib.hid (H2.out.no ht3); clear ht3) | (go_at_call 52; with_reducible refine (C3.out _ HT3.out).mono ?_; rintro e w4 ⟨rfl, ht4⟩; have H4 := Lib.hid (H3.out.no ht4); clear ht4))
  clear C1 C2 C3 H2 H3 H0 HT2 HT3
  have hro := HRO.out w4 H4.out.tu
  go_upto_region 4 with (first | (refine wpList_load_mid rfl 34 _ rfl b0 (off + n * 13 + 2) rfl [.int .u8 ok, .string k, .string v, .string o, .bool had, .bool aft, .slice A0 len cap0] _ hro Try.underlying34 rfl inf29 ?_) | (refine wpList_store_mid rfl 34 _ _ rfl g4 0 #[.int .u8 ok, .string k, .string v, .string o, .bool had, .bool aft, .slice B len c] rfl rfl H5.out.1.there4 inf29 (all_one (vs := [.int .u8 ok, .string k, .string v, .string o, .bool had, .bool aft, .slice B len c]) (one_op ⟨ok, k, v, o, had, aft, B, len, c⟩)) ?_) | (go_at_call 53; with_reducible refine (C36.out _ H4.out.tu).mono ?_; rintro e w5 ⟨B, c, rfl, ht5, ho5⟩; have H5 := Lib.hid (And.intro (H4.out.no ht5) (own_from ho5 H4.out.tu.size)); clear ht5 ho5))
  have H6 : Hid (Sb w (w5.setCells g4 0 [.int .u8 ok, .string k, .string v, .string o, .bool had, .bool aft, .slice B len c]) g4 g5 ⟨ok, k, v, o, had, aft, B, len, c⟩ ws ⟨0, false, ⟨#[]⟩, ⟨#[]⟩⟩) := Lib.hid (by rw [setCells_puts]; exact H5.out.1.set4 (o2 := ⟨ok, k, v, o, had, aft, B, len, c⟩) H5.out.2)
  generalize w5.setCells g4 0 [.int .u8 ok, .string k, .string v, .string o, .bool had, .bool aft, .slice B len c] = w6 at H6 ⊢
  clear H4 H5 hro HRO C36
  have hra := HRA.out w6 H6.out.tu
  go_upto_region 6 with (first | (refine wpList_load_mid rfl 38 _ rfl b0 (off + m * 13 + 9) rfl [.int .i64 code, .bool found, .string ak, .string av] _ hra Try.underlying38 rfl inf32 ?_) | (refine wpList_store_mid rfl 38 _ _ rfl g5 0 #[.int .i64 code, .bool found, .string ak, .string av] rfl rfl H7.out.there5 inf32 (all_one (vs := [.int .i64 code, .bool found, .string ak, .string av]) (one_an ⟨code, found, ak, av⟩)) ?_) | (go_at_call 54; with_reducible refine (C37.out _).mono ?_; rintro e w7 ⟨rfl, ht7⟩; have H7 := Lib.hid (H6.out.no ht7); clear ht7))
  have H8 : Hid (Sb w (w7.setCells g5 0 [.int .i64 code, .bool found, .string ak, .string av]) g4 g5 ⟨ok, k, v, o, had, aft, B, len, c⟩ ws ⟨code, found, ak, av⟩) := Lib.hid (by rw [setCells_puts]; exact H7.out.set5 (a2 := ⟨code, found, ak, av⟩))
  generalize w7.setCells g5 0 [.int .i64 code, .bool found, .string ak, .string av] = w8 at H8 ⊢
  clear H6 H7 hra HRA C37
  go_upto_region 12 with fail
  have p0 : w8.cell? ⟨g4, 0, none⟩ = some (.int .u8 ok) := H8.out.b4.cell 0
  have p1 : w8.cell? ⟨g4, 1, none⟩ = some (.string k) := H8.out.b4.cell 1
  have p2 : w8.cell? ⟨g4, 2, none⟩ = some (.string v) := H8.out.b4.cell 2
  have p3 : w8.cell? ⟨g4, 3, none⟩ = some (.string o) := H8.out.b4.cell 3
  have p4 : w8.cell? ⟨g4, 4, none⟩ = some (.bool had) := H8.out.b4.cell 4
  have p5 : w8.cell? ⟨g4, 5, none⟩ = some (.bool aft) := H8.out.b4.cell 5
  have p6 : w8.cell? ⟨g4, 6, none⟩ = some (.slice B len c) := H8.out.b4.cell 6
  have r0 : w8.cell? ⟨g5, 0, none⟩ = some (.int .i64 code) := H8.out.b5.cell 0
  have r1 : w8.cell? ⟨g5, 1, none⟩ = some (.bool found) := H8.out.b5.cell 1
  have r2 : w8.cell? ⟨g5, 2, none⟩ = some (.string ak) := H8.out.b5.cell 2
  have r3 : w8.cell? ⟨g5, 3, none⟩ = some (.string av) := H8.out.b5.cell 3
  have z4 := H8.out.b4.thawed
  have z5 := H8.out.b5.thawed
  have n1 := H8.out.ne
  have n2 := n1.symm
  go_region
  go_wp2_with fail
  have HZ := Lib.hid ((H8.out.all4.all5).no (Turn.refl No _).drew)
  clear p0 p1 p2 p3 p4 p5 p6 r0 r1 r2 r3 z4 z5 n1 n2
  (try simp only [Exit.inBlock, Exit.then])
  refine bodyPost_ret (results_cct rfl _ _ g4 g5 34 38 _ _ (0, 0) (0, 0) _ _ (by rfl) HZ.out.b4 Try.underlying34 rfl inf29 (by rfl) HZ.out.b5 Try.underlying38 rfl inf32) rfl ?_
  refine ⟨⟨ok, k, v, o, had, aft, B, len, c⟩, ?_, HZ.out.tu, ?_, ?_⟩
  · rw [hsa.out]; rfl
  · rw [hst.out.1]; rfl
  · rw [hst.out.2]; exact HZ.out.row
end Go.Proofs.Ytllppkfeiifklaa
namespace Go.Proofs.Ytllppkfeiifklaa
open Go.RowKit Go.Lib
set_option linter.unusedVariables false
set_option maxRecDepth 20000

theorem state_any (id0 : Int) (l : List Ev) (ps : List (List Wr)) (A : Option Addr) (cap : Nat) (w : World) (hR : Row w A (ecs l)) (hW : Rws w l ps) (hl : l.length ≤ 100000) :
    Calls Try.prog 22 #[.slice A l.length cap, .int .i64 id0] w fun r w' => ∃ o : Opx, r = .returned (.tuple #[o.valH, (stA l id0).valH, .int .i64 (stN l id0)]) ∧ Turn No w w' ∧ o.pure = stO l id0 ∧ w'.ownsRow w.heap.size 68 3 (.slice o.A o.len o.cap) o.len (wcs (stW l ps id0)) := by
  cases h1 : firstAt 1 id0 l with
  | none =>
    have e : stN l id0 = 0 := by simp [stN, h1]
    rw [e]
    cases h2 : firstAt 2 id0 l with
    | none => exact state_000 id0 l ps A cap w hR hW hl h1 h2
    | some m => exact state_010 id0 l ps A cap w hR hW hl m h1 h2
  | some n =>
    cases h2 : firstAt 2 id0 l with
    | none =>
      have e : stN l id0 = 1 := by simp [stN, h1, h2]
      rw [e]
      exact state_100 id0 l ps A cap w hR hW hl n h1 h2
    | some m =>
      cases h3 : firstAt 3 id0 l with
      | none =>
        have e : stN l id0 = 2 := by simp [stN, h1, h2, h3]
        rw [e]
        exact state_110 id0 l ps A cap w hR hW hl n m h1 h2 h3
      | some q =>
        have e : stN l id0 = 3 := by simp [stN, h1, h2, h3]
        rw [e]
        exact state_111 id0 l ps A cap w hR hW hl n m q h1 h2 h3
end Go.Proofs.Ytllppkfeiifklaa
namespace Go.Proofs.Ytllppkfeiifklaa
open Go.RowKit Go.Lib
set_option linter.unusedVariables false
set_option maxRecDepth 20000
set_option linter.unusedSimpArgs false

set_option maxHeartbeats 1000000 in
theorem count_any (kind0 id0 : Int) (l : List Ev) (A : Option Addr) (cap : Nat) (w : World) (hR : Row w A (ecs l)) (hm : l.length ≤ 100000) :
    Calls Try.prog 73 #[.slice A l.length cap, .int .u8 kind0, .int .i64 id0] w fun r w' => r = .returned (.int .i64 (cnt kind0 id0 l : Int)) ∧ w' = w := by
  have HL := Lib.hid hR
  clear hR
  go_enter Try.func73, Try.ntmps73
  go_wp2_with fail
  go_loopw [7, 8] (fun c i wr => ∃ kk : Nat, kk ≤ l.length ∧ i = .int .i64 (kk : Int) ∧ c = .int .i64 (cnt kind0 id0 (l.take kk) : Int) ∧ wr = w) (fun _ i _ => l.length - (RowKit.intOf i).toNat)
  case atStart => exact ⟨0, Nat.zero_le _, rfl, rfl, rfl⟩
  case round =>
    obtain ⟨kk, hk, rfl, rfl, rfl⟩ := hrel
    by_cases hlt : kk < l.length
    · obtain ⟨e, he⟩ : ∃ e, l[kk]? = some e := ⟨l[kk], List.getElem?_eq_getElem hlt⟩
      obtain ⟨b, off, hA, hb0, hx⟩ := HL.out.ev he
      have x0 : wr.cell? ⟨b, off + kk * 13, none⟩ = some (.int .u8 e.kind) := hx 0 _ rfl
      have x1 : wr.cell? ⟨b, off + kk * 13 + 1, none⟩ = some (.int .i64 e.id) := hx 1 _ rfl
      have HE := Lib.hid he
      have hcl := cnt_le kind0 id0 (l.take kk)
      rw [List.length_take] at hcl
      subst hA
      clear hx hb0 he
      by_cases h1 : e.kind = kind0
      · have q1 : (e.kind == kind0) = true := by simpa using h1
        by_cases h2 : e.id = id0
        · have q2 : (e.id == id0) = true := by simpa using h2
          have hp := cnt_yes HE.out (isAt_iff.2 ⟨h1, h2⟩)
          have HP := Lib.hid hp
          clear h1 h2 hp
          generalize cnt kind0 id0 (l.take kk) = q at hcl HP ⊢
          go_wp2_with fail
          exact ⟨⟨kk + 1, by omega, by go_num, by rw [HP.out]; go_num, (by first | rfl | trivial)⟩, by simp [RowKit.intOf]; omega⟩
        · have q2 : (e.id == id0) = false := by simpa using h2
          have hp := cnt_no (kind := kind0) (id := id0) HE.out (by unfold isAt; rw [q1, q2]; rfl)
          have HP := Lib.hid hp
          clear h1 h2 hp
          go_wp2_with fail
          exact ⟨⟨kk + 1, by omega, by go_num, by rw [HP.out], (by first | rfl | trivial)⟩, by simp [RowKit.intOf]; omega⟩
      · have q1 : (e.kind == kind0) = false := by simpa using h1
        have hp := cnt_no (kind := kind0) (id := id0) HE.out (by unfold isAt; rw [q1]; rfl)
        have HP := Lib.hid hp
        clear h1 hp
        go_wp2_with fail
        exact ⟨⟨kk + 1, by omega, by go_num, by rw [HP.out], (by first | rfl | trivial)⟩, by simp [RowKit.intOf]; omega⟩
    · obtain rfl : kk = l.length := by omega
      go_wp2_with fail
      go_ret
      refine ⟨?_, rfl⟩
      rw [List.take_length]; rfl

set_option maxHeartbeats 2000000 in
theorem refans_any (id0 : Int) (l : List Ev) (A : Option Addr) (cap : Nat) (w : World) (hR : Row w A (ecs l)) (hm : l.length ≤ 100000) :
    Calls Try.prog 74 #[.slice A l.length cap, .int .i64 id0] w fun r w' => r = .returned (stA l id0).valH ∧ Turn No w w' := by
  have HL := Lib.hid hR
  clear hR
  have HB : Hid (Turn No w (w.alloc (.cells #[.int .i64 0, .bool false, .string ⟨#[]⟩, .string ⟨#[]⟩] 38)) ∧ At (w.alloc (.cells #[.int .i64 0, .bool false, .string ⟨#[]⟩, .string ⟨#[]⟩] 38)) w.heap.size (.cells #[.int .i64 0, .bool false, .string ⟨#[]⟩, .string ⟨#[]⟩] 38 (0, 0))) := Lib.hid ⟨(Turn.refl _ _).alloc _, At.new _ _⟩
  go_enter Try.func74, Try.ntmps74
  go_upto_region 1 with fail
  generalize w.alloc (.cells #[.int .i64 0, .bool false, .string ⟨#[]⟩, .string ⟨#[]⟩] 38) = w1 at HB ⊢
  obtain ⟨g, hg⟩ : ∃ g, w.heap.size = g := ⟨_, rfl⟩
  have HG := Lib.hid hg
  rw [hg] at HB ⊢
  clear hg
  go_wp2_with fail
  go_loopw [5] (fun i wr => ∃ kk : Nat, kk ≤ l.length ∧ i = .int .i64 (kk : Int) ∧ wr = w1 ∧ Hid (∀ e ∈ l.take kk, isAt 2 id0 e = false)) (fun i _ => l.length - (RowKit.intOf i).toNat)
  case atStart => exact ⟨0, Nat.zero_le _, rfl, rfl, Lib.hid (by simp)⟩
  case round =>
    obtain ⟨kk, hk, rfl, rfl, HP⟩ := hrel
    have hth : wr.there g 0 4 := fun j hj => by
      rw [Nat.zero_add, HB.out.2.cell]
      exact ⟨by rw [Array.getElem?_eq_getElem (by simpa using hj)]; rfl, HB.out.2.thawed j⟩
    have hput : ∀ a : Ans, At (wr.setCells g 0 a.cs) g (.cells a.cs.toArray 38 (0, 0)) ∧ Turn No w (wr.setCells g 0 a.cs) := fun a => by
      rw [setCells_puts]
      refine ⟨?_, HB.out.1.then (turn_puts g a.cs 0 wr) fun i hi e => by have := HG.out; omega⟩
      have := At.puts a.cs 0 HB.out.2
      rwa [show cputs #[.int .i64 0, .bool false, .string ⟨#[]⟩, .string ⟨#[]⟩] 0 a.cs = a.cs.toArray from cputs4] at this
    have HPut := Lib.hid hput
    clear hput
    by_cases hlt : kk < l.length
    · obtain ⟨e, he⟩ : ∃ e, l[kk]? = some e := ⟨l[kk], List.getElem?_eq_getElem hlt⟩
      have hRw := HL.out.turn HB.out.1 fun _ _ _ h => h
      obtain ⟨b, off, hA, hb0, hx⟩ := hRw.ev he
      obtain ⟨kind, id, op, ⟨code, found, ak, av⟩⟩ := e
      have x0 : wr.cell? ⟨b, off + kk * 13, none⟩ = some (.int .u8 kind) := hx 0 _ rfl
      have x1 : wr.cell? ⟨b, off + kk * 13 + 1, none⟩ = some (.int .i64 id) := hx 1 _ rfl
      have hra : wr.rangeAt b (off + kk * 13 + 9) [.int .i64 code, .bool found, .string ak, .string av] := range_an hx
      have HE := Lib.hid he
      subst hA
      clear hx hb0 he hRw
      by_cases h1 : kind = 2
      · subst h1
        by_cases h2 : id = id0
        · subst h2
          have hs := answer_of (firstAt_some HE.out (isAt_iff.2 ⟨rfl, rfl⟩) HP.out) HE.out
          have HS := Lib.hid hs
          clear hs
          go_upto_region 5 with fail
          have h1c := all_one (vs := [.int .i64 code, .bool found, .string ak, .string av]) (one_an ⟨code, found, ak, av⟩)
          go_wp2_with (first | (refine wpList_load_mid rfl 38 _ rfl b (off + kk * 13 + 9) rfl [.int .i64 code, .bool found, .string ak, .string av] _ hra Try.underlying38 rfl inf32 ?_) | (refine wpList_store_mid rfl 38 _ _ rfl g 0 #[.int .i64 code, .bool found, .string ak, .string av] rfl rfl hth inf32 h1c ?_))
          (try simp only [Exit.inBlock, Exit.then])
          have hz := HPut.out ⟨code, found, ak, av⟩
          refine bodyPost_ret (results_cell_row rfl _ _ g 38 _ (0, 0) _ (by rfl) hz.1 Try.underlying38 rfl inf32) rfl ?_
          rw [HS.out]
          exact ⟨rfl, hz.2⟩
        · have q2 : (id == id0) = false := by simpa using h2
          have hp : Hid (isAt 2 id0 ⟨2, id, op, ⟨code, found, ak, av⟩⟩ = false) := Lib.hid (by unfold isAt; simp [q2])
          clear h2
          go_wp2_with fail
          have HQ := Lib.hid (not_snoc HP.out HE.out hp.out)
          exact ⟨⟨kk + 1, by omega, by go_num, (by first | rfl | trivial), HQ⟩, by simp [RowKit.intOf]; omega⟩
      · have q1 : (kind == 2) = false := by simpa using h1
        have hp : Hid (isAt 2 id0 ⟨kind, id, op, ⟨code, found, ak, av⟩⟩ = false) := Lib.hid (by unfold isAt; rw [show (Ev.kind ⟨kind, id, op, ⟨code, found, ak, av⟩⟩ == 2) = false from q1]; rfl)
        clear h1
        go_wp2_with fail
        have HQ := Lib.hid (not_snoc HP.out HE.out hp.out)
        exact ⟨⟨kk + 1, by omega, by go_num, (by first | rfl | trivial), HQ⟩, by simp [RowKit.intOf]; omega⟩
    · obtain rfl : kk = l.length := by omega
      have hr := HP.out
      rw [List.take_length] at hr
      have HS := Lib.hid (answer_no (firstAt_none hr))
      clear hr
      have h1c := all_one (vs := [.int .i64 0, .bool false, .string ⟨#[]⟩, .string ⟨#[]⟩]) (one_an ans00)
      go_wp2_with (refine wpList_store_mid rfl 38 _ _ rfl g 0 #[.int .i64 0, .bool false, .string ⟨#[]⟩, .string ⟨#[]⟩] rfl rfl hth inf32 h1c ?_)
      (try simp only [Exit.inBlock, Exit.then])
      have hz := HPut.out ans00
      refine bodyPost_ret (results_cell_row rfl _ _ g 38 _ (0, 0) _ (by rfl) hz.1 Try.underlying38 rfl inf32) rfl ?_
      rw [HS.out]
      exact ⟨rfl, hz.2⟩
end Go.Proofs.Ytllppkfeiifklaa
