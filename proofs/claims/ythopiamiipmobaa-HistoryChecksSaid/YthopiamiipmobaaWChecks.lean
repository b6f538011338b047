/-
  HistoryChecks' walk.
-/
import Derived.Test.YthopiamiipmobaaWRefS
import Derived.Test.YthopiamiipmobaaWGreat
import Derived.Test.YthopiamiipmobaaWWakes
import Derived.Test.YthopiamiipmobaaArgs
import Derived.Below
namespace Go.Proofs.Ythopiamiipmobaa
open Go.RowKit Go.Lib
set_option linter.unusedVariables false
set_option linter.unusedSimpArgs false

theorem Turn.bel3 {w w' : World} (h : Turn No w w') : Below w.heap.size w w' := h.below (Nat.le_refl _) fun _ _ h => h
theorem Checked.uniq {l : List Ev} {a c a2 c2 : Int} (h : Checked l a c) (k : Checked l a2 c2) : a2 = a ∧ c2 = c := by
  rcases h with ⟨hr, rfl, rfl⟩ | ⟨n, hb, rfl, rfl⟩
  · exact k.of_right hr
  · rcases k with ⟨hr, _⟩ | ⟨m, hm, rfl, rfl⟩
    · exact absurd hb (hr.not_bad n)
    · obtain ⟨r1, e1, h1, f1⟩ := hb
      obtain ⟨r2, e2, h2, f2⟩ := hm
      have key : ∀ {p q : Nat} {e : Ev}, p < q → Right (l.take q) → l[p]? = some e → fits (l.take p) e = false → False := fun {p q e} hpq hr he hf => by
        have h3 : (l.take q)[p]? = some e := by rw [List.getElem?_take, if_pos hpq]; exact he
        have h4 := hr.at_ h3
        rw [List.take_take, Nat.min_eq_left (Nat.le_of_lt hpq)] at h4
        rw [h4] at hf; cases hf
      rcases Nat.lt_trichotomy n m with h | h | h
      · exact (key h r2 h1 f1).elim
      · subst h; exact ⟨rfl, rfl⟩
      · exact (key h r1 h2 f2).elim
theorem stO_few {w : World} {l : List Ev} {ps : List (List Wr)} (h : Rws w l ps) (id : Int) : (stO l id).len ≤ 100000 := by
  unfold stO
  cases hf : firstAt 1 id l with
  | none => show op00.len ≤ 100000; decide
  | some n =>
    obtain ⟨_, e, he, _⟩ := firstAt_get hf
    obtain ⟨ws, _, _, hfit⟩ := h.at_ he
    show ((l[n]?.map (·.op.pure)).getD op00).len ≤ 100000
    rw [he]
    exact hfit.few
theorem eql_ans_self (c : Int) (f : Bool) (k v : ByteArray) (w : World) : (binOp .eql 32 (.agg #[.int .i64 c, .bool f, .string k, .string v]) (.agg #[.int .i64 c, .bool f, .string k, .string v])).run Try.prog w = .ok (.bool true) w := by
  rw [eql_ans]; simp
theorem At.range2 {w : World} {g : Nat} {vs : List Value} {t : TypeId} {f : Nat × Nat} (h : At w g (.cells vs.toArray t f)) : w.rangeAt g 0 vs := h.range

set_option maxHeartbeats 8000000 in
set_option maxRecDepth 100000 in
theorem checks_law (A : Option Addr) (len1 cap : Nat) (l : List Ev) (ps : List (List Wr)) (a : Int) (ha : In64 a) (b : Int) (hb : In64 b) (w : World) (h : Inp w A len1 cap l ps) :
    Calls Try.prog 4 #[.slice A len1 cap, .int .i64 a, .int .i64 b] w fun r w' => r = .returned (.bool true) ∧ Below w.heap.size w w' := by
  have hlen := h.hlen
  subst hlen
  have CG := Lib.hid (great_any l _ cap w h.row h.hmax h.wlen)
  have CW := Lib.hid wakes_any
  have HI := Lib.hid h
  clear h
  go_enter Try.func4, Try.ntmps4
  go_upto_if 18 with (go_at_call 8; refine CG.out.mono ?_; rintro e w1 ⟨rfl, hg⟩; rcases hg with rfl | ⟨rfl, hg⟩)
  · go_wp2_with (go_at_call 9; refine (CW.out _).mono ?_; rintro e w2 ⟨rfl, ht⟩; have HT := Lib.hid ht; clear ht)
    go_ret
    exact ⟨rfl, HT.out.bel3⟩
  have HG := Lib.hid (And.intro hg.1 (HI.out.rws fun e he => by have := hg.2 e he; unfold few at this; omega))
  clear hg CG
  have hlim : Hid (l.length ≤ 100000) := Lib.hid (by have := HG.out.1; omega)
  have HROW : Hid (∀ W, Turn No w1 W → Row W A (ecs l)) := Lib.hid fun W t => HI.out.row.turn t fun _ _ _ h => h
  have C18 := Lib.hid (check_any l A cap w1 HI.out.row HI.out.ids hlim.out)
  go_upto_region 4 with (go_at_call 18; refine C18.out.mono ?_; rintro e w2 ⟨a1, d1, rfl, hc, ht⟩; have H2 := Lib.hid (And.intro hc ht); clear hc ht)
  have C19 := Lib.hid (refcheck_any l A cap w2 (HROW.out _ H2.out.2) hlim.out HI.out.hcap)
  go_upto_region 5 with (go_at_call 19; refine C19.out.mono ?_; rintro e w3 ⟨a2, d2, rfl, hc, ht⟩; have H3 := Lib.hid (And.intro (H2.out.1.uniq hc) (H2.out.2.trans ht)); clear hc ht)
  obtain ⟨rfl, rfl⟩ := H3.out.1
  have T3 := Lib.hid H3.out.2
  clear C18 C19 H2 H3
  obtain ⟨⟨code, found, ak, av⟩, hsa⟩ : ∃ x, stA l a = x := ⟨_, rfl⟩
  obtain ⟨sn, hsn⟩ : ∃ x, stN l a = x := ⟨_, rfl⟩
  obtain ⟨so, hso⟩ : ∃ x, stO l a = x := ⟨_, rfl⟩
  obtain ⟨sw, hsw⟩ : ∃ x, stW l ps a = x := ⟨_, rfl⟩
  have hfew : so.len ≤ 100000 := by rw [← hso]; exact stO_few HG.out.2 a
  obtain ⟨ok, k, v, o, had, aft, _, len, _⟩ := so
  have C20 : Hid (Calls Try.prog 20 #[.slice A l.length cap, .int .i64 a] w3 fun r w' => ∃ A1 c1, r = .returned (.tuple #[.agg #[.int .u8 ok, .string k, .string v, .string o, .bool had, .bool aft, .slice A1 len c1], .agg #[.int .i64 code, .bool found, .string ak, .string av], .int .i64 sn]) ∧ Turn No w3 w' ∧ Row w' A1 (wcs sw) ∧ sw.length = len) := Lib.hid (by
    refine (state_any a l ps A cap w3 (HROW.out _ T3.out) (HG.out.2.no T3.out) hlim.out).mono ?_
    rintro e w' ⟨⟨ok', k', v', o', had', aft', A1, len', c1⟩, rfl, ht, hp, hr⟩
    rw [hso] at hp
    rw [hsw] at hr
    simp only [Opx.pure, Opx.mk.injEq] at hp
    obtain ⟨rfl, rfl, rfl, rfl, rfl, rfl, _, rfl, _⟩ := hp
    have hl1 := hr.1
    rw [wcs_length] at hl1
    refine ⟨A1, c1, ?_, ht, row_of_own hr, by dsimp only at hl1; omega⟩
    rw [hsa, hsn])
  go_upto_region 6 with (go_at_call 20; refine C20.out.mono ?_; rintro e w4 ⟨A1, c1, rfl, ht, hr, hl⟩; have H4 := Lib.hid (And.intro (T3.out.trans ht) (And.intro hr hl)); clear ht hr hl)
  have H5 : Hid (Turn No w1 ((w4.alloc (.cells #[.int .u8 ok, .string k, .string v, .string o, .bool had, .bool aft, .slice A1 len c1] 29)).alloc (.cells #[.int .i64 code, .bool found, .string ak, .string av] 32)) ∧ At ((w4.alloc (.cells #[.int .u8 ok, .string k, .string v, .string o, .bool had, .bool aft, .slice A1 len c1] 29)).alloc (.cells #[.int .i64 code, .bool found, .string ak, .string av] 32)) w4.heap.size (.cells #[.int .u8 ok, .string k, .string v, .string o, .bool had, .bool aft, .slice A1 len c1] 29 (0, 0)) ∧ At ((w4.alloc (.cells #[.int .u8 ok, .string k, .string v, .string o, .bool had, .bool aft, .slice A1 len c1] 29)).alloc (.cells #[.int .i64 code, .bool found, .string ak, .string av] 32)) (w4.heap.size + 1) (.cells #[.int .i64 code, .bool found, .string ak, .string av] 32 (0, 0)) ∧ Row ((w4.alloc (.cells #[.int .u8 ok, .string k, .string v, .string o, .bool had, .bool aft, .slice A1 len c1] 29)).alloc (.cells #[.int .i64 code, .bool found, .string ak, .string av] 32)) A1 (wcs sw)) := Lib.hid
    ⟨(H4.out.1.alloc _).alloc _, (At.new _ _).no ((Turn.refl _ _).alloc _), by simpa using At.new (w4.alloc (.cells #[.int .u8 ok, .string k, .string v, .string o, .bool had, .bool aft, .slice A1 len c1] 29)) (.cells #[.int .i64 code, .bool found, .string ak, .string av] 32), H4.out.2.1.turn (((Turn.refl No w4).alloc _).alloc _) fun _ _ _ h => h⟩
  have hlw := Lib.hid H4.out.2.2
  generalize (w4.alloc (.cells #[.int .u8 ok, .string k, .string v, .string o, .bool had, .bool aft, .slice A1 len c1] 29)).alloc (.cells #[.int .i64 code, .bool found, .string ak, .string av] 32) = w5 at H5 ⊢
  obtain ⟨g1, hg1⟩ : ∃ g, w4.heap.size = g := ⟨_, rfl⟩
  rw [hg1] at H5 ⊢
  clear hg1 H4 C20 T3
  obtain ⟨g2, hg2⟩ : ∃ g, g1 + 1 = g := ⟨_, rfl⟩
  rw [hg2] at H5 ⊢
  clear hg2
  have C21 : Hid (Calls Try.prog 21 #[.slice A l.length cap, .int .i64 a] w5 fun r w' => ∃ A2 c2, r = .returned (.tuple #[.agg #[.int .u8 ok, .string k, .string v, .string o, .bool had, .bool aft, .slice A2 len c2], .agg #[.int .i64 code, .bool found, .string ak, .string av], .int .i64 sn]) ∧ Turn No w5 w' ∧ Row w' A2 (wcs sw)) := Lib.hid (by
    refine (refstate_any a l ps A cap w5 (HROW.out _ H5.out.1) (HG.out.2.no H5.out.1) hlim.out).mono ?_
    rintro e w' ⟨⟨ok', k', v', o', had', aft', A2, len', c2⟩, rfl, ht, hp, hr⟩
    rw [hso] at hp
    rw [hsw] at hr
    simp only [Opx.pure, Opx.mk.injEq] at hp
    obtain ⟨rfl, rfl, rfl, rfl, rfl, rfl, _, rfl, _⟩ := hp
    refine ⟨A2, c2, ?_, ht, hr⟩
    rw [hsa, hsn])
  go_upto_region 7 with (go_at_call 21; refine C21.out.mono ?_; rintro e w6 ⟨A2, c2, rfl, ht, hr⟩; have H6 := Lib.hid (And.intro ht hr); clear ht hr)
  have H7 : Hid (Turn No w1 ((w6.alloc (.cells #[.int .u8 ok, .string k, .string v, .string o, .bool had, .bool aft, .slice A2 len c2] 29)).alloc (.cells #[.int .i64 code, .bool found, .string ak, .string av] 32)) ∧ At ((w6.alloc (.cells #[.int .u8 ok, .string k, .string v, .string o, .bool had, .bool aft, .slice A2 len c2] 29)).alloc (.cells #[.int .i64 code, .bool found, .string ak, .string av] 32)) w6.heap.size (.cells #[.int .u8 ok, .string k, .string v, .string o, .bool had, .bool aft, .slice A2 len c2] 29 (0, 0)) ∧ At ((w6.alloc (.cells #[.int .u8 ok, .string k, .string v, .string o, .bool had, .bool aft, .slice A2 len c2] 29)).alloc (.cells #[.int .i64 code, .bool found, .string ak, .string av] 32)) (w6.heap.size + 1) (.cells #[.int .i64 code, .bool found, .string ak, .string av] 32 (0, 0)) ∧ Row ((w6.alloc (.cells #[.int .u8 ok, .string k, .string v, .string o, .bool had, .bool aft, .slice A2 len c2] 29)).alloc (.cells #[.int .i64 code, .bool found, .string ak, .string av] 32)) A1 (wcs sw) ∧ Row ((w6.alloc (.cells #[.int .u8 ok, .string k, .string v, .string o, .bool had, .bool aft, .slice A2 len c2] 29)).alloc (.cells #[.int .i64 code, .bool found, .string ak, .string av] 32)) A2 (wcs sw) ∧ At ((w6.alloc (.cells #[.int .u8 ok, .string k, .string v, .string o, .bool had, .bool aft, .slice A2 len c2] 29)).alloc (.cells #[.int .i64 code, .bool found, .string ak, .string av] 32)) g1 (.cells #[.int .u8 ok, .string k, .string v, .string o, .bool had, .bool aft, .slice A1 len c1] 29 (0, 0)) ∧ At ((w6.alloc (.cells #[.int .u8 ok, .string k, .string v, .string o, .bool had, .bool aft, .slice A2 len c2] 29)).alloc (.cells #[.int .i64 code, .bool found, .string ak, .string av] 32)) g2 (.cells #[.int .i64 code, .bool found, .string ak, .string av] 32 (0, 0))) := Lib.hid (by
    have t2 : Turn No w6 ((w6.alloc (.cells #[.int .u8 ok, .string k, .string v, .string o, .bool had, .bool aft, .slice A2 len c2] 29)).alloc (.cells #[.int .i64 code, .bool found, .string ak, .string av] 32)) := ((Turn.refl _ _).alloc _).alloc _
    have t3 := H6.out.1.trans t2
    exact ⟨H5.out.1.trans t3, (At.new _ _).no ((Turn.refl _ _).alloc _), by simpa using At.new (w6.alloc (.cells #[.int .u8 ok, .string k, .string v, .string o, .bool had, .bool aft, .slice A2 len c2] 29)) (.cells #[.int .i64 code, .bool found, .string ak, .string av] 32), H5.out.2.2.2.turn t3 fun _ _ _ h => h, H6.out.2.turn t2 fun _ _ _ h => h, H5.out.2.1.no t3, H5.out.2.2.1.no t3⟩)
  generalize (w6.alloc (.cells #[.int .u8 ok, .string k, .string v, .string o, .bool had, .bool aft, .slice A2 len c2] 29)).alloc (.cells #[.int .i64 code, .bool found, .string ak, .string av] 32) = w7 at H7 ⊢
  obtain ⟨g3, hg3⟩ : ∃ g, w6.heap.size = g := ⟨_, rfl⟩
  rw [hg3] at H7 ⊢
  clear hg3 H5 H6 C21
  obtain ⟨g4, hg4⟩ : ∃ g, g3 + 1 = g := ⟨_, rfl⟩
  rw [hg4] at H7 ⊢
  clear hg4
  have hmk := marks_length l
  have C23 := Lib.hid (marks_any l A cap w7 (HROW.out _ H7.out.1) hlim.out)
  have C24 : Hid (∀ W, Turn No w1 W → Calls Try.prog 24 #[.slice A l.length cap] W fun r w' => ∃ B c, r = .returned (.slice B (marks l).length c) ∧ Ints W w' (marks l) B c) := Lib.hid fun W t => refmarks_any l A cap W (HROW.out _ t) hlim.out
  have C22 : Hid (∀ W B1 c1 B2 c2, Row W B1 (ics (marks l)) → Row W B2 (ics (marks l)) → Calls Try.prog 22 #[.slice B1 (marks l).length c1, .slice B2 (marks l).length c2] W fun r w' => r = .returned (.bool true) ∧ Turn No W w') := Lib.hid fun W B1 c1 B2 c2 r1 r2 => sameints_any (marks l) B1 B2 c1 c2 W r1 r2 (by have := hlim.out; omega)
  have C25 : Hid (∀ W, Turn No w7 W → Calls Try.prog 25 #[.agg #[.int .u8 ok, .string k, .string v, .string o, .bool had, .bool aft, .slice A1 len c1], .agg #[.int .u8 ok, .string k, .string v, .string o, .bool had, .bool aft, .slice A2 len c2]] W fun r w' => r = .returned (.bool true) ∧ Turn No W w') := Lib.hid fun W t => sameop_any ok k v o had aft A1 A2 len c1 c2 sw hlw.out hfew W (H7.out.2.2.2.1.turn t fun _ _ _ h => h) (H7.out.2.2.2.2.1.turn t fun _ _ _ h => h)
  have C26 : Hid (∀ W, Turn No w1 W → Calls Try.prog 26 #[.slice A l.length cap, .int .i64 a, .int .i64 b] W fun r w' => r = .returned (.bool (ahead l a b)) ∧ Turn No W w') := Lib.hid fun W t => ahead_any a b l A cap W (HROW.out _ t) hlim.out HI.out.hcap
  have C27 : Hid (∀ W, Turn No w1 W → Calls Try.prog 27 #[.slice A l.length cap, .int .i64 a, .int .i64 b] W fun r w' => r = .returned (.bool (ahead l a b)) ∧ w' = W) := Lib.hid fun W t => refahead_any a b l A cap W (HROW.out _ t) hlim.out
  generalize ahead l a b = ah at C26 C27
  have qe := eql_ans_self code found ak av
  clear hmk hfew hsa hsn hso hsw
  go_wp2_with (first
    | (go_at_call 23; refine C23.out.mono ?_; rintro e w8 ⟨B, c, rfl, hi⟩; have H8 := Lib.hid hi; clear hi)
    | (go_at_call 24; refine (C24.out _ (H7.out.1.trans H8.out.tu)).mono ?_; rintro e w9 ⟨B', c', rfl, hi⟩; have H9 := Lib.hid (And.intro hi (H8.out.no hi.tu)); clear hi)
    | (go_at_call 22; refine (C22.out _ _ _ _ _ (row_of_own H9.out.2.row) (row_of_own H9.out.1.row)).mono ?_; rintro e w10 ⟨rfl, ht⟩; have H10 := Lib.hid (H9.out.2.tu.trans ht); clear ht; have p0 : w10.cell? ⟨g1, 0, none⟩ = some (.int .u8 ok) := (H7.out.2.2.2.2.2.1.no H10.out).cell 0; have p1 : w10.cell? ⟨g1, 1, none⟩ = some (.string k) := (H7.out.2.2.2.2.2.1.no H10.out).cell 1; have p2 : w10.cell? ⟨g1, 2, none⟩ = some (.string v) := (H7.out.2.2.2.2.2.1.no H10.out).cell 2; have p3 : w10.cell? ⟨g1, 3, none⟩ = some (.string o) := (H7.out.2.2.2.2.2.1.no H10.out).cell 3; have p4 : w10.cell? ⟨g1, 4, none⟩ = some (.bool had) := (H7.out.2.2.2.2.2.1.no H10.out).cell 4; have p5 : w10.cell? ⟨g1, 5, none⟩ = some (.bool aft) := (H7.out.2.2.2.2.2.1.no H10.out).cell 5; have p6 : w10.cell? ⟨g1, 6, none⟩ = some (.slice A1 len c1) := (H7.out.2.2.2.2.2.1.no H10.out).cell 6; have q0 : w10.cell? ⟨g3, 0, none⟩ = some (.int .u8 ok) := (H7.out.2.1.no H10.out).cell 0; have q1 : w10.cell? ⟨g3, 1, none⟩ = some (.string k) := (H7.out.2.1.no H10.out).cell 1; have q2 : w10.cell? ⟨g3, 2, none⟩ = some (.string v) := (H7.out.2.1.no H10.out).cell 2; have q3 : w10.cell? ⟨g3, 3, none⟩ = some (.string o) := (H7.out.2.1.no H10.out).cell 3; have q4 : w10.cell? ⟨g3, 4, none⟩ = some (.bool had) := (H7.out.2.1.no H10.out).cell 4; have q5 : w10.cell? ⟨g3, 5, none⟩ = some (.bool aft) := (H7.out.2.1.no H10.out).cell 5; have q6 : w10.cell? ⟨g3, 6, none⟩ = some (.slice A2 len c2) := (H7.out.2.1.no H10.out).cell 6)
    | (go_at_call 25; refine (C25.out _ H10.out).mono ?_; rintro e w11 ⟨rfl, ht⟩; have H11 := Lib.hid (H10.out.trans ht); clear ht; have r0 : w11.cell? ⟨g2, 0, none⟩ = some (.int .i64 code) := (H7.out.2.2.2.2.2.2.no H11.out).cell 0; have r1 : w11.cell? ⟨g2, 1, none⟩ = some (.bool found) := (H7.out.2.2.2.2.2.2.no H11.out).cell 1; have r2 : w11.cell? ⟨g2, 2, none⟩ = some (.string ak) := (H7.out.2.2.2.2.2.2.no H11.out).cell 2; have r3 : w11.cell? ⟨g2, 3, none⟩ = some (.string av) := (H7.out.2.2.2.2.2.2.no H11.out).cell 3; have u0 : w11.cell? ⟨g4, 0, none⟩ = some (.int .i64 code) := (H7.out.2.2.1.no H11.out).cell 0; have u1 : w11.cell? ⟨g4, 1, none⟩ = some (.bool found) := (H7.out.2.2.1.no H11.out).cell 1; have u2 : w11.cell? ⟨g4, 2, none⟩ = some (.string ak) := (H7.out.2.2.1.no H11.out).cell 2; have u3 : w11.cell? ⟨g4, 3, none⟩ = some (.string av) := (H7.out.2.2.1.no H11.out).cell 3)
    | (go_at_call 26; refine (C26.out _ (H7.out.1.trans H11.out)).mono ?_; rintro e w12 ⟨rfl, ht⟩; have H12 := Lib.hid ((H7.out.1.trans H11.out).trans ht); clear ht)
    | (go_at_call 27; refine (C27.out _ H12.out).mono ?_; rintro e w13 ⟨rfl, hw⟩; replace hw := hw.symm; subst hw)
    | (go_at_call 9; refine (CW.out _).mono ?_; rintro e w14 ⟨rfl, ht⟩; have H14 := Lib.hid (H12.out.trans ht); clear ht))
  go_ret
  exact ⟨rfl, H14.out.bel3⟩
end Go.Proofs.Ythopiamiipmobaa
