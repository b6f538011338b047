/-
  add: an event that fits.
-/
import Derived.Test.YthopiamiipmobaaAddC
namespace Go.Proofs.Ythopiamiipmobaa
open Go.RowKit Go.Lib
set_option linter.unusedVariables false
set_option linter.unusedSimpArgs false

theorem Row.turn2 {X : Nat → Prop} {w w' : World} {A : Option Addr} {ws : List Wr} (h : Row w A (wcs ws)) (t : Turn X w w') (hX : ws ≠ [] → ∀ b o, A = some ⟨b, o, none⟩ → ¬ X b) : Row w' A (wcs ws) := by
  by_cases hw : ws = []
  · subst hw; exact Row.nil w' A
  · exact h.turn t (hX hw)
theorem cputs13 {c0 c1 c2 c3 c4 c5 c6 c7 c8 c9 c10 c11 c12 v0 v1 v2 v3 v4 v5 v6 v7 v8 v9 v10 v11 v12 : Value} : cputs #[c0, c1, c2, c3, c4, c5, c6, c7, c8, c9, c10, c11, c12] 0 [v0, v1, v2, v3, v4, v5, v6, v7, v8, v9, v10, v11, v12] = #[v0, v1, v2, v3, v4, v5, v6, v7, v8, v9, v10, v11, v12] := by
  simp [cputs]

set_option maxHeartbeats 4000000 in
theorem add_yes {w : World} {Z hb : Nat} {l : List Ev} {ps : List (List Wr)} {A : Option Addr} {cap : Nat} {m : Option Nat} (h : Ht w Z hb l ps A cap m) (hl : l.length < 65536) (hz : Z ≤ w.heap.size) (e : Ev) (ws : List Wr) (hf : e.fit ws)
    (hrow : Row w e.op.A (wcs ws)) (hsep : ws ≠ [] → ∀ b o, e.op.A = some ⟨b, o, none⟩ → ¬ Hx hb A m b) (hfit : fits l e = true) :
    Calls Try.prog 29 #[.pointer (some ⟨hb, 0, none⟩), e.val] w fun r w' => r = .returned (.int .i64 0) ∧ ∃ A1 c1 rB rd mb, Ht w' Z hb (l ++ [e.on A1 c1]) (ps ++ [ws]) rB rd (some mb) ∧ Turn (Hx hb A m) w w' ∧ (∀ i, Hx hb rB (some mb) i → Hx hb A m i ∨ w.heap.size ≤ i) ∧ ∀ i, ablk A1 = some i → w.heap.size ≤ i := by
  obtain ⟨kind, id, ⟨ok, k, v, o, had, aft, A0, len, cap0⟩, ⟨code, found, ak, av⟩⟩ := e
  have HA := Lib.hid (Ad.start h #[.int .u8 kind, .int .i64 id, .int .u8 ok, .string k, .string v, .string o, .bool had, .bool aft, .slice A0 len cap0, .int .i64 code, .bool found, .string ak, .string av])
  have HF : Hid (∀ W, Mp W m l → Calls Try.prog 33 #[.map m, .agg #[.int .u8 kind, .int .i64 id, .int .u8 ok, .string k, .string v, .string o, .bool had, .bool aft, .slice A0 len cap0, .int .i64 code, .bool found, .string ak, .string av]] W fun r w' => r = .returned (.bool true) ∧ Turn No W w') := Lib.hid fun W hm => by
    have := fits_any l h.right m ⟨kind, id, ⟨ok, k, v, o, had, aft, A0, len, cap0⟩, ⟨code, found, ak, av⟩⟩ hf.id W hm
    rwa [hfit] at this
  have CC : Hid (∀ W {mb g : Nat}, Hid (Ae w W Z hb l ps A cap m mb g #[.int .u8 kind, .int .i64 id, .int .u8 ok, .string k, .string v, .string o, .bool had, .bool aft, .slice A0 len cap0, .int .i64 code, .bool found, .string ak, .string av]) → Calls Try.prog 32 #[.agg #[.int .u8 kind, .int .i64 id, .int .u8 ok, .string k, .string v, .string o, .bool had, .bool aft, .slice A0 len cap0, .int .i64 code, .bool found, .string ak, .string av]] W fun r w' => ∃ B c, r = .returned (.agg #[.int .u8 kind, .int .i64 id, .int .u8 ok, .string k, .string v, .string o, .bool had, .bool aft, .slice B len c, .int .i64 code, .bool found, .string ak, .string av]) ∧ Turn No W w' ∧ w'.ownsRow W.heap.size 53 3 (.slice B len c) len (wcs ws)) :=
    Lib.hid fun W mb g hE => clev_any kind id ok k v o had aft A0 len cap0 code found ak av ws hf.k hf.v hf.o hf.ak hf.av hf.wf hf.n hf.few W (hrow.turn2 hE.out.tu hsep)
  have HFX := Lib.hid hf
  have HL := Lib.hid (And.intro hl (And.intro hz hfit))
  have hlb : decide ((65536 : Int) ≤ (l.length : Int)) = false := by simp; omega
  have hlb2 : ¬ (65536 : Int) ≤ (l.length : Int) := by omega
  have c0 := h.at_.cell 0
  have c0' := HA.out.ht.at_.cell 0
  simp only [List.getElem?_toArray, List.getElem?_cons_zero, List.getElem?_cons_succ] at c0 c0'
  clear hl h hz hf hrow hsep hfit
  go_enter Try.func29, Try.ntmps29
  go_upto_region 5 with (fail)
  clear hlb hlb2 c0'
  generalize w.alloc (.cells #[.int .u8 kind, .int .i64 id, .int .u8 ok, .string k, .string v, .string o, .bool had, .bool aft, .slice A0 len cap0, .int .i64 code, .bool found, .string ak, .string av] 34) = w1 at HA ⊢
  obtain ⟨g, hg⟩ : ∃ g, w.heap.size = g := ⟨_, rfl⟩
  rw [hg] at HA ⊢
  clear hg
  have hS0 : w1.drew.cell? ⟨hb, 1, none⟩ = some (.map m) ∧ w1.drew.cell? ⟨g, 0, none⟩ = some (.int .u8 kind) ∧ w1.drew.cell? ⟨g, 1, none⟩ = some (.int .i64 id) ∧ w1.drew.cell? ⟨g, 2, none⟩ = some (.int .u8 ok) ∧ w1.drew.cell? ⟨g, 3, none⟩ = some (.string k) ∧ w1.drew.cell? ⟨g, 4, none⟩ = some (.string v) ∧ w1.drew.cell? ⟨g, 5, none⟩ = some (.string o) ∧ w1.drew.cell? ⟨g, 6, none⟩ = some (.bool had) ∧ w1.drew.cell? ⟨g, 7, none⟩ = some (.bool aft) ∧ w1.drew.cell? ⟨g, 8, none⟩ = some (.slice A0 len cap0) ∧ w1.drew.cell? ⟨g, 9, none⟩ = some (.int .i64 code) ∧ w1.drew.cell? ⟨g, 10, none⟩ = some (.bool found) ∧ w1.drew.cell? ⟨g, 11, none⟩ = some (.string ak) ∧ w1.drew.cell? ⟨g, 12, none⟩ = some (.string av) := HA.out.S
  have hS1 : Hid (∀ w2, Turn No w1 w2 → w2.cell? ⟨hb, 1, none⟩ = some (.map m) ∧ w2.cell? ⟨g, 0, none⟩ = some (.int .u8 kind) ∧ w2.cell? ⟨g, 1, none⟩ = some (.int .i64 id) ∧ w2.cell? ⟨g, 2, none⟩ = some (.int .u8 ok) ∧ w2.cell? ⟨g, 3, none⟩ = some (.string k) ∧ w2.cell? ⟨g, 4, none⟩ = some (.string v) ∧ w2.cell? ⟨g, 5, none⟩ = some (.string o) ∧ w2.cell? ⟨g, 6, none⟩ = some (.bool had) ∧ w2.cell? ⟨g, 7, none⟩ = some (.bool aft) ∧ w2.cell? ⟨g, 8, none⟩ = some (.slice A0 len cap0) ∧ w2.cell? ⟨g, 9, none⟩ = some (.int .i64 code) ∧ w2.cell? ⟨g, 10, none⟩ = some (.bool found) ∧ w2.cell? ⟨g, 11, none⟩ = some (.string ak) ∧ w2.cell? ⟨g, 12, none⟩ = some (.string av)) := Lib.hid fun w2 t => (HA.out.turn t).S
  have C1 := HF.out w1.drew (HA.out.ht.no (Turn.refl _ _).drew).mp
  replace C1 := Lib.hid C1
  clear HF
  go_region_held3 (fun W => W.cell? ⟨hb, 1, none⟩ = some (.map m) ∧ W.cell? ⟨g, 0, none⟩ = some (.int .u8 kind) ∧ W.cell? ⟨g, 1, none⟩ = some (.int .i64 id) ∧ W.cell? ⟨g, 2, none⟩ = some (.int .u8 ok) ∧ W.cell? ⟨g, 3, none⟩ = some (.string k) ∧ W.cell? ⟨g, 4, none⟩ = some (.string v) ∧ W.cell? ⟨g, 5, none⟩ = some (.string o) ∧ W.cell? ⟨g, 6, none⟩ = some (.bool had) ∧ W.cell? ⟨g, 7, none⟩ = some (.bool aft) ∧ W.cell? ⟨g, 8, none⟩ = some (.slice A0 len cap0) ∧ W.cell? ⟨g, 9, none⟩ = some (.int .i64 code) ∧ W.cell? ⟨g, 10, none⟩ = some (.bool found) ∧ W.cell? ⟨g, 11, none⟩ = some (.string ak) ∧ W.cell? ⟨g, 12, none⟩ = some (.string av)) (first | (with_reducible exact hS0) | (with_reducible exact hS1.out _ hy.out)) (first | (go_at_call 33; (with_reducible refine C1.out.mono ?_); rintro e wy ⟨rfl, hy0⟩; have hy := Lib.hid ((Turn.refl No w1).drew.trans hy0)))
  have hAD := Lib.hid (HA.out.turn hy.out)
  clear HA hS0 hS1 C1
  have qT := fun (W : World) (r : Option Nat) => run_eql_map_nil (P := Try.prog) W 57 3 62 r Try.underlying57
  have hmm := @run_makeMap Try.prog
  have y1 := hAD.out.ht.at_.cell 1
  have yf := hAD.out.ht.at_.thawed 1
  simp only [List.getElem?_toArray, List.getElem?_cons_zero, List.getElem?_cons_succ] at y1
  go_upto_if 24 with (fail)
  go_cut [] (fun wx => ∃ mb, Hid (Ae w wx Z hb l ps A cap m mb g #[.int .u8 kind, .int .i64 id, .int .u8 ok, .string k, .string v, .string o, .bool had, .bool aft, .slice A0 len cap0, .int .i64 code, .bool found, .string ak, .string av]))
  case first =>
    cases m with
    | none =>
      have hE := Lib.hid (hAD.out.make HL.out.2.1)
      have yf2 : (wy.alloc (.map #[] 0)).frozen? ⟨hb, 1, none⟩ = false := (hAD.out.ht.at_.no ((Turn.refl _ _).alloc _)).thawed 1
      have y12 : (wy.alloc (.map #[] 0)).cell? ⟨hb, 1, none⟩ = some (.map none) := by simpa using (hAD.out.ht.at_.no ((Turn.refl _ _).alloc _)).cell 1
      go_wp2_with fail
      go_meet
      case rel => exact ⟨_, hE⟩
    | some mb =>
      have hE := Lib.hid hAD.out.had
      go_wp2_with fail
      go_meet
      case rel => exact ⟨_, hE⟩
  case rest =>
    obtain ⟨mb, HE⟩ := hcut
    clear hAD y1 yf qT hmm hy c0
    have x0 := HE.out.b.cell 0
    have x1 := HE.out.b.cell 1
    have x2 := HE.out.b.cell 2
    have x3 := HE.out.b.cell 3
    have x4 := HE.out.b.cell 4
    have x5 := HE.out.b.cell 5
    have x6 := HE.out.b.cell 6
    have x7 := HE.out.b.cell 7
    have x8 := HE.out.b.cell 8
    have x9 := HE.out.b.cell 9
    have x10 := HE.out.b.cell 10
    have x11 := HE.out.b.cell 11
    have x12 := HE.out.b.cell 12
    simp only [List.getElem?_toArray, List.getElem?_cons_zero, List.getElem?_cons_succ] at x0 x1 x2 x3 x4 x5 x6 x7 x8 x9 x10 x11 x12
    go_upto_region 10 with (go_at_call 32; refine (CC.out _ HE).mono ?_; rintro e w7 ⟨B, c, rfl, ht7, ho7⟩; have HT7 := Lib.hid (And.intro ht7 ho7); clear ht7 ho7; have zz := (HE.out.b.no HT7.out.1).thawed; have y0 := (HE.out.b.no HT7.out.1).cell 0; have y1 := (HE.out.b.no HT7.out.1).cell 1; have y2 := (HE.out.b.no HT7.out.1).cell 2; have y3 := (HE.out.b.no HT7.out.1).cell 3; have y4 := (HE.out.b.no HT7.out.1).cell 4; have y5 := (HE.out.b.no HT7.out.1).cell 5; have y6 := (HE.out.b.no HT7.out.1).cell 6; have y7 := (HE.out.b.no HT7.out.1).cell 7; have y8 := (HE.out.b.no HT7.out.1).cell 8; have y9 := (HE.out.b.no HT7.out.1).cell 9; have y10 := (HE.out.b.no HT7.out.1).cell 10; have y11 := (HE.out.b.no HT7.out.1).cell 11; have y12 := (HE.out.b.no HT7.out.1).cell 12; simp only [List.getElem?_toArray, List.getElem?_cons_zero, List.getElem?_cons_succ] at y0 y1 y2 y3 y4 y5 y6 y7 y8 y9 y10 y11 y12)
    have HB2 := (HE.out.turn HT7.out.1).box (turn_puts g [.int .u8 kind, .int .i64 id, .int .u8 ok, .string k, .string v, .string o, .bool had, .bool aft, .slice B len c, .int .i64 code, .bool found, .string ak, .string av] 0 w7) (At.puts [.int .u8 kind, .int .i64 id, .int .u8 ok, .string k, .string v, .string o, .bool had, .bool aft, .slice B len c, .int .i64 code, .bool found, .string ak, .string av] 0 (HE.out.b.no HT7.out.1))
    have hof : Hid ((puts w7 g 0 [.int .u8 kind, .int .i64 id, .int .u8 ok, .string k, .string v, .string o, .bool had, .bool aft, .slice B len c, .int .i64 code, .bool found, .string ak, .string av]).ownsRow w.heap.size 53 3 (.slice B len c) len (wcs ws)) := Lib.hid (own_grown (own_from HT7.out.2 HE.out.tu.size) (turn_puts g [.int .u8 kind, .int .i64 id, .int .u8 ok, .string k, .string v, .string o, .bool had, .bool aft, .slice B len c, .int .i64 code, .bool found, .string ak, .string av] 0 w7) fun kk hk e => by
      subst e
      rw [own_ablk] at hk
      obtain ⟨_, cur, h3⟩ := own_at HT7.out.2 hk
      exact (HE.out.b.no HT7.out.1).ne h3 (cells_ne (by decide)) rfl)
    rw [cputs13] at HB2
    have HAf : Hid (Af w (puts w7 g 0 [.int .u8 kind, .int .i64 id, .int .u8 ok, .string k, .string v, .string o, .bool had, .bool aft, .slice B len c, .int .i64 code, .bool found, .string ak, .string av]) Z hb l ps A cap m mb g ⟨kind, id, ⟨ok, k, v, o, had, aft, B, len, c⟩, ⟨code, found, ak, av⟩⟩ ws) := Lib.hid ⟨HB2, hof.out, HFX.out.on B c, HL.out.2.1⟩
    clear HB2 hof CC HE zz y0 y1 y2 y3 y4 y5 y6 y7 y8 y9 y10 y11 y12 x0 x1 x2 x3 x4 x5 x6 x7 x8 x9 x10 x11 x12
    simp only [puts] at HAf
    generalize (((((((((((((w7.setCell ⟨g, 0, none⟩ (.int .u8 kind)).setCell ⟨g, 1, none⟩ (.int .i64 id)).setCell ⟨g, 2, none⟩ (.int .u8 ok)).setCell ⟨g, 3, none⟩ (.string k)).setCell ⟨g, 4, none⟩ (.string v)).setCell ⟨g, 5, none⟩ (.string o)).setCell ⟨g, 6, none⟩ (.bool had)).setCell ⟨g, 7, none⟩ (.bool aft)).setCell ⟨g, 8, none⟩ (.slice B len c)).setCell ⟨g, 9, none⟩ (.int .i64 code)).setCell ⟨g, 10, none⟩ (.bool found)).setCell ⟨g, 11, none⟩ (.string ak)).setCell ⟨g, 12, none⟩ (.string av)) = w8 at HAf ⊢
    clear HT7
    have HAd := HAf.out.turn (Turn.refl No w8).drew
    go_cut [] (fun wx => ∃ rB rd, Hid (Ag w wx Z hb l ps A m mb g ⟨kind, id, ⟨ok, k, v, o, had, aft, B, len, c⟩, ⟨code, found, ak, av⟩⟩ ws rB rd))
    case first =>
      obtain ⟨rB, rd, w5, q, tn, fz, cz, hg⟩ := HAd.append HL.out.1
      replace hg := Lib.hid hg
      have tn2 : Turn No w8 (w8.alloc (.cells #[.int .u8 kind, .int .i64 id, .int .u8 ok, .string k, .string v, .string o, .bool had, .bool aft, .slice B len c, .int .i64 code, .bool found, .string ak, .string av] 34)) := (Turn.refl _ _).alloc _
      have s0 := HAf.out.ae.ht.at_.cell 0
      have s0' := (HAf.out.ae.ht.at_.no tn2).cell 0
      have d0 := HAf.out.ae.b.cell 0
      have d1 := HAf.out.ae.b.cell 1
      have d2 := HAf.out.ae.b.cell 2
      have d3 := HAf.out.ae.b.cell 3
      have d4 := HAf.out.ae.b.cell 4
      have d5 := HAf.out.ae.b.cell 5
      have d6 := HAf.out.ae.b.cell 6
      have d7 := HAf.out.ae.b.cell 7
      have d8 := HAf.out.ae.b.cell 8
      have d9 := HAf.out.ae.b.cell 9
      have d10 := HAf.out.ae.b.cell 10
      have d11 := HAf.out.ae.b.cell 11
      have d12 := HAf.out.ae.b.cell 12
      have f0 := (HAf.out.ae.b.no tn2).cell 0
      have f1 := (HAf.out.ae.b.no tn2).cell 1
      have f2 := (HAf.out.ae.b.no tn2).cell 2
      have f3 := (HAf.out.ae.b.no tn2).cell 3
      have f4 := (HAf.out.ae.b.no tn2).cell 4
      have f5 := (HAf.out.ae.b.no tn2).cell 5
      have f6 := (HAf.out.ae.b.no tn2).cell 6
      have f7 := (HAf.out.ae.b.no tn2).cell 7
      have f8 := (HAf.out.ae.b.no tn2).cell 8
      have f9 := (HAf.out.ae.b.no tn2).cell 9
      have f10 := (HAf.out.ae.b.no tn2).cell 10
      have f11 := (HAf.out.ae.b.no tn2).cell 11
      have f12 := (HAf.out.ae.b.no tn2).cell 12
      simp only [List.getElem?_toArray, List.getElem?_cons_zero, List.getElem?_cons_succ, Ev.cs, Opx.cs, Ans.cs, List.cons_append, List.nil_append] at q s0 s0' fz cz d0 f0 d1 f1 d2 f2 d3 f3 d4 f4 d5 f5 d6 f6 d7 f7 d8 f8 d9 f9 d10 f10 d11 f11 d12 f12
      replace q : AppRun 22 22 (.slice A l.length cap) (.slice (some ⟨w8.heap.size, 0, none⟩) 1 1) (.slice rB (l.length + 1) rd) (w8.alloc (.cells #[.int .u8 kind, .int .i64 id, .int .u8 ok, .string k, .string v, .string o, .bool had, .bool aft, .slice B len c, .int .i64 code, .bool found, .string ak, .string av] 34)).drew w5 := q
      clear tn tn2 HAd HAf
      go_region_law (first | (refine step_append_run rfl _ _ 22 rfl _ _ _ rfl rfl q ?_))
      all_goals go_wp2_with fail
      all_goals go_meet
      case rel => exact ⟨rB, rd, hg⟩
      case rel => exact ⟨rB, rd, hg⟩
      case rel => exact ⟨rB, rd, hg⟩
    case rest =>
      obtain ⟨rB, rd, HG⟩ := hcut
      clear HAd HAf
      generalize wc = w9 at HG ⊢
      have hS0 : w9.drew.cell? ⟨hb, 1, none⟩ = some (.map (some mb)) ∧ w9.drew.cell? ⟨g, 0, none⟩ = some (.int .u8 kind) ∧ w9.drew.cell? ⟨g, 1, none⟩ = some (.int .i64 id) ∧ w9.drew.cell? ⟨g, 2, none⟩ = some (.int .u8 ok) ∧ w9.drew.cell? ⟨g, 3, none⟩ = some (.string k) ∧ w9.drew.cell? ⟨g, 4, none⟩ = some (.string v) ∧ w9.drew.cell? ⟨g, 5, none⟩ = some (.string o) ∧ w9.drew.cell? ⟨g, 6, none⟩ = some (.bool had) ∧ w9.drew.cell? ⟨g, 7, none⟩ = some (.bool aft) ∧ w9.drew.cell? ⟨g, 8, none⟩ = some (.slice B len c) ∧ w9.drew.cell? ⟨g, 9, none⟩ = some (.int .i64 code) ∧ w9.drew.cell? ⟨g, 10, none⟩ = some (.bool found) ∧ w9.drew.cell? ⟨g, 11, none⟩ = some (.string ak) ∧ w9.drew.cell? ⟨g, 12, none⟩ = some (.string av) := HG.out.S
      have hS1 : Hid (∀ w2, Turn (· = mb) w9.drew w2 → w2.cell? ⟨hb, 1, none⟩ = some (.map (some mb)) ∧ w2.cell? ⟨g, 0, none⟩ = some (.int .u8 kind) ∧ w2.cell? ⟨g, 1, none⟩ = some (.int .i64 id) ∧ w2.cell? ⟨g, 2, none⟩ = some (.int .u8 ok) ∧ w2.cell? ⟨g, 3, none⟩ = some (.string k) ∧ w2.cell? ⟨g, 4, none⟩ = some (.string v) ∧ w2.cell? ⟨g, 5, none⟩ = some (.string o) ∧ w2.cell? ⟨g, 6, none⟩ = some (.bool had) ∧ w2.cell? ⟨g, 7, none⟩ = some (.bool aft) ∧ w2.cell? ⟨g, 8, none⟩ = some (.slice B len c) ∧ w2.cell? ⟨g, 9, none⟩ = some (.int .i64 code) ∧ w2.cell? ⟨g, 10, none⟩ = some (.bool found) ∧ w2.cell? ⟨g, 11, none⟩ = some (.string ak) ∧ w2.cell? ⟨g, 12, none⟩ = some (.string av)) := Lib.hid fun w2 t => by
        obtain ⟨es, cl, hme⟩ := HG.out.mp.at_
        have a1 := (HG.out.at_.no (Turn.refl No w9).drew).turn t (fun e => hme.ne HG.out.at_ (by intro e; cases e) e.symm)
        have a2 := (HG.out.b.no (Turn.refl No w9).drew).turn t (fun e => hme.ne HG.out.b (by intro e; cases e) e.symm)
        have h1 := a1.cell 1
        have b0 := a2.cell
        simp only [List.getElem?_toArray, List.getElem?_cons_zero, List.getElem?_cons_succ] at h1
        exact ⟨h1, b0 0, b0 1, b0 2, b0 3, b0 4, b0 5, b0 6, b0 7, b0 8, b0 9, b0 10, b0 11, b0 12⟩
      go_upto_region 11 with fail
      have hf2 : fits l ⟨kind, id, ⟨ok, k, v, o, had, aft, B, len, c⟩, ⟨code, found, ak, av⟩⟩ = true := HL.out.2.2
      have C1 := note_any l mb ⟨kind, id, ⟨ok, k, v, o, had, aft, B, len, c⟩, ⟨code, found, ak, av⟩⟩ hf2 HFX.out.id (by have := HL.out.1; omega) w9.drew (HG.out.mp.no (Turn.refl _ _).drew)
      replace C1 := Lib.hid C1
      clear hf2
      go_region_held3 (fun W => W.cell? ⟨hb, 1, none⟩ = some (.map (some mb)) ∧ W.cell? ⟨g, 0, none⟩ = some (.int .u8 kind) ∧ W.cell? ⟨g, 1, none⟩ = some (.int .i64 id) ∧ W.cell? ⟨g, 2, none⟩ = some (.int .u8 ok) ∧ W.cell? ⟨g, 3, none⟩ = some (.string k) ∧ W.cell? ⟨g, 4, none⟩ = some (.string v) ∧ W.cell? ⟨g, 5, none⟩ = some (.string o) ∧ W.cell? ⟨g, 6, none⟩ = some (.bool had) ∧ W.cell? ⟨g, 7, none⟩ = some (.bool aft) ∧ W.cell? ⟨g, 8, none⟩ = some (.slice B len c) ∧ W.cell? ⟨g, 9, none⟩ = some (.int .i64 code) ∧ W.cell? ⟨g, 10, none⟩ = some (.bool found) ∧ W.cell? ⟨g, 11, none⟩ = some (.string ak) ∧ W.cell? ⟨g, 12, none⟩ = some (.string av)) (first | (with_reducible exact hS0) | (with_reducible exact hS1.out _ hy.out.2)) (first | (go_at_call 34; (with_reducible refine C1.out.mono ?_); rintro e wy2 ⟨rfl, hm, ht⟩; have hy := Lib.hid (And.intro hm ht); clear hm ht))
      go_wp2_with fail
      go_ret
      obtain ⟨h1, h2⟩ := HG.out.done HL.out.2.2 ((Turn.refl (· = mb) w9).drew.trans hy.out.2) hy.out.1
      exact ⟨rfl, B, c, rB, rd, mb, h1, h2, HG.out.new, HG.out.fresh⟩
end Go.Proofs.Ythopiamiipmobaa
