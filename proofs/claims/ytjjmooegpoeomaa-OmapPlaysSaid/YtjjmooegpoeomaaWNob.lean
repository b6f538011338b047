/-
  OmapNobody: a nil map answers as an empty one.
-/
import Derived.Test.YtjjmooegpoeomaaArgs
namespace Go.Proofs.Ytjjmooegpoeomaa
open Go.RowKit Go.Lib
set_option linter.unusedVariables false
set_option linter.unusedSimpArgs false

theorem fit500 {a : ByteArray} (h : a.size ≤ 500) : Fit a := Nat.le_trans h (by decide)
/-- Four stores into a new block of an answer. -/
theorem ans_box (w : World) (a : Ans) : Turn No w ((((( w.alloc (.cells #[.int .i64 0, .bool false, .string ⟨#[]⟩, .string ⟨#[]⟩] 35)).setCell ⟨w.heap.size, 0, none⟩ (.int .i64 a.code)).setCell ⟨w.heap.size, 1, none⟩ (.bool a.found)).setCell ⟨w.heap.size, 2, none⟩ (.string a.k)).setCell ⟨w.heap.size, 3, none⟩ (.string a.v)) ∧
    At ((((( w.alloc (.cells #[.int .i64 0, .bool false, .string ⟨#[]⟩, .string ⟨#[]⟩] 35)).setCell ⟨w.heap.size, 0, none⟩ (.int .i64 a.code)).setCell ⟨w.heap.size, 1, none⟩ (.bool a.found)).setCell ⟨w.heap.size, 2, none⟩ (.string a.k)).setCell ⟨w.heap.size, 3, none⟩ (.string a.v)) w.heap.size (.cells a.ar 35 (0, 0)) := by
  constructor
  · exact (((((Turn.refl No w).alloc _).setCell (Or.inr (Nat.le_refl _)) _).setCell (Or.inr (Nat.le_refl _)) _).setCell (Or.inr (Nat.le_refl _)) _).setCell (Or.inr (Nat.le_refl _)) _
  · have := ((((At.new w (.cells #[.int .i64 0, .bool false, .string ⟨#[]⟩, .string ⟨#[]⟩] 35)).set 0 (.int .i64 a.code)).set 1 (.bool a.found)).set 2 (.string a.k)).set 3 (.string a.v)
    simpa [Ans.ar] using this

/-- What there is when the second answer is in its box. -/
structure Nb (w wx : World) (op : Array Value) (ac : Int) (af : Bool) (ak av : ByteArray) (g0 g4 g5 : Nat) : Prop where
  tu : Turn No w wx
  h0 : At wx g0 (.cells op 39 (0, 0))
  h4 : At wx g4 (.cells #[.int .i64 ac, .bool af, .string ak, .string av] 35 (0, 0))
  h5 : At wx g5 (.cells #[.int .i64 ac, .bool af, .string ak, .string av] 35 (0, 0))
section
variable {w wd : World} {op : Array Value} {ac : Int} {af : Bool} {ak av : ByteArray} {g0 g4 g5 : Nat}
theorem nb_new (t : Turn No w wd) (h0 : At wd g0 (.cells op 39 (0, 0))) (h4 : At wd g4 (.cells #[.int .i64 ac, .bool af, .string ak, .string av] 35 (0, 0))) : Nb w (wd.alloc (.cells #[.int .i64 ac, .bool af, .string ak, .string av] 35)) op ac af ak av g0 g4 wd.heap.size :=
  ⟨t.alloc _, h0.no ((Turn.refl _ _).alloc _), h4.no ((Turn.refl _ _).alloc _), At.new _ _⟩
theorem nb_set (t : Turn No w wd) (h0 : At wd g0 (.cells op 39 (0, 0))) (h4 : At wd g4 (.cells #[.int .i64 ac, .bool af, .string ak, .string av] 35 (0, 0))) (h5 : At wd g5 (.cells #[.int .i64 0, .bool false, .string ⟨#[]⟩, .string ⟨#[]⟩] 35 (0, 0))) (hle : w.heap.size ≤ g5) (hne : g4 ≠ g5) :
    Nb w ((((wd.setCell ⟨g5, 0, none⟩ (.int .i64 ac)).setCell ⟨g5, 1, none⟩ (.bool af)).setCell ⟨g5, 2, none⟩ (.string ak)).setCell ⟨g5, 3, none⟩ (.string av)) op ac af ak av g0 g4 g5 := by
  have t4 : Turn (fun i => i = g5) wd ((((wd.setCell ⟨g5, 0, none⟩ (.int .i64 ac)).setCell ⟨g5, 1, none⟩ (.bool af)).setCell ⟨g5, 2, none⟩ (.string ak)).setCell ⟨g5, 3, none⟩ (.string av)) :=
    (((Turn.set1 wd g5 0 _).trans (Turn.set1 _ g5 1 _)).trans (Turn.set1 _ g5 2 _)).trans (Turn.set1 _ g5 3 _)
  have n0 : g0 ≠ g5 := At.ne h0 h5 (fun e => by injection e with _ e; exact absurd e (by decide))
  refine ⟨t.then t4 (fun i hi e => by omega), h0.turn t4 n0, h4.turn t4 hne, ?_⟩
  simpa using (((h5.set 0 (.int .i64 ac)).set 1 (.bool af)).set 2 (.string ak)).set 3 (.string av)
end

set_option maxHeartbeats 4000000 in
theorem nobody_any (kind : Int) (k v o : ByteArray) (had aft : Bool) (A : Option Addr) (cap : Nat) (ws : List Wr) (w : World) (h : InO w ⟨kind, k, v, o, had, aft, A, ws.length, cap⟩ ws) :
    Calls Try.prog 4 #[.agg #[.int .u8 kind, .string k, .string v, .string o, .bool had, .bool aft, .slice A ws.length cap]] w fun e w' => e = .returned (.bool true) ∧ Turn No w w' := by
  have hr : Row w A (wcs ws) := h.row.row
  have hf := h.fit
  simp only at hf
  have HB : Hid (Turn No w (w.alloc (.cells #[.int .u8 kind, .string k, .string v, .string o, .bool had, .bool aft, .slice A ws.length cap] 39)) ∧ At (w.alloc (.cells #[.int .u8 kind, .string k, .string v, .string o, .bool had, .bool aft, .slice A ws.length cap] 39)) w.heap.size (.cells #[.int .u8 kind, .string k, .string v, .string o, .bool had, .bool aft, .slice A ws.length cap] 39 (0, 0))) := Lib.hid ⟨(Turn.refl _ _).alloc _, At.new _ _⟩
  have CG := Lib.hid fun (w1 : World) (t : Turn No w w1) => greatop_any kind k v o had aft A cap ws w1 (hr.turn t fun _ _ _ h => h) hf.1 hf.2.1 hf.2.2 h.row.fit h.row.hmax
  have CW := Lib.hid wakes_any
  have HR := Lib.hid hr
  clear h hf hr
  go_enter Try.func4, Try.ntmps4
  go_upto_region 1 with fail
  generalize w.alloc (.cells #[.int .u8 kind, .string k, .string v, .string o, .bool had, .bool aft, .slice A ws.length cap] 39) = w1 at HB ⊢
  generalize w.heap.size = g0 at HB ⊢
  have y0 := HB.out.2.cell 0
  have y1 := HB.out.2.cell 1
  have y2 := HB.out.2.cell 2
  have y3 := HB.out.2.cell 3
  have y4 := HB.out.2.cell 4
  have y5 := HB.out.2.cell 5
  have y6 := HB.out.2.cell 6
  simp at y0 y1 y2 y3 y4 y5 y6
  go_upto_if 7 with (go_at_call 21; refine (CG.out _ HB.out.1).mono ?_; rintro e w2 ⟨⟨bv, rfl, hP⟩, ht⟩; have H2 := Lib.hid (And.intro (HB.out.1.trans ht) (HB.out.2.no ht)); have HP := Lib.hid hP; clear ht hP)
  cases bv with
  | true =>
    go_wp2_with (go_at_call 10; refine (CW.out _).mono ?_; rintro e w3 ⟨rfl, ht⟩)
    go_ret
    exact ⟨rfl, H2.out.1.trans ht⟩
  | false =>
    have hF := HP.out rfl
    have z0 := H2.out.2.cell 0
    have z1 := H2.out.2.cell 1
    have z2 := H2.out.2.cell 2
    have z3 := H2.out.2.cell 3
    have z4 := H2.out.2.cell 4
    have z5 := H2.out.2.cell 5
    have z6 := H2.out.2.cell 6
    simp at z0 z1 z2 z3 z4 z5 z6
    clear y0 y1 y2 y3 y4 y5 y6 CG HP
    have CN := Lib.hid fun (W : World) (t : Turn No w W) => do_nil kind k v o had aft A cap ws W (HR.out.turn t fun _ _ _ h => h) ⟨fit500 hF.k, fit500 hF.v, fun x hx => ⟨fit500 (hF.w x hx).1, fit500 (hF.w x hx).2⟩⟩ (fit500 hF.o) (by have := hF.n; omega)
    have HF := Lib.hid hF
    obtain ⟨a, ha⟩ : ∃ a, doA [] kind k v o had aft ws = a := ⟨_, rfl⟩
    rw [ha] at CN
    have HA := Lib.hid ha
    obtain ⟨ac, af, ak, av⟩ := a
    simp only [Ans.val] at CN
    clear hF ha
    go_upto_region 5 with (go_at_call 16; refine (CN.out _ H2.out.1).mono ?_; rintro e w3 ⟨rfl, ht⟩; have H3 := Lib.hid (And.intro (H2.out.1.trans ht) (H2.out.2.no ht)); clear ht)
    clear z0 z1 z2 z3 z4 z5 z6
    have HW : Hid (Turn No w (w3.alloc (.cells #[.int .i64 ac, .bool af, .string ak, .string av] 35)) ∧ At (w3.alloc (.cells #[.int .i64 ac, .bool af, .string ak, .string av] 35)) g0 (.cells #[.int .u8 kind, .string k, .string v, .string o, .bool had, .bool aft, .slice A ws.length cap] 39 (0, 0)) ∧ At (w3.alloc (.cells #[.int .i64 ac, .bool af, .string ak, .string av] 35)) w3.heap.size (.cells #[.int .i64 ac, .bool af, .string ak, .string av] 35 (0, 0))) := Lib.hid ⟨H3.out.1.alloc _, H3.out.2.no ((Turn.refl _ _).alloc _), At.new _ _⟩
    generalize w3.alloc (.cells #[.int .i64 ac, .bool af, .string ak, .string av] 35) = w4 at HW ⊢
    generalize w3.heap.size = g4 at HW ⊢
    clear H3 H2
    have C0 : Hid (∀ W, Calls Try.prog 11 #[.slice none 0 0] W fun e w' => ∃ mb rb, e = .returned (.pointer (some ⟨mb, 0, none⟩)) ∧ Om w' 0 mb (some rb) [] ∧ W.heap.size ≤ mb ∧ W.heap.size ≤ rb ∧ Turn No W w') := Lib.hid fun W => new_nil W (Nat.zero_le _)
    have CD : Hid (∀ W mb rb, Om W 0 mb (some rb) [] → Turn No w W → w.heap.size ≤ mb → w.heap.size ≤ rb → Calls Try.prog 16 #[.pointer (some ⟨mb, 0, none⟩), .agg #[.int .u8 kind, .string k, .string v, .string o, .bool had, .bool aft, .slice A ws.length cap]] W fun e w' => e = .returned (.agg #[.int .i64 ac, .bool af, .string ak, .string av]) ∧ Turn No w w' ∧ ∀ g c t, t ≠ 65 → t ≠ 50 → At W g (.cells c t (0, 0)) → At w' g (.cells c t (0, 0))) := Lib.hid fun W mb rb hom t h1 h2 => by
      have hrow := HR.out
      have := do_any hom kind k v o had aft A cap ws (hrow.turn t fun _ _ _ h => h) (fun b o hA h0 => by
        obtain ⟨x, hx⟩ : ∃ x, ws[0]? = some x := ⟨ws[0], List.getElem?_eq_getElem h0⟩
        obtain ⟨b', o', hA', hb, _⟩ := hrow.wr hx
        rw [hA] at hA'
        injection hA' with hA'
        injection hA' with e1 _
        subst e1
        exact ⟨by omega, fun e => by injection e with e; omega⟩) ⟨fit500 HF.out.k, fit500 HF.out.v, fun x hx => ⟨fit500 (HF.out.w x hx).1, fit500 (HF.out.w x hx).2⟩⟩ (fit500 HF.out.o) (Nat.zero_le _) (by have := HF.out.n; simp; omega)
      refine this.mono ?_
      rintro e w' ⟨rfl, rb', _, _, t2⟩
      rw [HA.out]
      refine ⟨rfl, t.then t2 (fun i hi e => ?_), fun g c ty n1 n2 hat => ?_⟩
      · rcases e with e | e
        · omega
        · injection e with e; omega
      · have := hom.apart hat n1 n2
        exact hat.turn t2 (fun e => e.elim this.1 this.2)
    have z0 := HW.out.2.1.cell 0
    have z1 := HW.out.2.1.cell 1
    have z2 := HW.out.2.1.cell 2
    have z3 := HW.out.2.1.cell 3
    have z4 := HW.out.2.1.cell 4
    have z5 := HW.out.2.1.cell 5
    have z6 := HW.out.2.1.cell 6
    simp at z0 z1 z2 z3 z4 z5 z6
    go_cut [5] from 12 to 14 (fun s5 wx => ∃ g5, s5 = .pointer (some ⟨g5, 0, none⟩) ∧ Hid (Nb w wx #[.int .u8 kind, .string k, .string v, .string o, .bool had, .bool aft, .slice A ws.length cap] ac af ak av g0 g4 g5))
    case first =>
      have hSa : Hid (∀ W, Turn No w4 W → W.cell? ⟨g0, 0, none⟩ = some (.int .u8 kind) ∧ W.cell? ⟨g0, 1, none⟩ = some (.string k) ∧ W.cell? ⟨g0, 2, none⟩ = some (.string v) ∧ W.cell? ⟨g0, 3, none⟩ = some (.string o) ∧ W.cell? ⟨g0, 4, none⟩ = some (.bool had) ∧ W.cell? ⟨g0, 5, none⟩ = some (.bool aft) ∧ W.cell? ⟨g0, 6, none⟩ = some (.slice A ws.length cap)) := Lib.hid fun W t => by
        have ld := HW.out.2.1.no t
        exact ⟨by simpa using ld.cell 0, by simpa using ld.cell 1, by simpa using ld.cell 2, by simpa using ld.cell 3, by simpa using ld.cell 4, by simpa using ld.cell 5, by simpa using ld.cell 6⟩
      have hSe : Hid (∀ W, Turn No w W → At W g0 (.cells #[.int .u8 kind, .string k, .string v, .string o, .bool had, .bool aft, .slice A ws.length cap] 39 (0, 0)) → W.cell? ⟨g0, 0, none⟩ = some (.int .u8 kind) ∧ W.cell? ⟨g0, 1, none⟩ = some (.string k) ∧ W.cell? ⟨g0, 2, none⟩ = some (.string v) ∧ W.cell? ⟨g0, 3, none⟩ = some (.string o) ∧ W.cell? ⟨g0, 4, none⟩ = some (.bool had) ∧ W.cell? ⟨g0, 5, none⟩ = some (.bool aft) ∧ W.cell? ⟨g0, 6, none⟩ = some (.slice A ws.length cap)) := Lib.hid fun W t ld => by
        exact ⟨by simpa using ld.cell 0, by simpa using ld.cell 1, by simpa using ld.cell 2, by simpa using ld.cell 3, by simpa using ld.cell 4, by simpa using ld.cell 5, by simpa using ld.cell 6⟩
      have hSd : Hid (∀ W {g5 : Nat}, Nb w W #[.int .u8 kind, .string k, .string v, .string o, .bool had, .bool aft, .slice A ws.length cap] ac af ak av g0 g4 g5 → W.cell? ⟨g0, 0, none⟩ = some (.int .u8 kind) ∧ W.cell? ⟨g0, 1, none⟩ = some (.string k) ∧ W.cell? ⟨g0, 2, none⟩ = some (.string v) ∧ W.cell? ⟨g0, 3, none⟩ = some (.string o) ∧ W.cell? ⟨g0, 4, none⟩ = some (.bool had) ∧ W.cell? ⟨g0, 5, none⟩ = some (.bool aft) ∧ W.cell? ⟨g0, 6, none⟩ = some (.slice A ws.length cap)) := Lib.hid fun W g5 h => hSe.out W h.tu h.h0
      have tt0 : Turn No w4 w4.drew := (Turn.refl No w4).drew
      have tt1 : ∀ o, Turn No w4 (w4.alloc o).drew := fun o => ((Turn.refl No w4).alloc o).drew
      go_region_held3 (fun W => W.cell? ⟨g0, 0, none⟩ = some (.int .u8 kind) ∧ W.cell? ⟨g0, 1, none⟩ = some (.string k) ∧ W.cell? ⟨g0, 2, none⟩ = some (.string v) ∧ W.cell? ⟨g0, 3, none⟩ = some (.string o) ∧ W.cell? ⟨g0, 4, none⟩ = some (.bool had) ∧ W.cell? ⟨g0, 5, none⟩ = some (.bool aft) ∧ W.cell? ⟨g0, 6, none⟩ = some (.slice A ws.length cap)) (first | (with_reducible exact hSa.out _ tt0) | (with_reducible exact hSa.out _ T4.out) | (with_reducible exact hSa.out _ (tt0.alloc _)) | (with_reducible exact hSa.out _ (tt1 _)) | (with_reducible exact hSa.out _ (T4.out.alloc _).drew) | (with_reducible exact hSa.out _ (T4.out.alloc _)) | (with_reducible assumption)) (first | (go_at_call 11; refine (C0.out _).mono ?_; rintro e wn ⟨mb, rb, rfl, hom, l1, l2, ht⟩; have T4 : Hid (Turn No w4 wn) := Lib.hid (by first | exact (Turn.refl No w4).drew.trans ht | exact ((Turn.refl No w4).drew.alloc _).trans ht | exact ((Turn.refl No w4).alloc _).drew.trans ht); have HN : Hid (Om wn 0 mb (some rb) [] ∧ w.heap.size ≤ mb ∧ w.heap.size ≤ rb) := Lib.hid ⟨hom, Nat.le_trans HW.out.1.size (Nat.le_trans (by simp) l1), Nat.le_trans HW.out.1.size (Nat.le_trans (by simp) l2)⟩; have HT0 := Lib.hid ht; clear hom l1 l2 ht) | (go_at_call 16; refine (CD.out _ mb rb (by first | exact HN.out.1 | exact HN.out.1.no ((Turn.refl _ _).alloc _)) (by first | exact HW.out.1.trans T4.out | exact (HW.out.1.trans T4.out).alloc _) HN.out.2.1 HN.out.2.2).mono ?_; rintro e wd ⟨rfl, ht, hg⟩; have HD := Lib.hid (And.intro ht hg); clear ht hg; have hAE : Hid (At wd g0 (.cells #[.int .u8 kind, .string k, .string v, .string o, .bool had, .bool aft, .slice A ws.length cap] 39 (0, 0))) := Lib.hid (HD.out.2 _ _ _ (by decide) (by decide) (by first | exact HW.out.2.1.no T4.out | exact HW.out.2.1.no (T4.out.alloc _))); have hA4 : Hid (At wd g4 (.cells #[.int .i64 ac, .bool af, .string ak, .string av] 35 (0, 0))) := Lib.hid (HD.out.2 _ _ _ (by decide) (by decide) (by first | exact HW.out.2.2.no T4.out | exact HW.out.2.2.no (T4.out.alloc _))); have HC := Lib.hid (nb_new HD.out.1 hAE.out hA4.out); have hSC := hSd.out _ HC.out; have hSB := hSe.out _ HD.out.1 hAE.out; have hSZ := hSe.out (wd.alloc (.cells #[.int .i64 0, .bool false, .string ⟨#[]⟩, .string ⟨#[]⟩] 35)) (HD.out.1.alloc _) (hAE.out.no ((Turn.refl _ _).alloc _)); first | (have hz : At wd w4.heap.size (.cells #[.int .i64 0, .bool false, .string ⟨#[]⟩, .string ⟨#[]⟩] 35 (0, 0)) := HD.out.2 _ #[.int .i64 0, .bool false, .string ⟨#[]⟩, .string ⟨#[]⟩] 35 (by decide) (by decide) ((At.new w4.drew _).no HT0.out); have HS := Lib.hid (nb_set HD.out.1 hAE.out hA4.out hz (by first | exact HW.out.1.size | exact Nat.le_trans HW.out.1.size T4.out.size) (by have := HW.out.2.2.lt; have := T4.out.size; first | omega | (simp; omega))); have hSE := hSd.out _ HS.out; have hz0 := hz.cell 0; have hf0 := hz.thawed 0; have hz1 := hz.cell 1; have hf1 := hz.thawed 1; have hz2 := hz.cell 2; have hf2 := hz.thawed 2; have hz3 := hz.cell 3; have hf3 := hz.thawed 3; simp at hz0 hz1 hz2 hz3; clear hz) | (have hz := HD.out.2 _ #[.int .i64 0, .bool false, .string ⟨#[]⟩, .string ⟨#[]⟩] 35 (by decide) (by decide) (At.new wn _); have HS := Lib.hid (nb_set HD.out.1 hAE.out hA4.out hz (by first | exact HW.out.1.size | exact Nat.le_trans HW.out.1.size T4.out.size) (by have := HW.out.2.2.lt; have := T4.out.size; first | omega | (simp; omega))); have hSE := hSd.out _ HS.out; have hz0 := hz.cell 0; have hf0 := hz.thawed 0; have hz1 := hz.cell 1; have hf1 := hz.thawed 1; have hz2 := hz.cell 2; have hf2 := hz.thawed 2; have hz3 := hz.cell 3; have hf3 := hz.thawed 3; simp at hz0 hz1 hz2 hz3; clear hz) | (have hz : At wd w4.heap.size (.cells #[.int .i64 0, .bool false, .string ⟨#[]⟩, .string ⟨#[]⟩] 35 (0, 0)) := HD.out.2 _ #[.int .i64 0, .bool false, .string ⟨#[]⟩, .string ⟨#[]⟩] 35 (by decide) (by decide) (((At.new w4 _).no (Turn.refl No _).drew).no HT0.out); have HS := Lib.hid (nb_set HD.out.1 hAE.out hA4.out hz (by first | exact HW.out.1.size | exact Nat.le_trans HW.out.1.size T4.out.size) (by have := HW.out.2.2.lt; have := T4.out.size; first | omega | (simp; omega))); have hSE := hSd.out _ HS.out; have hz0 := hz.cell 0; have hf0 := hz.thawed 0; have hz1 := hz.cell 1; have hf1 := hz.thawed 1; have hz2 := hz.cell 2; have hf2 := hz.thawed 2; have hz3 := hz.cell 3; have hf3 := hz.thawed 3; simp at hz0 hz1 hz2 hz3; clear hz) | (have hSE := hSC)))
      all_goals go_wp2_with fail
      all_goals go_meet
      all_goals first | exact ⟨_, rfl, HS⟩ | exact ⟨_, rfl, HC⟩
    case rest =>
      obtain ⟨g5, rfl, HR5⟩ := hcut
      have hSa : Hid (∀ W, Turn No wc W → W.cell? ⟨g0, 0, none⟩ = some (.int .u8 kind) ∧ W.cell? ⟨g0, 1, none⟩ = some (.string k) ∧ W.cell? ⟨g0, 2, none⟩ = some (.string v) ∧ W.cell? ⟨g0, 3, none⟩ = some (.string o) ∧ W.cell? ⟨g0, 4, none⟩ = some (.bool had) ∧ W.cell? ⟨g0, 5, none⟩ = some (.bool aft) ∧ W.cell? ⟨g0, 6, none⟩ = some (.slice A ws.length cap) ∧ W.cell? ⟨g4, 0, none⟩ = some (.int .i64 ac) ∧ W.cell? ⟨g4, 1, none⟩ = some (.bool af) ∧ W.cell? ⟨g4, 2, none⟩ = some (.string ak) ∧ W.cell? ⟨g4, 3, none⟩ = some (.string av) ∧ W.cell? ⟨g5, 0, none⟩ = some (.int .i64 ac) ∧ W.cell? ⟨g5, 1, none⟩ = some (.bool af) ∧ W.cell? ⟨g5, 2, none⟩ = some (.string ak) ∧ W.cell? ⟨g5, 3, none⟩ = some (.string av)) := Lib.hid fun W t => by
        have h5 := HR5.out
        exact ⟨by simpa using (h5.h0.no t).cell 0, by simpa using (h5.h0.no t).cell 1, by simpa using (h5.h0.no t).cell 2, by simpa using (h5.h0.no t).cell 3, by simpa using (h5.h0.no t).cell 4, by simpa using (h5.h0.no t).cell 5, by simpa using (h5.h0.no t).cell 6, by simpa using (h5.h4.no t).cell 0, by simpa using (h5.h4.no t).cell 1, by simpa using (h5.h4.no t).cell 2, by simpa using (h5.h4.no t).cell 3, by simpa using (h5.h5.no t).cell 0, by simpa using (h5.h5.no t).cell 1, by simpa using (h5.h5.no t).cell 2, by simpa using (h5.h5.no t).cell 3⟩
      have q1 := fun W => eql_ans ac ac af af ak ak av av W
      rw [ansEq_same] at q1
      have tt0 : Turn No wc wc.drew := (Turn.refl No wc).drew
      have CN2 := Lib.hid fun (W : World) (t : Turn No wc W) => CN.out W (HR5.out.tu.trans t)
      clear CN z0 z1 z2 z3 z4 z5 z6 C0 CD
      go_upto_region 6 with fail
      go_region_held3 (fun W => W.cell? ⟨g0, 0, none⟩ = some (.int .u8 kind) ∧ W.cell? ⟨g0, 1, none⟩ = some (.string k) ∧ W.cell? ⟨g0, 2, none⟩ = some (.string v) ∧ W.cell? ⟨g0, 3, none⟩ = some (.string o) ∧ W.cell? ⟨g0, 4, none⟩ = some (.bool had) ∧ W.cell? ⟨g0, 5, none⟩ = some (.bool aft) ∧ W.cell? ⟨g0, 6, none⟩ = some (.slice A ws.length cap) ∧ W.cell? ⟨g4, 0, none⟩ = some (.int .i64 ac) ∧ W.cell? ⟨g4, 1, none⟩ = some (.bool af) ∧ W.cell? ⟨g4, 2, none⟩ = some (.string ak) ∧ W.cell? ⟨g4, 3, none⟩ = some (.string av) ∧ W.cell? ⟨g5, 0, none⟩ = some (.int .i64 ac) ∧ W.cell? ⟨g5, 1, none⟩ = some (.bool af) ∧ W.cell? ⟨g5, 2, none⟩ = some (.string ak) ∧ W.cell? ⟨g5, 3, none⟩ = some (.string av)) (first | (with_reducible exact hSa.out _ tt0) | (with_reducible exact hSa.out _ T6.out) | (with_reducible exact hSa.out _ T7.out)) (first | (go_at_call 20; (with_reducible refine (len_nil _).mono ?_); rintro e w6 ⟨rfl, hw⟩; subst hw) | (go_at_call 14; (with_reducible refine (all_nil _).mono ?_); rintro e w6 ⟨rfl, hw⟩; subst hw) | (go_at_call 16; (with_reducible refine (CN2.out _ tt0).mono ?_); rintro e w6 ⟨rfl, ht⟩; have T6 : Hid (Turn No wc w6) := Lib.hid (tt0.trans ht); clear ht) | (go_at_call 10; (with_reducible refine (CW.out _).mono ?_); rintro e w7 ⟨rfl, ht⟩; have T7 : Hid (Turn No wc w7) := Lib.hid (T6.out.trans ht); clear ht))
      go_wp2_with fail
      go_ret
      exact ⟨rfl, HR5.out.tu.trans T7.out⟩
end Go.Proofs.Ytjjmooegpoeomaa
