/-
  ArtnodeNobody, walked.
-/
import Derived.Test.YtijlcehjlacihaaAmI
import Derived.Test.YtijlcehjlacihaaAnI
import Derived.Test.YtijlcehjlacihaaWk
import Derived.Test.YtijlcehjlacihaaAg
namespace Go.Proofs.Ytijlcehjlacihaa
open Go.RowKit Go.Lib
set_option linter.unusedVariables false
set_option maxRecDepth 20000
set_option linter.unusedSimpArgs false

open Go.Shelf
attribute [local go_sem] Oper.semAt_some
theorem eqIn_seq (w : World) (d : Nat) (f : Fn) (b c : Array Value) : (Op.equalIn (d + 1) 39 (.func f b c) .nilFunc).run Try.prog w = .ok false w := by
  simp [Op.equalIn, run_underlying Try.underlying39]
theorem eql_seq (w : World) (f : Fn) (b c : Array Value) : (binOp .eql 39 (.func f b c) .nilFunc).run Try.prog w = .ok (.bool false) w := by
  simp only [binOp, Op.equal, Op.maxDepth]
  rw [show (10000 : Nat) = 9999 + 1 from rfl, Sem.run_bind, eqIn_seq]
  rfl
set_option maxRecDepth 100000 in
set_option maxHeartbeats 8000000 in
theorem nobody_any (b : Nat) (hb : b < 256) (k : Int) (w : World) : Calls Try.prog 4 #[.int .u8 (b : Int), .int .i64 k] w fun e w' => e = .returned (.bool true) ∧ Below w.heap.size w w' := by
  obtain ⟨F, hF⟩ : ∃ F, F = Fence.wide := ⟨_, rfl⟩
  have hro : F.round = none := by rw [hF]; rfl
  have hfn : ∀ f, F.fn f := fun f => by rw [hF]; trivial
  have CI : ∀ (n : Nat) {f : FuncId} {args : Array Value} {w : World} {R : Ending → World → Prop}, Calls Try.prog f args w R → CallsIn F n Try.prog f args w R := fun n f args w R h => by rw [hF]; exact callsIn_wide.2 h
  have C1 := Lib.hid fun (W : World) => CI 4 (NI.set_nil W (.int .u8 (b : Int)) (.int .i64 k))
  have C2 := Lib.hid fun (W : World) => CI 4 (NI.get_nil W b hb)
  have C3 := Lib.hid fun (W : World) => CI 4 (NI.drop_nil W b hb)
  have C4 := Lib.hid fun (W : World) => CI 4 (NI.from_nil W k)
  have C5 := Lib.hid fun (W : World) => CI 4 (NI.all_nil W)
  have C6 := Lib.hid fun (W : World) => CI 4 (NI.len_nil W)
  have C7 := Lib.hid fun (W : World) => CI 4 (NI.kind_nil W)
  have C8 := Lib.hid fun (W : World) => CI 4 (wakes_any W)
  have qf := eql_seq
  refine (callsIn_wide (n := 5)).1 ?_
  rw [← hF]
  refine callsIn_of_wp_marks Try.func4 rfl (hfn _) ?_ hro
  have g1 := hfn 11
  have g2 := hfn 18
  have g3 := hfn 13
  have g4 := hfn 15
  have g5 := hfn 19
  have g6 := hfn 20
  have g7 := hfn 21
  have g8 := hfn 8
  clear hF CI
  simp only [Try.ntmps4, List.size_toArray, List.length_cons, List.length_nil, Nat.reduceAdd, Nat.reduceSub, Array.replicate_succ, Array.replicate_zero, List.push_toArray, List.append_toArray, List.nil_append, List.cons_append]
  gi_wp2_with (first
    | (gi_at_call 11; (with_reducible refine (C1.out _).mono ?_); rintro e w1 ⟨rfl, hw⟩; replace hw := hw.symm; subst hw)
    | (gi_at_call 18; (with_reducible refine (C2.out _).mono ?_); rintro e w2 ⟨rfl, h2⟩; replace h2 := Lib.hid h2)
    | (gi_at_call 13; (with_reducible refine (C3.out _).mono ?_); rintro e w3 ⟨rfl, h3⟩; replace h3 := Lib.hid (h2.out.trans h3))
    | (gi_at_call 15; (with_reducible refine (C4.out _).mono ?_); rintro e w4 ⟨rfl, h4⟩; replace h4 := Lib.hid (h3.out.trans h4))
    | (gi_at_call 19; have hx := h6; clear hx; (with_reducible refine (C5.out _).mono ?_); rintro e w6 ⟨l2, rfl, h7, h8⟩; replace h7 := Lib.hid h7; replace h8 := Lib.hid h8)
    | (gi_at_call 19; (with_reducible refine (C5.out _).mono ?_); rintro e w5 ⟨l, rfl, h5, h6⟩; replace h5 := Lib.hid h5; replace h6 := Lib.hid h6))
  have HB : Hid (w6.cell? ⟨w4.heap.size, 0, none⟩ = some (.int .i64 0) ∧ Turn No w w6) := Lib.hid ⟨NI.cell_no (h6.out.trans h8.out) ((At.new w4 (.cells #[.int .i64 0] 3)).cell 0), ((h4.out.trans ((Turn.refl No w4).alloc _)).trans h6.out).trans h8.out⟩
  obtain ⟨A, B, ca, cb, hT, hX⟩ := h7.out.tel
  have hX2 : ∀ i, NI.tX l2 A B i → i < w6.heap.size := fun i hi => (hX i hi).2
  have hbel : Below w.heap.size w w6 := HB.out.2.below (Nat.le_refl _) fun _ _ h => h
  refine wpIn_rangeFunc_ownG hro (by decide) (gf := 38) (lb := #[.pointer (some ⟨l2, 0, none⟩)]) rfl (hfn _) (enters_of Try.func38 (by kernel_rfl) rfl)
    (NI.allf_stops F 4 (hfn _) hro (by decide) l2 [] (by simp) A B ca cb w6 hX2 hT) NI.seqK_t (NI.seqK_b hX2) (Below.refl _ _) (fun _ => rfl)
    (fun _ W => W.cell? ⟨w4.heap.size, 0, none⟩ = some (.int .i64 0) ∧ Below w.heap.size w W) (fun _ _ _ => False)
    (OwnFrom.and (_root_.Go.Own.from (fun s A B row hs hg hr => cell_kept hs hg hr) _) (ownFrom_below (Nat.le_refl _) HB.out.2.size)) (fun c => fun _ _ _ _ h => h.elim) ⟨HB.out.1, hbel⟩ ?a1 ?assign ?body ?done ?stop
  case assign =>
    intro l x W K hK
    gi_wp2
    exact hK
  case body => exact fun l pre x W _ h => absurd h (Nat.not_lt_zero _)
  case stop => exact fun D c pre W _ _ h => h.elim
  case done =>
    rintro D xs W hD _ ⟨hc, hB⟩ hK
    have HBB := Lib.hid hB
    clear hB hT hX hX2 hbel
    gi_wp2_with (first
      | (gi_at_call 20; (with_reducible refine (C6.out _).mono ?_); rintro e w7 ⟨rfl, h7⟩; have hc7 := NI.cell_no h7 hc; replace h7 := Lib.hid h7)
      | (gi_at_call 21; (with_reducible refine (C7.out _).mono ?_); rintro e w8 ⟨rfl, hw⟩; replace hw := hw.symm; subst hw)
      | (gi_at_call 8; (with_reducible refine (C8.out _).mono ?_); rintro e w9 ⟨rfl, h9⟩; replace h9 := Lib.hid (h7.out.trans h9)))
    have hK' : w9.heap[D]? = some (.deferred (some [])) := (h9.out.block D (Array.getElem?_eq_some_iff.1 hK).1 (fun h => h)).trans hK
    refine ⟨by simp, .inl ⟨_, _, rfl, run_takeDeferred hK', ?_⟩⟩
    refine ⟨.bool true, ?_, rfl, (HBB.out.trans (h9.out.below HBB.out.size (fun _ _ h => h))).trans (belowK_b (w := w6) HB.out.2.size w9 D _ _ hD hK' rfl rfl)⟩
    simp [results, Try.f4, go_sem]
end Go.Proofs.Ytijlcehjlacihaa
