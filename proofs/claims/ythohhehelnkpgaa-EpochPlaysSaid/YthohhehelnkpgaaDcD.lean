/-
  What Retire of the document's epoch comes to.
-/
import Derived.Test.YthohhehelnkpgaaDcC
namespace Go.Proofs.Ythohhehelnkpgaa
open Go.RowKit Go.Maps Go.IntWalk Go.Lib
set_option linter.unusedVariables false
section
variable {Z qb g n : Nat} {av : Option Nat} {w w' : World} {E : Ab} {pv_ lv : Value} {ws : List Value} {t : Int}

theorem info65 : (Try.prog.info? 65).map (fun i => (i.zero, i.size, i.bytes)) = some (some (.agg #[.int .i64 0, .slice none 0 0]), 2, 32) := by kernel_rfl
theorem waits_append (h : w.ownsRow Z 65 2 lv n (flatR g ws)) (hw : ws.length = n) (g0 : Nat) {t0 : TypeId} {z0 : Nat × Nat} {A : Option Addr} {m c : Nat} (hg : At w g0 (.cells #[.int .i64 ((g + n : Nat) : Int), .slice A m c] t0 z0)) (hl : n < 1000000) (hb : Z ≤ w.heap.size) (ty : TypeId) :
    ∃ B cap w', (Builtin.append_ #[33, 33] ty #[lv, .slice (some ⟨g0, 0, none⟩) 1 1]).run Try.prog w = .ok (.slice B (n + 1) cap) w' ∧ w'.ownsRow Z 65 2 (.slice B (n + 1) cap) (n + 1) (flatR g (ws ++ [.slice A m c])) ∧ Turn (fun i => lv.ownBlock = some i) w w' := by
  obtain ⟨i0, hi, hz0, hz1, hz2⟩ := info_parts info65
  obtain ⟨v', w', hr, h2, h3, _, h5⟩ := run_append_own_at (P := Try.prog) w Z 33 ty 65 i0 _ 2 32 Try.underlying33 hi hz0 hz1 hz2 rfl (by omega) lv n _ h ⟨g0, 0, none⟩ 1 1 [.int .i64 ((g + n : Nat) : Int), .slice A m c] rfl
    (fun j u hu => by rw [Addr.add_lit, hg.cell]; simpa using hu)
    (fun u hu => by
      simp only [List.mem_cons, List.not_mem_nil, or_false] at hu
      rcases hu with rfl | rfl <;> rfl) (by unfold maxLen; omega) (by omega) hb
  obtain ⟨B, cap, rfl⟩ := own_form h2
  refine ⟨B, cap, w', hr, ?_, (Turn.refl _ w).grown h3 (fun k hk => Or.inl hk)⟩
  rw [flatR_snoc, hw]
  exact h2

/-- What a Retire leaves: a new list in the second field. -/
theorem DcAt.retired {w4 : World} {B : Option Addr} {cap : Nat} {x : Value} (h : DcAt Z w qb av E pv_ lv ws) (hn : E.len < 100000) (f : Value) (ht : Turn (fun i => lv.ownBlock = some i) w w4) (hr : w4.ownsRow Z 65 2 (.slice B (E.fs.length + 1) cap) (E.fs.length + 1) (flatR E.gone (ws ++ [x])))
    (hx : Nums Z w x E.tasks) (ha : ∀ b, x.ownBlock = some b → av ≠ some b) :
    Dc Z (w4.setCell ⟨qb, 1, none⟩ (.slice B (E.fs.length + 1) cap)) qb av (E.retire f) ∧ Tr Ro Z w (w4.setCell ⟨qb, 1, none⟩ (.slice B (E.fs.length + 1) cap)) := by
  have no : ∀ i c ty f, At w i (.cells c ty f) → ty ≠ 65 → ¬ lv.ownBlock = some i := fun i c ty f hi hne e => by
    obtain ⟨⟨c2, h2⟩, _⟩ := own_block h.row e
    have := hi.eq h2
    injection this with _ e _
    exact hne e
  have a4 := h.at_.turn ht (no _ _ _ _ h.at_ (by decide))
  have tz := set_turn w4 qb 1 (.slice B (E.fs.length + 1) cap)
  have no2 : ∀ i c ty f, At w4 i (.cells c ty f) → ty ≠ 35 → ¬ i = qb := fun i c ty f hi hne e => by
    subst e
    have := hi.eq a4
    injection this with _ e _
    exact hne e
  have num : ∀ v l, Nums Z w v l → Nums Z (w4.setCell ⟨qb, 1, none⟩ (.slice B (E.fs.length + 1) cap)) v l := fun v l hv =>
    (hv.turn ht (fun i c _ hi _ => no _ _ _ _ hi (by decide))).turn tz (fun i c _ hi _ => no2 _ _ _ _ hi (by decide))
  have tt : Tr Ro Z w w4 := Turn.mono ht fun i _ e => by
    obtain ⟨⟨c2, h2⟩, h3, _⟩ := own_block h.row e
    exact ⟨h3, Or.inr ⟨c2, 65, _, Or.inr rfl, h2⟩⟩
  have hfl : (E.retire f).fs.length = E.fs.length + 1 := by simp [Ab.retire]
  refine ⟨⟨pv_, _, ws ++ [x], a4.set 1 _, num _ _ h.pins, h.pav, ?_, by rw [List.length_append, hfl, h.len]; rfl, fun i v hv => ?_, h.wf.retire f hn, h.base⟩, tt.trans (Tr.set a4 (Or.inl rfl) h.base 1 _)⟩
  · rw [hfl]
    exact own_turn hr tz (fun i c _ hi _ => no2 _ _ _ _ hi (by decide))
  · rw [List.getElem?_append] at hv
    split at hv
    · exact ⟨num _ _ (h.waits i v hv).1, (h.waits i v hv).2⟩
    · rename_i hge
      have h0 : i - ws.length = 0 := by
        rcases Nat.eq_zero_or_pos (i - ws.length) with h0 | h0
        · exact h0
        · rw [List.getElem?_eq_none (by simp; omega)] at hv; cases hv
      rw [h0] at hv
      simp at hv
      subst hv
      refine ⟨?_, ha⟩
      have hil : i = E.fs.length := by have := h.len; omega
      rw [show (E.retire f).P = E.P from rfl, show (E.retire f).gone + i = E.len by rw [hil]; rfl, wl_all h.wf]
      exact num _ _ hx

set_option maxRecDepth 100000 in
set_option maxHeartbeats 4000000 in
theorem rretire_any (h : Dc Z w qb av E) (f : Value) (hn : E.len < 100000) (ha : ∀ i, av = some i → i < w.heap.size) :
    Calls Try.prog 21 #[.pointer (some ⟨qb, 0, none⟩), .int .i64 (E.len : Int)] w fun e w' => e = .returned (.tuple #[]) ∧ Dc Z w' qb av (E.retire f) ∧ Tr Ro Z w w' := by
  obtain ⟨p, l, ws, hd⟩ := h
  have hTl : E.tasks.length ≤ 100000 := by unfold Ab.tasks; rw [List.length_map]; exact hd.wf.small.1
  have hfl : E.fs.length < 1000000 := by have : E.gone + E.fs.length < 100000 := hn; omega
  have hzs : Z ≤ w.heap.size := Nat.le_trans hd.base (Nat.le_of_lt hd.lt)
  have c0 := hd.cells.1
  have lq := hd.lt
  -- the list of the pinned, copied
  have t1 : Turn (fun _ => False) w ((w.alloc (.cells #[.int .i64 (E.len : Int), .slice none 0 0] 65)).drew) := ((Turn.refl _ w).alloc _).drew
  have a1 : At ((w.alloc (.cells #[.int .i64 (E.len : Int), .slice none 0 0] 65)).drew) w.heap.size (.cells #[.int .i64 (E.len : Int), .slice none 0 0] 65 (0, 0)) := At.new w _
  have hR1 : ∃ A cap w2, AppRun 27 27 (.slice none 0 0) p (.slice A E.tasks.length cap) ((w.alloc (.cells #[.int .i64 (E.len : Int), .slice none 0 0] 65)).drew) w2 ∧ Nums w.heap.size w2 (.slice A E.tasks.length cap) E.tasks ∧ Turn (fun _ => False) ((w.alloc (.cells #[.int .i64 (E.len : Int), .slice none 0 0] 65)).drew) w2 := by
    rcases hd.pins.2 with ⟨rfl, h0⟩ | ⟨g, cap, cur, rfl, hb, hg, hle, _⟩
    · have : E.tasks = [] := List.length_eq_zero_iff.1 h0
      rw [this]
      exact ⟨none, 0, _, ⟨append_nothing (Z := w.heap.size) _ (World.ownsRow_nil _ _ 3 1) none 0 27⟩, Nums.nil _ _, Turn.refl _ _⟩
    · obtain ⟨A, capA, w2, q, nn, tt⟩ := append_part (Nums.nil w.heap.size ((w.alloc (.cells #[.int .i64 (E.len : Int), .slice none 0 0] 65)).drew)) (hd.pins.same t1) 0 E.tasks.length cap (by omega) (by simp; omega) t1.size 27
      simp only [List.length_nil, Nat.zero_add, List.nil_append, List.drop_zero, List.take_length] at q nn
      exact ⟨A, capA, w2, ⟨q⟩, nn, Tno tt⟩
  obtain ⟨A, cap, w2, HR1, hN2, t2⟩ := hR1
  have a2 := a1.turn t2 (fun h => h)
  have y0 := a2.cell 0
  have y1 := a2.cell 1
  have yz := a2.thawed 1
  simp at y0 y1
  obtain ⟨pA, pcap, rfl⟩ := hd.pins.form
  obtain ⟨lA, lcap, rfl⟩ := own_form hd.row
  have te : Turn (fun _ => False) w w2 := t1.trans t2
  -- the world behind the store into it
  have a3 := a2.set 1 (.slice A E.tasks.length cap)
  have hx3 : Turn (fun _ => False) w (w2.setCell ⟨w.heap.size, 1, none⟩ (.slice A E.tasks.length cap)) := te.then (set_turn w2 w.heap.size 1 _) (fun i hi e => by omega)
  have n3 := hN2.turn (set_turn w2 w.heap.size 1 (.slice A E.tasks.length cap)) (fun i c _ hi _ e => by subst e; cases hi.eq a2)
  have hd3 := hd.same hx3
  have lx : w.heap.size < w2.heap.size := a2.lt
  have sz3 : (w2.setCell ⟨w.heap.size, 1, none⟩ (.slice A E.tasks.length cap)).heap.size = w2.heap.size := by simp [World.setCell]
  have d0 := hd3.cells
  have qne : ¬ qb = w.heap.size := by omega
  have x0 := a3.cell 0
  have x1 := a3.cell 1
  simp at x0 x1
  generalize hw3 : w2.setCell ⟨w.heap.size, 1, none⟩ (.slice A E.tasks.length cap) = w3 at hx3 n3 hd3 sz3 d0 x0 x1 a3
  obtain ⟨d00, d01⟩ := d0
  have lx3 : w.heap.size < w3.heap.size := by omega
  have t4 : Turn (fun _ => False) w3 ((w3.alloc (.cells #[.int .i64 (E.len : Int), .slice A E.tasks.length cap] 65)).drew) := ((Turn.refl _ w3).alloc _).drew
  have a4 : At ((w3.alloc (.cells #[.int .i64 (E.len : Int), .slice A E.tasks.length cap] 65)).drew) w3.heap.size (.cells #[.int .i64 ((E.gone + E.fs.length : Nat) : Int), .slice A E.tasks.length cap] 65 (0, 0)) := At.new w3 _
  have hd4 := hd3.same t4
  obtain ⟨B, bcap, w5, q5, r5, t5⟩ := waits_append hd4.row hd4.len w3.heap.size a4 hfl (Nat.le_trans hzs (Nat.le_trans hx3.size t4.size)) 33
  have HR2 : AppRun 33 33 (.slice lA E.fs.length lcap) (.slice (some ⟨w2.heap.size, 0, none⟩) 1 1) (.slice B (E.fs.length + 1) bcap) ((w3.alloc (.cells #[.int .i64 (E.len : Int), .slice A E.tasks.length cap] 65)).drew) w5 := ⟨by rw [← sz3]; exact q5⟩
  have n4 := n3.same t4
  have hfin := hd4.retired hn f t5 r5 (n4.mono hzs) (new_av n4 ha)
  have at5 := hd4.at_.turn t5 (fun e => by
    obtain ⟨⟨c2, h2⟩, _⟩ := own_block hd4.row e
    cases hd4.at_.eq h2)
  have v0 := at5.cell 1
  have vz := at5.thawed 1
  simp at v0
  have HF := Lib.hid (And.intro hfin (Tr.of_same (T := Ro) (Z := Z) (hx3.trans t4)))
  have lq3 : qb < w2.heap.size := by omega
  clear hd t1 a1 hN2 t2 a2 te a3 hx3 n3 hd3 t4 a4 hd4 q5 r5 t5 n4 hfin at5 ha
  go_enter Try.func21, Try.ntmps21
  go_wp2_with fail
  go_region_law ((refine step_append_run (by rfl) _ _ 27 (by rfl) _ _ _ (by rfl) (by rfl) HR1 ?_))
  all_goals
    go_wp2_with fail
  all_goals
    go_region_law ((refine step_append_run (by rfl) _ _ 33 (by rfl) _ _ _ (by rfl) (by rfl) HR2 ?_))
  all_goals
    go_wp2_with fail
    go_end0
    exact ⟨rfl, HF.out.1.1, HF.out.2.trans HF.out.1.2⟩
end
end Go.Proofs.Ythohhehelnkpgaa
