/-
  swap: a key has a value, if it has an old one, or is not there.
-/
import Derived.Test.YtjjmooegpoeomaaWRef
namespace Go.Proofs.Ytjjmooegpoeomaa
open Go.RowKit Go.Lib
set_option linter.unusedVariables false
set_option linter.unusedSimpArgs false

def swD (l : List Pr) (key o : ByteArray) (had : Bool) : Bool := decide ((getL l key).isSome = had) && (!had || decide ((getL l key).getD ⟨#[]⟩ = o))
/-- What is there in a swap: the map, the operation's box, the two answers' cells. -/
structure Sp (w wr : World) (Z mb : Nat) (rb : Option Nat) (l : List Pr) (g0 g g2 : Nat) (op : Array Value) (a : Ans) (rb' : Option Nat) (l' : List Pr) : Prop where
  om : Om wr Z mb rb' l'
  tu : Turn (fun k => k = mb ∨ rb = some k) w wr
  box : At wr g0 (.cells op 39 (0, 0))
  res : At wr g (.cells ans0 35 (0, 0))
  had : At wr g2 (.cells a.ar 35 (0, 0))
  old0 : w.heap.size ≤ g0
  old : w.heap.size ≤ g
  old2 : w.heap.size ≤ g2
  ne : g ≠ g2
  mlt : mb < w.heap.size
  rlt : ∀ k, rb = some k → k < w.heap.size
  rbs : rb' = rb ∨ ∃ k, rb' = some k ∧ w.heap.size ≤ k
  gne : rb' ≠ some g
section
variable {w wr w2 : World} {Z mb : Nat} {rb rb' : Option Nat} {l l' : List Pr} {g0 g g2 : Nat} {op : Array Value} {a : Ans}
theorem Sp.no (h : Sp w wr Z mb rb l g0 g g2 op a rb' l') (t : Turn No wr w2) : Sp w w2 Z mb rb l g0 g g2 op a rb' l' :=
  ⟨h.om.no t, h.tu.then t (fun _ _ h => h.elim), h.box.no t, h.res.no t, h.had.no t, h.old0, h.old, h.old2, h.ne, h.mlt, h.rlt, h.rbs, h.gne⟩
theorem Sp.put (h : Sp w wr Z mb rb l g0 g g2 op a rb l) {rb2 : Option Nat} {l2 : List Pr} (om : Om w2 Z mb rb2 l2) (hr : rb2 = rb ∨ ∃ k, rb2 = some k ∧ wr.heap.size ≤ k) (t : Turn (fun k => k = mb ∨ rb = some k) wr w2) :
    Sp w w2 Z mb rb l g0 g g2 op a rb2 l2 := by
  have far : ∀ i, w.heap.size ≤ i → ¬ (i = mb ∨ rb = some i) := fun i hi hx => by
    rcases hx with rfl | hx
    · have := h.mlt; omega
    · have := h.rlt i hx; omega
  refine ⟨om, h.tu.trans t, h.box.turn t (far _ h.old0), h.res.turn t (far _ h.old), h.had.turn t (far _ h.old2), h.old0, h.old, h.old2, h.ne, h.mlt, h.rlt, ?_, ?_⟩
  · rcases hr with e | ⟨k, e, hk⟩
    · exact .inl e
    · exact .inr ⟨k, e, Nat.le_trans h.tu.size hk⟩
  · rcases hr with e | ⟨k, e, hk⟩
    · rw [e]; exact h.gne
    · rw [e]
      intro e2
      injection e2 with e2
      have := h.res.lt
      omega
theorem Sp.fin (h : Sp w wr Z mb rb l g0 g g2 op a rb' l') : Fin w wr Z mb rb g g2 a rb' l' := ⟨h.om, h.tu, h.res, h.had, h.old, h.mlt, h.gne, h.rbs⟩
end

set_option maxHeartbeats 2000000 in
theorem swap_any {w : World} {Z mb : Nat} {rb : Option Nat} {l : List Pr} (h : Om w Z mb rb l) (kind : Int) (k v o : ByteArray) (had aft : Bool) (A : Option Addr) (len cap : Nat) (hkv : Fit k ∧ Fit v) (hn : l.length < 50000) (hZ : Z ≤ w.heap.size) :
    Calls Try.prog 38 #[.pointer (some ⟨mb, 0, none⟩), .agg #[.int .u8 kind, .string k, .string v, .string o, .bool had, .bool aft, .slice A len cap]] w fun e w' => e = .returned (.agg #[.int .i64 0, .bool (swD l k o had), .string ⟨#[]⟩, .string ((getL l k).getD ⟨#[]⟩)]) ∧
      ∃ rb', Om w' Z mb rb' (if swD l k o had = true then putL l k v else l) ∧ (rb' = rb ∨ ∃ k, rb' = some k ∧ w.heap.size ≤ k) ∧ Turn (fun k => k = mb ∨ rb = some k) w w' := by
  obtain ⟨fo, hfo⟩ : ∃ b, (getL l k).isSome = b := ⟨_, rfl⟩
  obtain ⟨vo, hvo⟩ : ∃ b, (getL l k).getD ⟨#[]⟩ = b := ⟨_, rfl⟩
  have hga : gans (getL l k) = ⟨0, fo, ⟨#[]⟩, vo⟩ := by unfold gans; rw [hfo, hvo]
  rw [hvo]
  obtain ⟨L2, hL2⟩ : ∃ L2, (if swD l k o had = true then putL l k v else l) = L2 := ⟨_, rfl⟩
  obtain ⟨dB, hdB⟩ : ∃ dB, swD l k o had = dB := ⟨_, rfl⟩
  have HLD := Lib.hid (And.intro hL2 hdB)
  rw [hL2, hdB]
  clear hL2 hdB
  have HB : Hid ((mb < w.heap.size) ∧ (∀ k, rb = some k → k < w.heap.size)) := Lib.hid ⟨h.lt, fun k hk => (h.rb_lt hk).2⟩
  have CG : Hid (∀ W, Turn No w W → Calls Try.prog 35 #[.pointer (some ⟨mb, 0, none⟩), .string k] W fun e w' => e = .returned (.agg #[.int .i64 0, .bool fo, .string ⟨#[]⟩, .string vo]) ∧ Turn No W w') := Lib.hid fun W t => by
    have := get_any (h.no t) k
    rw [hga] at this
    exact this
  have H1 : Hid (Om w Z mb rb l ∧ Turn No w ((w.alloc (.cells #[.int .u8 kind, .string k, .string v, .string o, .bool had, .bool aft, .slice A len cap] 39)).alloc (.cells #[.int .i64 0, .bool false, .string ⟨#[]⟩, .string ⟨#[]⟩] 35)) ∧ At ((w.alloc (.cells #[.int .u8 kind, .string k, .string v, .string o, .bool had, .bool aft, .slice A len cap] 39)).alloc (.cells #[.int .i64 0, .bool false, .string ⟨#[]⟩, .string ⟨#[]⟩] 35)) w.heap.size (.cells #[.int .u8 kind, .string k, .string v, .string o, .bool had, .bool aft, .slice A len cap] 39 (0, 0)) ∧ At ((w.alloc (.cells #[.int .u8 kind, .string k, .string v, .string o, .bool had, .bool aft, .slice A len cap] 39)).alloc (.cells #[.int .i64 0, .bool false, .string ⟨#[]⟩, .string ⟨#[]⟩] 35)) (w.heap.size + 1) (.cells ans0 35 (0, 0)) ∧ w.heap.size ≤ w.heap.size ∧ w.heap.size ≤ w.heap.size + 1) :=
    Lib.hid ⟨h, ((Turn.refl _ _).alloc _).alloc _, (At.new _ _).no ((Turn.refl _ _).alloc _), At.new2 _ _ _, Nat.le_refl _, Nat.le_succ _⟩
  clear hga h
  go_enter Try.func38, Try.ntmps38
  go_upto_region 1 with fail
  generalize (w.alloc (.cells #[.int .u8 kind, .string k, .string v, .string o, .bool had, .bool aft, .slice A len cap] 39)).alloc (.cells #[.int .i64 0, .bool false, .string ⟨#[]⟩, .string ⟨#[]⟩] 35) = w1 at H1 ⊢
  obtain ⟨g0, hg0⟩ : ∃ g, w.heap.size = g := ⟨_, rfl⟩
  rw [hg0] at H1 ⊢
  obtain ⟨g, hg⟩ : ∃ g, g0 + 1 = g := ⟨_, rfl⟩
  rw [hg] at H1 ⊢
  have HG := Lib.hid hg0
  clear hg hg0
  have y1 := H1.out.2.2.1.cell 1
  simp at y1
  go_upto_region 2 with (go_at_call 35; refine (CG.out _ H1.out.2.1).mono ?_; rintro e w2 ⟨rfl, ht⟩; have H2 := Lib.hid ht; clear ht)
  have HS : Hid (Sp w (w2.alloc (.cells #[.int .i64 0, .bool fo, .string ⟨#[]⟩, .string vo] 35)) Z mb rb l g0 g w2.heap.size #[.int .u8 kind, .string k, .string v, .string o, .bool had, .bool aft, .slice A len cap] ⟨0, fo, ⟨#[]⟩, vo⟩ rb l) := Lib.hid (by
    have t3 : Turn No w2 (w2.alloc (.cells #[.int .i64 0, .bool fo, .string ⟨#[]⟩, .string vo] 35)) := (Turn.refl _ _).alloc _
    have t4 := H2.out.trans t3
    have t5 := H1.out.2.1.trans t4
    have hl := (H1.out.2.2.2.1.no H2.out).lt
    have s1 := (H1.out.2.1.trans H2.out).size
    have e0 := HG.out
    refine ⟨H1.out.1.no t5, t5.mono (fun _ _ h => h.elim), H1.out.2.2.1.no t4, H1.out.2.2.2.1.no t4, At.new _ _, by omega, ?_, by omega, by omega, HB.out.1, HB.out.2, .inl rfl, fun e => ?_⟩
    · have := H1.out.2.2.2.2.2; omega
    · have := HB.out.2 _ e; have := H1.out.2.2.2.2.2; omega)
  clear H2 H1 CG HB HG y1
  generalize w2.alloc (.cells #[.int .i64 0, .bool fo, .string ⟨#[]⟩, .string vo] 35) = w3 at HS ⊢
  generalize w2.heap.size = g2 at HS ⊢
  have f0 := HS.out.res.thawed 0
  have f1 := HS.out.res.thawed 1
  have f2 := HS.out.res.thawed 2
  have f3 := HS.out.res.thawed 3
  have d0 := HS.out.res.cell 0
  have d1 := HS.out.res.cell 1
  have d2 := HS.out.res.cell 2
  have d3 := HS.out.res.cell 3
  have a0 := HS.out.had.cell 0
  have a1 := HS.out.had.cell 1
  have a3 := HS.out.had.cell 3
  have y1 := HS.out.box.cell 1
  have y2 := HS.out.box.cell 2
  have y3 := HS.out.box.cell 3
  have y4 := HS.out.box.cell 4
  simp [ans0, Ans.ar] at d0 d1 d2 d3 a0 a1 a3 y1 y2 y3 y4
  cases fo with
  | false =>
    cases had with
    | false =>
      have HD : Hid (swD l k o false = true) := Lib.hid (by unfold swD; rw [hfo, hvo]; rfl)
      have CP := Lib.hid (put_any HS.out.om k v hkv.1 hkv.2 hn (Nat.le_trans hZ HS.out.tu.size))
      clear hn hfo hvo
      go_wp2_with (go_at_call 36; refine CP.out.mono ?_; rintro e w5 ⟨rfl, rb2, om, hr, t⟩; replace HS := Lib.hid (HS.out.put om hr t); clear om hr t f0 f1 f2 f3 d0 d1 d2 d3 a0 a1 a3 y1 y2 y3 y4; have f0 := HS.out.res.thawed 0; have f1 := HS.out.res.thawed 1; have f2 := HS.out.res.thawed 2; have f3 := HS.out.res.thawed 3; have d0 := HS.out.res.cell 0; have d1 := HS.out.res.cell 1; have d2 := HS.out.res.cell 2; have d3 := HS.out.res.cell 3; have a0 := HS.out.had.cell 0; have a1 := HS.out.had.cell 1; have a3 := HS.out.had.cell 3; have y1 := HS.out.box.cell 1; have y2 := HS.out.box.cell 2; have y3 := HS.out.box.cell 3; have y4 := HS.out.box.cell 4; simp [ans0, Ans.ar] at d0 d1 d2 d3 a0 a1 a3 y1 y2 y3 y4)
      have HZ := Lib.hid (HS.out.fin.result (.int .i64 0) (.bool true) (.string ⟨#[]⟩) (.string vo))
      clear HS f0 f1 f2 f3 d0 d1 d2 d3 a0 a1 a3 y1 y2 y3 y4
      generalize (((w5.setCell ⟨g, 0, none⟩ (.int .i64 0)).setCell ⟨g, 1, none⟩ (.bool true)).setCell ⟨g, 2, none⟩ (.string ⟨#[]⟩)).setCell ⟨g, 3, none⟩ (.string vo) = w9 at HZ ⊢
      (try simp only [Exit.inBlock, Exit.then])
      refine bodyPost_ret (results_cell_row rfl _ _ g 35 _ (0, 0) _ (by rfl) HZ.out.2.2.2 Try.underlying35 rfl (by kernel_rfl)) rfl ?_
      have e1 : dB = true := HLD.out.2.symm.trans HD.out
      have e2 : L2 = putL l k v := by rw [← HLD.out.1, HD.out]; rfl
      exact ⟨by rw [e1], rb2, by rw [e2]; exact HZ.out.1, HZ.out.2.1, HZ.out.2.2.1⟩
    | true =>
      have HD : Hid (swD l k o true = false) := Lib.hid (by unfold swD; rw [hfo, hvo]; rfl)
      clear hn hfo hvo
      go_wp2_with fail
      have HZ := Lib.hid (HS.out.fin.result (.int .i64 0) (.bool false) (.string ⟨#[]⟩) (.string vo))
      clear HS f0 f1 f2 f3 d0 d1 d2 d3 a0 a1 a3 y1 y2 y3 y4
      generalize (((w3.setCell ⟨g, 0, none⟩ (.int .i64 0)).setCell ⟨g, 1, none⟩ (.bool false)).setCell ⟨g, 2, none⟩ (.string ⟨#[]⟩)).setCell ⟨g, 3, none⟩ (.string vo) = w9 at HZ ⊢
      (try simp only [Exit.inBlock, Exit.then])
      refine bodyPost_ret (results_cell_row rfl _ _ g 35 _ (0, 0) _ (by rfl) HZ.out.2.2.2 Try.underlying35 rfl (by kernel_rfl)) rfl ?_
      have e1 : dB = false := HLD.out.2.symm.trans HD.out
      have e2 : L2 = l := by rw [← HLD.out.1, HD.out]; rfl
      exact ⟨by rw [e1], rb, by rw [e2]; exact HZ.out.1, HZ.out.2.1, HZ.out.2.2.1⟩
  | true =>
    cases had with
    | false =>
      have HD : Hid (swD l k o false = false) := Lib.hid (by unfold swD; rw [hfo, hvo]; rfl)
      clear hn hfo hvo
      go_wp2_with fail
      have HZ := Lib.hid (HS.out.fin.result (.int .i64 0) (.bool false) (.string ⟨#[]⟩) (.string vo))
      clear HS f0 f1 f2 f3 d0 d1 d2 d3 a0 a1 a3 y1 y2 y3 y4
      generalize (((w3.setCell ⟨g, 0, none⟩ (.int .i64 0)).setCell ⟨g, 1, none⟩ (.bool false)).setCell ⟨g, 2, none⟩ (.string ⟨#[]⟩)).setCell ⟨g, 3, none⟩ (.string vo) = w9 at HZ ⊢
      (try simp only [Exit.inBlock, Exit.then])
      refine bodyPost_ret (results_cell_row rfl _ _ g 35 _ (0, 0) _ (by rfl) HZ.out.2.2.2 Try.underlying35 rfl (by kernel_rfl)) rfl ?_
      have e1 : dB = false := HLD.out.2.symm.trans HD.out
      have e2 : L2 = l := by rw [← HLD.out.1, HD.out]; rfl
      exact ⟨by rw [e1], rb, by rw [e2]; exact HZ.out.1, HZ.out.2.1, HZ.out.2.2.1⟩
    | true =>
      cases hq : (vo.toList == o.toList) with
      | true =>
        have HD : Hid (swD l k o true = true) := Lib.hid (by unfold swD; rw [hfo, hvo]; rw [bytes_beq] at hq; rw [hq]; rfl)
        have CP := Lib.hid (put_any HS.out.om k v hkv.1 hkv.2 hn (Nat.le_trans hZ HS.out.tu.size))
        clear hn hfo hvo
        go_wp2_with (go_at_call 36; refine CP.out.mono ?_; rintro e w5 ⟨rfl, rb2, om, hr, t⟩; replace HS := Lib.hid (HS.out.put om hr t); clear om hr t f0 f1 f2 f3 d0 d1 d2 d3 a0 a1 a3 y1 y2 y3 y4; have f0 := HS.out.res.thawed 0; have f1 := HS.out.res.thawed 1; have f2 := HS.out.res.thawed 2; have f3 := HS.out.res.thawed 3; have d0 := HS.out.res.cell 0; have d1 := HS.out.res.cell 1; have d2 := HS.out.res.cell 2; have d3 := HS.out.res.cell 3; have a0 := HS.out.had.cell 0; have a1 := HS.out.had.cell 1; have a3 := HS.out.had.cell 3; have y1 := HS.out.box.cell 1; have y2 := HS.out.box.cell 2; have y3 := HS.out.box.cell 3; have y4 := HS.out.box.cell 4; simp [ans0, Ans.ar] at d0 d1 d2 d3 a0 a1 a3 y1 y2 y3 y4)
        have HZ := Lib.hid (HS.out.fin.result (.int .i64 0) (.bool true) (.string ⟨#[]⟩) (.string vo))
        clear HS f0 f1 f2 f3 d0 d1 d2 d3 a0 a1 a3 y1 y2 y3 y4
        generalize (((w5.setCell ⟨g, 0, none⟩ (.int .i64 0)).setCell ⟨g, 1, none⟩ (.bool true)).setCell ⟨g, 2, none⟩ (.string ⟨#[]⟩)).setCell ⟨g, 3, none⟩ (.string vo) = w9 at HZ ⊢
        (try simp only [Exit.inBlock, Exit.then])
        refine bodyPost_ret (results_cell_row rfl _ _ g 35 _ (0, 0) _ (by rfl) HZ.out.2.2.2 Try.underlying35 rfl (by kernel_rfl)) rfl ?_
        have e1 : dB = true := HLD.out.2.symm.trans HD.out
        have e2 : L2 = putL l k v := by rw [← HLD.out.1, HD.out]; rfl
        exact ⟨by rw [e1], rb2, by rw [e2]; exact HZ.out.1, HZ.out.2.1, HZ.out.2.2.1⟩
      | false =>
        have HD : Hid (swD l k o true = false) := Lib.hid (by unfold swD; rw [hfo, hvo]; rw [bytes_beq] at hq; rw [hq]; rfl)
        clear hn hfo hvo
        go_wp2_with fail
        have HZ := Lib.hid (HS.out.fin.result (.int .i64 0) (.bool false) (.string ⟨#[]⟩) (.string vo))
        clear HS f0 f1 f2 f3 d0 d1 d2 d3 a0 a1 a3 y1 y2 y3 y4
        generalize (((w3.setCell ⟨g, 0, none⟩ (.int .i64 0)).setCell ⟨g, 1, none⟩ (.bool false)).setCell ⟨g, 2, none⟩ (.string ⟨#[]⟩)).setCell ⟨g, 3, none⟩ (.string vo) = w9 at HZ ⊢
        (try simp only [Exit.inBlock, Exit.then])
        refine bodyPost_ret (results_cell_row rfl _ _ g 35 _ (0, 0) _ (by rfl) HZ.out.2.2.2 Try.underlying35 rfl (by kernel_rfl)) rfl ?_
        have e1 : dB = false := HLD.out.2.symm.trans HD.out
        have e2 : L2 = l := by rw [← HLD.out.1, HD.out]; rfl
        exact ⟨by rw [e1], rb, by rw [e2]; exact HZ.out.1, HZ.out.2.1, HZ.out.2.2.1⟩
end Go.Proofs.Ytjjmooegpoeomaa
