/-
  swap: a key has a value, if it has an old one, or is not there.
  write: the writes, one behind the other.
-/
import Derived.Test.YtllppkfeiifklaaJ5
namespace Go.Proofs.Ytllppkfeiifklaa
open Go.RowKit Go.Lib
set_option linter.unusedVariables false
set_option maxRecDepth 20000
set_option linter.unusedSimpArgs false

def swD (l : List Pr) (key o : ByteArray) (had : Bool) : Bool := decide ((getL l key).isSome = had) && (!had || decide ((getL l key).getD ⟨#[]⟩ = o))
/-- What is there in a swap: the map, the operation's box, the two answers' cells. -/
structure Sp (w wr : World) (Z mb : Nat) (rb : Option Nat) (l : List Pr) (g0 g g2 : Nat) (op : Array Value) (a : Ans) (rb' : Option Nat) (l' : List Pr) : Prop where
  om : Om wr Z mb rb' l'
  tu : Turn (fun k => k = mb ∨ rb = some k) w wr
  box : At wr g0 (.cells op 34 (0, 0))
  res : At wr g (.cells ans0 38 (0, 0))
  had : At wr g2 (.cells a.ar 38 (0, 0))
  old0 : w.heap.size ≤ g0
  old : w.heap.size ≤ g
  old2 : w.heap.size ≤ g2
  ne : g ≠ g2
  mlt : mb < w.heap.size
  rlt : ∀ k, rb = some k → k < w.heap.size
  rbs : rb' = rb ∨ ∃ k, rb' = some k ∧ w.heap.size ≤ k
  gne : rb' ≠ some g
section
variable {w wr w2 : World} {Z mb : Nat} {rb rb' : Option Nat} {l l' : List Pr} {g0 g g2 : Nat} {op : Array Value} {a : Ans}
theorem Sp.no (h : Sp w wr Z mb rb l g0 g g2 op a rb' l') (t : Turn No wr w2) : Sp w w2 Z mb rb l g0 g g2 op a rb' l' :=
  ⟨h.om.no t, h.tu.then t (fun _ _ h => h.elim), h.box.no t, h.res.no t, h.had.no t, h.old0, h.old, h.old2, h.ne, h.mlt, h.rlt, h.rbs, h.gne⟩
theorem Sp.put (h : Sp w wr Z mb rb l g0 g g2 op a rb l) {rb2 : Option Nat} {l2 : List Pr} (om : Om w2 Z mb rb2 l2) (hr : rb2 = rb ∨ ∃ k, rb2 = some k ∧ wr.heap.size ≤ k) (t : Turn (fun k => k = mb ∨ rb = some k) wr w2) :
    Sp w w2 Z mb rb l g0 g g2 op a rb2 l2 := by
  have far : ∀ i, w.heap.size ≤ i → ¬ (i = mb ∨ rb = some i) := fun i hi hx => by
    rcases hx with rfl | hx
    · have := h.mlt; omega
    · have := h.rlt i hx; omega
  refine ⟨om, h.tu.trans t, h.box.turn t (far _ h.old0), h.res.turn t (far _ h.old), h.had.turn t (far _ h.old2), h.old0, h.old, h.old2, h.ne, h.mlt, h.rlt, ?_, ?_⟩
  · rcases hr with e | ⟨k, e, hk⟩
    · exact .inl e
    · exact .inr ⟨k, e, Nat.le_trans h.tu.size hk⟩
  · rcases hr with e | ⟨k, e, hk⟩
    · rw [e]; exact h.gne
    · rw [e]
      intro e2
      injection e2 with e2
      have := h.res.lt
      omega
theorem Sp.fin (h : Sp w wr Z mb rb l g0 g g2 op a rb' l') : Fin w wr Z mb rb g g2 a rb' l' := ⟨h.om, h.tu, h.res, h.had, h.old, h.mlt, h.gne, h.rbs⟩
end

set_option maxHeartbeats 2000000 in
theorem swap_any {w : World} {Z mb : Nat} {rb : Option Nat} {l : List Pr} (h : Om w Z mb rb l) (kind : Int) (k v o : ByteArray) (had aft : Bool) (A : Option Addr) (len cap : Nat) (hkv : Fit k ∧ Fit v) (hn : l.length < 50000) (hZ : Z ≤ w.heap.size) :
    Calls Try.prog 68 #[.pointer (some ⟨mb, 0, none⟩), .agg #[.int .u8 kind, .string k, .string v, .string o, .bool had, .bool aft, .slice A len cap]] w fun e w' => e = .returned (.agg #[.int .i64 0, .bool (swD l k o had), .string ⟨#[]⟩, .string ((getL l k).getD ⟨#[]⟩)]) ∧
      ∃ rb', Om w' Z mb rb' (if swD l k o had = true then putL l k v else l) ∧ (rb' = rb ∨ ∃ k, rb' = some k ∧ w.heap.size ≤ k) ∧ Turn (fun k => k = mb ∨ rb = some k) w w' := by
  obtain ⟨fo, hfo⟩ : ∃ b, (getL l k).isSome = b := ⟨_, rfl⟩
  obtain ⟨vo, hvo⟩ : ∃ b, (getL l k).getD ⟨#[]⟩ = b := ⟨_, rfl⟩
  have hga : gans (getL l k) = ⟨0, fo, ⟨#[]⟩, vo⟩ := by unfold gans; rw [hfo, hvo]
  rw [hvo]
  obtain ⟨L2, hL2⟩ : ∃ L2, (if swD l k o had = true then putL l k v else l) = L2 := ⟨_, rfl⟩
  obtain ⟨dB, hdB⟩ : ∃ dB, swD l k o had = dB := ⟨_, rfl⟩
  have HLD := Lib.hid (And.intro hL2 hdB)
  rw [hL2, hdB]
  clear hL2 hdB
  have HB : Hid ((mb < w.heap.size) ∧ (∀ k, rb = some k → k < w.heap.size)) := Lib.hid ⟨h.lt, fun k hk => (h.rb_lt hk).2⟩
  have CG : Hid (∀ W, Turn No w W → Calls Try.prog 65 #[.pointer (some ⟨mb, 0, none⟩), .string k] W fun e w' => e = .returned (.agg #[.int .i64 0, .bool fo, .string ⟨#[]⟩, .string vo]) ∧ Turn No W w') := Lib.hid fun W t => by
    have := get_any (h.no t) k
    rw [hga] at this
    exact this
  have H1 : Hid (Om w Z mb rb l ∧ Turn No w ((w.alloc (.cells #[.int .u8 kind, .string k, .string v, .string o, .bool had, .bool aft, .slice A len cap] 34)).alloc (.cells #[.int .i64 0, .bool false, .string ⟨#[]⟩, .string ⟨#[]⟩] 38)) ∧ At ((w.alloc (.cells #[.int .u8 kind, .string k, .string v, .string o, .bool had, .bool aft, .slice A len cap] 34)).alloc (.cells #[.int .i64 0, .bool false, .string ⟨#[]⟩, .string ⟨#[]⟩] 38)) w.heap.size (.cells #[.int .u8 kind, .string k, .string v, .string o, .bool had, .bool aft, .slice A len cap] 34 (0, 0)) ∧ At ((w.alloc (.cells #[.int .u8 kind, .string k, .string v, .string o, .bool had, .bool aft, .slice A len cap] 34)).alloc (.cells #[.int .i64 0, .bool false, .string ⟨#[]⟩, .string ⟨#[]⟩] 38)) (w.heap.size + 1) (.cells ans0 38 (0, 0)) ∧ w.heap.size ≤ w.heap.size ∧ w.heap.size ≤ w.heap.size + 1) :=
    Lib.hid ⟨h, ((Turn.refl _ _).alloc _).alloc _, (At.new _ _).no ((Turn.refl _ _).alloc _), At.new2 _ _ _, Nat.le_refl _, Nat.le_succ _⟩
  clear hga h
  go_enter Try.func68, Try.ntmps68
  go_upto_region 1 with fail
  generalize (w.alloc (.cells #[.int .u8 kind, .string k, .string v, .string o, .bool had, .bool aft, .slice A len cap] 34)).alloc (.cells #[.int .i64 0, .bool false, .string ⟨#[]⟩, .string ⟨#[]⟩] 38) = w1 at H1 ⊢
  obtain ⟨g0, hg0⟩ : ∃ g, w.heap.size = g := ⟨_, rfl⟩
  rw [hg0] at H1 ⊢
  obtain ⟨g, hg⟩ : ∃ g, g0 + 1 = g := ⟨_, rfl⟩
  rw [hg] at H1 ⊢
  have HG := Lib.hid hg0
  clear hg hg0
  have y1 := H1.out.2.2.1.cell 1
  simp at y1
  go_upto_region 2 with (go_at_call 65; refine (CG.out _ H1.out.2.1).mono ?_; rintro e w2 ⟨rfl, ht⟩; have H2 := Lib.hid ht; clear ht)
  have HS : Hid (Sp w (w2.alloc (.cells #[.int .i64 0, .bool fo, .string ⟨#[]⟩, .string vo] 38)) Z mb rb l g0 g w2.heap.size #[.int .u8 kind, .string k, .string v, .string o, .bool had, .bool aft, .slice A len cap] ⟨0, fo, ⟨#[]⟩, vo⟩ rb l) := Lib.hid (by
    have t3 : Turn No w2 (w2.alloc (.cells #[.int .i64 0, .bool fo, .string ⟨#[]⟩, .string vo] 38)) := (Turn.refl _ _).alloc _
    have t4 := H2.out.trans t3
    have t5 := H1.out.2.1.trans t4
    have hl := (H1.out.2.2.2.1.no H2.out).lt
    have s1 := (H1.out.2.1.trans H2.out).size
    have e0 := HG.out
    refine ⟨H1.out.1.no t5, t5.mono (fun _ _ h => h.elim), H1.out.2.2.1.no t4, H1.out.2.2.2.1.no t4, At.new _ _, by omega, ?_, by omega, by omega, HB.out.1, HB.out.2, .inl rfl, fun e => ?_⟩
    · have := H1.out.2.2.2.2.2; omega
    · have := HB.out.2 _ e; have := H1.out.2.2.2.2.2; omega)
  clear H2 H1 CG HB HG y1
  generalize w2.alloc (.cells #[.int .i64 0, .bool fo, .string ⟨#[]⟩, .string vo] 38) = w3 at HS ⊢
  generalize w2.heap.size = g2 at HS ⊢
  have f0 := HS.out.res.thawed 0
  have f1 := HS.out.res.thawed 1
  have f2 := HS.out.res.thawed 2
  have f3 := HS.out.res.thawed 3
  have d0 := HS.out.res.cell 0
  have d1 := HS.out.res.cell 1
  have d2 := HS.out.res.cell 2
  have d3 := HS.out.res.cell 3
  have a0 := HS.out.had.cell 0
  have a1 := HS.out.had.cell 1
  have a3 := HS.out.had.cell 3
  have y1 := HS.out.box.cell 1
  have y2 := HS.out.box.cell 2
  have y3 := HS.out.box.cell 3
  have y4 := HS.out.box.cell 4
  simp [ans0, Ans.ar] at d0 d1 d2 d3 a0 a1 a3 y1 y2 y3 y4
  cases fo with
  | false =>
    cases had with
    | false =>
      have HD : Hid (swD l k o false = true) := Lib.hid (by unfold swD; rw [hfo, hvo]; rfl)
      have CP := Lib.hid (put_any HS.out.om k v hkv.1 hkv.2 hn (Nat.le_trans hZ HS.out.tu.size))
      clear hn hfo hvo
      go_wp2_with (go_at_call 66; refine CP.out.mono ?_; rintro e w5 ⟨rfl, rb2, om, hr, t⟩; replace HS := Lib.hid (HS.out.put om hr t); clear om hr t f0 f1 f2 f3 d0 d1 d2 d3 a0 a1 a3 y1 y2 y3 y4; have f0 := HS.out.res.thawed 0; have f1 := HS.out.res.thawed 1; have f2 := HS.out.res.thawed 2; have f3 := HS.out.res.thawed 3; have d0 := HS.out.res.cell 0; have d1 := HS.out.res.cell 1; have d2 := HS.out.res.cell 2; have d3 := HS.out.res.cell 3; have a0 := HS.out.had.cell 0; have a1 := HS.out.had.cell 1; have a3 := HS.out.had.cell 3; have y1 := HS.out.box.cell 1; have y2 := HS.out.box.cell 2; have y3 := HS.out.box.cell 3; have y4 := HS.out.box.cell 4; simp [ans0, Ans.ar] at d0 d1 d2 d3 a0 a1 a3 y1 y2 y3 y4)
      have HZ := Lib.hid (HS.out.fin.result (.int .i64 0) (.bool true) (.string ⟨#[]⟩) (.string vo))
      clear HS f0 f1 f2 f3 d0 d1 d2 d3 a0 a1 a3 y1 y2 y3 y4
      generalize (((w5.setCell ⟨g, 0, none⟩ (.int .i64 0)).setCell ⟨g, 1, none⟩ (.bool true)).setCell ⟨g, 2, none⟩ (.string ⟨#[]⟩)).setCell ⟨g, 3, none⟩ (.string vo) = w9 at HZ ⊢
      (try simp only [Exit.inBlock, Exit.then])
      refine bodyPost_ret (results_cell_row rfl _ _ g 38 _ (0, 0) _ (by rfl) HZ.out.2.2.2 Try.underlying38 rfl (by kernel_rfl)) rfl ?_
      have e1 : dB = true := HLD.out.2.symm.trans HD.out
      have e2 : L2 = putL l k v := by rw [← HLD.out.1, HD.out]; rfl
      exact ⟨by rw [e1], rb2, by rw [e2]; exact HZ.out.1, HZ.out.2.1, HZ.out.2.2.1⟩
    | true =>
      have HD : Hid (swD l k o true = false) := Lib.hid (by unfold swD; rw [hfo, hvo]; rfl)
      clear hn hfo hvo
      go_wp2_with fail
      have HZ := Lib.hid (HS.out.fin.result (.int .i64 0) (.bool false) (.string ⟨#[]⟩) (.string vo))
      clear HS f0 f1 f2 f3 d0 d1 d2 d3 a0 a1 a3 y1 y2 y3 y4
      generalize (((w3.setCell ⟨g, 0, none⟩ (.int .i64 0)).setCell ⟨g, 1, none⟩ (.bool false)).setCell ⟨g, 2, none⟩ (.string ⟨#[]⟩)).setCell ⟨g, 3, none⟩ (.string vo) = w9 at HZ ⊢
      (try simp only [Exit.inBlock, Exit.then])
      refine bodyPost_ret (results_cell_row rfl _ _ g 38 _ (0, 0) _ (by rfl) HZ.out.2.2.2 Try.underlying38 rfl (by kernel_rfl)) rfl ?_
      have e1 : dB = false := HLD.out.2.symm.trans HD.out
      have e2 : L2 = l := by rw [← HLD.out.1, HD.out]; rfl
      exact ⟨by rw [e1], rb, by rw [e2]; exact HZ.out.1, HZ.out.2.1, HZ.out.2.2.1⟩
  | true =>
    cases had with
    | false =>
      have HD : Hid (swD l k o false = false) := Lib.hid (by unfold swD; rw [hfo, hvo]; rfl)
      clear hn hfo hvo
      go_wp2_with fail
      have HZ := Lib.hid (HS.out.fin.result (.int .i64 0) (.bool false) (.string ⟨#[]⟩) (.string vo))
      clear HS f0 f1 f2 f3 d0 d1 d2 d3 a0 a1 a3 y1 y2 y3 y4
      generalize (((w3.setCell ⟨g, 0, none⟩ (.int .i64 0)).setCell ⟨g, 1, none⟩ (.bool false)).setCell ⟨g, 2, none⟩ (.string ⟨#[]⟩)).setCell ⟨g, 3, none⟩ (.string vo) = w9 at HZ ⊢
      (try simp only [Exit.inBlock, Exit.then])
      refine bodyPost_ret (results_cell_row rfl _ _ g 38 _ (0, 0) _ (by rfl) HZ.out.2.2.2 Try.underlying38 rfl (by kernel_rfl)) rfl ?_
      have e1 : dB = false := HLD.out.2.symm.trans HD.out
      have e2 : L2 = l := by rw [← HLD.out.1, HD.out]; rfl
      exact ⟨by rw [e1], rb, by rw [e2]; exact HZ.out.1, HZ.out.2.1, HZ.out.2.2.1⟩
    | true =>
      cases hq : (vo.toList == o.toList) with
      | true =>
        have HD : Hid (swD l k o true = true) := Lib.hid (by unfold swD; rw [hfo, hvo]; rw [bytes_beq] at hq; rw [hq]; rfl)
        have CP := Lib.hid (put_any HS.out.om k v hkv.1 hkv.2 hn (Nat.le_trans hZ HS.out.tu.size))
        clear hn hfo hvo
        go_wp2_with (go_at_call 66; refine CP.out.mono ?_; rintro e w5 ⟨rfl, rb2, om, hr, t⟩; replace HS := Lib.hid (HS.out.put om hr t); clear om hr t f0 f1 f2 f3 d0 d1 d2 d3 a0 a1 a3 y1 y2 y3 y4; have f0 := HS.out.res.thawed 0; have f1 := HS.out.res.thawed 1; have f2 := HS.out.res.thawed 2; have f3 := HS.out.res.thawed 3; have d0 := HS.out.res.cell 0; have d1 := HS.out.res.cell 1; have d2 := HS.out.res.cell 2; have d3 := HS.out.res.cell 3; have a0 := HS.out.had.cell 0; have a1 := HS.out.had.cell 1; have a3 := HS.out.had.cell 3; have y1 := HS.out.box.cell 1; have y2 := HS.out.box.cell 2; have y3 := HS.out.box.cell 3; have y4 := HS.out.box.cell 4; simp [ans0, Ans.ar] at d0 d1 d2 d3 a0 a1 a3 y1 y2 y3 y4)
        have HZ := Lib.hid (HS.out.fin.result (.int .i64 0) (.bool true) (.string ⟨#[]⟩) (.string vo))
        clear HS f0 f1 f2 f3 d0 d1 d2 d3 a0 a1 a3 y1 y2 y3 y4
        generalize (((w5.setCell ⟨g, 0, none⟩ (.int .i64 0)).setCell ⟨g, 1, none⟩ (.bool true)).setCell ⟨g, 2, none⟩ (.string ⟨#[]⟩)).setCell ⟨g, 3, none⟩ (.string vo) = w9 at HZ ⊢
        (try simp only [Exit.inBlock, Exit.then])
        refine bodyPost_ret (results_cell_row rfl _ _ g 38 _ (0, 0) _ (by rfl) HZ.out.2.2.2 Try.underlying38 rfl (by kernel_rfl)) rfl ?_
        have e1 : dB = true := HLD.out.2.symm.trans HD.out
        have e2 : L2 = putL l k v := by rw [← HLD.out.1, HD.out]; rfl
        exact ⟨by rw [e1], rb2, by rw [e2]; exact HZ.out.1, HZ.out.2.1, HZ.out.2.2.1⟩
      | false =>
        have HD : Hid (swD l k o true = false) := Lib.hid (by unfold swD; rw [hfo, hvo]; rw [bytes_beq] at hq; rw [hq]; rfl)
        clear hn hfo hvo
        go_wp2_with fail
        have HZ := Lib.hid (HS.out.fin.result (.int .i64 0) (.bool false) (.string ⟨#[]⟩) (.string vo))
        clear HS f0 f1 f2 f3 d0 d1 d2 d3 a0 a1 a3 y1 y2 y3 y4
        generalize (((w3.setCell ⟨g, 0, none⟩ (.int .i64 0)).setCell ⟨g, 1, none⟩ (.bool false)).setCell ⟨g, 2, none⟩ (.string ⟨#[]⟩)).setCell ⟨g, 3, none⟩ (.string vo) = w9 at HZ ⊢
        (try simp only [Exit.inBlock, Exit.then])
        refine bodyPost_ret (results_cell_row rfl _ _ g 38 _ (0, 0) _ (by rfl) HZ.out.2.2.2 Try.underlying38 rfl (by kernel_rfl)) rfl ?_
        have e1 : dB = false := HLD.out.2.symm.trans HD.out
        have e2 : L2 = l := by rw [← HLD.out.1, HD.out]; rfl
        exact ⟨by rw [e1], rb, by rw [e2]; exact HZ.out.1, HZ.out.2.1, HZ.out.2.2.1⟩
end Go.Proofs.Ytllppkfeiifklaa
namespace Go.Proofs.Ytllppkfeiifklaa
open Go.RowKit Go.Lib
set_option linter.unusedVariables false
set_option maxRecDepth 20000
set_option linter.unusedSimpArgs false

def wr1 (l : List Pr) (x : Wr) : List Pr := if x.gone = true then delL l x.k else putL l x.k x.v
def wrL (l : List Pr) (ws : List Wr) : List Pr := ws.foldl wr1 l
theorem wrL_snoc {ws : List Wr} {j : Nat} {x : Wr} (hj : ws[j]? = some x) (l : List Pr) : wrL l (ws.take (j + 1)) = wr1 (wrL l (ws.take j)) x := by
  unfold wrL
  rw [List.take_add_one, hj, List.foldl_append]
  rfl
theorem wr1_length (l : List Pr) (x : Wr) : (wr1 l x).length ≤ l.length + 1 := by
  unfold wr1
  split
  · exact Nat.le_trans (del_length _ _) (Nat.le_succ _)
  · exact put_length _ _ _
/-- What is there in a write. -/
structure Wt (w wr : World) (Z mb : Nat) (rb rb' : Option Nat) (l l' : List Pr) (kk : Nat) : Prop where
  om : Om wr Z mb rb' l'
  tu : Turn (fun k => k = mb ∨ rb = some k) w wr
  rbs : rb' = rb ∨ ∃ k, rb' = some k ∧ w.heap.size ≤ k
  few : l'.length ≤ l.length + kk
section
variable {w wr w2 : World} {Z mb : Nat} {rb rb' rb2 : Option Nat} {l l' l2 : List Pr} {kk : Nat}
theorem Wt.no (h : Wt w wr Z mb rb rb' l l' kk) (t : Turn No wr w2) : Wt w w2 Z mb rb rb' l l' kk := ⟨h.om.no t, h.tu.then t (fun _ _ h => h.elim), h.rbs, h.few⟩
theorem Wt.step (h : Wt w wr Z mb rb rb' l l' kk) (om : Om w2 Z mb rb2 l2) (hr : rb2 = rb' ∨ ∃ k, rb2 = some k ∧ wr.heap.size ≤ k) (t : Turn (fun k => k = mb ∨ rb' = some k) wr w2) (hf : l2.length ≤ l'.length + 1) : Wt w w2 Z mb rb rb2 l l2 (kk + 1) := by
  refine ⟨om, h.tu.then t ?_, ?_, by have := h.few; omega⟩
  · intro i hi hx
    rcases hx with hx | hx
    · exact .inl hx
    · rcases h.rbs with e | ⟨k, e, hk⟩
      · exact .inr (e ▸ hx)
      · rw [e] at hx; injection hx with hx; omega
  · rcases hr with e | ⟨k, e, hk⟩
    · rw [e]; exact h.rbs
    · exact .inr ⟨k, e, Nat.le_trans h.tu.size hk⟩
end

set_option maxHeartbeats 2000000 in
theorem write_any {w : World} {Z mb : Nat} {rb : Option Nat} {l : List Pr} (h : Om w Z mb rb l) (ws : List Wr) (A : Option Addr) (cap : Nat) (hw : Row w A (wcs ws)) (hs : ∀ b o, A = some ⟨b, o, none⟩ → 0 < ws.length → b ≠ mb ∧ rb ≠ some b) (hf : ∀ x ∈ ws, Fit x.k ∧ Fit x.v)
    (hn : l.length + ws.length < 50000) (hZ : Z ≤ w.heap.size) :
    Calls Try.prog 70 #[.pointer (some ⟨mb, 0, none⟩), .slice A ws.length cap] w fun e w' => e = .returned (.tuple #[]) ∧ ∃ rb', Om w' Z mb rb' (wrL l ws) ∧ (rb' = rb ∨ ∃ k, rb' = some k ∧ w.heap.size ≤ k) ∧ Turn (fun k => k = mb ∨ rb = some k) w w' := by
  have HR := Lib.hid (And.intro hw (And.intro hs (And.intro hf hn)))
  have H0 : Hid (Wt w w Z mb rb rb l (wrL l (ws.take 0)) 0) := Lib.hid ⟨h, Turn.refl _ _, .inl rfl, by simp [wrL]⟩
  have hsm : ws.length ≤ 100000 := by omega
  clear h hw hs hf hn
  go_enter Try.func70, Try.ntmps70
  go_wp2_with fail
  go_loopw [8] (fun i wr => ∃ (kk : Nat) (rb' : Option Nat), kk ≤ ws.length ∧ i = .int .i64 (kk : Int) ∧ Hid (Wt w wr Z mb rb rb' l (wrL l (ws.take kk)) kk)) (fun i _ => ws.length - (RowKit.intOf i).toNat)
  case atStart => exact ⟨0, rb, Nat.zero_le _, rfl, H0⟩
  case round =>
    clear H0
    obtain ⟨kk, rb', hm, rfl, HP⟩ := hrel
    by_cases hlt : kk < ws.length
    · obtain ⟨x, hx⟩ : ∃ x, ws[kk]? = some x := ⟨ws[kk], List.getElem?_eq_getElem hlt⟩
      have hrow : Row wr A (wcs ws) := HR.out.1.turn HP.out.tu fun b o hA hX => by
        have := HR.out.2.1 b o hA (by omega)
        rcases hX with e | e
        · exact this.1 e
        · exact this.2 e
      obtain ⟨b, off, hA, hb, x0, x1, x2⟩ := hrow.wr hx
      have hfx := HR.out.2.2.1 x (List.mem_of_getElem? hx)
      have HX := Lib.hid (wrL_snoc hx l)
      obtain ⟨xk, xv, xg⟩ := x
      simp only at x0 x1 x2
      have tn : Turn No wr (wr.alloc (.cells #[.string xk, .string xv, .bool xg] 68)) := (Turn.refl _ _).alloc _
      have hAt := Lib.hid (At.new wr (.cells #[.string xk, .string xv, .bool xg] 68))
      have H2 := Lib.hid (HP.out.no tn)
      have hsz : Z ≤ (wr.alloc (.cells #[.string xk, .string xv, .bool xg] 68)).heap.size := Nat.le_trans hZ (Nat.le_trans HP.out.tu.size tn.size)
      subst hA
      clear hb hrow hx tn HP
      go_upto_region 3 with fail
      generalize wr.alloc (.cells #[.string xk, .string xv, .bool xg] 68) = w2 at H2 hAt hsz ⊢
      generalize wr.heap.size = g at hAt ⊢
      clear x0 x1 x2
      have y0 := hAt.out.cell 0
      have y1 := hAt.out.cell 1
      have y2 := hAt.out.cell 2
      simp at y0 y1 y2
      cases xg with
      | true =>
        have CR := Lib.hid (remove_any H2.out.om xk)
        clear hsz hfx
        go_wp2_with (go_at_call 67; refine CR.out.mono ?_; rintro e w3 ⟨rfl, rb2, om, hr, t⟩; have H3 := Lib.hid (H2.out.step om hr t (Nat.le_trans (del_length _ _) (Nat.le_succ _))); clear om hr t)
        have H4 : Hid (Wt w w3 Z mb rb rb2 l (wrL l (ws.take (kk + 1))) (kk + 1)) := Lib.hid (by rw [HX.out]; exact H3.out)
        exact ⟨⟨kk + 1, rb2, by omega, by go_num, H4⟩, by simp [RowKit.intOf]; omega⟩
      | false =>
        have CP := Lib.hid (put_any H2.out.om xk xv hfx.1 hfx.2 (by have := H2.out.few; have := HR.out.2.2.2; omega) hsz)
        clear hsz hfx
        go_wp2_with (go_at_call 66; refine CP.out.mono ?_; rintro e w3 ⟨rfl, rb2, om, hr, t⟩; have H3 := Lib.hid (H2.out.step om hr t (put_length _ _ _)); clear om hr t)
        have H4 : Hid (Wt w w3 Z mb rb rb2 l (wrL l (ws.take (kk + 1))) (kk + 1)) := Lib.hid (by rw [HX.out]; exact H3.out)
        exact ⟨⟨kk + 1, rb2, by omega, by go_num, H4⟩, by simp [RowKit.intOf]; omega⟩
    · obtain rfl : kk = ws.length := by omega
      have h1 := HP.out
      rw [List.take_length] at h1
      have H1 := Lib.hid h1
      clear h1
      go_wp2_with fail
      refine bodyPost_end (results_none rfl _ _ _) rfl ?_
      exact ⟨rfl, rb', H1.out.om, H1.out.rbs, H1.out.tu⟩
end Go.Proofs.Ytllppkfeiifklaa
