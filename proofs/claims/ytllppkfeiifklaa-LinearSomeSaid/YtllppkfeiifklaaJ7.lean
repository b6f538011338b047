/-
  Do: what an operation does, and answers.
-/
import Derived.Test.YtllppkfeiifklaaJ6
namespace Go.Proofs.Ytllppkfeiifklaa
open Go.RowKit Go.Lib
set_option linter.unusedVariables false
set_option maxRecDepth 20000
set_option linter.unusedSimpArgs false

def doA (l : List Pr) (kind : Int) (k v o : ByteArray) (had aft : Bool) (ws : List Wr) : Ans :=
  if refO kind k v o had ws = 0 then
    (if kind = 1 ∨ kind = 2 ∨ kind = 3 then gans (getL l k) else if kind = 4 then ⟨0, swD l k o had, ⟨#[]⟩, (getL l k).getD ⟨#[]⟩⟩ else if kind = 5 then nans (nexts l k aft) else ⟨0, false, ⟨#[]⟩, ⟨#[]⟩⟩)
  else ⟨refO kind k v o had ws, false, ⟨#[]⟩, ⟨#[]⟩⟩
def doM (l : List Pr) (kind : Int) (k v o : ByteArray) (had aft : Bool) (ws : List Wr) : List Pr :=
  if refO kind k v o had ws = 0 then
    (if kind = 2 then putL l k v else if kind = 3 then delL l k else if kind = 4 then (if swD l k o had = true then putL l k v else l) else if kind = 6 then wrL l ws else l)
  else l
/-- What is there in a Do: the map, the operation's box, the answer's cells. -/
structure Dq (w wr : World) (Z mb : Nat) (rb : Option Nat) (g0 g : Nat) (op : Array Value) (rb' : Option Nat) (l' : List Pr) : Prop where
  om : Om wr Z mb rb' l'
  tu : Turn (fun k => k = mb ∨ rb = some k) w wr
  box : At wr g0 (.cells op 34 (0, 0))
  res : At wr g (.cells ans0 38 (0, 0))
  old : w.heap.size ≤ g
  far0 : g0 ≠ mb ∧ rb' ≠ some g0
  far : g ≠ mb ∧ rb' ≠ some g
  rbs : rb' = rb ∨ ∃ k, rb' = some k ∧ w.heap.size ≤ k
section
variable {w wr w2 : World} {Z mb : Nat} {rb rb' : Option Nat} {l' : List Pr} {g0 g : Nat} {op : Array Value}
theorem Dq.no (h : Dq w wr Z mb rb g0 g op rb' l') (t : Turn No wr w2) : Dq w w2 Z mb rb g0 g op rb' l' :=
  ⟨h.om.no t, h.tu.then t (fun _ _ h => h.elim), h.box.no t, h.res.no t, h.old, h.far0, h.far, h.rbs⟩
theorem Dq.step (h : Dq w wr Z mb rb g0 g op rb l') {rb2 : Option Nat} {l2 : List Pr} (om : Om w2 Z mb rb2 l2) (hr : rb2 = rb ∨ ∃ k, rb2 = some k ∧ wr.heap.size ≤ k) (t : Turn (fun k => k = mb ∨ rb = some k) wr w2) :
    Dq w w2 Z mb rb g0 g op rb2 l2 := by
  have new : ∀ i, i < wr.heap.size → rb ≠ some i → rb2 ≠ some i := fun i hi hn => by
    rcases hr with e | ⟨k, e, hk⟩
    · rw [e]; exact hn
    · rw [e]; intro e2; injection e2 with e2; omega
  refine ⟨om, h.tu.trans t, h.box.turn t (fun e => e.elim h.far0.1 h.far0.2), h.res.turn t (fun e => e.elim h.far.1 h.far.2), h.old, ⟨h.far0.1, new _ h.box.lt h.far0.2⟩, ⟨h.far.1, new _ h.res.lt h.far.2⟩, ?_⟩
  rcases hr with e | ⟨k, e, hk⟩
  · exact .inl e
  · exact .inr ⟨k, e, Nat.le_trans h.tu.size hk⟩
theorem Dq.result (h : Dq w wr Z mb rb g0 g op rb' l') (y0 y1 y2 y3 : Value) :
    Om ((((wr.setCell ⟨g, 0, none⟩ y0).setCell ⟨g, 1, none⟩ y1).setCell ⟨g, 2, none⟩ y2).setCell ⟨g, 3, none⟩ y3) Z mb rb' l' ∧
    (rb' = rb ∨ ∃ k, rb' = some k ∧ w.heap.size ≤ k) ∧
    Turn (fun k => k = mb ∨ rb = some k) w ((((wr.setCell ⟨g, 0, none⟩ y0).setCell ⟨g, 1, none⟩ y1).setCell ⟨g, 2, none⟩ y2).setCell ⟨g, 3, none⟩ y3) ∧
    At ((((wr.setCell ⟨g, 0, none⟩ y0).setCell ⟨g, 1, none⟩ y1).setCell ⟨g, 2, none⟩ y2).setCell ⟨g, 3, none⟩ y3) g (.cells #[y0, y1, y2, y3] 38 (0, 0)) := by
  have t : Turn (fun k => k = g) wr ((((wr.setCell ⟨g, 0, none⟩ y0).setCell ⟨g, 1, none⟩ y1).setCell ⟨g, 2, none⟩ y2).setCell ⟨g, 3, none⟩ y3) := (((Turn.set1 wr g 0 y0).trans (Turn.set1 _ g 1 y1)).trans (Turn.set1 _ g 2 y2)).trans (Turn.set1 _ g 3 y3)
  have ho := h.old
  refine ⟨h.om.turn t (fun e => h.far.1 e.symm) (fun k hk e => h.far.2 (by rw [hk, e])), h.rbs, h.tu.then t (fun i hi e => by omega), ?_⟩
  simpa [ans0] using (((h.res.set 0 y0).set 1 y1).set 2 y2).set 3 y3
end
/-- The two boxes of a Do. -/
theorem two_boxes (w : World) (op : Array Value) : Turn No w ((w.alloc (.cells op 34)).alloc (.cells #[.int .i64 0, .bool false, .string ⟨#[]⟩, .string ⟨#[]⟩] 38)) ∧
    At ((w.alloc (.cells op 34)).alloc (.cells #[.int .i64 0, .bool false, .string ⟨#[]⟩, .string ⟨#[]⟩] 38)) w.heap.size (.cells op 34 (0, 0)) ∧
    At ((w.alloc (.cells op 34)).alloc (.cells #[.int .i64 0, .bool false, .string ⟨#[]⟩, .string ⟨#[]⟩] 38)) (w.heap.size + 1) (.cells ans0 38 (0, 0)) :=
  ⟨((Turn.refl _ _).alloc _).alloc _, (At.new _ _).no ((Turn.refl _ _).alloc _), At.new2 _ _ _⟩
theorem row_sep {w wr : World} {mb : Nat} {rb : Option Nat} {A : Option Addr} {ws : List Wr} (h : Row w A (wcs ws)) (t : Turn (fun k => k = mb ∨ rb = some k) w wr) (hs : ∀ b o, A = some ⟨b, o, none⟩ → 0 < ws.length → b ≠ mb ∧ rb ≠ some b) : Row wr A (wcs ws) := by
  cases ws with
  | nil => exact Row.nil _ _
  | cons x ws =>
    refine h.turn t fun b o hA hX => ?_
    have := hs b o hA (by simp)
    rcases hX with e | e
    · exact this.1 e
    · exact this.2 e
theorem row_old {w : World} {mb : Nat} {A : Option Addr} {ws : List Wr} (h : Row w A (wcs ws)) (hm : w.heap.size ≤ mb) : ∀ b o, A = some ⟨b, o, none⟩ → 0 < ws.length → b ≠ mb ∧ (none : Option Nat) ≠ some b := by
  intro b o hA h0
  obtain ⟨x, hx⟩ : ∃ x, ws[0]? = some x := ⟨ws[0], List.getElem?_eq_getElem h0⟩
  obtain ⟨b', o', hA', hb, _⟩ := h.wr hx
  rw [hA] at hA'
  injection hA' with hA'
  injection hA' with e1 _
  subst e1
  exact ⟨by omega, by simp⟩
set_option maxHeartbeats 4000000 in
theorem do_any {w : World} {Z mb : Nat} {rb : Option Nat} {l : List Pr} (h : Om w Z mb rb l) (kind : Int) (k v o : ByteArray) (had aft : Bool) (A : Option Addr) (cap : Nat) (ws : List Wr) (hrow : Row w A (wcs ws)) (hs : ∀ b o, A = some ⟨b, o, none⟩ → 0 < ws.length → b ≠ mb ∧ rb ≠ some b)
    (hf : Fit k ∧ Fit v ∧ (∀ x ∈ ws, Fit x.k ∧ Fit x.v)) (ho : Fit o) (hZ : Z ≤ w.heap.size) (hn : l.length + ws.length < 40000) :
    Calls Try.prog 31 #[.pointer (some ⟨mb, 0, none⟩), .agg #[.int .u8 kind, .string k, .string v, .string o, .bool had, .bool aft, .slice A ws.length cap]] w fun e w' => e = .returned (doA l kind k v o had aft ws).val ∧
      ∃ rb', Om w' Z mb rb' (doM l kind k v o had aft ws) ∧ (rb' = rb ∨ ∃ k, rb' = some k ∧ w.heap.size ≤ k) ∧ Turn (fun k => k = mb ∨ rb = some k) w w' := by
  obtain ⟨DA, hDA⟩ : ∃ a, doA l kind k v o had aft ws = a := ⟨_, rfl⟩
  obtain ⟨DM, hDM⟩ : ∃ a, doM l kind k v o had aft ws = a := ⟨_, rfl⟩
  have HLD := Lib.hid (And.intro hDM hDA)
  rw [hDA, hDM]
  clear hDA hDM
  obtain ⟨ev, hev⟩ : ∃ e, refO kind k v o had ws = e := ⟨_, rfl⟩
  have HF := Lib.hid (And.intro hf.1 (And.intro hf.2.1 (And.intro hf.2.2 (And.intro hZ hn))))
  have HW : Hid (Om w Z mb rb l ∧ Row w A (wcs ws) ∧ ∀ b o, A = some ⟨b, o, none⟩ → 0 < ws.length → b ≠ mb ∧ rb ≠ some b) := Lib.hid ⟨h, hrow, hs⟩
  have H1 := Lib.hid (two_boxes w #[.int .u8 kind, .string k, .string v, .string o, .bool had, .bool aft, .slice A ws.length cap])
  have CR := Lib.hid fun (W : World) (t : Turn No w W) => refused_any kind k v o had aft A cap ws W (hrow.turn t fun _ _ _ h => h) hf.1 hf.2.1 ho hf.2.2 (by omega)
  rw [hev] at CR
  clear hrow hf ho hn h hs hZ
  go_enter Try.func31, Try.ntmps31
  go_upto_region 1 with fail
  generalize (w.alloc (.cells #[.int .u8 kind, .string k, .string v, .string o, .bool had, .bool aft, .slice A ws.length cap] 34)).alloc (.cells #[.int .i64 0, .bool false, .string ⟨#[]⟩, .string ⟨#[]⟩] 38) = w1 at H1 ⊢
  obtain ⟨g0, hg0⟩ : ∃ g, w.heap.size = g := ⟨_, rfl⟩
  rw [hg0] at H1 ⊢
  obtain ⟨g, hg⟩ : ∃ g, g0 + 1 = g := ⟨_, rfl⟩
  rw [hg] at H1 ⊢
  have HG := Lib.hid (And.intro hg0 hg)
  clear hg0 hg
  have y0 := H1.out.2.1.cell 0
  have y1 := H1.out.2.1.cell 1
  have y2 := H1.out.2.1.cell 2
  have y3 := H1.out.2.1.cell 3
  have y4 := H1.out.2.1.cell 4
  have y5 := H1.out.2.1.cell 5
  have y6 := H1.out.2.1.cell 6
  simp at y0 y1 y2 y3 y4 y5 y6
  go_upto_if 9 with (go_at_call 64; refine (CR.out _ H1.out.1).mono ?_; rintro e w3 ⟨rfl, ht⟩; have H3 := Lib.hid ht; clear ht)
  clear CR y0 y1 y2 y3 y4 y5 y6
  have HS : Hid (Dq w w3 Z mb rb g0 g #[.int .u8 kind, .string k, .string v, .string o, .bool had, .bool aft, .slice A ws.length cap] rb l) := Lib.hid (by
    have t3 := H1.out.1.trans H3.out
    have e0 := HG.out
    have hm := HW.out.1.lt
    refine ⟨HW.out.1.no t3, t3.mono (fun _ _ h => h.elim), H1.out.2.1.no H3.out, H1.out.2.2.no H3.out, by omega, ⟨by omega, fun e => ?_⟩, ⟨by omega, fun e => ?_⟩, .inl rfl⟩
    · have := (HW.out.1.rb_lt e).2; omega
    · have := (HW.out.1.rb_lt e).2; omega)
  clear H1 H3
  by_cases he : ev = 0
  · have HE : Hid (refO kind k v o had ws = 0) := Lib.hid (hev.trans he)
    subst he
    clear hev
    obtain ⟨w4, hw4⟩ : ∃ x, x = w3 := ⟨_, rfl⟩
    rw [← hw4] at HS ⊢
    clear hw4
    go_upto_region 6 with fail
    have y0 := HS.out.box.cell 0
    have y1 := HS.out.box.cell 1
    have y2 := HS.out.box.cell 2
    have y3 := HS.out.box.cell 3
    have y4 := HS.out.box.cell 4
    have y5 := HS.out.box.cell 5
    have y6 := HS.out.box.cell 6
    have f0 := HS.out.res.thawed 0
    have f1 := HS.out.res.thawed 1
    have f2 := HS.out.res.thawed 2
    have f3 := HS.out.res.thawed 3
    have d0 := HS.out.res.cell 0
    have d1 := HS.out.res.cell 1
    have d2 := HS.out.res.cell 2
    have d3 := HS.out.res.cell 3
    simp [ans0] at y0 y1 y2 y3 y4 y5 y6 d0 d1 d2 d3
    by_cases q1 : kind = 1
    · subst q1
      obtain ⟨fo, hfo⟩ : ∃ b, (getL l k).isSome = b := ⟨_, rfl⟩
      obtain ⟨vo, hvo⟩ : ∃ b, (getL l k).getD ⟨#[]⟩ = b := ⟨_, rfl⟩
      have hga : gans (getL l k) = ⟨0, fo, ⟨#[]⟩, vo⟩ := by unfold gans; rw [hfo, hvo]
      have HGA := Lib.hid hga
      have CC : Hid (Calls Try.prog 65 #[.pointer (some ⟨mb, 0, none⟩), .string k] w4 fun e w' => e = .returned (.agg #[.int .i64 0, .bool fo, .string ⟨#[]⟩, .string vo]) ∧ Turn No w4 w') := Lib.hid (by have := get_any HS.out.om k; rw [hga] at this; exact this)
      clear hga hfo hvo
      go_wp2_with (go_at_call 65; refine CC.out.mono ?_; rintro e w5 ⟨rfl, t⟩; replace HS := Lib.hid (HS.out.no t); clear t y0 y1 y2 y3 y4 y5 y6 f0 d0 f1 d1 f2 d2 f3 d3; have y0 := HS.out.box.cell 0; have y1 := HS.out.box.cell 1; have y2 := HS.out.box.cell 2; have y3 := HS.out.box.cell 3; have y4 := HS.out.box.cell 4; have y5 := HS.out.box.cell 5; have y6 := HS.out.box.cell 6; have f0 := HS.out.res.thawed 0; have f1 := HS.out.res.thawed 1; have f2 := HS.out.res.thawed 2; have f3 := HS.out.res.thawed 3; have d0 := HS.out.res.cell 0; have d1 := HS.out.res.cell 1; have d2 := HS.out.res.cell 2; have d3 := HS.out.res.cell 3; simp [ans0] at y0 y1 y2 y3 y4 y5 y6 d0 d1 d2 d3)
      have HZ := Lib.hid (HS.out.result (.int .i64 0) (.bool fo) (.string ⟨#[]⟩) (.string vo))
      clear HS y0 y1 y2 y3 y4 y5 y6 f0 d0 f1 d1 f2 d2 f3 d3
      generalize (((w5.setCell ⟨g, 0, none⟩ (.int .i64 0)).setCell ⟨g, 1, none⟩ (.bool fo)).setCell ⟨g, 2, none⟩ (.string ⟨#[]⟩)).setCell ⟨g, 3, none⟩ (.string vo) = w9 at HZ ⊢
      (try simp only [Exit.inBlock, Exit.then])
      refine bodyPost_ret (results_cell_row rfl _ _ g 38 _ (0, 0) _ (by rfl) HZ.out.2.2.2 Try.underlying38 rfl (by kernel_rfl)) rfl ?_
      exact ⟨by rw [← HLD.out.2, doA.eq_1, if_pos HE.out, if_pos (by decide), HGA.out]; rfl, _, by rw [← HLD.out.1, doM.eq_1, if_pos HE.out, if_neg (by decide), if_neg (by decide), if_neg (by decide), if_neg (by decide)]; exact HZ.out.1, HZ.out.2.1, HZ.out.2.2.1⟩
    · by_cases q2 : kind = 2
      · subst q2
        obtain ⟨fo, hfo⟩ : ∃ b, (getL l k).isSome = b := ⟨_, rfl⟩
        obtain ⟨vo, hvo⟩ : ∃ b, (getL l k).getD ⟨#[]⟩ = b := ⟨_, rfl⟩
        have hga : gans (getL l k) = ⟨0, fo, ⟨#[]⟩, vo⟩ := by unfold gans; rw [hfo, hvo]
        have HGA := Lib.hid hga
        have CC : Hid (Calls Try.prog 66 #[.pointer (some ⟨mb, 0, none⟩), .string k, .string v] w4 fun e w' => e = .returned (.agg #[.int .i64 0, .bool fo, .string ⟨#[]⟩, .string vo]) ∧ ∃ rb', Om w' Z mb rb' (putL l k v) ∧ (rb' = rb ∨ ∃ k, rb' = some k ∧ w4.heap.size ≤ k) ∧ Turn (fun k => k = mb ∨ rb = some k) w4 w') := Lib.hid (by have := put_any HS.out.om k v HF.out.1 HF.out.2.1 (by have := HF.out.2.2.2.2; omega) (Nat.le_trans HF.out.2.2.2.1 HS.out.tu.size); rw [hga] at this; exact this)
        clear hga hfo hvo
        go_wp2_with (go_at_call 66; refine CC.out.mono ?_; rintro e w5 ⟨rfl, rb2, om, hr, t⟩; replace HS := Lib.hid (HS.out.step om hr t); clear om hr t y0 y1 y2 y3 y4 y5 y6 f0 d0 f1 d1 f2 d2 f3 d3; have y0 := HS.out.box.cell 0; have y1 := HS.out.box.cell 1; have y2 := HS.out.box.cell 2; have y3 := HS.out.box.cell 3; have y4 := HS.out.box.cell 4; have y5 := HS.out.box.cell 5; have y6 := HS.out.box.cell 6; have f0 := HS.out.res.thawed 0; have f1 := HS.out.res.thawed 1; have f2 := HS.out.res.thawed 2; have f3 := HS.out.res.thawed 3; have d0 := HS.out.res.cell 0; have d1 := HS.out.res.cell 1; have d2 := HS.out.res.cell 2; have d3 := HS.out.res.cell 3; simp [ans0] at y0 y1 y2 y3 y4 y5 y6 d0 d1 d2 d3)
        have HZ := Lib.hid (HS.out.result (.int .i64 0) (.bool fo) (.string ⟨#[]⟩) (.string vo))
        clear HS y0 y1 y2 y3 y4 y5 y6 f0 d0 f1 d1 f2 d2 f3 d3
        generalize (((w5.setCell ⟨g, 0, none⟩ (.int .i64 0)).setCell ⟨g, 1, none⟩ (.bool fo)).setCell ⟨g, 2, none⟩ (.string ⟨#[]⟩)).setCell ⟨g, 3, none⟩ (.string vo) = w9 at HZ ⊢
        (try simp only [Exit.inBlock, Exit.then])
        refine bodyPost_ret (results_cell_row rfl _ _ g 38 _ (0, 0) _ (by rfl) HZ.out.2.2.2 Try.underlying38 rfl (by kernel_rfl)) rfl ?_
        exact ⟨by rw [← HLD.out.2, doA.eq_1, if_pos HE.out, if_pos (by decide), HGA.out]; rfl, _, by rw [← HLD.out.1, doM.eq_1, if_pos HE.out, if_pos rfl]; exact HZ.out.1, HZ.out.2.1, HZ.out.2.2.1⟩
      · by_cases q3 : kind = 3
        · subst q3
          obtain ⟨fo, hfo⟩ : ∃ b, (getL l k).isSome = b := ⟨_, rfl⟩
          obtain ⟨vo, hvo⟩ : ∃ b, (getL l k).getD ⟨#[]⟩ = b := ⟨_, rfl⟩
          have hga : gans (getL l k) = ⟨0, fo, ⟨#[]⟩, vo⟩ := by unfold gans; rw [hfo, hvo]
          have HGA := Lib.hid hga
          have CC : Hid (Calls Try.prog 67 #[.pointer (some ⟨mb, 0, none⟩), .string k] w4 fun e w' => e = .returned (.agg #[.int .i64 0, .bool fo, .string ⟨#[]⟩, .string vo]) ∧ ∃ rb', Om w' Z mb rb' (delL l k) ∧ (rb' = rb ∨ ∃ k, rb' = some k ∧ w4.heap.size ≤ k) ∧ Turn (fun k => k = mb ∨ rb = some k) w4 w') := Lib.hid (by have := remove_any HS.out.om k; rw [hga] at this; exact this)
          clear hga hfo hvo
          go_wp2_with (go_at_call 67; refine CC.out.mono ?_; rintro e w5 ⟨rfl, rb2, om, hr, t⟩; replace HS := Lib.hid (HS.out.step om hr t); clear om hr t y0 y1 y2 y3 y4 y5 y6 f0 d0 f1 d1 f2 d2 f3 d3; have y0 := HS.out.box.cell 0; have y1 := HS.out.box.cell 1; have y2 := HS.out.box.cell 2; have y3 := HS.out.box.cell 3; have y4 := HS.out.box.cell 4; have y5 := HS.out.box.cell 5; have y6 := HS.out.box.cell 6; have f0 := HS.out.res.thawed 0; have f1 := HS.out.res.thawed 1; have f2 := HS.out.res.thawed 2; have f3 := HS.out.res.thawed 3; have d0 := HS.out.res.cell 0; have d1 := HS.out.res.cell 1; have d2 := HS.out.res.cell 2; have d3 := HS.out.res.cell 3; simp [ans0] at y0 y1 y2 y3 y4 y5 y6 d0 d1 d2 d3)
          have HZ := Lib.hid (HS.out.result (.int .i64 0) (.bool fo) (.string ⟨#[]⟩) (.string vo))
          clear HS y0 y1 y2 y3 y4 y5 y6 f0 d0 f1 d1 f2 d2 f3 d3
          generalize (((w5.setCell ⟨g, 0, none⟩ (.int .i64 0)).setCell ⟨g, 1, none⟩ (.bool fo)).setCell ⟨g, 2, none⟩ (.string ⟨#[]⟩)).setCell ⟨g, 3, none⟩ (.string vo) = w9 at HZ ⊢
          (try simp only [Exit.inBlock, Exit.then])
          refine bodyPost_ret (results_cell_row rfl _ _ g 38 _ (0, 0) _ (by rfl) HZ.out.2.2.2 Try.underlying38 rfl (by kernel_rfl)) rfl ?_
          exact ⟨by rw [← HLD.out.2, doA.eq_1, if_pos HE.out, if_pos (by decide), HGA.out]; rfl, _, by rw [← HLD.out.1, doM.eq_1, if_pos HE.out, if_neg (by decide), if_pos rfl]; exact HZ.out.1, HZ.out.2.1, HZ.out.2.2.1⟩
        · by_cases q4 : kind = 4
          · subst q4
            have CC := Lib.hid (swap_any HS.out.om 4 k v o had aft A ws.length cap ⟨HF.out.1, HF.out.2.1⟩ (by have := HF.out.2.2.2.2; omega) (Nat.le_trans HF.out.2.2.2.1 HS.out.tu.size))
            obtain ⟨sd, hsd⟩ : ∃ b, swD l k o had = b := ⟨_, rfl⟩
            obtain ⟨vo, hvo⟩ : ∃ b, (getL l k).getD ⟨#[]⟩ = b := ⟨_, rfl⟩
            obtain ⟨L3, hL3⟩ : ∃ L3, (if swD l k o had = true then putL l k v else l) = L3 := ⟨_, rfl⟩
            rw [hL3, hsd, hvo] at CC
            have HGA := Lib.hid (And.intro hL3 (And.intro hsd hvo))
            clear hsd hvo hL3
            go_wp2_with (go_at_call 68; refine CC.out.mono ?_; rintro e w5 ⟨rfl, rb2, om, hr, t⟩; replace HS := Lib.hid (HS.out.step om hr t); clear om hr t y0 y1 y2 y3 y4 y5 y6 f0 d0 f1 d1 f2 d2 f3 d3; have y0 := HS.out.box.cell 0; have y1 := HS.out.box.cell 1; have y2 := HS.out.box.cell 2; have y3 := HS.out.box.cell 3; have y4 := HS.out.box.cell 4; have y5 := HS.out.box.cell 5; have y6 := HS.out.box.cell 6; have f0 := HS.out.res.thawed 0; have f1 := HS.out.res.thawed 1; have f2 := HS.out.res.thawed 2; have f3 := HS.out.res.thawed 3; have d0 := HS.out.res.cell 0; have d1 := HS.out.res.cell 1; have d2 := HS.out.res.cell 2; have d3 := HS.out.res.cell 3; simp [ans0] at y0 y1 y2 y3 y4 y5 y6 d0 d1 d2 d3)
            have HZ := Lib.hid (HS.out.result (.int .i64 0) (.bool sd) (.string ⟨#[]⟩) (.string vo))
            clear HS y0 y1 y2 y3 y4 y5 y6 f0 d0 f1 d1 f2 d2 f3 d3
            generalize (((w5.setCell ⟨g, 0, none⟩ (.int .i64 0)).setCell ⟨g, 1, none⟩ (.bool sd)).setCell ⟨g, 2, none⟩ (.string ⟨#[]⟩)).setCell ⟨g, 3, none⟩ (.string vo) = w9 at HZ ⊢
            (try simp only [Exit.inBlock, Exit.then])
            refine bodyPost_ret (results_cell_row rfl _ _ g 38 _ (0, 0) _ (by rfl) HZ.out.2.2.2 Try.underlying38 rfl (by kernel_rfl)) rfl ?_
            exact ⟨by rw [← HLD.out.2, doA.eq_1, if_pos HE.out, if_neg (by decide), if_pos rfl, HGA.out.2.1, HGA.out.2.2]; rfl, _, by rw [← HLD.out.1, doM.eq_1, if_pos HE.out, if_neg (by decide), if_neg (by decide), if_pos rfl, HGA.out.1]; exact HZ.out.1, HZ.out.2.1, HZ.out.2.2.1⟩
          · by_cases q5 : kind = 5
            · subst q5
              have CC := Lib.hid (next_any HS.out.om k aft)
              obtain ⟨an, han⟩ : ∃ b, nans (nexts l k aft) = b := ⟨_, rfl⟩
              obtain ⟨ac, af, ak, av⟩ := an
              rw [han] at CC
              unfold Ans.val at CC
              have HGA := Lib.hid han
              clear han
              go_wp2_with (go_at_call 69; refine CC.out.mono ?_; rintro e w5 ⟨rfl, t⟩; replace HS := Lib.hid (HS.out.no t); clear t y0 y1 y2 y3 y4 y5 y6 f0 d0 f1 d1 f2 d2 f3 d3; have y0 := HS.out.box.cell 0; have y1 := HS.out.box.cell 1; have y2 := HS.out.box.cell 2; have y3 := HS.out.box.cell 3; have y4 := HS.out.box.cell 4; have y5 := HS.out.box.cell 5; have y6 := HS.out.box.cell 6; have f0 := HS.out.res.thawed 0; have f1 := HS.out.res.thawed 1; have f2 := HS.out.res.thawed 2; have f3 := HS.out.res.thawed 3; have d0 := HS.out.res.cell 0; have d1 := HS.out.res.cell 1; have d2 := HS.out.res.cell 2; have d3 := HS.out.res.cell 3; simp [ans0] at y0 y1 y2 y3 y4 y5 y6 d0 d1 d2 d3)
              have HZ := Lib.hid (HS.out.result (.int .i64 ac) (.bool af) (.string ak) (.string av))
              clear HS y0 y1 y2 y3 y4 y5 y6 f0 d0 f1 d1 f2 d2 f3 d3
              generalize (((w5.setCell ⟨g, 0, none⟩ (.int .i64 ac)).setCell ⟨g, 1, none⟩ (.bool af)).setCell ⟨g, 2, none⟩ (.string ak)).setCell ⟨g, 3, none⟩ (.string av) = w9 at HZ ⊢
              (try simp only [Exit.inBlock, Exit.then])
              refine bodyPost_ret (results_cell_row rfl _ _ g 38 _ (0, 0) _ (by rfl) HZ.out.2.2.2 Try.underlying38 rfl (by kernel_rfl)) rfl ?_
              exact ⟨by rw [← HLD.out.2, doA.eq_1, if_pos HE.out, if_neg (by decide), if_neg (by decide), if_pos rfl, HGA.out]; rfl, _, by rw [← HLD.out.1, doM.eq_1, if_pos HE.out, if_neg (by decide), if_neg (by decide), if_neg (by decide), if_neg (by decide)]; exact HZ.out.1, HZ.out.2.1, HZ.out.2.2.1⟩
            · by_cases q6 : kind = 6
              · subst q6
                have CC := Lib.hid (write_any HS.out.om ws A cap (row_sep HW.out.2.1 HS.out.tu HW.out.2.2) HW.out.2.2 HF.out.2.2.1 (by have := HF.out.2.2.2.2; omega) (Nat.le_trans HF.out.2.2.2.1 HS.out.tu.size))
                go_wp2_with (go_at_call 70; refine CC.out.mono ?_; rintro e w5 ⟨rfl, rb2, om, hr, t⟩; replace HS := Lib.hid (HS.out.step om hr t); clear om hr t y0 y1 y2 y3 y4 y5 y6 f0 d0 f1 d1 f2 d2 f3 d3; have y0 := HS.out.box.cell 0; have y1 := HS.out.box.cell 1; have y2 := HS.out.box.cell 2; have y3 := HS.out.box.cell 3; have y4 := HS.out.box.cell 4; have y5 := HS.out.box.cell 5; have y6 := HS.out.box.cell 6; have f0 := HS.out.res.thawed 0; have f1 := HS.out.res.thawed 1; have f2 := HS.out.res.thawed 2; have f3 := HS.out.res.thawed 3; have d0 := HS.out.res.cell 0; have d1 := HS.out.res.cell 1; have d2 := HS.out.res.cell 2; have d3 := HS.out.res.cell 3; simp [ans0] at y0 y1 y2 y3 y4 y5 y6 d0 d1 d2 d3)
                have HZ := Lib.hid (HS.out.result (.int .i64 0) (.bool false) (.string ⟨#[]⟩) (.string ⟨#[]⟩))
                clear HS y0 y1 y2 y3 y4 y5 y6 f0 d0 f1 d1 f2 d2 f3 d3
                generalize (((w5.setCell ⟨g, 0, none⟩ (.int .i64 0)).setCell ⟨g, 1, none⟩ (.bool false)).setCell ⟨g, 2, none⟩ (.string ⟨#[]⟩)).setCell ⟨g, 3, none⟩ (.string ⟨#[]⟩) = w9 at HZ ⊢
                (try simp only [Exit.inBlock, Exit.then])
                refine bodyPost_ret (results_cell_row rfl _ _ g 38 _ (0, 0) _ (by rfl) HZ.out.2.2.2 Try.underlying38 rfl (by kernel_rfl)) rfl ?_
                exact ⟨by rw [← HLD.out.2, doA.eq_1, if_pos HE.out, if_neg (by decide), if_neg (by decide), if_neg (by decide)]; rfl, _, by rw [← HLD.out.1, doM.eq_1, if_pos HE.out, if_neg (by decide), if_neg (by decide), if_neg (by decide), if_pos rfl]; exact HZ.out.1, HZ.out.2.1, HZ.out.2.2.1⟩
              · exfalso
                have := HE.out
                unfold refO at this
                rw [if_neg (by omega), if_neg q2, if_neg q4, if_neg q6] at this
                cases this
  · have HE : Hid (¬ refO kind k v o had ws = 0 ∧ refO kind k v o had ws = ev) := Lib.hid ⟨hev ▸ he, hev⟩
    clear hev
    have y0 := HS.out.box.cell 0
    have y1 := HS.out.box.cell 1
    have y2 := HS.out.box.cell 2
    have y3 := HS.out.box.cell 3
    have y4 := HS.out.box.cell 4
    have y5 := HS.out.box.cell 5
    have y6 := HS.out.box.cell 6
    have f0 := HS.out.res.thawed 0
    have f1 := HS.out.res.thawed 1
    have f2 := HS.out.res.thawed 2
    have f3 := HS.out.res.thawed 3
    have d0 := HS.out.res.cell 0
    have d1 := HS.out.res.cell 1
    have d2 := HS.out.res.cell 2
    have d3 := HS.out.res.cell 3
    simp [ans0] at y0 y1 y2 y3 y4 y5 y6 d0 d1 d2 d3
    go_wp2_with fail
    have HZ := Lib.hid (HS.out.result (.int .i64 ev) (.bool false) (.string ⟨#[]⟩) (.string ⟨#[]⟩))
    clear HS y0 y1 y2 y3 y4 y5 y6 f0 d0 f1 d1 f2 d2 f3 d3
    generalize (((w3.setCell ⟨g, 0, none⟩ (.int .i64 ev)).setCell ⟨g, 1, none⟩ (.bool false)).setCell ⟨g, 2, none⟩ (.string ⟨#[]⟩)).setCell ⟨g, 3, none⟩ (.string ⟨#[]⟩) = w9 at HZ ⊢
    (try simp only [Exit.inBlock, Exit.then])
    refine bodyPost_ret (results_cell_row rfl _ _ g 38 _ (0, 0) _ (by rfl) HZ.out.2.2.2 Try.underlying38 rfl (by kernel_rfl)) rfl ?_
    exact ⟨by rw [← HLD.out.2, doA.eq_1, if_neg HE.out.1, HE.out.2]; rfl, _, by rw [← HLD.out.1, doM.eq_1, if_neg HE.out.1]; exact HZ.out.1, HZ.out.2.1, HZ.out.2.2.1⟩
end Go.Proofs.Ytllppkfeiifklaa
