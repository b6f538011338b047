/-
  The document's Check of a witness.
  Texts within reach, all along a witness; what is read of an event.
  A row of events that came in: its texts are within reach, whatever the rows' lengths.
  The operations that have taken effect, in the marks' row, as plain data.
-/
import Derived.Test.YtllppkfeiifklaaJ22
import Derived.Test.YtllppkfeiifklaaJ24
import Derived.Test.YtllppkfeiifklaaJ28
import Derived.Test.YtllppkfeiifklaaJ29
import Derived.Test.YtllppkfeiifklaaJ16
import Derived.Test.YtllppkfeiifklaaJ25
namespace Go.Proofs.Ytllppkfeiifklaa
open Go.RowKit Go.Lib
set_option linter.unusedVariables false
set_option maxRecDepth 20000
set_option maxRecDepth 20000
set_option linter.unusedSimpArgs false

theorem emp_dec (a : ByteArray) : a.toList.isEmpty = decide (a = ⟨#[]⟩) := by
  rw [← bytes_beq]
  have h : (⟨#[]⟩ : ByteArray).toList = [] := by rw [ByteArray.toList_eq]
  rw [h]
  cases a.toList <;> rfl
theorem ridle_any (a : Ans) (w : World) : Calls Try.prog 34 #[.agg #[.int .i64 a.code, .bool a.found, .string a.k, .string a.v]] w fun e w' => e = .returned (.bool (idleA a)) ∧ Turn No w w' := by
  have HB : Hid (Turn No w (w.alloc (.cells #[.int .i64 a.code, .bool a.found, .string a.k, .string a.v] 38)) ∧ At (w.alloc (.cells #[.int .i64 a.code, .bool a.found, .string a.k, .string a.v] 38)) w.heap.size (.cells #[.int .i64 a.code, .bool a.found, .string a.k, .string a.v] 38 (0, 0))) := Lib.hid ⟨(Turn.refl _ _).alloc _, At.new _ _⟩
  obtain ⟨r, hr⟩ : ∃ r, idleA a = r := ⟨_, rfl⟩
  have HR := Lib.hid hr
  rw [hr]
  clear hr
  obtain ⟨c, f, k, v⟩ := a
  simp only at HB ⊢
  go_enter Try.func34, Try.ntmps34
  go_upto_region 1 with fail
  generalize w.alloc (.cells #[.int .i64 c, .bool f, .string k, .string v] 38) = w1 at HB ⊢
  generalize w.heap.size = g at HB ⊢
  have y0 := HB.out.2.cell 0
  have y1 := HB.out.2.cell 1
  have y2 := HB.out.2.cell 2
  have y3 := HB.out.2.cell 3
  simp at y0 y1 y2 y3
  have qk := emp_dec k
  have qv := Lib.hid (emp_dec v)
  by_cases h5 : c = 5
  · subst h5
    cases f with
    | true =>
      obtain rfl : r = false := by rw [← HR.out]; simp [idleA]
      clear HR
      go_wp2_with fail
      go_ret
      exact ⟨rfl, HB.out.1⟩
    | false =>
      by_cases hk : k = ⟨#[]⟩
      · have hr2 : r = decide (v = ⟨#[]⟩) := by rw [← HR.out]; simp [idleA, hk]
        rw [decide_eq_true hk] at qk
        clear HR hk
        subst hr2
        go_wp2_with fail
        go_ret
        exact ⟨by rw [← qv.out]; rfl, HB.out.1⟩
      · obtain rfl : r = false := by rw [← HR.out]; simp [idleA, hk]
        rw [decide_eq_false hk] at qk
        clear HR hk
        go_wp2_with fail
        go_ret
        exact ⟨rfl, HB.out.1⟩
  · by_cases h6 : c = 6
    · subst h6
      cases f with
      | true =>
        obtain rfl : r = false := by rw [← HR.out]; simp [idleA]
        clear HR
        go_wp2_with fail
        go_ret
        exact ⟨rfl, HB.out.1⟩
      | false =>
        by_cases hk : k = ⟨#[]⟩
        · have hr2 : r = decide (v = ⟨#[]⟩) := by rw [← HR.out]; simp [idleA, hk]
          rw [decide_eq_true hk] at qk
          clear HR hk
          subst hr2
          go_wp2_with fail
          go_ret
          exact ⟨by rw [← qv.out]; rfl, HB.out.1⟩
        · obtain rfl : r = false := by rw [← HR.out]; simp [idleA, hk]
          rw [decide_eq_false hk] at qk
          clear HR hk
          go_wp2_with fail
          go_ret
          exact ⟨rfl, HB.out.1⟩
    · obtain rfl : r = false := by rw [← HR.out]; simp [idleA, h5, h6]
      have e5 : (c == 5) = false := by simpa using h5
      have e6 : (c == 6) = false := by simpa using h6
      clear HR h5 h6
      go_wp2_with fail
      go_ret
      exact ⟨rfl, HB.out.1⟩
/-- A row of events that came in, with its writes. -/
structure InE (w : World) (B : Option Addr) (cap : Nat) (l : List Ev) (ps : List (List Wr)) : Prop where
  row : Row w B (ecs l)
  rws : Rws w l ps
  ids : ∀ e ∈ l, In64 e.id
  cap : l.length ≤ cap
  few : FewE l ps
theorem InE.no {w w2 : World} {B : Option Addr} {cap : Nat} {l : List Ev} {ps : List (List Wr)} (h : InE w B cap l ps) (t : Turn No w w2) : InE w2 B cap l ps := ⟨h.row.no t, h.rws.no t, h.ids, h.cap, h.few⟩
/-- The document's map in a box, beside the row. -/
structure Dm (w wr : World) (g : Nat) (R : List Pr) (m : Nat) (B : Option Addr) (c : Nat) : Prop where
  tu : Turn No w wr
  box : At wr g (.cells #[.slice B m c] 60 (0, 0))
  row : wr.ownsRow w.heap.size 47 2 (.slice B m c) m (pcs R)
  hm : R.length = m
  o : w.heap.size ≤ g
section
variable {w wr w2 : World} {g m c : Nat} {R : List Pr} {B : Option Addr}
theorem Dm.no (h : Dm w wr g R m B c) (t : Turn No wr w2) : Dm w w2 g R m B c := ⟨h.tu.trans t, h.box.no t, own_grown h.row t (fun _ _ h => h), h.hm, h.o⟩
theorem Dm.set (h : Dm w wr g R m B c) {g2 : Nat} {cs : Array Value} (hg : At wr g2 (.cells cs 38 (0, 0))) (hn : w.heap.size ≤ g2) (t : Turn (fun k => k = g2) wr w2) : Dm w w2 g R m B c := by
  refine ⟨h.tu.then t (fun i hi e => by omega), h.box.turn t (fun e => ?_), own_grown h.row t (fun k hk e => ?_), h.hm, h.o⟩
  · subst e
    have := h.box.eq hg
    injection this with _ e _
    exact absurd e (by decide)
  · subst e
    exact own_ne h.row hg (by decide) hk
theorem Dm.put (h : Dm w wr g R m B c) {R2 : List Pr} {m2 : Nat} {B2 : Option Addr} {c2 : Nat} (ho : wr.ownsRow w.heap.size 47 2 (.slice B2 m2 c2) m2 (pcs R2)) (hm : R2.length = m2) : Dm w (wr.setCell ⟨g, 0, none⟩ (.slice B2 m2 c2)) g R2 m2 B2 c2 := by
  have t : Turn (fun k => k = g) wr (wr.setCell ⟨g, 0, none⟩ (.slice B2 m2 c2)) := Turn.set1 _ _ _ _
  refine ⟨h.tu.then t (fun i hi e => by have := h.o; omega), by simpa using h.box.set 0 (.slice B2 m2 c2), own_grown ho t (fun k hk e => ?_), hm, h.o⟩
  subst e
  exact own_ne ho h.box (by decide) hk
end
theorem few_fit {k v o : ByteArray} {ws : List Wr} (h : Few k v o ws) : (Fit k ∧ Fit v ∧ Fit o) ∧ ∀ x ∈ ws, Fit x.k ∧ Fit x.v := ⟨⟨fit500 h.k, fit500 h.v, fit500 h.o⟩, fun x hx => ⟨fit500 (h.w x hx).1, fit500 (h.w x hx).2⟩⟩
end Go.Proofs.Ytllppkfeiifklaa
namespace Go.Proofs.Ytllppkfeiifklaa
open Go.RowKit Go.Lib
set_option linter.unusedVariables false
set_option maxRecDepth 20000
set_option linter.unusedSimpArgs false

theorem stW_len {w : World} {l : List Ev} {ps : List (List Wr)} (h : Rws w l ps) (id : Int) : (stW l ps id).length = (stO l id).len := by
  cases hf : firstAt 1 id l with
  | none => rw [(state_no (ps := ps) hf).1, (state_no (ps := ps) hf).2]; rfl
  | some n =>
    obtain ⟨hn, e, he, _⟩ := firstAt_get hf
    obtain ⟨ws, hw, _, hfit⟩ := h.at_ he
    rw [(state_of hf he hw).1, (state_of hf he hw).2]
    exact hfit.n
def FitL (M : List Pr) : Prop := ∀ p ∈ M, Fit p.k ∧ Fit p.v
theorem FitL.put {M : List Pr} (h : FitL M) {k v : ByteArray} (hk : Fit k) (hv : Fit v) : FitL (putL M k v) := by
  intro p hp
  rw [put_low] at hp
  rcases List.mem_append.1 hp with h1 | h1
  · exact h p ((List.takeWhile_sublist _).subset h1)
  · rcases List.mem_cons.1 h1 with rfl | h1
    · exact ⟨hk, hv⟩
    · split at h1
      · exact h p ((List.dropWhile_sublist _).subset (List.mem_of_mem_tail h1))
      · exact h p ((List.dropWhile_sublist _).subset h1)
theorem FitL.del {M : List Pr} (h : FitL M) (k : ByteArray) : FitL (delL M k) := fun p hp => h p (List.mem_filter.1 hp).1
theorem FitL.wrs {M : List Pr} (h : FitL M) {ws : List Wr} (hw : ∀ x ∈ ws, Fit x.k ∧ Fit x.v) : FitL (wrL M ws) := by
  unfold wrL
  induction ws generalizing M with
  | nil => exact h
  | cons x t ih =>
    rw [List.foldl_cons]
    refine ih ?_ (fun y hy => hw y (List.mem_cons_of_mem _ hy))
    unfold wr1
    split
    · exact h.del _
    · exact h.put (hw x List.mem_cons_self).1 (hw x List.mem_cons_self).2
theorem FitL.op {M : List Pr} (h : FitL M) {o : Opx} {ws : List Wr} (hf : Few o.k o.v o.o ws) : FitL (opD M o ws) := by
  have hx := few_fit hf
  unfold opD doM
  split
  · split
    · exact h.put hx.1.1 hx.1.2.1
    · split
      · exact h.del _
      · split
        · split
          · exact h.put hx.1.1 hx.1.2.1
          · exact h
        · split
          · exact h.wrs hx.2
          · exact h
  · exact h
theorem FitL.ln {l : List Ev} {ps : List (List Wr)} {M : List Pr} (h : FitL M) (hf : FewE l ps) (hl : ps.length = l.length) (n : Nat) : FitL (lnM l ps M n) := by
  unfold lnM
  have : ∀ (t : List Ev) (M : List Pr), FitL M → FitL (t.foldl (lnS l ps) M) := by
    intro t
    induction t with
    | nil => intro M h; exact h
    | cons e t ih =>
      intro M h
      rw [List.foldl_cons]
      refine ih _ ?_
      unfold lnS
      split
      · exact h.op (hf.st hl e.id)
      · exact h
  exact this _ M h
/-- The events of a row that is read: kind, Id and answer. -/
def EC (W : World) (b o : Nat) (e : Ev) : Prop := W.cell? ⟨b, o, none⟩ = some (.int .u8 e.kind) ∧ W.cell? ⟨b, o + 1, none⟩ = some (.int .i64 e.id) ∧ W.cell? ⟨b, o + 9, none⟩ = some (.int .i64 e.an.code) ∧ W.cell? ⟨b, o + 9 + 1, none⟩ = some (.bool e.an.found) ∧ W.cell? ⟨b, o + 9 + 2, none⟩ = some (.string e.an.k) ∧ W.cell? ⟨b, o + 9 + 3, none⟩ = some (.string e.an.v)
theorem ec_of {w : World} {A : Option Addr} {l : List Ev} (h : Row w A (ecs l)) {j : Nat} {e : Ev} (hj : l[j]? = some e) : ∃ b o, A = some ⟨b, o, none⟩ ∧ ∀ W, Turn No w W → EC W b (o + j * 13) e := by
  obtain ⟨b, o, hA, hb, hc⟩ := h.ev hj
  refine ⟨b, o, hA, fun W t => ?_⟩
  have hx : ∀ i u, e.cs[i]? = some u → W.cell? ⟨b, o + j * 13 + i, none⟩ = some u := fun i u hu => (World.cell?_of_block (w := w) (t.block b hb (fun h => h))).trans (hc i u hu)
  exact ⟨hx 0 _ rfl, hx 1 _ rfl, hx 9 _ rfl, hx 10 _ rfl, hx 11 _ rfl, hx 12 _ rfl⟩
theorem at_put4 {w : World} {g : Nat} {x0 x1 x2 x3 : Value} (h : At w g (.cells #[x0, x1, x2, x3] 38 (0, 0))) (y0 y1 y2 y3 : Value) : At ((((w.setCell ⟨g, 0, none⟩ y0).setCell ⟨g, 1, none⟩ y1).setCell ⟨g, 2, none⟩ y2).setCell ⟨g, 3, none⟩ y3) g (.cells #[y0, y1, y2, y3] 38 (0, 0)) := by
  simpa using (((h.set 0 y0).set 1 y1).set 2 y2).set 3 y3


end Go.Proofs.Ytllppkfeiifklaa
namespace Go.Proofs.Ytllppkfeiifklaa
open Go.RowKit Go.Lib
set_option linter.unusedVariables false
set_option maxRecDepth 20000
set_option linter.unusedSimpArgs false

structure Fq (e : Ev) (ws : List Wr) : Prop where
  id : In64 e.id
  k : Fit e.op.k
  v : Fit e.op.v
  o : Fit e.op.o
  ak : Fit e.an.k
  av : Fit e.an.v
  wf : ∀ x ∈ ws, x.fit
  n : ws.length = e.op.len
/-- A row of events that came in: l, and the writes ps of its events. -/
structure Inq (W : World) (A : Option Addr) (len cap : Nat) (l : List Ev) (ps : List (List Wr)) : Prop where
  hlen : l.length = len
  hcap : len ≤ cap
  hmax : len ≤ maxLen
  row : Row W A (ecs l)
  ids : ∀ e ∈ l, In64 e.id
  plen : ps.length = l.length
  get : ∀ (j : Nat) (e : Ev) (ws : List Wr), l[j]? = some e → ps[j]? = some ws → Row W e.op.A (wcs ws) ∧ Fq e ws
  wlen : ∀ e ∈ l, e.op.len ≤ maxLen

theorem inq_of_trod {H : Type} {enc : TypeId × Value → H} {W : World} {fuel : Nat} {A : Option Addr} {len cap : Nat} {x : DataW H × List MemPlace}
    (h : DataW.trod enc Try.prog W 0 (fun _ => true) true fuel 23 [.slice A len cap] = some x) (hs : Sz Try.prog 23 x.1) : ∃ l ps, Inq W A len cap l ps := by
  obtain ⟨hc, hm, hi⟩ := open_row Try.underlying23 cells34 (by decide) h
  obtain ⟨lp, hlp, hp⟩ := list_of (fun i (q : Ev × List Wr) => In64 q.1.id ∧ q.1.op.len ≤ maxLen ∧ Row W q.1.op.A (wcs q.2) ∧ Fq q.1 q.2 ∧
      ∃ b o, A = some ⟨b, o, none⟩ ∧ b < W.heap.size ∧ ∀ j u, q.1.cs[j]? = some u → W.cell? ⟨b, o + i * 13 + j, none⟩ = some u) len (fun i hlt => by
    obtain ⟨cs, n, D, hcl, htr, hsz, hcell⟩ := hi i hlt
    obtain ⟨e, rfl, hin⟩ := decode_ev hcl htr
    have hfit := hin.fit (hsz hs)
    obtain ⟨m, y, hy, hys⟩ := hin.row
    obtain ⟨_, hwm, hw⟩ := open_row Try.underlying32 cells53 (by decide) hy
    obtain ⟨ws, hwl, hwp⟩ := list_of (fun i (x : Wr) => x.fit ∧ ∃ b o, e.op.A = some ⟨b, o, none⟩ ∧ b < W.heap.size ∧ ∀ j u, x.cs[j]? = some u → W.cell? ⟨b, o + i * 3 + j, none⟩ = some u) e.op.len (fun i hlt => by
      obtain ⟨cs, n, D, hcl, htr, hsz2, hcell⟩ := hw i hlt
      obtain ⟨x, rfl, hx⟩ := decode_wr hcl htr
      exact ⟨x, hx (hsz2 (hys (hsz hs))), hcell⟩)
    refine ⟨(e, ws), hin.id, hwm, row_of_parts Wr.cs 3 (by decide) (fun _ => rfl) (fun i x hx => (hwp i x hx).2), ?_, hcell⟩
    exact ⟨hin.id, hfit.1, hfit.2.1, hfit.2.2.1, hfit.2.2.2.1, hfit.2.2.2.2, fun x hx => by
      obtain ⟨j, hj⟩ := List.mem_iff_getElem?.1 hx
      exact (hwp j x hj).1, hwl⟩)
  have hget : ∀ (j : Nat) (e : Ev), (lp.map (fun q : Ev × List Wr => q.1))[j]? = some e → ∃ q : Ev × List Wr, lp[j]? = some q ∧ q.1 = e := fun j e he => by
    simp only [List.getElem?_map, Option.map_eq_some_iff] at he
    exact he
  refine ⟨lp.map (fun q : Ev × List Wr => q.1), lp.map (fun q : Ev × List Wr => q.2), by simp [hlp], hc, hm, row_of_parts Ev.cs 13 (by decide) (fun _ => rfl) (fun i e he => ?_), fun e he => ?_, by simp, fun j e ws he hw => ?_, fun e he => ?_⟩
  · obtain ⟨q, hq, rfl⟩ := hget i e he
    exact (hp i q hq).2.2.2.2
  · obtain ⟨q, hq, rfl⟩ := List.mem_map.1 he
    obtain ⟨j, hj⟩ := List.mem_iff_getElem?.1 hq
    exact (hp j q hj).1
  · obtain ⟨q, hq, rfl⟩ := hget j e he
    simp only [List.getElem?_map, hq, Option.map_some, Option.some.injEq] at hw
    subst hw
    exact ⟨(hp j q hq).2.2.1, (hp j q hq).2.2.2.1⟩
  · obtain ⟨q, hq, rfl⟩ := List.mem_map.1 he
    obtain ⟨j, hj⟩ := List.mem_iff_getElem?.1 hq
    exact (hp j q hj).2.1
/-- Few events: then the row is one that the functions are told of. -/
theorem Inq.inE {W : World} {A : Option Addr} {cap : Nat} {l : List Ev} {ps : List (List Wr)} (h : Inq W A l.length cap l ps) (hf : FewE l ps) : InE W A cap l ps :=
  ⟨h.row, ⟨h.plen, fun j e ws he hw => by
    have hg := h.get j e ws he hw
    have hq := hg.2
    have hn := (hf.op j e ws he hw).n
    exact ⟨hg.1, ⟨hq.id, hq.k, hq.v, hq.o, hq.ak, hq.av, hq.wf, hq.n, by have := hq.n; omega⟩⟩⟩, h.ids, h.hcap, hf⟩
theorem inOs0 (w : World) : InOs w none 0 0 [] [] := ⟨rfl, by decide, Row.nil _ _, rfl, fun j x ws hx => by simp at hx⟩
set_option maxRecDepth 100000 in
set_option maxHeartbeats 8000000 in
theorem great8_any (S : List Pr) (A : Option Addr) (cap : Nat) (l : List Ev) (ps : List (List Wr)) (B : Option Addr) (cap2 : Nat) (w : World) (hS : InP w A S.length cap S) (hE : Inq w B l.length cap2 l ps) :
    Calls Try.prog 9 #[.slice A S.length cap, .slice B l.length cap2] w fun e w' => Grt (S.length ≤ 100 ∧ FewE l ps) e ∧ Turn No w w' := by
  have HR := Lib.hid (And.intro hS hE)
  have h2 := hE.hmax
  unfold maxLen at h2
  have C25 := Lib.hid (great_any A cap S none 0 [] [] w hS (inOs0 w))
  simp only [List.length_nil] at C25
  clear hS hE
  by_cases b1 : 200 < l.length
  · have b1' : decide ((200 : Int) < (l.length : Int)) = true := decide_eq_true (by omega)
    clear b1
    go_enter Try.func9, Try.ntmps9
    go_wp2_with fail
    go_ret
    exact ⟨Grt.yes, Turn.refl _ _⟩
  · have b1' : decide ((200 : Int) < (l.length : Int)) = false := decide_eq_false (by omega)
    have HB := Lib.hid b1
    clear b1
    go_enter Try.func9, Try.ntmps9
    go_upto_if 12 with (go_at_call 25; refine C25.out.mono ?_; rintro e w1 ⟨⟨bg, rfl, hg⟩, ht⟩; have H1 := Lib.hid (And.intro hg ht); clear hg ht)
    clear C25
    obtain ⟨br, hbr⟩ : ∃ x, x = bg := ⟨_, rfl⟩
    subst hbr
    cases br with
    | true =>
      go_wp2_with fail
      go_ret
      exact ⟨Grt.yes, H1.out.2⟩
    | false =>
      have HN := Lib.hid (show S.length ≤ 100 from by first | exact (H1.out.1 rfl).nl | exact (H1.out.1 trivial).nl)
      go_wp2_with fail
      go_loopw [5] (fun i wr => ∃ kk : Nat, kk ≤ l.length ∧ i = .int .i64 (kk : Int) ∧ Hid (Turn No w wr ∧ ∀ (j : Nat) (e : Ev) (ws : List Wr), j < kk → l[j]? = some e → ps[j]? = some ws → Few e.op.k e.op.v e.op.o ws)) (fun i _ => l.length - (RowKit.intOf i).toNat)
      case atStart => exact ⟨0, Nat.zero_le _, rfl, Lib.hid ⟨H1.out.2, fun j e ws hj => by omega⟩⟩
      case round =>
        obtain ⟨kk, hm, rfl, HP⟩ := hrel
        by_cases hlt : kk < l.length
        · obtain ⟨e, he⟩ : ∃ e, l[kk]? = some e := ⟨l[kk], List.getElem?_eq_getElem hlt⟩
          obtain ⟨ws, hw⟩ : ∃ e, ps[kk]? = some e := ⟨ps[kk]'(by have := HR.out.2.plen; omega), List.getElem?_eq_getElem _⟩
          obtain ⟨b, off, hA, hb, hx⟩ := (HR.out.2.row.no HP.out.1).ev he
          have HX : Hid (∀ W, Turn No wr W → ∀ i u, e.cs[i]? = some u → W.cell? ⟨b, off + kk * 13 + i, none⟩ = some u) := Lib.hid fun W t i u hu => (World.cell?_of_block (w := wr) (t.block b hb (fun h => h))).trans (hx i u hu)
          have hg := HR.out.2.get kk e ws he hw
          have hwl := HR.out.2.wlen e (List.mem_of_getElem? he)
          have HEW := Lib.hid (And.intro he hw)
          have C26 := Lib.hid fun (W : World) (t : Turn No w W) => greatop_any e.op.kind e.op.k e.op.v e.op.o e.op.had e.op.aft e.op.A e.op.cap ws W (hg.1.no t) hg.2.k hg.2.v hg.2.o (fun x hx => hg.2.wf x hx) (by rw [hg.2.n]; exact hwl)
          rw [hg.2.n] at C26
          obtain ⟨kind, id, ⟨ok, k, v, o, had, aft, A0, len, cap0⟩, ⟨code, found, ak, av⟩⟩ := e
          simp only at C26
          have y2 : wr.cell? ⟨b, off + kk * 13 + 2, none⟩ = some (.int .u8 ok) := HX.out wr (Turn.refl _ _) 2 _ rfl
          have y3 : wr.cell? ⟨b, off + kk * 13 + 2 + 1, none⟩ = some (.string k) := HX.out wr (Turn.refl _ _) 3 _ rfl
          have y4 : wr.cell? ⟨b, off + kk * 13 + 2 + 2, none⟩ = some (.string v) := HX.out wr (Turn.refl _ _) 4 _ rfl
          have y5 : wr.cell? ⟨b, off + kk * 13 + 2 + 3, none⟩ = some (.string o) := HX.out wr (Turn.refl _ _) 5 _ rfl
          have y6 : wr.cell? ⟨b, off + kk * 13 + 2 + 4, none⟩ = some (.bool had) := HX.out wr (Turn.refl _ _) 6 _ rfl
          have y7 : wr.cell? ⟨b, off + kk * 13 + 2 + 5, none⟩ = some (.bool aft) := HX.out wr (Turn.refl _ _) 7 _ rfl
          have y8 : wr.cell? ⟨b, off + kk * 13 + 2 + 6, none⟩ = some (.slice A0 len cap0) := HX.out wr (Turn.refl _ _) 8 _ rfl
          subst hA
          have C26 := Lib.hid (C26.out wr HP.out.1)
          clear he hw hx hb hg hwl
          have hq1 : (0 : Int) ≤ (kk : Int) := by omega
          have hq2 : (kk : Int) < (l.length : Int) := by omega
          have HFS : Hid (∀ bo, (bo = false → Few k v o ws) → bo = false → ∀ (j : Nat) (e : Ev) (ws : List Wr), j < kk + 1 → l[j]? = some e → ps[j]? = some ws → Few e.op.k e.op.v e.op.o ws) := Lib.hid fun bo h1 h2 j e ws2 hj he hw => by
            by_cases hjk : j = kk
            · subst hjk
              rw [HEW.out.1] at he
              rw [HEW.out.2] at hw
              injection he with he
              injection hw with hw
              subst he hw
              exact h1 h2
            · exact HP.out.2 j e ws2 (by omega) he hw
          go_upto_region 6 with fail
          go_cut [44] from 19 to 44 (fun s wx => ∃ bb, s = .bool bb ∧ Hid ((bb = false → Few k v o ws) ∧ Turn No wr wx))
          case first =>
            by_cases h1 : 500 < ak.size
            · have d1 : decide ((500 : Int) < (ak.size : Int)) = true := decide_eq_true (by omega)
              clear h1
              go_wp2_with (go_at_call 26; refine C26.out.mono ?_; rintro e w7 ⟨⟨bo, rfl, hfo⟩, ht⟩; have H7 := Lib.hid (And.intro hfo ht); clear hfo ht; have z1 : w7.cell? ⟨b, off + kk * 13 + 9 + 2, none⟩ = some (.string ak) := HX.out w7 H7.out.2 11 _ rfl; have z2 : w7.cell? ⟨b, off + kk * 13 + 9 + 3, none⟩ = some (.string av) := HX.out w7 H7.out.2 12 _ rfl; obtain ⟨br, hbr⟩ : ∃ x, x = bo := ⟨_, rfl⟩; subst hbr; cases br)
              all_goals go_wp2_with fail
              all_goals go_meet
              all_goals exact ⟨_, rfl, Lib.hid ⟨fun h => (by first | (exact H7.out.1 rfl) | (exact H7.out.1 trivial) | (exact Bool.noConfusion h)), H7.out.2⟩⟩
            · have d1 : decide ((500 : Int) < (ak.size : Int)) = false := decide_eq_false (by omega)
              clear h1
              by_cases h2 : 500 < av.size
              · have d2 : decide ((500 : Int) < (av.size : Int)) = true := decide_eq_true (by omega)
                clear h2
                go_wp2_with (go_at_call 26; refine C26.out.mono ?_; rintro e w7 ⟨⟨bo, rfl, hfo⟩, ht⟩; have H7 := Lib.hid (And.intro hfo ht); clear hfo ht; have z1 : w7.cell? ⟨b, off + kk * 13 + 9 + 2, none⟩ = some (.string ak) := HX.out w7 H7.out.2 11 _ rfl; have z2 : w7.cell? ⟨b, off + kk * 13 + 9 + 3, none⟩ = some (.string av) := HX.out w7 H7.out.2 12 _ rfl; obtain ⟨br, hbr⟩ : ∃ x, x = bo := ⟨_, rfl⟩; subst hbr; cases br)
                all_goals go_wp2_with fail
                all_goals go_meet
                all_goals exact ⟨_, rfl, Lib.hid ⟨fun h => (by first | (exact H7.out.1 rfl) | (exact H7.out.1 trivial) | (exact Bool.noConfusion h)), H7.out.2⟩⟩
              · have d2 : decide ((500 : Int) < (av.size : Int)) = false := decide_eq_false (by omega)
                clear h2
                go_wp2_with (go_at_call 26; refine C26.out.mono ?_; rintro e w7 ⟨⟨bo, rfl, hfo⟩, ht⟩; have H7 := Lib.hid (And.intro hfo ht); clear hfo ht; have z1 : w7.cell? ⟨b, off + kk * 13 + 9 + 2, none⟩ = some (.string ak) := HX.out w7 H7.out.2 11 _ rfl; have z2 : w7.cell? ⟨b, off + kk * 13 + 9 + 3, none⟩ = some (.string av) := HX.out w7 H7.out.2 12 _ rfl; obtain ⟨br, hbr⟩ : ∃ x, x = bo := ⟨_, rfl⟩; subst hbr; cases br)
                all_goals go_wp2_with fail
                all_goals go_meet
                all_goals exact ⟨_, rfl, Lib.hid ⟨fun h => (by first | (exact H7.out.1 rfl) | (exact H7.out.1 trivial) | (exact Bool.noConfusion h)), H7.out.2⟩⟩
          case rest =>
            obtain ⟨bb, rfl, HT⟩ := hcut
            generalize wc = w8 at HT ⊢
            cases bb with
            | true =>
              go_wp2_with fail
              go_ret
              exact ⟨Grt.yes, HP.out.1.trans HT.out.2⟩
            | false =>
              have HNX := Lib.hid (HFS.out false HT.out.1 rfl)
              go_wp2_with fail
              exact ⟨⟨kk + 1, by omega, by go_num, Lib.hid ⟨HP.out.1.trans HT.out.2, HNX.out⟩⟩, by simp [RowKit.intOf]; omega⟩
        · obtain rfl : kk = l.length := by omega
          have HF : Hid (S.length ≤ 100 ∧ FewE l ps) := Lib.hid ⟨HN.out, ⟨by have := HB.out; omega, fun j e ws he hw => HP.out.2 j e ws (List.getElem?_eq_some_iff.1 he).1 he hw⟩⟩
          go_wp2_with fail
          go_ret
          exact ⟨Grt.no HF.out, HP.out.1⟩
end Go.Proofs.Ytllppkfeiifklaa
namespace Go.Proofs.Ytllppkfeiifklaa
open Go.RowKit Go.Lib
set_option linter.unusedVariables false
set_option maxRecDepth 20000
set_option linter.unusedSimpArgs false

structure Tk where
  at_ : Nat
  id : Int
  op : Opx
  an : Ans
def Tk.cs (t : Tk) : List Value := .int .i64 t.at_ :: (t.op.cs ++ t.an.cs)
def tcs (T : List Tk) : List Value := T.flatMap Tk.cs
theorem tcs_length (T : List Tk) : (tcs T).length = T.length * 12 := flat_length _ 12 (fun _ => rfl) T
theorem tcs_at {T : List Tk} {j : Nat} {t : Tk} (h : T[j]? = some t) (i : Nat) (hi : i < 12) : (tcs T)[j * 12 + i]? = t.cs[i]? := flat_at _ 12 (fun _ => rfl) T j i t h hi
theorem tcs_append (T U : List Tk) : tcs (T ++ U) = tcs T ++ tcs U := List.flatMap_append ..
/-- What an operation asks, with its writes' address. -/
def stP (l : List Ev) (id : Int) : Opx := match firstAt 1 id l with
  | none => op00
  | some n => ((l[n]?).map (·.op)).getD op00
theorem stP_pure (l : List Ev) (id : Int) : (stP l id).pure = stO l id := by
  unfold stP stO
  cases firstAt 1 id l with
  | none => rfl
  | some n =>
    show (((l[n]?).map (·.op)).getD op00).pure = ((l[n]?).map (·.op.pure)).getD op00
    cases l[n]? <;> rfl
theorem stP_row {w : World} {l : List Ev} {ps : List (List Wr)} (h : Rws w l ps) (id : Int) : Row w (stP l id).A (wcs (stW l ps id)) ∧ (stP l id).len = (stW l ps id).length := by
  unfold stP stW
  cases hf : firstAt 1 id l with
  | none => exact ⟨Row.nil _ _, rfl⟩
  | some n =>
    obtain ⟨hn, e, he, _⟩ := firstAt_get hf
    obtain ⟨ws, hw, hr, hfit⟩ := h.at_ he
    show Row w (((l[n]?).map (·.op)).getD op00).A (wcs ((ps[n]?).getD [])) ∧ (((l[n]?).map (·.op)).getD op00).len = ((ps[n]?).getD []).length
    rw [he, hw]
    exact ⟨hr, hfit.n.symm⟩
/-- The marks among the first k events. -/
def witF (l : List Ev) : Nat → List Tk
  | 0 => []
  | k + 1 => match l[k]? with
    | none => witF l k
    | some e => if e.kind = 2 then witF l k ++ [⟨k, e.id, stP l e.id, e.an⟩] else witF l k
def wit (l : List Ev) : List Tk := witF l l.length
theorem witF_yes {l : List Ev} {k : Nat} {e : Ev} (h : l[k]? = some e) (h2 : e.kind = 2) : witF l (k + 1) = witF l k ++ [⟨k, e.id, stP l e.id, e.an⟩] := by
  simp only [witF, h, h2, if_true]
theorem witF_no {l : List Ev} {k : Nat} {e : Ev} (h : l[k]? = some e) (h2 : ¬ e.kind = 2) : witF l (k + 1) = witF l k := by
  simp only [witF, h, h2, if_false]
theorem witF_step (l : List Ev) (k : Nat) : ∃ U, witF l (k + 1) = witF l k ++ U := by
  cases he : l[k]? with
  | none => exact ⟨[], by rw [List.append_nil]; simp only [witF, he]⟩
  | some e =>
    by_cases h2 : e.kind = 2
    · exact ⟨_, witF_yes he h2⟩
    · exact ⟨[], by rw [List.append_nil]; exact witF_no he h2⟩
theorem witF_mono (l : List Ev) {p n : Nat} (h : p ≤ n) : ∃ U, witF l n = witF l p ++ U := by
  induction n with
  | zero => obtain rfl : p = 0 := by omega
            exact ⟨[], by simp⟩
  | succ n ih =>
    by_cases hp : p = n + 1
    · subst hp; exact ⟨[], by simp⟩
    · obtain ⟨U, hU⟩ := ih (by omega)
      obtain ⟨V, hV⟩ := witF_step l n
      exact ⟨U ++ V, by rw [hV, hU, List.append_assoc]⟩
theorem witF_length (l : List Ev) (n : Nat) : (witF l n).length ≤ n := by
  induction n with
  | zero => exact Nat.le_refl _
  | succ n ih =>
    cases he : l[n]? with
    | none => rw [show witF l (n + 1) = witF l n by simp only [witF, he]]; omega
    | some e =>
      by_cases h2 : e.kind = 2
      · rw [witF_yes he h2, List.length_append, List.length_singleton]; omega
      · rw [witF_no he h2]; omega
theorem witF_at {l : List Ev} {p n : Nat} {e : Ev} (he : l[p]? = some e) (h2 : e.kind = 2) (hp : p < n) : (witF l n)[(witF l p).length]? = some ⟨p, e.id, stP l e.id, e.an⟩ := by
  obtain ⟨U, hU⟩ := witF_mono l (p := p + 1) (n := n) hp
  rw [hU, witF_yes he h2]
  simp
theorem witF_get {l : List Ev} : ∀ {n j : Nat} {t : Tk}, (witF l n)[j]? = some t → t.at_ < n ∧ ∃ e, l[t.at_]? = some e ∧ e.kind = 2 ∧ t = ⟨t.at_, e.id, stP l e.id, e.an⟩ ∧ (witF l t.at_).length = j
  | 0, j, t, h => by simp [witF] at h
  | n + 1, j, t, h => by
    have old : (witF l n)[j]? = some t → t.at_ < n + 1 ∧ ∃ e, l[t.at_]? = some e ∧ e.kind = 2 ∧ t = ⟨t.at_, e.id, stP l e.id, e.an⟩ ∧ (witF l t.at_).length = j := fun h => by
      obtain ⟨h1, h2⟩ := witF_get h
      exact ⟨by omega, h2⟩
    cases he : l[n]? with
    | none => rw [show witF l (n + 1) = witF l n by simp only [witF, he]] at h; exact old h
    | some e =>
      by_cases h2 : e.kind = 2
      · rw [witF_yes he h2] at h
        by_cases hj : j < (witF l n).length
        · rw [List.getElem?_append_left hj] at h; exact old h
        · rw [List.getElem?_append_right (by omega)] at h
          have hj2 : j - (witF l n).length = 0 := by
            have := (List.getElem?_eq_some_iff.1 h).1
            simp at this
            omega
          rw [hj2] at h
          injection h with h
          subst h
          exact ⟨Nat.lt_succ_self _, e, he, h2, rfl, by show (witF l n).length = j; omega⟩
      · rw [witF_no he h2] at h; exact old h
/-- The map behind the first j operations of the witness. -/
def tS (l : List Ev) (ps : List (List Wr)) (M : List Pr) (t : Tk) : List Pr := if idleA t.an = true then M else opD M (stO l t.id) (stW l ps t.id)
def tM (l : List Ev) (ps : List (List Wr)) (M : List Pr) (j : Nat) : List Pr := ((wit l).take j).foldl (tS l ps) M
theorem tM_zero (l : List Ev) (ps : List (List Wr)) (M : List Pr) : tM l ps M 0 = M := rfl
theorem tM_snoc {l : List Ev} {ps : List (List Wr)} {M : List Pr} {j : Nat} {t : Tk} (h : (wit l)[j]? = some t) : tM l ps M (j + 1) = tS l ps (tM l ps M j) t := by
  unfold tM
  rw [List.take_add_one, List.foldl_append, h]
  rfl
theorem tM_eq (l : List Ev) (ps : List (List Wr)) (M : List Pr) : ∀ n, n ≤ l.length → tM l ps M (witF l n).length = lnM l ps M n
  | 0, _ => rfl
  | n + 1, hn => by
    have ih := tM_eq l ps M n (by omega)
    obtain ⟨e, he⟩ : ∃ e, l[n]? = some e := ⟨l[n], List.getElem?_eq_getElem (by omega)⟩
    rw [lnM_snoc he]
    by_cases h2 : e.kind = 2
    · have hw : (wit l)[(witF l n).length]? = some ⟨n, e.id, stP l e.id, e.an⟩ := witF_at he h2 (by omega)
      rw [witF_yes he h2, List.length_append, List.length_singleton, tM_snoc hw, ih]
      unfold tS lnS actB
      rw [decide_eq_true h2]
      cases idleA e.an <;> rfl
    · rw [witF_no he h2, ih]
      unfold lnS actB
      rw [decide_eq_false h2]
      rfl
def tOk (l : List Ev) (ps : List (List Wr)) (M : List Pr) (j : Nat) (t : Tk) : Bool := idleA t.an || decide (opA (tM l ps M j) (stO l t.id) (stW l ps t.id) = t.an)
/-- The first j operations of the witness are right. -/
def TUp (l : List Ev) (ps : List (List Wr)) (M : List Pr) (j : Nat) : Prop := ∀ i t, i < j → (wit l)[i]? = some t → tOk l ps M i t = true
theorem TUp.zero (l : List Ev) (ps : List (List Wr)) (M : List Pr) : TUp l ps M 0 := fun i t h => by omega
theorem TUp.snoc {l : List Ev} {ps : List (List Wr)} {M : List Pr} {j : Nat} (h : TUp l ps M j) {t : Tk} (ht : (wit l)[j]? = some t) (ho : tOk l ps M j t = true) : TUp l ps M (j + 1) := fun i x hi hx => by
  by_cases hn : i < j
  · exact h i x hn hx
  · obtain rfl : i = j := by omega
    rw [ht] at hx
    injection hx with hx
    subst hx
    exact ho
theorem TUp.upto {l : List Ev} {ps : List (List Wr)} {M : List Pr} {n : Nat} (hn : n ≤ l.length) (h : TUp l ps M (witF l n).length) : Upto l ps M n := fun p e hp he => by
  by_cases h2 : e.kind = 2
  · have hw : (wit l)[(witF l p).length]? = some ⟨p, e.id, stP l e.id, e.an⟩ := witF_at he h2 (by have := (List.getElem?_eq_some_iff.1 he).1; exact this)
    have hlt : (witF l p).length < (witF l n).length := (List.getElem?_eq_some_iff.1 (witF_at he h2 hp)).1
    have := h _ _ hlt hw
    unfold tOk at this
    rw [tM_eq l ps M p (by omega)] at this
    unfold lnOk actB
    rw [decide_eq_true h2]
    simpa using this
  · unfold lnOk actB
    rw [decide_eq_false h2]
    rfl
theorem lin_all {l : List Ev} {ps : List (List Wr)} {M : List Pr} (h : TUp l ps M (wit l).length) : Lin l ps M (-1) 0 := .inl ⟨rfl, rfl, h.upto (Nat.le_refl _)⟩
theorem lin_bad {l : List Ev} {ps : List (List Wr)} {M : List Pr} {j : Nat} {t : Tk} (h : TUp l ps M j) (ht : (wit l)[j]? = some t) (ho : tOk l ps M j t = false) : Lin l ps M t.at_ 32 := by
  obtain ⟨h1, e, he, h2, h3, h4⟩ := witF_get ht
  refine .inr ⟨t.at_, e, rfl, rfl, he, ?_, ?_⟩
  · subst h4
    exact h.upto (Nat.le_of_lt h1)
  · have hn := Nat.le_of_lt h1
    rw [← h4] at ho
    unfold tOk at ho
    rw [tM_eq l ps M t.at_ hn] at ho
    have ea : t.an = e.an := by rw [h3]
    have ei : t.id = e.id := by rw [h3]
    rw [ea, ei] at ho
    unfold lnOk actB
    rw [decide_eq_true h2]
    simpa using ho
theorem tM_end (l : List Ev) (ps : List (List Wr)) (M : List Pr) : tM l ps M (wit l).length = lnM l ps M l.length := tM_eq l ps M l.length (Nat.le_refl _)
/-- What the program's map of what is asked has behind the first k events of a right row. -/
def askF (l : List Ev) (k : Nat) (i : Int) : Option Value := (firstAt 1 i (l.take k)).map fun _ => (stP l i).valH
theorem cnt_posW {kind id : Int} {l : List Ev} : (0 < cnt kind id l) ↔ (firstAt kind id l).isSome = true := by
  unfold cnt firstAt
  rw [List.length_pos_iff, List.findIdx?_isSome]
  constructor
  · intro h
    obtain ⟨x, hx⟩ := List.exists_mem_of_ne_nil _ h
    obtain ⟨h1, h2⟩ := List.mem_filter.1 hx
    exact List.any_eq_true.2 ⟨x, h1, h2⟩
  · intro h
    obtain ⟨x, h1, h2⟩ := List.any_eq_true.1 h
    exact List.ne_nil_of_mem (List.mem_filter.2 ⟨h1, h2⟩)
theorem firstAt_eq_none {kind id : Int} {l : List Ev} : firstAt kind id l = none ↔ ∀ e ∈ l, isAt kind id e = false := by
  unfold firstAt; rw [List.findIdx?_eq_none_iff]
theorem firstAt_snoc_no {kind id : Int} {l : List Ev} {e : Ev} (h : isAt kind id e = false) : firstAt kind id (l ++ [e]) = firstAt kind id l := by
  unfold firstAt
  rw [List.findIdx?_append]
  simp [List.findIdx?_cons, h]
theorem firstAt_take {l : List Ev} {kind id : Int} {k n : Nat} (h : firstAt kind id (l.take k) = some n) : firstAt kind id l = some n := by
  unfold firstAt at h ⊢
  rw [List.findIdx?_eq_some_iff_getElem] at h ⊢
  obtain ⟨hn, h1, h2⟩ := h
  have hl : n < l.length := by rw [List.length_take] at hn; omega
  refine ⟨hl, by simpa using h1, fun j hj => ?_⟩
  have := h2 j hj
  simpa using this
theorem askF_zero (l : List Ev) (i : Int) : askF l 0 i = none := by unfold askF; rw [List.take_zero]; rfl
theorem firstAt_begun {l : List Ev} (hr : Right l) {k : Nat} {e : Ev} (he : l[k]? = some e) (h1 : e.kind = 1) : firstAt 1 e.id (l.take k) = none ∧ firstAt 1 e.id l = some k := by
  have hk := (List.getElem?_eq_some_iff.1 he).1
  have hno : firstAt 1 e.id (l.take k) = none := by
    cases hf : firstAt 1 e.id (l.take k) with
    | none => rfl
    | some n =>
      exfalso
      have hc := (hr.take k).cnt e.id 1 (by decide)
      have hp : 0 < cnt 1 e.id (l.take k) := by rw [cnt_posW, hf]; rfl
      have hfit := hr.at_ he
      have := (fits_kind hfit).2.1
      rw [h1] at this
      rw [if_neg (by omega)] at hc
      omega
  refine ⟨hno, firstAt_some he (isAt_iff.2 ⟨h1, rfl⟩) fun x hx => ?_⟩
  have := (firstAt_eq_none.1 hno) x hx
  exact this
theorem askF_begun {l : List Ev} (hr : Right l) {k : Nat} {e : Ev} (he : l[k]? = some e) (h1 : e.kind = 1) (i : Int) : askF l (k + 1) i = put (askF l k) e.id e.op.valH i := by
  obtain ⟨ha, hb⟩ := firstAt_begun hr he h1
  unfold put
  split
  · rename_i hi
    subst hi
    have h2 : firstAt 1 e.id (l.take (k + 1)) = some k := firstAt_some (by rw [List.getElem?_take, if_pos (by omega)]; exact he) (isAt_iff.2 ⟨h1, rfl⟩) fun x hx => by
      rw [List.take_take, Nat.min_eq_left (by omega)] at hx
      exact (firstAt_eq_none.1 ha) x hx
    unfold askF stP
    rw [h2, hb]
    show some (Opx.valH (((l[k]?).map (·.op)).getD op00)) = _
    rw [he]
    rfl
  · rename_i hi
    unfold askF
    rw [take_succ he, firstAt_snoc_no (by
      cases h : isAt 1 i e with
      | false => rfl
      | true => exact absurd (isAt_iff.1 h).2.symm hi)]
theorem askF_other {l : List Ev} {k : Nat} {e : Ev} (he : l[k]? = some e) (h1 : ¬ e.kind = 1) (i : Int) : askF l (k + 1) i = askF l k i := by
  unfold askF
  rw [take_succ he, firstAt_snoc_no (by
    cases h : isAt 1 i e with
    | false => rfl
    | true => exact absurd (isAt_iff.1 h).1 h1)]
theorem askF_mark {l : List Ev} (hr : Right l) {k : Nat} {e : Ev} (he : l[k]? = some e) (h2 : e.kind = 2) (z : Value) : (askF l k e.id).getD z = (stP l e.id).valH := by
  have hfit := hr.at_ he
  have h3 := (fits_kind hfit).2.1
  have hc := (hr.take k).cnt e.id 1 (by decide)
  rw [if_pos (by omega)] at hc
  have hp : (firstAt 1 e.id (l.take k)).isSome = true := by rw [← cnt_posW]; omega
  unfold askF
  cases hf : firstAt 1 e.id (l.take k) with
  | none => rw [hf] at hp; cases hp
  | some n => rfl
end Go.Proofs.Ytllppkfeiifklaa
