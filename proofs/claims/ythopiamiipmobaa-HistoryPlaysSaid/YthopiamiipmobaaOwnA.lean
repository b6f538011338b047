/-
  HistoryOwn: what its walk keeps.
-/
import Derived.Test.YthopiamiipmobaaWGreat
import Derived.Test.YthopiamiipmobaaWWakes
import Derived.Test.YthopiamiipmobaaWSame
import Derived.Test.YthopiamiipmobaaArgs
namespace Go.Proofs.Ythopiamiipmobaa
open Go.RowKit Go.Lib
set_option linter.unusedVariables false
set_option linter.unusedSimpArgs false

/-- A history of the law's own, all its memory from w's end on. -/
structure Ow (w wr : World) (hb : Nat) (L : List Ev) (ps : List (List Wr)) : Prop where
  tu : Turn No w wr
  hs : Hs wr w.heap.size hb L ps (Up w.heap.size)
section
variable {w wr w2 : World} {hb : Nat} {L : List Ev} {ps : List (List Wr)}
theorem Ow.no (h : Ow w wr hb L ps) (t : Turn No wr w2) : Ow w w2 hb L ps := ⟨h.tu.trans t, h.hs.no t⟩
theorem Ow.start (w : World) : Calls Try.prog 10 #[] w fun r w' => r = .returned (.pointer (some ⟨w.heap.size, 0, none⟩)) ∧ Ow w w' w.heap.size [] [] := by
  refine (new_any w).mono ?_
  rintro e w' ⟨rfl, ht, hz, hs⟩
  exact ⟨rfl, ht, hs.mono fun i hi => by unfold Up; omega⟩
/-- What a call that puts down e answers, c, and the history behind it. -/
def Put (w w' : World) (hb : Nat) (L : List Ev) (ps : List (List Wr)) (e : Ev) (ws : List Wr) (c : Int) : Prop :=
  (fits L e = false ∧ c = 31 ∧ Ow w w' hb L ps) ∨ (fits L e = true ∧ c = 0 ∧ Ow w w' hb (L ++ [e.pure]) (ps ++ [ws]))
theorem Put.some {e : Ev} {ws : List Wr} {c : Int} (h : Put w w2 hb L ps e ws c) : ∃ L' ps', L'.length ≤ L.length + 1 ∧ Ow w w2 hb L' ps' := by
  rcases h with ⟨_, _, h⟩ | ⟨_, _, h⟩
  · exact ⟨L, ps, by omega, h⟩
  · exact ⟨_, _, by simp, h⟩
theorem Did.ow {e : Ev} {ws : List Wr} {r : Ending} (h : Ow w wr hb L ps) (hd : Did wr w2 w.heap.size hb L ps (Up w.heap.size) e ws r) : ∃ c, r = .returned (.int .i64 c) ∧ Put w w2 hb L ps e ws c := by
  have hz := h.tu.size
  cases hf : fits L e with
  | false =>
    obtain ⟨rfl, ht⟩ := hd.not hf
    exact ⟨31, rfl, .inl ⟨hf, rfl, h.no ht⟩⟩
  | true =>
    obtain ⟨rfl, hs, ht⟩ := hd.yes hz hf
    exact ⟨0, rfl, .inr ⟨hf, rfl, h.tu.up ht (Nat.le_refl _), hs⟩⟩
theorem row_below {w : World} {A : Option Addr} {ws : List Wr} (h : Row w A (wcs ws)) (hne : ws ≠ []) (b a : Nat) (hA : A = Option.some ⟨b, a, none⟩) : ¬ Up w.heap.size b := by
  match ws, hne with
  | x :: ws, _ =>
    obtain ⟨b', o', hA', hb, _⟩ := h.wr (k := 0) (e := x) rfl
    rw [hA] at hA'
    injection hA' with hA'
    injection hA' with e1 _
    subst e1
    unfold Up
    omega
theorem Ow.begin (h : Ow w wr hb L ps) (hl : L.length < 65536) (id : Int) (hid : In64 id) (o : Opx) (ws : List Wr) (hf : o.fit ws) (hrow : Row w o.A (wcs ws)) :
    Calls Try.prog 11 #[.pointer (some ⟨hb, 0, none⟩), .int .i64 id, o.val] wr fun r w' => ∃ c, r = .returned (.int .i64 c) ∧ Put w w' hb L ps ⟨1, id, o, ans00⟩ ws c :=
  (begin_any h.hs hl h.tu.size id hid o ws hf (hrow.turn h.tu fun _ _ _ h => h) (fun hne b a hA => row_below hrow hne b a hA)).mono fun e w' hd => hd.ow h
theorem Ow.mark (h : Ow w wr hb L ps) (hl : L.length < 65536) (id : Int) (hid : In64 id) (a : Ans) (hf : a.fit) :
    Calls Try.prog 12 #[.pointer (some ⟨hb, 0, none⟩), .int .i64 id, a.val] wr fun r w' => ∃ c, r = .returned (.int .i64 c) ∧ Put w w' hb L ps ⟨2, id, op00, a⟩ [] c :=
  (mark_any h.hs hl h.tu.size id hid a hf).mono fun e w' hd => hd.ow h
theorem Ow.ended (h : Ow w wr hb L ps) (hl : L.length < 65536) (id : Int) (hid : In64 id) :
    Calls Try.prog 13 #[.pointer (some ⟨hb, 0, none⟩), .int .i64 id] wr fun r w' => ∃ c, r = .returned (.int .i64 c) ∧ Put w w' hb L ps ⟨3, id, op00, (kn L id).an⟩ [] c :=
  (end_any h.hs hl h.tu.size id hid).mono fun e w' hd => hd.ow h
end

/-- A row of events that is written over: its cells are there, its events' writes lie where they lay; all of it from block Za on, below Zb. -/
structure Wa (w : World) (Za Zb : Nat) (A : Option Addr) (l : List Ev) : Prop where
  row : ∀ (k : Nat) (e : Ev), l[k]? = some e → ∃ rb cur, A = some ⟨rb, 0, none⟩ ∧ Za ≤ rb ∧ rb < Zb ∧ At w rb (.cells cur 34 (0, 0)) ∧ k * 13 + 13 ≤ cur.size ∧ cur[k * 13 + 8]? = some (.slice e.op.A e.op.len e.op.cap)
  wr : ∀ (k : Nat) (e : Ev), l[k]? = some e → 0 < e.op.len → ∃ qb cur, e.op.A = some ⟨qb, 0, none⟩ ∧ Za ≤ qb ∧ qb < Zb ∧ At w qb (.cells cur 53 (0, 0)) ∧ e.op.len * 3 ≤ cur.size
section
variable {w w2 : World} {Za Zb : Nat} {A : Option Addr} {l : List Ev}
theorem Wa.no (h : Wa w Za Zb A l) (t : Turn No w w2) : Wa w2 Za Zb A l :=
  ⟨fun k e he => by obtain ⟨rb, cur, a, b, c, d, f⟩ := h.row k e he; exact ⟨rb, cur, a, b, c, d.no t, f⟩, fun k e he hp => by obtain ⟨rb, cur, a, b, c, d, f⟩ := h.wr k e he hp; exact ⟨rb, cur, a, b, c, d.no t, f⟩⟩
theorem Wa.ofEvs {Z : Nat} {ps : List (List Wr)} {c : Nat} (h : Evs w Z l ps A c) : Wa w Z w.heap.size A l := by
  refine ⟨fun k e he => ?_, fun k e he hp => ?_⟩
  · have hk := (List.getElem?_eq_some_iff.1 he).1
    obtain ⟨hl, ⟨hv, hn⟩ | ⟨g, cp, cur, hv, hb, hg, hn, hc, hs, ht⟩⟩ := h.row
    · omega
    · injection hv with hA _ _
      refine ⟨g, cur, hA, hb, At.lt (w := w) hg, hg, ?_, ?_⟩
      · rw [hs]
        have := Nat.mul_le_mul_right 13 (Nat.le_trans hk hn : k + 1 ≤ cp)
        omega
      · have h1 : (ecs l)[k * 13 + 8]? = some (.slice e.op.A e.op.len e.op.cap) := by rw [ecs_at he 8 (by omega)]; rfl
        rw [← ht, List.getElem?_take] at h1
        split at h1
        · simpa using h1
        · cases h1
  · obtain ⟨ws, _, ho, _⟩ := h.wss.get he
    obtain ⟨hl, ⟨hv, hn⟩ | ⟨g, cp, cur, hv, hb, hg, hn, hc, hs, ht⟩⟩ := ho
    · omega
    · injection hv with hA _ _
      refine ⟨g, cur, hA, hb, At.lt (w := w) hg, hg, ?_⟩
      rw [hs]
      exact Nat.mul_le_mul_right 3 hn
/-- The Id of the event at place k is written over. -/
theorem Wa.setId (h : Wa w Za Zb A l) {k : Nat} {rb : Nat} (hA : A = some ⟨rb, 0, none⟩) (hz : Za ≤ rb) (v : Value) : Wa (w.setCell ⟨rb, k * 13 + 1, none⟩ v) Za Zb A l := by
  refine ⟨fun j e he => ?_, fun j e he hp => ?_⟩
  · obtain ⟨r2, cur, a, b, c, d, f, g⟩ := h.row j e he
    obtain rfl : r2 = rb := by rw [hA] at a; injection a with a; injection a with a; exact a.symm
    refine ⟨r2, _, a, b, c, d.set (k * 13 + 1) v, by simpa using f, ?_⟩
    rw [Array.getElem?_setIfInBounds, if_neg (by omega)]
    exact g
  · obtain ⟨q, cur, a, b, c, d, f⟩ := h.wr j e he hp
    obtain ⟨r2, cur2, a2, _, _, d2, _⟩ := h.row j e he
    obtain rfl : r2 = rb := by rw [hA] at a2; injection a2 with a2; injection a2 with a2; exact a2.symm
    exact ⟨q, cur, a, b, c, d.turn (set_turn w r2 _ v) (d.ne d2 (cells_ne (by decide))), f⟩
/-- A cell of the writes of an event is written over. -/
theorem Wa.setWr (h : Wa w Za Zb A l) {k : Nat} {e : Ev} (he : l[k]? = some e) (hp : 0 < e.op.len) {qb : Nat} (hA : e.op.A = some ⟨qb, 0, none⟩) (i : Nat) (v : Value) : Wa (w.setCell ⟨qb, i, none⟩ v) Za Zb A l := by
  obtain ⟨q0, cur0, a0, _, _, d0, _⟩ := h.wr k e he hp
  obtain rfl : q0 = qb := by rw [hA] at a0; injection a0 with a0; injection a0 with a0; exact a0.symm
  refine ⟨fun j e2 he2 => ?_, fun j e2 he2 hp2 => ?_⟩
  · obtain ⟨r2, cur, a, b, c, d, f, g⟩ := h.row j e2 he2
    exact ⟨r2, cur, a, b, c, d.turn (set_turn w q0 _ v) (d.ne d0 (cells_ne (by decide))), f, g⟩
  · obtain ⟨q, cur, a, b, c, d, f⟩ := h.wr j e2 he2 hp2
    by_cases hq : q = q0
    · subst hq
      exact ⟨q, _, a, b, c, d.set i v, by simpa using f⟩
    · exact ⟨q, cur, a, b, c, d.turn (set_turn w q0 _ v) hq, f⟩
end

/-- Behind the two calls of Events. -/
structure Ob (w wr : World) (hb : Nat) (L : List Ev) (ps : List (List Wr)) (Za Zb : Nat) (A : Option Addr) (la : List Ev) (B : Option Addr) (d : Nat) (lb : List Ev) : Prop where
  tu : Turn No w wr
  z : w.heap.size ≤ Za
  hs : Hs wr w.heap.size hb L ps (fun i => i < Za)
  a : Wa wr Za Zb A la
  b : Evs wr Zb lb ps B d
  pb : pl lb = L
  pa : pl la = L
section
variable {w wr w2 : World} {hb : Nat} {L : List Ev} {ps : List (List Wr)} {Za Zb : Nat} {A : Option Addr} {la : List Ev} {B : Option Addr} {d : Nat} {lb : List Ev}
theorem Ob.no (h : Ob w wr hb L ps Za Zb A la B d lb) (t : Turn No wr w2) : Ob w w2 hb L ps Za Zb A la B d lb := ⟨h.tu.trans t, h.z, h.hs.no t, h.a.no t, h.b.no t, h.pb, h.pa⟩
theorem Ob.put (h : Ob w wr hb L ps Za Zb A la B d lb) {q : Nat} (t : Turn (· = q) wr w2) (h1 : Za ≤ q) (h2 : q < Zb) (ha : Wa w2 Za Zb A la) : Ob w w2 hb L ps Za Zb A la B d lb :=
  ⟨h.tu.then t fun i hi e => by have := h.z; omega, h.z, h.hs.turn t fun i hi e => by omega, ha, h.b.apart t fun i e => .inl (by omega), h.pb, h.pa⟩
theorem Ob.start {w1 w2 : World} (h : Ow w w1 hb L ps) {c : Nat} (ha : Evs wr w1.heap.size la ps A c) (ta : Turn No w1 wr) (hpa : pl la = L) (tb : Turn No wr w2) (hb' : Evs w2 wr.heap.size lb ps B d) (hpb : pl lb = L) :
    Ob w w2 hb L ps w1.heap.size wr.heap.size A la B d lb :=
  ⟨(h.tu.trans ta).trans tb, h.tu.size, ((h.hs.bound.mono fun i hi => hi.2.2).no ta).no tb, (Wa.ofEvs ha).no tb, hb', hpb, hpa⟩
end
end Go.Proofs.Ythopiamiipmobaa
