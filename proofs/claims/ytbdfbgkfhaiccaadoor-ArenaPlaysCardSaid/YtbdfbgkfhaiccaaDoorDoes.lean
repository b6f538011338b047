/-
  What 'does' leans on, pool or none; the law's world with a pool meets it.
-/
import Derived.Test.YtbdfbgkfhaiccaaDoorWorldF
namespace Go.Proofs.YtbdfbgkfhaiccaaDoor
open Go.RowKit Go.Maps
set_option linter.unusedVariables false

def I64 (s : Int) : Prop := -9223372036854775808 ≤ s ∧ s < 9223372036854775808
/-- What the law's world does, by its slots: 'S w vt L hs': in world w the slots are L, and hs are the handles told, in the slice vt. -/
structure DoesI (w0 : World) (xb : Nat) (qv : Value) (c0 c1 c2 c3 : Value) (S : World → Value → List Sl → List (Nat × Nat) → Prop) : Prop where
  same : ∀ {w w' vt L hs}, S w vt L hs → Turn (fun _ => False) w w' → S w' vt L hs
  own : ∀ {w w' vt L hs} {m : Nat}, S w vt L hs → Kind w m 32 → vt.ownBlock ≠ some m → w0.heap.size ≤ m → Turn (· = m) w w' → S w' vt L hs
  hd : ∀ {w vt L hs}, S w vt L hs → At w xb (.cells #[c0, c1, c2, c3, qv, vt] 60 (0, 0))
  told : ∀ {w vt L hs}, S w vt L hs → Told w0 w vt hs
  each : ∀ {w vt L hs}, S w vt L hs → ∀ p ∈ hs, p.1 < 4096 ∧ p.2 < 18446744073709551616
  le : ∀ {w vt L hs}, S w vt L hs → L.length ≤ 4096 ∧ w0.heap.size ≤ w.heap.size
  old : ∀ {w vt L hs}, S w vt L hs → Turn (fun _ => False) w0 w
  gens : ∀ {w vt L hs}, S w vt L hs → ∀ q ∈ L, q.g < 18446744073709551616
  alive : ∀ {w vt L hs}, S w vt L hs → ∀ (i g : Nat) (s : Int), Calls Tryd.prog 40 #[qv, .int .i64 (i : Int), .agg #[.int .i64 s, .int .u64 (g : Int)]] w fun e w' => e = .returned (.bool (alv L i s g).isSome) ∧ Turn (fun _ => False) w w'
  get : ∀ {w vt L hs}, S w vt L hs → ∀ (i g : Nat) (s : Int), 1 ≤ i → i ≤ 3 → I64 s → Calls Tryd.prog 46 #[.pointer (some ⟨xb, 0, none⟩), .int .i64 (i : Int), .agg #[.int .i64 s, .int .u64 (g : Int)]] w fun e w' => e = .returned (.tuple #[.string (atxt (alv L i s g)), .bool (alv L i s g).isSome]) ∧ Turn (fun _ => False) w w'
  rel : ∀ {w vt L hs}, S w vt L hs → ∀ (i g : Nat) (s : Int), 1 ≤ i → i ≤ 3 → I64 s → Calls Tryd.prog 43 #[.pointer (some ⟨xb, 0, none⟩), .int .i64 (i : Int), .agg #[.int .i64 s, .int .u64 (g : Int)]] w fun e w1 => e = .returned (.bool (alv L i s g).isSome) ∧ w1.cell? ⟨xb, 4, none⟩ = some qv ∧ xb < w1.heap.size ∧ Keeps w w1 ∧
    ∀ W, Turn (fun _ => False) w1 W → Calls Tryd.prog 44 #[qv, .int .i64 (i : Int), .agg #[.int .i64 s, .int .u64 (g : Int)]] W fun e w2 => e = .returned (.bool (alv L i s g).isSome) ∧ Keeps W w2 ∧ S w2 vt (relL L i s g) hs
  alloc : ∀ {w vt L hs}, S w vt L hs → ∀ (i : Nat) (x : ByteArray), 1 ≤ i → i ≤ 3 → Calls Tryd.prog 41 #[.pointer (some ⟨xb, 0, none⟩), .int .i64 (i : Int), .string x] w fun e w1 => e = .returned (.tuple #[ares L, .int .i64 (aerr L)]) ∧ w1.cell? ⟨xb, 4, none⟩ = some qv ∧ xb < w1.heap.size ∧ Keeps w w1 ∧
    ∀ W, Turn (fun _ => False) w1 W → Calls Tryd.prog 42 #[qv, .int .i64 (i : Int), .string x] W fun e w2 => e = .returned (.tuple #[ares L, .int .i64 (aerr L)]) ∧ Keeps W w2 ∧ S w2 vt (putL L i x) hs
  ext : ∀ {w w3 vt vt' L hs} {s g : Nat}, S w vt L hs → s < L.length → g < 18446744073709551616 → Told w0 w3 vt' (hs ++ [(s, g)]) → Turn (fun i => vt.ownBlock = some i) w w3 → S (w3.setCell ⟨xb, 5, none⟩ vt') vt' L (hs ++ [(s, g)])
  write : ∀ {w vt L hs}, S w vt L hs → ∀ (i g : Nat) (s : Int) (x : ByteArray), 1 ≤ i → i ≤ 3 → I64 s → Calls Tryd.prog 45 #[.pointer (some ⟨xb, 0, none⟩), .int .i64 (i : Int), .agg #[.int .i64 s, .int .u64 (g : Int)], .string x] w fun e w1 => e = .returned (.tuple #[]) ∧ Keeps w w1 ∧
    (alv L i s g = none → S w1 vt L hs) ∧ ∀ k q, alv L i s g = some (k, q) → ∃ qb lb cap, qv = .pointer (some ⟨qb, 0, none⟩) ∧ Doc w1 qb lb cap L ∧ At w1 xb (.cells #[c0, c1, c2, c3, qv, vt] 60 (0, 0)) ∧ ∀ W, Turn (fun _ => False) w1 W → S (W.setCell ⟨lb, k * 3 + 2, none⟩ (.string x)) vt (L.set k ⟨q.g, q.who, x⟩) hs
  look : ∀ {w vt L hs}, S w vt L hs → ∀ (i g : Nat) (s : Int) k q, alv L i s g = some (k, q) → ∃ qb lb cap, qv = .pointer (some ⟨qb, 0, none⟩) ∧ Doc w qb lb cap L

section
variable {w0 wr wr' w1 w2 : World} {n xb pb gb fb : Nat} {ab mb : Nat → Nat} {qb lb cap : Nat} {vt vt' : Value} {G : List Nat} {fr : Nat → Bool} {MM : Nat → Nat → Option (Nat × Value)} {nn : Nat → Nat} {ff : Nat → Int → Option Value} {L : List Sl} {hs : List (Nat × Nat)}
/-- One handle more has been told. -/
theorem WSt.ext (h : WSt w0 wr n xb pb gb fb ab mb qb lb cap vt G fr MM nn ff L hs) {w3 : World} {s g : Nat} (hsn : s < n) (hg : g < 18446744073709551616) (ht : Told w0 w3 vt' (hs ++ [(s, g)])) (t : Turn (fun i => vt.ownBlock = some i) wr w3) :
    WSt w0 (w3.setCell ⟨xb, 5, none⟩ vt') n xb pb gb fb ab mb qb lb cap vt' G fr MM nn ff L (hs ++ [(s, g)]) := by
  have o1 : ∀ (ts : List TypeId) (m : Nat), 32 ∉ ts → Off wr ts m (fun i => vt.ownBlock = some i) := fun ts m h32 i hi => by
    obtain ⟨⟨c, hc⟩, _⟩ := h.told.own hi
    exact Or.inl ⟨32, ⟨c, hc⟩, h32⟩
  have x3 := h.hd.turn t ((o1 [60] 0 (by decide)).row ⟨_, h.hd⟩ (by simp))
  have k3 : Kind w3 xb 60 := ⟨_, x3⟩
  have tz : Turn (· = xb) w3 (w3.setCell ⟨xb, 5, none⟩ vt') := (Turn.refl (fun i => i = xb) w3).setCell (p := ⟨xb, 5, none⟩) (Or.inl rfl) _
  have x4 := x3.set 5 vt'
  generalize w3.setCell ⟨xb, 5, none⟩ vt' = w4 at tz x4 ⊢
  refine ⟨(h.pool.off t (o1 _ 0 (by decide))).off tz (k3.off _ (by decide) 0), fun i hi => ((h.a i hi).off t (o1 _ _ (by decide))).off tz (k3.off _ (by decide) _), (h.b.off t (o1 _ _ (by decide))).off tz (k3.off _ (by decide) _), (h.doc.off t (o1 _ 0 (by decide))).off tz (k3.off _ (by decide) 0), x4,
    ht.turn tz (fun i c hi _ _ => (k3.off [32] (by decide) 0).row ⟨c, hi⟩ (by simp)), (h.old.then t (fun i hi e => by have := (h.told.own e).2.1; omega)).then tz (fun i hi e => by have := h.new.2.2.2; omega), h.new, h.newM, h.ne, h.newP, h.sep, fun k q g v hk hm => ?_, h.pv, fun p hp => ?_⟩
  · obtain ⟨tb, e1, e2, e3⟩ := h.txt k q g v hk hm
    have e4 := e2.turn t ((o1 [9] 0 (by decide)).row ⟨_, e2⟩ (by simp))
    exact ⟨tb, e1, e4.turn tz ((k3.off [9] (by decide) 0).row ⟨_, e4⟩ (by simp)), e3⟩
  · rcases List.mem_append.1 hp with hp | hp
    · exact h.each p hp
    · simp at hp; subst hp; exact ⟨hsn, hg⟩

/-- A row of handles that is none of it has turned. -/
theorem WSt.own (h : WSt w0 wr n xb pb gb fb ab mb qb lb cap vt G fr MM nn ff L hs) {m : Nat} (k : Kind wr m 32) (hv : vt.ownBlock ≠ some m) (hm : w0.heap.size ≤ m) (t : Turn (· = m) wr w1) :
    WSt w0 w1 n xb pb gb fb ab mb qb lb cap vt G fr MM nn ff L hs := by
  refine ⟨h.pool.off t (k.off _ (by decide) 0), fun i hi => (h.a i hi).off t (k.off _ (by decide) _), h.b.off t (k.off _ (by decide) _), h.doc.off t (k.off _ (by decide) 0), h.hd.turn t ((k.off [60] (by decide) 0).row ⟨_, h.hd⟩ (by simp)),
    h.told.turn t (fun i c hi _ ho e => hv (by rw [← e]; exact ho)), h.old.then t (fun i hi e => by omega), h.new, h.newM, h.ne, h.newP, h.sep, fun k' q g v hk hm' => ?_, h.pv, h.each⟩
  obtain ⟨tb, e1, e2, e3⟩ := h.txt k' q g v hk hm'
  exact ⟨tb, e1, e2.turn t ((k.off [9] (by decide) 0).row ⟨_, e2⟩ (by simp)), e3⟩
theorem WS.doesI (hT : Tab w0) (hn : n ≤ 4096) : DoesI w0 xb (.pointer (some ⟨qb, 0, none⟩)) (.pointer (some ⟨pb, 0, none⟩)) (.pointer (some ⟨ab 1, 0, none⟩)) (.pointer (some ⟨ab 3, 0, none⟩)) (.pointer (some ⟨ab 2, 0, none⟩)) (fun w vt L hs => WS w0 w n xb pb gb fb ab mb qb lb cap vt L hs) where
  same := fun ⟨G, fr, MM, nn, ff, h⟩ t => ⟨G, fr, MM, nn, ff, h.same t⟩
  own := fun ⟨G, fr, MM, nn, ff, h⟩ k hv hm t => ⟨G, fr, MM, nn, ff, h.own k hv hm t⟩
  hd := fun ⟨G, fr, MM, nn, ff, h⟩ => h.hd
  told := fun ⟨G, fr, MM, nn, ff, h⟩ => h.told
  each := fun ⟨G, fr, MM, nn, ff, h⟩ p hp => ⟨Nat.lt_of_lt_of_le (h.each p hp).1 hn, (h.each p hp).2⟩
  le := fun ⟨G, fr, MM, nn, ff, h⟩ => ⟨h.doc.le, h.old.size⟩
  old := fun ⟨G, fr, MM, nn, ff, h⟩ => h.old
  gens := fun ⟨G, fr, MM, nn, ff, h⟩ q hq => (h.doc.each q hq).1
  alive := fun ⟨G, fr, MM, nn, ff, h⟩ i g s => dalive_all h.doc i g s
  get := fun ⟨G, fr, MM, nn, ff, h⟩ i g s h1 h3 hb => h.get h1 h3 s hb g
  rel := fun h i g s h1 h3 hb => WS.release h h1 h3 s hb g
  alloc := fun h i x h1 h3 => WS.alloc h hT hn h1 h3 x
  ext := fun ⟨G, fr, MM, nn, ff, h⟩ hs hg ht t => ⟨G, fr, MM, nn, ff, h.ext (by rw [← h.pv.ll]; exact hs) hg ht t⟩
  write := fun {w vt L hs} ⟨G, fr, MM, nn, ff, h⟩ i g s x h1 h3 hb => by
    cases ha : alv L i s g with
    | none => exact (h.write_no h1 h3 s hb g x ha).mono fun e w1 ⟨he, t⟩ => ⟨he, Keeps.same t, fun _ => ⟨G, fr, MM, nn, ff, h.same t⟩, (fun k q e => by cases e)⟩
    | some p =>
      obtain ⟨k, q⟩ := p
      obtain ⟨rfl, hq, hw, hg⟩ := alv_some ha
      subst hg
      refine (h.write_half h1 h3 hq hw x).mono fun e w1 ⟨he, v', pq, hh⟩ => ⟨he, ?_, (fun e => by cases e), fun k' q' e => ?_⟩
      · obtain ⟨q', e, hk⟩ := h.kindP h1 h3 hh.f_
        injection e with e; injection e with e; injection e with e
        subst e
        exact Keeps.off hh.t_ (hk.off _ (by split <;> decide) 0)
      · injection e with e
        injection e with e1 e2
        subst e1 e2
        obtain ⟨d1, x1⟩ := h.half_facts h1 h3 hh
        exact ⟨qb, lb, cap, rfl, d1, x1, fun W t => h.wrote h1 h3 hq hw (hh.same t)⟩
  look := fun ⟨G, fr, MM, nn, ff, h⟩ i g s k q _ => ⟨qb, lb, cap, rfl, h.doc⟩
end
end Go.Proofs.YtbdfbgkfhaiccaaDoor
