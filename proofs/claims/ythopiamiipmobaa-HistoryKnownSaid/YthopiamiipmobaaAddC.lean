/-
  add: the history behind an event that fits.
-/
import Derived.Test.YthopiamiipmobaaWAddB
namespace Go.Proofs.Ythopiamiipmobaa
open Go.RowKit Go.Lib
set_option linter.unusedVariables false
set_option linter.unusedSimpArgs false

/-- Behind the map's test. -/
structure Ae (w wr : World) (Z hb : Nat) (l : List Ev) (ps : List (List Wr)) (A : Option Addr) (cap : Nat) (m : Option Nat) (mb g : Nat) (c : Array Value) : Prop where
  tu : Turn (Hx hb A m) w wr
  ht : Ht wr Z hb l ps A cap (some mb)
  old : w.heap.size ≤ g
  b : At wr g (.cells c 34 (0, 0))
  ag : ablk A ≠ some g
  new : ∀ i, Hx hb A (some mb) i → Hx hb A m i ∨ w.heap.size ≤ i
theorem cells_ne {c c' : Array Value} {t t' : TypeId} {f f' : Nat × Nat} (h : t ≠ t') : Obj.cells c t f ≠ Obj.cells c' t' f' := fun e => h (by injection e)
section
variable {w wr w2 : World} {Z hb : Nat} {l : List Ev} {ps : List (List Wr)} {A : Option Addr} {cap : Nat} {m : Option Nat} {mb g : Nat} {c c' : Array Value}
theorem Ad.had (h : Ad w wr Z hb l ps A cap (some mb) g c) : Ae w wr Z hb l ps A cap (some mb) mb g c :=
  ⟨h.tu.mono fun _ _ h => h.elim, h.ht, h.old, h.b, h.ag, fun i hi => .inl hi⟩
theorem Ad.make (h : Ad w wr Z hb l ps A cap none g c) (hz : Z ≤ w.heap.size) : Ae w ((wr.alloc (.map #[] 0)).setCell ⟨hb, 1, none⟩ (.map (some wr.heap.size))) Z hb l ps A cap none wr.heap.size g c := by
  have hl : l = [] := by
    rcases h.ht.mp with ⟨_, h⟩ | ⟨b, n, hm, _⟩
    · exact h
    · cases hm
  subst hl
  obtain rfl : ps = [] := List.eq_nil_of_length_eq_zero h.ht.wss.len
  have t1 : Turn No wr (wr.alloc (.map #[] 0)) := (Turn.refl _ _).alloc _
  have t2 : Turn (· = hb) (wr.alloc (.map #[] 0)) ((wr.alloc (.map #[] 0)).setCell ⟨hb, 1, none⟩ (.map (some wr.heap.size))) := set_turn _ _ _ _
  have hlt := h.ht.at_.lt
  have hsz := h.tu.size
  have hgl := h.b.lt
  have hgne : g ≠ hb := h.b.ne h.ht.at_ (cells_ne (by decide))
  refine ⟨((h.tu.trans t1).mono fun _ _ h => h.elim).then t2 (fun i _ hi => .inl hi), ⟨?_, ?_, ?_, ?_, .nil, .nil _ _, h.ht.base⟩, h.old, (h.b.no t1).turn t2 hgne, h.ag, ?_⟩
  · have := (h.ht.at_.no t1).set 1 (.map (some wr.heap.size))
    simpa using this
  · exact own_grown (own_grown h.ht.row t1 fun _ _ h => h) t2 fun k hk e => h.ht.ab (by rw [← e, ← hk, own_ablk])
  · exact (Mp.made wr).turn t2 fun b hb' e => by injection hb' with hb'; omega
  · intro b hb'; injection hb' with hb'; omega
  · rintro i (rfl | hi | hi)
    · exact .inl (.inl rfl)
    · exact .inl (.inr (.inl hi))
    · injection hi with hi; exact .inr (by omega)
theorem Ae.turn (h : Ae w wr Z hb l ps A cap m mb g c) (t : Turn No wr w2) : Ae w w2 Z hb l ps A cap m mb g c :=
  ⟨h.tu.then t fun _ _ h => h.elim, h.ht.no t, h.old, h.b.no t, h.ag, h.new⟩
theorem Ae.gx (h : Ae w wr Z hb l ps A cap m mb g c) : ¬ Hx hb A (some mb) g := by
  rintro (e | e | e)
  · exact h.b.ne h.ht.at_ (cells_ne (by decide)) e
  · exact h.ag e
  · injection e with e
    obtain ⟨es, cl, h3⟩ := h.ht.mp.at_
    rw [e] at h3
    have := h3.eq h.b; cases this
theorem Ae.gw (h : Ae w wr Z hb l ps A cap m mb g c) : ¬ Wb l g := fun e => by
  obtain ⟨_, cur, h3⟩ := h.ht.wss.at_ e
  exact h.b.ne h3 (cells_ne (by decide)) rfl
/-- A store into the event's box. -/
theorem Ae.box (h : Ae w wr Z hb l ps A cap m mb g c) (t : Turn (· = g) wr w2) (hb2 : At w2 g (.cells c' 34 (0, 0))) : Ae w w2 Z hb l ps A cap m mb g c' :=
  ⟨h.tu.then t fun i hi e => by have := h.old; omega, h.ht.turn t (fun i hi e => h.gx (by rw [← e]; exact hi)) (fun i hi e => h.gw (by rw [← e]; exact hi)), h.old, hb2, h.ag, h.new⟩
end

/-- The event is cloned: its writes lie in a row of its own. -/
structure Af (w wr : World) (Z hb : Nat) (l : List Ev) (ps : List (List Wr)) (A : Option Addr) (cap : Nat) (m : Option Nat) (mb g : Nat) (e : Ev) (ws : List Wr) : Prop where
  ae : Ae w wr Z hb l ps A cap m mb g e.cs.toArray
  row : wr.ownsRow w.heap.size 53 3 (.slice e.op.A e.op.len e.op.cap) e.op.len (wcs ws)
  fit : e.fit ws
  z : Z ≤ w.heap.size
/-- The event is appended. -/
structure Ag (w wr : World) (Z hb : Nat) (l : List Ev) (ps : List (List Wr)) (A : Option Addr) (m : Option Nat) (mb g : Nat) (e : Ev) (ws : List Wr) (rB : Option Addr) (rd : Nat) : Prop where
  tu : Turn (Hx hb A m) w wr
  at_ : At wr hb (.cells #[.slice rB (l.length + 1) rd, .map (some mb)] 59 (0, 0))
  row : wr.ownsRow Z 34 13 (.slice rB (l.length + 1) rd) (l.length + 1) (ecs (l ++ [e]))
  mp : Mp wr (some mb) l
  mz : Z ≤ mb
  right : Right l
  wss : Wss wr Z (l ++ [e]) (ps ++ [ws])
  base : Z ≤ hb
  b : At wr g (.cells e.cs.toArray 34 (0, 0))
  new : ∀ i, Hx hb rB (some mb) i → Hx hb A m i ∨ w.heap.size ≤ i
  fresh : ∀ i, ablk e.op.A = some i → w.heap.size ≤ i
section
variable {w wr w2 : World} {Z hb : Nat} {l : List Ev} {ps : List (List Wr)} {A : Option Addr} {cap : Nat} {m : Option Nat} {mb g : Nat} {e : Ev} {ws : List Wr} {rB : Option Addr} {rd : Nat}
theorem own_from {w : World} {Z Z' : Nat} {t : TypeId} {s n : Nat} {v : Value} {xs : List Value} (h : w.ownsRow Z t s v n xs) (hz : Z' ≤ Z) : w.ownsRow Z' t s v n xs := by
  refine ⟨h.1, ?_⟩
  rcases h.2 with hn | ⟨g, cap, cur, rfl, hb, r⟩
  · exact .inl hn
  · exact .inr ⟨g, cap, cur, rfl, Nat.le_trans hz hb, r⟩
theorem Af.turn (h : Af w wr Z hb l ps A cap m mb g e ws) (t : Turn No wr w2) : Af w w2 Z hb l ps A cap m mb g e ws := ⟨h.ae.turn t, own_grown h.row t fun _ _ h => h, h.fit, h.z⟩
theorem Af.append (h : Af w wr Z hb l ps A cap m mb g e ws) (hl : l.length < 65536) :
    ∃ rB rd w5, AppRun 22 22 (.slice A l.length cap) (.slice (some ⟨wr.heap.size, 0, none⟩) 1 1) (.slice rB (l.length + 1) rd) (wr.alloc (.cells e.cs.toArray 34)) w5 ∧
      Turn No wr (wr.alloc (.cells e.cs.toArray 34)) ∧ w5.frozen? ⟨hb, 0, none⟩ = false ∧ w5.cell? ⟨hb, 0, none⟩ = some (.slice A l.length cap) ∧
      Ag w (w5.setCell ⟨hb, 0, none⟩ (.slice rB (l.length + 1) rd)) Z hb l ps A m mb g e ws rB rd := by
  have t1 : Turn No wr (wr.alloc (.cells e.cs.toArray 34)) := (Turn.refl _ _).alloc _
  have h2 := h.turn t1
  have hsz := h.ae.tu.size
  have hs2 := t1.size
  have hn := At.new wr (.cells e.cs.toArray 34)
  obtain ⟨rB, rd, w5, q, ho, ht, hB⟩ := app_gen Try.underlying22 info34 rfl (by decide) (by decide) h2.ae.ht.row ⟨wr.heap.size, 0, none⟩ 1 1 e.cs rfl
    (fun j u hj => by rw [Addr.add_lit, Nat.zero_add, hn.cell]; simpa using hj) (one_ev e) (by omega) (by have := h.z; omega) 22
  have ht' : Turn (fun i => ablk A = some i) (wr.alloc (.cells e.cs.toArray 34)) w5 := ht.mono fun k _ hk => by rwa [own_ablk] at hk
  have a5 := h2.ae.ht.at_.turn ht' h.ae.ht.ab
  have tz : Turn (· = hb) w5 (w5.setCell ⟨hb, 0, none⟩ (.slice rB (l.length + 1) rd)) := set_turn _ _ _ _
  have hlt := h.ae.ht.at_.lt
  have hbB : ablk rB = ablk A ∨ ablk rB = some (wr.alloc (.cells e.cs.toArray 34)).heap.size := by rwa [own_ablk, own_ablk] at hB
  have hnb : ablk rB ≠ some hb := by
    rcases hbB with hbB | hbB
    · rw [hbB]; exact h.ae.ht.ab
    · rw [hbB]; intro e; injection e with e; omega
  have hme := h.ae.ht.mp.at_
  obtain ⟨es, cl, hme⟩ := hme
  have hnm : ¬ mb = hb := fun e' => by rw [e'] at hme; have := hme.eq h.ae.ht.at_; cases this
  have hwb : ∀ i, Wb (l ++ [e]) i → ∃ cur, At wr i (.cells cur 53 (0, 0)) := by
    rintro i ⟨e', he', hA⟩
    rcases List.mem_append.1 he' with he' | he'
    · exact (h.ae.ht.wss.at_ ⟨e', he', hA⟩).2
    · simp at he'; subst he'
      exact (own_at h.row hA).2
  have hwA : ∀ i, Wb (l ++ [e]) i → ¬ ablk A = some i := fun i hi e' => by
    obtain ⟨cur, h3⟩ := hwb i hi
    obtain ⟨_, cur', h4⟩ := own_at h.ae.ht.row e'
    exact h3.ne h4 (cells_ne (by decide)) rfl
  have hwh : ∀ i, Wb (l ++ [e]) i → ¬ i = hb := fun i hi e' => by
    obtain ⟨cur, h3⟩ := hwb i hi
    exact h3.ne h.ae.ht.at_ (cells_ne (by decide)) e'
  refine ⟨rB, rd, w5, q, t1, a5.thawed 0, by simpa using a5.cell 0, ⟨?_, ?_, ?_, ?_, h.ae.ht.mz _ rfl, h.ae.ht.right, ?_, h.ae.ht.base, ?_, ?_, ?_⟩⟩
  · refine ((h2.ae.tu.then ht' ?_).then tz fun i hi e => .inl e)
    intro i _ hi
    exact .inr (.inl hi)
  · have := a5.set 0 (.slice rB (l.length + 1) rd)
    simpa using this
  · rw [ecs_append]
    have : ecs [e] = e.cs := by simp [ecs]
    rw [this]
    exact own_grown ho tz fun k hk e => by subst e; rw [own_ablk] at hk; exact hnb hk
  · exact (h2.ae.ht.mp.turn ht' fun b hb' => h.ae.ht.am hb').turn tz fun b hb' e' => by injection hb' with hb'; exact hnm (hb'.trans e')
  · exact ((h2.ae.ht.wss.snoc (own_from h2.row h.z) h.fit).turn ht' hwA).turn tz hwh
  · exact (h2.ae.b.turn ht' h.ae.ag).turn tz fun e' => h.ae.gx (.inl e')
  · rintro i (rfl | hi | hi)
    · exact .inl (.inl rfl)
    · rcases hbB with hbB | hbB
      · rw [hbB] at hi; exact .inl (.inr (.inl hi))
      · rw [hbB] at hi; injection hi with hi; exact .inr (by omega)
    · exact h.ae.new i (.inr (.inr hi))
  · intro i hi
    exact (own_at h.row hi).1
theorem Ag.turn (h : Ag w wr Z hb l ps A m mb g e ws rB rd) (t : Turn No wr w2) : Ag w w2 Z hb l ps A m mb g e ws rB rd :=
  ⟨h.tu.then t fun _ _ h => h.elim, h.at_.no t, own_grown h.row t fun _ _ h => h, h.mp.no t, h.mz, h.right, h.wss.turn t (fun _ _ h => h), h.base, h.b.no t, h.new, h.fresh⟩
/-- The event is noted. -/
theorem Ag.done (h : Ag w wr Z hb l ps A m mb g e ws rB rd) (hf : fits l e = true) (t : Turn (· = mb) wr w2) (hm : Mp w2 (some mb) (l ++ [e])) : Ht w2 Z hb (l ++ [e]) (ps ++ [ws]) rB rd (some mb) ∧ Turn (Hx hb A m) w w2 := by
  obtain ⟨es, cl, hme⟩ := h.mp.at_
  have n1 : ¬ hb = mb := fun e' => by rw [← e'] at hme; have := hme.eq h.at_; cases this
  have hlen : (l ++ [e]).length = l.length + 1 := by simp
  refine ⟨⟨?_, ?_, hm, fun b hb' => ?_, .snoc h.right hf, h.wss.turn t ?_, h.base⟩, h.tu.then t ?_⟩
  · rw [hlen]; exact h.at_.turn t n1
  · rw [hlen]; exact own_grown h.row t fun k hk e' => by
      subst e'
      rw [own_ablk] at hk
      obtain ⟨_, cur, h4⟩ := own_at h.row hk
      have := hme.eq h4; cases this
  · injection hb' with hb'; have := h.mz; omega
  · rintro i hi e'
    subst e'
    obtain ⟨_, cur, h4⟩ := h.wss.at_ hi
    have := hme.eq h4; cases this
  · rintro i hi rfl
    rcases h.new _ (.inr (.inr rfl)) with h | h
    · exact h
    · omega
theorem Ag.S {kind id ok : Int} {k v o : ByteArray} {had aft : Bool} {A0 : Option Addr} {len cap0 : Nat} {code : Int} {found : Bool} {ak av : ByteArray} (h : Ag w wr Z hb l ps A m mb g ⟨kind, id, ⟨ok, k, v, o, had, aft, A0, len, cap0⟩, ⟨code, found, ak, av⟩⟩ ws rB rd) : wr.cell? ⟨hb, 1, none⟩ = some (.map (some mb)) ∧ wr.cell? ⟨g, 0, none⟩ = some (.int .u8 kind) ∧ wr.cell? ⟨g, 1, none⟩ = some (.int .i64 id) ∧ wr.cell? ⟨g, 2, none⟩ = some (.int .u8 ok) ∧ wr.cell? ⟨g, 3, none⟩ = some (.string k) ∧ wr.cell? ⟨g, 4, none⟩ = some (.string v) ∧ wr.cell? ⟨g, 5, none⟩ = some (.string o) ∧ wr.cell? ⟨g, 6, none⟩ = some (.bool had) ∧ wr.cell? ⟨g, 7, none⟩ = some (.bool aft) ∧ wr.cell? ⟨g, 8, none⟩ = some (.slice A0 len cap0) ∧ wr.cell? ⟨g, 9, none⟩ = some (.int .i64 code) ∧ wr.cell? ⟨g, 10, none⟩ = some (.bool found) ∧ wr.cell? ⟨g, 11, none⟩ = some (.string ak) ∧ wr.cell? ⟨g, 12, none⟩ = some (.string av) := by
  have h1 := h.at_.cell 1
  have b0 := h.b.cell
  simp only [List.getElem?_toArray, List.getElem?_cons_zero, List.getElem?_cons_succ] at h1
  refine ⟨h1, b0 0, b0 1, b0 2, b0 3, b0 4, b0 5, b0 6, b0 7, b0 8, b0 9, b0 10, b0 11, b0 12⟩
end
end Go.Proofs.Ythopiamiipmobaa
