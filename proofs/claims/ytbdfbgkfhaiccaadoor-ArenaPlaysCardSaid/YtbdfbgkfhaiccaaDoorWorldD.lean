/-
  The law's world's calls: get, release and alloc, in both pools.
-/
import Derived.Test.YtbdfbgkfhaiccaaDoorWorldC
import Derived.Test.YtbdfbgkfhaiccaaDoorWWorldR
import Derived.Test.YtbdfbgkfhaiccaaDoorWWorldG
namespace Go.Proofs.YtbdfbgkfhaiccaaDoor
open Go.RowKit Go.Maps
set_option linter.unusedVariables false

def atxt : Option (Nat × Sl) → ByteArray
  | some p => p.2.x
  | none => ⟨#[]⟩
theorem Doc.offlb {W : World} {qb lb cap : Nat} {L : List Sl} (h : Doc W qb lb cap L) (ts : List TypeId) (h110 : 110 ∉ ts) (m : Nat) : Off W ts m (· = lb) := fun k hk => by
  obtain ⟨c, hc, _⟩ := h.row
  subst hk
  exact Or.inl ⟨110, ⟨c, hc⟩, h110⟩
theorem Kind.off {W : World} {B : Nat} {t : TypeId} (h : Kind W B t) (ts : List TypeId) (ht : t ∉ ts) (m : Nat) : Off W ts m (· = B) := fun k hk => by
  subst hk
  exact Or.inl ⟨t, h, ht⟩
section
variable {w0 wr wr' : World} {n xb pb gb fb : Nat} {ab mb : Nat → Nat} {qb lb cap : Nat} {vt : Value} {G : List Nat} {fr : Nat → Bool} {MM : Nat → Nat → Option (Nat × Value)} {nn : Nat → Nat} {ff : Nat → Int → Option Value} {L : List Sl} {hs : List (Nat × Nat)}
theorem WSt.dcell (h : WSt w0 wr n xb pb gb fb ab mb qb lb cap vt G fr MM nn ff L hs) : wr.cell? ⟨xb, 1, none⟩ = some (.pointer (some ⟨ab 1, 0, none⟩)) ∧ wr.cell? ⟨xb, 2, none⟩ = some (.pointer (some ⟨ab 3, 0, none⟩)) ∧ wr.cell? ⟨xb, 3, none⟩ = some (.pointer (some ⟨ab 2, 0, none⟩)) ∧ xb < wr.heap.size := by
  rw [h.hd.cell, h.hd.cell, h.hd.cell]
  exact ⟨rfl, rfl, rfl, h.hd.lt⟩
theorem WSt.offs3 (h : WSt w0 wr n xb pb gb fb ab mb qb lb cap vt G fr MM nn ff L hs) {i : Nat} (h1 : 1 ≤ i) (h3 : i ≤ 3) (ts : List TypeId) (h30 : 30 ∉ ts) {m : Nat} (hj : mb i ≠ m) : Off wr ts m (fun k => k = gb ∨ k = fb ∨ k = mb i) := by
  intro k hk
  obtain ⟨⟨c1, p1⟩, ⟨c2, p2⟩, _⟩ := h.pool.rows
  rcases hk with rfl | rfl | rfl
  · exact Or.inl ⟨30, ⟨c1, p1⟩, h30⟩
  · exact Or.inl ⟨30, ⟨c2, p2⟩, h30⟩
  · exact Or.inr ⟨h.isMap h1 h3, hj⟩

theorem WSt.get (h : WSt w0 wr n xb pb gb fb ab mb qb lb cap vt G fr MM nn ff L hs) {i : Nat} (h1 : 1 ≤ i) (h3 : i ≤ 3) (s : Int) (hb : -9223372036854775808 ≤ s ∧ s < 9223372036854775808) (g : Nat) :
    Calls Tryd.prog 46 #[.pointer (some ⟨xb, 0, none⟩), .int .i64 (i : Int), .agg #[.int .i64 s, .int .u64 (g : Int)]] wr fun e w' => e = .returned (.tuple #[.string (atxt (alv L i s g)), .bool (alv L i s g).isSome]) ∧ Turn (fun _ => False) wr w' := by
  obtain ⟨c1, c2, c3, lx⟩ := h.dcell
  cases ha : alv L i s g with
  | none =>
    have hd : Dead (MM i) s g := h.pv.dead h1 h3 ha
    rcases (show i = 1 ∨ i = 2 ∨ i = 3 by omega) with rfl | rfl | rfl
    · exact wget_1_no c1 lx s g (fun W t => agetS_no ((h.a 1 (Or.inl rfl)).same t) s g hb hd)
    · exact wget_2_no c3 lx s g (fun W t => agetT_no (h.b.same t) s g hb hd)
    · exact wget_3_no c2 lx s g (fun W t => agetS_no ((h.a 3 (Or.inr rfl)).same t) s g hb hd)
  | some p =>
    obtain ⟨x, q⟩ := p
    obtain ⟨rfl, hq, hw, hg⟩ := alv_some ha
    subst hg
    obtain ⟨v, hM, hv⟩ := h.pv.alive h1 h3 hq hw
    rcases (show i = 1 ∨ i = 2 ∨ i = 3 by omega) with rfl | rfl | rfl
    · obtain ⟨pq, hf, hA⟩ := (h.a 1 (Or.inl rfl)).place hM
      obtain rfl := hv (by omega)
      exact wget_1_yes c1 lx x q.g pq q.x (by rw [hA.cell]; rfl) hA.lt (fun W t => getS_F ((h.a 1 (Or.inl rfl)).same t) x q.g pq _ (by omega) hf (hA.turn t (fun h => h)))
    · obtain ⟨pq, hf, hA⟩ := h.b.place hM
      obtain ⟨tb, rfl, htx, _⟩ := h.txt x q _ v hq hM
      exact wget_2_yes c3 lx x q.g pq tb q.x (by rw [hA.cell]; rfl) hA.lt (by rw [htx.cell]; rfl) htx.lt (fun W t => getT_F (h.b.same t) x q.g pq _ (by omega) hf (hA.turn t (fun h => h)))
    · obtain ⟨pq, hf, hA⟩ := (h.a 3 (Or.inr rfl)).place hM
      obtain rfl := hv (by omega)
      exact wget_3_yes c2 lx x q.g pq q.x (by rw [hA.cell]; rfl) hA.lt (fun W t => getS_F ((h.a 3 (Or.inr rfl)).same t) x q.g pq _ (by omega) hf (hA.turn t (fun h => h)))

theorem WSt.rel_no (h : WSt w0 wr n xb pb gb fb ab mb qb lb cap vt G fr MM nn ff L hs) {i : Nat} (h1 : 1 ≤ i) (h3 : i ≤ 3) (s : Int) (hb : -9223372036854775808 ≤ s ∧ s < 9223372036854775808) (g : Nat) (ha : alv L i s g = none) :
    Calls Tryd.prog 43 #[.pointer (some ⟨xb, 0, none⟩), .int .i64 (i : Int), .agg #[.int .i64 s, .int .u64 (g : Int)]] wr fun e w' => e = .returned (.bool false) ∧ Turn (fun _ => False) wr w' := by
  obtain ⟨c1, c2, c3, lx⟩ := h.dcell
  have hd : Dead (MM i) s g := h.pv.dead h1 h3 ha
  rcases (show i = 1 ∨ i = 2 ∨ i = 3 by omega) with rfl | rfl | rfl
  · exact (wrelease_1 c1 lx s g false (Q := Turn (fun _ => False)) (fun W t => arelS_no ((h.a 1 (Or.inl rfl)).same t) s g hb hd)).mono fun e w' ⟨he, W, t1, t2⟩ => ⟨he, t1.trans t2⟩
  · exact (wrelease_2 c3 lx s g false (Q := Turn (fun _ => False)) (fun W t => arelT_no (h.b.same t) s g hb hd)).mono fun e w' ⟨he, W, t1, t2⟩ => ⟨he, t1.trans t2⟩
  · exact (wrelease_3 c2 lx s g false (Q := Turn (fun _ => False)) (fun W t => arelS_no ((h.a 3 (Or.inr rfl)).same t) s g hb hd)).mono fun e w' ⟨he, W, t1, t2⟩ => ⟨he, t1.trans t2⟩

/-- Behind the arena's part of a change: pool and arena have turned. -/
structure Half (wr w1 : World) (pb gb fb a m : Nat) (two : Prop) (G : List Nat) (fr : Nat → Bool) (M : Nat → Option (Nat × Value)) (k : Nat) (f : Int → Option Value) : Prop where
  pool : Pool w1 pb gb fb G fr
  a_ : ¬ two → ArF 89 97 w1 a m (.pointer (some ⟨pb, 0, none⟩)) M k f
  b_ : two → ArF 113 134 w1 a m (.pointer (some ⟨pb, 0, none⟩)) M k f
  t_ : Turn (fun k => k = gb ∨ k = fb ∨ k = m) wr w1
theorem Half.same {wr w1 W : World} {pb gb fb a m : Nat} {two : Prop} {G : List Nat} {fr : Nat → Bool} {M : Nat → Option (Nat × Value)} {k : Nat} {f : Int → Option Value} (h : Half wr w1 pb gb fb a m two G fr M k f) (t : Turn (fun _ => False) w1 W) : Half wr W pb gb fb a m two G fr M k f :=
  ⟨h.pool.turn t (fun h => h) (fun h => h) (fun h => h), fun e => (h.a_ e).same t, fun e => (h.b_ e).same t, h.t_.trans (t.mono fun _ _ h => h.elim)⟩
theorem Half.doc_ {wr w1 w2 : World} {pb gb fb a m qb lb cap : Nat} {two : Prop} {G : List Nat} {fr : Nat → Bool} {M : Nat → Option (Nat × Value)} {k : Nat} {f : Int → Option Value} {L : List Sl} (h : Half wr w1 pb gb fb a m two G fr M k f) (hd : Doc w1 qb lb cap L) (t : Turn (· = lb) w1 w2) :
    Pool w2 pb gb fb G fr ∧ (¬ two → ArF 89 97 w2 a m (.pointer (some ⟨pb, 0, none⟩)) M k f) ∧ (two → ArF 113 134 w2 a m (.pointer (some ⟨pb, 0, none⟩)) M k f) ∧ Turn (fun k => k = gb ∨ k = fb ∨ k = m ∨ k = lb) wr w2 :=
  ⟨h.pool.off t (hd.offlb _ (by decide) 0), fun e => (h.a_ e).off t (hd.offlb _ (by decide) m), fun e => (h.b_ e).off t (hd.offlb _ (by decide) m),
    (h.t_.mono fun k _ hk => by rcases hk with e | e | e <;> simp [e]).trans (t.mono fun k _ hk => Or.inr (Or.inr (Or.inr hk)))⟩
theorem WSt.half_doc (h : WSt w0 wr n xb pb gb fb ab mb qb lb cap vt G fr MM nn ff L hs) {i : Nat} (h1 : 1 ≤ i) (h3 : i ≤ 3) {w1 : World} (t : Turn (fun k => k = gb ∨ k = fb ∨ k = mb i) wr w1) : Doc w1 qb lb cap L :=
  h.doc.off t (h.offs3 h1 h3 _ (by decide) (m := mb i + 1) (by omega))

theorem WSt.rel_half (h : WSt w0 wr n xb pb gb fb ab mb qb lb cap vt G fr MM nn ff L hs) {i : Nat} (h1 : 1 ≤ i) (h3 : i ≤ 3) {x : Nat} {q : Sl} (hq : L[x]? = some q) (hw : q.who = i) :
    Calls Tryd.prog 43 #[.pointer (some ⟨xb, 0, none⟩), .int .i64 (i : Int), .agg #[.int .i64 (x : Int), .int .u64 (q.g : Int)]] wr fun e w1 => e = .returned (.bool true) ∧
      Half wr w1 pb gb fb (ab i) (mb i) (i = 2) (G.set x ((G.getD x 0 + 1) % 18446744073709551616)) (fun y => fr y || y == x) (updM (MM i) x none) (nn i - 1) (del (ff i) (x : Int)) := by
  obtain ⟨c1, c2, c3, lx⟩ := h.dcell
  obtain ⟨v, hM, hv⟩ := h.pv.alive h1 h3 hq hw
  have hx : x < G.length := by rw [h.pv.gl, ← h.pv.ll]; exact (List.getElem?_eq_some_iff.1 hq).1
  have hpool : ∀ W, Turn (fun _ => False) wr W → Pool W pb gb fb G fr := fun W t => h.pool.turn t (fun h => h) (fun h => h) (fun h => h)
  rcases (show i = 1 ∨ i = 2 ∨ i = 3 by omega) with e | e | e <;> subst e
  · exact (wrelease_1 c1 lx x q.g true (Q := fun W w' => Pool w' pb gb fb (G.set x ((G.getD x 0 + 1) % 18446744073709551616)) (fun y => fr y || y == x) ∧ ArF 89 97 w' (ab 1) (mb 1) (.pointer (some ⟨pb, 0, none⟩)) (updM (MM 1) x none) (nn 1 - 1) (del (ff 1) (x : Int)) ∧ Turn (fun i => i = gb ∨ i = fb ∨ i = mb 1) W w')
      (fun W t => relS_F ((h.a 1 (Or.inl rfl)).same t) (hpool W t) x q.g v hx hM)).mono fun e w' ⟨he, W, t1, p1, p2, t2⟩ => ⟨he, p1, fun _ => p2, fun e => by omega, (t1.mono fun _ _ h => h.elim).trans t2⟩
  · exact (wrelease_2 c3 lx x q.g true (Q := fun W w' => Pool w' pb gb fb (G.set x ((G.getD x 0 + 1) % 18446744073709551616)) (fun y => fr y || y == x) ∧ ArF 113 134 w' (ab 2) (mb 2) (.pointer (some ⟨pb, 0, none⟩)) (updM (MM 2) x none) (nn 2 - 1) (del (ff 2) (x : Int)) ∧ Turn (fun i => i = gb ∨ i = fb ∨ i = mb 2) W w')
      (fun W t => relT_F (h.b.same t) (hpool W t) x q.g v hx hM)).mono fun e w' ⟨he, W, t1, p1, p2, t2⟩ => ⟨he, p1, fun e => absurd rfl e, fun _ => p2, (t1.mono fun _ _ h => h.elim).trans t2⟩
  · exact (wrelease_3 c2 lx x q.g true (Q := fun W w' => Pool w' pb gb fb (G.set x ((G.getD x 0 + 1) % 18446744073709551616)) (fun y => fr y || y == x) ∧ ArF 89 97 w' (ab 3) (mb 3) (.pointer (some ⟨pb, 0, none⟩)) (updM (MM 3) x none) (nn 3 - 1) (del (ff 3) (x : Int)) ∧ Turn (fun i => i = gb ∨ i = fb ∨ i = mb 3) W w')
      (fun W t => relS_F ((h.a 3 (Or.inr rfl)).same t) (hpool W t) x q.g v hx hM)).mono fun e w' ⟨he, W, t1, p1, p2, t2⟩ => ⟨he, p1, fun _ => p2, fun e => by omega, (t1.mono fun _ _ h => h.elim).trans t2⟩

/-- Some state of the law's world with these slots and these handles told. -/
def WS (w0 wr : World) (n xb pb gb fb : Nat) (ab mb : Nat → Nat) (qb lb cap : Nat) (vt : Value) (L : List Sl) (hs : List (Nat × Nat)) : Prop := ∃ G fr MM nn ff, WSt w0 wr n xb pb gb fb ab mb qb lb cap vt G fr MM nn ff L hs
/-- The slots behind a release. -/
def relL (L : List Sl) (i : Nat) (s : Int) (g : Nat) : List Sl := match alv L i s g with | some p => L.set p.1 ⟨(p.2.g + 1) % 18446744073709551616, 0, ⟨#[]⟩⟩ | none => L
theorem WS.release (h : WS w0 wr n xb pb gb fb ab mb qb lb cap vt L hs) {i : Nat} (h1 : 1 ≤ i) (h3 : i ≤ 3) (s : Int) (hb : -9223372036854775808 ≤ s ∧ s < 9223372036854775808) (g : Nat) :
    Calls Tryd.prog 43 #[.pointer (some ⟨xb, 0, none⟩), .int .i64 (i : Int), .agg #[.int .i64 s, .int .u64 (g : Int)]] wr fun e w1 => e = .returned (.bool (alv L i s g).isSome) ∧ w1.cell? ⟨xb, 4, none⟩ = some (.pointer (some ⟨qb, 0, none⟩)) ∧ xb < w1.heap.size ∧ Keeps wr w1 ∧
      ∀ W, Turn (fun _ => False) w1 W → Calls Tryd.prog 44 #[.pointer (some ⟨qb, 0, none⟩), .int .i64 (i : Int), .agg #[.int .i64 s, .int .u64 (g : Int)]] W fun e w2 => e = .returned (.bool (alv L i s g).isSome) ∧ Keeps W w2 ∧ WS w0 w2 n xb pb gb fb ab mb qb lb cap vt (relL L i s g) hs := by
  obtain ⟨G, fr, MM, nn, ff, h⟩ := h
  unfold relL
  cases ha : alv L i s g with
  | none =>
    refine (h.rel_no h1 h3 s hb g ha).mono fun e w1 ⟨he, t1⟩ => ⟨he, by rw [(h.same t1).hd.cell]; rfl, (h.same t1).hd.lt, Keeps.same t1, fun W t => ?_⟩
    refine (drel_no i s g (fun W' t' => ?_)).mono fun e w2 ⟨he2, t2⟩ => ⟨he2, Keeps.same t2, G, fr, MM, nn, ff, (h.same (t1.trans t)).same t2⟩
    have := dalive_all (((h.same (t1.trans t)).same t').doc) i g s
    rwa [ha] at this
  | some p =>
    obtain ⟨x, q⟩ := p
    obtain ⟨rfl, hq, hw, hg⟩ := alv_some ha
    subst hg
    refine (h.rel_half h1 h3 hq hw).mono fun e w1 ⟨he, hh⟩ => ⟨he, ?_, ?_, Keeps.off hh.t_ (h.offs3 h1 h3 _ (by decide) (m := mb i + 1) (by omega)), fun W t => ?_⟩
    · rw [(h.hd.turn hh.t_ ((h.offs3 h1 h3 [60] (by decide) (m := mb i + 1) (by omega)).row ⟨_, h.hd⟩ (by simp))).cell]; rfl
    · exact (h.hd.turn hh.t_ ((h.offs3 h1 h3 [60] (by decide) (m := mb i + 1) (by omega)).row ⟨_, h.hd⟩ (by simp))).lt
    · have hh' := hh.same t
      have hd := h.half_doc h1 h3 hh'.t_
      refine (drel_yes hd i q.g x q hq hw rfl).mono fun e w2 ⟨he2, hd2, t2⟩ => ⟨he2, Keeps.off t2 (hd.offlb _ (by decide) 0), ?_⟩
      obtain ⟨p1, p2, p3, p4⟩ := hh'.doc_ hd t2
      exact ⟨_, _, _, _, _, h.deleted hq h1 h3 hw p1 p2 p3 hd2 p4⟩
end
end Go.Proofs.YtbdfbgkfhaiccaaDoor
